/- links.Check: its number alone. -/
import Derived.Test.YtgdncnalahdjeaaL20
namespace Go.Proofs.Ytgdncnalahdjeaa
open Go Go.RowKit

set_option maxRecDepth 100000 in
set_option maxHeartbeats 1600000 in
theorem check_no (n : Nat) (d : VD) (m : Nat) (a : AD) (N : Nat) (p : Option Addr) (cv : Nat) (q : Option Addr) (ca : Nat) (s : Option Addr) (cs : Nat) (w : World) (hd : VertsIn w p n d) (ha : AtomsIn w q m a) (hn : n ≤ 9223372036854775807) (hm : m ≤ 1000000) (hmay : mayB n d m a = false) :
    Calls Try.prog 37 #[.slice p n cv, .slice q m ca, .slice s N cs] w fun e w' => e = .returned (.tuple #[.slice none 0 0, .int .i64 2]) ∧ Below w.heap.size w w' := by
  have HM := linksMay_any p n cv d q m ca a w hd hn ha (by omega)
  rw [hmay] at HM
  clear hd ha hmay
  go_enter Try.func37, Try.ntmps37
  go_wp2_with fail
  refine HM.mono ?_
  rintro e w1 ⟨rfl, hb⟩
  have HB := Lib.hid hb
  clear HM hb
  go_wp2_with fail
  exact bodyPost_ret (v := .tuple #[.slice none 0 0, .int .i64 2]) (by simp [results, Try.results37, go_sem]) rfl ⟨rfl, HB.out⟩
/-- the answer's number. -/
def ErrOf (n : Nat) (d : VD) (m : Nat) (a : AD) (ld : LD) (N : Nat) (er : Int) : Prop := (er = 0 → mayB n d m a = true ∧ ClosesAll n d m a ld N) ∧ (mayB n d m a = true → ¬ ClosesAll n d m a ld N → er = 5)
theorem check_err (n : Nat) (d : VD) (m : Nat) (a : AD) (ld : LD) (N : Nat) (p : Option Addr) (cv : Nat) (q : Option Addr) (ca : Nat) (s : Option Addr) (cs : Nat) (w : World) (hd : VertsIn w p n d) (ha : AtomsIn w q m a) (hl : LinksIn w s N ld) (hn : n ≤ 9223372036854775807) (hm : m ≤ 1000000) (hN : N ≤ 20000) (hT : ∀ i, i < N → -9223372036854775808 ≤ ld.T i ∧ ld.T i ≤ 9223372036854775807) :
    Calls Try.prog 37 #[.slice p n cv, .slice q m ca, .slice s N cs] w fun e w' => (∃ r k c er, e = .returned (.tuple #[.slice r k c, .int .i64 er]) ∧ ErrOf n d m a ld N er) ∧ Below w.heap.size w w' := by
  cases hmay : mayB n d m a with
  | false =>
    refine (check_no n d m a N p cv q ca s cs w hd ha hn hm hmay).mono ?_
    rintro e w1 ⟨rfl, hb⟩
    exact ⟨⟨none, 0, 0, 2, rfl, fun h => by omega, fun h => by rw [hmay] at h; cases h⟩, hb⟩
  | true =>
    obtain ⟨k, Z, er, _, h0, h2, hN2, _⟩ := normal_same (litsOf n d m a ld N).length (fun i => (litsOf n d m a ld N).getD i 0) (by have := litsOf_len n d m a ld N; omega)
    refine (check_run n d m a ld N p cv q ca s cs k Z er w hd ha hl hm hN hT hmay hN2).mono ?_
    rintro e w1 ⟨hres, hb⟩
    refine ⟨?_, hb⟩
    rcases hres with ⟨hc, rfl⟩ | ⟨hc, _, rfl⟩ | ⟨hc, _, p5, c5, rfl, _⟩
    · exact ⟨none, 0, 0, 5, rfl, fun h => by omega, fun _ _ => rfl⟩
    · exact ⟨none, 0, 0, 3, rfl, fun h => by omega, fun _ h => absurd hc h⟩
    · exact ⟨p5, k, c5, er, rfl, fun _ => ⟨hmay, hc⟩, fun _ h => absurd hc h⟩
theorem okAt_kind {n : Nat} {d : VD} {m : Nat} {a : AD} {ld : LD} {k : Nat} (h : okAt n d m a ld k = true) : ld.K k = 1 ∨ ld.K k = 2 ∨ ld.K k = 3 ∨ ld.K k = 4 ∨ ld.K k = 5 := by
  unfold okAt conclL at h
  by_cases k1 : ld.K k = 1
  · exact .inl k1
  by_cases k2 : ld.K k = 2
  · exact .inr (.inl k2)
  by_cases k3 : ld.K k = 3
  · exact .inr (.inr (.inl k3))
  by_cases k4 : ld.K k = 4
  · exact .inr (.inr (.inr (.inl k4)))
  by_cases k5 : ld.K k = 5
  · exact .inr (.inr (.inr (.inr k5)))
  simp [k1, k2, k3, k4, k5] at h
theorem closeL_kind {m : Nat} {a : AD} {ts : List (Int × Int)} {K T I : Int} (h : closeL m a ts K T I = true) : K = 6 ∨ K = 7 := by
  unfold closeL at h
  by_cases k7 : K = 7
  · exact .inr k7
  by_cases k6 : K = 6
  · exact .inl k6
  simp [k6, k7] at h
/-- cut short, it is refused. -/
theorem cut_short {n : Nat} {d : VD} {m : Nat} {a : AD} {ld : LD} {N : Nat} (h : ClosesAll n d m a ld N) : ¬ ClosesAll n d m a ld (N - 1) := by
  intro h1
  have k1 := okAt_kind (h.2.1 (N - 1 - 1) (by have := h1.1; omega))
  have k2 := closeL_kind h1.2.2
  omega
/-- with one more, it is refused. -/
theorem cut_long {n : Nat} {d : VD} {m : Nat} {a : AD} {ld ld' : LD} {N : Nat} (h : ClosesAll n d m a ld N) (hk : ld'.K (N - 1) = ld.K (N - 1)) : ¬ ClosesAll n d m a ld' (N + 1) := by
  intro h1
  have k1 := okAt_kind (h1.2.1 (N - 1) (by have := h.1; omega))
  have k2 := closeL_kind h.2.2
  omega
theorem LinksIn.pre {W : World} {s : Option Addr} {N : Nat} {ld : LD} (h : LinksIn W s N ld) {k : Nat} (hk : k ≤ N) : LinksIn W s k ld := fun h0 => by
  obtain ⟨b, off, e, g⟩ := h (by omega)
  exact ⟨b, off, e, ⟨fun i hi => g.k i (by omega), fun i hi => g.t i (by omega), fun i hi => g.a i (by omega), fun i hi => g.bb i (by omega), fun i hi => g.i i (by omega), fun i hi => g.j i (by omega), fun i hi => g.p i (by omega), fun i hi => g.v i (by omega)⟩⟩
/-- links with one more. -/
def snoc (ld : LD) (N : Nat) (K T A B I J : Int) (P : Option Addr) (L C : Nat) (V : Nat → Int) : LD :=
  ⟨fun i => if i < N then ld.K i else K, fun i => if i < N then ld.T i else T, fun i => if i < N then ld.A i else A, fun i => if i < N then ld.B i else B, fun i => if i < N then ld.I i else I, fun i => if i < N then ld.J i else J, fun i => if i < N then ld.P i else P, fun i => if i < N then ld.L i else L, fun i => if i < N then ld.C i else C, fun i => if i < N then ld.V i else V⟩
/-- a link's cells. -/
def cells7 (ld : LD) (i : Nat) : List Value := [.int .u8 (ld.K i), .int .i64 (ld.T i), .int .i64 (ld.A i), .int .i64 (ld.B i), .int .i64 (ld.I i), .int .i64 (ld.J i), .slice (ld.P i) (ld.L i) (ld.C i)]
def flat7 (ld : LD) : Nat → List Value
  | 0 => []
  | N + 1 => flat7 ld N ++ cells7 ld N
theorem flat7_len (ld : LD) : ∀ N, (flat7 ld N).length = N * 7
  | 0 => rfl
  | N + 1 => by show (flat7 ld N ++ cells7 ld N).length = _; rw [List.length_append, flat7_len ld N]; show N * 7 + 7 = _; omega
theorem flat7_get (ld : LD) : ∀ (N i j : Nat) (_ : i < N) (_ : j < 7), (flat7 ld N)[i * 7 + j]? = (cells7 ld i)[j]?
  | 0, i, j, hi, _ => by omega
  | N + 1, i, j, hi, hj => by
    show (flat7 ld N ++ cells7 ld N)[i * 7 + j]? = _
    by_cases h : i < N
    · rw [List.getElem?_append_left (by rw [flat7_len]; omega)]
      exact flat7_get ld N i j h hj
    · obtain rfl : i = N := by omega
      rw [List.getElem?_append_right (by rw [flat7_len]; omega), flat7_len]
      congr 1
      omega
theorem flat7_one (ld : LD) : ∀ (N : Nat) (u : Value), u ∈ flat7 ld N → u.oneCell' = true
  | 0, u, h => by cases h
  | N + 1, u, h => by
    rcases List.mem_append.1 h with h | h
    · exact flat7_one ld N u h
    · simp only [cells7, List.mem_cons, List.mem_nil_iff, or_false] at h
      rcases h with rfl | rfl | rfl | rfl | rfl | rfl | rfl <;> rfl
theorem flat7_at {W : World} {b off N : Nat} {ld : LD} (h : LinksAt W b off N ld) (j : Nat) (u : Value) (hu : (flat7 ld N)[j]? = some u) : W.cell? ⟨b, off + j, none⟩ = some u := by
  have hj : j < N * 7 := by
    have := List.getElem?_eq_some_iff.1 hu
    obtain ⟨h1, _⟩ := this
    rw [flat7_len] at h1
    exact h1
  have hd : j / 7 * 7 + j % 7 = j := by omega
  have hi : j / 7 < N := by omega
  have hr : j % 7 < 7 := by omega
  rw [← hd, flat7_get ld N (j / 7) (j % 7) hi hr] at hu
  rw [← hd, ← Nat.add_assoc]
  generalize j / 7 = i at *
  generalize j % 7 = r at *
  match r, hr with
  | 0, _ => cases hu; exact h.k i hi
  | 1, _ => cases hu; exact h.t i hi
  | 2, _ => cases hu; exact h.a i hi
  | 3, _ => cases hu; exact h.bb i hi
  | 4, _ => cases hu; exact h.i i hi
  | 5, _ => cases hu; exact h.j i hi
  | 6, _ => cases hu; exact h.p i hi
theorem flat7_snoc (ld : LD) (N : Nat) (K T A B I J : Int) (P : Option Addr) (L C : Nat) (V : Nat → Int) : flat7 (snoc ld N K T A B I J P L C V) (N + 1) = flat7 ld N ++ [.int .u8 K, .int .i64 T, .int .i64 A, .int .i64 B, .int .i64 I, .int .i64 J, .slice P L C] := by
  have h : ∀ k, k ≤ N → flat7 (snoc ld N K T A B I J P L C V) k = flat7 ld k := by
    intro k
    induction k with
    | zero => intro _; rfl
    | succ k ih =>
      intro hk
      show flat7 (snoc ld N K T A B I J P L C V) k ++ cells7 (snoc ld N K T A B I J P L C V) k = flat7 ld k ++ cells7 ld k
      rw [ih (by omega)]
      simp [cells7, snoc, show k < N by omega]
  show flat7 (snoc ld N K T A B I J P L C V) N ++ cells7 (snoc ld N K T A B I J P L C V) N = _
  rw [h N (Nat.le_refl _)]
  simp [cells7, snoc]
/-- a row of the call's own that holds links. -/
theorem own_links {W : World} {base : Nat} {v : Value} {N : Nat} {ld : LD} (h : W.ownsRow base 57 7 v N (flat7 ld N)) (hv : ∀ i, i < N → LitsIn W (ld.P i) (ld.L i) (ld.V i) ∧ ld.L i ≤ 9223372036854775807) :
    ∃ (p : Option Addr) (c : Nat), v = .slice p N c ∧ LinksIn W p N ld := by
  rcases h.2 with ⟨rfl, rfl⟩ | ⟨g, cap, cur, rfl, hg, hh, hc, hm, hcs, ht⟩
  · exact ⟨none, 0, rfl, fun h => by omega⟩
  · refine ⟨_, _, rfl, fun h0 => ⟨g, 0, rfl, ?_⟩⟩
    have hv' : (Value.slice (some ⟨g, 0, none⟩) N cap) ≠ .slice none 0 0 := by simp
    obtain ⟨b', c', he, _, hcell⟩ := own_cells h hv'
    cases he
    refine ⟨fun i hi => ?_, fun i hi => ?_, fun i hi => ?_, fun i hi => ?_, fun i hi => ?_, fun i hi => ?_, fun i hi => ?_, hv⟩
    · rw [Nat.zero_add]; exact hcell (i * 7) _ (by rw [← Nat.add_zero (i * 7), flat7_get ld N i 0 hi (by omega)]; rfl)
    · rw [Nat.zero_add]; exact hcell (i * 7 + 1) _ (by rw [flat7_get ld N i 1 hi (by omega)]; rfl)
    · rw [Nat.zero_add]; exact hcell (i * 7 + 2) _ (by rw [flat7_get ld N i 2 hi (by omega)]; rfl)
    · rw [Nat.zero_add]; exact hcell (i * 7 + 3) _ (by rw [flat7_get ld N i 3 hi (by omega)]; rfl)
    · rw [Nat.zero_add]; exact hcell (i * 7 + 4) _ (by rw [flat7_get ld N i 4 hi (by omega)]; rfl)
    · rw [Nat.zero_add]; exact hcell (i * 7 + 5) _ (by rw [flat7_get ld N i 5 hi (by omega)]; rfl)
    · rw [Nat.zero_add]; exact hcell (i * 7 + 6) _ (by rw [flat7_get ld N i 6 hi (by omega)]; rfl)
theorem info57 : ∃ i0, Try.prog.info? 57 = some i0 ∧ i0.zero = some (.agg #[.int .u8 0, .int .i64 0, .int .i64 0, .int .i64 0, .int .i64 0, .int .i64 0, .slice none 0 0]) ∧ i0.size = 7 ∧ i0.bytes = 72 := by
  have h : (Try.prog.info? 57).map (fun i => (i.zero, i.size, i.bytes)) = some (some (.agg #[.int .u8 0, .int .i64 0, .int .i64 0, .int .i64 0, .int .i64 0, .int .i64 0, .slice none 0 0]), 7, 72) := by kernel_rfl
  obtain ⟨i, hi, hb⟩ := Option.map_eq_some_iff.1 h
  simp only [Prod.mk.injEq] at hb
  exact ⟨i, hi, hb.1, hb.2.1, hb.2.2⟩
end Go.Proofs.Ytgdncnalahdjeaa
