/- Rows of vertices and atoms put behind each other. -/
import Derived.Test.YtgdncnalahdjeaaL23
import Derived.Laws.AppendOwnNone
namespace Go.Proofs.Ytgdncnalahdjeaa
open Go Go.RowKit

/-- an append of a slice, nil or not, to a row of the call's own. -/
theorem wpList_append_any {P : Program} {w : World} {ops : Array Oper} {rest : List Oper} {o : Oper} {a : Act} {Q : Exit → Act → World → Prop} (hgd : o.guard = none) (s x : Operand) (t : TypeId)
    (ho : o.op = .call { callee := .builtin .append, args := #[s, x], argTypes := #[t, t] })
    (base : Nat) (e : TypeId) (i : TypeInfo) (z : Value) (size bytes : Nat) (ht : P.underlying t = some (.slice e)) (hi : P.info? e = some i) (hz : i.zero = some z)
    (hsize : i.size = size) (hby : i.bytes = bytes) (hzs : z.cells.size = size) (hsz : 0 < size)
    (v : Value) (n : Nat) (xs : List Value) (hs : a.eval s = v) (hown : w.ownsRow base e size v n xs)
    (p : Option Addr) (m c : Nat) (news : List Value) (hx : a.eval x = .slice p m c) (hp : p = none → m = 0 ∧ c = 0) (hl : news.length = m * size) (hnews : ∀ ad, p = some ad → ∀ j u, news[j]? = some u → w.cell? (ad.add j) = some u) (h1 : ∀ u ∈ news, u.oneCell' = true)
    (h63 : n + m ≤ maxLen) (hbytes : (n + m) * bytes ≤ 140737488355328) (hbase : base ≤ w.heap.size)
    (h : ∀ v' w', w'.ownsRow base e size v' (n + m) (xs ++ news) → Below base w w' → wpList P ops Q rest (a.put o.dst v') w') :
    wpList P ops Q (o :: rest) a w := by
  cases p with
  | none =>
    obtain ⟨rfl, rfl⟩ := hp rfl
    have hn : news = [] := by
      rw [Nat.zero_mul] at hl
      exact List.length_eq_zero_iff.1 hl
    subst hn
    exact wpList_append_own_none hgd s x t ho base e i size ht hi v n xs hs hown hx (h v w (by simpa using hown) (Below.refl _ _))
  | some ad =>
    exact wpList_append_own_at w hgd s x t ho base e i z size bytes ht hi hz hsize hby hzs hsz v n xs hs hown ad m c news hx hl (hnews ad rfl) h1 h63 hbytes hbase
      (fun v' w' ho' hg _ _ => h v' w' ho' ((Below.refl base w).grown hg hbase (fun k hk => (World.ownsRow.lt hown k hk).1)))
theorem own_empty84 (w : World) : (w.alloc (.cells #[] 84)).ownsRow w.heap.size 84 5 (.slice (some ⟨w.heap.size, 0, none⟩) 0 0) 0 [] := by
  simpa using World.ownsRow_made (e := 84) (size := 5) w #[] 0 (Nat.le_refl _) (by show 0 ≤ _; omega) rfl
theorem own_empty99 (w : World) : (w.alloc (.cells #[] 99)).ownsRow w.heap.size 99 4 (.slice (some ⟨w.heap.size, 0, none⟩) 0 0) 0 [] := by
  simpa using World.ownsRow_made (e := 99) (size := 4) w #[] 0 (Nat.le_refl _) (by show 0 ≤ _; omega) rfl
theorem info84 : ∃ i0, Try.prog.info? 84 = some i0 ∧ i0.zero = some (.agg #[.int .i64 0, .slice none 0 0, .int .i64 0, .int .i64 0, .int .i64 0]) ∧ i0.size = 5 ∧ i0.bytes = 56 := by
  have h : (Try.prog.info? 84).map (fun i => (i.zero, i.size, i.bytes)) = some (some (.agg #[.int .i64 0, .slice none 0 0, .int .i64 0, .int .i64 0, .int .i64 0]), 5, 56) := by kernel_rfl
  obtain ⟨i, hi, hb⟩ := Option.map_eq_some_iff.1 h
  simp only [Prod.mk.injEq] at hb
  exact ⟨i, hi, hb.1, hb.2.1, hb.2.2⟩
theorem info99 : ∃ i0, Try.prog.info? 99 = some i0 ∧ i0.zero = some (.agg #[.int .u8 0, .int .i64 0, .int .i64 0, .int .i64 0]) ∧ i0.size = 4 ∧ i0.bytes = 32 := by
  have h : (Try.prog.info? 99).map (fun i => (i.zero, i.size, i.bytes)) = some (some (.agg #[.int .u8 0, .int .i64 0, .int .i64 0, .int .i64 0]), 4, 32) := by kernel_rfl
  obtain ⟨i, hi, hb⟩ := Option.map_eq_some_iff.1 h
  simp only [Prod.mk.injEq] at hb
  exact ⟨i, hi, hb.1, hb.2.1, hb.2.2⟩
theorem cells5_one (d : VD) : ∀ i, ∀ u ∈ cells5 d i, u.oneCell' = true := by
  intro i u h
  simp only [cells5, List.mem_cons, List.mem_nil_iff, or_false] at h
  rcases h with rfl | rfl | rfl | rfl | rfl <;> rfl
theorem cells4_one (a : AD) : ∀ i, ∀ u ∈ cells4 a i, u.oneCell' = true := by
  intro i u h
  simp only [cells4, List.mem_cons, List.mem_nil_iff, or_false] at h
  rcases h with rfl | rfl | rfl | rfl <;> rfl
theorem verts_cells {W : World} {p : Option Addr} {n : Nat} {d : VD} (h : VertsIn W p n d) : ∀ ad, p = some ad → ∀ j u, (flatN (cells5 d) n)[j]? = some u → W.cell? (ad.add j) = some u := by
  intro ad hp j u hu
  have hj : j < n * 5 := by
    obtain ⟨h1, _⟩ := List.getElem?_eq_some_iff.1 hu
    rw [flatN_len (cells5 d) 5 (fun _ => rfl)] at h1
    exact h1
  obtain ⟨b, off, e, g⟩ := h (by omega)
  rw [e] at hp
  cases hp
  have hd : j / 5 * 5 + j % 5 = j := by omega
  have hi : j / 5 < n := by omega
  have hr : j % 5 < 5 := by omega
  rw [← hd, flatN_get (cells5 d) 5 (fun _ => rfl) n (j / 5) (j % 5) hi hr] at hu
  rw [Lib.add_plain, ← hd, ← Nat.add_assoc]
  generalize j / 5 = i at *
  generalize j % 5 = r at *
  match r, hr with
  | 0, _ => cases hu; exact g.f i hi
  | 1, _ => cases hu; exact g.p i hi
  | 2, _ => cases hu; obtain ⟨k, h1, rfl⟩ := g.s i hi; exact h1
  | 3, _ => cases hu; exact g.x i hi
  | 4, _ => cases hu; exact g.o i hi
theorem atoms_cells {W : World} {p : Option Addr} {n : Nat} {d : AD} (h : AtomsIn W p n d) : ∀ ad, p = some ad → ∀ j u, (flatN (cells4 d) n)[j]? = some u → W.cell? (ad.add j) = some u := by
  intro ad hp j u hu
  have hj : j < n * 4 := by
    obtain ⟨h1, _⟩ := List.getElem?_eq_some_iff.1 hu
    rw [flatN_len (cells4 d) 4 (fun _ => rfl)] at h1
    exact h1
  obtain ⟨b, off, e, g⟩ := h (by omega)
  rw [e] at hp
  cases hp
  have hd : j / 4 * 4 + j % 4 = j := by omega
  have hi : j / 4 < n := by omega
  have hr : j % 4 < 4 := by omega
  rw [← hd, flatN_get (cells4 d) 4 (fun _ => rfl) n (j / 4) (j % 4) hi hr] at hu
  rw [Lib.add_plain, ← hd, ← Nat.add_assoc]
  generalize j / 4 = i at *
  generalize j % 4 = r at *
  match r, hr with
  | 0, _ => cases hu; exact g.k i hi
  | 1, _ => cases hu; exact g.a i hi
  | 2, _ => cases hu; exact g.bb i hi
  | 3, _ => cases hu; exact g.c i hi
/-- rows of the call's own that hold vertices, atoms. -/
theorem own_verts {W : World} {base : Nat} {v : Value} {N : Nat} {d : VD} (h : W.ownsRow base 84 5 v N (flatN (cells5 d) N)) (hv : ∀ i, i < N → LitsIn W (d.P i) (d.L i) (d.V i) ∧ d.L i ≤ 9223372036854775807) :
    ∃ (p : Option Addr) (c : Nat), v = .slice p N c ∧ VertsIn W p N d := by
  rcases h.2 with ⟨rfl, rfl⟩ | ⟨g, cap, cur, rfl, hg, hh, hc, hm, hcs, ht⟩
  · exact ⟨none, 0, rfl, fun h => by omega⟩
  · refine ⟨_, _, rfl, fun h0 => ⟨g, 0, rfl, ?_⟩⟩
    have hv' : (Value.slice (some ⟨g, 0, none⟩) N cap) ≠ .slice none 0 0 := by simp
    obtain ⟨b', c', he, _, hcell⟩ := own_cells h hv'
    cases he
    refine ⟨fun i hi => ?_, fun i hi => ?_, fun i hi => ⟨_, ?_, rfl⟩, fun i hi => ?_, fun i hi => ?_, hv⟩
    · rw [Nat.zero_add]; exact hcell (i * 5) _ (by rw [← Nat.add_zero (i * 5), flatN_get (cells5 d) 5 (fun _ => rfl) N i 0 hi (by omega)]; rfl)
    · rw [Nat.zero_add]; exact hcell (i * 5 + 1) _ (by rw [flatN_get (cells5 d) 5 (fun _ => rfl) N i 1 hi (by omega)]; rfl)
    · rw [Nat.zero_add]; exact hcell (i * 5 + 2) _ (by rw [flatN_get (cells5 d) 5 (fun _ => rfl) N i 2 hi (by omega)]; rfl)
    · rw [Nat.zero_add]; exact hcell (i * 5 + 3) _ (by rw [flatN_get (cells5 d) 5 (fun _ => rfl) N i 3 hi (by omega)]; rfl)
    · rw [Nat.zero_add]; exact hcell (i * 5 + 4) _ (by rw [flatN_get (cells5 d) 5 (fun _ => rfl) N i 4 hi (by omega)]; rfl)
theorem own_atoms {W : World} {base : Nat} {v : Value} {N : Nat} {d : AD} (h : W.ownsRow base 99 4 v N (flatN (cells4 d) N)) :
    ∃ (p : Option Addr) (c : Nat), v = .slice p N c ∧ AtomsIn W p N d := by
  rcases h.2 with ⟨rfl, rfl⟩ | ⟨g, cap, cur, rfl, hg, hh, hc, hm, hcs, ht⟩
  · exact ⟨none, 0, rfl, fun h => by omega⟩
  · refine ⟨_, _, rfl, fun h0 => ⟨g, 0, rfl, ?_⟩⟩
    have hv' : (Value.slice (some ⟨g, 0, none⟩) N cap) ≠ .slice none 0 0 := by simp
    obtain ⟨b', c', he, _, hcell⟩ := own_cells h hv'
    cases he
    refine ⟨fun i hi => ?_, fun i hi => ?_, fun i hi => ?_, fun i hi => ?_⟩
    · rw [Nat.zero_add]; exact hcell (i * 4) _ (by rw [← Nat.add_zero (i * 4), flatN_get (cells4 d) 4 (fun _ => rfl) N i 0 hi (by omega)]; rfl)
    · rw [Nat.zero_add]; exact hcell (i * 4 + 1) _ (by rw [flatN_get (cells4 d) 4 (fun _ => rfl) N i 1 hi (by omega)]; rfl)
    · rw [Nat.zero_add]; exact hcell (i * 4 + 2) _ (by rw [flatN_get (cells4 d) 4 (fun _ => rfl) N i 2 hi (by omega)]; rfl)
    · rw [Nat.zero_add]; exact hcell (i * 4 + 3) _ (by rw [flatN_get (cells4 d) 4 (fun _ => rfl) N i 3 hi (by omega)]; rfl)
theorem join_v {W : World} {p q : Option Addr} {n k : Nat} {d e : VD} (h : VertsIn W p n d) (h' : VertsIn W q k e) : ∀ i, i < n + k → LitsIn W ((joinV n d e).P i) ((joinV n d e).L i) ((joinV n d e).V i) ∧ (joinV n d e).L i ≤ 9223372036854775807 := by
  intro i hi
  by_cases hn : i < n
  · obtain ⟨b, off, _, g⟩ := h (by omega)
    have := g.v i hn
    simpa [joinV, hn] using this
  · obtain ⟨b, off, _, g⟩ := h' (by omega)
    have := g.v (i - n) (by omega)
    simpa [joinV, hn] using this
end Go.Proofs.Ytgdncnalahdjeaa
