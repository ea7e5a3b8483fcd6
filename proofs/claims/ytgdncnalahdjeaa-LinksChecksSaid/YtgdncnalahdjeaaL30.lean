/- LinksDouble: each link twice: a run over the links, and what it names. -/
import Derived.Test.YtgdncnalahdjeaaL21
namespace Go.Proofs.Ytgdncnalahdjeaa
open Go Go.RowKit

/-- each twice. -/
def dbl {α : Type} (l : List α) : List α := l.flatMap fun x => [x, x]
theorem dbl_snoc {α : Type} (l : List α) (x : α) : dbl (l ++ [x]) = dbl l ++ [x] ++ [x] := by simp [dbl, List.flatMap_append]
theorem dbl_len {α : Type} : ∀ l : List α, (dbl l).length = 2 * l.length
  | [] => rfl
  | x :: l => by
    have h := dbl_len l
    show (x :: x :: dbl l).length = _
    simp only [List.length_cons, h]
    omega
theorem dbl_get {α : Type} : ∀ (l : List α) (i : Nat), (dbl l)[2 * i]? = l[i]?
  | [], i => by simp [dbl]
  | x :: l, 0 => by show (x :: x :: dbl l)[0]? = _; simp
  | x :: l, i + 1 => by
    show (x :: x :: dbl l)[2 * i + 1 + 1]? = _
    rw [List.getElem?_cons_succ, List.getElem?_cons_succ, List.getElem?_cons_succ, dbl_get l i]
theorem dbl_mem {α : Type} (l : List α) (x : α) : x ∈ dbl l ↔ x ∈ l := by simp [dbl, List.mem_flatMap]
theorem atL_dbl (ts : List (Int × Int)) (I : Int) : atL (dbl ts) (2 * I) = atL ts I := by
  unfold atL
  have hl := dbl_len ts
  by_cases h : 0 ≤ I ∧ I < (ts.length : Int)
  · rw [if_pos h, if_pos (by omega)]
    have e : (2 * I).toNat = 2 * I.toNat := by omega
    rw [e, List.getD_eq_getElem?_getD, List.getD_eq_getElem?_getD, dbl_get]
  · rw [if_neg h, if_neg (by omega)]
theorem atL_more {ts : List (Int × Int)} {I : Int} (p : Int × Int) (h : (atL ts I).2 = true) : atL (ts ++ [p]) I = atL ts I := by
  unfold atL at h ⊢
  by_cases hi : 0 ≤ I ∧ I < (ts.length : Int)
  · rw [if_pos hi, if_pos (by rw [List.length_append]; show 0 ≤ I ∧ I < ((ts.length + 1 : Nat) : Int); omega)]
    rw [List.getD_eq_getElem?_getD, List.getD_eq_getElem?_getD, List.getElem?_append_left (by omega)]
  · rw [if_neg hi] at h
    cases h
theorem anyB_congr {n : Nat} {f g : Nat → Bool} (h : ∀ i, i < n → f i = g i) : anyB n f = anyB n g := by
  cases hg : anyB n g with
  | true =>
    obtain ⟨i, hi, he⟩ := (anyB_iff n g).1 hg
    exact anyB_yes i hi (by rw [h i hi, he])
  | false => exact anyB_no (fun i hi => by
      rw [h i hi]
      cases hx : g i with
      | false => rfl
      | true => rw [anyB_yes i hi hx] at hg; cases hg)
theorem app_dbl {n : Nat} {d : VD} {ts : List (Int × Int)} {A B : Int} {L : Nat} {V V2 : Nat → Int} (h : ∀ k, k < L → V2 k = 2 * V k) : appB n d (dbl ts) A B L V2 = appB n d ts A B L V := by
  unfold appB
  rw [anyB_congr (f := fun k => !(atL (dbl ts) (V2 k) == ((d.V A.toNat k, d.V B.toNat k), true))) (g := fun k => !(atL ts (V k) == ((d.V A.toNat k, d.V B.toNat k), true))) (fun k hk => by rw [h k hk, atL_dbl])]
theorem app_more {n : Nat} {d : VD} {ts : List (Int × Int)} {A B : Int} {L : Nat} {V : Nat → Int} (p : Int × Int) (h : appB n d ts A B L V = true) : appB n d (ts ++ [p]) A B L V = true := by
  unfold appB at h ⊢
  simp only [Bool.and_eq_true] at h ⊢
  refine ⟨h.1, ?_⟩
  have h7 := h.2
  rw [Bool.not_eq_true'] at h7 ⊢
  refine anyB_no (fun k hk => ?_)
  have hk' : (!(atL ts (V k) == ((d.V A.toNat k, d.V B.toNat k), true))) = false := by
    cases hx : (!(atL ts (V k) == ((d.V A.toNat k, d.V B.toNat k), true))) with
    | false => rfl
    | true => rw [anyB_yes (f := fun k => !(atL ts (V k) == ((d.V A.toNat k, d.V B.toNat k), true))) k hk hx] at h7; cases h7
  have he : atL ts (V k) = ((d.V A.toNat k, d.V B.toNat k), true) := by simpa using hk'
  rw [atL_more p (by rw [he]), he]
  simp
theorem concl_dbl {n : Nat} {d : VD} {m : Nat} {a : AD} {ts : List (Int × Int)} {K T A B I J : Int} {L : Nat} {V V2 : Nat → Int} (h : ∀ k, k < L → V2 k = 2 * V k) : conclL n d m a (dbl ts) K T A B (2 * I) (2 * J) L V2 = conclL n d m a ts K T A B I J L V := by
  unfold conclL
  rw [atL_dbl, atL_dbl, app_dbl h]
theorem concl_more {n : Nat} {d : VD} {m : Nat} {a : AD} {ts : List (Int × Int)} {K T A B I J : Int} {L : Nat} {V : Nat → Int} (p : Int × Int) (h : (conclL n d m a ts K T A B I J L V).2 = true) : conclL n d m a (ts ++ [p]) K T A B I J L V = conclL n d m a ts K T A B I J L V := by
  unfold conclL at h ⊢
  by_cases k1 : K = 1
  · rw [if_pos k1, if_pos k1]
  rw [if_neg k1] at h; rw [if_neg k1, if_neg k1]
  by_cases k2 : K = 2
  · rw [if_pos k2, if_pos k2]
  rw [if_neg k2] at h; rw [if_neg k2, if_neg k2]
  by_cases k3 : K = 3
  · rw [if_pos k3] at h; rw [if_pos k3, if_pos k3, atL_more p h]
  rw [if_neg k3] at h; rw [if_neg k3, if_neg k3]
  by_cases k4 : K = 4
  · rw [if_pos k4] at h; rw [if_pos k4, if_pos k4]
    have h' : ((atL ts I).2 && (atL ts J).2 && (atL ts I).1.2 == (atL ts J).1.1) = true := h
    simp only [Bool.and_eq_true] at h'
    rw [atL_more p h'.1.1, atL_more p h'.1.2]
  rw [if_neg k4] at h; rw [if_neg k4, if_neg k4]
  by_cases k5 : K = 5
  · rw [if_pos k5] at h; rw [if_pos k5, if_pos k5]
    have h' : appB n d ts A B L V = true := h
    rw [h', app_more p h']
  rw [if_neg k5, if_neg k5]
/-- each link of the one twice in the other. -/
structure Twice (ld ld2 : LD) (M : Nat) : Prop where
  k : ∀ j, j < M → ld2.K j = ld.K (j / 2)
  t : ∀ j, j < M → ld2.T j = ld.T (j / 2)
  a : ∀ j, j < M → ld2.A j = ld.A (j / 2)
  bb : ∀ j, j < M → ld2.B j = ld.B (j / 2)
  i : ∀ j, j < M → ld2.I j = 2 * ld.I (j / 2)
  jj : ∀ j, j < M → ld2.J j = 2 * ld.J (j / 2)
  l : ∀ j, j < M → ld2.L j = ld.L (j / 2)
  v : ∀ j, j < M → ∀ k, k < ld.L (j / 2) → ld2.V j k = 2 * ld.V (j / 2) k
variable {n : Nat} {d : VD} {m : Nat} {a : AD} {ld ld2 : LD} {M : Nat}
theorem goL_succ (k : Nat) : goL n d m a ld (k + 1) = ((goL n d m a ld k).1 ++ [(conclL n d m a (goL n d m a ld k).1 (ld.K k) (ld.T k) (ld.A k) (ld.B k) (ld.I k) (ld.J k) (ld.L k) (ld.V k)).1], litsT (ld.K k) (ld.T k) (goL n d m a ld k).2) := rfl
theorem litsT_two (K T : Int) (ls : List Int) : litsT K T (litsT K T (dbl ls)) = dbl (litsT K T ls) := by
  unfold litsT
  by_cases h : K = 1
  · rw [if_pos h, if_pos h, if_pos h, dbl_snoc]
  · rw [if_neg h, if_neg h, if_neg h]
theorem go_two (g : Twice ld ld2 M) : ∀ k, 2 * k ≤ M → (∀ i, i < k → okAt n d m a ld i = true) → goL n d m a ld2 (2 * k) = (dbl (goL n d m a ld k).1, dbl (goL n d m a ld k).2) ∧ ∀ j, j < 2 * k → okAt n d m a ld2 j = true
  | 0, _, _ => ⟨rfl, fun j hj => by omega⟩
  | k + 1, hk, h => by
    obtain ⟨ih, ih2⟩ := go_two g k (by omega) (fun i hi => h i (by omega))
    have ho : (conclL n d m a (goL n d m a ld k).1 (ld.K k) (ld.T k) (ld.A k) (ld.B k) (ld.I k) (ld.J k) (ld.L k) (ld.V k)).2 = true := h k (by omega)
    have e0 : 2 * k / 2 = k := by omega
    have e1 : (2 * k + 1) / 2 = k := by omega
    have c0 : conclL n d m a (goL n d m a ld2 (2 * k)).1 (ld2.K (2 * k)) (ld2.T (2 * k)) (ld2.A (2 * k)) (ld2.B (2 * k)) (ld2.I (2 * k)) (ld2.J (2 * k)) (ld2.L (2 * k)) (ld2.V (2 * k)) = conclL n d m a (goL n d m a ld k).1 (ld.K k) (ld.T k) (ld.A k) (ld.B k) (ld.I k) (ld.J k) (ld.L k) (ld.V k) := by
      have hv := g.v (2 * k) (by omega)
      rw [e0] at hv
      rw [ih, g.k _ (by omega), g.t _ (by omega), g.a _ (by omega), g.bb _ (by omega), g.i _ (by omega), g.jj _ (by omega), g.l _ (by omega), e0, concl_dbl hv]
    have s0 : goL n d m a ld2 (2 * k + 1) = (dbl (goL n d m a ld k).1 ++ [(conclL n d m a (goL n d m a ld k).1 (ld.K k) (ld.T k) (ld.A k) (ld.B k) (ld.I k) (ld.J k) (ld.L k) (ld.V k)).1], litsT (ld.K k) (ld.T k) (dbl (goL n d m a ld k).2)) := by
      rw [goL_succ, c0, ih, g.k _ (by omega), g.t _ (by omega), e0]
    have c1 : conclL n d m a (goL n d m a ld2 (2 * k + 1)).1 (ld2.K (2 * k + 1)) (ld2.T (2 * k + 1)) (ld2.A (2 * k + 1)) (ld2.B (2 * k + 1)) (ld2.I (2 * k + 1)) (ld2.J (2 * k + 1)) (ld2.L (2 * k + 1)) (ld2.V (2 * k + 1)) = conclL n d m a (goL n d m a ld k).1 (ld.K k) (ld.T k) (ld.A k) (ld.B k) (ld.I k) (ld.J k) (ld.L k) (ld.V k) := by
      have hv := g.v (2 * k + 1) (by omega)
      rw [e1] at hv
      rw [s0, g.k _ (by omega), g.t _ (by omega), g.a _ (by omega), g.bb _ (by omega), g.i _ (by omega), g.jj _ (by omega), g.l _ (by omega), e1]
      have hd := concl_dbl (n := n) (d := d) (m := m) (a := a) (ts := (goL n d m a ld k).1) (K := ld.K k) (T := ld.T k) (A := ld.A k) (B := ld.B k) (I := ld.I k) (J := ld.J k) (L := ld.L k) (V := ld.V k) (V2 := ld2.V (2 * k + 1)) hv
      rw [concl_more _ (by rw [hd]; exact ho), hd]
    refine ⟨?_, fun j hj => ?_⟩
    · show goL n d m a ld2 (2 * k + 1 + 1) = _
      rw [goL_succ, c1, s0, g.k _ (by omega), g.t _ (by omega), e1, goL_succ, dbl_snoc, litsT_two]
    · by_cases h1 : j < 2 * k
      · exact ih2 j h1
      · by_cases h2 : j = 2 * k
        · subst h2
          unfold okAt
          rw [c0]
          exact ho
        · obtain rfl : j = 2 * k + 1 := by omega
          unfold okAt
          rw [c1]
          exact ho
theorem go_back (g : Twice ld ld2 M) : ∀ k, 2 * k ≤ M → (∀ j, j < 2 * k → okAt n d m a ld2 j = true) → ∀ i, i < k → okAt n d m a ld i = true
  | 0, _, _, i, hi => by omega
  | k + 1, hk, h, i, hi => by
    have ih := go_back g k (by omega) (fun j hj => h j (by omega))
    by_cases hik : i < k
    · exact ih i hik
    · obtain rfl : i = k := by omega
      obtain ⟨hs, _⟩ := go_two (n := n) (d := d) (m := m) (a := a) g i (by omega) ih
      have ho : okAt n d m a ld2 (2 * i) = true := h (2 * i) (by omega)
      have e0 : 2 * i / 2 = i := by omega
      have hv := g.v (2 * i) (by omega)
      rw [e0] at hv
      unfold okAt at ho ⊢
      rw [hs, g.k _ (by omega), g.t _ (by omega), g.a _ (by omega), g.bb _ (by omega), g.i _ (by omega), g.jj _ (by omega), g.l _ (by omega), e0, concl_dbl hv] at ho
      exact ho
theorem close_two (g : Twice ld ld2 M) {N : Nat} (hN : N ≠ 0) (hM : M = 2 * N - 1) (hs : goL n d m a ld2 (2 * (N - 1)) = (dbl (goL n d m a ld (N - 1)).1, dbl (goL n d m a ld (N - 1)).2)) :
    closeL m a (goL n d m a ld2 (M - 1)).1 (ld2.K (M - 1)) (ld2.T (M - 1)) (ld2.I (M - 1)) = closeL m a (goL n d m a ld (N - 1)).1 (ld.K (N - 1)) (ld.T (N - 1)) (ld.I (N - 1)) ∧ ∀ x, x ∈ litsOf n d m a ld2 M ↔ x ∈ litsOf n d m a ld N := by
  have e : M - 1 = 2 * (N - 1) := by omega
  have e0 : 2 * (N - 1) / 2 = N - 1 := by omega
  unfold litsOf
  rw [e, hs, g.k _ (by omega), g.t _ (by omega), g.i _ (by omega), e0]
  refine ⟨by unfold closeL; rw [atL_dbl], fun x => ?_⟩
  unfold closeT
  rw [atL_dbl]
  split
  · rw [List.mem_append, List.mem_append, dbl_mem]
  · rw [dbl_mem]
/-- the one closes just if the other does. -/
theorem closes_two (g : Twice ld ld2 M) {N : Nat} (hM : M = 2 * N - 1) : (ClosesAll n d m a ld2 M ↔ ClosesAll n d m a ld N) ∧ (ClosesAll n d m a ld N → ∀ x, x ∈ litsOf n d m a ld2 M ↔ x ∈ litsOf n d m a ld N) := by
  by_cases hN : N = 0
  · subst hN
    refine ⟨⟨fun h => absurd h.1 (by omega), fun h => absurd h.1 (by omega)⟩, fun h => absurd h.1 (by omega)⟩
  refine ⟨⟨fun h => ?_, fun h => ?_⟩, fun h => ?_⟩
  · have hb := go_back (n := n) (d := d) (m := m) (a := a) g (N - 1) (by omega) (fun j hj => h.2.1 j (by omega))
    obtain ⟨hs, _⟩ := go_two (n := n) (d := d) (m := m) (a := a) g (N - 1) (by omega) hb
    refine ⟨hN, hb, ?_⟩
    rw [← (close_two g hN hM hs).1]
    exact h.2.2
  · obtain ⟨hs, ho⟩ := go_two (n := n) (d := d) (m := m) (a := a) g (N - 1) (by omega) h.2.1
    refine ⟨by omega, fun i hi => ho i (by omega), ?_⟩
    rw [(close_two g hN hM hs).1]
    exact h.2.2
  · obtain ⟨hs, _⟩ := go_two (n := n) (d := d) (m := m) (a := a) g (N - 1) (by omega) h.2.1
    exact (close_two g hN hM hs).2
/-- Normal of lists with the same members. -/
theorem normal_all (n : Nat) (V : Nat → Int) (hn : n ≤ 5000) :
    ∃ (k : Nat) (Z : Nat → Int) (er : Int), k ≤ 5000 ∧ (er = 0 ∨ k = 0) ∧ (∀ W p c, LitsIn W p n V → Calls Try.prog 47 #[.slice p n c] W fun e w' => Outs k Z er e w' ∧ Below W.heap.size W w') ∧
      (∀ n' V', n' ≤ 5000 → (∀ x, (∃ i, i < n ∧ V i = x) ↔ ∃ i, i < n' ∧ V' i = x) → ∀ W p c, LitsIn W p n' V' → Calls Try.prog 47 #[.slice p n' c] W fun e w' => Outs k Z er e w' ∧ Below W.heap.size W w') := by
  obtain ⟨k, Z, er, hk, h1, h0, hC, _⟩ := normal_same n V (by omega)
  refine ⟨k, Z, er, hk, ?_, hC, fun n' V' hn' hm => ?_⟩
  · by_cases hp : MayP n V
    · exact .inl (h1 hp).1
    · exact .inr (h0 hp).2
  obtain ⟨k', Z', er', hk', h1', h0', hC', _⟩ := normal_same n' V' (by omega)
  have hmay : MayP n V ↔ MayP n' V' := by
    constructor
    · rintro ⟨_, h⟩
      refine ⟨hn', fun i hi => ?_⟩
      obtain ⟨j, hj, he⟩ := (hm (V' i)).2 ⟨i, hi, rfl⟩
      rw [← he]
      exact h j hj
    · rintro ⟨_, h⟩
      refine ⟨hn, fun i hi => ?_⟩
      obtain ⟨j, hj, he⟩ := (hm (V i)).1 ⟨i, hi, rfl⟩
      rw [← he]
      exact h j hj
  by_cases hp : MayP n V
  · obtain ⟨e1, l, hl, hkl, hZ⟩ := h1 hp
    obtain ⟨e1', l', hl', hkl', hZ'⟩ := h1' (hmay.1 hp)
    have hf : formL l' = formL l := formL_of l' _ (formL_spec l).1 (fun x => by rw [(formL_spec l).2, hl, hl', hm])
    rw [hf] at hkl' hZ'
    have a1 : k' = k := by rw [hkl, hkl']
    have a2 : Z' = Z := by rw [hZ, hZ']
    have a3 : er' = er := by rw [e1, e1']
    rw [a1, a2, a3] at hC'
    exact hC'
  · obtain ⟨e1, k0⟩ := h0 hp
    obtain ⟨e1', k0'⟩ := h0' (fun h => hp (hmay.2 h))
    have a1 : k' = k := by rw [k0, k0']
    have a3 : er' = er := by rw [e1, e1']
    intro W p c hV
    refine (hC' W p c hV).mono ?_
    rintro e w' ⟨⟨q, c2, rfl, _⟩, hb⟩
    exact ⟨⟨q, c2, by rw [a1, a3], fun h => by omega⟩, hb⟩
/-- Check, of links and of these twice: the same answer. -/
theorem check_fixed (n : Nat) (d : VD) (m : Nat) (a : AD) (ld : LD) (N : Nat) (hn : n ≤ 9223372036854775807) (hm : m ≤ 1000000) (hN : N ≤ 150) (hT : ∀ i, i < N → -9223372036854775808 ≤ ld.T i ∧ ld.T i ≤ 9223372036854775807) :
    ∃ (k : Nat) (Z : Nat → Int) (er : Int), k ≤ 5000 ∧ (∀ p cv q ca s cs w, VertsIn w p n d → AtomsIn w q m a → LinksIn w s N ld → Calls Try.prog 37 #[.slice p n cv, .slice q m ca, .slice s N cs] w fun e w' => Outs k Z er e w' ∧ Below w.heap.size w w') ∧
      (∀ ld2 M, M = 2 * N - 1 → Twice ld ld2 M → ∀ p cv q ca s cs w, VertsIn w p n d → AtomsIn w q m a → LinksIn w s M ld2 → Calls Try.prog 37 #[.slice p n cv, .slice q m ca, .slice s M cs] w fun e w' => Outs k Z er e w' ∧ Below w.heap.size w w') := by
  have hT2 : ∀ ld2 M, M = 2 * N - 1 → Twice ld ld2 M → ∀ i, i < M → -9223372036854775808 ≤ ld2.T i ∧ ld2.T i ≤ 9223372036854775807 := fun ld2 M hM g i hi => by
    rw [g.t i hi]
    exact hT _ (by omega)
  cases hmay : mayB n d m a with
  | false =>
    refine ⟨0, fun _ => 0, 2, by omega, fun p cv q ca s cs w hd ha hl => ?_, fun ld2 M hM g p cv q ca s cs w hd ha hl => ?_⟩ <;>
    · refine (check_no n d m a _ p cv q ca s cs w hd ha hn hm hmay).mono ?_
      rintro e w1 ⟨rfl, hb⟩
      exact ⟨⟨none, 0, rfl, fun h => by omega⟩, hb⟩
  | true =>
    have hlen := litsOf_len n d m a ld N
    obtain ⟨k, Z, er, hk, _, hC, hC2⟩ := normal_all (litsOf n d m a ld N).length (fun i => (litsOf n d m a ld N).getD i 0) (by omega)
    by_cases hc : ClosesAll n d m a ld N
    · refine ⟨k, Z, er, hk, fun p cv q ca s cs w hd ha hl => ?_, fun ld2 M hM g p cv q ca s cs w hd ha hl => ?_⟩
      · refine (check_run n d m a ld N p cv q ca s cs k Z er w hd ha hl hm (by omega) hT hmay hC).mono ?_
        rintro e w1 ⟨hres, hb⟩
        rcases hres with ⟨h, _⟩ | ⟨_, h, _⟩ | ⟨_, _, h⟩
        · exact absurd hc h
        · omega
        · exact ⟨h, hb⟩
      · have h2 := closes_two (n := n) (d := d) (m := m) (a := a) g hM
        have hlen2 := litsOf_len n d m a ld2 M
        have hm2 := h2.2 hc
        refine (check_run n d m a ld2 M p cv q ca s cs k Z er w hd ha hl hm (by omega) (hT2 ld2 M hM g) hmay (hC2 (litsOf n d m a ld2 M).length (fun i => (litsOf n d m a ld2 M).getD i 0) (by omega) (fun x => by rw [getD_mem_iff, getD_mem_iff, hm2]))).mono ?_
        rintro e w1 ⟨hres, hb⟩
        rcases hres with ⟨h, _⟩ | ⟨_, h, _⟩ | ⟨_, _, h⟩
        · exact absurd (h2.1.2 hc) h
        · omega
        · exact ⟨h, hb⟩
    · refine ⟨0, fun _ => 0, 5, by omega, fun p cv q ca s cs w hd ha hl => ?_, fun ld2 M hM g p cv q ca s cs w hd ha hl => ?_⟩
      · refine (check_run n d m a ld N p cv q ca s cs k Z er w hd ha hl hm (by omega) hT hmay hC).mono ?_
        rintro e w1 ⟨hres, hb⟩
        rcases hres with ⟨_, rfl⟩ | ⟨h, _⟩ | ⟨h, _⟩
        · exact ⟨⟨none, 0, rfl, fun h => by omega⟩, hb⟩
        · exact absurd h hc
        · exact absurd h hc
      · have h2 := closes_two (n := n) (d := d) (m := m) (a := a) g hM
        obtain ⟨k', Z', er', _, _, hC', _⟩ := normal_all (litsOf n d m a ld2 M).length (fun i => (litsOf n d m a ld2 M).getD i 0) (by have := litsOf_len n d m a ld2 M; omega)
        refine (check_run n d m a ld2 M p cv q ca s cs k' Z' er' w hd ha hl hm (by omega) (hT2 ld2 M hM g) hmay hC').mono ?_
        rintro e w1 ⟨hres, hb⟩
        rcases hres with ⟨_, rfl⟩ | ⟨h, _⟩ | ⟨h, _⟩
        · exact ⟨⟨none, 0, rfl, fun h => by omega⟩, hb⟩
        · exact absurd (h2.1.1 h) hc
        · exact absurd (h2.1.1 h) hc
end Go.Proofs.Ytgdncnalahdjeaa
