/- The normal form: strictly sorted, with the same numbers; there is just one such list. -/
import Derived.Test.YtiadnifbjdnflaaForm
namespace Go.Proofs.Ytiadnifbjdnflaa
open Go Go.RowKit Go.Proofs Go.Sort

/-- the order of literals, on numbers. -/
def ltI (x y : Int) : Prop := absI x < absI y ∨ (absI x = absI y ∧ y < x)
theorem ltI_irrefl (x : Int) : ¬ ltI x x := by unfold ltI; omega
theorem ltI_trans {x y z : Int} (h : ltI x y) (k : ltI y z) : ltI x z := by unfold ltI at *; omega
theorem ltI_total (x y : Int) : ltI x y ∨ x = y ∨ ltI y x := by
  unfold ltI
  have h1 := absI_cases x
  have h2 := absI_cases y
  omega
/-- strictly sorted lists with the same members are one. -/
theorem srt_unique : ∀ (a b : List Int), a.Pairwise ltI → b.Pairwise ltI → (∀ x, x ∈ a ↔ x ∈ b) → a = b := by
  intro a
  induction a with
  | nil =>
    intro b _ _ h
    cases b with
    | nil => rfl
    | cons y b => exact absurd ((h y).2 (by simp)) (by simp)
  | cons x a ih =>
    intro b ha hb h
    cases b with
    | nil => exact absurd ((h x).1 (by simp)) (by simp)
    | cons y b =>
      rw [List.pairwise_cons] at ha hb
      have e : x = y := by
        have h1 := (h x).1 (by simp)
        have h2 := (h y).2 (by simp)
        rw [List.mem_cons] at h1 h2
        rcases h1 with h1 | h1
        · exact h1
        · rcases h2 with h2 | h2
          · exact h2.symm
          · exact absurd (ltI_trans (ha.1 y h2) (hb.1 x h1)) (ltI_irrefl x)
      subst e
      congr 1
      refine ih b ha.2 hb.2 (fun z => ?_)
      have hz := h z
      rw [List.mem_cons, List.mem_cons] at hz
      constructor
      · intro hm
        rcases hz.1 (.inr hm) with rfl | h'
        · exact absurd (ha.1 z hm) (ltI_irrefl z)
        · exact h'
      · intro hm
        rcases hz.2 (.inr hm) with rfl | h'
        · exact absurd (hb.1 z hm) (ltI_irrefl z)
        · exact h'
theorem compact_srt (d : Array Int) (hs : ∀ i j, i ≤ j → j < d.size → ¬ ltI d[j]! d[i]!) : ∀ m, m ≤ d.size → (Lib.compactUpTo d m).Pairwise ltI ∧ ∀ x, x ∈ Lib.compactUpTo d m ↔ ∃ j, j < m ∧ d[j]! = x := by
  intro m
  induction m with
  | zero => intro _; exact ⟨by simp [Lib.compactUpTo], fun x => by simp [Lib.compactUpTo]⟩
  | succ m ih =>
    intro hm
    obtain ⟨h1, h2⟩ := ih (by omega)
    rw [Lib.compactUpTo_succ]
    by_cases hk : m = 0 ∨ d[m]! ≠ d[m - 1]!
    · have hkk : Lib.keeps d m = true := by unfold Lib.keeps; exact decide_eq_true hk
      rw [if_pos hkk]
      constructor
      · rw [List.pairwise_append]
        refine ⟨h1, by simp, fun x hx y hy => ?_⟩
        rw [List.mem_singleton] at hy
        subst hy
        obtain ⟨j, hj, rfl⟩ := (h2 x).1 hx
        have hk' : d[m]! ≠ d[m - 1]! := by
          rcases hk with h0 | h0
          · omega
          · exact h0
        have a1 := hs j (m - 1) (by omega) (by omega)
        have a2 := hs (m - 1) m (by omega) (by omega)
        have t1 := ltI_total d[j]! d[m - 1]!
        have t2 := ltI_total d[m - 1]! d[m]!
        rcases t1 with t1 | t1 | t1
        · rcases t2 with t2 | t2 | t2
          · exact ltI_trans t1 t2
          · exact absurd t2.symm hk'
          · exact absurd t2 a2
        · rw [t1]
          rcases t2 with t2 | t2 | t2
          · exact t2
          · exact absurd t2.symm hk'
          · exact absurd t2 a2
        · exact absurd t1 a1
      · intro x
        rw [List.mem_append, List.mem_singleton, h2]
        constructor
        · rintro (⟨j, hj, rfl⟩ | rfl)
          · exact ⟨j, by omega, rfl⟩
          · exact ⟨m, by omega, rfl⟩
        · rintro ⟨j, hj, rfl⟩
          by_cases hjm : j < m
          · exact .inl ⟨j, hjm, rfl⟩
          · obtain rfl : j = m := by omega
            exact .inr rfl
    · have hkk : ¬ Lib.keeps d m = true := by unfold Lib.keeps; rw [decide_eq_true_eq]; exact hk
      rw [if_neg hkk, List.append_nil]
      refine ⟨h1, fun x => ?_⟩
      rw [h2]
      constructor
      · rintro ⟨j, hj, rfl⟩
        exact ⟨j, by omega, rfl⟩
      · rintro ⟨j, hj, rfl⟩
        by_cases hjm : j < m
        · exact ⟨j, hjm, rfl⟩
        · obtain rfl : j = m := by omega
          by_cases h0 : j = 0
          · exact absurd (.inl h0) hk
          · refine ⟨j - 1, by omega, ?_⟩
            by_cases e : d[j]! = d[j - 1]!
            · exact e.symm
            · exact absurd (.inr e) hk
theorem sortL_pair (l : List LitT) : (sortL l).Pairwise fun x y => ¬ ltI y.1 x.1 := by
  have h := List.pairwise_mergeSort (le := fun x y : LitT => !ltOf cfL y x) (fun a b c h1 h2 => by
      simp only [Bool.not_eq_true'] at *
      exact swoL.ntrans _ _ _ h2 h1) (fun a b => by
      simp only [Bool.or_eq_true, Bool.not_eq_true']
      by_cases h1 : ltOf cfL b a = true
      · refine .inr ?_
        by_cases h2 : ltOf cfL a b = true
        · exact absurd (swoL.trans _ _ _ h1 h2) (by rw [swoL.irrefl]; simp)
        · simpa using h2
      · exact .inl (by simpa using h1)) l
  refine h.imp fun {x y} hxy => ?_
  rw [ltL] at hxy
  simp only [Bool.not_eq_true', decide_eq_false_iff_not] at hxy
  exact hxy
theorem sortL_mem (l : List LitT) (x : LitT) : x ∈ sortL l ↔ x ∈ l := (List.mergeSort_perm l _).mem_iff
theorem formL_spec (l : List LitT) : (formL l).Pairwise ltI ∧ ∀ x, x ∈ formL l ↔ x ∈ nums l := by
  have hs : ∀ i j, i ≤ j → j < (nums (sortL l)).toArray.size → ¬ ltI (nums (sortL l)).toArray[j]! (nums (sortL l)).toArray[i]! := by
    intro i j hij hj
    have hj' : j < (sortL l).length := by simpa [nums] using hj
    have hi' : i < (sortL l).length := by omega
    rw [getElem!_pos _ j hj, getElem!_pos _ i (by omega)]
    simp only [nums, List.getElem_toArray, List.getElem_map]
    by_cases e : i = j
    · subst e; exact ltI_irrefl _
    · exact List.pairwise_iff_getElem.1 (sortL_pair l) i j hi' hj' (by omega)
  obtain ⟨h1, h2⟩ := compact_srt _ hs (nums (sortL l)).length (by simp)
  refine ⟨h1, fun x => ?_⟩
  unfold formL Lib.compact
  rw [h2]
  constructor
  · rintro ⟨j, hj, rfl⟩
    rw [getElem!_pos _ j (by simpa using hj)]
    have hj' : j < (sortL l).length := by simpa [nums] using hj
    simp only [nums, List.getElem_toArray, List.getElem_map]
    exact List.mem_map.2 ⟨(sortL l)[j], (sortL_mem l _).1 (List.getElem_mem hj'), rfl⟩
  · intro hx
    obtain ⟨y, hy, rfl⟩ := List.mem_map.1 hx
    obtain ⟨j, hj, he⟩ := List.getElem_of_mem ((sortL_mem l y).2 hy)
    refine ⟨j, by simpa [nums] using hj, ?_⟩
    rw [getElem!_pos _ j (by simpa [nums] using hj)]
    simp [nums, he]
theorem formL_of (l : List LitT) (o : List Int) (h1 : o.Pairwise ltI) (h2 : ∀ x, x ∈ o ↔ x ∈ nums l) : formL l = o :=
  srt_unique _ _ (formL_spec l).1 h1 (fun x => by rw [(formL_spec l).2, h2])
end Go.Proofs.Ytiadnifbjdnflaa
