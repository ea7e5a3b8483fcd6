/- What links.Check accepts is refuted: under values that fit, not every literal named holds. -/
import Derived.Test.YtgdncnalahdjeaaL26
namespace Go.Proofs.Ytgdncnalahdjeaa
open Go Go.RowKit

/-- values that fit the vertices. -/
structure FitsP (n : Nat) (d : VD) (U : Nat → Int) : Prop where
  ne : U 0 ≠ U 1
  app : ∀ i j, i < n → j < i → 0 ≤ d.F i → d.F i = d.F j → d.L i = d.L j → (∀ k, k < d.L i → U (d.V i k).toNat = U (d.V j k).toNat) → U i = U j
variable {n : Nat} {d : VD} {m : Nat} {a : AD} {U : Nat → Int}
theorem FitsP.both (f : FitsP n d U) {i j : Nat} (hi : i < n) (hj : j < n) (h0 : 0 ≤ d.F i) (h1 : d.F i = d.F j) (h2 : d.L i = d.L j) (h3 : ∀ k, k < d.L i → U (d.V i k).toNat = U (d.V j k).toNat) : U i = U j := by
  rcases Nat.lt_trichotomy i j with h | h | h
  · exact (f.app j i hj h (by omega) h1.symm h2.symm (fun k hk => (h3 k (by omega)).symm)).symm
  · rw [h]
  · exact f.app i j hi h h0 h1 h2 h3
def EqsV (U : Nat → Int) (ts : List (Int × Int)) : Prop := ∀ t ∈ ts, U t.1.toNat = U t.2.toNat
theorem at_mem {ts : List (Int × Int)} {i : Int} (h : (atL ts i).2 = true) : (atL ts i).1 ∈ ts := by
  unfold atL at h ⊢
  by_cases hi : 0 ≤ i ∧ i < (ts.length : Int)
  · rw [if_pos hi]
    have hl : i.toNat < ts.length := by omega
    simp only [List.getD, List.getElem?_eq_getElem hl, Option.getD_some]
    exact List.getElem_mem hl
  · rw [if_neg hi] at h
    cases h
theorem told_true {l : Int} (h : (toldL m a l).2 = true) (hh : holdV a U l = true) : U (toldL m a l).1.1.toNat = U (toldL m a l).1.2.toNat := by
  unfold toldL at h ⊢
  unfold holdV at hh
  cases ho : okL m l with
  | false => rw [ho] at h; simp at h
  | true =>
    rw [ho] at h
    simp only [if_true] at h ⊢
    by_cases k1 : a.K (l.natAbs - 1) = 1
    · rw [if_pos k1] at h hh ⊢
      have hl : 0 < l := of_decide_eq_true h
      rw [decide_eq_true hl] at hh
      simpa using hh
    · rw [if_neg k1] at h hh ⊢
      by_cases k3 : a.K (l.natAbs - 1) = 3
      · rw [if_pos k3] at h hh ⊢
        by_cases hl : 0 < l
        · rw [if_pos hl] at hh ⊢
          simpa using hh
        · rw [if_neg hl] at hh ⊢
          simpa using hh
      · rw [if_neg k3] at h
        simp at h
theorem app_true (f : FitsP n d U) {ts : List (Int × Int)} {A B : Int} {L : Nat} {V : Nat → Int} (h : appB n d ts A B L V = true) (hts : EqsV U ts) : U A.toNat = U B.toNat := by
  unfold appB at h
  simp only [Bool.and_eq_true, decide_eq_true_eq, beq_iff_eq] at h
  obtain ⟨⟨⟨⟨⟨⟨h1, h2⟩, h3⟩, h4⟩, h5⟩, h6⟩, h7⟩ := h
  have a1 := (isV_iff n A).1 h1
  have b1 := (isV_iff n B).1 h2
  refine f.both (by omega) (by omega) h3 h4 h5 (fun k hk => ?_)
  have hk' : k < L := by omega
  have h8 : (atL ts (V k) == ((d.V A.toNat k, d.V B.toNat k), true)) = true := by
    cases hx : (atL ts (V k) == ((d.V A.toNat k, d.V B.toNat k), true)) with
    | true => rfl
    | false =>
      rw [anyB_yes (f := fun k => !(atL ts (V k) == ((d.V A.toNat k, d.V B.toNat k), true))) k hk' (by rw [hx]; rfl)] at h7
      simp at h7
  have h9 : atL ts (V k) = ((d.V A.toNat k, d.V B.toNat k), true) := by simpa using h8
  have hm := at_mem (ts := ts) (i := V k) (by rw [h9])
  rw [h9] at hm
  exact hts _ hm
theorem concl_true (f : FitsP n d U) {ts : List (Int × Int)} {K T A B I J : Int} {L : Nat} {V : Nat → Int} (h : (conclL n d m a ts K T A B I J L V).2 = true) (hts : EqsV U ts) (hT : K = 1 → holdV a U T = true) : U (conclL n d m a ts K T A B I J L V).1.1.toNat = U (conclL n d m a ts K T A B I J L V).1.2.toNat := by
  unfold conclL at h ⊢
  by_cases k1 : K = 1
  · rw [if_pos k1] at h ⊢; exact told_true h (hT k1)
  rw [if_neg k1] at h ⊢
  by_cases k2 : K = 2
  · rw [if_pos k2]
  rw [if_neg k2] at h ⊢
  by_cases k3 : K = 3
  · rw [if_pos k3] at h ⊢
    exact (hts _ (at_mem h)).symm
  rw [if_neg k3] at h ⊢
  by_cases k4 : K = 4
  · rw [if_pos k4] at h ⊢
    simp only [Bool.and_eq_true, beq_iff_eq] at h
    obtain ⟨⟨h1, h2⟩, h3⟩ := h
    have e1 := hts _ (at_mem h1)
    have e2 := hts _ (at_mem h2)
    rw [h3] at e1
    exact e1.trans e2
  rw [if_neg k4] at h ⊢
  by_cases k5 : K = 5
  · rw [if_pos k5] at h ⊢
    exact app_true f h hts
  · rw [if_neg k5] at h
    cases h
/-- every conclusion is an equation that the values keep. -/
theorem goL_true (f : FitsP n d U) {ld : LD} : ∀ k, (∀ i, i < k → okAt n d m a ld i = true) → (∀ l ∈ (goL n d m a ld k).2, holdV a U l = true) → EqsV U (goL n d m a ld k).1
  | 0, _, _ => fun t ht => by cases ht
  | k + 1, hk, hl => by
    have hsub : ∀ l ∈ (goL n d m a ld k).2, holdV a U l = true := by
      intro l hm
      refine hl l ?_
      show l ∈ litsT (ld.K k) (ld.T k) (goL n d m a ld k).2
      unfold litsT
      split
      · exact List.mem_append_left _ hm
      · exact hm
    have ih := goL_true f k (fun i hi => hk i (by omega)) hsub
    intro t ht
    have ht' : t ∈ (goL n d m a ld k).1 ++ [(conclL n d m a (goL n d m a ld k).1 (ld.K k) (ld.T k) (ld.A k) (ld.B k) (ld.I k) (ld.J k) (ld.L k) (ld.V k)).1] := ht
    rcases List.mem_append.1 ht' with h | h
    · exact ih t h
    · rw [List.mem_singleton] at h
      subst h
      refine concl_true f (hk k (by omega)) ih (fun h1 => hl _ ?_)
      show ld.T k ∈ litsT (ld.K k) (ld.T k) (goL n d m a ld k).2
      unfold litsT
      rw [if_pos h1]
      exact List.mem_append_right _ (List.mem_singleton.2 rfl)
/-- what closes can't hold. -/
theorem closes_false (f : FitsP n d U) {ld : LD} {N : Nat} (h : ClosesAll n d m a ld N) (hl : ∀ l ∈ litsOf n d m a ld N, holdV a U l = true) : False := by
  obtain ⟨h0, h1, h2⟩ := h
  have hc : (atL (goL n d m a ld (N - 1)).1 (ld.I (N - 1))).2 = true := by
    unfold closeL at h2
    simp only [Bool.and_eq_true] at h2
    exact h2.1
  have hsub : ∀ l ∈ (goL n d m a ld (N - 1)).2, holdV a U l = true := by
    intro l hm
    refine hl l ?_
    unfold litsOf closeT
    split
    · exact List.mem_append_left _ hm
    · exact hm
  have he := goL_true f (N - 1) h1 hsub _ (at_mem hc)
  unfold closeL at h2
  rw [hc] at h2
  simp only [Bool.true_and] at h2
  by_cases k7 : ld.K (N - 1) = 7
  · rw [if_pos k7] at h2
    simp only [Bool.and_eq_true, beq_iff_eq] at h2
    rw [h2.1, h2.2] at he
    exact f.ne he
  · rw [if_neg k7] at h2
    by_cases k6 : ld.K (N - 1) = 6
    · rw [if_pos k6] at h2
      simp only [Bool.and_eq_true, beq_iff_eq, decide_eq_true_eq] at h2
      obtain ⟨⟨⟨_, ht⟩, hk⟩, ha, hb⟩ := h2
      have hT := hl (ld.T (N - 1)) (by unfold litsOf closeT; rw [if_pos ⟨hc, k6⟩]; exact List.mem_append_right _ (List.mem_singleton.2 rfl))
      unfold holdV at hT
      rw [if_pos hk, ← ha, ← hb, decide_eq_false (by omega)] at hT
      have hT' : ¬ U (atL (goL n d m a ld (N - 1)).1 (ld.I (N - 1))).1.1.toNat = U (atL (goL n d m a ld (N - 1)).1 (ld.I (N - 1))).1.2.toNat := by simpa using hT
      exact hT' he
    · rw [if_neg k6] at h2
      cases h2
end Go.Proofs.Ytgdncnalahdjeaa
