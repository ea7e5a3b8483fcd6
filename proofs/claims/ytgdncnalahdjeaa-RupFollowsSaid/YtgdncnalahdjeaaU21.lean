/- small; ref16.Holds; what follows holds. -/
import Derived.Test.YtgdncnalahdjeaaU20
import Derived.Test.YtgdncnalahdjeaaRefB
namespace Go.Proofs.Ytgdncnalahdjeaa
open Go Go.RowKit Go.Maps

/-- an atom within 60. -/
def smL (x : Int) : Bool := !(decide (60 < x) || decide (x < -60) || x == 0)
def smC (c : List Int) : Bool := c.all smL
def smallB (dbl : List (List Int)) : Bool := dbl.all smC
theorem smL_iff (x : Int) : smL x = true ↔ x ≠ 0 ∧ -60 ≤ x ∧ x ≤ 60 := by
  unfold smL
  simp
  omega
theorem smC_fn {c : List Int} (h : smC c = true) : ∀ i, i < c.length → fnL c i ≠ 0 ∧ -60 ≤ fnL c i ∧ fnL c i ≤ 60 := fun i hi => by
  unfold fnL
  rw [getD_eq hi]
  exact (smL_iff _).1 (List.all_eq_true.1 h _ (List.getElem_mem hi))
set_option maxRecDepth 100000 in
set_option maxHeartbeats 1600000 in
theorem small_any (p : Option Addr) (z : Nat) (dbl : List (List Int)) (w : World) (hV : RowsIn w p dbl) (hn : dbl.length ≤ 9223372036854775807) (hf : Fit63 dbl) :
    Calls Try.prog 29 #[.slice p dbl.length z] w fun e w' => e = .returned (.bool (smallB dbl)) ∧ w' = w := by
  have HV := Lib.hid hV
  have HF := Lib.hid hf
  clear hV hf
  obtain ⟨n, hnn⟩ : ∃ n, dbl.length = n := ⟨_, rfl⟩
  rw [hnn] at hn ⊢
  have HN := Lib.hid hnn
  clear hnn
  obtain ⟨r, hr⟩ : ∃ r, smallB dbl = r := ⟨_, rfl⟩
  rw [hr]
  have HR := Lib.hid hr
  clear hr
  go_enter Try.func29, Try.ntmps29
  go_wp2_with fail
  go_loopg [7] n (fun gk s7 wx => ∃ j : Nat, j + gk = n ∧ s7 = .int .i64 (j : Int) ∧ wx = w ∧ Hid (∀ c, c ∈ dbl.take j → smC c = true))
  case atStart => exact ⟨0, by omega, rfl, rfl, Lib.hid (fun c hc => by simp at hc)⟩
  case round =>
    obtain ⟨j, hjg, rfl, hw, HALL⟩ := hrel
    obtain rfl := hw.symm
    have HJG := Lib.hid hjg
    cases gk with
    | zero =>
      obtain rfl : j = n := by omega
      have hrf : r = true := by
        rw [← HR.out]
        exact List.all_eq_true.2 (fun c hc => HALL.out c (by rw [← HN.out, List.take_length]; exact hc))
      subst hrf
      clear hjg
      go_wp2_with fail
      go_ret
      exact ⟨rfl, rfl⟩
    | succ G =>
      have hj2 : j < dbl.length := by have := HN.out; omega
      obtain ⟨b, off, rfl, hV⟩ := HV.out (by omega)
      obtain ⟨q, zq, cv, hq⟩ := hV j _ (List.getElem?_eq_getElem hj2)
      have hj0 : (0 : Int) ≤ (j : Int) := by omega
      have hj1 : (j : Int) < (n : Int) := by omega
      have htk : dbl.take (j + 1) = dbl.take j ++ [dbl[j]] := (List.take_append_getElem hj2).symm
      have HT := Lib.hid htk
      have hmem := Lib.hid (List.getElem_mem hj2)
      have HQ := Lib.hid hq
      have hfl := HF.out _ (List.getElem_mem hj2)
      clear htk hV hq hjg
      generalize dbl[j] = c at *
      clear hj2
      obtain ⟨m, hm⟩ : ∃ m, c.length = m := ⟨_, rfl⟩
      rw [hm] at cv hfl
      have HM := Lib.hid hm
      clear hm
      go_wp2_with fail
      go_loopg [15] m (fun ik s15 wx => ∃ k : Nat, k + ik = m ∧ s15 = .int .i64 (k : Int) ∧ wx = w ∧ Hid (∀ i, i < k → smL (fnL c i) = true))
      case atStart => exact ⟨0, by omega, rfl, rfl, Lib.hid (fun i hi => by omega)⟩
      case round =>
        obtain ⟨k, hkg, rfl, hw, HK⟩ := hrel
        obtain rfl := hw.symm
        have HKG := Lib.hid hkg
        by_cases hkm : k < m
        · obtain ⟨b2, off2, rfl, hVi⟩ := HQ.out (by have := HM.out; omega)
          have cx := hVi k (by have := HM.out; omega)
          have hk0 : (0 : Int) ≤ (k : Int) := by omega
          have hk1 : (k : Int) < (m : Int) := by omega
          have hbad : smL (fnL c k) = false → r = false := fun h => by
            rw [← HR.out]
            cases hs : smallB dbl with
            | false => rfl
            | true =>
              have h1 := List.all_eq_true.1 (List.all_eq_true.1 hs c hmem.out) (fnL c k) (by unfold fnL; rw [getD_eq (by have := HM.out; omega)]; exact List.getElem_mem _)
              rw [h] at h1
              cases h1
          have hgood : smL (fnL c k) = true → ∀ i, i < k + 1 → smL (fnL c i) = true := fun h i hi => by
            by_cases e : i < k
            · exact HK.out i e
            · obtain rfl : i = k := by omega
              exact h
          have HBAD := Lib.hid hbad
          have HGOOD := Lib.hid hgood
          clear hVi hbad hgood hkg
          generalize fnL c k = x at *
          have key : 60 < x ∨ (x ≤ 60 ∧ x < -60) ∨ x = 0 ∨ (x ≤ 60 ∧ -60 ≤ x ∧ x ≠ 0) := by omega
          rcases key with h | ⟨h, h2⟩ | h | ⟨h, h2, h3⟩
          · have hrf : r = false := HBAD.out (by unfold smL; simp [h])
            subst hrf
            go_wp2_with fail
            go_ret
            exact ⟨rfl, rfl⟩
          · have hrf : r = false := HBAD.out (by unfold smL; simp [h2])
            subst hrf
            have q1 : decide (60 < x) = false := by rw [decide_eq_false_iff_not]; omega
            go_wp2_with fail
            go_ret
            exact ⟨rfl, rfl⟩
          · have hrf : r = false := HBAD.out (by unfold smL; simp [h])
            subst hrf h
            go_wp2_with fail
            go_ret
            exact ⟨rfl, rfl⟩
          · have hg := HGOOD.out ((smL_iff x).2 ⟨h3, h2, h⟩)
            have q1 : decide (60 < x) = false := by rw [decide_eq_false_iff_not]; omega
            have q2 : decide (x < -60) = false := by rw [decide_eq_false_iff_not]; omega
            have q3 : (x == 0) = false := by rw [beq_eq_false_iff_ne]; exact h3
            have HG := Lib.hid hg
            clear hg h h2 h3
            go_wp2_with fail
            go_roundg (m - (k + 1))
            case measure => have := HKG.out; omega
            case rel => exact ⟨k + 1, by omega, by go_num, rfl, HG⟩
        · have hall2 : ∀ d, d ∈ dbl.take (j + 1) → smC d = true := fun d hd => by
            rw [HT.out] at hd
            rcases List.mem_append.1 hd with hd | hd
            · exact HALL.out d hd
            · simp at hd
              subst hd
              refine List.all_eq_true.2 (fun x hx => ?_)
              obtain ⟨i, hi, rfl⟩ := List.getElem_of_mem hx
              have := HK.out i (by have := HM.out; omega)
              unfold fnL at this
              rwa [getD_eq hi] at this
          have HA2 := Lib.hid hall2
          have hkm2 : ¬ ((k : Int) < (m : Int)) := by omega
          obtain rfl : k = m := by omega
          clear hall2 hkg
          go_wp2_with fail
          go_roundg G
          case measure => omega
          case rel => exact ⟨j + 1, by have := HJG.out; omega, by go_num, rfl, HA2⟩
def holC (bits : Int) (c : List Int) : Bool := holdB bits c.length (fnL c)
def holD (bits : Int) (dbl : List (List Int)) : Bool := dbl.all (holC bits)
set_option maxRecDepth 100000 in
set_option maxHeartbeats 800000 in
theorem refHolds_at (p : Option Addr) (z : Nat) (dbl : List (List Int)) (bits : Int) (w : World) (hV : RowsIn w p dbl) (hn : dbl.length ≤ 9223372036854775807) (hf : Fit63 dbl) (hs : smallB dbl = true) (hb0 : 0 ≤ bits) (hb1 : bits ≤ 18446744073709551615) :
    Calls Try.prog 30 #[.slice p dbl.length z, .int .u64 bits] w fun e w' => e = .returned (.bool (holD bits dbl)) ∧ w' = w := by
  have HV := Lib.hid hV
  have HF := Lib.hid hf
  have HS := Lib.hid hs
  clear hV hf hs
  obtain ⟨n, hnn⟩ : ∃ n, dbl.length = n := ⟨_, rfl⟩
  rw [hnn] at hn ⊢
  have HN := Lib.hid hnn
  clear hnn
  obtain ⟨r, hr⟩ : ∃ r, holD bits dbl = r := ⟨_, rfl⟩
  rw [hr]
  have HR := Lib.hid hr
  clear hr
  go_enter Try.func30, Try.ntmps30
  go_wp2_with fail
  go_loopw [5] (fun i wr => ∃ j : Nat, j ≤ n ∧ i = .int .i64 j ∧ w = wr ∧ ∀ c, c ∈ dbl.take j → holC bits c = true) (fun i _ => n - (intOf i).toNat)
  case atStart => exact ⟨0, by omega, rfl, rfl, fun c hc => by simp at hc⟩
  case round =>
    obtain ⟨j, hj, rfl, rfl, hall⟩ := hrel
    have HALL := Lib.hid hall
    clear hall
    by_cases hlt : j < n
    · have hj2 : j < dbl.length := by have := HN.out; omega
      obtain ⟨b, off, rfl, hV⟩ := HV.out (by omega)
      obtain ⟨q, zq, cv, hq⟩ := hV j _ (List.getElem?_eq_getElem hj2)
      have hj0 : (0 : Int) ≤ (j : Int) := by omega
      have hj1 : (j : Int) < (n : Int) := by omega
      have htk : dbl.take (j + 1) = dbl.take j ++ [dbl[j]] := (List.take_append_getElem hj2).symm
      have HT := Lib.hid htk
      have hmem := Lib.hid (List.getElem_mem hj2)
      have H1 := holds39_any q dbl[j].length zq (fnL dbl[j]) bits w hq (HF.out _ (List.getElem_mem hj2)) (smC_fn (List.all_eq_true.1 HS.out _ (List.getElem_mem hj2))) hb0 hb1
      clear htk hV hq
      generalize dbl[j] = c at *
      clear hj2
      cases hh : holC bits c with
      | true =>
        have hh2 : holdB bits c.length (fnL c) = true := hh
        rw [hh2] at H1
        have HH := Lib.hid hh
        clear hh hh2
        generalize c.length = L at *
        go_wp2_with fail
        refine H1.mono ?_
        rintro e w1 ⟨rfl, rfl⟩
        go_wp2_with fail
        go_roundw
        case rel => exact ⟨j + 1, by omega, by go_num, trivial, fun d hd => by
          rw [HT.out] at hd
          rcases List.mem_append.1 hd with hd | hd
          · exact HALL.out d hd
          · simp at hd; subst hd; exact HH.out⟩
        case measure => simp [intOf]; omega
      | false =>
        have hh2 : holdB bits c.length (fnL c) = false := hh
        have hrf : r = false := by
          rw [← HR.out]
          cases hs : holD bits dbl with
          | false => rfl
          | true => have := List.all_eq_true.1 hs c hmem.out; rw [hh] at this; cases this
        subst hrf
        rw [hh2] at H1
        clear hh hh2
        generalize c.length = L at *
        go_wp2_with fail
        refine H1.mono ?_
        rintro e w1 ⟨rfl, rfl⟩
        go_wp2_with fail
        go_ret
        exact ⟨rfl, rfl⟩
    · obtain rfl : j = n := by omega
      have hrt : r = true := by
        rw [← HR.out]
        exact List.all_eq_true.2 (fun c hc => HALL.out c (by rw [← HN.out, List.take_length]; exact hc))
      subst hrt
      go_wp2_with fail
      go_ret
      exact ⟨rfl, rfl⟩
/-- by an assignment by which all clauses hold: what comes holds. -/
theorem litB_neg (bits x : Int) (h : x ≠ 0) : litB bits (-x) = !litB bits x := by
  unfold litB
  have e : absI (-x) = absI x := by unfold absI; omega
  rw [e]
  have e2 : decide (0 < -x) = !decide (0 < x) := by
    by_cases hx : 0 < x
    · simp [hx]; omega
    · simp [hx]; omega
  rw [e2]
  cases bitB bits (absI x) <;> cases decide (0 < x) <;> rfl
theorem holC_iff (bits : Int) (c : List Int) : holC bits c = true ↔ ∃ x, x ∈ c ∧ litB bits x = true := by
  unfold holC holdB
  rw [anyB_iff]
  constructor
  · rintro ⟨i, hi, h⟩
    unfold fnL at h
    rw [getD_eq hi] at h
    exact ⟨_, List.getElem_mem hi, h⟩
  · rintro ⟨x, hx, h⟩
    obtain ⟨i, hi, rfl⟩ := List.getElem_of_mem hx
    exact ⟨i, hi, by unfold fnL; rw [getD_eq hi]; exact h⟩
theorem der_holds {db : List (List Int)} {gv : List Int} {bits : Int} (hs : smallB db = true) (hh : holD bits db = true) (hg : ∀ x, x ∈ gv → litB bits x = true) : ∀ l, Der db gv l → litB bits l = true := by
  intro l hl
  induction hl with
  | given h => exact hg _ h
  | @unit c l hc hl _ ih =>
    obtain ⟨x, hx, h1⟩ := (holC_iff bits c).1 (List.all_eq_true.1 hh c hc)
    by_cases e : x = l
    · exact e ▸ h1
    · have h2 := ih x hx e
      have h0 := ((smL_iff x).1 (List.all_eq_true.1 (List.all_eq_true.1 hs c hc) x hx)).1
      rw [litB_neg bits x h0, h1] at h2
      cases h2
theorem holds_no_confl {db : List (List Int)} {gv : List Int} {bits : Int} (hs : smallB db = true) (hh : holD bits db = true) (hg : ∀ x, x ∈ gv → litB bits x = true ∧ x ≠ 0) : ¬ Confl db gv := by
  have hd := der_holds hs hh (fun x hx => (hg x hx).1)
  rintro (he | ⟨l, a, b⟩)
  · have := List.all_eq_true.1 hh _ he
    rw [holC_iff] at this
    obtain ⟨x, hx, _⟩ := this
    simp at hx
  · have h0 : l ≠ 0 := by
      rcases a.lit with h | ⟨c, hc, hl⟩
      · exact (hg l h).2
      · exact ((smL_iff l).1 (List.all_eq_true.1 (List.all_eq_true.1 hs c hc) l hl)).1
    have h1 := hd _ a
    have h2 := hd _ b
    rw [litB_neg bits l h0, h1] at h2
    cases h2
theorem follows_holds {db : List (List Int)} {c : List Int} {bits : Int} (hs : smallB db = true) (hsc : smC c = true) (hh : holD bits db = true) (hc : Confl db (negs c)) : holC bits c = true := by
  cases h : holC bits c with
  | true => rfl
  | false =>
    exfalso
    refine holds_no_confl hs hh (fun x hx => ?_) hc
    rw [negs_mem] at hx
    have h0 := ((smL_iff (-x)).1 (List.all_eq_true.1 hsc (-x) hx)).1
    have h1 : litB bits (-x) = false := by
      cases hl : litB bits (-x) with
      | false => rfl
      | true => have := (holC_iff bits c).2 ⟨_, hx, hl⟩; rw [h] at this; cases this
    rw [litB_neg bits x (by omega)] at h1
    exact ⟨by simpa using h1, by omega⟩
theorem row_holds {db row : List (List Int)} {bits : Int} {n : Nat} {r : Bool} (hs : smallB db = true) (hs2 : smallB row = true) (hh : holD bits db = true) (ho : RowOut db row n r) : holD bits (row.take n) = true ∧ r = false := by
  obtain ⟨h1, h2, h3, h4⟩ := ho
  have hall : ∀ i, i ≤ n → holD bits (row.take i) = true := by
    intro i
    induction i with
    | zero => intro _; simp [holD]
    | succ i ih =>
      intro hi
      have hlt : i < row.length := by omega
      have hp := ih (by omega)
      rw [← List.take_append_getElem hlt]
      have hsub : smallB (db ++ row.take i) = true := by
        unfold smallB at *
        rw [List.all_append, hs, Bool.true_and]
        exact List.all_eq_true.2 (fun c hc => List.all_eq_true.1 hs2 c (List.mem_of_mem_take hc))
      have hhub : holD bits (db ++ row.take i) = true := by
        unfold holD at *
        rw [List.all_append, hh, hp]; rfl
      have := follows_holds hsub (List.all_eq_true.1 hs2 _ (List.getElem_mem hlt)) hhub (h2 i _ (by omega) (List.getElem?_eq_getElem hlt))
      unfold holD at *
      rw [List.all_append, hp]
      simp [this]
  refine ⟨hall n (Nat.le_refl _), ?_⟩
  cases r with
  | false => rfl
  | true =>
    obtain ⟨e, he⟩ := h4.1 rfl
    subst e
    have := hall _ (Nat.le_refl _)
    rw [List.take_length] at this
    have := List.all_eq_true.1 this _ he
    rw [holC_iff] at this
    obtain ⟨x, hx, _⟩ := this
    simp at hx
end Go.Proofs.Ytgdncnalahdjeaa
