/- Whether a link may be: the document's answer. -/
import Derived.Test.YtookoagcmejkpaaGreatDoorJ13
import Derived.Test.YtookoagcmejkpaaGreatDoorJ3
namespace Go.Proofs.YtookoagcmejkpaaGreatDoor
set_option maxRecDepth 100000
open Go Go.RowKit
theorem notTrue {R : Bool} {P : Prop} (h : R = true -> P) (hp : ¬ P) : R = false := by cases R with | false => rfl | true => exact absurd (h rfl) hp
set_option maxHeartbeats 3200000 in
theorem mayLink43 (k lit a b i j : Int) (q : Option Addr) (c n : Nat) (l : List Int) (R : Bool) (W : World) (hl : l.length = n) (hn : n <= 9223372036854775807) (hq : IntsIn W q l) (hR : R = mayLk ⟨k, lit, a, b, i, j, l⟩) :
  Calls Tryz.prog 43 #[.agg #[.int .u8 k, .int .i64 lit, .int .i64 a, .int .i64 b, .int .i64 i, .int .i64 j, .slice q n c]] W fun e w' => e = .returned (.bool R) /\ Below W.heap.size W w' := by
 have HR := Lib.hid hR
 have HF := Lib.hid (fun h : R = true => mayLk_facts (hR.symm.trans h))
 have HL := Lib.hid hl
 have HQ := Lib.hid hq
 have HB := Lib.hid (below1 W (.cells #[.int .u8 k, .int .i64 lit, .int .i64 a, .int .i64 b, .int .i64 i, .int .i64 j, .slice q n c] 64))
 have n0 : (0 : Int) <= (n : Int) := Int.natCast_nonneg _
 have n9 : (n : Int) <= 9223372036854775807 := by omega
 clear hR hl hq
 have HC1 := Lib.hid (fun w => count41 a w)
 have HC2 := Lib.hid (fun w => count41 b w)
 have HC3 := Lib.hid (fun w => count41 i w)
 have HC4 := Lib.hid (fun w => count41 j w)
 obtain ⟨ba, hba⟩ : ∃ x, x = cntB a := ⟨_, rfl⟩
 obtain ⟨bb, hbb⟩ : ∃ x, x = cntB b := ⟨_, rfl⟩
 obtain ⟨bi, hbi⟩ : ∃ x, x = cntB i := ⟨_, rfl⟩
 obtain ⟨bj, hbj⟩ : ∃ x, x = cntB j := ⟨_, rfl⟩
 have HBA := Lib.hid hba
 have HBB := Lib.hid hbb
 have HBI := Lib.hid hbi
 have HBJ := Lib.hid hbj
 rw [<- hba] at HC1
 rw [<- hbb] at HC2
 rw [<- hbi] at HC3
 rw [<- hbj] at HC4
 clear hba hbb hbi hbj
 go_enter Tryz.func43, Tryz.ntmps43
 cases ba with
 | false =>
  go_wp2_with fail
  refine (HC1.out _).mono ?_
  rintro e w1 ⟨rfl, hw⟩
  rw [hw]
  clear hw
  go_wp2_with fail
  exact bodyPost_ret (v := .bool false) (by simp [results, Tryz.results43, go_sem]) rfl ⟨by rw [show R = false from notTrue (fun h => (HF.out h).1) (by rw [<- HBA.out]; decide)], HB.out⟩
 | true =>
 cases bb with
 | false =>
  go_wp2_with fail
  refine (HC1.out _).mono ?_
  rintro e w1 ⟨rfl, hw⟩
  rw [hw]
  clear hw
  go_wp2_with fail
  refine (HC2.out _).mono ?_
  rintro e w1 ⟨rfl, hw⟩
  rw [hw]
  clear hw
  go_wp2_with fail
  exact bodyPost_ret (v := .bool false) (by simp [results, Tryz.results43, go_sem]) rfl ⟨by rw [show R = false from notTrue (fun h => (HF.out h).2.1) (by rw [<- HBB.out]; decide)], HB.out⟩
 | true =>
 cases bi with
 | false =>
  go_wp2_with fail
  refine (HC1.out _).mono ?_
  rintro e w1 ⟨rfl, hw⟩
  rw [hw]
  clear hw
  go_wp2_with fail
  refine (HC2.out _).mono ?_
  rintro e w1 ⟨rfl, hw⟩
  rw [hw]
  clear hw
  go_wp2_with fail
  refine (HC3.out _).mono ?_
  rintro e w1 ⟨rfl, hw⟩
  rw [hw]
  clear hw
  go_wp2_with fail
  exact bodyPost_ret (v := .bool false) (by simp [results, Tryz.results43, go_sem]) rfl ⟨by rw [show R = false from notTrue (fun h => (HF.out h).2.2.1) (by rw [<- HBI.out]; decide)], HB.out⟩
 | true =>
 cases bj with
 | false =>
  go_wp2_with fail
  refine (HC1.out _).mono ?_
  rintro e w1 ⟨rfl, hw⟩
  rw [hw]
  clear hw
  go_wp2_with fail
  refine (HC2.out _).mono ?_
  rintro e w1 ⟨rfl, hw⟩
  rw [hw]
  clear hw
  go_wp2_with fail
  refine (HC3.out _).mono ?_
  rintro e w1 ⟨rfl, hw⟩
  rw [hw]
  clear hw
  go_wp2_with fail
  refine (HC4.out _).mono ?_
  rintro e w1 ⟨rfl, hw⟩
  rw [hw]
  clear hw
  go_wp2_with fail
  exact bodyPost_ret (v := .bool false) (by simp [results, Tryz.results43, go_sem]) rfl ⟨by rw [show R = false from notTrue (fun h => (HF.out h).2.2.2.1) (by rw [<- HBJ.out]; decide)], HB.out⟩
 | true =>
 by_cases h20 : 20 < n
 case pos =>
  have h21 : (20 : Int) < (n : Int) := by omega
  have HN := Lib.hid (show ¬ l.length <= 20 from by rw [HL.out]; omega)
  clear h20
  go_wp2_with fail
  refine (HC1.out _).mono ?_
  rintro e w1 ⟨rfl, hw⟩
  rw [hw]
  clear hw
  go_wp2_with fail
  refine (HC2.out _).mono ?_
  rintro e w1 ⟨rfl, hw⟩
  rw [hw]
  clear hw
  go_wp2_with fail
  refine (HC3.out _).mono ?_
  rintro e w1 ⟨rfl, hw⟩
  rw [hw]
  clear hw
  go_wp2_with fail
  refine (HC4.out _).mono ?_
  rintro e w1 ⟨rfl, hw⟩
  rw [hw]
  clear hw
  go_wp2_with fail
  exact bodyPost_ret (v := .bool false) (by simp [results, Tryz.results43, go_sem]) rfl ⟨by rw [show R = false from notTrue (fun h => (HF.out h).2.2.2.2.1) HN.out], HB.out⟩
 have h21 : (n : Int) <= 20 := by omega
 have HN := Lib.hid (show l.length <= 20 from by rw [HL.out]; omega)
 clear h20
 go_wp2_with fail
 refine (HC1.out _).mono ?_
 rintro e w1 ⟨rfl, hw⟩
 rw [hw]
 clear hw
 go_wp2_with fail
 refine (HC2.out _).mono ?_
 rintro e w1 ⟨rfl, hw⟩
 rw [hw]
 clear hw
 go_wp2_with fail
 refine (HC3.out _).mono ?_
 rintro e w1 ⟨rfl, hw⟩
 rw [hw]
 clear hw
 go_wp2_with fail
 refine (HC4.out _).mono ?_
 rintro e w1 ⟨rfl, hw⟩
 rw [hw]
 clear hw
 go_wp2_with fail
 obtain ⟨W2, hW2⟩ : ∃ W2, W2 = W.alloc (.cells #[.int .u8 k, .int .i64 lit, .int .i64 a, .int .i64 b, .int .i64 i, .int .i64 j, .slice q n c] 64) := ⟨_, rfl⟩
 have HW2 := Lib.hid hW2
 have c6 : W2.cell? ⟨W.heap.size, 6, none⟩ = some (.slice q n c) := by rw [hW2]; simp
 have c0 : W2.cell? ⟨W.heap.size, 0, none⟩ = some (.int .u8 k) := by rw [hW2]; simp
 have HQ2 := Lib.hid (show IntsIn W2 q l from by rw [hW2]; exact HQ.out.later (below1 _ _))
 have HB2 := Lib.hid (show Below W.heap.size W W2 from by rw [hW2]; exact HB.out)
 rw [<- hW2]
 clear hW2
 go_loopw [3] (fun x wr => ∃ t : Nat, t <= n /\ x = .int .i64 (t : Int) /\ Hid ((l.take t).all cntB = true) /\ wr = W2) (fun x _ => n - (intOf x).toNat)
 case atStart => exact ⟨0, Nat.zero_le _, rfl, Lib.hid (by simp), rfl⟩
 case round =>
  obtain ⟨t, ht, rfl, HT, hw⟩ := hrel
  rw [hw]
  clear hw
  have k0 : (0 : Int) <= (t : Int) := Int.natCast_nonneg t
  by_cases hlt : t < n
  ·have k1 : (t : Int) < (n : Int) := Int.ofNat_lt.2 hlt
   have hkl : t < l.length := by rw [HL.out]; exact hlt
   obtain ⟨bq, oq, hqe, hc⟩ := HQ2.out t hkl
   subst hqe
   have HS := Lib.hid (step_ok hlt hn)
   obtain ⟨x, hx⟩ : ∃ x, x = l[t] := ⟨_, rfl⟩
   have HX := Lib.hid (show l.take (t + 1) = l.take t ++ [x] from by rw [hx, List.take_add_one, List.getElem?_eq_getElem hkl]; rfl)
   have HM := Lib.hid (show x ∈ l from by rw [hx]; exact List.getElem_mem hkl)
   rw [<- hx] at hc
   clear hx hkl
   have HFX := Lib.hid (fun w => count41 x w)
   obtain ⟨b0, hb0⟩ : ∃ b0, b0 = cntB x := ⟨_, rfl⟩
   have HB0 := Lib.hid hb0
   rw [<- hb0] at HFX
   clear hb0
   go_wp2_with fail
   refine (HFX.out _).mono ?_
   rintro e w1 ⟨rfl, hw⟩
   rw [hw]
   clear hw
   cases b0 with
   | false =>
    go_wp2_with fail
    exact bodyPost_ret (v := .bool false) (by simp [results, Tryz.results43, go_sem]) rfl ⟨by rw [show R = false from notTrue (fun h => (HF.out h).2.2.2.2.2.1) (fun h => by have h1 := List.all_eq_true.1 h x HM.out; rw [<- HB0.out] at h1; exact absurd h1 (by decide))], HB2.out⟩
   | true =>
    go_wp2_with fail
    refine ⟨⟨t + 1, HS.out.1, by first | rfl | rw [HS.out.2.2], Lib.hid (by rw [HX.out, List.all_append, HT.out]; simp [HB0.out.symm]), trivial⟩, ?_⟩
    first | rw [HS.out.2.2] | skip
    simp only [intOf, Int.toNat_natCast]
    exact HS.out.2.1
  ·obtain rfl : n = t := (Nat.le_antisymm ht (Nat.le_of_not_lt hlt)).symm
   have HALL := Lib.hid (show l.all cntB = true from by have h1 := HT.out; rw [List.take_of_length_le (by rw [HL.out]; exact Nat.le_refl _)] at h1; exact h1)
   clear hlt ht HT c0 c6
   rw [HW2.out]
   clear HW2 HB2 HQ2 W2
   by_cases k1 : k = 1
   ·subst k1
    have HC5 := Lib.hid (fun w => lit42 lit w)
    obtain ⟨bl, hbl⟩ : ∃ x, x = litB lit := ⟨_, rfl⟩
    have HBL := Lib.hid hbl
    rw [<- hbl] at HC5
    clear hbl
    cases bl with
    | false =>
     go_wp2_with fail
     refine (HC5.out _).mono ?_
     rintro e w1 ⟨rfl, hw⟩
     rw [hw]
     clear hw
     go_wp2_with fail
     exact bodyPost_ret (v := .bool false) (by simp [results, Tryz.results43, go_sem]) rfl ⟨by rw [show R = false from notTrue (fun h => (HF.out h).2.2.2.2.2.2.2 (by simp)) (by rw [<- HBL.out]; decide)], by repeat (first | exact Below.refl _ _ | refine Below.alloc ?_ (by simp) _)⟩
    | true =>
    have h48 := fun w h1 h2 => link48 ⟨1, lit, a, b, i, j, l⟩ q c ⟨1, lit, 0, 0, 0, 0, []⟩ none 0 w h1 h2 (by rw [HL.out]; exact hn) (Nat.zero_le _)
    simp only [lkV, HL.out, List.length_nil] at h48
    rw [lk_1 lit a b i j l HBL.out.symm] at h48
    rw [<- HR.out] at h48
    have H48 := Lib.hid h48
    clear h48
    go_wp2_with fail
    refine (HC5.out _).mono ?_
    rintro e w1 ⟨rfl, hw⟩
    rw [hw]
    clear hw
    go_wp2_with fail
    refine (H48.out _ (HQ.out.later (by repeat (first | exact Below.refl _ _ | refine Below.alloc ?_ (by simp) _))) (IntsIn.nil _ _)).mono ?_
    rintro e w5 ⟨rfl, hb5⟩
    have hb6 := Lib.hid (Below.trans (show Below W.heap.size W _ from by repeat (first | exact Below.refl _ _ | refine Below.alloc ?_ (by simp) _)) (hb5.mono (by simp <;> omega)))
    clear hb5
    go_wp2_with fail
    exact bodyPost_ret (v := .bool R) (by simp [results, Tryz.results43, go_sem]) rfl ⟨rfl, hb6.out⟩
   have e1 : (k == 1) = false := by simp [k1]
   by_cases k2 : k = 2
   ·subst k2
    have h48 := fun w h1 h2 => link48 ⟨2, lit, a, b, i, j, l⟩ q c ⟨2, 0, a, 0, 0, 0, []⟩ none 0 w h1 h2 (by rw [HL.out]; exact hn) (Nat.zero_le _)
    simp only [lkV, HL.out, List.length_nil] at h48
    rw [lk_2 lit a b i j l HBA.out.symm] at h48
    rw [<- HR.out] at h48
    have H48 := Lib.hid h48
    clear h48
    go_wp2_with fail
    refine (H48.out _ (HQ.out.later (by repeat (first | exact Below.refl _ _ | refine Below.alloc ?_ (by simp) _))) (IntsIn.nil _ _)).mono ?_
    rintro e w5 ⟨rfl, hb5⟩
    have hb6 := Lib.hid (Below.trans (show Below W.heap.size W _ from by repeat (first | exact Below.refl _ _ | refine Below.alloc ?_ (by simp) _)) (hb5.mono (by simp <;> omega)))
    clear hb5
    go_wp2_with fail
    exact bodyPost_ret (v := .bool R) (by simp [results, Tryz.results43, go_sem]) rfl ⟨rfl, hb6.out⟩
   have e2 : (k == 2) = false := by simp [k2]
   by_cases k3 : k = 3
   ·subst k3
    have h48 := fun w h1 h2 => link48 ⟨3, lit, a, b, i, j, l⟩ q c ⟨3, 0, 0, 0, i, 0, []⟩ none 0 w h1 h2 (by rw [HL.out]; exact hn) (Nat.zero_le _)
    simp only [lkV, HL.out, List.length_nil] at h48
    rw [lk_3 lit a b i j l HBI.out.symm] at h48
    rw [<- HR.out] at h48
    have H48 := Lib.hid h48
    clear h48
    go_wp2_with fail
    refine (H48.out _ (HQ.out.later (by repeat (first | exact Below.refl _ _ | refine Below.alloc ?_ (by simp) _))) (IntsIn.nil _ _)).mono ?_
    rintro e w5 ⟨rfl, hb5⟩
    have hb6 := Lib.hid (Below.trans (show Below W.heap.size W _ from by repeat (first | exact Below.refl _ _ | refine Below.alloc ?_ (by simp) _)) (hb5.mono (by simp <;> omega)))
    clear hb5
    go_wp2_with fail
    exact bodyPost_ret (v := .bool R) (by simp [results, Tryz.results43, go_sem]) rfl ⟨rfl, hb6.out⟩
   have e3 : (k == 3) = false := by simp [k3]
   by_cases k4 : k = 4
   ·subst k4
    have h48 := fun w h1 h2 => link48 ⟨4, lit, a, b, i, j, l⟩ q c ⟨4, 0, 0, 0, i, j, []⟩ none 0 w h1 h2 (by rw [HL.out]; exact hn) (Nat.zero_le _)
    simp only [lkV, HL.out, List.length_nil] at h48
    rw [lk_4 lit a b i j l HBI.out.symm HBJ.out.symm] at h48
    rw [<- HR.out] at h48
    have H48 := Lib.hid h48
    clear h48
    go_wp2_with fail
    refine (H48.out _ (HQ.out.later (by repeat (first | exact Below.refl _ _ | refine Below.alloc ?_ (by simp) _))) (IntsIn.nil _ _)).mono ?_
    rintro e w5 ⟨rfl, hb5⟩
    have hb6 := Lib.hid (Below.trans (show Below W.heap.size W _ from by repeat (first | exact Below.refl _ _ | refine Below.alloc ?_ (by simp) _)) (hb5.mono (by simp <;> omega)))
    clear hb5
    go_wp2_with fail
    exact bodyPost_ret (v := .bool R) (by simp [results, Tryz.results43, go_sem]) rfl ⟨rfl, hb6.out⟩
   have e4 : (k == 4) = false := by simp [k4]
   by_cases k5 : k = 5
   ·subst k5
    have h48 := fun w h1 h2 => link48 ⟨5, lit, a, b, i, j, l⟩ q c ⟨5, 0, a, b, 0, 0, l⟩ q c w h1 h2 (by rw [HL.out]; exact hn) (by rw [HL.out]; exact hn)
    simp only [lkV, HL.out] at h48
    rw [lk_5 lit a b i j l HBA.out.symm HBB.out.symm HN.out HALL.out] at h48
    rw [<- HR.out] at h48
    have H48 := Lib.hid h48
    clear h48
    go_wp2_with fail
    refine (H48.out _ (HQ.out.later (by repeat (first | exact Below.refl _ _ | refine Below.alloc ?_ (by simp) _))) (HQ.out.later (by repeat (first | exact Below.refl _ _ | refine Below.alloc ?_ (by simp) _)))).mono ?_
    rintro e w5 ⟨rfl, hb5⟩
    have hb6 := Lib.hid (Below.trans (show Below W.heap.size W _ from by repeat (first | exact Below.refl _ _ | refine Below.alloc ?_ (by simp) _)) (hb5.mono (by simp <;> omega)))
    clear hb5
    go_wp2_with fail
    exact bodyPost_ret (v := .bool R) (by simp [results, Tryz.results43, go_sem]) rfl ⟨rfl, hb6.out⟩
   have e5 : (k == 5) = false := by simp [k5]
   by_cases k6 : k = 6
   ·subst k6
    have HC5 := Lib.hid (fun w => lit42 lit w)
    obtain ⟨bl, hbl⟩ : ∃ x, x = litB lit := ⟨_, rfl⟩
    have HBL := Lib.hid hbl
    rw [<- hbl] at HC5
    clear hbl
    cases bl with
    | false =>
     go_wp2_with fail
     refine (HC5.out _).mono ?_
     rintro e w1 ⟨rfl, hw⟩
     rw [hw]
     clear hw
     go_wp2_with fail
     exact bodyPost_ret (v := .bool false) (by simp [results, Tryz.results43, go_sem]) rfl ⟨by rw [show R = false from notTrue (fun h => (HF.out h).2.2.2.2.2.2.2 (by simp)) (by rw [<- HBL.out]; decide)], by repeat (first | exact Below.refl _ _ | refine Below.alloc ?_ (by simp) _)⟩
    | true =>
    have h48 := fun w h1 h2 => link48 ⟨6, lit, a, b, i, j, l⟩ q c ⟨6, lit, 0, 0, i, 0, []⟩ none 0 w h1 h2 (by rw [HL.out]; exact hn) (Nat.zero_le _)
    simp only [lkV, HL.out, List.length_nil] at h48
    rw [lk_6 lit a b i j l HBL.out.symm HBI.out.symm] at h48
    rw [<- HR.out] at h48
    have H48 := Lib.hid h48
    clear h48
    go_wp2_with fail
    refine (HC5.out _).mono ?_
    rintro e w1 ⟨rfl, hw⟩
    rw [hw]
    clear hw
    go_wp2_with fail
    refine (H48.out _ (HQ.out.later (by repeat (first | exact Below.refl _ _ | refine Below.alloc ?_ (by simp) _))) (IntsIn.nil _ _)).mono ?_
    rintro e w5 ⟨rfl, hb5⟩
    have hb6 := Lib.hid (Below.trans (show Below W.heap.size W _ from by repeat (first | exact Below.refl _ _ | refine Below.alloc ?_ (by simp) _)) (hb5.mono (by simp <;> omega)))
    clear hb5
    go_wp2_with fail
    exact bodyPost_ret (v := .bool R) (by simp [results, Tryz.results43, go_sem]) rfl ⟨rfl, hb6.out⟩
   have e6 : (k == 6) = false := by simp [k6]
   by_cases k7 : k = 7
   ·subst k7
    have h48 := fun w h1 h2 => link48 ⟨7, lit, a, b, i, j, l⟩ q c ⟨7, 0, 0, 0, i, 0, []⟩ none 0 w h1 h2 (by rw [HL.out]; exact hn) (Nat.zero_le _)
    simp only [lkV, HL.out, List.length_nil] at h48
    rw [lk_7 lit a b i j l HBI.out.symm] at h48
    rw [<- HR.out] at h48
    have H48 := Lib.hid h48
    clear h48
    go_wp2_with fail
    refine (H48.out _ (HQ.out.later (by repeat (first | exact Below.refl _ _ | refine Below.alloc ?_ (by simp) _))) (IntsIn.nil _ _)).mono ?_
    rintro e w5 ⟨rfl, hb5⟩
    have hb6 := Lib.hid (Below.trans (show Below W.heap.size W _ from by repeat (first | exact Below.refl _ _ | refine Below.alloc ?_ (by simp) _)) (hb5.mono (by simp <;> omega)))
    clear hb5
    go_wp2_with fail
    exact bodyPost_ret (v := .bool R) (by simp [results, Tryz.results43, go_sem]) rfl ⟨rfl, hb6.out⟩
   have e7 : (k == 7) = false := by simp [k7]
   have HK := Lib.hid (show fmL k = none from by unfold fmL; split <;> first | rfl | (exfalso; omega))
   clear k1 k2 k3 k4 k5 k6 k7
   go_wp2_with fail
   exact bodyPost_ret (v := .bool false) (by simp [results, Tryz.results43, go_sem]) rfl ⟨by rw [show R = false from notTrue (fun h => (HF.out h).2.2.2.2.2.2.1) (fun h => h HK.out)], by repeat (first | exact Below.refl _ _ | refine Below.alloc ?_ (by simp) _)⟩
end Go.Proofs.YtookoagcmejkpaaGreatDoor
