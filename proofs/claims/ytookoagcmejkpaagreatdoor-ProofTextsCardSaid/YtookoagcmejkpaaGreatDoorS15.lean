/- Whether a link may be: the document's answer. -/
import Derived.Test.YtookoagcmejkpaaGreatDoorJ12
import Derived.Test.YtookoagcmejkpaaGreatDoorJ0
set_option maxHeartbeats 3200000
namespace Go.Proofs.YtookoagcmejkpaaGreatDoor
set_option maxRecDepth 100000
open Go Go.RowKit
theorem qbt {R : Bool} {P : Prop} (h : R = true -> P) (hp : ¬ P) : R = false := by cases R with | false => rfl | true => exact absurd (h rfl) hp
theorem qnt (k lit a b i j : Int) (q : Option Addr) (c n : Nat) (l : List Int) (R : Bool) (W : World) (hl : l.length = n) (hn : n <= 9223372036854775807) (hq : IntsIn W q l) (hR : R = qaz ⟨k, lit, a, b, i, j, l⟩) :
  Calls Tryz.prog 43 #[.agg #[.int .u8 k, .int .i64 lit, .int .i64 a, .int .i64 b, .int .i64 i, .int .i64 j, .slice q n c]] W fun e w' => e = .returned (.bool R) /\ Below W.heap.size W w' := by
 have HR := Zh hR;have HF := Zh (fun h : R = true => qf3 (hR.symm.trans h));have HL := Zh hl;have HQ := Zh hq;have HB := Zh (qab W (.cells #[.int .u8 k, .int .i64 lit, .int .i64 a, .int .i64 b, .int .i64 i, .int .i64 j, .slice q n c] 64));have n0 : (0 : Int) <= (n : Int) := Int.natCast_nonneg _;have n9 : (n : Int) <= 9223372036854775807 := by omega
 clear hR hl hq;have HC1 := Zh (fun w => qek a w);have HC2 := Zh (fun w => qek b w);have HC3 := Zh (fun w => qek i w);have HC4 := Zh (fun w => qek j w);obtain ⟨ba, hba⟩ : ∃ x, x = cntB a := ⟨_, rfl⟩;obtain ⟨bb, hbb⟩ : ∃ x, x = cntB b := ⟨_, rfl⟩;obtain ⟨bi, hbi⟩ : ∃ x, x = cntB i := ⟨_, rfl⟩;obtain ⟨bj, hbj⟩ : ∃ x, x = cntB j := ⟨_, rfl⟩;have HBA := Zh hba;have HBB := Zh hbb;have HBI := Zh hbi;have HBJ := Zh hbj;rw [<- hba] at HC1;rw [<- hbb] at HC2;rw [<- hbi] at HC3;rw [<- hbj] at HC4;clear hba hbb hbi hbj;go_enter Tryz.func43, Tryz.ntmps43
 cases ba with
 | false =>
  go_wp2_with fail
  refine (HC1.o _).mono ?_;rintro e w1 ⟨rfl, hw⟩;rw [hw];clear hw
  go_wp2_with fail
  exact bodyPost_ret (v := .bool false) (by simp [results, Tryz.results43, go_sem]) rfl ⟨by rw [show R = false from qbt (fun h => (HF.o h).1) (by rw [<- HBA.o]; decide)], HB.o⟩
 | true =>
 cases bb with
 | false =>
  go_wp2_with fail
  refine (HC1.o _).mono ?_;rintro e w1 ⟨rfl, hw⟩;rw [hw];clear hw
  go_wp2_with fail
  refine (HC2.o _).mono ?_;rintro e w1 ⟨rfl, hw⟩;rw [hw];clear hw
  go_wp2_with fail
  exact bodyPost_ret (v := .bool false) (by simp [results, Tryz.results43, go_sem]) rfl ⟨by rw [show R = false from qbt (fun h => (HF.o h).2.1) (by rw [<- HBB.o]; decide)], HB.o⟩
 | true =>
 cases bi with
 | false =>
  go_wp2_with fail
  refine (HC1.o _).mono ?_;rintro e w1 ⟨rfl, hw⟩;rw [hw];clear hw
  go_wp2_with fail
  refine (HC2.o _).mono ?_;rintro e w1 ⟨rfl, hw⟩;rw [hw];clear hw
  go_wp2_with fail
  refine (HC3.o _).mono ?_;rintro e w1 ⟨rfl, hw⟩;rw [hw];clear hw
  go_wp2_with fail
  exact bodyPost_ret (v := .bool false) (by simp [results, Tryz.results43, go_sem]) rfl ⟨by rw [show R = false from qbt (fun h => (HF.o h).2.2.1) (by rw [<- HBI.o]; decide)], HB.o⟩
 | true =>
 cases bj with
 | false =>
  go_wp2_with fail
  refine (HC1.o _).mono ?_;rintro e w1 ⟨rfl, hw⟩;rw [hw];clear hw
  go_wp2_with fail
  refine (HC2.o _).mono ?_;rintro e w1 ⟨rfl, hw⟩;rw [hw];clear hw
  go_wp2_with fail
  refine (HC3.o _).mono ?_;rintro e w1 ⟨rfl, hw⟩;rw [hw];clear hw
  go_wp2_with fail
  refine (HC4.o _).mono ?_;rintro e w1 ⟨rfl, hw⟩;rw [hw];clear hw
  go_wp2_with fail
  exact bodyPost_ret (v := .bool false) (by simp [results, Tryz.results43, go_sem]) rfl ⟨by rw [show R = false from qbt (fun h => (HF.o h).2.2.2.1) (by rw [<- HBJ.o]; decide)], HB.o⟩
 | true =>
 by_cases h20 : 20 < n
 case pos =>
  have h21 : (20 : Int) < (n : Int) := by omega
  have HN := Zh (show ¬ l.length <= 20 from by rw [HL.o]; omega);clear h20
  go_wp2_with fail
  refine (HC1.o _).mono ?_;rintro e w1 ⟨rfl, hw⟩;rw [hw];clear hw
  go_wp2_with fail
  refine (HC2.o _).mono ?_;rintro e w1 ⟨rfl, hw⟩;rw [hw];clear hw
  go_wp2_with fail
  refine (HC3.o _).mono ?_;rintro e w1 ⟨rfl, hw⟩;rw [hw];clear hw
  go_wp2_with fail
  refine (HC4.o _).mono ?_;rintro e w1 ⟨rfl, hw⟩;rw [hw];clear hw
  go_wp2_with fail
  exact bodyPost_ret (v := .bool false) (by simp [results, Tryz.results43, go_sem]) rfl ⟨by rw [show R = false from qbt (fun h => (HF.o h).2.2.2.2.1) HN.o], HB.o⟩
 have h21 : (n : Int) <= 20 := by omega
 have HN := Zh (show l.length <= 20 from by rw [HL.o]; omega);clear h20
 go_wp2_with fail
 refine (HC1.o _).mono ?_;rintro e w1 ⟨rfl, hw⟩;rw [hw];clear hw
 go_wp2_with fail
 refine (HC2.o _).mono ?_;rintro e w1 ⟨rfl, hw⟩;rw [hw];clear hw
 go_wp2_with fail
 refine (HC3.o _).mono ?_;rintro e w1 ⟨rfl, hw⟩;rw [hw];clear hw
 go_wp2_with fail
 refine (HC4.o _).mono ?_;rintro e w1 ⟨rfl, hw⟩;rw [hw];clear hw
 go_wp2_with fail
 obtain ⟨W2, hW2⟩ : ∃ W2, W2 = W.alloc (.cells #[.int .u8 k, .int .i64 lit, .int .i64 a, .int .i64 b, .int .i64 i, .int .i64 j, .slice q n c] 64) := ⟨_, rfl⟩;have HW2 := Zh hW2;have c6 : W2.cell? ⟨W.heap.size, 6, none⟩ = some (.slice q n c) := by rw [hW2]; simp
 have c0 : W2.cell? ⟨W.heap.size, 0, none⟩ = some (.int .u8 k) := by rw [hW2]; simp
 have HQ2 := Zh (show IntsIn W2 q l from by rw [hW2]; exact HQ.o.later (qab _ _));have HB2 := Zh (show Below W.heap.size W W2 from by rw [hW2]; exact HB.o);rw [<- hW2];clear hW2
 go_loopw [3] (fun x wr => ∃ t : Nat, t <= n /\ x = .int .i64 (t : Int) /\ Hid ((l.take t).all cntB = true) /\ wr = W2) (fun x _ => n - (intOf x).toNat)
 case atStart => exact ⟨0, Nat.zero_le _, rfl, Zh (by simp), rfl⟩
 case round =>
  obtain ⟨t, ht, rfl, HT, hw⟩ := hrel;rw [hw];clear hw;have k0 : (0 : Int) <= (t : Int) := Int.natCast_nonneg t
  by_cases hlt : t < n
  ·have k1 : (t : Int) < (n : Int) := Int.ofNat_lt.2 hlt
   have hkl : t < l.length := by rw [HL.o]; exact hlt
   obtain ⟨bq, oq, hqe, hc⟩ := HQ2.o t hkl;subst hqe;have HS := Zh (qax hlt hn);obtain ⟨x, hx⟩ : ∃ x, x = l[t] := ⟨_, rfl⟩;have HX := Zh (show l.take (t + 1) = l.take t ++ [x] from by rw [hx, List.take_add_one, List.getElem?_eq_getElem hkl]; rfl);have HM := Zh (show x ∈ l from by rw [hx]; exact List.getElem_mem hkl);rw [<- hx] at hc;clear hx hkl;have HFX := Zh (fun w => qek x w);obtain ⟨b0, hb0⟩ : ∃ b0, b0 = cntB x := ⟨_, rfl⟩;have HB0 := Zh hb0;rw [<- hb0] at HFX;clear hb0
   go_wp2_with fail
   refine (HFX.o _).mono ?_;rintro e w1 ⟨rfl, hw⟩;rw [hw];clear hw
   cases b0 with
   | false =>
    go_wp2_with fail
    exact bodyPost_ret (v := .bool false) (by simp [results, Tryz.results43, go_sem]) rfl ⟨by rw [show R = false from qbt (fun h => (HF.o h).2.2.2.2.2.1) (fun h => by have h1 := List.all_eq_true.1 h x HM.o; rw [<- HB0.o] at h1; exact absurd h1 (by decide))], HB2.o⟩
   | true =>
    go_wp2_with fail
    refine ⟨⟨t + 1, HS.o.1, by first | rfl | rw [HS.o.2.2], Zh (by rw [HX.o, List.all_append, HT.o]; simp [HB0.o.symm]), trivial⟩, ?_⟩
    first | rw [HS.o.2.2] | skip
    simp only [intOf, Int.toNat_natCast];exact HS.o.2.1
  ·obtain rfl : n = t := (Nat.le_antisymm ht (Nat.le_of_not_lt hlt)).symm
   have HALL := Zh (show l.all cntB = true from by have h1 := HT.o; rw [List.take_of_length_le (by rw [HL.o]; exact Nat.le_refl _)] at h1; exact h1);clear hlt ht HT c0 c6;rw [HW2.o];clear HW2 HB2 HQ2 W2
   by_cases k1 : k = 1
   ·subst k1
    have HC5 := Zh (fun w => qrm lit w);obtain ⟨bl, hbl⟩ : ∃ x, x = litB lit := ⟨_, rfl⟩;have HBL := Zh hbl;rw [<- hbl] at HC5;clear hbl
    cases bl with
    | false =>
     go_wp2_with fail
     refine (HC5.o _).mono ?_;rintro e w1 ⟨rfl, hw⟩;rw [hw];clear hw
     go_wp2_with fail
     exact bodyPost_ret (v := .bool false) (by simp [results, Tryz.results43, go_sem]) rfl ⟨by rw [show R = false from qbt (fun h => (HF.o h).2.2.2.2.2.2.2 (by simp)) (by rw [<- HBL.o]; decide)], by repeat (first | exact Below.refl _ _ | refine Below.alloc ?_ (by simp) _)⟩
    | true =>
    have h48 := fun w h1 h2 => qfe ⟨1, lit, a, b, i, j, l⟩ q c ⟨1, lit, 0, 0, 0, 0, []⟩ none 0 w h1 h2 (by rw [HL.o]; exact hn) (Nat.zero_le _)
    simp only [lkV, HL.o, List.length_nil] at h48;rw [lk_1 lit a b i j l HBL.o.symm] at h48;rw [<- HR.o] at h48;have H48 := Zh h48;clear h48
    go_wp2_with fail
    refine (HC5.o _).mono ?_;rintro e w1 ⟨rfl, hw⟩;rw [hw];clear hw
    go_wp2_with fail
    refine (H48.o _ (HQ.o.later (by repeat (first | exact Below.refl _ _ | refine Below.alloc ?_ (by simp) _))) (IntsIn.nil _ _)).mono ?_;rintro e w5 ⟨rfl, hb5⟩;have hb6 := Zh (Below.trans (show Below W.heap.size W _ from by repeat (first | exact Below.refl _ _ | refine Below.alloc ?_ (by simp) _)) (hb5.mono (by simp <;> omega)));clear hb5
    go_wp2_with fail
    exact bodyPost_ret (v := .bool R) (by simp [results, Tryz.results43, go_sem]) rfl ⟨rfl, hb6.o⟩
   have e1 : (k == 1) = false := by simp [k1]
   by_cases k2 : k = 2
   ·subst k2
    have h48 := fun w h1 h2 => qfe ⟨2, lit, a, b, i, j, l⟩ q c ⟨2, 0, a, 0, 0, 0, []⟩ none 0 w h1 h2 (by rw [HL.o]; exact hn) (Nat.zero_le _)
    simp only [lkV, HL.o, List.length_nil] at h48;rw [lk_2 lit a b i j l HBA.o.symm] at h48;rw [<- HR.o] at h48;have H48 := Zh h48;clear h48
    go_wp2_with fail
    refine (H48.o _ (HQ.o.later (by repeat (first | exact Below.refl _ _ | refine Below.alloc ?_ (by simp) _))) (IntsIn.nil _ _)).mono ?_;rintro e w5 ⟨rfl, hb5⟩;have hb6 := Zh (Below.trans (show Below W.heap.size W _ from by repeat (first | exact Below.refl _ _ | refine Below.alloc ?_ (by simp) _)) (hb5.mono (by simp <;> omega)));clear hb5
    go_wp2_with fail
    exact bodyPost_ret (v := .bool R) (by simp [results, Tryz.results43, go_sem]) rfl ⟨rfl, hb6.o⟩
   have e2 : (k == 2) = false := by simp [k2]
   by_cases k3 : k = 3
   ·subst k3
    have h48 := fun w h1 h2 => qfe ⟨3, lit, a, b, i, j, l⟩ q c ⟨3, 0, 0, 0, i, 0, []⟩ none 0 w h1 h2 (by rw [HL.o]; exact hn) (Nat.zero_le _)
    simp only [lkV, HL.o, List.length_nil] at h48;rw [lk_3 lit a b i j l HBI.o.symm] at h48;rw [<- HR.o] at h48;have H48 := Zh h48;clear h48
    go_wp2_with fail
    refine (H48.o _ (HQ.o.later (by repeat (first | exact Below.refl _ _ | refine Below.alloc ?_ (by simp) _))) (IntsIn.nil _ _)).mono ?_;rintro e w5 ⟨rfl, hb5⟩;have hb6 := Zh (Below.trans (show Below W.heap.size W _ from by repeat (first | exact Below.refl _ _ | refine Below.alloc ?_ (by simp) _)) (hb5.mono (by simp <;> omega)));clear hb5
    go_wp2_with fail
    exact bodyPost_ret (v := .bool R) (by simp [results, Tryz.results43, go_sem]) rfl ⟨rfl, hb6.o⟩
   have e3 : (k == 3) = false := by simp [k3]
   by_cases k4 : k = 4
   ·subst k4
    have h48 := fun w h1 h2 => qfe ⟨4, lit, a, b, i, j, l⟩ q c ⟨4, 0, 0, 0, i, j, []⟩ none 0 w h1 h2 (by rw [HL.o]; exact hn) (Nat.zero_le _)
    simp only [lkV, HL.o, List.length_nil] at h48;rw [lk_4 lit a b i j l HBI.o.symm HBJ.o.symm] at h48;rw [<- HR.o] at h48;have H48 := Zh h48;clear h48
    go_wp2_with fail
    refine (H48.o _ (HQ.o.later (by repeat (first | exact Below.refl _ _ | refine Below.alloc ?_ (by simp) _))) (IntsIn.nil _ _)).mono ?_;rintro e w5 ⟨rfl, hb5⟩;have hb6 := Zh (Below.trans (show Below W.heap.size W _ from by repeat (first | exact Below.refl _ _ | refine Below.alloc ?_ (by simp) _)) (hb5.mono (by simp <;> omega)));clear hb5
    go_wp2_with fail
    exact bodyPost_ret (v := .bool R) (by simp [results, Tryz.results43, go_sem]) rfl ⟨rfl, hb6.o⟩
   have e4 : (k == 4) = false := by simp [k4]
   by_cases k5 : k = 5
   ·subst k5
    have h48 := fun w h1 h2 => qfe ⟨5, lit, a, b, i, j, l⟩ q c ⟨5, 0, a, b, 0, 0, l⟩ q c w h1 h2 (by rw [HL.o]; exact hn) (by rw [HL.o]; exact hn)
    simp only [lkV, HL.o] at h48;rw [lk_5 lit a b i j l HBA.o.symm HBB.o.symm HN.o HALL.o] at h48;rw [<- HR.o] at h48;have H48 := Zh h48;clear h48
    go_wp2_with fail
    refine (H48.o _ (HQ.o.later (by repeat (first | exact Below.refl _ _ | refine Below.alloc ?_ (by simp) _))) (HQ.o.later (by repeat (first | exact Below.refl _ _ | refine Below.alloc ?_ (by simp) _)))).mono ?_;rintro e w5 ⟨rfl, hb5⟩;have hb6 := Zh (Below.trans (show Below W.heap.size W _ from by repeat (first | exact Below.refl _ _ | refine Below.alloc ?_ (by simp) _)) (hb5.mono (by simp <;> omega)));clear hb5
    go_wp2_with fail
    exact bodyPost_ret (v := .bool R) (by simp [results, Tryz.results43, go_sem]) rfl ⟨rfl, hb6.o⟩
   have e5 : (k == 5) = false := by simp [k5]
   by_cases k6 : k = 6
   ·subst k6
    have HC5 := Zh (fun w => qrm lit w);obtain ⟨bl, hbl⟩ : ∃ x, x = litB lit := ⟨_, rfl⟩;have HBL := Zh hbl;rw [<- hbl] at HC5;clear hbl
    cases bl with
    | false =>
     go_wp2_with fail
     refine (HC5.o _).mono ?_;rintro e w1 ⟨rfl, hw⟩;rw [hw];clear hw
     go_wp2_with fail
     exact bodyPost_ret (v := .bool false) (by simp [results, Tryz.results43, go_sem]) rfl ⟨by rw [show R = false from qbt (fun h => (HF.o h).2.2.2.2.2.2.2 (by simp)) (by rw [<- HBL.o]; decide)], by repeat (first | exact Below.refl _ _ | refine Below.alloc ?_ (by simp) _)⟩
    | true =>
    have h48 := fun w h1 h2 => qfe ⟨6, lit, a, b, i, j, l⟩ q c ⟨6, lit, 0, 0, i, 0, []⟩ none 0 w h1 h2 (by rw [HL.o]; exact hn) (Nat.zero_le _)
    simp only [lkV, HL.o, List.length_nil] at h48;rw [lk_6 lit a b i j l HBL.o.symm HBI.o.symm] at h48;rw [<- HR.o] at h48;have H48 := Zh h48;clear h48
    go_wp2_with fail
    refine (HC5.o _).mono ?_;rintro e w1 ⟨rfl, hw⟩;rw [hw];clear hw
    go_wp2_with fail
    refine (H48.o _ (HQ.o.later (by repeat (first | exact Below.refl _ _ | refine Below.alloc ?_ (by simp) _))) (IntsIn.nil _ _)).mono ?_;rintro e w5 ⟨rfl, hb5⟩;have hb6 := Zh (Below.trans (show Below W.heap.size W _ from by repeat (first | exact Below.refl _ _ | refine Below.alloc ?_ (by simp) _)) (hb5.mono (by simp <;> omega)));clear hb5
    go_wp2_with fail
    exact bodyPost_ret (v := .bool R) (by simp [results, Tryz.results43, go_sem]) rfl ⟨rfl, hb6.o⟩
   have e6 : (k == 6) = false := by simp [k6]
   by_cases k7 : k = 7
   ·subst k7
    have h48 := fun w h1 h2 => qfe ⟨7, lit, a, b, i, j, l⟩ q c ⟨7, 0, 0, 0, i, 0, []⟩ none 0 w h1 h2 (by rw [HL.o]; exact hn) (Nat.zero_le _)
    simp only [lkV, HL.o, List.length_nil] at h48;rw [lk_7 lit a b i j l HBI.o.symm] at h48;rw [<- HR.o] at h48;have H48 := Zh h48;clear h48
    go_wp2_with fail
    refine (H48.o _ (HQ.o.later (by repeat (first | exact Below.refl _ _ | refine Below.alloc ?_ (by simp) _))) (IntsIn.nil _ _)).mono ?_;rintro e w5 ⟨rfl, hb5⟩;have hb6 := Zh (Below.trans (show Below W.heap.size W _ from by repeat (first | exact Below.refl _ _ | refine Below.alloc ?_ (by simp) _)) (hb5.mono (by simp <;> omega)));clear hb5
    go_wp2_with fail
    exact bodyPost_ret (v := .bool R) (by simp [results, Tryz.results43, go_sem]) rfl ⟨rfl, hb6.o⟩
   have e7 : (k == 7) = false := by simp [k7]
   have HK := Zh (show fmL k = none from by unfold fmL; split <;> first | rfl | (exfalso; omega));clear k1 k2 k3 k4 k5 k6 k7
   go_wp2_with fail
   exact bodyPost_ret (v := .bool false) (by simp [results, Tryz.results43, go_sem]) rfl ⟨by rw [show R = false from qbt (fun h => (HF.o h).2.2.2.2.2.2.1) (fun h => h HK.o)], by repeat (first | exact Below.refl _ _ | refine Below.alloc ?_ (by simp) _)⟩
end Go.Proofs.YtookoagcmejkpaaGreatDoor
