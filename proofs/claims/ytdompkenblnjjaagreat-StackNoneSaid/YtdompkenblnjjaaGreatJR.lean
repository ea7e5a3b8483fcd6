/- The document's numerals, decimals, numbers after a hash. The document's decimals and numbers behind a hash. The document's quoted texts. The document's texts between double quotes. -/
import Derived.Test.YtdompkenblnjjaaGreatR2
import Derived.Test.YtdompkenblnjjaaGreatJW
namespace Go.Proofs.YtdompkenblnjjaaGreat
open Go Go.RowKit

def numB (w : List UInt8) : Bool := w.all dgB && (decide (w.length = 1) || (decide (1 < w.length) && (w.getD 0 0 != 48)))
def decB (w : List UInt8) : Bool := decide ((w.takeWhile (· != 46)).length + 1 < w.length) && (numB (w.take (w.takeWhile (· != 46)).length) && (w.drop ((w.takeWhile (· != 46)).length + 1)).all dgB)
def nbC (f c : UInt8) : Bool := (f == 120 && hxB c) || (f == 98 && (c == 48 || c == 49))
def nbB (w : List UInt8) : Bool := decide (2 ≤ w.length) && (w.drop 1).all (nbC (w.getD 0 0))
set_option maxRecDepth 100000 in
theorem numB_eq (v : List UInt8) (hne : v ≠ []) : numB v = (allB dgB v && !(v.getD 0 0 == 48 && decide (1 < v.length))) := by
  have hl : 0 < v.length := List.length_pos_iff.2 hne
  unfold numB allB
  have he : v.isEmpty = false := by cases v with | nil => exact absurd rfl hne | cons => rfl
  rw [he]
  cases v.all dgB with
  | false => simp
  | true =>
    by_cases h1 : v.length = 1
    · simp [h1]
    · have h2 : 1 < v.length := by omega
      simp only [h1, h2, decide_true, decide_false, Bool.true_and, Bool.false_or, Bool.not_false, Bool.and_true]
      rfl
set_option maxRecDepth 100000 in
theorem plainR_ref {w : List UInt8} (hne : w ≠ []) (hd : dgB (w.getD 0 0) = true) : plainR w = if numB w then .tok 4 w w.length else if decB w then .tok 7 w w.length else .err 5 := by
  have hl : 0 < w.length := List.length_pos_iff.2 hne
  unfold plainR
  rw [if_neg (by rw [hd]; decide)]
  simp only
  rcases index_tw 46 w with ⟨h1, _, h3⟩ | ⟨h1, _, h3, h4⟩
  · rw [h3, h1]
    have hdc : decB w = false := by unfold decB; rw [h3, decide_eq_false (show ¬ w.length + 1 < w.length by omega)]; rfl
    rw [numB_eq w hne, hdc]
    cases allB dgB w <;> cases (w.getD 0 0 == 48 && decide (1 < w.length)) <;> rfl
  · have hall : w.all dgB = false := by
      rw [List.all_eq_false]
      exact ⟨46, by simpa using h1, by decide⟩
    have hnum : numB w = false := by unfold numB; rw [hall]; rfl
    have hwt : w.takeWhile (· != 46) = w.take (w.takeWhile (· != 46)).length := List.prefix_iff_eq_take.1 (List.takeWhile_prefix _)
    have hwne : w.takeWhile (· != 46) ≠ [] := by
      cases w with
      | nil => exact absurd rfl hne
      | cons c w =>
        have hc : (c != 46) = true := by
          rw [bne_iff_ne]; intro e; subst e; exact absurd (show dgB 46 = true from hd) (by decide)
        rw [List.takeWhile_cons, if_pos hc]; simp
    rw [h1, hnum, h4, List.drop_drop]
    unfold decB
    rw [← hwt, numB_eq _ hwne]
    generalize (w.takeWhile (· != 46)).length = p at *
    have hpe : allB dgB (w.drop (p + 1)) = (decide (p + 1 < w.length) && (w.drop (p + 1)).all dgB) := by
      unfold allB
      by_cases h : p + 1 < w.length
      · have : (w.drop (p + 1)).isEmpty = false := by
          cases hh : w.drop (p + 1) with
          | nil => have := congrArg List.length hh; simp at this; omega
          | cons => rfl
        rw [this]; simp [h]
      · rw [List.drop_of_length_le (by omega)]; simp [h]
    rw [hpe]
    generalize ((w.takeWhile (· != 46)).getD 0 0 == 48 && decide (1 < p)) = zz
    cases allB dgB (w.takeWhile (· != 46)) <;> cases zz <;> cases decide (p + 1 < w.length) <;> cases (w.drop (p + 1)).all dgB <;> rfl
set_option maxRecDepth 100000 in
theorem basedR_ref {w : List UInt8} (hne : w ≠ []) : basedR w = if nbB w then .tok 7 (35 :: w) (w.length + 1) else .err 5 := by
  have he : w.isEmpty = false := by cases w with | nil => exact absurd rfl hne | cons => rfl
  unfold basedR
  rw [he]
  have key : ((w.getD 0 0 == 120 && allB hxB (w.drop 1)) || (w.getD 0 0 == 98 && allB (fun c => c == 48 || c == 49) (w.drop 1))) = nbB w := by
    unfold nbB allB
    have hlen : decide (2 ≤ w.length) = !(w.drop 1).isEmpty := by
      cases w with
      | nil => exact absurd rfl hne
      | cons c w => cases w <;> simp
    rw [hlen]
    generalize w.getD 0 0 = f
    generalize w.drop 1 = v
    by_cases h1 : f = 120
    · subst h1
      have : nbC 120 = hxB := by funext c; simp [nbC]
      rw [this]; simp [Bool.and_comm]
    · by_cases h2 : f = 98
      · subst h2
        have : nbC 98 = fun c => c == 48 || c == 49 := by funext c; simp [nbC]
        rw [this]; simp [Bool.and_comm]
      · have e1 : (f == 120) = false := by simpa using h1
        have e2 : (f == 98) = false := by simpa using h2
        have : nbC f = fun _ => false := by funext c; simp [nbC, e1, e2]
        rw [this, e1, e2]
        cases v <;> simp
  rw [key]
  simp
set_option maxRecDepth 100000 in
theorem all_take {p : UInt8 → Bool} {l : List UInt8} {k : Nat} (h : k < l.length) : (l.take (k + 1)).all p = ((l.take k).all p && p l[k]) := by
  rw [List.take_succ_eq_append_getElem h, List.all_append]; simp only [List.all_cons, List.all_nil, Bool.and_true]
set_option maxRecDepth 100000 in
set_option maxHeartbeats 1600000 in
theorem numeral_any (S : ByteArray) (W : World) (hs : S.size ≤ 1048576) : Calls Tryz.prog 75 #[.string S] W fun e w' => e = .returned (.bool (numB S.data.toList)) ∧ W = w' := by
  have hlen : S.data.toList.length = S.size := by simp
  have HLN := Lib.hid hlen
  clear hlen
  go_enter Tryz.func75, Tryz.ntmps75
  go_wp2_with fail
  go_loopg [3] S.size (fun gk s3 wx => ∃ k : Nat, k + gk = S.size ∧ s3 = .int .i64 (k : Int) ∧ Hid (wx = W ∧ (S.data.toList.take k).all dgB = true))
  case atStart => exact ⟨0, by omega, rfl, Lib.hid ⟨rfl, by simp⟩⟩
  case round =>
    obtain ⟨k, hk, rfl, HI⟩ := hrel
    obtain ⟨hw, ha⟩ := HI.out
    subst hw
    have HG := Lib.hid hk
    have HA := Lib.hid ha
    have hk2 : k ≤ S.size := by omega
    clear hk ha HI
    by_cases hlt : k < S.size
    · have i0 : (0 : Int) ≤ (k : Int) := by omega
      have i1 : (k : Int) < (S.size : Int) := by omega
      have hget := str_get' hlt
      have hkl : k < S.data.toList.length := by rw [HLN.out]; exact hlt
      have hgk : S.data.toList[k] = S[k] := by rw [List.getElem?_eq_getElem hkl] at hget; cases hget; rfl
      have HD := Lib.hid (fun W => digit_any S[k] W)
      have HTK := Lib.hid (all_take (p := dgB) hkl)
      cases q : dgB S[k] with
      | true =>
        have HQ := Lib.hid q
        have HGK := Lib.hid hgk
        clear q hgk hget
        go_wp2_with fail
        refine (HD.out _).mono ?_
        rintro e w1 ⟨rfl, rfl⟩
        rw [HQ.out]
        go_wp2_with fail
        go_roundg (gk - 1)
        case measure => have := HG.out; omega
        case rel =>
          obtain ⟨k', hk'⟩ : ∃ k', k' = k + 1 := ⟨_, rfl⟩
          exact ⟨k', by have := HG.out; omega, by rw [hk']; go_num, Lib.hid ⟨rfl, by rw [hk', HTK.out, HA.out, HGK.out, HQ.out]; rfl⟩⟩
      | false =>
        have HR := Lib.hid (show numB S.data.toList = false by
          unfold numB
          have : S.data.toList.all dgB = false := by
            rw [List.all_eq_false]; exact ⟨S.data.toList[k], List.getElem_mem hkl, by rw [hgk, q]; decide⟩
          rw [this]; rfl)
        have HQ := Lib.hid q
        clear q hgk hget
        go_wp2_with fail
        refine (HD.out _).mono ?_
        rintro e w1 ⟨rfl, rfl⟩
        rw [HQ.out]
        go_wp2_with fail
        go_ret
        exact ⟨by rw [HR.out]; rfl, rfl⟩
    · obtain rfl : k = S.size := by omega
      have hall : S.data.toList.all dgB = true := by have := HA.out; rw [List.take_of_length_le (by rw [HLN.out]; exact Nat.le_refl _)] at this; exact this
      by_cases h0 : 0 < S.size
      · have e48 : ((S[0].toNat : Int) != 48) = (S[0] != 48) := by
          have e : ((S[0].toNat : Int) == 48) = (S[0] == 48) := eq_u8 48 (by decide +kernel) _
          rw [bne, e]; rfl
        obtain ⟨hz, hz0⟩ := byte_gt (x := S[0])
        have hge := str_get h0
        by_cases h1 : S.size = 1
        · have HR := Lib.hid (show numB S.data.toList = true by unfold numB; rw [hall, HLN.out, h1]; rfl)
          have g1 : ((S.size : Int) == 1) = true := by rw [h1]; rfl
          clear hall h1 hge e48
          go_wp2_with fail
          go_ret
          exact ⟨by rw [HR.out]; rfl, rfl⟩
        · have h2 : 1 < S.size := by omega
          have HR := Lib.hid (show numB S.data.toList = (S[0] != 48) by unfold numB; rw [hall, HLN.out, hge]; simp [h1, h2])
          have g1 : ((S.size : Int) == 1) = false := by simp; omega
          have g2 : (1 : Int) < (S.size : Int) := by omega
          have g3 : (0 : Int) < (S.size : Int) := by omega
          clear hall hge h1
          go_wp2_with fail
          go_ret
          refine ⟨?_, rfl⟩
          rw [HR.out]
          rfl
      · have hz : S.size = 0 := by omega
        have HR := Lib.hid (show numB S.data.toList = false by unfold numB; rw [hall, HLN.out, hz]; rfl)
        have g1 : ((S.size : Int) == 1) = false := by rw [hz]; rfl
        have g2 : ¬ (1 : Int) < (S.size : Int) := by omega
        have g3 : decide ((1 : Int) < (S.size : Int)) = false := by simpa using g2
        have g4 : decide (1 < S.size) = false := by simp; omega
        clear hall hz
        go_wp2_with fail
        go_ret
        exact ⟨by rw [HR.out]; rfl, rfl⟩
end Go.Proofs.YtdompkenblnjjaaGreat
namespace Go.Proofs.YtdompkenblnjjaaGreat
open Go Go.RowKit

set_option maxRecDepth 100000 in
theorem tw46 (w : List UInt8) (k : Nat) (h : k < w.length) : ((w.drop k).takeWhile (· != 46)).length = if w[k] == 46 then 0 else 1 + ((w.drop (k + 1)).takeWhile (· != 46)).length := by
  rw [List.drop_eq_getElem_cons h, List.takeWhile_cons]
  by_cases e : w[k] = 46
  · simp [e]
  · have h1 : (w[k] != 46) = true := by simpa using e
    have h2 : (w[k] == 46) = false := by simpa using e
    rw [if_pos h1, h2]; simp; omega
set_option maxRecDepth 100000 in
set_option maxHeartbeats 3200000 in
theorem decimal_any (S : ByteArray) (W : World) (hs : S.size ≤ 1048576) : Calls Tryz.prog 76 #[.string S] W fun e w' => e = .returned (.bool (decB S.data.toList)) ∧ W = w' := by
  have hlen : S.data.toList.length = S.size := by simp
  have HLN := Lib.hid hlen
  generalize hp : (S.data.toList.takeWhile (· != 46)).length = p
  have HP := Lib.hid hp
  clear hlen hp
  go_enter Tryz.func76, Tryz.ntmps76
  go_wp2_with fail
  go_loopg [3] (S.size + 1) (fun gk s3 wx => ∃ k : Nat, S.size + 1 ≤ k + gk ∧ k ≤ S.size ∧ s3 = .int .i64 (k : Int) ∧ Hid (wx = W ∧ k + ((S.data.toList.drop k).takeWhile (· != 46)).length = p))
  case atStart => exact ⟨0, by omega, by omega, rfl, Lib.hid ⟨rfl, by simpa using HP.out⟩⟩
  case round =>
    obtain ⟨k, hk, hk2, rfl, HI⟩ := hrel
    obtain ⟨hw, ha⟩ := HI.out
    subst hw
    have HG := Lib.hid hk
    have HA := Lib.hid ha
    clear hk ha HI
    have hrest : k = p → Hid (k = p) := Lib.hid
    by_cases hlt : k < S.size ∧ S.data.toList.getD k 0 ≠ 46
    · obtain ⟨hlt, hne⟩ := hlt
      have i0 : (0 : Int) ≤ (k : Int) := by omega
      have i1 : (k : Int) < (S.size : Int) := by omega
      have hkl : k < S.data.toList.length := by rw [HLN.out]; exact hlt
      have h46 := tw46 S.data.toList k hkl
      have hge : S.data.toList[k] = S[k] := by have := str_get' hlt; rw [List.getElem?_eq_getElem hkl] at this; cases this; rfl
      rw [str_get hlt] at hne
      have e46 : ((S[k].toNat : Int) != 46) = true := by
        have e : ((S[k].toNat : Int) == 46) = (S[k] == 46) := eq_u8 46 (by decide +kernel) _
        rw [bne, e]; simpa using hne
      have H46 := Lib.hid (show ((S.data.toList.drop k).takeWhile (· != 46)).length = 1 + ((S.data.toList.drop (k + 1)).takeWhile (· != 46)).length by
        rw [h46, hge, if_neg (by simpa using hne)])
      clear h46 hge hne
      go_wp2_with fail
      go_roundg (gk - 1)
      case measure => have := HG.out; omega
      case rel =>
        obtain ⟨k', hk'⟩ : ∃ k', k' = k + 1 := ⟨_, rfl⟩
        exact ⟨k', by have := HG.out; omega, by omega, by rw [hk']; go_num, Lib.hid ⟨rfl, by have h1 := HA.out; have h2 := H46.out; rw [hk']; omega⟩⟩
    · have hkp : k = p := by
        have h1 := HA.out
        by_cases hk3 : k < S.size
        · have hkl : k < S.data.toList.length := by rw [HLN.out]; exact hk3
          have h46 := tw46 S.data.toList k hkl
          have he : S.data.toList[k] = 46 := by
            have : ¬ S.data.toList.getD k 0 ≠ 46 := fun h => hlt ⟨hk3, h⟩
            rw [List.getD_eq_getElem?_getD, List.getElem?_eq_getElem hkl] at this
            simpa using this
          rw [h46, he] at h1
          simpa using h1
        · rw [List.drop_of_length_le (by rw [HLN.out]; omega)] at h1
          simpa using h1
      have hstop : (k < S.size ∧ ∃ h : k < S.size, ((S[k]'h).toNat : Int) = 46) ∨ k = S.size := by
        by_cases hk3 : k < S.size
        · left
          refine ⟨hk3, hk3, ?_⟩
          have : ¬ S.data.toList.getD k 0 ≠ 46 := fun h => hlt ⟨hk3, h⟩
          rw [str_get hk3] at this
          have h2 : S[k] = 46 := by simpa using this
          rw [h2]; rfl
        · right; omega
      subst hkp
      have HST := Lib.hid hstop
      clear hlt hstop hrest
      -- the loop ends here
      have HEND : ∀ (a : Act) (w : World), True := fun _ _ => trivial
      clear HEND
      by_cases hk3 : k < S.size
      · obtain ⟨h46, heq⟩ := (HST.out.resolve_right (by omega)).2
        have e46 : ((S[k].toNat : Int) != 46) = false := by rw [bne, heq]; rfl
        have i0 : (0 : Int) ≤ (k : Int) := by omega
        have i1 : (k : Int) < (S.size : Int) := by omega
        clear heq
        by_cases hge : k + 1 < S.size
        · have g1 : decide ((S.size : Int) - 1 ≤ (k : Int)) = false := by simp; omega
          have g2 : ¬ (S.size : Int) - 1 ≤ (k : Int) := by omega
          have i2 : (k : Int) ≤ (S.size : Int) := by omega
          have hXl : (S.extract 0 k).data.toList = S.data.toList.take k := by rw [ext_take]
          have hXs : (S.extract 0 k).size ≤ 1048576 := by
            have h1 : ∀ Z : ByteArray, Z.data.toList.length = Z.size := fun Z => by simp
            have h2 := h1 (S.extract 0 k)
            rw [hXl] at h2
            have h3 := List.length_take_le k S.data.toList
            omega
          have HNM := Lib.hid (fun W => numeral_any (S.extract 0 k) W hXs)
          have HXL := Lib.hid hXl
          have hdB := Lib.hid (show decB S.data.toList = (numB (S.data.toList.take k) && (S.data.toList.drop (k + 1)).all dgB) by
            unfold decB; rw [HP.out, HLN.out]; simp [hge])
          clear hXl hXs
          cases q : numB (S.data.toList.take k) with
          | false =>
            have HQ := Lib.hid (show numB (S.extract 0 k).data.toList = false by rw [HXL.out]; exact q)
            have HR := Lib.hid (show decB S.data.toList = false by rw [hdB.out, q]; rfl)
            clear q
            go_wp2_with fail
            refine (HNM.out _).mono ?_
            rintro e w1 ⟨rfl, rfl⟩
            rw [HQ.out]
            go_wp2_with fail
            go_ret
            exact ⟨by rw [HR.out]; rfl, rfl⟩
          | true =>
            have HQ := Lib.hid (show numB (S.extract 0 k).data.toList = true by rw [HXL.out]; exact q)
            have HR := Lib.hid (show decB S.data.toList = (S.data.toList.drop (k + 1)).all dgB by rw [hdB.out, q]; rfl)
            clear q
            go_wp2_with fail
            refine (HNM.out _).mono ?_
            rintro e w1 ⟨rfl, rfl⟩
            rw [HQ.out]
            go_wp2_with fail
            go_loopg [4] S.size (fun ik s4 wx => ∃ j : Nat, S.size ≤ j + ik ∧ j ≤ S.size ∧ s4 = .int .i64 (j : Int) ∧ Hid (wx = wr ∧ (S.data.toList.drop (k + 1)).all dgB = (S.data.toList.drop j).all dgB))
            case atStart => exact ⟨k + 1, by omega, by omega, by go_num, Lib.hid ⟨rfl, rfl⟩⟩
            case round =>
              obtain ⟨j, hj, hj2, rfl, HI⟩ := hrel
              obtain ⟨hw, ha⟩ := HI.out
              subst hw
              have HJ := Lib.hid hj
              have HA2 := Lib.hid ha
              clear hj ha HI
              by_cases hjl : j < S.size
              · have m0 : (0 : Int) ≤ (j : Int) := by omega
                have m1 : (j : Int) < (S.size : Int) := by omega
                have hkl : j < S.data.toList.length := by rw [HLN.out]; exact hjl
                have hgj : S.data.toList[j] = S[j] := by have := str_get' hjl; rw [List.getElem?_eq_getElem hkl] at this; cases this; rfl
                have HDJ := Lib.hid (show (S.data.toList.drop j).all dgB = (dgB S[j] && (S.data.toList.drop (j + 1)).all dgB) by
                  rw [List.drop_eq_getElem_cons hkl, List.all_cons, hgj])
                have HD := Lib.hid (fun W => digit_any S[j] W)
                clear hgj
                cases q : dgB S[j] with
                | true =>
                  have HQ2 := Lib.hid q
                  clear q
                  go_wp2_with fail
                  refine (HD.out _).mono ?_
                  rintro e w1 ⟨rfl, rfl⟩
                  rw [HQ2.out]
                  go_wp2_with fail
                  go_roundg (gk - 1)
                  case measure => have := HJ.out; omega
                  case rel =>
                    obtain ⟨j', hj'⟩ : ∃ j', j' = j + 1 := ⟨_, rfl⟩
                    exact ⟨j', by have := HJ.out; omega, by omega, by rw [hj']; go_num, Lib.hid ⟨rfl, by rw [HA2.out, HDJ.out, HQ2.out, hj']; rfl⟩⟩
                | false =>
                  have HQ2 := Lib.hid q
                  clear q
                  have HR2 := Lib.hid (show decB S.data.toList = false by rw [HR.out, HA2.out, HDJ.out, HQ2.out]; rfl)
                  go_wp2_with fail
                  refine (HD.out _).mono ?_
                  rintro e w1 ⟨rfl, rfl⟩
                  rw [HQ2.out]
                  go_wp2_with fail
                  go_ret
                  exact ⟨by rw [HR2.out]; rfl, rfl⟩
              · have HR2 := Lib.hid (show decB S.data.toList = true by rw [HR.out, HA2.out, List.drop_of_length_le (by rw [HLN.out]; omega)]; rfl)
                have m1 : ¬ (j : Int) < (S.size : Int) := by omega
                have m2 : decide (j < S.size) = false := by simp; omega
                go_wp2_with fail
                go_ret
                exact ⟨by rw [HR2.out]; rfl, rfl⟩
        · have g1 : decide ((S.size : Int) - 1 ≤ (k : Int)) = true := by simp; omega
          have g2 : (S.size : Int) - 1 ≤ (k : Int) := by omega
          have HR := Lib.hid (show decB S.data.toList = false by unfold decB; rw [HP.out, HLN.out]; simp; omega)
          go_wp2_with fail
          go_ret
          exact ⟨by rw [HR.out]; rfl, rfl⟩
      · have hks : k = S.size := by omega
        have g1 : decide ((S.size : Int) - 1 ≤ (k : Int)) = true := by simp; omega
        have g2 : (S.size : Int) - 1 ≤ (k : Int) := by omega
        have g3 : ¬ (k : Int) < (S.size : Int) := by omega
        have g4 : decide ((k : Int) < (S.size : Int)) = false := by simpa using g3
        have g5 : decide (k < S.size) = false := by simp; omega
        have HR := Lib.hid (show decB S.data.toList = false by unfold decB; rw [HP.out, HLN.out]; simp; omega)
        clear hks
        go_wp2_with fail
        go_ret
        exact ⟨by rw [HR.out]; rfl, rfl⟩
set_option maxRecDepth 100000 in
theorem hx_i (x : UInt8) (h : dgB x = false) : hxB x = ((decide ((97 : Int) ≤ (x.toNat : Int)) && decide ((x.toNat : Int) ≤ 102)) || (decide ((65 : Int) ≤ (x.toNat : Int)) && decide ((x.toNat : Int) ≤ 70))) ∧ ((x.toNat : Int) == 48) = false ∧ ((x.toNat : Int) == 49) = false := by
  have := u8_all (p := fun x => dgB x || ((hxB x == ((decide ((97 : Int) ≤ (x.toNat : Int)) && decide ((x.toNat : Int) ≤ 102)) || (decide ((65 : Int) ≤ (x.toNat : Int)) && decide ((x.toNat : Int) ≤ 70)))) && (!((x.toNat : Int) == 48) && !((x.toNat : Int) == 49)))) (by decide +kernel) x
  rw [h] at this
  simp only [Bool.false_or, Bool.and_eq_true, Bool.not_eq_true'] at this
  exact ⟨eq_of_beq this.1, this.2⟩
set_option maxRecDepth 100000 in
set_option maxHeartbeats 12800000 in
theorem number_any (S : ByteArray) (W : World) (hs : S.size ≤ 1048576) : Calls Tryz.prog 73 #[.string S] W fun e w' => e = .returned (.bool (nbB S.data.toList)) ∧ W = w' := by
  have hlen : S.data.toList.length = S.size := by simp
  have HLN := Lib.hid hlen
  clear hlen
  by_cases h2 : S.size < 2
  · have g1 : (S.size : Int) < 2 := by omega
    have HR := Lib.hid (show nbB S.data.toList = false by unfold nbB; rw [HLN.out, decide_eq_false (by omega)]; rfl)
    go_enter Tryz.func73, Tryz.ntmps73
    go_wp2_with fail
    go_ret
    exact ⟨by rw [HR.out]; rfl, rfl⟩
  · have g1 : ¬ (S.size : Int) < 2 := by omega
    have g2 : decide ((S.size : Int) < 2) = false := by simpa using g1
    have g3 : (0 : Int) < (S.size : Int) := by omega
    have h0 : 0 < S.size := by omega
    obtain ⟨hz, hz0⟩ := byte_gt (x := S[0])
    have f120 : ((S[0].toNat : Int) == 120) = (S[0] == 120) := eq_u8 120 (by decide +kernel) _
    have f98 : ((S[0].toNat : Int) == 98) = (S[0] == 98) := eq_u8 98 (by decide +kernel) _
    have HR := Lib.hid (show nbB S.data.toList = (S.data.toList.drop 1).all (nbC S[0]) by
      unfold nbB; rw [HLN.out, str_get h0, decide_eq_true (by omega)]; rfl)
    go_enter Tryz.func73, Tryz.ntmps73
    go_wp2_with fail
    go_loopg [3, 4, 5, 6] S.size (fun ik s3 s4 s5 s6 wx => ∃ j : Nat, S.size ≤ j + ik ∧ j ≤ S.size ∧ s3 = .int .i64 (j : Int) ∧ Hid (wx = W ∧ (S.data.toList.drop 1).all (nbC S[0]) = (S.data.toList.drop j).all (nbC S[0])))
    case atStart => exact ⟨1, by omega, by omega, rfl, Lib.hid ⟨rfl, rfl⟩⟩
    case round =>
      obtain ⟨j, hj, hj2, rfl, HI⟩ := hrel
      obtain ⟨hw, ha⟩ := HI.out
      subst hw
      have HJ := Lib.hid hj
      have HA2 := Lib.hid ha
      clear hj ha HI
      by_cases hjl : j < S.size
      · have m0 : (0 : Int) ≤ (j : Int) := by omega
        have m1 : (j : Int) < (S.size : Int) := by omega
        have hkl : j < S.data.toList.length := by rw [HLN.out]; exact hjl
        have hgj : S.data.toList[j] = S[j] := by have := str_get' hjl; rw [List.getElem?_eq_getElem hkl] at this; cases this; rfl
        have HDJ := Lib.hid (show (S.data.toList.drop j).all (nbC S[0]) = (nbC S[0] S[j] && (S.data.toList.drop (j + 1)).all (nbC S[0])) by
          rw [List.drop_eq_getElem_cons hkl, List.all_cons, hgj])
        obtain ⟨hz2, hz3⟩ := byte_gt (x := S[j])
        have HD := Lib.hid (fun W => digit_any S[j] W)
        have HX := Lib.hid (hx_i S[j])
        have HD2 := Lib.hid (show dgB S[j] = true → hxB S[j] = true from fun h => by unfold hxB; rw [h]; rfl)
        have b48 : ((S[j].toNat : Int) == 48) = (S[j] == 48) := eq_u8 48 (by decide +kernel) _
        have b49 : ((S[j].toNat : Int) == 49) = (S[j] == 49) := eq_u8 49 (by decide +kernel) _
        have HB := Lib.hid (And.intro b48 b49)
        clear hgj b48 b49
        have hf : (S[0] == 120) = true ∧ (S[0] == 98) = false ∨ (S[0] == 120) = false ∧ (S[0] == 98) = true ∨ (S[0] == 120) = false ∧ (S[0] == 98) = false := by
          cases h : (S[0] == 120) with
          | true => left; refine ⟨rfl, ?_⟩; rw [eq_of_beq h]; decide
          | false => cases h2 : (S[0] == 98) <;> simp
        have HF := Lib.hid (show nbC S[0] S[j] = ((S[0] == 120 && hxB S[j]) || (S[0] == 98 && (S[j] == 48 || S[j] == 49))) from rfl)
        rcases hf with ⟨f1, f2⟩ | ⟨f1, f2⟩ | ⟨f1, f2⟩ <;>
        (rw [f1] at f120
         rw [f2] at f98
         cases q : dgB S[j] with
         | true =>
           have HQ := Lib.hid q
           have HHX := Lib.hid (HD2.out q)
           clear q
           cases q1 : ((S[j].toNat : Int) == 48) <;> cases q2 : ((S[j].toNat : Int) == 49) <;>
           (have HV := Lib.hid (show nbC S[0] S[j] = _ by rw [HF.out, f1, f2, HHX.out, ← HB.out.1, ← HB.out.2, q1, q2])
            clear f1 f2
            go_wp2_with fail
            refine (HD.out _).mono ?_
            rintro e w1 ⟨rfl, rfl⟩
            rw [HQ.out]
            go_wp2_with fail
            first
              | (go_roundg (gk - 1)
                 case measure => have := HJ.out; omega
                 case rel =>
                   obtain ⟨j', hj'⟩ : ∃ j', j' = j + 1 := ⟨_, rfl⟩
                   exact ⟨j', by have := HJ.out; omega, by omega, by rw [hj']; go_num, Lib.hid ⟨rfl, by rw [HA2.out, HDJ.out, HV.out, hj']; rfl⟩⟩)
              | (go_ret
                 exact ⟨by rw [HR.out, HA2.out, HDJ.out, HV.out]; rfl, rfl⟩))
         | false =>
           have HQ := Lib.hid q
           obtain ⟨x1, x2, x3⟩ := HX.out q
           have HX1 := Lib.hid x1
           clear q x1
           cases q1 : decide ((97 : Int) ≤ (S[j].toNat : Int)) <;> cases q2 : decide ((S[j].toNat : Int) ≤ 102) <;> cases q3 : decide ((65 : Int) ≤ (S[j].toNat : Int)) <;> cases q4 : decide ((S[j].toNat : Int) ≤ 70) <;>
           (have HV := Lib.hid (show nbC S[0] S[j] = _ by rw [HF.out, f1, f2, HX1.out, ← HB.out.1, ← HB.out.2, x2, x3, q1, q2, q3, q4])
            clear f1 f2
            go_wp2_with fail
            refine (HD.out _).mono ?_
            rintro e w1 ⟨rfl, rfl⟩
            rw [HQ.out]
            go_wp2_with fail
            first
              | (go_roundg (gk - 1)
                 case measure => have := HJ.out; omega
                 case rel =>
                   obtain ⟨j', hj'⟩ : ∃ j', j' = j + 1 := ⟨_, rfl⟩
                   exact ⟨j', by have := HJ.out; omega, by omega, by rw [hj']; go_num, Lib.hid ⟨rfl, by rw [HA2.out, HDJ.out, HV.out, hj']; rfl⟩⟩)
              | (go_ret
                 exact ⟨by rw [HR.out, HA2.out, HDJ.out, HV.out]; rfl, rfl⟩)))
      · have HR2 := Lib.hid (show nbB S.data.toList = true by rw [HR.out, HA2.out, List.drop_of_length_le (by rw [HLN.out]; omega)]; rfl)
        have m1 : ¬ (j : Int) < (S.size : Int) := by omega
        have m2 : decide (j < S.size) = false := by simp; omega
        clear f120 f98
        go_wp2_with fail
        go_ret
        exact ⟨by rw [HR2.out]; rfl, rfl⟩
end Go.Proofs.YtdompkenblnjjaaGreat
namespace Go.Proofs.YtdompkenblnjjaaGreat
open Go Go.RowKit

/-- what a text between two marks answers -/
def QuoP (r : Res) (W : World) (e : Ending) (w' : World) : Prop := W = w' ∧ match r with
  | .tok _ t n => ∃ X : ByteArray, e = .returned (.tuple #[.string X, .int .i64 (n : Int), .int .i64 0]) ∧ X.data.toList = t
  | .err er => ∃ X : ByteArray, e = .returned (.tuple #[.string X, .int .i64 0, .int .i64 (er : Int)])
set_option maxRecDepth 100000 in
theorem app_dataY (A B : ByteArray) : (A ++ B).data.toList = A.data.toList ++ B.data.toList := by simp
set_option maxRecDepth 100000 in
theorem one_str {bs : List UInt8} {i : Nat} (h : i < bs.length) : (⟨((bs.drop i).take (i + 1 - i)).toArray⟩ : ByteArray).data.toList = [bs[i]] := by
  have e : (bs.drop i).take (i + 1 - i) = [bs[i]] := by rw [show i + 1 - i = 1 by omega, List.drop_eq_getElem_cons h]; rfl
  rw [e]
set_option maxRecDepth 100000 in
set_option maxHeartbeats 3200000 in
theorem refbar_any (p : Option Addr) (c : Nat) (bs : List UInt8) (a : Nat) (W : World) (hb : BytesIn W p bs) (hk : bs.length ≤ c) (ha : a < bs.length) (hn : bs.length ≤ 1048576) :
    Calls Tryz.prog 71 #[.slice p bs.length c, .int .i64 (a : Int), .int .u8 124] W (QuoP (quo [] (bs.drop (a + 1))) W) := by
  have HB := Lib.hid hb
  have HKc := Lib.hid hk
  generalize hQ : quo [] (bs.drop (a + 1)) = Q
  have HQ := Lib.hid hQ
  obtain ⟨n, hnl⟩ : ∃ n, n = bs.length := ⟨_, rfl⟩
  have HL := Lib.hid hnl
  rw [← hnl] at ha hn hk ⊢
  clear hb hnl hQ
  go_enter Tryz.func71, Tryz.ntmps71
  go_wp2_with fail
  obtain ⟨P, hP⟩ : ∃ P, P = a + 1 := ⟨_, rfl⟩
  have hPi : (a : Int) + 1 = (P : Int) := by omega
  rw [hPi]
  have HP := Lib.hid hP
  have HQ2 := Lib.hid (show quo [] (bs.drop P) = Q by rw [hP]; exact HQ.out)
  clear hP hPi HQ
  go_loopg [9, 10, 11] (n + 1) (fun gk s9 s10 s11 wx => ∃ (i : Nat) (Y : ByteArray), n + 1 ≤ i + gk ∧ i ≤ n ∧ s10 = .int .i64 (i : Int) ∧ s9 = .string Y ∧ Hid (wx = W ∧ P ≤ i ∧ Y.data.toList.length + P = i ∧ quo Y.data.toList (bs.drop i) = Q))
  case atStart => exact ⟨P, ⟨#[]⟩, by omega, by have := HP.out; omega, rfl, rfl, Lib.hid ⟨rfl, Nat.le_refl _, by simp, HQ2.out⟩⟩
  case round =>
    obtain ⟨i, Y, hg, hi, rfl, rfl, HI⟩ := hrel
    obtain ⟨hw, hPi, hYl, hq⟩ := HI.out
    subst hw
    have HG := Lib.hid hg
    have HE := Lib.hid hq
    have HY := Lib.hid hYl
    have HPI := Lib.hid hPi
    have hYs : Y.size ≤ 1048576 := by
      have h1 : Y.data.toList.length = Y.size := by simp
      omega
    clear hg hq hYl hPi HI
    by_cases hlt : i < n
    · have i0 : (0 : Int) ≤ (i : Int) := by omega
      have i1 : (i : Int) < (n : Int) := by omega
      have hib : i < bs.length := by have := HL.out; omega
      have hd := drop_at hib
      obtain ⟨b, off, rfl, cb⟩ := HB.out i hib
      obtain ⟨V, hsl, hcv0⟩ := slice_conv wr _ bs c i (i + 1) HB.out (by omega) (by omega) HKc.out
      have hcv := hcv0 wr (Below.refl _ _)
      have hos := one_str hib
      rw [← HL.out, show ((i + 1 : Nat) : Int) = (i : Int) + 1 by omega] at hsl
      generalize hZ : (⟨((bs.drop i).take (i + 1 - i)).toArray⟩ : ByteArray) = Z at hcv hos
      obtain ⟨hz, hz0⟩ := byte_gt (x := bs[i])
      have e124 : ((bs[i].toNat : Int) == 124) = (bs[i] == 124) := eq_u8 124 (by decide +kernel) _
      have e92 : ((bs[i].toNat : Int) == 92) = (bs[i] == 92) := eq_u8 92 (by decide +kernel) _
      generalize bs[i] = x at *
      have HD := Lib.hid hd
      have HOS := Lib.hid hos
      have HIN := Lib.hid (fun W => inner_any x W)
      have hZs : Z.size ≤ 1 := by
        have h1 : Z.data.toList.length = Z.size := by simp
        rw [← h1, hos]; simp
      clear hd hos hcv0 hZ
      cases q1 : (x == 124) with
      | true =>
        rw [q1] at e124
        have HRES := Lib.hid (show Q = .tok 3 Y.data.toList (Y.data.toList.length + 2) by
          have := HE.out; rw [HD.out] at this; simp only [quo, q1, if_true] at this; exact this.symm)
        clear q1 e92
        have hle : (a : Int) ≤ (i : Int) := by have := HPI.out; have := HP.out; omega
        go_wp2_with fail
        go_ret3
        refine ⟨rfl, ?_⟩
        rw [HRES.out]
        refine ⟨Y, ?_, rfl⟩
        have hnum : ((Y.data.toList.length + 2 : Nat) : Int) = (i : Int) + 1 - (a : Int) := by have := HY.out; have := HP.out; omega
        rw [hnum]; rfl
      | false =>
        rw [q1] at e124
        cases q3 : txB x with
        | false =>
          have HRES := Lib.hid (show Q = .err 30 by
            have := HE.out; rw [HD.out] at this; simp only [quo, q1, q3] at this; simpa using this.symm)
          have HQ3 := Lib.hid q3
          clear q1 q3
          go_wp2_with fail
          refine (HIN.out _).mono ?_
          rintro e w1 ⟨rfl, rfl⟩
          rw [HQ3.out]
          go_wp2_with fail
          go_ret3
          exact ⟨rfl, by rw [HRES.out]; exact ⟨_, rfl⟩⟩
        | true =>
          have HQ3 := Lib.hid q3
          cases q2 : (x == 92) with
          | true =>
            rw [q2] at e92
            have HRES := Lib.hid (show Q = .err 30 by
              have := HE.out; rw [HD.out] at this; simp only [quo, q1, q2] at this; simpa using this.symm)
            clear q1 q2 q3
            go_wp2_with fail
            refine (HIN.out _).mono ?_
            rintro e w1 ⟨rfl, rfl⟩
            rw [HQ3.out]
            go_wp2_with fail
            go_ret3
            exact ⟨rfl, by rw [HRES.out]; exact ⟨_, rfl⟩⟩
          | false =>
            rw [q2] at e92
            have HRES := Lib.hid (show quo (Y.data.toList ++ [x]) (bs.drop (i + 1)) = Q by
              have := HE.out; rw [HD.out] at this; simp only [quo, q1, q2, q3] at this; simpa using this)
            clear q1 q2 q3
            go_wp2_with fail
            refine (HIN.out _).mono ?_
            rintro e w1 ⟨rfl, rfl⟩
            rw [HQ3.out]
            go_wp2_with fail
            go_roundg (gk - 1)
            case measure => have := HG.out; omega
            case rel =>
              obtain ⟨i', hi'⟩ : ∃ i', i' = i + 1 := ⟨_, rfl⟩
              have h1 := HY.out
              have h2 := HPI.out
              refine ⟨i', _, by have := HG.out; omega, by omega, by rw [hi']; go_num, rfl, Lib.hid ⟨rfl, by omega, ?_, ?_⟩⟩
              · rw [app_dataY, HOS.out]; simp only [List.length_append, List.length_cons, List.length_nil]; omega
              · rw [app_dataY, HOS.out, hi']; exact HRES.out
    · have HRES := Lib.hid (show Q = .err 31 by
        have := HE.out; rw [List.drop_of_length_le (show bs.length ≤ i by have := HL.out; omega)] at this; simp only [quo] at this; exact this.symm)
      have i1 : ¬ (i : Int) < (n : Int) := by omega
      go_wp2_with fail
      go_ret3
      exact ⟨rfl, by rw [HRES.out]; exact ⟨_, rfl⟩⟩
end Go.Proofs.YtdompkenblnjjaaGreat
namespace Go.Proofs.YtdompkenblnjjaaGreat
open Go Go.RowKit

set_option maxRecDepth 100000 in
set_option maxHeartbeats 3200000 in
theorem refmark_any (p : Option Addr) (c : Nat) (bs : List UInt8) (a : Nat) (W : World) (hb : BytesIn W p bs) (hk : bs.length ≤ c) (ha : a < bs.length) (hn : bs.length ≤ 1048576) :
    Calls Tryz.prog 71 #[.slice p bs.length c, .int .i64 (a : Int), .int .u8 34] W (QuoP (lit false [] 1 (bs.drop (a + 1))) W) := by
  have HB := Lib.hid hb
  have HKc := Lib.hid hk
  generalize hQ : lit false [] 1 (bs.drop (a + 1)) = Q
  have HQ := Lib.hid hQ
  obtain ⟨n, hnl⟩ : ∃ n, n = bs.length := ⟨_, rfl⟩
  have HL := Lib.hid hnl
  rw [← hnl] at ha hn hk ⊢
  clear hb hnl hQ
  go_enter Tryz.func71, Tryz.ntmps71
  go_wp2_with fail
  obtain ⟨P, hP⟩ : ∃ P, P = a + 1 := ⟨_, rfl⟩
  have hPi : (a : Int) + 1 = (P : Int) := by omega
  rw [hPi]
  have HP := Lib.hid hP
  have HQ2 := Lib.hid (show lit false [] (P - a) (bs.drop P) = Q by rw [hP, Nat.add_sub_cancel_left]; exact HQ.out)
  clear hP hPi HQ
  go_loopg [9, 10, 11] (n + 1) (fun gk s9 s10 s11 wx => ∃ (i : Nat) (Y : ByteArray), n + 1 ≤ i + gk ∧ i ≤ n ∧ s10 = .int .i64 (i : Int) ∧ s9 = .string Y ∧ Hid (wx = W ∧ P ≤ i ∧ Y.data.toList.length + P ≤ i ∧ lit false Y.data.toList (i - a) (bs.drop i) = Q))
  case atStart => exact ⟨P, ⟨#[]⟩, by omega, by have := HP.out; omega, rfl, rfl, Lib.hid ⟨rfl, Nat.le_refl _, by simp, HQ2.out⟩⟩
  case round =>
    obtain ⟨i, Y, hg, hi, rfl, rfl, HI⟩ := hrel
    obtain ⟨hw, hPi, hYl, hq⟩ := HI.out
    subst hw
    have HG := Lib.hid hg
    have HE := Lib.hid hq
    have HY := Lib.hid hYl
    have HPI := Lib.hid hPi
    have hYs : Y.size ≤ 1048576 := by
      have h1 : Y.data.toList.length = Y.size := by simp
      omega
    clear hg hq hYl hPi HI
    by_cases hlt : i < n
    · have i0 : (0 : Int) ≤ (i : Int) := by omega
      have i1 : (i : Int) < (n : Int) := by omega
      have hib : i < bs.length := by have := HL.out; omega
      have hd := drop_at hib
      obtain ⟨b, off, rfl, cb⟩ := HB.out i hib
      obtain ⟨V, hsl, hcv0⟩ := slice_conv wr _ bs c i (i + 1) HB.out (by omega) (by omega) HKc.out
      have hcv := hcv0 wr (Below.refl _ _)
      have hos := one_str hib
      rw [← HL.out, show ((i + 1 : Nat) : Int) = (i : Int) + 1 by omega] at hsl
      generalize hZ : (⟨((bs.drop i).take (i + 1 - i)).toArray⟩ : ByteArray) = Z at hcv hos
      obtain ⟨hz, hz0⟩ := byte_gt (x := bs[i])
      have e34 : ((bs[i].toNat : Int) == 34) = (bs[i] == 34) := eq_u8 34 (by decide +kernel) _
      generalize bs[i] = x at *
      have HD := Lib.hid hd
      have HOS := Lib.hid hos
      have HIN := Lib.hid (fun W => inner_any x W)
      have hZs : Z.size ≤ 1 := by
        have h1 : Z.data.toList.length = Z.size := by simp
        rw [← h1, hos]; simp
      clear hd hos hcv0 hZ
      have hai : a < i := by have := HPI.out; have := HP.out; omega
      cases q1 : (x == 34) with
      | true =>
        rw [q1] at e34
        have hx : x = 34 := eq_of_beq q1
        have ht34 : txB 34 = true := by decide
        have HE2 := Lib.hid (show lit true Y.data.toList (i + 1 - a) (bs.drop (i + 1)) = Q by
          have := HE.out; rw [HD.out, hx] at this; simp only [lit, ht34] at this
          rw [show i + 1 - a = i - a + 1 by omega]; simpa using this)
        have hle : (a : Int) ≤ (i : Int) := by omega
        have HX := Lib.hid hx
        clear q1 hx ht34
        by_cases hlt2 : i + 1 < n
        · have hib2 : i + 1 < bs.length := by have := HL.out; omega
          have hd2 := drop_at hib2
          obtain ⟨b2, off2, e2, cb2⟩ := HB.out (i + 1) hib2
          cases e2
          have i2 : (i : Int) + 1 < (n : Int) := by omega
          have i3 : ((i : Int) + 1).toNat = i + 1 := by omega
          obtain ⟨hz2, hz3⟩ := byte_gt (x := bs[i + 1])
          have e342 : ((bs[i + 1].toNat : Int) == 34) = (bs[i + 1] == 34) := eq_u8 34 (by decide +kernel) _
          generalize bs[i + 1] = x2 at *
          have HD2 := Lib.hid hd2
          clear hd2
          cases q2 : (x2 == 34) with
          | true =>
            rw [q2] at e342
            have HRES := Lib.hid (show lit false (Y.data.toList ++ [x]) (i + 2 - a) (bs.drop (i + 2)) = Q by
              have := HE2.out; rw [HD2.out] at this; simp only [lit, q2] at this
              rw [HX.out, show i + 2 - a = i + 1 - a + 1 by omega]; simpa using this)
            clear q2
            go_wp2_with fail
            go_roundg (gk - 2)
            case measure => have := HG.out; omega
            case rel =>
              obtain ⟨i', hi'⟩ : ∃ i', i' = i + 2 := ⟨_, rfl⟩
              have h1 := HY.out
              have h2 := HPI.out
              refine ⟨i', _, by have := HG.out; omega, by omega, by rw [hi']; go_num, rfl, Lib.hid ⟨rfl, by omega, ?_, ?_⟩⟩
              · rw [app_dataY, HOS.out]; simp only [List.length_append, List.length_cons, List.length_nil]; omega
              · rw [app_dataY, HOS.out, hi']; exact HRES.out
          | false =>
            rw [q2] at e342
            have HRES := Lib.hid (show Q = .tok 5 Y.data.toList (i + 1 - a) by
              have := HE2.out; rw [HD2.out] at this; simp only [lit, q2] at this; simpa using this.symm)
            clear q2
            go_wp2_with fail
            go_ret3
            refine ⟨rfl, ?_⟩
            rw [HRES.out]
            refine ⟨Y, ?_, rfl⟩
            have hnum : ((i + 1 - a : Nat) : Int) = (i : Int) + 1 - (a : Int) := by omega
            rw [hnum]; rfl
        · have HRES := Lib.hid (show Q = .tok 5 Y.data.toList (i + 1 - a) by
            have := HE2.out; rw [List.drop_of_length_le (show bs.length ≤ i + 1 by have := HL.out; omega)] at this; simp only [lit] at this; exact this.symm)
          have i2 : ¬ (i : Int) + 1 < (n : Int) := by omega
          have i3 : decide ((i : Int) + 1 < (n : Int)) = false := by simpa using i2
          go_wp2_with fail
          go_ret3
          refine ⟨rfl, ?_⟩
          rw [HRES.out]
          refine ⟨Y, ?_, rfl⟩
          have hnum : ((i + 1 - a : Nat) : Int) = (i : Int) + 1 - (a : Int) := by omega
          rw [hnum]; rfl
      | false =>
        rw [q1] at e34
        cases q3 : txB x with
        | false =>
          have HRES := Lib.hid (show Q = .err 30 by
            have := HE.out; rw [HD.out] at this; simp only [lit, q3] at this; simpa using this.symm)
          have HQ3 := Lib.hid q3
          clear q1 q3
          go_wp2_with fail
          refine (HIN.out _).mono ?_
          rintro e w1 ⟨rfl, rfl⟩
          rw [HQ3.out]
          go_wp2_with fail
          go_ret3
          exact ⟨rfl, by rw [HRES.out]; exact ⟨_, rfl⟩⟩
        | true =>
          have HQ3 := Lib.hid q3
          have HRES := Lib.hid (show lit false (Y.data.toList ++ [x]) (i + 1 - a) (bs.drop (i + 1)) = Q by
            have := HE.out; rw [HD.out] at this; simp only [lit, q1, q3] at this
            rw [show i + 1 - a = i - a + 1 by omega]; simpa using this)
          clear q1 q3
          go_wp2_with fail
          refine (HIN.out _).mono ?_
          rintro e w1 ⟨rfl, rfl⟩
          rw [HQ3.out]
          go_wp2_with fail
          go_roundg (gk - 1)
          case measure => have := HG.out; omega
          case rel =>
            obtain ⟨i', hi'⟩ : ∃ i', i' = i + 1 := ⟨_, rfl⟩
            have h1 := HY.out
            have h2 := HPI.out
            refine ⟨i', _, by have := HG.out; omega, by omega, by rw [hi']; go_num, rfl, Lib.hid ⟨rfl, by omega, ?_, ?_⟩⟩
            · rw [app_dataY, HOS.out]; simp only [List.length_append, List.length_cons, List.length_nil]; omega
            · rw [app_dataY, HOS.out, hi']; exact HRES.out
    · have HRES := Lib.hid (show Q = .err 31 by
        have := HE.out; rw [List.drop_of_length_le (show bs.length ≤ i by have := HL.out; omega)] at this; simp only [lit] at this; exact this.symm)
      have i1 : ¬ (i : Int) < (n : Int) := by omega
      go_wp2_with fail
      go_ret3
      exact ⟨rfl, by rw [HRES.out]; exact ⟨_, rfl⟩⟩
end Go.Proofs.YtdompkenblnjjaaGreat
