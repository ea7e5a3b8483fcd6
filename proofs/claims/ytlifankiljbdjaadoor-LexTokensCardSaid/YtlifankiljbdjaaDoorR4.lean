/- The document's numerals, decimals, numbers after a hash. -/
import Derived.Test.YtlifankiljbdjaaDoorR2
import Derived.Test.YtlifankiljbdjaaDoorW7
namespace Go.Proofs.YtlifankiljbdjaaDoor
open Go Go.RowKit

def numB (w : List UInt8) : Bool := w.all dgB && (decide (w.length = 1) || (decide (1 < w.length) && (w.getD 0 0 != 48)))
def decB (w : List UInt8) : Bool := decide ((w.takeWhile (· != 46)).length + 1 < w.length) && (numB (w.take (w.takeWhile (· != 46)).length) && (w.drop ((w.takeWhile (· != 46)).length + 1)).all dgB)
def nbC (f c : UInt8) : Bool := (f == 120 && hxB c) || (f == 98 && (c == 48 || c == 49))
def nbB (w : List UInt8) : Bool := decide (2 ≤ w.length) && (w.drop 1).all (nbC (w.getD 0 0))
theorem numB_eq (v : List UInt8) (hne : v ≠ []) : numB v = (allB dgB v && !(v.getD 0 0 == 48 && decide (1 < v.length))) := by
  have hl : 0 < v.length := List.length_pos_iff.2 hne
  unfold numB allB
  have he : v.isEmpty = false := by cases v with | nil => exact absurd rfl hne | cons => rfl
  rw [he]
  cases v.all dgB with
  | false => simp
  | true =>
    by_cases h1 : v.length = 1
    · simp [h1]
    · have h2 : 1 < v.length := by omega
      simp only [h1, h2, decide_true, decide_false, Bool.true_and, Bool.false_or, Bool.not_false, Bool.and_true]
      rfl
theorem plainR_ref {w : List UInt8} (hne : w ≠ []) (hd : dgB (w.getD 0 0) = true) : plainR w = if numB w then .tok 4 w w.length else if decB w then .tok 7 w w.length else .err 5 := by
  have hl : 0 < w.length := List.length_pos_iff.2 hne
  unfold plainR
  rw [if_neg (by rw [hd]; decide)]
  simp only
  rcases index_tw 46 w with ⟨h1, _, h3⟩ | ⟨h1, _, h3, h4⟩
  · rw [h3, h1]
    have hdc : decB w = false := by unfold decB; rw [h3, decide_eq_false (show ¬ w.length + 1 < w.length by omega)]; rfl
    rw [numB_eq w hne, hdc]
    cases allB dgB w <;> cases (w.getD 0 0 == 48 && decide (1 < w.length)) <;> rfl
  · have hall : w.all dgB = false := by
      rw [List.all_eq_false]
      exact ⟨46, by simpa using h1, by decide⟩
    have hnum : numB w = false := by unfold numB; rw [hall]; rfl
    have hwt : w.takeWhile (· != 46) = w.take (w.takeWhile (· != 46)).length := List.prefix_iff_eq_take.1 (List.takeWhile_prefix _)
    have hwne : w.takeWhile (· != 46) ≠ [] := by
      cases w with
      | nil => exact absurd rfl hne
      | cons c w =>
        have hc : (c != 46) = true := by
          rw [bne_iff_ne]; intro e; subst e; exact absurd (show dgB 46 = true from hd) (by decide)
        rw [List.takeWhile_cons, if_pos hc]; simp
    rw [h1, hnum, h4, List.drop_drop]
    unfold decB
    rw [← hwt, numB_eq _ hwne]
    generalize (w.takeWhile (· != 46)).length = p at *
    have hpe : allB dgB (w.drop (p + 1)) = (decide (p + 1 < w.length) && (w.drop (p + 1)).all dgB) := by
      unfold allB
      by_cases h : p + 1 < w.length
      · have : (w.drop (p + 1)).isEmpty = false := by
          cases hh : w.drop (p + 1) with
          | nil => have := congrArg List.length hh; simp at this; omega
          | cons => rfl
        rw [this]; simp [h]
      · rw [List.drop_of_length_le (by omega)]; simp [h]
    rw [hpe]
    generalize ((w.takeWhile (· != 46)).getD 0 0 == 48 && decide (1 < p)) = zz
    cases allB dgB (w.takeWhile (· != 46)) <;> cases zz <;> cases decide (p + 1 < w.length) <;> cases (w.drop (p + 1)).all dgB <;> rfl
theorem basedR_ref {w : List UInt8} (hne : w ≠ []) : basedR w = if nbB w then .tok 7 (35 :: w) (w.length + 1) else .err 5 := by
  have he : w.isEmpty = false := by cases w with | nil => exact absurd rfl hne | cons => rfl
  unfold basedR
  rw [he]
  have key : ((w.getD 0 0 == 120 && allB hxB (w.drop 1)) || (w.getD 0 0 == 98 && allB (fun c => c == 48 || c == 49) (w.drop 1))) = nbB w := by
    unfold nbB allB
    have hlen : decide (2 ≤ w.length) = !(w.drop 1).isEmpty := by
      cases w with
      | nil => exact absurd rfl hne
      | cons c w => cases w <;> simp
    rw [hlen]
    generalize w.getD 0 0 = f
    generalize w.drop 1 = v
    by_cases h1 : f = 120
    · subst h1
      have : nbC 120 = hxB := by funext c; simp [nbC]
      rw [this]; simp [Bool.and_comm]
    · by_cases h2 : f = 98
      · subst h2
        have : nbC 98 = fun c => c == 48 || c == 49 := by funext c; simp [nbC]
        rw [this]; simp [Bool.and_comm]
      · have e1 : (f == 120) = false := by simpa using h1
        have e2 : (f == 98) = false := by simpa using h2
        have : nbC f = fun _ => false := by funext c; simp [nbC, e1, e2]
        rw [this, e1, e2]
        cases v <;> simp
  rw [key]
  simp
theorem all_take {p : UInt8 → Bool} {l : List UInt8} {k : Nat} (h : k < l.length) : (l.take (k + 1)).all p = ((l.take k).all p && p l[k]) := by
  rw [List.take_succ_eq_append_getElem h, List.all_append]; simp only [List.all_cons, List.all_nil, Bool.and_true]
set_option maxRecDepth 100000 in
set_option maxHeartbeats 1600000 in
theorem numeral_any (S : ByteArray) (W : World) (hs : S.size ≤ 1048576) : Calls Tryd.prog 64 #[.string S] W fun e w' => e = .returned (.bool (numB S.data.toList)) ∧ W = w' := by
  have hlen : S.data.toList.length = S.size := by simp
  have HLN := Lib.hid hlen
  clear hlen
  go_enter Tryd.func64, Tryd.ntmps64
  go_wp2_with fail
  go_loopg [3] S.size (fun gk s3 wx => ∃ k : Nat, k + gk = S.size ∧ s3 = .int .i64 (k : Int) ∧ Hid (wx = W ∧ (S.data.toList.take k).all dgB = true))
  case atStart => exact ⟨0, by omega, rfl, Lib.hid ⟨rfl, by simp⟩⟩
  case round =>
    obtain ⟨k, hk, rfl, HI⟩ := hrel
    obtain ⟨hw, ha⟩ := HI.out
    subst hw
    have HG := Lib.hid hk
    have HA := Lib.hid ha
    have hk2 : k ≤ S.size := by omega
    clear hk ha HI
    by_cases hlt : k < S.size
    · have i0 : (0 : Int) ≤ (k : Int) := by omega
      have i1 : (k : Int) < (S.size : Int) := by omega
      have hget := str_get' hlt
      have hkl : k < S.data.toList.length := by rw [HLN.out]; exact hlt
      have hgk : S.data.toList[k] = S[k] := by rw [List.getElem?_eq_getElem hkl] at hget; cases hget; rfl
      have HD := Lib.hid (fun W => digit_any S[k] W)
      have HTK := Lib.hid (all_take (p := dgB) hkl)
      cases q : dgB S[k] with
      | true =>
        have HQ := Lib.hid q
        have HGK := Lib.hid hgk
        clear q hgk hget
        go_wp2_with fail
        refine (HD.out _).mono ?_
        rintro e w1 ⟨rfl, rfl⟩
        rw [HQ.out]
        go_wp2_with fail
        go_roundg (gk - 1)
        case measure => have := HG.out; omega
        case rel =>
          obtain ⟨k', hk'⟩ : ∃ k', k' = k + 1 := ⟨_, rfl⟩
          exact ⟨k', by have := HG.out; omega, by rw [hk']; go_num, Lib.hid ⟨rfl, by rw [hk', HTK.out, HA.out, HGK.out, HQ.out]; rfl⟩⟩
      | false =>
        have HR := Lib.hid (show numB S.data.toList = false by
          unfold numB
          have : S.data.toList.all dgB = false := by
            rw [List.all_eq_false]; exact ⟨S.data.toList[k], List.getElem_mem hkl, by rw [hgk, q]; decide⟩
          rw [this]; rfl)
        have HQ := Lib.hid q
        clear q hgk hget
        go_wp2_with fail
        refine (HD.out _).mono ?_
        rintro e w1 ⟨rfl, rfl⟩
        rw [HQ.out]
        go_wp2_with fail
        go_ret
        exact ⟨by rw [HR.out]; rfl, rfl⟩
    · obtain rfl : k = S.size := by omega
      have hall : S.data.toList.all dgB = true := by have := HA.out; rw [List.take_of_length_le (by rw [HLN.out]; exact Nat.le_refl _)] at this; exact this
      by_cases h0 : 0 < S.size
      · have e48 : ((S[0].toNat : Int) != 48) = (S[0] != 48) := by
          have e : ((S[0].toNat : Int) == 48) = (S[0] == 48) := eq_u8 48 (by decide +kernel) _
          rw [bne, e]; rfl
        obtain ⟨hz, hz0⟩ := byte_gt (x := S[0])
        have hge := str_get h0
        by_cases h1 : S.size = 1
        · have HR := Lib.hid (show numB S.data.toList = true by unfold numB; rw [hall, HLN.out, h1]; rfl)
          have g1 : ((S.size : Int) == 1) = true := by rw [h1]; rfl
          clear hall h1 hge e48
          go_wp2_with fail
          go_ret
          exact ⟨by rw [HR.out]; rfl, rfl⟩
        · have h2 : 1 < S.size := by omega
          have HR := Lib.hid (show numB S.data.toList = (S[0] != 48) by unfold numB; rw [hall, HLN.out, hge]; simp [h1, h2])
          have g1 : ((S.size : Int) == 1) = false := by simp; omega
          have g2 : (1 : Int) < (S.size : Int) := by omega
          have g3 : (0 : Int) < (S.size : Int) := by omega
          clear hall hge h1
          go_wp2_with fail
          go_ret
          refine ⟨?_, rfl⟩
          rw [HR.out]
          rfl
      · have hz : S.size = 0 := by omega
        have HR := Lib.hid (show numB S.data.toList = false by unfold numB; rw [hall, HLN.out, hz]; rfl)
        have g1 : ((S.size : Int) == 1) = false := by rw [hz]; rfl
        have g2 : ¬ (1 : Int) < (S.size : Int) := by omega
        have g3 : decide ((1 : Int) < (S.size : Int)) = false := by simpa using g2
        have g4 : decide (1 < S.size) = false := by simp; omega
        clear hall hz
        go_wp2_with fail
        go_ret
        exact ⟨by rw [HR.out]; rfl, rfl⟩
end Go.Proofs.YtlifankiljbdjaaDoor
