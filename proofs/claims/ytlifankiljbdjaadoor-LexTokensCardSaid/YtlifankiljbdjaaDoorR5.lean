/- The document's decimals and numbers behind a hash. -/
import Derived.Test.YtlifankiljbdjaaDoorR4
namespace Go.Proofs.YtlifankiljbdjaaDoor
open Go Go.RowKit

theorem tw46 (w : List UInt8) (k : Nat) (h : k < w.length) : ((w.drop k).takeWhile (· != 46)).length = if w[k] == 46 then 0 else 1 + ((w.drop (k + 1)).takeWhile (· != 46)).length := by
  rw [List.drop_eq_getElem_cons h, List.takeWhile_cons]
  by_cases e : w[k] = 46
  · simp [e]
  · have h1 : (w[k] != 46) = true := by simpa using e
    have h2 : (w[k] == 46) = false := by simpa using e
    rw [if_pos h1, h2]; simp; omega
set_option maxRecDepth 100000 in
set_option maxHeartbeats 3200000 in
theorem decimal_any (S : ByteArray) (W : World) (hs : S.size ≤ 1048576) : Calls Tryd.prog 65 #[.string S] W fun e w' => e = .returned (.bool (decB S.data.toList)) ∧ W = w' := by
  have hlen : S.data.toList.length = S.size := by simp
  have HLN := Lib.hid hlen
  generalize hp : (S.data.toList.takeWhile (· != 46)).length = p
  have HP := Lib.hid hp
  clear hlen hp
  go_enter Tryd.func65, Tryd.ntmps65
  go_wp2_with fail
  go_loopg [3] (S.size + 1) (fun gk s3 wx => ∃ k : Nat, S.size + 1 ≤ k + gk ∧ k ≤ S.size ∧ s3 = .int .i64 (k : Int) ∧ Hid (wx = W ∧ k + ((S.data.toList.drop k).takeWhile (· != 46)).length = p))
  case atStart => exact ⟨0, by omega, by omega, rfl, Lib.hid ⟨rfl, by simpa using HP.out⟩⟩
  case round =>
    obtain ⟨k, hk, hk2, rfl, HI⟩ := hrel
    obtain ⟨hw, ha⟩ := HI.out
    subst hw
    have HG := Lib.hid hk
    have HA := Lib.hid ha
    clear hk ha HI
    have hrest : k = p → Hid (k = p) := Lib.hid
    by_cases hlt : k < S.size ∧ S.data.toList.getD k 0 ≠ 46
    · obtain ⟨hlt, hne⟩ := hlt
      have i0 : (0 : Int) ≤ (k : Int) := by omega
      have i1 : (k : Int) < (S.size : Int) := by omega
      have hkl : k < S.data.toList.length := by rw [HLN.out]; exact hlt
      have h46 := tw46 S.data.toList k hkl
      have hge : S.data.toList[k] = S[k] := by have := str_get' hlt; rw [List.getElem?_eq_getElem hkl] at this; cases this; rfl
      rw [str_get hlt] at hne
      have e46 : ((S[k].toNat : Int) != 46) = true := by
        have e : ((S[k].toNat : Int) == 46) = (S[k] == 46) := eq_u8 46 (by decide +kernel) _
        rw [bne, e]; simpa using hne
      have H46 := Lib.hid (show ((S.data.toList.drop k).takeWhile (· != 46)).length = 1 + ((S.data.toList.drop (k + 1)).takeWhile (· != 46)).length by
        rw [h46, hge, if_neg (by simpa using hne)])
      clear h46 hge hne
      go_wp2_with fail
      go_roundg (gk - 1)
      case measure => have := HG.out; omega
      case rel =>
        obtain ⟨k', hk'⟩ : ∃ k', k' = k + 1 := ⟨_, rfl⟩
        exact ⟨k', by have := HG.out; omega, by omega, by rw [hk']; go_num, Lib.hid ⟨rfl, by have h1 := HA.out; have h2 := H46.out; rw [hk']; omega⟩⟩
    · have hkp : k = p := by
        have h1 := HA.out
        by_cases hk3 : k < S.size
        · have hkl : k < S.data.toList.length := by rw [HLN.out]; exact hk3
          have h46 := tw46 S.data.toList k hkl
          have he : S.data.toList[k] = 46 := by
            have : ¬ S.data.toList.getD k 0 ≠ 46 := fun h => hlt ⟨hk3, h⟩
            rw [List.getD_eq_getElem?_getD, List.getElem?_eq_getElem hkl] at this
            simpa using this
          rw [h46, he] at h1
          simpa using h1
        · rw [List.drop_of_length_le (by rw [HLN.out]; omega)] at h1
          simpa using h1
      have hstop : (k < S.size ∧ ∃ h : k < S.size, ((S[k]'h).toNat : Int) = 46) ∨ k = S.size := by
        by_cases hk3 : k < S.size
        · left
          refine ⟨hk3, hk3, ?_⟩
          have : ¬ S.data.toList.getD k 0 ≠ 46 := fun h => hlt ⟨hk3, h⟩
          rw [str_get hk3] at this
          have h2 : S[k] = 46 := by simpa using this
          rw [h2]; rfl
        · right; omega
      subst hkp
      have HST := Lib.hid hstop
      clear hlt hstop hrest
      -- the loop ends here
      have HEND : ∀ (a : Act) (w : World), True := fun _ _ => trivial
      clear HEND
      by_cases hk3 : k < S.size
      · obtain ⟨h46, heq⟩ := (HST.out.resolve_right (by omega)).2
        have e46 : ((S[k].toNat : Int) != 46) = false := by rw [bne, heq]; rfl
        have i0 : (0 : Int) ≤ (k : Int) := by omega
        have i1 : (k : Int) < (S.size : Int) := by omega
        clear heq
        by_cases hge : k + 1 < S.size
        · have g1 : decide ((S.size : Int) - 1 ≤ (k : Int)) = false := by simp; omega
          have g2 : ¬ (S.size : Int) - 1 ≤ (k : Int) := by omega
          have i2 : (k : Int) ≤ (S.size : Int) := by omega
          have hXl : (S.extract 0 k).data.toList = S.data.toList.take k := by rw [ext_take]
          have hXs : (S.extract 0 k).size ≤ 1048576 := by
            have h1 : ∀ Z : ByteArray, Z.data.toList.length = Z.size := fun Z => by simp
            have h2 := h1 (S.extract 0 k)
            rw [hXl] at h2
            have h3 := List.length_take_le k S.data.toList
            omega
          have HNM := Lib.hid (fun W => numeral_any (S.extract 0 k) W hXs)
          have HXL := Lib.hid hXl
          have hdB := Lib.hid (show decB S.data.toList = (numB (S.data.toList.take k) && (S.data.toList.drop (k + 1)).all dgB) by
            unfold decB; rw [HP.out, HLN.out]; simp [hge])
          clear hXl hXs
          cases q : numB (S.data.toList.take k) with
          | false =>
            have HQ := Lib.hid (show numB (S.extract 0 k).data.toList = false by rw [HXL.out]; exact q)
            have HR := Lib.hid (show decB S.data.toList = false by rw [hdB.out, q]; rfl)
            clear q
            go_wp2_with fail
            refine (HNM.out _).mono ?_
            rintro e w1 ⟨rfl, rfl⟩
            rw [HQ.out]
            go_wp2_with fail
            go_ret
            exact ⟨by rw [HR.out]; rfl, rfl⟩
          | true =>
            have HQ := Lib.hid (show numB (S.extract 0 k).data.toList = true by rw [HXL.out]; exact q)
            have HR := Lib.hid (show decB S.data.toList = (S.data.toList.drop (k + 1)).all dgB by rw [hdB.out, q]; rfl)
            clear q
            go_wp2_with fail
            refine (HNM.out _).mono ?_
            rintro e w1 ⟨rfl, rfl⟩
            rw [HQ.out]
            go_wp2_with fail
            go_loopg [4] S.size (fun ik s4 wx => ∃ j : Nat, S.size ≤ j + ik ∧ j ≤ S.size ∧ s4 = .int .i64 (j : Int) ∧ Hid (wx = wr ∧ (S.data.toList.drop (k + 1)).all dgB = (S.data.toList.drop j).all dgB))
            case atStart => exact ⟨k + 1, by omega, by omega, by go_num, Lib.hid ⟨rfl, rfl⟩⟩
            case round =>
              obtain ⟨j, hj, hj2, rfl, HI⟩ := hrel
              obtain ⟨hw, ha⟩ := HI.out
              subst hw
              have HJ := Lib.hid hj
              have HA2 := Lib.hid ha
              clear hj ha HI
              by_cases hjl : j < S.size
              · have m0 : (0 : Int) ≤ (j : Int) := by omega
                have m1 : (j : Int) < (S.size : Int) := by omega
                have hkl : j < S.data.toList.length := by rw [HLN.out]; exact hjl
                have hgj : S.data.toList[j] = S[j] := by have := str_get' hjl; rw [List.getElem?_eq_getElem hkl] at this; cases this; rfl
                have HDJ := Lib.hid (show (S.data.toList.drop j).all dgB = (dgB S[j] && (S.data.toList.drop (j + 1)).all dgB) by
                  rw [List.drop_eq_getElem_cons hkl, List.all_cons, hgj])
                have HD := Lib.hid (fun W => digit_any S[j] W)
                clear hgj
                cases q : dgB S[j] with
                | true =>
                  have HQ2 := Lib.hid q
                  clear q
                  go_wp2_with fail
                  refine (HD.out _).mono ?_
                  rintro e w1 ⟨rfl, rfl⟩
                  rw [HQ2.out]
                  go_wp2_with fail
                  go_roundg (gk - 1)
                  case measure => have := HJ.out; omega
                  case rel =>
                    obtain ⟨j', hj'⟩ : ∃ j', j' = j + 1 := ⟨_, rfl⟩
                    exact ⟨j', by have := HJ.out; omega, by omega, by rw [hj']; go_num, Lib.hid ⟨rfl, by rw [HA2.out, HDJ.out, HQ2.out, hj']; rfl⟩⟩
                | false =>
                  have HQ2 := Lib.hid q
                  clear q
                  have HR2 := Lib.hid (show decB S.data.toList = false by rw [HR.out, HA2.out, HDJ.out, HQ2.out]; rfl)
                  go_wp2_with fail
                  refine (HD.out _).mono ?_
                  rintro e w1 ⟨rfl, rfl⟩
                  rw [HQ2.out]
                  go_wp2_with fail
                  go_ret
                  exact ⟨by rw [HR2.out]; rfl, rfl⟩
              · have HR2 := Lib.hid (show decB S.data.toList = true by rw [HR.out, HA2.out, List.drop_of_length_le (by rw [HLN.out]; omega)]; rfl)
                have m1 : ¬ (j : Int) < (S.size : Int) := by omega
                have m2 : decide (j < S.size) = false := by simp; omega
                go_wp2_with fail
                go_ret
                exact ⟨by rw [HR2.out]; rfl, rfl⟩
        · have g1 : decide ((S.size : Int) - 1 ≤ (k : Int)) = true := by simp; omega
          have g2 : (S.size : Int) - 1 ≤ (k : Int) := by omega
          have HR := Lib.hid (show decB S.data.toList = false by unfold decB; rw [HP.out, HLN.out]; simp; omega)
          go_wp2_with fail
          go_ret
          exact ⟨by rw [HR.out]; rfl, rfl⟩
      · have hks : k = S.size := by omega
        have g1 : decide ((S.size : Int) - 1 ≤ (k : Int)) = true := by simp; omega
        have g2 : (S.size : Int) - 1 ≤ (k : Int) := by omega
        have g3 : ¬ (k : Int) < (S.size : Int) := by omega
        have g4 : decide ((k : Int) < (S.size : Int)) = false := by simpa using g3
        have g5 : decide (k < S.size) = false := by simp; omega
        have HR := Lib.hid (show decB S.data.toList = false by unfold decB; rw [HP.out, HLN.out]; simp; omega)
        clear hks
        go_wp2_with fail
        go_ret
        exact ⟨by rw [HR.out]; rfl, rfl⟩
theorem hx_i (x : UInt8) (h : dgB x = false) : hxB x = ((decide ((97 : Int) ≤ (x.toNat : Int)) && decide ((x.toNat : Int) ≤ 102)) || (decide ((65 : Int) ≤ (x.toNat : Int)) && decide ((x.toNat : Int) ≤ 70))) ∧ ((x.toNat : Int) == 48) = false ∧ ((x.toNat : Int) == 49) = false := by
  have := u8_all (p := fun x => dgB x || ((hxB x == ((decide ((97 : Int) ≤ (x.toNat : Int)) && decide ((x.toNat : Int) ≤ 102)) || (decide ((65 : Int) ≤ (x.toNat : Int)) && decide ((x.toNat : Int) ≤ 70)))) && (!((x.toNat : Int) == 48) && !((x.toNat : Int) == 49)))) (by decide +kernel) x
  rw [h] at this
  simp only [Bool.false_or, Bool.and_eq_true, Bool.not_eq_true'] at this
  exact ⟨eq_of_beq this.1, this.2⟩
set_option maxRecDepth 100000 in
set_option maxHeartbeats 12800000 in
theorem number_any (S : ByteArray) (W : World) (hs : S.size ≤ 1048576) : Calls Tryd.prog 63 #[.string S] W fun e w' => e = .returned (.bool (nbB S.data.toList)) ∧ W = w' := by
  have hlen : S.data.toList.length = S.size := by simp
  have HLN := Lib.hid hlen
  clear hlen
  by_cases h2 : S.size < 2
  · have g1 : (S.size : Int) < 2 := by omega
    have HR := Lib.hid (show nbB S.data.toList = false by unfold nbB; rw [HLN.out, decide_eq_false (by omega)]; rfl)
    go_enter Tryd.func63, Tryd.ntmps63
    go_wp2_with fail
    go_ret
    exact ⟨by rw [HR.out]; rfl, rfl⟩
  · have g1 : ¬ (S.size : Int) < 2 := by omega
    have g2 : decide ((S.size : Int) < 2) = false := by simpa using g1
    have g3 : (0 : Int) < (S.size : Int) := by omega
    have h0 : 0 < S.size := by omega
    obtain ⟨hz, hz0⟩ := byte_gt (x := S[0])
    have f120 : ((S[0].toNat : Int) == 120) = (S[0] == 120) := eq_u8 120 (by decide +kernel) _
    have f98 : ((S[0].toNat : Int) == 98) = (S[0] == 98) := eq_u8 98 (by decide +kernel) _
    have HR := Lib.hid (show nbB S.data.toList = (S.data.toList.drop 1).all (nbC S[0]) by
      unfold nbB; rw [HLN.out, str_get h0, decide_eq_true (by omega)]; rfl)
    go_enter Tryd.func63, Tryd.ntmps63
    go_wp2_with fail
    go_loopg [3, 4, 5, 6] S.size (fun ik s3 s4 s5 s6 wx => ∃ j : Nat, S.size ≤ j + ik ∧ j ≤ S.size ∧ s3 = .int .i64 (j : Int) ∧ Hid (wx = W ∧ (S.data.toList.drop 1).all (nbC S[0]) = (S.data.toList.drop j).all (nbC S[0])))
    case atStart => exact ⟨1, by omega, by omega, rfl, Lib.hid ⟨rfl, rfl⟩⟩
    case round =>
      obtain ⟨j, hj, hj2, rfl, HI⟩ := hrel
      obtain ⟨hw, ha⟩ := HI.out
      subst hw
      have HJ := Lib.hid hj
      have HA2 := Lib.hid ha
      clear hj ha HI
      by_cases hjl : j < S.size
      · have m0 : (0 : Int) ≤ (j : Int) := by omega
        have m1 : (j : Int) < (S.size : Int) := by omega
        have hkl : j < S.data.toList.length := by rw [HLN.out]; exact hjl
        have hgj : S.data.toList[j] = S[j] := by have := str_get' hjl; rw [List.getElem?_eq_getElem hkl] at this; cases this; rfl
        have HDJ := Lib.hid (show (S.data.toList.drop j).all (nbC S[0]) = (nbC S[0] S[j] && (S.data.toList.drop (j + 1)).all (nbC S[0])) by
          rw [List.drop_eq_getElem_cons hkl, List.all_cons, hgj])
        obtain ⟨hz2, hz3⟩ := byte_gt (x := S[j])
        have HD := Lib.hid (fun W => digit_any S[j] W)
        have HX := Lib.hid (hx_i S[j])
        have HD2 := Lib.hid (show dgB S[j] = true → hxB S[j] = true from fun h => by unfold hxB; rw [h]; rfl)
        have b48 : ((S[j].toNat : Int) == 48) = (S[j] == 48) := eq_u8 48 (by decide +kernel) _
        have b49 : ((S[j].toNat : Int) == 49) = (S[j] == 49) := eq_u8 49 (by decide +kernel) _
        have HB := Lib.hid (And.intro b48 b49)
        clear hgj b48 b49
        have hf : (S[0] == 120) = true ∧ (S[0] == 98) = false ∨ (S[0] == 120) = false ∧ (S[0] == 98) = true ∨ (S[0] == 120) = false ∧ (S[0] == 98) = false := by
          cases h : (S[0] == 120) with
          | true => left; refine ⟨rfl, ?_⟩; rw [eq_of_beq h]; decide
          | false => cases h2 : (S[0] == 98) <;> simp
        have HF := Lib.hid (show nbC S[0] S[j] = ((S[0] == 120 && hxB S[j]) || (S[0] == 98 && (S[j] == 48 || S[j] == 49))) from rfl)
        rcases hf with ⟨f1, f2⟩ | ⟨f1, f2⟩ | ⟨f1, f2⟩ <;>
        (rw [f1] at f120
         rw [f2] at f98
         cases q : dgB S[j] with
         | true =>
           have HQ := Lib.hid q
           have HHX := Lib.hid (HD2.out q)
           clear q
           cases q1 : ((S[j].toNat : Int) == 48) <;> cases q2 : ((S[j].toNat : Int) == 49) <;>
           (have HV := Lib.hid (show nbC S[0] S[j] = _ by rw [HF.out, f1, f2, HHX.out, ← HB.out.1, ← HB.out.2, q1, q2])
            clear f1 f2
            go_wp2_with fail
            refine (HD.out _).mono ?_
            rintro e w1 ⟨rfl, rfl⟩
            rw [HQ.out]
            go_wp2_with fail
            first
              | (go_roundg (gk - 1)
                 case measure => have := HJ.out; omega
                 case rel =>
                   obtain ⟨j', hj'⟩ : ∃ j', j' = j + 1 := ⟨_, rfl⟩
                   exact ⟨j', by have := HJ.out; omega, by omega, by rw [hj']; go_num, Lib.hid ⟨rfl, by rw [HA2.out, HDJ.out, HV.out, hj']; rfl⟩⟩)
              | (go_ret
                 exact ⟨by rw [HR.out, HA2.out, HDJ.out, HV.out]; rfl, rfl⟩))
         | false =>
           have HQ := Lib.hid q
           obtain ⟨x1, x2, x3⟩ := HX.out q
           have HX1 := Lib.hid x1
           clear q x1
           cases q1 : decide ((97 : Int) ≤ (S[j].toNat : Int)) <;> cases q2 : decide ((S[j].toNat : Int) ≤ 102) <;> cases q3 : decide ((65 : Int) ≤ (S[j].toNat : Int)) <;> cases q4 : decide ((S[j].toNat : Int) ≤ 70) <;>
           (have HV := Lib.hid (show nbC S[0] S[j] = _ by rw [HF.out, f1, f2, HX1.out, ← HB.out.1, ← HB.out.2, x2, x3, q1, q2, q3, q4])
            clear f1 f2
            go_wp2_with fail
            refine (HD.out _).mono ?_
            rintro e w1 ⟨rfl, rfl⟩
            rw [HQ.out]
            go_wp2_with fail
            first
              | (go_roundg (gk - 1)
                 case measure => have := HJ.out; omega
                 case rel =>
                   obtain ⟨j', hj'⟩ : ∃ j', j' = j + 1 := ⟨_, rfl⟩
                   exact ⟨j', by have := HJ.out; omega, by omega, by rw [hj']; go_num, Lib.hid ⟨rfl, by rw [HA2.out, HDJ.out, HV.out, hj']; rfl⟩⟩)
              | (go_ret
                 exact ⟨by rw [HR.out, HA2.out, HDJ.out, HV.out]; rfl, rfl⟩)))
      · have HR2 := Lib.hid (show nbB S.data.toList = true by rw [HR.out, HA2.out, List.drop_of_length_le (by rw [HLN.out]; omega)]; rfl)
        have m1 : ¬ (j : Int) < (S.size : Int) := by omega
        have m2 : decide (j < S.size) = false := by simp; omega
        clear f120 f98
        go_wp2_with fail
        go_ret
        exact ⟨by rw [HR2.out]; rfl, rfl⟩
end Go.Proofs.YtlifankiljbdjaaDoor
