/- The document's answer: blank, digit, letter, inner; word. -/
import Derived.Test.YtdompkenblnjjaaGreatJP
import Derived.Test.YtdompkenblnjjaaGreatJW
namespace Go.Proofs.YtdompkenblnjjaaGreat
open Go Go.RowKit

set_option maxRecDepth 100000 in
theorem dg_i (x : UInt8) : dgB x = (decide ((48 : Int) ≤ (x.toNat : Int)) && decide ((x.toNat : Int) ≤ 57)) := by
  have := u8_all (p := fun x => dgB x == (decide ((48 : Int) ≤ (x.toNat : Int)) && decide ((x.toNat : Int) ≤ 57))) (by decide +kernel) x
  exact eq_of_beq this
set_option maxRecDepth 100000 in
theorem sy_i (x : UInt8) (h : extraL.contains x = false) : syB x = ((decide ((97 : Int) ≤ (x.toNat : Int)) && decide ((x.toNat : Int) ≤ 122)) || ((decide ((65 : Int) ≤ (x.toNat : Int)) && decide ((x.toNat : Int) ≤ 90)) || dgB x)) := by
  have := u8_all (p := fun x => extraL.contains x || (syB x == ((decide ((97 : Int) ≤ (x.toNat : Int)) && decide ((x.toNat : Int) ≤ 122)) || ((decide ((65 : Int) ≤ (x.toNat : Int)) && decide ((x.toNat : Int) ≤ 90)) || dgB x)))) (by decide +kernel) x
  rw [h] at this
  exact eq_of_beq (by simpa using this)
set_option maxRecDepth 100000 in
theorem sy_extra (x : UInt8) (h : extraL.contains x = true) : syB x = true := by unfold syB; rw [h]; simp
set_option maxRecDepth 100000 in
theorem sp_i (x : UInt8) : spB x = (((x.toNat : Int) == 9) || (((x.toNat : Int) == 10) || (((x.toNat : Int) == 13) || ((x.toNat : Int) == 32)))) := by
  have := u8_all (p := fun x => spB x == (((x.toNat : Int) == 9) || (((x.toNat : Int) == 10) || (((x.toNat : Int) == 13) || ((x.toNat : Int) == 32))))) (by decide +kernel) x
  exact eq_of_beq this
set_option maxRecDepth 100000 in
theorem tx_i (x : UInt8) : txB x = (spB x || ((decide ((32 : Int) < (x.toNat : Int)) && decide ((x.toNat : Int) < 127)) || decide ((127 : Int) < (x.toNat : Int)))) := by
  have := u8_all (p := fun x => txB x == (spB x || ((decide ((32 : Int) < (x.toNat : Int)) && decide ((x.toNat : Int) < 127)) || decide ((127 : Int) < (x.toNat : Int))))) (by decide +kernel) x
  exact eq_of_beq this
set_option maxRecDepth 100000 in
theorem str_get' {S : ByteArray} {i : Nat} (h : i < S.size) : S.data.toList[i]? = some S[i] := by
  have : i < S.data.toList.length := by simpa using h
  rw [List.getElem?_eq_getElem this]; rfl
set_option maxRecDepth 100000 in
set_option maxHeartbeats 800000 in
theorem blank_any (x : UInt8) (W : World) : Calls Tryz.prog 45 #[.int .u8 (x.toNat : Int)] W fun e w' => e = .returned (.bool (spB x)) ∧ W = w' := by
  have HS := Lib.hid (sp_i x)
  generalize x.toNat = y at *
  cases q1 : ((y : Int) == 9) <;> cases q2 : ((y : Int) == 10) <;> cases q3 : ((y : Int) == 13) <;> cases q4 : ((y : Int) == 32) <;>
    (have HR := Lib.hid (show spB x = _ by rw [HS.out, q1, q2, q3, q4])
     clear HS
     go_enter Tryz.func45, Tryz.ntmps45
     go_wp2_with fail
     go_ret
     exact ⟨by rw [HR.out]; rfl, rfl⟩)
set_option maxRecDepth 100000 in
set_option maxHeartbeats 800000 in
theorem digit_any (x : UInt8) (W : World) : Calls Tryz.prog 74 #[.int .u8 (x.toNat : Int)] W fun e w' => e = .returned (.bool (dgB x)) ∧ W = w' := by
  have HS := Lib.hid (dg_i x)
  generalize x.toNat = y at *
  cases q1 : decide ((48 : Int) ≤ (y : Int)) <;> cases q2 : decide ((y : Int) ≤ 57) <;>
    (have HR := Lib.hid (show dgB x = _ by rw [HS.out, q1, q2])
     clear HS
     go_enter Tryz.func74, Tryz.ntmps74
     go_wp2_with fail
     go_ret
     exact ⟨by rw [HR.out]; rfl, rfl⟩)
set_option maxRecDepth 100000 in
set_option maxHeartbeats 800000 in
theorem inner_any (x : UInt8) (W : World) : Calls Tryz.prog 112 #[.int .u8 (x.toNat : Int)] W fun e w' => e = .returned (.bool (txB x)) ∧ W = w' := by
  have HS := Lib.hid (tx_i x)
  have HB := Lib.hid (fun W => blank_any x W)
  generalize x.toNat = y at *
  cases q0 : spB x <;> cases q1 : decide ((32 : Int) < (y : Int)) <;> cases q2 : decide ((y : Int) < 127) <;> cases q3 : decide ((127 : Int) < (y : Int)) <;>
    (have HR := Lib.hid (show txB x = _ by rw [HS.out, q0, q1, q2, q3])
     have HQ := Lib.hid q0
     clear HS q0
     go_enter Tryz.func112, Tryz.ntmps112
     go_wp2_with fail
     refine (HB.out _).mono ?_
     rintro e w1 ⟨rfl, rfl⟩
     rw [HQ.out]
     go_wp2_with fail
     go_ret
     exact ⟨by rw [HR.out]; rfl, rfl⟩)
set_option maxRecDepth 100000 in
theorem eq_byte (a b : UInt8) : ((a.toNat : Int) == (b.toNat : Int)) = (a == b) := by
  rw [Bool.eq_iff_iff, beq_iff_eq, beq_iff_eq]
  exact ⟨fun h => UInt8.toNat_inj.1 (by omega), fun h => by rw [h]⟩
set_option maxRecDepth 100000 in
theorem extra_len : (⟨#[126, 33, 64, 36, 37, 94, 38, 42, 95, 45, 43, 61, 60, 62, 46, 63, 47]⟩ : ByteArray).size = 17 := rfl
set_option maxRecDepth 100000 in
set_option maxHeartbeats 1600000 in
theorem letter_any (x : UInt8) (W : World) : Calls Tryz.prog 113 #[.int .u8 (x.toNat : Int)] W fun e w' => e = .returned (.bool (syB x)) ∧ W = w' := by
  obtain ⟨S, hS⟩ : ∃ S : ByteArray, S = ⟨#[126, 33, 64, 36, 37, 94, 38, 42, 95, 45, 43, 61, 60, 62, 46, 63, 47]⟩ := ⟨_, rfl⟩
  have hSs : S.size = 17 := by rw [hS]; rfl
  have hSl : S.data.toList = extraL := by rw [hS]; rfl
  have hdg := Lib.hid (fun W => digit_any x W)
  go_enter Tryz.func113, Tryz.ntmps113
  rw [← hS]
  have HS := Lib.hid hSl
  have HZ := Lib.hid hSs
  clear hS hSl hSs
  go_wp2_with fail
  go_loopg [4] 17 (fun gk s4 wx => ∃ k : Nat, k + gk = 17 ∧ s4 = .int .i64 (k : Int) ∧ Hid (wx = W ∧ ∀ j, j < k → extraL[j]? ≠ some x))
  case atStart => exact ⟨0, by omega, rfl, Lib.hid ⟨rfl, fun j hj => by omega⟩⟩
  case round =>
    obtain ⟨k, hk, rfl, HI⟩ := hrel
    obtain ⟨hwr, hno⟩ := HI.out
    subst hwr
    have HG := Lib.hid hk
    have HNO := Lib.hid hno
    have hk2 : k ≤ S.size := by rw [HZ.out]; omega
    have hk3 : (S.size : Int) ≤ 1000 := by rw [HZ.out]; decide
    clear hk hno HI
    by_cases hlt : k < S.size
    · have hs := str_get' hlt
      have heq : ((S[k].toNat : Int) == (x.toNat : Int)) = (S[k] == x) := eq_byte _ _
      have hk17 : k < 17 := by rw [← HZ.out]; exact hlt
      have hget : extraL[k]? = some S[k] := by rw [← HS.out]; exact hs
      have HGET := Lib.hid hget
      obtain ⟨hz, hz0⟩ := byte_gt (x := S[k])
      clear hs hget
      cases q : (S[k] == x) with
      | true =>
        rw [q] at heq
        have HY := Lib.hid (show syB x = true from sy_extra x (by
          have h1 := List.mem_of_getElem? HGET.out
          rw [eq_of_beq q] at h1
          simpa using h1))
        clear q
        go_wp2_with fail
        go_ret
        exact ⟨by rw [HY.out]; rfl, rfl⟩
      | false =>
        rw [q] at heq
        have HQ := Lib.hid q
        clear q
        go_wp2_with fail
        go_roundg (17 - (k + 1))
        case measure => have := HG.out; omega
        case rel =>
          obtain ⟨k', hk'⟩ : ∃ k', k' = k + 1 := ⟨_, rfl⟩
          refine ⟨k', by omega, by rw [hk']; go_num, Lib.hid ⟨rfl, fun j hj => ?_⟩⟩
          by_cases e : j = k
          · subst e; rw [HGET.out]; intro h; cases h; simpa using HQ.out
          · exact HNO.out j (by omega)
    · have hk17 : k = 17 := by rw [HZ.out] at hlt hk2; omega
      have hne : extraL.contains x = false := by
        rw [Bool.eq_false_iff]; intro h
        obtain ⟨j, hj, e⟩ := List.mem_iff_getElem.1 (List.contains_iff_mem.1 h)
        have hl : extraL.length = 17 := rfl
        exact HNO.out j (by omega) (by rw [List.getElem?_eq_getElem hj, e])
      have HY := Lib.hid (sy_i x hne)
      clear hne
      cases q1 : decide ((97 : Int) ≤ (x.toNat : Int)) <;> cases q2 : decide ((x.toNat : Int) ≤ 122) <;> cases q3 : decide ((65 : Int) ≤ (x.toNat : Int)) <;> cases q4 : decide ((x.toNat : Int) ≤ 90) <;>
        (have HR := Lib.hid (show syB x = _ by rw [HY.out, q1, q2, q3, q4])
         clear HY
         go_wp2_with (go_at_call 74; refine (hdg.out _).mono ?_; rintro e w1 ⟨rfl, rfl⟩)
         go_ret
         exact ⟨by rw [HR.out]; rfl, rfl⟩)
end Go.Proofs.YtdompkenblnjjaaGreat

