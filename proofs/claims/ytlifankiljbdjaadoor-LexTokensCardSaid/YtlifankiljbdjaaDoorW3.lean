/- all. -/
import Derived.Test.YtlifankiljbdjaaDoorW2
namespace Go.Proofs.YtlifankiljbdjaaDoor
open Go Go.RowKit

theorem toList_data (s : ByteArray) : s.toList = s.data.toList := ByteArray.toList_eq s
theorem drewN_later {W w' : World} (h : ∃ n, w' = W.drewN n) : Below W.heap.size W w' := by
  obtain ⟨n, rfl⟩ := h; exact below_drewN _ _
set_option maxRecDepth 100000 in
set_option maxHeartbeats 1600000 in
theorem all_any (m : Int) (f : UInt8 → Bool) (hm : ∀ c, (bits BinOp.and IntKind.u8 (clB c : Int) m == 0) = !(f c)) (R : Nat) (s : ByteArray) (W : World) (hcl : ∀ b : UInt8, W.cell? ⟨R, 2 + b.toNat, none⟩ = some (.int .u8 (clB b : Int))) (hs : s.size ≤ 1048576) :
    Calls Tryd.prog 74 #[.pointer (some ⟨R, 0, none⟩), .string s, .int .u8 m] W fun e w' => e = .returned (.bool (allB f s.data.toList)) ∧ ∃ n, w' = W.drewN n := by
  have HCL := Lib.hid hcl
  have HM := Lib.hid hm
  clear hcl hm
  go_enter Tryd.func74, Tryd.ntmps74
  go_wp2_with fail
  go_loopg [7] s.size (fun gk s7 wx => ∃ k : Nat, k + gk = s.size ∧ s7 = .int .i64 (k : Int) ∧ Hid ((∃ n, wx = W.drewN n) ∧ ∀ x ∈ s.data.toList.take k, f x = true))
  case atStart => exact ⟨0, by omega, rfl, Lib.hid ⟨⟨0, rfl⟩, by simp⟩⟩
  case round =>
    obtain ⟨k, hk, rfl, HI⟩ := hrel
    obtain ⟨nw, hwr⟩ := HI.out.1
    have HW := Lib.hid hwr
    have HG := Lib.hid hk
    have hk2 : k ≤ s.size := by omega
    clear hk hwr
    by_cases hlt : k < s.size
    · have i1 : (k : Int) < (s.size : Int) := by omega
      have i0 : (0 : Int) ≤ (k : Int) := by omega
      have ccl : wr.cell? ⟨R, 2 + s[k].toNat, none⟩ = some (.int .u8 (clB s[k] : Int)) := by rw [HW.out]; simpa using HCL.out s[k]
      obtain ⟨hz, hz0⟩ := byte_gt (x := s[k])
      have an := HM.out s[k]
      have hts : s.data.toList.take (k + 1) = s.data.toList.take k ++ [s[k]] := by
        rw [List.take_succ_eq_append_getElem (by simpa using hlt)]; rfl
      have HTS := Lib.hid hts
      have hmem : s[k] ∈ s.data.toList := by simp [ByteArray.getElem_eq_getElem_data]
      have HME := Lib.hid hmem
      clear hts hmem
      cases hs : f s[k] with
      | true =>
        rw [hs] at an
        have an2 : (bits BinOp.and IntKind.u8 (clB s[k] : Int) m == 0) = false := an
        clear an
        have HS := Lib.hid hs
        clear hs
        go_wp2_with fail
        go_quiet (fail)
        go_wp2_with fail
        obtain ⟨G, rfl⟩ : ∃ G, gk = G + 1 := ⟨gk - 1, by have := HG.out; omega⟩
        go_roundg G
        case measure => omega
        case rel =>
          obtain ⟨k', hk'⟩ : ∃ k', k' = k + 1 := ⟨_, rfl⟩
          refine ⟨k', by have := HG.out; omega, by rw [hk']; go_num, Lib.hid ⟨⟨nw + nq, by rw [HW.out]; simp⟩, fun x hx => ?_⟩⟩
          rw [hk', HTS.out] at hx
          rcases List.mem_append.1 hx with h | h
          · exact HI.out.2 x h
          · have : x = s[k] := by simpa using h
            rw [this]; exact HS.out
      | false =>
        rw [hs] at an
        have an2 : (bits BinOp.and IntKind.u8 (clB s[k] : Int) m == 0) = true := an
        clear an
        have HS := Lib.hid hs
        clear hs
        go_wp2_with fail
        go_quiet (fail)
        go_wp2_with fail
        go_ret
        refine ⟨?_, nw + nq, by rw [HW.out]; simp⟩
        have : allB f s.data.toList = false := by
          unfold allB
          rw [List.all_eq_false.2 ⟨_, HME.out, by rw [HS.out]; decide⟩]; rfl
        rw [this]
        rfl
    · go_wp2_with fail
      go_ret
      refine ⟨?_, nw, HW.out⟩
      have hk3 : k = s.size := by omega
      subst hk3
      have hall : s.data.toList.all f = true := by
        rw [List.all_eq_true]
        intro x hx
        refine HI.out.2 x ?_
        rw [List.take_of_length_le (by simp)]; exact hx
      show Ending.returned (Value.bool !s.toList.isEmpty) = _
      rw [toList_data]
      unfold allB
      rw [hall]; rfl
end Go.Proofs.YtlifankiljbdjaaDoor
