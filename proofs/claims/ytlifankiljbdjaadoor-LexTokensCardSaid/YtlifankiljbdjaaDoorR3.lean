/- The program's Plain; Tokens of too many bytes. -/
import Derived.Test.YtlifankiljbdjaaDoorR2
namespace Go.Proofs.YtlifankiljbdjaaDoor
open Go Go.RowKit

theorem clsV_len : clsV.length = 256 := by simp [clsV]
theorem clsV_one : (clsV.toArray.all (·.oneCell')) = true := by kernel_rfl
theorem info57 : (Tryd.prog.info? 57).map (·.size) = some 256 := by kernel_rfl
/-- a table of the classes, in block R. -/
def ClAt (w : World) (R : Nat) : Prop := ∀ b : UInt8, w.cell? ⟨R, b.toNat, none⟩ = some (.int .u8 (clB b : Int))
theorem there57 (w : World) : (w.alloc (.cells Tryd.zeroCells57 57)).there w.heap.size 0 256 := fun j hj => by
  have hz : Tryd.zeroCells57.size = 256 := by kernel_rfl
  rw [Nat.zero_add]
  constructor
  · rw [World.cell?_alloc_new, Array.getElem?_eq_getElem (by rw [hz]; exact hj)]; rfl
  · simp [go_sem]
theorem cl_new (w : World) : ClAt ((w.alloc (.cells Tryd.zeroCells57 57)).setCells w.heap.size 0 clsV) w.heap.size ∧ Below w.heap.size w ((w.alloc (.cells Tryd.zeroCells57 57)).setCells w.heap.size 0 clsV) := by
  have hth := there57 w
  have hlen := clsV_len
  have hin := fun j (hj : j < clsV.length) => World.cell?_setCells_in w.heap.size clsV 0 (w.alloc (.cells Tryd.zeroCells57 57)) (fun i hi => (hth i (by omega)).1) j hj
  have hO : Only (fun _ => False) w ((w.alloc (.cells Tryd.zeroCells57 57)).setCells w.heap.size 0 clsV) := Only.newCells (Nat.le_refl _) _ _ _ (Only.of_below (below1 w _))
  refine ⟨fun b => ?_, hO.below (fun k h => h.elim) (Nat.le_refl _)⟩
  have hb' := b.toNat_lt
  have := hin b.toNat (by omega)
  rw [Nat.zero_add] at this
  rw [this, ← List.getElem?_eq_getElem]
  exact clsV_get b
theorem plain_all (w : List UInt8) : plainB w = (allB syB w && !(dgB (w.getD 0 0))) := by unfold plainB allB; rfl
set_option maxRecDepth 100000 in
set_option maxHeartbeats 3200000 in
theorem lexplain_any (S : ByteArray) (W : World) (hs : S.size ≤ 1048576) : Calls Tryd.prog 17 #[.string S] W fun e w' => e = .returned (.bool (plainB S.data.toList)) ∧ Below W.heap.size W w' := by
  have HP := Lib.hid (plain_all S.data.toList)
  have hlen : S.data.toList.length = S.size := by simp
  have HLEN := Lib.hid hlen
  have hone := clsV_one
  have hsz : clsV.toArray.size = 256 := by simp [clsV]
  have hcls := fun w => classes_any w
  obtain ⟨CV, hCV⟩ : ∃ l : List Value, l = clsV := ⟨_, rfl⟩
  rw [← hCV] at hone hcls hsz
  have HONE := Lib.hid hone
  have HCLS := Lib.hid hcls
  have HSZ := Lib.hid hsz
  have HCV := Lib.hid hCV
  clear hone hcls hCV hsz hlen
  go_enter Tryd.func17, Tryd.ntmps17
  go_wp2_with fail
  refine (HCLS.out _).mono ?_
  rintro e w1 ⟨rfl, hb1⟩
  have HB1 := Lib.hid hb1
  clear hb1
  go_wp2_with (refine wpList_store_mid rfl 57 _ _ rfl w1.heap.size 0 CV.toArray rfl rfl ?qs1 ?qs2 HONE.out ?_)
  case qs1 => rw [HSZ.out]; exact there57 w1
  case qs2 => rw [HSZ.out]; exact info57
  obtain ⟨hcl, hbd2⟩ := cl_new w1
  rw [← HCV.out] at hcl hbd2
  generalize hW2 : World.setCells _ _ 0 CV = W2
  rw [hW2] at hcl hbd2
  have HB2 := Lib.hid (HB1.out.trans (hbd2.mono HB1.out.size))
  clear hbd2 hW2
  generalize w1.heap.size = R at *
  have HCL := Lib.hid hcl
  clear hcl
  go_loopg [4] S.size (fun gk s4 wx => ∃ k : Nat, k + gk = S.size ∧ s4 = .int .i64 (k : Int) ∧ Hid ((∃ n, wx = W2.drewN n) ∧ ∀ x ∈ S.data.toList.take k, syB x = true))
  case atStart => exact ⟨0, by omega, rfl, Lib.hid ⟨⟨0, rfl⟩, by simp⟩⟩
  case round =>
    obtain ⟨k, hk, rfl, HI⟩ := hrel
    obtain ⟨nw, hwr⟩ := HI.out.1
    have HW := Lib.hid hwr
    have HG := Lib.hid hk
    have hk2 : k ≤ S.size := by omega
    clear hk hwr
    by_cases hlt : k < S.size
    · have i1 : (k : Int) < (S.size : Int) := by omega
      have i0 : (0 : Int) ≤ (k : Int) := by omega
      have ccl : wr.cell? ⟨R, S[k].toNat, none⟩ = some (.int .u8 (clB S[k] : Int)) := by rw [HW.out]; simpa using HCL.out S[k]
      obtain ⟨hz, hz0⟩ := byte_gt (x := S[k])
      have an := not_ne (and2 S[k])
      have hts : S.data.toList.take (k + 1) = S.data.toList.take k ++ [S[k]] := by
        rw [List.take_succ_eq_append_getElem (by simpa using hlt)]; rfl
      have HTS := Lib.hid hts
      have hmem : S[k] ∈ S.data.toList := by simp [ByteArray.getElem_eq_getElem_data]
      have HME := Lib.hid hmem
      clear hts hmem
      cases hs : syB S[k] with
      | true =>
        rw [hs] at an
        have an2 : (bits BinOp.and IntKind.u8 (clB S[k] : Int) 2 == 0) = false := an
        clear an
        have HS := Lib.hid hs
        clear hs
        go_wp2_with fail
        obtain ⟨G, rfl⟩ : ∃ G, gk = G + 1 := ⟨gk - 1, by have := HG.out; omega⟩
        go_roundg G
        case measure => omega
        case rel =>
          obtain ⟨k', hk'⟩ : ∃ k', k' = k + 1 := ⟨_, rfl⟩
          refine ⟨k', by have := HG.out; omega, by rw [hk']; go_num, Lib.hid ⟨⟨nw, HW.out⟩, fun x hx => ?_⟩⟩
          rw [hk', HTS.out] at hx
          rcases List.mem_append.1 hx with h | h
          · exact HI.out.2 x h
          · have : x = S[k] := by simpa using h
            rw [this]; exact HS.out
      | false =>
        rw [hs] at an
        have an2 : (bits BinOp.and IntKind.u8 (clB S[k] : Int) 2 == 0) = true := an
        clear an
        have HR := Lib.hid (show plainB S.data.toList = false by
          rw [HP.out]; unfold allB
          rw [List.all_eq_false.2 ⟨_, HME.out, by rw [hs]; decide⟩]; rfl)
        clear hs
        go_wp2_with fail
        go_ret
        exact ⟨by rw [HR.out]; rfl, by rw [HW.out]; exact HB2.out.trans ((below_drewN _ _).mono HB2.out.size)⟩
    · have hk3 : k = S.size := by omega
      subst hk3
      have hall : S.data.toList.all syB = true := by
        rw [List.all_eq_true]
        intro x hx
        refine HI.out.2 x ?_
        rw [List.take_of_length_le (by simp)]; exact hx
      by_cases h0 : 0 < S.size
      · have hne : S.toList.isEmpty = false := by
          rw [toList_data]
          cases h : S.data.toList with
          | nil => have := HLEN.out; rw [h] at this; simp at this; omega
          | cons => rfl
        have hne2 : (S.toList == []) = false := by
          cases h : S.toList with
          | nil => rw [h] at hne; cases hne
          | cons => rfl
        have hne3 : ¬ S.toList = [] := fun e => by rw [e] at hne; cases hne
        have hge := str_get h0
        have HR := Lib.hid (show plainB S.data.toList = !(dgB S[0]) by
          rw [HP.out, hge]; unfold allB; rw [hall, ← toList_data, hne]; simp)
        have ccl : wr.cell? ⟨R, S[0].toNat, none⟩ = some (.int .u8 (clB S[0] : Int)) := by rw [HW.out]; simpa using HCL.out S[0]
        obtain ⟨hz, hz0⟩ := byte_gt (x := S[0])
        have an := not_ne (and4 S[0])
        have i0 : (0 : Int) < (S.size : Int) := by omega
        clear hall hge
        go_wp2_with fail
        go_ret
        refine ⟨?_, by rw [HW.out]; exact HB2.out.trans ((below_drewN _ _).mono HB2.out.size)⟩
        rw [HR.out]
        rfl
      · have hnil : S.data.toList = [] := List.eq_nil_of_length_eq_zero (by rw [HLEN.out]; omega)
        have hne : S.toList.isEmpty = true := by rw [toList_data, hnil]; rfl
        have hne2 : (S.toList == []) = true := by rw [toList_data, hnil]; rfl
        have hne3 : S.toList = [] := by rw [toList_data, hnil]
        have HR := Lib.hid (show plainB S.data.toList = false by rw [HP.out, hnil]; rfl)
        clear hall hnil hne3
        go_wp2_with fail
        go_ret
        exact ⟨by rw [HR.out]; rfl, by rw [HW.out]; exact HB2.out.trans ((below_drewN _ _).mono HB2.out.size)⟩
set_option maxRecDepth 100000 in
set_option maxHeartbeats 400000 in
theorem tokens_long (p : Option Addr) (c n : Nat) (W : World) (hn : 1048576 < n) :
    Calls Tryd.prog 14 #[.slice p n c] W fun e w' => e = .returned (.tuple #[.slice none 0 0, .int .i64 0, .int .i64 3]) ∧ W = w' := by
  have i0 : (1048576 : Int) < (n : Int) := by omega
  go_enter Tryd.func14, Tryd.ntmps14
  go_wp2_with fail
  go_ret3
  exact ⟨rfl, rfl⟩
set_option maxRecDepth 100000 in
set_option maxHeartbeats 400000 in
theorem reftokens_long (p : Option Addr) (c n : Nat) (W : World) (hn : 1048576 < n) :
    Calls Tryd.prog 15 #[.slice p n c] W fun e w' => e = .returned (.tuple #[.slice none 0 0, .int .i64 0, .int .i64 3]) ∧ W = w' := by
  have i0 : (1048576 : Int) < (n : Int) := by omega
  go_enter Tryd.func15, Tryd.ntmps15
  go_wp2_with fail
  go_ret3
  exact ⟨rfl, rfl⟩
end Go.Proofs.YtlifankiljbdjaaDoor
