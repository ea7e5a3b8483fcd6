/- Whether a world is tame: some truth value, and nothing of before is written. -/
import Derived.Test.YtgmkcdpbkcojnacGreatDoorW1
namespace Go.Proofs.YtgmkcdpbkcojnacGreatDoor
open Go Go.RowKit Go.WideShapes Go.ChangeShapes Go.WideElems Go.Deep

theorem cell_second' (w : World) (a b : Value) (t : TypeId) : (w.alloc (Obj.cells #[a, b] t)).cell? ⟨w.heap.size, 0, none⟩ = some a := by
  first
    | (simp [World.cell?_alloc_new]; done)
    | (rw [World.cell?_alloc_new]; rfl)
def IsB (e : Ending) : Prop := e = .returned (.bool false) ∨ e = .returned (.bool true)
theorem isB_mk (b : Bool) : IsB (.returned (.bool b)) := by cases b <;> simp [IsB]
set_option maxRecDepth 100000 in
set_option maxHeartbeats 1600000 in
theorem tame_any (s0 p : Option Addr) (n0 c0 n c : Nat) (w : World) (h : TabsIn w p n) (hn0 : n0 ≤ 9223372036854775807) (hn : n ≤ 9223372036854775807) :
    Calls Tryz.prog 4 #[.slice none 0 0, .agg #[.slice s0 n0 c0, .slice p n c]] w fun e w' => IsB e ∧ Below w.heap.size w w' := by
  have HT := Lib.hid h
  clear h
  have HB1 := Lib.hid (show Below w.heap.size w (w.alloc (Obj.cells #[Value.slice s0 n0 c0, Value.slice p n c] 30)) from (Below.refl _ _).alloc (Nat.le_refl _) _)
  have HT1 := Lib.hid (HT.out.later HB1.out)
  have HS := Lib.hid (size_any s0 p n0 c0 n c _ HT1.out hn0 hn)
  go_enter Tryz.func4, Tryz.ntmps4
  go_wp2_with fail
  go_loopw [5, 6] (fun z i wr => z = .int .i64 0 ∧ i = .int .i64 0 ∧ wr = (w.alloc (Obj.cells #[Value.slice s0 n0 c0, Value.slice p n c] 30))) (fun _ i _ => 0)
  case atStart => exact ⟨rfl, rfl, rfl⟩
  case round =>
    obtain ⟨rfl, rfl, rfl⟩ := hrel
    go_wp2_with fail
    · refine HS.out.mono ?_
      rintro e w1 ⟨⟨z, rfl⟩, hb⟩
      have HB2 := Lib.hid hb
      clear hb HS
      go_wp2_with fail
      · go_ret
        exact ⟨isB_mk _, by simpa using HB1.out.trans (HB2.out.mono (by simp))⟩
    · go_ret
      exact ⟨isB_mk _, HB1.out⟩
end Go.Proofs.YtgmkcdpbkcojnacGreatDoor
