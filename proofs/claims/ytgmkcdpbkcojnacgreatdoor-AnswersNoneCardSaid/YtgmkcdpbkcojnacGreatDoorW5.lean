/- The law, of a world that is read. -/
import Derived.Test.YtgmkcdpbkcojnacGreatDoorW4
import Derived.Test.YtgmkcdpbkcojnacGreatDoorKn
namespace Go.Proofs.YtgmkcdpbkcojnacGreatDoor
open Go Go.RowKit Go.WideShapes Go.ChangeShapes Go.WideElems Go.Deep Go.Joins

theorem second_new (w : World) (o : Obj) (cs : Array Value) (t : TypeId) (k : Nat) : ((w.alloc o).alloc (.cells cs t)).cell? ⟨w.heap.size + 1, k, none⟩ = cs[k]? := by
  have := World.cell?_alloc_new (w := w.alloc o) cs t k
  rw [World.size_alloc] at this
  exact this
set_option maxRecDepth 100000 in
set_option maxHeartbeats 4000000 in
theorem law_any (s0 p : Option Addr) (n0 c0 n c : Nat) (x0 x1 x2 x3 x4 : Value) (w : World) (h : TabsIn w p n) (hn0 : n0 ≤ 9223372036854775807) (hn : n ≤ 9223372036854775807) :
    Calls Tryz.prog 3 #[.agg #[x0, x1, x2, x3, x4], .agg #[.slice s0 n0 c0, .slice p n c]] w fun e w' => e = .returned (.bool true) ∧ Below w.heap.size w w' := by
  have HT := Lib.hid h
  clear h
  have HB1 := Lib.hid (show Below w.heap.size w ((w.alloc (Obj.cells #[x0, x1, x2, x3, x4] 26)).alloc (Obj.cells #[Value.slice s0 n0 c0, Value.slice p n c] 30)) from below_alloc2 w _ _)
  have HA := Lib.hid (tame_any s0 p n0 c0 n c _ (HT.out.later HB1.out) hn0 hn)
  have HV := Lib.hid (fun w => value_nil x0 x1 x2 x3 x4 w)
  have HVS := Lib.hid (fun w => values_nil w)
  have HH := Lib.hid (fun w => model_nil (.slice s0 n0 c0) (.slice p n c) w)
  have HK := Lib.hid (fun w => known_any w)
  go_enter Tryz.func3, Tryz.ntmps3
  go_wp2_with fail
  refine HA.out.mono ?_
  rintro e w1 ⟨he, hb⟩
  have a0 := cell_later hb (a := ⟨w.heap.size, 0, none⟩) (v := x0) (by rw [World.cell?_alloc_lt _ _ _ (by simp), World.cell?_alloc_new]; rfl)
  have a1 := cell_later hb (a := ⟨w.heap.size, 1, none⟩) (v := x1) (by rw [World.cell?_alloc_lt _ _ _ (by simp), World.cell?_alloc_new]; rfl)
  have a2 := cell_later hb (a := ⟨w.heap.size, 2, none⟩) (v := x2) (by rw [World.cell?_alloc_lt _ _ _ (by simp), World.cell?_alloc_new]; rfl)
  have a3 := cell_later hb (a := ⟨w.heap.size, 3, none⟩) (v := x3) (by rw [World.cell?_alloc_lt _ _ _ (by simp), World.cell?_alloc_new]; rfl)
  have a4 := cell_later hb (a := ⟨w.heap.size, 4, none⟩) (v := x4) (by rw [World.cell?_alloc_lt _ _ _ (by simp), World.cell?_alloc_new]; rfl)
  have a5 := cell_later hb (a := ⟨w.heap.size + 1, 0, none⟩) (v := .slice s0 n0 c0) (by rw [second_new]; rfl)
  have a6 := cell_later hb (a := ⟨w.heap.size + 1, 1, none⟩) (v := .slice p n c) (by rw [second_new]; rfl)
  have HL := Lib.hid (show w.heap.size < w1.heap.size from by have := hb.size; simp only [World.size_alloc] at this; omega)
  have HB2 := Lib.hid (show Below w.heap.size w w1 from HB1.out.trans (hb.mono (by simp only [World.size_alloc]; omega)))
  clear hb HA HB1 HT
  rcases he with rfl | rfl
  · go_wp2_with fail
    refine (HK.out _).mono ?_
    rintro e w2 ⟨rfl, hb⟩
    have HB3 := Lib.hid hb
    clear hb
    go_wp2_with fail
    go_ret
    exact ⟨rfl, HB2.out.trans (HB3.out.mono (Nat.le_of_lt HL.out))⟩
  · go_wp2_with fail
    refine (HV.out _).mono ?_
    rintro e w2 ⟨⟨z2, rfl⟩, hb⟩
    have b5 := cell_later hb a5
    have b6 := cell_later hb a6
    have HB3 := Lib.hid (show Below w.heap.size w w2 from HB2.out.trans (hb.mono (Nat.le_of_lt HL.out)))
    have HL3 := Lib.hid (show w.heap.size < w2.heap.size from Nat.lt_of_lt_of_le HL.out hb.size)
    clear hb a0 a1 a2 a3 a4 a5 a6 HB2 HL
    go_wp2_with fail
    refine (HVS.out _).mono ?_
    rintro e w3 ⟨⟨z3, rfl⟩, hb⟩
    have e5 := cell_later hb b5
    have e6 := cell_later hb b6
    have HB4 := Lib.hid (show Below w.heap.size w w3 from HB3.out.trans (hb.mono (Nat.le_of_lt HL3.out)))
    have HL4 := Lib.hid (show w.heap.size < w3.heap.size from Nat.lt_of_lt_of_le HL3.out hb.size)
    clear hb b5 b6 HB3 HL3
    go_wp2_with fail
    refine (HH.out _).mono ?_
    rintro e w4 ⟨⟨z4, rfl⟩, hb⟩
    have HB5 := Lib.hid (show Below w.heap.size w w4 from HB4.out.trans (hb.mono (Nat.le_of_lt HL4.out)))
    have HL5 := Lib.hid (show w.heap.size < w4.heap.size from Nat.lt_of_lt_of_le HL4.out hb.size)
    clear hb e5 e6 HB4 HL4
    go_wp2_with fail
    refine (HK.out _).mono ?_
    rintro e w5 ⟨rfl, hb⟩
    have HB6 := Lib.hid hb
    clear hb
    go_wp2_with fail
    go_ret
    exact ⟨rfl, HB5.out.trans (HB6.out.mono (Nat.le_of_lt HL5.out))⟩
end Go.Proofs.YtgmkcdpbkcojnacGreatDoor
