/- The law, of a world that is read. -/
import Derived.Test.YtgmkcdpbkcojnaaGreatW4
import Derived.Test.YtgmkcdpbkcojnaaGreatAb19
namespace Go.Proofs.YtgmkcdpbkcojnaaGreat
open Go Go.RowKit Go.WideShapes Go.ChangeShapes Go.WideElems Go.Deep Go.Joins

theorem known_true : Ab.topA Tryz.prog Ab.noHook 100000 300 5 [] = true := by kernel_rfl
theorem known_any (w : World) : Calls Tryz.prog 5 #[] w fun e w' => e = .returned (.bool true) ∧ Below w.heap.size w w' :=
  Ab.top_sound (by kernel_rfl) (Ab.named_of (by kernel_rfl)) Ab.noHooks known_true (xs := []) .nil w

set_option maxRecDepth 100000 in
set_option maxHeartbeats 4000000 in
theorem law_any (s0 p : Option Addr) (n0 c0 n c : Nat) (t : Int) (w : World) (h : TabsIn w p n) (hn0 : n0 ≤ 9223372036854775807) (hn : n ≤ 9223372036854775807) :
    Calls Tryz.prog 3 #[.agg #[.slice s0 n0 c0, .slice p n c], .int .i64 t] w fun e w' => e = .returned (.bool true) ∧ Below w.heap.size w w' := by
  have HT := Lib.hid h
  clear h
  have HB1 := Lib.hid (show Below w.heap.size w (w.alloc (Obj.cells #[Value.slice s0 n0 c0, Value.slice p n c] 25)) from (Below.refl _ _).alloc (Nat.le_refl _) _)
  have HA := Lib.hid (tame_any s0 p n0 c0 n c _ (HT.out.later HB1.out) hn0 hn)
  have HV := Lib.hid (fun w => value_nil s0 p n0 c0 n c t w)
  have HVS := Lib.hid (fun q m e w => values_nil s0 p n0 c0 n c q m e w)
  have HH := Lib.hid (fun q m e w => holds_nil s0 p n0 c0 n c q m e w)
  have HK := Lib.hid (fun w => known_any w)
  go_enter Tryz.func3, Tryz.ntmps3
  go_wp2_with fail
  refine HA.out.mono ?_
  rintro e w1 ⟨he, hb⟩
  have a0 := cell_later hb (a := ⟨w.heap.size, 0, none⟩) (v := .slice s0 n0 c0) (cell_second' w _ _ 25)
  have a1 := cell_later hb (a := ⟨w.heap.size, 1, none⟩) (v := .slice p n c) (cell_second w _ _ 25)
  have HL := Lib.hid (show w.heap.size < w1.heap.size from by have := hb.size; rw [World.size_alloc] at this; omega)
  have HB2 := Lib.hid (show Below w.heap.size w w1 from HB1.out.trans (hb.mono (by simp)))
  clear hb HA HB1 HT
  rcases he with rfl | rfl
  · go_wp2_with fail
    refine (HK.out _).mono ?_
    rintro e w2 ⟨rfl, hb⟩
    have HB3 := Lib.hid hb
    clear hb
    go_wp2_with fail
    go_ret
    exact ⟨rfl, HB2.out.trans (HB3.out.mono (Nat.le_of_lt HL.out))⟩
  · go_wp2_with fail
    refine (HV.out _).mono ?_
    rintro e w2 ⟨rfl, hb⟩
    have b0 := cell_later hb a0
    have b1 := cell_later hb a1
    have HB3 := Lib.hid (show Below w.heap.size w w2 from HB2.out.trans (hb.mono (Nat.le_of_lt HL.out)))
    have HL3 := Lib.hid (show w.heap.size < w2.heap.size from Nat.lt_of_lt_of_le HL.out hb.size)
    have d0 : (w2.alloc (Obj.cells #[Value.int IntKind.i64 0, Value.bool false, Value.int IntKind.i64 0, Value.int IntKind.i64 0, Value.int IntKind.i64 0] 33)).cell? ⟨w.heap.size, 0, none⟩ = some (.slice s0 n0 c0) := by rw [World.cell?_alloc_lt _ _ _ HL3.out]; exact b0
    have d1 : (w2.alloc (Obj.cells #[Value.int IntKind.i64 0, Value.bool false, Value.int IntKind.i64 0, Value.int IntKind.i64 0, Value.int IntKind.i64 0] 33)).cell? ⟨w.heap.size, 1, none⟩ = some (.slice p n c) := by rw [World.cell?_alloc_lt _ _ _ HL3.out]; exact b1
    clear hb a0 a1 HB2 HL b0 b1
    go_wp2_with fail
    refine (HVS.out _ _ _ _).mono ?_
    rintro e w3 ⟨rfl, hb⟩
    have e0 := cell_later hb (a := ⟨w.heap.size, 0, none⟩) (v := .slice s0 n0 c0) (by rw [World.cell?_alloc_lt _ _ _ (by have := HL3.out; simp; omega)]; exact d0)
    have e1 := cell_later hb (a := ⟨w.heap.size, 1, none⟩) (v := .slice p n c) (by rw [World.cell?_alloc_lt _ _ _ (by have := HL3.out; simp; omega)]; exact d1)
    have HB4 := Lib.hid (show Below w.heap.size w w3 from HB3.out.trans ((below_alloc2 w2 _ _).mono (Nat.le_of_lt HL3.out) |>.trans (hb.mono (by have := HL3.out; simp; omega))))
    have HL4 := Lib.hid (show w.heap.size < w3.heap.size from by have := HL3.out; have := hb.size; simp at this; omega)
    clear hb d0 d1 HB3 HL3
    go_wp2_with fail
    refine (HH.out _ _ _ _).mono ?_
    rintro e w4 ⟨rfl, hb⟩
    have HB5 := Lib.hid (show Below w.heap.size w w4 from HB4.out.trans ((below_alloc1 w3 _).mono (Nat.le_of_lt HL4.out) |>.trans (hb.mono (by have := HL4.out; simp; omega))))
    have HL5 := Lib.hid (show w.heap.size < w4.heap.size from by have := HL4.out; have := hb.size; simp at this; omega)
    clear hb e0 e1 HB4 HL4
    go_wp2_with fail
    refine (HK.out _).mono ?_
    rintro e w5 ⟨rfl, hb⟩
    have HB6 := Lib.hid hb
    clear hb
    go_wp2_with fail
    go_ret
    exact ⟨rfl, HB5.out.trans (HB6.out.mono (Nat.le_of_lt HL5.out))⟩
end Go.Proofs.YtgmkcdpbkcojnaaGreat
