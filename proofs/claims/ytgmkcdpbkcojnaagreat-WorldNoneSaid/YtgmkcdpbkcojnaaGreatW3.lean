/- Without a store there are no values. -/
import Derived.Test.YtgmkcdpbkcojnaaGreatW2
namespace Go.Proofs.YtgmkcdpbkcojnaaGreat
open Go Go.RowKit Go.WideShapes Go.ChangeShapes Go.WideElems Go.Deep Go.Joins

theorem cells_mid (w : World) (o1 o3 : Obj) (cs : Array Value) (t : TypeId) (k : Nat) : (((w.alloc o1).alloc (.cells cs t)).alloc o3).cell? ⟨w.heap.size + 1, k, none⟩ = cs[k]? := by
  rw [World.cell?_alloc_lt _ _ _ (by simp)]
  have := World.cell?_alloc_new (w := w.alloc o1) cs t k
  rw [World.size_alloc] at this
  exact this
theorem frozen_mid (w : World) (o1 o3 : Obj) (cs : Array Value) (t : TypeId) (k : Nat) : (((w.alloc o1).alloc (.cells cs t)).alloc o3).frozen? ⟨w.heap.size + 1, k, none⟩ = false := by
  rw [World.frozen?_alloc_old _ _ _ (by simp)]
  have := World.frozen?_alloc_new (w := w.alloc o1) cs t k
  rw [World.size_alloc] at this
  exact this
set_option maxRecDepth 100000 in
set_option maxHeartbeats 1600000 in
theorem values_nil (s0 p : Option Addr) (n0 c0 n c : Nat) (q : Option Addr) (m e : Nat) (w : World) :
    Calls Tryz.prog 7 #[.pointer none, .agg #[.slice s0 n0 c0, .slice p n c], .slice q m e] w fun e w' => e = .returned (.tuple #[.slice none 0 0, .int .i64 1]) ∧ Below w.heap.size w w' := by
  go_enter Tryz.func7, Tryz.ntmps7
  go_wp2_with fail
  exact bodyPost_ret (v := .tuple #[.slice none 0 0, .int .i64 1]) (by simp [results, Tryz.results7, go_sem]) rfl ⟨rfl, below_alloc3 _ _ _ _⟩

set_option maxRecDepth 100000 in
set_option maxHeartbeats 1600000 in
theorem value_nil (s0 p : Option Addr) (n0 c0 n c : Nat) (t : Int) (w : World) :
    Calls Tryz.prog 6 #[.pointer none, .agg #[.slice s0 n0 c0, .slice p n c], .int .i64 t] w fun e w' => e = .returned (.tuple #[.agg #[.int .i64 0, .bool false, .int .i64 0, .int .i64 0, .int .i64 0], .int .i64 1]) ∧ Below w.heap.size w w' := by
  have HV := Lib.hid (fun q m e w => values_nil s0 p n0 c0 n c q m e w)
  go_enter Tryz.func6, Tryz.ntmps6
  go_wp2_with fail
  refine (HV.out _ _ _ _).mono ?_
  rintro e w1 ⟨rfl, hb⟩
  have HB2 := Lib.hid hb
  have k0 := cell_later hb (a := ⟨w.heap.size + 1, 0, none⟩) (v := .int .i64 0) (by rw [cells_mid]; rfl)
  have k1 := cell_later hb (a := ⟨w.heap.size + 1, 1, none⟩) (v := .bool false) (by rw [cells_mid]; rfl)
  have k2 := cell_later hb (a := ⟨w.heap.size + 1, 2, none⟩) (v := .int .i64 0) (by rw [cells_mid]; rfl)
  have k3 := cell_later hb (a := ⟨w.heap.size + 1, 3, none⟩) (v := .int .i64 0) (by rw [cells_mid]; rfl)
  have k4 := cell_later hb (a := ⟨w.heap.size + 1, 4, none⟩) (v := .int .i64 0) (by rw [cells_mid]; rfl)
  have g0 : w1.frozen? ⟨w.heap.size + 1, 0, none⟩ = false := by rw [hb.frozen (by simp), frozen_mid]
  have g1 : w1.frozen? ⟨w.heap.size + 1, 1, none⟩ = false := by rw [hb.frozen (by simp), frozen_mid]
  have g2 : w1.frozen? ⟨w.heap.size + 1, 2, none⟩ = false := by rw [hb.frozen (by simp), frozen_mid]
  have g3 : w1.frozen? ⟨w.heap.size + 1, 3, none⟩ = false := by rw [hb.frozen (by simp), frozen_mid]
  have g4 : w1.frozen? ⟨w.heap.size + 1, 4, none⟩ = false := by rw [hb.frozen (by simp), frozen_mid]
  have HB3 := Lib.hid (show Below w.heap.size w w1 from (below_alloc3 _ _ _ _).trans (hb.mono (by simp; omega)))
  clear hb HV HB2
  go_wp2_with fail
  exact bodyPost_ret (v := .tuple #[.agg #[.int .i64 0, .bool false, .int .i64 0, .int .i64 0, .int .i64 0], .int .i64 1]) (by simp [results, Tryz.results6, go_sem, k0, k1, k2, k3, k4]) rfl ⟨rfl, ((((HB3.out.setCell (by simp) _).setCell (by simp) _).setCell (by simp) _).setCell (by simp) _).setCell (by simp) _⟩


set_option maxRecDepth 100000 in
set_option maxHeartbeats 1600000 in
theorem holds_nil (s0 p : Option Addr) (n0 c0 n c : Nat) (q : Option Addr) (m e : Nat) (w : World) :
    Calls Tryz.prog 8 #[.pointer none, .agg #[.slice s0 n0 c0, .slice p n c], .slice q m e] w fun e w' => e = .returned (.tuple #[.bool false, .int .i64 1]) ∧ Below w.heap.size w w' := by
  have HV := Lib.hid (fun q m e w => values_nil s0 p n0 c0 n c q m e w)
  go_enter Tryz.func8, Tryz.ntmps8
  go_wp2_with fail
  refine (HV.out _ _ _ _).mono ?_
  rintro e w1 ⟨rfl, hb⟩
  have HB2 := Lib.hid hb
  clear hb HV
  go_wp2_with fail
  exact bodyPost_ret (v := .tuple #[.bool false, .int .i64 1]) (by simp [results, Tryz.results8, go_sem]) rfl ⟨rfl, by simpa using (below_alloc1 _ _).trans (HB2.out.mono (by simp))⟩
end Go.Proofs.YtgmkcdpbkcojnaaGreat
