/- The sum of two numbers of two signs: one of four cases. -/
import Derived.Test.YtmfmdcapanaajaaDoorLong
namespace Go.Proofs.YtmfmdcapanaajaaDoor
open Go Go.RowKit Go.Sort
attribute [local go_sem ↓] Go.wp_at_zero Go.wp_at_succ
attribute [local irreducible] G X

set_option maxRecDepth 100000 in
set_option maxHeartbeats 4000000 in
theorem add_false_ge (x y d : Int) (w : World) (x0 : 0 ≤ x) (x1 : x < 1461501637330902918203684832716283019655932542976) (y0 : 0 ≤ y) (y1 : y < 1461501637330902918203684832716283019655932542976) (h : ¬ x < y) (hdd : d = x - y) :
    Calls Tryd.prog 12 #[.agg (longV false x), .agg (longV true y)] w fun e w' => e = .returned (.agg (longV (false) d)) ∧ Below w.heap.size w w' := by
  have hd : decide (x < y) = false := by simpa using h
  have q0 : 0 ≤ d := by omega
  have q1 : d < 1461501637330902918203684832716283019655932542976 := by omega
  have HD := Lib.hid hdd
  have HQ0 := Lib.hid q0
  have HQ1 := Lib.hid q1
  have HC1 := fun W => below_any x y W x0 x1 y0 y1
  clear x0 x1 y0 y1 h q0 q1 hdd
  go_enter Tryd.func12, Tryd.ntmps12
  have hS := start3 w false true x y
  have hB := below3' w (.cells (longV false x) 27) (.cells (longV true y) 27) (.cells zeros11 27)
  have hs : (((w.alloc (.cells (longV false x) 27)).alloc (.cells (longV true y) 27)).alloc (.cells zeros11 27)).heap.size = w.heap.size + 1 + 1 + 1 := by simp
  have hrA := rangeAt_row hS.1
  have hrB := rangeAt_row hS.2.1
  go_wp2_with (first | (refine wpList_load_mid rfl 25 _ rfl w.heap.size 1 rfl (rowG x).toList _ (by exact hrA) Tryd.underlying25 rfl (by kernel_rfl) ?_) | (refine wpList_load_mid rfl 25 _ rfl (w.heap.size + 1) 1 rfl (rowG y).toList _ (by exact hrB) Tryd.underlying25 rfl (by kernel_rfl) ?_))
  refine (HC1 _).mono ?_
  rintro e w1 ⟨rfl, hb1⟩
  have hS1 := kept_later hS hb1
  have hB1 := chainB' hB hb1 (by omega)
  have hs1 := sizeA hb1
  clear hS hB hb1 hrA hrB hs
  rw [hd]
  have hS2 := hS1
  have hB2 := hB1
  have hs2 := hs1
  have lA2 := rangeAt_row hS2.1
  have lB2 := rangeAt_row hS2.2.1
  clear hS1 hB1
  go_wp2_with (first | (refine wpList_load_mid rfl 25 _ rfl w.heap.size 1 rfl (rowG x).toList _ (by exact lA2) Tryd.underlying25 rfl (by kernel_rfl) ?_) | (refine wpList_load_mid rfl 25 _ rfl (w.heap.size + 1) 1 rfl (rowG y).toList _ (by exact lB2) Tryd.underlying25 rfl (by kernel_rfl) ?_))
  clear lA2 lB2
  refine (diff_any x y _).mono ?_
  rintro e w3 ⟨rfl, hb3⟩
  have hS3 := kept_later hS2 hb3
  have hB3 := chainB' hB2 hb3 (by omega)
  have hs3 : w.heap.size + 1 + 1 + 1 ≤ w3.heap.size := by have := hb3.size; omega
  clear hS2 hB2 hb3
  rw [← HD.out]
  have tD := there_new w3 zeros10 25
  have oD := rowG_one d
  go_wp2_with (first | (refine wpList_store_mid rfl 25 _ _ rfl w3.heap.size 0 (rowG d) rfl rfl (by exact tD) (by kernel_rfl) (by exact oD) ?_))
  have hS4 : (fun w' => Kept w.heap.size (w.heap.size + 1) (w.heap.size + 1 + 1) false true x y w' ∧ w'.rangeAt w3.heap.size 0 (rowG d).toList) (((w3.alloc (.cells zeros10 25)).setCells w3.heap.size 0 (rowG d).toList).drew) := ⟨kept_drew (kept_store (kept_alloc hS3 _) _ _ _ (by omega) (by omega)), (World.rangeAt_drew _ _ _ _).2 (World.rangeAt_setCells_same _ _ _ _ tD)⟩
  have hB4 := (setCellsB (hB3.alloc (by omega) (.cells zeros10 25)) w3.heap.size 0 (rowG d).toList (by omega)).drew
  have hs4 : w.heap.size + 1 + 1 + 1 ≤ (((w3.alloc (.cells zeros10 25)).setCells w3.heap.size 0 (rowG d).toList).drew).heap.size := by rw [sizeT]; omega
  clear hS3 hB3 tD oD
  generalize ((w3.alloc (.cells zeros10 25)).setCells w3.heap.size 0 (rowG d).toList) = w4 at *
  refine wp_region_held_drew (S := (fun w' => Kept w.heap.size (w.heap.size + 1) (w.heap.size + 1 + 1) false true x y w' ∧ w'.rangeAt w3.heap.size 0 (rowG d).toList)) (by kernel_rfl) hS4 (fun hHeld => ?_)
  refine wpAnyH_take (i := 0) (oi := { dst := some 31, op := Op.fieldAddr 27 (Operand.tmp 2) 0, type := 0, pos := "ref.go:60", after := #[], guard := none }) (v := ?_) rfl (by kernel_rfl) (by kernel_rfl) (by kernel_rfl) (fun _ _ _ h => h) (Or.inl ⟨by rfl, ?_⟩) (by assumption) ?_
  rotate_left
  · intro w hSw
    (try dsimp only at hSw)
    go_simp
    try with_reducible rfl
  try simp only [Act.put, List.setIfInBounds_toArray, List.set_cons_zero, List.set_cons_succ]
  refine wpAnyH_take (i := 1) (oi := { dst := some 32, op := Op.load 4 (Operand.tmp 31), type := 4, pos := "ref.go:60", after := #[{ on := 0, ground := Ground.data }], guard := none }) (v := ?_) rfl (by kernel_rfl) (by kernel_rfl) (by kernel_rfl) (fun _ _ _ h => h) (Or.inl ⟨by rfl, ?_⟩) (by assumption) ?_
  rotate_left
  · intro w hSw
    have hcell := rangeAt_cell hSw.1.1
    go_simp
    try with_reducible rfl
  try simp only [Act.put, List.setIfInBounds_toArray, List.set_cons_zero, List.set_cons_succ]
  refine wpAnyH_take (i := 2) (oi := { dst := some 33, op := Op.move (Operand.tmp 32), type := 4, pos := "ref.go:60", after := #[{ on := 1, ground := Ground.data }], guard := none }) (v := ?_) rfl (by kernel_rfl) (by kernel_rfl) (by kernel_rfl) (fun _ _ _ h => h) (Or.inl ⟨by rfl, ?_⟩) (by assumption) ?_
  rotate_left
  · intro w hSw
    (try dsimp only at hSw)
    go_simp
    try with_reducible rfl
  try simp only [Act.put, List.setIfInBounds_toArray, List.set_cons_zero, List.set_cons_succ]
  refine wpAnyH_take (i := 3) (oi := { dst := some 34, op := Op.load 25 (Operand.tmp 5), type := 25, pos := "ref.go:60", after := #[{ on := 2, ground := Ground.guard }], guard := some (2, true) }) (v := undef) rfl (by kernel_rfl) (by kernel_rfl) (by kernel_rfl) (fun _ _ _ h => h) (Or.inr ⟨by rfl, rfl⟩) (by assumption) ?_
  try simp only [Act.put, List.setIfInBounds_toArray, List.set_cons_zero, List.set_cons_succ]
  refine wpAnyH_take (i := 7) (oi := { dst := some 38, op := Op.load 25 (Operand.tmp 5), type := 25, pos := "ref.go:60", after := #[], guard := none }) (v := _) rfl (by kernel_rfl) (by kernel_rfl) (by kernel_rfl) (fun _ _ _ h => h) (yieldsIf_load_mid (by rfl) _ _ rfl _ _ rfl _ _ (fun w hSw => hSw.2) Tryd.underlying25 rfl (by kernel_rfl)) (by assumption) ?_
  try simp only [Act.put, List.setIfInBounds_toArray, List.set_cons_zero, List.set_cons_succ]
  refine wpAnyH_take (i := 4) (oi := { dst := some 35, op := Op.call { callee := Callee.value (Operand.func 33), args := #[Operand.tmp 34], argTypes := #[25] }, type := 4, pos := "ref.go:60", after := #[{ on := 3, ground := Ground.data }, { on := 2, ground := Ground.chain }, { on := 2, ground := Ground.guard }], guard := some (2, true) }) (v := undef) rfl (by kernel_rfl) (by kernel_rfl) (by kernel_rfl) (fun _ _ _ h => h) (Or.inr ⟨by rfl, rfl⟩) (by assumption) ?_
  try simp only [Act.put, List.setIfInBounds_toArray, List.set_cons_zero, List.set_cons_succ]
  refine wpAnyH_take (i := 5) (oi := { dst := some 36, op := Op.unOp UnOp.not 4 (Operand.tmp 35), type := 4, pos := "ref.go:60", after := #[{ on := 4, ground := Ground.data }, { on := 2, ground := Ground.guard }], guard := some (2, true) }) (v := undef) rfl (by kernel_rfl) (by kernel_rfl) (by kernel_rfl) (fun _ _ _ h => h) (Or.inr ⟨by rfl, rfl⟩) (by assumption) ?_
  try simp only [Act.put, List.setIfInBounds_toArray, List.set_cons_zero, List.set_cons_succ]
  have hHeld0 := hHeld
  refine wpAnyH_take (i := 6) (oi := { dst := some 37, op := Op.pick (Operand.tmp 33) (Operand.tmp 36) (Operand.const (Value.bool false)), type := 4, pos := "ref.go:60", after := #[{ on := 2, ground := Ground.data }, { on := 5, ground := Ground.data }], guard := none }) (v := .bool false) rfl (by kernel_rfl) (by kernel_rfl) (by kernel_rfl) (fun _ _ _ h => h) (Or.inl ⟨by rfl, ?_⟩) (by assumption) ?_
  · intro w hSw
    (try dsimp only at hSw)
    go_simp
    try with_reducible rfl
  try simp only [Act.put, List.setIfInBounds_toArray, List.set_cons_zero, List.set_cons_succ]
  refine wpAnyH_take (i := 8) (oi := { dst := some 39, op := Op.build 27 #[(0, Operand.tmp 37), (1, Operand.tmp 38)], type := 27, pos := "ref.go:60", after := #[{ on := 6, ground := Ground.data }, { on := 7, ground := Ground.data }], guard := none }) (v := .agg (longV false d)) rfl (by kernel_rfl) (by kernel_rfl) (by kernel_rfl) (fun _ _ _ h => h) (Or.inl ⟨by rfl, ?_⟩) (by assumption) ?_
  · intro w hSw
    (try dsimp only at hSw)
    go_simp
    try with_reducible rfl
  try simp only [Act.put, List.setIfInBounds_toArray, List.set_cons_zero, List.set_cons_succ]
  refine wpAnyH_ready (rs := [9]) (by kernel_rfl) (by simp) ?_
  refine AllReadyH.cons (o := { dst := none, op := Op.store 27 (Operand.tmp 4) (Operand.tmp 39), type := 0, pos := "ref.go:60", after := #[{ on := 8, ground := Ground.data }, { on := 4, ground := Ground.chain }, { on := 0, ground := Ground.phase }, { on := 1, ground := Ground.phase }, { on := 2, ground := Ground.phase }, { on := 3, ground := Ground.phase }, { on := 4, ground := Ground.phase }, { on := 5, ground := Ground.phase }, { on := 6, ground := Ground.phase }, { on := 7, ground := Ground.phase }, { on := 8, ground := Ground.phase }], guard := none }) rfl (fun K hK => ?_) AllReadyH.nil
  rw [if_pos (by rfl)]
  refine wp_store_mid 27 _ _ rfl (w.heap.size + 1 + 1) 0 (longV false d) rfl rfl hHeld.1.2.2.1 (by kernel_rfl) (longV_one _ _) ?_
  refine hK.out _ _ ?_ (fun hHeld => ?_)
  · exact ⟨kept_store hHeld.1 _ _ _ (by omega) (by omega), World.rangeAt_setCells_apart hHeld.2 _ _ _ (.inl (by omega))⟩
  clear hK K
  try simp only [Act.put, List.setIfInBounds_toArray, List.set_cons_zero, List.set_cons_succ]
  refine wpAnyH_done (by kernel_rfl) ?_ _
  go_wp2
  refine bodyPost_ret (v := .agg (longV false (d))) ?_ ?_ ?_
  · exact results_cell_mid Tryd.results12 _ _ (w.heap.size + 1 + 1) 0 (longV false (d)).toList _ (by rfl) (World.rangeAt_setCells_same _ _ _ _ hHeld0.1.2.2.1) Tryd.underlying27 rfl (by kernel_rfl)
  · rfl
  · exact ⟨rfl, setCellsB (hB4) _ _ _ (by omega)⟩
end Go.Proofs.YtmfmdcapanaajaaDoor
