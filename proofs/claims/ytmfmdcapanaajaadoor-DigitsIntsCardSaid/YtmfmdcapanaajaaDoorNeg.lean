/- Numbers of a sign and a row of ten digits: sums and the other sign, by numbers. -/
import Derived.Test.YtmfmdcapanaajaaDoorLongTl
import Derived.Test.YtmfmdcapanaajaaDoorLongTg
import Derived.Test.YtmfmdcapanaajaaDoorLongFl
import Derived.Test.YtmfmdcapanaajaaDoorLongFg
namespace Go.Proofs.YtmfmdcapanaajaaDoor
open Go Go.RowKit Go.Sort
attribute [local go_sem ↓] Go.wp_at_zero Go.wp_at_succ

/-- a number's size; a number as cells. -/
def absZ (v : Int) : Int := if v < 0 then -v else v
abbrev sV (v : Int) : Array Value := longV (decide (v < 0)) (absZ v)
theorem sV_of (m : Bool) (x v : Int) (hm : m = decide (v < 0)) (hx : x = absZ v) : longV m x = sV v := by rw [hm, hx]
theorem add_n (x y : Int) (w : World) (x0 : -1461501637330902918203684832716283019655932542976 < x) (x1 : x < 1461501637330902918203684832716283019655932542976) (y0 : -1461501637330902918203684832716283019655932542976 < y) (y1 : y < 1461501637330902918203684832716283019655932542976) :
    Calls Tryd.prog 12 #[.agg (sV x), .agg (sV y)] w fun e w' => e = .returned (.agg (sV (x + y))) ∧ Below w.heap.size w w' := by
  unfold sV
  by_cases hx : x < 0 <;> by_cases hy : y < 0
  · rw [decide_eq_true hx, decide_eq_true hy]
    refine (addSame true _ _ w).mono ?_
    rintro e w' ⟨rfl, hb⟩
    exact ⟨by rw [sV_of true _ (x + y) (by simp; omega) (by unfold absZ; rw [if_pos hx, if_pos hy, if_pos (by omega)]; omega)], hb⟩
  · rw [decide_eq_true hx, decide_eq_false hy]
    have ex : absZ x = -x := by unfold absZ; rw [if_pos hx]
    have ey : absZ y = y := by unfold absZ; rw [if_neg hy]
    rw [ex, ey]
    by_cases h : -x < y
    · refine (add_true_lt (-x) y (y - -x) w (by omega) (by omega) (by omega) (by omega) h rfl).mono ?_
      rintro e w' ⟨rfl, hb⟩
      exact ⟨by rw [sV_of _ _ (x + y) (by simp; omega) (by unfold absZ; rw [if_neg (by omega)]; omega)], hb⟩
    · refine (add_true_ge (-x) y (-x - y) w (by omega) (by omega) (by omega) (by omega) h rfl).mono ?_
      rintro e w' ⟨rfl, hb⟩
      refine ⟨?_, hb⟩
      by_cases hz : -x - y = 0
      · rw [sV_of _ _ (x + y) (by rw [decide_eq_true hz, decide_eq_false (by omega)]; rfl) (by unfold absZ; rw [if_neg (by omega)]; omega)]
      · rw [sV_of _ _ (x + y) (by rw [decide_eq_false hz, decide_eq_true (by omega)]; rfl) (by unfold absZ; rw [if_pos (by omega)]; omega)]
  · rw [decide_eq_false hx, decide_eq_true hy]
    have ex : absZ x = x := by unfold absZ; rw [if_neg hx]
    have ey : absZ y = -y := by unfold absZ; rw [if_pos hy]
    rw [ex, ey]
    by_cases h : x < -y
    · refine (add_false_lt x (-y) (-y - x) w (by omega) (by omega) (by omega) (by omega) h rfl).mono ?_
      rintro e w' ⟨rfl, hb⟩
      refine ⟨?_, hb⟩
      rw [sV_of _ _ (x + y) (by rw [decide_eq_false (by omega), decide_eq_true (by omega)]; rfl) (by unfold absZ; rw [if_pos (by omega)]; omega)]
    · refine (add_false_ge x (-y) (x - -y) w (by omega) (by omega) (by omega) (by omega) h rfl).mono ?_
      rintro e w' ⟨rfl, hb⟩
      exact ⟨by rw [sV_of _ _ (x + y) (by simp; omega) (by unfold absZ; rw [if_neg (by omega)]; omega)], hb⟩
  · rw [decide_eq_false hx, decide_eq_false hy]
    refine (addSame false _ _ w).mono ?_
    rintro e w' ⟨rfl, hb⟩
    exact ⟨by rw [sV_of false _ (x + y) (by simp; omega) (by unfold absZ; rw [if_neg hx, if_neg hy, if_neg (by omega)])], hb⟩
theorem start2 (w : World) (m : Bool) (x : Int) :
    ((w.alloc (.cells (longV m x) 27)).alloc (.cells zeros11 27)).rangeAt w.heap.size 0 (longV m x).toList ∧ ((w.alloc (.cells (longV m x) 27)).alloc (.cells zeros11 27)).there (w.heap.size + 1) 0 11 := by
  have s1 := rangeAt_new w (longV m x) 27
  have s3 := there_new (w.alloc (.cells (longV m x) 27)) zeros11 27
  simp only [World.size_alloc] at s3
  exact ⟨World.rangeAt_alloc s1 _, s3⟩
theorem sizeA2 (w : World) (o1 o2 : Obj) : ((w.alloc o1).alloc o2).drew.heap.size = w.heap.size + 1 + 1 := by
  show ((w.alloc o1).alloc o2).heap.size = _
  simp only [World.size_alloc]
set_option maxRecDepth 100000 in
set_option maxHeartbeats 4000000 in
theorem neg_true (x : Int) (w : World) (x0 : 0 ≤ x) (x1 : x < 1461501637330902918203684832716283019655932542976) :
    Calls Tryd.prog 14 #[.agg (longV true x)] w fun e w' => e = .returned (.agg (longV false x)) ∧ Below w.heap.size w w' := by
  have HQ0 := Lib.hid x0
  have HQ1 := Lib.hid x1
  clear x0 x1
  go_enter Tryd.func14, Tryd.ntmps14
  have hS := start2 w true x
  have hB := (below2 w (.cells (longV true x) 27) (.cells zeros11 27)).drew
  have hs := sizeA2 w (.cells (longV true x) 27) (.cells zeros11 27)
  have hS4 : (fun w' => w'.rangeAt w.heap.size 0 (longV true x).toList ∧ w'.there (w.heap.size + 1) 0 11) ((w.alloc (.cells (longV true x) 27)).alloc (.cells zeros11 27)).drew := ⟨(World.rangeAt_drew _ _ _ _).2 hS.1, (World.there_drew _ _ _ _).2 hS.2⟩
  clear hS
  go_wp2
  generalize ((w.alloc (.cells (longV true x) 27)).alloc (.cells zeros11 27)) = w4 at *
  refine wp_region_held_drew (S := (fun w' => w'.rangeAt w.heap.size 0 (longV true x).toList ∧ w'.there (w.heap.size + 1) 0 11)) (by kernel_rfl) hS4 (fun hHeld => ?_)
  refine wpAnyH_take (i := 0) (oi := { dst := some 3, op := Op.fieldAddr 27 (Operand.tmp 1) 0, type := 0, pos := "ref.go:64", after := #[], guard := none }) (v := ?_) rfl (by kernel_rfl) (by kernel_rfl) (by kernel_rfl) (fun _ _ _ h => h) (Or.inl ⟨by rfl, ?_⟩) (by assumption) ?_
  rotate_left
  · intro w hSw
    (try dsimp only at hSw)
    go_simp
    try with_reducible rfl
  try simp only [Act.put, List.setIfInBounds_toArray, List.set_cons_zero, List.set_cons_succ]
  refine wpAnyH_take (i := 1) (oi := { dst := some 4, op := Op.load 4 (Operand.tmp 3), type := 4, pos := "ref.go:64", after := #[{ on := 0, ground := Ground.data }], guard := none }) (v := ?_) rfl (by kernel_rfl) (by kernel_rfl) (by kernel_rfl) (fun _ _ _ h => h) (Or.inl ⟨by rfl, ?_⟩) (by assumption) ?_
  rotate_left
  · intro w hSw
    have hcell := rangeAt_cell hSw.1
    go_simp
    try with_reducible rfl
  try simp only [Act.put, List.setIfInBounds_toArray, List.set_cons_zero, List.set_cons_succ]
  refine wpAnyH_take (i := 2) (oi := { dst := some 5, op := Op.unOp UnOp.not 4 (Operand.tmp 4), type := 4, pos := "ref.go:64", after := #[{ on := 1, ground := Ground.data }], guard := none }) (v := ?_) rfl (by kernel_rfl) (by kernel_rfl) (by kernel_rfl) (fun _ _ _ h => h) (Or.inl ⟨by rfl, ?_⟩) (by assumption) ?_
  rotate_left
  · intro w hSw
    (try dsimp only at hSw)
    go_simp
    try with_reducible rfl
  try simp only [Act.put, List.setIfInBounds_toArray, List.set_cons_zero, List.set_cons_succ]
  refine wpAnyH_take (i := 3) (oi := { dst := some 6, op := Op.move (Operand.tmp 5), type := 4, pos := "ref.go:64", after := #[{ on := 2, ground := Ground.data }], guard := none }) (v := ?_) rfl (by kernel_rfl) (by kernel_rfl) (by kernel_rfl) (fun _ _ _ h => h) (Or.inl ⟨by rfl, ?_⟩) (by assumption) ?_
  rotate_left
  · intro w hSw
    (try dsimp only at hSw)
    go_simp
    try with_reducible rfl
  try simp only [Act.put, List.setIfInBounds_toArray, List.set_cons_zero, List.set_cons_succ]
  refine wpAnyH_take (i := 9) (oi := { dst := some 12, op := Op.fieldAddr 27 (Operand.tmp 1) 1, type := 0, pos := "ref.go:64", after := #[], guard := none }) (v := ?_) rfl (by kernel_rfl) (by kernel_rfl) (by kernel_rfl) (fun _ _ _ h => h) (Or.inl ⟨by rfl, ?_⟩) (by assumption) ?_
  rotate_left
  · intro w hSw
    (try dsimp only at hSw)
    go_simp
    try with_reducible rfl
  try simp only [Act.put, List.setIfInBounds_toArray, List.set_cons_zero, List.set_cons_succ]
  refine wpAnyH_take (i := 10) (oi := { dst := some 13, op := Op.load 25 (Operand.tmp 12), type := 25, pos := "ref.go:64", after := #[{ on := 9, ground := Ground.data }], guard := none }) (v := _) rfl (by kernel_rfl) (by kernel_rfl) (by kernel_rfl) (fun _ _ _ h => h) (yieldsIf_load_mid (by rfl) _ _ rfl _ _ rfl _ _ (fun w hSw => rangeAt_row hSw.1) Tryd.underlying25 rfl (by kernel_rfl)) (by assumption) ?_
  try simp only [Act.put, List.setIfInBounds_toArray, List.set_cons_zero, List.set_cons_succ]
  refine wpAnyH_take (i := 4) (oi := { dst := some 7, op := Op.fieldAddr 27 (Operand.tmp 1) 1, type := 0, pos := "ref.go:64", after := #[{ on := 3, ground := Ground.guard }], guard := some (3, true) }) (v := undef) rfl (by kernel_rfl) (by kernel_rfl) (by kernel_rfl) (fun _ _ _ h => h) (Or.inr ⟨by rfl, rfl⟩) (by assumption) ?_
  try simp only [Act.put, List.setIfInBounds_toArray, List.set_cons_zero, List.set_cons_succ]
  refine wpAnyH_take (i := 5) (oi := { dst := some 8, op := Op.load 25 (Operand.tmp 7), type := 25, pos := "ref.go:64", after := #[{ on := 4, ground := Ground.data }, { on := 3, ground := Ground.guard }], guard := some (3, true) }) (v := undef) rfl (by kernel_rfl) (by kernel_rfl) (by kernel_rfl) (fun _ _ _ h => h) (Or.inr ⟨by rfl, rfl⟩) (by assumption) ?_
  try simp only [Act.put, List.setIfInBounds_toArray, List.set_cons_zero, List.set_cons_succ]
  refine wpAnyH_take (i := 6) (oi := { dst := some 9, op := Op.call { callee := Callee.value (Operand.func 33), args := #[Operand.tmp 8], argTypes := #[25] }, type := 4, pos := "ref.go:64", after := #[{ on := 5, ground := Ground.data }, { on := 3, ground := Ground.chain }, { on := 3, ground := Ground.guard }], guard := some (3, true) }) (v := undef) rfl (by kernel_rfl) (by kernel_rfl) (by kernel_rfl) (fun _ _ _ h => h) (Or.inr ⟨by rfl, rfl⟩) (by assumption) ?_
  try simp only [Act.put, List.setIfInBounds_toArray, List.set_cons_zero, List.set_cons_succ]
  refine wpAnyH_take (i := 7) (oi := { dst := some 10, op := Op.unOp UnOp.not 4 (Operand.tmp 9), type := 4, pos := "ref.go:64", after := #[{ on := 6, ground := Ground.data }, { on := 3, ground := Ground.guard }], guard := some (3, true) }) (v := undef) rfl (by kernel_rfl) (by kernel_rfl) (by kernel_rfl) (fun _ _ _ h => h) (Or.inr ⟨by rfl, rfl⟩) (by assumption) ?_
  try simp only [Act.put, List.setIfInBounds_toArray, List.set_cons_zero, List.set_cons_succ]
  refine wpAnyH_take (i := 8) (oi := { dst := some 11, op := Op.pick (Operand.tmp 6) (Operand.tmp 10) (Operand.const (Value.bool false)), type := 4, pos := "ref.go:64", after := #[{ on := 3, ground := Ground.data }, { on := 7, ground := Ground.data }], guard := none }) (v := .bool false) rfl (by kernel_rfl) (by kernel_rfl) (by kernel_rfl) (fun _ _ _ h => h) (Or.inl ⟨by rfl, ?_⟩) (by assumption) ?_
  · intro w hSw
    (try dsimp only at hSw)
    go_simp
    try with_reducible rfl
  try simp only [Act.put, List.setIfInBounds_toArray, List.set_cons_zero, List.set_cons_succ]
  refine wpAnyH_take (i := 11) (oi := { dst := some 14, op := Op.build 27 #[(0, Operand.tmp 11), (1, Operand.tmp 13)], type := 27, pos := "ref.go:64", after := #[{ on := 8, ground := Ground.data }, { on := 10, ground := Ground.data }], guard := none }) (v := .agg (longV false x)) rfl (by kernel_rfl) (by kernel_rfl) (by kernel_rfl) (fun _ _ _ h => h) (Or.inl ⟨by rfl, ?_⟩) (by assumption) ?_
  · intro w hSw
    (try dsimp only at hSw)
    go_simp
    try with_reducible rfl
  try simp only [Act.put, List.setIfInBounds_toArray, List.set_cons_zero, List.set_cons_succ]
  have hHeld0 := hHeld
  refine wpAnyH_ready (rs := [12]) (by kernel_rfl) (by simp) ?_
  refine AllReadyH.cons (o := { dst := none, op := Op.store 27 (Operand.tmp 2) (Operand.tmp 14), type := 0, pos := "ref.go:64", after := #[{ on := 11, ground := Ground.data }, { on := 6, ground := Ground.chain }, { on := 0, ground := Ground.phase }, { on := 1, ground := Ground.phase }, { on := 2, ground := Ground.phase }, { on := 3, ground := Ground.phase }, { on := 4, ground := Ground.phase }, { on := 5, ground := Ground.phase }, { on := 6, ground := Ground.phase }, { on := 7, ground := Ground.phase }, { on := 8, ground := Ground.phase }, { on := 9, ground := Ground.phase }, { on := 10, ground := Ground.phase }, { on := 11, ground := Ground.phase }], guard := none }) rfl (fun K hK => ?_) AllReadyH.nil
  rw [if_pos (by rfl)]
  refine wp_store_mid 27 _ _ rfl (w.heap.size + 1) 0 (longV false x) rfl rfl hHeld.2 (by kernel_rfl) (longV_one _ _) ?_
  refine hK.out _ _ ?_ (fun hHeld => ?_)
  · exact ⟨World.rangeAt_setCells_apart hHeld.1 _ _ _ (.inl (by omega)), World.there_setCells hHeld.2 _ _ _⟩
  clear hK K
  try simp only [Act.put, List.setIfInBounds_toArray, List.set_cons_zero, List.set_cons_succ]
  refine wpAnyH_done (by kernel_rfl) ?_ _
  go_wp2
  refine bodyPost_ret (v := .agg (longV false x)) ?_ ?_ ?_
  · exact results_cell_mid Tryd.results14 _ _ (w.heap.size + 1) 0 (longV false x).toList _ (by rfl) (World.rangeAt_setCells_same _ _ _ _ hHeld0.2) Tryd.underlying27 rfl (by kernel_rfl)
  · rfl
  · exact ⟨rfl, setCellsB (hB) _ _ _ (by omega)⟩
set_option maxRecDepth 100000 in
set_option maxHeartbeats 4000000 in
theorem neg_false (x : Int) (w : World) (x0 : 0 ≤ x) (x1 : x < 1461501637330902918203684832716283019655932542976) :
    Calls Tryd.prog 14 #[.agg (longV false x)] w fun e w' => e = .returned (.agg (longV (!decide (x = 0)) x)) ∧ Below w.heap.size w w' := by
  have HQ0 := Lib.hid x0
  have HQ1 := Lib.hid x1
  clear x0 x1
  go_enter Tryd.func14, Tryd.ntmps14
  have hS := start2 w false x
  have hB := (below2 w (.cells (longV false x) 27) (.cells zeros11 27)).drew
  have hs := sizeA2 w (.cells (longV false x) 27) (.cells zeros11 27)
  have hS4 : (fun w' => w'.rangeAt w.heap.size 0 (longV false x).toList ∧ w'.there (w.heap.size + 1) 0 11) ((w.alloc (.cells (longV false x) 27)).alloc (.cells zeros11 27)).drew := ⟨(World.rangeAt_drew _ _ _ _).2 hS.1, (World.there_drew _ _ _ _).2 hS.2⟩
  clear hS
  go_wp2
  generalize ((w.alloc (.cells (longV false x) 27)).alloc (.cells zeros11 27)) = w4 at *
  refine wp_region_held_drew (S := (fun w' => w'.rangeAt w.heap.size 0 (longV false x).toList ∧ w'.there (w.heap.size + 1) 0 11)) (by kernel_rfl) hS4 (fun hHeld => ?_)
  refine wpAnyH_take (i := 0) (oi := { dst := some 3, op := Op.fieldAddr 27 (Operand.tmp 1) 0, type := 0, pos := "ref.go:64", after := #[], guard := none }) (v := ?_) rfl (by kernel_rfl) (by kernel_rfl) (by kernel_rfl) (fun _ _ _ h => h) (Or.inl ⟨by rfl, ?_⟩) (by assumption) ?_
  rotate_left
  · intro w hSw
    (try dsimp only at hSw)
    go_simp
    try with_reducible rfl
  try simp only [Act.put, List.setIfInBounds_toArray, List.set_cons_zero, List.set_cons_succ]
  refine wpAnyH_take (i := 1) (oi := { dst := some 4, op := Op.load 4 (Operand.tmp 3), type := 4, pos := "ref.go:64", after := #[{ on := 0, ground := Ground.data }], guard := none }) (v := ?_) rfl (by kernel_rfl) (by kernel_rfl) (by kernel_rfl) (fun _ _ _ h => h) (Or.inl ⟨by rfl, ?_⟩) (by assumption) ?_
  rotate_left
  · intro w hSw
    have hcell := rangeAt_cell hSw.1
    go_simp
    try with_reducible rfl
  try simp only [Act.put, List.setIfInBounds_toArray, List.set_cons_zero, List.set_cons_succ]
  refine wpAnyH_take (i := 2) (oi := { dst := some 5, op := Op.unOp UnOp.not 4 (Operand.tmp 4), type := 4, pos := "ref.go:64", after := #[{ on := 1, ground := Ground.data }], guard := none }) (v := ?_) rfl (by kernel_rfl) (by kernel_rfl) (by kernel_rfl) (fun _ _ _ h => h) (Or.inl ⟨by rfl, ?_⟩) (by assumption) ?_
  rotate_left
  · intro w hSw
    (try dsimp only at hSw)
    go_simp
    try with_reducible rfl
  try simp only [Act.put, List.setIfInBounds_toArray, List.set_cons_zero, List.set_cons_succ]
  refine wpAnyH_take (i := 3) (oi := { dst := some 6, op := Op.move (Operand.tmp 5), type := 4, pos := "ref.go:64", after := #[{ on := 2, ground := Ground.data }], guard := none }) (v := ?_) rfl (by kernel_rfl) (by kernel_rfl) (by kernel_rfl) (fun _ _ _ h => h) (Or.inl ⟨by rfl, ?_⟩) (by assumption) ?_
  rotate_left
  · intro w hSw
    (try dsimp only at hSw)
    go_simp
    try with_reducible rfl
  try simp only [Act.put, List.setIfInBounds_toArray, List.set_cons_zero, List.set_cons_succ]
  refine wpAnyH_take (i := 9) (oi := { dst := some 12, op := Op.fieldAddr 27 (Operand.tmp 1) 1, type := 0, pos := "ref.go:64", after := #[], guard := none }) (v := ?_) rfl (by kernel_rfl) (by kernel_rfl) (by kernel_rfl) (fun _ _ _ h => h) (Or.inl ⟨by rfl, ?_⟩) (by assumption) ?_
  rotate_left
  · intro w hSw
    (try dsimp only at hSw)
    go_simp
    try with_reducible rfl
  try simp only [Act.put, List.setIfInBounds_toArray, List.set_cons_zero, List.set_cons_succ]
  refine wpAnyH_take (i := 10) (oi := { dst := some 13, op := Op.load 25 (Operand.tmp 12), type := 25, pos := "ref.go:64", after := #[{ on := 9, ground := Ground.data }], guard := none }) (v := _) rfl (by kernel_rfl) (by kernel_rfl) (by kernel_rfl) (fun _ _ _ h => h) (yieldsIf_load_mid (by rfl) _ _ rfl _ _ rfl _ _ (fun w hSw => rangeAt_row hSw.1) Tryd.underlying25 rfl (by kernel_rfl)) (by assumption) ?_
  try simp only [Act.put, List.setIfInBounds_toArray, List.set_cons_zero, List.set_cons_succ]
  refine wpAnyH_take (i := 4) (oi := { dst := some 7, op := Op.fieldAddr 27 (Operand.tmp 1) 1, type := 0, pos := "ref.go:64", after := #[{ on := 3, ground := Ground.guard }], guard := some (3, true) }) (v := ?_) rfl (by kernel_rfl) (by kernel_rfl) (by kernel_rfl) (fun _ _ _ h => h) (Or.inl ⟨by rfl, ?_⟩) (by assumption) ?_
  rotate_left
  · intro w hSw
    (try dsimp only at hSw)
    go_simp
    try with_reducible rfl
  try simp only [Act.put, List.setIfInBounds_toArray, List.set_cons_zero, List.set_cons_succ]
  refine wpAnyH_take (i := 5) (oi := { dst := some 8, op := Op.load 25 (Operand.tmp 7), type := 25, pos := "ref.go:64", after := #[{ on := 4, ground := Ground.data }, { on := 3, ground := Ground.guard }], guard := some (3, true) }) (v := _) rfl (by kernel_rfl) (by kernel_rfl) (by kernel_rfl) (fun _ _ _ h => h) (yieldsIf_load_mid (by rfl) _ _ rfl _ _ rfl _ _ (fun w hSw => rangeAt_row hSw.1) Tryd.underlying25 rfl (by kernel_rfl)) (by assumption) ?_
  try simp only [Act.put, List.setIfInBounds_toArray, List.set_cons_zero, List.set_cons_succ]
  refine wpAnyH_ready (rs := [6]) (by kernel_rfl) (by simp) ?_
  refine AllReadyH.cons (o := { dst := some 9, op := Op.call { callee := Callee.value (Operand.func 33), args := #[Operand.tmp 8], argTypes := #[25] }, type := 4, pos := "ref.go:64", after := #[{ on := 5, ground := Ground.data }, { on := 3, ground := Ground.chain }, { on := 3, ground := Ground.guard }], guard := some (3, true) }) rfl (fun K hK => ?_) AllReadyH.nil
  go_simp
  go_at_call 33
  refine (zeroG_any x _ HQ0.out HQ1.out).mono ?_
  rintro e w' ⟨rfl, hb⟩
  refine hK.out _ _ ?_ (fun hHeld => ?_)
  · exact ⟨rangeAt_later hHeld.1 hb, there_later hHeld.2 (by omega) hb⟩
  clear hK K
  try simp only [Act.put, List.setIfInBounds_toArray, List.set_cons_zero, List.set_cons_succ]
  refine wpAnyH_take (i := 7) (oi := { dst := some 10, op := Op.unOp UnOp.not 4 (Operand.tmp 9), type := 4, pos := "ref.go:64", after := #[{ on := 6, ground := Ground.data }, { on := 3, ground := Ground.guard }], guard := some (3, true) }) (v := ?_) rfl (by kernel_rfl) (by kernel_rfl) (by kernel_rfl) (fun _ _ _ h => h) (Or.inl ⟨by rfl, ?_⟩) (by assumption) ?_
  rotate_left
  · intro w hSw
    (try dsimp only at hSw)
    go_simp
    try with_reducible rfl
  try simp only [Act.put, List.setIfInBounds_toArray, List.set_cons_zero, List.set_cons_succ]
  refine wpAnyH_take (i := 8) (oi := { dst := some 11, op := Op.pick (Operand.tmp 6) (Operand.tmp 10) (Operand.const (Value.bool false)), type := 4, pos := "ref.go:64", after := #[{ on := 3, ground := Ground.data }, { on := 7, ground := Ground.data }], guard := none }) (v := ?_) rfl (by kernel_rfl) (by kernel_rfl) (by kernel_rfl) (fun _ _ _ h => h) (Or.inl ⟨by rfl, ?_⟩) (by assumption) ?_
  rotate_left
  · intro w hSw
    (try dsimp only at hSw)
    go_simp
    try with_reducible rfl
  try simp only [Act.put, List.setIfInBounds_toArray, List.set_cons_zero, List.set_cons_succ]
  refine wpAnyH_take (i := 11) (oi := { dst := some 14, op := Op.build 27 #[(0, Operand.tmp 11), (1, Operand.tmp 13)], type := 27, pos := "ref.go:64", after := #[{ on := 8, ground := Ground.data }, { on := 10, ground := Ground.data }], guard := none }) (v := ?_) rfl (by kernel_rfl) (by kernel_rfl) (by kernel_rfl) (fun _ _ _ h => h) (Or.inl ⟨by rfl, ?_⟩) (by assumption) ?_
  rotate_left
  · intro w hSw
    (try dsimp only at hSw)
    go_simp
    try with_reducible rfl
  try simp only [Act.put, List.setIfInBounds_toArray, List.set_cons_zero, List.set_cons_succ]
  have hHeld0 := hHeld
  refine wpAnyH_ready (rs := [12]) (by kernel_rfl) (by simp) ?_
  refine AllReadyH.cons (o := { dst := none, op := Op.store 27 (Operand.tmp 2) (Operand.tmp 14), type := 0, pos := "ref.go:64", after := #[{ on := 11, ground := Ground.data }, { on := 6, ground := Ground.chain }, { on := 0, ground := Ground.phase }, { on := 1, ground := Ground.phase }, { on := 2, ground := Ground.phase }, { on := 3, ground := Ground.phase }, { on := 4, ground := Ground.phase }, { on := 5, ground := Ground.phase }, { on := 6, ground := Ground.phase }, { on := 7, ground := Ground.phase }, { on := 8, ground := Ground.phase }, { on := 9, ground := Ground.phase }, { on := 10, ground := Ground.phase }, { on := 11, ground := Ground.phase }], guard := none }) rfl (fun K hK => ?_) AllReadyH.nil
  rw [if_pos (by rfl)]
  refine wp_store_mid 27 _ _ rfl (w.heap.size + 1) 0 (longV (!decide (x = 0)) x) rfl rfl hHeld.2 (by kernel_rfl) (longV_one _ _) ?_
  refine hK.out _ _ ?_ (fun hHeld => ?_)
  · exact ⟨World.rangeAt_setCells_apart hHeld.1 _ _ _ (.inl (by omega)), World.there_setCells hHeld.2 _ _ _⟩
  clear hK K
  try simp only [Act.put, List.setIfInBounds_toArray, List.set_cons_zero, List.set_cons_succ]
  refine wpAnyH_done (by kernel_rfl) ?_ _
  go_wp2
  refine bodyPost_ret (v := .agg (longV (!decide (x = 0)) x)) ?_ ?_ ?_
  · exact results_cell_mid Tryd.results14 _ _ (w.heap.size + 1) 0 (longV (!decide (x = 0)) x).toList _ (by rfl) (World.rangeAt_setCells_same _ _ _ _ hHeld0.2) Tryd.underlying27 rfl (by kernel_rfl)
  · rfl
  · exact ⟨rfl, setCellsB (chainB' hB hb (by omega)) _ _ _ (by omega)⟩
theorem neg_n (v : Int) (w : World) (v0 : -1461501637330902918203684832716283019655932542976 < v) (v1 : v < 1461501637330902918203684832716283019655932542976) :
    Calls Tryd.prog 14 #[.agg (sV v)] w fun e w' => e = .returned (.agg (sV (-v))) ∧ Below w.heap.size w w' := by
  unfold sV
  have a0 : 0 ≤ absZ v := by unfold absZ; split <;> omega
  have a1 : absZ v < 1461501637330902918203684832716283019655932542976 := by unfold absZ; split <;> omega
  have an : absZ (-v) = absZ v := by unfold absZ; split <;> split <;> omega
  by_cases h : v < 0
  · rw [decide_eq_true h]
    refine (neg_true _ w a0 a1).mono ?_
    rintro e w' ⟨rfl, hb⟩
    exact ⟨by rw [sV_of _ _ (-v) (by simp; omega) an.symm], hb⟩
  · rw [decide_eq_false h]
    refine (neg_false _ w a0 a1).mono ?_
    rintro e w' ⟨rfl, hb⟩
    refine ⟨?_, hb⟩
    by_cases hz : v = 0
    · subst hz; rfl
    · rw [sV_of _ _ (-v) (by rw [decide_eq_false (by unfold absZ; split <;> omega), decide_eq_true (by omega)]; rfl) an.symm]
end Go.Proofs.YtmfmdcapanaajaaDoor
