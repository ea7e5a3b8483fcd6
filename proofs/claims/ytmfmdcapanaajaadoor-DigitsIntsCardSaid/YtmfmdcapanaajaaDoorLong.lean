/- Numbers of a sign and a row of ten digits: their sum. -/
import Derived.Test.YtmfmdcapanaajaaDoorRows11
import Derived.Deep.RegionHeld3
import Derived.Deep.DrawnRows
namespace Go.Proofs.YtmfmdcapanaajaaDoor
open Go Go.RowKit Go.Sort
attribute [local go_sem ↓] Go.wp_at_zero Go.wp_at_succ

/-- a sign and a row, as cells. -/
abbrev longV (m : Bool) (x : Int) : Array Value := #[.bool m, .int .i64 (G x 0), .int .i64 (G x 1), .int .i64 (G x 2), .int .i64 (G x 3), .int .i64 (G x 4), .int .i64 (G x 5), .int .i64 (G x 6), .int .i64 (G x 7), .int .i64 (G x 8), .int .i64 (G x 9)]
abbrev zeros11 : Array Value := #[.bool false, .int .i64 0, .int .i64 0, .int .i64 0, .int .i64 0, .int .i64 0, .int .i64 0, .int .i64 0, .int .i64 0, .int .i64 0, .int .i64 0]
theorem rangeAt_later {W W' : World} {b o : Nat} {cs : List Value} (h : W.rangeAt b o cs) (hb : Below W.heap.size W W') : W'.rangeAt b o cs := fun j v hv => cell_later hb (h j v hv)
theorem there_later {W W' : World} {b o n : Nat} (h : W.there b o n) (hn : 0 < n) (hb : Below W.heap.size W W') : W'.there b o n := fun j hj => by
  obtain ⟨h1, h2⟩ := h j hj
  obtain ⟨u, hu⟩ := Option.isSome_iff_exists.1 h1
  have hlt : b < W.heap.size := World.block_lt_of_cell? W ⟨b, o + j, none⟩ hu
  exact ⟨by rw [cell_later hb hu]; rfl, (hb.frozen (p := ⟨b, o + j, none⟩) hlt).trans h2⟩
theorem rangeAt_new (W : World) (cs : Array Value) (t : TypeId) : (W.alloc (.cells cs t)).rangeAt W.heap.size 0 cs.toList := by
  intro j v hv
  rw [World.cell?_alloc_new]
  simpa using hv
theorem rangeAt_part {W : World} {b o : Nat} {cs : List Value} (h : W.rangeAt b o cs) (k : Nat) : W.rangeAt b (o + k) (cs.drop k) := by
  intro j v hv
  rw [List.getElem?_drop] at hv
  have := h _ _ hv
  rwa [show o + k + j = o + (k + j) by omega]
theorem there_new (W : World) (cs : Array Value) (t : TypeId) : (W.alloc (.cells cs t)).there W.heap.size 0 cs.size := by
  intro j hj
  refine ⟨?_, World.frozen?_alloc_new _ _ _ _⟩
  rw [World.cell?_alloc_new]
  simpa using hj
theorem below3' (w : World) (o1 o2 o3 : Obj) : Below w.heap.size w (((w.alloc o1).alloc o2).alloc o3) :=
  (((Below.refl _ _).alloc (Nat.le_refl _) _).alloc (by simp) _).alloc (by simp; omega) _
/-- what the regions keep: two numbers' cells, and a third's place. -/
abbrev Kept (A B R : Nat) (m n : Bool) (x y : Int) (w' : World) : Prop := w'.rangeAt A 0 (longV m x).toList ∧ w'.rangeAt B 0 (longV n y).toList ∧ w'.there R 0 11 ∧ w'.there A 0 11 ∧ w'.there B 0 11
theorem longV_one (m : Bool) (x : Int) : (longV m x).all (·.oneCell') = true := by simp [Value.oneCell']
theorem kept_later {A B R : Nat} {m n : Bool} {x y : Int} {W W' : World} (h : Kept A B R m n x y W) (hb : Below W.heap.size W W') : Kept A B R m n x y W' := ⟨rangeAt_later h.1 hb, rangeAt_later h.2.1 hb, there_later h.2.2.1 (by omega) hb, there_later h.2.2.2.1 (by omega) hb, there_later h.2.2.2.2 (by omega) hb⟩
theorem kept_drew {A B R : Nat} {m n : Bool} {x y : Int} {W : World} (h : Kept A B R m n x y W) : Kept A B R m n x y W.drew := ⟨(World.rangeAt_drew _ _ _ _).2 h.1, (World.rangeAt_drew _ _ _ _).2 h.2.1, (World.there_drew _ _ _ _).2 h.2.2.1, (World.there_drew _ _ _ _).2 h.2.2.2.1, (World.there_drew _ _ _ _).2 h.2.2.2.2⟩
theorem kept_store {A B R : Nat} {m n : Bool} {x y : Int} {W : World} (h : Kept A B R m n x y W) (b o : Nat) (vs : List Value) (hA : A ≠ b) (hB : B ≠ b) : Kept A B R m n x y (W.setCells b o vs) := ⟨World.rangeAt_setCells_apart h.1 _ _ _ (.inl hA), World.rangeAt_setCells_apart h.2.1 _ _ _ (.inl hB), World.there_setCells h.2.2.1 _ _ _, World.there_setCells h.2.2.2.1 _ _ _, World.there_setCells h.2.2.2.2 _ _ _⟩
theorem kept_alloc {A B R : Nat} {m n : Bool} {x y : Int} {W : World} (h : Kept A B R m n x y W) (o : Obj) : Kept A B R m n x y (W.alloc o) := ⟨World.rangeAt_alloc h.1 _, World.rangeAt_alloc h.2.1 _, World.there_alloc h.2.2.1 _, World.there_alloc h.2.2.2.1 _, World.there_alloc h.2.2.2.2 _⟩
theorem kept_swap {A B R : Nat} {m n : Bool} {x y : Int} {W : World} (h : Kept A B R m n x y W) (hAB : A ≠ B) : Kept A B R n m y x ((W.setCells A 0 (longV n y).toList).setCells B 0 (longV m x).toList) :=
  ⟨World.rangeAt_setCells_apart (World.rangeAt_setCells_same _ _ _ _ h.2.2.2.1) _ _ _ (.inl hAB), World.rangeAt_setCells_same _ _ _ _ (World.there_setCells h.2.2.2.2 _ _ _), World.there_setCells (World.there_setCells h.2.2.1 _ _ _) _ _ _, World.there_setCells (World.there_setCells h.2.2.2.1 _ _ _) _ _ _, World.there_setCells (World.there_setCells h.2.2.2.2 _ _ _) _ _ _⟩
theorem start3 (w : World) (m n : Bool) (x y : Int) :
    Kept w.heap.size (w.heap.size + 1) (w.heap.size + 1 + 1) m n x y (((w.alloc (.cells (longV m x) 27)).alloc (.cells (longV n y) 27)).alloc (.cells zeros11 27)) := by
  have s1 := rangeAt_new w (longV m x) 27
  have s2 := rangeAt_new (w.alloc (.cells (longV m x) 27)) (longV n y) 27
  have s3 := there_new ((w.alloc (.cells (longV m x) 27)).alloc (.cells (longV n y) 27)) zeros11 27
  have s4 := there_new w (longV m x) 27
  have s5 := there_new (w.alloc (.cells (longV m x) 27)) (longV n y) 27
  simp only [World.size_alloc] at s2 s3 s5
  exact ⟨World.rangeAt_alloc (World.rangeAt_alloc s1 _) _, World.rangeAt_alloc s2 _, s3, World.there_alloc (World.there_alloc s4 _) _, World.there_alloc s5 _⟩
theorem sizeS (b : Nat) (vs : List Value) : ∀ (o : Nat) (w : World), (w.setCells b o vs).heap.size = w.heap.size := by
  induction vs with
  | nil => intro o w; rfl
  | cons v vs ih => intro o w; exact (ih (o + 1) (w.setCell ⟨b, o, none⟩ v)).trans (World.size_setCell _ _ _)
theorem sizeA {w w1 : World} {o1 o2 o3 : Obj} (h : Below (((w.alloc o1).alloc o2).alloc o3).heap.size (((w.alloc o1).alloc o2).alloc o3) w1) : w.heap.size + 1 + 1 + 1 ≤ w1.heap.size := by
  have := h.size
  simpa only [World.size_alloc] using this
theorem sizeT (w : World) (o : Obj) (b : Nat) (vs : List Value) : (((w.alloc o).setCells b 0 vs).drew).heap.size = w.heap.size + 1 := (sizeS b vs 0 (w.alloc o)).trans (World.size_alloc _ _)
theorem rangeAt_cell {W : World} {b : Nat} {m : Bool} {x : Int} (h : W.rangeAt b 0 (longV m x).toList) : W.cell? ⟨b, 0, none⟩ = some (.bool m) := h 0 (.bool m) rfl
theorem rangeAt_row {W : World} {b : Nat} {m : Bool} {x : Int} (h : W.rangeAt b 0 (longV m x).toList) : W.rangeAt b 1 (rowG x).toList := rangeAt_part h 1
theorem chainB' {B : Nat} {w p q : World} (h1 : Below B w p) (h2 : Below p.heap.size p q) (hB : B ≤ p.heap.size) : Below B w q := h1.trans (h2.mono hB)
/-- all digits are 0 just for 0. -/
theorem zeroG (d : Int) (d0 : 0 ≤ d) (d1 : d < 1461501637330902918203684832716283019655932542976) : ((G d 0 == 0) && (G d 1 == 0) && (G d 2 == 0) && (G d 3 == 0) && (G d 4 == 0) && (G d 5 == 0) && (G d 6 == 0) && (G d 7 == 0) && (G d 8 == 0) && (G d 9 == 0)) = decide (d = 0) := by
  have h10 := X_ten d d0 d1
  have p0 := X_part d 0
  have p1 := X_part d 1
  have p2 := X_part d 2
  have p3 := X_part d 3
  have p4 := X_part d 4
  have p5 := X_part d 5
  have p6 := X_part d 6
  have p7 := X_part d 7
  have p8 := X_part d 8
  have p9 := X_part d 9
  rw [X_zero] at p0
  by_cases h : d = 0
  · subst h
    simp [G, X]
  · rw [decide_eq_false h]
    rw [Bool.eq_false_iff]
    intro hc
    simp only [Bool.and_eq_true, beq_iff_eq] at hc
    simp only [Nat.zero_add, Nat.reduceAdd] at *
    omega
theorem zeroG_any (d : Int) (w : World) (d0 : 0 ≤ d) (d1 : d < 1461501637330902918203684832716283019655932542976) :
    Calls Tryd.prog 33 #[.agg (rowG d)] w fun e w' => e = .returned (.bool (decide (d = 0))) ∧ Below w.heap.size w w' := by
  refine (zero_any _ _ _ _ _ _ _ _ _ _ w).mono ?_
  rintro e w' ⟨rfl, hb⟩
  exact ⟨by rw [zeroG d d0 d1], hb⟩

set_option maxRecDepth 100000 in
set_option maxHeartbeats 4000000 in
theorem addSame (m : Bool) (x y : Int) (w : World) :
    Calls Tryd.prog 12 #[.agg (longV m x), .agg (longV m y)] w fun e w' => e = .returned (.agg (longV m (x + y))) ∧ Below w.heap.size w w' := by
  go_enter Tryd.func12, Tryd.ntmps12
  have hS := start3 w m m x y
  have hB := below3' w (.cells (longV m x) 27) (.cells (longV m y) 27) (.cells zeros11 27)
  have hs : (((w.alloc (.cells (longV m x) 27)).alloc (.cells (longV m y) 27)).alloc (.cells zeros11 27)).heap.size = w.heap.size + 1 + 1 + 1 := by simp
  go_wp2
  have hS3 := kept_drew hS
  generalize ((w.alloc (.cells (longV m x) 27)).alloc (.cells (longV m y) 27)).alloc (.cells zeros11 27) = W0 at *
  clear hS
  refine wp_region_held_drew (S := (Kept w.heap.size (w.heap.size + 1) (w.heap.size + 1 + 1) m m x y)) (by kernel_rfl) hS3 (fun hHeld => ?_)
  refine wpAnyH_take (i := 0) (oi := { dst := some 11, op := Op.fieldAddr 27 (Operand.tmp 2) 0, type := 0, pos := "ref.go:54", after := #[], guard := none }) (v := ?_) rfl (by kernel_rfl) (by kernel_rfl) (by kernel_rfl) (fun _ _ _ h => h) (Or.inl ⟨by rfl, ?_⟩) (by assumption) ?_
  rotate_left
  · intro w hSw
    (try dsimp only at hSw)
    go_simp
    try with_reducible rfl
  try simp only [Act.put, List.setIfInBounds_toArray, List.set_cons_zero, List.set_cons_succ]
  refine wpAnyH_take (i := 1) (oi := { dst := some 12, op := Op.load 4 (Operand.tmp 11), type := 4, pos := "ref.go:54", after := #[{ on := 0, ground := Ground.data }], guard := none }) (v := ?_) rfl (by kernel_rfl) (by kernel_rfl) (by kernel_rfl) (fun _ _ _ h => h) (Or.inl ⟨by rfl, ?_⟩) (by assumption) ?_
  rotate_left
  · intro w hSw
    have hcell := rangeAt_cell hSw.1
    go_simp
    try with_reducible rfl
  try simp only [Act.put, List.setIfInBounds_toArray, List.set_cons_zero, List.set_cons_succ]
  refine wpAnyH_take (i := 2) (oi := { dst := some 13, op := Op.fieldAddr 27 (Operand.tmp 2) 1, type := 0, pos := "ref.go:54", after := #[], guard := none }) (v := ?_) rfl (by kernel_rfl) (by kernel_rfl) (by kernel_rfl) (fun _ _ _ h => h) (Or.inl ⟨by rfl, ?_⟩) (by assumption) ?_
  rotate_left
  · intro w hSw
    (try dsimp only at hSw)
    go_simp
    try with_reducible rfl
  try simp only [Act.put, List.setIfInBounds_toArray, List.set_cons_zero, List.set_cons_succ]
  refine wpAnyH_take (i := 3) (oi := { dst := some 14, op := Op.load 25 (Operand.tmp 13), type := 25, pos := "ref.go:54", after := #[{ on := 2, ground := Ground.data }], guard := none }) (v := _) rfl (by kernel_rfl) (by kernel_rfl) (by kernel_rfl) (fun _ _ _ h => h) (yieldsIf_load_mid (by rfl) _ _ rfl _ _ rfl _ _ (fun w hSw => rangeAt_row hSw.1) Tryd.underlying25 rfl (by kernel_rfl)) (by assumption) ?_
  try simp only [Act.put, List.setIfInBounds_toArray, List.set_cons_zero, List.set_cons_succ]
  refine wpAnyH_take (i := 4) (oi := { dst := some 15, op := Op.fieldAddr 27 (Operand.tmp 3) 1, type := 0, pos := "ref.go:54", after := #[], guard := none }) (v := ?_) rfl (by kernel_rfl) (by kernel_rfl) (by kernel_rfl) (fun _ _ _ h => h) (Or.inl ⟨by rfl, ?_⟩) (by assumption) ?_
  rotate_left
  · intro w hSw
    (try dsimp only at hSw)
    go_simp
    try with_reducible rfl
  try simp only [Act.put, List.setIfInBounds_toArray, List.set_cons_zero, List.set_cons_succ]
  refine wpAnyH_take (i := 5) (oi := { dst := some 16, op := Op.load 25 (Operand.tmp 15), type := 25, pos := "ref.go:54", after := #[{ on := 4, ground := Ground.data }], guard := none }) (v := _) rfl (by kernel_rfl) (by kernel_rfl) (by kernel_rfl) (fun _ _ _ h => h) (yieldsIf_load_mid (by rfl) _ _ rfl _ _ rfl _ _ (fun w hSw => rangeAt_row hSw.2.1) Tryd.underlying25 rfl (by kernel_rfl)) (by assumption) ?_
  try simp only [Act.put, List.setIfInBounds_toArray, List.set_cons_zero, List.set_cons_succ]
  refine wpAnyH_ready (rs := [6]) (by kernel_rfl) (by simp) ?_
  refine AllReadyH.cons (o := { dst := some 17, op := Op.call { callee := Callee.value (Operand.func 30), args := #[Operand.tmp 14, Operand.tmp 16], argTypes := #[25, 25] }, type := 25, pos := "ref.go:54", after := #[{ on := 3, ground := Ground.data }, { on := 5, ground := Ground.data }], guard := none }) rfl (fun K hK => ?_) AllReadyH.nil
  go_simp
  go_at_call 30
  refine (sum_any x y _).mono ?_
  rintro e w' ⟨rfl, hb⟩
  refine hK.out _ _ ?_ (fun hHeld => ?_)
  · exact kept_later (by assumption) hb
  clear hK K
  try simp only [Act.put, List.setIfInBounds_toArray, List.set_cons_zero, List.set_cons_succ]
  have hHeld0 := hHeld
  refine wpAnyH_take (i := 7) (oi := { dst := some 18, op := Op.build 27 #[(0, Operand.tmp 12), (1, Operand.tmp 17)], type := 27, pos := "ref.go:54", after := #[{ on := 1, ground := Ground.data }, { on := 6, ground := Ground.data }], guard := none }) (v := ?_) rfl (by kernel_rfl) (by kernel_rfl) (by kernel_rfl) (fun _ _ _ h => h) (Or.inl ⟨by rfl, ?_⟩) (by assumption) ?_
  rotate_left
  · intro w hSw
    (try dsimp only at hSw)
    go_simp
    try with_reducible rfl
  try simp only [Act.put, List.setIfInBounds_toArray, List.set_cons_zero, List.set_cons_succ]
  refine wpAnyH_ready (rs := [8]) (by kernel_rfl) (by simp) ?_
  refine AllReadyH.cons (o := { dst := none, op := Op.store 27 (Operand.tmp 4) (Operand.tmp 18), type := 0, pos := "ref.go:54", after := #[{ on := 7, ground := Ground.data }, { on := 6, ground := Ground.chain }, { on := 0, ground := Ground.phase }, { on := 1, ground := Ground.phase }, { on := 2, ground := Ground.phase }, { on := 3, ground := Ground.phase }, { on := 4, ground := Ground.phase }, { on := 5, ground := Ground.phase }, { on := 6, ground := Ground.phase }, { on := 7, ground := Ground.phase }], guard := none }) rfl (fun K hK => ?_) AllReadyH.nil
  rw [if_pos (by rfl)]
  refine wp_store_mid 27 _ _ rfl (w.heap.size + 1 + 1) 0 (longV m (x + y)) rfl rfl hHeld.2.2.1 (by kernel_rfl) (longV_one _ _) ?_
  refine hK.out _ _ ?_ (fun hHeld => ?_)
  · exact kept_store hHeld _ _ _ (by omega) (by omega)
  clear hK K
  try simp only [Act.put, List.setIfInBounds_toArray, List.set_cons_zero, List.set_cons_succ]
  refine wpAnyH_done (by kernel_rfl) ?_ _
  go_wp2
  refine bodyPost_ret (v := .agg (longV m (x + y))) ?_ ?_ ?_
  · exact results_cell_mid Tryd.results12 _ _ (w.heap.size + 1 + 1) 0 (longV m (x + y)).toList _ (by rfl) (World.rangeAt_setCells_same _ _ _ _ hHeld0.2.2.1) Tryd.underlying27 rfl (by kernel_rfl)
  · rfl
  · exact ⟨rfl, setCellsB (chainB' hB.drew hb (by simp; omega)) _ _ _ (by omega)⟩
end Go.Proofs.YtmfmdcapanaajaaDoor
