/- The checker: what a link concludes, its regions. -/
import Derived.Test.YtgdncnalahdjeaaL7
namespace Go.Proofs.Ytgdncnalahdjeaa
open Go Go.RowKit

set_option maxRecDepth 100000 in
set_option maxHeartbeats 1600000 in
theorem concl_same (c : Nat) (T M : Option Nat) (p : Option Addr) (n cv : Nat) (q : Option Addr) (m ca : Nat) (ts : List (Int × Int)) (ls : List Int) (Tt A B I J : Int) (P : Option Addr) (L C : Nat) (w : World) (h : CheckerAt w c T M p n cv q m ca ts ls) (_hl : ts.length ≤ 1000000)  :
    Calls Try.prog 84 #[.pointer (some ⟨c, 0, none⟩), linkV 2 Tt A B I J P L C] w fun e w' => e = .returned (.tuple #[.agg #[.int .i64 A, .int .i64 A], .bool (isV n A)]) ∧ Below w.heap.size w w' := by
  unfold linkV
  have hB0 := (below1 w (.cells #[.int .u8 2, .int .i64 Tt, .int .i64 A, .int .i64 B, .int .i64 I, .int .i64 J, .slice P L C] 57)).trans ((below1 _ (.cells #[.int .i64 0, .int .i64 0] 113)).mono (below1 w (.cells #[.int .u8 2, .int .i64 Tt, .int .i64 A, .int .i64 B, .int .i64 I, .int .i64 J, .slice P L C] 57)).size)
  have h1 := h.later hB0
  have h1c := h.lt
  have HB0 := Lib.hid hB0
  have H1 := Lib.hid h1
  clear h hB0
  have hcl : c < w.heap.size := h1c
  have z2 : ((w.alloc (.cells #[.int .u8 2, .int .i64 Tt, .int .i64 A, .int .i64 B, .int .i64 I, .int .i64 J, .slice P L C] 57)).alloc (.cells #[.int .i64 0, .int .i64 0] 113)).cell? ⟨w.heap.size, 2, none⟩ = some (.int .i64 A) := by simp [go_sem]
  have z3 : ((w.alloc (.cells #[.int .u8 2, .int .i64 Tt, .int .i64 A, .int .i64 B, .int .i64 I, .int .i64 J, .slice P L C] 57)).alloc (.cells #[.int .i64 0, .int .i64 0] 113)).cell? ⟨w.heap.size, 3, none⟩ = some (.int .i64 B) := by simp [go_sem]
  have x0 : ((w.alloc (.cells #[.int .u8 2, .int .i64 Tt, .int .i64 A, .int .i64 B, .int .i64 I, .int .i64 J, .slice P L C] 57)).alloc (.cells #[.int .i64 0, .int .i64 0] 113)).cell? ⟨w.heap.size + 1, 0, none⟩ = some (.int .i64 0) := by simp [go_sem]
  have x1 : ((w.alloc (.cells #[.int .u8 2, .int .i64 Tt, .int .i64 A, .int .i64 B, .int .i64 I, .int .i64 J, .slice P L C] 57)).alloc (.cells #[.int .i64 0, .int .i64 0] 113)).cell? ⟨w.heap.size + 1, 1, none⟩ = some (.int .i64 0) := by simp [go_sem]
  have f0 : ((w.alloc (.cells #[.int .u8 2, .int .i64 Tt, .int .i64 A, .int .i64 B, .int .i64 I, .int .i64 J, .slice P L C] 57)).alloc (.cells #[.int .i64 0, .int .i64 0] 113)).frozen? ⟨w.heap.size + 1, 0, none⟩ = false := by simp [go_sem]
  have f1 : ((w.alloc (.cells #[.int .u8 2, .int .i64 Tt, .int .i64 A, .int .i64 B, .int .i64 I, .int .i64 J, .slice P L C] 57)).alloc (.cells #[.int .i64 0, .int .i64 0] 113)).frozen? ⟨w.heap.size + 1, 1, none⟩ = false := by simp [go_sem]
  have hzz : w.heap.size + 1 < ((w.alloc (.cells #[.int .u8 2, .int .i64 Tt, .int .i64 A, .int .i64 B, .int .i64 I, .int .i64 J, .slice P L C] 57)).alloc (.cells #[.int .i64 0, .int .i64 0] 113)).heap.size := by simp
  have y0 := h1.c0
  have X0 := Lib.hid x0
  have X1 := Lib.hid x1
  have F0 := Lib.hid f0
  have F1 := Lib.hid f1
  have Z2 := Lib.hid z2
  have Z3 := Lib.hid z3
  have Y0 := Lib.hid y0
  have HZZ := Lib.hid hzz
  clear z2 z3 x0 x1 f0 f1 y0 hzz
  clear h1
  go_enter Try.func84, Try.ntmps84
  go_wp2_with fail
  generalize ((w.alloc (.cells #[.int .u8 2, .int .i64 Tt, .int .i64 A, .int .i64 B, .int .i64 I, .int .i64 J, .slice P L C] 57)).alloc (.cells #[.int .i64 0, .int .i64 0] 113)) = w1 at *
  refine wp_region_held_drew (S := (fun w' : World => w'.cell? ⟨c, 0, none⟩ = some (.slice p n cv) ∧ w'.cell? ⟨w.heap.size, 2, none⟩ = some (.int .i64 A))) (by kernel_rfl) ⟨by rw [World.cell?_drew]; exact Y0.out, by rw [World.cell?_drew]; exact Z2.out⟩ (fun hHeld => ?_)
  replace X0 := Lib.hid (show w1.drew.cell? ⟨w.heap.size + 1, 0, none⟩ = some (.int .i64 0) by rw [World.cell?_drew]; exact X0.out)
  replace X1 := Lib.hid (show w1.drew.cell? ⟨w.heap.size + 1, 1, none⟩ = some (.int .i64 0) by rw [World.cell?_drew]; exact X1.out)
  replace F0 := Lib.hid (show w1.drew.frozen? ⟨w.heap.size + 1, 0, none⟩ = false from F0.out)
  replace F1 := Lib.hid (show w1.drew.frozen? ⟨w.heap.size + 1, 1, none⟩ = false from F1.out)
  replace HB0 := Lib.hid (HB0.out.drew)
  replace HZZ := Lib.hid (show w.heap.size + 1 < w1.drew.heap.size from HZZ.out)
  generalize w1.drew = w2 at *
  refine wpAnyH_take (i := 0) (oi := { dst := some 35, op := Op.fieldAddr 57 (Operand.tmp 3) 2, type := 0, pos := "links.go:129", after := #[], guard := none }) (v := ?_) rfl (by kernel_rfl) (by kernel_rfl) (by kernel_rfl) (fun _ _ _ h => h) (Or.inl ⟨by rfl, ?_⟩) (by assumption) ?_
  rotate_left
  · intro w hSw
    (try dsimp only at hSw)
    go_simp
    try with_reducible rfl
  try simp only [Act.put, List.setIfInBounds_toArray, List.set_cons_zero, List.set_cons_succ]
  refine wpAnyH_take (i := 1) (oi := { dst := some 36, op := Op.load 3 (Operand.tmp 35), type := 3, pos := "links.go:129", after := #[{ on := 0, ground := Ground.data }], guard := none }) (v := ?_) rfl (by kernel_rfl) (by kernel_rfl) (by kernel_rfl) (fun _ _ _ h => h) (Or.inl ⟨by rfl, ?_⟩) (by assumption) ?_
  rotate_left
  · intro w hSw
    have hcell := hSw.2
    go_simp
    try with_reducible rfl
  try simp only [Act.put, List.setIfInBounds_toArray, List.set_cons_zero, List.set_cons_succ]
  refine wpAnyH_take (i := 2) (oi := { dst := some 37, op := Op.fieldAddr 57 (Operand.tmp 3) 2, type := 0, pos := "links.go:129", after := #[], guard := none }) (v := ?_) rfl (by kernel_rfl) (by kernel_rfl) (by kernel_rfl) (fun _ _ _ h => h) (Or.inl ⟨by rfl, ?_⟩) (by assumption) ?_
  rotate_left
  · intro w hSw
    (try dsimp only at hSw)
    go_simp
    try with_reducible rfl
  try simp only [Act.put, List.setIfInBounds_toArray, List.set_cons_zero, List.set_cons_succ]
  refine wpAnyH_take (i := 3) (oi := { dst := some 38, op := Op.load 3 (Operand.tmp 37), type := 3, pos := "links.go:129", after := #[{ on := 2, ground := Ground.data }], guard := none }) (v := ?_) rfl (by kernel_rfl) (by kernel_rfl) (by kernel_rfl) (fun _ _ _ h => h) (Or.inl ⟨by rfl, ?_⟩) (by assumption) ?_
  rotate_left
  · intro w hSw
    have hcell := hSw.2
    go_simp
    try with_reducible rfl
  try simp only [Act.put, List.setIfInBounds_toArray, List.set_cons_zero, List.set_cons_succ]
  refine wpAnyH_take (i := 4) (oi := { dst := some 39, op := Op.build 113 #[(0, Operand.tmp 36), (1, Operand.tmp 38)], type := 113, pos := "links.go:129", after := #[{ on := 1, ground := Ground.data }, { on := 3, ground := Ground.data }], guard := none }) (v := ?_) rfl (by kernel_rfl) (by kernel_rfl) (by kernel_rfl) (fun _ _ _ h => h) (Or.inl ⟨by rfl, ?_⟩) (by assumption) ?_
  rotate_left
  · intro w hSw
    (try dsimp only at hSw)
    go_simp
    try with_reducible rfl
  try simp only [Act.put, List.setIfInBounds_toArray, List.set_cons_zero, List.set_cons_succ]
  refine wpAnyH_take (i := 5) (oi := { dst := some 40, op := Op.move (Operand.tmp 0), type := 111, pos := "links.go:129", after := #[], guard := none }) (v := ?_) rfl (by kernel_rfl) (by kernel_rfl) (by kernel_rfl) (fun _ _ _ h => h) (Or.inl ⟨by rfl, ?_⟩) (by assumption) ?_
  rotate_left
  · intro w hSw
    (try dsimp only at hSw)
    go_simp
    try with_reducible rfl
  try simp only [Act.put, List.setIfInBounds_toArray, List.set_cons_zero, List.set_cons_succ]
  refine wpAnyH_take (i := 6) (oi := { dst := some 41, op := Op.nilCheck (Operand.tmp 40), type := 0, pos := "links.go:129", after := #[{ on := 5, ground := Ground.data }], guard := none }) (v := ?_) rfl (by kernel_rfl) (by kernel_rfl) (by kernel_rfl) (fun _ _ _ h => h) (Or.inl ⟨by rfl, ?_⟩) (by assumption) ?_
  rotate_left
  · intro w hSw
    (try dsimp only at hSw)
    go_simp
    try with_reducible rfl
  try simp only [Act.put, List.setIfInBounds_toArray, List.set_cons_zero, List.set_cons_succ]
  refine wpAnyH_take (i := 7) (oi := { dst := some 42, op := Op.fieldAddr 89 (Operand.tmp 41) 0, type := 0, pos := "links.go:129", after := #[{ on := 6, ground := Ground.data }], guard := none }) (v := ?_) rfl (by kernel_rfl) (by kernel_rfl) (by kernel_rfl) (fun _ _ _ h => h) (Or.inl ⟨by rfl, ?_⟩) (by assumption) ?_
  rotate_left
  · intro w hSw
    (try dsimp only at hSw)
    go_simp
    try with_reducible rfl
  try simp only [Act.put, List.setIfInBounds_toArray, List.set_cons_zero, List.set_cons_succ]
  refine wpAnyH_take (i := 8) (oi := { dst := some 43, op := Op.load 46 (Operand.tmp 42), type := 46, pos := "links.go:129", after := #[{ on := 7, ground := Ground.data }], guard := none }) (v := ?_) rfl (by kernel_rfl) (by kernel_rfl) (by kernel_rfl) (fun _ _ _ h => h) (Or.inl ⟨by rfl, ?_⟩) (by assumption) ?_
  rotate_left
  · intro w hSw
    have hcell := hSw.1
    go_simp
    try with_reducible rfl
  try simp only [Act.put, List.setIfInBounds_toArray, List.set_cons_zero, List.set_cons_succ]
  refine wpAnyH_take (i := 9) (oi := { dst := some 44, op := Op.fieldAddr 57 (Operand.tmp 3) 2, type := 0, pos := "links.go:129", after := #[], guard := none }) (v := ?_) rfl (by kernel_rfl) (by kernel_rfl) (by kernel_rfl) (fun _ _ _ h => h) (Or.inl ⟨by rfl, ?_⟩) (by assumption) ?_
  rotate_left
  · intro w hSw
    (try dsimp only at hSw)
    go_simp
    try with_reducible rfl
  try simp only [Act.put, List.setIfInBounds_toArray, List.set_cons_zero, List.set_cons_succ]
  refine wpAnyH_take (i := 10) (oi := { dst := some 45, op := Op.load 3 (Operand.tmp 44), type := 3, pos := "links.go:129", after := #[{ on := 9, ground := Ground.data }], guard := none }) (v := ?_) rfl (by kernel_rfl) (by kernel_rfl) (by kernel_rfl) (fun _ _ _ h => h) (Or.inl ⟨by rfl, ?_⟩) (by assumption) ?_
  rotate_left
  · intro w hSw
    have hcell := hSw.2
    go_simp
    try with_reducible rfl
  try simp only [Act.put, List.setIfInBounds_toArray, List.set_cons_zero, List.set_cons_succ]
  refine wpAnyH_ready (rs := [11]) (by kernel_rfl) (by simp) ?_
  refine AllReadyH.cons (o := { dst := some 46, op := Op.call { callee := Callee.value (Operand.func 65), args := #[Operand.tmp 43, Operand.tmp 45], argTypes := #[46, 3] }, type := 4, pos := "links.go:129", after := #[{ on := 8, ground := Ground.data }, { on := 10, ground := Ground.data }], guard := none }) rfl (fun K hK => ?_) AllReadyH.nil
  go_simp
  go_at_call 65
  refine (isVertex_any _ _ _ _ _).mono ?_
  rintro e w' ⟨rfl, rfl⟩
  refine hK.out _ _ ?_ (fun hHeld => ?_)
  · exact hHeld
  clear hK K
  try simp only [Act.put, List.setIfInBounds_toArray, List.set_cons_zero, List.set_cons_succ]
  have x0 := X0.out
  have x1 := X1.out
  have f0 := F0.out
  have f1 := F1.out
  refine wpAnyH_ready (rs := [12]) (by kernel_rfl) (by simp) ?_
  refine AllReadyH.cons (o := { dst := none, op := Op.store 113 (Operand.tmp 4) (Operand.tmp 39), type := 0, pos := "links.go:129", after := #[{ on := 4, ground := Ground.data }, { on := 11, ground := Ground.chain }, { on := 0, ground := Ground.phase }, { on := 1, ground := Ground.phase }, { on := 2, ground := Ground.phase }, { on := 3, ground := Ground.phase }, { on := 4, ground := Ground.phase }, { on := 5, ground := Ground.textOnly Departure.lateStores }, { on := 6, ground := Ground.textOnly Departure.lateStores }, { on := 7, ground := Ground.textOnly Departure.lateStores }, { on := 8, ground := Ground.textOnly Departure.lateStores }, { on := 9, ground := Ground.textOnly Departure.lateStores }, { on := 10, ground := Ground.textOnly Departure.lateStores }, { on := 11, ground := Ground.textOnly Departure.lateStoresUnsure }], guard := none }) rfl (fun K hK => ?_) AllReadyH.nil
  go_simp
  refine hK.out _ _ ?_ (fun hHeld => ?_)
  · exact ⟨set_cell_far (set_cell_far hHeld.1 (by simp <;> omega)) (by simp <;> omega), set_cell_far (set_cell_far hHeld.2 (by simp)) (by simp)⟩
  clear hK K
  try simp only [Act.put, List.setIfInBounds_toArray, List.set_cons_zero, List.set_cons_succ]
  refine wpAnyH_take (i := 13) (oi := { dst := some 5, op := Op.assign (Operand.tmp 46), type := 4, pos := "links.go:129", after := #[{ on := 11, ground := Ground.data }, { on := 12, ground := Ground.chain }, { on := 0, ground := Ground.phase }, { on := 1, ground := Ground.phase }, { on := 2, ground := Ground.phase }, { on := 3, ground := Ground.phase }, { on := 4, ground := Ground.phase }, { on := 5, ground := Ground.phase }, { on := 6, ground := Ground.phase }, { on := 7, ground := Ground.phase }, { on := 8, ground := Ground.phase }, { on := 9, ground := Ground.phase }, { on := 10, ground := Ground.phase }, { on := 11, ground := Ground.phase }, { on := 12, ground := Ground.phase }], guard := none }) (v := ?_) rfl (by kernel_rfl) (by kernel_rfl) (by kernel_rfl) (fun _ _ _ h => h) (Or.inl ⟨by rfl, ?_⟩) (by assumption) ?_
  rotate_left
  · intro w hSw
    (try dsimp only at hSw)
    go_simp
    try with_reducible rfl
  try simp only [Act.put, List.setIfInBounds_toArray, List.set_cons_zero, List.set_cons_succ]
  refine wpAnyH_done (by kernel_rfl) ?_ _
  have hzz := HZZ.out
  go_wp2_with fail
  refine bodyPost_ret (v := .tuple #[.agg #[.int .i64 A, .int .i64 A], .bool (isV n A)]) (by simp [results, Try.results84, go_sem, x0, x1]) rfl ⟨rfl, ?_⟩
  exact (HB0.out.setCell (Nat.le_succ _) _).setCell (Nat.le_succ _) _
end Go.Proofs.Ytgdncnalahdjeaa
