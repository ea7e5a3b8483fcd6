/- The checker: two links put together; a function's value. -/
import Derived.Test.YtgdncnalahdjeaaL8
namespace Go.Proofs.Ytgdncnalahdjeaa
open Go Go.RowKit

set_option maxRecDepth 100000 in
set_option maxHeartbeats 1600000 in
theorem concl_then (c : Nat) (T M : Option Nat) (p : Option Addr) (n cv : Nat) (q : Option Addr) (m ca : Nat) (ts : List (Int × Int)) (ls : List Int) (Tt A B I J : Int) (P : Option Addr) (L C : Nat) (w : World) (h : CheckerAt w c T M p n cv q m ca ts ls) (hl : ts.length ≤ 1000000)  :
    Calls Try.prog 84 #[.pointer (some ⟨c, 0, none⟩), linkV 4 Tt A B I J P L C] w fun e w' => e = .returned (.tuple #[.agg #[.int .i64 (atL ts I).1.1, .int .i64 (atL ts J).1.2], .bool ((atL ts I).2 && (atL ts J).2 && (atL ts I).1.2 == (atL ts J).1.1)]) ∧ Below w.heap.size w w' := by
  unfold linkV
  have hB0 := (below1 w (.cells #[.int .u8 4, .int .i64 Tt, .int .i64 A, .int .i64 B, .int .i64 I, .int .i64 J, .slice P L C] 57)).trans ((below1 _ (.cells #[.int .i64 0, .int .i64 0] 113)).mono (below1 w (.cells #[.int .u8 4, .int .i64 Tt, .int .i64 A, .int .i64 B, .int .i64 I, .int .i64 J, .slice P L C] 57)).size)
  have h1 := h.later hB0
  have h1c := h.lt
  have HB0 := Lib.hid hB0
  have H1 := Lib.hid h1
  clear h hB0
  have hcl : c < w.heap.size := h1c
  have x0 : ((w.alloc (.cells #[.int .u8 4, .int .i64 Tt, .int .i64 A, .int .i64 B, .int .i64 I, .int .i64 J, .slice P L C] 57)).alloc (.cells #[.int .i64 0, .int .i64 0] 113)).cell? ⟨w.heap.size + 1, 0, none⟩ = some (.int .i64 0) := by simp [go_sem]
  have x1 : ((w.alloc (.cells #[.int .u8 4, .int .i64 Tt, .int .i64 A, .int .i64 B, .int .i64 I, .int .i64 J, .slice P L C] 57)).alloc (.cells #[.int .i64 0, .int .i64 0] 113)).cell? ⟨w.heap.size + 1, 1, none⟩ = some (.int .i64 0) := by simp [go_sem]
  have f0 : ((w.alloc (.cells #[.int .u8 4, .int .i64 Tt, .int .i64 A, .int .i64 B, .int .i64 I, .int .i64 J, .slice P L C] 57)).alloc (.cells #[.int .i64 0, .int .i64 0] 113)).frozen? ⟨w.heap.size + 1, 0, none⟩ = false := by simp [go_sem]
  have f1 : ((w.alloc (.cells #[.int .u8 4, .int .i64 Tt, .int .i64 A, .int .i64 B, .int .i64 I, .int .i64 J, .slice P L C] 57)).alloc (.cells #[.int .i64 0, .int .i64 0] 113)).frozen? ⟨w.heap.size + 1, 1, none⟩ = false := by simp [go_sem]
  have z5 : ((w.alloc (.cells #[.int .u8 4, .int .i64 Tt, .int .i64 A, .int .i64 B, .int .i64 I, .int .i64 J, .slice P L C] 57)).alloc (.cells #[.int .i64 0, .int .i64 0] 113)).cell? ⟨w.heap.size, 5, none⟩ = some (.int .i64 J) := by simp [go_sem]
  have hzz : w.heap.size + 1 < ((w.alloc (.cells #[.int .u8 4, .int .i64 Tt, .int .i64 A, .int .i64 B, .int .i64 I, .int .i64 J, .slice P L C] 57)).alloc (.cells #[.int .i64 0, .int .i64 0] 113)).heap.size := by simp
  have H2 := at_any c T M p n cv q m ca ts ls I _ h1 hl
  have X0 := Lib.hid x0
  have X1 := Lib.hid x1
  have F0 := Lib.hid f0
  have F1 := Lib.hid f1
  have Z5 := Lib.hid z5
  have HZZ := Lib.hid hzz
  clear x0 x1 f0 f1 z5 hzz h1
  have HJ := Lib.hid (fun W hW => at_any c T M p n cv q m ca ts ls J W hW hl)
  generalize atL ts I = r at *
  obtain ⟨⟨rx, ry⟩, rb⟩ := r
  generalize atL ts J = s at *
  obtain ⟨⟨sx, sy⟩, sb⟩ := s
  go_enter Try.func84, Try.ntmps84
  go_wp2_with fail
  refine H2.mono ?_
  rintro e1 w3 ⟨rfl, hb⟩
  have hb2 := chain hb (below1 w3 (.cells #[.int .i64 rx, .int .i64 ry] 113))
  have H3 := HJ.out _ (H1.out.later hb2)
  replace X0 := Lib.hid (cell_later hb2 X0.out)
  replace X1 := Lib.hid (cell_later hb2 X1.out)
  replace F0 := Lib.hid ((hb2.frozen HZZ.out).trans F0.out)
  replace F1 := Lib.hid ((hb2.frozen HZZ.out).trans F1.out)
  have z5 := cell_later hb2 Z5.out
  have hr0 : (w3.alloc (.cells #[.int .i64 rx, .int .i64 ry] 113)).cell? ⟨w3.heap.size, 0, none⟩ = some (.int .i64 rx) := by simp [go_sem]
  have hr1 : (w3.alloc (.cells #[.int .i64 rx, .int .i64 ry] 113)).cell? ⟨w3.heap.size, 1, none⟩ = some (.int .i64 ry) := by simp [go_sem]
  have R0 := Lib.hid hr0
  have R1 := Lib.hid hr1
  clear hr0 hr1
  have hz3 : w.heap.size + 1 < w3.heap.size := by have := hb.size; have := HZZ.out; omega
  replace HZZ := Lib.hid (show w.heap.size + 1 < (w3.alloc (.cells #[.int .i64 rx, .int .i64 ry] 113)).heap.size by simp; omega)
  replace HB0 := Lib.hid (HB0.out.trans (hb2.mono HB0.out.size))
  clear hb hb2 H2 H1 HJ
  go_wp2_with fail
  refine H3.mono ?_
  rintro e2 w5 ⟨rfl, hb⟩
  have hb2 := chain hb (below1 w5 (.cells #[.int .i64 sx, .int .i64 sy] 113))
  have hz5 : w3.heap.size < w5.heap.size := by have := hb.size; simp at this; omega
  replace X0 := Lib.hid (cell_later hb2 X0.out)
  replace X1 := Lib.hid (cell_later hb2 X1.out)
  replace F0 := Lib.hid ((hb2.frozen HZZ.out).trans F0.out)
  replace F1 := Lib.hid ((hb2.frozen HZZ.out).trans F1.out)
  replace R0 := Lib.hid (cell_later hb2 R0.out)
  replace R1 := Lib.hid (cell_later hb2 R1.out)
  have hs0 : (w5.alloc (.cells #[.int .i64 sx, .int .i64 sy] 113)).cell? ⟨w5.heap.size, 0, none⟩ = some (.int .i64 sx) := by simp [go_sem]
  have hs1 : (w5.alloc (.cells #[.int .i64 sx, .int .i64 sy] 113)).cell? ⟨w5.heap.size, 1, none⟩ = some (.int .i64 sy) := by simp [go_sem]
  have S0 := Lib.hid hs0
  have S1 := Lib.hid hs1
  clear hs0 hs1
  replace HZZ := Lib.hid (show w.heap.size + 1 < (w5.alloc (.cells #[.int .i64 sx, .int .i64 sy] 113)).heap.size by simp; omega)
  replace HB0 := Lib.hid (HB0.out.trans (hb2.mono HB0.out.size))
  clear hb hb2 H3 z5
  go_wp2_with fail
  skip
  generalize (w5.alloc (.cells #[.int .i64 sx, .int .i64 sy] 113)) = w1 at *
  generalize w3.heap.size = D3 at *
  generalize w5.heap.size = D5 at *
  cases rb
  · skip
    refine wp_region_held_drew (S := (fun w' : World => w'.cell? ⟨D3, 0, none⟩ = some (.int .i64 rx) ∧ w'.cell? ⟨D3, 1, none⟩ = some (.int .i64 ry) ∧ w'.cell? ⟨D5, 0, none⟩ = some (.int .i64 sx) ∧ w'.cell? ⟨D5, 1, none⟩ = some (.int .i64 sy))) (by kernel_rfl) ⟨by rw [World.cell?_drew]; exact R0.out, by rw [World.cell?_drew]; exact R1.out, by rw [World.cell?_drew]; exact S0.out, by rw [World.cell?_drew]; exact S1.out⟩ (fun hHeld => ?_)
    replace X0 := Lib.hid (show w1.drew.cell? ⟨w.heap.size + 1, 0, none⟩ = some (.int .i64 0) by rw [World.cell?_drew]; exact X0.out)
    replace X1 := Lib.hid (show w1.drew.cell? ⟨w.heap.size + 1, 1, none⟩ = some (.int .i64 0) by rw [World.cell?_drew]; exact X1.out)
    replace F0 := Lib.hid (show w1.drew.frozen? ⟨w.heap.size + 1, 0, none⟩ = false from F0.out)
    replace F1 := Lib.hid (show w1.drew.frozen? ⟨w.heap.size + 1, 1, none⟩ = false from F1.out)
    replace HB0 := Lib.hid (HB0.out.drew)
    replace HZZ := Lib.hid (show w.heap.size + 1 < w1.drew.heap.size from HZZ.out)
    generalize w1.drew = w2 at *
    refine wpAnyH_take (i := 0) (oi := { dst := some 78, op := Op.indexAddr 113 (Operand.tmp 8) (Operand.const (Value.int IntKind.i64 0)), type := 0, pos := "links.go:136", after := #[], guard := none }) (v := ?_) rfl (by kernel_rfl) (by kernel_rfl) (by kernel_rfl) (fun _ _ _ h => h) (Or.inl ⟨by rfl, ?_⟩) (by assumption) ?_
    rotate_left
    · intro w hSw
      (try dsimp only at hSw)
      go_simp
      try with_reducible rfl
    try simp only [Act.put, List.setIfInBounds_toArray, List.set_cons_zero, List.set_cons_succ]
    refine wpAnyH_take (i := 1) (oi := { dst := some 79, op := Op.load 3 (Operand.tmp 78), type := 3, pos := "links.go:136", after := #[{ on := 0, ground := Ground.data }], guard := none }) (v := ?_) rfl (by kernel_rfl) (by kernel_rfl) (by kernel_rfl) (fun _ _ _ h => h) (Or.inl ⟨by rfl, ?_⟩) (by assumption) ?_
    rotate_left
    · intro w hSw
      have hcell := hSw.1
      go_simp
      try with_reducible rfl
    try simp only [Act.put, List.setIfInBounds_toArray, List.set_cons_zero, List.set_cons_succ]
    refine wpAnyH_take (i := 2) (oi := { dst := some 80, op := Op.indexAddr 113 (Operand.tmp 10) (Operand.const (Value.int IntKind.i64 1)), type := 0, pos := "links.go:136", after := #[], guard := none }) (v := ?_) rfl (by kernel_rfl) (by kernel_rfl) (by kernel_rfl) (fun _ _ _ h => h) (Or.inl ⟨by rfl, ?_⟩) (by assumption) ?_
    rotate_left
    · intro w hSw
      (try dsimp only at hSw)
      go_simp
      try with_reducible rfl
    try simp only [Act.put, List.setIfInBounds_toArray, List.set_cons_zero, List.set_cons_succ]
    refine wpAnyH_take (i := 3) (oi := { dst := some 81, op := Op.load 3 (Operand.tmp 80), type := 3, pos := "links.go:136", after := #[{ on := 2, ground := Ground.data }], guard := none }) (v := ?_) rfl (by kernel_rfl) (by kernel_rfl) (by kernel_rfl) (fun _ _ _ h => h) (Or.inl ⟨by rfl, ?_⟩) (by assumption) ?_
    rotate_left
    · intro w hSw
      have hcell := hSw.2.2.2
      go_simp
      try with_reducible rfl
    try simp only [Act.put, List.setIfInBounds_toArray, List.set_cons_zero, List.set_cons_succ]
    refine wpAnyH_take (i := 4) (oi := { dst := some 82, op := Op.build 113 #[(0, Operand.tmp 79), (1, Operand.tmp 81)], type := 113, pos := "links.go:136", after := #[{ on := 1, ground := Ground.data }, { on := 3, ground := Ground.data }], guard := none }) (v := ?_) rfl (by kernel_rfl) (by kernel_rfl) (by kernel_rfl) (fun _ _ _ h => h) (Or.inl ⟨by rfl, ?_⟩) (by assumption) ?_
    rotate_left
    · intro w hSw
      (try dsimp only at hSw)
      go_simp
      try with_reducible rfl
    try simp only [Act.put, List.setIfInBounds_toArray, List.set_cons_zero, List.set_cons_succ]
    refine wpAnyH_take (i := 5) (oi := { dst := some 83, op := Op.move (Operand.tmp 9), type := 4, pos := "links.go:136", after := #[], guard := none }) (v := ?_) rfl (by kernel_rfl) (by kernel_rfl) (by kernel_rfl) (fun _ _ _ h => h) (Or.inl ⟨by rfl, ?_⟩) (by assumption) ?_
    rotate_left
    · intro w hSw
      (try dsimp only at hSw)
      go_simp
      try with_reducible rfl
    try simp only [Act.put, List.setIfInBounds_toArray, List.set_cons_zero, List.set_cons_succ]
    refine wpAnyH_take (i := 6) (oi := { dst := some 84, op := Op.move (Operand.tmp 83), type := 4, pos := "links.go:136", after := #[{ on := 5, ground := Ground.data }], guard := none }) (v := ?_) rfl (by kernel_rfl) (by kernel_rfl) (by kernel_rfl) (fun _ _ _ h => h) (Or.inl ⟨by rfl, ?_⟩) (by assumption) ?_
    rotate_left
    · intro w hSw
      (try dsimp only at hSw)
      go_simp
      try with_reducible rfl
    try simp only [Act.put, List.setIfInBounds_toArray, List.set_cons_zero, List.set_cons_succ]
    refine wpAnyH_take (i := 7) (oi := { dst := some 85, op := Op.move (Operand.tmp 11), type := 4, pos := "links.go:136", after := #[{ on := 6, ground := Ground.guard }], guard := some (6, true) }) (v := undef) rfl (by kernel_rfl) (by kernel_rfl) (by kernel_rfl) (fun _ _ _ h => h) (Or.inr ⟨by rfl, rfl⟩) (by assumption) ?_
    try simp only [Act.put, List.setIfInBounds_toArray, List.set_cons_zero, List.set_cons_succ]
    refine wpAnyH_take (i := 8) (oi := { dst := some 86, op := Op.pick (Operand.tmp 84) (Operand.tmp 85) (Operand.const (Value.bool false)), type := 4, pos := "links.go:136", after := #[{ on := 6, ground := Ground.data }, { on := 7, ground := Ground.data }], guard := none }) (v := ?_) rfl (by kernel_rfl) (by kernel_rfl) (by kernel_rfl) (fun _ _ _ h => h) (Or.inl ⟨by rfl, ?_⟩) (by assumption) ?_
    rotate_left
    · intro w hSw
      (try dsimp only at hSw)
      go_simp
      try with_reducible rfl
    try simp only [Act.put, List.setIfInBounds_toArray, List.set_cons_zero, List.set_cons_succ]
    refine wpAnyH_take (i := 9) (oi := { dst := some 87, op := Op.move (Operand.tmp 86), type := 4, pos := "links.go:136", after := #[{ on := 8, ground := Ground.data }, { on := 6, ground := Ground.chain }], guard := none }) (v := ?_) rfl (by kernel_rfl) (by kernel_rfl) (by kernel_rfl) (fun _ _ _ h => h) (Or.inl ⟨by rfl, ?_⟩) (by assumption) ?_
    rotate_left
    · intro w hSw
      (try dsimp only at hSw)
      go_simp
      try with_reducible rfl
    try simp only [Act.put, List.setIfInBounds_toArray, List.set_cons_zero, List.set_cons_succ]
    refine wpAnyH_take (i := 10) (oi := { dst := some 88, op := Op.indexAddr 113 (Operand.tmp 8) (Operand.const (Value.int IntKind.i64 1)), type := 0, pos := "links.go:136", after := #[{ on := 9, ground := Ground.guard }, { on := 16, ground := Ground.gcOnly Departure.lateStores }], guard := some (9, true) }) (v := undef) rfl (by kernel_rfl) (by kernel_rfl) (by kernel_rfl) (fun _ _ _ h => h) (Or.inr ⟨by rfl, rfl⟩) (by assumption) ?_
    try simp only [Act.put, List.setIfInBounds_toArray, List.set_cons_zero, List.set_cons_succ]
    refine wpAnyH_take (i := 11) (oi := { dst := some 89, op := Op.load 3 (Operand.tmp 88), type := 3, pos := "links.go:136", after := #[{ on := 10, ground := Ground.data }, { on := 9, ground := Ground.guard }, { on := 16, ground := Ground.gcOnly Departure.lateStores }], guard := some (9, true) }) (v := undef) rfl (by kernel_rfl) (by kernel_rfl) (by kernel_rfl) (fun _ _ _ h => h) (Or.inr ⟨by rfl, rfl⟩) (by assumption) ?_
    try simp only [Act.put, List.setIfInBounds_toArray, List.set_cons_zero, List.set_cons_succ]
    refine wpAnyH_take (i := 12) (oi := { dst := some 90, op := Op.indexAddr 113 (Operand.tmp 10) (Operand.const (Value.int IntKind.i64 0)), type := 0, pos := "links.go:136", after := #[{ on := 9, ground := Ground.guard }, { on := 16, ground := Ground.gcOnly Departure.lateStores }], guard := some (9, true) }) (v := undef) rfl (by kernel_rfl) (by kernel_rfl) (by kernel_rfl) (fun _ _ _ h => h) (Or.inr ⟨by rfl, rfl⟩) (by assumption) ?_
    try simp only [Act.put, List.setIfInBounds_toArray, List.set_cons_zero, List.set_cons_succ]
    refine wpAnyH_take (i := 13) (oi := { dst := some 91, op := Op.load 3 (Operand.tmp 90), type := 3, pos := "links.go:136", after := #[{ on := 12, ground := Ground.data }, { on := 9, ground := Ground.guard }, { on := 16, ground := Ground.gcOnly Departure.lateStores }], guard := some (9, true) }) (v := undef) rfl (by kernel_rfl) (by kernel_rfl) (by kernel_rfl) (fun _ _ _ h => h) (Or.inr ⟨by rfl, rfl⟩) (by assumption) ?_
    try simp only [Act.put, List.setIfInBounds_toArray, List.set_cons_zero, List.set_cons_succ]
    refine wpAnyH_take (i := 14) (oi := { dst := some 92, op := Op.binOp BinOp.eql 3 (Operand.tmp 89) (Operand.tmp 91) 3, type := 4, pos := "links.go:136", after := #[{ on := 11, ground := Ground.data }, { on := 13, ground := Ground.data }, { on := 9, ground := Ground.guard }, { on := 16, ground := Ground.gcOnly Departure.lateStores }], guard := some (9, true) }) (v := undef) rfl (by kernel_rfl) (by kernel_rfl) (by kernel_rfl) (fun _ _ _ h => h) (Or.inr ⟨by rfl, rfl⟩) (by assumption) ?_
    try simp only [Act.put, List.setIfInBounds_toArray, List.set_cons_zero, List.set_cons_succ]
    refine wpAnyH_take (i := 15) (oi := { dst := some 93, op := Op.pick (Operand.tmp 87) (Operand.tmp 92) (Operand.const (Value.bool false)), type := 4, pos := "links.go:136", after := #[{ on := 9, ground := Ground.data }, { on := 14, ground := Ground.data }, { on := 16, ground := Ground.gcOnly Departure.lateStores }], guard := none }) (v := ?_) rfl (by kernel_rfl) (by kernel_rfl) (by kernel_rfl) (fun _ _ _ h => h) (Or.inl ⟨by rfl, ?_⟩) (by assumption) ?_
    rotate_left
    · intro w hSw
      (try dsimp only at hSw)
      go_simp
      try with_reducible rfl
    try simp only [Act.put, List.setIfInBounds_toArray, List.set_cons_zero, List.set_cons_succ]
    have x0 := X0.out
    have x1 := X1.out
    have f0 := F0.out
    have f1 := F1.out
    refine wpAnyH_ready (rs := [16]) (by kernel_rfl) (by simp) ?_
    refine AllReadyH.cons (o := { dst := none, op := Op.store 113 (Operand.tmp 4) (Operand.tmp 82), type := 0, pos := "links.go:136", after := #[{ on := 4, ground := Ground.data }, { on := 9, ground := Ground.chain }, { on := 0, ground := Ground.phase }, { on := 1, ground := Ground.phase }, { on := 2, ground := Ground.phase }, { on := 3, ground := Ground.phase }, { on := 4, ground := Ground.phase }, { on := 5, ground := Ground.textOnly Departure.lateStores }, { on := 6, ground := Ground.textOnly Departure.lateStores }, { on := 7, ground := Ground.textOnly Departure.lateStores }, { on := 8, ground := Ground.textOnly Departure.lateStores }, { on := 9, ground := Ground.textOnly Departure.lateStores }, { on := 10, ground := Ground.textOnly Departure.lateStores }, { on := 11, ground := Ground.textOnly Departure.lateStores }, { on := 12, ground := Ground.textOnly Departure.lateStores }, { on := 13, ground := Ground.textOnly Departure.lateStores }, { on := 14, ground := Ground.textOnly Departure.lateStores }, { on := 15, ground := Ground.textOnly Departure.lateStores }], guard := none }) rfl (fun K hK => ?_) AllReadyH.nil
    go_simp
    refine hK.out _ _ ?_ (fun hHeld => ?_)
    · exact ⟨set_cell_far (set_cell_far hHeld.1 (by simp <;> omega)) (by simp <;> omega), set_cell_far (set_cell_far hHeld.2.1 (by simp <;> omega)) (by simp <;> omega), set_cell_far (set_cell_far hHeld.2.2.1 (by simp <;> omega)) (by simp <;> omega), set_cell_far (set_cell_far hHeld.2.2.2 (by simp <;> omega)) (by simp <;> omega)⟩
    clear hK K
    try simp only [Act.put, List.setIfInBounds_toArray, List.set_cons_zero, List.set_cons_succ]
    refine wpAnyH_take (i := 17) (oi := { dst := some 5, op := Op.assign (Operand.tmp 93), type := 4, pos := "links.go:136", after := #[{ on := 15, ground := Ground.data }, { on := 16, ground := Ground.chain }, { on := 0, ground := Ground.phase }, { on := 1, ground := Ground.phase }, { on := 2, ground := Ground.phase }, { on := 3, ground := Ground.phase }, { on := 4, ground := Ground.phase }, { on := 5, ground := Ground.phase }, { on := 6, ground := Ground.phase }, { on := 7, ground := Ground.phase }, { on := 8, ground := Ground.phase }, { on := 9, ground := Ground.phase }, { on := 10, ground := Ground.phase }, { on := 11, ground := Ground.phase }, { on := 12, ground := Ground.phase }, { on := 13, ground := Ground.phase }, { on := 14, ground := Ground.phase }, { on := 15, ground := Ground.phase }, { on := 16, ground := Ground.phase }], guard := none }) (v := ?_) rfl (by kernel_rfl) (by kernel_rfl) (by kernel_rfl) (fun _ _ _ h => h) (Or.inl ⟨by rfl, ?_⟩) (by assumption) ?_
    rotate_left
    · intro w hSw
      (try dsimp only at hSw)
      go_simp
      try with_reducible rfl
    try simp only [Act.put, List.setIfInBounds_toArray, List.set_cons_zero, List.set_cons_succ]
    refine wpAnyH_done (by kernel_rfl) ?_ _
    have hzz := HZZ.out
    go_wp2_with fail
    refine bodyPost_ret (v := .tuple #[.agg #[.int .i64 rx, .int .i64 sy], .bool false]) (by simp [results, Try.results84, go_sem, x0, x1]) rfl ⟨by simp, ?_⟩
    exact (HB0.out.setCell (Nat.le_succ _) _).setCell (Nat.le_succ _) _
  · cases sb
    · skip
      refine wp_region_held_drew (S := (fun w' : World => w'.cell? ⟨D3, 0, none⟩ = some (.int .i64 rx) ∧ w'.cell? ⟨D3, 1, none⟩ = some (.int .i64 ry) ∧ w'.cell? ⟨D5, 0, none⟩ = some (.int .i64 sx) ∧ w'.cell? ⟨D5, 1, none⟩ = some (.int .i64 sy))) (by kernel_rfl) ⟨by rw [World.cell?_drew]; exact R0.out, by rw [World.cell?_drew]; exact R1.out, by rw [World.cell?_drew]; exact S0.out, by rw [World.cell?_drew]; exact S1.out⟩ (fun hHeld => ?_)
      replace X0 := Lib.hid (show w1.drew.cell? ⟨w.heap.size + 1, 0, none⟩ = some (.int .i64 0) by rw [World.cell?_drew]; exact X0.out)
      replace X1 := Lib.hid (show w1.drew.cell? ⟨w.heap.size + 1, 1, none⟩ = some (.int .i64 0) by rw [World.cell?_drew]; exact X1.out)
      replace F0 := Lib.hid (show w1.drew.frozen? ⟨w.heap.size + 1, 0, none⟩ = false from F0.out)
      replace F1 := Lib.hid (show w1.drew.frozen? ⟨w.heap.size + 1, 1, none⟩ = false from F1.out)
      replace HB0 := Lib.hid (HB0.out.drew)
      replace HZZ := Lib.hid (show w.heap.size + 1 < w1.drew.heap.size from HZZ.out)
      generalize w1.drew = w2 at *
      refine wpAnyH_take (i := 0) (oi := { dst := some 78, op := Op.indexAddr 113 (Operand.tmp 8) (Operand.const (Value.int IntKind.i64 0)), type := 0, pos := "links.go:136", after := #[], guard := none }) (v := ?_) rfl (by kernel_rfl) (by kernel_rfl) (by kernel_rfl) (fun _ _ _ h => h) (Or.inl ⟨by rfl, ?_⟩) (by assumption) ?_
      rotate_left
      · intro w hSw
        (try dsimp only at hSw)
        go_simp
        try with_reducible rfl
      try simp only [Act.put, List.setIfInBounds_toArray, List.set_cons_zero, List.set_cons_succ]
      refine wpAnyH_take (i := 1) (oi := { dst := some 79, op := Op.load 3 (Operand.tmp 78), type := 3, pos := "links.go:136", after := #[{ on := 0, ground := Ground.data }], guard := none }) (v := ?_) rfl (by kernel_rfl) (by kernel_rfl) (by kernel_rfl) (fun _ _ _ h => h) (Or.inl ⟨by rfl, ?_⟩) (by assumption) ?_
      rotate_left
      · intro w hSw
        have hcell := hSw.1
        go_simp
        try with_reducible rfl
      try simp only [Act.put, List.setIfInBounds_toArray, List.set_cons_zero, List.set_cons_succ]
      refine wpAnyH_take (i := 2) (oi := { dst := some 80, op := Op.indexAddr 113 (Operand.tmp 10) (Operand.const (Value.int IntKind.i64 1)), type := 0, pos := "links.go:136", after := #[], guard := none }) (v := ?_) rfl (by kernel_rfl) (by kernel_rfl) (by kernel_rfl) (fun _ _ _ h => h) (Or.inl ⟨by rfl, ?_⟩) (by assumption) ?_
      rotate_left
      · intro w hSw
        (try dsimp only at hSw)
        go_simp
        try with_reducible rfl
      try simp only [Act.put, List.setIfInBounds_toArray, List.set_cons_zero, List.set_cons_succ]
      refine wpAnyH_take (i := 3) (oi := { dst := some 81, op := Op.load 3 (Operand.tmp 80), type := 3, pos := "links.go:136", after := #[{ on := 2, ground := Ground.data }], guard := none }) (v := ?_) rfl (by kernel_rfl) (by kernel_rfl) (by kernel_rfl) (fun _ _ _ h => h) (Or.inl ⟨by rfl, ?_⟩) (by assumption) ?_
      rotate_left
      · intro w hSw
        have hcell := hSw.2.2.2
        go_simp
        try with_reducible rfl
      try simp only [Act.put, List.setIfInBounds_toArray, List.set_cons_zero, List.set_cons_succ]
      refine wpAnyH_take (i := 4) (oi := { dst := some 82, op := Op.build 113 #[(0, Operand.tmp 79), (1, Operand.tmp 81)], type := 113, pos := "links.go:136", after := #[{ on := 1, ground := Ground.data }, { on := 3, ground := Ground.data }], guard := none }) (v := ?_) rfl (by kernel_rfl) (by kernel_rfl) (by kernel_rfl) (fun _ _ _ h => h) (Or.inl ⟨by rfl, ?_⟩) (by assumption) ?_
      rotate_left
      · intro w hSw
        (try dsimp only at hSw)
        go_simp
        try with_reducible rfl
      try simp only [Act.put, List.setIfInBounds_toArray, List.set_cons_zero, List.set_cons_succ]
      refine wpAnyH_take (i := 5) (oi := { dst := some 83, op := Op.move (Operand.tmp 9), type := 4, pos := "links.go:136", after := #[], guard := none }) (v := ?_) rfl (by kernel_rfl) (by kernel_rfl) (by kernel_rfl) (fun _ _ _ h => h) (Or.inl ⟨by rfl, ?_⟩) (by assumption) ?_
      rotate_left
      · intro w hSw
        (try dsimp only at hSw)
        go_simp
        try with_reducible rfl
      try simp only [Act.put, List.setIfInBounds_toArray, List.set_cons_zero, List.set_cons_succ]
      refine wpAnyH_take (i := 6) (oi := { dst := some 84, op := Op.move (Operand.tmp 83), type := 4, pos := "links.go:136", after := #[{ on := 5, ground := Ground.data }], guard := none }) (v := ?_) rfl (by kernel_rfl) (by kernel_rfl) (by kernel_rfl) (fun _ _ _ h => h) (Or.inl ⟨by rfl, ?_⟩) (by assumption) ?_
      rotate_left
      · intro w hSw
        (try dsimp only at hSw)
        go_simp
        try with_reducible rfl
      try simp only [Act.put, List.setIfInBounds_toArray, List.set_cons_zero, List.set_cons_succ]
      refine wpAnyH_take (i := 7) (oi := { dst := some 85, op := Op.move (Operand.tmp 11), type := 4, pos := "links.go:136", after := #[{ on := 6, ground := Ground.guard }], guard := some (6, true) }) (v := ?_) rfl (by kernel_rfl) (by kernel_rfl) (by kernel_rfl) (fun _ _ _ h => h) (Or.inl ⟨by rfl, ?_⟩) (by assumption) ?_
      rotate_left
      · intro w hSw
        (try dsimp only at hSw)
        go_simp
        try with_reducible rfl
      try simp only [Act.put, List.setIfInBounds_toArray, List.set_cons_zero, List.set_cons_succ]
      refine wpAnyH_take (i := 8) (oi := { dst := some 86, op := Op.pick (Operand.tmp 84) (Operand.tmp 85) (Operand.const (Value.bool false)), type := 4, pos := "links.go:136", after := #[{ on := 6, ground := Ground.data }, { on := 7, ground := Ground.data }], guard := none }) (v := ?_) rfl (by kernel_rfl) (by kernel_rfl) (by kernel_rfl) (fun _ _ _ h => h) (Or.inl ⟨by rfl, ?_⟩) (by assumption) ?_
      rotate_left
      · intro w hSw
        (try dsimp only at hSw)
        go_simp
        try with_reducible rfl
      try simp only [Act.put, List.setIfInBounds_toArray, List.set_cons_zero, List.set_cons_succ]
      refine wpAnyH_take (i := 9) (oi := { dst := some 87, op := Op.move (Operand.tmp 86), type := 4, pos := "links.go:136", after := #[{ on := 8, ground := Ground.data }, { on := 6, ground := Ground.chain }], guard := none }) (v := ?_) rfl (by kernel_rfl) (by kernel_rfl) (by kernel_rfl) (fun _ _ _ h => h) (Or.inl ⟨by rfl, ?_⟩) (by assumption) ?_
      rotate_left
      · intro w hSw
        (try dsimp only at hSw)
        go_simp
        try with_reducible rfl
      try simp only [Act.put, List.setIfInBounds_toArray, List.set_cons_zero, List.set_cons_succ]
      refine wpAnyH_take (i := 10) (oi := { dst := some 88, op := Op.indexAddr 113 (Operand.tmp 8) (Operand.const (Value.int IntKind.i64 1)), type := 0, pos := "links.go:136", after := #[{ on := 9, ground := Ground.guard }, { on := 16, ground := Ground.gcOnly Departure.lateStores }], guard := some (9, true) }) (v := undef) rfl (by kernel_rfl) (by kernel_rfl) (by kernel_rfl) (fun _ _ _ h => h) (Or.inr ⟨by rfl, rfl⟩) (by assumption) ?_
      try simp only [Act.put, List.setIfInBounds_toArray, List.set_cons_zero, List.set_cons_succ]
      refine wpAnyH_take (i := 11) (oi := { dst := some 89, op := Op.load 3 (Operand.tmp 88), type := 3, pos := "links.go:136", after := #[{ on := 10, ground := Ground.data }, { on := 9, ground := Ground.guard }, { on := 16, ground := Ground.gcOnly Departure.lateStores }], guard := some (9, true) }) (v := undef) rfl (by kernel_rfl) (by kernel_rfl) (by kernel_rfl) (fun _ _ _ h => h) (Or.inr ⟨by rfl, rfl⟩) (by assumption) ?_
      try simp only [Act.put, List.setIfInBounds_toArray, List.set_cons_zero, List.set_cons_succ]
      refine wpAnyH_take (i := 12) (oi := { dst := some 90, op := Op.indexAddr 113 (Operand.tmp 10) (Operand.const (Value.int IntKind.i64 0)), type := 0, pos := "links.go:136", after := #[{ on := 9, ground := Ground.guard }, { on := 16, ground := Ground.gcOnly Departure.lateStores }], guard := some (9, true) }) (v := undef) rfl (by kernel_rfl) (by kernel_rfl) (by kernel_rfl) (fun _ _ _ h => h) (Or.inr ⟨by rfl, rfl⟩) (by assumption) ?_
      try simp only [Act.put, List.setIfInBounds_toArray, List.set_cons_zero, List.set_cons_succ]
      refine wpAnyH_take (i := 13) (oi := { dst := some 91, op := Op.load 3 (Operand.tmp 90), type := 3, pos := "links.go:136", after := #[{ on := 12, ground := Ground.data }, { on := 9, ground := Ground.guard }, { on := 16, ground := Ground.gcOnly Departure.lateStores }], guard := some (9, true) }) (v := undef) rfl (by kernel_rfl) (by kernel_rfl) (by kernel_rfl) (fun _ _ _ h => h) (Or.inr ⟨by rfl, rfl⟩) (by assumption) ?_
      try simp only [Act.put, List.setIfInBounds_toArray, List.set_cons_zero, List.set_cons_succ]
      refine wpAnyH_take (i := 14) (oi := { dst := some 92, op := Op.binOp BinOp.eql 3 (Operand.tmp 89) (Operand.tmp 91) 3, type := 4, pos := "links.go:136", after := #[{ on := 11, ground := Ground.data }, { on := 13, ground := Ground.data }, { on := 9, ground := Ground.guard }, { on := 16, ground := Ground.gcOnly Departure.lateStores }], guard := some (9, true) }) (v := undef) rfl (by kernel_rfl) (by kernel_rfl) (by kernel_rfl) (fun _ _ _ h => h) (Or.inr ⟨by rfl, rfl⟩) (by assumption) ?_
      try simp only [Act.put, List.setIfInBounds_toArray, List.set_cons_zero, List.set_cons_succ]
      refine wpAnyH_take (i := 15) (oi := { dst := some 93, op := Op.pick (Operand.tmp 87) (Operand.tmp 92) (Operand.const (Value.bool false)), type := 4, pos := "links.go:136", after := #[{ on := 9, ground := Ground.data }, { on := 14, ground := Ground.data }, { on := 16, ground := Ground.gcOnly Departure.lateStores }], guard := none }) (v := ?_) rfl (by kernel_rfl) (by kernel_rfl) (by kernel_rfl) (fun _ _ _ h => h) (Or.inl ⟨by rfl, ?_⟩) (by assumption) ?_
      rotate_left
      · intro w hSw
        (try dsimp only at hSw)
        go_simp
        try with_reducible rfl
      try simp only [Act.put, List.setIfInBounds_toArray, List.set_cons_zero, List.set_cons_succ]
      have x0 := X0.out
      have x1 := X1.out
      have f0 := F0.out
      have f1 := F1.out
      refine wpAnyH_ready (rs := [16]) (by kernel_rfl) (by simp) ?_
      refine AllReadyH.cons (o := { dst := none, op := Op.store 113 (Operand.tmp 4) (Operand.tmp 82), type := 0, pos := "links.go:136", after := #[{ on := 4, ground := Ground.data }, { on := 9, ground := Ground.chain }, { on := 0, ground := Ground.phase }, { on := 1, ground := Ground.phase }, { on := 2, ground := Ground.phase }, { on := 3, ground := Ground.phase }, { on := 4, ground := Ground.phase }, { on := 5, ground := Ground.textOnly Departure.lateStores }, { on := 6, ground := Ground.textOnly Departure.lateStores }, { on := 7, ground := Ground.textOnly Departure.lateStores }, { on := 8, ground := Ground.textOnly Departure.lateStores }, { on := 9, ground := Ground.textOnly Departure.lateStores }, { on := 10, ground := Ground.textOnly Departure.lateStores }, { on := 11, ground := Ground.textOnly Departure.lateStores }, { on := 12, ground := Ground.textOnly Departure.lateStores }, { on := 13, ground := Ground.textOnly Departure.lateStores }, { on := 14, ground := Ground.textOnly Departure.lateStores }, { on := 15, ground := Ground.textOnly Departure.lateStores }], guard := none }) rfl (fun K hK => ?_) AllReadyH.nil
      go_simp
      refine hK.out _ _ ?_ (fun hHeld => ?_)
      · exact ⟨set_cell_far (set_cell_far hHeld.1 (by simp <;> omega)) (by simp <;> omega), set_cell_far (set_cell_far hHeld.2.1 (by simp <;> omega)) (by simp <;> omega), set_cell_far (set_cell_far hHeld.2.2.1 (by simp <;> omega)) (by simp <;> omega), set_cell_far (set_cell_far hHeld.2.2.2 (by simp <;> omega)) (by simp <;> omega)⟩
      clear hK K
      try simp only [Act.put, List.setIfInBounds_toArray, List.set_cons_zero, List.set_cons_succ]
      refine wpAnyH_take (i := 17) (oi := { dst := some 5, op := Op.assign (Operand.tmp 93), type := 4, pos := "links.go:136", after := #[{ on := 15, ground := Ground.data }, { on := 16, ground := Ground.chain }, { on := 0, ground := Ground.phase }, { on := 1, ground := Ground.phase }, { on := 2, ground := Ground.phase }, { on := 3, ground := Ground.phase }, { on := 4, ground := Ground.phase }, { on := 5, ground := Ground.phase }, { on := 6, ground := Ground.phase }, { on := 7, ground := Ground.phase }, { on := 8, ground := Ground.phase }, { on := 9, ground := Ground.phase }, { on := 10, ground := Ground.phase }, { on := 11, ground := Ground.phase }, { on := 12, ground := Ground.phase }, { on := 13, ground := Ground.phase }, { on := 14, ground := Ground.phase }, { on := 15, ground := Ground.phase }, { on := 16, ground := Ground.phase }], guard := none }) (v := ?_) rfl (by kernel_rfl) (by kernel_rfl) (by kernel_rfl) (fun _ _ _ h => h) (Or.inl ⟨by rfl, ?_⟩) (by assumption) ?_
      rotate_left
      · intro w hSw
        (try dsimp only at hSw)
        go_simp
        try with_reducible rfl
      try simp only [Act.put, List.setIfInBounds_toArray, List.set_cons_zero, List.set_cons_succ]
      refine wpAnyH_done (by kernel_rfl) ?_ _
      have hzz := HZZ.out
      go_wp2_with fail
      refine bodyPost_ret (v := .tuple #[.agg #[.int .i64 rx, .int .i64 sy], .bool false]) (by simp [results, Try.results84, go_sem, x0, x1]) rfl ⟨by simp, ?_⟩
      exact (HB0.out.setCell (Nat.le_succ _) _).setCell (Nat.le_succ _) _
    · skip
      refine wp_region_held_drew (S := (fun w' : World => w'.cell? ⟨D3, 0, none⟩ = some (.int .i64 rx) ∧ w'.cell? ⟨D3, 1, none⟩ = some (.int .i64 ry) ∧ w'.cell? ⟨D5, 0, none⟩ = some (.int .i64 sx) ∧ w'.cell? ⟨D5, 1, none⟩ = some (.int .i64 sy))) (by kernel_rfl) ⟨by rw [World.cell?_drew]; exact R0.out, by rw [World.cell?_drew]; exact R1.out, by rw [World.cell?_drew]; exact S0.out, by rw [World.cell?_drew]; exact S1.out⟩ (fun hHeld => ?_)
      replace X0 := Lib.hid (show w1.drew.cell? ⟨w.heap.size + 1, 0, none⟩ = some (.int .i64 0) by rw [World.cell?_drew]; exact X0.out)
      replace X1 := Lib.hid (show w1.drew.cell? ⟨w.heap.size + 1, 1, none⟩ = some (.int .i64 0) by rw [World.cell?_drew]; exact X1.out)
      replace F0 := Lib.hid (show w1.drew.frozen? ⟨w.heap.size + 1, 0, none⟩ = false from F0.out)
      replace F1 := Lib.hid (show w1.drew.frozen? ⟨w.heap.size + 1, 1, none⟩ = false from F1.out)
      replace HB0 := Lib.hid (HB0.out.drew)
      replace HZZ := Lib.hid (show w.heap.size + 1 < w1.drew.heap.size from HZZ.out)
      generalize w1.drew = w2 at *
      refine wpAnyH_take (i := 0) (oi := { dst := some 78, op := Op.indexAddr 113 (Operand.tmp 8) (Operand.const (Value.int IntKind.i64 0)), type := 0, pos := "links.go:136", after := #[], guard := none }) (v := ?_) rfl (by kernel_rfl) (by kernel_rfl) (by kernel_rfl) (fun _ _ _ h => h) (Or.inl ⟨by rfl, ?_⟩) (by assumption) ?_
      rotate_left
      · intro w hSw
        (try dsimp only at hSw)
        go_simp
        try with_reducible rfl
      try simp only [Act.put, List.setIfInBounds_toArray, List.set_cons_zero, List.set_cons_succ]
      refine wpAnyH_take (i := 1) (oi := { dst := some 79, op := Op.load 3 (Operand.tmp 78), type := 3, pos := "links.go:136", after := #[{ on := 0, ground := Ground.data }], guard := none }) (v := ?_) rfl (by kernel_rfl) (by kernel_rfl) (by kernel_rfl) (fun _ _ _ h => h) (Or.inl ⟨by rfl, ?_⟩) (by assumption) ?_
      rotate_left
      · intro w hSw
        have hcell := hSw.1
        go_simp
        try with_reducible rfl
      try simp only [Act.put, List.setIfInBounds_toArray, List.set_cons_zero, List.set_cons_succ]
      refine wpAnyH_take (i := 2) (oi := { dst := some 80, op := Op.indexAddr 113 (Operand.tmp 10) (Operand.const (Value.int IntKind.i64 1)), type := 0, pos := "links.go:136", after := #[], guard := none }) (v := ?_) rfl (by kernel_rfl) (by kernel_rfl) (by kernel_rfl) (fun _ _ _ h => h) (Or.inl ⟨by rfl, ?_⟩) (by assumption) ?_
      rotate_left
      · intro w hSw
        (try dsimp only at hSw)
        go_simp
        try with_reducible rfl
      try simp only [Act.put, List.setIfInBounds_toArray, List.set_cons_zero, List.set_cons_succ]
      refine wpAnyH_take (i := 3) (oi := { dst := some 81, op := Op.load 3 (Operand.tmp 80), type := 3, pos := "links.go:136", after := #[{ on := 2, ground := Ground.data }], guard := none }) (v := ?_) rfl (by kernel_rfl) (by kernel_rfl) (by kernel_rfl) (fun _ _ _ h => h) (Or.inl ⟨by rfl, ?_⟩) (by assumption) ?_
      rotate_left
      · intro w hSw
        have hcell := hSw.2.2.2
        go_simp
        try with_reducible rfl
      try simp only [Act.put, List.setIfInBounds_toArray, List.set_cons_zero, List.set_cons_succ]
      refine wpAnyH_take (i := 4) (oi := { dst := some 82, op := Op.build 113 #[(0, Operand.tmp 79), (1, Operand.tmp 81)], type := 113, pos := "links.go:136", after := #[{ on := 1, ground := Ground.data }, { on := 3, ground := Ground.data }], guard := none }) (v := ?_) rfl (by kernel_rfl) (by kernel_rfl) (by kernel_rfl) (fun _ _ _ h => h) (Or.inl ⟨by rfl, ?_⟩) (by assumption) ?_
      rotate_left
      · intro w hSw
        (try dsimp only at hSw)
        go_simp
        try with_reducible rfl
      try simp only [Act.put, List.setIfInBounds_toArray, List.set_cons_zero, List.set_cons_succ]
      refine wpAnyH_take (i := 5) (oi := { dst := some 83, op := Op.move (Operand.tmp 9), type := 4, pos := "links.go:136", after := #[], guard := none }) (v := ?_) rfl (by kernel_rfl) (by kernel_rfl) (by kernel_rfl) (fun _ _ _ h => h) (Or.inl ⟨by rfl, ?_⟩) (by assumption) ?_
      rotate_left
      · intro w hSw
        (try dsimp only at hSw)
        go_simp
        try with_reducible rfl
      try simp only [Act.put, List.setIfInBounds_toArray, List.set_cons_zero, List.set_cons_succ]
      refine wpAnyH_take (i := 6) (oi := { dst := some 84, op := Op.move (Operand.tmp 83), type := 4, pos := "links.go:136", after := #[{ on := 5, ground := Ground.data }], guard := none }) (v := ?_) rfl (by kernel_rfl) (by kernel_rfl) (by kernel_rfl) (fun _ _ _ h => h) (Or.inl ⟨by rfl, ?_⟩) (by assumption) ?_
      rotate_left
      · intro w hSw
        (try dsimp only at hSw)
        go_simp
        try with_reducible rfl
      try simp only [Act.put, List.setIfInBounds_toArray, List.set_cons_zero, List.set_cons_succ]
      refine wpAnyH_take (i := 7) (oi := { dst := some 85, op := Op.move (Operand.tmp 11), type := 4, pos := "links.go:136", after := #[{ on := 6, ground := Ground.guard }], guard := some (6, true) }) (v := ?_) rfl (by kernel_rfl) (by kernel_rfl) (by kernel_rfl) (fun _ _ _ h => h) (Or.inl ⟨by rfl, ?_⟩) (by assumption) ?_
      rotate_left
      · intro w hSw
        (try dsimp only at hSw)
        go_simp
        try with_reducible rfl
      try simp only [Act.put, List.setIfInBounds_toArray, List.set_cons_zero, List.set_cons_succ]
      refine wpAnyH_take (i := 8) (oi := { dst := some 86, op := Op.pick (Operand.tmp 84) (Operand.tmp 85) (Operand.const (Value.bool false)), type := 4, pos := "links.go:136", after := #[{ on := 6, ground := Ground.data }, { on := 7, ground := Ground.data }], guard := none }) (v := ?_) rfl (by kernel_rfl) (by kernel_rfl) (by kernel_rfl) (fun _ _ _ h => h) (Or.inl ⟨by rfl, ?_⟩) (by assumption) ?_
      rotate_left
      · intro w hSw
        (try dsimp only at hSw)
        go_simp
        try with_reducible rfl
      try simp only [Act.put, List.setIfInBounds_toArray, List.set_cons_zero, List.set_cons_succ]
      refine wpAnyH_take (i := 9) (oi := { dst := some 87, op := Op.move (Operand.tmp 86), type := 4, pos := "links.go:136", after := #[{ on := 8, ground := Ground.data }, { on := 6, ground := Ground.chain }], guard := none }) (v := ?_) rfl (by kernel_rfl) (by kernel_rfl) (by kernel_rfl) (fun _ _ _ h => h) (Or.inl ⟨by rfl, ?_⟩) (by assumption) ?_
      rotate_left
      · intro w hSw
        (try dsimp only at hSw)
        go_simp
        try with_reducible rfl
      try simp only [Act.put, List.setIfInBounds_toArray, List.set_cons_zero, List.set_cons_succ]
      refine wpAnyH_take (i := 10) (oi := { dst := some 88, op := Op.indexAddr 113 (Operand.tmp 8) (Operand.const (Value.int IntKind.i64 1)), type := 0, pos := "links.go:136", after := #[{ on := 9, ground := Ground.guard }, { on := 16, ground := Ground.gcOnly Departure.lateStores }], guard := some (9, true) }) (v := ?_) rfl (by kernel_rfl) (by kernel_rfl) (by kernel_rfl) (fun _ _ _ h => h) (Or.inl ⟨by rfl, ?_⟩) (by assumption) ?_
      rotate_left
      · intro w hSw
        (try dsimp only at hSw)
        go_simp
        try with_reducible rfl
      try simp only [Act.put, List.setIfInBounds_toArray, List.set_cons_zero, List.set_cons_succ]
      refine wpAnyH_take (i := 11) (oi := { dst := some 89, op := Op.load 3 (Operand.tmp 88), type := 3, pos := "links.go:136", after := #[{ on := 10, ground := Ground.data }, { on := 9, ground := Ground.guard }, { on := 16, ground := Ground.gcOnly Departure.lateStores }], guard := some (9, true) }) (v := ?_) rfl (by kernel_rfl) (by kernel_rfl) (by kernel_rfl) (fun _ _ _ h => h) (Or.inl ⟨by rfl, ?_⟩) (by assumption) ?_
      rotate_left
      · intro w hSw
        have hcell := hSw.2.1
        go_simp
        try with_reducible rfl
      try simp only [Act.put, List.setIfInBounds_toArray, List.set_cons_zero, List.set_cons_succ]
      refine wpAnyH_take (i := 12) (oi := { dst := some 90, op := Op.indexAddr 113 (Operand.tmp 10) (Operand.const (Value.int IntKind.i64 0)), type := 0, pos := "links.go:136", after := #[{ on := 9, ground := Ground.guard }, { on := 16, ground := Ground.gcOnly Departure.lateStores }], guard := some (9, true) }) (v := ?_) rfl (by kernel_rfl) (by kernel_rfl) (by kernel_rfl) (fun _ _ _ h => h) (Or.inl ⟨by rfl, ?_⟩) (by assumption) ?_
      rotate_left
      · intro w hSw
        (try dsimp only at hSw)
        go_simp
        try with_reducible rfl
      try simp only [Act.put, List.setIfInBounds_toArray, List.set_cons_zero, List.set_cons_succ]
      refine wpAnyH_take (i := 13) (oi := { dst := some 91, op := Op.load 3 (Operand.tmp 90), type := 3, pos := "links.go:136", after := #[{ on := 12, ground := Ground.data }, { on := 9, ground := Ground.guard }, { on := 16, ground := Ground.gcOnly Departure.lateStores }], guard := some (9, true) }) (v := ?_) rfl (by kernel_rfl) (by kernel_rfl) (by kernel_rfl) (fun _ _ _ h => h) (Or.inl ⟨by rfl, ?_⟩) (by assumption) ?_
      rotate_left
      · intro w hSw
        have hcell := hSw.2.2.1
        go_simp
        try with_reducible rfl
      try simp only [Act.put, List.setIfInBounds_toArray, List.set_cons_zero, List.set_cons_succ]
      refine wpAnyH_take (i := 14) (oi := { dst := some 92, op := Op.binOp BinOp.eql 3 (Operand.tmp 89) (Operand.tmp 91) 3, type := 4, pos := "links.go:136", after := #[{ on := 11, ground := Ground.data }, { on := 13, ground := Ground.data }, { on := 9, ground := Ground.guard }, { on := 16, ground := Ground.gcOnly Departure.lateStores }], guard := some (9, true) }) (v := ?_) rfl (by kernel_rfl) (by kernel_rfl) (by kernel_rfl) (fun _ _ _ h => h) (Or.inl ⟨by rfl, ?_⟩) (by assumption) ?_
      rotate_left
      · intro w hSw
        (try dsimp only at hSw)
        go_simp
        try with_reducible rfl
      try simp only [Act.put, List.setIfInBounds_toArray, List.set_cons_zero, List.set_cons_succ]
      refine wpAnyH_take (i := 15) (oi := { dst := some 93, op := Op.pick (Operand.tmp 87) (Operand.tmp 92) (Operand.const (Value.bool false)), type := 4, pos := "links.go:136", after := #[{ on := 9, ground := Ground.data }, { on := 14, ground := Ground.data }, { on := 16, ground := Ground.gcOnly Departure.lateStores }], guard := none }) (v := ?_) rfl (by kernel_rfl) (by kernel_rfl) (by kernel_rfl) (fun _ _ _ h => h) (Or.inl ⟨by rfl, ?_⟩) (by assumption) ?_
      rotate_left
      · intro w hSw
        (try dsimp only at hSw)
        go_simp
        try with_reducible rfl
      try simp only [Act.put, List.setIfInBounds_toArray, List.set_cons_zero, List.set_cons_succ]
      have x0 := X0.out
      have x1 := X1.out
      have f0 := F0.out
      have f1 := F1.out
      refine wpAnyH_ready (rs := [16]) (by kernel_rfl) (by simp) ?_
      refine AllReadyH.cons (o := { dst := none, op := Op.store 113 (Operand.tmp 4) (Operand.tmp 82), type := 0, pos := "links.go:136", after := #[{ on := 4, ground := Ground.data }, { on := 9, ground := Ground.chain }, { on := 0, ground := Ground.phase }, { on := 1, ground := Ground.phase }, { on := 2, ground := Ground.phase }, { on := 3, ground := Ground.phase }, { on := 4, ground := Ground.phase }, { on := 5, ground := Ground.textOnly Departure.lateStores }, { on := 6, ground := Ground.textOnly Departure.lateStores }, { on := 7, ground := Ground.textOnly Departure.lateStores }, { on := 8, ground := Ground.textOnly Departure.lateStores }, { on := 9, ground := Ground.textOnly Departure.lateStores }, { on := 10, ground := Ground.textOnly Departure.lateStores }, { on := 11, ground := Ground.textOnly Departure.lateStores }, { on := 12, ground := Ground.textOnly Departure.lateStores }, { on := 13, ground := Ground.textOnly Departure.lateStores }, { on := 14, ground := Ground.textOnly Departure.lateStores }, { on := 15, ground := Ground.textOnly Departure.lateStores }], guard := none }) rfl (fun K hK => ?_) AllReadyH.nil
      go_simp
      refine hK.out _ _ ?_ (fun hHeld => ?_)
      · exact ⟨set_cell_far (set_cell_far hHeld.1 (by simp <;> omega)) (by simp <;> omega), set_cell_far (set_cell_far hHeld.2.1 (by simp <;> omega)) (by simp <;> omega), set_cell_far (set_cell_far hHeld.2.2.1 (by simp <;> omega)) (by simp <;> omega), set_cell_far (set_cell_far hHeld.2.2.2 (by simp <;> omega)) (by simp <;> omega)⟩
      clear hK K
      try simp only [Act.put, List.setIfInBounds_toArray, List.set_cons_zero, List.set_cons_succ]
      refine wpAnyH_take (i := 17) (oi := { dst := some 5, op := Op.assign (Operand.tmp 93), type := 4, pos := "links.go:136", after := #[{ on := 15, ground := Ground.data }, { on := 16, ground := Ground.chain }, { on := 0, ground := Ground.phase }, { on := 1, ground := Ground.phase }, { on := 2, ground := Ground.phase }, { on := 3, ground := Ground.phase }, { on := 4, ground := Ground.phase }, { on := 5, ground := Ground.phase }, { on := 6, ground := Ground.phase }, { on := 7, ground := Ground.phase }, { on := 8, ground := Ground.phase }, { on := 9, ground := Ground.phase }, { on := 10, ground := Ground.phase }, { on := 11, ground := Ground.phase }, { on := 12, ground := Ground.phase }, { on := 13, ground := Ground.phase }, { on := 14, ground := Ground.phase }, { on := 15, ground := Ground.phase }, { on := 16, ground := Ground.phase }], guard := none }) (v := ?_) rfl (by kernel_rfl) (by kernel_rfl) (by kernel_rfl) (fun _ _ _ h => h) (Or.inl ⟨by rfl, ?_⟩) (by assumption) ?_
      rotate_left
      · intro w hSw
        (try dsimp only at hSw)
        go_simp
        try with_reducible rfl
      try simp only [Act.put, List.setIfInBounds_toArray, List.set_cons_zero, List.set_cons_succ]
      refine wpAnyH_done (by kernel_rfl) ?_ _
      have hzz := HZZ.out
      go_wp2_with fail
      refine bodyPost_ret (v := .tuple #[.agg #[.int .i64 rx, .int .i64 sy], .bool (ry == sx)]) (by simp [results, Try.results84, go_sem, x0, x1]) rfl ⟨by simp, ?_⟩
      exact (HB0.out.setCell (Nat.le_succ _) _).setCell (Nat.le_succ _) _
set_option maxRecDepth 100000 in
set_option maxHeartbeats 1600000 in
theorem concl_apply (c : Nat) (T M : Option Nat) (p : Option Addr) (n cv : Nat) (q : Option Addr) (m ca : Nat) (ts : List (Int × Int)) (ls : List Int) (Tt A B I J : Int) (P : Option Addr) (L C : Nat) (w : World) (h : CheckerAt w c T M p n cv q m ca ts ls) (hl : ts.length ≤ 1000000) (d : VD) (hd : VertsIn w p n d) (hn : n ≤ 20000) (V : Nat → Int) (hV : LitsIn w P L V) (hL : L ≤ 9223372036854775807) :
    Calls Try.prog 84 #[.pointer (some ⟨c, 0, none⟩), linkV 5 Tt A B I J P L C] w fun e w' => e = .returned (.tuple #[.agg #[.int .i64 A, .int .i64 B], .bool (appB n d ts A B L V)]) ∧ Below w.heap.size w w' := by
  unfold linkV
  have hB0 := (below1 w (.cells #[.int .u8 5, .int .i64 Tt, .int .i64 A, .int .i64 B, .int .i64 I, .int .i64 J, .slice P L C] 57)).trans ((below1 _ (.cells #[.int .i64 0, .int .i64 0] 113)).mono (below1 w (.cells #[.int .u8 5, .int .i64 Tt, .int .i64 A, .int .i64 B, .int .i64 I, .int .i64 J, .slice P L C] 57)).size)
  have h1 := h.later hB0
  have h1c := h.lt
  have hh := h
  have HB0 := Lib.hid hB0
  have H1 := Lib.hid h1
  clear h hB0
  have hcl : c < w.heap.size := h1c
  have z2 : ((w.alloc (.cells #[.int .u8 5, .int .i64 Tt, .int .i64 A, .int .i64 B, .int .i64 I, .int .i64 J, .slice P L C] 57)).alloc (.cells #[.int .i64 0, .int .i64 0] 113)).cell? ⟨w.heap.size, 2, none⟩ = some (.int .i64 A) := by simp [go_sem]
  have z3 : ((w.alloc (.cells #[.int .u8 5, .int .i64 Tt, .int .i64 A, .int .i64 B, .int .i64 I, .int .i64 J, .slice P L C] 57)).alloc (.cells #[.int .i64 0, .int .i64 0] 113)).cell? ⟨w.heap.size, 3, none⟩ = some (.int .i64 B) := by simp [go_sem]
  have x0 : ((w.alloc (.cells #[.int .u8 5, .int .i64 Tt, .int .i64 A, .int .i64 B, .int .i64 I, .int .i64 J, .slice P L C] 57)).alloc (.cells #[.int .i64 0, .int .i64 0] 113)).cell? ⟨w.heap.size + 1, 0, none⟩ = some (.int .i64 0) := by simp [go_sem]
  have x1 : ((w.alloc (.cells #[.int .u8 5, .int .i64 Tt, .int .i64 A, .int .i64 B, .int .i64 I, .int .i64 J, .slice P L C] 57)).alloc (.cells #[.int .i64 0, .int .i64 0] 113)).cell? ⟨w.heap.size + 1, 1, none⟩ = some (.int .i64 0) := by simp [go_sem]
  have f0 : ((w.alloc (.cells #[.int .u8 5, .int .i64 Tt, .int .i64 A, .int .i64 B, .int .i64 I, .int .i64 J, .slice P L C] 57)).alloc (.cells #[.int .i64 0, .int .i64 0] 113)).frozen? ⟨w.heap.size + 1, 0, none⟩ = false := by simp [go_sem]
  have f1 : ((w.alloc (.cells #[.int .u8 5, .int .i64 Tt, .int .i64 A, .int .i64 B, .int .i64 I, .int .i64 J, .slice P L C] 57)).alloc (.cells #[.int .i64 0, .int .i64 0] 113)).frozen? ⟨w.heap.size + 1, 1, none⟩ = false := by simp [go_sem]
  have hzz : w.heap.size + 1 < ((w.alloc (.cells #[.int .u8 5, .int .i64 Tt, .int .i64 A, .int .i64 B, .int .i64 I, .int .i64 J, .slice P L C] 57)).alloc (.cells #[.int .i64 0, .int .i64 0] 113)).heap.size := by simp
  have y0 := h1.c0
  have X0 := Lib.hid x0
  have X1 := Lib.hid x1
  have F0 := Lib.hid f0
  have F1 := Lib.hid f1
  have Z2 := Lib.hid z2
  have Z3 := Lib.hid z3
  have Y0 := Lib.hid y0
  have HZZ := Lib.hid hzz
  clear z2 z3 x0 x1 f0 f1 y0 hzz
  have zz0 : ((w.alloc (.cells #[.int .u8 5, .int .i64 Tt, .int .i64 A, .int .i64 B, .int .i64 I, .int .i64 J, .slice P L C] 57)).alloc (.cells #[.int .i64 0, .int .i64 0] 113)).cell? ⟨w.heap.size, 0, none⟩ = some (.int .u8 5) := by simp [go_sem]
  have zz1 : ((w.alloc (.cells #[.int .u8 5, .int .i64 Tt, .int .i64 A, .int .i64 B, .int .i64 I, .int .i64 J, .slice P L C] 57)).alloc (.cells #[.int .i64 0, .int .i64 0] 113)).cell? ⟨w.heap.size, 1, none⟩ = some (.int .i64 Tt) := by simp [go_sem]
  have zz4 : ((w.alloc (.cells #[.int .u8 5, .int .i64 Tt, .int .i64 A, .int .i64 B, .int .i64 I, .int .i64 J, .slice P L C] 57)).alloc (.cells #[.int .i64 0, .int .i64 0] 113)).cell? ⟨w.heap.size, 4, none⟩ = some (.int .i64 I) := by simp [go_sem]
  have zz5 : ((w.alloc (.cells #[.int .u8 5, .int .i64 Tt, .int .i64 A, .int .i64 B, .int .i64 I, .int .i64 J, .slice P L C] 57)).alloc (.cells #[.int .i64 0, .int .i64 0] 113)).cell? ⟨w.heap.size, 5, none⟩ = some (.int .i64 J) := by simp [go_sem]
  have zz6 : ((w.alloc (.cells #[.int .u8 5, .int .i64 Tt, .int .i64 A, .int .i64 B, .int .i64 I, .int .i64 J, .slice P L C] 57)).alloc (.cells #[.int .i64 0, .int .i64 0] 113)).cell? ⟨w.heap.size, 6, none⟩ = some (.slice P L C) := by simp [go_sem]
  have HAP := Lib.hid (fun W (hb : Below w.heap.size w W) => applies_any c T M p n cv d q m ca ts ls 5 Tt A B I J P L C V W (hh.later hb) (hd.later hb) hn hl (hV.later hb) hL)
  have U := Lib.hid (And.intro zz0 (And.intro zz1 (And.intro Z2.out (And.intro Z3.out (And.intro zz4 (And.intro zz5 zz6))))))
  clear zz0 zz1 zz4 zz5 zz6 hd hV
  clear h1
  go_enter Try.func84, Try.ntmps84
  go_wp2_with fail
  generalize ((w.alloc (.cells #[.int .u8 5, .int .i64 Tt, .int .i64 A, .int .i64 B, .int .i64 I, .int .i64 J, .slice P L C] 57)).alloc (.cells #[.int .i64 0, .int .i64 0] 113)) = w1 at *
  unfold linkV at HAP
  refine wp_region_held_drew (S := (fun w' : World => w'.cell? ⟨w.heap.size, 2, none⟩ = some (.int .i64 A) ∧ w'.cell? ⟨w.heap.size, 3, none⟩ = some (.int .i64 B) ∧ w'.cell? ⟨w.heap.size, 0, none⟩ = some (.int .u8 5) ∧ w'.cell? ⟨w.heap.size, 1, none⟩ = some (.int .i64 Tt) ∧ w'.cell? ⟨w.heap.size, 4, none⟩ = some (.int .i64 I) ∧ w'.cell? ⟨w.heap.size, 5, none⟩ = some (.int .i64 J) ∧ w'.cell? ⟨w.heap.size, 6, none⟩ = some (.slice P L C))) (by kernel_rfl) ⟨by rw [World.cell?_drew]; exact Z2.out, by rw [World.cell?_drew]; exact Z3.out, by rw [World.cell?_drew]; exact U.out.1, by rw [World.cell?_drew]; exact U.out.2.1, by rw [World.cell?_drew]; exact U.out.2.2.2.2.1, by rw [World.cell?_drew]; exact U.out.2.2.2.2.2.1, by rw [World.cell?_drew]; exact U.out.2.2.2.2.2.2⟩ (fun hHeld => ?_)
  replace X0 := Lib.hid (show w1.drew.cell? ⟨w.heap.size + 1, 0, none⟩ = some (.int .i64 0) by rw [World.cell?_drew]; exact X0.out)
  replace X1 := Lib.hid (show w1.drew.cell? ⟨w.heap.size + 1, 1, none⟩ = some (.int .i64 0) by rw [World.cell?_drew]; exact X1.out)
  replace F0 := Lib.hid (show w1.drew.frozen? ⟨w.heap.size + 1, 0, none⟩ = false from F0.out)
  replace F1 := Lib.hid (show w1.drew.frozen? ⟨w.heap.size + 1, 1, none⟩ = false from F1.out)
  replace HB0 := Lib.hid (HB0.out.drew)
  replace HZZ := Lib.hid (show w.heap.size + 1 < w1.drew.heap.size from HZZ.out)
  generalize w1.drew = w2 at *
  refine wpAnyH_take (i := 0) (oi := { dst := some 96, op := Op.fieldAddr 57 (Operand.tmp 3) 2, type := 0, pos := "links.go:138", after := #[], guard := none }) (v := ?_) rfl (by kernel_rfl) (by kernel_rfl) (by kernel_rfl) (fun _ _ _ h => h) (Or.inl ⟨by rfl, ?_⟩) (by assumption) ?_
  rotate_left
  · intro w hSw
    (try dsimp only at hSw)
    go_simp
    try with_reducible rfl
  try simp only [Act.put, List.setIfInBounds_toArray, List.set_cons_zero, List.set_cons_succ]
  refine wpAnyH_take (i := 1) (oi := { dst := some 97, op := Op.load 3 (Operand.tmp 96), type := 3, pos := "links.go:138", after := #[{ on := 0, ground := Ground.data }], guard := none }) (v := ?_) rfl (by kernel_rfl) (by kernel_rfl) (by kernel_rfl) (fun _ _ _ h => h) (Or.inl ⟨by rfl, ?_⟩) (by assumption) ?_
  rotate_left
  · intro w hSw
    have hcell := hSw.1
    go_simp
    try with_reducible rfl
  try simp only [Act.put, List.setIfInBounds_toArray, List.set_cons_zero, List.set_cons_succ]
  refine wpAnyH_take (i := 2) (oi := { dst := some 98, op := Op.fieldAddr 57 (Operand.tmp 3) 3, type := 0, pos := "links.go:138", after := #[], guard := none }) (v := ?_) rfl (by kernel_rfl) (by kernel_rfl) (by kernel_rfl) (fun _ _ _ h => h) (Or.inl ⟨by rfl, ?_⟩) (by assumption) ?_
  rotate_left
  · intro w hSw
    (try dsimp only at hSw)
    go_simp
    try with_reducible rfl
  try simp only [Act.put, List.setIfInBounds_toArray, List.set_cons_zero, List.set_cons_succ]
  refine wpAnyH_take (i := 3) (oi := { dst := some 99, op := Op.load 3 (Operand.tmp 98), type := 3, pos := "links.go:138", after := #[{ on := 2, ground := Ground.data }], guard := none }) (v := ?_) rfl (by kernel_rfl) (by kernel_rfl) (by kernel_rfl) (fun _ _ _ h => h) (Or.inl ⟨by rfl, ?_⟩) (by assumption) ?_
  rotate_left
  · intro w hSw
    have hcell := hSw.2.1
    go_simp
    try with_reducible rfl
  try simp only [Act.put, List.setIfInBounds_toArray, List.set_cons_zero, List.set_cons_succ]
  refine wpAnyH_take (i := 4) (oi := { dst := some 100, op := Op.build 113 #[(0, Operand.tmp 97), (1, Operand.tmp 99)], type := 113, pos := "links.go:138", after := #[{ on := 1, ground := Ground.data }, { on := 3, ground := Ground.data }], guard := none }) (v := ?_) rfl (by kernel_rfl) (by kernel_rfl) (by kernel_rfl) (fun _ _ _ h => h) (Or.inl ⟨by rfl, ?_⟩) (by assumption) ?_
  rotate_left
  · intro w hSw
    (try dsimp only at hSw)
    go_simp
    try with_reducible rfl
  try simp only [Act.put, List.setIfInBounds_toArray, List.set_cons_zero, List.set_cons_succ]
  refine wpAnyH_take (i := 5) (oi := { dst := some 101, op := Op.move (Operand.tmp 0), type := 111, pos := "links.go:138", after := #[], guard := none }) (v := ?_) rfl (by kernel_rfl) (by kernel_rfl) (by kernel_rfl) (fun _ _ _ h => h) (Or.inl ⟨by rfl, ?_⟩) (by assumption) ?_
  rotate_left
  · intro w hSw
    (try dsimp only at hSw)
    go_simp
    try with_reducible rfl
  try simp only [Act.put, List.setIfInBounds_toArray, List.set_cons_zero, List.set_cons_succ]
  refine wpAnyH_take (i := 6) (oi := { dst := some 102, op := Op.load 57 (Operand.tmp 3), type := 57, pos := "links.go:138", after := #[], guard := none }) (v := ?_) rfl (by kernel_rfl) (by kernel_rfl) (by kernel_rfl) (fun _ _ _ h => h) (Or.inl ⟨by rfl, ?_⟩) (by assumption) ?_
  rotate_left
  · intro w hSw
    obtain ⟨hc2, hc3, hc0, hc1, hc4, hc5, hc6⟩ := hSw
    go_simp
    try with_reducible rfl
  try simp only [Act.put, List.setIfInBounds_toArray, List.set_cons_zero, List.set_cons_succ]
  refine wpAnyH_ready (rs := [7]) (by kernel_rfl) (by simp) ?_
  refine AllReadyH.cons (o := { dst := some 103, op := Op.call { callee := Callee.value (Operand.func 105), args := #[Operand.tmp 101, Operand.tmp 102], argTypes := #[111, 57] }, type := 4, pos := "links.go:138", after := #[{ on := 5, ground := Ground.data }, { on := 6, ground := Ground.data }], guard := none }) rfl (fun K hK => ?_) AllReadyH.nil
  go_simp
  go_at_call 105
  refine (HAP.out _ HB0.out).mono ?_
  rintro e w' ⟨rfl, hb⟩
  refine hK.out _ _ ?_ (fun hHeld => ?_)
  · exact ⟨cell_later hb hHeld.1, cell_later hb hHeld.2.1, cell_later hb hHeld.2.2.1, cell_later hb hHeld.2.2.2.1, cell_later hb hHeld.2.2.2.2.1, cell_later hb hHeld.2.2.2.2.2.1, cell_later hb hHeld.2.2.2.2.2.2⟩
  clear hK K
  try simp only [Act.put, List.setIfInBounds_toArray, List.set_cons_zero, List.set_cons_succ]
  have x0 := cell_later hb X0.out
  have x1 := cell_later hb X1.out
  have f0 := (hb.frozen HZZ.out).trans F0.out
  have f1 := (hb.frozen HZZ.out).trans F1.out
  have hzz : w.heap.size + 1 < w'.heap.size := Nat.lt_of_lt_of_le HZZ.out hb.size
  replace HB0 := Lib.hid (HB0.out.trans (hb.mono HB0.out.size))
  clear hb
  refine wpAnyH_ready (rs := [8]) (by kernel_rfl) (by simp) ?_
  refine AllReadyH.cons (o := { dst := none, op := Op.store 113 (Operand.tmp 4) (Operand.tmp 100), type := 0, pos := "links.go:138", after := #[{ on := 4, ground := Ground.data }, { on := 7, ground := Ground.chain }, { on := 0, ground := Ground.phase }, { on := 1, ground := Ground.phase }, { on := 2, ground := Ground.phase }, { on := 3, ground := Ground.phase }, { on := 4, ground := Ground.phase }, { on := 5, ground := Ground.textOnly Departure.lateStores }, { on := 6, ground := Ground.textOnly Departure.lateStores }, { on := 7, ground := Ground.textOnly Departure.lateStoresUnsure }], guard := none }) rfl (fun K hK => ?_) AllReadyH.nil
  go_simp
  refine hK.out _ _ ?_ (fun hHeld => ?_)
  · exact ⟨set_cell_far (set_cell_far hHeld.1 (by simp)) (by simp), set_cell_far (set_cell_far hHeld.2.1 (by simp)) (by simp), set_cell_far (set_cell_far hHeld.2.2.1 (by simp)) (by simp), set_cell_far (set_cell_far hHeld.2.2.2.1 (by simp)) (by simp), set_cell_far (set_cell_far hHeld.2.2.2.2.1 (by simp)) (by simp), set_cell_far (set_cell_far hHeld.2.2.2.2.2.1 (by simp)) (by simp), set_cell_far (set_cell_far hHeld.2.2.2.2.2.2 (by simp)) (by simp)⟩
  clear hK K
  try simp only [Act.put, List.setIfInBounds_toArray, List.set_cons_zero, List.set_cons_succ]
  refine wpAnyH_take (i := 9) (oi := { dst := some 5, op := Op.assign (Operand.tmp 103), type := 4, pos := "links.go:138", after := #[{ on := 7, ground := Ground.data }, { on := 8, ground := Ground.chain }, { on := 0, ground := Ground.phase }, { on := 1, ground := Ground.phase }, { on := 2, ground := Ground.phase }, { on := 3, ground := Ground.phase }, { on := 4, ground := Ground.phase }, { on := 5, ground := Ground.phase }, { on := 6, ground := Ground.phase }, { on := 7, ground := Ground.phase }, { on := 8, ground := Ground.phase }], guard := none }) (v := ?_) rfl (by kernel_rfl) (by kernel_rfl) (by kernel_rfl) (fun _ _ _ h => h) (Or.inl ⟨by rfl, ?_⟩) (by assumption) ?_
  rotate_left
  · intro w hSw
    (try dsimp only at hSw)
    go_simp
    try with_reducible rfl
  try simp only [Act.put, List.setIfInBounds_toArray, List.set_cons_zero, List.set_cons_succ]
  refine wpAnyH_done (by kernel_rfl) ?_ _
  go_wp2_with fail
  refine bodyPost_ret (v := .tuple #[.agg #[.int .i64 A, .int .i64 B], .bool (appB n d ts A B L V)]) (by simp [results, Try.results84, go_sem, x0, x1]) rfl ⟨rfl, ?_⟩
  exact (HB0.out.setCell (Nat.le_succ _) _).setCell (Nat.le_succ _) _
end Go.Proofs.Ytgdncnalahdjeaa
