/- Stage 6: what a call makes, of both. -/
import Derived.Test.YtkjmmdffelhkiaaT25
namespace Go.Proofs.Ytkjmmdffelhkiaa
open Go Go.RowKit Go.Maps

variable {W W' : World} {K K' : Nat → Nat} {base c r : Nat} {T : Sto} {N : List Nd} {e : Ending} {w' : World}
/-- a call as it is handed in. -/
structure OpV where
  k : Int
  a : Int
  b : Int
  c : Int
  P : Option Addr
  L : Nat
  C : Nat
  V : Nat → Int
  f : Int
  s : Int
  n : Int
  m : Bool
def mA (o : OpV) : Value := .agg #[.int .i64 o.k, .int .i64 o.a, .int .i64 o.b, .int .i64 o.c, .slice o.P o.L o.C, .int .i64 o.f, .int .i64 o.s, .int .i64 o.n, .bool o.m]
structure OpOk (o : OpV) : Prop where
  k : I64 o.k
  a : I64 o.a
  b : I64 o.b
  c : I64 o.c
  L : o.L ≤ 6000
  V : ∀ i, i < o.L → I64 (o.V i)
  f : I64 o.f
  s : I64 o.s
  n : I64 o.n
/-- the call, its terms told. -/
def clOf (o : OpV) (n : Nat) : Cl := ⟨o.k, nearV o.a n o.m, nearV o.b n o.m, nearV o.c n o.m, o.L, fun i => nearV (o.V i) n o.m, o.f, o.s, o.n⟩
def MadeP (T : Sto) (o : OpV) (base c r : Nat) (K : Nat → Nat) (W : World) (e : Ending) (w' : World) : Prop :=
  ∃ K' T' N' t er, e = .returned (.tuple #[.int .i64 t, .int .i64 er, .bool true]) ∧ Two w' K' base c r T' N' ∧ StepZ W w' K K' ∧ Ans T.nodes (reqOf (view T.nodes) (clOf o T.nodes.length)) t er T'.nodes
theorem rowV_snoc (n : Nat) (V : Nat → Int) : rowV n V ++ [.int .i64 (V n)] = rowV (n + 1) V := by
  unfold rowV
  rw [List.range_succ, List.map_append]; rfl
set_option maxRecDepth 100000 in
set_option maxHeartbeats 64000000 in
theorem made_any (h : Two W K base c r T N) (o : OpV) (ho : OpOk o) (hx : IntsIn W o.P o.L o.V) :
    Calls Try.prog 36 #[.pointer (some ⟨c, 0, none⟩), .pointer (some ⟨r, 0, none⟩), mA o] W (MadeP T o base c r K W) := by
  obtain ⟨kd, A, B, C, P, L, Cp, V, F, S, M, Md⟩ := o
  have hL := ho.L
  have HO := Lib.hid ho
  simp only at hx hL
  obtain ⟨i73, hi73, hz730, hz731, hz732⟩ := info_of (e := 73) (z := .int .i64 0) (s := 1) (b := 8) (by kernel_rfl)
  have hb1 := below1 W (.cells #[.int .i64 kd, .int .i64 A, .int .i64 B, .int .i64 C, .slice P L Cp, .int .i64 F, .int .i64 S, .int .i64 M, .bool Md] 76)
  have k0 : (W.alloc (.cells #[.int .i64 kd, .int .i64 A, .int .i64 B, .int .i64 C, .slice P L Cp, .int .i64 F, .int .i64 S, .int .i64 M, .bool Md] 76)).cell? ⟨W.heap.size, 0, none⟩ = some (.int .i64 kd) := by simp [go_sem]
  have k1 : (W.alloc (.cells #[.int .i64 kd, .int .i64 A, .int .i64 B, .int .i64 C, .slice P L Cp, .int .i64 F, .int .i64 S, .int .i64 M, .bool Md] 76)).cell? ⟨W.heap.size, 1, none⟩ = some (.int .i64 A) := by simp [go_sem]
  have k2 : (W.alloc (.cells #[.int .i64 kd, .int .i64 A, .int .i64 B, .int .i64 C, .slice P L Cp, .int .i64 F, .int .i64 S, .int .i64 M, .bool Md] 76)).cell? ⟨W.heap.size, 2, none⟩ = some (.int .i64 B) := by simp [go_sem]
  have k3 : (W.alloc (.cells #[.int .i64 kd, .int .i64 A, .int .i64 B, .int .i64 C, .slice P L Cp, .int .i64 F, .int .i64 S, .int .i64 M, .bool Md] 76)).cell? ⟨W.heap.size, 3, none⟩ = some (.int .i64 C) := by simp [go_sem]
  have k4 : (W.alloc (.cells #[.int .i64 kd, .int .i64 A, .int .i64 B, .int .i64 C, .slice P L Cp, .int .i64 F, .int .i64 S, .int .i64 M, .bool Md] 76)).cell? ⟨W.heap.size, 4, none⟩ = some (.slice P L Cp) := by simp [go_sem]
  have k5 : (W.alloc (.cells #[.int .i64 kd, .int .i64 A, .int .i64 B, .int .i64 C, .slice P L Cp, .int .i64 F, .int .i64 S, .int .i64 M, .bool Md] 76)).cell? ⟨W.heap.size, 5, none⟩ = some (.int .i64 F) := by simp [go_sem]
  have k6 : (W.alloc (.cells #[.int .i64 kd, .int .i64 A, .int .i64 B, .int .i64 C, .slice P L Cp, .int .i64 F, .int .i64 S, .int .i64 M, .bool Md] 76)).cell? ⟨W.heap.size, 6, none⟩ = some (.int .i64 S) := by simp [go_sem]
  have k7 : (W.alloc (.cells #[.int .i64 kd, .int .i64 A, .int .i64 B, .int .i64 C, .slice P L Cp, .int .i64 F, .int .i64 S, .int .i64 M, .bool Md] 76)).cell? ⟨W.heap.size, 7, none⟩ = some (.int .i64 M) := by simp [go_sem]
  have k8 : (W.alloc (.cells #[.int .i64 kd, .int .i64 A, .int .i64 B, .int .i64 C, .slice P L Cp, .int .i64 F, .int .i64 S, .int .i64 M, .bool Md] 76)).cell? ⟨W.heap.size, 8, none⟩ = some (.bool Md) := by simp [go_sem]
  have hN := h.lN
  have hNT := h.al.len
  have H0 := Lib.hid h
  have H1 := Lib.hid (h.later hb1)
  have HX1 := Lib.hid (hx.later hb1)
  have HB1 := Lib.hid hb1
  have hbs : W.heap.size < (W.alloc (.cells #[.int .i64 kd, .int .i64 A, .int .i64 B, .int .i64 C, .slice P L Cp, .int .i64 F, .int .i64 S, .int .i64 M, .bool Md] 76)).heap.size := by simp
  have HNT := Lib.hid hNT
  clear h ho hx hb1 hNT
  unfold mA
  go_enter Try.func36, Try.ntmps36
  go_upto_region 1 with (fail)
  generalize W.alloc (.cells #[.int .i64 kd, .int .i64 A, .int .i64 B, .int .i64 C, .slice P L Cp, .int .i64 F, .int .i64 S, .int .i64 M, .bool Md] 76) = w1 at *
  generalize hbb : W.heap.size = bb at *
  have HBE := Lib.hid hbb
  clear hbb
  obtain ⟨p0, z0, y0, o0_⟩ := H1.out.rf.row0
  clear o0_
  go_wp2_with fail
  have hD : Below w1.heap.size w1 w1.drew := (Below.refl _ _).drew
  have k0' := k0
  replace k0 := cell_later hD k0
  replace k1 := cell_later hD k1
  replace k2 := cell_later hD k2
  replace k3 := cell_later hD k3
  replace k4 := cell_later hD k4
  replace k5 := cell_later hD k5
  replace k6 := cell_later hD k6
  replace k7 := cell_later hD k7
  replace k8 := cell_later hD k8
  replace hbs : bb < w1.drew.heap.size := Nat.lt_of_lt_of_le hbs hD.size
  have H2 := Lib.hid (H1.out.later hD)
  have HX2 := Lib.hid (HX1.out.later hD)
  have HB2 := Lib.hid (HB1.out.trans (hD.mono (Nat.le_of_lt (World.block_lt_of_cell? _ _ k0'))))
  clear hD H1 HX1 HB1 y0
  refine wp_region_L [(1000, (fun _ => True : World → Prop)), (1000, (fun w => w.cell? ⟨bb, 0, none⟩ = some (.int .i64 kd) ∧ w.cell? ⟨bb, 1, none⟩ = some (.int .i64 A) ∧ w.cell? ⟨bb, 2, none⟩ = some (.int .i64 B) ∧ w.cell? ⟨bb, 3, none⟩ = some (.int .i64 C) ∧ w.cell? ⟨bb, 4, none⟩ = some (.slice P L Cp) ∧ w.cell? ⟨bb, 5, none⟩ = some (.int .i64 F) ∧ w.cell? ⟨bb, 6, none⟩ = some (.int .i64 S) ∧ w.cell? ⟨bb, 7, none⟩ = some (.int .i64 M) ∧ w.cell? ⟨bb, 8, none⟩ = some (.bool Md) : World → Prop))] (by kernel_rfl) (SL.cons (fun _ => trivial) (SL.cons (fun _ => ⟨k0, k1, k2, k3, k4, k5, k6, k7, k8⟩) SL.nil)) (fun hHeld => ?_)
  generalize w1.drew = w2 at *
  refine wpAnyL_take 0 _ _ (i := 0) (oi := { dst := some 26, op := Op.fieldAddr 76 (Operand.tmp 5) 1, type := 0, pos := "law.go:54", after := #[], guard := none }) (v := ?_) rfl (by kernel_rfl) (by kernel_rfl) (by kernel_rfl) (fun _ _ _ h => h) rfl (by kernel_rfl) (by kernel_rfl) (by kernel_rfl) (Or.inl ⟨by rfl, ?_⟩) hHeld (fun hHeld => ?_)
  rotate_left
  · intro w hSw
    (try dsimp only at hSw)
    go_simp
    try with_reducible rfl
  try simp only [Act.put, List.setIfInBounds_toArray, List.set_cons_zero, List.set_cons_succ]
  refine wpAnyL_take 0 _ _ (i := 2) (oi := { dst := some 28, op := Op.move (Operand.tmp 9), type := 3, pos := "law.go:54", after := #[], guard := none }) (v := ?_) rfl (by kernel_rfl) (by kernel_rfl) (by kernel_rfl) (fun _ _ _ h => h) rfl (by kernel_rfl) (by kernel_rfl) (by kernel_rfl) (Or.inl ⟨by rfl, ?_⟩) hHeld (fun hHeld => ?_)
  rotate_left
  · intro w hSw
    (try dsimp only at hSw)
    go_simp
    try with_reducible rfl
  try simp only [Act.put, List.setIfInBounds_toArray, List.set_cons_zero, List.set_cons_succ]
  refine wpAnyL_take 0 _ _ (i := 3) (oi := { dst := some 29, op := Op.fieldAddr 76 (Operand.tmp 5) 8, type := 0, pos := "law.go:54", after := #[], guard := none }) (v := ?_) rfl (by kernel_rfl) (by kernel_rfl) (by kernel_rfl) (fun _ _ _ h => h) rfl (by kernel_rfl) (by kernel_rfl) (by kernel_rfl) (Or.inl ⟨by rfl, ?_⟩) hHeld (fun hHeld => ?_)
  rotate_left
  · intro w hSw
    (try dsimp only at hSw)
    go_simp
    try with_reducible rfl
  try simp only [Act.put, List.setIfInBounds_toArray, List.set_cons_zero, List.set_cons_succ]
  refine wpAnyL_take 0 _ _ (i := 6) (oi := { dst := some 32, op := Op.fieldAddr 76 (Operand.tmp 5) 2, type := 0, pos := "law.go:54", after := #[], guard := none }) (v := ?_) rfl (by kernel_rfl) (by kernel_rfl) (by kernel_rfl) (fun _ _ _ h => h) rfl (by kernel_rfl) (by kernel_rfl) (by kernel_rfl) (Or.inl ⟨by rfl, ?_⟩) hHeld (fun hHeld => ?_)
  rotate_left
  · intro w hSw
    (try dsimp only at hSw)
    go_simp
    try with_reducible rfl
  try simp only [Act.put, List.setIfInBounds_toArray, List.set_cons_zero, List.set_cons_succ]
  refine wpAnyL_take 0 _ _ (i := 8) (oi := { dst := some 34, op := Op.move (Operand.tmp 9), type := 3, pos := "law.go:54", after := #[], guard := none }) (v := ?_) rfl (by kernel_rfl) (by kernel_rfl) (by kernel_rfl) (fun _ _ _ h => h) rfl (by kernel_rfl) (by kernel_rfl) (by kernel_rfl) (Or.inl ⟨by rfl, ?_⟩) hHeld (fun hHeld => ?_)
  rotate_left
  · intro w hSw
    (try dsimp only at hSw)
    go_simp
    try with_reducible rfl
  try simp only [Act.put, List.setIfInBounds_toArray, List.set_cons_zero, List.set_cons_succ]
  refine wpAnyL_take 0 _ _ (i := 9) (oi := { dst := some 35, op := Op.fieldAddr 76 (Operand.tmp 5) 8, type := 0, pos := "law.go:54", after := #[], guard := none }) (v := ?_) rfl (by kernel_rfl) (by kernel_rfl) (by kernel_rfl) (fun _ _ _ h => h) rfl (by kernel_rfl) (by kernel_rfl) (by kernel_rfl) (Or.inl ⟨by rfl, ?_⟩) hHeld (fun hHeld => ?_)
  rotate_left
  · intro w hSw
    (try dsimp only at hSw)
    go_simp
    try with_reducible rfl
  try simp only [Act.put, List.setIfInBounds_toArray, List.set_cons_zero, List.set_cons_succ]
  refine wpAnyL_take 0 _ _ (i := 12) (oi := { dst := some 38, op := Op.fieldAddr 76 (Operand.tmp 5) 3, type := 0, pos := "law.go:54", after := #[], guard := none }) (v := ?_) rfl (by kernel_rfl) (by kernel_rfl) (by kernel_rfl) (fun _ _ _ h => h) rfl (by kernel_rfl) (by kernel_rfl) (by kernel_rfl) (Or.inl ⟨by rfl, ?_⟩) hHeld (fun hHeld => ?_)
  rotate_left
  · intro w hSw
    (try dsimp only at hSw)
    go_simp
    try with_reducible rfl
  try simp only [Act.put, List.setIfInBounds_toArray, List.set_cons_zero, List.set_cons_succ]
  refine wpAnyL_take 0 _ _ (i := 14) (oi := { dst := some 40, op := Op.move (Operand.tmp 9), type := 3, pos := "law.go:54", after := #[], guard := none }) (v := ?_) rfl (by kernel_rfl) (by kernel_rfl) (by kernel_rfl) (fun _ _ _ h => h) rfl (by kernel_rfl) (by kernel_rfl) (by kernel_rfl) (Or.inl ⟨by rfl, ?_⟩) hHeld (fun hHeld => ?_)
  rotate_left
  · intro w hSw
    (try dsimp only at hSw)
    go_simp
    try with_reducible rfl
  try simp only [Act.put, List.setIfInBounds_toArray, List.set_cons_zero, List.set_cons_succ]
  refine wpAnyL_take 0 _ _ (i := 15) (oi := { dst := some 41, op := Op.fieldAddr 76 (Operand.tmp 5) 8, type := 0, pos := "law.go:54", after := #[], guard := none }) (v := ?_) rfl (by kernel_rfl) (by kernel_rfl) (by kernel_rfl) (fun _ _ _ h => h) rfl (by kernel_rfl) (by kernel_rfl) (by kernel_rfl) (Or.inl ⟨by rfl, ?_⟩) hHeld (fun hHeld => ?_)
  rotate_left
  · intro w hSw
    (try dsimp only at hSw)
    go_simp
    try with_reducible rfl
  try simp only [Act.put, List.setIfInBounds_toArray, List.set_cons_zero, List.set_cons_succ]
  refine wpAnyL_take 1 _ _ (i := 1) (oi := { dst := some 27, op := Op.load 73 (Operand.tmp 26), type := 73, pos := "law.go:54", after := #[{ on := 0, ground := Ground.data }], guard := none }) (v := ?_) rfl (by kernel_rfl) (by kernel_rfl) (by kernel_rfl) (fun _ _ _ h => h) rfl (by kernel_rfl) (by kernel_rfl) (by kernel_rfl) (Or.inl ⟨by rfl, ?_⟩) hHeld (fun hHeld => ?_)
  rotate_left
  · intro w hSw
    (try dsimp only at hSw)
    obtain ⟨g0, g1, g2, g3, g4, g5, g6, g7, g8⟩ := hSw
    go_simp
    try with_reducible rfl
  try simp only [Act.put, List.setIfInBounds_toArray, List.set_cons_zero, List.set_cons_succ]
  refine wpAnyL_take 1 _ _ (i := 4) (oi := { dst := some 30, op := Op.load 4 (Operand.tmp 29), type := 4, pos := "law.go:54", after := #[{ on := 3, ground := Ground.data }], guard := none }) (v := ?_) rfl (by kernel_rfl) (by kernel_rfl) (by kernel_rfl) (fun _ _ _ h => h) rfl (by kernel_rfl) (by kernel_rfl) (by kernel_rfl) (Or.inl ⟨by rfl, ?_⟩) hHeld (fun hHeld => ?_)
  rotate_left
  · intro w hSw
    (try dsimp only at hSw)
    obtain ⟨g0, g1, g2, g3, g4, g5, g6, g7, g8⟩ := hSw
    go_simp
    try with_reducible rfl
  try simp only [Act.put, List.setIfInBounds_toArray, List.set_cons_zero, List.set_cons_succ]
  refine wpAnyL_take 1 _ _ (i := 7) (oi := { dst := some 33, op := Op.load 73 (Operand.tmp 32), type := 73, pos := "law.go:54", after := #[{ on := 6, ground := Ground.data }], guard := none }) (v := ?_) rfl (by kernel_rfl) (by kernel_rfl) (by kernel_rfl) (fun _ _ _ h => h) rfl (by kernel_rfl) (by kernel_rfl) (by kernel_rfl) (Or.inl ⟨by rfl, ?_⟩) hHeld (fun hHeld => ?_)
  rotate_left
  · intro w hSw
    (try dsimp only at hSw)
    obtain ⟨g0, g1, g2, g3, g4, g5, g6, g7, g8⟩ := hSw
    go_simp
    try with_reducible rfl
  try simp only [Act.put, List.setIfInBounds_toArray, List.set_cons_zero, List.set_cons_succ]
  refine wpAnyL_take 1 _ _ (i := 10) (oi := { dst := some 36, op := Op.load 4 (Operand.tmp 35), type := 4, pos := "law.go:54", after := #[{ on := 9, ground := Ground.data }], guard := none }) (v := ?_) rfl (by kernel_rfl) (by kernel_rfl) (by kernel_rfl) (fun _ _ _ h => h) rfl (by kernel_rfl) (by kernel_rfl) (by kernel_rfl) (Or.inl ⟨by rfl, ?_⟩) hHeld (fun hHeld => ?_)
  rotate_left
  · intro w hSw
    (try dsimp only at hSw)
    obtain ⟨g0, g1, g2, g3, g4, g5, g6, g7, g8⟩ := hSw
    go_simp
    try with_reducible rfl
  try simp only [Act.put, List.setIfInBounds_toArray, List.set_cons_zero, List.set_cons_succ]
  refine wpAnyL_take 1 _ _ (i := 13) (oi := { dst := some 39, op := Op.load 73 (Operand.tmp 38), type := 73, pos := "law.go:54", after := #[{ on := 12, ground := Ground.data }], guard := none }) (v := ?_) rfl (by kernel_rfl) (by kernel_rfl) (by kernel_rfl) (fun _ _ _ h => h) rfl (by kernel_rfl) (by kernel_rfl) (by kernel_rfl) (Or.inl ⟨by rfl, ?_⟩) hHeld (fun hHeld => ?_)
  rotate_left
  · intro w hSw
    (try dsimp only at hSw)
    obtain ⟨g0, g1, g2, g3, g4, g5, g6, g7, g8⟩ := hSw
    go_simp
    try with_reducible rfl
  try simp only [Act.put, List.setIfInBounds_toArray, List.set_cons_zero, List.set_cons_succ]
  refine wpAnyL_take 1 _ _ (i := 16) (oi := { dst := some 42, op := Op.load 4 (Operand.tmp 41), type := 4, pos := "law.go:54", after := #[{ on := 15, ground := Ground.data }], guard := none }) (v := ?_) rfl (by kernel_rfl) (by kernel_rfl) (by kernel_rfl) (fun _ _ _ h => h) rfl (by kernel_rfl) (by kernel_rfl) (by kernel_rfl) (Or.inl ⟨by rfl, ?_⟩) hHeld (fun hHeld => ?_)
  rotate_left
  · intro w hSw
    (try dsimp only at hSw)
    obtain ⟨g0, g1, g2, g3, g4, g5, g6, g7, g8⟩ := hSw
    go_simp
    try with_reducible rfl
  try simp only [Act.put, List.setIfInBounds_toArray, List.set_cons_zero, List.set_cons_succ]
  refine wpAnyL_ready (rs := [5]) (by kernel_rfl) (by simp) ?_
  refine AllReadyL.cons (o := { dst := some 31, op := Op.call { callee := Callee.value (Operand.func 38), args := #[Operand.tmp 27, Operand.tmp 28, Operand.tmp 30], argTypes := #[73, 3, 4] }, type := 73, pos := "law.go:54", after := #[{ on := 1, ground := Ground.data }, { on := 2, ground := Ground.data }, { on := 4, ground := Ground.data }], guard := none }) rfl (fun K hK => ?_) AllReadyL.nil
  go_simp
  go_at_call 38
  refine (near_any A N.length Md hN _).mono ?_
  rintro e w9 ⟨rfl, hw⟩
  obtain rfl := hw.symm
  refine hK.out _ _ (SL.cons (fun _ => trivial) (SL.cons (fun _ => ⟨k0, k1, k2, k3, k4, k5, k6, k7, k8⟩) SL.nil)) (fun hHeld => ?_)
  clear hK K
  try simp only [Act.put, List.setIfInBounds_toArray, List.set_cons_zero, List.set_cons_succ]
  refine wpAnyL_ready (rs := [11]) (by kernel_rfl) (by simp) ?_
  refine AllReadyL.cons (o := { dst := some 37, op := Op.call { callee := Callee.value (Operand.func 38), args := #[Operand.tmp 33, Operand.tmp 34, Operand.tmp 36], argTypes := #[73, 3, 4] }, type := 73, pos := "law.go:54", after := #[{ on := 7, ground := Ground.data }, { on := 8, ground := Ground.data }, { on := 10, ground := Ground.data }, { on := 5, ground := Ground.chain }], guard := none }) rfl (fun K hK => ?_) AllReadyL.nil
  go_simp
  go_at_call 38
  refine (near_any B N.length Md hN _).mono ?_
  rintro e w9 ⟨rfl, hw⟩
  obtain rfl := hw.symm
  refine hK.out _ _ (SL.cons (fun _ => trivial) (SL.cons (fun _ => ⟨k0, k1, k2, k3, k4, k5, k6, k7, k8⟩) SL.nil)) (fun hHeld => ?_)
  clear hK K
  try simp only [Act.put, List.setIfInBounds_toArray, List.set_cons_zero, List.set_cons_succ]
  refine wpAnyL_ready (rs := [17]) (by kernel_rfl) (by simp) ?_
  refine AllReadyL.cons (o := { dst := some 43, op := Op.call { callee := Callee.value (Operand.func 38), args := #[Operand.tmp 39, Operand.tmp 40, Operand.tmp 42], argTypes := #[73, 3, 4] }, type := 73, pos := "law.go:54", after := #[{ on := 13, ground := Ground.data }, { on := 14, ground := Ground.data }, { on := 16, ground := Ground.data }, { on := 11, ground := Ground.chain }], guard := none }) rfl (fun K hK => ?_) AllReadyL.nil
  go_simp
  go_at_call 38
  refine (near_any C N.length Md hN _).mono ?_
  rintro e w9 ⟨rfl, hw⟩
  obtain rfl := hw.symm
  refine hK.out _ _ (SL.cons (fun _ => trivial) (SL.cons (fun _ => ⟨k0, k1, k2, k3, k4, k5, k6, k7, k8⟩) SL.nil)) (fun hHeld => ?_)
  clear hK K
  try simp only [Act.put, List.setIfInBounds_toArray, List.set_cons_zero, List.set_cons_succ]
  refine wpAnyL_take 0 _ _ (i := 18) (oi := { dst := some 10, op := Op.assign (Operand.tmp 31), type := 73, pos := "law.go:54", after := #[{ on := 5, ground := Ground.data }, { on := 17, ground := Ground.chain }, { on := 0, ground := Ground.phase }, { on := 1, ground := Ground.phase }, { on := 2, ground := Ground.phase }, { on := 3, ground := Ground.phase }, { on := 4, ground := Ground.phase }, { on := 5, ground := Ground.phase }, { on := 6, ground := Ground.textOnly Departure.lateStores }, { on := 7, ground := Ground.textOnly Departure.lateStores }, { on := 8, ground := Ground.textOnly Departure.lateStores }, { on := 9, ground := Ground.textOnly Departure.lateStores }, { on := 10, ground := Ground.textOnly Departure.lateStores }, { on := 11, ground := Ground.textOnly Departure.lateStoresUnsure }, { on := 12, ground := Ground.textOnly Departure.lateStores }, { on := 13, ground := Ground.textOnly Departure.lateStores }, { on := 14, ground := Ground.textOnly Departure.lateStores }, { on := 15, ground := Ground.textOnly Departure.lateStores }, { on := 16, ground := Ground.textOnly Departure.lateStores }, { on := 17, ground := Ground.textOnly Departure.lateStoresUnsure }], guard := none }) (v := ?_) rfl (by kernel_rfl) (by kernel_rfl) (by kernel_rfl) (fun _ _ _ h => h) rfl (by kernel_rfl) (by kernel_rfl) (by kernel_rfl) (Or.inl ⟨by rfl, ?_⟩) hHeld (fun hHeld => ?_)
  rotate_left
  · intro w hSw
    (try dsimp only at hSw)
    go_simp
    try with_reducible rfl
  try simp only [Act.put, List.setIfInBounds_toArray, List.set_cons_zero, List.set_cons_succ]
  refine wpAnyL_take 0 _ _ (i := 19) (oi := { dst := some 11, op := Op.assign (Operand.tmp 37), type := 73, pos := "law.go:54", after := #[{ on := 11, ground := Ground.data }, { on := 18, ground := Ground.chain }, { on := 0, ground := Ground.phase }, { on := 1, ground := Ground.phase }, { on := 2, ground := Ground.phase }, { on := 3, ground := Ground.phase }, { on := 4, ground := Ground.phase }, { on := 5, ground := Ground.phase }, { on := 6, ground := Ground.phase }, { on := 7, ground := Ground.phase }, { on := 8, ground := Ground.phase }, { on := 9, ground := Ground.phase }, { on := 10, ground := Ground.phase }, { on := 11, ground := Ground.phase }, { on := 12, ground := Ground.textOnly Departure.lateStores }, { on := 13, ground := Ground.textOnly Departure.lateStores }, { on := 14, ground := Ground.textOnly Departure.lateStores }, { on := 15, ground := Ground.textOnly Departure.lateStores }, { on := 16, ground := Ground.textOnly Departure.lateStores }, { on := 17, ground := Ground.textOnly Departure.lateStoresUnsure }, { on := 18, ground := Ground.phase }], guard := none }) (v := ?_) rfl (by kernel_rfl) (by kernel_rfl) (by kernel_rfl) (fun _ _ _ h => h) rfl (by kernel_rfl) (by kernel_rfl) (by kernel_rfl) (Or.inl ⟨by rfl, ?_⟩) hHeld (fun hHeld => ?_)
  rotate_left
  · intro w hSw
    (try dsimp only at hSw)
    go_simp
    try with_reducible rfl
  try simp only [Act.put, List.setIfInBounds_toArray, List.set_cons_zero, List.set_cons_succ]
  refine wpAnyL_take 0 _ _ (i := 20) (oi := { dst := some 12, op := Op.assign (Operand.tmp 43), type := 73, pos := "law.go:54", after := #[{ on := 17, ground := Ground.data }, { on := 19, ground := Ground.chain }, { on := 0, ground := Ground.phase }, { on := 1, ground := Ground.phase }, { on := 2, ground := Ground.phase }, { on := 3, ground := Ground.phase }, { on := 4, ground := Ground.phase }, { on := 5, ground := Ground.phase }, { on := 6, ground := Ground.phase }, { on := 7, ground := Ground.phase }, { on := 8, ground := Ground.phase }, { on := 9, ground := Ground.phase }, { on := 10, ground := Ground.phase }, { on := 11, ground := Ground.phase }, { on := 12, ground := Ground.phase }, { on := 13, ground := Ground.phase }, { on := 14, ground := Ground.phase }, { on := 15, ground := Ground.phase }, { on := 16, ground := Ground.phase }, { on := 17, ground := Ground.phase }, { on := 18, ground := Ground.phase }, { on := 19, ground := Ground.phase }], guard := none }) (v := ?_) rfl (by kernel_rfl) (by kernel_rfl) (by kernel_rfl) (fun _ _ _ h => h) rfl (by kernel_rfl) (by kernel_rfl) (by kernel_rfl) (Or.inl ⟨by rfl, ?_⟩) hHeld (fun hHeld => ?_)
  rotate_left
  · intro w hSw
    (try dsimp only at hSw)
    go_simp
    try with_reducible rfl
  try simp only [Act.put, List.setIfInBounds_toArray, List.set_cons_zero, List.set_cons_succ]
  refine wpAnyL_done (by kernel_rfl) ?_ _
  clear hHeld k0'
  obtain ⟨a1, ha1⟩ : ∃ x, x = nearV A N.length Md := ⟨_, rfl⟩
  obtain ⟨b1, hb1⟩ : ∃ x, x = nearV B N.length Md := ⟨_, rfl⟩
  obtain ⟨c1, hc1⟩ : ∃ x, x = nearV C N.length Md := ⟨_, rfl⟩
  rw [← ha1, ← hb1, ← hc1]
  obtain ⟨U, hU⟩ : ∃ U : Nat → Int, U = fun i => nearV (V i) N.length Md := ⟨_, rfl⟩
  have HUI := Lib.hid (show ∀ i, i < L → nearV (V i) N.length Md = U i from fun i _ => by rw [hU])
  have HCL := Lib.hid (show clOf ⟨kd, A, B, C, P, L, Cp, V, F, S, M, Md⟩ T.nodes.length = ⟨kd, a1, b1, c1, L, U, F, S, M⟩ by unfold clOf; rw [HNT.out, ha1, hb1, hc1, hU])
  clear ha1 hb1 hc1 hU
  go_wp2_with fail
  go_loopw [13, 14] (fun v i wr => ∃ (k : Nat) (p : Option Addr) (z : Nat), k ≤ L ∧ v = .slice p k z ∧ i = .int .i64 k ∧ Below w2.heap.size w2 wr ∧ wr.ownsRow w2.heap.size 73 1 (.slice p k z) k (rowV k U)) (fun _ i _ => L - (intOf i).toNat)
  case atStart => exact ⟨0, none, 0, Nat.zero_le _, rfl, rfl, Below.refl _ _, ⟨by simp [rowV], .inl ⟨rfl, rfl⟩⟩⟩
  case round =>
    obtain ⟨k, p, z, hk, rfl, rfl, hbr, hown⟩ := hrel
    have HBR := Lib.hid hbr
    have HOW := Lib.hid hown
    replace k0 := cell_later hbr k0
    replace k1 := cell_later hbr k1
    replace k2 := cell_later hbr k2
    replace k3 := cell_later hbr k3
    replace k4 := cell_later hbr k4
    replace k5 := cell_later hbr k5
    replace k6 := cell_later hbr k6
    replace k7 := cell_later hbr k7
    replace k8 := cell_later hbr k8
    have H3 := Lib.hid (H2.out.later hbr)
    have HX3 := Lib.hid (HX2.out.later hbr)
    have hbr2 := hbr.size
    clear hbr hown
    by_cases hlt : k < L
    · obtain ⟨b, off, rfl, ha⟩ := HX3.out (by omega)
      have ck := ha k hlt
      have hbl : b < w2.heap.size := by
        obtain ⟨b', off', e', ha'⟩ := HX2.out (by omega)
        cases e'
        exact World.block_lt_of_cell? _ _ (ha' k hlt)
      have hk0 : (0 : Int) ≤ (k : Int) := by omega
      have hk1 : (k : Int) < (L : Int) := by omega
      have HN1 := near_any (V k) N.length Md hN
      rw [HUI.out k hlt] at HN1
      have HSN := Lib.hid (rowV_snoc k U)
      have HVK := Lib.hid (show I64 (V k) from HO.out.V k hlt)
      clear ha
      generalize V k = vk at *
      obtain ⟨uk, huk⟩ : ∃ x, x = U k := ⟨_, rfl⟩
      rw [← huk] at HN1 HSN
      clear huk
      go_wp2_with fail
      have hD : Below wr.heap.size wr wr.drew := (Below.refl _ _).drew
      replace ck := cell_later hD ck
      replace k0 := cell_later hD k0
      replace k1 := cell_later hD k1
      replace k2 := cell_later hD k2
      replace k3 := cell_later hD k3
      replace k4 := cell_later hD k4
      replace k5 := cell_later hD k5
      replace k6 := cell_later hD k6
      replace k7 := cell_later hD k7
      replace k8 := cell_later hD k8
      have HBD := Lib.hid (HBR.out.trans (hD.mono hbr2))
      have HOD := Lib.hid (own_later HOW.out hD)
      clear hD HBR HOW H3 HX3
      refine wp_region_L [(1000, (fun _ => True : World → Prop)), (1000, (fun w => w.cell? ⟨bb, 0, none⟩ = some (.int .i64 kd) ∧ w.cell? ⟨bb, 1, none⟩ = some (.int .i64 A) ∧ w.cell? ⟨bb, 2, none⟩ = some (.int .i64 B) ∧ w.cell? ⟨bb, 3, none⟩ = some (.int .i64 C) ∧ w.cell? ⟨bb, 4, none⟩ = some (.slice (some ⟨b, off, none⟩) L Cp) ∧ w.cell? ⟨bb, 5, none⟩ = some (.int .i64 F) ∧ w.cell? ⟨bb, 6, none⟩ = some (.int .i64 S) ∧ w.cell? ⟨bb, 7, none⟩ = some (.int .i64 M) ∧ w.cell? ⟨bb, 8, none⟩ = some (.bool Md) : World → Prop)), (1000, (fun w => w.cell? ⟨b, off + k, none⟩ = some (.int .i64 vk) : World → Prop))] (by kernel_rfl) (SL.cons (fun _ => trivial) (SL.cons (fun _ => ⟨k0, k1, k2, k3, k4, k5, k6, k7, k8⟩) (SL.cons (fun _ => ck) SL.nil))) (fun hHeld => ?_)
      generalize wr.drew = w4 at *
      refine wpAnyL_take 0 _ _ (i := 0) (oi := { dst := some 51, op := Op.move (Operand.tmp 13), type := 74, pos := "law.go:57", after := #[], guard := none }) (v := ?_) rfl (by kernel_rfl) (by kernel_rfl) (by kernel_rfl) (fun _ _ _ h => h) rfl (by kernel_rfl) (by kernel_rfl) (by kernel_rfl) (Or.inl ⟨by rfl, ?_⟩) hHeld (fun hHeld => ?_)
      rotate_left
      · intro w hSw
        (try dsimp only at hSw)
        go_simp
        try with_reducible rfl
      try simp only [Act.put, List.setIfInBounds_toArray, List.set_cons_zero, List.set_cons_succ]
      refine wpAnyL_take 0 _ _ (i := 1) (oi := { dst := some 52, op := Op.fieldAddr 76 (Operand.tmp 5) 4, type := 0, pos := "law.go:57", after := #[], guard := none }) (v := ?_) rfl (by kernel_rfl) (by kernel_rfl) (by kernel_rfl) (fun _ _ _ h => h) rfl (by kernel_rfl) (by kernel_rfl) (by kernel_rfl) (Or.inl ⟨by rfl, ?_⟩) hHeld (fun hHeld => ?_)
      rotate_left
      · intro w hSw
        (try dsimp only at hSw)
        go_simp
        try with_reducible rfl
      try simp only [Act.put, List.setIfInBounds_toArray, List.set_cons_zero, List.set_cons_succ]
      refine wpAnyL_take 0 _ _ (i := 3) (oi := { dst := some 54, op := Op.move (Operand.tmp 14), type := 3, pos := "law.go:57", after := #[], guard := none }) (v := ?_) rfl (by kernel_rfl) (by kernel_rfl) (by kernel_rfl) (fun _ _ _ h => h) rfl (by kernel_rfl) (by kernel_rfl) (by kernel_rfl) (Or.inl ⟨by rfl, ?_⟩) hHeld (fun hHeld => ?_)
      rotate_left
      · intro w hSw
        (try dsimp only at hSw)
        go_simp
        try with_reducible rfl
      try simp only [Act.put, List.setIfInBounds_toArray, List.set_cons_zero, List.set_cons_succ]
      refine wpAnyL_take 0 _ _ (i := 6) (oi := { dst := some 57, op := Op.move (Operand.tmp 9), type := 3, pos := "law.go:57", after := #[], guard := none }) (v := ?_) rfl (by kernel_rfl) (by kernel_rfl) (by kernel_rfl) (fun _ _ _ h => h) rfl (by kernel_rfl) (by kernel_rfl) (by kernel_rfl) (Or.inl ⟨by rfl, ?_⟩) hHeld (fun hHeld => ?_)
      rotate_left
      · intro w hSw
        (try dsimp only at hSw)
        go_simp
        try with_reducible rfl
      try simp only [Act.put, List.setIfInBounds_toArray, List.set_cons_zero, List.set_cons_succ]
      refine wpAnyL_take 0 _ _ (i := 7) (oi := { dst := some 58, op := Op.fieldAddr 76 (Operand.tmp 5) 8, type := 0, pos := "law.go:57", after := #[], guard := none }) (v := ?_) rfl (by kernel_rfl) (by kernel_rfl) (by kernel_rfl) (fun _ _ _ h => h) rfl (by kernel_rfl) (by kernel_rfl) (by kernel_rfl) (Or.inl ⟨by rfl, ?_⟩) hHeld (fun hHeld => ?_)
      rotate_left
      · intro w hSw
        (try dsimp only at hSw)
        go_simp
        try with_reducible rfl
      try simp only [Act.put, List.setIfInBounds_toArray, List.set_cons_zero, List.set_cons_succ]
      refine wpAnyL_take 1 _ _ (i := 2) (oi := { dst := some 53, op := Op.load 74 (Operand.tmp 52), type := 74, pos := "law.go:57", after := #[{ on := 1, ground := Ground.data }], guard := none }) (v := ?_) rfl (by kernel_rfl) (by kernel_rfl) (by kernel_rfl) (fun _ _ _ h => h) rfl (by kernel_rfl) (by kernel_rfl) (by kernel_rfl) (Or.inl ⟨by rfl, ?_⟩) hHeld (fun hHeld => ?_)
      rotate_left
      · intro w hSw
        (try dsimp only at hSw)
        obtain ⟨g0, g1, g2, g3, g4, g5, g6, g7, g8⟩ := hSw
        go_simp
        try with_reducible rfl
      try simp only [Act.put, List.setIfInBounds_toArray, List.set_cons_zero, List.set_cons_succ]
      refine wpAnyL_take 1 _ _ (i := 8) (oi := { dst := some 59, op := Op.load 4 (Operand.tmp 58), type := 4, pos := "law.go:57", after := #[{ on := 7, ground := Ground.data }], guard := none }) (v := ?_) rfl (by kernel_rfl) (by kernel_rfl) (by kernel_rfl) (fun _ _ _ h => h) rfl (by kernel_rfl) (by kernel_rfl) (by kernel_rfl) (Or.inl ⟨by rfl, ?_⟩) hHeld (fun hHeld => ?_)
      rotate_left
      · intro w hSw
        (try dsimp only at hSw)
        obtain ⟨g0, g1, g2, g3, g4, g5, g6, g7, g8⟩ := hSw
        go_simp
        try with_reducible rfl
      try simp only [Act.put, List.setIfInBounds_toArray, List.set_cons_zero, List.set_cons_succ]
      refine wpAnyL_take 0 _ _ (i := 4) (oi := { dst := some 55, op := Op.indexAddr 74 (Operand.tmp 53) (Operand.tmp 54), type := 0, pos := "law.go:57", after := #[{ on := 2, ground := Ground.data }, { on := 3, ground := Ground.data }], guard := none }) (v := ?_) rfl (by kernel_rfl) (by kernel_rfl) (by kernel_rfl) (fun _ _ _ h => h) rfl (by kernel_rfl) (by kernel_rfl) (by kernel_rfl) (Or.inl ⟨by rfl, ?_⟩) hHeld (fun hHeld => ?_)
      rotate_left
      · intro w hSw
        (try dsimp only at hSw)
        go_simp
        try with_reducible rfl
      try simp only [Act.put, List.setIfInBounds_toArray, List.set_cons_zero, List.set_cons_succ]
      refine wpAnyL_take 2 _ _ (i := 5) (oi := { dst := some 56, op := Op.load 73 (Operand.tmp 55), type := 73, pos := "law.go:57", after := #[{ on := 4, ground := Ground.data }], guard := none }) (v := ?_) rfl (by kernel_rfl) (by kernel_rfl) (by kernel_rfl) (fun _ _ _ h => h) rfl (by kernel_rfl) (by kernel_rfl) (by kernel_rfl) (Or.inl ⟨by rfl, ?_⟩) hHeld (fun hHeld => ?_)
      rotate_left
      · intro w hSw
        (try dsimp only at hSw)
        go_simp
        try with_reducible rfl
      try simp only [Act.put, List.setIfInBounds_toArray, List.set_cons_zero, List.set_cons_succ]
      refine wpAnyL_ready (rs := [9]) (by kernel_rfl) (by simp) ?_
      refine AllReadyL.cons (o := { dst := some 60, op := Op.call { callee := Callee.value (Operand.func 38), args := #[Operand.tmp 56, Operand.tmp 57, Operand.tmp 59], argTypes := #[73, 3, 4] }, type := 73, pos := "law.go:57", after := #[{ on := 5, ground := Ground.data }, { on := 6, ground := Ground.data }, { on := 8, ground := Ground.data }], guard := none }) rfl (fun K hK => ?_) AllReadyL.nil
      go_simp
      go_at_call 38
      refine (HN1 _).mono ?_
      rintro e w9 ⟨rfl, hw⟩
      obtain rfl := hw.symm
      refine hK.out _ _ (SL.cons (fun _ => trivial) (SL.cons (fun _ => ⟨k0, k1, k2, k3, k4, k5, k6, k7, k8⟩) (SL.cons (fun _ => ck) SL.nil))) (fun hHeld => ?_)
      clear hK K
      try simp only [Act.put, List.setIfInBounds_toArray, List.set_cons_zero, List.set_cons_succ]
      refine wpAnyL_ready (rs := [10]) (by kernel_rfl) (by simp) ?_
      refine AllReadyL.cons (o := { dst := some 61, op := Op.buildSlice 74 1 #[(0, Operand.tmp 60)], type := 74, pos := "law.go:57", after := #[{ on := 9, ground := Ground.data }], guard := none }) rfl (fun K hK => ?_) AllReadyL.nil
      go_simp
      refine hK.out _ _ (SL.cons (fun _ => trivial) (SL.cons (fun _ => ⟨cell_later (below1 w4 _) k0, cell_later (below1 w4 _) k1, cell_later (below1 w4 _) k2, cell_later (below1 w4 _) k3, cell_later (below1 w4 _) k4, cell_later (below1 w4 _) k5, cell_later (below1 w4 _) k6, cell_later (below1 w4 _) k7, cell_later (below1 w4 _) k8⟩) (SL.cons (fun _ => cell_later (below1 w4 _) ck) SL.nil))) (fun hHeld => ?_)
      clear hK K
      try simp only [Act.put, List.setIfInBounds_toArray, List.set_cons_zero, List.set_cons_succ]
      have hb8 := below1 w4 (.cells #[.int .i64 uk] 73)
      replace k0 := cell_later hb8 k0
      replace k1 := cell_later hb8 k1
      replace k2 := cell_later hb8 k2
      replace k3 := cell_later hb8 k3
      replace k4 := cell_later hb8 k4
      replace k5 := cell_later hb8 k5
      replace k6 := cell_later hb8 k6
      replace k7 := cell_later hb8 k7
      replace k8 := cell_later hb8 k8
      replace ck := cell_later hb8 ck
      have HB8 := Lib.hid (HBD.out.trans (hb8.mono HBD.out.size))
      have HO8 := Lib.hid (own_later HOD.out hb8)
      have n0 : (w4.alloc (.cells #[.int .i64 uk] 73)).cell? ⟨w4.heap.size, 0, none⟩ = some (.int .i64 uk) := by simp [go_sem]
      have hbs4 : w2.heap.size ≤ (w4.alloc (.cells #[.int .i64 uk] 73)).heap.size := HB8.out.size
      clear hb8 hHeld
      refine wpAnyL_ready (rs := [11]) (by kernel_rfl) (by simp) ?_
      refine AllReadyL.cons (o := { dst := some 62, op := Op.call { callee := Callee.builtin Builtin.append, args := #[Operand.tmp 51, Operand.tmp 61], argTypes := #[74, 74] }, type := 74, pos := "law.go:57", after := #[{ on := 0, ground := Ground.data }, { on := 10, ground := Ground.data }, { on := 9, ground := Ground.chain }], guard := none }) rfl (fun KK hK => ?_) AllReadyL.nil
      rw [if_pos (by rfl)]
      refine wp_append_own_at _ _ 74 (by rfl) w2.heap.size 73 i73 (.int .i64 0) 1 8 Try.underlying74 hi73 hz730 hz731 hz732 rfl (by omega) _ k (rowV k U) (by rfl) HO8.out ⟨w4.heap.size, 0, none⟩ 1 1 [.int .i64 uk] (by rfl) (by rfl) ?_ ?_ ?_ ?_ ?_ ?_
      · intro jj u hjj
        rw [Lib.add_plain]
        match jj, hjj with
        | 0, hjj => cases hjj; exact n0
      · intro u hu; simp at hu; subst hu; rfl
      · have hml : maxLen = 9223372036854775807 := rfl; omega
      · omega
      · exact hbs4
      intro v9 w9 hown hgrow hnil_ hloc
      obtain ⟨p9, c9, hv⟩ := own_shape hown
      subst hv
      clear hnil_ hloc
      rw [HSN.out] at hown
      have hbg : Below w2.heap.size (w4.alloc (.cells #[.int .i64 uk] 73)) w9 := (Below.refl _ _).grown hgrow hbs4 (fun k hk => (own_lt HO8.out hk).1)
      have HB9 := Lib.hid (HB8.out.trans hbg)
      have HO9 := Lib.hid hown
      replace k0 := keepc hbg k0 hbs
      replace k1 := keepc hbg k1 hbs
      replace k2 := keepc hbg k2 hbs
      replace k3 := keepc hbg k3 hbs
      replace k4 := keepc hbg k4 hbs
      replace k5 := keepc hbg k5 hbs
      replace k6 := keepc hbg k6 hbs
      replace k7 := keepc hbg k7 hbs
      replace k8 := keepc hbg k8 hbs
      replace ck := keepc hbg ck hbl
      clear hown hgrow hbg n0
      refine hK.out _ _ (SL.cons (fun _ => trivial) (SL.cons (fun _ => ⟨k0, k1, k2, k3, k4, k5, k6, k7, k8⟩) (SL.cons (fun _ => ck) SL.nil))) (fun hHeld => ?_)
      clear hK KK
      try simp only [Act.put, List.setIfInBounds_toArray, List.set_cons_zero, List.set_cons_succ]
      refine wpAnyL_take 0 _ _ (i := 12) (oi := { dst := some 13, op := Op.assign (Operand.tmp 62), type := 74, pos := "law.go:57", after := #[{ on := 11, ground := Ground.data }, { on := 11, ground := Ground.chain }, { on := 0, ground := Ground.phase }, { on := 1, ground := Ground.phase }, { on := 2, ground := Ground.phase }, { on := 3, ground := Ground.phase }, { on := 4, ground := Ground.phase }, { on := 5, ground := Ground.phase }, { on := 6, ground := Ground.phase }, { on := 7, ground := Ground.phase }, { on := 8, ground := Ground.phase }, { on := 9, ground := Ground.phase }, { on := 10, ground := Ground.phase }, { on := 11, ground := Ground.phase }], guard := none }) (v := ?_) rfl (by kernel_rfl) (by kernel_rfl) (by kernel_rfl) (fun _ _ _ h => h) rfl (by kernel_rfl) (by kernel_rfl) (by kernel_rfl) (Or.inl ⟨by rfl, ?_⟩) hHeld (fun hHeld => ?_)
      rotate_left
      · intro w hSw
        (try dsimp only at hSw)
        go_simp
        try with_reducible rfl
      try simp only [Act.put, List.setIfInBounds_toArray, List.set_cons_zero, List.set_cons_succ]
      refine wpAnyL_done (by kernel_rfl) ?_ _
      clear hHeld
      go_wp2_with fail
      go_roundw
      case rel => exact ⟨k + 1, p9, c9, by omega, rfl, by go_num, HB9.out, HO9.out⟩
      case measure => simp [intOf]; omega
    · obtain rfl : k = L := by omega
      have HZN := Lib.hid (own_none HOW.out)
      have HI3 := Lib.hid (own_ints HOW.out)
      have HR3 := Lib.hid (row_new H2.out.st.fr (Nat.le_refl _) HOW.out)
      have hx0 := below1 wr (.cells #[] 73)
      have HXA := Lib.hid (HI3.out.later hx0)
      have HBA := Lib.hid hx0
      have HU6 := Lib.hid HUI.out
      clear hx0 HX3 HX2
      go_wp2_with (at_builtin; refine wpList_append_any rfl _ _ 74 rfl wr.heap.size 73 i73 (.int .i64 0) 1 8 Try.underlying74 hi73 hz730 hz731 hz732 rfl (by omega) _ _ _ rfl (World.ownsRow_made wr #[] 0 (Nat.le_refl _) (Nat.zero_le _) (by simp)) p k z (rowV k U) rfl HZN.out ?qc2 (ints_cells HXA.out) ?qc3 ?qc4 ?qc5 ?qc6 ?_)
      case qc2 => rw [rowV_len]; omega
      case qc3 => intro u hu; obtain ⟨x, _, rfl⟩ := List.mem_map.1 hu; rfl
      case qc4 => have hml : maxLen = 9223372036854775807 := rfl; omega
      case qc5 => omega
      case qc6 => simp
      intro v6 w6 hown6 hb6
      have hb6' : Below wr.heap.size wr w6 := HBA.out.trans hb6

      obtain ⟨p6, z6, hv6, _⟩ := own_shp hown6
      subst hv6
      have HTW := Lib.hid (H3.out.later hb6')
      have HRO := Lib.hid (row_new (K := K) H3.out.st.fr (Nat.le_refl _) hown6)
      have HI6 := Lib.hid (own_ints hown6)
      have HIL := Lib.hid (HI3.out.later hb6')
      have HRL := Lib.hid (HR3.out.only (Only.of_below (T := fun _ => False) hb6') (Ext.refl K _) (fun _ _ h => h))
      have HZL := Lib.hid HZN.out
      have HS7 : ∀ {w7 : World} {K7 : Nat → Nat}, StepZ w6 w7 K K7 → IntsIn w7 p k U := fun {w7 K7} s => own_ints (row_stepZ HRL.out s).own
      have HQ6 := Lib.hid (show ∀ g, p6 = some g → W.heap.size ≤ g.block from fun g e => by
        have h1 := (own_lt hown6 (k := g.block) (by rw [e]; rfl)).1
        have := HBE.out
        omega)
      have HBW := Lib.hid (show Below W.heap.size W w6 by rw [HBE.out]; exact HB2.out.trans ((HBR.out.trans (hb6'.mono hbr2)).mono (by omega)))
      have hKb : K bb = 0 := H0.out.st.fr _ (by rw [HBE.out]; exact Nat.le_refl _)
      replace k0 := cell_later hb6' k0
      replace k1 := cell_later hb6' k1
      replace k2 := cell_later hb6' k2
      replace k3 := cell_later hb6' k3
      replace k4 := cell_later hb6' k4
      replace k5 := cell_later hb6' k5
      replace k6 := cell_later hb6' k6
      replace k7 := cell_later hb6' k7
      replace k8 := cell_later hb6' k8
      clear hown6 hb6 hb6' H3 HBR HOW HI3 HR3 HBA HXA HZN hbr2 H2 HB2 hlt hk hbs
      have hK1 : kd = 0 ∨ kd = 1 ∨ kd = 2 ∨ kd = 3 ∨ kd = 4 ∨ kd = 5 ∨ kd = 6 ∨ kd = 7 ∨ kd = 8 ∨ (kd ≠ 0 ∧ kd ≠ 1 ∧ kd ≠ 2 ∧ kd ≠ 3 ∧ kd ≠ 4 ∧ kd ≠ 5 ∧ kd ≠ 6 ∧ kd ≠ 7 ∧ kd ≠ 8) := by omega
      have HIO := Lib.hid (show I64 F ∧ I64 S ∧ I64 M from ⟨HO.out.f, HO.out.s, HO.out.n⟩)
      have hRQ : ∀ (q : Req), reqOf (view T.nodes) ⟨kd, a1, b1, c1, k, U, F, S, M⟩ = q → reqOf (view T.nodes) (clOf ⟨kd, A, B, C, P, k, Cp, V, F, S, M, Md⟩ T.nodes.length) = q := fun q hq => by rw [HCL.out]; exact hq
      have HRQ := Lib.hid hRQ
      clear hRQ HCL HO HUI HU6
      rcases hK1 with rfl | rfl | rfl | rfl | rfl | rfl | rfl | rfl | rfl | ⟨n0, n1, n2, n3, n4, n5, n6, n7, n8⟩
      · have HC := not_run HTW.out.st HTW.out.g (by have := HTW.out.l3; omega) a1
        go_wp2_with fail
        refine HC.mono ?_
        rintro e w7 ⟨K7, T7, t, er, rfl, st7, g7, s7, a7⟩
        have HRR := rnot_run (HTW.out.rf.step s7 st7.fr st7.lo) HTW.out.gN HTW.out.lN a1
        have HANS := Lib.hid a7
        have HST := Lib.hid (And.intro st7 (And.intro g7 s7))
        have HRO7 := Lib.hid (row_stepZ HRO.out s7.z)
        have hK7 : K7 bb = 0 := by rw [s7.ext bb (World.block_lt_of_cell? _ _ k0)]; exact hKb
        replace k0 := s7.z.keep k0 hKb
        replace k1 := s7.z.keep k1 hKb
        replace k2 := s7.z.keep k2 hKb
        replace k3 := s7.z.keep k3 hKb
        replace k4 := s7.z.keep k4 hKb
        replace k5 := s7.z.keep k5 hKb
        replace k6 := s7.z.keep k6 hKb
        replace k7 := s7.z.keep k7 hKb
        replace k8 := s7.z.keep k8 hKb
        (try rw [HTW.out.vw] at HRR)
        clear a7 st7 g7 s7 HC
        go_wp2_with fail
        refine HRR.mono ?_
        rintro e w8 ⟨K8, N8, t2, er2, rfl, r8, s8, a8⟩
        obtain ⟨e1, e2, tw8, z8⟩ := HTW.out.pair HST.out.1 HST.out.2.1 HST.out.2.2 HANS.out r8 s8 a8
        obtain rfl := e1.symm
        obtain rfl := e2.symm
        have HLP := Lib.hid (show RowAt w8 K8 0 73 1 (.slice p6 k z6) k (rowV k U) ∧ Two w8 K8 base c r T7 N8 ∧ StepZ W w8 K K8 from ⟨row_stepZ HRO7.out s8.z, tw8, (StepZ.below HBW.out).trans z8⟩)
        clear r8 s8 a8 tw8 z8 HRR HST HRO7
        go_wp2_with fail
        go_loopw [20] (fun i wr => ∃ (j : Nat) (xs : List Value), j ≤ k ∧ i = .int .i64 j ∧ RowAt wr K8 0 73 1 (.slice p6 k z6) k xs ∧ Two wr K8 base c r T7 N8 ∧ StepZ W wr K K8) (fun i _ => k - (intOf i).toNat)
        case atStart => exact ⟨0, _, Nat.zero_le _, rfl, HLP.out⟩
        case round =>
          obtain ⟨j, xs, hj, rfl, hrow, htw, hz⟩ := hrel
          by_cases hlt : j < k
          · obtain ⟨q, z4, e4⟩ := own_some hrow.own (by omega)
            cases e4
            have hxl : xs.length = k := by have := hrow.own.1; omega
            have cq := own_cell hrow.own j xs[j] (List.getElem?_eq_getElem (by omega))
            have hq := HQ6.out _ rfl
            simp only at hq
            have kq := hrow.tg q rfl
            have hk0 : (0 : Int) ≤ (j : Int) := by omega
            have hk1 : (j : Int) < (k : Int) := by omega
            obtain ⟨cq1, cq2⟩ := cq
            have ho : Only (fun i => i = q) wr (wr.setCell ⟨q, j, none⟩ (.int .i64 0)) := Only.of_setCell wr ⟨q, j, none⟩ _
            have HN := Lib.hid (show RowAt (wr.setCell ⟨q, j, none⟩ (.int .i64 0)) K8 0 73 1 (.slice (some ⟨q, 0, none⟩) k z6) k (xs.set j (.int .i64 0)) ∧ Two (wr.setCell ⟨q, j, none⟩ (.int .i64 0)) K8 base c r T7 N8 ∧ StepZ W (wr.setCell ⟨q, j, none⟩ (.int .i64 0)) K K8 from
              ⟨row_setZ hrow j _, htw.only ho (fun i h1 e => h1 (by rw [show i = q from e]; exact kq)), ⟨hz.only.comp ho (fun _ _ h => h) (fun i hi e => by have e2 : i = q := e; omega), hz.ext⟩⟩)
            generalize xs[j] = xk at *
            clear hrow htw hz ho kq
            go_wp2_with fail
            go_roundw
            case rel => exact ⟨j + 1, _, by omega, by go_num, HN.out⟩
            case measure => simp [intOf]; omega
          · have HQ := Lib.hid (And.intro htw hz)
            clear hrow htw hz
            obtain rfl : j = k := by omega
            have e1 : (t == t) = true := by simp
            have e2 : (er == er) = true := by simp
            go_wp2_with fail
            go_ret3
            exact ⟨K8, T7, N8, _, _, rfl, HQ.out.1, HQ.out.2, by rw [HRQ.out _ (by unfold reqOf; simp only; rw [if_pos trivial])]; exact HANS.out⟩
      · have HC := and_run HTW.out.st HTW.out.g (by have := HTW.out.l3; omega) p6 k z6 U HI6.out (by omega)
        go_wp2_with fail
        refine HC.mono ?_
        rintro e w7 ⟨K7, T7, t, er, rfl, st7, g7, s7, a7⟩
        have HRR := rand_run (HTW.out.rf.step s7 st7.fr st7.lo) HTW.out.gN HTW.out.lN p k z U (HS7 s7.z) (by omega) HZL.out
        have HANS := Lib.hid a7
        have HST := Lib.hid (And.intro st7 (And.intro g7 s7))
        have HRO7 := Lib.hid (row_stepZ HRO.out s7.z)
        have hK7 : K7 bb = 0 := by rw [s7.ext bb (World.block_lt_of_cell? _ _ k0)]; exact hKb
        replace k0 := s7.z.keep k0 hKb
        replace k1 := s7.z.keep k1 hKb
        replace k2 := s7.z.keep k2 hKb
        replace k3 := s7.z.keep k3 hKb
        replace k4 := s7.z.keep k4 hKb
        replace k5 := s7.z.keep k5 hKb
        replace k6 := s7.z.keep k6 hKb
        replace k7 := s7.z.keep k7 hKb
        replace k8 := s7.z.keep k8 hKb
        (try rw [HTW.out.vw] at HRR)
        clear a7 st7 g7 s7 HC
        go_wp2_with fail
        refine HRR.mono ?_
        rintro e w8 ⟨K8, N8, t2, er2, rfl, r8, s8, a8⟩
        obtain ⟨e1, e2, tw8, z8⟩ := HTW.out.pair HST.out.1 HST.out.2.1 HST.out.2.2 HANS.out r8 s8 a8
        obtain rfl := e1.symm
        obtain rfl := e2.symm
        have HLP := Lib.hid (show RowAt w8 K8 0 73 1 (.slice p6 k z6) k (rowV k U) ∧ Two w8 K8 base c r T7 N8 ∧ StepZ W w8 K K8 from ⟨row_stepZ HRO7.out s8.z, tw8, (StepZ.below HBW.out).trans z8⟩)
        clear r8 s8 a8 tw8 z8 HRR HST HRO7
        go_wp2_with fail
        go_loopw [20] (fun i wr => ∃ (j : Nat) (xs : List Value), j ≤ k ∧ i = .int .i64 j ∧ RowAt wr K8 0 73 1 (.slice p6 k z6) k xs ∧ Two wr K8 base c r T7 N8 ∧ StepZ W wr K K8) (fun i _ => k - (intOf i).toNat)
        case atStart => exact ⟨0, _, Nat.zero_le _, rfl, HLP.out⟩
        case round =>
          obtain ⟨j, xs, hj, rfl, hrow, htw, hz⟩ := hrel
          by_cases hlt : j < k
          · obtain ⟨q, z4, e4⟩ := own_some hrow.own (by omega)
            cases e4
            have hxl : xs.length = k := by have := hrow.own.1; omega
            have cq := own_cell hrow.own j xs[j] (List.getElem?_eq_getElem (by omega))
            have hq := HQ6.out _ rfl
            simp only at hq
            have kq := hrow.tg q rfl
            have hk0 : (0 : Int) ≤ (j : Int) := by omega
            have hk1 : (j : Int) < (k : Int) := by omega
            obtain ⟨cq1, cq2⟩ := cq
            have ho : Only (fun i => i = q) wr (wr.setCell ⟨q, j, none⟩ (.int .i64 0)) := Only.of_setCell wr ⟨q, j, none⟩ _
            have HN := Lib.hid (show RowAt (wr.setCell ⟨q, j, none⟩ (.int .i64 0)) K8 0 73 1 (.slice (some ⟨q, 0, none⟩) k z6) k (xs.set j (.int .i64 0)) ∧ Two (wr.setCell ⟨q, j, none⟩ (.int .i64 0)) K8 base c r T7 N8 ∧ StepZ W (wr.setCell ⟨q, j, none⟩ (.int .i64 0)) K K8 from
              ⟨row_setZ hrow j _, htw.only ho (fun i h1 e => h1 (by rw [show i = q from e]; exact kq)), ⟨hz.only.comp ho (fun _ _ h => h) (fun i hi e => by have e2 : i = q := e; omega), hz.ext⟩⟩)
            generalize xs[j] = xk at *
            clear hrow htw hz ho kq
            go_wp2_with fail
            go_roundw
            case rel => exact ⟨j + 1, _, by omega, by go_num, HN.out⟩
            case measure => simp [intOf]; omega
          · have HQ := Lib.hid (And.intro htw hz)
            clear hrow htw hz
            obtain rfl : j = k := by omega
            have e1 : (t == t) = true := by simp
            have e2 : (er == er) = true := by simp
            go_wp2_with fail
            go_ret3
            exact ⟨K8, T7, N8, _, _, rfl, HQ.out.1, HQ.out.2, by rw [HRQ.out _ (by unfold reqOf; simp only; rw [if_neg (by decide), if_pos trivial])]; exact HANS.out⟩
      · have HC := or_run HTW.out.st HTW.out.g (by have := HTW.out.l3; omega) p6 k z6 U HI6.out (by omega)
        go_wp2_with fail
        refine HC.mono ?_
        rintro e w7 ⟨K7, T7, t, er, rfl, st7, g7, s7, a7⟩
        have HRR := ror_run (HTW.out.rf.step s7 st7.fr st7.lo) HTW.out.gN HTW.out.lN p k z U (HS7 s7.z) (by omega) HZL.out
        have HANS := Lib.hid a7
        have HST := Lib.hid (And.intro st7 (And.intro g7 s7))
        have HRO7 := Lib.hid (row_stepZ HRO.out s7.z)
        have hK7 : K7 bb = 0 := by rw [s7.ext bb (World.block_lt_of_cell? _ _ k0)]; exact hKb
        replace k0 := s7.z.keep k0 hKb
        replace k1 := s7.z.keep k1 hKb
        replace k2 := s7.z.keep k2 hKb
        replace k3 := s7.z.keep k3 hKb
        replace k4 := s7.z.keep k4 hKb
        replace k5 := s7.z.keep k5 hKb
        replace k6 := s7.z.keep k6 hKb
        replace k7 := s7.z.keep k7 hKb
        replace k8 := s7.z.keep k8 hKb
        (try rw [HTW.out.vw] at HRR)
        clear a7 st7 g7 s7 HC
        go_wp2_with fail
        refine HRR.mono ?_
        rintro e w8 ⟨K8, N8, t2, er2, rfl, r8, s8, a8⟩
        obtain ⟨e1, e2, tw8, z8⟩ := HTW.out.pair HST.out.1 HST.out.2.1 HST.out.2.2 HANS.out r8 s8 a8
        obtain rfl := e1.symm
        obtain rfl := e2.symm
        have HLP := Lib.hid (show RowAt w8 K8 0 73 1 (.slice p6 k z6) k (rowV k U) ∧ Two w8 K8 base c r T7 N8 ∧ StepZ W w8 K K8 from ⟨row_stepZ HRO7.out s8.z, tw8, (StepZ.below HBW.out).trans z8⟩)
        clear r8 s8 a8 tw8 z8 HRR HST HRO7
        go_wp2_with fail
        go_loopw [20] (fun i wr => ∃ (j : Nat) (xs : List Value), j ≤ k ∧ i = .int .i64 j ∧ RowAt wr K8 0 73 1 (.slice p6 k z6) k xs ∧ Two wr K8 base c r T7 N8 ∧ StepZ W wr K K8) (fun i _ => k - (intOf i).toNat)
        case atStart => exact ⟨0, _, Nat.zero_le _, rfl, HLP.out⟩
        case round =>
          obtain ⟨j, xs, hj, rfl, hrow, htw, hz⟩ := hrel
          by_cases hlt : j < k
          · obtain ⟨q, z4, e4⟩ := own_some hrow.own (by omega)
            cases e4
            have hxl : xs.length = k := by have := hrow.own.1; omega
            have cq := own_cell hrow.own j xs[j] (List.getElem?_eq_getElem (by omega))
            have hq := HQ6.out _ rfl
            simp only at hq
            have kq := hrow.tg q rfl
            have hk0 : (0 : Int) ≤ (j : Int) := by omega
            have hk1 : (j : Int) < (k : Int) := by omega
            obtain ⟨cq1, cq2⟩ := cq
            have ho : Only (fun i => i = q) wr (wr.setCell ⟨q, j, none⟩ (.int .i64 0)) := Only.of_setCell wr ⟨q, j, none⟩ _
            have HN := Lib.hid (show RowAt (wr.setCell ⟨q, j, none⟩ (.int .i64 0)) K8 0 73 1 (.slice (some ⟨q, 0, none⟩) k z6) k (xs.set j (.int .i64 0)) ∧ Two (wr.setCell ⟨q, j, none⟩ (.int .i64 0)) K8 base c r T7 N8 ∧ StepZ W (wr.setCell ⟨q, j, none⟩ (.int .i64 0)) K K8 from
              ⟨row_setZ hrow j _, htw.only ho (fun i h1 e => h1 (by rw [show i = q from e]; exact kq)), ⟨hz.only.comp ho (fun _ _ h => h) (fun i hi e => by have e2 : i = q := e; omega), hz.ext⟩⟩)
            generalize xs[j] = xk at *
            clear hrow htw hz ho kq
            go_wp2_with fail
            go_roundw
            case rel => exact ⟨j + 1, _, by omega, by go_num, HN.out⟩
            case measure => simp [intOf]; omega
          · have HQ := Lib.hid (And.intro htw hz)
            clear hrow htw hz
            obtain rfl : j = k := by omega
            have e1 : (t == t) = true := by simp
            have e2 : (er == er) = true := by simp
            go_wp2_with fail
            go_ret3
            exact ⟨K8, T7, N8, _, _, rfl, HQ.out.1, HQ.out.2, by rw [HRQ.out _ (by unfold reqOf; simp only; rw [if_neg (by decide), if_neg (by decide), if_pos trivial])]; exact HANS.out⟩
      · have HC := eq_run HTW.out.st HTW.out.g (by have := HTW.out.l3; omega) a1 b1
        go_wp2_with fail
        refine HC.mono ?_
        rintro e w7 ⟨K7, T7, t, er, rfl, st7, g7, s7, a7⟩
        have HRR := req_run (HTW.out.rf.step s7 st7.fr st7.lo) HTW.out.gN HTW.out.lN a1 b1
        have HANS := Lib.hid a7
        have HST := Lib.hid (And.intro st7 (And.intro g7 s7))
        have HRO7 := Lib.hid (row_stepZ HRO.out s7.z)
        have hK7 : K7 bb = 0 := by rw [s7.ext bb (World.block_lt_of_cell? _ _ k0)]; exact hKb
        replace k0 := s7.z.keep k0 hKb
        replace k1 := s7.z.keep k1 hKb
        replace k2 := s7.z.keep k2 hKb
        replace k3 := s7.z.keep k3 hKb
        replace k4 := s7.z.keep k4 hKb
        replace k5 := s7.z.keep k5 hKb
        replace k6 := s7.z.keep k6 hKb
        replace k7 := s7.z.keep k7 hKb
        replace k8 := s7.z.keep k8 hKb
        (try rw [HTW.out.vw] at HRR)
        clear a7 st7 g7 s7 HC
        go_wp2_with fail
        refine HRR.mono ?_
        rintro e w8 ⟨K8, N8, t2, er2, rfl, r8, s8, a8⟩
        obtain ⟨e1, e2, tw8, z8⟩ := HTW.out.pair HST.out.1 HST.out.2.1 HST.out.2.2 HANS.out r8 s8 a8
        obtain rfl := e1.symm
        obtain rfl := e2.symm
        have HLP := Lib.hid (show RowAt w8 K8 0 73 1 (.slice p6 k z6) k (rowV k U) ∧ Two w8 K8 base c r T7 N8 ∧ StepZ W w8 K K8 from ⟨row_stepZ HRO7.out s8.z, tw8, (StepZ.below HBW.out).trans z8⟩)
        clear r8 s8 a8 tw8 z8 HRR HST HRO7
        go_wp2_with fail
        go_loopw [20] (fun i wr => ∃ (j : Nat) (xs : List Value), j ≤ k ∧ i = .int .i64 j ∧ RowAt wr K8 0 73 1 (.slice p6 k z6) k xs ∧ Two wr K8 base c r T7 N8 ∧ StepZ W wr K K8) (fun i _ => k - (intOf i).toNat)
        case atStart => exact ⟨0, _, Nat.zero_le _, rfl, HLP.out⟩
        case round =>
          obtain ⟨j, xs, hj, rfl, hrow, htw, hz⟩ := hrel
          by_cases hlt : j < k
          · obtain ⟨q, z4, e4⟩ := own_some hrow.own (by omega)
            cases e4
            have hxl : xs.length = k := by have := hrow.own.1; omega
            have cq := own_cell hrow.own j xs[j] (List.getElem?_eq_getElem (by omega))
            have hq := HQ6.out _ rfl
            simp only at hq
            have kq := hrow.tg q rfl
            have hk0 : (0 : Int) ≤ (j : Int) := by omega
            have hk1 : (j : Int) < (k : Int) := by omega
            obtain ⟨cq1, cq2⟩ := cq
            have ho : Only (fun i => i = q) wr (wr.setCell ⟨q, j, none⟩ (.int .i64 0)) := Only.of_setCell wr ⟨q, j, none⟩ _
            have HN := Lib.hid (show RowAt (wr.setCell ⟨q, j, none⟩ (.int .i64 0)) K8 0 73 1 (.slice (some ⟨q, 0, none⟩) k z6) k (xs.set j (.int .i64 0)) ∧ Two (wr.setCell ⟨q, j, none⟩ (.int .i64 0)) K8 base c r T7 N8 ∧ StepZ W (wr.setCell ⟨q, j, none⟩ (.int .i64 0)) K K8 from
              ⟨row_setZ hrow j _, htw.only ho (fun i h1 e => h1 (by rw [show i = q from e]; exact kq)), ⟨hz.only.comp ho (fun _ _ h => h) (fun i hi e => by have e2 : i = q := e; omega), hz.ext⟩⟩)
            generalize xs[j] = xk at *
            clear hrow htw hz ho kq
            go_wp2_with fail
            go_roundw
            case rel => exact ⟨j + 1, _, by omega, by go_num, HN.out⟩
            case measure => simp [intOf]; omega
          · have HQ := Lib.hid (And.intro htw hz)
            clear hrow htw hz
            obtain rfl : j = k := by omega
            have e1 : (t == t) = true := by simp
            have e2 : (er == er) = true := by simp
            go_wp2_with fail
            go_ret3
            exact ⟨K8, T7, N8, _, _, rfl, HQ.out.1, HQ.out.2, by rw [HRQ.out _ (by unfold reqOf; simp only; rw [if_neg (by decide), if_neg (by decide), if_neg (by decide), if_pos trivial])]; exact HANS.out⟩
      · have HC := ite_run HTW.out.st HTW.out.g (by have := HTW.out.l3; omega) a1 b1 c1
        go_wp2_with fail
        refine HC.mono ?_
        rintro e w7 ⟨K7, T7, t, er, rfl, st7, g7, s7, a7⟩
        have HRR := rite_run (HTW.out.rf.step s7 st7.fr st7.lo) HTW.out.gN HTW.out.lN a1 b1 c1
        have HANS := Lib.hid a7
        have HST := Lib.hid (And.intro st7 (And.intro g7 s7))
        have HRO7 := Lib.hid (row_stepZ HRO.out s7.z)
        have hK7 : K7 bb = 0 := by rw [s7.ext bb (World.block_lt_of_cell? _ _ k0)]; exact hKb
        replace k0 := s7.z.keep k0 hKb
        replace k1 := s7.z.keep k1 hKb
        replace k2 := s7.z.keep k2 hKb
        replace k3 := s7.z.keep k3 hKb
        replace k4 := s7.z.keep k4 hKb
        replace k5 := s7.z.keep k5 hKb
        replace k6 := s7.z.keep k6 hKb
        replace k7 := s7.z.keep k7 hKb
        replace k8 := s7.z.keep k8 hKb
        (try rw [HTW.out.vw] at HRR)
        clear a7 st7 g7 s7 HC
        go_wp2_with fail
        refine HRR.mono ?_
        rintro e w8 ⟨K8, N8, t2, er2, rfl, r8, s8, a8⟩
        obtain ⟨e1, e2, tw8, z8⟩ := HTW.out.pair HST.out.1 HST.out.2.1 HST.out.2.2 HANS.out r8 s8 a8
        obtain rfl := e1.symm
        obtain rfl := e2.symm
        have HLP := Lib.hid (show RowAt w8 K8 0 73 1 (.slice p6 k z6) k (rowV k U) ∧ Two w8 K8 base c r T7 N8 ∧ StepZ W w8 K K8 from ⟨row_stepZ HRO7.out s8.z, tw8, (StepZ.below HBW.out).trans z8⟩)
        clear r8 s8 a8 tw8 z8 HRR HST HRO7
        go_wp2_with fail
        go_loopw [20] (fun i wr => ∃ (j : Nat) (xs : List Value), j ≤ k ∧ i = .int .i64 j ∧ RowAt wr K8 0 73 1 (.slice p6 k z6) k xs ∧ Two wr K8 base c r T7 N8 ∧ StepZ W wr K K8) (fun i _ => k - (intOf i).toNat)
        case atStart => exact ⟨0, _, Nat.zero_le _, rfl, HLP.out⟩
        case round =>
          obtain ⟨j, xs, hj, rfl, hrow, htw, hz⟩ := hrel
          by_cases hlt : j < k
          · obtain ⟨q, z4, e4⟩ := own_some hrow.own (by omega)
            cases e4
            have hxl : xs.length = k := by have := hrow.own.1; omega
            have cq := own_cell hrow.own j xs[j] (List.getElem?_eq_getElem (by omega))
            have hq := HQ6.out _ rfl
            simp only at hq
            have kq := hrow.tg q rfl
            have hk0 : (0 : Int) ≤ (j : Int) := by omega
            have hk1 : (j : Int) < (k : Int) := by omega
            obtain ⟨cq1, cq2⟩ := cq
            have ho : Only (fun i => i = q) wr (wr.setCell ⟨q, j, none⟩ (.int .i64 0)) := Only.of_setCell wr ⟨q, j, none⟩ _
            have HN := Lib.hid (show RowAt (wr.setCell ⟨q, j, none⟩ (.int .i64 0)) K8 0 73 1 (.slice (some ⟨q, 0, none⟩) k z6) k (xs.set j (.int .i64 0)) ∧ Two (wr.setCell ⟨q, j, none⟩ (.int .i64 0)) K8 base c r T7 N8 ∧ StepZ W (wr.setCell ⟨q, j, none⟩ (.int .i64 0)) K K8 from
              ⟨row_setZ hrow j _, htw.only ho (fun i h1 e => h1 (by rw [show i = q from e]; exact kq)), ⟨hz.only.comp ho (fun _ _ h => h) (fun i hi e => by have e2 : i = q := e; omega), hz.ext⟩⟩)
            generalize xs[j] = xk at *
            clear hrow htw hz ho kq
            go_wp2_with fail
            go_roundw
            case rel => exact ⟨j + 1, _, by omega, by go_num, HN.out⟩
            case measure => simp [intOf]; omega
          · have HQ := Lib.hid (And.intro htw hz)
            clear hrow htw hz
            obtain rfl : j = k := by omega
            have e1 : (t == t) = true := by simp
            have e2 : (er == er) = true := by simp
            go_wp2_with fail
            go_ret3
            exact ⟨K8, T7, N8, _, _, rfl, HQ.out.1, HQ.out.2, by rw [HRQ.out _ (by unfold reqOf; simp only; rw [if_neg (by decide), if_neg (by decide), if_neg (by decide), if_neg (by decide), if_pos trivial])]; exact HANS.out⟩
      · have HC := app_run HTW.out.st HTW.out.g (by have := HTW.out.l3; omega) F S HIO.out.1 HIO.out.2.1 p6 k z6 U HI6.out (by omega)
        go_wp2_with fail
        refine HC.mono ?_
        rintro e w7 ⟨K7, T7, t, er, rfl, st7, g7, s7, a7⟩
        have HRR := rapp_run (HTW.out.rf.step s7 st7.fr st7.lo) HTW.out.gN HTW.out.lN F S p k z U (HS7 s7.z) (by omega) HZL.out
        have HANS := Lib.hid a7
        have HST := Lib.hid (And.intro st7 (And.intro g7 s7))
        have HRO7 := Lib.hid (row_stepZ HRO.out s7.z)
        have hK7 : K7 bb = 0 := by rw [s7.ext bb (World.block_lt_of_cell? _ _ k0)]; exact hKb
        replace k0 := s7.z.keep k0 hKb
        replace k1 := s7.z.keep k1 hKb
        replace k2 := s7.z.keep k2 hKb
        replace k3 := s7.z.keep k3 hKb
        replace k4 := s7.z.keep k4 hKb
        replace k5 := s7.z.keep k5 hKb
        replace k6 := s7.z.keep k6 hKb
        replace k7 := s7.z.keep k7 hKb
        replace k8 := s7.z.keep k8 hKb
        (try rw [HTW.out.vw] at HRR)
        clear a7 st7 g7 s7 HC
        go_wp2_with fail
        refine HRR.mono ?_
        rintro e w8 ⟨K8, N8, t2, er2, rfl, r8, s8, a8⟩
        obtain ⟨e1, e2, tw8, z8⟩ := HTW.out.pair HST.out.1 HST.out.2.1 HST.out.2.2 HANS.out r8 s8 a8
        obtain rfl := e1.symm
        obtain rfl := e2.symm
        have HLP := Lib.hid (show RowAt w8 K8 0 73 1 (.slice p6 k z6) k (rowV k U) ∧ Two w8 K8 base c r T7 N8 ∧ StepZ W w8 K K8 from ⟨row_stepZ HRO7.out s8.z, tw8, (StepZ.below HBW.out).trans z8⟩)
        clear r8 s8 a8 tw8 z8 HRR HST HRO7
        go_wp2_with fail
        go_loopw [20] (fun i wr => ∃ (j : Nat) (xs : List Value), j ≤ k ∧ i = .int .i64 j ∧ RowAt wr K8 0 73 1 (.slice p6 k z6) k xs ∧ Two wr K8 base c r T7 N8 ∧ StepZ W wr K K8) (fun i _ => k - (intOf i).toNat)
        case atStart => exact ⟨0, _, Nat.zero_le _, rfl, HLP.out⟩
        case round =>
          obtain ⟨j, xs, hj, rfl, hrow, htw, hz⟩ := hrel
          by_cases hlt : j < k
          · obtain ⟨q, z4, e4⟩ := own_some hrow.own (by omega)
            cases e4
            have hxl : xs.length = k := by have := hrow.own.1; omega
            have cq := own_cell hrow.own j xs[j] (List.getElem?_eq_getElem (by omega))
            have hq := HQ6.out _ rfl
            simp only at hq
            have kq := hrow.tg q rfl
            have hk0 : (0 : Int) ≤ (j : Int) := by omega
            have hk1 : (j : Int) < (k : Int) := by omega
            obtain ⟨cq1, cq2⟩ := cq
            have ho : Only (fun i => i = q) wr (wr.setCell ⟨q, j, none⟩ (.int .i64 0)) := Only.of_setCell wr ⟨q, j, none⟩ _
            have HN := Lib.hid (show RowAt (wr.setCell ⟨q, j, none⟩ (.int .i64 0)) K8 0 73 1 (.slice (some ⟨q, 0, none⟩) k z6) k (xs.set j (.int .i64 0)) ∧ Two (wr.setCell ⟨q, j, none⟩ (.int .i64 0)) K8 base c r T7 N8 ∧ StepZ W (wr.setCell ⟨q, j, none⟩ (.int .i64 0)) K K8 from
              ⟨row_setZ hrow j _, htw.only ho (fun i h1 e => h1 (by rw [show i = q from e]; exact kq)), ⟨hz.only.comp ho (fun _ _ h => h) (fun i hi e => by have e2 : i = q := e; omega), hz.ext⟩⟩)
            generalize xs[j] = xk at *
            clear hrow htw hz ho kq
            go_wp2_with fail
            go_roundw
            case rel => exact ⟨j + 1, _, by omega, by go_num, HN.out⟩
            case measure => simp [intOf]; omega
          · have HQ := Lib.hid (And.intro htw hz)
            clear hrow htw hz
            obtain rfl : j = k := by omega
            have e1 : (t == t) = true := by simp
            have e2 : (er == er) = true := by simp
            go_wp2_with fail
            go_ret3
            exact ⟨K8, T7, N8, _, _, rfl, HQ.out.1, HQ.out.2, by rw [HRQ.out _ (by unfold reqOf; simp only; rw [if_neg (by decide), if_neg (by decide), if_neg (by decide), if_neg (by decide), if_neg (by decide), if_pos trivial])]; exact HANS.out⟩
      · have HC := num_run HTW.out.st HTW.out.g (by have := HTW.out.l3; omega) M HIO.out.2.2
        go_wp2_with fail
        refine HC.mono ?_
        rintro e w7 ⟨K7, T7, t, er, rfl, st7, g7, s7, a7⟩
        have HRR := rnum_run (HTW.out.rf.step s7 st7.fr st7.lo) HTW.out.gN HTW.out.lN M
        have HANS := Lib.hid a7
        have HST := Lib.hid (And.intro st7 (And.intro g7 s7))
        have HRO7 := Lib.hid (row_stepZ HRO.out s7.z)
        have hK7 : K7 bb = 0 := by rw [s7.ext bb (World.block_lt_of_cell? _ _ k0)]; exact hKb
        replace k0 := s7.z.keep k0 hKb
        replace k1 := s7.z.keep k1 hKb
        replace k2 := s7.z.keep k2 hKb
        replace k3 := s7.z.keep k3 hKb
        replace k4 := s7.z.keep k4 hKb
        replace k5 := s7.z.keep k5 hKb
        replace k6 := s7.z.keep k6 hKb
        replace k7 := s7.z.keep k7 hKb
        replace k8 := s7.z.keep k8 hKb
        (try rw [HTW.out.vw] at HRR)
        clear a7 st7 g7 s7 HC
        go_wp2_with fail
        refine HRR.mono ?_
        rintro e w8 ⟨K8, N8, t2, er2, rfl, r8, s8, a8⟩
        obtain ⟨e1, e2, tw8, z8⟩ := HTW.out.pair HST.out.1 HST.out.2.1 HST.out.2.2 HANS.out r8 s8 a8
        obtain rfl := e1.symm
        obtain rfl := e2.symm
        have HLP := Lib.hid (show RowAt w8 K8 0 73 1 (.slice p6 k z6) k (rowV k U) ∧ Two w8 K8 base c r T7 N8 ∧ StepZ W w8 K K8 from ⟨row_stepZ HRO7.out s8.z, tw8, (StepZ.below HBW.out).trans z8⟩)
        clear r8 s8 a8 tw8 z8 HRR HST HRO7
        go_wp2_with fail
        go_loopw [20] (fun i wr => ∃ (j : Nat) (xs : List Value), j ≤ k ∧ i = .int .i64 j ∧ RowAt wr K8 0 73 1 (.slice p6 k z6) k xs ∧ Two wr K8 base c r T7 N8 ∧ StepZ W wr K K8) (fun i _ => k - (intOf i).toNat)
        case atStart => exact ⟨0, _, Nat.zero_le _, rfl, HLP.out⟩
        case round =>
          obtain ⟨j, xs, hj, rfl, hrow, htw, hz⟩ := hrel
          by_cases hlt : j < k
          · obtain ⟨q, z4, e4⟩ := own_some hrow.own (by omega)
            cases e4
            have hxl : xs.length = k := by have := hrow.own.1; omega
            have cq := own_cell hrow.own j xs[j] (List.getElem?_eq_getElem (by omega))
            have hq := HQ6.out _ rfl
            simp only at hq
            have kq := hrow.tg q rfl
            have hk0 : (0 : Int) ≤ (j : Int) := by omega
            have hk1 : (j : Int) < (k : Int) := by omega
            obtain ⟨cq1, cq2⟩ := cq
            have ho : Only (fun i => i = q) wr (wr.setCell ⟨q, j, none⟩ (.int .i64 0)) := Only.of_setCell wr ⟨q, j, none⟩ _
            have HN := Lib.hid (show RowAt (wr.setCell ⟨q, j, none⟩ (.int .i64 0)) K8 0 73 1 (.slice (some ⟨q, 0, none⟩) k z6) k (xs.set j (.int .i64 0)) ∧ Two (wr.setCell ⟨q, j, none⟩ (.int .i64 0)) K8 base c r T7 N8 ∧ StepZ W (wr.setCell ⟨q, j, none⟩ (.int .i64 0)) K K8 from
              ⟨row_setZ hrow j _, htw.only ho (fun i h1 e => h1 (by rw [show i = q from e]; exact kq)), ⟨hz.only.comp ho (fun _ _ h => h) (fun i hi e => by have e2 : i = q := e; omega), hz.ext⟩⟩)
            generalize xs[j] = xk at *
            clear hrow htw hz ho kq
            go_wp2_with fail
            go_roundw
            case rel => exact ⟨j + 1, _, by omega, by go_num, HN.out⟩
            case measure => simp [intOf]; omega
          · have HQ := Lib.hid (And.intro htw hz)
            clear hrow htw hz
            obtain rfl : j = k := by omega
            have e1 : (t == t) = true := by simp
            have e2 : (er == er) = true := by simp
            go_wp2_with fail
            go_ret3
            exact ⟨K8, T7, N8, _, _, rfl, HQ.out.1, HQ.out.2, by rw [HRQ.out _ (by unfold reqOf; simp only; rw [if_neg (by decide), if_neg (by decide), if_neg (by decide), if_neg (by decide), if_neg (by decide), if_neg (by decide), if_pos trivial])]; exact HANS.out⟩
      · have HC := plus_run HTW.out.st HTW.out.g (by have := HTW.out.l3; omega) a1 M HIO.out.2.2
        go_wp2_with fail
        refine HC.mono ?_
        rintro e w7 ⟨K7, T7, t, er, rfl, st7, g7, s7, a7⟩
        have HRR := rplus_run (HTW.out.rf.step s7 st7.fr st7.lo) HTW.out.gN HTW.out.lN a1 M HIO.out.2.2
        have HANS := Lib.hid a7
        have HST := Lib.hid (And.intro st7 (And.intro g7 s7))
        have HRO7 := Lib.hid (row_stepZ HRO.out s7.z)
        have hK7 : K7 bb = 0 := by rw [s7.ext bb (World.block_lt_of_cell? _ _ k0)]; exact hKb
        replace k0 := s7.z.keep k0 hKb
        replace k1 := s7.z.keep k1 hKb
        replace k2 := s7.z.keep k2 hKb
        replace k3 := s7.z.keep k3 hKb
        replace k4 := s7.z.keep k4 hKb
        replace k5 := s7.z.keep k5 hKb
        replace k6 := s7.z.keep k6 hKb
        replace k7 := s7.z.keep k7 hKb
        replace k8 := s7.z.keep k8 hKb
        (try rw [HTW.out.vw] at HRR)
        clear a7 st7 g7 s7 HC
        go_wp2_with fail
        refine HRR.mono ?_
        rintro e w8 ⟨K8, N8, t2, er2, rfl, r8, s8, a8⟩
        obtain ⟨e1, e2, tw8, z8⟩ := HTW.out.pair HST.out.1 HST.out.2.1 HST.out.2.2 HANS.out r8 s8 a8
        obtain rfl := e1.symm
        obtain rfl := e2.symm
        have HLP := Lib.hid (show RowAt w8 K8 0 73 1 (.slice p6 k z6) k (rowV k U) ∧ Two w8 K8 base c r T7 N8 ∧ StepZ W w8 K K8 from ⟨row_stepZ HRO7.out s8.z, tw8, (StepZ.below HBW.out).trans z8⟩)
        clear r8 s8 a8 tw8 z8 HRR HST HRO7
        go_wp2_with fail
        go_loopw [20] (fun i wr => ∃ (j : Nat) (xs : List Value), j ≤ k ∧ i = .int .i64 j ∧ RowAt wr K8 0 73 1 (.slice p6 k z6) k xs ∧ Two wr K8 base c r T7 N8 ∧ StepZ W wr K K8) (fun i _ => k - (intOf i).toNat)
        case atStart => exact ⟨0, _, Nat.zero_le _, rfl, HLP.out⟩
        case round =>
          obtain ⟨j, xs, hj, rfl, hrow, htw, hz⟩ := hrel
          by_cases hlt : j < k
          · obtain ⟨q, z4, e4⟩ := own_some hrow.own (by omega)
            cases e4
            have hxl : xs.length = k := by have := hrow.own.1; omega
            have cq := own_cell hrow.own j xs[j] (List.getElem?_eq_getElem (by omega))
            have hq := HQ6.out _ rfl
            simp only at hq
            have kq := hrow.tg q rfl
            have hk0 : (0 : Int) ≤ (j : Int) := by omega
            have hk1 : (j : Int) < (k : Int) := by omega
            obtain ⟨cq1, cq2⟩ := cq
            have ho : Only (fun i => i = q) wr (wr.setCell ⟨q, j, none⟩ (.int .i64 0)) := Only.of_setCell wr ⟨q, j, none⟩ _
            have HN := Lib.hid (show RowAt (wr.setCell ⟨q, j, none⟩ (.int .i64 0)) K8 0 73 1 (.slice (some ⟨q, 0, none⟩) k z6) k (xs.set j (.int .i64 0)) ∧ Two (wr.setCell ⟨q, j, none⟩ (.int .i64 0)) K8 base c r T7 N8 ∧ StepZ W (wr.setCell ⟨q, j, none⟩ (.int .i64 0)) K K8 from
              ⟨row_setZ hrow j _, htw.only ho (fun i h1 e => h1 (by rw [show i = q from e]; exact kq)), ⟨hz.only.comp ho (fun _ _ h => h) (fun i hi e => by have e2 : i = q := e; omega), hz.ext⟩⟩)
            generalize xs[j] = xk at *
            clear hrow htw hz ho kq
            go_wp2_with fail
            go_roundw
            case rel => exact ⟨j + 1, _, by omega, by go_num, HN.out⟩
            case measure => simp [intOf]; omega
          · have HQ := Lib.hid (And.intro htw hz)
            clear hrow htw hz
            obtain rfl : j = k := by omega
            have e1 : (t == t) = true := by simp
            have e2 : (er == er) = true := by simp
            go_wp2_with fail
            go_ret3
            exact ⟨K8, T7, N8, _, _, rfl, HQ.out.1, HQ.out.2, by rw [HRQ.out _ (by unfold reqOf; simp only; rw [if_neg (by decide), if_neg (by decide), if_neg (by decide), if_neg (by decide), if_neg (by decide), if_neg (by decide), if_neg (by decide), if_pos trivial])]; exact HANS.out⟩
      · have HC := le_run HTW.out.st HTW.out.g HTW.out.l3 a1 b1 M HIO.out.2.2
        go_wp2_with fail
        refine HC.mono ?_
        rintro e w7 ⟨K7, T7, t, er, rfl, st7, g7, s7, a7⟩
        have HRR := rle_run (HTW.out.rf.step s7 st7.fr st7.lo) HTW.out.gN HTW.out.lN a1 b1 M HIO.out.2.2
        have HANS := Lib.hid a7
        have HST := Lib.hid (And.intro st7 (And.intro g7 s7))
        have HRO7 := Lib.hid (row_stepZ HRO.out s7.z)
        have hK7 : K7 bb = 0 := by rw [s7.ext bb (World.block_lt_of_cell? _ _ k0)]; exact hKb
        replace k0 := s7.z.keep k0 hKb
        replace k1 := s7.z.keep k1 hKb
        replace k2 := s7.z.keep k2 hKb
        replace k3 := s7.z.keep k3 hKb
        replace k4 := s7.z.keep k4 hKb
        replace k5 := s7.z.keep k5 hKb
        replace k6 := s7.z.keep k6 hKb
        replace k7 := s7.z.keep k7 hKb
        replace k8 := s7.z.keep k8 hKb
        (try rw [HTW.out.vw] at HRR)
        clear a7 st7 g7 s7 HC
        go_wp2_with fail
        refine HRR.mono ?_
        rintro e w8 ⟨K8, N8, t2, er2, rfl, r8, s8, a8⟩
        obtain ⟨e1, e2, tw8, z8⟩ := HTW.out.pair HST.out.1 HST.out.2.1 HST.out.2.2 HANS.out r8 s8 a8
        obtain rfl := e1.symm
        obtain rfl := e2.symm
        have HLP := Lib.hid (show RowAt w8 K8 0 73 1 (.slice p6 k z6) k (rowV k U) ∧ Two w8 K8 base c r T7 N8 ∧ StepZ W w8 K K8 from ⟨row_stepZ HRO7.out s8.z, tw8, (StepZ.below HBW.out).trans z8⟩)
        clear r8 s8 a8 tw8 z8 HRR HST HRO7
        go_wp2_with fail
        go_loopw [20] (fun i wr => ∃ (j : Nat) (xs : List Value), j ≤ k ∧ i = .int .i64 j ∧ RowAt wr K8 0 73 1 (.slice p6 k z6) k xs ∧ Two wr K8 base c r T7 N8 ∧ StepZ W wr K K8) (fun i _ => k - (intOf i).toNat)
        case atStart => exact ⟨0, _, Nat.zero_le _, rfl, HLP.out⟩
        case round =>
          obtain ⟨j, xs, hj, rfl, hrow, htw, hz⟩ := hrel
          by_cases hlt : j < k
          · obtain ⟨q, z4, e4⟩ := own_some hrow.own (by omega)
            cases e4
            have hxl : xs.length = k := by have := hrow.own.1; omega
            have cq := own_cell hrow.own j xs[j] (List.getElem?_eq_getElem (by omega))
            have hq := HQ6.out _ rfl
            simp only at hq
            have kq := hrow.tg q rfl
            have hk0 : (0 : Int) ≤ (j : Int) := by omega
            have hk1 : (j : Int) < (k : Int) := by omega
            obtain ⟨cq1, cq2⟩ := cq
            have ho : Only (fun i => i = q) wr (wr.setCell ⟨q, j, none⟩ (.int .i64 0)) := Only.of_setCell wr ⟨q, j, none⟩ _
            have HN := Lib.hid (show RowAt (wr.setCell ⟨q, j, none⟩ (.int .i64 0)) K8 0 73 1 (.slice (some ⟨q, 0, none⟩) k z6) k (xs.set j (.int .i64 0)) ∧ Two (wr.setCell ⟨q, j, none⟩ (.int .i64 0)) K8 base c r T7 N8 ∧ StepZ W (wr.setCell ⟨q, j, none⟩ (.int .i64 0)) K K8 from
              ⟨row_setZ hrow j _, htw.only ho (fun i h1 e => h1 (by rw [show i = q from e]; exact kq)), ⟨hz.only.comp ho (fun _ _ h => h) (fun i hi e => by have e2 : i = q := e; omega), hz.ext⟩⟩)
            generalize xs[j] = xk at *
            clear hrow htw hz ho kq
            go_wp2_with fail
            go_roundw
            case rel => exact ⟨j + 1, _, by omega, by go_num, HN.out⟩
            case measure => simp [intOf]; omega
          · have HQ := Lib.hid (And.intro htw hz)
            clear hrow htw hz
            obtain rfl : j = k := by omega
            have e1 : (t == t) = true := by simp
            have e2 : (er == er) = true := by simp
            go_wp2_with fail
            go_ret3
            exact ⟨K8, T7, N8, _, _, rfl, HQ.out.1, HQ.out.2, by rw [HRQ.out _ (by unfold reqOf; simp only; rw [if_neg (by decide), if_neg (by decide), if_neg (by decide), if_neg (by decide), if_neg (by decide), if_neg (by decide), if_neg (by decide), if_neg (by decide), if_pos trivial])]; exact HANS.out⟩
      · have q0 : (kd == 0) = false := by simpa using n0
        have q1 : (kd == 1) = false := by simpa using n1
        have q2 : (kd == 2) = false := by simpa using n2
        have q3 : (kd == 3) = false := by simpa using n3
        have q4 : (kd == 4) = false := by simpa using n4
        have q5 : (kd == 5) = false := by simpa using n5
        have q6 : (kd == 6) = false := by simpa using n6
        have q7 : (kd == 7) = false := by simpa using n7
        have q8 : (kd == 8) = false := by simpa using n8
        have HLP := Lib.hid (show RowAt w6 K 0 73 1 (.slice p6 k z6) k (rowV k U) ∧ Two w6 K base c r T N ∧ StepZ W w6 K K from ⟨HRO.out, HTW.out, StepZ.below HBW.out⟩)
        have HANS := Lib.hid (show Ans T.nodes (.is 0) 0 0 T.nodes from ⟨rfl, rfl, rfl⟩)
        have HQQ := Lib.hid (show reqOf (view T.nodes) ⟨kd, a1, b1, c1, k, U, F, S, M⟩ = .is 0 by unfold reqOf; simp only; rw [if_neg n0, if_neg n1, if_neg n2, if_neg n3, if_neg n4, if_neg n5, if_neg n6, if_neg n7, if_neg n8])
        clear n0 n1 n2 n3 n4 n5 n6 n7 n8
        go_wp2_with fail
        go_loopw [20] (fun i wr => ∃ (j : Nat) (xs : List Value), j ≤ k ∧ i = .int .i64 j ∧ RowAt wr K 0 73 1 (.slice p6 k z6) k xs ∧ Two wr K base c r T N ∧ StepZ W wr K K) (fun i _ => k - (intOf i).toNat)
        case atStart => exact ⟨0, _, Nat.zero_le _, rfl, HLP.out⟩
        case round =>
          obtain ⟨j, xs, hj, rfl, hrow, htw, hz⟩ := hrel
          by_cases hlt : j < k
          · obtain ⟨q, z4, e4⟩ := own_some hrow.own (by omega)
            cases e4
            have hxl : xs.length = k := by have := hrow.own.1; omega
            have cq := own_cell hrow.own j xs[j] (List.getElem?_eq_getElem (by omega))
            have hq := HQ6.out _ rfl
            simp only at hq
            have kq := hrow.tg q rfl
            have hk0 : (0 : Int) ≤ (j : Int) := by omega
            have hk1 : (j : Int) < (k : Int) := by omega
            obtain ⟨cq1, cq2⟩ := cq
            have ho : Only (fun i => i = q) wr (wr.setCell ⟨q, j, none⟩ (.int .i64 0)) := Only.of_setCell wr ⟨q, j, none⟩ _
            have HN := Lib.hid (show RowAt (wr.setCell ⟨q, j, none⟩ (.int .i64 0)) K 0 73 1 (.slice (some ⟨q, 0, none⟩) k z6) k (xs.set j (.int .i64 0)) ∧ Two (wr.setCell ⟨q, j, none⟩ (.int .i64 0)) K base c r T N ∧ StepZ W (wr.setCell ⟨q, j, none⟩ (.int .i64 0)) K K from
              ⟨row_setZ hrow j _, htw.only ho (fun i h1 e => h1 (by rw [show i = q from e]; exact kq)), ⟨hz.only.comp ho (fun _ _ h => h) (fun i hi e => by have e2 : i = q := e; omega), hz.ext⟩⟩)
            generalize xs[j] = xk at *
            clear hrow htw hz ho kq
            go_wp2_with fail
            go_roundw
            case rel => exact ⟨j + 1, _, by omega, by go_num, HN.out⟩
            case measure => simp [intOf]; omega
          · have HQ := Lib.hid (And.intro htw hz)
            clear hrow htw hz
            obtain rfl : j = k := by omega
            go_wp2_with fail
            go_ret3
            exact ⟨K, T, N, _, _, rfl, HQ.out.1, HQ.out.2, by rw [HRQ.out _ HQQ.out]; exact HANS.out⟩
end Go.Proofs.Ytkjmmdffelhkiaa
