/- Push. -/
import Derived.Test.YtkjmmdffelhkiaaS8
import Derived.Test.YtkjmmdffelhkiaaDr
namespace Go.Proofs.Ytkjmmdffelhkiaa
open Go Go.RowKit Go.Maps

variable {W : World} {K : Nat → Nat} {base c : Nat} {T : Tab}
theorem info114 : ∃ i0, Try.prog.info? 114 = some i0 ∧ i0.zero = some (.agg #[.int .i64 0, .int .i64 0]) ∧ i0.size = 2 ∧ i0.bytes = 16 := info_of (by kernel_rfl)
def addP (T : Tab) : Tab := { T with scopes := T.scopes ++ [(T.sorts.length, T.funs.length)] }
theorem Good.addP (g : Good T) (hn : T.scopes.length < 200) : Good (addP T) := by
  refine ⟨g.g1, g.g2, g.g3, g.g4, ?_, fun p hp => ?_, g.b1, g.b2, ?_, g.b4, g.b5, g.b6, g.b7, g.b8, g.b9⟩
  · show (T.scopes ++ [_]).Pairwise _
    rw [List.pairwise_append]
    exact ⟨g.g5, by simp, fun a ha b hb => by obtain rfl := List.mem_singleton.1 hb; exact g.g6 a ha⟩
  · rcases List.mem_append.1 hp with hp | hp
    · exact g.g6 p hp
    · obtain rfl := List.mem_singleton.1 hp
      exact ⟨Nat.le_refl _, Nat.le_refl _⟩
  · show (T.scopes ++ [_]).length ≤ _
    rw [List.length_append]; simp; omega
theorem TabAt.pushP {W1 : World} {v' : Value} {p : Option Addr} {n z : Nat} (h : TabAt W K base c T) (h0 : W.cell? ⟨c, 6, none⟩ = some (.slice p n z)) (N : Nat × Nat) (own : W1.ownsRow 0 114 2 v' (T.scopes.length + 1) (flatP T.scopes ++ [nV N.1, nV N.2])) (hg : W.grownBy W1 (Value.slice p n z).ownBlock) (hloc : v'.ownBlock = (Value.slice p n z).ownBlock ∨ v'.ownBlock = some W.heap.size) :
    ∃ K', TabAt (W1.setCell ⟨c, 6, none⟩ v') K' base c { T with scopes := T.scopes ++ [N] } ∧ StepT W (W1.setCell ⟨c, 6, none⟩ v') K K' ∧ W1.cell? ⟨c, 6, none⟩ = some (.slice p n z) ∧ W1.frozen? ⟨c, 6, none⟩ = false := by
  obtain ⟨vs, m1, m2, ob, p0⟩ := h.ob
  have e0 := ob.1 6 (by omega)
  rw [h0] at e0
  injection e0 with e0
  have r0 := p0.r6
  rw [← e0] at r0
  obtain ⟨r, ho, hx, hf, hlo⟩ := r0.grow own hg hloc h.fr h.lo (Nat.le_trans h.base_lt (Nat.le_of_lt h.lt)) (by omega)
  have hc : ¬ K c = 8 := by rw [h.ka]; omega
  obtain ⟨a, b⟩ := h.put 6 8 (T' := { T with scopes := T.scopes ++ [N] }) (by omega) (by omega) v' ho hx hf hlo (fun vs1 m3 m4 q =>
    ⟨q.r0.only ho hx (fun k e => by omega), q.r1.only ho hx (fun k e => by omega), q.r2.only ho hx (fun k e => by omega), q.r3.only ho hx (fun k e => by omega), q.h4, q.h5, (hx _ q.q4.lt).trans q.k4, (hx _ q.q5.lt).trans q.k5, q.q4.only ho (by rw [q.k4]; omega), q.q5.only ho (by rw [q.k5]; omega), by simpa [upd, flatP_snoc] using r, fun i x hi => (q.ar i x hi).only h.fr ho hx (fun k e => by omega)⟩)
  exact ⟨_, a, b, ho.cell h0 hc, by rw [ho.frozen h.lt hc]; exact ob.2 6⟩
def PushP (T : Tab) (base c : Nat) (K : Nat → Nat) (W : World) (e : Ending) (w' : World) : Prop :=
  ∃ K' T' er, e = .returned (.int .i64 er) ∧ TabAt w' K' base c T' ∧ Good T' ∧ StepT W w' K K' ∧ ((er ≠ 0 ∧ T' = T ∧ 200 ≤ T.scopes.length) ∨ (er = 0 ∧ T.scopes.length < 200 ∧ T' = addP T))
set_option maxRecDepth 100000 in
set_option maxHeartbeats 4000000 in
theorem push_any (h : TabAt W K base c T) (g : Good T) :
    Calls Try.prog 19 #[.pointer (some ⟨c, 0, none⟩)] W (PushP T base c K W) := by
  have HR := ready_at h
  obtain ⟨p6, z6, x6, o6⟩ := h.row6
  obtain ⟨p2, z2, x2, o2_⟩ := h.row2
  obtain ⟨p3, z3, x3, o3_⟩ := h.row3
  have hn := g.b3
  have hn2 := g.b4
  have hn1 := g.b1
  have hn5 := g.b5
  have hn52 := g.b2
  obtain ⟨i0, hi, hz0, hz1, hz2⟩ := info114
  have H := Lib.hid h
  have HG := Lib.hid g
  clear h g o2_ o3_ o6
  go_enter Try.func19, Try.ntmps19
  go_wp2_with fail
  refine HR.mono ?_
  rintro e w1 ⟨rfl, rfl⟩
  by_cases h200 : 200 ≤ T.scopes.length
  · go_wp2_with fail
    go_ret
    exact ⟨K, T, _, rfl, H.out, HG.out, StepT.refl _ _, .inl ⟨by omega, rfl, h200⟩⟩
  clear HR
  go_wp2_with fail
  have hD : Below w1.heap.size w1 w1.drew := (Below.refl _ _).drew
  have HT2 := Lib.hid (H.out.later hD)
  have HD := Lib.hid hD
  replace x6 := cell_later hD x6
  replace x2 := cell_later hD x2
  replace x3 := cell_later hD x3
  clear hD
  refine wp_region_L [(1000, (fun _ => True : World → Prop)), (20, (fun w => w.cell? ⟨c, 6, none⟩ = some (.slice p6 T.scopes.length z6) : World → Prop)), (1000, (fun w => w.cell? ⟨c, 2, none⟩ = some (.slice p2 T.sorts.length z2) : World → Prop)), (1000, (fun w => w.cell? ⟨c, 3, none⟩ = some (.slice p3 T.funs.length z3) : World → Prop))] (by kernel_rfl) (SL.cons (fun _ => trivial) (SL.cons (fun _ => x6) (SL.cons (fun _ => x2) (SL.cons (fun _ => x3) SL.nil)))) (fun hHeld => ?_)
  generalize w1.drew = w2 at *
  refine wpAnyL_take 0 _ _ (i := 0) (oi := { dst := some 12, op := Op.move (Operand.tmp 0), type := 25, pos := "sorts.go:212", after := #[], guard := none }) (v := ?_) rfl (by kernel_rfl) (by kernel_rfl) (by kernel_rfl) (fun _ _ _ h => h) rfl (by kernel_rfl) (by kernel_rfl) (by kernel_rfl) (Or.inl ⟨by rfl, ?_⟩) hHeld (fun hHeld => ?_)
  rotate_left
  · intro w hSw
    (try dsimp only at hSw)
    go_simp
    try with_reducible rfl
  try simp only [Act.put, List.setIfInBounds_toArray, List.set_cons_zero, List.set_cons_succ]
  refine wpAnyL_take 0 _ _ (i := 1) (oi := { dst := some 13, op := Op.move (Operand.tmp 0), type := 25, pos := "sorts.go:212", after := #[], guard := none }) (v := ?_) rfl (by kernel_rfl) (by kernel_rfl) (by kernel_rfl) (fun _ _ _ h => h) rfl (by kernel_rfl) (by kernel_rfl) (by kernel_rfl) (Or.inl ⟨by rfl, ?_⟩) hHeld (fun hHeld => ?_)
  rotate_left
  · intro w hSw
    (try dsimp only at hSw)
    go_simp
    try with_reducible rfl
  try simp only [Act.put, List.setIfInBounds_toArray, List.set_cons_zero, List.set_cons_succ]
  refine wpAnyL_take 0 _ _ (i := 2) (oi := { dst := some 14, op := Op.nilCheck (Operand.tmp 13), type := 0, pos := "sorts.go:212", after := #[{ on := 1, ground := Ground.data }], guard := none }) (v := ?_) rfl (by kernel_rfl) (by kernel_rfl) (by kernel_rfl) (fun _ _ _ h => h) rfl (by kernel_rfl) (by kernel_rfl) (by kernel_rfl) (Or.inl ⟨by rfl, ?_⟩) hHeld (fun hHeld => ?_)
  rotate_left
  · intro w hSw
    (try dsimp only at hSw)
    go_simp
    try with_reducible rfl
  try simp only [Act.put, List.setIfInBounds_toArray, List.set_cons_zero, List.set_cons_succ]
  refine wpAnyL_take 0 _ _ (i := 3) (oi := { dst := some 15, op := Op.fieldAddr 60 (Operand.tmp 14) 6, type := 0, pos := "sorts.go:212", after := #[{ on := 2, ground := Ground.data }], guard := none }) (v := ?_) rfl (by kernel_rfl) (by kernel_rfl) (by kernel_rfl) (fun _ _ _ h => h) rfl (by kernel_rfl) (by kernel_rfl) (by kernel_rfl) (Or.inl ⟨by rfl, ?_⟩) hHeld (fun hHeld => ?_)
  rotate_left
  · intro w hSw
    (try dsimp only at hSw)
    go_simp
    try with_reducible rfl
  try simp only [Act.put, List.setIfInBounds_toArray, List.set_cons_zero, List.set_cons_succ]
  refine wpAnyL_take 1 _ _ (i := 4) (oi := { dst := some 16, op := Op.load 58 (Operand.tmp 15), type := 58, pos := "sorts.go:212", after := #[{ on := 3, ground := Ground.data }], guard := none }) (v := ?_) rfl (by kernel_rfl) (by kernel_rfl) (by kernel_rfl) (fun _ _ _ h => h) rfl (by kernel_rfl) (by kernel_rfl) (by kernel_rfl) (Or.inl ⟨by rfl, ?_⟩) hHeld (fun hHeld => ?_)
  rotate_left
  · intro w hSw
    (try dsimp only at hSw)
    go_simp
    try with_reducible rfl
  try simp only [Act.put, List.setIfInBounds_toArray, List.set_cons_zero, List.set_cons_succ]
  refine wpAnyL_take 0 _ _ (i := 5) (oi := { dst := some 17, op := Op.move (Operand.tmp 0), type := 25, pos := "sorts.go:212", after := #[], guard := none }) (v := ?_) rfl (by kernel_rfl) (by kernel_rfl) (by kernel_rfl) (fun _ _ _ h => h) rfl (by kernel_rfl) (by kernel_rfl) (by kernel_rfl) (Or.inl ⟨by rfl, ?_⟩) hHeld (fun hHeld => ?_)
  rotate_left
  · intro w hSw
    (try dsimp only at hSw)
    go_simp
    try with_reducible rfl
  try simp only [Act.put, List.setIfInBounds_toArray, List.set_cons_zero, List.set_cons_succ]
  refine wpAnyL_take 0 _ _ (i := 6) (oi := { dst := some 18, op := Op.nilCheck (Operand.tmp 17), type := 0, pos := "sorts.go:212", after := #[{ on := 5, ground := Ground.data }], guard := none }) (v := ?_) rfl (by kernel_rfl) (by kernel_rfl) (by kernel_rfl) (fun _ _ _ h => h) rfl (by kernel_rfl) (by kernel_rfl) (by kernel_rfl) (Or.inl ⟨by rfl, ?_⟩) hHeld (fun hHeld => ?_)
  rotate_left
  · intro w hSw
    (try dsimp only at hSw)
    go_simp
    try with_reducible rfl
  try simp only [Act.put, List.setIfInBounds_toArray, List.set_cons_zero, List.set_cons_succ]
  refine wpAnyL_take 0 _ _ (i := 7) (oi := { dst := some 19, op := Op.fieldAddr 60 (Operand.tmp 18) 2, type := 0, pos := "sorts.go:212", after := #[{ on := 6, ground := Ground.data }], guard := none }) (v := ?_) rfl (by kernel_rfl) (by kernel_rfl) (by kernel_rfl) (fun _ _ _ h => h) rfl (by kernel_rfl) (by kernel_rfl) (by kernel_rfl) (Or.inl ⟨by rfl, ?_⟩) hHeld (fun hHeld => ?_)
  rotate_left
  · intro w hSw
    (try dsimp only at hSw)
    go_simp
    try with_reducible rfl
  try simp only [Act.put, List.setIfInBounds_toArray, List.set_cons_zero, List.set_cons_succ]
  refine wpAnyL_take 2 _ _ (i := 8) (oi := { dst := some 20, op := Op.load 32 (Operand.tmp 19), type := 32, pos := "sorts.go:212", after := #[{ on := 7, ground := Ground.data }], guard := none }) (v := ?_) rfl (by kernel_rfl) (by kernel_rfl) (by kernel_rfl) (fun _ _ _ h => h) rfl (by kernel_rfl) (by kernel_rfl) (by kernel_rfl) (Or.inl ⟨by rfl, ?_⟩) hHeld (fun hHeld => ?_)
  rotate_left
  · intro w hSw
    (try dsimp only at hSw)
    go_simp
    try with_reducible rfl
  try simp only [Act.put, List.setIfInBounds_toArray, List.set_cons_zero, List.set_cons_succ]
  refine wpAnyL_take 0 _ _ (i := 9) (oi := { dst := some 21, op := Op.call { callee := Callee.builtin Builtin.len, args := #[Operand.tmp 20], argTypes := #[32] }, type := 3, pos := "sorts.go:212", after := #[{ on := 8, ground := Ground.data }], guard := none }) (v := ?_) rfl (by kernel_rfl) (by kernel_rfl) (by kernel_rfl) (fun _ _ _ h => h) rfl (by kernel_rfl) (by kernel_rfl) (by kernel_rfl) (Or.inl ⟨by rfl, ?_⟩) hHeld (fun hHeld => ?_)
  rotate_left
  · intro w hSw
    (try dsimp only at hSw)
    go_simp
    try with_reducible rfl
  try simp only [Act.put, List.setIfInBounds_toArray, List.set_cons_zero, List.set_cons_succ]
  refine wpAnyL_take 0 _ _ (i := 10) (oi := { dst := some 22, op := Op.move (Operand.tmp 0), type := 25, pos := "sorts.go:212", after := #[], guard := none }) (v := ?_) rfl (by kernel_rfl) (by kernel_rfl) (by kernel_rfl) (fun _ _ _ h => h) rfl (by kernel_rfl) (by kernel_rfl) (by kernel_rfl) (Or.inl ⟨by rfl, ?_⟩) hHeld (fun hHeld => ?_)
  rotate_left
  · intro w hSw
    (try dsimp only at hSw)
    go_simp
    try with_reducible rfl
  try simp only [Act.put, List.setIfInBounds_toArray, List.set_cons_zero, List.set_cons_succ]
  refine wpAnyL_take 0 _ _ (i := 11) (oi := { dst := some 23, op := Op.nilCheck (Operand.tmp 22), type := 0, pos := "sorts.go:212", after := #[{ on := 10, ground := Ground.data }], guard := none }) (v := ?_) rfl (by kernel_rfl) (by kernel_rfl) (by kernel_rfl) (fun _ _ _ h => h) rfl (by kernel_rfl) (by kernel_rfl) (by kernel_rfl) (Or.inl ⟨by rfl, ?_⟩) hHeld (fun hHeld => ?_)
  rotate_left
  · intro w hSw
    (try dsimp only at hSw)
    go_simp
    try with_reducible rfl
  try simp only [Act.put, List.setIfInBounds_toArray, List.set_cons_zero, List.set_cons_succ]
  refine wpAnyL_take 0 _ _ (i := 12) (oi := { dst := some 24, op := Op.fieldAddr 60 (Operand.tmp 23) 3, type := 0, pos := "sorts.go:212", after := #[{ on := 11, ground := Ground.data }], guard := none }) (v := ?_) rfl (by kernel_rfl) (by kernel_rfl) (by kernel_rfl) (fun _ _ _ h => h) rfl (by kernel_rfl) (by kernel_rfl) (by kernel_rfl) (Or.inl ⟨by rfl, ?_⟩) hHeld (fun hHeld => ?_)
  rotate_left
  · intro w hSw
    (try dsimp only at hSw)
    go_simp
    try with_reducible rfl
  try simp only [Act.put, List.setIfInBounds_toArray, List.set_cons_zero, List.set_cons_succ]
  refine wpAnyL_take 3 _ _ (i := 13) (oi := { dst := some 25, op := Op.load 39 (Operand.tmp 24), type := 39, pos := "sorts.go:212", after := #[{ on := 12, ground := Ground.data }], guard := none }) (v := ?_) rfl (by kernel_rfl) (by kernel_rfl) (by kernel_rfl) (fun _ _ _ h => h) rfl (by kernel_rfl) (by kernel_rfl) (by kernel_rfl) (Or.inl ⟨by rfl, ?_⟩) hHeld (fun hHeld => ?_)
  rotate_left
  · intro w hSw
    (try dsimp only at hSw)
    go_simp
    try with_reducible rfl
  try simp only [Act.put, List.setIfInBounds_toArray, List.set_cons_zero, List.set_cons_succ]
  refine wpAnyL_take 0 _ _ (i := 14) (oi := { dst := some 26, op := Op.call { callee := Callee.builtin Builtin.len, args := #[Operand.tmp 25], argTypes := #[39] }, type := 3, pos := "sorts.go:212", after := #[{ on := 13, ground := Ground.data }], guard := none }) (v := ?_) rfl (by kernel_rfl) (by kernel_rfl) (by kernel_rfl) (fun _ _ _ h => h) rfl (by kernel_rfl) (by kernel_rfl) (by kernel_rfl) (Or.inl ⟨by rfl, ?_⟩) hHeld (fun hHeld => ?_)
  rotate_left
  · intro w hSw
    (try dsimp only at hSw)
    go_simp
    try with_reducible rfl
  try simp only [Act.put, List.setIfInBounds_toArray, List.set_cons_zero, List.set_cons_succ]
  refine wpAnyL_take 0 _ _ (i := 15) (oi := { dst := some 27, op := Op.build 114 #[(0, Operand.tmp 21), (1, Operand.tmp 26)], type := 114, pos := "sorts.go:212", after := #[{ on := 9, ground := Ground.data }, { on := 14, ground := Ground.data }], guard := none }) (v := ?_) rfl (by kernel_rfl) (by kernel_rfl) (by kernel_rfl) (fun _ _ _ h => h) rfl (by kernel_rfl) (by kernel_rfl) (by kernel_rfl) (Or.inl ⟨by rfl, ?_⟩) hHeld (fun hHeld => ?_)
  rotate_left
  · intro w hSw
    (try dsimp only at hSw)
    go_simp
    try with_reducible rfl
  try simp only [Act.put, List.setIfInBounds_toArray, List.set_cons_zero, List.set_cons_succ]
  refine wpAnyL_ready (rs := [16]) (by kernel_rfl) (by simp) ?_
  refine AllReadyL.cons (o := { dst := some 28, op := Op.buildSlice 58 1 #[(0, Operand.tmp 27)], type := 58, pos := "sorts.go:212", after := #[{ on := 15, ground := Ground.data }], guard := none }) rfl (fun K hK => ?_) AllReadyL.nil
  go_simp
  refine hK.out _ _ (SL.cons (fun _ => trivial) (SL.cons (fun _ => cell_later (below1 w2 _) x6) (SL.cons (fun _ => cell_later (below1 w2 _) x2) (SL.cons (fun _ => cell_later (below1 w2 _) x3) SL.nil)))) (fun hHeld => ?_)
  clear hK K
  try simp only [Act.put, List.setIfInBounds_toArray, List.set_cons_zero, List.set_cons_succ]
  have hb7 := below1 w2 (.cells #[.int .i64 (T.sorts.length : Int), .int .i64 (T.funs.length : Int)] 114)
  have HT7 := Lib.hid (HT2.out.later hb7)
  have HB7 := Lib.hid hb7
  replace x6 := cell_later hb7 x6
  replace x2 := cell_later hb7 x2
  replace x3 := cell_later hb7 x3
  obtain ⟨p7, z7, x7, o7⟩ := HT7.out.row6
  rw [x6] at x7
  cases x7
  have HO7 := Lib.hid o7
  have hn0 : (w2.alloc (.cells #[.int .i64 (T.sorts.length : Int), .int .i64 (T.funs.length : Int)] 114)).cell? ⟨w2.heap.size, 0, none⟩ = some (.int .i64 (T.sorts.length : Int)) := by simp [go_sem]
  have hn1 : (w2.alloc (.cells #[.int .i64 (T.sorts.length : Int), .int .i64 (T.funs.length : Int)] 114)).cell? ⟨w2.heap.size, 1, none⟩ = some (.int .i64 (T.funs.length : Int)) := by simp [go_sem]
  clear o7 hb7 hHeld
  refine wpAnyL_ready (rs := [17]) (by kernel_rfl) (by simp) ?_
  refine AllReadyL.cons (o := { dst := some 29, op := Op.call { callee := Callee.builtin Builtin.append, args := #[Operand.tmp 16, Operand.tmp 28], argTypes := #[58, 58] }, type := 58, pos := "sorts.go:212", after := #[{ on := 4, ground := Ground.data }, { on := 16, ground := Ground.data }], guard := none }) rfl (fun K hK => ?_) AllReadyL.nil
  rw [if_pos (by rfl)]
  refine wp_append_own_at _ _ 58 (by rfl) 0 114 i0 (.agg #[.int .i64 0, .int .i64 0]) 2 16 Try.underlying58 hi hz0 hz1 hz2 rfl (by omega) _ T.scopes.length (flatP T.scopes) (by rfl) HO7.out ⟨w2.heap.size, 0, none⟩ 1 1 [.int .i64 (T.sorts.length : Int), .int .i64 (T.funs.length : Int)] (by rfl) (by rfl) ?_ ?_ ?_ ?_ ?_ ?_
  · intro jj u hjj
    rw [Lib.add_plain]
    match jj, hjj with
    | 0, hjj => cases hjj; exact hn0
    | 1, hjj => cases hjj; exact hn1
  · intro u hu; simp at hu; rcases hu with rfl | rfl <;> rfl
  · have hml : maxLen = 9223372036854775807 := rfl; omega
  · omega
  · exact Nat.zero_le _
  intro v8 w8 hown hgrow hnil_ hloc
  obtain ⟨p8, c8, hv⟩ := own_shape hown
  subst hv
  clear hnil_
  obtain ⟨K8, hT8, hS8, x8, f8⟩ := HT7.out.pushP x6 (T.sorts.length, T.funs.length) hown hgrow (by simpa using hloc)
  have HT8 := Lib.hid hT8
  have HS8 := Lib.hid hS8
  have hn6 : (Value.slice p6 T.scopes.length z6).ownBlock ≠ some c := fun e => by obtain ⟨vs, m1, m2, ob, q⟩ := HT7.out.ob; have e6 := ob.1 6 (by omega); rw [x6] at e6; injection e6 with e6; have := q.r6.tg c (by rw [← e6]; exact e); rw [HT7.out.ka] at this; cases this
  have y2 := grown_cell hgrow x2 hn6
  have y3 := grown_cell hgrow x3 hn6
  clear hown hgrow hloc hT8 hS8 hn6 hn0 hn1
  refine hK.out _ _ (SL.cons (fun _ => trivial) (SL.cons (fun _ => x8) (SL.cons (fun _ => y2) (SL.cons (fun _ => y3) SL.nil)))) (fun hHeld => ?_)
  clear hK K
  try simp only [Act.put, List.setIfInBounds_toArray, List.set_cons_zero, List.set_cons_succ]
  refine wpAnyL_take 0 _ _ (i := 18) (oi := { dst := some 30, op := Op.nilCheck (Operand.tmp 12), type := 0, pos := "sorts.go:212", after := #[{ on := 0, ground := Ground.data }, { on := 0, ground := Ground.phase }, { on := 1, ground := Ground.phase }, { on := 2, ground := Ground.phase }, { on := 3, ground := Ground.phase }, { on := 4, ground := Ground.phase }, { on := 5, ground := Ground.phase }, { on := 6, ground := Ground.phase }, { on := 7, ground := Ground.phase }, { on := 8, ground := Ground.phase }, { on := 9, ground := Ground.phase }, { on := 10, ground := Ground.phase }, { on := 11, ground := Ground.phase }, { on := 12, ground := Ground.phase }, { on := 13, ground := Ground.phase }, { on := 14, ground := Ground.phase }, { on := 15, ground := Ground.phase }, { on := 16, ground := Ground.phase }, { on := 17, ground := Ground.phase }], guard := none }) (v := ?_) rfl (by kernel_rfl) (by kernel_rfl) (by kernel_rfl) (fun _ _ _ h => h) rfl (by kernel_rfl) (by kernel_rfl) (by kernel_rfl) (Or.inl ⟨by rfl, ?_⟩) hHeld (fun hHeld => ?_)
  rotate_left
  · intro w hSw
    (try dsimp only at hSw)
    go_simp
    try with_reducible rfl
  try simp only [Act.put, List.setIfInBounds_toArray, List.set_cons_zero, List.set_cons_succ]
  refine wpAnyL_take 0 _ _ (i := 19) (oi := { dst := some 31, op := Op.fieldAddr 60 (Operand.tmp 30) 6, type := 0, pos := "sorts.go:212", after := #[{ on := 18, ground := Ground.data }, { on := 0, ground := Ground.phase }, { on := 1, ground := Ground.phase }, { on := 2, ground := Ground.phase }, { on := 3, ground := Ground.phase }, { on := 4, ground := Ground.phase }, { on := 5, ground := Ground.phase }, { on := 6, ground := Ground.phase }, { on := 7, ground := Ground.phase }, { on := 8, ground := Ground.phase }, { on := 9, ground := Ground.phase }, { on := 10, ground := Ground.phase }, { on := 11, ground := Ground.phase }, { on := 12, ground := Ground.phase }, { on := 13, ground := Ground.phase }, { on := 14, ground := Ground.phase }, { on := 15, ground := Ground.phase }, { on := 16, ground := Ground.phase }, { on := 17, ground := Ground.phase }], guard := none }) (v := ?_) rfl (by kernel_rfl) (by kernel_rfl) (by kernel_rfl) (fun _ _ _ h => h) rfl (by kernel_rfl) (by kernel_rfl) (by kernel_rfl) (Or.inl ⟨by rfl, ?_⟩) hHeld (fun hHeld => ?_)
  rotate_left
  · intro w hSw
    (try dsimp only at hSw)
    go_simp
    try with_reducible rfl
  try simp only [Act.put, List.setIfInBounds_toArray, List.set_cons_zero, List.set_cons_succ]
  refine wpAnyL_ready (rs := [20]) (by kernel_rfl) (by simp) ?_
  refine AllReadyL.cons (o := { dst := none, op := Op.store 58 (Operand.tmp 31) (Operand.tmp 29), type := 0, pos := "sorts.go:212", after := #[{ on := 19, ground := Ground.data }, { on := 17, ground := Ground.data }, { on := 17, ground := Ground.chain }, { on := 0, ground := Ground.phase }, { on := 1, ground := Ground.phase }, { on := 2, ground := Ground.phase }, { on := 3, ground := Ground.phase }, { on := 4, ground := Ground.phase }, { on := 5, ground := Ground.phase }, { on := 6, ground := Ground.phase }, { on := 7, ground := Ground.phase }, { on := 8, ground := Ground.phase }, { on := 9, ground := Ground.phase }, { on := 10, ground := Ground.phase }, { on := 11, ground := Ground.phase }, { on := 12, ground := Ground.phase }, { on := 13, ground := Ground.phase }, { on := 14, ground := Ground.phase }, { on := 15, ground := Ground.phase }, { on := 16, ground := Ground.phase }, { on := 17, ground := Ground.phase }], guard := none }) rfl (fun K hK => ?_) AllReadyL.nil
  go_simp
  refine hK.out _ _ (SL.cons (fun _ => trivial) (SL.cons (fun h => absurd h (by decide +kernel)) (SL.cons (fun _ => by rw [World.cell?_setCell_other _ _ _ _ (by intro e; cases e)]; exact y2) (SL.cons (fun _ => by rw [World.cell?_setCell_other _ _ _ _ (by intro e; cases e)]; exact y3) SL.nil)))) (fun hHeld => ?_)
  clear hK K
  try simp only [Act.put, List.setIfInBounds_toArray, List.set_cons_zero, List.set_cons_succ]
  refine wpAnyL_done (by kernel_rfl) ?_ _
  generalize w8.setCell ⟨c, 6, none⟩ (.slice p8 (T.scopes.length + 1) c8) = w9 at *
  clear x8 f8 hHeld y2 y3
  go_wp2_with fail
  go_ret
  exact ⟨K8, addP T, _, rfl, HT8.out, HG.out.addP (by omega), (StepT.below HD.out).trans ((StepT.below HB7.out).trans HS8.out), .inr ⟨rfl, by omega, rfl⟩⟩
end Go.Proofs.Ytkjmmdffelhkiaa
