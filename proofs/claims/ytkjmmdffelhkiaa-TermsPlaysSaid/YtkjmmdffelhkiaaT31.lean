/- Stage 6: Copy. -/
import Derived.Test.YtkjmmdffelhkiaaT25
import Derived.Shelf.SlMaps.Clone
namespace Go.Proofs.Ytkjmmdffelhkiaa
open Go Go.RowKit Go.Maps

variable {W W' : World} {K K' : Nat → Nat} {base c r : Nat} {T : Sto} {N : List Nd} {e : Ending} {w' : World}
theorem FMap.cloned {kt : TypeId} {m : Nat} {f : Lit → Option Value} {n : Nat} {es : Array MapEntry} {clock : Nat} (h : FMap W kt m f n) (hb : W.heap[m]? = some (.map es clock)) : FMap (W.alloc (.map es clock)) kt W.heap.size f n := by
  obtain ⟨D, ⟨es2, cl2, h1, F, hs, hD⟩, h2⟩ := h.has
  rw [hb] at h1
  cases h1
  exact ⟨D, ⟨es, clock, (MapKept.heap_alloc W _).1, F, hs, hD⟩, h2⟩
theorem FMap.entries {kt : TypeId} {m : Nat} {f : Lit → Option Value} {n : Nat} (h : FMap W kt m f n) : ∃ es clock, W.heap[m]? = some (.map es clock) := by
  obtain ⟨D, ⟨es, cl, h1, _⟩, _⟩ := h.has
  exact ⟨es, cl, h1⟩
def CloneM (W : World) (kt : TypeId) (f : Lit → Option Value) (n : Nat) (e : Ending) (w' : World) : Prop := ∃ m, e = .returned (.map (some m)) ∧ W.heap.size ≤ m ∧ FMap w' kt m f n ∧ Below W.heap.size W w'
set_option maxRecDepth 100000 in
set_option maxHeartbeats 4000000 in
theorem cloneM69 {m : Nat} {g : Lit → Option Value} {n : Nat} (h : FMap W 129 m g n) : Calls Try.prog 69 #[.map (some m)] W (CloneM W 129 g n) := by
  obtain ⟨es, clock, hb⟩ := h.entries
  have HC := Lib.hid (h.cloned hb)
  have HB := Lib.hid (below1 W (.map es clock))
  have hq := fun w => run_eql_map_nil_sl (P := Try.prog) w 99 _ _ (some m) Try.underlying99
  clear h
  go_enter Try.func69, Try.ntmps69
  go_wp2
  rw [run_callFunc_extern Try.func92 (by kernel_rfl) (by kernel_rfl) (by kernel_rfl) (e := Extern.MapsClone.clone) (by kernel_rfl), run_maps_clone_sl W 99 hb]
  simp only [Result.andThen]
  rw [Oper.upon_value]
  go_wp2
  rw [run_typeAssert_map_sl _ 99 20 _ _ _ Try.underlying99]
  simp only [Result.andThen]
  rw [Oper.upon_value]
  go_wp2
  go_ret
  exact ⟨W.heap.size, rfl, Nat.le_refl _, HC.out, HB.out⟩
set_option maxRecDepth 100000 in
set_option maxHeartbeats 4000000 in
theorem cloneM65 {m : Nat} {g : Lit → Option Value} {n : Nat} (h : FMap W 9 m g n) : Calls Try.prog 65 #[.map (some m)] W (CloneM W 9 g n) := by
  obtain ⟨es, clock, hb⟩ := h.entries
  have HC := Lib.hid (h.cloned hb)
  have HB := Lib.hid (below1 W (.map es clock))
  have hq := fun w => run_eql_map_nil_sl (P := Try.prog) w 57 _ _ (some m) Try.underlying57
  clear h
  go_enter Try.func65, Try.ntmps65
  go_wp2
  rw [run_callFunc_extern Try.func92 (by kernel_rfl) (by kernel_rfl) (by kernel_rfl) (e := Extern.MapsClone.clone) (by kernel_rfl), run_maps_clone_sl W 57 hb]
  simp only [Result.andThen]
  rw [Oper.upon_value]
  go_wp2
  rw [run_typeAssert_map_sl _ 57 20 _ _ _ Try.underlying57]
  simp only [Result.andThen]
  rw [Oper.upon_value]
  go_wp2
  go_ret
  exact ⟨W.heap.size, rfl, Nat.le_refl _, HC.out, HB.out⟩
theorem ndV_one' (l : List Nd) : ∀ u ∈ flatN l, u.oneCell' = true := by
  intro u hu
  obtain ⟨x, _, hx⟩ := List.mem_flatMap.1 hu
  simp [ndV] at hx
  rcases hx with rfl | rfl | rfl | rfl | rfl <;> rfl
set_option maxRecDepth 100000 in
set_option maxHeartbeats 4000000 in
theorem clone68 (g n c : Nat) (l : List Nd) (w : World) (hn : n ≤ 1000000) (hl : l.length = n) (hc : ∀ j u, (flatN l)[j]? = some u → w.cell? ⟨g, j, none⟩ = some u) :
    Calls Try.prog 68 #[.slice (some ⟨g, 0, none⟩) n c] w fun e w' => ∃ v', e = .returned v' ∧ w'.ownsRow w.heap.size 89 5 v' n (flatN l) ∧ Below w.heap.size w w' := by
  have q22 : ∀ (w : World) (a : Option Addr) (n c n' c' : Nat), (binOp .eql 83 (.slice a n c) (.slice none n' c')).run Try.prog w = .ok (.bool a.isNone) w := fun w a n c n' c' => Lib.run_eql_slice_nil w _ _ a n c n' c' Try.underlying83
  obtain ⟨i89, hi89, hz890, hz891, hz892⟩ := info89
  have HCC := Lib.hid (fun j u hu => cell_later (below1 w (.cells #[] 89)) (hc j u hu))
  have HL := Lib.hid hl
  clear hc hl
  go_enter Try.func68, Try.ntmps68
  go_wp2_with (at_builtin; refine wpList_append_own _ rfl _ _ 83 rfl w.heap.size 89 i89 (.agg #[.int .u8 0, .int .i64 0, .int .i64 0, .int .i64 0, .slice none 0 0]) 5 56 Try.underlying83 hi89 hz890 hz891 hz892 rfl (by omega) _ _ _ rfl (World.ownsRow_made w #[] 0 (Nat.le_refl _) (Nat.zero_le _) (by simp)) ⟨g, 0, none⟩ n c (flatN l) rfl ?qc1 ?qc2 (ndV_one' l) ?qc4 ?qc5 ?qc6 ?_)
  case qc1 => rw [flatN_len, HL.out]
  case qc2 =>
    intro j u hj
    rw [Lib.add_plain, Nat.zero_add]
    exact HCC.out j u hj
  case qc4 => rw [Nat.zero_add]; unfold maxLen; omega
  case qc5 => rw [Nat.zero_add]; omega
  case qc6 => simp
  intro v' w1 hown hgrow hnil
  go_wp2
  go_ret
  exact ⟨v', rfl, by simpa using hown, ((Below.refl _ w).alloc (Nat.le_refl _) _).grown hgrow (by simp) (by intro k hk; simp [Value.ownBlock] at hk; omega)⟩
structure Fresh3 (W w' : World) (T : Sto) (c2 m1 m2 : Nat) (v : Value) : Prop where
  ob : Obj3 w' c2 (fun i => match i with | 1 => .map (some m1) | 2 => .map (some m2) | _ => v)
  rw' : w'.ownsRow W.heap.size 89 5 v T.nodes.length (flatN T.nodes)
  f1 : FMap w' 129 m1 T.f1 T.n1
  f2 : FMap w' 9 m2 T.f2 T.n2
  lc : W.heap.size ≤ c2
  l1 : W.heap.size ≤ m1
  l2 : W.heap.size ≤ m2
  d1 : m1 ≠ c2
  d2 : m2 ≠ c2
  d3 : m1 ≠ m2
  d4 : v.ownBlock ≠ some c2
  d5 : v.ownBlock ≠ some m1
  d6 : v.ownBlock ≠ some m2
theorem map_not_cells {w : World} {m : Nat} {kt : TypeId} {f : Lit → Option Value} {n : Nat} (h : FMap w kt m f n) {b nn : Nat} {e : TypeId} {sz : Nat} {v : Value} {xs : List Value} (ho : w.ownsRow b e sz v nn xs) : v.ownBlock ≠ some m := fun hv => by
  obtain ⟨es, cl, h1⟩ := h.entries
  rcases ho.2 with ⟨rfl, _⟩ | ⟨g, cap, cur, rfl, _, hg, _⟩
  · cases hv
  · cases hv
    rw [hg] at h1
    cases h1
set_option maxRecDepth 100000 in
set_option maxHeartbeats 8000000 in
theorem copy_any (h : StoAt W K base c T) (g : GoodS T) (h0 : 0 < T.nodes.length) :
    Calls Try.prog 34 #[.pointer (some ⟨c, 0, none⟩)] W fun e w' => ∃ c2 m1 m2 v, e = .returned (.pointer (some ⟨c2, 0, none⟩)) ∧ Below W.heap.size W w' ∧ Fresh3 W w' T c2 m1 m2 v := by
  have HL := len_any h
  have hb0 := g.b0
  have q0 : ((T.nodes.length : Int) == 0) = false := by rw [beq_eq_false_iff_ne]; omega
  have H := Lib.hid h
  clear h g
  go_enter Try.func34, Try.ntmps34
  go_wp2_with fail
  refine HL.mono ?_
  rintro e w1 ⟨rfl, hw⟩
  obtain rfl := hw.symm
  clear HL hw
  go_wp2_with fail
  have hD : Below W.heap.size W W.drew := (Below.refl _ _).drew
  have H2 := Lib.hid (H.out.later hD)
  have HBD := Lib.hid hD
  clear hD
  obtain ⟨p0, z0, x0, o0⟩ := H2.out.row0
  obtain ⟨ma, x1, fa⟩ := H2.out.map1
  obtain ⟨mb, x2, fb⟩ := H2.out.map2
  obtain ⟨ga, ca, e0⟩ := own_some o0 h0
  cases e0
  obtain ⟨ga', ca', e0, _, hcl⟩ := own_cells o0 (by simp)
  cases e0
  have HCL := clone68 ga T.nodes.length z0 T.nodes W.drew (by omega) rfl (fun j u hu => by have := hcl j u hu; simpa using this)
  have HFA := Lib.hid fa
  have HFB := Lib.hid fb
  clear o0 hcl fa fb
  refine wp_region_L [(1000, (fun _ => True : World → Prop)), (1000, (fun w => w.cell? ⟨c, 0, none⟩ = some (.slice (some ⟨ga, 0, none⟩) T.nodes.length z0) : World → Prop)), (1000, (fun w => w.cell? ⟨c, 1, none⟩ = some (.map (some ma)) : World → Prop)), (1000, (fun w => w.cell? ⟨c, 2, none⟩ = some (.map (some mb)) : World → Prop))] (by kernel_rfl) (SL.cons (fun _ => trivial) (SL.cons (fun _ => x0) (SL.cons (fun _ => x1) (SL.cons (fun _ => x2) SL.nil)))) (fun hHeld => ?_)
  generalize hwd : W.drew = w2 at *
  clear hwd
  refine wpAnyL_take 0 _ _ (i := 0) (oi := { dst := some 6, op := Op.move (Operand.tmp 0), type := 69, pos := "terms.go:258", after := #[], guard := none }) (v := ?_) rfl (by kernel_rfl) (by kernel_rfl) (by kernel_rfl) (fun _ _ _ h => h) rfl (by kernel_rfl) (by kernel_rfl) (by kernel_rfl) (Or.inl ⟨by rfl, ?_⟩) hHeld (fun hHeld => ?_)
  rotate_left
  · intro w hSw
    (try dsimp only at hSw)
    go_simp
    try with_reducible rfl
  try simp only [Act.put, List.setIfInBounds_toArray, List.set_cons_zero, List.set_cons_succ]
  refine wpAnyL_take 0 _ _ (i := 1) (oi := { dst := some 7, op := Op.nilCheck (Operand.tmp 6), type := 0, pos := "terms.go:258", after := #[{ on := 0, ground := Ground.data }], guard := none }) (v := ?_) rfl (by kernel_rfl) (by kernel_rfl) (by kernel_rfl) (fun _ _ _ h => h) rfl (by kernel_rfl) (by kernel_rfl) (by kernel_rfl) (Or.inl ⟨by rfl, ?_⟩) hHeld (fun hHeld => ?_)
  rotate_left
  · intro w hSw
    (try dsimp only at hSw)
    go_simp
    try with_reducible rfl
  try simp only [Act.put, List.setIfInBounds_toArray, List.set_cons_zero, List.set_cons_succ]
  refine wpAnyL_take 0 _ _ (i := 2) (oi := { dst := some 8, op := Op.fieldAddr 101 (Operand.tmp 7) 0, type := 0, pos := "terms.go:258", after := #[{ on := 1, ground := Ground.data }], guard := none }) (v := ?_) rfl (by kernel_rfl) (by kernel_rfl) (by kernel_rfl) (fun _ _ _ h => h) rfl (by kernel_rfl) (by kernel_rfl) (by kernel_rfl) (Or.inl ⟨by rfl, ?_⟩) hHeld (fun hHeld => ?_)
  rotate_left
  · intro w hSw
    (try dsimp only at hSw)
    go_simp
    try with_reducible rfl
  try simp only [Act.put, List.setIfInBounds_toArray, List.set_cons_zero, List.set_cons_succ]
  refine wpAnyL_take 1 _ _ (i := 3) (oi := { dst := some 9, op := Op.load 83 (Operand.tmp 8), type := 83, pos := "terms.go:258", after := #[{ on := 2, ground := Ground.data }], guard := none }) (v := ?_) rfl (by kernel_rfl) (by kernel_rfl) (by kernel_rfl) (fun _ _ _ h => h) rfl (by kernel_rfl) (by kernel_rfl) (by kernel_rfl) (Or.inl ⟨by rfl, ?_⟩) hHeld (fun hHeld => ?_)
  rotate_left
  · intro w hSw
    (try dsimp only at hSw)
    go_simp
    try with_reducible rfl
  try simp only [Act.put, List.setIfInBounds_toArray, List.set_cons_zero, List.set_cons_succ]
  refine wpAnyL_take 0 _ _ (i := 5) (oi := { dst := some 11, op := Op.move (Operand.tmp 0), type := 69, pos := "terms.go:258", after := #[], guard := none }) (v := ?_) rfl (by kernel_rfl) (by kernel_rfl) (by kernel_rfl) (fun _ _ _ h => h) rfl (by kernel_rfl) (by kernel_rfl) (by kernel_rfl) (Or.inl ⟨by rfl, ?_⟩) hHeld (fun hHeld => ?_)
  rotate_left
  · intro w hSw
    (try dsimp only at hSw)
    go_simp
    try with_reducible rfl
  try simp only [Act.put, List.setIfInBounds_toArray, List.set_cons_zero, List.set_cons_succ]
  refine wpAnyL_take 0 _ _ (i := 6) (oi := { dst := some 12, op := Op.nilCheck (Operand.tmp 11), type := 0, pos := "terms.go:258", after := #[{ on := 5, ground := Ground.data }], guard := none }) (v := ?_) rfl (by kernel_rfl) (by kernel_rfl) (by kernel_rfl) (fun _ _ _ h => h) rfl (by kernel_rfl) (by kernel_rfl) (by kernel_rfl) (Or.inl ⟨by rfl, ?_⟩) hHeld (fun hHeld => ?_)
  rotate_left
  · intro w hSw
    (try dsimp only at hSw)
    go_simp
    try with_reducible rfl
  try simp only [Act.put, List.setIfInBounds_toArray, List.set_cons_zero, List.set_cons_succ]
  refine wpAnyL_take 0 _ _ (i := 7) (oi := { dst := some 13, op := Op.fieldAddr 101 (Operand.tmp 12) 1, type := 0, pos := "terms.go:258", after := #[{ on := 6, ground := Ground.data }], guard := none }) (v := ?_) rfl (by kernel_rfl) (by kernel_rfl) (by kernel_rfl) (fun _ _ _ h => h) rfl (by kernel_rfl) (by kernel_rfl) (by kernel_rfl) (Or.inl ⟨by rfl, ?_⟩) hHeld (fun hHeld => ?_)
  rotate_left
  · intro w hSw
    (try dsimp only at hSw)
    go_simp
    try with_reducible rfl
  try simp only [Act.put, List.setIfInBounds_toArray, List.set_cons_zero, List.set_cons_succ]
  refine wpAnyL_take 2 _ _ (i := 8) (oi := { dst := some 14, op := Op.load 99 (Operand.tmp 13), type := 99, pos := "terms.go:258", after := #[{ on := 7, ground := Ground.data }], guard := none }) (v := ?_) rfl (by kernel_rfl) (by kernel_rfl) (by kernel_rfl) (fun _ _ _ h => h) rfl (by kernel_rfl) (by kernel_rfl) (by kernel_rfl) (Or.inl ⟨by rfl, ?_⟩) hHeld (fun hHeld => ?_)
  rotate_left
  · intro w hSw
    (try dsimp only at hSw)
    go_simp
    try with_reducible rfl
  try simp only [Act.put, List.setIfInBounds_toArray, List.set_cons_zero, List.set_cons_succ]
  refine wpAnyL_take 0 _ _ (i := 10) (oi := { dst := some 16, op := Op.move (Operand.tmp 0), type := 69, pos := "terms.go:258", after := #[], guard := none }) (v := ?_) rfl (by kernel_rfl) (by kernel_rfl) (by kernel_rfl) (fun _ _ _ h => h) rfl (by kernel_rfl) (by kernel_rfl) (by kernel_rfl) (Or.inl ⟨by rfl, ?_⟩) hHeld (fun hHeld => ?_)
  rotate_left
  · intro w hSw
    (try dsimp only at hSw)
    go_simp
    try with_reducible rfl
  try simp only [Act.put, List.setIfInBounds_toArray, List.set_cons_zero, List.set_cons_succ]
  refine wpAnyL_take 0 _ _ (i := 11) (oi := { dst := some 17, op := Op.nilCheck (Operand.tmp 16), type := 0, pos := "terms.go:258", after := #[{ on := 10, ground := Ground.data }], guard := none }) (v := ?_) rfl (by kernel_rfl) (by kernel_rfl) (by kernel_rfl) (fun _ _ _ h => h) rfl (by kernel_rfl) (by kernel_rfl) (by kernel_rfl) (Or.inl ⟨by rfl, ?_⟩) hHeld (fun hHeld => ?_)
  rotate_left
  · intro w hSw
    (try dsimp only at hSw)
    go_simp
    try with_reducible rfl
  try simp only [Act.put, List.setIfInBounds_toArray, List.set_cons_zero, List.set_cons_succ]
  refine wpAnyL_take 0 _ _ (i := 12) (oi := { dst := some 18, op := Op.fieldAddr 101 (Operand.tmp 17) 2, type := 0, pos := "terms.go:258", after := #[{ on := 11, ground := Ground.data }], guard := none }) (v := ?_) rfl (by kernel_rfl) (by kernel_rfl) (by kernel_rfl) (fun _ _ _ h => h) rfl (by kernel_rfl) (by kernel_rfl) (by kernel_rfl) (Or.inl ⟨by rfl, ?_⟩) hHeld (fun hHeld => ?_)
  rotate_left
  · intro w hSw
    (try dsimp only at hSw)
    go_simp
    try with_reducible rfl
  try simp only [Act.put, List.setIfInBounds_toArray, List.set_cons_zero, List.set_cons_succ]
  refine wpAnyL_take 3 _ _ (i := 13) (oi := { dst := some 19, op := Op.load 57 (Operand.tmp 18), type := 57, pos := "terms.go:258", after := #[{ on := 12, ground := Ground.data }], guard := none }) (v := ?_) rfl (by kernel_rfl) (by kernel_rfl) (by kernel_rfl) (fun _ _ _ h => h) rfl (by kernel_rfl) (by kernel_rfl) (by kernel_rfl) (Or.inl ⟨by rfl, ?_⟩) hHeld (fun hHeld => ?_)
  rotate_left
  · intro w hSw
    (try dsimp only at hSw)
    go_simp
    try with_reducible rfl
  try simp only [Act.put, List.setIfInBounds_toArray, List.set_cons_zero, List.set_cons_succ]
  refine wpAnyL_ready (rs := [4]) (by kernel_rfl) (by simp) ?_
  refine AllReadyL.cons (o := { dst := some 10, op := Op.call { callee := Callee.value (Operand.func 68), args := #[Operand.tmp 9], argTypes := #[83] }, type := 83, pos := "terms.go:258", after := #[{ on := 3, ground := Ground.data }], guard := none }) rfl (fun K hK => ?_) AllReadyL.nil
  go_simp
  go_at_call 68
  refine HCL.mono ?_
  rintro e w3 ⟨v3, rfl, hown3, hb3⟩
  obtain ⟨p3, z3, hv3, _⟩ := own_shp hown3
  subst hv3
  have HO3 := Lib.hid hown3
  have HB3 := Lib.hid hb3
  replace x0 := cell_later hb3 x0
  replace x1 := cell_later hb3 x1
  replace x2 := cell_later hb3 x2
  have HC1 := cloneM69 (HFA.out.later hb3)
  clear hown3 hb3 HCL
  refine hK.out _ _ (SL.cons (fun _ => trivial) (SL.cons (fun _ => x0) (SL.cons (fun _ => x1) (SL.cons (fun _ => x2) SL.nil)))) (fun hHeld => ?_)
  clear hK K
  try simp only [Act.put, List.setIfInBounds_toArray, List.set_cons_zero, List.set_cons_succ]
  refine wpAnyL_ready (rs := [9]) (by kernel_rfl) (by simp) ?_
  refine AllReadyL.cons (o := { dst := some 15, op := Op.call { callee := Callee.value (Operand.func 69), args := #[Operand.tmp 14], argTypes := #[99] }, type := 99, pos := "terms.go:258", after := #[{ on := 8, ground := Ground.data }, { on := 4, ground := Ground.chain }], guard := none }) rfl (fun K hK => ?_) AllReadyL.nil
  go_simp
  go_at_call 69
  refine HC1.mono ?_
  rintro e w4 ⟨m1, rfl, hl4, hf4, hb4⟩
  have HF4 := Lib.hid (And.intro hl4 hf4)
  have HB4 := Lib.hid hb4
  replace x0 := cell_later hb4 x0
  replace x1 := cell_later hb4 x1
  replace x2 := cell_later hb4 x2
  have HC2 := cloneM65 (HFB.out.later (chain HB3.out hb4))
  clear hl4 hf4 hb4 HC1
  refine hK.out _ _ (SL.cons (fun _ => trivial) (SL.cons (fun _ => x0) (SL.cons (fun _ => x1) (SL.cons (fun _ => x2) SL.nil)))) (fun hHeld => ?_)
  clear hK K
  try simp only [Act.put, List.setIfInBounds_toArray, List.set_cons_zero, List.set_cons_succ]
  refine wpAnyL_ready (rs := [14]) (by kernel_rfl) (by simp) ?_
  refine AllReadyL.cons (o := { dst := some 20, op := Op.call { callee := Callee.value (Operand.func 65), args := #[Operand.tmp 19], argTypes := #[57] }, type := 57, pos := "terms.go:258", after := #[{ on := 13, ground := Ground.data }, { on := 9, ground := Ground.chain }], guard := none }) rfl (fun K hK => ?_) AllReadyL.nil
  go_simp
  go_at_call 65
  refine HC2.mono ?_
  rintro e w5 ⟨m2, rfl, hl5, hf5, hb5⟩
  have HF5 := Lib.hid (And.intro hl5 hf5)
  have HB5 := Lib.hid hb5
  replace x0 := cell_later hb5 x0
  replace x1 := cell_later hb5 x1
  replace x2 := cell_later hb5 x2
  clear hl5 hf5 hb5 HC2
  refine hK.out _ _ (SL.cons (fun _ => trivial) (SL.cons (fun _ => x0) (SL.cons (fun _ => x1) (SL.cons (fun _ => x2) SL.nil)))) (fun hHeld => ?_)
  clear hK K
  try simp only [Act.put, List.setIfInBounds_toArray, List.set_cons_zero, List.set_cons_succ]
  refine wpAnyL_take 0 _ _ (i := 15) (oi := { dst := some 21, op := Op.build 101 #[(0, Operand.tmp 10), (1, Operand.tmp 15), (2, Operand.tmp 20)], type := 101, pos := "terms.go:258", after := #[{ on := 4, ground := Ground.data }, { on := 9, ground := Ground.data }, { on := 14, ground := Ground.data }], guard := none }) (v := ?_) rfl (by kernel_rfl) (by kernel_rfl) (by kernel_rfl) (fun _ _ _ h => h) rfl (by kernel_rfl) (by kernel_rfl) (by kernel_rfl) (Or.inl ⟨by rfl, ?_⟩) hHeld (fun hHeld => ?_)
  rotate_left
  · intro w hSw
    (try dsimp only at hSw)
    go_simp
    try with_reducible rfl
  try simp only [Act.put, List.setIfInBounds_toArray, List.set_cons_zero, List.set_cons_succ]
  refine wpAnyL_ready (rs := [16]) (by kernel_rfl) (by simp) ?_
  refine AllReadyL.cons (o := { dst := some 22, op := Op.box 101 (Operand.tmp 21), type := 69, pos := "terms.go:258", after := #[{ on := 15, ground := Ground.data }], guard := none }) rfl (fun K hK => ?_) AllReadyL.nil
  go_simp
  refine hK.out _ _ (SL.cons (fun _ => trivial) (SL.cons (fun _ => cell_later (below1 w5 _) x0) (SL.cons (fun _ => cell_later (below1 w5 _) x1) (SL.cons (fun _ => cell_later (below1 w5 _) x2) SL.nil)))) (fun hHeld => ?_)
  clear hK K
  try simp only [Act.put, List.setIfInBounds_toArray, List.set_cons_zero, List.set_cons_succ]
  refine wpAnyL_take 0 _ _ (i := 17) (oi := { dst := some 2, op := Op.assign (Operand.tmp 22), type := 69, pos := "terms.go:258", after := #[{ on := 16, ground := Ground.data }, { on := 14, ground := Ground.chain }, { on := 0, ground := Ground.phase }, { on := 1, ground := Ground.phase }, { on := 2, ground := Ground.phase }, { on := 3, ground := Ground.phase }, { on := 4, ground := Ground.phase }, { on := 5, ground := Ground.phase }, { on := 6, ground := Ground.phase }, { on := 7, ground := Ground.phase }, { on := 8, ground := Ground.phase }, { on := 9, ground := Ground.phase }, { on := 10, ground := Ground.phase }, { on := 11, ground := Ground.phase }, { on := 12, ground := Ground.phase }, { on := 13, ground := Ground.phase }, { on := 14, ground := Ground.phase }, { on := 15, ground := Ground.phase }, { on := 16, ground := Ground.phase }], guard := none }) (v := ?_) rfl (by kernel_rfl) (by kernel_rfl) (by kernel_rfl) (fun _ _ _ h => h) rfl (by kernel_rfl) (by kernel_rfl) (by kernel_rfl) (Or.inl ⟨by rfl, ?_⟩) hHeld (fun hHeld => ?_)
  rotate_left
  · intro w hSw
    (try dsimp only at hSw)
    go_simp
    try with_reducible rfl
  try simp only [Act.put, List.setIfInBounds_toArray, List.set_cons_zero, List.set_cons_succ]
  refine wpAnyL_done (by kernel_rfl) ?_ _
  clear hHeld
  go_wp2_with fail
  go_ret
  have hb6 := below1 w5 (.cells #[.slice p3 T.nodes.length z3, .map (some m1), .map (some m2)] 101)
  have e5 := HB5.out.size
  have e4 := HB4.out.size
  have e3 := HB3.out.size
  have e2 := HBD.out.size
  have b35 := chain (chain HB3.out HB4.out) HB5.out
  have o5 := own_later HO3.out (chain HB4.out HB5.out)
  have f4 := HF4.out.2.later HB5.out
  have l5 := World.block_lt_of_cell? w5 _ x0
  have g1 := f4.lt
  have g2 := HF5.out.2.lt
  have l4 := HF4.out.2.lt
  refine ⟨w5.heap.size, m1, m2, .slice p3 T.nodes.length z3, rfl, HBD.out.trans ((chain b35 hb6).mono e2), ⟨⟨fun i hi => ?_, fun i => by simp [go_sem]⟩, own_base (own_later o5 hb6) (fun k hk => by have := (own_lt o5 hk).1; omega), f4.later hb6, HF5.out.2.later hb6, by omega, by have := HF4.out.1; omega, by have := HF5.out.1; omega, by omega, by omega, by have := HF5.out.1; omega, fun e => by have := (own_lt o5 e).2; omega, map_not_cells f4 o5, map_not_cells HF5.out.2 o5⟩⟩
  match i, hi with
  | 0, _ => simp [go_sem]
  | 1, _ => simp [go_sem]
  | 2, _ => simp [go_sem]
/-- the copy is the store from now on; the old one is left. -/
theorem Fresh3.two {w1 w2 : World} {K1 : Nat → Nat} {T1 : Sto} {c2 m1 m2 : Nat} {v : Value} (h : Two W K base c r T N) (hb : Below W.heap.size W w1) (fr : Fresh3 W w1 T c2 m1 m2 v) (st1 : StoAt w2 K1 base c T1) (hs : StepT w1 w2 K K1) :
    ∃ K2, Two w2 K2 base c2 r T N := by
  have hbase : base ≤ W.heap.size := Nat.le_trans h.st.base_lt (Nat.le_of_lt h.st.lt)
  have hK0 : ∀ k, W.heap.size ≤ k → k < w1.heap.size → K1 k = 0 := fun k h1 h2 => by rw [hs.ext k h2]; exact h.st.fr k h1
  have lc1 := fr.ob.lt
  have lm1 := fr.f1.lt
  have lm2 := fr.f2.lt
  have z1 := hK0 c2 fr.lc lc1
  have z2 := hK0 m1 fr.l1 lm1
  have z3 := hK0 m2 fr.l2 lm2
  have z4 : ∀ k, v.ownBlock = some k → K1 k = 0 := fun k hk => hK0 k (own_lt fr.rw' hk).1 (own_lt fr.rw' hk).2
  let K2 : Nat → Nat := fun k => if k = c2 then 1 else if v.ownBlock = some k then 2 else if k = m1 then 6 else if k = m2 then 7 else if 9 ≤ K1 k then K1 k else 0
  have same : ∀ k, 9 ≤ K1 k → K2 k = K1 k := fun k hk => by
    show (if k = c2 then 1 else if v.ownBlock = some k then 2 else if k = m1 then 6 else if k = m2 then 7 else if 9 ≤ K1 k then K1 k else 0) = K1 k
    rw [if_neg (fun e => by rw [e, z1] at hk; omega), if_neg (fun e => by rw [z4 k e] at hk; omega), if_neg (fun e => by rw [e, z2] at hk; omega), if_neg (fun e => by rw [e, z3] at hk; omega), if_pos hk]
  have fr2 : ∀ k, w2.heap.size ≤ k → K2 k = 0 := fun k hk => by
    have hsz := hs.only.size
    show (if k = c2 then 1 else if v.ownBlock = some k then 2 else if k = m1 then 6 else if k = m2 then 7 else if 9 ≤ K1 k then K1 k else 0) = 0
    rw [if_neg (by omega), if_neg (fun e => by have := (own_lt fr.rw' e).2; omega), if_neg (by omega), if_neg (by omega), if_neg (by rw [st1.fr k hk]; omega)]
  have lo2 : ∀ k, k < base → K2 k = 0 := fun k hk => by
    have a := fr.lc
    have b := fr.l1
    have d := fr.l2
    show (if k = c2 then 1 else if v.ownBlock = some k then 2 else if k = m1 then 6 else if k = m2 then 7 else if 9 ≤ K1 k then K1 k else 0) = 0
    rw [if_neg (by omega), if_neg (fun e => by have := (own_lt fr.rw' e).1; omega), if_neg (by omega), if_neg (by omega), if_neg (by rw [st1.lo k hk]; omega)]
  have kc : K2 c2 = 1 := if_pos rfl
  have kv : ∀ k, v.ownBlock = some k → K2 k = 2 := fun k hk => by
    show (if k = c2 then 1 else if v.ownBlock = some k then 2 else _) = 2
    rw [if_neg (fun e => fr.d4 (by rw [← e]; exact hk)), if_pos hk]
  have k1 : K2 m1 = 6 := by
    show (if m1 = c2 then 1 else if v.ownBlock = some m1 then 2 else if m1 = m1 then 6 else _) = 6
    rw [if_neg fr.d1, if_neg fr.d5, if_pos rfl]
  have k2 : K2 m2 = 7 := by
    show (if m2 = c2 then 1 else if v.ownBlock = some m2 then 2 else if m2 = m1 then 6 else if m2 = m2 then 7 else _) = 7
    rw [if_neg fr.d2, if_neg fr.d6, if_neg (fun e => fr.d3 e.symm), if_pos rfl]
  have n1 : ¬ (1 ≤ K c2 ∧ K c2 ≤ 8) := by rw [h.st.fr c2 fr.lc]; omega
  have rf1 := (h.rf.later hb).step hs st1.fr st1.lo
  refine ⟨K2, ⟨fr2, lo2, kc, _, m1, m2, fr.ob.only hs.only n1, ⟨⟨own_base (own_only fr.rw' hs.only (fun k hk => by rw [h.st.fr k (own_lt fr.rw' hk).1]; omega)) (fun _ _ => Nat.zero_le _), kv⟩, rfl, rfl, k1, k2, fr.f1.only hs.only (by rw [h.st.fr m1 fr.l1]; omega), fr.f2.only hs.only (by rw [h.st.fr m2 fr.l2]; omega), fun i x hi => ?_⟩⟩, h.g, ?_, h.al, h.l3⟩
  · have ha := ((h.st.later hb).nargs hi).only (h.st.later hb).fr hs.only hs.ext (fun k e => by omega)
    exact ⟨ha.ints, fun ad e => by have h9 := ha.tg ad e; rw [same _ (by omega)]; exact h9⟩
  · refine ⟨fr2, lo2, by rw [same r (by rw [rf1.kr]; omega)]; exact rf1.kr, ?_, fun i x hi => ⟨(rf1.ar i x hi).1, fun ad e => by have h9 := (rf1.ar i x hi).2 ad e; rw [same _ (by omega)]; exact h9⟩, rf1.fz, rf1.z⟩
    obtain ⟨v0, a0, b0⟩ := rf1.e0
    exact ⟨v0, a0, b0.own, fun k hk => by have h9 := b0.tg k hk; rw [same _ (by omega)]; exact h9⟩
end Go.Proofs.Ytkjmmdffelhkiaa
