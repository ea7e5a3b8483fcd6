/- The document's table: declarations and pushes. -/
import Derived.Test.YtkjmmdffelhkiaaS20
namespace Go.Proofs.Ytkjmmdffelhkiaa
open Go Go.RowKit Go.Maps

variable {W : World} {K : Nat → Nat} {base c r : Nat} {T : Tab}
theorem RefAt.push0 (h : RefAt W K r) (hT : TabAt W K base c T) {W1 : World} {v' : Value} {p : Option Addr} {n z : Nat} (h0 : W.cell? ⟨r, 0, none⟩ = some (.slice p n z)) (es : List Ent) (hr : RowAt W K 12 140 6 (.slice p n z) n (flatE es)) (x : Ent) (hl : es.length < 2000) (own : W1.ownsRow 0 140 6 v' (es.length + 1) (flatE es ++ entV x)) (hg : W.grownBy W1 (Value.slice p n z).ownBlock) (hloc : v'.ownBlock = (Value.slice p n z).ownBlock ∨ v'.ownBlock = some W.heap.size) :
    ∃ K', TabAt (W1.setCell ⟨r, 0, none⟩ v') K' base c T ∧ RefAt (W1.setCell ⟨r, 0, none⟩ v') K' r ∧ StepR W (W1.setCell ⟨r, 0, none⟩ v') K K' ∧ W1.cell? ⟨r, 0, none⟩ = some (.slice p n z) ∧ W1.frozen? ⟨r, 0, none⟩ = false ∧ ∀ a v, W.cell? a = some v → K a.block ≠ 12 → W1.cell? a = some v := by
  obtain ⟨r1, ho, hx, hf, hlo⟩ := hr.grow own hg hloc hT.fr hT.lo (Nat.le_trans hT.base_lt (Nat.le_of_lt hT.lt)) (by omega)
  have kr' : upK K v'.ownBlock 12 r = 11 := (hx r h.lt).trans h.kr
  have hcr : ¬ K r = 12 := by rw [h.kr]; omega
  have ho2 : Only (fun k => k = r) W1 (W1.setCell ⟨r, 0, none⟩ v') := Only.of_setCell W1 ⟨r, 0, none⟩ v'
  have hs : StepR W (W1.setCell ⟨r, 0, none⟩ v') K (upK K v'.ownBlock 12) := ⟨ho.comp ho2 (fun k _ e => by omega) (fun k _ e => by have e2 : k = r := e; show 11 ≤ K k; rw [e2, h.kr]; omega), hx⟩
  obtain ⟨v2, es2, a2, b2, c2⟩ := h.e2
  obtain ⟨d, d1, d2, d3⟩ := h.dp
  refine ⟨_, hT.side hs (fun k hk => hf k (by simpa using hk)) hlo, ⟨kr', ⟨_, es ++ [x], World.cell?_setCell_same _ _ _ (ho.cell h0 hcr), (by rw [List.length_append, flatE_snoc]; exact r1.only ho2 (Ext.refl _ _) (fun k e1 e2 => by have e3 : k = r := e2; rw [e3, kr'] at e1; omega)), by rw [List.length_append]; simp; omega⟩, ⟨v2, es2, by rw [World.cell?_setCell_other _ _ _ _ (by intro e; cases e)]; exact ho.cell a2 hcr, (b2.only ho hx (fun k e => by omega)).only ho2 (Ext.refl _ _) (fun k e1 e2 => by have e3 : k = r := e2; rw [e3, kr'] at e1; omega), c2⟩, ⟨d, d1, d2, by rw [World.cell?_setCell_other _ _ _ _ (by intro e; cases e)]; exact ho.cell d3 hcr⟩, fun j => by rw [World.frozen?_setCell, ho.frozen h.lt hcr]; exact h.fz j⟩, hs, ho.cell h0 hcr, by rw [ho.frozen h.lt hcr]; exact h.fz 0, fun a v hc hn => ho.cell hc hn⟩
theorem RefAt.push1 (h : RefAt W K r) (hT : TabAt W K base c T) {W1 : World} {v' : Value} {p : Option Addr} {n z : Nat} (h0 : W.cell? ⟨r, 1, none⟩ = some (.slice p n z)) (es : List Ent) (hr : RowAt W K 13 140 6 (.slice p n z) n (flatE es)) (x : Ent) (hl : es.length < 2000) (own : W1.ownsRow 0 140 6 v' (es.length + 1) (flatE es ++ entV x)) (hg : W.grownBy W1 (Value.slice p n z).ownBlock) (hloc : v'.ownBlock = (Value.slice p n z).ownBlock ∨ v'.ownBlock = some W.heap.size) :
    ∃ K', TabAt (W1.setCell ⟨r, 1, none⟩ v') K' base c T ∧ RefAt (W1.setCell ⟨r, 1, none⟩ v') K' r ∧ StepR W (W1.setCell ⟨r, 1, none⟩ v') K K' ∧ W1.cell? ⟨r, 1, none⟩ = some (.slice p n z) ∧ W1.frozen? ⟨r, 1, none⟩ = false ∧ ∀ a v, W.cell? a = some v → K a.block ≠ 13 → W1.cell? a = some v := by
  obtain ⟨r1, ho, hx, hf, hlo⟩ := hr.grow own hg hloc hT.fr hT.lo (Nat.le_trans hT.base_lt (Nat.le_of_lt hT.lt)) (by omega)
  have kr' : upK K v'.ownBlock 13 r = 11 := (hx r h.lt).trans h.kr
  have hcr : ¬ K r = 13 := by rw [h.kr]; omega
  have ho2 : Only (fun k => k = r) W1 (W1.setCell ⟨r, 1, none⟩ v') := Only.of_setCell W1 ⟨r, 1, none⟩ v'
  have hs : StepR W (W1.setCell ⟨r, 1, none⟩ v') K (upK K v'.ownBlock 13) := ⟨ho.comp ho2 (fun k _ e => by omega) (fun k _ e => by have e2 : k = r := e; show 11 ≤ K k; rw [e2, h.kr]; omega), hx⟩
  obtain ⟨v2, es2, a2, b2, c2⟩ := h.e1
  obtain ⟨d, d1, d2, d3⟩ := h.dp
  refine ⟨_, hT.side hs (fun k hk => hf k (by simpa using hk)) hlo, ⟨kr', ⟨v2, es2, by rw [World.cell?_setCell_other _ _ _ _ (by intro e; cases e)]; exact ho.cell a2 hcr, (b2.only ho hx (fun k e => by omega)).only ho2 (Ext.refl _ _) (fun k e1 e2 => by have e3 : k = r := e2; rw [e3, kr'] at e1; omega), c2⟩, ⟨_, es ++ [x], World.cell?_setCell_same _ _ _ (ho.cell h0 hcr), (by rw [List.length_append, flatE_snoc]; exact r1.only ho2 (Ext.refl _ _) (fun k e1 e2 => by have e3 : k = r := e2; rw [e3, kr'] at e1; omega)), by rw [List.length_append]; simp; omega⟩, ⟨d, d1, d2, by rw [World.cell?_setCell_other _ _ _ _ (by intro e; cases e)]; exact ho.cell d3 hcr⟩, fun j => by rw [World.frozen?_setCell, ho.frozen h.lt hcr]; exact h.fz j⟩, hs, ho.cell h0 hcr, by rw [ho.frozen h.lt hcr]; exact h.fz 1, fun a v hc hn => ho.cell hc hn⟩
theorem info140 : ∃ i0, Try.prog.info? 140 = some i0 ∧ i0.zero = some (.agg #[.string ⟨#[]⟩, .slice none 0 0, .int .i64 0, .bool false, .int .i64 0, .bool false]) ∧ i0.size = 6 ∧ i0.bytes = 72 := info_of (by kernel_rfl)
def RDecl (T : Tab) (base c r : Nat) (K : Nat → Nat) (W : World) (e : Ending) (w' : World) : Prop :=
  ∃ K' s er, e = .returned (.tuple #[.int .i64 s, .int .i64 er]) ∧ TabAt w' K' base c T ∧ RefAt w' K' r ∧ StepR W w' K K'
def ROne (T : Tab) (base c r : Nat) (K : Nat → Nat) (W : World) (e : Ending) (w' : World) : Prop :=
  ∃ K' er, e = .returned (.int .i64 er) ∧ TabAt w' K' base c T ∧ RefAt w' K' r ∧ StepR W w' K K'
set_option maxRecDepth 100000 in
set_option maxHeartbeats 1600000 in
theorem refPush_any (hT : TabAt W K base c T) (h : RefAt W K r) : Calls Try.prog 54 #[.pointer (some ⟨r, 0, none⟩)] W (ROne T base c r K W) := by
  obtain ⟨d, d1, d2, d3⟩ := h.dp
  have f2 := h.fz 2
  have ho2 := fun u => Only.of_setCell W ⟨r, 2, none⟩ u
  have hs : ∀ u, StepR W (W.setCell ⟨r, 2, none⟩ u) K K := fun u => ⟨(ho2 u).mono (fun k _ e => by have e2 : k = r := e; show 11 ≤ K k; rw [e2, h.kr]; omega), Ext.refl _ _⟩
  have H := Lib.hid h
  have HT := Lib.hid hT
  have HS := Lib.hid hs
  clear h hT hs ho2
  by_cases h2 : 200 ≤ d
  · go_enter Try.func54, Try.ntmps54
    go_wp2_with fail
    go_ret
    exact ⟨K, _, rfl, HT.out, H.out, StepR.refl _ _⟩
  · go_enter Try.func54, Try.ntmps54
    go_wp2_with fail
    go_ret
    obtain ⟨v1, es1, a1, b1, c1⟩ := H.out.e1
    obtain ⟨v2, es2, a2, b2, c2⟩ := H.out.e2
    have hS := HS.out (.int .i64 (d + 1))
    have hK : ∀ t, t ≠ 11 → ∀ k, K k = t → ¬ k = r := fun t ht k e e2 => ht (by rw [← e, e2]; exact H.out.kr)
    refine ⟨K, _, rfl, HT.out.side hS (fun k hk => HT.out.fr k (by simpa using hk)) HT.out.lo, ⟨H.out.kr, ⟨v1, es1, by rw [World.cell?_setCell_other _ _ _ _ (by intro e; cases e)]; exact a1, b1.only (Only.of_setCell W ⟨r, 2, none⟩ _) (Ext.refl _ _) (hK _ (by omega)), c1⟩, ⟨v2, es2, by rw [World.cell?_setCell_other _ _ _ _ (by intro e; cases e)]; exact a2, b2.only (Only.of_setCell W ⟨r, 2, none⟩ _) (Ext.refl _ _) (hK _ (by omega)), c2⟩, ⟨d + 1, by omega, by omega, World.cell?_setCell_same _ _ _ d3⟩, fun i => by rw [World.frozen?_setCell]; exact H.out.fz i⟩, hS⟩
set_option maxRecDepth 100000 in
set_option maxHeartbeats 4000000 in
theorem refSort_any (hT : TabAt W K base c T) (h : RefAt W K r) (s : ByteArray) (hs : s.size ≤ 100000) : Calls Try.prog 51 #[.pointer (some ⟨r, 0, none⟩), .string s] W (RDecl T base c r K W) := by
  obtain ⟨p, z, es, a1, b1, c1⟩ := h.row1
  have HM := may_any s true W hs
  have HF := find_any p z es s W b1 c1
  have hD : Below W.heap.size W W.drew := (Below.refl _ _).drew
  obtain ⟨i0, hi, hz0, hz1, hz2⟩ := info140
  have H := Lib.hid (h.later hD)
  have HT := Lib.hid (hT.later hD)
  have H0 := Lib.hid (And.intro hT h)
  have HD := Lib.hid hD
  have HR := Lib.hid (b1.only (Only.of_below (T := fun _ => False) hD) (Ext.refl _ _) (fun _ _ h => h))
  clear h hT hD b1
  go_enter Try.func51, Try.ntmps51
  go_wp2_with fail
  refine HM.mono ?_
  rintro e w1 ⟨b, rfl, hw⟩
  obtain rfl := hw.symm
  cases b
  · go_wp2_with fail
    go_ret2
    exact ⟨K, _, _, rfl, H0.out.1, H0.out.2, StepR.refl _ _⟩
  clear HM
  go_wp2_with fail
  refine HF.mono ?_
  rintro e w1 ⟨i, hi1, hi2, rfl, hw⟩
  obtain rfl := hw.symm
  clear HF
  by_cases h3 : 0 ≤ i
  · go_wp2_with fail
    go_ret2
    exact ⟨K, _, _, rfl, H0.out.1, H0.out.2, StepR.refl _ _⟩
  by_cases h4 : 2000 ≤ es.length
  · go_wp2_with fail
    go_ret2
    exact ⟨K, _, _, rfl, H0.out.1, H0.out.2, StepR.refl _ _⟩
  go_wp2_with fail
  obtain ⟨d, d1, d2, d3⟩ := H.out.dp
  replace a1 := cell_later HD.out a1
  refine wp_region_L [(1000, (fun _ => True : World → Prop)), (16, (fun w => w.cell? ⟨r, 0, none⟩ = some (.slice p es.length z) : World → Prop)), (1000, (fun w => w.cell? ⟨r, 2, none⟩ = some (.int .i64 d) : World → Prop))] (by kernel_rfl) (SL.cons (fun _ => trivial) (SL.cons (fun _ => a1) (SL.cons (fun _ => d3) SL.nil))) (fun hHeld => ?_)
  generalize W.drew = w2 at *
  refine wpAnyL_take 0 _ _ (i := 0) (oi := { dst := some 25, op := Op.move (Operand.tmp 0), type := 27, pos := "ref.go:74", after := #[], guard := none }) (v := ?_) rfl (by kernel_rfl) (by kernel_rfl) (by kernel_rfl) (fun _ _ _ h => h) rfl (by kernel_rfl) (by kernel_rfl) (by kernel_rfl) (Or.inl ⟨by rfl, ?_⟩) hHeld (fun hHeld => ?_)
  rotate_left
  · intro w hSw
    (try dsimp only at hSw)
    go_simp
    try with_reducible rfl
  try simp only [Act.put, List.setIfInBounds_toArray, List.set_cons_zero, List.set_cons_succ]
  refine wpAnyL_take 0 _ _ (i := 1) (oi := { dst := some 26, op := Op.move (Operand.tmp 0), type := 27, pos := "ref.go:74", after := #[], guard := none }) (v := ?_) rfl (by kernel_rfl) (by kernel_rfl) (by kernel_rfl) (fun _ _ _ h => h) rfl (by kernel_rfl) (by kernel_rfl) (by kernel_rfl) (Or.inl ⟨by rfl, ?_⟩) hHeld (fun hHeld => ?_)
  rotate_left
  · intro w hSw
    (try dsimp only at hSw)
    go_simp
    try with_reducible rfl
  try simp only [Act.put, List.setIfInBounds_toArray, List.set_cons_zero, List.set_cons_succ]
  refine wpAnyL_take 0 _ _ (i := 2) (oi := { dst := some 27, op := Op.nilCheck (Operand.tmp 26), type := 0, pos := "ref.go:74", after := #[{ on := 1, ground := Ground.data }], guard := none }) (v := ?_) rfl (by kernel_rfl) (by kernel_rfl) (by kernel_rfl) (fun _ _ _ h => h) rfl (by kernel_rfl) (by kernel_rfl) (by kernel_rfl) (Or.inl ⟨by rfl, ?_⟩) hHeld (fun hHeld => ?_)
  rotate_left
  · intro w hSw
    (try dsimp only at hSw)
    go_simp
    try with_reducible rfl
  try simp only [Act.put, List.setIfInBounds_toArray, List.set_cons_zero, List.set_cons_succ]
  refine wpAnyL_take 0 _ _ (i := 3) (oi := { dst := some 28, op := Op.fieldAddr 30 (Operand.tmp 27) 0, type := 0, pos := "ref.go:74", after := #[{ on := 2, ground := Ground.data }], guard := none }) (v := ?_) rfl (by kernel_rfl) (by kernel_rfl) (by kernel_rfl) (fun _ _ _ h => h) rfl (by kernel_rfl) (by kernel_rfl) (by kernel_rfl) (Or.inl ⟨by rfl, ?_⟩) hHeld (fun hHeld => ?_)
  rotate_left
  · intro w hSw
    (try dsimp only at hSw)
    go_simp
    try with_reducible rfl
  try simp only [Act.put, List.setIfInBounds_toArray, List.set_cons_zero, List.set_cons_succ]
  refine wpAnyL_take 1 _ _ (i := 4) (oi := { dst := some 29, op := Op.load 28 (Operand.tmp 28), type := 28, pos := "ref.go:74", after := #[{ on := 3, ground := Ground.data }], guard := none }) (v := ?_) rfl (by kernel_rfl) (by kernel_rfl) (by kernel_rfl) (fun _ _ _ h => h) rfl (by kernel_rfl) (by kernel_rfl) (by kernel_rfl) (Or.inl ⟨by rfl, ?_⟩) hHeld (fun hHeld => ?_)
  rotate_left
  · intro w hSw
    (try dsimp only at hSw)
    go_simp
    try with_reducible rfl
  try simp only [Act.put, List.setIfInBounds_toArray, List.set_cons_zero, List.set_cons_succ]
  refine wpAnyL_take 0 _ _ (i := 5) (oi := { dst := some 30, op := Op.move (Operand.tmp 1), type := 9, pos := "ref.go:74", after := #[], guard := none }) (v := ?_) rfl (by kernel_rfl) (by kernel_rfl) (by kernel_rfl) (fun _ _ _ h => h) rfl (by kernel_rfl) (by kernel_rfl) (by kernel_rfl) (Or.inl ⟨by rfl, ?_⟩) hHeld (fun hHeld => ?_)
  rotate_left
  · intro w hSw
    (try dsimp only at hSw)
    go_simp
    try with_reducible rfl
  try simp only [Act.put, List.setIfInBounds_toArray, List.set_cons_zero, List.set_cons_succ]
  refine wpAnyL_take 0 _ _ (i := 6) (oi := { dst := some 31, op := Op.build 35 #[(0, Operand.tmp 30)], type := 35, pos := "ref.go:74", after := #[{ on := 5, ground := Ground.data }], guard := none }) (v := ?_) rfl (by kernel_rfl) (by kernel_rfl) (by kernel_rfl) (fun _ _ _ h => h) rfl (by kernel_rfl) (by kernel_rfl) (by kernel_rfl) (Or.inl ⟨by rfl, ?_⟩) hHeld (fun hHeld => ?_)
  rotate_left
  · intro w hSw
    (try dsimp only at hSw)
    go_simp
    try with_reducible rfl
  try simp only [Act.put, List.setIfInBounds_toArray, List.set_cons_zero, List.set_cons_succ]
  refine wpAnyL_take 0 _ _ (i := 7) (oi := { dst := some 32, op := Op.move (Operand.tmp 0), type := 27, pos := "ref.go:74", after := #[], guard := none }) (v := ?_) rfl (by kernel_rfl) (by kernel_rfl) (by kernel_rfl) (fun _ _ _ h => h) rfl (by kernel_rfl) (by kernel_rfl) (by kernel_rfl) (Or.inl ⟨by rfl, ?_⟩) hHeld (fun hHeld => ?_)
  rotate_left
  · intro w hSw
    (try dsimp only at hSw)
    go_simp
    try with_reducible rfl
  try simp only [Act.put, List.setIfInBounds_toArray, List.set_cons_zero, List.set_cons_succ]
  refine wpAnyL_take 0 _ _ (i := 8) (oi := { dst := some 33, op := Op.nilCheck (Operand.tmp 32), type := 0, pos := "ref.go:74", after := #[{ on := 7, ground := Ground.data }], guard := none }) (v := ?_) rfl (by kernel_rfl) (by kernel_rfl) (by kernel_rfl) (fun _ _ _ h => h) rfl (by kernel_rfl) (by kernel_rfl) (by kernel_rfl) (Or.inl ⟨by rfl, ?_⟩) hHeld (fun hHeld => ?_)
  rotate_left
  · intro w hSw
    (try dsimp only at hSw)
    go_simp
    try with_reducible rfl
  try simp only [Act.put, List.setIfInBounds_toArray, List.set_cons_zero, List.set_cons_succ]
  refine wpAnyL_take 0 _ _ (i := 9) (oi := { dst := some 34, op := Op.fieldAddr 30 (Operand.tmp 33) 2, type := 0, pos := "ref.go:74", after := #[{ on := 8, ground := Ground.data }], guard := none }) (v := ?_) rfl (by kernel_rfl) (by kernel_rfl) (by kernel_rfl) (fun _ _ _ h => h) rfl (by kernel_rfl) (by kernel_rfl) (by kernel_rfl) (Or.inl ⟨by rfl, ?_⟩) hHeld (fun hHeld => ?_)
  rotate_left
  · intro w hSw
    (try dsimp only at hSw)
    go_simp
    try with_reducible rfl
  try simp only [Act.put, List.setIfInBounds_toArray, List.set_cons_zero, List.set_cons_succ]
  refine wpAnyL_take 2 _ _ (i := 10) (oi := { dst := some 35, op := Op.load 3 (Operand.tmp 34), type := 3, pos := "ref.go:74", after := #[{ on := 9, ground := Ground.data }], guard := none }) (v := ?_) rfl (by kernel_rfl) (by kernel_rfl) (by kernel_rfl) (fun _ _ _ h => h) rfl (by kernel_rfl) (by kernel_rfl) (by kernel_rfl) (Or.inl ⟨by rfl, ?_⟩) hHeld (fun hHeld => ?_)
  rotate_left
  · intro w hSw
    (try dsimp only at hSw)
    go_simp
    try with_reducible rfl
  try simp only [Act.put, List.setIfInBounds_toArray, List.set_cons_zero, List.set_cons_succ]
  refine wpAnyL_take 0 _ _ (i := 11) (oi := { dst := some 36, op := Op.build 140 #[(0, Operand.tmp 31), (1, Operand.tmp 35), (2, Operand.const (Value.bool true))], type := 140, pos := "ref.go:74", after := #[{ on := 6, ground := Ground.data }, { on := 10, ground := Ground.data }], guard := none }) (v := ?_) rfl (by kernel_rfl) (by kernel_rfl) (by kernel_rfl) (fun _ _ _ h => h) rfl (by kernel_rfl) (by kernel_rfl) (by kernel_rfl) (Or.inl ⟨by rfl, ?_⟩) hHeld (fun hHeld => ?_)
  rotate_left
  · intro w hSw
    (try dsimp only at hSw)
    go_simp
    try with_reducible rfl
  try simp only [Act.put, List.setIfInBounds_toArray, List.set_cons_zero, List.set_cons_succ]
  refine wpAnyL_ready (rs := [12]) (by kernel_rfl) (by simp) ?_
  refine AllReadyL.cons (o := { dst := some 37, op := Op.buildSlice 28 1 #[(0, Operand.tmp 36)], type := 28, pos := "ref.go:74", after := #[{ on := 11, ground := Ground.data }], guard := none }) rfl (fun K hK => ?_) AllReadyL.nil
  go_simp
  refine hK.out _ _ (SL.cons (fun _ => trivial) (SL.cons (fun _ => cell_later (below1 w2 _) a1) (SL.cons (fun _ => cell_later (below1 w2 _) d3) SL.nil))) (fun hHeld => ?_)
  clear hK K
  try simp only [Act.put, List.setIfInBounds_toArray, List.set_cons_zero, List.set_cons_succ]
  have hb7 := below1 w2 (.cells #[.string s, .slice none 0 0, .int .i64 0, .bool false, .int .i64 d, .bool true] 140)
  have H7 := Lib.hid (H.out.later hb7)
  have HT7 := Lib.hid (HT.out.later hb7)
  have HB7 := Lib.hid hb7
  have HS7 := Lib.hid ((StepR.below (K := K) HD.out).trans (StepR.below hb7))
  have HR7 := Lib.hid (HR.out.only (Only.of_below (T := fun _ => False) hb7) (Ext.refl _ _) (fun _ _ h => h))
  replace a1 := cell_later hb7 a1
  replace d3 := cell_later hb7 d3
  have n0 : (w2.alloc (.cells #[.string s, .slice none 0 0, .int .i64 0, .bool false, .int .i64 d, .bool true] 140)).cell? ⟨w2.heap.size, 0, none⟩ = some (.string s) := by simp [go_sem]
  have n1 : (w2.alloc (.cells #[.string s, .slice none 0 0, .int .i64 0, .bool false, .int .i64 d, .bool true] 140)).cell? ⟨w2.heap.size, 1, none⟩ = some (.slice none 0 0) := by simp [go_sem]
  have n2 : (w2.alloc (.cells #[.string s, .slice none 0 0, .int .i64 0, .bool false, .int .i64 d, .bool true] 140)).cell? ⟨w2.heap.size, 2, none⟩ = some (.int .i64 0) := by simp [go_sem]
  have n3 : (w2.alloc (.cells #[.string s, .slice none 0 0, .int .i64 0, .bool false, .int .i64 d, .bool true] 140)).cell? ⟨w2.heap.size, 3, none⟩ = some (.bool false) := by simp [go_sem]
  have n4 : (w2.alloc (.cells #[.string s, .slice none 0 0, .int .i64 0, .bool false, .int .i64 d, .bool true] 140)).cell? ⟨w2.heap.size, 4, none⟩ = some (.int .i64 d) := by simp [go_sem]
  have n5 : (w2.alloc (.cells #[.string s, .slice none 0 0, .int .i64 0, .bool false, .int .i64 d, .bool true] 140)).cell? ⟨w2.heap.size, 5, none⟩ = some (.bool true) := by simp [go_sem]
  clear hb7 hHeld
  refine wpAnyL_ready (rs := [13]) (by kernel_rfl) (by simp) ?_
  refine AllReadyL.cons (o := { dst := some 38, op := Op.call { callee := Callee.builtin Builtin.append, args := #[Operand.tmp 29, Operand.tmp 37], argTypes := #[28, 28] }, type := 28, pos := "ref.go:74", after := #[{ on := 4, ground := Ground.data }, { on := 12, ground := Ground.data }], guard := none }) rfl (fun K hK => ?_) AllReadyL.nil
  rw [if_pos (by rfl)]
  refine wp_append_own_at _ _ 28 (by rfl) 0 140 i0 (.agg #[.string ⟨#[]⟩, .slice none 0 0, .int .i64 0, .bool false, .int .i64 0, .bool false]) 6 72 Try.underlying28 hi hz0 hz1 hz2 rfl (by omega) _ es.length (flatE es) (by rfl) HR7.out.own ⟨w2.heap.size, 0, none⟩ 1 1 (entV ⟨s, none, 0, 0, 0, false, d, true⟩) (by rfl) (by rfl) ?_ ?_ ?_ ?_ ?_ ?_
  · intro jj u hjj
    rw [Lib.add_plain]
    match jj, hjj with
    | 0, hjj => cases hjj; exact n0
    | 1, hjj => cases hjj; exact n1
    | 2, hjj => cases hjj; exact n2
    | 3, hjj => cases hjj; exact n3
    | 4, hjj => cases hjj; exact n4
    | 5, hjj => cases hjj; exact n5
  · intro u hu; simp [entV] at hu; rcases hu with rfl | rfl | rfl | rfl | rfl | rfl <;> rfl
  · have hml : maxLen = 9223372036854775807 := rfl; omega
  · omega
  · exact Nat.zero_le _
  intro v8 w8 hown hgrow hnil_ hloc
  obtain ⟨p8, c8, hv⟩ := own_shape hown
  subst hv
  clear hnil_
  obtain ⟨K8, hT8, hR8, hS8, x8, f8, hk8⟩ := H7.out.push0 HT7.out a1 es HR7.out ⟨s, none, 0, 0, 0, false, d, true⟩ (by omega) hown hgrow (by simpa using hloc)
  have HT8 := Lib.hid hT8
  have HR8 := Lib.hid hR8
  have HS8 := Lib.hid (HS7.out.trans hS8)
  have y3 := hk8 _ _ d3 (by have := H7.out.kr; simp only; omega)
  clear hown hgrow hloc hT8 hR8 hS8 hk8 n0 n1 n2 n3 n4 n5
  refine hK.out _ _ (SL.cons (fun _ => trivial) (SL.cons (fun _ => x8) (SL.cons (fun _ => y3) SL.nil))) (fun hHeld => ?_)
  clear hK K
  try simp only [Act.put, List.setIfInBounds_toArray, List.set_cons_zero, List.set_cons_succ]
  refine wpAnyL_take 0 _ _ (i := 14) (oi := { dst := some 39, op := Op.nilCheck (Operand.tmp 25), type := 0, pos := "ref.go:74", after := #[{ on := 0, ground := Ground.data }, { on := 0, ground := Ground.phase }, { on := 1, ground := Ground.phase }, { on := 2, ground := Ground.phase }, { on := 3, ground := Ground.phase }, { on := 4, ground := Ground.phase }, { on := 5, ground := Ground.phase }, { on := 6, ground := Ground.phase }, { on := 7, ground := Ground.phase }, { on := 8, ground := Ground.phase }, { on := 9, ground := Ground.phase }, { on := 10, ground := Ground.phase }, { on := 11, ground := Ground.phase }, { on := 12, ground := Ground.phase }, { on := 13, ground := Ground.phase }], guard := none }) (v := ?_) rfl (by kernel_rfl) (by kernel_rfl) (by kernel_rfl) (fun _ _ _ h => h) rfl (by kernel_rfl) (by kernel_rfl) (by kernel_rfl) (Or.inl ⟨by rfl, ?_⟩) hHeld (fun hHeld => ?_)
  rotate_left
  · intro w hSw
    (try dsimp only at hSw)
    go_simp
    try with_reducible rfl
  try simp only [Act.put, List.setIfInBounds_toArray, List.set_cons_zero, List.set_cons_succ]
  refine wpAnyL_take 0 _ _ (i := 15) (oi := { dst := some 40, op := Op.fieldAddr 30 (Operand.tmp 39) 0, type := 0, pos := "ref.go:74", after := #[{ on := 14, ground := Ground.data }, { on := 0, ground := Ground.phase }, { on := 1, ground := Ground.phase }, { on := 2, ground := Ground.phase }, { on := 3, ground := Ground.phase }, { on := 4, ground := Ground.phase }, { on := 5, ground := Ground.phase }, { on := 6, ground := Ground.phase }, { on := 7, ground := Ground.phase }, { on := 8, ground := Ground.phase }, { on := 9, ground := Ground.phase }, { on := 10, ground := Ground.phase }, { on := 11, ground := Ground.phase }, { on := 12, ground := Ground.phase }, { on := 13, ground := Ground.phase }], guard := none }) (v := ?_) rfl (by kernel_rfl) (by kernel_rfl) (by kernel_rfl) (fun _ _ _ h => h) rfl (by kernel_rfl) (by kernel_rfl) (by kernel_rfl) (Or.inl ⟨by rfl, ?_⟩) hHeld (fun hHeld => ?_)
  rotate_left
  · intro w hSw
    (try dsimp only at hSw)
    go_simp
    try with_reducible rfl
  try simp only [Act.put, List.setIfInBounds_toArray, List.set_cons_zero, List.set_cons_succ]
  refine wpAnyL_ready (rs := [16]) (by kernel_rfl) (by simp) ?_
  refine AllReadyL.cons (o := { dst := none, op := Op.store 28 (Operand.tmp 40) (Operand.tmp 38), type := 0, pos := "ref.go:74", after := #[{ on := 15, ground := Ground.data }, { on := 13, ground := Ground.data }, { on := 13, ground := Ground.chain }, { on := 0, ground := Ground.phase }, { on := 1, ground := Ground.phase }, { on := 2, ground := Ground.phase }, { on := 3, ground := Ground.phase }, { on := 4, ground := Ground.phase }, { on := 5, ground := Ground.phase }, { on := 6, ground := Ground.phase }, { on := 7, ground := Ground.phase }, { on := 8, ground := Ground.phase }, { on := 9, ground := Ground.phase }, { on := 10, ground := Ground.phase }, { on := 11, ground := Ground.phase }, { on := 12, ground := Ground.phase }, { on := 13, ground := Ground.phase }], guard := none }) rfl (fun K hK => ?_) AllReadyL.nil
  go_simp
  refine hK.out _ _ (SL.cons (fun _ => trivial) (SL.cons (fun h => absurd h (by decide +kernel)) (SL.cons (fun _ => by rw [World.cell?_setCell_other _ _ _ _ (by intro e; cases e)]; exact y3) SL.nil))) (fun hHeld => ?_)
  clear hK K
  try simp only [Act.put, List.setIfInBounds_toArray, List.set_cons_zero, List.set_cons_succ]
  refine wpAnyL_done (by kernel_rfl) ?_ _
  have x9 : (w8.setCell ⟨r, 0, none⟩ (.slice p8 (es.length + 1) c8)).cell? ⟨r, 0, none⟩ = some (.slice p8 (es.length + 1) c8) := World.cell?_setCell_same _ _ _ x8
  generalize w8.setCell ⟨r, 0, none⟩ (.slice p8 (es.length + 1) c8) = w9 at *
  clear x8 f8 hHeld y3
  go_wp2_with fail
  go_ret2
  exact ⟨K8, _, _, rfl, HT8.out, HR8.out, HS8.out⟩
end Go.Proofs.Ytkjmmdffelhkiaa
