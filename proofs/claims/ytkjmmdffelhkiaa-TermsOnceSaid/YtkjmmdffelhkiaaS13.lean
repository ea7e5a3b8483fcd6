/- Pop. -/
import Derived.Test.YtkjmmdffelhkiaaS12
namespace Go.Proofs.Ytkjmmdffelhkiaa
open Go Go.RowKit Go.Maps

variable {W : World} {K : Nat → Nat} {base c : Nat} {T : Tab}
def PopP (T : Tab) (n : Int) (base c : Nat) (K : Nat → Nat) (W : World) (e : Ending) (w' : World) : Prop :=
  ∃ T' er, e = .returned (.int .i64 er) ∧ TabAt w' K base c T' ∧ Good T' ∧ StepT W w' K K ∧ ((er ≠ 0 ∧ T' = T ∧ (n < 0 ∨ (T.scopes.length : Int) < n)) ∨ (er = 0 ∧ n = 0 ∧ T' = T) ∨
    (er = 0 ∧ ∃ (l a b : Nat) (g1 : Lit → Option Value) (n1 : Nat) (g2 : Lit → Option Value) (n2 : Nat), 0 < n ∧ (l : Int) = T.scopes.length - n ∧ T.scopes[l]? = some (a, b) ∧ T' = cutT T l a b g1 n1 g2 n2 ∧ Cut1 T a (T.sorts.length - a) g1 ∧ Cut2 T b (T.funs.length - b) g2))
structure R1 (W0 wr : World) (K : Nat → Nat) (base c : Nat) (T : Tab) (p2 : Option Addr) (z2 : Nat) (bb a b : Nat) (k : Nat) (g : Lit → Option Value) (n' : Nat) : Prop where
  tab : TabAt wr K base c { T with f1 := g, n1 := n' }
  st : StepT W0 wr K K
  c2 : wr.cell? ⟨c, 2, none⟩ = some (.slice p2 T.sorts.length z2)
  b0 : wr.cell? ⟨bb, 0, none⟩ = some (.int .i64 (a : Int))
  b1 : wr.cell? ⟨bb, 1, none⟩ = some (.int .i64 (b : Int))
  cut : Cut1 T a k g
  le : n' ≤ T.n1
structure R2 (W0 wr : World) (K : Nat → Nat) (base c : Nat) (T : Tab) (p3 : Option Addr) (z3 : Nat) (bb a b : Nat) (k : Nat) (g : Lit → Option Value) (n' : Nat) : Prop where
  tab : TabAt wr K base c { T with f2 := g, n2 := n' }
  st : StepT W0 wr K K
  c3 : wr.cell? ⟨c, 3, none⟩ = some (.slice p3 T.funs.length z3)
  b0 : wr.cell? ⟨bb, 0, none⟩ = some (.int .i64 (a : Int))
  b1 : wr.cell? ⟨bb, 1, none⟩ = some (.int .i64 (b : Int))
  cut : Cut2 T b k g
  le : n' ≤ T.n2
theorem StepT.cell {W W' : World} {K : Nat → Nat} (h : StepT W W' K K) {a : Addr} {v : Value} (hc : W.cell? a = some v) (h0 : K a.block = 0) : W'.cell? a = some v := h.only.cell hc (by omega)
theorem del_le (x y : Nat) (b : Bool) (h : x ≤ y) : (if b then x - 1 else x) ≤ y := by cases b <;> simp <;> omega
theorem low_get {p : Option Addr} {z a g n : Nat} (hp : p = some ⟨g, 0, none⟩) (ha : a < n) (hz : n ≤ z) : lowP p z a = some ⟨g, a, none⟩ := by
  unfold lowP
  rw [if_neg (by omega), hp]
  simp [Addr.add]
  try omega
set_option maxRecDepth 100000 in
set_option maxHeartbeats 8000000 in
theorem pop_any (h : TabAt W K base c T) (g : Good T) (n : Int) (hI : I64 n) :
    Calls Try.prog 20 #[.pointer (some ⟨c, 0, none⟩), .int .i64 n] W (PopP T n base c K W) := by
  have HR := ready_at h
  obtain ⟨p6, z6, x6, o6⟩ := h.row6
  have hb3 := g.b3
  have hb1 := g.b1
  have hb2 := g.b2
  have hb4 := g.b4
  have hb5 := g.b5
  have H := Lib.hid h
  have HG := Lib.hid g
  have HO6 := Lib.hid o6
  unfold I64 at hI
  clear h g o6
  go_enter Try.func20, Try.ntmps20
  go_wp2_with fail
  refine HR.mono ?_
  rintro e w1 ⟨rfl, rfl⟩
  clear HR
  by_cases hn0 : n < 0
  · go_wp2_with fail
    go_ret
    exact ⟨T, _, rfl, H.out, HG.out, StepT.refl _ _, .inl ⟨by omega, rfl, .inl hn0⟩⟩
  by_cases hn1 : (T.scopes.length : Int) < n
  · go_wp2_with fail
    go_ret
    exact ⟨T, _, rfl, H.out, HG.out, StepT.refl _ _, .inl ⟨by omega, rfl, .inr hn1⟩⟩
  by_cases hn2 : n = 0
  · subst hn2
    go_wp2_with fail
    go_ret
    exact ⟨T, _, rfl, H.out, HG.out, StepT.refl _ _, .inr (.inl ⟨rfl, rfl, rfl⟩)⟩
  have q0 : (n == 0) = false := by simpa using hn2
  obtain ⟨l, hl⟩ : ∃ l : Nat, (l : Int) = (T.scopes.length : Int) - n := ⟨(T.scopes.length - n).toNat, by omega⟩
  have hll : l < T.scopes.length := by omega
  have hn : n = (T.scopes.length : Int) - (l : Int) := by omega
  have HL := Lib.hid hl
  obtain ⟨ab, hab⟩ : ∃ ab, T.scopes[l]? = some ab := ⟨_, List.getElem?_eq_getElem hll⟩
  obtain ⟨a, b⟩ := ab
  have HAB := Lib.hid hab
  have h6 := HG.out.g6 _ (List.mem_of_getElem? hab)
  simp only at h6
  obtain ⟨ha, hb⟩ := h6
  obtain ⟨g6, z6', e6⟩ := own_some HO6.out (by omega)
  cases e6
  have hg := flatP_get T.scopes l (a, b) hab
  obtain ⟨g6', z6', e6, _, hc6⟩ := own_cells HO6.out (by simp)
  cases e6
  have s0 := hc6 _ _ hg.1
  have s1 := hc6 _ _ hg.2
  unfold nV at s0 s1
  simp only at s0 s1
  have hl0 : (0 : Int) ≤ (l : Int) := by omega
  have hl1 : (l : Int) < (T.scopes.length : Int) := by omega
  have esub : wrap64 ((T.scopes.length : Int) - n) = (l : Int) := by rw [wrap64_eq]; omega
  have esub2 : (T.scopes.length : Int) - n = (l : Int) := by omega
  have HN := Lib.hid (And.intro hn0 (And.intro hn1 (And.intro hn2 hn)))
  clear hc6 hg hab hl hn hn2
  go_upto_region 11 with (fail)
  have hbox := below1 w1 (.cells #[.int .i64 (a : Int), .int .i64 (b : Int)] 114)
  have hD : Below w1.heap.size w1 (w1.alloc (.cells #[.int .i64 (a : Int), .int .i64 (b : Int)] 114)).drew := hbox.trans ((Below.refl _ _).drew)
  have y0 : (w1.alloc (.cells #[.int .i64 (a : Int), .int .i64 (b : Int)] 114)).drew.cell? ⟨w1.heap.size, 0, none⟩ = some (.int .i64 (a : Int)) := by simp [go_sem]
  have y1 : (w1.alloc (.cells #[.int .i64 (a : Int), .int .i64 (b : Int)] 114)).drew.cell? ⟨w1.heap.size, 1, none⟩ = some (.int .i64 (b : Int)) := by simp [go_sem]
  have HT2 := Lib.hid (H.out.later hD)
  have HS2 := Lib.hid (StepT.below (K := K) hD)
  have hkb : K w1.heap.size = 0 := H.out.fr _ (Nat.le_refl _)
  obtain ⟨p2, z2, x2, o2⟩ := HT2.out.row2
  have HO2 := Lib.hid o2
  have hc2 := own_caps o2
  have hsl := fun w => slice_low32 (p := p2) (z := z2) w ha
  clear hbox hD o2 x6 s0 s1 HO6 esub
  refine wp_region_L [(1000, (fun _ => True : World → Prop)), (1000, (fun w => w.cell? ⟨c, 2, none⟩ = some (.slice p2 T.sorts.length z2) : World → Prop)), (1000, (fun w => w.cell? ⟨w1.heap.size, 0, none⟩ = some (.int .i64 (a : Int)) : World → Prop))] (by kernel_rfl) (SL.cons (fun _ => trivial) (SL.cons (fun _ => x2) (SL.cons (fun _ => y0) SL.nil))) (fun hHeld => ?_)
  generalize (w1.alloc (.cells #[.int .i64 (a : Int), .int .i64 (b : Int)] 114)).drew = w2 at *
  generalize hbb : w1.heap.size = bb at *
  refine wpAnyL_take 0 _ _ (i := 0) (oi := { dst := some 43, op := Op.move (Operand.tmp 0), type := 25, pos := "sorts.go:230", after := #[], guard := none }) (v := ?_) rfl (by kernel_rfl) (by kernel_rfl) (by kernel_rfl) (fun _ _ _ h => h) rfl (by kernel_rfl) (by kernel_rfl) (by kernel_rfl) (Or.inl ⟨by rfl, ?_⟩) hHeld (fun hHeld => ?_)
  rotate_left
  · intro w hSw
    (try dsimp only at hSw)
    go_simp
    try with_reducible rfl
  try simp only [Act.put, List.setIfInBounds_toArray, List.set_cons_zero, List.set_cons_succ]
  refine wpAnyL_take 0 _ _ (i := 1) (oi := { dst := some 44, op := Op.nilCheck (Operand.tmp 43), type := 0, pos := "sorts.go:230", after := #[{ on := 0, ground := Ground.data }], guard := none }) (v := ?_) rfl (by kernel_rfl) (by kernel_rfl) (by kernel_rfl) (fun _ _ _ h => h) rfl (by kernel_rfl) (by kernel_rfl) (by kernel_rfl) (Or.inl ⟨by rfl, ?_⟩) hHeld (fun hHeld => ?_)
  rotate_left
  · intro w hSw
    (try dsimp only at hSw)
    go_simp
    try with_reducible rfl
  try simp only [Act.put, List.setIfInBounds_toArray, List.set_cons_zero, List.set_cons_succ]
  refine wpAnyL_take 0 _ _ (i := 2) (oi := { dst := some 45, op := Op.fieldAddr 60 (Operand.tmp 44) 2, type := 0, pos := "sorts.go:230", after := #[{ on := 1, ground := Ground.data }], guard := none }) (v := ?_) rfl (by kernel_rfl) (by kernel_rfl) (by kernel_rfl) (fun _ _ _ h => h) rfl (by kernel_rfl) (by kernel_rfl) (by kernel_rfl) (Or.inl ⟨by rfl, ?_⟩) hHeld (fun hHeld => ?_)
  rotate_left
  · intro w hSw
    (try dsimp only at hSw)
    go_simp
    try with_reducible rfl
  try simp only [Act.put, List.setIfInBounds_toArray, List.set_cons_zero, List.set_cons_succ]
  refine wpAnyL_take 1 _ _ (i := 3) (oi := { dst := some 46, op := Op.load 32 (Operand.tmp 45), type := 32, pos := "sorts.go:230", after := #[{ on := 2, ground := Ground.data }], guard := none }) (v := ?_) rfl (by kernel_rfl) (by kernel_rfl) (by kernel_rfl) (fun _ _ _ h => h) rfl (by kernel_rfl) (by kernel_rfl) (by kernel_rfl) (Or.inl ⟨by rfl, ?_⟩) hHeld (fun hHeld => ?_)
  rotate_left
  · intro w hSw
    (try dsimp only at hSw)
    go_simp
    try with_reducible rfl
  try simp only [Act.put, List.setIfInBounds_toArray, List.set_cons_zero, List.set_cons_succ]
  refine wpAnyL_take 0 _ _ (i := 4) (oi := { dst := some 47, op := Op.fieldAddr 114 (Operand.tmp 6) 0, type := 0, pos := "sorts.go:230", after := #[], guard := none }) (v := ?_) rfl (by kernel_rfl) (by kernel_rfl) (by kernel_rfl) (fun _ _ _ h => h) rfl (by kernel_rfl) (by kernel_rfl) (by kernel_rfl) (Or.inl ⟨by rfl, ?_⟩) hHeld (fun hHeld => ?_)
  rotate_left
  · intro w hSw
    (try dsimp only at hSw)
    go_simp
    try with_reducible rfl
  try simp only [Act.put, List.setIfInBounds_toArray, List.set_cons_zero, List.set_cons_succ]
  refine wpAnyL_take 2 _ _ (i := 5) (oi := { dst := some 48, op := Op.load 3 (Operand.tmp 47), type := 3, pos := "sorts.go:230", after := #[{ on := 4, ground := Ground.data }], guard := none }) (v := ?_) rfl (by kernel_rfl) (by kernel_rfl) (by kernel_rfl) (fun _ _ _ h => h) rfl (by kernel_rfl) (by kernel_rfl) (by kernel_rfl) (Or.inl ⟨by rfl, ?_⟩) hHeld (fun hHeld => ?_)
  rotate_left
  · intro w hSw
    (try dsimp only at hSw)
    go_simp
    try with_reducible rfl
  try simp only [Act.put, List.setIfInBounds_toArray, List.set_cons_zero, List.set_cons_succ]
  refine wpAnyL_take 0 _ _ (i := 6) (oi := { dst := some 49, op := Op.slice 32 (Operand.tmp 46) (some (Operand.tmp 48)) none none, type := 32, pos := "sorts.go:230", after := #[{ on := 3, ground := Ground.data }, { on := 5, ground := Ground.data }], guard := none }) (v := ?_) rfl (by kernel_rfl) (by kernel_rfl) (by kernel_rfl) (fun _ _ _ h => h) rfl (by kernel_rfl) (by kernel_rfl) (by kernel_rfl) (Or.inl ⟨by rfl, ?_⟩) hHeld (fun hHeld => ?_)
  rotate_left
  · intro w hSw
    (try dsimp only at hSw)
    have hsl1 := hsl w
    go_simp
    try with_reducible rfl
  try simp only [Act.put, List.setIfInBounds_toArray, List.set_cons_zero, List.set_cons_succ]
  refine wpAnyL_take 0 _ _ (i := 7) (oi := { dst := some 50, op := Op.call { callee := Callee.builtin Builtin.len, args := #[Operand.tmp 49], argTypes := #[32] }, type := 3, pos := "sorts.go:230", after := #[{ on := 6, ground := Ground.data }], guard := none }) (v := ?_) rfl (by kernel_rfl) (by kernel_rfl) (by kernel_rfl) (fun _ _ _ h => h) rfl (by kernel_rfl) (by kernel_rfl) (by kernel_rfl) (Or.inl ⟨by rfl, ?_⟩) hHeld (fun hHeld => ?_)
  rotate_left
  · intro w hSw
    (try dsimp only at hSw)
    go_simp
    try with_reducible rfl
  try simp only [Act.put, List.setIfInBounds_toArray, List.set_cons_zero, List.set_cons_succ]
  refine wpAnyL_take 0 _ _ (i := 8) (oi := { dst := some 51, op := Op.move (Operand.const (Value.int IntKind.i64 0)), type := 3, pos := "sorts.go:230", after := #[], guard := none }) (v := ?_) rfl (by kernel_rfl) (by kernel_rfl) (by kernel_rfl) (fun _ _ _ h => h) rfl (by kernel_rfl) (by kernel_rfl) (by kernel_rfl) (Or.inl ⟨by rfl, ?_⟩) hHeld (fun hHeld => ?_)
  rotate_left
  · intro w hSw
    (try dsimp only at hSw)
    go_simp
    try with_reducible rfl
  try simp only [Act.put, List.setIfInBounds_toArray, List.set_cons_zero, List.set_cons_succ]
  refine wpAnyL_done (by kernel_rfl) ?_ _
  have HR1 := Lib.hid (show R1 w1 w2 K base c T p2 z2 bb a b 0 T.f1 T.n1 from ⟨HT2.out, HS2.out, x2, y0, y1, ⟨fun i hi => absurd hi (Nat.not_lt_zero _), fun i _ j s _ _ => rfl, fun kl => .inr rfl⟩, Nat.le_refl _⟩)
  clear x2 y0 y1 hHeld HT2 HS2
  go_wp2_with fail
  go_loopw [51] (fun i wr => ∃ k g n', k ≤ T.sorts.length - a ∧ i = .int .i64 (k : Nat) ∧ R1 w1 wr K base c T p2 z2 bb a b k g n') (fun i _ => (T.sorts.length - a) - (intOf i).toNat)
  case atStart => exact ⟨0, _, _, Nat.zero_le _, rfl, HR1.out⟩
  case round =>
    obtain ⟨k, g1, n1, hk, rfl, hr1⟩ := hrel
    clear HR1
    by_cases hlt : k < T.sorts.length - a
    · obtain ⟨j, hj⟩ : ∃ j, T.sorts[a + k]? = some j := ⟨_, List.getElem?_eq_getElem (by omega)⟩
      obtain ⟨s, hs, _⟩ := HG.out.g1 j (List.mem_of_getElem? hj)
      have hjn := (List.getElem?_eq_some_iff.1 hs).1
      obtain ⟨p2', z2', e2, o2⟩ := hr1.tab.row2
      have e2' := e2
      rw [hr1.c2] at e2'
      cases e2'
      obtain ⟨g2, c2, e3⟩ := own_some o2 (show 0 < T.sorts.length by omega)
      cases e3
      have cj := (own_cell o2 (a + k) (sV j) (by simp only; rw [List.getElem?_map, hj]; rfl)).1
      unfold sV at cj
      have hlow : lowP (some ⟨g2, 0, none⟩) z2 a = some ⟨g2, a, none⟩ := low_get rfl (show a < T.sorts.length by omega) (own_caps o2).1
      have hk0 : (0 : Int) ≤ (k : Int) := by omega
      have hk1 : (k : Int) < ((T.sorts.length - a : Nat) : Int) := by omega
      have HR1 := Lib.hid hr1
      have HJ := Lib.hid (And.intro hj hs)
      clear hr1 hj hs e2 o2
      go_wp2_with fail
      have hD : Below wr.heap.size wr wr.drew := (Below.refl _ _).drew
      have HT3 := Lib.hid (HR1.out.tab.later hD)
      have HD3 := Lib.hid hD
      obtain ⟨m1, x4, q4⟩ := HT3.out.map1
      obtain ⟨p0, z0, x0, o0⟩ := HT3.out.row0
      simp only at x0 o0 q4
      obtain ⟨g0, c0, e0⟩ := own_some o0 (by omega)
      cases e0
      have cn := (own_cell o0 j (.string s) (by rw [List.getElem?_map, HJ.out.2]; rfl)).1
      have esub : IntKind.i64.wrap (2 + (j : Int) - 2) = (j : Int) := by rw [IntWalk.i64_in _ (by omega)]; omega
      have hj0 : (0 : Int) ≤ (j : Int) := by omega
      have hj1 : (j : Int) < (T.names.length : Int) := by omega
      have hem : m1 ≠ c ∧ m1 ≠ bb := by
        obtain ⟨vs, m1', m2, ob, q⟩ := HT3.out.ob
        have e5 := ob.1 4 (by omega)
        rw [x4, q.h4] at e5
        cases e5
        refine ⟨fun e => ?_, fun e => ?_⟩
        · have := q.k4; rw [e, HT3.out.ka] at this; omega
        · have := q.k4; rw [e] at this; omega
      obtain ⟨w11, hr11, hq11, hg11⟩ := q4.del K9 Try.underlying56 (key9 s (by have hz := HG.out.b8 s (List.mem_of_getElem? HJ.out.2); unfold maxLen; omega)) 0
      clear o0 hD cj
      refine wp_region_L [(1000, (fun _ => True : World → Prop)), (12, (fun w => w.cell? ⟨c, 4, none⟩ = some (.map (some m1)) : World → Prop)), (1000, (fun w => w.cell? ⟨c, 0, none⟩ = some (.slice (some ⟨g0, 0, none⟩) T.names.length z0) : World → Prop)), (12, (fun w => w.cell? ⟨g0, j, none⟩ = some (.string s) : World → Prop))] (by kernel_rfl) (SL.cons (fun _ => trivial) (SL.cons (fun _ => x4) (SL.cons (fun _ => x0) (SL.cons (fun _ => cn) SL.nil)))) (fun hHeld => ?_)
      generalize wr.drew = w3 at *
      refine wpAnyL_take 0 _ _ (i := 0) (oi := { dst := some 55, op := Op.move (Operand.tmp 0), type := 25, pos := "sorts.go:231", after := #[], guard := none }) (v := ?_) rfl (by kernel_rfl) (by kernel_rfl) (by kernel_rfl) (fun _ _ _ h => h) rfl (by kernel_rfl) (by kernel_rfl) (by kernel_rfl) (Or.inl ⟨by rfl, ?_⟩) hHeld (fun hHeld => ?_)
      rotate_left
      · intro w hSw
        (try dsimp only at hSw)
        go_simp
        try with_reducible rfl
      try simp only [Act.put, List.setIfInBounds_toArray, List.set_cons_zero, List.set_cons_succ]
      refine wpAnyL_take 0 _ _ (i := 1) (oi := { dst := some 56, op := Op.nilCheck (Operand.tmp 55), type := 0, pos := "sorts.go:231", after := #[{ on := 0, ground := Ground.data }], guard := none }) (v := ?_) rfl (by kernel_rfl) (by kernel_rfl) (by kernel_rfl) (fun _ _ _ h => h) rfl (by kernel_rfl) (by kernel_rfl) (by kernel_rfl) (Or.inl ⟨by rfl, ?_⟩) hHeld (fun hHeld => ?_)
      rotate_left
      · intro w hSw
        (try dsimp only at hSw)
        go_simp
        try with_reducible rfl
      try simp only [Act.put, List.setIfInBounds_toArray, List.set_cons_zero, List.set_cons_succ]
      refine wpAnyL_take 0 _ _ (i := 2) (oi := { dst := some 57, op := Op.fieldAddr 60 (Operand.tmp 56) 4, type := 0, pos := "sorts.go:231", after := #[{ on := 1, ground := Ground.data }], guard := none }) (v := ?_) rfl (by kernel_rfl) (by kernel_rfl) (by kernel_rfl) (fun _ _ _ h => h) rfl (by kernel_rfl) (by kernel_rfl) (by kernel_rfl) (Or.inl ⟨by rfl, ?_⟩) hHeld (fun hHeld => ?_)
      rotate_left
      · intro w hSw
        (try dsimp only at hSw)
        go_simp
        try with_reducible rfl
      try simp only [Act.put, List.setIfInBounds_toArray, List.set_cons_zero, List.set_cons_succ]
      refine wpAnyL_take 1 _ _ (i := 3) (oi := { dst := some 58, op := Op.load 56 (Operand.tmp 57), type := 56, pos := "sorts.go:231", after := #[{ on := 2, ground := Ground.data }], guard := none }) (v := ?_) rfl (by kernel_rfl) (by kernel_rfl) (by kernel_rfl) (fun _ _ _ h => h) rfl (by kernel_rfl) (by kernel_rfl) (by kernel_rfl) (Or.inl ⟨by rfl, ?_⟩) hHeld (fun hHeld => ?_)
      rotate_left
      · intro w hSw
        (try dsimp only at hSw)
        go_simp
        try with_reducible rfl
      try simp only [Act.put, List.setIfInBounds_toArray, List.set_cons_zero, List.set_cons_succ]
      refine wpAnyL_take 0 _ _ (i := 4) (oi := { dst := some 59, op := Op.move (Operand.tmp 0), type := 25, pos := "sorts.go:231", after := #[], guard := none }) (v := ?_) rfl (by kernel_rfl) (by kernel_rfl) (by kernel_rfl) (fun _ _ _ h => h) rfl (by kernel_rfl) (by kernel_rfl) (by kernel_rfl) (Or.inl ⟨by rfl, ?_⟩) hHeld (fun hHeld => ?_)
      rotate_left
      · intro w hSw
        (try dsimp only at hSw)
        go_simp
        try with_reducible rfl
      try simp only [Act.put, List.setIfInBounds_toArray, List.set_cons_zero, List.set_cons_succ]
      refine wpAnyL_take 0 _ _ (i := 5) (oi := { dst := some 60, op := Op.nilCheck (Operand.tmp 59), type := 0, pos := "sorts.go:231", after := #[{ on := 4, ground := Ground.data }], guard := none }) (v := ?_) rfl (by kernel_rfl) (by kernel_rfl) (by kernel_rfl) (fun _ _ _ h => h) rfl (by kernel_rfl) (by kernel_rfl) (by kernel_rfl) (Or.inl ⟨by rfl, ?_⟩) hHeld (fun hHeld => ?_)
      rotate_left
      · intro w hSw
        (try dsimp only at hSw)
        go_simp
        try with_reducible rfl
      try simp only [Act.put, List.setIfInBounds_toArray, List.set_cons_zero, List.set_cons_succ]
      refine wpAnyL_take 0 _ _ (i := 6) (oi := { dst := some 61, op := Op.fieldAddr 60 (Operand.tmp 60) 0, type := 0, pos := "sorts.go:231", after := #[{ on := 5, ground := Ground.data }], guard := none }) (v := ?_) rfl (by kernel_rfl) (by kernel_rfl) (by kernel_rfl) (fun _ _ _ h => h) rfl (by kernel_rfl) (by kernel_rfl) (by kernel_rfl) (Or.inl ⟨by rfl, ?_⟩) hHeld (fun hHeld => ?_)
      rotate_left
      · intro w hSw
        (try dsimp only at hSw)
        go_simp
        try with_reducible rfl
      try simp only [Act.put, List.setIfInBounds_toArray, List.set_cons_zero, List.set_cons_succ]
      refine wpAnyL_take 2 _ _ (i := 7) (oi := { dst := some 62, op := Op.load 54 (Operand.tmp 61), type := 54, pos := "sorts.go:231", after := #[{ on := 6, ground := Ground.data }], guard := none }) (v := ?_) rfl (by kernel_rfl) (by kernel_rfl) (by kernel_rfl) (fun _ _ _ h => h) rfl (by kernel_rfl) (by kernel_rfl) (by kernel_rfl) (Or.inl ⟨by rfl, ?_⟩) hHeld (fun hHeld => ?_)
      rotate_left
      · intro w hSw
        (try dsimp only at hSw)
        go_simp
        try with_reducible rfl
      try simp only [Act.put, List.setIfInBounds_toArray, List.set_cons_zero, List.set_cons_succ]
      refine wpAnyL_take 0 _ _ (i := 8) (oi := { dst := some 63, op := Op.move (Operand.tmp 8), type := 33, pos := "sorts.go:231", after := #[], guard := none }) (v := ?_) rfl (by kernel_rfl) (by kernel_rfl) (by kernel_rfl) (fun _ _ _ h => h) rfl (by kernel_rfl) (by kernel_rfl) (by kernel_rfl) (Or.inl ⟨by rfl, ?_⟩) hHeld (fun hHeld => ?_)
      rotate_left
      · intro w hSw
        (try dsimp only at hSw)
        go_simp
        try with_reducible rfl
      try simp only [Act.put, List.setIfInBounds_toArray, List.set_cons_zero, List.set_cons_succ]
      refine wpAnyL_take 0 _ _ (i := 9) (oi := { dst := some 64, op := Op.binOp BinOp.sub 33 (Operand.tmp 63) (Operand.const (Value.int IntKind.i64 2)) 33, type := 33, pos := "sorts.go:231", after := #[{ on := 8, ground := Ground.data }], guard := none }) (v := ?_) rfl (by kernel_rfl) (by kernel_rfl) (by kernel_rfl) (fun _ _ _ h => h) rfl (by kernel_rfl) (by kernel_rfl) (by kernel_rfl) (Or.inl ⟨by rfl, ?_⟩) hHeld (fun hHeld => ?_)
      rotate_left
      · intro w hSw
        (try dsimp only at hSw)
        go_simp
        try with_reducible rfl
      try simp only [Act.put, List.setIfInBounds_toArray, List.set_cons_zero, List.set_cons_succ]
      refine wpAnyL_take 0 _ _ (i := 10) (oi := { dst := some 65, op := Op.indexAddr 54 (Operand.tmp 62) (Operand.tmp 64), type := 0, pos := "sorts.go:231", after := #[{ on := 7, ground := Ground.data }, { on := 9, ground := Ground.data }], guard := none }) (v := ?_) rfl (by kernel_rfl) (by kernel_rfl) (by kernel_rfl) (fun _ _ _ h => h) rfl (by kernel_rfl) (by kernel_rfl) (by kernel_rfl) (Or.inl ⟨by rfl, ?_⟩) hHeld (fun hHeld => ?_)
      rotate_left
      · intro w hSw
        (try dsimp only at hSw)
        go_simp
        try with_reducible rfl
      try simp only [Act.put, List.setIfInBounds_toArray, List.set_cons_zero, List.set_cons_succ]
      refine wpAnyL_take 3 _ _ (i := 11) (oi := { dst := some 66, op := Op.load 9 (Operand.tmp 65), type := 9, pos := "sorts.go:231", after := #[{ on := 10, ground := Ground.data }], guard := none }) (v := ?_) rfl (by kernel_rfl) (by kernel_rfl) (by kernel_rfl) (fun _ _ _ h => h) rfl (by kernel_rfl) (by kernel_rfl) (by kernel_rfl) (Or.inl ⟨by rfl, ?_⟩) hHeld (fun hHeld => ?_)
      rotate_left
      · intro w hSw
        (try dsimp only at hSw)
        go_simp
        try with_reducible rfl
      try simp only [Act.put, List.setIfInBounds_toArray, List.set_cons_zero, List.set_cons_succ]
      have yc2 := cell_later HD3.out HR1.out.c2
      have yb0 := cell_later HD3.out HR1.out.b0
      have yb1 := cell_later HD3.out HR1.out.b1
      obtain ⟨hT11, hS11⟩ := HT3.out.inM1 x4 hg11 hq11
      replace yc2 := grown_cell hg11 yc2 (fun e => hem.1 (Option.some.inj e))
      replace yb0 := grown_cell hg11 yb0 (fun e => hem.2 (Option.some.inj e))
      replace yb1 := grown_cell hg11 yb1 (fun e => hem.2 (Option.some.inj e))
      have y0 := grown_cell hg11 x0 (fun e => hem.1 (Option.some.inj e))
      have HR4 := Lib.hid (show R1 w1 w11 K base c T (some ⟨g2, 0, none⟩) z2 bb a b (k + 1) (updF g1 (keyS s) none) (if (g1 (keyS s)).isSome then n1 - 1 else n1) from ⟨hT11, (HR1.out.st.trans (StepT.below HD3.out)).trans hS11, yc2, yb0, yb1, HR1.out.cut.step HG.out HJ.out.1 HJ.out.2, del_le _ _ _ HR1.out.le⟩)
      clear hT11 hS11 hg11 hq11 yc2 yb0 yb1
      refine wpAnyL_ready (rs := [12]) (by kernel_rfl) (by simp) ?_
      refine AllReadyL.cons (o := { dst := none, op := Op.call { callee := Callee.builtin Builtin.delete, args := #[Operand.tmp 58, Operand.tmp 66], argTypes := #[56, 9] }, type := 0, pos := "sorts.go:231", after := #[{ on := 3, ground := Ground.data }, { on := 11, ground := Ground.data }], guard := none }) rfl (fun K hK => ?_) AllReadyL.nil
      rw [if_pos (by rfl)]
      refine wp_del_run (by rfl) (by rfl) (by rfl) hr11 ?_
      refine hK.out _ _ (SL.cons (fun _ => trivial) (SL.cons (fun h => absurd h (by decide +kernel)) (SL.cons (fun _ => y0) (SL.cons (fun h => absurd h (by decide +kernel)) SL.nil)))) (fun hHeld => ?_)
      clear hK K
      try simp only [Act.put, List.setIfInBounds_toArray, List.set_cons_zero, List.set_cons_succ]
      refine wpAnyL_done (by kernel_rfl) ?_ _
      clear hHeld hr11 y0 x4 x0 cn
      go_wp2_with fail
      go_roundw
      case rel => exact ⟨k + 1, _, _, by omega, by go_num, HR4.out⟩
      case measure => simp [intOf]; omega
    · obtain rfl : k = T.sorts.length - a := by omega
      have HR1 := Lib.hid hr1
      clear hr1 hsl hc2 HO2 hlt hk
      go_wp2_with fail
      have hD : Below wr.heap.size wr wr.drew := (Below.refl _ _).drew
      obtain ⟨p3, z3, x3, o3_⟩ := (HR1.out.tab.later hD).row3
      simp only at x3
      have HR2 := Lib.hid (show R2 w1 wr.drew K base c { T with f1 := g1, n1 := n1 } p3 z3 bb a b 0 T.f2 T.n2 from ⟨HR1.out.tab.later hD, HR1.out.st.trans (StepT.below hD), x3, cell_later hD HR1.out.b0, cell_later hD HR1.out.b1, ⟨fun i hi => absurd hi (Nat.not_lt_zero _), fun i _ j s _ _ => rfl, fun kl => .inr rfl⟩, Nat.le_refl _⟩)
      have y1 := cell_later hD HR1.out.b1
      have HC1 := Lib.hid (And.intro HR1.out.cut HR1.out.le)
      have hsl := fun w => slice_low39 (p := p3) (z := z3) w hb
      clear hD o3_ HR1
      refine wp_region_L [(1000, (fun _ => True : World → Prop)), (1000, (fun w => w.cell? ⟨c, 3, none⟩ = some (.slice p3 T.funs.length z3) : World → Prop)), (1000, (fun w => w.cell? ⟨bb, 1, none⟩ = some (.int .i64 (b : Int)) : World → Prop))] (by kernel_rfl) (SL.cons (fun _ => trivial) (SL.cons (fun _ => x3) (SL.cons (fun _ => y1) SL.nil))) (fun hHeld => ?_)
      generalize wr.drew = w2' at *
      refine wpAnyL_take 0 _ _ (i := 0) (oi := { dst := some 68, op := Op.move (Operand.tmp 0), type := 25, pos := "sorts.go:233", after := #[], guard := none }) (v := ?_) rfl (by kernel_rfl) (by kernel_rfl) (by kernel_rfl) (fun _ _ _ h => h) rfl (by kernel_rfl) (by kernel_rfl) (by kernel_rfl) (Or.inl ⟨by rfl, ?_⟩) hHeld (fun hHeld => ?_)
      rotate_left
      · intro w hSw
        (try dsimp only at hSw)
        go_simp
        try with_reducible rfl
      try simp only [Act.put, List.setIfInBounds_toArray, List.set_cons_zero, List.set_cons_succ]
      refine wpAnyL_take 0 _ _ (i := 1) (oi := { dst := some 69, op := Op.nilCheck (Operand.tmp 68), type := 0, pos := "sorts.go:233", after := #[{ on := 0, ground := Ground.data }], guard := none }) (v := ?_) rfl (by kernel_rfl) (by kernel_rfl) (by kernel_rfl) (fun _ _ _ h => h) rfl (by kernel_rfl) (by kernel_rfl) (by kernel_rfl) (Or.inl ⟨by rfl, ?_⟩) hHeld (fun hHeld => ?_)
      rotate_left
      · intro w hSw
        (try dsimp only at hSw)
        go_simp
        try with_reducible rfl
      try simp only [Act.put, List.setIfInBounds_toArray, List.set_cons_zero, List.set_cons_succ]
      refine wpAnyL_take 0 _ _ (i := 2) (oi := { dst := some 70, op := Op.fieldAddr 60 (Operand.tmp 69) 3, type := 0, pos := "sorts.go:233", after := #[{ on := 1, ground := Ground.data }], guard := none }) (v := ?_) rfl (by kernel_rfl) (by kernel_rfl) (by kernel_rfl) (fun _ _ _ h => h) rfl (by kernel_rfl) (by kernel_rfl) (by kernel_rfl) (Or.inl ⟨by rfl, ?_⟩) hHeld (fun hHeld => ?_)
      rotate_left
      · intro w hSw
        (try dsimp only at hSw)
        go_simp
        try with_reducible rfl
      try simp only [Act.put, List.setIfInBounds_toArray, List.set_cons_zero, List.set_cons_succ]
      refine wpAnyL_take 1 _ _ (i := 3) (oi := { dst := some 71, op := Op.load 39 (Operand.tmp 70), type := 39, pos := "sorts.go:233", after := #[{ on := 2, ground := Ground.data }], guard := none }) (v := ?_) rfl (by kernel_rfl) (by kernel_rfl) (by kernel_rfl) (fun _ _ _ h => h) rfl (by kernel_rfl) (by kernel_rfl) (by kernel_rfl) (Or.inl ⟨by rfl, ?_⟩) hHeld (fun hHeld => ?_)
      rotate_left
      · intro w hSw
        (try dsimp only at hSw)
        go_simp
        try with_reducible rfl
      try simp only [Act.put, List.setIfInBounds_toArray, List.set_cons_zero, List.set_cons_succ]
      refine wpAnyL_take 0 _ _ (i := 4) (oi := { dst := some 72, op := Op.fieldAddr 114 (Operand.tmp 6) 1, type := 0, pos := "sorts.go:233", after := #[], guard := none }) (v := ?_) rfl (by kernel_rfl) (by kernel_rfl) (by kernel_rfl) (fun _ _ _ h => h) rfl (by kernel_rfl) (by kernel_rfl) (by kernel_rfl) (Or.inl ⟨by rfl, ?_⟩) hHeld (fun hHeld => ?_)
      rotate_left
      · intro w hSw
        (try dsimp only at hSw)
        go_simp
        try with_reducible rfl
      try simp only [Act.put, List.setIfInBounds_toArray, List.set_cons_zero, List.set_cons_succ]
      refine wpAnyL_take 2 _ _ (i := 5) (oi := { dst := some 73, op := Op.load 3 (Operand.tmp 72), type := 3, pos := "sorts.go:233", after := #[{ on := 4, ground := Ground.data }], guard := none }) (v := ?_) rfl (by kernel_rfl) (by kernel_rfl) (by kernel_rfl) (fun _ _ _ h => h) rfl (by kernel_rfl) (by kernel_rfl) (by kernel_rfl) (Or.inl ⟨by rfl, ?_⟩) hHeld (fun hHeld => ?_)
      rotate_left
      · intro w hSw
        (try dsimp only at hSw)
        go_simp
        try with_reducible rfl
      try simp only [Act.put, List.setIfInBounds_toArray, List.set_cons_zero, List.set_cons_succ]
      refine wpAnyL_take 0 _ _ (i := 6) (oi := { dst := some 74, op := Op.slice 39 (Operand.tmp 71) (some (Operand.tmp 73)) none none, type := 39, pos := "sorts.go:233", after := #[{ on := 3, ground := Ground.data }, { on := 5, ground := Ground.data }], guard := none }) (v := ?_) rfl (by kernel_rfl) (by kernel_rfl) (by kernel_rfl) (fun _ _ _ h => h) rfl (by kernel_rfl) (by kernel_rfl) (by kernel_rfl) (Or.inl ⟨by rfl, ?_⟩) hHeld (fun hHeld => ?_)
      rotate_left
      · intro w hSw
        (try dsimp only at hSw)
        have hsl1 := hsl w
        go_simp
        try with_reducible rfl
      try simp only [Act.put, List.setIfInBounds_toArray, List.set_cons_zero, List.set_cons_succ]
      refine wpAnyL_take 0 _ _ (i := 7) (oi := { dst := some 75, op := Op.call { callee := Callee.builtin Builtin.len, args := #[Operand.tmp 74], argTypes := #[39] }, type := 3, pos := "sorts.go:233", after := #[{ on := 6, ground := Ground.data }], guard := none }) (v := ?_) rfl (by kernel_rfl) (by kernel_rfl) (by kernel_rfl) (fun _ _ _ h => h) rfl (by kernel_rfl) (by kernel_rfl) (by kernel_rfl) (Or.inl ⟨by rfl, ?_⟩) hHeld (fun hHeld => ?_)
      rotate_left
      · intro w hSw
        (try dsimp only at hSw)
        go_simp
        try with_reducible rfl
      try simp only [Act.put, List.setIfInBounds_toArray, List.set_cons_zero, List.set_cons_succ]
      refine wpAnyL_take 0 _ _ (i := 8) (oi := { dst := some 76, op := Op.move (Operand.const (Value.int IntKind.i64 0)), type := 3, pos := "sorts.go:233", after := #[], guard := none }) (v := ?_) rfl (by kernel_rfl) (by kernel_rfl) (by kernel_rfl) (fun _ _ _ h => h) rfl (by kernel_rfl) (by kernel_rfl) (by kernel_rfl) (Or.inl ⟨by rfl, ?_⟩) hHeld (fun hHeld => ?_)
      rotate_left
      · intro w hSw
        (try dsimp only at hSw)
        go_simp
        try with_reducible rfl
      try simp only [Act.put, List.setIfInBounds_toArray, List.set_cons_zero, List.set_cons_succ]
      refine wpAnyL_done (by kernel_rfl) ?_ _
      clear x3 y1 hHeld hsl
      go_wp2_with fail
      go_loopw [76] (fun i wr => ∃ k g n', k ≤ T.funs.length - b ∧ i = .int .i64 (k : Nat) ∧ R2 w1 wr K base c { T with f1 := g1, n1 := n1 } p3 z3 bb a b k g n') (fun i _ => (T.funs.length - b) - (intOf i).toNat)
      case atStart => exact ⟨0, _, _, Nat.zero_le _, rfl, HR2.out⟩
      case round =>
        obtain ⟨k, g2, n2, hk, rfl, hr2⟩ := hrel
        clear HR2
        by_cases hlt : k < T.funs.length - b
        · obtain ⟨j, hj⟩ : ∃ j, T.funs[b + k]? = some j := ⟨_, List.getElem?_eq_getElem (by omega)⟩
          obtain ⟨x, hs, _⟩ := HG.out.g3 j (List.mem_of_getElem? hj)
          have hjn := (List.getElem?_eq_some_iff.1 hs).1
          obtain ⟨p3', z3', e2, o2⟩ := hr2.tab.row3
          have e2' := e2
          rw [hr2.c3] at e2'
          cases e2'
          obtain ⟨h2, c2, e3⟩ := own_some o2 (show 0 < T.funs.length by omega)
          cases e3
          have cj := (own_cell o2 (b + k) (nV j) (by simp only; rw [List.getElem?_map, hj]; rfl)).1
          unfold nV at cj
          have hlow : lowP (some ⟨h2, 0, none⟩) z3 b = some ⟨h2, b, none⟩ := low_get rfl (show b < T.funs.length by omega) (own_caps o2).1
          have hk0 : (0 : Int) ≤ (k : Int) := by omega
          have hk1 : (k : Int) < ((T.funs.length - b : Nat) : Int) := by omega
          have HR2 := Lib.hid hr2
          have HJ := Lib.hid (And.intro hj hs)
          clear hr2 hj hs e2 o2
          go_wp2_with fail
          have hD : Below wr.heap.size wr wr.drew := (Below.refl _ _).drew
          have HT3 := Lib.hid (HR2.out.tab.later hD)
          have HD3 := Lib.hid hD
          obtain ⟨m1, x4, q4⟩ := HT3.out.map2
          obtain ⟨p0, z0, x0, o0⟩ := HT3.out.row1
          simp only at x0 o0 q4
          obtain ⟨g0, c0, e0⟩ := own_some o0 (by omega)
          cases e0
          obtain ⟨g0', z0', e0, _, hc0⟩ := own_cells o0 (by simp)
          cases e0
          have cn := hc0 _ _ (flatI_get T.infos j x HJ.out.2).1
          have hj0 : (0 : Int) ≤ (j : Int) := by omega
          have hj1 : (j : Int) < (T.infos.length : Int) := by omega
          have hem : m1 ≠ c ∧ m1 ≠ bb := by
            obtain ⟨vs, m1', m2, ob, q⟩ := HT3.out.ob
            have e5 := ob.1 5 (by omega)
            rw [x4, q.h5] at e5
            cases e5
            refine ⟨fun e => ?_, fun e => ?_⟩
            · have := q.k5; rw [e, HT3.out.ka] at this; omega
            · have := q.k5; rw [e] at this; omega
          obtain ⟨w11, hr11, hq11, hg11⟩ := q4.del K9 Try.underlying57 (key9 x.N (by have hz := HG.out.b9 x (List.mem_of_getElem? HJ.out.2); unfold maxLen; omega)) 0
          clear o0 hD cj hc0
          refine wp_region_L [(1000, (fun _ => True : World → Prop)), (12, (fun w => w.cell? ⟨c, 5, none⟩ = some (.map (some m1)) : World → Prop)), (1000, (fun w => w.cell? ⟨c, 1, none⟩ = some (.slice (some ⟨g0, 0, none⟩) T.infos.length z0) : World → Prop)), (12, (fun w => w.cell? ⟨g0, j * 4, none⟩ = some (.string x.N) : World → Prop))] (by kernel_rfl) (SL.cons (fun _ => trivial) (SL.cons (fun _ => x4) (SL.cons (fun _ => x0) (SL.cons (fun _ => cn) SL.nil)))) (fun hHeld => ?_)
          generalize wr.drew = w3 at *
          refine wpAnyL_take 0 _ _ (i := 0) (oi := { dst := some 80, op := Op.move (Operand.tmp 0), type := 25, pos := "sorts.go:234", after := #[], guard := none }) (v := ?_) rfl (by kernel_rfl) (by kernel_rfl) (by kernel_rfl) (fun _ _ _ h => h) rfl (by kernel_rfl) (by kernel_rfl) (by kernel_rfl) (Or.inl ⟨by rfl, ?_⟩) hHeld (fun hHeld => ?_)
          rotate_left
          · intro w hSw
            (try dsimp only at hSw)
            go_simp
            try with_reducible rfl
          try simp only [Act.put, List.setIfInBounds_toArray, List.set_cons_zero, List.set_cons_succ]
          refine wpAnyL_take 0 _ _ (i := 1) (oi := { dst := some 81, op := Op.nilCheck (Operand.tmp 80), type := 0, pos := "sorts.go:234", after := #[{ on := 0, ground := Ground.data }], guard := none }) (v := ?_) rfl (by kernel_rfl) (by kernel_rfl) (by kernel_rfl) (fun _ _ _ h => h) rfl (by kernel_rfl) (by kernel_rfl) (by kernel_rfl) (Or.inl ⟨by rfl, ?_⟩) hHeld (fun hHeld => ?_)
          rotate_left
          · intro w hSw
            (try dsimp only at hSw)
            go_simp
            try with_reducible rfl
          try simp only [Act.put, List.setIfInBounds_toArray, List.set_cons_zero, List.set_cons_succ]
          refine wpAnyL_take 0 _ _ (i := 2) (oi := { dst := some 82, op := Op.fieldAddr 60 (Operand.tmp 81) 5, type := 0, pos := "sorts.go:234", after := #[{ on := 1, ground := Ground.data }], guard := none }) (v := ?_) rfl (by kernel_rfl) (by kernel_rfl) (by kernel_rfl) (fun _ _ _ h => h) rfl (by kernel_rfl) (by kernel_rfl) (by kernel_rfl) (Or.inl ⟨by rfl, ?_⟩) hHeld (fun hHeld => ?_)
          rotate_left
          · intro w hSw
            (try dsimp only at hSw)
            go_simp
            try with_reducible rfl
          try simp only [Act.put, List.setIfInBounds_toArray, List.set_cons_zero, List.set_cons_succ]
          refine wpAnyL_take 1 _ _ (i := 3) (oi := { dst := some 83, op := Op.load 57 (Operand.tmp 82), type := 57, pos := "sorts.go:234", after := #[{ on := 2, ground := Ground.data }], guard := none }) (v := ?_) rfl (by kernel_rfl) (by kernel_rfl) (by kernel_rfl) (fun _ _ _ h => h) rfl (by kernel_rfl) (by kernel_rfl) (by kernel_rfl) (Or.inl ⟨by rfl, ?_⟩) hHeld (fun hHeld => ?_)
          rotate_left
          · intro w hSw
            (try dsimp only at hSw)
            go_simp
            try with_reducible rfl
          try simp only [Act.put, List.setIfInBounds_toArray, List.set_cons_zero, List.set_cons_succ]
          refine wpAnyL_take 0 _ _ (i := 4) (oi := { dst := some 84, op := Op.move (Operand.tmp 0), type := 25, pos := "sorts.go:234", after := #[], guard := none }) (v := ?_) rfl (by kernel_rfl) (by kernel_rfl) (by kernel_rfl) (fun _ _ _ h => h) rfl (by kernel_rfl) (by kernel_rfl) (by kernel_rfl) (Or.inl ⟨by rfl, ?_⟩) hHeld (fun hHeld => ?_)
          rotate_left
          · intro w hSw
            (try dsimp only at hSw)
            go_simp
            try with_reducible rfl
          try simp only [Act.put, List.setIfInBounds_toArray, List.set_cons_zero, List.set_cons_succ]
          refine wpAnyL_take 0 _ _ (i := 5) (oi := { dst := some 85, op := Op.nilCheck (Operand.tmp 84), type := 0, pos := "sorts.go:234", after := #[{ on := 4, ground := Ground.data }], guard := none }) (v := ?_) rfl (by kernel_rfl) (by kernel_rfl) (by kernel_rfl) (fun _ _ _ h => h) rfl (by kernel_rfl) (by kernel_rfl) (by kernel_rfl) (Or.inl ⟨by rfl, ?_⟩) hHeld (fun hHeld => ?_)
          rotate_left
          · intro w hSw
            (try dsimp only at hSw)
            go_simp
            try with_reducible rfl
          try simp only [Act.put, List.setIfInBounds_toArray, List.set_cons_zero, List.set_cons_succ]
          refine wpAnyL_take 0 _ _ (i := 6) (oi := { dst := some 86, op := Op.fieldAddr 60 (Operand.tmp 85) 1, type := 0, pos := "sorts.go:234", after := #[{ on := 5, ground := Ground.data }], guard := none }) (v := ?_) rfl (by kernel_rfl) (by kernel_rfl) (by kernel_rfl) (fun _ _ _ h => h) rfl (by kernel_rfl) (by kernel_rfl) (by kernel_rfl) (Or.inl ⟨by rfl, ?_⟩) hHeld (fun hHeld => ?_)
          rotate_left
          · intro w hSw
            (try dsimp only at hSw)
            go_simp
            try with_reducible rfl
          try simp only [Act.put, List.setIfInBounds_toArray, List.set_cons_zero, List.set_cons_succ]
          refine wpAnyL_take 2 _ _ (i := 7) (oi := { dst := some 87, op := Op.load 55 (Operand.tmp 86), type := 55, pos := "sorts.go:234", after := #[{ on := 6, ground := Ground.data }], guard := none }) (v := ?_) rfl (by kernel_rfl) (by kernel_rfl) (by kernel_rfl) (fun _ _ _ h => h) rfl (by kernel_rfl) (by kernel_rfl) (by kernel_rfl) (Or.inl ⟨by rfl, ?_⟩) hHeld (fun hHeld => ?_)
          rotate_left
          · intro w hSw
            (try dsimp only at hSw)
            go_simp
            try with_reducible rfl
          try simp only [Act.put, List.setIfInBounds_toArray, List.set_cons_zero, List.set_cons_succ]
          refine wpAnyL_take 0 _ _ (i := 8) (oi := { dst := some 88, op := Op.move (Operand.tmp 10), type := 3, pos := "sorts.go:234", after := #[], guard := none }) (v := ?_) rfl (by kernel_rfl) (by kernel_rfl) (by kernel_rfl) (fun _ _ _ h => h) rfl (by kernel_rfl) (by kernel_rfl) (by kernel_rfl) (Or.inl ⟨by rfl, ?_⟩) hHeld (fun hHeld => ?_)
          rotate_left
          · intro w hSw
            (try dsimp only at hSw)
            go_simp
            try with_reducible rfl
          try simp only [Act.put, List.setIfInBounds_toArray, List.set_cons_zero, List.set_cons_succ]
          refine wpAnyL_take 0 _ _ (i := 9) (oi := { dst := some 89, op := Op.indexAddr 55 (Operand.tmp 87) (Operand.tmp 88), type := 0, pos := "sorts.go:234", after := #[{ on := 7, ground := Ground.data }, { on := 8, ground := Ground.data }], guard := none }) (v := ?_) rfl (by kernel_rfl) (by kernel_rfl) (by kernel_rfl) (fun _ _ _ h => h) rfl (by kernel_rfl) (by kernel_rfl) (by kernel_rfl) (Or.inl ⟨by rfl, ?_⟩) hHeld (fun hHeld => ?_)
          rotate_left
          · intro w hSw
            (try dsimp only at hSw)
            go_simp
            try with_reducible rfl
          try simp only [Act.put, List.setIfInBounds_toArray, List.set_cons_zero, List.set_cons_succ]
          refine wpAnyL_take 0 _ _ (i := 10) (oi := { dst := some 90, op := Op.fieldAddr 35 (Operand.tmp 89) 0, type := 0, pos := "sorts.go:234", after := #[{ on := 9, ground := Ground.data }], guard := none }) (v := ?_) rfl (by kernel_rfl) (by kernel_rfl) (by kernel_rfl) (fun _ _ _ h => h) rfl (by kernel_rfl) (by kernel_rfl) (by kernel_rfl) (Or.inl ⟨by rfl, ?_⟩) hHeld (fun hHeld => ?_)
          rotate_left
          · intro w hSw
            (try dsimp only at hSw)
            go_simp
            try with_reducible rfl
          try simp only [Act.put, List.setIfInBounds_toArray, List.set_cons_zero, List.set_cons_succ]
          refine wpAnyL_take 3 _ _ (i := 11) (oi := { dst := some 91, op := Op.load 9 (Operand.tmp 90), type := 9, pos := "sorts.go:234", after := #[{ on := 10, ground := Ground.data }], guard := none }) (v := ?_) rfl (by kernel_rfl) (by kernel_rfl) (by kernel_rfl) (fun _ _ _ h => h) rfl (by kernel_rfl) (by kernel_rfl) (by kernel_rfl) (Or.inl ⟨by rfl, ?_⟩) hHeld (fun hHeld => ?_)
          rotate_left
          · intro w hSw
            (try dsimp only at hSw)
            go_simp
            try with_reducible rfl
          try simp only [Act.put, List.setIfInBounds_toArray, List.set_cons_zero, List.set_cons_succ]
          have yc2 := cell_later HD3.out HR2.out.c3
          have yb0 := cell_later HD3.out HR2.out.b0
          have yb1 := cell_later HD3.out HR2.out.b1
          obtain ⟨hT11, hS11⟩ := HT3.out.inM2 x4 hg11 hq11
          replace yc2 := grown_cell hg11 yc2 (fun e => hem.1 (Option.some.inj e))
          replace yb0 := grown_cell hg11 yb0 (fun e => hem.2 (Option.some.inj e))
          replace yb1 := grown_cell hg11 yb1 (fun e => hem.2 (Option.some.inj e))
          have y0 := grown_cell hg11 x0 (fun e => hem.1 (Option.some.inj e))
          have HR4 := Lib.hid (show R2 w1 w11 K base c { T with f1 := g1, n1 := n1 } (some ⟨h2, 0, none⟩) z3 bb a b (k + 1) (updF g2 (keyS x.N) none) (if (g2 (keyS x.N)).isSome then n2 - 1 else n2) from ⟨hT11, (HR2.out.st.trans (StepT.below HD3.out)).trans hS11, yc2, yb0, yb1, Cut2.step (T := T) HG.out HR2.out.cut HJ.out.1 HJ.out.2, del_le _ _ _ HR2.out.le⟩)
          clear hT11 hS11 hg11 hq11 yc2 yb0 yb1
          refine wpAnyL_ready (rs := [12]) (by kernel_rfl) (by simp) ?_
          refine AllReadyL.cons (o := { dst := none, op := Op.call { callee := Callee.builtin Builtin.delete, args := #[Operand.tmp 83, Operand.tmp 91], argTypes := #[57, 9] }, type := 0, pos := "sorts.go:234", after := #[{ on := 3, ground := Ground.data }, { on := 11, ground := Ground.data }], guard := none }) rfl (fun K hK => ?_) AllReadyL.nil
          rw [if_pos (by rfl)]
          refine wp_del_run (by rfl) (by rfl) (by rfl) hr11 ?_
          refine hK.out _ _ (SL.cons (fun _ => trivial) (SL.cons (fun h => absurd h (by decide +kernel)) (SL.cons (fun _ => y0) (SL.cons (fun h => absurd h (by decide +kernel)) SL.nil)))) (fun hHeld => ?_)
          clear hK K
          try simp only [Act.put, List.setIfInBounds_toArray, List.set_cons_zero, List.set_cons_succ]
          refine wpAnyL_done (by kernel_rfl) ?_ _
          clear hHeld hr11 y0 x4 x0 cn
          go_wp2_with fail
          go_roundw
          case rel => exact ⟨k + 1, _, _, by omega, by go_num, HR4.out⟩
          case measure => simp [intOf]; omega
        · obtain rfl : k = T.funs.length - b := by omega
          have HR2 := Lib.hid hr2
          clear hr2 hlt hk
          go_wp2_with fail
          have hD : Below wr.heap.size wr wr.drew := (Below.refl _ _).drew
          have HT3 := Lib.hid (HR2.out.tab.later hD)
          have HS3 := Lib.hid (HR2.out.st.trans (StepT.below hD))
          have b0 := cell_later hD HR2.out.b0
          have b1 := cell_later hD HR2.out.b1
          have HC2 := Lib.hid (And.intro (show Cut2 T b (T.funs.length - b) g2 from HR2.out.cut) (show n2 ≤ T.n2 from HR2.out.le))
          obtain ⟨p2, z2, x2, o2⟩ := HT3.out.row2
          obtain ⟨p3, z3, x3, o3⟩ := HT3.out.row3
          obtain ⟨p6, z6, x6, o6⟩ := HT3.out.row6
          simp only at x2 x3 x6
          have k2 := (own_caps o2).1
          have k3 := (own_caps o3).1
          have k6 := (own_caps o6).1
          simp only at k2 k3 k6
          have hs2 := fun w => slice_high32 (p := p2) (n := T.sorts.length) (z := z2) (a := a) w (by omega)
          have hs3 := fun w => slice_high39 (p := p3) (n := T.funs.length) (z := z3) (a := b) w (by omega)
          have hs6 := fun w => slice_high58 (p := p6) (n := T.scopes.length) (z := z6) (a := l) w (by omega)
          clear hD o2 o3 o6 HR2
          refine wp_region_L [(1000, (fun _ => True : World → Prop)), (25, (fun w => w.cell? ⟨c, 2, none⟩ = some (.slice p2 T.sorts.length z2) : World → Prop)), (28, (fun w => w.cell? ⟨c, 3, none⟩ = some (.slice p3 T.funs.length z3) : World → Prop)), (31, (fun w => w.cell? ⟨c, 6, none⟩ = some (.slice p6 T.scopes.length z6) : World → Prop)), (1000, (fun w => w.cell? ⟨bb, 0, none⟩ = some (.int .i64 (a : Int)) : World → Prop)), (1000, (fun w => w.cell? ⟨bb, 1, none⟩ = some (.int .i64 (b : Int)) : World → Prop))] (by kernel_rfl) (SL.cons (fun _ => trivial) (SL.cons (fun _ => x2) (SL.cons (fun _ => x3) (SL.cons (fun _ => x6) (SL.cons (fun _ => b0) (SL.cons (fun _ => b1) SL.nil)))))) (fun hHeld => ?_)
          generalize wr.drew = w3 at *
          have f2 := HT3.out.fz 2
          have f3 := HT3.out.fz 3
          have f6 := HT3.out.fz 6
          obtain ⟨hT4, hS4⟩ := HT3.out.cut2 x2 a ha
          have HT4 := Lib.hid hT4
          have HS4 := Lib.hid hS4
          have x34 : (w3.setCell ⟨c, 2, none⟩ (.slice p2 a z2)).cell? ⟨c, 3, none⟩ = some (.slice p3 T.funs.length z3) := by rw [World.cell?_setCell_other _ _ _ _ (by intro e; cases e)]; exact x3
          have x64 : (w3.setCell ⟨c, 2, none⟩ (.slice p2 a z2)).cell? ⟨c, 6, none⟩ = some (.slice p6 T.scopes.length z6) := by rw [World.cell?_setCell_other _ _ _ _ (by intro e; cases e)]; exact x6
          have hcb : c ≠ bb := fun e => by have := HT3.out.ka; rw [e] at this; omega
          have b04 : (w3.setCell ⟨c, 2, none⟩ (.slice p2 a z2)).cell? ⟨bb, 0, none⟩ = some (.int .i64 (a : Int)) := by rw [World.cell?_setCell_other _ _ _ _ (by intro e; cases e <;> exact hcb rfl)]; exact b0
          have b14 : (w3.setCell ⟨c, 2, none⟩ (.slice p2 a z2)).cell? ⟨bb, 1, none⟩ = some (.int .i64 (b : Int)) := by rw [World.cell?_setCell_other _ _ _ _ (by intro e; cases e <;> exact hcb rfl)]; exact b1
          have f34 : (w3.setCell ⟨c, 2, none⟩ (.slice p2 a z2)).frozen? ⟨c, 3, none⟩ = false := HT4.out.fz 3
          obtain ⟨hT5, hS5⟩ := HT4.out.cut3 x34 b hb
          have HT5 := Lib.hid hT5
          have HS5 := Lib.hid hS5
          clear hT4 hS4 hT5 hS5
          refine wpAnyL_take 0 _ _ (i := 0) (oi := { dst := some 93, op := Op.move (Operand.tmp 0), type := 25, pos := "sorts.go:236", after := #[], guard := none }) (v := ?_) rfl (by kernel_rfl) (by kernel_rfl) (by kernel_rfl) (fun _ _ _ h => h) rfl (by kernel_rfl) (by kernel_rfl) (by kernel_rfl) (Or.inl ⟨by rfl, ?_⟩) hHeld (fun hHeld => ?_)
          rotate_left
          · intro w hSw
            (try dsimp only at hSw)
            go_simp
            try with_reducible rfl
          try simp only [Act.put, List.setIfInBounds_toArray, List.set_cons_zero, List.set_cons_succ]
          refine wpAnyL_take 0 _ _ (i := 1) (oi := { dst := some 94, op := Op.move (Operand.tmp 0), type := 25, pos := "sorts.go:236", after := #[{ on := 25, ground := Ground.gcOnly Departure.lateStores }], guard := none }) (v := ?_) rfl (by kernel_rfl) (by kernel_rfl) (by kernel_rfl) (fun _ _ _ h => h) rfl (by kernel_rfl) (by kernel_rfl) (by kernel_rfl) (Or.inl ⟨by rfl, ?_⟩) hHeld (fun hHeld => ?_)
          rotate_left
          · intro w hSw
            (try dsimp only at hSw)
            go_simp
            try with_reducible rfl
          try simp only [Act.put, List.setIfInBounds_toArray, List.set_cons_zero, List.set_cons_succ]
          refine wpAnyL_take 0 _ _ (i := 2) (oi := { dst := some 95, op := Op.move (Operand.tmp 0), type := 25, pos := "sorts.go:236", after := #[{ on := 28, ground := Ground.gcOnly Departure.lateStores }], guard := none }) (v := ?_) rfl (by kernel_rfl) (by kernel_rfl) (by kernel_rfl) (fun _ _ _ h => h) rfl (by kernel_rfl) (by kernel_rfl) (by kernel_rfl) (Or.inl ⟨by rfl, ?_⟩) hHeld (fun hHeld => ?_)
          rotate_left
          · intro w hSw
            (try dsimp only at hSw)
            go_simp
            try with_reducible rfl
          try simp only [Act.put, List.setIfInBounds_toArray, List.set_cons_zero, List.set_cons_succ]
          refine wpAnyL_take 0 _ _ (i := 3) (oi := { dst := some 96, op := Op.move (Operand.tmp 0), type := 25, pos := "sorts.go:236", after := #[], guard := none }) (v := ?_) rfl (by kernel_rfl) (by kernel_rfl) (by kernel_rfl) (fun _ _ _ h => h) rfl (by kernel_rfl) (by kernel_rfl) (by kernel_rfl) (Or.inl ⟨by rfl, ?_⟩) hHeld (fun hHeld => ?_)
          rotate_left
          · intro w hSw
            (try dsimp only at hSw)
            go_simp
            try with_reducible rfl
          try simp only [Act.put, List.setIfInBounds_toArray, List.set_cons_zero, List.set_cons_succ]
          refine wpAnyL_take 0 _ _ (i := 4) (oi := { dst := some 97, op := Op.nilCheck (Operand.tmp 96), type := 0, pos := "sorts.go:236", after := #[{ on := 3, ground := Ground.data }], guard := none }) (v := ?_) rfl (by kernel_rfl) (by kernel_rfl) (by kernel_rfl) (fun _ _ _ h => h) rfl (by kernel_rfl) (by kernel_rfl) (by kernel_rfl) (Or.inl ⟨by rfl, ?_⟩) hHeld (fun hHeld => ?_)
          rotate_left
          · intro w hSw
            (try dsimp only at hSw)
            go_simp
            try with_reducible rfl
          try simp only [Act.put, List.setIfInBounds_toArray, List.set_cons_zero, List.set_cons_succ]
          refine wpAnyL_take 0 _ _ (i := 5) (oi := { dst := some 98, op := Op.fieldAddr 60 (Operand.tmp 97) 2, type := 0, pos := "sorts.go:236", after := #[{ on := 4, ground := Ground.data }], guard := none }) (v := ?_) rfl (by kernel_rfl) (by kernel_rfl) (by kernel_rfl) (fun _ _ _ h => h) rfl (by kernel_rfl) (by kernel_rfl) (by kernel_rfl) (Or.inl ⟨by rfl, ?_⟩) hHeld (fun hHeld => ?_)
          rotate_left
          · intro w hSw
            (try dsimp only at hSw)
            go_simp
            try with_reducible rfl
          try simp only [Act.put, List.setIfInBounds_toArray, List.set_cons_zero, List.set_cons_succ]
          refine wpAnyL_take 1 _ _ (i := 6) (oi := { dst := some 99, op := Op.load 32 (Operand.tmp 98), type := 32, pos := "sorts.go:236", after := #[{ on := 5, ground := Ground.data }], guard := none }) (v := ?_) rfl (by kernel_rfl) (by kernel_rfl) (by kernel_rfl) (fun _ _ _ h => h) rfl (by kernel_rfl) (by kernel_rfl) (by kernel_rfl) (Or.inl ⟨by rfl, ?_⟩) hHeld (fun hHeld => ?_)
          rotate_left
          · intro w hSw
            (try dsimp only at hSw)
            go_simp
            try with_reducible rfl
          try simp only [Act.put, List.setIfInBounds_toArray, List.set_cons_zero, List.set_cons_succ]
          refine wpAnyL_take 0 _ _ (i := 7) (oi := { dst := some 100, op := Op.fieldAddr 114 (Operand.tmp 6) 0, type := 0, pos := "sorts.go:236", after := #[], guard := none }) (v := ?_) rfl (by kernel_rfl) (by kernel_rfl) (by kernel_rfl) (fun _ _ _ h => h) rfl (by kernel_rfl) (by kernel_rfl) (by kernel_rfl) (Or.inl ⟨by rfl, ?_⟩) hHeld (fun hHeld => ?_)
          rotate_left
          · intro w hSw
            (try dsimp only at hSw)
            go_simp
            try with_reducible rfl
          try simp only [Act.put, List.setIfInBounds_toArray, List.set_cons_zero, List.set_cons_succ]
          refine wpAnyL_take 4 _ _ (i := 8) (oi := { dst := some 101, op := Op.load 3 (Operand.tmp 100), type := 3, pos := "sorts.go:236", after := #[{ on := 7, ground := Ground.data }], guard := none }) (v := ?_) rfl (by kernel_rfl) (by kernel_rfl) (by kernel_rfl) (fun _ _ _ h => h) rfl (by kernel_rfl) (by kernel_rfl) (by kernel_rfl) (Or.inl ⟨by rfl, ?_⟩) hHeld (fun hHeld => ?_)
          rotate_left
          · intro w hSw
            (try dsimp only at hSw)
            go_simp
            try with_reducible rfl
          try simp only [Act.put, List.setIfInBounds_toArray, List.set_cons_zero, List.set_cons_succ]
          refine wpAnyL_take 0 _ _ (i := 9) (oi := { dst := some 102, op := Op.slice 32 (Operand.tmp 99) none (some (Operand.tmp 101)) none, type := 32, pos := "sorts.go:236", after := #[{ on := 6, ground := Ground.data }, { on := 8, ground := Ground.data }], guard := none }) (v := ?_) rfl (by kernel_rfl) (by kernel_rfl) (by kernel_rfl) (fun _ _ _ h => h) rfl (by kernel_rfl) (by kernel_rfl) (by kernel_rfl) (Or.inl ⟨by rfl, ?_⟩) hHeld (fun hHeld => ?_)
          rotate_left
          · intro w hSw
            (try dsimp only at hSw)
            have hsl1 := hs2 w
            go_simp
            try with_reducible rfl
          try simp only [Act.put, List.setIfInBounds_toArray, List.set_cons_zero, List.set_cons_succ]
          refine wpAnyL_take 0 _ _ (i := 10) (oi := { dst := some 103, op := Op.move (Operand.tmp 0), type := 25, pos := "sorts.go:236", after := #[], guard := none }) (v := ?_) rfl (by kernel_rfl) (by kernel_rfl) (by kernel_rfl) (fun _ _ _ h => h) rfl (by kernel_rfl) (by kernel_rfl) (by kernel_rfl) (Or.inl ⟨by rfl, ?_⟩) hHeld (fun hHeld => ?_)
          rotate_left
          · intro w hSw
            (try dsimp only at hSw)
            go_simp
            try with_reducible rfl
          try simp only [Act.put, List.setIfInBounds_toArray, List.set_cons_zero, List.set_cons_succ]
          refine wpAnyL_take 0 _ _ (i := 11) (oi := { dst := some 104, op := Op.nilCheck (Operand.tmp 103), type := 0, pos := "sorts.go:236", after := #[{ on := 10, ground := Ground.data }], guard := none }) (v := ?_) rfl (by kernel_rfl) (by kernel_rfl) (by kernel_rfl) (fun _ _ _ h => h) rfl (by kernel_rfl) (by kernel_rfl) (by kernel_rfl) (Or.inl ⟨by rfl, ?_⟩) hHeld (fun hHeld => ?_)
          rotate_left
          · intro w hSw
            (try dsimp only at hSw)
            go_simp
            try with_reducible rfl
          try simp only [Act.put, List.setIfInBounds_toArray, List.set_cons_zero, List.set_cons_succ]
          refine wpAnyL_take 0 _ _ (i := 12) (oi := { dst := some 105, op := Op.fieldAddr 60 (Operand.tmp 104) 3, type := 0, pos := "sorts.go:236", after := #[{ on := 11, ground := Ground.data }], guard := none }) (v := ?_) rfl (by kernel_rfl) (by kernel_rfl) (by kernel_rfl) (fun _ _ _ h => h) rfl (by kernel_rfl) (by kernel_rfl) (by kernel_rfl) (Or.inl ⟨by rfl, ?_⟩) hHeld (fun hHeld => ?_)
          rotate_left
          · intro w hSw
            (try dsimp only at hSw)
            go_simp
            try with_reducible rfl
          try simp only [Act.put, List.setIfInBounds_toArray, List.set_cons_zero, List.set_cons_succ]
          refine wpAnyL_take 2 _ _ (i := 13) (oi := { dst := some 106, op := Op.load 39 (Operand.tmp 105), type := 39, pos := "sorts.go:236", after := #[{ on := 12, ground := Ground.data }], guard := none }) (v := ?_) rfl (by kernel_rfl) (by kernel_rfl) (by kernel_rfl) (fun _ _ _ h => h) rfl (by kernel_rfl) (by kernel_rfl) (by kernel_rfl) (Or.inl ⟨by rfl, ?_⟩) hHeld (fun hHeld => ?_)
          rotate_left
          · intro w hSw
            (try dsimp only at hSw)
            go_simp
            try with_reducible rfl
          try simp only [Act.put, List.setIfInBounds_toArray, List.set_cons_zero, List.set_cons_succ]
          refine wpAnyL_take 0 _ _ (i := 14) (oi := { dst := some 107, op := Op.fieldAddr 114 (Operand.tmp 6) 1, type := 0, pos := "sorts.go:236", after := #[], guard := none }) (v := ?_) rfl (by kernel_rfl) (by kernel_rfl) (by kernel_rfl) (fun _ _ _ h => h) rfl (by kernel_rfl) (by kernel_rfl) (by kernel_rfl) (Or.inl ⟨by rfl, ?_⟩) hHeld (fun hHeld => ?_)
          rotate_left
          · intro w hSw
            (try dsimp only at hSw)
            go_simp
            try with_reducible rfl
          try simp only [Act.put, List.setIfInBounds_toArray, List.set_cons_zero, List.set_cons_succ]
          refine wpAnyL_take 5 _ _ (i := 15) (oi := { dst := some 108, op := Op.load 3 (Operand.tmp 107), type := 3, pos := "sorts.go:236", after := #[{ on := 14, ground := Ground.data }], guard := none }) (v := ?_) rfl (by kernel_rfl) (by kernel_rfl) (by kernel_rfl) (fun _ _ _ h => h) rfl (by kernel_rfl) (by kernel_rfl) (by kernel_rfl) (Or.inl ⟨by rfl, ?_⟩) hHeld (fun hHeld => ?_)
          rotate_left
          · intro w hSw
            (try dsimp only at hSw)
            go_simp
            try with_reducible rfl
          try simp only [Act.put, List.setIfInBounds_toArray, List.set_cons_zero, List.set_cons_succ]
          refine wpAnyL_take 0 _ _ (i := 16) (oi := { dst := some 109, op := Op.slice 39 (Operand.tmp 106) none (some (Operand.tmp 108)) none, type := 39, pos := "sorts.go:236", after := #[{ on := 13, ground := Ground.data }, { on := 15, ground := Ground.data }], guard := none }) (v := ?_) rfl (by kernel_rfl) (by kernel_rfl) (by kernel_rfl) (fun _ _ _ h => h) rfl (by kernel_rfl) (by kernel_rfl) (by kernel_rfl) (Or.inl ⟨by rfl, ?_⟩) hHeld (fun hHeld => ?_)
          rotate_left
          · intro w hSw
            (try dsimp only at hSw)
            have hsl1 := hs3 w
            go_simp
            try with_reducible rfl
          try simp only [Act.put, List.setIfInBounds_toArray, List.set_cons_zero, List.set_cons_succ]
          refine wpAnyL_take 0 _ _ (i := 17) (oi := { dst := some 110, op := Op.move (Operand.tmp 0), type := 25, pos := "sorts.go:236", after := #[], guard := none }) (v := ?_) rfl (by kernel_rfl) (by kernel_rfl) (by kernel_rfl) (fun _ _ _ h => h) rfl (by kernel_rfl) (by kernel_rfl) (by kernel_rfl) (Or.inl ⟨by rfl, ?_⟩) hHeld (fun hHeld => ?_)
          rotate_left
          · intro w hSw
            (try dsimp only at hSw)
            go_simp
            try with_reducible rfl
          try simp only [Act.put, List.setIfInBounds_toArray, List.set_cons_zero, List.set_cons_succ]
          refine wpAnyL_take 0 _ _ (i := 18) (oi := { dst := some 111, op := Op.nilCheck (Operand.tmp 110), type := 0, pos := "sorts.go:236", after := #[{ on := 17, ground := Ground.data }], guard := none }) (v := ?_) rfl (by kernel_rfl) (by kernel_rfl) (by kernel_rfl) (fun _ _ _ h => h) rfl (by kernel_rfl) (by kernel_rfl) (by kernel_rfl) (Or.inl ⟨by rfl, ?_⟩) hHeld (fun hHeld => ?_)
          rotate_left
          · intro w hSw
            (try dsimp only at hSw)
            go_simp
            try with_reducible rfl
          try simp only [Act.put, List.setIfInBounds_toArray, List.set_cons_zero, List.set_cons_succ]
          refine wpAnyL_take 0 _ _ (i := 19) (oi := { dst := some 112, op := Op.fieldAddr 60 (Operand.tmp 111) 6, type := 0, pos := "sorts.go:236", after := #[{ on := 18, ground := Ground.data }], guard := none }) (v := ?_) rfl (by kernel_rfl) (by kernel_rfl) (by kernel_rfl) (fun _ _ _ h => h) rfl (by kernel_rfl) (by kernel_rfl) (by kernel_rfl) (Or.inl ⟨by rfl, ?_⟩) hHeld (fun hHeld => ?_)
          rotate_left
          · intro w hSw
            (try dsimp only at hSw)
            go_simp
            try with_reducible rfl
          try simp only [Act.put, List.setIfInBounds_toArray, List.set_cons_zero, List.set_cons_succ]
          refine wpAnyL_take 3 _ _ (i := 20) (oi := { dst := some 113, op := Op.load 58 (Operand.tmp 112), type := 58, pos := "sorts.go:236", after := #[{ on := 19, ground := Ground.data }], guard := none }) (v := ?_) rfl (by kernel_rfl) (by kernel_rfl) (by kernel_rfl) (fun _ _ _ h => h) rfl (by kernel_rfl) (by kernel_rfl) (by kernel_rfl) (Or.inl ⟨by rfl, ?_⟩) hHeld (fun hHeld => ?_)
          rotate_left
          · intro w hSw
            (try dsimp only at hSw)
            go_simp
            try with_reducible rfl
          try simp only [Act.put, List.setIfInBounds_toArray, List.set_cons_zero, List.set_cons_succ]
          refine wpAnyL_take 0 _ _ (i := 21) (oi := { dst := some 114, op := Op.move (Operand.tmp 5), type := 3, pos := "sorts.go:236", after := #[], guard := none }) (v := ?_) rfl (by kernel_rfl) (by kernel_rfl) (by kernel_rfl) (fun _ _ _ h => h) rfl (by kernel_rfl) (by kernel_rfl) (by kernel_rfl) (Or.inl ⟨by rfl, ?_⟩) hHeld (fun hHeld => ?_)
          rotate_left
          · intro w hSw
            (try dsimp only at hSw)
            go_simp
            try with_reducible rfl
          try simp only [Act.put, List.setIfInBounds_toArray, List.set_cons_zero, List.set_cons_succ]
          refine wpAnyL_take 0 _ _ (i := 22) (oi := { dst := some 115, op := Op.slice 58 (Operand.tmp 113) none (some (Operand.tmp 114)) none, type := 58, pos := "sorts.go:236", after := #[{ on := 20, ground := Ground.data }, { on := 21, ground := Ground.data }], guard := none }) (v := ?_) rfl (by kernel_rfl) (by kernel_rfl) (by kernel_rfl) (fun _ _ _ h => h) rfl (by kernel_rfl) (by kernel_rfl) (by kernel_rfl) (Or.inl ⟨by rfl, ?_⟩) hHeld (fun hHeld => ?_)
          rotate_left
          · intro w hSw
            (try dsimp only at hSw)
            have hsl1 := hs6 w
            go_simp
            try with_reducible rfl
          try simp only [Act.put, List.setIfInBounds_toArray, List.set_cons_zero, List.set_cons_succ]
          refine wpAnyL_take 0 _ _ (i := 23) (oi := { dst := some 116, op := Op.nilCheck (Operand.tmp 93), type := 0, pos := "sorts.go:236", after := #[{ on := 0, ground := Ground.data }, { on := 0, ground := Ground.phase }, { on := 1, ground := Ground.textOnly Departure.lateStores }, { on := 2, ground := Ground.textOnly Departure.lateStores }, { on := 3, ground := Ground.phase }, { on := 4, ground := Ground.phase }, { on := 5, ground := Ground.phase }, { on := 6, ground := Ground.phase }, { on := 7, ground := Ground.phase }, { on := 8, ground := Ground.phase }, { on := 9, ground := Ground.phase }, { on := 10, ground := Ground.textOnly Departure.lateStores }, { on := 11, ground := Ground.textOnly Departure.lateStoresUnsure }, { on := 12, ground := Ground.textOnly Departure.lateStoresUnsure }, { on := 13, ground := Ground.phase }, { on := 14, ground := Ground.textOnly Departure.lateStores }, { on := 15, ground := Ground.textOnly Departure.lateStores }, { on := 16, ground := Ground.textOnly Departure.lateStoresUnsure }, { on := 17, ground := Ground.textOnly Departure.lateStores }, { on := 18, ground := Ground.textOnly Departure.lateStoresUnsure }, { on := 19, ground := Ground.textOnly Departure.lateStoresUnsure }, { on := 20, ground := Ground.phase }, { on := 21, ground := Ground.textOnly Departure.lateStores }, { on := 22, ground := Ground.textOnly Departure.lateStoresUnsure }], guard := none }) (v := ?_) rfl (by kernel_rfl) (by kernel_rfl) (by kernel_rfl) (fun _ _ _ h => h) rfl (by kernel_rfl) (by kernel_rfl) (by kernel_rfl) (Or.inl ⟨by rfl, ?_⟩) hHeld (fun hHeld => ?_)
          rotate_left
          · intro w hSw
            (try dsimp only at hSw)
            go_simp
            try with_reducible rfl
          try simp only [Act.put, List.setIfInBounds_toArray, List.set_cons_zero, List.set_cons_succ]
          refine wpAnyL_take 0 _ _ (i := 24) (oi := { dst := some 117, op := Op.fieldAddr 60 (Operand.tmp 116) 2, type := 0, pos := "sorts.go:236", after := #[{ on := 23, ground := Ground.data }, { on := 0, ground := Ground.phase }, { on := 1, ground := Ground.textOnly Departure.lateStores }, { on := 2, ground := Ground.textOnly Departure.lateStores }, { on := 3, ground := Ground.phase }, { on := 4, ground := Ground.phase }, { on := 5, ground := Ground.phase }, { on := 6, ground := Ground.phase }, { on := 7, ground := Ground.phase }, { on := 8, ground := Ground.phase }, { on := 9, ground := Ground.phase }, { on := 10, ground := Ground.textOnly Departure.lateStores }, { on := 11, ground := Ground.textOnly Departure.lateStoresUnsure }, { on := 12, ground := Ground.textOnly Departure.lateStoresUnsure }, { on := 13, ground := Ground.phase }, { on := 14, ground := Ground.textOnly Departure.lateStores }, { on := 15, ground := Ground.textOnly Departure.lateStores }, { on := 16, ground := Ground.textOnly Departure.lateStoresUnsure }, { on := 17, ground := Ground.textOnly Departure.lateStores }, { on := 18, ground := Ground.textOnly Departure.lateStoresUnsure }, { on := 19, ground := Ground.textOnly Departure.lateStoresUnsure }, { on := 20, ground := Ground.phase }, { on := 21, ground := Ground.textOnly Departure.lateStores }, { on := 22, ground := Ground.textOnly Departure.lateStoresUnsure }], guard := none }) (v := ?_) rfl (by kernel_rfl) (by kernel_rfl) (by kernel_rfl) (fun _ _ _ h => h) rfl (by kernel_rfl) (by kernel_rfl) (by kernel_rfl) (Or.inl ⟨by rfl, ?_⟩) hHeld (fun hHeld => ?_)
          rotate_left
          · intro w hSw
            (try dsimp only at hSw)
            go_simp
            try with_reducible rfl
          try simp only [Act.put, List.setIfInBounds_toArray, List.set_cons_zero, List.set_cons_succ]
          refine wpAnyL_ready (rs := [25]) (by kernel_rfl) (by simp) ?_
          refine AllReadyL.cons (o := { dst := none, op := Op.store 32 (Operand.tmp 117) (Operand.tmp 102), type := 0, pos := "sorts.go:236", after := #[{ on := 24, ground := Ground.data }, { on := 9, ground := Ground.data }, { on := 0, ground := Ground.phase }, { on := 1, ground := Ground.textOnly Departure.lateStores }, { on := 2, ground := Ground.textOnly Departure.lateStores }, { on := 3, ground := Ground.phase }, { on := 4, ground := Ground.phase }, { on := 5, ground := Ground.phase }, { on := 6, ground := Ground.phase }, { on := 7, ground := Ground.phase }, { on := 8, ground := Ground.phase }, { on := 9, ground := Ground.phase }, { on := 10, ground := Ground.textOnly Departure.lateStores }, { on := 11, ground := Ground.textOnly Departure.lateStoresUnsure }, { on := 12, ground := Ground.textOnly Departure.lateStoresUnsure }, { on := 13, ground := Ground.phase }, { on := 14, ground := Ground.textOnly Departure.lateStores }, { on := 15, ground := Ground.textOnly Departure.lateStores }, { on := 16, ground := Ground.textOnly Departure.lateStoresUnsure }, { on := 17, ground := Ground.textOnly Departure.lateStores }, { on := 18, ground := Ground.textOnly Departure.lateStoresUnsure }, { on := 19, ground := Ground.textOnly Departure.lateStoresUnsure }, { on := 20, ground := Ground.phase }, { on := 21, ground := Ground.textOnly Departure.lateStores }, { on := 22, ground := Ground.textOnly Departure.lateStoresUnsure }], guard := none }) rfl (fun K hK => ?_) AllReadyL.nil
          go_simp
          refine hK.out _ _ (SL.cons (fun _ => trivial) (SL.cons (fun h => absurd h (by decide +kernel)) (SL.cons (fun _ => x34) (SL.cons (fun _ => x64) (SL.cons (fun _ => b04) (SL.cons (fun _ => b14) SL.nil)))))) (fun hHeld => ?_)
          clear hK K
          try simp only [Act.put, List.setIfInBounds_toArray, List.set_cons_zero, List.set_cons_succ]
          generalize w3.setCell ⟨c, 2, none⟩ (.slice p2 a z2) = w4 at *
          have x65 : (w4.setCell ⟨c, 3, none⟩ (.slice p3 b z3)).cell? ⟨c, 6, none⟩ = some (.slice p6 T.scopes.length z6) := by rw [World.cell?_setCell_other _ _ _ _ (by intro e; cases e)]; exact x64
          have b05 : (w4.setCell ⟨c, 3, none⟩ (.slice p3 b z3)).cell? ⟨bb, 0, none⟩ = some (.int .i64 (a : Int)) := by rw [World.cell?_setCell_other _ _ _ _ (by intro e; cases e <;> exact hcb rfl)]; exact b04
          have b15 : (w4.setCell ⟨c, 3, none⟩ (.slice p3 b z3)).cell? ⟨bb, 1, none⟩ = some (.int .i64 (b : Int)) := by rw [World.cell?_setCell_other _ _ _ _ (by intro e; cases e <;> exact hcb rfl)]; exact b14
          have f65 : (w4.setCell ⟨c, 3, none⟩ (.slice p3 b z3)).frozen? ⟨c, 6, none⟩ = false := HT5.out.fz 6
          obtain ⟨hT6, hS6⟩ := HT5.out.cut6 x65 l (Nat.le_of_lt hll)
          have HT6 := Lib.hid hT6
          have HS6 := Lib.hid hS6
          clear hT6 hS6
          refine wpAnyL_take 0 _ _ (i := 26) (oi := { dst := some 118, op := Op.nilCheck (Operand.tmp 94), type := 0, pos := "sorts.go:236", after := #[{ on := 1, ground := Ground.data }, { on := 0, ground := Ground.phase }, { on := 1, ground := Ground.phase }, { on := 2, ground := Ground.textOnly Departure.lateStores }, { on := 3, ground := Ground.phase }, { on := 4, ground := Ground.phase }, { on := 5, ground := Ground.phase }, { on := 6, ground := Ground.phase }, { on := 7, ground := Ground.phase }, { on := 8, ground := Ground.phase }, { on := 9, ground := Ground.phase }, { on := 10, ground := Ground.phase }, { on := 11, ground := Ground.phase }, { on := 12, ground := Ground.phase }, { on := 13, ground := Ground.phase }, { on := 14, ground := Ground.phase }, { on := 15, ground := Ground.phase }, { on := 16, ground := Ground.phase }, { on := 17, ground := Ground.textOnly Departure.lateStores }, { on := 18, ground := Ground.textOnly Departure.lateStoresUnsure }, { on := 19, ground := Ground.textOnly Departure.lateStoresUnsure }, { on := 20, ground := Ground.phase }, { on := 21, ground := Ground.textOnly Departure.lateStores }, { on := 22, ground := Ground.textOnly Departure.lateStoresUnsure }, { on := 23, ground := Ground.phase }, { on := 24, ground := Ground.phase }, { on := 25, ground := Ground.phase }], guard := none }) (v := ?_) rfl (by kernel_rfl) (by kernel_rfl) (by kernel_rfl) (fun _ _ _ h => h) rfl (by kernel_rfl) (by kernel_rfl) (by kernel_rfl) (Or.inl ⟨by rfl, ?_⟩) hHeld (fun hHeld => ?_)
          rotate_left
          · intro w hSw
            (try dsimp only at hSw)
            go_simp
            try with_reducible rfl
          try simp only [Act.put, List.setIfInBounds_toArray, List.set_cons_zero, List.set_cons_succ]
          refine wpAnyL_take 0 _ _ (i := 27) (oi := { dst := some 119, op := Op.fieldAddr 60 (Operand.tmp 118) 3, type := 0, pos := "sorts.go:236", after := #[{ on := 26, ground := Ground.data }, { on := 0, ground := Ground.phase }, { on := 1, ground := Ground.phase }, { on := 2, ground := Ground.textOnly Departure.lateStores }, { on := 3, ground := Ground.phase }, { on := 4, ground := Ground.phase }, { on := 5, ground := Ground.phase }, { on := 6, ground := Ground.phase }, { on := 7, ground := Ground.phase }, { on := 8, ground := Ground.phase }, { on := 9, ground := Ground.phase }, { on := 10, ground := Ground.phase }, { on := 11, ground := Ground.phase }, { on := 12, ground := Ground.phase }, { on := 13, ground := Ground.phase }, { on := 14, ground := Ground.phase }, { on := 15, ground := Ground.phase }, { on := 16, ground := Ground.phase }, { on := 17, ground := Ground.textOnly Departure.lateStores }, { on := 18, ground := Ground.textOnly Departure.lateStoresUnsure }, { on := 19, ground := Ground.textOnly Departure.lateStoresUnsure }, { on := 20, ground := Ground.phase }, { on := 21, ground := Ground.textOnly Departure.lateStores }, { on := 22, ground := Ground.textOnly Departure.lateStoresUnsure }, { on := 23, ground := Ground.phase }, { on := 24, ground := Ground.phase }, { on := 25, ground := Ground.phase }], guard := none }) (v := ?_) rfl (by kernel_rfl) (by kernel_rfl) (by kernel_rfl) (fun _ _ _ h => h) rfl (by kernel_rfl) (by kernel_rfl) (by kernel_rfl) (Or.inl ⟨by rfl, ?_⟩) hHeld (fun hHeld => ?_)
          rotate_left
          · intro w hSw
            (try dsimp only at hSw)
            go_simp
            try with_reducible rfl
          try simp only [Act.put, List.setIfInBounds_toArray, List.set_cons_zero, List.set_cons_succ]
          refine wpAnyL_ready (rs := [28]) (by kernel_rfl) (by simp) ?_
          refine AllReadyL.cons (o := { dst := none, op := Op.store 39 (Operand.tmp 119) (Operand.tmp 109), type := 0, pos := "sorts.go:236", after := #[{ on := 27, ground := Ground.data }, { on := 16, ground := Ground.data }, { on := 25, ground := Ground.chain }, { on := 0, ground := Ground.phase }, { on := 1, ground := Ground.phase }, { on := 2, ground := Ground.textOnly Departure.lateStores }, { on := 3, ground := Ground.phase }, { on := 4, ground := Ground.phase }, { on := 5, ground := Ground.phase }, { on := 6, ground := Ground.phase }, { on := 7, ground := Ground.phase }, { on := 8, ground := Ground.phase }, { on := 9, ground := Ground.phase }, { on := 10, ground := Ground.phase }, { on := 11, ground := Ground.phase }, { on := 12, ground := Ground.phase }, { on := 13, ground := Ground.phase }, { on := 14, ground := Ground.phase }, { on := 15, ground := Ground.phase }, { on := 16, ground := Ground.phase }, { on := 17, ground := Ground.textOnly Departure.lateStores }, { on := 18, ground := Ground.textOnly Departure.lateStoresUnsure }, { on := 19, ground := Ground.textOnly Departure.lateStoresUnsure }, { on := 20, ground := Ground.phase }, { on := 21, ground := Ground.textOnly Departure.lateStores }, { on := 22, ground := Ground.textOnly Departure.lateStoresUnsure }, { on := 23, ground := Ground.phase }, { on := 24, ground := Ground.phase }, { on := 25, ground := Ground.phase }], guard := none }) rfl (fun K hK => ?_) AllReadyL.nil
          go_simp
          refine hK.out _ _ (SL.cons (fun _ => trivial) (SL.cons (fun h => absurd h (by decide +kernel)) (SL.cons (fun h => absurd h (by decide +kernel)) (SL.cons (fun _ => x65) (SL.cons (fun _ => b05) (SL.cons (fun _ => b15) SL.nil)))))) (fun hHeld => ?_)
          clear hK K
          try simp only [Act.put, List.setIfInBounds_toArray, List.set_cons_zero, List.set_cons_succ]
          generalize w4.setCell ⟨c, 3, none⟩ (.slice p3 b z3) = w5 at *
          refine wpAnyL_take 0 _ _ (i := 29) (oi := { dst := some 120, op := Op.nilCheck (Operand.tmp 95), type := 0, pos := "sorts.go:236", after := #[{ on := 2, ground := Ground.data }, { on := 0, ground := Ground.phase }, { on := 1, ground := Ground.phase }, { on := 2, ground := Ground.phase }, { on := 3, ground := Ground.phase }, { on := 4, ground := Ground.phase }, { on := 5, ground := Ground.phase }, { on := 6, ground := Ground.phase }, { on := 7, ground := Ground.phase }, { on := 8, ground := Ground.phase }, { on := 9, ground := Ground.phase }, { on := 10, ground := Ground.phase }, { on := 11, ground := Ground.phase }, { on := 12, ground := Ground.phase }, { on := 13, ground := Ground.phase }, { on := 14, ground := Ground.phase }, { on := 15, ground := Ground.phase }, { on := 16, ground := Ground.phase }, { on := 17, ground := Ground.phase }, { on := 18, ground := Ground.phase }, { on := 19, ground := Ground.phase }, { on := 20, ground := Ground.phase }, { on := 21, ground := Ground.phase }, { on := 22, ground := Ground.phase }, { on := 23, ground := Ground.phase }, { on := 24, ground := Ground.phase }, { on := 25, ground := Ground.phase }, { on := 26, ground := Ground.phase }, { on := 27, ground := Ground.phase }, { on := 28, ground := Ground.phase }], guard := none }) (v := ?_) rfl (by kernel_rfl) (by kernel_rfl) (by kernel_rfl) (fun _ _ _ h => h) rfl (by kernel_rfl) (by kernel_rfl) (by kernel_rfl) (Or.inl ⟨by rfl, ?_⟩) hHeld (fun hHeld => ?_)
          rotate_left
          · intro w hSw
            (try dsimp only at hSw)
            go_simp
            try with_reducible rfl
          try simp only [Act.put, List.setIfInBounds_toArray, List.set_cons_zero, List.set_cons_succ]
          refine wpAnyL_take 0 _ _ (i := 30) (oi := { dst := some 121, op := Op.fieldAddr 60 (Operand.tmp 120) 6, type := 0, pos := "sorts.go:236", after := #[{ on := 29, ground := Ground.data }, { on := 0, ground := Ground.phase }, { on := 1, ground := Ground.phase }, { on := 2, ground := Ground.phase }, { on := 3, ground := Ground.phase }, { on := 4, ground := Ground.phase }, { on := 5, ground := Ground.phase }, { on := 6, ground := Ground.phase }, { on := 7, ground := Ground.phase }, { on := 8, ground := Ground.phase }, { on := 9, ground := Ground.phase }, { on := 10, ground := Ground.phase }, { on := 11, ground := Ground.phase }, { on := 12, ground := Ground.phase }, { on := 13, ground := Ground.phase }, { on := 14, ground := Ground.phase }, { on := 15, ground := Ground.phase }, { on := 16, ground := Ground.phase }, { on := 17, ground := Ground.phase }, { on := 18, ground := Ground.phase }, { on := 19, ground := Ground.phase }, { on := 20, ground := Ground.phase }, { on := 21, ground := Ground.phase }, { on := 22, ground := Ground.phase }, { on := 23, ground := Ground.phase }, { on := 24, ground := Ground.phase }, { on := 25, ground := Ground.phase }, { on := 26, ground := Ground.phase }, { on := 27, ground := Ground.phase }, { on := 28, ground := Ground.phase }], guard := none }) (v := ?_) rfl (by kernel_rfl) (by kernel_rfl) (by kernel_rfl) (fun _ _ _ h => h) rfl (by kernel_rfl) (by kernel_rfl) (by kernel_rfl) (Or.inl ⟨by rfl, ?_⟩) hHeld (fun hHeld => ?_)
          rotate_left
          · intro w hSw
            (try dsimp only at hSw)
            go_simp
            try with_reducible rfl
          try simp only [Act.put, List.setIfInBounds_toArray, List.set_cons_zero, List.set_cons_succ]
          refine wpAnyL_ready (rs := [31]) (by kernel_rfl) (by simp) ?_
          refine AllReadyL.cons (o := { dst := none, op := Op.store 58 (Operand.tmp 121) (Operand.tmp 115), type := 0, pos := "sorts.go:236", after := #[{ on := 30, ground := Ground.data }, { on := 22, ground := Ground.data }, { on := 28, ground := Ground.chain }, { on := 0, ground := Ground.phase }, { on := 1, ground := Ground.phase }, { on := 2, ground := Ground.phase }, { on := 3, ground := Ground.phase }, { on := 4, ground := Ground.phase }, { on := 5, ground := Ground.phase }, { on := 6, ground := Ground.phase }, { on := 7, ground := Ground.phase }, { on := 8, ground := Ground.phase }, { on := 9, ground := Ground.phase }, { on := 10, ground := Ground.phase }, { on := 11, ground := Ground.phase }, { on := 12, ground := Ground.phase }, { on := 13, ground := Ground.phase }, { on := 14, ground := Ground.phase }, { on := 15, ground := Ground.phase }, { on := 16, ground := Ground.phase }, { on := 17, ground := Ground.phase }, { on := 18, ground := Ground.phase }, { on := 19, ground := Ground.phase }, { on := 20, ground := Ground.phase }, { on := 21, ground := Ground.phase }, { on := 22, ground := Ground.phase }, { on := 23, ground := Ground.phase }, { on := 24, ground := Ground.phase }, { on := 25, ground := Ground.phase }, { on := 26, ground := Ground.phase }, { on := 27, ground := Ground.phase }, { on := 28, ground := Ground.phase }], guard := none }) rfl (fun K hK => ?_) AllReadyL.nil
          go_simp
          refine hK.out _ _ (SL.cons (fun _ => trivial) (SL.cons (fun h => absurd h (by decide +kernel)) (SL.cons (fun h => absurd h (by decide +kernel)) (SL.cons (fun h => absurd h (by decide +kernel)) (SL.cons (fun _ => by rw [World.cell?_setCell_other _ _ _ _ (by intro e; cases e <;> exact hcb rfl)]; exact b05) (SL.cons (fun _ => by rw [World.cell?_setCell_other _ _ _ _ (by intro e; cases e <;> exact hcb rfl)]; exact b15) SL.nil)))))) (fun hHeld => ?_)
          clear hK K
          try simp only [Act.put, List.setIfInBounds_toArray, List.set_cons_zero, List.set_cons_succ]
          refine wpAnyL_done (by kernel_rfl) ?_ _
          clear hHeld x2 x3 x6 x34 x64 x65 b0 b1 b04 b14 b05 b15 f2 f3 f6 f34 f65 hs2 hs3 hs6
          go_wp2_with fail
          go_ret
          refine ⟨cutT T l a b g1 n1 g2 n2, _, rfl, HT6.out, HG.out.cut HAB.out HC1.out.1 HC2.out.1 HC1.out.2 HC2.out.2, HS3.out.trans (HS4.out.trans (HS5.out.trans HS6.out)), .inr (.inr ⟨rfl, l, a, b, g1, n1, g2, n2, ?_, HL.out, HAB.out, rfl, HC1.out.1, HC2.out.1⟩)⟩
          have := HN.out
          omega
end Go.Proofs.Ytkjmmdffelhkiaa
