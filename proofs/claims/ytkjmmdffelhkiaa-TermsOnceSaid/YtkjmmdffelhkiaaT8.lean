/- Stage 6: digits.Add, inBounds, Split. -/
import Derived.Test.YtkjmmdffelhkiaaT5
import Derived.OwnWalk
namespace Go.Proofs.Ytkjmmdffelhkiaa
open Go Go.RowKit Go.Maps

theorem neg_msb (v : BitVec 64) : (IntKind.i64.wrap (v.toNat : Int) < 0) ↔ v.msb = true := by
  rw [IntKind.wrap_i64, BitVec.msb_eq_decide, decide_eq_true_eq]
  have := v.isLt
  omega
theorem msb_int (x : Int) (h0 : -9223372036854775808 ≤ x) (h1 : x ≤ 9223372036854775807) : (BitVec.ofInt 64 x).msb = decide (x < 0) := by
  rw [BitVec.msb_eq_decide, BitVec.toNat_ofInt, decide_eq_decide]
  omega
theorem int_wrap (v : BitVec 64) : BitVec.ofInt 64 (IntKind.i64.wrap (v.toNat : Int)) = v := by
  apply BitVec.eq_of_toNat_eq
  rw [BitVec.toNat_ofInt, IntKind.wrap_i64]
  have := v.isLt
  omega
theorem sign_two (a b c d : Int) (a0 : -9223372036854775808 ≤ a) (a1 : a ≤ 9223372036854775807) (b0 : -9223372036854775808 ≤ b) (b1 : b ≤ 9223372036854775807) (c0 : -9223372036854775808 ≤ c) (c1 : c ≤ 9223372036854775807) (d0 : -9223372036854775808 ≤ d) (d1 : d ≤ 9223372036854775807) :
    (bits .and .i64 (bits .xor .i64 a b) (bits .xor .i64 c d) < 0) ↔ ((decide (a < 0) != decide (b < 0)) && (decide (c < 0) != decide (d < 0))) = true := by
  have e1 : bits .xor .i64 a b = IntKind.i64.wrap ((BitVec.ofInt 64 a ^^^ BitVec.ofInt 64 b).toNat : Nat) := rfl
  have e2 : bits .xor .i64 c d = IntKind.i64.wrap ((BitVec.ofInt 64 c ^^^ BitVec.ofInt 64 d).toNat : Nat) := rfl
  have e3 : ∀ x y, bits .and .i64 x y = IntKind.i64.wrap ((BitVec.ofInt 64 x &&& BitVec.ofInt 64 y).toNat : Nat) := fun _ _ => rfl
  rw [e3, e1, e2, int_wrap, int_wrap, neg_msb, BitVec.msb_and, BitVec.msb_xor, BitVec.msb_xor, msb_int a a0 a1, msb_int b b0 b1, msb_int c c0 c1, msb_int d d0 d1]

theorem add_fits (a b : Int) (w : World) (a0 : -9223372036854775808 ≤ a) (a1 : a ≤ 9223372036854775807) (b0 : -9223372036854775808 ≤ b) (b1 : b ≤ 9223372036854775807) (s0 : -9223372036854775808 ≤ a + b) (s1 : a + b ≤ 9223372036854775807) :
    Calls Try.prog 83 #[.int .i64 a, .int .i64 b] w fun e w' => e = .returned (.tuple #[.int .i64 (a + b), .bool true]) ∧ w' = w := by
  have h : 0 ≤ bits .and .i64 (bits .xor .i64 a (a + b)) (bits .xor .i64 b (a + b)) := by
    apply Int.not_lt.1
    rw [sign_two _ _ _ _ a0 a1 s0 s1 b0 b1 s0 s1]
    simp; omega
  go_enter Try.func83, Try.ntmps83
  go_wp2
  go_ret2
  exact ⟨rfl, rfl⟩
theorem add_not (a b : Int) (w : World) (a0 : -9223372036854775808 ≤ a) (a1 : a ≤ 9223372036854775807) (b0 : -9223372036854775808 ≤ b) (b1 : b ≤ 9223372036854775807) (s : a + b < -9223372036854775808 ∨ 9223372036854775807 < a + b) :
    Calls Try.prog 83 #[.int .i64 a, .int .i64 b] w fun e w' => e = .returned (.tuple #[.int .i64 0, .bool false]) ∧ w' = w := by
  have h : bits .and .i64 (bits .xor .i64 a (wrap64 (a + b))) (bits .xor .i64 b (wrap64 (a + b))) < 0 := by
    rw [wrap64_eq, sign_two _ _ _ _ a0 a1 (by omega) (by omega) b0 b1 (by omega) (by omega)]
    simp; omega
  clear s
  go_enter Try.func83, Try.ntmps83
  go_wp2
  go_ret2
  exact ⟨rfl, rfl⟩
def AddP (a b : Int) (w : World) (e : Ending) (w' : World) : Prop := ∃ r ok, e = .returned (.tuple #[.int .i64 r, .bool ok]) ∧ w' = w ∧ (ok = true → r = a + b ∧ I64 (a + b)) ∧ (ok = false → r = 0 ∧ ¬ I64 (a + b))
theorem dadd_any (a b : Int) (w : World) (ha : I64 a) (hb : I64 b) : Calls Try.prog 83 #[.int .i64 a, .int .i64 b] w (AddP a b w) := by
  unfold I64 at ha hb
  by_cases h : I64 (a + b)
  · refine (add_fits a b w ha.1 ha.2 hb.1 hb.2 h.1 h.2).mono ?_
    rintro e w' ⟨rfl, rfl⟩
    exact ⟨_, true, rfl, rfl, fun _ => ⟨rfl, h⟩, fun e => absurd e (by decide)⟩
  · refine (add_not a b w ha.1 ha.2 hb.1 hb.2 (by unfold I64 at h; omega)).mono ?_
    rintro e w' ⟨rfl, rfl⟩
    exact ⟨_, false, rfl, rfl, fun e => absurd e (by decide), fun _ => ⟨rfl, h⟩⟩
def InB (x : Int) : Prop := -4611686018427387903 ≤ x ∧ x ≤ 4611686018427387903
set_option maxRecDepth 100000 in
theorem inB_yes (x : Int) (w : World) (h1 : -4611686018427387903 ≤ x) (h2 : x ≤ 4611686018427387903) : Calls Try.prog 84 #[.int .i64 x] w fun e w' => e = .returned (.bool true) ∧ w' = w := by
  go_enter Try.func84, Try.ntmps84
  go_wp2_with fail
  go_ret
  exact ⟨rfl, rfl⟩
set_option maxRecDepth 100000 in
theorem inB_no (x : Int) (w : World) (h : ¬ InB x) : Calls Try.prog 84 #[.int .i64 x] w fun e w' => e = .returned (.bool false) ∧ w' = w := by
  unfold InB at h
  by_cases h1 : -4611686018427387903 ≤ x
  · have h2 : ¬ x ≤ 4611686018427387903 := by omega
    clear h
    go_enter Try.func84, Try.ntmps84
    go_wp2_with fail
    go_ret
    exact ⟨rfl, rfl⟩
  · clear h
    go_enter Try.func84, Try.ntmps84
    go_wp2_with fail
    go_ret
    exact ⟨rfl, rfl⟩
theorem inB_any (x : Int) (w : World) : Calls Try.prog 84 #[.int .i64 x] w fun e w' => ∃ b, e = .returned (.bool b) ∧ w' = w ∧ (b = true ↔ InB x) := by
  by_cases h : InB x
  · refine (inB_yes x w h.1 h.2).mono ?_
    rintro e w' ⟨rfl, rfl⟩
    exact ⟨true, rfl, rfl, fun _ => h, fun _ => rfl⟩
  · refine (inB_no x w h).mono ?_
    rintro e w' ⟨rfl, rfl⟩
    exact ⟨false, rfl, rfl, fun e => absurd e (by decide), fun e => absurd e h⟩
variable {W : World} {K : Nat → Nat} {base c : Nat} {T : Sto}
abbrev SpR (T : Sto) (t b o er : Int) : Prop :=
  (¬ InS T t ∧ er = 7 ∧ b = 0 ∧ o = 0) ∨ (InS T t ∧ ∃ x, T.nodes[t.toNat]? = some x ∧
    ((x.s ≠ 1 ∧ er = 60 ∧ b = 0 ∧ o = 0) ∨ (x.s = 1 ∧ er = 0 ∧ ((x.q = 3 ∧ b = 2 ∧ o = x.n) ∨ (x.q = 4 ∧ b = x.V 0 ∧ o = x.n) ∨ (x.q ≠ 3 ∧ x.q ≠ 4 ∧ b = t ∧ o = 0)))))
def SplitP (T : Sto) (t : Int) (W : World) (e : Ending) (w' : World) : Prop := ∃ b o er, e = .returned (.tuple #[.int .i64 b, .int .i64 o, .int .i64 er]) ∧ Below W.heap.size W w' ∧ SpR T t b o er
theorem one_ints (W : World) (t : Int) : IntsIn (W.alloc (.cells #[.int .i64 t] 73)) (some ⟨W.heap.size, 0, none⟩) 1 (fun _ => t) := fun _ => ⟨W.heap.size, 0, rfl, fun i hi => by
  obtain rfl : i = 0 := by omega
  simp [go_sem]⟩
set_option maxRecDepth 100000 in
set_option maxHeartbeats 4000000 in
theorem split_any (h : StoAt W K base c T) (g : GoodS T) (h0 : 0 < T.nodes.length) (t : Int) :
    Calls Try.prog 43 #[.pointer (some ⟨c, 0, none⟩), .int .i64 t] W (SplitP T t W) := by
  have hb1 := below1 W (.cells #[.int .i64 t] 73)
  have HC := check_any (h.later hb1) g h0 (some ⟨W.heap.size, 0, none⟩) 1 1 (fun _ => t) (one_ints W t) (by omega)
  have hb0 := g.b0
  have H1 := Lib.hid (h.later hb1)
  have HG := Lib.hid g
  have HB1 := Lib.hid hb1
  clear h g hb1
  go_enter Try.func43, Try.ntmps43
  go_wp2_with fail
  refine HC.mono ?_
  rintro e w2 ⟨er, rfl, hw, hcase⟩
  obtain rfl := hw.symm
  clear HC hw
  rcases hcase with ⟨rfl, hin⟩ | ⟨rfl, i, hi, hn⟩
  rotate_left
  · go_wp2_with fail
    go_ret3
    exact ⟨_, _, _, rfl, HB1.out, .inl ⟨hn, rfl, rfl, rfl⟩⟩
  have hin0 : InS T t := hin 0 (by omega)
  clear hin
  obtain ⟨tn, rfl⟩ := Int.eq_ofNat_of_zero_le hin0.1
  have htn : tn < T.nodes.length := by have := hin0.2; omega
  obtain ⟨x, hx⟩ : ∃ x, T.nodes[tn]? = some x := ⟨_, List.getElem?_eq_getElem htn⟩
  have HX := Lib.hid hx
  have HA := Lib.hid (H1.out.nargs hx)
  have hok := HG.out.gn tn x hx
  obtain ⟨gg, z, y0, hgk, y1, y2, y3, y4, y5⟩ := H1.out.cells hx
  have hpl := hok.pl
  have HIN := Lib.hid hin0
  clear hx hin0 hok hgk H1
  have hk0 : (0 : Int) ≤ (tn : Int) := by omega
  have hk1 : (tn : Int) < (T.nodes.length : Int) := by omega
  obtain ⟨q, f, n, s, P, L, C, V⟩ := x
  simp only at y1 y2 y3 y4 y5 hpl
  generalize W.alloc (.cells #[.int .i64 (tn : Int)] 73) = w1 at *
  have hb2 := below1 w1 (.cells #[.int .u8 q, .int .i64 f, .int .i64 n, .int .i64 s, .slice P L C] 89)
  have HB2 := Lib.hid (HB1.out.trans (hb2.mono HB1.out.size))
  have k0 : (w1.alloc (.cells #[.int .u8 q, .int .i64 f, .int .i64 n, .int .i64 s, .slice P L C] 89)).cell? ⟨w1.heap.size, 0, none⟩ = some (.int .u8 q) := by simp [go_sem]
  have k2 : (w1.alloc (.cells #[.int .u8 q, .int .i64 f, .int .i64 n, .int .i64 s, .slice P L C] 89)).cell? ⟨w1.heap.size, 2, none⟩ = some (.int .i64 n) := by simp [go_sem]
  have k3 : (w1.alloc (.cells #[.int .u8 q, .int .i64 f, .int .i64 n, .int .i64 s, .slice P L C] 89)).cell? ⟨w1.heap.size, 3, none⟩ = some (.int .i64 s) := by simp [go_sem]
  have k4 : (w1.alloc (.cells #[.int .u8 q, .int .i64 f, .int .i64 n, .int .i64 s, .slice P L C] 89)).cell? ⟨w1.heap.size, 4, none⟩ = some (.slice P L C) := by simp [go_sem]
  have HI := Lib.hid (HA.out.ints.later hb2)
  clear HA hb2
  go_upto_region 5 with (fail)
  generalize w1.alloc (.cells #[.int .u8 q, .int .i64 f, .int .i64 n, .int .i64 s, .slice P L C] 89) = w3 at *
  generalize w1.heap.size = kb at *
  clear y0 y1 y2 y3 y4 y5
  by_cases hs : s = 1
  rotate_left
  · have q1 : (s != 1) = true := by simpa using hs
    go_wp2_with fail
    go_ret3
    exact ⟨_, _, _, rfl, HB2.out, .inr ⟨HIN.out, _, HX.out, .inl ⟨hs, rfl, rfl, rfl⟩⟩⟩
  subst hs
  by_cases h3 : q = 3
  · subst h3
    go_wp2_with fail
    have hD := (Below.refl w3.heap.size w3).drew
    replace k2 := cell_later hD k2
    have HB3 := Lib.hid (HB2.out.trans (hD.mono HB2.out.size))
    clear hD

    refine wp_region_L [(1000, (fun _ => True : World → Prop)), (1000, (fun w => w.cell? ⟨kb, 2, none⟩ = some (.int .i64 n) : World → Prop))] (by kernel_rfl) (SL.cons (fun _ => trivial) (SL.cons (fun _ => k2) SL.nil)) (fun hHeld => ?_)
    generalize w3.drew = w4 at *
    refine wpAnyL_take 0 _ _ (i := 0) (oi := { dst := some 31, op := Op.fieldAddr 89 (Operand.tmp 8) 2, type := 0, pos := "terms.go:245", after := #[{ on := 2, ground := Ground.gcOnly Departure.lateStores }], guard := none }) (v := ?_) rfl (by kernel_rfl) (by kernel_rfl) (by kernel_rfl) (fun _ _ _ h => h) rfl (by kernel_rfl) (by kernel_rfl) (by kernel_rfl) (Or.inl ⟨by rfl, ?_⟩) hHeld (fun hHeld => ?_)
    rotate_left
    · intro w hSw
      (try dsimp only at hSw)
      go_simp
      try with_reducible rfl
    try simp only [Act.put, List.setIfInBounds_toArray, List.set_cons_zero, List.set_cons_succ]
    refine wpAnyL_take 1 _ _ (i := 1) (oi := { dst := some 32, op := Op.load 2 (Operand.tmp 31), type := 2, pos := "terms.go:245", after := #[{ on := 0, ground := Ground.data }, { on := 2, ground := Ground.gcOnly Departure.lateStores }], guard := none }) (v := ?_) rfl (by kernel_rfl) (by kernel_rfl) (by kernel_rfl) (fun _ _ _ h => h) rfl (by kernel_rfl) (by kernel_rfl) (by kernel_rfl) (Or.inl ⟨by rfl, ?_⟩) hHeld (fun hHeld => ?_)
    rotate_left
    · intro w hSw
      (try dsimp only at hSw)
      go_simp
      try with_reducible rfl
    try simp only [Act.put, List.setIfInBounds_toArray, List.set_cons_zero, List.set_cons_succ]
    refine wpAnyL_take 0 _ _ (i := 2) (oi := { dst := some 4, op := Op.assign (Operand.const (Value.int IntKind.i64 2)), type := 73, pos := "terms.go:245", after := #[{ on := 0, ground := Ground.textOnly Departure.lateStores }, { on := 1, ground := Ground.textOnly Departure.lateStores }], guard := none }) (v := ?_) rfl (by kernel_rfl) (by kernel_rfl) (by kernel_rfl) (fun _ _ _ h => h) rfl (by kernel_rfl) (by kernel_rfl) (by kernel_rfl) (Or.inl ⟨by rfl, ?_⟩) hHeld (fun hHeld => ?_)
    rotate_left
    · intro w hSw
      (try dsimp only at hSw)
      go_simp
      try with_reducible rfl
    try simp only [Act.put, List.setIfInBounds_toArray, List.set_cons_zero, List.set_cons_succ]
    refine wpAnyL_take 0 _ _ (i := 3) (oi := { dst := some 5, op := Op.assign (Operand.tmp 32), type := 2, pos := "terms.go:245", after := #[{ on := 1, ground := Ground.data }, { on := 2, ground := Ground.chain }, { on := 0, ground := Ground.phase }, { on := 1, ground := Ground.phase }, { on := 2, ground := Ground.phase }], guard := none }) (v := ?_) rfl (by kernel_rfl) (by kernel_rfl) (by kernel_rfl) (fun _ _ _ h => h) rfl (by kernel_rfl) (by kernel_rfl) (by kernel_rfl) (Or.inl ⟨by rfl, ?_⟩) hHeld (fun hHeld => ?_)
    rotate_left
    · intro w hSw
      (try dsimp only at hSw)
      go_simp
      try with_reducible rfl
    try simp only [Act.put, List.setIfInBounds_toArray, List.set_cons_zero, List.set_cons_succ]
    refine wpAnyL_take 0 _ _ (i := 4) (oi := { dst := some 6, op := Op.assign (Operand.const (Value.int IntKind.i64 0)), type := 42, pos := "terms.go:245", after := #[{ on := 3, ground := Ground.chain }, { on := 0, ground := Ground.phase }, { on := 1, ground := Ground.phase }, { on := 2, ground := Ground.phase }, { on := 3, ground := Ground.phase }], guard := none }) (v := ?_) rfl (by kernel_rfl) (by kernel_rfl) (by kernel_rfl) (fun _ _ _ h => h) rfl (by kernel_rfl) (by kernel_rfl) (by kernel_rfl) (Or.inl ⟨by rfl, ?_⟩) hHeld (fun hHeld => ?_)
    rotate_left
    · intro w hSw
      (try dsimp only at hSw)
      go_simp
      try with_reducible rfl
    try simp only [Act.put, List.setIfInBounds_toArray, List.set_cons_zero, List.set_cons_succ]
    refine wpAnyL_done (by kernel_rfl) ?_ _
    clear hHeld
    go_wp2_with fail
    go_ret3
    exact ⟨_, _, _, rfl, HB3.out, .inr ⟨HIN.out, _, HX.out, .inr ⟨rfl, rfl, .inl ⟨rfl, rfl, rfl⟩⟩⟩⟩
  by_cases h4 : q = 4
  · subst h4
    have hL := hpl rfl
    obtain ⟨b, off, rfl, ha⟩ := HI.out hL
    have a0 := ha 0 hL
    have HV := Lib.hid (show ∃ v, v = V 0 from ⟨_, rfl⟩)
    obtain ⟨v, hv⟩ := HV.out
    rw [← hv] at a0
    have HV2 := Lib.hid hv
    have hL1 : (0 : Int) < (L : Int) := by omega
    clear ha hv HV
    rw [Nat.add_zero] at a0
    go_wp2_with fail
    have hD := (Below.refl w3.heap.size w3).drew
    replace k2 := cell_later hD k2
    replace k4 := cell_later hD k4
    replace a0 := cell_later hD a0
    have HB3 := Lib.hid (HB2.out.trans (hD.mono HB2.out.size))
    clear hD
    refine wp_region_L [(1000, (fun _ => True : World → Prop)), (1000, (fun w => w.cell? ⟨kb, 2, none⟩ = some (.int .i64 n) : World → Prop)), (1000, (fun w => w.cell? ⟨kb, 4, none⟩ = some (.slice (some ⟨b, off, none⟩) L C) : World → Prop)), (1000, (fun w => w.cell? ⟨b, off, none⟩ = some (.int .i64 v) : World → Prop))] (by kernel_rfl) (SL.cons (fun _ => trivial) (SL.cons (fun _ => k2) (SL.cons (fun _ => k4) (SL.cons (fun _ => a0) SL.nil)))) (fun hHeld => ?_)
    generalize w3.drew = w4 at *
    refine wpAnyL_take 0 _ _ (i := 0) (oi := { dst := some 37, op := Op.fieldAddr 89 (Operand.tmp 8) 4, type := 0, pos := "terms.go:247", after := #[], guard := none }) (v := ?_) rfl (by kernel_rfl) (by kernel_rfl) (by kernel_rfl) (fun _ _ _ h => h) rfl (by kernel_rfl) (by kernel_rfl) (by kernel_rfl) (Or.inl ⟨by rfl, ?_⟩) hHeld (fun hHeld => ?_)
    rotate_left
    · intro w hSw
      (try dsimp only at hSw)
      go_simp
      try with_reducible rfl
    try simp only [Act.put, List.setIfInBounds_toArray, List.set_cons_zero, List.set_cons_succ]
    refine wpAnyL_take 2 _ _ (i := 1) (oi := { dst := some 38, op := Op.load 74 (Operand.tmp 37), type := 74, pos := "terms.go:247", after := #[{ on := 0, ground := Ground.data }], guard := none }) (v := ?_) rfl (by kernel_rfl) (by kernel_rfl) (by kernel_rfl) (fun _ _ _ h => h) rfl (by kernel_rfl) (by kernel_rfl) (by kernel_rfl) (Or.inl ⟨by rfl, ?_⟩) hHeld (fun hHeld => ?_)
    rotate_left
    · intro w hSw
      (try dsimp only at hSw)
      go_simp
      try with_reducible rfl
    try simp only [Act.put, List.setIfInBounds_toArray, List.set_cons_zero, List.set_cons_succ]
    refine wpAnyL_take 0 _ _ (i := 2) (oi := { dst := some 39, op := Op.indexAddr 74 (Operand.tmp 38) (Operand.const (Value.int IntKind.i64 0)), type := 0, pos := "terms.go:247", after := #[{ on := 1, ground := Ground.data }], guard := none }) (v := ?_) rfl (by kernel_rfl) (by kernel_rfl) (by kernel_rfl) (fun _ _ _ h => h) rfl (by kernel_rfl) (by kernel_rfl) (by kernel_rfl) (Or.inl ⟨by rfl, ?_⟩) hHeld (fun hHeld => ?_)
    rotate_left
    · intro w hSw
      (try dsimp only at hSw)
      go_simp
      try with_reducible rfl
    try simp only [Act.put, List.setIfInBounds_toArray, List.set_cons_zero, List.set_cons_succ]
    refine wpAnyL_take 3 _ _ (i := 3) (oi := { dst := some 40, op := Op.load 73 (Operand.tmp 39), type := 73, pos := "terms.go:247", after := #[{ on := 2, ground := Ground.data }], guard := none }) (v := ?_) rfl (by kernel_rfl) (by kernel_rfl) (by kernel_rfl) (fun _ _ _ h => h) rfl (by kernel_rfl) (by kernel_rfl) (by kernel_rfl) (Or.inl ⟨by rfl, ?_⟩) hHeld (fun hHeld => ?_)
    rotate_left
    · intro w hSw
      (try dsimp only at hSw)
      go_simp
      try with_reducible rfl
    try simp only [Act.put, List.setIfInBounds_toArray, List.set_cons_zero, List.set_cons_succ]
    refine wpAnyL_take 0 _ _ (i := 4) (oi := { dst := some 41, op := Op.fieldAddr 89 (Operand.tmp 8) 2, type := 0, pos := "terms.go:247", after := #[{ on := 6, ground := Ground.gcOnly Departure.lateStores }], guard := none }) (v := ?_) rfl (by kernel_rfl) (by kernel_rfl) (by kernel_rfl) (fun _ _ _ h => h) rfl (by kernel_rfl) (by kernel_rfl) (by kernel_rfl) (Or.inl ⟨by rfl, ?_⟩) hHeld (fun hHeld => ?_)
    rotate_left
    · intro w hSw
      (try dsimp only at hSw)
      go_simp
      try with_reducible rfl
    try simp only [Act.put, List.setIfInBounds_toArray, List.set_cons_zero, List.set_cons_succ]
    refine wpAnyL_take 1 _ _ (i := 5) (oi := { dst := some 42, op := Op.load 2 (Operand.tmp 41), type := 2, pos := "terms.go:247", after := #[{ on := 4, ground := Ground.data }, { on := 6, ground := Ground.gcOnly Departure.lateStores }], guard := none }) (v := ?_) rfl (by kernel_rfl) (by kernel_rfl) (by kernel_rfl) (fun _ _ _ h => h) rfl (by kernel_rfl) (by kernel_rfl) (by kernel_rfl) (Or.inl ⟨by rfl, ?_⟩) hHeld (fun hHeld => ?_)
    rotate_left
    · intro w hSw
      (try dsimp only at hSw)
      go_simp
      try with_reducible rfl
    try simp only [Act.put, List.setIfInBounds_toArray, List.set_cons_zero, List.set_cons_succ]
    refine wpAnyL_take 0 _ _ (i := 6) (oi := { dst := some 4, op := Op.assign (Operand.tmp 40), type := 73, pos := "terms.go:247", after := #[{ on := 3, ground := Ground.data }, { on := 0, ground := Ground.phase }, { on := 1, ground := Ground.phase }, { on := 2, ground := Ground.phase }, { on := 3, ground := Ground.phase }, { on := 4, ground := Ground.textOnly Departure.lateStores }, { on := 5, ground := Ground.textOnly Departure.lateStores }], guard := none }) (v := ?_) rfl (by kernel_rfl) (by kernel_rfl) (by kernel_rfl) (fun _ _ _ h => h) rfl (by kernel_rfl) (by kernel_rfl) (by kernel_rfl) (Or.inl ⟨by rfl, ?_⟩) hHeld (fun hHeld => ?_)
    rotate_left
    · intro w hSw
      (try dsimp only at hSw)
      go_simp
      try with_reducible rfl
    try simp only [Act.put, List.setIfInBounds_toArray, List.set_cons_zero, List.set_cons_succ]
    refine wpAnyL_take 0 _ _ (i := 7) (oi := { dst := some 5, op := Op.assign (Operand.tmp 42), type := 2, pos := "terms.go:247", after := #[{ on := 5, ground := Ground.data }, { on := 6, ground := Ground.chain }, { on := 0, ground := Ground.phase }, { on := 1, ground := Ground.phase }, { on := 2, ground := Ground.phase }, { on := 3, ground := Ground.phase }, { on := 4, ground := Ground.phase }, { on := 5, ground := Ground.phase }, { on := 6, ground := Ground.phase }], guard := none }) (v := ?_) rfl (by kernel_rfl) (by kernel_rfl) (by kernel_rfl) (fun _ _ _ h => h) rfl (by kernel_rfl) (by kernel_rfl) (by kernel_rfl) (Or.inl ⟨by rfl, ?_⟩) hHeld (fun hHeld => ?_)
    rotate_left
    · intro w hSw
      (try dsimp only at hSw)
      go_simp
      try with_reducible rfl
    try simp only [Act.put, List.setIfInBounds_toArray, List.set_cons_zero, List.set_cons_succ]
    refine wpAnyL_take 0 _ _ (i := 8) (oi := { dst := some 6, op := Op.assign (Operand.const (Value.int IntKind.i64 0)), type := 42, pos := "terms.go:247", after := #[{ on := 7, ground := Ground.chain }, { on := 0, ground := Ground.phase }, { on := 1, ground := Ground.phase }, { on := 2, ground := Ground.phase }, { on := 3, ground := Ground.phase }, { on := 4, ground := Ground.phase }, { on := 5, ground := Ground.phase }, { on := 6, ground := Ground.phase }, { on := 7, ground := Ground.phase }], guard := none }) (v := ?_) rfl (by kernel_rfl) (by kernel_rfl) (by kernel_rfl) (fun _ _ _ h => h) rfl (by kernel_rfl) (by kernel_rfl) (by kernel_rfl) (Or.inl ⟨by rfl, ?_⟩) hHeld (fun hHeld => ?_)
    rotate_left
    · intro w hSw
      (try dsimp only at hSw)
      go_simp
      try with_reducible rfl
    try simp only [Act.put, List.setIfInBounds_toArray, List.set_cons_zero, List.set_cons_succ]
    refine wpAnyL_done (by kernel_rfl) ?_ _
    clear hHeld
    go_wp2_with fail
    go_ret3
    exact ⟨_, _, _, rfl, HB3.out, .inr ⟨HIN.out, _, HX.out, .inr ⟨rfl, rfl, .inr (.inl ⟨rfl, HV2.out, rfl⟩)⟩⟩⟩
  · have q3 : (q == 3) = false := by simpa using h3
    have q4 : (q == 4) = false := by simpa using h4
    go_wp2_with fail
    go_ret3
    exact ⟨_, _, _, rfl, HB2.out, .inr ⟨HIN.out, _, HX.out, .inr ⟨rfl, rfl, .inr (.inr ⟨h3, h4, rfl, rfl⟩)⟩⟩⟩
end Go.Proofs.Ytkjmmdffelhkiaa
