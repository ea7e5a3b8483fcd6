/- Stage 6: same. -/
import Derived.Test.YtkjmmdffelhkiaaT27
namespace Go.Proofs.Ytkjmmdffelhkiaa
open Go Go.RowKit Go.Maps

variable {W W' : World} {K K' : Nat → Nat} {base c r : Nat} {T : Sto} {N : List Nd} {e : Ending} {w' : World}
def zNd : Nd := ⟨0, 0, 0, 0, none, 0, 0, fun _ => 0⟩
def NodeA (N : List Nd) (t : Int) (W : World) (e : Ending) (w' : World) : Prop :=
  ∃ x P C er, e = .returned (.tuple #[ndP x P C, .int .i64 er]) ∧ w'.ownsRow W.heap.size 73 1 (.slice P x.L C) x.L (rowV x.L x.V) ∧ Below W.heap.size W w' ∧ x.L ≤ 2000 ∧ ((InL N t ∧ N[t.toNat]? = some x ∧ er = 0) ∨ (¬ InL N t ∧ x = zNd ∧ er = 7))
theorem NodeP.all {t : Int} (g : GoodN N) (h : NodeP N t W e w') : NodeA N t W e w' := by
  rcases h with ⟨x, P, C, hin, hx, he, ho, hb⟩ | ⟨hn, he, hb⟩
  · exact ⟨x, P, C, 0, he, ho, hb, (g _ x hx).L, .inl ⟨hin, hx, rfl⟩⟩
  · exact ⟨zNd, none, 0, 7, he, ⟨rfl, .inl ⟨rfl, rfl⟩⟩, hb, by show 0 ≤ _; omega, .inr ⟨hn, rfl, rfl⟩⟩
theorem two_nodes {A B : List Nd} {t er er2 : Int} {x y : Nd} (h : Alike A B) (h1 : (InL A t ∧ A[t.toNat]? = some x ∧ er = 0) ∨ (¬ InL A t ∧ x = zNd ∧ er = 7)) (h2 : (InL B t ∧ B[t.toNat]? = some y ∧ er2 = 0) ∨ (¬ InL B t ∧ y = zNd ∧ er2 = 7)) : SameN x y ∧ er = er2 := by
  have e : InL A t ↔ InL B t := by unfold InL; rw [h.len]
  rcases h1 with ⟨a1, a2, a3⟩ | ⟨a1, a2, a3⟩
  · rcases h2 with ⟨b1, b2, b3⟩ | ⟨b1, _, _⟩
    · exact ⟨h.same _ x y a2 b2, by rw [a3, b3]⟩
    · exact absurd (e.1 a1) b1
  · rcases h2 with ⟨b1, _, _⟩ | ⟨b1, b2, b3⟩
    · exact absurd (e.2 b1) a1
    · rw [a2, b2, a3, b3]; exact ⟨SameN.refl _, rfl⟩
set_option maxRecDepth 100000 in
set_option maxHeartbeats 32000000 in
theorem same2_any (h : Two W K base c r T N) : Calls Try.prog 37 #[.pointer (some ⟨c, 0, none⟩), .pointer (some ⟨r, 0, none⟩)] W fun e w' => e = .returned (.bool true) ∧ Two w' K base c r T N ∧ Below W.heap.size W w' := by
  have hN := h.lN
  have hl := h.al.len
  have h3 := h.l3
  have HL := len_any h.st
  have q0 : ((T.nodes.length : Int) != (N.length : Int)) = false := by rw [bne_eq_false_iff_eq]; omega
  have H := Lib.hid h
  have hD : Below W.heap.size W W.drew := (Below.refl _ _).drew
  have HD := Lib.hid hD
  have HLD := len_any (h.later hD).st
  obtain ⟨p0, z0, y0, o0_⟩ := (h.later hD).rf.row0
  have HLEN := Lib.hid hl
  clear h hD o0_ HL hl
  go_enter Try.func37, Try.ntmps37
  go_wp2_with fail
  refine wp_region_L [(1000, (fun _ => True : World → Prop)), (1000, (fun w => w.cell? ⟨r, 0, none⟩ = some (.slice p0 N.length z0) : World → Prop))] (by kernel_rfl) (SL.cons (fun _ => trivial) (SL.cons (fun _ => y0) SL.nil)) (fun hHeld => ?_)
  generalize hwd : W.drew = w2 at *
  clear hwd
  refine wpAnyL_take 0 _ _ (i := 0) (oi := { dst := some 17, op := Op.move (Operand.tmp 0), type := 69, pos := "law.go:99", after := #[], guard := none }) (v := ?_) rfl (by kernel_rfl) (by kernel_rfl) (by kernel_rfl) (fun _ _ _ h => h) rfl (by kernel_rfl) (by kernel_rfl) (by kernel_rfl) (Or.inl ⟨by rfl, ?_⟩) hHeld (fun hHeld => ?_)
  rotate_left
  · intro w hSw
    (try dsimp only at hSw)
    go_simp
    try with_reducible rfl
  try simp only [Act.put, List.setIfInBounds_toArray, List.set_cons_zero, List.set_cons_succ]
  refine wpAnyL_take 0 _ _ (i := 2) (oi := { dst := some 19, op := Op.move (Operand.tmp 1), type := 71, pos := "law.go:99", after := #[], guard := none }) (v := ?_) rfl (by kernel_rfl) (by kernel_rfl) (by kernel_rfl) (fun _ _ _ h => h) rfl (by kernel_rfl) (by kernel_rfl) (by kernel_rfl) (Or.inl ⟨by rfl, ?_⟩) hHeld (fun hHeld => ?_)
  rotate_left
  · intro w hSw
    (try dsimp only at hSw)
    go_simp
    try with_reducible rfl
  try simp only [Act.put, List.setIfInBounds_toArray, List.set_cons_zero, List.set_cons_succ]
  refine wpAnyL_take 0 _ _ (i := 3) (oi := { dst := some 20, op := Op.nilCheck (Operand.tmp 19), type := 0, pos := "law.go:99", after := #[{ on := 2, ground := Ground.data }], guard := none }) (v := ?_) rfl (by kernel_rfl) (by kernel_rfl) (by kernel_rfl) (fun _ _ _ h => h) rfl (by kernel_rfl) (by kernel_rfl) (by kernel_rfl) (Or.inl ⟨by rfl, ?_⟩) hHeld (fun hHeld => ?_)
  rotate_left
  · intro w hSw
    (try dsimp only at hSw)
    go_simp
    try with_reducible rfl
  try simp only [Act.put, List.setIfInBounds_toArray, List.set_cons_zero, List.set_cons_succ]
  refine wpAnyL_take 0 _ _ (i := 4) (oi := { dst := some 21, op := Op.fieldAddr 85 (Operand.tmp 20) 0, type := 0, pos := "law.go:99", after := #[{ on := 3, ground := Ground.data }], guard := none }) (v := ?_) rfl (by kernel_rfl) (by kernel_rfl) (by kernel_rfl) (fun _ _ _ h => h) rfl (by kernel_rfl) (by kernel_rfl) (by kernel_rfl) (Or.inl ⟨by rfl, ?_⟩) hHeld (fun hHeld => ?_)
  rotate_left
  · intro w hSw
    (try dsimp only at hSw)
    go_simp
    try with_reducible rfl
  try simp only [Act.put, List.setIfInBounds_toArray, List.set_cons_zero, List.set_cons_succ]
  refine wpAnyL_take 1 _ _ (i := 5) (oi := { dst := some 22, op := Op.load 83 (Operand.tmp 21), type := 83, pos := "law.go:99", after := #[{ on := 4, ground := Ground.data }], guard := none }) (v := ?_) rfl (by kernel_rfl) (by kernel_rfl) (by kernel_rfl) (fun _ _ _ h => h) rfl (by kernel_rfl) (by kernel_rfl) (by kernel_rfl) (Or.inl ⟨by rfl, ?_⟩) hHeld (fun hHeld => ?_)
  rotate_left
  · intro w hSw
    (try dsimp only at hSw)
    go_simp
    try with_reducible rfl
  try simp only [Act.put, List.setIfInBounds_toArray, List.set_cons_zero, List.set_cons_succ]
  refine wpAnyL_take 0 _ _ (i := 6) (oi := { dst := some 23, op := Op.call { callee := Callee.builtin Builtin.len, args := #[Operand.tmp 22], argTypes := #[83] }, type := 3, pos := "law.go:99", after := #[{ on := 5, ground := Ground.data }], guard := none }) (v := ?_) rfl (by kernel_rfl) (by kernel_rfl) (by kernel_rfl) (fun _ _ _ h => h) rfl (by kernel_rfl) (by kernel_rfl) (by kernel_rfl) (Or.inl ⟨by rfl, ?_⟩) hHeld (fun hHeld => ?_)
  rotate_left
  · intro w hSw
    (try dsimp only at hSw)
    go_simp
    try with_reducible rfl
  try simp only [Act.put, List.setIfInBounds_toArray, List.set_cons_zero, List.set_cons_succ]
  refine wpAnyL_ready (rs := [1]) (by kernel_rfl) (by simp) ?_
  refine AllReadyL.cons (o := { dst := some 18, op := Op.call { callee := Callee.value (Operand.func 39), args := #[Operand.tmp 17], argTypes := #[69] }, type := 3, pos := "law.go:99", after := #[{ on := 0, ground := Ground.data }], guard := none }) rfl (fun K hK => ?_) AllReadyL.nil
  go_simp
  go_at_call 39
  refine HLD.mono ?_
  rintro e w3 ⟨rfl, hw⟩
  obtain rfl := hw.symm
  clear HLD hw
  refine hK.out _ _ (SL.cons (fun _ => trivial) (SL.cons (fun _ => y0) SL.nil)) (fun hHeld => ?_)
  clear hK K
  try simp only [Act.put, List.setIfInBounds_toArray, List.set_cons_zero, List.set_cons_succ]
  refine wpAnyL_take 0 _ _ (i := 7) (oi := { dst := some 24, op := Op.binOp BinOp.neq 3 (Operand.tmp 18) (Operand.tmp 23) 3, type := 4, pos := "law.go:99", after := #[{ on := 1, ground := Ground.data }, { on := 6, ground := Ground.data }], guard := none }) (v := ?_) rfl (by kernel_rfl) (by kernel_rfl) (by kernel_rfl) (fun _ _ _ h => h) rfl (by kernel_rfl) (by kernel_rfl) (by kernel_rfl) (Or.inl ⟨by rfl, ?_⟩) hHeld (fun hHeld => ?_)
  rotate_left
  · intro w hSw
    (try dsimp only at hSw)
    go_simp
    try with_reducible rfl
  try simp only [Act.put, List.setIfInBounds_toArray, List.set_cons_zero, List.set_cons_succ]
  refine wpAnyL_done (by kernel_rfl) ?_ _
  clear hHeld
  go_wp2_with fail
  have HW2 := Lib.hid (H.out.later HD.out)
  go_loopw [5] (fun i wr => ∃ z : Int, -1 ≤ z ∧ z ≤ (N.length : Int) + 1 ∧ i = .int .i64 z ∧ Below w2.heap.size w2 wr) (fun i _ => ((N.length : Int) + 1 - intOf i).toNat)
  case atStart => exact ⟨-1, by omega, by omega, rfl, Below.refl _ _⟩
  case round =>
    obtain ⟨z, hz1, hz2, rfl, hbr⟩ := hrel
    have HBR := Lib.hid hbr
    have HTW := Lib.hid (HW2.out.later hbr)
    replace y0 := cell_later hbr y0
    have hbrs := hbr.size
    clear hbr
    by_cases hlt : z ≤ (N.length : Int)
    · have HN1 := (node_any HTW.out.st HTW.out.g (by omega) z).mono fun e w' hm => NodeP.all HTW.out.g.goodN hm
      go_wp2_with fail
      refine HN1.mono ?_
      rintro e w4 ⟨x, P5, C5, er, rfl, hown, hb4, hL, hx⟩
      have HOW := Lib.hid hown
      have HX := Lib.hid hx
      have HB4 := Lib.hid (HBR.out.trans (hb4.mono hbrs))
      have HT4 := Lib.hid (HTW.out.later hb4)
      have lt4 := hb4.size
      clear HN1 hown hx hb4 HTW y0
      obtain ⟨q, f, m, s, Px, L, Cx, V⟩ := x
      simp only at hL HOW
      unfold ndP
      simp only
      have hb5 := below1 w4 (.cells #[.int .u8 q, .int .i64 f, .int .i64 m, .int .i64 s, .slice P5 L C5] 89)
      have x0 : (w4.alloc (.cells #[.int .u8 q, .int .i64 f, .int .i64 m, .int .i64 s, .slice P5 L C5] 89)).cell? ⟨w4.heap.size, 0, none⟩ = some (.int .u8 q) := by simp [go_sem]
      have x1 : (w4.alloc (.cells #[.int .u8 q, .int .i64 f, .int .i64 m, .int .i64 s, .slice P5 L C5] 89)).cell? ⟨w4.heap.size, 1, none⟩ = some (.int .i64 f) := by simp [go_sem]
      have x2 : (w4.alloc (.cells #[.int .u8 q, .int .i64 f, .int .i64 m, .int .i64 s, .slice P5 L C5] 89)).cell? ⟨w4.heap.size, 2, none⟩ = some (.int .i64 m) := by simp [go_sem]
      have x3 : (w4.alloc (.cells #[.int .u8 q, .int .i64 f, .int .i64 m, .int .i64 s, .slice P5 L C5] 89)).cell? ⟨w4.heap.size, 3, none⟩ = some (.int .i64 s) := by simp [go_sem]
      have x4 : (w4.alloc (.cells #[.int .u8 q, .int .i64 f, .int .i64 m, .int .i64 s, .slice P5 L C5] 89)).cell? ⟨w4.heap.size, 4, none⟩ = some (.slice P5 L C5) := by simp [go_sem]
      have HQ5 := Lib.hid (show ∀ g, P5 = some g → w2.heap.size ≤ g.block ∧ g.block < w4.heap.size from fun g e => by
        have := own_lt HOW.out (k := g.block) (by rw [e]; rfl)
        exact ⟨by omega, this.2⟩)
      have HO5 := Lib.hid (own_later HOW.out hb5)
      have HT5 := Lib.hid (HT4.out.later hb5)
      have HB5 := Lib.hid (HB4.out.trans (hb5.mono HB4.out.size))
      have lt5 : w4.heap.size < (w4.alloc (.cells #[.int .u8 q, .int .i64 f, .int .i64 m, .int .i64 s, .slice P5 L C5] 89)).heap.size := by simp
      clear hb5 HT4 HB4 HOW
      go_upto_region 7 with (fail)
      generalize w4.alloc (.cells #[.int .u8 q, .int .i64 f, .int .i64 m, .int .i64 s, .slice P5 L C5] 89) = w5 at *
      generalize w4.heap.size = b6 at *
      have HN2 := (rnode_any HT5.out.rf HT5.out.gN hN z).mono fun e w' hm => NodeP.all HT5.out.gN hm
      go_wp2_with fail
      refine HN2.mono ?_
      rintro e w6 ⟨y, P6, C6, er2, rfl, hown6, hb6, hL6, hy⟩
      have HSM := Lib.hid (two_nodes HT5.out.al HX.out hy)
      obtain rfl := HSM.out.2.symm
      have HI6 := Lib.hid (own_ints hown6)
      have HB6 := Lib.hid (HB5.out.trans (hb6.mono HB5.out.size))
      have HT6 := Lib.hid (HT5.out.later hb6)
      have HO6 := Lib.hid (own_later HO5.out hb6)
      replace x0 := cell_later hb6 x0
      replace x1 := cell_later hb6 x1
      replace x2 := cell_later hb6 x2
      replace x3 := cell_later hb6 x3
      replace x4 := cell_later hb6 x4
      have lt6 : b6 < w6.heap.size := Nat.lt_of_lt_of_le lt5 hb6.size
      clear HN2 hown6 hy hb6 HT5 HB5 HO5 lt5
      obtain ⟨yq, yf, ym, ys, yP, yL, yC, yV⟩ := y
      simp only at hL6 HI6
      unfold ndP
      simp only
      have hb7 := below1 w6 (.cells #[.int .u8 yq, .int .i64 yf, .int .i64 ym, .int .i64 ys, .slice P6 yL C6] 89)
      have y0 : (w6.alloc (.cells #[.int .u8 yq, .int .i64 yf, .int .i64 ym, .int .i64 ys, .slice P6 yL C6] 89)).cell? ⟨w6.heap.size, 0, none⟩ = some (.int .u8 yq) := by simp [go_sem]
      have y1 : (w6.alloc (.cells #[.int .u8 yq, .int .i64 yf, .int .i64 ym, .int .i64 ys, .slice P6 yL C6] 89)).cell? ⟨w6.heap.size, 1, none⟩ = some (.int .i64 yf) := by simp [go_sem]
      have y2 : (w6.alloc (.cells #[.int .u8 yq, .int .i64 yf, .int .i64 ym, .int .i64 ys, .slice P6 yL C6] 89)).cell? ⟨w6.heap.size, 2, none⟩ = some (.int .i64 ym) := by simp [go_sem]
      have y3 : (w6.alloc (.cells #[.int .u8 yq, .int .i64 yf, .int .i64 ym, .int .i64 ys, .slice P6 yL C6] 89)).cell? ⟨w6.heap.size, 3, none⟩ = some (.int .i64 ys) := by simp [go_sem]
      have y4 : (w6.alloc (.cells #[.int .u8 yq, .int .i64 yf, .int .i64 ym, .int .i64 ys, .slice P6 yL C6] 89)).cell? ⟨w6.heap.size, 4, none⟩ = some (.slice P6 yL C6) := by simp [go_sem]
      replace x0 := cell_later hb7 x0
      replace x1 := cell_later hb7 x1
      replace x2 := cell_later hb7 x2
      replace x3 := cell_later hb7 x3
      replace x4 := cell_later hb7 x4
      have HI7 := Lib.hid (HI6.out.later hb7)
      have HO7 := Lib.hid (own_later HO6.out hb7)
      have HT7 := Lib.hid (HT6.out.later hb7)
      have HB7 := Lib.hid (HB6.out.trans (hb7.mono HB6.out.size))
      clear hb7 HT6 HB6 HI6 HO6 lt6
      go_upto_region 8 with (fail)
      generalize w6.alloc (.cells #[.int .u8 yq, .int .i64 yf, .int .i64 ym, .int .i64 ys, .slice P6 yL C6] 89) = w7 at *
      generalize w6.heap.size = b8 at *
      have HSP := split_any HT7.out.st HT7.out.g (by omega) z
      go_wp2_with fail
      refine HSP.mono ?_
      rintro e w8 ⟨b1, o1, r1, rfl, hb8, hsp⟩
      have HS1 := Lib.hid hsp.eq
      have HB8 := Lib.hid (HB7.out.trans (hb8.mono HB7.out.size))
      have HT8 := Lib.hid (HT7.out.later hb8)
      have HI8 := Lib.hid (HI7.out.later hb8)
      have HO8 := Lib.hid (own_later HO7.out hb8)
      replace x0 := cell_later hb8 x0
      replace x1 := cell_later hb8 x1
      replace x2 := cell_later hb8 x2
      replace x3 := cell_later hb8 x3
      replace x4 := cell_later hb8 x4
      replace y0 := cell_later hb8 y0
      replace y1 := cell_later hb8 y1
      replace y2 := cell_later hb8 y2
      replace y3 := cell_later hb8 y3
      replace y4 := cell_later hb8 y4
      clear HSP hb8 hsp HT7 HB7 HI7 HO7
      have HSP := rsplit_any HT8.out.rf HT8.out.gN hN z
      go_wp2_with fail
      refine HSP.mono ?_
      rintro e w9 ⟨b2, o2, r2, rfl, hb9, hsp⟩
      have HEQ := Lib.hid (show (b2, o2, r2) = (b1, o1, r1) by
        rw [← hsp, ← HS1.out]
        exact congrArg (fun v => v.sp z) HT8.out.vw)
      have HB9 := Lib.hid (HB8.out.trans (hb9.mono HB8.out.size))
      have HT9 := Lib.hid (HT8.out.later hb9)
      have HI9 := Lib.hid (HI8.out.later hb9)
      have HO9 := Lib.hid (own_later HO8.out hb9)
      replace x0 := cell_later hb9 x0
      replace x1 := cell_later hb9 x1
      replace x2 := cell_later hb9 x2
      replace x3 := cell_later hb9 x3
      replace x4 := cell_later hb9 x4
      replace y0 := cell_later hb9 y0
      replace y1 := cell_later hb9 y1
      replace y2 := cell_later hb9 y2
      replace y3 := cell_later hb9 y3
      replace y4 := cell_later hb9 y4
      clear HSP hb9 hsp HT8 HB8 HI8 HO8 HS1
      obtain ⟨e1, e2⟩ := Prod.mk.inj HEQ.out
      obtain ⟨e2, e3⟩ := Prod.mk.inj e2
      subst e1
      subst e2
      subst e3
      clear HEQ
      have HSA := same_any ⟨q, f, m, s, P5, L, C5, V⟩ ⟨yq, yf, ym, ys, P6, yL, C6, yV⟩ w9 (own_ints HO9.out) HI9.out (by show L ≤ _; omega) (by show yL ≤ _; omega)
      rw [ndA_mk, ndA_mk] at HSA
      have u1 : (er2 != er2) = false := by simp
      have u2 : (b2 != b2) = false := by simp
      have u3 : (o2 != o2) = false := by simp
      have u4 : (r2 != r2) = false := by simp
      go_wp2_with fail
      refine HSA.mono ?_
      rintro e w10 ⟨bb, rfl, hb10, hbb⟩
      have hbt : bb = true := hbb.2 (by
        have h := HSM.out.1
        exact ⟨h.q, h.f, h.n, h.s, h.L, h.V⟩)
      subst hbt
      have HB10 := Lib.hid (HB9.out.trans (hb10.mono HB9.out.size))
      have HT10 := Lib.hid (HT9.out.later hb10)
      have HO10 := Lib.hid (own_later HO9.out hb10)
      replace x4 := cell_later hb10 x4
      clear HSA hb10 hbb HT9 HB9 HI9 HO9 x0 x1 x2 x3 y0 y1 y2 y3 y4
      go_wp2_with fail
      clear u1 u2 u3 u4
      go_loopw [16] (fun i wr => ∃ (j : Nat) (xs : List Value), j ≤ L ∧ i = .int .i64 j ∧ wr.cell? ⟨b6, 4, none⟩ = some (.slice P5 L C5) ∧ wr.ownsRow 0 73 1 (.slice P5 L C5) L xs ∧ Below w2.heap.size w2 wr) (fun i _ => L - (intOf i).toNat)
      case atStart => exact ⟨0, _, Nat.zero_le _, rfl, x4, own_base HO10.out (fun _ _ => Nat.zero_le _), HB10.out⟩
      case round =>
        obtain ⟨j, xs, hj, rfl, hc, hrow, hbz⟩ := hrel
        by_cases hlt5 : j < L
        · obtain ⟨g, z4, e4⟩ := own_some hrow (by omega)
          cases e4
          have hxl : xs.length = L := by have := hrow.1; omega
          obtain ⟨cq1, cq2⟩ := own_cell hrow j xs[j] (List.getElem?_eq_getElem (by omega))
          have hq := HQ5.out _ rfl
          simp only at hq
          have hk0 : (0 : Int) ≤ (j : Int) := by omega
          have hk1 : (j : Int) < (L : Int) := by omega
          have HN := Lib.hid (show (wr.setCell ⟨g, j, none⟩ (.int .i64 99)).cell? ⟨b6, 4, none⟩ = some (.slice (some ⟨g, 0, none⟩) L C5) ∧ (wr.setCell ⟨g, j, none⟩ (.int .i64 99)).ownsRow 0 73 1 (.slice (some ⟨g, 0, none⟩) L C5) L (xs.set j (.int .i64 99)) ∧ Below w2.heap.size w2 (wr.setCell ⟨g, j, none⟩ (.int .i64 99)) from
            ⟨by rw [World.cell?_setCell_other _ _ _ _ (by intro e; have := congrArg Addr.block e; simp only at this; omega)]; exact hc, own_set hrow j _, hbz.setCell (p := ⟨g, j, none⟩) hq.1 _⟩)
          generalize xs[j] = xk at *
          clear hrow hbz
          go_wp2_with fail
          go_roundw
          case rel => exact ⟨j + 1, _, by omega, by go_num, HN.out⟩
          case measure => simp [intOf]; omega
        · obtain rfl : j = L := by omega
          have HBZ := Lib.hid hbz
          clear hrow hbz
          have ew : wrap64 (z + 1) = z + 1 := by rw [wrap64_eq]; omega
          have ew' : IntKind.i64.wrap (z + 1) = z + 1 := by rw [IntKind.wrap_i64]; omega
          go_wp2_with fail
          go_roundw
          case rel => exact ⟨z + 1, by omega, by omega, by first | rfl | simp [ew, ew'], HBZ.out⟩
          case measure => simp [intOf]; omega
    · go_wp2_with fail
      go_ret
      exact ⟨rfl, HTW.out, HD.out.trans (HBR.out.mono HD.out.size)⟩
end Go.Proofs.Ytkjmmdffelhkiaa
