/- Stage 6: make. -/
import Derived.Test.YtkjmmdffelhkiaaT5
import Derived.Test.YtkjmmdffelhkiaaS11
namespace Go.Proofs.Ytkjmmdffelhkiaa
open Go Go.RowKit Go.Maps

variable {W : World} {K : Nat → Nat} {base c : Nat} {T : Sto}
theorem info89 : ∃ i0, Try.prog.info? 89 = some i0 ∧ i0.zero = some (.agg #[.int .u8 0, .int .i64 0, .int .i64 0, .int .i64 0, .slice none 0 0]) ∧ i0.size = 5 ∧ i0.bytes = 56 := info_of (by kernel_rfl)
theorem zero73 (w : World) : (zeroValue 73).run Try.prog w = .ok (.int .i64 0) w := by kernel_rfl
def Fresh (T : Sto) (x : Nd) : Prop := ∀ (t : Nat) (y : Nd), T.nodes[t]? = some y → ¬ SameN y x
def MakeP (T : Sto) (x : Nd) (base c : Nat) (K : Nat → Nat) (W : World) (e : Ending) (w' : World) : Prop :=
  ∃ K' T' t er, e = .returned (.tuple #[.int .i64 t, .int .i64 er]) ∧ StoAt w' K' base c T' ∧ GoodS T' ∧ StepT W w' K K' ∧
    ((er = 0 ∧ T' = T ∧ ∃ (j : Nat) (y : Nd), t = (j : Int) ∧ T.nodes[j]? = some y ∧ SameN y x) ∨ (er = 9 ∧ t = 0 ∧ T' = T ∧ 20000 ≤ T.nodes.length ∧ Fresh T x) ∨
     (er = 0 ∧ t = (T.nodes.length : Int) ∧ T.nodes.length < 20000 ∧ Fresh T x ∧ ∃ P C i, T' = addN T { x with P := P, C := C } i))
set_option maxRecDepth 100000 in
set_option maxHeartbeats 16000000 in
theorem make_any (h : StoAt W K base c T) (g : GoodS T) (x : Nd) (hx : IntsIn W x.P x.L x.V) (hok : NdOk x T.nodes.length) :
    Calls Try.prog 67 #[.pointer (some ⟨c, 0, none⟩), ndA x] W (MakeP T x base c K W) := by
  have hb0 := g.b0
  have hb2 := g.b2
  have hL := hok.L
  have HTX := text_any x.P x.L x.C x.V (W.alloc (.cells #[.int .u8 x.q, .int .i64 x.f, .int .i64 x.n, .int .i64 x.s, .slice x.P x.L x.C] 89)) (hx.later (below1 W _)) hok.L (fun i hi => by have := hok.V i hi; omega)
  obtain ⟨q, f, n, s, P, L, C, V⟩ := x
  simp only at HTX hx hL
  have hb1 := below1 W (.cells #[.int .u8 q, .int .i64 f, .int .i64 n, .int .i64 s, .slice P L C] 89)
  obtain ⟨i89, hi89, hz890, hz891, hz892⟩ := info89
  have H := Lib.hid h
  have HG := Lib.hid g
  have HB1 := Lib.hid hb1
  have HX := Lib.hid hx
  have HOK := Lib.hid hok
  have HKT := Lib.hid (key9 (textOf L V) (by rw [textOf_size]; unfold maxLen; omega))
  clear h g hb1 hx hok
  unfold ndA
  go_enter Try.func67, Try.ntmps67
  go_wp2_with fail
  refine HTX.mono ?_
  rintro e w2 ⟨rfl, hbt⟩
  have HB2 := Lib.hid (chain HB1.out hbt)
  have x0 := cell_later hbt (show (W.alloc (.cells #[.int .u8 q, .int .i64 f, .int .i64 n, .int .i64 s, .slice P L C] 89)).cell? ⟨W.heap.size, 0, none⟩ = some (.int .u8 q) by simp [go_sem])
  have x1 := cell_later hbt (show (W.alloc (.cells #[.int .u8 q, .int .i64 f, .int .i64 n, .int .i64 s, .slice P L C] 89)).cell? ⟨W.heap.size, 1, none⟩ = some (.int .i64 f) by simp [go_sem])
  have x2 := cell_later hbt (show (W.alloc (.cells #[.int .u8 q, .int .i64 f, .int .i64 n, .int .i64 s, .slice P L C] 89)).cell? ⟨W.heap.size, 2, none⟩ = some (.int .i64 n) by simp [go_sem])
  have x3 := cell_later hbt (show (W.alloc (.cells #[.int .u8 q, .int .i64 f, .int .i64 n, .int .i64 s, .slice P L C] 89)).cell? ⟨W.heap.size, 3, none⟩ = some (.int .i64 s) by simp [go_sem])
  have x4 := cell_later hbt (show (W.alloc (.cells #[.int .u8 q, .int .i64 f, .int .i64 n, .int .i64 s, .slice P L C] 89)).cell? ⟨W.heap.size, 4, none⟩ = some (.slice P L C) by simp [go_sem])
  have bf4 : w2.frozen? ⟨W.heap.size, 4, none⟩ = false := by rw [hbt.frozen (by simp)]; simp [go_sem]
  have HT2 := Lib.hid (H.out.later HB2.out)
  have HS2 := Lib.hid (StepT.below (K := K) HB2.out)
  have hbf : K W.heap.size = 0 := H.out.fr _ (Nat.le_refl _)
  clear hbt HTX HB1
  generalize hbb : W.heap.size = bb at *
  have lt2 : bb < w2.heap.size := World.block_lt_of_cell? _ _ x0
  obtain ⟨m2, y2, q2⟩ := HT2.out.map2
  have hlk := q2.look_ok K9 Try.underlying57 (zero3 _) HKT.out
  have hln := fun ty => q2.len Try.underlying57 ty
  clear q2
  cases hf : T.f2 (keyS (textOf L V)) with
  | none =>
    rw [hf] at hlk
    simp only [Option.getD_none, Option.isSome_none] at hlk
    have HNUM := Lib.hid (show NumOf T ⟨q, f, n, s, P, L, C, V⟩ T.n2 from .inr ⟨hf, rfl⟩)
    have hi2 : T.n2 ≤ 20000 := by omega
    clear hf
    generalize T.n2 = i at *

    have hbk := below1 w2 (.cells #[.int .u8 q, .int .i64 f, .int .i64 n, .int .i64 s, .int .i64 (i : Int)] 129)
    have k0 : (w2.alloc (.cells #[.int .u8 q, .int .i64 f, .int .i64 n, .int .i64 s, .int .i64 (i : Int)] 129)).cell? ⟨w2.heap.size, 0, none⟩ = some (.int .u8 q) := by simp [go_sem]
    have k1 : (w2.alloc (.cells #[.int .u8 q, .int .i64 f, .int .i64 n, .int .i64 s, .int .i64 (i : Int)] 129)).cell? ⟨w2.heap.size, 1, none⟩ = some (.int .i64 f) := by simp [go_sem]
    have k2 : (w2.alloc (.cells #[.int .u8 q, .int .i64 f, .int .i64 n, .int .i64 s, .int .i64 (i : Int)] 129)).cell? ⟨w2.heap.size, 2, none⟩ = some (.int .i64 n) := by simp [go_sem]
    have k3 : (w2.alloc (.cells #[.int .u8 q, .int .i64 f, .int .i64 n, .int .i64 s, .int .i64 (i : Int)] 129)).cell? ⟨w2.heap.size, 3, none⟩ = some (.int .i64 s) := by simp [go_sem]
    have k4 : (w2.alloc (.cells #[.int .u8 q, .int .i64 f, .int .i64 n, .int .i64 s, .int .i64 (i : Int)] 129)).cell? ⟨w2.heap.size, 4, none⟩ = some (.int .i64 (i : Int)) := by simp [go_sem]
    have xx0 := cell_later hbk x0
    have xx1 := cell_later hbk x1
    have xx2 := cell_later hbk x2
    have xx3 := cell_later hbk x3
    have xx4 := cell_later hbk x4
    have bg4 : (w2.alloc (.cells #[.int .u8 q, .int .i64 f, .int .i64 n, .int .i64 s, .int .i64 (i : Int)] 129)).frozen? ⟨bb, 4, none⟩ = false := by rw [hbk.frozen lt2]; exact bf4
    have HT3 := Lib.hid (HT2.out.later hbk)
    have HS3 := Lib.hid (HS2.out.trans (StepT.below hbk))
    have HB3 := Lib.hid (show Below bb W (w2.alloc (.cells #[.int .u8 q, .int .i64 f, .int .i64 n, .int .i64 s, .int .i64 (i : Int)] 129)) from HB2.out.trans (hbk.mono (Nat.le_of_lt lt2)))
    have hkf : K w2.heap.size = 0 := HT2.out.fr _ (Nat.le_refl _)
    have hkb : w2.heap.size ≠ bb := by omega
    clear hbk
    go_upto_region 6 with (fail)
    generalize w2.alloc (.cells #[.int .u8 q, .int .i64 f, .int .i64 n, .int .i64 s, .int .i64 (i : Int)] 129) = w3 at *
    generalize w2.heap.size = kb at *
    clear y2 hlk hln HT2 HS2 HB2 x0 x1 x2 x3 x4 bf4 lt2
    have x0 := xx0
    have x1 := xx1
    have x2 := xx2
    have x3 := xx3
    have x4 := xx4
    have bf4 := bg4
    clear xx0 xx1 xx2 xx3 xx4 bg4
    go_wp2_with fail
    have lt3 : bb < w3.heap.size := World.block_lt_of_cell? _ _ x0
    have hD : Below w3.heap.size w3 w3.drew := (Below.refl _ _).drew
    replace x0 := cell_later hD x0
    replace x1 := cell_later hD x1
    replace x2 := cell_later hD x2
    replace x3 := cell_later hD x3
    replace x4 := cell_later hD x4
    replace k0 := cell_later hD k0
    replace k1 := cell_later hD k1
    replace k2 := cell_later hD k2
    replace k3 := cell_later hD k3
    replace k4 := cell_later hD k4
    replace bf4 : w3.drew.frozen? ⟨bb, 4, none⟩ = false := by rw [hD.frozen lt3]; exact bf4
    have HT4 := Lib.hid (HT3.out.later hD)
    have HS4 := Lib.hid (HS3.out.trans (StepT.below hD))
    have HB4 := Lib.hid (show Below bb W w3.drew from HB3.out.trans (hD.mono (Nat.le_of_lt lt3)))
    clear hD HT3 HS3 HB3
    obtain ⟨m1, y1, q1⟩ := HT4.out.map1
    have HKK := Lib.hid (key129 HOK.out.q HOK.out.f HOK.out.n HOK.out.s (show I64 (i : Int) by unfold I64; omega))
    have hlk := q1.look_ok K129 Try.underlying99 (zero73 _) HKK.out
    unfold keyV at hlk
    clear q1
    cases hf1 : T.f1 (keyN q f n s (i : Int)) with
    | some v =>
      rw [hf1] at hlk
      simp only [Option.getD_some, Option.isSome_some] at hlk
      obtain ⟨j, y, rfl, hy, hsame⟩ := HG.out.found (m := T.nodes.length) (by omega) HOK.out HNUM.out hf1
      have HF := Lib.hid (And.intro hy hsame)
      clear hf1 hy hsame
      unfold nV at hlk
      refine wp_region_L [(1000, (fun _ => True : World → Prop)), (1000, (fun w => w.cell? ⟨c, 1, none⟩ = some (.map (some m1)) : World → Prop)), (1000, (fun w => w.cell? ⟨kb, 0, none⟩ = some (.int .u8 q) ∧ w.cell? ⟨kb, 1, none⟩ = some (.int .i64 f) ∧ w.cell? ⟨kb, 2, none⟩ = some (.int .i64 n) ∧ w.cell? ⟨kb, 3, none⟩ = some (.int .i64 s) ∧ w.cell? ⟨kb, 4, none⟩ = some (.int .i64 (i : Int)) : World → Prop))] (by kernel_rfl) (SL.cons (fun _ => trivial) (SL.cons (fun _ => y1) (SL.cons (fun _ => ⟨k0, k1, k2, k3, k4⟩) SL.nil))) (fun hHeld => ?_)
      generalize w3.drew = w4 at *
      refine wpAnyL_take 0 _ _ (i := 0) (oi := { dst := some 43, op := Op.move (Operand.tmp 0), type := 69, pos := "terms.go:194", after := #[], guard := none }) (v := ?_) rfl (by kernel_rfl) (by kernel_rfl) (by kernel_rfl) (fun _ _ _ h => h) rfl (by kernel_rfl) (by kernel_rfl) (by kernel_rfl) (Or.inl ⟨by rfl, ?_⟩) hHeld (fun hHeld => ?_)
      rotate_left
      · intro w hSw
        (try dsimp only at hSw)
        go_simp
        try with_reducible rfl
      try simp only [Act.put, List.setIfInBounds_toArray, List.set_cons_zero, List.set_cons_succ]
      refine wpAnyL_take 0 _ _ (i := 1) (oi := { dst := some 44, op := Op.nilCheck (Operand.tmp 43), type := 0, pos := "terms.go:194", after := #[{ on := 0, ground := Ground.data }], guard := none }) (v := ?_) rfl (by kernel_rfl) (by kernel_rfl) (by kernel_rfl) (fun _ _ _ h => h) rfl (by kernel_rfl) (by kernel_rfl) (by kernel_rfl) (Or.inl ⟨by rfl, ?_⟩) hHeld (fun hHeld => ?_)
      rotate_left
      · intro w hSw
        (try dsimp only at hSw)
        go_simp
        try with_reducible rfl
      try simp only [Act.put, List.setIfInBounds_toArray, List.set_cons_zero, List.set_cons_succ]
      refine wpAnyL_take 0 _ _ (i := 2) (oi := { dst := some 45, op := Op.fieldAddr 101 (Operand.tmp 44) 1, type := 0, pos := "terms.go:194", after := #[{ on := 1, ground := Ground.data }], guard := none }) (v := ?_) rfl (by kernel_rfl) (by kernel_rfl) (by kernel_rfl) (fun _ _ _ h => h) rfl (by kernel_rfl) (by kernel_rfl) (by kernel_rfl) (Or.inl ⟨by rfl, ?_⟩) hHeld (fun hHeld => ?_)
      rotate_left
      · intro w hSw
        (try dsimp only at hSw)
        go_simp
        try with_reducible rfl
      try simp only [Act.put, List.setIfInBounds_toArray, List.set_cons_zero, List.set_cons_succ]
      refine wpAnyL_take 1 _ _ (i := 3) (oi := { dst := some 46, op := Op.load 99 (Operand.tmp 45), type := 99, pos := "terms.go:194", after := #[{ on := 2, ground := Ground.data }], guard := none }) (v := ?_) rfl (by kernel_rfl) (by kernel_rfl) (by kernel_rfl) (fun _ _ _ h => h) rfl (by kernel_rfl) (by kernel_rfl) (by kernel_rfl) (Or.inl ⟨by rfl, ?_⟩) hHeld (fun hHeld => ?_)
      rotate_left
      · intro w hSw
        (try dsimp only at hSw)
        go_simp
        try with_reducible rfl
      try simp only [Act.put, List.setIfInBounds_toArray, List.set_cons_zero, List.set_cons_succ]
      refine wpAnyL_take 2 _ _ (i := 4) (oi := { dst := some 47, op := Op.load 129 (Operand.tmp 9), type := 129, pos := "terms.go:194", after := #[], guard := none }) (v := ?_) rfl (by kernel_rfl) (by kernel_rfl) (by kernel_rfl) (fun _ _ _ h => h) rfl (by kernel_rfl) (by kernel_rfl) (by kernel_rfl) (Or.inl ⟨by rfl, ?_⟩) hHeld (fun hHeld => ?_)
      rotate_left
      · intro w hSw
        (try dsimp only at hSw)
        obtain ⟨g0, g1, g2, g3, g4⟩ := hSw
        go_simp
        try with_reducible rfl
      try simp only [Act.put, List.setIfInBounds_toArray, List.set_cons_zero, List.set_cons_succ]
      refine wpAnyL_ready (rs := [5]) (by kernel_rfl) (by simp) ?_
      refine AllReadyL.cons (o := { dst := some 48, op := Op.lookup 99 (Operand.tmp 46) (Operand.tmp 47) true, type := 144, pos := "terms.go:194", after := #[{ on := 3, ground := Ground.data }, { on := 4, ground := Ground.data }], guard := none }) rfl (fun KK hK => ?_) AllReadyL.nil
      rw [if_pos (by rfl)]
      refine wp_op_run rfl (by rfl) (by rfl) hlk ?_
      refine hK.out _ _ (SL.cons (fun _ => trivial) (SL.cons (fun _ => y1) (SL.cons (fun _ => ⟨k0, k1, k2, k3, k4⟩) SL.nil))) (fun hHeld => ?_)
      clear hK KK
      try simp only [Act.put, List.setIfInBounds_toArray, List.set_cons_zero, List.set_cons_succ]
      refine wpAnyL_take 0 _ _ (i := 6) (oi := { dst := some 42, op := Op.move (Operand.tmp 48), type := 144, pos := "terms.go:194", after := #[{ on := 5, ground := Ground.data }], guard := none }) (v := ?_) rfl (by kernel_rfl) (by kernel_rfl) (by kernel_rfl) (fun _ _ _ h => h) rfl (by kernel_rfl) (by kernel_rfl) (by kernel_rfl) (Or.inl ⟨by rfl, ?_⟩) hHeld (fun hHeld => ?_)
      rotate_left
      · intro w hSw
        (try dsimp only at hSw)
        go_simp
        try with_reducible rfl
      try simp only [Act.put, List.setIfInBounds_toArray, List.set_cons_zero, List.set_cons_succ]
      refine wpAnyL_take 0 _ _ (i := 7) (oi := { dst := some 49, op := Op.extract (Operand.tmp 42) 0, type := 73, pos := "terms.go:194", after := #[{ on := 6, ground := Ground.data }], guard := none }) (v := ?_) rfl (by kernel_rfl) (by kernel_rfl) (by kernel_rfl) (fun _ _ _ h => h) rfl (by kernel_rfl) (by kernel_rfl) (by kernel_rfl) (Or.inl ⟨by rfl, ?_⟩) hHeld (fun hHeld => ?_)
      rotate_left
      · intro w hSw
        (try dsimp only at hSw)
        go_simp
        try with_reducible rfl
      try simp only [Act.put, List.setIfInBounds_toArray, List.set_cons_zero, List.set_cons_succ]
      refine wpAnyL_take 0 _ _ (i := 8) (oi := { dst := some 50, op := Op.extract (Operand.tmp 42) 1, type := 4, pos := "terms.go:194", after := #[{ on := 6, ground := Ground.data }, { on := 9, ground := Ground.gcOnly Departure.lateStores }], guard := none }) (v := ?_) rfl (by kernel_rfl) (by kernel_rfl) (by kernel_rfl) (fun _ _ _ h => h) rfl (by kernel_rfl) (by kernel_rfl) (by kernel_rfl) (Or.inl ⟨by rfl, ?_⟩) hHeld (fun hHeld => ?_)
      rotate_left
      · intro w hSw
        (try dsimp only at hSw)
        go_simp
        try with_reducible rfl
      try simp only [Act.put, List.setIfInBounds_toArray, List.set_cons_zero, List.set_cons_succ]
      refine wpAnyL_take 0 _ _ (i := 9) (oi := { dst := some 10, op := Op.assign (Operand.tmp 49), type := 73, pos := "terms.go:194", after := #[{ on := 7, ground := Ground.data }, { on := 0, ground := Ground.phase }, { on := 1, ground := Ground.phase }, { on := 2, ground := Ground.phase }, { on := 3, ground := Ground.phase }, { on := 4, ground := Ground.phase }, { on := 5, ground := Ground.phase }, { on := 6, ground := Ground.phase }, { on := 7, ground := Ground.phase }, { on := 8, ground := Ground.textOnly Departure.lateStores }], guard := none }) (v := ?_) rfl (by kernel_rfl) (by kernel_rfl) (by kernel_rfl) (fun _ _ _ h => h) rfl (by kernel_rfl) (by kernel_rfl) (by kernel_rfl) (Or.inl ⟨by rfl, ?_⟩) hHeld (fun hHeld => ?_)
      rotate_left
      · intro w hSw
        (try dsimp only at hSw)
        go_simp
        try with_reducible rfl
      try simp only [Act.put, List.setIfInBounds_toArray, List.set_cons_zero, List.set_cons_succ]
      refine wpAnyL_take 0 _ _ (i := 10) (oi := { dst := some 11, op := Op.assign (Operand.tmp 50), type := 4, pos := "terms.go:194", after := #[{ on := 8, ground := Ground.data }, { on := 9, ground := Ground.chain }, { on := 0, ground := Ground.phase }, { on := 1, ground := Ground.phase }, { on := 2, ground := Ground.phase }, { on := 3, ground := Ground.phase }, { on := 4, ground := Ground.phase }, { on := 5, ground := Ground.phase }, { on := 6, ground := Ground.phase }, { on := 7, ground := Ground.phase }, { on := 8, ground := Ground.phase }, { on := 9, ground := Ground.phase }], guard := none }) (v := ?_) rfl (by kernel_rfl) (by kernel_rfl) (by kernel_rfl) (fun _ _ _ h => h) rfl (by kernel_rfl) (by kernel_rfl) (by kernel_rfl) (Or.inl ⟨by rfl, ?_⟩) hHeld (fun hHeld => ?_)
      rotate_left
      · intro w hSw
        (try dsimp only at hSw)
        go_simp
        try with_reducible rfl
      try simp only [Act.put, List.setIfInBounds_toArray, List.set_cons_zero, List.set_cons_succ]
      refine wpAnyL_done (by kernel_rfl) ?_ _
      clear hHeld hlk
      go_wp2_with fail
      go_ret2
      exact ⟨K, T, _, _, rfl, HT4.out, HG.out, HS4.out, .inl ⟨rfl, rfl, j, y, rfl, HF.out.1, HF.out.2⟩⟩
    | none =>
      rw [hf1] at hlk
      simp only [Option.getD_none, Option.isSome_none] at hlk
      have HFR := Lib.hid (show Fresh T ⟨q, f, n, s, P, L, C, V⟩ from HG.out.missed HNUM.out hf1)
      have HF1 := Lib.hid hf1
      clear hf1
      refine wp_region_L [(1000, (fun _ => True : World → Prop)), (1000, (fun w => w.cell? ⟨c, 1, none⟩ = some (.map (some m1)) : World → Prop)), (1000, (fun w => w.cell? ⟨kb, 0, none⟩ = some (.int .u8 q) ∧ w.cell? ⟨kb, 1, none⟩ = some (.int .i64 f) ∧ w.cell? ⟨kb, 2, none⟩ = some (.int .i64 n) ∧ w.cell? ⟨kb, 3, none⟩ = some (.int .i64 s) ∧ w.cell? ⟨kb, 4, none⟩ = some (.int .i64 (i : Int)) : World → Prop))] (by kernel_rfl) (SL.cons (fun _ => trivial) (SL.cons (fun _ => y1) (SL.cons (fun _ => ⟨k0, k1, k2, k3, k4⟩) SL.nil))) (fun hHeld => ?_)
      generalize w3.drew = w4 at *
      refine wpAnyL_take 0 _ _ (i := 0) (oi := { dst := some 43, op := Op.move (Operand.tmp 0), type := 69, pos := "terms.go:194", after := #[], guard := none }) (v := ?_) rfl (by kernel_rfl) (by kernel_rfl) (by kernel_rfl) (fun _ _ _ h => h) rfl (by kernel_rfl) (by kernel_rfl) (by kernel_rfl) (Or.inl ⟨by rfl, ?_⟩) hHeld (fun hHeld => ?_)
      rotate_left
      · intro w hSw
        (try dsimp only at hSw)
        go_simp
        try with_reducible rfl
      try simp only [Act.put, List.setIfInBounds_toArray, List.set_cons_zero, List.set_cons_succ]
      refine wpAnyL_take 0 _ _ (i := 1) (oi := { dst := some 44, op := Op.nilCheck (Operand.tmp 43), type := 0, pos := "terms.go:194", after := #[{ on := 0, ground := Ground.data }], guard := none }) (v := ?_) rfl (by kernel_rfl) (by kernel_rfl) (by kernel_rfl) (fun _ _ _ h => h) rfl (by kernel_rfl) (by kernel_rfl) (by kernel_rfl) (Or.inl ⟨by rfl, ?_⟩) hHeld (fun hHeld => ?_)
      rotate_left
      · intro w hSw
        (try dsimp only at hSw)
        go_simp
        try with_reducible rfl
      try simp only [Act.put, List.setIfInBounds_toArray, List.set_cons_zero, List.set_cons_succ]
      refine wpAnyL_take 0 _ _ (i := 2) (oi := { dst := some 45, op := Op.fieldAddr 101 (Operand.tmp 44) 1, type := 0, pos := "terms.go:194", after := #[{ on := 1, ground := Ground.data }], guard := none }) (v := ?_) rfl (by kernel_rfl) (by kernel_rfl) (by kernel_rfl) (fun _ _ _ h => h) rfl (by kernel_rfl) (by kernel_rfl) (by kernel_rfl) (Or.inl ⟨by rfl, ?_⟩) hHeld (fun hHeld => ?_)
      rotate_left
      · intro w hSw
        (try dsimp only at hSw)
        go_simp
        try with_reducible rfl
      try simp only [Act.put, List.setIfInBounds_toArray, List.set_cons_zero, List.set_cons_succ]
      refine wpAnyL_take 1 _ _ (i := 3) (oi := { dst := some 46, op := Op.load 99 (Operand.tmp 45), type := 99, pos := "terms.go:194", after := #[{ on := 2, ground := Ground.data }], guard := none }) (v := ?_) rfl (by kernel_rfl) (by kernel_rfl) (by kernel_rfl) (fun _ _ _ h => h) rfl (by kernel_rfl) (by kernel_rfl) (by kernel_rfl) (Or.inl ⟨by rfl, ?_⟩) hHeld (fun hHeld => ?_)
      rotate_left
      · intro w hSw
        (try dsimp only at hSw)
        go_simp
        try with_reducible rfl
      try simp only [Act.put, List.setIfInBounds_toArray, List.set_cons_zero, List.set_cons_succ]
      refine wpAnyL_take 2 _ _ (i := 4) (oi := { dst := some 47, op := Op.load 129 (Operand.tmp 9), type := 129, pos := "terms.go:194", after := #[], guard := none }) (v := ?_) rfl (by kernel_rfl) (by kernel_rfl) (by kernel_rfl) (fun _ _ _ h => h) rfl (by kernel_rfl) (by kernel_rfl) (by kernel_rfl) (Or.inl ⟨by rfl, ?_⟩) hHeld (fun hHeld => ?_)
      rotate_left
      · intro w hSw
        (try dsimp only at hSw)
        obtain ⟨g0, g1, g2, g3, g4⟩ := hSw
        go_simp
        try with_reducible rfl
      try simp only [Act.put, List.setIfInBounds_toArray, List.set_cons_zero, List.set_cons_succ]
      refine wpAnyL_ready (rs := [5]) (by kernel_rfl) (by simp) ?_
      refine AllReadyL.cons (o := { dst := some 48, op := Op.lookup 99 (Operand.tmp 46) (Operand.tmp 47) true, type := 144, pos := "terms.go:194", after := #[{ on := 3, ground := Ground.data }, { on := 4, ground := Ground.data }], guard := none }) rfl (fun KK hK => ?_) AllReadyL.nil
      rw [if_pos (by rfl)]
      refine wp_op_run rfl (by rfl) (by rfl) hlk ?_
      refine hK.out _ _ (SL.cons (fun _ => trivial) (SL.cons (fun _ => y1) (SL.cons (fun _ => ⟨k0, k1, k2, k3, k4⟩) SL.nil))) (fun hHeld => ?_)
      clear hK KK
      try simp only [Act.put, List.setIfInBounds_toArray, List.set_cons_zero, List.set_cons_succ]
      refine wpAnyL_take 0 _ _ (i := 6) (oi := { dst := some 42, op := Op.move (Operand.tmp 48), type := 144, pos := "terms.go:194", after := #[{ on := 5, ground := Ground.data }], guard := none }) (v := ?_) rfl (by kernel_rfl) (by kernel_rfl) (by kernel_rfl) (fun _ _ _ h => h) rfl (by kernel_rfl) (by kernel_rfl) (by kernel_rfl) (Or.inl ⟨by rfl, ?_⟩) hHeld (fun hHeld => ?_)
      rotate_left
      · intro w hSw
        (try dsimp only at hSw)
        go_simp
        try with_reducible rfl
      try simp only [Act.put, List.setIfInBounds_toArray, List.set_cons_zero, List.set_cons_succ]
      refine wpAnyL_take 0 _ _ (i := 7) (oi := { dst := some 49, op := Op.extract (Operand.tmp 42) 0, type := 73, pos := "terms.go:194", after := #[{ on := 6, ground := Ground.data }], guard := none }) (v := ?_) rfl (by kernel_rfl) (by kernel_rfl) (by kernel_rfl) (fun _ _ _ h => h) rfl (by kernel_rfl) (by kernel_rfl) (by kernel_rfl) (Or.inl ⟨by rfl, ?_⟩) hHeld (fun hHeld => ?_)
      rotate_left
      · intro w hSw
        (try dsimp only at hSw)
        go_simp
        try with_reducible rfl
      try simp only [Act.put, List.setIfInBounds_toArray, List.set_cons_zero, List.set_cons_succ]
      refine wpAnyL_take 0 _ _ (i := 8) (oi := { dst := some 50, op := Op.extract (Operand.tmp 42) 1, type := 4, pos := "terms.go:194", after := #[{ on := 6, ground := Ground.data }, { on := 9, ground := Ground.gcOnly Departure.lateStores }], guard := none }) (v := ?_) rfl (by kernel_rfl) (by kernel_rfl) (by kernel_rfl) (fun _ _ _ h => h) rfl (by kernel_rfl) (by kernel_rfl) (by kernel_rfl) (Or.inl ⟨by rfl, ?_⟩) hHeld (fun hHeld => ?_)
      rotate_left
      · intro w hSw
        (try dsimp only at hSw)
        go_simp
        try with_reducible rfl
      try simp only [Act.put, List.setIfInBounds_toArray, List.set_cons_zero, List.set_cons_succ]
      refine wpAnyL_take 0 _ _ (i := 9) (oi := { dst := some 10, op := Op.assign (Operand.tmp 49), type := 73, pos := "terms.go:194", after := #[{ on := 7, ground := Ground.data }, { on := 0, ground := Ground.phase }, { on := 1, ground := Ground.phase }, { on := 2, ground := Ground.phase }, { on := 3, ground := Ground.phase }, { on := 4, ground := Ground.phase }, { on := 5, ground := Ground.phase }, { on := 6, ground := Ground.phase }, { on := 7, ground := Ground.phase }, { on := 8, ground := Ground.textOnly Departure.lateStores }], guard := none }) (v := ?_) rfl (by kernel_rfl) (by kernel_rfl) (by kernel_rfl) (fun _ _ _ h => h) rfl (by kernel_rfl) (by kernel_rfl) (by kernel_rfl) (Or.inl ⟨by rfl, ?_⟩) hHeld (fun hHeld => ?_)
      rotate_left
      · intro w hSw
        (try dsimp only at hSw)
        go_simp
        try with_reducible rfl
      try simp only [Act.put, List.setIfInBounds_toArray, List.set_cons_zero, List.set_cons_succ]
      refine wpAnyL_take 0 _ _ (i := 10) (oi := { dst := some 11, op := Op.assign (Operand.tmp 50), type := 4, pos := "terms.go:194", after := #[{ on := 8, ground := Ground.data }, { on := 9, ground := Ground.chain }, { on := 0, ground := Ground.phase }, { on := 1, ground := Ground.phase }, { on := 2, ground := Ground.phase }, { on := 3, ground := Ground.phase }, { on := 4, ground := Ground.phase }, { on := 5, ground := Ground.phase }, { on := 6, ground := Ground.phase }, { on := 7, ground := Ground.phase }, { on := 8, ground := Ground.phase }, { on := 9, ground := Ground.phase }], guard := none }) (v := ?_) rfl (by kernel_rfl) (by kernel_rfl) (by kernel_rfl) (fun _ _ _ h => h) rfl (by kernel_rfl) (by kernel_rfl) (by kernel_rfl) (Or.inl ⟨by rfl, ?_⟩) hHeld (fun hHeld => ?_)
      rotate_left
      · intro w hSw
        (try dsimp only at hSw)
        go_simp
        try with_reducible rfl
      try simp only [Act.put, List.setIfInBounds_toArray, List.set_cons_zero, List.set_cons_succ]
      refine wpAnyL_done (by kernel_rfl) ?_ _
      clear hHeld hlk
      obtain ⟨p0, z0, y0, o0_⟩ := HT4.out.row0
      clear o0_
      by_cases hfull : 20000 ≤ T.nodes.length
      · go_wp2_with fail
        go_ret2
        exact ⟨K, T, _, _, rfl, HT4.out, HG.out, HS4.out, .inr (.inl ⟨rfl, rfl, rfl, hfull, HFR.out⟩)⟩
      · have HCL := clone_any82 P L C V w4 (HX.out.later (by rw [hbb]; exact HB4.out)) (by omega)
        clear y1
        go_wp2_with fail
        refine HCL.mono ?_
        rintro e w5 ⟨v5, rfl, ho5, hb5⟩
        clear HCL y0
        have lt4 : bb < w4.heap.size := World.block_lt_of_cell? _ _ x0
        have ltk : kb < w4.heap.size := World.block_lt_of_cell? _ _ k0
        obtain ⟨K5, P5, C5, rfl, hT5, hS5, hI5, h95⟩ := HT4.out.args hb5 ho5
        have hbf5 : K5 bb = 0 := by rw [hS5.ext bb lt4]; exact hbf
        have hkf5 : K5 kb = 0 := by rw [hS5.ext kb ltk]; exact hkf
        replace x0 := cell_later hb5 x0
        replace x1 := cell_later hb5 x1
        replace x2 := cell_later hb5 x2
        replace x3 := cell_later hb5 x3
        replace x4 := cell_later hb5 x4
        replace k0 := cell_later hb5 k0
        replace k1 := cell_later hb5 k1
        replace k2 := cell_later hb5 k2
        replace k3 := cell_later hb5 k3
        replace k4 := cell_later hb5 k4
        replace bf4 : w5.frozen? ⟨bb, 4, none⟩ = false := by rw [hb5.frozen lt4]; exact bf4
        have z0 : (w5.setCell ⟨bb, 4, none⟩ (.slice P5 L C5)).cell? ⟨bb, 0, none⟩ = some (.int .u8 q) := by rw [World.cell?_setCell_other _ _ _ _ (by intro e; cases e)]; exact x0
        have z1 : (w5.setCell ⟨bb, 4, none⟩ (.slice P5 L C5)).cell? ⟨bb, 1, none⟩ = some (.int .i64 f) := by rw [World.cell?_setCell_other _ _ _ _ (by intro e; cases e)]; exact x1
        have z2 : (w5.setCell ⟨bb, 4, none⟩ (.slice P5 L C5)).cell? ⟨bb, 2, none⟩ = some (.int .i64 n) := by rw [World.cell?_setCell_other _ _ _ _ (by intro e; cases e)]; exact x2
        have z3 : (w5.setCell ⟨bb, 4, none⟩ (.slice P5 L C5)).cell? ⟨bb, 3, none⟩ = some (.int .i64 s) := by rw [World.cell?_setCell_other _ _ _ _ (by intro e; cases e)]; exact x3
        have z4 : (w5.setCell ⟨bb, 4, none⟩ (.slice P5 L C5)).cell? ⟨bb, 4, none⟩ = some (.slice P5 L C5) := World.cell?_setCell_same _ _ _ x4
        have l0 : (w5.setCell ⟨bb, 4, none⟩ (.slice P5 L C5)).cell? ⟨kb, 0, none⟩ = some (.int .u8 q) := by rw [World.cell?_setCell_other _ _ _ _ (by intro e; cases e <;> exact hkb rfl)]; exact k0
        have l1 : (w5.setCell ⟨bb, 4, none⟩ (.slice P5 L C5)).cell? ⟨kb, 1, none⟩ = some (.int .i64 f) := by rw [World.cell?_setCell_other _ _ _ _ (by intro e; cases e <;> exact hkb rfl)]; exact k1
        have l2 : (w5.setCell ⟨bb, 4, none⟩ (.slice P5 L C5)).cell? ⟨kb, 2, none⟩ = some (.int .i64 n) := by rw [World.cell?_setCell_other _ _ _ _ (by intro e; cases e <;> exact hkb rfl)]; exact k2
        have l3 : (w5.setCell ⟨bb, 4, none⟩ (.slice P5 L C5)).cell? ⟨kb, 3, none⟩ = some (.int .i64 s) := by rw [World.cell?_setCell_other _ _ _ _ (by intro e; cases e <;> exact hkb rfl)]; exact k3
        have l4 : (w5.setCell ⟨bb, 4, none⟩ (.slice P5 L C5)).cell? ⟨kb, 4, none⟩ = some (.int .i64 (i : Int)) := by rw [World.cell?_setCell_other _ _ _ _ (by intro e; cases e <;> exact hkb rfl)]; exact k4
        have ho6 : Only (fun k => k = bb) w5 (w5.setCell ⟨bb, 4, none⟩ (.slice P5 L C5)) := Only.of_setCell w5 ⟨bb, 4, none⟩ _
        have hT6 : StoAt (w5.setCell ⟨bb, 4, none⟩ (.slice P5 L C5)) K5 base c T := hT5.only ho6 (fun k hk _ e => hk (by rw [show k = bb from e]; exact hbf5))
        have hA6 : NdArgs (w5.setCell ⟨bb, 4, none⟩ (.slice P5 L C5)) K5 ⟨q, f, n, s, P5, L, C5, V⟩ := ⟨fun hn => by
          obtain ⟨b9, o9, e9, a9⟩ := hI5 hn
          refine ⟨b9, o9, e9, fun i hi => ho6.cell (a9 i hi) (fun e => ?_)⟩
          have := h95 _ e9
          rw [show b9 = bb from e] at this
          simp only at this
          omega, h95⟩
        have S6 : Below W.heap.size W (w5.setCell ⟨bb, 4, none⟩ (.slice P5 L C5)) := by rw [hbb]; exact (HB4.out.trans (hb5.mono (Nat.le_of_lt lt4))).setCell (Nat.le_refl _) _
        have HT6 := Lib.hid hT6
        have HA6 := Lib.hid hA6
        have HS6 := Lib.hid (show StepT W (w5.setCell ⟨bb, 4, none⟩ (.slice P5 L C5)) K K5 from ⟨Only.of_below S6, fun k hk => by rw [hS5.ext k (by omega)]⟩)
        clear hT5 hS5 hI5 h95 hT6 hA6 S6 ho6 ho5 hb5 HT4 HS4 HB4
        go_upto_region 13 with (fail)
        generalize (w5.setCell ⟨bb, 4, none⟩ (.slice P5 L C5)) = w6 at *
        clear x0 x1 x2 x3 x4 k0 k1 k2 k3 k4 bf4
        obtain ⟨p1, q1, a1, o1_⟩ := HT6.out.row0
        clear o1_
        go_wp2_with fail
        have hD : Below w6.heap.size w6 w6.drew := (Below.refl _ _).drew
        replace a1 := cell_later hD a1
        replace z0 := cell_later hD z0
        replace z1 := cell_later hD z1
        replace z2 := cell_later hD z2
        replace z3 := cell_later hD z3
        replace z4 := cell_later hD z4
        replace l0 := cell_later hD l0
        replace l1 := cell_later hD l1
        replace l2 := cell_later hD l2
        replace l3 := cell_later hD l3
        replace l4 := cell_later hD l4
        have HT7 := Lib.hid (HT6.out.later hD)
        have HA7 := Lib.hid (show NdArgs w6.drew K5 ⟨q, f, n, s, P5, L, C5, V⟩ from HA6.out.only HT6.out.fr (Only.of_below (T := fun _ => False) hD) (Ext.refl _ _) (fun _ _ h => h))
        have HS7 := Lib.hid (HS6.out.trans (StepT.below hD))
        clear hD HT6 HA6 HS6
        refine wp_region_L [(1000, (fun _ => True : World → Prop)), (10, (fun w => w.cell? ⟨c, 0, none⟩ = some (.slice p1 T.nodes.length q1) : World → Prop)), (1000, (fun w => w.cell? ⟨bb, 0, none⟩ = some (.int .u8 q) ∧ w.cell? ⟨bb, 1, none⟩ = some (.int .i64 f) ∧ w.cell? ⟨bb, 2, none⟩ = some (.int .i64 n) ∧ w.cell? ⟨bb, 3, none⟩ = some (.int .i64 s) ∧ w.cell? ⟨bb, 4, none⟩ = some (.slice P5 L C5) : World → Prop)), (1000, (fun w => w.cell? ⟨kb, 0, none⟩ = some (.int .u8 q) ∧ w.cell? ⟨kb, 1, none⟩ = some (.int .i64 f) ∧ w.cell? ⟨kb, 2, none⟩ = some (.int .i64 n) ∧ w.cell? ⟨kb, 3, none⟩ = some (.int .i64 s) ∧ w.cell? ⟨kb, 4, none⟩ = some (.int .i64 (i : Int)) : World → Prop))] (by kernel_rfl) (SL.cons (fun _ => trivial) (SL.cons (fun _ => a1) (SL.cons (fun _ => ⟨z0, z1, z2, z3, z4⟩) (SL.cons (fun _ => ⟨l0, l1, l2, l3, l4⟩) SL.nil)))) (fun hHeld => ?_)
        generalize w6.drew = w7 at *
        refine wpAnyL_take 0 _ _ (i := 0) (oi := { dst := some 68, op := Op.move (Operand.tmp 0), type := 69, pos := "terms.go:202", after := #[], guard := none }) (v := ?_) rfl (by kernel_rfl) (by kernel_rfl) (by kernel_rfl) (fun _ _ _ h => h) rfl (by kernel_rfl) (by kernel_rfl) (by kernel_rfl) (Or.inl ⟨by rfl, ?_⟩) hHeld (fun hHeld => ?_)
        rotate_left
        · intro w hSw
          (try dsimp only at hSw)
          go_simp
          try with_reducible rfl
        try simp only [Act.put, List.setIfInBounds_toArray, List.set_cons_zero, List.set_cons_succ]
        refine wpAnyL_take 0 _ _ (i := 1) (oi := { dst := some 69, op := Op.move (Operand.tmp 0), type := 69, pos := "terms.go:202", after := #[], guard := none }) (v := ?_) rfl (by kernel_rfl) (by kernel_rfl) (by kernel_rfl) (fun _ _ _ h => h) rfl (by kernel_rfl) (by kernel_rfl) (by kernel_rfl) (Or.inl ⟨by rfl, ?_⟩) hHeld (fun hHeld => ?_)
        rotate_left
        · intro w hSw
          (try dsimp only at hSw)
          go_simp
          try with_reducible rfl
        try simp only [Act.put, List.setIfInBounds_toArray, List.set_cons_zero, List.set_cons_succ]
        refine wpAnyL_take 0 _ _ (i := 2) (oi := { dst := some 70, op := Op.nilCheck (Operand.tmp 69), type := 0, pos := "terms.go:202", after := #[{ on := 1, ground := Ground.data }], guard := none }) (v := ?_) rfl (by kernel_rfl) (by kernel_rfl) (by kernel_rfl) (fun _ _ _ h => h) rfl (by kernel_rfl) (by kernel_rfl) (by kernel_rfl) (Or.inl ⟨by rfl, ?_⟩) hHeld (fun hHeld => ?_)
        rotate_left
        · intro w hSw
          (try dsimp only at hSw)
          go_simp
          try with_reducible rfl
        try simp only [Act.put, List.setIfInBounds_toArray, List.set_cons_zero, List.set_cons_succ]
        refine wpAnyL_take 0 _ _ (i := 3) (oi := { dst := some 71, op := Op.fieldAddr 101 (Operand.tmp 70) 0, type := 0, pos := "terms.go:202", after := #[{ on := 2, ground := Ground.data }], guard := none }) (v := ?_) rfl (by kernel_rfl) (by kernel_rfl) (by kernel_rfl) (fun _ _ _ h => h) rfl (by kernel_rfl) (by kernel_rfl) (by kernel_rfl) (Or.inl ⟨by rfl, ?_⟩) hHeld (fun hHeld => ?_)
        rotate_left
        · intro w hSw
          (try dsimp only at hSw)
          go_simp
          try with_reducible rfl
        try simp only [Act.put, List.setIfInBounds_toArray, List.set_cons_zero, List.set_cons_succ]
        refine wpAnyL_take 1 _ _ (i := 4) (oi := { dst := some 72, op := Op.load 83 (Operand.tmp 71), type := 83, pos := "terms.go:202", after := #[{ on := 3, ground := Ground.data }], guard := none }) (v := ?_) rfl (by kernel_rfl) (by kernel_rfl) (by kernel_rfl) (fun _ _ _ h => h) rfl (by kernel_rfl) (by kernel_rfl) (by kernel_rfl) (Or.inl ⟨by rfl, ?_⟩) hHeld (fun hHeld => ?_)
        rotate_left
        · intro w hSw
          (try dsimp only at hSw)
          go_simp
          try with_reducible rfl
        try simp only [Act.put, List.setIfInBounds_toArray, List.set_cons_zero, List.set_cons_succ]
        refine wpAnyL_take 2 _ _ (i := 5) (oi := { dst := some 73, op := Op.load 89 (Operand.tmp 3), type := 89, pos := "terms.go:202", after := #[], guard := none }) (v := ?_) rfl (by kernel_rfl) (by kernel_rfl) (by kernel_rfl) (fun _ _ _ h => h) rfl (by kernel_rfl) (by kernel_rfl) (by kernel_rfl) (Or.inl ⟨by rfl, ?_⟩) hHeld (fun hHeld => ?_)
        rotate_left
        · intro w hSw
          (try dsimp only at hSw)
          obtain ⟨g0, g1, g2, g3, g4⟩ := hSw
          go_simp
          try with_reducible rfl
        try simp only [Act.put, List.setIfInBounds_toArray, List.set_cons_zero, List.set_cons_succ]
        refine wpAnyL_ready (rs := [6]) (by kernel_rfl) (by simp) ?_
        refine AllReadyL.cons (o := { dst := some 74, op := Op.buildSlice 83 1 #[(0, Operand.tmp 73)], type := 83, pos := "terms.go:202", after := #[{ on := 5, ground := Ground.data }], guard := none }) rfl (fun K hK => ?_) AllReadyL.nil
        go_simp
        refine hK.out _ _ (SL.cons (fun _ => trivial) (SL.cons (fun _ => cell_later (below1 w7 _) a1) (SL.cons (fun _ => ⟨cell_later (below1 w7 _) z0, cell_later (below1 w7 _) z1, cell_later (below1 w7 _) z2, cell_later (below1 w7 _) z3, cell_later (below1 w7 _) z4⟩) (SL.cons (fun _ => ⟨cell_later (below1 w7 _) l0, cell_later (below1 w7 _) l1, cell_later (below1 w7 _) l2, cell_later (below1 w7 _) l3, cell_later (below1 w7 _) l4⟩) SL.nil)))) (fun hHeld => ?_)
        clear hK K
        try simp only [Act.put, List.setIfInBounds_toArray, List.set_cons_zero, List.set_cons_succ]
        have hb8 := below1 w7 (.cells #[.int .u8 q, .int .i64 f, .int .i64 n, .int .i64 s, .slice P5 L C5] 89)
        have HT8 := Lib.hid (HT7.out.later hb8)
        have HA8 := Lib.hid (show NdArgs (w7.alloc (.cells #[.int .u8 q, .int .i64 f, .int .i64 n, .int .i64 s, .slice P5 L C5] 89)) K5 ⟨q, f, n, s, P5, L, C5, V⟩ from HA7.out.only HT7.out.fr (Only.of_below (T := fun _ => False) hb8) (Ext.refl _ _) (fun _ _ h => h))
        have HS8 := Lib.hid (HS7.out.trans (StepT.below hb8))
        replace a1 := cell_later hb8 a1
        replace z0 := cell_later hb8 z0
        replace z1 := cell_later hb8 z1
        replace z2 := cell_later hb8 z2
        replace z3 := cell_later hb8 z3
        replace z4 := cell_later hb8 z4
        replace l0 := cell_later hb8 l0
        replace l1 := cell_later hb8 l1
        replace l2 := cell_later hb8 l2
        replace l3 := cell_later hb8 l3
        replace l4 := cell_later hb8 l4
        obtain ⟨p8, z8, x8, o8⟩ := HT8.out.row0
        rw [a1] at x8
        cases x8
        have HO8 := Lib.hid o8
        have n0 : (w7.alloc (.cells #[.int .u8 q, .int .i64 f, .int .i64 n, .int .i64 s, .slice P5 L C5] 89)).cell? ⟨w7.heap.size, 0, none⟩ = some (.int .u8 q) := by simp [go_sem]
        have n1 : (w7.alloc (.cells #[.int .u8 q, .int .i64 f, .int .i64 n, .int .i64 s, .slice P5 L C5] 89)).cell? ⟨w7.heap.size, 1, none⟩ = some (.int .i64 f) := by simp [go_sem]
        have n2 : (w7.alloc (.cells #[.int .u8 q, .int .i64 f, .int .i64 n, .int .i64 s, .slice P5 L C5] 89)).cell? ⟨w7.heap.size, 2, none⟩ = some (.int .i64 n) := by simp [go_sem]
        have n3 : (w7.alloc (.cells #[.int .u8 q, .int .i64 f, .int .i64 n, .int .i64 s, .slice P5 L C5] 89)).cell? ⟨w7.heap.size, 3, none⟩ = some (.int .i64 s) := by simp [go_sem]
        have n4 : (w7.alloc (.cells #[.int .u8 q, .int .i64 f, .int .i64 n, .int .i64 s, .slice P5 L C5] 89)).cell? ⟨w7.heap.size, 4, none⟩ = some (.slice P5 L C5) := by simp [go_sem]
        clear o8 hb8 hHeld HT7 HA7 HS7
        refine wpAnyL_ready (rs := [7]) (by kernel_rfl) (by simp) ?_
        refine AllReadyL.cons (o := { dst := some 75, op := Op.call { callee := Callee.builtin Builtin.append, args := #[Operand.tmp 72, Operand.tmp 74], argTypes := #[83, 83] }, type := 83, pos := "terms.go:202", after := #[{ on := 4, ground := Ground.data }, { on := 6, ground := Ground.data }], guard := none }) rfl (fun K hK => ?_) AllReadyL.nil
        rw [if_pos (by rfl)]
        refine wp_append_own_at _ _ 83 (by rfl) 0 89 i89 (.agg #[.int .u8 0, .int .i64 0, .int .i64 0, .int .i64 0, .slice none 0 0]) 5 56 Try.underlying83 hi89 hz890 hz891 hz892 rfl (by omega) _ T.nodes.length (flatN T.nodes) (by rfl) HO8.out ⟨w7.heap.size, 0, none⟩ 1 1 (ndV ⟨q, f, n, s, P5, L, C5, V⟩) (by rfl) (by rfl) ?_ ?_ ?_ ?_ ?_ ?_
        · intro jj u hjj
          rw [Lib.add_plain]
          match jj, hjj with
          | 0, hjj => cases hjj; exact n0
          | 1, hjj => cases hjj; exact n1
          | 2, hjj => cases hjj; exact n2
          | 3, hjj => cases hjj; exact n3
          | 4, hjj => cases hjj; exact n4
        · intro u hu; simp [ndV] at hu; rcases hu with rfl | rfl | rfl | rfl | rfl <;> rfl
        · have hml : maxLen = 9223372036854775807 := rfl; omega
        · omega
        · exact Nat.zero_le _
        intro v9 w9 hown hgrow hnil_ hloc
        obtain ⟨p9, c9, hv⟩ := own_shape hown
        subst hv
        clear hnil_
        obtain ⟨K9', hT9, hS9, x9, f9⟩ := HT8.out.pushN a1 ⟨q, f, n, s, P5, L, C5, V⟩ HA8.out hown hgrow (by simpa using hloc)
        have HT9 := Lib.hid hT9
        have HS9 := Lib.hid (HS8.out.trans hS9)
        have hnt : ∀ b, (Value.slice p1 T.nodes.length q1).ownBlock = some b → K5 b = 2 := fun b e => by obtain ⟨vs, m1, m2, ob, q⟩ := HT8.out.ob; have e6 := ob.1 0 (by omega); rw [a1] at e6; injection e6 with e6; exact q.r0.tg b (by rw [← e6]; exact e)
        have hnb : (Value.slice p1 T.nodes.length q1).ownBlock ≠ some bb := fun e => by have := hnt _ e; omega
        have hnk : (Value.slice p1 T.nodes.length q1).ownBlock ≠ some kb := fun e => by have := hnt _ e; omega
        have hbf9 : K9' bb = 0 := by rw [hS9.ext bb (World.block_lt_of_cell? _ _ z0)]; exact hbf5
        have hkf9 : K9' kb = 0 := by rw [hS9.ext kb (World.block_lt_of_cell? _ _ l0)]; exact hkf5
        replace z0 := grown_cell hgrow z0 hnb
        replace z1 := grown_cell hgrow z1 hnb
        replace z2 := grown_cell hgrow z2 hnb
        replace z3 := grown_cell hgrow z3 hnb
        replace z4 := grown_cell hgrow z4 hnb
        replace l0 := grown_cell hgrow l0 hnk
        replace l1 := grown_cell hgrow l1 hnk
        replace l2 := grown_cell hgrow l2 hnk
        replace l3 := grown_cell hgrow l3 hnk
        replace l4 := grown_cell hgrow l4 hnk
        have hcb : c ≠ bb := fun e => by have := HT8.out.ka; rw [e] at this; omega
        have hck : c ≠ kb := fun e => by have := HT8.out.ka; rw [e] at this; omega
        clear hown hgrow hloc hT9 hS9 hnt hnb hnk n0 n1 n2 n3 n4 a1 HT8 HA8 HS8
        refine hK.out _ _ (SL.cons (fun _ => trivial) (SL.cons (fun _ => x9) (SL.cons (fun _ => ⟨z0, z1, z2, z3, z4⟩) (SL.cons (fun _ => ⟨l0, l1, l2, l3, l4⟩) SL.nil)))) (fun hHeld => ?_)
        clear hK K
        try simp only [Act.put, List.setIfInBounds_toArray, List.set_cons_zero, List.set_cons_succ]
        refine wpAnyL_take 0 _ _ (i := 8) (oi := { dst := some 76, op := Op.nilCheck (Operand.tmp 68), type := 0, pos := "terms.go:202", after := #[{ on := 0, ground := Ground.data }, { on := 0, ground := Ground.phase }, { on := 1, ground := Ground.phase }, { on := 2, ground := Ground.phase }, { on := 3, ground := Ground.phase }, { on := 4, ground := Ground.phase }, { on := 5, ground := Ground.phase }, { on := 6, ground := Ground.phase }, { on := 7, ground := Ground.phase }], guard := none }) (v := ?_) rfl (by kernel_rfl) (by kernel_rfl) (by kernel_rfl) (fun _ _ _ h => h) rfl (by kernel_rfl) (by kernel_rfl) (by kernel_rfl) (Or.inl ⟨by rfl, ?_⟩) hHeld (fun hHeld => ?_)
        rotate_left
        · intro w hSw
          (try dsimp only at hSw)
          go_simp
          try with_reducible rfl
        try simp only [Act.put, List.setIfInBounds_toArray, List.set_cons_zero, List.set_cons_succ]
        refine wpAnyL_take 0 _ _ (i := 9) (oi := { dst := some 77, op := Op.fieldAddr 101 (Operand.tmp 76) 0, type := 0, pos := "terms.go:202", after := #[{ on := 8, ground := Ground.data }, { on := 0, ground := Ground.phase }, { on := 1, ground := Ground.phase }, { on := 2, ground := Ground.phase }, { on := 3, ground := Ground.phase }, { on := 4, ground := Ground.phase }, { on := 5, ground := Ground.phase }, { on := 6, ground := Ground.phase }, { on := 7, ground := Ground.phase }], guard := none }) (v := ?_) rfl (by kernel_rfl) (by kernel_rfl) (by kernel_rfl) (fun _ _ _ h => h) rfl (by kernel_rfl) (by kernel_rfl) (by kernel_rfl) (Or.inl ⟨by rfl, ?_⟩) hHeld (fun hHeld => ?_)
        rotate_left
        · intro w hSw
          (try dsimp only at hSw)
          go_simp
          try with_reducible rfl
        try simp only [Act.put, List.setIfInBounds_toArray, List.set_cons_zero, List.set_cons_succ]
        have u0 : (w9.setCell ⟨c, 0, none⟩ (.slice p9 (T.nodes.length + 1) c9)).cell? ⟨bb, 0, none⟩ = some (.int .u8 q) := by rw [World.cell?_setCell_other _ _ _ _ (by intro e; cases e <;> exact hcb rfl)]; exact z0
        have u1 : (w9.setCell ⟨c, 0, none⟩ (.slice p9 (T.nodes.length + 1) c9)).cell? ⟨bb, 1, none⟩ = some (.int .i64 f) := by rw [World.cell?_setCell_other _ _ _ _ (by intro e; cases e <;> exact hcb rfl)]; exact z1
        have u2 : (w9.setCell ⟨c, 0, none⟩ (.slice p9 (T.nodes.length + 1) c9)).cell? ⟨bb, 2, none⟩ = some (.int .i64 n) := by rw [World.cell?_setCell_other _ _ _ _ (by intro e; cases e <;> exact hcb rfl)]; exact z2
        have u3 : (w9.setCell ⟨c, 0, none⟩ (.slice p9 (T.nodes.length + 1) c9)).cell? ⟨bb, 3, none⟩ = some (.int .i64 s) := by rw [World.cell?_setCell_other _ _ _ _ (by intro e; cases e <;> exact hcb rfl)]; exact z3
        have u4 : (w9.setCell ⟨c, 0, none⟩ (.slice p9 (T.nodes.length + 1) c9)).cell? ⟨bb, 4, none⟩ = some (.slice P5 L C5) := by rw [World.cell?_setCell_other _ _ _ _ (by intro e; cases e <;> exact hcb rfl)]; exact z4
        have t0 : (w9.setCell ⟨c, 0, none⟩ (.slice p9 (T.nodes.length + 1) c9)).cell? ⟨kb, 0, none⟩ = some (.int .u8 q) := by rw [World.cell?_setCell_other _ _ _ _ (by intro e; cases e <;> exact hck rfl)]; exact l0
        have t1 : (w9.setCell ⟨c, 0, none⟩ (.slice p9 (T.nodes.length + 1) c9)).cell? ⟨kb, 1, none⟩ = some (.int .i64 f) := by rw [World.cell?_setCell_other _ _ _ _ (by intro e; cases e <;> exact hck rfl)]; exact l1
        have t2 : (w9.setCell ⟨c, 0, none⟩ (.slice p9 (T.nodes.length + 1) c9)).cell? ⟨kb, 2, none⟩ = some (.int .i64 n) := by rw [World.cell?_setCell_other _ _ _ _ (by intro e; cases e <;> exact hck rfl)]; exact l2
        have t3 : (w9.setCell ⟨c, 0, none⟩ (.slice p9 (T.nodes.length + 1) c9)).cell? ⟨kb, 3, none⟩ = some (.int .i64 s) := by rw [World.cell?_setCell_other _ _ _ _ (by intro e; cases e <;> exact hck rfl)]; exact l3
        have t4 : (w9.setCell ⟨c, 0, none⟩ (.slice p9 (T.nodes.length + 1) c9)).cell? ⟨kb, 4, none⟩ = some (.int .i64 (i : Int)) := by rw [World.cell?_setCell_other _ _ _ _ (by intro e; cases e <;> exact hck rfl)]; exact l4
        refine wpAnyL_ready (rs := [10]) (by kernel_rfl) (by simp) ?_
        refine AllReadyL.cons (o := { dst := none, op := Op.store 83 (Operand.tmp 77) (Operand.tmp 75), type := 0, pos := "terms.go:202", after := #[{ on := 9, ground := Ground.data }, { on := 7, ground := Ground.data }, { on := 7, ground := Ground.chain }, { on := 0, ground := Ground.phase }, { on := 1, ground := Ground.phase }, { on := 2, ground := Ground.phase }, { on := 3, ground := Ground.phase }, { on := 4, ground := Ground.phase }, { on := 5, ground := Ground.phase }, { on := 6, ground := Ground.phase }, { on := 7, ground := Ground.phase }], guard := none }) rfl (fun K hK => ?_) AllReadyL.nil
        go_simp
        refine hK.out _ _ (SL.cons (fun _ => trivial) (SL.cons (fun h => absurd h (by decide +kernel)) (SL.cons (fun _ => ⟨u0, u1, u2, u3, u4⟩) (SL.cons (fun _ => ⟨t0, t1, t2, t3, t4⟩) SL.nil)))) (fun hHeld => ?_)
        clear hK K
        try simp only [Act.put, List.setIfInBounds_toArray, List.set_cons_zero, List.set_cons_succ]
        refine wpAnyL_done (by kernel_rfl) ?_ _
        generalize (w9.setCell ⟨c, 0, none⟩ (.slice p9 (T.nodes.length + 1) c9)) = w10 at *
        clear x9 f9 hHeld z0 z1 z2 z3 z4 u0 u1 u2 u3 u4 l0 l1 l2 l3 l4
        go_wp2_with fail
        have hD : Below w10.heap.size w10 w10.drew := (Below.refl _ _).drew
        replace t0 := cell_later hD t0
        replace t1 := cell_later hD t1
        replace t2 := cell_later hD t2
        replace t3 := cell_later hD t3
        replace t4 := cell_later hD t4
        have HT10 := Lib.hid (HT9.out.later hD)
        have HS10 := Lib.hid (HS9.out.trans (StepT.below hD))
        clear hD HT9 HS9
        obtain ⟨m9, x9, q9⟩ := HT10.out.map1
        have HQ9 := Lib.hid q9
        clear q9
        refine wp_region_L [(1000, (fun _ => True : World → Prop)), (1000, (fun w => w.cell? ⟨c, 1, none⟩ = some (.map (some m9)) : World → Prop)), (1000, (fun w => w.cell? ⟨kb, 0, none⟩ = some (.int .u8 q) ∧ w.cell? ⟨kb, 1, none⟩ = some (.int .i64 f) ∧ w.cell? ⟨kb, 2, none⟩ = some (.int .i64 n) ∧ w.cell? ⟨kb, 3, none⟩ = some (.int .i64 s) ∧ w.cell? ⟨kb, 4, none⟩ = some (.int .i64 (i : Int)) : World → Prop))] (by kernel_rfl) (SL.cons (fun _ => trivial) (SL.cons (fun _ => x9) (SL.cons (fun _ => ⟨t0, t1, t2, t3, t4⟩) SL.nil))) (fun hHeld => ?_)
        generalize w10.drew = w11 at *
        refine wpAnyL_take 0 _ _ (i := 0) (oi := { dst := some 78, op := Op.move (Operand.tmp 0), type := 69, pos := "terms.go:203", after := #[], guard := none }) (v := ?_) rfl (by kernel_rfl) (by kernel_rfl) (by kernel_rfl) (fun _ _ _ h => h) rfl (by kernel_rfl) (by kernel_rfl) (by kernel_rfl) (Or.inl ⟨by rfl, ?_⟩) hHeld (fun hHeld => ?_)
        rotate_left
        · intro w hSw
          (try dsimp only at hSw)
          go_simp
          try with_reducible rfl
        try simp only [Act.put, List.setIfInBounds_toArray, List.set_cons_zero, List.set_cons_succ]
        refine wpAnyL_take 0 _ _ (i := 1) (oi := { dst := some 79, op := Op.nilCheck (Operand.tmp 78), type := 0, pos := "terms.go:203", after := #[{ on := 0, ground := Ground.data }], guard := none }) (v := ?_) rfl (by kernel_rfl) (by kernel_rfl) (by kernel_rfl) (fun _ _ _ h => h) rfl (by kernel_rfl) (by kernel_rfl) (by kernel_rfl) (Or.inl ⟨by rfl, ?_⟩) hHeld (fun hHeld => ?_)
        rotate_left
        · intro w hSw
          (try dsimp only at hSw)
          go_simp
          try with_reducible rfl
        try simp only [Act.put, List.setIfInBounds_toArray, List.set_cons_zero, List.set_cons_succ]
        refine wpAnyL_take 0 _ _ (i := 2) (oi := { dst := some 80, op := Op.fieldAddr 101 (Operand.tmp 79) 1, type := 0, pos := "terms.go:203", after := #[{ on := 1, ground := Ground.data }], guard := none }) (v := ?_) rfl (by kernel_rfl) (by kernel_rfl) (by kernel_rfl) (fun _ _ _ h => h) rfl (by kernel_rfl) (by kernel_rfl) (by kernel_rfl) (Or.inl ⟨by rfl, ?_⟩) hHeld (fun hHeld => ?_)
        rotate_left
        · intro w hSw
          (try dsimp only at hSw)
          go_simp
          try with_reducible rfl
        try simp only [Act.put, List.setIfInBounds_toArray, List.set_cons_zero, List.set_cons_succ]
        refine wpAnyL_take 1 _ _ (i := 3) (oi := { dst := some 81, op := Op.load 99 (Operand.tmp 80), type := 99, pos := "terms.go:203", after := #[{ on := 2, ground := Ground.data }], guard := none }) (v := ?_) rfl (by kernel_rfl) (by kernel_rfl) (by kernel_rfl) (fun _ _ _ h => h) rfl (by kernel_rfl) (by kernel_rfl) (by kernel_rfl) (Or.inl ⟨by rfl, ?_⟩) hHeld (fun hHeld => ?_)
        rotate_left
        · intro w hSw
          (try dsimp only at hSw)
          go_simp
          try with_reducible rfl
        try simp only [Act.put, List.setIfInBounds_toArray, List.set_cons_zero, List.set_cons_succ]
        refine wpAnyL_take 2 _ _ (i := 4) (oi := { dst := some 82, op := Op.load 129 (Operand.tmp 9), type := 129, pos := "terms.go:203", after := #[], guard := none }) (v := ?_) rfl (by kernel_rfl) (by kernel_rfl) (by kernel_rfl) (fun _ _ _ h => h) rfl (by kernel_rfl) (by kernel_rfl) (by kernel_rfl) (Or.inl ⟨by rfl, ?_⟩) hHeld (fun hHeld => ?_)
        rotate_left
        · intro w hSw
          (try dsimp only at hSw)
          obtain ⟨g0, g1, g2, g3, g4⟩ := hSw
          go_simp
          try with_reducible rfl
        try simp only [Act.put, List.setIfInBounds_toArray, List.set_cons_zero, List.set_cons_succ]
        refine wpAnyL_take 0 _ _ (i := 5) (oi := { dst := some 83, op := Op.move (Operand.tmp 12), type := 73, pos := "terms.go:203", after := #[], guard := none }) (v := ?_) rfl (by kernel_rfl) (by kernel_rfl) (by kernel_rfl) (fun _ _ _ h => h) rfl (by kernel_rfl) (by kernel_rfl) (by kernel_rfl) (Or.inl ⟨by rfl, ?_⟩) hHeld (fun hHeld => ?_)
        rotate_left
        · intro w hSw
          (try dsimp only at hSw)
          go_simp
          try with_reducible rfl
        try simp only [Act.put, List.setIfInBounds_toArray, List.set_cons_zero, List.set_cons_succ]
        obtain ⟨w12, hr12, hq12, hg12⟩ := HQ9.out.put K129 Try.underlying99 (by have hml : maxLen = 9223372036854775807 := rfl; have := HG.out.b1; simp only; omega) HKK.out (nV T.nodes.length)
        unfold nV keyV at hr12
        obtain ⟨hT12, hS12⟩ := HT10.out.inM1 x9 hg12 hq12
        have HT12 := Lib.hid hT12
        have HS12 := Lib.hid (HS10.out.trans hS12)
        have em : m9 ≠ c ∧ m9 ≠ kb := by
          obtain ⟨vs, m1, m2, ob, q⟩ := HT10.out.ob
          have e5 := ob.1 1 (by omega)
          rw [x9, q.h4] at e5
          cases e5
          refine ⟨fun e => ?_, fun e => ?_⟩
          · have := q.k4; rw [e, HT10.out.ka] at this; omega
          · have := q.k4; rw [e] at this; omega
        have y9 := grown_cell hg12 x9 (fun e => em.1 (Option.some.inj e))
        have ya := grown_cell hg12 t0 (fun e => em.2 (Option.some.inj e))
        have yb := grown_cell hg12 t1 (fun e => em.2 (Option.some.inj e))
        have yc := grown_cell hg12 t2 (fun e => em.2 (Option.some.inj e))
        have yd := grown_cell hg12 t3 (fun e => em.2 (Option.some.inj e))
        have ye := grown_cell hg12 t4 (fun e => em.2 (Option.some.inj e))
        clear hq12 hg12 hT12 hS12
        refine wpAnyL_ready (rs := [6]) (by kernel_rfl) (by simp) ?_
        refine AllReadyL.cons (o := { dst := none, op := Op.mapUpdate 99 (Operand.tmp 81) (Operand.tmp 82) (Operand.tmp 83), type := 0, pos := "terms.go:203", after := #[{ on := 3, ground := Ground.data }, { on := 4, ground := Ground.data }, { on := 5, ground := Ground.data }, { on := 0, ground := Ground.phase }, { on := 1, ground := Ground.phase }, { on := 2, ground := Ground.phase }, { on := 3, ground := Ground.phase }, { on := 4, ground := Ground.phase }, { on := 5, ground := Ground.phase }], guard := none }) rfl (fun K hK => ?_) AllReadyL.nil
        rw [if_pos (by rfl)]
        refine wp_upd_run rfl (by rfl) (by rfl) (by rfl) hr12 ?_
        refine hK.out _ _ (SL.cons (fun _ => trivial) (SL.cons (fun _ => y9) (SL.cons (fun _ => ⟨ya, yb, yc, yd, ye⟩) SL.nil))) (fun hHeld => ?_)
        clear hK K
        try simp only [Act.put, List.setIfInBounds_toArray, List.set_cons_zero, List.set_cons_succ]
        refine wpAnyL_done (by kernel_rfl) ?_ _
        clear hHeld hr12 y9 ya yb yc yd ye t0 t1 t2 t3 t4 x9
        obtain ⟨m13, x13, q13⟩ := HT12.out.map2
        obtain ⟨w14, hr14, hq14, hg14⟩ := q13.put K9 Try.underlying57 (by have hml : maxLen = 9223372036854775807 := rfl; have := HG.out.b2; simp only; omega) HKT.out (nV i)
        unfold nV at hr14
        obtain ⟨hT14, hS14⟩ := HT12.out.inM2 x13 hg14 hq14
        have HT14 := Lib.hid hT14
        have HS14 := Lib.hid (HS12.out.trans hS14)
        clear q13 hq14 hg14 hT14 hS14
        go_wp2_with fail
        go_ret2
        exact ⟨_, addN T ⟨q, f, n, s, P5, L, C5, V⟩ i, _, _, rfl, HT14.out, HG.out.add (x := ⟨q, f, n, s, P5, L, C5, V⟩) ⟨HOK.out.q, HOK.out.f, HOK.out.n, HOK.out.s, HOK.out.L, HOK.out.V, HOK.out.pl, HOK.out.nb⟩ HNUM.out HF1.out (by omega), HS14.out, .inr (.inr ⟨rfl, rfl, by omega, HFR.out, P5, C5, i, rfl⟩)⟩
  | some v =>
    obtain ⟨i, rfl, hi⟩ := HG.out.g3 _ _ hf
    rw [hf] at hlk
    simp only [Option.getD_some, Option.isSome_some] at hlk
    have HNUM := Lib.hid (show NumOf T ⟨q, f, n, s, P, L, C, V⟩ i from .inl hf)
    have hi2 : i ≤ 20000 := by omega
    unfold nV at hlk
    clear hf
    have hbk := below1 w2 (.cells #[.int .u8 q, .int .i64 f, .int .i64 n, .int .i64 s, .int .i64 (i : Int)] 129)
    have k0 : (w2.alloc (.cells #[.int .u8 q, .int .i64 f, .int .i64 n, .int .i64 s, .int .i64 (i : Int)] 129)).cell? ⟨w2.heap.size, 0, none⟩ = some (.int .u8 q) := by simp [go_sem]
    have k1 : (w2.alloc (.cells #[.int .u8 q, .int .i64 f, .int .i64 n, .int .i64 s, .int .i64 (i : Int)] 129)).cell? ⟨w2.heap.size, 1, none⟩ = some (.int .i64 f) := by simp [go_sem]
    have k2 : (w2.alloc (.cells #[.int .u8 q, .int .i64 f, .int .i64 n, .int .i64 s, .int .i64 (i : Int)] 129)).cell? ⟨w2.heap.size, 2, none⟩ = some (.int .i64 n) := by simp [go_sem]
    have k3 : (w2.alloc (.cells #[.int .u8 q, .int .i64 f, .int .i64 n, .int .i64 s, .int .i64 (i : Int)] 129)).cell? ⟨w2.heap.size, 3, none⟩ = some (.int .i64 s) := by simp [go_sem]
    have k4 : (w2.alloc (.cells #[.int .u8 q, .int .i64 f, .int .i64 n, .int .i64 s, .int .i64 (i : Int)] 129)).cell? ⟨w2.heap.size, 4, none⟩ = some (.int .i64 (i : Int)) := by simp [go_sem]
    have xx0 := cell_later hbk x0
    have xx1 := cell_later hbk x1
    have xx2 := cell_later hbk x2
    have xx3 := cell_later hbk x3
    have xx4 := cell_later hbk x4
    have bg4 : (w2.alloc (.cells #[.int .u8 q, .int .i64 f, .int .i64 n, .int .i64 s, .int .i64 (i : Int)] 129)).frozen? ⟨bb, 4, none⟩ = false := by rw [hbk.frozen lt2]; exact bf4
    have HT3 := Lib.hid (HT2.out.later hbk)
    have HS3 := Lib.hid (HS2.out.trans (StepT.below hbk))
    have HB3 := Lib.hid (show Below bb W (w2.alloc (.cells #[.int .u8 q, .int .i64 f, .int .i64 n, .int .i64 s, .int .i64 (i : Int)] 129)) from HB2.out.trans (hbk.mono (Nat.le_of_lt lt2)))
    have hkf : K w2.heap.size = 0 := HT2.out.fr _ (Nat.le_refl _)
    have hkb : w2.heap.size ≠ bb := by omega
    clear hbk
    go_upto_region 6 with (fail)
    generalize w2.alloc (.cells #[.int .u8 q, .int .i64 f, .int .i64 n, .int .i64 s, .int .i64 (i : Int)] 129) = w3 at *
    generalize w2.heap.size = kb at *
    clear y2 hlk hln HT2 HS2 HB2 x0 x1 x2 x3 x4 bf4 lt2
    have x0 := xx0
    have x1 := xx1
    have x2 := xx2
    have x3 := xx3
    have x4 := xx4
    have bf4 := bg4
    clear xx0 xx1 xx2 xx3 xx4 bg4
    go_wp2_with fail
    have lt3 : bb < w3.heap.size := World.block_lt_of_cell? _ _ x0
    have hD : Below w3.heap.size w3 w3.drew := (Below.refl _ _).drew
    replace x0 := cell_later hD x0
    replace x1 := cell_later hD x1
    replace x2 := cell_later hD x2
    replace x3 := cell_later hD x3
    replace x4 := cell_later hD x4
    replace k0 := cell_later hD k0
    replace k1 := cell_later hD k1
    replace k2 := cell_later hD k2
    replace k3 := cell_later hD k3
    replace k4 := cell_later hD k4
    replace bf4 : w3.drew.frozen? ⟨bb, 4, none⟩ = false := by rw [hD.frozen lt3]; exact bf4
    have HT4 := Lib.hid (HT3.out.later hD)
    have HS4 := Lib.hid (HS3.out.trans (StepT.below hD))
    have HB4 := Lib.hid (show Below bb W w3.drew from HB3.out.trans (hD.mono (Nat.le_of_lt lt3)))
    clear hD HT3 HS3 HB3
    obtain ⟨m1, y1, q1⟩ := HT4.out.map1
    have HKK := Lib.hid (key129 HOK.out.q HOK.out.f HOK.out.n HOK.out.s (show I64 (i : Int) by unfold I64; omega))
    have hlk := q1.look_ok K129 Try.underlying99 (zero73 _) HKK.out
    unfold keyV at hlk
    clear q1
    cases hf1 : T.f1 (keyN q f n s (i : Int)) with
    | some v =>
      rw [hf1] at hlk
      simp only [Option.getD_some, Option.isSome_some] at hlk
      obtain ⟨j, y, rfl, hy, hsame⟩ := HG.out.found (m := T.nodes.length) (by omega) HOK.out HNUM.out hf1
      have HF := Lib.hid (And.intro hy hsame)
      clear hf1 hy hsame
      unfold nV at hlk
      refine wp_region_L [(1000, (fun _ => True : World → Prop)), (1000, (fun w => w.cell? ⟨c, 1, none⟩ = some (.map (some m1)) : World → Prop)), (1000, (fun w => w.cell? ⟨kb, 0, none⟩ = some (.int .u8 q) ∧ w.cell? ⟨kb, 1, none⟩ = some (.int .i64 f) ∧ w.cell? ⟨kb, 2, none⟩ = some (.int .i64 n) ∧ w.cell? ⟨kb, 3, none⟩ = some (.int .i64 s) ∧ w.cell? ⟨kb, 4, none⟩ = some (.int .i64 (i : Int)) : World → Prop))] (by kernel_rfl) (SL.cons (fun _ => trivial) (SL.cons (fun _ => y1) (SL.cons (fun _ => ⟨k0, k1, k2, k3, k4⟩) SL.nil))) (fun hHeld => ?_)
      generalize w3.drew = w4 at *
      refine wpAnyL_take 0 _ _ (i := 0) (oi := { dst := some 43, op := Op.move (Operand.tmp 0), type := 69, pos := "terms.go:194", after := #[], guard := none }) (v := ?_) rfl (by kernel_rfl) (by kernel_rfl) (by kernel_rfl) (fun _ _ _ h => h) rfl (by kernel_rfl) (by kernel_rfl) (by kernel_rfl) (Or.inl ⟨by rfl, ?_⟩) hHeld (fun hHeld => ?_)
      rotate_left
      · intro w hSw
        (try dsimp only at hSw)
        go_simp
        try with_reducible rfl
      try simp only [Act.put, List.setIfInBounds_toArray, List.set_cons_zero, List.set_cons_succ]
      refine wpAnyL_take 0 _ _ (i := 1) (oi := { dst := some 44, op := Op.nilCheck (Operand.tmp 43), type := 0, pos := "terms.go:194", after := #[{ on := 0, ground := Ground.data }], guard := none }) (v := ?_) rfl (by kernel_rfl) (by kernel_rfl) (by kernel_rfl) (fun _ _ _ h => h) rfl (by kernel_rfl) (by kernel_rfl) (by kernel_rfl) (Or.inl ⟨by rfl, ?_⟩) hHeld (fun hHeld => ?_)
      rotate_left
      · intro w hSw
        (try dsimp only at hSw)
        go_simp
        try with_reducible rfl
      try simp only [Act.put, List.setIfInBounds_toArray, List.set_cons_zero, List.set_cons_succ]
      refine wpAnyL_take 0 _ _ (i := 2) (oi := { dst := some 45, op := Op.fieldAddr 101 (Operand.tmp 44) 1, type := 0, pos := "terms.go:194", after := #[{ on := 1, ground := Ground.data }], guard := none }) (v := ?_) rfl (by kernel_rfl) (by kernel_rfl) (by kernel_rfl) (fun _ _ _ h => h) rfl (by kernel_rfl) (by kernel_rfl) (by kernel_rfl) (Or.inl ⟨by rfl, ?_⟩) hHeld (fun hHeld => ?_)
      rotate_left
      · intro w hSw
        (try dsimp only at hSw)
        go_simp
        try with_reducible rfl
      try simp only [Act.put, List.setIfInBounds_toArray, List.set_cons_zero, List.set_cons_succ]
      refine wpAnyL_take 1 _ _ (i := 3) (oi := { dst := some 46, op := Op.load 99 (Operand.tmp 45), type := 99, pos := "terms.go:194", after := #[{ on := 2, ground := Ground.data }], guard := none }) (v := ?_) rfl (by kernel_rfl) (by kernel_rfl) (by kernel_rfl) (fun _ _ _ h => h) rfl (by kernel_rfl) (by kernel_rfl) (by kernel_rfl) (Or.inl ⟨by rfl, ?_⟩) hHeld (fun hHeld => ?_)
      rotate_left
      · intro w hSw
        (try dsimp only at hSw)
        go_simp
        try with_reducible rfl
      try simp only [Act.put, List.setIfInBounds_toArray, List.set_cons_zero, List.set_cons_succ]
      refine wpAnyL_take 2 _ _ (i := 4) (oi := { dst := some 47, op := Op.load 129 (Operand.tmp 9), type := 129, pos := "terms.go:194", after := #[], guard := none }) (v := ?_) rfl (by kernel_rfl) (by kernel_rfl) (by kernel_rfl) (fun _ _ _ h => h) rfl (by kernel_rfl) (by kernel_rfl) (by kernel_rfl) (Or.inl ⟨by rfl, ?_⟩) hHeld (fun hHeld => ?_)
      rotate_left
      · intro w hSw
        (try dsimp only at hSw)
        obtain ⟨g0, g1, g2, g3, g4⟩ := hSw
        go_simp
        try with_reducible rfl
      try simp only [Act.put, List.setIfInBounds_toArray, List.set_cons_zero, List.set_cons_succ]
      refine wpAnyL_ready (rs := [5]) (by kernel_rfl) (by simp) ?_
      refine AllReadyL.cons (o := { dst := some 48, op := Op.lookup 99 (Operand.tmp 46) (Operand.tmp 47) true, type := 144, pos := "terms.go:194", after := #[{ on := 3, ground := Ground.data }, { on := 4, ground := Ground.data }], guard := none }) rfl (fun KK hK => ?_) AllReadyL.nil
      rw [if_pos (by rfl)]
      refine wp_op_run rfl (by rfl) (by rfl) hlk ?_
      refine hK.out _ _ (SL.cons (fun _ => trivial) (SL.cons (fun _ => y1) (SL.cons (fun _ => ⟨k0, k1, k2, k3, k4⟩) SL.nil))) (fun hHeld => ?_)
      clear hK KK
      try simp only [Act.put, List.setIfInBounds_toArray, List.set_cons_zero, List.set_cons_succ]
      refine wpAnyL_take 0 _ _ (i := 6) (oi := { dst := some 42, op := Op.move (Operand.tmp 48), type := 144, pos := "terms.go:194", after := #[{ on := 5, ground := Ground.data }], guard := none }) (v := ?_) rfl (by kernel_rfl) (by kernel_rfl) (by kernel_rfl) (fun _ _ _ h => h) rfl (by kernel_rfl) (by kernel_rfl) (by kernel_rfl) (Or.inl ⟨by rfl, ?_⟩) hHeld (fun hHeld => ?_)
      rotate_left
      · intro w hSw
        (try dsimp only at hSw)
        go_simp
        try with_reducible rfl
      try simp only [Act.put, List.setIfInBounds_toArray, List.set_cons_zero, List.set_cons_succ]
      refine wpAnyL_take 0 _ _ (i := 7) (oi := { dst := some 49, op := Op.extract (Operand.tmp 42) 0, type := 73, pos := "terms.go:194", after := #[{ on := 6, ground := Ground.data }], guard := none }) (v := ?_) rfl (by kernel_rfl) (by kernel_rfl) (by kernel_rfl) (fun _ _ _ h => h) rfl (by kernel_rfl) (by kernel_rfl) (by kernel_rfl) (Or.inl ⟨by rfl, ?_⟩) hHeld (fun hHeld => ?_)
      rotate_left
      · intro w hSw
        (try dsimp only at hSw)
        go_simp
        try with_reducible rfl
      try simp only [Act.put, List.setIfInBounds_toArray, List.set_cons_zero, List.set_cons_succ]
      refine wpAnyL_take 0 _ _ (i := 8) (oi := { dst := some 50, op := Op.extract (Operand.tmp 42) 1, type := 4, pos := "terms.go:194", after := #[{ on := 6, ground := Ground.data }, { on := 9, ground := Ground.gcOnly Departure.lateStores }], guard := none }) (v := ?_) rfl (by kernel_rfl) (by kernel_rfl) (by kernel_rfl) (fun _ _ _ h => h) rfl (by kernel_rfl) (by kernel_rfl) (by kernel_rfl) (Or.inl ⟨by rfl, ?_⟩) hHeld (fun hHeld => ?_)
      rotate_left
      · intro w hSw
        (try dsimp only at hSw)
        go_simp
        try with_reducible rfl
      try simp only [Act.put, List.setIfInBounds_toArray, List.set_cons_zero, List.set_cons_succ]
      refine wpAnyL_take 0 _ _ (i := 9) (oi := { dst := some 10, op := Op.assign (Operand.tmp 49), type := 73, pos := "terms.go:194", after := #[{ on := 7, ground := Ground.data }, { on := 0, ground := Ground.phase }, { on := 1, ground := Ground.phase }, { on := 2, ground := Ground.phase }, { on := 3, ground := Ground.phase }, { on := 4, ground := Ground.phase }, { on := 5, ground := Ground.phase }, { on := 6, ground := Ground.phase }, { on := 7, ground := Ground.phase }, { on := 8, ground := Ground.textOnly Departure.lateStores }], guard := none }) (v := ?_) rfl (by kernel_rfl) (by kernel_rfl) (by kernel_rfl) (fun _ _ _ h => h) rfl (by kernel_rfl) (by kernel_rfl) (by kernel_rfl) (Or.inl ⟨by rfl, ?_⟩) hHeld (fun hHeld => ?_)
      rotate_left
      · intro w hSw
        (try dsimp only at hSw)
        go_simp
        try with_reducible rfl
      try simp only [Act.put, List.setIfInBounds_toArray, List.set_cons_zero, List.set_cons_succ]
      refine wpAnyL_take 0 _ _ (i := 10) (oi := { dst := some 11, op := Op.assign (Operand.tmp 50), type := 4, pos := "terms.go:194", after := #[{ on := 8, ground := Ground.data }, { on := 9, ground := Ground.chain }, { on := 0, ground := Ground.phase }, { on := 1, ground := Ground.phase }, { on := 2, ground := Ground.phase }, { on := 3, ground := Ground.phase }, { on := 4, ground := Ground.phase }, { on := 5, ground := Ground.phase }, { on := 6, ground := Ground.phase }, { on := 7, ground := Ground.phase }, { on := 8, ground := Ground.phase }, { on := 9, ground := Ground.phase }], guard := none }) (v := ?_) rfl (by kernel_rfl) (by kernel_rfl) (by kernel_rfl) (fun _ _ _ h => h) rfl (by kernel_rfl) (by kernel_rfl) (by kernel_rfl) (Or.inl ⟨by rfl, ?_⟩) hHeld (fun hHeld => ?_)
      rotate_left
      · intro w hSw
        (try dsimp only at hSw)
        go_simp
        try with_reducible rfl
      try simp only [Act.put, List.setIfInBounds_toArray, List.set_cons_zero, List.set_cons_succ]
      refine wpAnyL_done (by kernel_rfl) ?_ _
      clear hHeld hlk
      go_wp2_with fail
      go_ret2
      exact ⟨K, T, _, _, rfl, HT4.out, HG.out, HS4.out, .inl ⟨rfl, rfl, j, y, rfl, HF.out.1, HF.out.2⟩⟩
    | none =>
      rw [hf1] at hlk
      simp only [Option.getD_none, Option.isSome_none] at hlk
      have HFR := Lib.hid (show Fresh T ⟨q, f, n, s, P, L, C, V⟩ from HG.out.missed HNUM.out hf1)
      have HF1 := Lib.hid hf1
      clear hf1
      refine wp_region_L [(1000, (fun _ => True : World → Prop)), (1000, (fun w => w.cell? ⟨c, 1, none⟩ = some (.map (some m1)) : World → Prop)), (1000, (fun w => w.cell? ⟨kb, 0, none⟩ = some (.int .u8 q) ∧ w.cell? ⟨kb, 1, none⟩ = some (.int .i64 f) ∧ w.cell? ⟨kb, 2, none⟩ = some (.int .i64 n) ∧ w.cell? ⟨kb, 3, none⟩ = some (.int .i64 s) ∧ w.cell? ⟨kb, 4, none⟩ = some (.int .i64 (i : Int)) : World → Prop))] (by kernel_rfl) (SL.cons (fun _ => trivial) (SL.cons (fun _ => y1) (SL.cons (fun _ => ⟨k0, k1, k2, k3, k4⟩) SL.nil))) (fun hHeld => ?_)
      generalize w3.drew = w4 at *
      refine wpAnyL_take 0 _ _ (i := 0) (oi := { dst := some 43, op := Op.move (Operand.tmp 0), type := 69, pos := "terms.go:194", after := #[], guard := none }) (v := ?_) rfl (by kernel_rfl) (by kernel_rfl) (by kernel_rfl) (fun _ _ _ h => h) rfl (by kernel_rfl) (by kernel_rfl) (by kernel_rfl) (Or.inl ⟨by rfl, ?_⟩) hHeld (fun hHeld => ?_)
      rotate_left
      · intro w hSw
        (try dsimp only at hSw)
        go_simp
        try with_reducible rfl
      try simp only [Act.put, List.setIfInBounds_toArray, List.set_cons_zero, List.set_cons_succ]
      refine wpAnyL_take 0 _ _ (i := 1) (oi := { dst := some 44, op := Op.nilCheck (Operand.tmp 43), type := 0, pos := "terms.go:194", after := #[{ on := 0, ground := Ground.data }], guard := none }) (v := ?_) rfl (by kernel_rfl) (by kernel_rfl) (by kernel_rfl) (fun _ _ _ h => h) rfl (by kernel_rfl) (by kernel_rfl) (by kernel_rfl) (Or.inl ⟨by rfl, ?_⟩) hHeld (fun hHeld => ?_)
      rotate_left
      · intro w hSw
        (try dsimp only at hSw)
        go_simp
        try with_reducible rfl
      try simp only [Act.put, List.setIfInBounds_toArray, List.set_cons_zero, List.set_cons_succ]
      refine wpAnyL_take 0 _ _ (i := 2) (oi := { dst := some 45, op := Op.fieldAddr 101 (Operand.tmp 44) 1, type := 0, pos := "terms.go:194", after := #[{ on := 1, ground := Ground.data }], guard := none }) (v := ?_) rfl (by kernel_rfl) (by kernel_rfl) (by kernel_rfl) (fun _ _ _ h => h) rfl (by kernel_rfl) (by kernel_rfl) (by kernel_rfl) (Or.inl ⟨by rfl, ?_⟩) hHeld (fun hHeld => ?_)
      rotate_left
      · intro w hSw
        (try dsimp only at hSw)
        go_simp
        try with_reducible rfl
      try simp only [Act.put, List.setIfInBounds_toArray, List.set_cons_zero, List.set_cons_succ]
      refine wpAnyL_take 1 _ _ (i := 3) (oi := { dst := some 46, op := Op.load 99 (Operand.tmp 45), type := 99, pos := "terms.go:194", after := #[{ on := 2, ground := Ground.data }], guard := none }) (v := ?_) rfl (by kernel_rfl) (by kernel_rfl) (by kernel_rfl) (fun _ _ _ h => h) rfl (by kernel_rfl) (by kernel_rfl) (by kernel_rfl) (Or.inl ⟨by rfl, ?_⟩) hHeld (fun hHeld => ?_)
      rotate_left
      · intro w hSw
        (try dsimp only at hSw)
        go_simp
        try with_reducible rfl
      try simp only [Act.put, List.setIfInBounds_toArray, List.set_cons_zero, List.set_cons_succ]
      refine wpAnyL_take 2 _ _ (i := 4) (oi := { dst := some 47, op := Op.load 129 (Operand.tmp 9), type := 129, pos := "terms.go:194", after := #[], guard := none }) (v := ?_) rfl (by kernel_rfl) (by kernel_rfl) (by kernel_rfl) (fun _ _ _ h => h) rfl (by kernel_rfl) (by kernel_rfl) (by kernel_rfl) (Or.inl ⟨by rfl, ?_⟩) hHeld (fun hHeld => ?_)
      rotate_left
      · intro w hSw
        (try dsimp only at hSw)
        obtain ⟨g0, g1, g2, g3, g4⟩ := hSw
        go_simp
        try with_reducible rfl
      try simp only [Act.put, List.setIfInBounds_toArray, List.set_cons_zero, List.set_cons_succ]
      refine wpAnyL_ready (rs := [5]) (by kernel_rfl) (by simp) ?_
      refine AllReadyL.cons (o := { dst := some 48, op := Op.lookup 99 (Operand.tmp 46) (Operand.tmp 47) true, type := 144, pos := "terms.go:194", after := #[{ on := 3, ground := Ground.data }, { on := 4, ground := Ground.data }], guard := none }) rfl (fun KK hK => ?_) AllReadyL.nil
      rw [if_pos (by rfl)]
      refine wp_op_run rfl (by rfl) (by rfl) hlk ?_
      refine hK.out _ _ (SL.cons (fun _ => trivial) (SL.cons (fun _ => y1) (SL.cons (fun _ => ⟨k0, k1, k2, k3, k4⟩) SL.nil))) (fun hHeld => ?_)
      clear hK KK
      try simp only [Act.put, List.setIfInBounds_toArray, List.set_cons_zero, List.set_cons_succ]
      refine wpAnyL_take 0 _ _ (i := 6) (oi := { dst := some 42, op := Op.move (Operand.tmp 48), type := 144, pos := "terms.go:194", after := #[{ on := 5, ground := Ground.data }], guard := none }) (v := ?_) rfl (by kernel_rfl) (by kernel_rfl) (by kernel_rfl) (fun _ _ _ h => h) rfl (by kernel_rfl) (by kernel_rfl) (by kernel_rfl) (Or.inl ⟨by rfl, ?_⟩) hHeld (fun hHeld => ?_)
      rotate_left
      · intro w hSw
        (try dsimp only at hSw)
        go_simp
        try with_reducible rfl
      try simp only [Act.put, List.setIfInBounds_toArray, List.set_cons_zero, List.set_cons_succ]
      refine wpAnyL_take 0 _ _ (i := 7) (oi := { dst := some 49, op := Op.extract (Operand.tmp 42) 0, type := 73, pos := "terms.go:194", after := #[{ on := 6, ground := Ground.data }], guard := none }) (v := ?_) rfl (by kernel_rfl) (by kernel_rfl) (by kernel_rfl) (fun _ _ _ h => h) rfl (by kernel_rfl) (by kernel_rfl) (by kernel_rfl) (Or.inl ⟨by rfl, ?_⟩) hHeld (fun hHeld => ?_)
      rotate_left
      · intro w hSw
        (try dsimp only at hSw)
        go_simp
        try with_reducible rfl
      try simp only [Act.put, List.setIfInBounds_toArray, List.set_cons_zero, List.set_cons_succ]
      refine wpAnyL_take 0 _ _ (i := 8) (oi := { dst := some 50, op := Op.extract (Operand.tmp 42) 1, type := 4, pos := "terms.go:194", after := #[{ on := 6, ground := Ground.data }, { on := 9, ground := Ground.gcOnly Departure.lateStores }], guard := none }) (v := ?_) rfl (by kernel_rfl) (by kernel_rfl) (by kernel_rfl) (fun _ _ _ h => h) rfl (by kernel_rfl) (by kernel_rfl) (by kernel_rfl) (Or.inl ⟨by rfl, ?_⟩) hHeld (fun hHeld => ?_)
      rotate_left
      · intro w hSw
        (try dsimp only at hSw)
        go_simp
        try with_reducible rfl
      try simp only [Act.put, List.setIfInBounds_toArray, List.set_cons_zero, List.set_cons_succ]
      refine wpAnyL_take 0 _ _ (i := 9) (oi := { dst := some 10, op := Op.assign (Operand.tmp 49), type := 73, pos := "terms.go:194", after := #[{ on := 7, ground := Ground.data }, { on := 0, ground := Ground.phase }, { on := 1, ground := Ground.phase }, { on := 2, ground := Ground.phase }, { on := 3, ground := Ground.phase }, { on := 4, ground := Ground.phase }, { on := 5, ground := Ground.phase }, { on := 6, ground := Ground.phase }, { on := 7, ground := Ground.phase }, { on := 8, ground := Ground.textOnly Departure.lateStores }], guard := none }) (v := ?_) rfl (by kernel_rfl) (by kernel_rfl) (by kernel_rfl) (fun _ _ _ h => h) rfl (by kernel_rfl) (by kernel_rfl) (by kernel_rfl) (Or.inl ⟨by rfl, ?_⟩) hHeld (fun hHeld => ?_)
      rotate_left
      · intro w hSw
        (try dsimp only at hSw)
        go_simp
        try with_reducible rfl
      try simp only [Act.put, List.setIfInBounds_toArray, List.set_cons_zero, List.set_cons_succ]
      refine wpAnyL_take 0 _ _ (i := 10) (oi := { dst := some 11, op := Op.assign (Operand.tmp 50), type := 4, pos := "terms.go:194", after := #[{ on := 8, ground := Ground.data }, { on := 9, ground := Ground.chain }, { on := 0, ground := Ground.phase }, { on := 1, ground := Ground.phase }, { on := 2, ground := Ground.phase }, { on := 3, ground := Ground.phase }, { on := 4, ground := Ground.phase }, { on := 5, ground := Ground.phase }, { on := 6, ground := Ground.phase }, { on := 7, ground := Ground.phase }, { on := 8, ground := Ground.phase }, { on := 9, ground := Ground.phase }], guard := none }) (v := ?_) rfl (by kernel_rfl) (by kernel_rfl) (by kernel_rfl) (fun _ _ _ h => h) rfl (by kernel_rfl) (by kernel_rfl) (by kernel_rfl) (Or.inl ⟨by rfl, ?_⟩) hHeld (fun hHeld => ?_)
      rotate_left
      · intro w hSw
        (try dsimp only at hSw)
        go_simp
        try with_reducible rfl
      try simp only [Act.put, List.setIfInBounds_toArray, List.set_cons_zero, List.set_cons_succ]
      refine wpAnyL_done (by kernel_rfl) ?_ _
      clear hHeld hlk
      obtain ⟨p0, z0, y0, o0_⟩ := HT4.out.row0
      clear o0_
      by_cases hfull : 20000 ≤ T.nodes.length
      · go_wp2_with fail
        go_ret2
        exact ⟨K, T, _, _, rfl, HT4.out, HG.out, HS4.out, .inr (.inl ⟨rfl, rfl, rfl, hfull, HFR.out⟩)⟩
      · have HCL := clone_any82 P L C V w4 (HX.out.later (by rw [hbb]; exact HB4.out)) (by omega)
        clear y1
        go_wp2_with fail
        refine HCL.mono ?_
        rintro e w5 ⟨v5, rfl, ho5, hb5⟩
        clear HCL y0
        have lt4 : bb < w4.heap.size := World.block_lt_of_cell? _ _ x0
        have ltk : kb < w4.heap.size := World.block_lt_of_cell? _ _ k0
        obtain ⟨K5, P5, C5, rfl, hT5, hS5, hI5, h95⟩ := HT4.out.args hb5 ho5
        have hbf5 : K5 bb = 0 := by rw [hS5.ext bb lt4]; exact hbf
        have hkf5 : K5 kb = 0 := by rw [hS5.ext kb ltk]; exact hkf
        replace x0 := cell_later hb5 x0
        replace x1 := cell_later hb5 x1
        replace x2 := cell_later hb5 x2
        replace x3 := cell_later hb5 x3
        replace x4 := cell_later hb5 x4
        replace k0 := cell_later hb5 k0
        replace k1 := cell_later hb5 k1
        replace k2 := cell_later hb5 k2
        replace k3 := cell_later hb5 k3
        replace k4 := cell_later hb5 k4
        replace bf4 : w5.frozen? ⟨bb, 4, none⟩ = false := by rw [hb5.frozen lt4]; exact bf4
        have z0 : (w5.setCell ⟨bb, 4, none⟩ (.slice P5 L C5)).cell? ⟨bb, 0, none⟩ = some (.int .u8 q) := by rw [World.cell?_setCell_other _ _ _ _ (by intro e; cases e)]; exact x0
        have z1 : (w5.setCell ⟨bb, 4, none⟩ (.slice P5 L C5)).cell? ⟨bb, 1, none⟩ = some (.int .i64 f) := by rw [World.cell?_setCell_other _ _ _ _ (by intro e; cases e)]; exact x1
        have z2 : (w5.setCell ⟨bb, 4, none⟩ (.slice P5 L C5)).cell? ⟨bb, 2, none⟩ = some (.int .i64 n) := by rw [World.cell?_setCell_other _ _ _ _ (by intro e; cases e)]; exact x2
        have z3 : (w5.setCell ⟨bb, 4, none⟩ (.slice P5 L C5)).cell? ⟨bb, 3, none⟩ = some (.int .i64 s) := by rw [World.cell?_setCell_other _ _ _ _ (by intro e; cases e)]; exact x3
        have z4 : (w5.setCell ⟨bb, 4, none⟩ (.slice P5 L C5)).cell? ⟨bb, 4, none⟩ = some (.slice P5 L C5) := World.cell?_setCell_same _ _ _ x4
        have l0 : (w5.setCell ⟨bb, 4, none⟩ (.slice P5 L C5)).cell? ⟨kb, 0, none⟩ = some (.int .u8 q) := by rw [World.cell?_setCell_other _ _ _ _ (by intro e; cases e <;> exact hkb rfl)]; exact k0
        have l1 : (w5.setCell ⟨bb, 4, none⟩ (.slice P5 L C5)).cell? ⟨kb, 1, none⟩ = some (.int .i64 f) := by rw [World.cell?_setCell_other _ _ _ _ (by intro e; cases e <;> exact hkb rfl)]; exact k1
        have l2 : (w5.setCell ⟨bb, 4, none⟩ (.slice P5 L C5)).cell? ⟨kb, 2, none⟩ = some (.int .i64 n) := by rw [World.cell?_setCell_other _ _ _ _ (by intro e; cases e <;> exact hkb rfl)]; exact k2
        have l3 : (w5.setCell ⟨bb, 4, none⟩ (.slice P5 L C5)).cell? ⟨kb, 3, none⟩ = some (.int .i64 s) := by rw [World.cell?_setCell_other _ _ _ _ (by intro e; cases e <;> exact hkb rfl)]; exact k3
        have l4 : (w5.setCell ⟨bb, 4, none⟩ (.slice P5 L C5)).cell? ⟨kb, 4, none⟩ = some (.int .i64 (i : Int)) := by rw [World.cell?_setCell_other _ _ _ _ (by intro e; cases e <;> exact hkb rfl)]; exact k4
        have ho6 : Only (fun k => k = bb) w5 (w5.setCell ⟨bb, 4, none⟩ (.slice P5 L C5)) := Only.of_setCell w5 ⟨bb, 4, none⟩ _
        have hT6 : StoAt (w5.setCell ⟨bb, 4, none⟩ (.slice P5 L C5)) K5 base c T := hT5.only ho6 (fun k hk _ e => hk (by rw [show k = bb from e]; exact hbf5))
        have hA6 : NdArgs (w5.setCell ⟨bb, 4, none⟩ (.slice P5 L C5)) K5 ⟨q, f, n, s, P5, L, C5, V⟩ := ⟨fun hn => by
          obtain ⟨b9, o9, e9, a9⟩ := hI5 hn
          refine ⟨b9, o9, e9, fun i hi => ho6.cell (a9 i hi) (fun e => ?_)⟩
          have := h95 _ e9
          rw [show b9 = bb from e] at this
          simp only at this
          omega, h95⟩
        have S6 : Below W.heap.size W (w5.setCell ⟨bb, 4, none⟩ (.slice P5 L C5)) := by rw [hbb]; exact (HB4.out.trans (hb5.mono (Nat.le_of_lt lt4))).setCell (Nat.le_refl _) _
        have HT6 := Lib.hid hT6
        have HA6 := Lib.hid hA6
        have HS6 := Lib.hid (show StepT W (w5.setCell ⟨bb, 4, none⟩ (.slice P5 L C5)) K K5 from ⟨Only.of_below S6, fun k hk => by rw [hS5.ext k (by omega)]⟩)
        clear hT5 hS5 hI5 h95 hT6 hA6 S6 ho6 ho5 hb5 HT4 HS4 HB4
        go_upto_region 13 with (fail)
        generalize (w5.setCell ⟨bb, 4, none⟩ (.slice P5 L C5)) = w6 at *
        clear x0 x1 x2 x3 x4 k0 k1 k2 k3 k4 bf4
        obtain ⟨p1, q1, a1, o1_⟩ := HT6.out.row0
        clear o1_
        go_wp2_with fail
        have hD : Below w6.heap.size w6 w6.drew := (Below.refl _ _).drew
        replace a1 := cell_later hD a1
        replace z0 := cell_later hD z0
        replace z1 := cell_later hD z1
        replace z2 := cell_later hD z2
        replace z3 := cell_later hD z3
        replace z4 := cell_later hD z4
        replace l0 := cell_later hD l0
        replace l1 := cell_later hD l1
        replace l2 := cell_later hD l2
        replace l3 := cell_later hD l3
        replace l4 := cell_later hD l4
        have HT7 := Lib.hid (HT6.out.later hD)
        have HA7 := Lib.hid (show NdArgs w6.drew K5 ⟨q, f, n, s, P5, L, C5, V⟩ from HA6.out.only HT6.out.fr (Only.of_below (T := fun _ => False) hD) (Ext.refl _ _) (fun _ _ h => h))
        have HS7 := Lib.hid (HS6.out.trans (StepT.below hD))
        clear hD HT6 HA6 HS6
        refine wp_region_L [(1000, (fun _ => True : World → Prop)), (10, (fun w => w.cell? ⟨c, 0, none⟩ = some (.slice p1 T.nodes.length q1) : World → Prop)), (1000, (fun w => w.cell? ⟨bb, 0, none⟩ = some (.int .u8 q) ∧ w.cell? ⟨bb, 1, none⟩ = some (.int .i64 f) ∧ w.cell? ⟨bb, 2, none⟩ = some (.int .i64 n) ∧ w.cell? ⟨bb, 3, none⟩ = some (.int .i64 s) ∧ w.cell? ⟨bb, 4, none⟩ = some (.slice P5 L C5) : World → Prop)), (1000, (fun w => w.cell? ⟨kb, 0, none⟩ = some (.int .u8 q) ∧ w.cell? ⟨kb, 1, none⟩ = some (.int .i64 f) ∧ w.cell? ⟨kb, 2, none⟩ = some (.int .i64 n) ∧ w.cell? ⟨kb, 3, none⟩ = some (.int .i64 s) ∧ w.cell? ⟨kb, 4, none⟩ = some (.int .i64 (i : Int)) : World → Prop))] (by kernel_rfl) (SL.cons (fun _ => trivial) (SL.cons (fun _ => a1) (SL.cons (fun _ => ⟨z0, z1, z2, z3, z4⟩) (SL.cons (fun _ => ⟨l0, l1, l2, l3, l4⟩) SL.nil)))) (fun hHeld => ?_)
        generalize w6.drew = w7 at *
        refine wpAnyL_take 0 _ _ (i := 0) (oi := { dst := some 68, op := Op.move (Operand.tmp 0), type := 69, pos := "terms.go:202", after := #[], guard := none }) (v := ?_) rfl (by kernel_rfl) (by kernel_rfl) (by kernel_rfl) (fun _ _ _ h => h) rfl (by kernel_rfl) (by kernel_rfl) (by kernel_rfl) (Or.inl ⟨by rfl, ?_⟩) hHeld (fun hHeld => ?_)
        rotate_left
        · intro w hSw
          (try dsimp only at hSw)
          go_simp
          try with_reducible rfl
        try simp only [Act.put, List.setIfInBounds_toArray, List.set_cons_zero, List.set_cons_succ]
        refine wpAnyL_take 0 _ _ (i := 1) (oi := { dst := some 69, op := Op.move (Operand.tmp 0), type := 69, pos := "terms.go:202", after := #[], guard := none }) (v := ?_) rfl (by kernel_rfl) (by kernel_rfl) (by kernel_rfl) (fun _ _ _ h => h) rfl (by kernel_rfl) (by kernel_rfl) (by kernel_rfl) (Or.inl ⟨by rfl, ?_⟩) hHeld (fun hHeld => ?_)
        rotate_left
        · intro w hSw
          (try dsimp only at hSw)
          go_simp
          try with_reducible rfl
        try simp only [Act.put, List.setIfInBounds_toArray, List.set_cons_zero, List.set_cons_succ]
        refine wpAnyL_take 0 _ _ (i := 2) (oi := { dst := some 70, op := Op.nilCheck (Operand.tmp 69), type := 0, pos := "terms.go:202", after := #[{ on := 1, ground := Ground.data }], guard := none }) (v := ?_) rfl (by kernel_rfl) (by kernel_rfl) (by kernel_rfl) (fun _ _ _ h => h) rfl (by kernel_rfl) (by kernel_rfl) (by kernel_rfl) (Or.inl ⟨by rfl, ?_⟩) hHeld (fun hHeld => ?_)
        rotate_left
        · intro w hSw
          (try dsimp only at hSw)
          go_simp
          try with_reducible rfl
        try simp only [Act.put, List.setIfInBounds_toArray, List.set_cons_zero, List.set_cons_succ]
        refine wpAnyL_take 0 _ _ (i := 3) (oi := { dst := some 71, op := Op.fieldAddr 101 (Operand.tmp 70) 0, type := 0, pos := "terms.go:202", after := #[{ on := 2, ground := Ground.data }], guard := none }) (v := ?_) rfl (by kernel_rfl) (by kernel_rfl) (by kernel_rfl) (fun _ _ _ h => h) rfl (by kernel_rfl) (by kernel_rfl) (by kernel_rfl) (Or.inl ⟨by rfl, ?_⟩) hHeld (fun hHeld => ?_)
        rotate_left
        · intro w hSw
          (try dsimp only at hSw)
          go_simp
          try with_reducible rfl
        try simp only [Act.put, List.setIfInBounds_toArray, List.set_cons_zero, List.set_cons_succ]
        refine wpAnyL_take 1 _ _ (i := 4) (oi := { dst := some 72, op := Op.load 83 (Operand.tmp 71), type := 83, pos := "terms.go:202", after := #[{ on := 3, ground := Ground.data }], guard := none }) (v := ?_) rfl (by kernel_rfl) (by kernel_rfl) (by kernel_rfl) (fun _ _ _ h => h) rfl (by kernel_rfl) (by kernel_rfl) (by kernel_rfl) (Or.inl ⟨by rfl, ?_⟩) hHeld (fun hHeld => ?_)
        rotate_left
        · intro w hSw
          (try dsimp only at hSw)
          go_simp
          try with_reducible rfl
        try simp only [Act.put, List.setIfInBounds_toArray, List.set_cons_zero, List.set_cons_succ]
        refine wpAnyL_take 2 _ _ (i := 5) (oi := { dst := some 73, op := Op.load 89 (Operand.tmp 3), type := 89, pos := "terms.go:202", after := #[], guard := none }) (v := ?_) rfl (by kernel_rfl) (by kernel_rfl) (by kernel_rfl) (fun _ _ _ h => h) rfl (by kernel_rfl) (by kernel_rfl) (by kernel_rfl) (Or.inl ⟨by rfl, ?_⟩) hHeld (fun hHeld => ?_)
        rotate_left
        · intro w hSw
          (try dsimp only at hSw)
          obtain ⟨g0, g1, g2, g3, g4⟩ := hSw
          go_simp
          try with_reducible rfl
        try simp only [Act.put, List.setIfInBounds_toArray, List.set_cons_zero, List.set_cons_succ]
        refine wpAnyL_ready (rs := [6]) (by kernel_rfl) (by simp) ?_
        refine AllReadyL.cons (o := { dst := some 74, op := Op.buildSlice 83 1 #[(0, Operand.tmp 73)], type := 83, pos := "terms.go:202", after := #[{ on := 5, ground := Ground.data }], guard := none }) rfl (fun K hK => ?_) AllReadyL.nil
        go_simp
        refine hK.out _ _ (SL.cons (fun _ => trivial) (SL.cons (fun _ => cell_later (below1 w7 _) a1) (SL.cons (fun _ => ⟨cell_later (below1 w7 _) z0, cell_later (below1 w7 _) z1, cell_later (below1 w7 _) z2, cell_later (below1 w7 _) z3, cell_later (below1 w7 _) z4⟩) (SL.cons (fun _ => ⟨cell_later (below1 w7 _) l0, cell_later (below1 w7 _) l1, cell_later (below1 w7 _) l2, cell_later (below1 w7 _) l3, cell_later (below1 w7 _) l4⟩) SL.nil)))) (fun hHeld => ?_)
        clear hK K
        try simp only [Act.put, List.setIfInBounds_toArray, List.set_cons_zero, List.set_cons_succ]
        have hb8 := below1 w7 (.cells #[.int .u8 q, .int .i64 f, .int .i64 n, .int .i64 s, .slice P5 L C5] 89)
        have HT8 := Lib.hid (HT7.out.later hb8)
        have HA8 := Lib.hid (show NdArgs (w7.alloc (.cells #[.int .u8 q, .int .i64 f, .int .i64 n, .int .i64 s, .slice P5 L C5] 89)) K5 ⟨q, f, n, s, P5, L, C5, V⟩ from HA7.out.only HT7.out.fr (Only.of_below (T := fun _ => False) hb8) (Ext.refl _ _) (fun _ _ h => h))
        have HS8 := Lib.hid (HS7.out.trans (StepT.below hb8))
        replace a1 := cell_later hb8 a1
        replace z0 := cell_later hb8 z0
        replace z1 := cell_later hb8 z1
        replace z2 := cell_later hb8 z2
        replace z3 := cell_later hb8 z3
        replace z4 := cell_later hb8 z4
        replace l0 := cell_later hb8 l0
        replace l1 := cell_later hb8 l1
        replace l2 := cell_later hb8 l2
        replace l3 := cell_later hb8 l3
        replace l4 := cell_later hb8 l4
        obtain ⟨p8, z8, x8, o8⟩ := HT8.out.row0
        rw [a1] at x8
        cases x8
        have HO8 := Lib.hid o8
        have n0 : (w7.alloc (.cells #[.int .u8 q, .int .i64 f, .int .i64 n, .int .i64 s, .slice P5 L C5] 89)).cell? ⟨w7.heap.size, 0, none⟩ = some (.int .u8 q) := by simp [go_sem]
        have n1 : (w7.alloc (.cells #[.int .u8 q, .int .i64 f, .int .i64 n, .int .i64 s, .slice P5 L C5] 89)).cell? ⟨w7.heap.size, 1, none⟩ = some (.int .i64 f) := by simp [go_sem]
        have n2 : (w7.alloc (.cells #[.int .u8 q, .int .i64 f, .int .i64 n, .int .i64 s, .slice P5 L C5] 89)).cell? ⟨w7.heap.size, 2, none⟩ = some (.int .i64 n) := by simp [go_sem]
        have n3 : (w7.alloc (.cells #[.int .u8 q, .int .i64 f, .int .i64 n, .int .i64 s, .slice P5 L C5] 89)).cell? ⟨w7.heap.size, 3, none⟩ = some (.int .i64 s) := by simp [go_sem]
        have n4 : (w7.alloc (.cells #[.int .u8 q, .int .i64 f, .int .i64 n, .int .i64 s, .slice P5 L C5] 89)).cell? ⟨w7.heap.size, 4, none⟩ = some (.slice P5 L C5) := by simp [go_sem]
        clear o8 hb8 hHeld HT7 HA7 HS7
        refine wpAnyL_ready (rs := [7]) (by kernel_rfl) (by simp) ?_
        refine AllReadyL.cons (o := { dst := some 75, op := Op.call { callee := Callee.builtin Builtin.append, args := #[Operand.tmp 72, Operand.tmp 74], argTypes := #[83, 83] }, type := 83, pos := "terms.go:202", after := #[{ on := 4, ground := Ground.data }, { on := 6, ground := Ground.data }], guard := none }) rfl (fun K hK => ?_) AllReadyL.nil
        rw [if_pos (by rfl)]
        refine wp_append_own_at _ _ 83 (by rfl) 0 89 i89 (.agg #[.int .u8 0, .int .i64 0, .int .i64 0, .int .i64 0, .slice none 0 0]) 5 56 Try.underlying83 hi89 hz890 hz891 hz892 rfl (by omega) _ T.nodes.length (flatN T.nodes) (by rfl) HO8.out ⟨w7.heap.size, 0, none⟩ 1 1 (ndV ⟨q, f, n, s, P5, L, C5, V⟩) (by rfl) (by rfl) ?_ ?_ ?_ ?_ ?_ ?_
        · intro jj u hjj
          rw [Lib.add_plain]
          match jj, hjj with
          | 0, hjj => cases hjj; exact n0
          | 1, hjj => cases hjj; exact n1
          | 2, hjj => cases hjj; exact n2
          | 3, hjj => cases hjj; exact n3
          | 4, hjj => cases hjj; exact n4
        · intro u hu; simp [ndV] at hu; rcases hu with rfl | rfl | rfl | rfl | rfl <;> rfl
        · have hml : maxLen = 9223372036854775807 := rfl; omega
        · omega
        · exact Nat.zero_le _
        intro v9 w9 hown hgrow hnil_ hloc
        obtain ⟨p9, c9, hv⟩ := own_shape hown
        subst hv
        clear hnil_
        obtain ⟨K9', hT9, hS9, x9, f9⟩ := HT8.out.pushN a1 ⟨q, f, n, s, P5, L, C5, V⟩ HA8.out hown hgrow (by simpa using hloc)
        have HT9 := Lib.hid hT9
        have HS9 := Lib.hid (HS8.out.trans hS9)
        have hnt : ∀ b, (Value.slice p1 T.nodes.length q1).ownBlock = some b → K5 b = 2 := fun b e => by obtain ⟨vs, m1, m2, ob, q⟩ := HT8.out.ob; have e6 := ob.1 0 (by omega); rw [a1] at e6; injection e6 with e6; exact q.r0.tg b (by rw [← e6]; exact e)
        have hnb : (Value.slice p1 T.nodes.length q1).ownBlock ≠ some bb := fun e => by have := hnt _ e; omega
        have hnk : (Value.slice p1 T.nodes.length q1).ownBlock ≠ some kb := fun e => by have := hnt _ e; omega
        have hbf9 : K9' bb = 0 := by rw [hS9.ext bb (World.block_lt_of_cell? _ _ z0)]; exact hbf5
        have hkf9 : K9' kb = 0 := by rw [hS9.ext kb (World.block_lt_of_cell? _ _ l0)]; exact hkf5
        replace z0 := grown_cell hgrow z0 hnb
        replace z1 := grown_cell hgrow z1 hnb
        replace z2 := grown_cell hgrow z2 hnb
        replace z3 := grown_cell hgrow z3 hnb
        replace z4 := grown_cell hgrow z4 hnb
        replace l0 := grown_cell hgrow l0 hnk
        replace l1 := grown_cell hgrow l1 hnk
        replace l2 := grown_cell hgrow l2 hnk
        replace l3 := grown_cell hgrow l3 hnk
        replace l4 := grown_cell hgrow l4 hnk
        have hcb : c ≠ bb := fun e => by have := HT8.out.ka; rw [e] at this; omega
        have hck : c ≠ kb := fun e => by have := HT8.out.ka; rw [e] at this; omega
        clear hown hgrow hloc hT9 hS9 hnt hnb hnk n0 n1 n2 n3 n4 a1 HT8 HA8 HS8
        refine hK.out _ _ (SL.cons (fun _ => trivial) (SL.cons (fun _ => x9) (SL.cons (fun _ => ⟨z0, z1, z2, z3, z4⟩) (SL.cons (fun _ => ⟨l0, l1, l2, l3, l4⟩) SL.nil)))) (fun hHeld => ?_)
        clear hK K
        try simp only [Act.put, List.setIfInBounds_toArray, List.set_cons_zero, List.set_cons_succ]
        refine wpAnyL_take 0 _ _ (i := 8) (oi := { dst := some 76, op := Op.nilCheck (Operand.tmp 68), type := 0, pos := "terms.go:202", after := #[{ on := 0, ground := Ground.data }, { on := 0, ground := Ground.phase }, { on := 1, ground := Ground.phase }, { on := 2, ground := Ground.phase }, { on := 3, ground := Ground.phase }, { on := 4, ground := Ground.phase }, { on := 5, ground := Ground.phase }, { on := 6, ground := Ground.phase }, { on := 7, ground := Ground.phase }], guard := none }) (v := ?_) rfl (by kernel_rfl) (by kernel_rfl) (by kernel_rfl) (fun _ _ _ h => h) rfl (by kernel_rfl) (by kernel_rfl) (by kernel_rfl) (Or.inl ⟨by rfl, ?_⟩) hHeld (fun hHeld => ?_)
        rotate_left
        · intro w hSw
          (try dsimp only at hSw)
          go_simp
          try with_reducible rfl
        try simp only [Act.put, List.setIfInBounds_toArray, List.set_cons_zero, List.set_cons_succ]
        refine wpAnyL_take 0 _ _ (i := 9) (oi := { dst := some 77, op := Op.fieldAddr 101 (Operand.tmp 76) 0, type := 0, pos := "terms.go:202", after := #[{ on := 8, ground := Ground.data }, { on := 0, ground := Ground.phase }, { on := 1, ground := Ground.phase }, { on := 2, ground := Ground.phase }, { on := 3, ground := Ground.phase }, { on := 4, ground := Ground.phase }, { on := 5, ground := Ground.phase }, { on := 6, ground := Ground.phase }, { on := 7, ground := Ground.phase }], guard := none }) (v := ?_) rfl (by kernel_rfl) (by kernel_rfl) (by kernel_rfl) (fun _ _ _ h => h) rfl (by kernel_rfl) (by kernel_rfl) (by kernel_rfl) (Or.inl ⟨by rfl, ?_⟩) hHeld (fun hHeld => ?_)
        rotate_left
        · intro w hSw
          (try dsimp only at hSw)
          go_simp
          try with_reducible rfl
        try simp only [Act.put, List.setIfInBounds_toArray, List.set_cons_zero, List.set_cons_succ]
        have u0 : (w9.setCell ⟨c, 0, none⟩ (.slice p9 (T.nodes.length + 1) c9)).cell? ⟨bb, 0, none⟩ = some (.int .u8 q) := by rw [World.cell?_setCell_other _ _ _ _ (by intro e; cases e <;> exact hcb rfl)]; exact z0
        have u1 : (w9.setCell ⟨c, 0, none⟩ (.slice p9 (T.nodes.length + 1) c9)).cell? ⟨bb, 1, none⟩ = some (.int .i64 f) := by rw [World.cell?_setCell_other _ _ _ _ (by intro e; cases e <;> exact hcb rfl)]; exact z1
        have u2 : (w9.setCell ⟨c, 0, none⟩ (.slice p9 (T.nodes.length + 1) c9)).cell? ⟨bb, 2, none⟩ = some (.int .i64 n) := by rw [World.cell?_setCell_other _ _ _ _ (by intro e; cases e <;> exact hcb rfl)]; exact z2
        have u3 : (w9.setCell ⟨c, 0, none⟩ (.slice p9 (T.nodes.length + 1) c9)).cell? ⟨bb, 3, none⟩ = some (.int .i64 s) := by rw [World.cell?_setCell_other _ _ _ _ (by intro e; cases e <;> exact hcb rfl)]; exact z3
        have u4 : (w9.setCell ⟨c, 0, none⟩ (.slice p9 (T.nodes.length + 1) c9)).cell? ⟨bb, 4, none⟩ = some (.slice P5 L C5) := by rw [World.cell?_setCell_other _ _ _ _ (by intro e; cases e <;> exact hcb rfl)]; exact z4
        have t0 : (w9.setCell ⟨c, 0, none⟩ (.slice p9 (T.nodes.length + 1) c9)).cell? ⟨kb, 0, none⟩ = some (.int .u8 q) := by rw [World.cell?_setCell_other _ _ _ _ (by intro e; cases e <;> exact hck rfl)]; exact l0
        have t1 : (w9.setCell ⟨c, 0, none⟩ (.slice p9 (T.nodes.length + 1) c9)).cell? ⟨kb, 1, none⟩ = some (.int .i64 f) := by rw [World.cell?_setCell_other _ _ _ _ (by intro e; cases e <;> exact hck rfl)]; exact l1
        have t2 : (w9.setCell ⟨c, 0, none⟩ (.slice p9 (T.nodes.length + 1) c9)).cell? ⟨kb, 2, none⟩ = some (.int .i64 n) := by rw [World.cell?_setCell_other _ _ _ _ (by intro e; cases e <;> exact hck rfl)]; exact l2
        have t3 : (w9.setCell ⟨c, 0, none⟩ (.slice p9 (T.nodes.length + 1) c9)).cell? ⟨kb, 3, none⟩ = some (.int .i64 s) := by rw [World.cell?_setCell_other _ _ _ _ (by intro e; cases e <;> exact hck rfl)]; exact l3
        have t4 : (w9.setCell ⟨c, 0, none⟩ (.slice p9 (T.nodes.length + 1) c9)).cell? ⟨kb, 4, none⟩ = some (.int .i64 (i : Int)) := by rw [World.cell?_setCell_other _ _ _ _ (by intro e; cases e <;> exact hck rfl)]; exact l4
        refine wpAnyL_ready (rs := [10]) (by kernel_rfl) (by simp) ?_
        refine AllReadyL.cons (o := { dst := none, op := Op.store 83 (Operand.tmp 77) (Operand.tmp 75), type := 0, pos := "terms.go:202", after := #[{ on := 9, ground := Ground.data }, { on := 7, ground := Ground.data }, { on := 7, ground := Ground.chain }, { on := 0, ground := Ground.phase }, { on := 1, ground := Ground.phase }, { on := 2, ground := Ground.phase }, { on := 3, ground := Ground.phase }, { on := 4, ground := Ground.phase }, { on := 5, ground := Ground.phase }, { on := 6, ground := Ground.phase }, { on := 7, ground := Ground.phase }], guard := none }) rfl (fun K hK => ?_) AllReadyL.nil
        go_simp
        refine hK.out _ _ (SL.cons (fun _ => trivial) (SL.cons (fun h => absurd h (by decide +kernel)) (SL.cons (fun _ => ⟨u0, u1, u2, u3, u4⟩) (SL.cons (fun _ => ⟨t0, t1, t2, t3, t4⟩) SL.nil)))) (fun hHeld => ?_)
        clear hK K
        try simp only [Act.put, List.setIfInBounds_toArray, List.set_cons_zero, List.set_cons_succ]
        refine wpAnyL_done (by kernel_rfl) ?_ _
        generalize (w9.setCell ⟨c, 0, none⟩ (.slice p9 (T.nodes.length + 1) c9)) = w10 at *
        clear x9 f9 hHeld z0 z1 z2 z3 z4 u0 u1 u2 u3 u4 l0 l1 l2 l3 l4
        go_wp2_with fail
        have hD : Below w10.heap.size w10 w10.drew := (Below.refl _ _).drew
        replace t0 := cell_later hD t0
        replace t1 := cell_later hD t1
        replace t2 := cell_later hD t2
        replace t3 := cell_later hD t3
        replace t4 := cell_later hD t4
        have HT10 := Lib.hid (HT9.out.later hD)
        have HS10 := Lib.hid (HS9.out.trans (StepT.below hD))
        clear hD HT9 HS9
        obtain ⟨m9, x9, q9⟩ := HT10.out.map1
        have HQ9 := Lib.hid q9
        clear q9
        refine wp_region_L [(1000, (fun _ => True : World → Prop)), (1000, (fun w => w.cell? ⟨c, 1, none⟩ = some (.map (some m9)) : World → Prop)), (1000, (fun w => w.cell? ⟨kb, 0, none⟩ = some (.int .u8 q) ∧ w.cell? ⟨kb, 1, none⟩ = some (.int .i64 f) ∧ w.cell? ⟨kb, 2, none⟩ = some (.int .i64 n) ∧ w.cell? ⟨kb, 3, none⟩ = some (.int .i64 s) ∧ w.cell? ⟨kb, 4, none⟩ = some (.int .i64 (i : Int)) : World → Prop))] (by kernel_rfl) (SL.cons (fun _ => trivial) (SL.cons (fun _ => x9) (SL.cons (fun _ => ⟨t0, t1, t2, t3, t4⟩) SL.nil))) (fun hHeld => ?_)
        generalize w10.drew = w11 at *
        refine wpAnyL_take 0 _ _ (i := 0) (oi := { dst := some 78, op := Op.move (Operand.tmp 0), type := 69, pos := "terms.go:203", after := #[], guard := none }) (v := ?_) rfl (by kernel_rfl) (by kernel_rfl) (by kernel_rfl) (fun _ _ _ h => h) rfl (by kernel_rfl) (by kernel_rfl) (by kernel_rfl) (Or.inl ⟨by rfl, ?_⟩) hHeld (fun hHeld => ?_)
        rotate_left
        · intro w hSw
          (try dsimp only at hSw)
          go_simp
          try with_reducible rfl
        try simp only [Act.put, List.setIfInBounds_toArray, List.set_cons_zero, List.set_cons_succ]
        refine wpAnyL_take 0 _ _ (i := 1) (oi := { dst := some 79, op := Op.nilCheck (Operand.tmp 78), type := 0, pos := "terms.go:203", after := #[{ on := 0, ground := Ground.data }], guard := none }) (v := ?_) rfl (by kernel_rfl) (by kernel_rfl) (by kernel_rfl) (fun _ _ _ h => h) rfl (by kernel_rfl) (by kernel_rfl) (by kernel_rfl) (Or.inl ⟨by rfl, ?_⟩) hHeld (fun hHeld => ?_)
        rotate_left
        · intro w hSw
          (try dsimp only at hSw)
          go_simp
          try with_reducible rfl
        try simp only [Act.put, List.setIfInBounds_toArray, List.set_cons_zero, List.set_cons_succ]
        refine wpAnyL_take 0 _ _ (i := 2) (oi := { dst := some 80, op := Op.fieldAddr 101 (Operand.tmp 79) 1, type := 0, pos := "terms.go:203", after := #[{ on := 1, ground := Ground.data }], guard := none }) (v := ?_) rfl (by kernel_rfl) (by kernel_rfl) (by kernel_rfl) (fun _ _ _ h => h) rfl (by kernel_rfl) (by kernel_rfl) (by kernel_rfl) (Or.inl ⟨by rfl, ?_⟩) hHeld (fun hHeld => ?_)
        rotate_left
        · intro w hSw
          (try dsimp only at hSw)
          go_simp
          try with_reducible rfl
        try simp only [Act.put, List.setIfInBounds_toArray, List.set_cons_zero, List.set_cons_succ]
        refine wpAnyL_take 1 _ _ (i := 3) (oi := { dst := some 81, op := Op.load 99 (Operand.tmp 80), type := 99, pos := "terms.go:203", after := #[{ on := 2, ground := Ground.data }], guard := none }) (v := ?_) rfl (by kernel_rfl) (by kernel_rfl) (by kernel_rfl) (fun _ _ _ h => h) rfl (by kernel_rfl) (by kernel_rfl) (by kernel_rfl) (Or.inl ⟨by rfl, ?_⟩) hHeld (fun hHeld => ?_)
        rotate_left
        · intro w hSw
          (try dsimp only at hSw)
          go_simp
          try with_reducible rfl
        try simp only [Act.put, List.setIfInBounds_toArray, List.set_cons_zero, List.set_cons_succ]
        refine wpAnyL_take 2 _ _ (i := 4) (oi := { dst := some 82, op := Op.load 129 (Operand.tmp 9), type := 129, pos := "terms.go:203", after := #[], guard := none }) (v := ?_) rfl (by kernel_rfl) (by kernel_rfl) (by kernel_rfl) (fun _ _ _ h => h) rfl (by kernel_rfl) (by kernel_rfl) (by kernel_rfl) (Or.inl ⟨by rfl, ?_⟩) hHeld (fun hHeld => ?_)
        rotate_left
        · intro w hSw
          (try dsimp only at hSw)
          obtain ⟨g0, g1, g2, g3, g4⟩ := hSw
          go_simp
          try with_reducible rfl
        try simp only [Act.put, List.setIfInBounds_toArray, List.set_cons_zero, List.set_cons_succ]
        refine wpAnyL_take 0 _ _ (i := 5) (oi := { dst := some 83, op := Op.move (Operand.tmp 12), type := 73, pos := "terms.go:203", after := #[], guard := none }) (v := ?_) rfl (by kernel_rfl) (by kernel_rfl) (by kernel_rfl) (fun _ _ _ h => h) rfl (by kernel_rfl) (by kernel_rfl) (by kernel_rfl) (Or.inl ⟨by rfl, ?_⟩) hHeld (fun hHeld => ?_)
        rotate_left
        · intro w hSw
          (try dsimp only at hSw)
          go_simp
          try with_reducible rfl
        try simp only [Act.put, List.setIfInBounds_toArray, List.set_cons_zero, List.set_cons_succ]
        obtain ⟨w12, hr12, hq12, hg12⟩ := HQ9.out.put K129 Try.underlying99 (by have hml : maxLen = 9223372036854775807 := rfl; have := HG.out.b1; simp only; omega) HKK.out (nV T.nodes.length)
        unfold nV keyV at hr12
        obtain ⟨hT12, hS12⟩ := HT10.out.inM1 x9 hg12 hq12
        have HT12 := Lib.hid hT12
        have HS12 := Lib.hid (HS10.out.trans hS12)
        have em : m9 ≠ c ∧ m9 ≠ kb := by
          obtain ⟨vs, m1, m2, ob, q⟩ := HT10.out.ob
          have e5 := ob.1 1 (by omega)
          rw [x9, q.h4] at e5
          cases e5
          refine ⟨fun e => ?_, fun e => ?_⟩
          · have := q.k4; rw [e, HT10.out.ka] at this; omega
          · have := q.k4; rw [e] at this; omega
        have y9 := grown_cell hg12 x9 (fun e => em.1 (Option.some.inj e))
        have ya := grown_cell hg12 t0 (fun e => em.2 (Option.some.inj e))
        have yb := grown_cell hg12 t1 (fun e => em.2 (Option.some.inj e))
        have yc := grown_cell hg12 t2 (fun e => em.2 (Option.some.inj e))
        have yd := grown_cell hg12 t3 (fun e => em.2 (Option.some.inj e))
        have ye := grown_cell hg12 t4 (fun e => em.2 (Option.some.inj e))
        clear hq12 hg12 hT12 hS12
        refine wpAnyL_ready (rs := [6]) (by kernel_rfl) (by simp) ?_
        refine AllReadyL.cons (o := { dst := none, op := Op.mapUpdate 99 (Operand.tmp 81) (Operand.tmp 82) (Operand.tmp 83), type := 0, pos := "terms.go:203", after := #[{ on := 3, ground := Ground.data }, { on := 4, ground := Ground.data }, { on := 5, ground := Ground.data }, { on := 0, ground := Ground.phase }, { on := 1, ground := Ground.phase }, { on := 2, ground := Ground.phase }, { on := 3, ground := Ground.phase }, { on := 4, ground := Ground.phase }, { on := 5, ground := Ground.phase }], guard := none }) rfl (fun K hK => ?_) AllReadyL.nil
        rw [if_pos (by rfl)]
        refine wp_upd_run rfl (by rfl) (by rfl) (by rfl) hr12 ?_
        refine hK.out _ _ (SL.cons (fun _ => trivial) (SL.cons (fun _ => y9) (SL.cons (fun _ => ⟨ya, yb, yc, yd, ye⟩) SL.nil))) (fun hHeld => ?_)
        clear hK K
        try simp only [Act.put, List.setIfInBounds_toArray, List.set_cons_zero, List.set_cons_succ]
        refine wpAnyL_done (by kernel_rfl) ?_ _
        clear hHeld hr12 y9 ya yb yc yd ye t0 t1 t2 t3 t4 x9
        obtain ⟨m13, x13, q13⟩ := HT12.out.map2
        obtain ⟨w14, hr14, hq14, hg14⟩ := q13.put K9 Try.underlying57 (by have hml : maxLen = 9223372036854775807 := rfl; have := HG.out.b2; simp only; omega) HKT.out (nV i)
        unfold nV at hr14
        obtain ⟨hT14, hS14⟩ := HT12.out.inM2 x13 hg14 hq14
        have HT14 := Lib.hid hT14
        have HS14 := Lib.hid (HS12.out.trans hS14)
        clear q13 hq14 hg14 hT14 hS14
        go_wp2_with fail
        go_ret2
        exact ⟨_, addN T ⟨q, f, n, s, P5, L, C5, V⟩ i, _, _, rfl, HT14.out, HG.out.add (x := ⟨q, f, n, s, P5, L, C5, V⟩) ⟨HOK.out.q, HOK.out.f, HOK.out.n, HOK.out.s, HOK.out.L, HOK.out.V, HOK.out.pl, HOK.out.nb⟩ HNUM.out HF1.out (by omega), HS14.out, .inr (.inr ⟨rfl, rfl, by omega, HFR.out, P5, C5, i, rfl⟩)⟩
end Go.Proofs.Ytkjmmdffelhkiaa
