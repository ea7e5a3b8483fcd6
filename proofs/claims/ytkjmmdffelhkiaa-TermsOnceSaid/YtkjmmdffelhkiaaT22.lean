/- Stage 6: the document's put. -/
import Derived.Test.YtkjmmdffelhkiaaT21
import Derived.Maps.AppendAt
namespace Go.Proofs.Ytkjmmdffelhkiaa
open Go Go.RowKit Go.Maps

variable {W W' : World} {K : Nat → Nat} {base r : Nat} {N : List Nd} {e : Ending} {w' : World}
theorem ints_cells {W : World} {p : Option Addr} {n : Nat} {V : Nat → Int} (h : IntsIn W p n V) : ∀ ad, p = some ad → ∀ j u, (rowV n V)[j]? = some u → W.cell? (ad.add j) = some u := fun ad e j u hu => by
  have hj : j < n := by
    have := (List.getElem?_eq_some_iff.1 hu).1
    simpa [rowV_len] using this
  obtain ⟨b, off, e2, ha⟩ := h (by omega)
  rw [e] at e2
  cases e2
  rw [rowV_get n V j hj] at hu
  cases hu
  rw [Lib.add_plain]
  exact ha j hj
def StoreArgs (W : World) (K : Nat → Nat) (x : Nd) : Prop := IntsIn W x.P x.L x.V ∧ (∀ ad, x.P = some ad → K ad.block = 13) ∧ (x.P = none → x.L = 0 ∧ x.C = 0)
theorem RefS.args (h : RefS W K base r N) {v : Value} {n : Nat} {V : Nat → Int} {e : TypeId} (hb : Below W.heap.size W W') (ho : W'.ownsRow W.heap.size e 1 v n (rowV n V)) : ∃ K' P C, v = .slice P n C ∧ RefS W' K' base r N ∧ StepR W W' K K' ∧ IntsIn W' P n V ∧ (∀ ad, P = some ad → K' ad.block = 13) ∧ (P = none → n = 0 ∧ C = 0) := by
  obtain ⟨p, z, rfl, hp⟩ := own_shp ho
  have hbs : base ≤ W.heap.size := Nat.le_trans h.base_lt (Nat.le_of_lt h.lt)
  have hx : Ext K (upK K (Value.slice p n z).ownBlock 13) W.heap.size := fun k hk => upK_ne (fun e => by have := (own_lt ho e).1; omega)
  refine ⟨_, p, z, rfl, h.only (Only.of_below (T := fun _ => False) hb) hx (fun k hk => ?_) (fun k hk => ?_) (fun _ _ h => h), ⟨Only.of_below hb, hx⟩, ?_, fun ad e => ?_, own_none ho⟩
  · rw [upK_ne (fun e => by have := (own_lt ho e).2; omega)]
    exact h.fr k (Nat.le_trans hb.size hk)
  · rw [upK_ne (fun e => by have := (own_lt ho e).1; omega)]
    exact h.lo k hk
  · obtain ⟨p', c', e, hI, _⟩ := own_intsIn ho
    cases e
    exact hI
  · obtain ⟨e1, _⟩ := hp ad e
    unfold upK
    rw [if_pos (by rw [e, e1]; rfl)]
theorem RefS.push (h : RefS W K base r N) {W1 : World} {v' : Value} {p : Option Addr} {n z : Nat} (h0 : W.cell? ⟨r, 0, none⟩ = some (.slice p n z)) (x : Nd) (ha : IntsIn W x.P x.L x.V) (ht : ∀ ad, x.P = some ad → K ad.block = 13) (hz : x.P = none → x.L = 0 ∧ x.C = 0) (own : W1.ownsRow 0 89 5 v' (N.length + 1) (flatN N ++ ndV x)) (hg : W.grownBy W1 (Value.slice p n z).ownBlock) (hloc : v'.ownBlock = (Value.slice p n z).ownBlock ∨ v'.ownBlock = some W.heap.size) :
    ∃ K', RefS (W1.setCell ⟨r, 0, none⟩ v') K' base r (N ++ [x]) ∧ StepR W (W1.setCell ⟨r, 0, none⟩ v') K K' ∧ W1.cell? ⟨r, 0, none⟩ = some (.slice p n z) ∧ W1.frozen? ⟨r, 0, none⟩ = false ∧ ∀ a v, W.cell? a = some v → K a.block ≠ 12 → W1.cell? a = some v := by
  obtain ⟨v0, e0, r0⟩ := h.e0
  rw [h0] at e0
  cases e0
  obtain ⟨r1, ho, hx, hf, hlo⟩ := r0.grow own hg hloc h.fr h.lo (Nat.le_trans h.base_lt (Nat.le_of_lt h.lt)) (by omega)
  have kr' : upK K v'.ownBlock 12 r = 11 := (hx r h.lt).trans h.kr
  have hcr : ¬ K r = 12 := by rw [h.kr]; omega
  have ho2 : Only (fun k => k = r) W1 (W1.setCell ⟨r, 0, none⟩ v') := Only.of_setCell W1 ⟨r, 0, none⟩ v'
  have hs : StepR W (W1.setCell ⟨r, 0, none⟩ v') K (upK K v'.ownBlock 12) := ⟨ho.comp ho2 (fun k _ e => by omega) (fun k _ e => by have e2 : k = r := e; show 11 ≤ K k; rw [e2, h.kr]; omega), hx⟩
  have args : ∀ y : Nd, IntsIn W y.P y.L y.V → (∀ ad, y.P = some ad → K ad.block = 13) → IntsIn (W1.setCell ⟨r, 0, none⟩ v') y.P y.L y.V ∧ ∀ ad, y.P = some ad → upK K v'.ownBlock 12 ad.block = 13 := fun y h1 h2 => by
    have e13 : ∀ ad, y.P = some ad → upK K v'.ownBlock 12 ad.block = 13 := fun ad e => by
      have h9 := h2 ad e
      rw [hx ad.block]
      · exact h9
      · rcases Nat.lt_or_ge ad.block W.heap.size with h1 | h1
        · exact h1
        · rw [h.fr _ h1] at h9; exact absurd h9 (by omega)
    refine ⟨fun hn => ?_, e13⟩
    obtain ⟨b, off, e, ha⟩ := h1 hn
    have hb := h2 _ e
    simp only at hb
    exact ⟨b, off, e, fun i hi => ho2.cell (ho.cell (ha i hi) (fun e => by have : K b = 12 := e; omega)) (fun e => by have e2 : b = r := e; rw [e2, h.kr] at hb; omega)⟩
  refine ⟨_, ⟨fun k hk => hf k (by simpa using hk), hlo, kr', ⟨_, World.cell?_setCell_same _ _ _ (ho.cell h0 hcr), (by rw [List.length_append, flatN_snoc]; exact r1.only ho2 (Ext.refl _ _) (fun k e1 e2 => by have e3 : k = r := e2; rw [e3, kr'] at e1; omega))⟩, fun i y hi => ?_, fun j => by rw [World.frozen?_setCell, ho.frozen h.lt hcr]; exact h.fz j, fun i y hi => by
    rcases nodes_snoc hi with hi | ⟨_, rfl⟩
    · exact h.z i y hi
    · exact hz⟩, hs, ho.cell h0 hcr, by rw [ho.frozen h.lt hcr]; exact h.fz 0, fun a v hc hn => ho.cell hc hn⟩
  rcases nodes_snoc hi with hi | ⟨_, rfl⟩
  · obtain ⟨a1, a2⟩ := h.ar i y hi
    exact args y a1 a2
  · exact args y ha ht
def RunR (N : List Nd) (q : Req) (base r : Nat) (K : Nat → Nat) (W : World) (e : Ending) (w' : World) : Prop :=
  ∃ K' N' t er, e = .returned (.tuple #[.int .i64 t, .int .i64 er]) ∧ RefS w' K' base r N' ∧ StepR W w' K K' ∧ Ans N q t er N'
set_option maxRecDepth 100000 in
set_option maxHeartbeats 16000000 in
theorem put_run (h : RefS W K base r N) (g : GoodN N) (hN : N.length ≤ 20000) (x : Nd) (hx : IntsIn W x.P x.L x.V) (hL : x.L ≤ 1000000) (hz : x.P = none → x.L = 0 ∧ x.C = 0) :
    Calls Try.prog 96 #[.pointer (some ⟨r, 0, none⟩), ndA x] W (RunR N (.mk x) base r K W) := by
  obtain ⟨q, f, n, s, P, L, C, V⟩ := x
  simp only at hx hL hz
  obtain ⟨i89, hi89, hz890, hz891, hz892⟩ := info89
  obtain ⟨i73, hi73, hz730, hz731, hz732⟩ := info_of (e := 73) (z := .int .i64 0) (s := 1) (b := 8) (by kernel_rfl)
  have hb1 := below1 W (.cells #[.int .u8 q, .int .i64 f, .int .i64 n, .int .i64 s, .slice P L C] 89)
  have k0 : (W.alloc (.cells #[.int .u8 q, .int .i64 f, .int .i64 n, .int .i64 s, .slice P L C] 89)).cell? ⟨W.heap.size, 0, none⟩ = some (.int .u8 q) := by simp [go_sem]
  have k1 : (W.alloc (.cells #[.int .u8 q, .int .i64 f, .int .i64 n, .int .i64 s, .slice P L C] 89)).cell? ⟨W.heap.size, 1, none⟩ = some (.int .i64 f) := by simp [go_sem]
  have k2 : (W.alloc (.cells #[.int .u8 q, .int .i64 f, .int .i64 n, .int .i64 s, .slice P L C] 89)).cell? ⟨W.heap.size, 2, none⟩ = some (.int .i64 n) := by simp [go_sem]
  have k3 : (W.alloc (.cells #[.int .u8 q, .int .i64 f, .int .i64 n, .int .i64 s, .slice P L C] 89)).cell? ⟨W.heap.size, 3, none⟩ = some (.int .i64 s) := by simp [go_sem]
  have k4 : (W.alloc (.cells #[.int .u8 q, .int .i64 f, .int .i64 n, .int .i64 s, .slice P L C] 89)).cell? ⟨W.heap.size, 4, none⟩ = some (.slice P L C) := by simp [go_sem]
  have bf4 : (W.alloc (.cells #[.int .u8 q, .int .i64 f, .int .i64 n, .int .i64 s, .slice P L C] 89)).frozen? ⟨W.heap.size, 4, none⟩ = false := by simp [go_sem]
  have HB1 := Lib.hid (StepR.below (K := K) hb1)
  have H1 := Lib.hid (h.later hb1)
  have HX1 := Lib.hid (hx.later hb1)
  have hkb : K W.heap.size = 0 := h.fr _ (Nat.le_refl _)
  have HG := Lib.hid g
  have HZ := Lib.hid hz
  clear h g hx hb1 hz
  unfold ndA
  go_enter Try.func96, Try.ntmps96
  go_upto_region 1 with (fail)
  generalize W.alloc (.cells #[.int .u8 q, .int .i64 f, .int .i64 n, .int .i64 s, .slice P L C] 89) = w1 at *
  generalize hbb : W.heap.size = bb at *
  have HBE := Lib.hid hbb
  clear hbb
  go_wp2_with fail
  go_loopw [6] (fun i wr => ∃ k : Nat, k ≤ N.length ∧ i = .int .i64 k ∧ Below w1.heap.size w1 wr ∧ ∀ (t : Nat) (y : Nd), t < k → N[t]? = some y → ¬ SameN y ⟨q, f, n, s, P, L, C, V⟩) (fun i _ => N.length - (intOf i).toNat)
  case atStart => exact ⟨0, Nat.zero_le _, rfl, Below.refl _ _, fun t y ht => absurd ht (Nat.not_lt_zero _)⟩
  case round =>
    obtain ⟨k, hk, rfl, hbr, hall⟩ := hrel
    have HA := Lib.hid hall
    have HBR := Lib.hid hbr
    have HR := Lib.hid (H1.out.later hbr)
    have HXR := Lib.hid (HX1.out.later hbr)
    have HSR := Lib.hid (HB1.out.trans (StepR.below hbr))
    have ltb : bb < w1.heap.size := World.block_lt_of_cell? _ _ k0
    replace bf4 : wr.frozen? ⟨bb, 4, none⟩ = false := by rw [hbr.frozen ltb]; exact bf4
    replace k0 := cell_later hbr k0
    replace k1 := cell_later hbr k1
    replace k2 := cell_later hbr k2
    replace k3 := cell_later hbr k3
    replace k4 := cell_later hbr k4
    clear hall hbr ltb
    by_cases hlt : k < N.length
    · obtain ⟨y, hy⟩ : ∃ y, N[k]? = some y := ⟨_, List.getElem?_eq_getElem hlt⟩
      have HY := Lib.hid hy
      have hyok := HG.out k y hy
      have HYL := Lib.hid hyok.L
      have HAR := Lib.hid (HR.out.ar k y hy).1
      obtain ⟨gg, z1, y0, _, y1, y2, y3, y4, y5⟩ := HR.out.cells hy
      have hk0 : (0 : Int) ≤ (k : Int) := by omega
      have hk1 : (k : Int) < (N.length : Int) := by omega
      clear hy hyok
      go_wp2_with fail
      have hD : Below wr.heap.size wr wr.drew := (Below.refl _ _).drew
      replace k0 := cell_later hD k0
      replace k1 := cell_later hD k1
      replace k2 := cell_later hD k2
      replace k3 := cell_later hD k3
      replace k4 := cell_later hD k4
      replace y0 := cell_later hD y0
      replace y1 := cell_later hD y1
      replace y2 := cell_later hD y2
      replace y3 := cell_later hD y3
      replace y4 := cell_later hD y4
      replace y5 := cell_later hD y5
      have HBD := Lib.hid (HBR.out.trans (hD.mono HBR.out.size))
      have HRD := Lib.hid (HR.out.later hD)
      have HSD := Lib.hid (HSR.out.trans (StepR.below hD))
      have HSM := same_any y ⟨q, f, n, s, P, L, C, V⟩ wr.drew (HAR.out.later hD) (HXR.out.later hD) (by have := HYL.out; omega) hL
      unfold ndA at HSM
      simp only at HSM
      clear hD HBR HR HSR HXR
      refine wp_region_L [(1000, (fun _ => True : World → Prop)), (1000, (fun w => w.cell? ⟨r, 0, none⟩ = some (.slice (some ⟨gg, 0, none⟩) N.length z1) : World → Prop)), (1000, (fun w => w.cell? ⟨gg, k * 5, none⟩ = some (.int .u8 y.q) ∧ w.cell? ⟨gg, k * 5 + 1, none⟩ = some (.int .i64 y.f) ∧ w.cell? ⟨gg, k * 5 + 2, none⟩ = some (.int .i64 y.n) ∧ w.cell? ⟨gg, k * 5 + 3, none⟩ = some (.int .i64 y.s) ∧ w.cell? ⟨gg, k * 5 + 4, none⟩ = some (.slice y.P y.L y.C) : World → Prop)), (1000, (fun w => w.cell? ⟨bb, 0, none⟩ = some (.int .u8 q) ∧ w.cell? ⟨bb, 1, none⟩ = some (.int .i64 f) ∧ w.cell? ⟨bb, 2, none⟩ = some (.int .i64 n) ∧ w.cell? ⟨bb, 3, none⟩ = some (.int .i64 s) ∧ w.cell? ⟨bb, 4, none⟩ = some (.slice P L C) : World → Prop))] (by kernel_rfl) (SL.cons (fun _ => trivial) (SL.cons (fun _ => y0) (SL.cons (fun _ => ⟨y1, y2, y3, y4, y5⟩) (SL.cons (fun _ => ⟨k0, k1, k2, k3, k4⟩) SL.nil)))) (fun hHeld => ?_)
      generalize wr.drew = w4 at *
      refine wpAnyL_take 0 _ _ (i := 0) (oi := { dst := some 16, op := Op.move (Operand.tmp 0), type := 71, pos := "ref.go:50", after := #[], guard := none }) (v := ?_) rfl (by kernel_rfl) (by kernel_rfl) (by kernel_rfl) (fun _ _ _ h => h) rfl (by kernel_rfl) (by kernel_rfl) (by kernel_rfl) (Or.inl ⟨by rfl, ?_⟩) hHeld (fun hHeld => ?_)
      rotate_left
      · intro w hSw
        (try dsimp only at hSw)
        go_simp
        try with_reducible rfl
      try simp only [Act.put, List.setIfInBounds_toArray, List.set_cons_zero, List.set_cons_succ]
      refine wpAnyL_take 0 _ _ (i := 1) (oi := { dst := some 17, op := Op.nilCheck (Operand.tmp 16), type := 0, pos := "ref.go:50", after := #[{ on := 0, ground := Ground.data }], guard := none }) (v := ?_) rfl (by kernel_rfl) (by kernel_rfl) (by kernel_rfl) (fun _ _ _ h => h) rfl (by kernel_rfl) (by kernel_rfl) (by kernel_rfl) (Or.inl ⟨by rfl, ?_⟩) hHeld (fun hHeld => ?_)
      rotate_left
      · intro w hSw
        (try dsimp only at hSw)
        go_simp
        try with_reducible rfl
      try simp only [Act.put, List.setIfInBounds_toArray, List.set_cons_zero, List.set_cons_succ]
      refine wpAnyL_take 0 _ _ (i := 2) (oi := { dst := some 18, op := Op.fieldAddr 85 (Operand.tmp 17) 0, type := 0, pos := "ref.go:50", after := #[{ on := 1, ground := Ground.data }], guard := none }) (v := ?_) rfl (by kernel_rfl) (by kernel_rfl) (by kernel_rfl) (fun _ _ _ h => h) rfl (by kernel_rfl) (by kernel_rfl) (by kernel_rfl) (Or.inl ⟨by rfl, ?_⟩) hHeld (fun hHeld => ?_)
      rotate_left
      · intro w hSw
        (try dsimp only at hSw)
        go_simp
        try with_reducible rfl
      try simp only [Act.put, List.setIfInBounds_toArray, List.set_cons_zero, List.set_cons_succ]
      refine wpAnyL_take 1 _ _ (i := 3) (oi := { dst := some 19, op := Op.load 83 (Operand.tmp 18), type := 83, pos := "ref.go:50", after := #[{ on := 2, ground := Ground.data }], guard := none }) (v := ?_) rfl (by kernel_rfl) (by kernel_rfl) (by kernel_rfl) (fun _ _ _ h => h) rfl (by kernel_rfl) (by kernel_rfl) (by kernel_rfl) (Or.inl ⟨by rfl, ?_⟩) hHeld (fun hHeld => ?_)
      rotate_left
      · intro w hSw
        (try dsimp only at hSw)
        go_simp
        try with_reducible rfl
      try simp only [Act.put, List.setIfInBounds_toArray, List.set_cons_zero, List.set_cons_succ]
      refine wpAnyL_take 0 _ _ (i := 4) (oi := { dst := some 20, op := Op.move (Operand.tmp 6), type := 3, pos := "ref.go:50", after := #[], guard := none }) (v := ?_) rfl (by kernel_rfl) (by kernel_rfl) (by kernel_rfl) (fun _ _ _ h => h) rfl (by kernel_rfl) (by kernel_rfl) (by kernel_rfl) (Or.inl ⟨by rfl, ?_⟩) hHeld (fun hHeld => ?_)
      rotate_left
      · intro w hSw
        (try dsimp only at hSw)
        go_simp
        try with_reducible rfl
      try simp only [Act.put, List.setIfInBounds_toArray, List.set_cons_zero, List.set_cons_succ]
      refine wpAnyL_take 0 _ _ (i := 5) (oi := { dst := some 21, op := Op.indexAddr 83 (Operand.tmp 19) (Operand.tmp 20), type := 0, pos := "ref.go:50", after := #[{ on := 3, ground := Ground.data }, { on := 4, ground := Ground.data }], guard := none }) (v := ?_) rfl (by kernel_rfl) (by kernel_rfl) (by kernel_rfl) (fun _ _ _ h => h) rfl (by kernel_rfl) (by kernel_rfl) (by kernel_rfl) (Or.inl ⟨by rfl, ?_⟩) hHeld (fun hHeld => ?_)
      rotate_left
      · intro w hSw
        (try dsimp only at hSw)
        go_simp
        try with_reducible rfl
      try simp only [Act.put, List.setIfInBounds_toArray, List.set_cons_zero, List.set_cons_succ]
      refine wpAnyL_take 2 _ _ (i := 6) (oi := { dst := some 22, op := Op.load 89 (Operand.tmp 21), type := 89, pos := "ref.go:50", after := #[{ on := 5, ground := Ground.data }], guard := none }) (v := ?_) rfl (by kernel_rfl) (by kernel_rfl) (by kernel_rfl) (fun _ _ _ h => h) rfl (by kernel_rfl) (by kernel_rfl) (by kernel_rfl) (Or.inl ⟨by rfl, ?_⟩) hHeld (fun hHeld => ?_)
      rotate_left
      · intro w hSw
        (try dsimp only at hSw)
        obtain ⟨g0, g1, g2, g3, g4⟩ := hSw
        go_simp
        try with_reducible rfl
      try simp only [Act.put, List.setIfInBounds_toArray, List.set_cons_zero, List.set_cons_succ]
      refine wpAnyL_take 3 _ _ (i := 7) (oi := { dst := some 23, op := Op.load 89 (Operand.tmp 3), type := 89, pos := "ref.go:50", after := #[], guard := none }) (v := ?_) rfl (by kernel_rfl) (by kernel_rfl) (by kernel_rfl) (fun _ _ _ h => h) rfl (by kernel_rfl) (by kernel_rfl) (by kernel_rfl) (Or.inl ⟨by rfl, ?_⟩) hHeld (fun hHeld => ?_)
      rotate_left
      · intro w hSw
        (try dsimp only at hSw)
        obtain ⟨g0, g1, g2, g3, g4⟩ := hSw
        go_simp
        try with_reducible rfl
      try simp only [Act.put, List.setIfInBounds_toArray, List.set_cons_zero, List.set_cons_succ]
      refine wpAnyL_ready (rs := [8]) (by kernel_rfl) (by simp) ?_
      refine AllReadyL.cons (o := { dst := some 24, op := Op.call { callee := Callee.value (Operand.func 41), args := #[Operand.tmp 22, Operand.tmp 23], argTypes := #[89, 89] }, type := 4, pos := "ref.go:50", after := #[{ on := 6, ground := Ground.data }, { on := 7, ground := Ground.data }], guard := none }) rfl (fun KK hK => ?_) AllReadyL.nil
      go_simp
      go_at_call 41
      refine HSM.mono ?_
      rintro e w5 ⟨b, rfl, hb5, hbb⟩
      have HB5 := Lib.hid (HBD.out.trans (hb5.mono HBD.out.size))
      have HR5 := Lib.hid (HRD.out.later hb5)
      have HS5 := Lib.hid (HSD.out.trans (StepR.below hb5))
      have HBB := Lib.hid hbb
      replace k0 := cell_later hb5 k0
      replace k1 := cell_later hb5 k1
      replace k2 := cell_later hb5 k2
      replace k3 := cell_later hb5 k3
      replace k4 := cell_later hb5 k4
      replace y0 := cell_later hb5 y0
      replace y1 := cell_later hb5 y1
      replace y2 := cell_later hb5 y2
      replace y3 := cell_later hb5 y3
      replace y4 := cell_later hb5 y4
      replace y5 := cell_later hb5 y5
      clear hb5 hbb HSM HBD HRD HSD
      refine hK.out _ _ (SL.cons (fun _ => trivial) (SL.cons (fun _ => y0) (SL.cons (fun _ => ⟨y1, y2, y3, y4, y5⟩) (SL.cons (fun _ => ⟨k0, k1, k2, k3, k4⟩) SL.nil)))) (fun hHeld => ?_)
      clear hK KK
      try simp only [Act.put, List.setIfInBounds_toArray, List.set_cons_zero, List.set_cons_succ]
      refine wpAnyL_done (by kernel_rfl) ?_ _
      clear hHeld
      cases b
      · go_wp2_with fail
        go_roundw
        case rel => exact ⟨k + 1, by omega, by go_num, HB5.out, fun t z ht hz => by
          by_cases e : t = k
          · subst e
            have := HY.out
            rw [hz] at this
            cases this
            exact fun h => absurd (HBB.out.2 h) (by decide)
          · exact HA.out t z (by omega) hz⟩
        case measure => simp [intOf]; omega
      · go_wp2_with fail
        go_ret2
        exact ⟨K, N, _, _, rfl, HR5.out, HS5.out, .inl ⟨rfl, rfl, k, y, rfl, HY.out, HBB.out.1 (by simp)⟩⟩
    · obtain hkN : k = N.length := by omega
      have HF := Lib.hid (show FreshL N ⟨q, f, n, s, P, L, C, V⟩ from fun t y hy => HA.out t y (by rw [hkN]; exact (List.getElem?_eq_some_iff.1 hy).1) hy)
      obtain ⟨p0, z0, y0, o0_⟩ := HR.out.row0
      clear o0_ HA
      by_cases hfull : 20000 ≤ N.length
      · go_wp2_with fail
        go_ret2
        exact ⟨K, N, _, _, rfl, HR.out, HSR.out, .inr (.inl ⟨rfl, rfl, rfl, hfull, HF.out⟩)⟩
      have ltr : bb < wr.heap.size := World.block_lt_of_cell? _ _ k0
      have hx0 := below1 wr (.cells #[] 73)
      have HXA := Lib.hid (HXR.out.later hx0)
      have HBA := Lib.hid hx0
      have kk0 := cell_later hx0 k0
      have kk1 := cell_later hx0 k1
      have kk2 := cell_later hx0 k2
      have kk3 := cell_later hx0 k3
      have kk4 := cell_later hx0 k4
      have bg4 : (wr.alloc (.cells #[] 73)).frozen? ⟨bb, 4, none⟩ = false := by rw [hx0.frozen ltr]; exact bf4
      clear hx0
      go_wp2_with (at_builtin; refine wpList_append_any rfl _ _ 74 rfl wr.heap.size 73 i73 (.int .i64 0) 1 8 Try.underlying74 hi73 hz730 hz731 hz732 rfl (by omega) _ _ _ rfl (World.ownsRow_made wr #[] 0 (Nat.le_refl _) (Nat.zero_le _) (by simp)) P L C (rowV L V) rfl HZ.out ?qc2 (ints_cells HXA.out) ?qc3 ?qc4 ?qc5 ?qc6 ?_)
      case qc2 => rw [rowV_len]; omega
      case qc3 => intro u hu; obtain ⟨x, _, rfl⟩ := List.mem_map.1 hu; rfl
      case qc4 => have hml : maxLen = 9223372036854775807 := rfl; omega
      case qc5 => omega
      case qc6 => simp
      intro v3 w3 hown3 hb3
      have hb3' : Below wr.heap.size wr w3 := HBA.out.trans hb3
      obtain ⟨K3, P3, C3, rfl, hR3, hS3, hI3, ht3, hz3⟩ := HR.out.args hb3' (by simpa using hown3)
      have hkb3 : K3 bb = 0 := by rw [hS3.ext bb ltr]; exact hkb
      replace k0 := cell_later hb3' k0
      replace k1 := cell_later hb3' k1
      replace k2 := cell_later hb3' k2
      replace k3 := cell_later hb3' k3
      replace k4 := cell_later hb3' k4
      replace bf4 : w3.frozen? ⟨bb, 4, none⟩ = false := by rw [hb3'.frozen ltr]; exact bf4
      have z0 : (w3.setCell ⟨bb, 4, none⟩ (.slice P3 L C3)).cell? ⟨bb, 0, none⟩ = some (.int .u8 q) := by rw [World.cell?_setCell_other _ _ _ _ (by intro e; cases e)]; exact k0
      have z1 : (w3.setCell ⟨bb, 4, none⟩ (.slice P3 L C3)).cell? ⟨bb, 1, none⟩ = some (.int .i64 f) := by rw [World.cell?_setCell_other _ _ _ _ (by intro e; cases e)]; exact k1
      have z2 : (w3.setCell ⟨bb, 4, none⟩ (.slice P3 L C3)).cell? ⟨bb, 2, none⟩ = some (.int .i64 n) := by rw [World.cell?_setCell_other _ _ _ _ (by intro e; cases e)]; exact k2
      have z3 : (w3.setCell ⟨bb, 4, none⟩ (.slice P3 L C3)).cell? ⟨bb, 3, none⟩ = some (.int .i64 s) := by rw [World.cell?_setCell_other _ _ _ _ (by intro e; cases e)]; exact k3
      have z4 : (w3.setCell ⟨bb, 4, none⟩ (.slice P3 L C3)).cell? ⟨bb, 4, none⟩ = some (.slice P3 L C3) := World.cell?_setCell_same _ _ _ k4
      have ho6 : Only (fun k => k = bb) w3 (w3.setCell ⟨bb, 4, none⟩ (.slice P3 L C3)) := Only.of_setCell w3 ⟨bb, 4, none⟩ _
      have hR6 : RefS (w3.setCell ⟨bb, 4, none⟩ (.slice P3 L C3)) K3 base r N := hR3.only ho6 (Ext.refl _ _) (fun k hk => hR3.fr k (by simpa using hk)) hR3.lo (fun k hk e => by rw [show k = bb from e, hkb3] at hk; omega)
      have hI6 : IntsIn (w3.setCell ⟨bb, 4, none⟩ (.slice P3 L C3)) P3 L V := fun hn => by
        obtain ⟨b9, o9, e9, a9⟩ := hI3 hn
        refine ⟨b9, o9, e9, fun i hi => ho6.cell (a9 i hi) (fun e => ?_)⟩
        have := ht3 _ e9
        rw [show b9 = bb from e] at this
        simp only at this
        omega
      have HR6 := Lib.hid hR6
      have HI6 := Lib.hid hI6
      have HT3 := Lib.hid ht3
      have HZ3 := Lib.hid hz3
      have HS6 := Lib.hid (show StepR W (w3.setCell ⟨bb, 4, none⟩ (.slice P3 L C3)) K K3 from by
        have h1 := HSR.out.trans hS3
        exact ⟨h1.only.comp ho6 (fun _ _ h => h) (fun k hk e => by have := HBE.out; have e2 : k = bb := e; omega), h1.ext⟩)
      clear hR3 hS3 hI3 ht3 hz3 hR6 hI6 ho6 hown3 hb3 hb3' HR HSR HXR HXA HBA kk0 kk1 kk2 kk3 kk4 bg4
      go_upto_region 9 with (fail)
      generalize (w3.setCell ⟨bb, 4, none⟩ (.slice P3 L C3)) = w6 at *
      clear k0 k1 k2 k3 k4 bf4 y0
      obtain ⟨p1, q1, a1, o1⟩ := HR6.out.row0
      clear o1
      go_wp2_with fail
      have hD : Below w6.heap.size w6 w6.drew := (Below.refl _ _).drew
      replace a1 := cell_later hD a1
      replace z0 := cell_later hD z0
      replace z1 := cell_later hD z1
      replace z2 := cell_later hD z2
      replace z3 := cell_later hD z3
      replace z4 := cell_later hD z4
      have HR7 := Lib.hid (HR6.out.later hD)
      have HI7 := Lib.hid (HI6.out.later hD)
      have HS7 := Lib.hid (HS6.out.trans (StepR.below hD))
      clear hD HR6 HI6 HS6
      refine wp_region_L [(1000, (fun _ => True : World → Prop)), (10, (fun w => w.cell? ⟨r, 0, none⟩ = some (.slice p1 N.length q1) : World → Prop)), (1000, (fun w => w.cell? ⟨bb, 0, none⟩ = some (.int .u8 q) ∧ w.cell? ⟨bb, 1, none⟩ = some (.int .i64 f) ∧ w.cell? ⟨bb, 2, none⟩ = some (.int .i64 n) ∧ w.cell? ⟨bb, 3, none⟩ = some (.int .i64 s) ∧ w.cell? ⟨bb, 4, none⟩ = some (.slice P3 L C3) : World → Prop))] (by kernel_rfl) (SL.cons (fun _ => trivial) (SL.cons (fun _ => a1) (SL.cons (fun _ => ⟨z0, z1, z2, z3, z4⟩) SL.nil))) (fun hHeld => ?_)
      generalize w6.drew = w7 at *
      refine wpAnyL_take 0 _ _ (i := 0) (oi := { dst := some 37, op := Op.move (Operand.tmp 0), type := 71, pos := "ref.go:58", after := #[], guard := none }) (v := ?_) rfl (by kernel_rfl) (by kernel_rfl) (by kernel_rfl) (fun _ _ _ h => h) rfl (by kernel_rfl) (by kernel_rfl) (by kernel_rfl) (Or.inl ⟨by rfl, ?_⟩) hHeld (fun hHeld => ?_)
      rotate_left
      · intro w hSw
        (try dsimp only at hSw)
        go_simp
        try with_reducible rfl
      try simp only [Act.put, List.setIfInBounds_toArray, List.set_cons_zero, List.set_cons_succ]
      refine wpAnyL_take 0 _ _ (i := 1) (oi := { dst := some 38, op := Op.move (Operand.tmp 0), type := 71, pos := "ref.go:58", after := #[], guard := none }) (v := ?_) rfl (by kernel_rfl) (by kernel_rfl) (by kernel_rfl) (fun _ _ _ h => h) rfl (by kernel_rfl) (by kernel_rfl) (by kernel_rfl) (Or.inl ⟨by rfl, ?_⟩) hHeld (fun hHeld => ?_)
      rotate_left
      · intro w hSw
        (try dsimp only at hSw)
        go_simp
        try with_reducible rfl
      try simp only [Act.put, List.setIfInBounds_toArray, List.set_cons_zero, List.set_cons_succ]
      refine wpAnyL_take 0 _ _ (i := 2) (oi := { dst := some 39, op := Op.nilCheck (Operand.tmp 38), type := 0, pos := "ref.go:58", after := #[{ on := 1, ground := Ground.data }], guard := none }) (v := ?_) rfl (by kernel_rfl) (by kernel_rfl) (by kernel_rfl) (fun _ _ _ h => h) rfl (by kernel_rfl) (by kernel_rfl) (by kernel_rfl) (Or.inl ⟨by rfl, ?_⟩) hHeld (fun hHeld => ?_)
      rotate_left
      · intro w hSw
        (try dsimp only at hSw)
        go_simp
        try with_reducible rfl
      try simp only [Act.put, List.setIfInBounds_toArray, List.set_cons_zero, List.set_cons_succ]
      refine wpAnyL_take 0 _ _ (i := 3) (oi := { dst := some 40, op := Op.fieldAddr 85 (Operand.tmp 39) 0, type := 0, pos := "ref.go:58", after := #[{ on := 2, ground := Ground.data }], guard := none }) (v := ?_) rfl (by kernel_rfl) (by kernel_rfl) (by kernel_rfl) (fun _ _ _ h => h) rfl (by kernel_rfl) (by kernel_rfl) (by kernel_rfl) (Or.inl ⟨by rfl, ?_⟩) hHeld (fun hHeld => ?_)
      rotate_left
      · intro w hSw
        (try dsimp only at hSw)
        go_simp
        try with_reducible rfl
      try simp only [Act.put, List.setIfInBounds_toArray, List.set_cons_zero, List.set_cons_succ]
      refine wpAnyL_take 1 _ _ (i := 4) (oi := { dst := some 41, op := Op.load 83 (Operand.tmp 40), type := 83, pos := "ref.go:58", after := #[{ on := 3, ground := Ground.data }], guard := none }) (v := ?_) rfl (by kernel_rfl) (by kernel_rfl) (by kernel_rfl) (fun _ _ _ h => h) rfl (by kernel_rfl) (by kernel_rfl) (by kernel_rfl) (Or.inl ⟨by rfl, ?_⟩) hHeld (fun hHeld => ?_)
      rotate_left
      · intro w hSw
        (try dsimp only at hSw)
        go_simp
        try with_reducible rfl
      try simp only [Act.put, List.setIfInBounds_toArray, List.set_cons_zero, List.set_cons_succ]
      refine wpAnyL_take 2 _ _ (i := 5) (oi := { dst := some 42, op := Op.load 89 (Operand.tmp 3), type := 89, pos := "ref.go:58", after := #[], guard := none }) (v := ?_) rfl (by kernel_rfl) (by kernel_rfl) (by kernel_rfl) (fun _ _ _ h => h) rfl (by kernel_rfl) (by kernel_rfl) (by kernel_rfl) (Or.inl ⟨by rfl, ?_⟩) hHeld (fun hHeld => ?_)
      rotate_left
      · intro w hSw
        (try dsimp only at hSw)
        obtain ⟨g0, g1, g2, g3, g4⟩ := hSw
        go_simp
        try with_reducible rfl
      try simp only [Act.put, List.setIfInBounds_toArray, List.set_cons_zero, List.set_cons_succ]
      refine wpAnyL_ready (rs := [6]) (by kernel_rfl) (by simp) ?_
      refine AllReadyL.cons (o := { dst := some 43, op := Op.buildSlice 83 1 #[(0, Operand.tmp 42)], type := 83, pos := "ref.go:58", after := #[{ on := 5, ground := Ground.data }], guard := none }) rfl (fun K hK => ?_) AllReadyL.nil
      go_simp
      refine hK.out _ _ (SL.cons (fun _ => trivial) (SL.cons (fun _ => cell_later (below1 w7 _) a1) (SL.cons (fun _ => ⟨cell_later (below1 w7 _) z0, cell_later (below1 w7 _) z1, cell_later (below1 w7 _) z2, cell_later (below1 w7 _) z3, cell_later (below1 w7 _) z4⟩) SL.nil))) (fun hHeld => ?_)
      clear hK K
      try simp only [Act.put, List.setIfInBounds_toArray, List.set_cons_zero, List.set_cons_succ]
      have hb8 := below1 w7 (.cells #[.int .u8 q, .int .i64 f, .int .i64 n, .int .i64 s, .slice P3 L C3] 89)
      have HR8 := Lib.hid (HR7.out.later hb8)
      have HI8 := Lib.hid (HI7.out.later hb8)
      have HS8 := Lib.hid (HS7.out.trans (StepR.below hb8))
      replace a1 := cell_later hb8 a1
      replace z0 := cell_later hb8 z0
      replace z1 := cell_later hb8 z1
      replace z2 := cell_later hb8 z2
      replace z3 := cell_later hb8 z3
      replace z4 := cell_later hb8 z4
      obtain ⟨p8, z8, x8, o8⟩ := HR8.out.row0
      rw [a1] at x8
      cases x8
      have HO8 := Lib.hid o8
      have n0 : (w7.alloc (.cells #[.int .u8 q, .int .i64 f, .int .i64 n, .int .i64 s, .slice P3 L C3] 89)).cell? ⟨w7.heap.size, 0, none⟩ = some (.int .u8 q) := by simp [go_sem]
      have n1 : (w7.alloc (.cells #[.int .u8 q, .int .i64 f, .int .i64 n, .int .i64 s, .slice P3 L C3] 89)).cell? ⟨w7.heap.size, 1, none⟩ = some (.int .i64 f) := by simp [go_sem]
      have n2 : (w7.alloc (.cells #[.int .u8 q, .int .i64 f, .int .i64 n, .int .i64 s, .slice P3 L C3] 89)).cell? ⟨w7.heap.size, 2, none⟩ = some (.int .i64 n) := by simp [go_sem]
      have n3 : (w7.alloc (.cells #[.int .u8 q, .int .i64 f, .int .i64 n, .int .i64 s, .slice P3 L C3] 89)).cell? ⟨w7.heap.size, 3, none⟩ = some (.int .i64 s) := by simp [go_sem]
      have n4 : (w7.alloc (.cells #[.int .u8 q, .int .i64 f, .int .i64 n, .int .i64 s, .slice P3 L C3] 89)).cell? ⟨w7.heap.size, 4, none⟩ = some (.slice P3 L C3) := by simp [go_sem]
      clear o8 hb8 hHeld HR7 HI7 HS7
      refine wpAnyL_ready (rs := [7]) (by kernel_rfl) (by simp) ?_
      refine AllReadyL.cons (o := { dst := some 44, op := Op.call { callee := Callee.builtin Builtin.append, args := #[Operand.tmp 41, Operand.tmp 43], argTypes := #[83, 83] }, type := 83, pos := "ref.go:58", after := #[{ on := 4, ground := Ground.data }, { on := 6, ground := Ground.data }], guard := none }) rfl (fun KK hK => ?_) AllReadyL.nil
      rw [if_pos (by rfl)]
      refine wp_append_own_at _ _ 83 (by rfl) 0 89 i89 (.agg #[.int .u8 0, .int .i64 0, .int .i64 0, .int .i64 0, .slice none 0 0]) 5 56 Try.underlying83 hi89 hz890 hz891 hz892 rfl (by omega) _ N.length (flatN N) (by rfl) HO8.out.own ⟨w7.heap.size, 0, none⟩ 1 1 (ndV ⟨q, f, n, s, P3, L, C3, V⟩) (by rfl) (by rfl) ?_ ?_ ?_ ?_ ?_ ?_
      · intro jj u hjj
        rw [Lib.add_plain]
        match jj, hjj with
        | 0, hjj => cases hjj; exact n0
        | 1, hjj => cases hjj; exact n1
        | 2, hjj => cases hjj; exact n2
        | 3, hjj => cases hjj; exact n3
        | 4, hjj => cases hjj; exact n4
      · intro u hu; simp [ndV] at hu; rcases hu with rfl | rfl | rfl | rfl | rfl <;> rfl
      · have hml : maxLen = 9223372036854775807 := rfl; omega
      · omega
      · exact Nat.zero_le _
      intro v9 w9 hown hgrow hnil_ hloc
      obtain ⟨p9, c9, hv⟩ := own_shape hown
      subst hv
      clear hnil_
      obtain ⟨K9, hR9, hS9, x9, f9, hk9⟩ := HR8.out.push a1 ⟨q, f, n, s, P3, L, C3, V⟩ HI8.out HT3.out HZ3.out hown hgrow (by simpa using hloc)
      have HR9 := Lib.hid hR9
      have HS9 := Lib.hid (HS8.out.trans hS9)
      have hrb : r ≠ bb := fun e => by have := HR8.out.kr; rw [e] at this; omega
      replace z0 := hk9 _ _ z0 (by simp only; omega)
      replace z1 := hk9 _ _ z1 (by simp only; omega)
      replace z2 := hk9 _ _ z2 (by simp only; omega)
      replace z3 := hk9 _ _ z3 (by simp only; omega)
      replace z4 := hk9 _ _ z4 (by simp only; omega)
      clear hown hgrow hloc hR9 hS9 hk9 n0 n1 n2 n3 n4 a1 HR8 HI8 HS8
      refine hK.out _ _ (SL.cons (fun _ => trivial) (SL.cons (fun _ => x9) (SL.cons (fun _ => ⟨z0, z1, z2, z3, z4⟩) SL.nil))) (fun hHeld => ?_)
      clear hK KK
      try simp only [Act.put, List.setIfInBounds_toArray, List.set_cons_zero, List.set_cons_succ]
      refine wpAnyL_take 0 _ _ (i := 8) (oi := { dst := some 45, op := Op.nilCheck (Operand.tmp 37), type := 0, pos := "ref.go:58", after := #[{ on := 0, ground := Ground.data }, { on := 0, ground := Ground.phase }, { on := 1, ground := Ground.phase }, { on := 2, ground := Ground.phase }, { on := 3, ground := Ground.phase }, { on := 4, ground := Ground.phase }, { on := 5, ground := Ground.phase }, { on := 6, ground := Ground.phase }, { on := 7, ground := Ground.phase }], guard := none }) (v := ?_) rfl (by kernel_rfl) (by kernel_rfl) (by kernel_rfl) (fun _ _ _ h => h) rfl (by kernel_rfl) (by kernel_rfl) (by kernel_rfl) (Or.inl ⟨by rfl, ?_⟩) hHeld (fun hHeld => ?_)
      rotate_left
      · intro w hSw
        (try dsimp only at hSw)
        go_simp
        try with_reducible rfl
      try simp only [Act.put, List.setIfInBounds_toArray, List.set_cons_zero, List.set_cons_succ]
      refine wpAnyL_take 0 _ _ (i := 9) (oi := { dst := some 46, op := Op.fieldAddr 85 (Operand.tmp 45) 0, type := 0, pos := "ref.go:58", after := #[{ on := 8, ground := Ground.data }, { on := 0, ground := Ground.phase }, { on := 1, ground := Ground.phase }, { on := 2, ground := Ground.phase }, { on := 3, ground := Ground.phase }, { on := 4, ground := Ground.phase }, { on := 5, ground := Ground.phase }, { on := 6, ground := Ground.phase }, { on := 7, ground := Ground.phase }], guard := none }) (v := ?_) rfl (by kernel_rfl) (by kernel_rfl) (by kernel_rfl) (fun _ _ _ h => h) rfl (by kernel_rfl) (by kernel_rfl) (by kernel_rfl) (Or.inl ⟨by rfl, ?_⟩) hHeld (fun hHeld => ?_)
      rotate_left
      · intro w hSw
        (try dsimp only at hSw)
        go_simp
        try with_reducible rfl
      try simp only [Act.put, List.setIfInBounds_toArray, List.set_cons_zero, List.set_cons_succ]
      have u0 : (w9.setCell ⟨r, 0, none⟩ (.slice p9 (N.length + 1) c9)).cell? ⟨bb, 0, none⟩ = some (.int .u8 q) := by rw [World.cell?_setCell_other _ _ _ _ (by intro e; cases e <;> exact hrb rfl)]; exact z0
      have u1 : (w9.setCell ⟨r, 0, none⟩ (.slice p9 (N.length + 1) c9)).cell? ⟨bb, 1, none⟩ = some (.int .i64 f) := by rw [World.cell?_setCell_other _ _ _ _ (by intro e; cases e <;> exact hrb rfl)]; exact z1
      have u2 : (w9.setCell ⟨r, 0, none⟩ (.slice p9 (N.length + 1) c9)).cell? ⟨bb, 2, none⟩ = some (.int .i64 n) := by rw [World.cell?_setCell_other _ _ _ _ (by intro e; cases e <;> exact hrb rfl)]; exact z2
      have u3 : (w9.setCell ⟨r, 0, none⟩ (.slice p9 (N.length + 1) c9)).cell? ⟨bb, 3, none⟩ = some (.int .i64 s) := by rw [World.cell?_setCell_other _ _ _ _ (by intro e; cases e <;> exact hrb rfl)]; exact z3
      have u4 : (w9.setCell ⟨r, 0, none⟩ (.slice p9 (N.length + 1) c9)).cell? ⟨bb, 4, none⟩ = some (.slice P3 L C3) := by rw [World.cell?_setCell_other _ _ _ _ (by intro e; cases e <;> exact hrb rfl)]; exact z4
      have x10 : (w9.setCell ⟨r, 0, none⟩ (.slice p9 (N.length + 1) c9)).cell? ⟨r, 0, none⟩ = some (.slice p9 (N.length + 1) c9) := World.cell?_setCell_same _ _ _ x9
      refine wpAnyL_ready (rs := [10]) (by kernel_rfl) (by simp) ?_
      refine AllReadyL.cons (o := { dst := none, op := Op.store 83 (Operand.tmp 46) (Operand.tmp 44), type := 0, pos := "ref.go:58", after := #[{ on := 9, ground := Ground.data }, { on := 7, ground := Ground.data }, { on := 7, ground := Ground.chain }, { on := 0, ground := Ground.phase }, { on := 1, ground := Ground.phase }, { on := 2, ground := Ground.phase }, { on := 3, ground := Ground.phase }, { on := 4, ground := Ground.phase }, { on := 5, ground := Ground.phase }, { on := 6, ground := Ground.phase }, { on := 7, ground := Ground.phase }], guard := none }) rfl (fun KK hK => ?_) AllReadyL.nil
      go_simp
      refine hK.out _ _ (SL.cons (fun _ => trivial) (SL.cons (fun h => absurd h (by decide +kernel)) (SL.cons (fun _ => ⟨u0, u1, u2, u3, u4⟩) SL.nil))) (fun hHeld => ?_)
      clear hK KK
      try simp only [Act.put, List.setIfInBounds_toArray, List.set_cons_zero, List.set_cons_succ]
      refine wpAnyL_done (by kernel_rfl) ?_ _
      generalize (w9.setCell ⟨r, 0, none⟩ (.slice p9 (N.length + 1) c9)) = w10 at *
      clear x9 f9 hHeld z0 z1 z2 z3 z4 u0 u1 u2 u3 u4
      have eL : IntKind.i64.wrap ((((N.length + 1 : Nat) : Int)) - 1) = (N.length : Int) := by rw [IntKind.wrap_i64]; omega
      have eL2 : wrap64 ((((N.length + 1 : Nat) : Int)) - 1) = (N.length : Int) := by rw [wrap64_eq]; omega
      go_wp2_with fail
      go_ret2
      refine ⟨K9, _, _, _, rfl, HR9.out, HS9.out, .inr (.inr ⟨rfl, ?_, by omega, HF.out, P3, C3, rfl⟩)⟩
      first | rfl | omega
end Go.Proofs.Ytkjmmdffelhkiaa
