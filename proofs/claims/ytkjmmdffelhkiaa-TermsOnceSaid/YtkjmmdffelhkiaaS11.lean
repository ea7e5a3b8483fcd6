/- DeclareFun. -/
import Derived.Test.YtkjmmdffelhkiaaS10
namespace Go.Proofs.Ytkjmmdffelhkiaa
open Go Go.RowKit Go.Maps

variable {W : World} {K : Nat → Nat} {base c : Nat} {T : Tab}
theorem info35 : ∃ i0, Try.prog.info? 35 = some i0 ∧ i0.zero = some (.agg #[.string ⟨#[]⟩, .slice none 0 0, .int .i64 0, .bool false]) ∧ i0.size = 4 ∧ i0.bytes = 56 := info_of (by kernel_rfl)
noncomputable
def addF (T : Tab) (x : Info) : Tab := { T with infos := T.infos ++ [x], funs := T.funs ++ [T.infos.length], f2 := updF T.f2 (keyS x.N) (some (nV T.infos.length)), n2 := if (T.f2 (keyS x.N)).isSome then T.n2 else T.n2 + 1 }
theorem Good.addF (g : Good T) {x : Info} (hf : T.f2 (keyS x.N) = none) (hn : T.infos.length < 2000) (hz : x.N.size ≤ 100000) : Good (addF T x) := by
  have hlt : ∀ j ∈ T.funs, j < T.infos.length := fun j hj => by
    obtain ⟨s, hs, _⟩ := g.g3 j hj
    exact (List.getElem?_eq_some_iff.1 hs).1
  refine ⟨g.g1, g.g2, fun j hj => ?_, ?_, g.g5, fun p hp => ?_, g.b1, ?_, g.b3, g.b4, ?_, g.b6, ?_, g.b8, fun s hs => ?_⟩
  · rcases List.mem_append.1 hj with hj | hj
    · obtain ⟨s, hs, hv⟩ := g.g3 j hj
      refine ⟨s, ?_, ?_⟩
      · show (T.infos ++ [x])[j]? = _
        rw [List.getElem?_append_left (hlt j hj)]; exact hs
      · show updF _ _ _ _ = _
        unfold updF
        rw [if_neg (fun e => by rw [e, hf] at hv; cases hv)]
        exact hv
    · obtain rfl := List.mem_singleton.1 hj
      refine ⟨x, ?_, ?_⟩
      · show (T.infos ++ [x])[T.infos.length]? = _
        simp
      · show updF _ _ _ _ = _
        unfold updF
        rw [if_pos rfl]
  · show (T.funs ++ [T.infos.length]).Pairwise _
    rw [List.pairwise_append]
    exact ⟨g.g4, by simp, fun a ha b hb => by obtain rfl := List.mem_singleton.1 hb; exact hlt a ha⟩
  · have := g.g6 p hp
    show _ ∧ _ ≤ (T.funs ++ [_]).length
    rw [List.length_append]
    exact ⟨this.1, by omega⟩
  · show (T.infos ++ [x]).length ≤ _
    rw [List.length_append]; simp; omega
  · show (T.funs ++ [_]).length ≤ (T.infos ++ [x]).length
    have := g.b5
    rw [List.length_append, List.length_append]; simp; omega
  · show (if (T.f2 (keyS x.N)).isSome then T.n2 else T.n2 + 1) ≤ (T.infos ++ [x]).length
    have := g.b7
    rw [hf, List.length_append]; simp; omega
  · rcases List.mem_append.1 hs with hs | hs
    · exact g.b9 s hs
    · obtain rfl := List.mem_singleton.1 hs; exact hz
theorem TabAt.laterK {W' : World} {K' : Nat → Nat} (h : TabAt W K base c T) (hb : Below W.heap.size W W') (hx : Ext K K' W.heap.size) (hf : ∀ k, W'.heap.size ≤ k → K' k = 0) (hlo : ∀ k, k < base → K' k = 0) : TabAt W' K' base c T := by
  obtain ⟨vs, m1, m2, ob, p⟩ := h.ob
  have ho : Only (fun _ => False) W W' := Only.of_below hb
  exact ⟨hf, hlo, (hx c h.lt).trans h.ka, vs, m1, m2, ob.only ho (fun h => h), p.only h.fr ho hx (fun _ _ _ h => h)⟩
theorem TabAt.pushI {W1 : World} {v' : Value} {p : Option Addr} {n z : Nat} (h : TabAt W K base c T) (h0 : W.cell? ⟨c, 1, none⟩ = some (.slice p n z)) (x : Info) (ha : ArgsAt W K x) (own : W1.ownsRow 0 35 4 v' (T.infos.length + 1) (flatI T.infos ++ infoV x)) (hg : W.grownBy W1 (Value.slice p n z).ownBlock) (hloc : v'.ownBlock = (Value.slice p n z).ownBlock ∨ v'.ownBlock = some W.heap.size) :
    ∃ K', TabAt (W1.setCell ⟨c, 1, none⟩ v') K' base c { T with infos := T.infos ++ [x] } ∧ StepT W (W1.setCell ⟨c, 1, none⟩ v') K K' ∧ W1.cell? ⟨c, 1, none⟩ = some (.slice p n z) ∧ W1.frozen? ⟨c, 1, none⟩ = false := by
  obtain ⟨vs, m1, m2, ob, p0⟩ := h.ob
  have e0 := ob.1 1 (by omega)
  rw [h0] at e0
  injection e0 with e0
  have r0 := p0.r1
  rw [← e0] at r0
  obtain ⟨r, ho, hx, hf, hlo⟩ := r0.grow own hg hloc h.fr h.lo (Nat.le_trans h.base_lt (Nat.le_of_lt h.lt)) (by omega)
  have hc : ¬ K c = 3 := by rw [h.ka]; omega
  obtain ⟨a, b⟩ := h.put 1 3 (T' := { T with infos := T.infos ++ [x] }) (by omega) (by omega) v' ho hx hf hlo (fun vs1 m3 m4 q =>
    ⟨q.r0.only ho hx (fun k e => by omega), by simpa [upd, flatI_snoc] using r, q.r2.only ho hx (fun k e => by omega), q.r3.only ho hx (fun k e => by omega), q.h4, q.h5, (hx _ q.q4.lt).trans q.k4, (hx _ q.q5.lt).trans q.k5, q.q4.only ho (by rw [q.k4]; omega), q.q5.only ho (by rw [q.k5]; omega), q.r6.only ho hx (fun k e => by omega), fun i y hi => by
      have hi : (T.infos ++ [x])[i]? = some y := hi
      rw [List.getElem?_append] at hi
      by_cases hlt : i < T.infos.length
      · rw [if_pos hlt] at hi
        exact (q.ar i y hi).only h.fr ho hx (fun k e => by omega)
      · rw [if_neg hlt] at hi
        have : i - T.infos.length = 0 := by
          have := (List.getElem?_eq_some_iff.1 hi).1
          simp at this; omega
        rw [this] at hi
        simp at hi
        subst hi
        exact ha.only h.fr ho hx (fun k e => by omega)⟩)
  exact ⟨_, a, b, ho.cell h0 hc, by rw [ho.frozen h.lt hc]; exact ob.2 1⟩
theorem TabAt.pushF {W1 : World} {v' : Value} {p : Option Addr} {n z : Nat} (h : TabAt W K base c T) (h0 : W.cell? ⟨c, 3, none⟩ = some (.slice p n z)) (N : Nat) (own : W1.ownsRow 0 3 1 v' (T.funs.length + 1) (T.funs.map nV ++ [nV N])) (hg : W.grownBy W1 (Value.slice p n z).ownBlock) (hloc : v'.ownBlock = (Value.slice p n z).ownBlock ∨ v'.ownBlock = some W.heap.size) :
    ∃ K', TabAt (W1.setCell ⟨c, 3, none⟩ v') K' base c { T with funs := T.funs ++ [N] } ∧ StepT W (W1.setCell ⟨c, 3, none⟩ v') K K' ∧ W1.cell? ⟨c, 3, none⟩ = some (.slice p n z) ∧ W1.frozen? ⟨c, 3, none⟩ = false := by
  obtain ⟨vs, m1, m2, ob, p0⟩ := h.ob
  have e0 := ob.1 3 (by omega)
  rw [h0] at e0
  injection e0 with e0
  have r0 := p0.r3
  rw [← e0] at r0
  obtain ⟨r, ho, hx, hf, hlo⟩ := r0.grow own hg hloc h.fr h.lo (Nat.le_trans h.base_lt (Nat.le_of_lt h.lt)) (by omega)
  have hc : ¬ K c = 5 := by rw [h.ka]; omega
  obtain ⟨a, b⟩ := h.put 3 5 (T' := { T with funs := T.funs ++ [N] }) (by omega) (by omega) v' ho hx hf hlo (fun vs1 m3 m4 q =>
    ⟨q.r0.only ho hx (fun k e => by omega), q.r1.only ho hx (fun k e => by omega), q.r2.only ho hx (fun k e => by omega), by simpa [upd] using r, q.h4, q.h5, (hx _ q.q4.lt).trans q.k4, (hx _ q.q5.lt).trans q.k5, q.q4.only ho (by rw [q.k4]; omega), q.q5.only ho (by rw [q.k5]; omega), q.r6.only ho hx (fun k e => by omega), fun i x hi => (q.ar i x hi).only h.fr ho hx (fun k e => by omega)⟩)
  exact ⟨_, a, b, ho.cell h0 hc, by rw [ho.frozen h.lt hc]; exact ob.2 3⟩
def DeclF (T : Tab) (x : Info) (base c : Nat) (K : Nat → Nat) (W : World) (e : Ending) (w' : World) : Prop :=
  ∃ K' T' s er, e = .returned (.tuple #[.int .i64 s, .int .i64 er]) ∧ TabAt w' K' base c T' ∧ Good T' ∧ StepT W w' K K' ∧ ((er ≠ 0 ∧ T' = T) ∨ (er = 0 ∧ s = (T.infos.length : Int) ∧ x.L ≤ 20 ∧ ∃ P C, T' = addF T { x with P := P, C := C }))
/-- the row of arguments that the table keeps. -/
theorem TabAt.args (h : TabAt W K base c T) {W' : World} {v : Value} {n : Nat} {V : Nat → Int} (hb : Below W.heap.size W W') (ho : W'.ownsRow W.heap.size 33 1 v n (rowV n V)) : ∃ K' P C, v = .slice P n C ∧ TabAt W' K' base c T ∧ StepT W W' K K' ∧ IntsIn W' P n V ∧ ∀ ad, P = some ad → K' ad.block = 9 := by
  obtain ⟨p, z, rfl, hp⟩ := own_shp ho
  have hbs : base ≤ W.heap.size := Nat.le_trans h.base_lt (Nat.le_of_lt h.lt)
  have hx : Ext K (upK K (Value.slice p n z).ownBlock 9) W.heap.size := fun k hk => upK_ne (fun e => by have := (own_lt ho e).1; omega)
  refine ⟨_, p, z, rfl, h.laterK hb hx (fun k hk => ?_) (fun k hk => ?_), ⟨Only.of_below hb, hx⟩, ?_, fun ad e => ?_⟩
  · rw [upK_ne (fun e => by have := (own_lt ho e).2; omega)]
    exact h.fr k (Nat.le_trans hb.size hk)
  · rw [upK_ne (fun e => by have := (own_lt ho e).1; omega)]
    exact h.lo k hk
  · obtain ⟨p', c', e, hI, _⟩ := own_intsIn ho
    cases e
    exact hI
  · obtain ⟨e1, _⟩ := hp ad e
    unfold upK
    rw [if_pos (by rw [e, e1]; rfl)]
set_option maxRecDepth 100000 in
set_option maxHeartbeats 4000000 in
theorem declareFun_any (h : TabAt W K base c T) (g : Good T) (x : Info) (hx : IntsIn W x.P x.L x.V) (hs : x.N.size ≤ 100000) (hL : x.L ≤ 100000) :
    Calls Try.prog 26 #[.pointer (some ⟨c, 0, none⟩), infoA x] W (DeclF T x base c K W) := by
  obtain ⟨N, P, L, C, V, R, D⟩ := x
  have hb1 := below1 W (.cells #[.string N, .slice P L C, .int .i64 R, .bool D] 35)
  have HM := mayDeclare_any (h.later hb1) g ⟨N, P, L, C, V, R, D⟩ (hx.later hb1) hs hL
  simp only at hs hL
  have hn := g.b2
  have hn5 := g.b5
  have hn7 := g.b7
  obtain ⟨i35, hi35, hz350, hz351, hz352⟩ := info35
  obtain ⟨i3, hi3, hz30, hz31, hz32⟩ := info3
  have H := Lib.hid h
  have HG := Lib.hid g
  have HB1 := Lib.hid hb1
  have HX := Lib.hid hx
  have HK := Lib.hid (key9 N (by unfold maxLen; omega))
  clear h g hb1 hx
  unfold infoA at HM ⊢
  go_enter Try.func26, Try.ntmps26
  go_wp2_with fail
  refine HM.mono ?_
  rintro e w2 ⟨er, rfl, hb2, hok⟩
  have HB2 := Lib.hid (chain HB1.out hb2)
  have bx0 := cell_later hb2 (show (W.alloc (.cells #[.string N, .slice P L C, .int .i64 R, .bool D] 35)).cell? ⟨W.heap.size, 0, none⟩ = some (.string N) by simp [go_sem])
  have bx1 := cell_later hb2 (show (W.alloc (.cells #[.string N, .slice P L C, .int .i64 R, .bool D] 35)).cell? ⟨W.heap.size, 1, none⟩ = some (.slice P L C) by simp [go_sem])
  have bx2 := cell_later hb2 (show (W.alloc (.cells #[.string N, .slice P L C, .int .i64 R, .bool D] 35)).cell? ⟨W.heap.size, 2, none⟩ = some (.int .i64 R) by simp [go_sem])
  have bx3 := cell_later hb2 (show (W.alloc (.cells #[.string N, .slice P L C, .int .i64 R, .bool D] 35)).cell? ⟨W.heap.size, 3, none⟩ = some (.bool D) by simp [go_sem])
  have bf : ∀ i, w2.frozen? ⟨W.heap.size, i, none⟩ = false := fun i => by rw [hb2.frozen (by simp)]; simp [go_sem]
  have bf0 := bf 0
  have bf1 := bf 1
  clear bf hb2 HM
  by_cases her : er = 0
  rotate_left
  · have q1 : (er != 0) = true := by simpa using her
    go_wp2_with fail
    go_ret2
    exact ⟨K, T, _, _, rfl, H.out.later HB2.out, HG.out, StepT.below HB2.out, .inl ⟨her, rfl⟩⟩
  subst her
  have HOK := Lib.hid (hok rfl)
  clear hok
  have HC := clone60 N w2 (by omega)
  generalize hbb : W.heap.size = bb at *
  go_wp2_with fail
  refine HC.mono ?_
  rintro e w3 ⟨rfl, hb3⟩
  clear HC
  have lt2 : bb < w2.heap.size := World.block_lt_of_cell? _ _ bx0
  replace bx0 := cell_later hb3 bx0
  replace bx1 := cell_later hb3 bx1
  replace bx2 := cell_later hb3 bx2
  replace bx3 := cell_later hb3 bx3
  replace bf0 : w3.frozen? ⟨bb, 0, none⟩ = false := by rw [hb3.frozen lt2]; exact bf0
  replace bf1 : w3.frozen? ⟨bb, 1, none⟩ = false := by rw [hb3.frozen lt2]; exact bf1
  have hB4 : Below bb W (w3.setCell ⟨bb, 0, none⟩ (.string N)) := (HB2.out.trans (hb3.mono (Nat.le_of_lt lt2))).setCell (Nat.le_refl _) _
  have y0 : (w3.setCell ⟨bb, 0, none⟩ (.string N)).cell? ⟨bb, 0, none⟩ = some (.string N) := World.cell?_setCell_same _ _ _ bx0
  have y1 : (w3.setCell ⟨bb, 0, none⟩ (.string N)).cell? ⟨bb, 1, none⟩ = some (.slice P L C) := by rw [World.cell?_setCell_other _ _ _ _ (by intro e; cases e)]; try exact bx1
  have y2 : (w3.setCell ⟨bb, 0, none⟩ (.string N)).cell? ⟨bb, 2, none⟩ = some (.int .i64 R) := by rw [World.cell?_setCell_other _ _ _ _ (by intro e; cases e)]; try exact bx2
  have y3 : (w3.setCell ⟨bb, 0, none⟩ (.string N)).cell? ⟨bb, 3, none⟩ = some (.bool D) := by rw [World.cell?_setCell_other _ _ _ _ (by intro e; cases e)]; try exact bx3
  have yf : (w3.setCell ⟨bb, 0, none⟩ (.string N)).frozen? ⟨bb, 1, none⟩ = false := by rw [World.frozen?_setCell]; exact bf1
  have HB4 := Lib.hid hB4
  clear hB4 hb3 bf1
  go_upto_region 5 with (fail)
  generalize w3.setCell ⟨bb, 0, none⟩ (.string N) = w4 at *
  clear bx0 bx1 bx2 bx3 bf0
  have hb4 : Below W.heap.size W w4 := by rw [hbb]; exact HB4.out
  have HCL := clone_any P L C V w4 (HX.out.later hb4) (by omega)
  clear hb4
  go_wp2_with fail
  refine HCL.mono ?_
  rintro e w5 ⟨v5, rfl, ho5, hb5⟩
  clear HCL
  have lt4 : bb < w4.heap.size := World.block_lt_of_cell? _ _ y0
  have hT4 : TabAt w4 K base c T := H.out.later (by rw [hbb]; exact HB4.out)
  obtain ⟨K5, P5, C5, rfl, hT5, hS5, hI5, h95⟩ := hT4.args hb5 ho5
  have S4 : StepT W w4 K K := StepT.below (by rw [hbb]; exact HB4.out)
  have hbf : K5 bb = 0 := by rw [hS5.ext bb lt4]; exact H.out.fr bb (by omega)
  replace y0 := cell_later hb5 y0
  replace y1 := cell_later hb5 y1
  replace y2 := cell_later hb5 y2
  replace y3 := cell_later hb5 y3
  replace yf : w5.frozen? ⟨bb, 1, none⟩ = false := by rw [hb5.frozen lt4]; exact yf
  have z0 : (w5.setCell ⟨bb, 1, none⟩ (.slice P5 L C5)).cell? ⟨bb, 0, none⟩ = some (.string N) := by rw [World.cell?_setCell_other _ _ _ _ (by intro e; cases e)]; try exact y0
  have z1 : (w5.setCell ⟨bb, 1, none⟩ (.slice P5 L C5)).cell? ⟨bb, 1, none⟩ = some (.slice P5 L C5) := World.cell?_setCell_same _ _ _ y1
  have z2 : (w5.setCell ⟨bb, 1, none⟩ (.slice P5 L C5)).cell? ⟨bb, 2, none⟩ = some (.int .i64 R) := by rw [World.cell?_setCell_other _ _ _ _ (by intro e; cases e)]; try exact y2
  have z3 : (w5.setCell ⟨bb, 1, none⟩ (.slice P5 L C5)).cell? ⟨bb, 3, none⟩ = some (.bool D) := by rw [World.cell?_setCell_other _ _ _ _ (by intro e; cases e)]; try exact y3
  have ho6 : Only (fun k => k = bb) w5 (w5.setCell ⟨bb, 1, none⟩ (.slice P5 L C5)) := Only.of_setCell w5 ⟨bb, 1, none⟩ _
  have hT6 : TabAt (w5.setCell ⟨bb, 1, none⟩ (.slice P5 L C5)) K5 base c T := hT5.only ho6 (fun k hk _ e => hk (by rw [show k = bb from e]; exact hbf))
  have hA6 : ArgsAt (w5.setCell ⟨bb, 1, none⟩ (.slice P5 L C5)) K5 ⟨N, P5, L, C5, V, R, D⟩ := ⟨fun hn => by
    obtain ⟨b9, o9, e9, a9⟩ := hI5 hn
    refine ⟨b9, o9, e9, fun i hi => ho6.cell (a9 i hi) (fun e => ?_)⟩
    have := h95 _ e9
    rw [show b9 = bb from e] at this
    simp only at this
    omega, h95, HOK.out.2.1⟩
  have S6 : Below W.heap.size W (w5.setCell ⟨bb, 1, none⟩ (.slice P5 L C5)) := by rw [hbb]; exact (HB4.out.trans (hb5.mono (Nat.le_of_lt lt4))).setCell (Nat.le_refl _) _
  have HT6 := Lib.hid hT6
  have HA6 := Lib.hid hA6
  have HS6 := Lib.hid (show StepT W (w5.setCell ⟨bb, 1, none⟩ (.slice P5 L C5)) K K5 from ⟨Only.of_below S6, fun k hk => by rw [hS5.ext k (by omega), ]⟩)
  clear hT4 hT5 hS5 hI5 h95 hT6 hA6 S6 S4 ho6 ho5 hb5
  go_upto_region 6 with (fail)
  generalize w5.setCell ⟨bb, 1, none⟩ (.slice P5 L C5) = w6 at *
  clear y0 y1 y2 y3 yf
  obtain ⟨p1, q1, x1, o1_⟩ := HT6.out.row1
  clear o1_
  go_wp2_with fail
  have hD : Below w6.heap.size w6 w6.drew := (Below.refl _ _).drew
  replace x1 := cell_later hD x1
  replace z0 := cell_later hD z0
  replace z1 := cell_later hD z1
  replace z2 := cell_later hD z2
  replace z3 := cell_later hD z3
  have HT7 := Lib.hid (HT6.out.later hD)
  have HA7 := Lib.hid (show ArgsAt w6.drew K5 ⟨N, P5, L, C5, V, R, D⟩ from HA6.out.only HT6.out.fr (Only.of_below (T := fun _ => False) hD) (Ext.refl _ _) (fun _ _ h => h))
  have HS7 := Lib.hid (HS6.out.trans (StepT.below hD))
  clear hD HT6 HA6 HS6
  refine wp_region_L [(1000, (fun _ => True : World → Prop)), (10, (fun w => w.cell? ⟨c, 1, none⟩ = some (.slice p1 T.infos.length q1) : World → Prop)), (1000, (fun w => w.cell? ⟨bb, 0, none⟩ = some (.string N) ∧ w.cell? ⟨bb, 1, none⟩ = some (.slice P5 L C5) ∧ w.cell? ⟨bb, 2, none⟩ = some (.int .i64 R) ∧ w.cell? ⟨bb, 3, none⟩ = some (.bool D) : World → Prop))] (by kernel_rfl) (SL.cons (fun _ => trivial) (SL.cons (fun _ => x1) (SL.cons (fun _ => ⟨z0, z1, z2, z3⟩) SL.nil))) (fun hHeld => ?_)
  generalize w6.drew = w7 at *
  refine wpAnyL_take 0 _ _ (i := 0) (oi := { dst := some 27, op := Op.move (Operand.tmp 0), type := 25, pos := "sorts.go:70", after := #[], guard := none }) (v := ?_) rfl (by kernel_rfl) (by kernel_rfl) (by kernel_rfl) (fun _ _ _ h => h) rfl (by kernel_rfl) (by kernel_rfl) (by kernel_rfl) (Or.inl ⟨by rfl, ?_⟩) hHeld (fun hHeld => ?_)
  rotate_left
  · intro w hSw
    (try dsimp only at hSw)
    go_simp
    try with_reducible rfl
  try simp only [Act.put, List.setIfInBounds_toArray, List.set_cons_zero, List.set_cons_succ]
  refine wpAnyL_take 0 _ _ (i := 1) (oi := { dst := some 28, op := Op.move (Operand.tmp 0), type := 25, pos := "sorts.go:70", after := #[], guard := none }) (v := ?_) rfl (by kernel_rfl) (by kernel_rfl) (by kernel_rfl) (fun _ _ _ h => h) rfl (by kernel_rfl) (by kernel_rfl) (by kernel_rfl) (Or.inl ⟨by rfl, ?_⟩) hHeld (fun hHeld => ?_)
  rotate_left
  · intro w hSw
    (try dsimp only at hSw)
    go_simp
    try with_reducible rfl
  try simp only [Act.put, List.setIfInBounds_toArray, List.set_cons_zero, List.set_cons_succ]
  refine wpAnyL_take 0 _ _ (i := 2) (oi := { dst := some 29, op := Op.nilCheck (Operand.tmp 28), type := 0, pos := "sorts.go:70", after := #[{ on := 1, ground := Ground.data }], guard := none }) (v := ?_) rfl (by kernel_rfl) (by kernel_rfl) (by kernel_rfl) (fun _ _ _ h => h) rfl (by kernel_rfl) (by kernel_rfl) (by kernel_rfl) (Or.inl ⟨by rfl, ?_⟩) hHeld (fun hHeld => ?_)
  rotate_left
  · intro w hSw
    (try dsimp only at hSw)
    go_simp
    try with_reducible rfl
  try simp only [Act.put, List.setIfInBounds_toArray, List.set_cons_zero, List.set_cons_succ]
  refine wpAnyL_take 0 _ _ (i := 3) (oi := { dst := some 30, op := Op.fieldAddr 60 (Operand.tmp 29) 1, type := 0, pos := "sorts.go:70", after := #[{ on := 2, ground := Ground.data }], guard := none }) (v := ?_) rfl (by kernel_rfl) (by kernel_rfl) (by kernel_rfl) (fun _ _ _ h => h) rfl (by kernel_rfl) (by kernel_rfl) (by kernel_rfl) (Or.inl ⟨by rfl, ?_⟩) hHeld (fun hHeld => ?_)
  rotate_left
  · intro w hSw
    (try dsimp only at hSw)
    go_simp
    try with_reducible rfl
  try simp only [Act.put, List.setIfInBounds_toArray, List.set_cons_zero, List.set_cons_succ]
  refine wpAnyL_take 1 _ _ (i := 4) (oi := { dst := some 31, op := Op.load 55 (Operand.tmp 30), type := 55, pos := "sorts.go:70", after := #[{ on := 3, ground := Ground.data }], guard := none }) (v := ?_) rfl (by kernel_rfl) (by kernel_rfl) (by kernel_rfl) (fun _ _ _ h => h) rfl (by kernel_rfl) (by kernel_rfl) (by kernel_rfl) (Or.inl ⟨by rfl, ?_⟩) hHeld (fun hHeld => ?_)
  rotate_left
  · intro w hSw
    (try dsimp only at hSw)
    go_simp
    try with_reducible rfl
  try simp only [Act.put, List.setIfInBounds_toArray, List.set_cons_zero, List.set_cons_succ]
  refine wpAnyL_take 2 _ _ (i := 5) (oi := { dst := some 32, op := Op.load 35 (Operand.tmp 3), type := 35, pos := "sorts.go:70", after := #[], guard := none }) (v := ?_) rfl (by kernel_rfl) (by kernel_rfl) (by kernel_rfl) (fun _ _ _ h => h) rfl (by kernel_rfl) (by kernel_rfl) (by kernel_rfl) (Or.inl ⟨by rfl, ?_⟩) hHeld (fun hHeld => ?_)
  rotate_left
  · intro w hSw
    (try dsimp only at hSw)
    obtain ⟨g0, g1, g2, g3⟩ := hSw
    go_simp
    try with_reducible rfl
  try simp only [Act.put, List.setIfInBounds_toArray, List.set_cons_zero, List.set_cons_succ]
  refine wpAnyL_ready (rs := [6]) (by kernel_rfl) (by simp) ?_
  refine AllReadyL.cons (o := { dst := some 33, op := Op.buildSlice 55 1 #[(0, Operand.tmp 32)], type := 55, pos := "sorts.go:70", after := #[{ on := 5, ground := Ground.data }], guard := none }) rfl (fun K hK => ?_) AllReadyL.nil
  go_simp
  refine hK.out _ _ (SL.cons (fun _ => trivial) (SL.cons (fun _ => cell_later (below1 w7 _) x1) (SL.cons (fun _ => ⟨cell_later (below1 w7 _) z0, cell_later (below1 w7 _) z1, cell_later (below1 w7 _) z2, cell_later (below1 w7 _) z3⟩) SL.nil))) (fun hHeld => ?_)
  clear hK K
  try simp only [Act.put, List.setIfInBounds_toArray, List.set_cons_zero, List.set_cons_succ]
  have hb8 := below1 w7 (.cells #[.string N, .slice P5 L C5, .int .i64 R, .bool D] 35)
  have HT8 := Lib.hid (HT7.out.later hb8)
  have HA8 := Lib.hid (show ArgsAt (w7.alloc (.cells #[.string N, .slice P5 L C5, .int .i64 R, .bool D] 35)) K5 ⟨N, P5, L, C5, V, R, D⟩ from HA7.out.only HT7.out.fr (Only.of_below (T := fun _ => False) hb8) (Ext.refl _ _) (fun _ _ h => h))
  have HS8 := Lib.hid (HS7.out.trans (StepT.below hb8))
  replace x1 := cell_later hb8 x1
  replace z0 := cell_later hb8 z0
  replace z1 := cell_later hb8 z1
  replace z2 := cell_later hb8 z2
  replace z3 := cell_later hb8 z3
  obtain ⟨p8, z8, x8, o8⟩ := HT8.out.row1
  rw [x1] at x8
  cases x8
  have HO8 := Lib.hid o8
  have n0 : (w7.alloc (.cells #[.string N, .slice P5 L C5, .int .i64 R, .bool D] 35)).cell? ⟨w7.heap.size, 0, none⟩ = some (.string N) := by simp [go_sem]
  have n1 : (w7.alloc (.cells #[.string N, .slice P5 L C5, .int .i64 R, .bool D] 35)).cell? ⟨w7.heap.size, 1, none⟩ = some (.slice P5 L C5) := by simp [go_sem]
  have n2 : (w7.alloc (.cells #[.string N, .slice P5 L C5, .int .i64 R, .bool D] 35)).cell? ⟨w7.heap.size, 2, none⟩ = some (.int .i64 R) := by simp [go_sem]
  have n3 : (w7.alloc (.cells #[.string N, .slice P5 L C5, .int .i64 R, .bool D] 35)).cell? ⟨w7.heap.size, 3, none⟩ = some (.bool D) := by simp [go_sem]
  clear o8 hb8 hHeld HT7 HA7 HS7
  refine wpAnyL_ready (rs := [7]) (by kernel_rfl) (by simp) ?_
  refine AllReadyL.cons (o := { dst := some 34, op := Op.call { callee := Callee.builtin Builtin.append, args := #[Operand.tmp 31, Operand.tmp 33], argTypes := #[55, 55] }, type := 55, pos := "sorts.go:70", after := #[{ on := 4, ground := Ground.data }, { on := 6, ground := Ground.data }], guard := none }) rfl (fun K hK => ?_) AllReadyL.nil
  rw [if_pos (by rfl)]
  refine wp_append_own_at _ _ 55 (by rfl) 0 35 i35 (.agg #[.string ⟨#[]⟩, .slice none 0 0, .int .i64 0, .bool false]) 4 56 Try.underlying55 hi35 hz350 hz351 hz352 rfl (by omega) _ T.infos.length (flatI T.infos) (by rfl) HO8.out ⟨w7.heap.size, 0, none⟩ 1 1 (infoV ⟨N, P5, L, C5, V, R, D⟩) (by rfl) (by rfl) ?_ ?_ ?_ ?_ ?_ ?_
  · intro jj u hjj
    rw [Lib.add_plain]
    match jj, hjj with
    | 0, hjj => cases hjj; exact n0
    | 1, hjj => cases hjj; exact n1
    | 2, hjj => cases hjj; exact n2
    | 3, hjj => cases hjj; exact n3
  · intro u hu; simp [infoV] at hu; rcases hu with rfl | rfl | rfl | rfl <;> rfl
  · have hml : maxLen = 9223372036854775807 := rfl; omega
  · omega
  · exact Nat.zero_le _
  intro v9 w9 hown hgrow hnil_ hloc
  obtain ⟨p9, c9, hv⟩ := own_shape hown
  subst hv
  clear hnil_
  obtain ⟨K9', hT9, hS9, x9, f9⟩ := HT8.out.pushI x1 ⟨N, P5, L, C5, V, R, D⟩ HA8.out hown hgrow (by simpa using hloc)
  have HT9 := Lib.hid hT9
  have HS9 := Lib.hid (HS8.out.trans hS9)
  have hnb : (Value.slice p1 T.infos.length q1).ownBlock ≠ some bb := fun e => by obtain ⟨vs, m1, m2, ob, q⟩ := HT8.out.ob; have e6 := ob.1 1 (by omega); rw [x1] at e6; injection e6 with e6; have := q.r1.tg bb (by rw [← e6]; exact e); omega
  have hbf9 : K9' bb = 0 := by rw [hS9.ext bb (World.block_lt_of_cell? _ _ z0)]; exact hbf
  replace z0 := grown_cell hgrow z0 hnb
  replace z1 := grown_cell hgrow z1 hnb
  replace z2 := grown_cell hgrow z2 hnb
  replace z3 := grown_cell hgrow z3 hnb
  have hcb : c ≠ bb := fun e => by have := HT8.out.ka; rw [e] at this; omega
  clear hown hgrow hloc hT9 hS9 hnb n0 n1 n2 n3 x1 HT8 HA8 HS8
  refine hK.out _ _ (SL.cons (fun _ => trivial) (SL.cons (fun _ => x9) (SL.cons (fun _ => ⟨z0, z1, z2, z3⟩) SL.nil))) (fun hHeld => ?_)
  clear hK K
  try simp only [Act.put, List.setIfInBounds_toArray, List.set_cons_zero, List.set_cons_succ]
  refine wpAnyL_take 0 _ _ (i := 8) (oi := { dst := some 35, op := Op.nilCheck (Operand.tmp 27), type := 0, pos := "sorts.go:70", after := #[{ on := 0, ground := Ground.data }, { on := 0, ground := Ground.phase }, { on := 1, ground := Ground.phase }, { on := 2, ground := Ground.phase }, { on := 3, ground := Ground.phase }, { on := 4, ground := Ground.phase }, { on := 5, ground := Ground.phase }, { on := 6, ground := Ground.phase }, { on := 7, ground := Ground.phase }], guard := none }) (v := ?_) rfl (by kernel_rfl) (by kernel_rfl) (by kernel_rfl) (fun _ _ _ h => h) rfl (by kernel_rfl) (by kernel_rfl) (by kernel_rfl) (Or.inl ⟨by rfl, ?_⟩) hHeld (fun hHeld => ?_)
  rotate_left
  · intro w hSw
    (try dsimp only at hSw)
    go_simp
    try with_reducible rfl
  try simp only [Act.put, List.setIfInBounds_toArray, List.set_cons_zero, List.set_cons_succ]
  refine wpAnyL_take 0 _ _ (i := 9) (oi := { dst := some 36, op := Op.fieldAddr 60 (Operand.tmp 35) 1, type := 0, pos := "sorts.go:70", after := #[{ on := 8, ground := Ground.data }, { on := 0, ground := Ground.phase }, { on := 1, ground := Ground.phase }, { on := 2, ground := Ground.phase }, { on := 3, ground := Ground.phase }, { on := 4, ground := Ground.phase }, { on := 5, ground := Ground.phase }, { on := 6, ground := Ground.phase }, { on := 7, ground := Ground.phase }], guard := none }) (v := ?_) rfl (by kernel_rfl) (by kernel_rfl) (by kernel_rfl) (fun _ _ _ h => h) rfl (by kernel_rfl) (by kernel_rfl) (by kernel_rfl) (Or.inl ⟨by rfl, ?_⟩) hHeld (fun hHeld => ?_)
  rotate_left
  · intro w hSw
    (try dsimp only at hSw)
    go_simp
    try with_reducible rfl
  try simp only [Act.put, List.setIfInBounds_toArray, List.set_cons_zero, List.set_cons_succ]
  have u0 : (w9.setCell ⟨c, 1, none⟩ (.slice p9 (T.infos.length + 1) c9)).cell? ⟨bb, 0, none⟩ = some (.string N) := by rw [World.cell?_setCell_other _ _ _ _ (by intro e; cases e <;> exact hcb rfl)]; exact z0
  have u1 : (w9.setCell ⟨c, 1, none⟩ (.slice p9 (T.infos.length + 1) c9)).cell? ⟨bb, 1, none⟩ = some (.slice P5 L C5) := by rw [World.cell?_setCell_other _ _ _ _ (by intro e; cases e <;> exact hcb rfl)]; exact z1
  have u2 : (w9.setCell ⟨c, 1, none⟩ (.slice p9 (T.infos.length + 1) c9)).cell? ⟨bb, 2, none⟩ = some (.int .i64 R) := by rw [World.cell?_setCell_other _ _ _ _ (by intro e; cases e <;> exact hcb rfl)]; exact z2
  have u3 : (w9.setCell ⟨c, 1, none⟩ (.slice p9 (T.infos.length + 1) c9)).cell? ⟨bb, 3, none⟩ = some (.bool D) := by rw [World.cell?_setCell_other _ _ _ _ (by intro e; cases e <;> exact hcb rfl)]; exact z3
  refine wpAnyL_ready (rs := [10]) (by kernel_rfl) (by simp) ?_
  refine AllReadyL.cons (o := { dst := none, op := Op.store 55 (Operand.tmp 36) (Operand.tmp 34), type := 0, pos := "sorts.go:70", after := #[{ on := 9, ground := Ground.data }, { on := 7, ground := Ground.data }, { on := 7, ground := Ground.chain }, { on := 0, ground := Ground.phase }, { on := 1, ground := Ground.phase }, { on := 2, ground := Ground.phase }, { on := 3, ground := Ground.phase }, { on := 4, ground := Ground.phase }, { on := 5, ground := Ground.phase }, { on := 6, ground := Ground.phase }, { on := 7, ground := Ground.phase }], guard := none }) rfl (fun K hK => ?_) AllReadyL.nil
  go_simp
  refine hK.out _ _ (SL.cons (fun _ => trivial) (SL.cons (fun h => absurd h (by decide +kernel)) (SL.cons (fun _ => ⟨u0, u1, u2, u3⟩) SL.nil))) (fun hHeld => ?_)
  clear hK K
  try simp only [Act.put, List.setIfInBounds_toArray, List.set_cons_zero, List.set_cons_succ]
  refine wpAnyL_done (by kernel_rfl) ?_ _
  generalize w9.setCell ⟨c, 1, none⟩ (.slice p9 (T.infos.length + 1) c9) = w10 at *
  clear x9 f9 hHeld z0 z1 z2 z3 u1 u2 u3
  obtain ⟨p6, z6, x6, o6_⟩ := HT9.out.row3
  clear o6_
  have hb7 := below1 w10 (.cells #[.int .i64 (T.infos.length : Int)] 3)
  have HT7 := Lib.hid (HT9.out.later hb7)
  have HS7 := Lib.hid (HS9.out.trans (StepT.below hb7))
  obtain ⟨p7, z7, x7, o7⟩ := HT7.out.row3
  have x7' := cell_later hb7 x6
  rw [x7'] at x7
  cases x7
  have HO7 := Lib.hid o7
  have HX7 := Lib.hid x7'
  have u7 := cell_later hb7 u0
  clear o7 x7' hb7 u0
  go_wp2_with (at_builtin; refine wpList_append_own_at _ rfl _ _ 39 rfl 0 3 i3 (.int .i64 0) 1 8 Try.underlying39 hi3 hz30 hz31 hz32 rfl (by omega) _ T.funs.length (T.funs.map nV) rfl HO7.out ⟨w10.heap.size, 0, none⟩ 1 1 [.int .i64 (T.infos.length : Int)] rfl rfl ?qd2 ?qd3 ?qd4 ?qd5 ?qd6 ?_)
  try (case qd2 =>
    intro jj u hjj
    rw [Lib.add_plain]
    match jj, hjj with
    | 0, hjj => cases hjj; simp [go_sem])
  try (case qd3 => first | rfl | (intro u hu; simp at hu; rcases hu with rfl; rfl))
  try (case qd4 => have hml : maxLen = 9223372036854775807 := rfl; omega)
  try (case qd5 => omega)
  try (case qd6 => exact Nat.zero_le _)
  intro v8 w8 hown hgrow hnil_ hloc
  obtain ⟨p8, c8, hv⟩ := own_shape hown
  subst hv
  clear hnil_
  obtain ⟨K8, hT8, hS8, x8, f8⟩ := HT7.out.pushF HX7.out T.infos.length hown hgrow (by simpa using hloc)
  have HT8 := Lib.hid hT8
  have hS8' := hS8
  have HS8 := Lib.hid (HS7.out.trans hS8)
  have hbb7 : (w10.alloc (.cells #[.int .i64 (T.infos.length : Int)] 3)).cell? ⟨bb, 0, none⟩ = some (.string N) := u7
  have hnb : (Value.slice p6 T.funs.length z6).ownBlock ≠ some bb := fun e => by
    obtain ⟨vs, m1, m2, ob, q⟩ := HT7.out.ob
    have e6 := ob.1 3 (by omega)
    rw [HX7.out] at e6
    injection e6 with e6
    have := q.r3.tg bb (by rw [← e6]; exact e)
    omega
  have hbf8 : K8 bb = 0 := by rw [hS8.ext bb (World.block_lt_of_cell? _ _ u7)]; exact hbf9
  replace u7 := grown_cell hgrow u7 hnb
  have u8 : (w8.setCell ⟨c, 3, none⟩ (.slice p8 (T.funs.length + 1) c8)).cell? ⟨bb, 0, none⟩ = some (.string N) := by rw [World.cell?_setCell_other _ _ _ _ (by intro e; cases e <;> exact hcb rfl)]; exact u7
  obtain ⟨m9, x9, q9⟩ := HT8.out.map2
  have HQ9 := Lib.hid q9
  clear hown hgrow hloc hT8 hS8 HO7 x6 q9 hnb hbb7 u7
  go_upto_region 9 with (fail)
  generalize w8.setCell ⟨c, 3, none⟩ (.slice p8 (T.funs.length + 1) c8) = w9 at *
  clear x8 f8
  have hD : Below w9.heap.size w9 w9.drew := (Below.refl _ _).drew
  replace x9 := cell_later hD x9
  replace u8 := cell_later hD u8
  have HT9 := Lib.hid (HT8.out.later hD)
  have HQ9 := Lib.hid (HQ9.out.later hD)
  have HS9 := Lib.hid (HS8.out.trans (StepT.below hD))
  clear hD HT8 HS8
  refine wp_region_L [(1000, (fun _ => True : World → Prop)), (1000, (fun w => w.cell? ⟨c, 5, none⟩ = some (.map (some m9)) : World → Prop)), (1000, (fun w => w.cell? ⟨bb, 0, none⟩ = some (.string N) : World → Prop))] (by kernel_rfl) (SL.cons (fun _ => trivial) (SL.cons (fun _ => x9) (SL.cons (fun _ => u8) SL.nil))) (fun hHeld => ?_)
  generalize w9.drew = w10 at *
  refine wpAnyL_take 0 _ _ (i := 0) (oi := { dst := some 47, op := Op.move (Operand.tmp 0), type := 25, pos := "sorts.go:72", after := #[], guard := none }) (v := ?_) rfl (by kernel_rfl) (by kernel_rfl) (by kernel_rfl) (fun _ _ _ h => h) rfl (by kernel_rfl) (by kernel_rfl) (by kernel_rfl) (Or.inl ⟨by rfl, ?_⟩) hHeld (fun hHeld => ?_)
  rotate_left
  · intro w hSw
    (try dsimp only at hSw)
    go_simp
    try with_reducible rfl
  try simp only [Act.put, List.setIfInBounds_toArray, List.set_cons_zero, List.set_cons_succ]
  refine wpAnyL_take 0 _ _ (i := 1) (oi := { dst := some 48, op := Op.nilCheck (Operand.tmp 47), type := 0, pos := "sorts.go:72", after := #[{ on := 0, ground := Ground.data }], guard := none }) (v := ?_) rfl (by kernel_rfl) (by kernel_rfl) (by kernel_rfl) (fun _ _ _ h => h) rfl (by kernel_rfl) (by kernel_rfl) (by kernel_rfl) (Or.inl ⟨by rfl, ?_⟩) hHeld (fun hHeld => ?_)
  rotate_left
  · intro w hSw
    (try dsimp only at hSw)
    go_simp
    try with_reducible rfl
  try simp only [Act.put, List.setIfInBounds_toArray, List.set_cons_zero, List.set_cons_succ]
  refine wpAnyL_take 0 _ _ (i := 2) (oi := { dst := some 49, op := Op.fieldAddr 60 (Operand.tmp 48) 5, type := 0, pos := "sorts.go:72", after := #[{ on := 1, ground := Ground.data }], guard := none }) (v := ?_) rfl (by kernel_rfl) (by kernel_rfl) (by kernel_rfl) (fun _ _ _ h => h) rfl (by kernel_rfl) (by kernel_rfl) (by kernel_rfl) (Or.inl ⟨by rfl, ?_⟩) hHeld (fun hHeld => ?_)
  rotate_left
  · intro w hSw
    (try dsimp only at hSw)
    go_simp
    try with_reducible rfl
  try simp only [Act.put, List.setIfInBounds_toArray, List.set_cons_zero, List.set_cons_succ]
  refine wpAnyL_take 1 _ _ (i := 3) (oi := { dst := some 50, op := Op.load 57 (Operand.tmp 49), type := 57, pos := "sorts.go:72", after := #[{ on := 2, ground := Ground.data }], guard := none }) (v := ?_) rfl (by kernel_rfl) (by kernel_rfl) (by kernel_rfl) (fun _ _ _ h => h) rfl (by kernel_rfl) (by kernel_rfl) (by kernel_rfl) (Or.inl ⟨by rfl, ?_⟩) hHeld (fun hHeld => ?_)
  rotate_left
  · intro w hSw
    (try dsimp only at hSw)
    go_simp
    try with_reducible rfl
  try simp only [Act.put, List.setIfInBounds_toArray, List.set_cons_zero, List.set_cons_succ]
  refine wpAnyL_take 0 _ _ (i := 4) (oi := { dst := some 51, op := Op.fieldAddr 35 (Operand.tmp 3) 0, type := 0, pos := "sorts.go:72", after := #[], guard := none }) (v := ?_) rfl (by kernel_rfl) (by kernel_rfl) (by kernel_rfl) (fun _ _ _ h => h) rfl (by kernel_rfl) (by kernel_rfl) (by kernel_rfl) (Or.inl ⟨by rfl, ?_⟩) hHeld (fun hHeld => ?_)
  rotate_left
  · intro w hSw
    (try dsimp only at hSw)
    go_simp
    try with_reducible rfl
  try simp only [Act.put, List.setIfInBounds_toArray, List.set_cons_zero, List.set_cons_succ]
  refine wpAnyL_take 2 _ _ (i := 5) (oi := { dst := some 52, op := Op.load 9 (Operand.tmp 51), type := 9, pos := "sorts.go:72", after := #[{ on := 4, ground := Ground.data }], guard := none }) (v := ?_) rfl (by kernel_rfl) (by kernel_rfl) (by kernel_rfl) (fun _ _ _ h => h) rfl (by kernel_rfl) (by kernel_rfl) (by kernel_rfl) (Or.inl ⟨by rfl, ?_⟩) hHeld (fun hHeld => ?_)
  rotate_left
  · intro w hSw
    (try dsimp only at hSw)
    go_simp
    try with_reducible rfl
  try simp only [Act.put, List.setIfInBounds_toArray, List.set_cons_zero, List.set_cons_succ]
  refine wpAnyL_take 0 _ _ (i := 6) (oi := { dst := some 53, op := Op.move (Operand.tmp 7), type := 3, pos := "sorts.go:72", after := #[], guard := none }) (v := ?_) rfl (by kernel_rfl) (by kernel_rfl) (by kernel_rfl) (fun _ _ _ h => h) rfl (by kernel_rfl) (by kernel_rfl) (by kernel_rfl) (Or.inl ⟨by rfl, ?_⟩) hHeld (fun hHeld => ?_)
  rotate_left
  · intro w hSw
    (try dsimp only at hSw)
    go_simp
    try with_reducible rfl
  try simp only [Act.put, List.setIfInBounds_toArray, List.set_cons_zero, List.set_cons_succ]
  obtain ⟨w11, hr11, hq11, hg11⟩ := HQ9.out.put K9 Try.underlying57 (by have hml : maxLen = 9223372036854775807 := rfl; simp only; omega) HK.out (nV T.infos.length)
  unfold nV at hr11
  obtain ⟨hT11, hS11⟩ := HT9.out.inM2 x9 hg11 hq11
  have HT11 := Lib.hid hT11
  have HS11 := Lib.hid (HS9.out.trans hS11)
  obtain ⟨m11, x11, _⟩ := HT11.out.map2
  have em : m9 ≠ c ∧ m9 ≠ bb := by
    obtain ⟨vs, m1, m2, ob, q⟩ := HT9.out.ob
    have e5 := ob.1 5 (by omega)
    rw [x9, q.h5] at e5
    cases e5
    refine ⟨fun e => ?_, fun e => ?_⟩
    · have := q.k5; rw [e, HT9.out.ka] at this; omega
    · have := q.k5; rw [e] at this; omega
  have y9 := grown_cell hg11 x9 (fun e => em.1 (Option.some.inj e))
  have y8 := grown_cell hg11 u8 (fun e => em.2 (Option.some.inj e))
  clear hq11 hg11 hT11 hS11
  refine wpAnyL_ready (rs := [7]) (by kernel_rfl) (by simp) ?_
  refine AllReadyL.cons (o := { dst := none, op := Op.mapUpdate 57 (Operand.tmp 50) (Operand.tmp 52) (Operand.tmp 53), type := 0, pos := "sorts.go:72", after := #[{ on := 3, ground := Ground.data }, { on := 5, ground := Ground.data }, { on := 6, ground := Ground.data }, { on := 0, ground := Ground.phase }, { on := 1, ground := Ground.phase }, { on := 2, ground := Ground.phase }, { on := 3, ground := Ground.phase }, { on := 4, ground := Ground.phase }, { on := 5, ground := Ground.phase }, { on := 6, ground := Ground.phase }], guard := none }) rfl (fun K hK => ?_) AllReadyL.nil
  rw [if_pos (by rfl)]
  refine wp_upd_run rfl (by rfl) (by rfl) (by rfl) hr11 ?_
  refine hK.out _ _ (SL.cons (fun _ => trivial) (SL.cons (fun _ => y9) (SL.cons (fun _ => y8) SL.nil))) (fun hHeld => ?_)
  clear hK K
  try simp only [Act.put, List.setIfInBounds_toArray, List.set_cons_zero, List.set_cons_succ]
  refine wpAnyL_done (by kernel_rfl) ?_ _
  clear hHeld hr11 y9 y8 x11
  go_wp2_with fail
  go_ret2
  refine ⟨K8, addF T ⟨N, P5, L, C5, V, R, D⟩, _, _, rfl, HT11.out, HG.out.addF HOK.out.2.2 HOK.out.1 hs, HS11.out, .inr ⟨rfl, rfl, HOK.out.2.1, P5, C5, rfl⟩⟩
end Go.Proofs.Ytkjmmdffelhkiaa
