/- Stage 6: rows that the law keeps. -/
import Derived.Test.YtkjmmdffelhkiaaT34
namespace Go.Proofs.Ytkjmmdffelhkiaa
open Go Go.RowKit Go.Maps

variable {W W' W1 : World} {K K' J : Nat → Nat} {base c r b : Nat} {T : Sto} {N : List Nd} {o : OpV}
/-- a call in cells of its own. -/
structure BoxC (W : World) (b : Nat) (o : OpV) : Prop where
  c0 : W.cell? ⟨b, 0, none⟩ = some (.int .i64 o.k)
  c1 : W.cell? ⟨b, 1, none⟩ = some (.int .i64 o.a)
  c2 : W.cell? ⟨b, 2, none⟩ = some (.int .i64 o.b)
  c3 : W.cell? ⟨b, 3, none⟩ = some (.int .i64 o.c)
  c4 : W.cell? ⟨b, 4, none⟩ = some (.slice o.P o.L o.C)
  c5 : W.cell? ⟨b, 5, none⟩ = some (.int .i64 o.f)
  c6 : W.cell? ⟨b, 6, none⟩ = some (.int .i64 o.s)
  c7 : W.cell? ⟨b, 7, none⟩ = some (.int .i64 o.n)
  c8 : W.cell? ⟨b, 8, none⟩ = some (.bool o.m)
  fz : ∀ i, W.frozen? ⟨b, i, none⟩ = false
theorem BoxC.lt (h : BoxC W b o) : b < W.heap.size := World.block_lt_of_cell? W _ h.c0
theorem BoxC.only {S : Nat → Prop} (h : BoxC W b o) (ho : Only S W W') (hn : ¬ S b) : BoxC W' b o :=
  ⟨ho.cell h.c0 hn, ho.cell h.c1 hn, ho.cell h.c2 hn, ho.cell h.c3 hn, ho.cell h.c4 hn, ho.cell h.c5 hn, ho.cell h.c6 hn, ho.cell h.c7 hn, ho.cell h.c8 hn, fun i => by rw [ho.frozen h.lt hn]; exact h.fz i⟩
theorem BoxC.later (h : BoxC W b o) (hb : Below W.heap.size W W') : BoxC W' b o := h.only (Only.of_below (T := fun _ => False) hb) (fun h => h)
theorem BoxC.made (W : World) (o : OpV) : BoxC (W.alloc (.cells #[.int .i64 o.k, .int .i64 o.a, .int .i64 o.b, .int .i64 o.c, .slice o.P o.L o.C, .int .i64 o.f, .int .i64 o.s, .int .i64 o.n, .bool o.m] 76)) W.heap.size o :=
  ⟨by simp [go_sem], by simp [go_sem], by simp [go_sem], by simp [go_sem], by simp [go_sem], by simp [go_sem], by simp [go_sem], by simp [go_sem], by simp [go_sem], fun i => by simp [go_sem]⟩
theorem BoxC.setA (h : BoxC W b o) (x : Int) : BoxC (W.setCell ⟨b, 1, none⟩ (.int .i64 x)) b { o with a := x } :=
  ⟨by rw [World.cell?_setCell_other _ _ _ _ (by intro e; cases e)]; exact h.c0, World.cell?_setCell_same _ _ _ h.c1, by rw [World.cell?_setCell_other _ _ _ _ (by intro e; cases e)]; exact h.c2, by rw [World.cell?_setCell_other _ _ _ _ (by intro e; cases e)]; exact h.c3, by rw [World.cell?_setCell_other _ _ _ _ (by intro e; cases e)]; exact h.c4, by rw [World.cell?_setCell_other _ _ _ _ (by intro e; cases e)]; exact h.c5, by rw [World.cell?_setCell_other _ _ _ _ (by intro e; cases e)]; exact h.c6, by rw [World.cell?_setCell_other _ _ _ _ (by intro e; cases e)]; exact h.c7, by rw [World.cell?_setCell_other _ _ _ _ (by intro e; cases e)]; exact h.c8, fun i => by rw [World.frozen?_setCell]; exact h.fz i⟩
theorem BoxC.setB (h : BoxC W b o) (x : Int) : BoxC (W.setCell ⟨b, 2, none⟩ (.int .i64 x)) b { o with b := x } :=
  ⟨by rw [World.cell?_setCell_other _ _ _ _ (by intro e; cases e)]; exact h.c0, by rw [World.cell?_setCell_other _ _ _ _ (by intro e; cases e)]; exact h.c1, World.cell?_setCell_same _ _ _ h.c2, by rw [World.cell?_setCell_other _ _ _ _ (by intro e; cases e)]; exact h.c3, by rw [World.cell?_setCell_other _ _ _ _ (by intro e; cases e)]; exact h.c4, by rw [World.cell?_setCell_other _ _ _ _ (by intro e; cases e)]; exact h.c5, by rw [World.cell?_setCell_other _ _ _ _ (by intro e; cases e)]; exact h.c6, by rw [World.cell?_setCell_other _ _ _ _ (by intro e; cases e)]; exact h.c7, by rw [World.cell?_setCell_other _ _ _ _ (by intro e; cases e)]; exact h.c8, fun i => by rw [World.frozen?_setCell]; exact h.fz i⟩
theorem BoxC.setC (h : BoxC W b o) (x : Int) : BoxC (W.setCell ⟨b, 3, none⟩ (.int .i64 x)) b { o with c := x } :=
  ⟨by rw [World.cell?_setCell_other _ _ _ _ (by intro e; cases e)]; exact h.c0, by rw [World.cell?_setCell_other _ _ _ _ (by intro e; cases e)]; exact h.c1, by rw [World.cell?_setCell_other _ _ _ _ (by intro e; cases e)]; exact h.c2, World.cell?_setCell_same _ _ _ h.c3, by rw [World.cell?_setCell_other _ _ _ _ (by intro e; cases e)]; exact h.c4, by rw [World.cell?_setCell_other _ _ _ _ (by intro e; cases e)]; exact h.c5, by rw [World.cell?_setCell_other _ _ _ _ (by intro e; cases e)]; exact h.c6, by rw [World.cell?_setCell_other _ _ _ _ (by intro e; cases e)]; exact h.c7, by rw [World.cell?_setCell_other _ _ _ _ (by intro e; cases e)]; exact h.c8, fun i => by rw [World.frozen?_setCell]; exact h.fz i⟩
theorem BoxC.setL (h : BoxC W b o) (p : Option Addr) (n z : Nat) : BoxC (W.setCell ⟨b, 4, none⟩ (.slice p n z)) b { o with P := p, L := n, C := z } :=
  ⟨by rw [World.cell?_setCell_other _ _ _ _ (by intro e; cases e)]; exact h.c0, by rw [World.cell?_setCell_other _ _ _ _ (by intro e; cases e)]; exact h.c1, by rw [World.cell?_setCell_other _ _ _ _ (by intro e; cases e)]; exact h.c2, by rw [World.cell?_setCell_other _ _ _ _ (by intro e; cases e)]; exact h.c3, World.cell?_setCell_same _ _ _ h.c4, by rw [World.cell?_setCell_other _ _ _ _ (by intro e; cases e)]; exact h.c5, by rw [World.cell?_setCell_other _ _ _ _ (by intro e; cases e)]; exact h.c6, by rw [World.cell?_setCell_other _ _ _ _ (by intro e; cases e)]; exact h.c7, by rw [World.cell?_setCell_other _ _ _ _ (by intro e; cases e)]; exact h.c8, fun i => by rw [World.frozen?_setCell]; exact h.fz i⟩
theorem BoxC.setM (h : BoxC W b o) (x : Bool) : BoxC (W.setCell ⟨b, 8, none⟩ (.bool x)) b { o with m := x } :=
  ⟨by rw [World.cell?_setCell_other _ _ _ _ (by intro e; cases e)]; exact h.c0, by rw [World.cell?_setCell_other _ _ _ _ (by intro e; cases e)]; exact h.c1, by rw [World.cell?_setCell_other _ _ _ _ (by intro e; cases e)]; exact h.c2, by rw [World.cell?_setCell_other _ _ _ _ (by intro e; cases e)]; exact h.c3, by rw [World.cell?_setCell_other _ _ _ _ (by intro e; cases e)]; exact h.c4, by rw [World.cell?_setCell_other _ _ _ _ (by intro e; cases e)]; exact h.c5, by rw [World.cell?_setCell_other _ _ _ _ (by intro e; cases e)]; exact h.c6, by rw [World.cell?_setCell_other _ _ _ _ (by intro e; cases e)]; exact h.c7, World.cell?_setCell_same _ _ _ h.c8, fun i => by rw [World.frozen?_setCell]; exact h.fz i⟩
theorem BoxC.vals {V : Nat → Int} (h : BoxC W b o) : BoxC W b { o with V := V } := ⟨h.c0, h.c1, h.c2, h.c3, h.c4, h.c5, h.c6, h.c7, h.c8, h.fz⟩
def mV (o : OpV) : List Value := [.int .i64 o.k, .int .i64 o.a, .int .i64 o.b, .int .i64 o.c, .slice o.P o.L o.C, .int .i64 o.f, .int .i64 o.s, .int .i64 o.n, .bool o.m]
def flatO (l : List OpV) : List Value := l.flatMap mV
theorem flatO_len (l : List OpV) : (flatO l).length = l.length * 9 := by
  induction l with
  | nil => rfl
  | cons t l ih => simp only [flatO, mV, List.flatMap_cons, List.length_append, List.length_cons, List.length_nil] at *; omega
theorem flatO_snoc (l : List OpV) (x : OpV) : flatO (l ++ [x]) = flatO l ++ mV x := by simp [flatO]
theorem flatO_get : ∀ (l : List OpV) (i : Nat) (x : OpV), l[i]? = some x → ∀ j, j < 9 → (flatO l)[i * 9 + j]? = (mV x)[j]? := by
  intro l
  induction l with
  | nil => intro i x h; simp at h
  | cons t l ih =>
    intro i x h j hj
    have e : flatO (t :: l) = mV t ++ flatO l := rfl
    have hl : (mV t).length = 9 := rfl
    cases i with
    | zero =>
      simp at h; subst h
      rw [e, Nat.zero_mul, Nat.zero_add, List.getElem?_append_left (by omega)]
    | succ i =>
      rw [e, List.getElem?_append_right (by omega), hl, show (i + 1) * 9 + j - 9 = i * 9 + j by omega]
      exact ih i x (by simpa using h) j hj
theorem mV_one (o : OpV) : ∀ u ∈ mV o, u.oneCell' = true := by
  intro u hu
  simp [mV] at hu
  rcases hu with rfl | rfl | rfl | rfl | rfl | rfl | rfl | rfl | rfl <;> rfl
/-- the law's rows: J tells which block is for what: 2 the terms, 3 the calls, 4 their arguments. -/
structure Mine (W : World) (J K : Nat → Nat) (base : Nat) (xs : List Int) (cl : List OpV) (vx vc : Value) : Prop where
  fr : ∀ k, W.heap.size ≤ k → J k = 0
  lo : ∀ k, k < base → J k = 0
  sep : ∀ k, J k ≠ 0 → K k = 0
  rx : RowAt W J 2 73 1 vx xs.length (xs.map (Value.int .i64))
  rc : RowAt W J 3 76 9 vc cl.length (flatO cl)
  ar : ∀ (j : Nat) (o : OpV), cl[j]? = some o → IntsIn W o.P o.L o.V ∧ ∀ ad, o.P = some ad → J ad.block = 4
variable {xs : List Int} {cl : List OpV} {vx vc : Value}
theorem args_ext {J J' : Nat → Nat} {p : Option Addr} {t : Nat} (fr : ∀ k, W.heap.size ≤ k → J k = 0) (hx : Ext J J' W.heap.size) (ht : t ≠ 0) (h : ∀ ad, p = some ad → J ad.block = t) : ∀ ad, p = some ad → J' ad.block = t := fun ad e => by
  have h9 := h ad e
  rw [hx ad.block]
  · exact h9
  · rcases Nat.lt_or_ge ad.block W.heap.size with h1 | h1
    · exact h1
    · rw [fr _ h1] at h9; exact absurd h9.symm ht
theorem ints_only {S : Nat → Prop} {p : Option Addr} {n : Nat} {V : Nat → Int} (h : IntsIn W p n V) (ho : Only S W W') (hS : ∀ ad, p = some ad → ¬ S ad.block) : IntsIn W' p n V := fun hn => by
  obtain ⟨b, off, e, ha⟩ := h hn
  exact ⟨b, off, e, fun i hi => ho.cell (ha i hi) (show ¬ S b from hS _ e)⟩
theorem ints_only0 {S : Nat → Prop} {p : Option Addr} {n : Nat} {V : Nat → Int} (h : IntsIn W p n V) (ho : Only S W W') (hS : ∀ ad, p = some ad → 0 < n → ¬ S ad.block) : IntsIn W' p n V := fun hn => by
  obtain ⟨b, off, e, ha⟩ := h hn
  exact ⟨b, off, e, fun i hi => ho.cell (ha i hi) (show ¬ S b from hS _ e hn)⟩
theorem ints_keep {B : Nat} {p : Option Addr} {n : Nat} {V : Nat → Int} (h : IntsIn W p n V) (hb : Below B W W') (hl : ∀ ad, p = some ad → 0 < n → ad.block < B) : IntsIn W' p n V := fun hn => by
  obtain ⟨b, off, e, ha⟩ := h hn
  exact ⟨b, off, e, fun i hi => keepc hb (ha i hi) (show b < B from hl _ e hn)⟩
theorem own_setFar' {w : World} {base n b i : Nat} {e : TypeId} {sz : Nat} {v u : Value} {xs : List Value} (h : w.ownsRow base e sz v n xs) (hb : b < base) : (w.setCell ⟨b, i, none⟩ u).ownsRow base e sz v n xs :=
  own_only h (Only.of_setCell w ⟨b, i, none⟩ u) (fun k hk e => by have := (own_lt h hk).1; have e2 : k = b := e; omega)
theorem Mine.only {S : Nat → Prop} (h : Mine W J K base xs cl vx vc) (ho : Only S W W') (hx : Ext K K' W.heap.size) (hS : ∀ k, J k ≠ 0 → ¬ S k) : Mine W' J K' base xs cl vx vc :=
  ⟨fun k hk => h.fr k (Nat.le_trans ho.size hk), h.lo, fun k hk => by
    rw [hx k (by
      rcases Nat.lt_or_ge k W.heap.size with h1 | h1
      · exact h1
      · exact absurd (h.fr k h1) hk)]
    exact h.sep k hk, h.rx.only ho (Ext.refl _ _) (fun k e => hS k (by omega)), h.rc.only ho (Ext.refl _ _) (fun k e => hS k (by omega)), fun j o hj => ⟨ints_only (h.ar j o hj).1 ho (fun ad e => hS _ (by rw [(h.ar j o hj).2 ad e]; omega)), (h.ar j o hj).2⟩⟩
theorem Mine.stepZ (h : Mine W J K base xs cl vx vc) (hs : StepZ W W' K K') : Mine W' J K' base xs cl vx vc := h.only hs.only hs.ext (fun k h1 h2 => h2 (h.sep k h1))
theorem Mine.later (h : Mine W J K base xs cl vx vc) (hb : Below W.heap.size W W') : Mine W' J K base xs cl vx vc := h.only (Only.of_below (T := fun _ => False) hb) (Ext.refl _ _) (fun _ _ h => h)
/-- a row of arguments of the law's own. -/
theorem Mine.args (h : Mine W J K base xs cl vx vc) (frK : ∀ k, W.heap.size ≤ k → K k = 0) (hbase : base ≤ W.heap.size) (hb : Below W.heap.size W W') {b n z : Nat} {p : Option Addr} {V : Nat → Int} (hbb : W.heap.size ≤ b) (ho : W'.ownsRow b 73 1 (.slice p n z) n (rowV n V)) :
    ∃ J', Mine W' J' K base xs cl vx vc ∧ IntsIn W' p n V ∧ ∀ ad, p = some ad → J' ad.block = 4 := by
  have hx : Ext J (upK J (Value.slice p n z).ownBlock 4) W.heap.size := fun k hk => upK_ne (fun e => by have := (own_lt ho e).1; omega)
  have h0 := Only.of_below (T := fun _ => False) hb
  refine ⟨upK J (Value.slice p n z).ownBlock 4, ⟨fun k hk => ?_, fun k hk => ?_, fun k hk => ?_, h.rx.only h0 hx (fun _ _ h => h), h.rc.only h0 hx (fun _ _ h => h), fun j o hj => ⟨ints_only (h.ar j o hj).1 h0 (fun _ _ h => h), args_ext h.fr hx (by decide) (h.ar j o hj).2⟩⟩, own_ints ho, fun ad e => ?_⟩
  · rw [upK_ne (fun e => by have := (own_lt ho e).2; omega)]
    exact h.fr k (Nat.le_trans hb.size hk)
  · rw [upK_ne (fun e => by have := (own_lt ho e).1; omega)]
    exact h.lo k hk
  · by_cases e : (Value.slice p n z).ownBlock = some k
    · exact frK k (Nat.le_trans hbb (own_lt ho e).1)
    · rw [upK_ne e] at hk; exact h.sep k hk
  · obtain ⟨p', z', e2, hp⟩ := own_shp ho
    cases e2
    unfold upK
    rw [if_pos (by rw [e]; rfl)]
theorem Mine.pushx (h : Mine W J K base xs cl vx vc) (frK : ∀ k, W.heap.size ≤ k → K k = 0) (hbase : base ≤ W.heap.size) {v' : Value} {t : Int} (own : W1.ownsRow 0 73 1 v' (xs.length + 1) (xs.map (Value.int .i64) ++ [.int .i64 t])) (hg : W.grownBy W1 vx.ownBlock) (hloc : v'.ownBlock = vx.ownBlock ∨ v'.ownBlock = some W.heap.size) :
    ∃ J', Mine W1 J' K base (xs ++ [t]) cl v' vc ∧ Only (fun k => J k = 2) W W1 ∧ Ext J J' W.heap.size := by
  obtain ⟨r1, ho, hx, hf, hlo⟩ := h.rx.grow own hg hloc h.fr h.lo hbase (by omega)
  refine ⟨upK J v'.ownBlock 2, ⟨hf, hlo, fun k hk => ?_, by rw [List.length_append, List.map_append]; exact r1, h.rc.only ho hx (fun k e => by omega), fun j o hj => ⟨ints_only (h.ar j o hj).1 ho (fun ad e => by rw [(h.ar j o hj).2 ad e]; omega), args_ext h.fr hx (by decide) (h.ar j o hj).2⟩⟩, ho, hx⟩
  by_cases e : v'.ownBlock = some k
  · rcases hloc with e2 | e2
    · exact h.sep k (by rw [h.rx.tg k (e2.symm.trans e)]; omega)
    · rw [e] at e2; cases e2; exact frK _ (Nat.le_refl _)
  · rw [upK_ne e] at hk; exact h.sep k hk
theorem Mine.pushc (h : Mine W J K base xs cl vx vc) (frK : ∀ k, W.heap.size ≤ k → K k = 0) (hbase : base ≤ W.heap.size) {v' : Value} {o : OpV} (hi : IntsIn W o.P o.L o.V) (ht : ∀ ad, o.P = some ad → J ad.block = 4) (own : W1.ownsRow 0 76 9 v' (cl.length + 1) (flatO cl ++ mV o)) (hg : W.grownBy W1 vc.ownBlock) (hloc : v'.ownBlock = vc.ownBlock ∨ v'.ownBlock = some W.heap.size) :
    ∃ J', Mine W1 J' K base xs (cl ++ [o]) vx v' ∧ Only (fun k => J k = 3) W W1 := by
  obtain ⟨r1, ho, hx, hf, hlo⟩ := h.rc.grow own hg hloc h.fr h.lo hbase (by omega)
  have args : ∀ y : OpV, IntsIn W y.P y.L y.V → (∀ ad, y.P = some ad → J ad.block = 4) → IntsIn W1 y.P y.L y.V ∧ ∀ ad, y.P = some ad → upK J v'.ownBlock 3 ad.block = 4 := fun y h1 h2 =>
    ⟨ints_only h1 ho (fun ad e => by rw [h2 ad e]; omega), args_ext h.fr hx (by decide) h2⟩
  refine ⟨upK J v'.ownBlock 3, ⟨hf, hlo, fun k hk => ?_, h.rx.only ho hx (fun k e => by omega), by rw [List.length_append, flatO_snoc]; exact r1, fun j y hj => ?_⟩, ho⟩
  · by_cases e : v'.ownBlock = some k
    · rcases hloc with e2 | e2
      · exact h.sep k (by rw [h.rc.tg k (e2.symm.trans e)]; omega)
      · rw [e] at e2; cases e2; exact frK _ (Nat.le_refl _)
    · rw [upK_ne e] at hk; exact h.sep k hk
  · rw [List.getElem?_append] at hj
    split at hj
    · obtain ⟨a1, a2⟩ := h.ar j y hj
      exact args y a1 a2
    · have : y = o := by
        rw [List.getElem?_singleton] at hj
        split at hj
        · cases hj; rfl
        · cases hj
      subst this
      exact args y hi ht
theorem Two.mine {t : Nat} (h : Two W K base c r T N) (hm : Mine W J K base xs cl vx vc) (ht : t ≠ 0) (ho : Only (fun k => J k = t) W W1) : Two W1 K base c r T N :=
  h.only ho (fun k h1 h2 => h1 (hm.sep k (by rw [h2]; exact ht)))
/-- each call that was made, with its term. -/
def Kept (L : List Nd) (xs : List Int) (cl : List OpV) : Prop := xs.length = cl.length ∧ ∀ (j : Nat) (o : OpV) (t : Int), cl[j]? = some o → xs[j]? = some t → OpOk o ∧ o.m = false ∧ KnownO L (clS o) t
theorem Kept.grow {L M : List Nd} (h : Kept L xs cl) : Kept (L ++ M) xs cl := ⟨h.1, fun j o t h1 h2 => ⟨(h.2 j o t h1 h2).1, (h.2 j o t h1 h2).2.1, (h.2 j o t h1 h2).2.2.grow⟩⟩
theorem Kept.snoc {L : List Nd} {o : OpV} {t : Int} (h : Kept L xs cl) (h1 : OpOk o) (h2 : o.m = false) (h3 : KnownO L (clS o) t) : Kept L (xs ++ [t]) (cl ++ [o]) := by
  refine ⟨by rw [List.length_append, List.length_append, h.1]; rfl, fun j y s hy hs => ?_⟩
  rw [List.getElem?_append] at hy hs
  by_cases hj : j < cl.length
  · rw [if_pos hj] at hy
    rw [if_pos (by rw [h.1]; exact hj)] at hs
    exact h.2 j y s hy hs
  · rw [if_neg hj] at hy
    rw [if_neg (by rw [h.1]; exact hj)] at hs
    rw [List.getElem?_singleton] at hy hs
    split at hy
    · split at hs
      · cases hy; cases hs; exact ⟨h1, h2, h3⟩
      · cases hs
    · cases hy
theorem Kept.after {L L' : List Nd} {q : Req} {t er : Int} (h : Kept L xs cl) (a : Ans L q t er L') : Kept L' xs cl := by
  obtain ⟨M, rfl⟩ := a.grown
  exact h.grow
/-- the nodes that were read: J tells 2 their row, 3 their arguments. -/
structure AllR (W : World) (J K : Nat → Nat) (base : Nat) (zs : List Nd) (va : Value) : Prop where
  fr : ∀ k, W.heap.size ≤ k → J k = 0
  lo : ∀ k, k < base → J k = 0
  sep : ∀ k, J k ≠ 0 → K k = 0
  ra : RowAt W J 2 89 5 va zs.length (flatN zs)
  ar : ∀ (j : Nat) (z : Nd), zs[j]? = some z → IntsIn W z.P z.L z.V ∧ ∀ ad, z.P = some ad → J ad.block = 3
variable {zs : List Nd} {va : Value}
theorem AllR.later (h : AllR W J K base zs va) (hb : Below W.heap.size W W') : AllR W' J K base zs va :=
  ⟨fun k hk => h.fr k (Nat.le_trans hb.size hk), h.lo, h.sep, h.ra.only (Only.of_below (T := fun _ => False) hb) (Ext.refl _ _) (fun _ _ h => h), fun j z hj => ⟨(h.ar j z hj).1.later hb, (h.ar j z hj).2⟩⟩
theorem AllR.args (h : AllR W J K base zs va) (frK : ∀ k, W.heap.size ≤ k → K k = 0) (hbase : base ≤ W.heap.size) (hb : Below W.heap.size W W') {n z : Nat} {p : Option Addr} {V : Nat → Int} (ho : W'.ownsRow W.heap.size 73 1 (.slice p n z) n (rowV n V)) :
    ∃ J', AllR W' J' K base zs va ∧ IntsIn W' p n V ∧ ∀ ad, p = some ad → J' ad.block = 3 := by
  have hx : Ext J (upK J (Value.slice p n z).ownBlock 3) W.heap.size := fun k hk => upK_ne (fun e => by have := (own_lt ho e).1; omega)
  have h0 := Only.of_below (T := fun _ => False) hb
  refine ⟨upK J (Value.slice p n z).ownBlock 3, ⟨fun k hk => ?_, fun k hk => ?_, fun k hk => ?_, h.ra.only h0 hx (fun _ _ h => h), fun j o hj => ⟨ints_only (h.ar j o hj).1 h0 (fun _ _ h => h), args_ext h.fr hx (by decide) (h.ar j o hj).2⟩⟩, own_ints ho, fun ad e => ?_⟩
  · rw [upK_ne (fun e => by have := (own_lt ho e).2; omega)]
    exact h.fr k (Nat.le_trans hb.size hk)
  · rw [upK_ne (fun e => by have := (own_lt ho e).1; omega)]
    exact h.lo k hk
  · by_cases e : (Value.slice p n z).ownBlock = some k
    · exact frK k (own_lt ho e).1
    · rw [upK_ne e] at hk; exact h.sep k hk
  · obtain ⟨p', z', e2, hp⟩ := own_shp ho
    cases e2
    unfold upK
    rw [if_pos (by rw [e]; rfl)]
theorem AllR.push (h : AllR W J K base zs va) (frK : ∀ k, W.heap.size ≤ k → K k = 0) (hbase : base ≤ W.heap.size) {v' : Value} {x : Nd} (hi : IntsIn W x.P x.L x.V) (ht : ∀ ad, x.P = some ad → J ad.block = 3) (own : W1.ownsRow 0 89 5 v' (zs.length + 1) (flatN zs ++ ndV x)) (hg : W.grownBy W1 va.ownBlock) (hloc : v'.ownBlock = va.ownBlock ∨ v'.ownBlock = some W.heap.size) :
    ∃ J', AllR W1 J' K base (zs ++ [x]) v' ∧ Only (fun k => J k = 2) W W1 := by
  obtain ⟨r1, ho, hx, hf, hlo⟩ := h.ra.grow own hg hloc h.fr h.lo hbase (by omega)
  have args : ∀ y : Nd, IntsIn W y.P y.L y.V → (∀ ad, y.P = some ad → J ad.block = 3) → IntsIn W1 y.P y.L y.V ∧ ∀ ad, y.P = some ad → upK J v'.ownBlock 2 ad.block = 3 := fun y h1 h2 =>
    ⟨ints_only h1 ho (fun ad e => by rw [h2 ad e]; omega), args_ext h.fr hx (by decide) h2⟩
  refine ⟨upK J v'.ownBlock 2, ⟨hf, hlo, fun k hk => ?_, by rw [List.length_append, flatN_snoc]; exact r1, fun j y hj => ?_⟩, ho⟩
  · by_cases e : v'.ownBlock = some k
    · rcases hloc with e2 | e2
      · exact h.sep k (by rw [h.ra.tg k (e2.symm.trans e)]; omega)
      · rw [e] at e2; cases e2; exact frK _ (Nat.le_refl _)
    · rw [upK_ne e] at hk; exact h.sep k hk
  · rcases nodes_snoc hj with hj | ⟨_, rfl⟩
    · obtain ⟨a1, a2⟩ := h.ar j y hj
      exact args y a1 a2
    · exact args y hi ht
theorem noAll (W : World) (K : Nat → Nat) (base : Nat) : AllR W (fun _ => 0) K base [] (.slice none 0 0) :=
  ⟨fun _ _ => rfl, fun _ _ => rfl, fun k h => absurd rfl h, ⟨⟨rfl, .inl ⟨rfl, rfl⟩⟩, fun k hk => by cases hk⟩, fun j o h => by simp at h⟩
def AllOk (L zs : List Nd) : Prop := ∀ (j : Nat) (z : Nd), zs[j]? = some z → ∃ y, L[j]? = some y ∧ SameN z y
theorem AllOk.snoc {L zs : List Nd} {x z : Nd} (h : AllOk L zs) (hx : L[zs.length]? = some x) (hs : SameN z x) : AllOk L (zs ++ [z]) := fun j w hw => by
  rcases nodes_snoc hw with hw | ⟨rfl, rfl⟩
  · exact h j w hw
  · exact ⟨x, hx, hs⟩
theorem own_ndx {w : World} {b n z : Nat} {p : Option Addr} {zs : List Nd} (h : w.ownsRow b 89 5 (.slice p n z) n (flatN zs)) {i : Nat} {x : Nd} (hi : zs[i]? = some x) : ∃ g, p = some ⟨g, 0, none⟩ ∧ w.cell? ⟨g, i * 5, none⟩ = some (.int .u8 x.q) ∧ w.cell? ⟨g, i * 5 + 1, none⟩ = some (.int .i64 x.f) ∧ w.cell? ⟨g, i * 5 + 2, none⟩ = some (.int .i64 x.n) ∧ w.cell? ⟨g, i * 5 + 3, none⟩ = some (.int .i64 x.s) ∧ w.cell? ⟨g, i * 5 + 4, none⟩ = some (.slice x.P x.L x.C) := by
  have hn : 0 < n := by
    have h0 := h.1
    rw [flatN_len] at h0
    have := (List.getElem?_eq_some_iff.1 hi).1
    omega
  obtain ⟨g, c, e⟩ := own_some h hn
  cases e
  obtain ⟨g', c', e, _, hc⟩ := own_cells h (by simp)
  cases e
  obtain ⟨a, b, d, f, k⟩ := flatN_get zs i x hi
  exact ⟨g, rfl, hc _ _ a, hc _ _ b, hc _ _ d, hc _ _ f, hc _ _ k⟩
end Go.Proofs.Ytkjmmdffelhkiaa
