/- Stage 6: a store in memory. -/
import Derived.Test.YtkjmmdffelhkiaaT3
namespace Go.Proofs.Ytkjmmdffelhkiaa
open Go Go.RowKit Go.Maps

def ndV (x : Nd) : List Value := [.int .u8 x.q, .int .i64 x.f, .int .i64 x.n, .int .i64 x.s, .slice x.P x.L x.C]
def ndA (x : Nd) : Value := .agg #[.int .u8 x.q, .int .i64 x.f, .int .i64 x.n, .int .i64 x.s, .slice x.P x.L x.C]
def flatN (l : List Nd) : List Value := l.flatMap ndV
theorem flatN_len (l : List Nd) : (flatN l).length = l.length * 5 := by
  induction l with
  | nil => rfl
  | cons t l ih => simp only [flatN, ndV, List.flatMap_cons, List.length_append, List.length_cons, List.length_nil] at *; omega
theorem flatN_get : ∀ (l : List Nd) (i : Nat) (x : Nd), l[i]? = some x → (flatN l)[i * 5]? = some (.int .u8 x.q) ∧ (flatN l)[i * 5 + 1]? = some (.int .i64 x.f) ∧ (flatN l)[i * 5 + 2]? = some (.int .i64 x.n) ∧ (flatN l)[i * 5 + 3]? = some (.int .i64 x.s) ∧ (flatN l)[i * 5 + 4]? = some (.slice x.P x.L x.C) := by
  intro l
  induction l with
  | nil => intro i x h; simp at h
  | cons t l ih =>
    intro i x h
    cases i with
    | zero => simp at h; subst h; exact ⟨rfl, rfl, rfl, rfl, rfl⟩
    | succ i =>
      have := ih i x (by simpa using h)
      have e0 : (i + 1) * 5 = i * 5 + 5 := by omega
      have e1 : (i + 1) * 5 + 1 = i * 5 + 1 + 5 := by omega
      have e2 : (i + 1) * 5 + 2 = i * 5 + 2 + 5 := by omega
      have e3 : (i + 1) * 5 + 3 = i * 5 + 3 + 5 := by omega
      have e4 : (i + 1) * 5 + 4 = i * 5 + 4 + 5 := by omega
      rw [e1, e2, e3, e4, e0]
      simpa [flatN, ndV] using this
theorem flatN_snoc (l : List Nd) (x : Nd) : flatN (l ++ [x]) = flatN l ++ ndV x := by simp [flatN]
/-- three cells. -/
def Obj3 (W : World) (c : Nat) (vs : Nat → Value) : Prop := (∀ i, i < 3 → W.cell? ⟨c, i, none⟩ = some (vs i)) ∧ ∀ i, W.frozen? ⟨c, i, none⟩ = false
theorem Obj3.lt {W : World} {c : Nat} {vs : Nat → Value} (h : Obj3 W c vs) : c < W.heap.size := World.block_lt_of_cell? W _ (h.1 0 (by omega))
theorem Obj3.only {W W' : World} {c : Nat} {vs : Nat → Value} {S : Nat → Prop} (h : Obj3 W c vs) (ho : Only S W W') (na : ¬ S c) : Obj3 W' c vs :=
  ⟨fun i hi => ho.cell (h.1 i hi) na, fun i => by rw [ho.frozen h.lt na]; exact h.2 i⟩
theorem Obj3.set {W : World} {c : Nat} {vs : Nat → Value} (h : Obj3 W c vs) (i : Nat) (hi : i < 3) (u : Value) : Obj3 (W.setCell ⟨c, i, none⟩ u) c (upd vs i u) :=
  ⟨fun j hj => by
    unfold upd
    by_cases e : j = i
    · subst e; rw [if_pos rfl]; exact World.cell?_setCell_same _ _ _ (h.1 j hj)
    · rw [if_neg e, World.cell?_setCell_other _ _ _ _ (by intro e2; cases e2; exact e rfl)]; exact h.1 j hj, fun j => by rw [World.frozen?_setCell]; exact h.2 j⟩
structure NdArgs (W : World) (K : Nat → Nat) (x : Nd) : Prop where
  ints : IntsIn W x.P x.L x.V
  tg : ∀ ad, x.P = some ad → K ad.block = 9
theorem NdArgs.only {W W' : World} {K K' : Nat → Nat} {x : Nd} {S : Nat → Prop} (h : NdArgs W K x) (hf : ∀ k, W.heap.size ≤ k → K k = 0) (ho : Only S W W') (hx : Ext K K' W.heap.size) (hS : ∀ k, K k = 9 → ¬ S k) : NdArgs W' K' x :=
  ⟨fun hn => by
    obtain ⟨b, off, e, ha⟩ := h.ints hn
    exact ⟨b, off, e, fun i hi => ho.cell (ha i hi) (hS b (h.tg _ e))⟩, fun ad e => by
    have h9 := h.tg ad e
    rw [hx ad.block]
    · exact h9
    · rcases Nat.lt_or_ge ad.block W.heap.size with h1 | h1
      · exact h1
      · rw [hf _ h1] at h9; exact absurd h9 (by omega)⟩
structure SParts (W : World) (K : Nat → Nat) (vs : Nat → Value) (m1 m2 : Nat) (S : Sto) : Prop where
  r0 : RowAt W K 2 89 5 (vs 0) S.nodes.length (flatN S.nodes)
  h4 : vs 1 = .map (some m1)
  h5 : vs 2 = .map (some m2)
  k4 : K m1 = 6
  k5 : K m2 = 7
  q4 : FMap W 129 m1 S.f1 S.n1
  q5 : FMap W 9 m2 S.f2 S.n2
  ar : ∀ (i : Nat) (x : Nd), S.nodes[i]? = some x → NdArgs W K x
theorem SParts.only {W W' : World} {K K' : Nat → Nat} {vs : Nat → Value} {m1 m2 : Nat} {T : Sto} {S : Nat → Prop} (h : SParts W K vs m1 m2 T) (hf : ∀ k, W.heap.size ≤ k → K k = 0) (ho : Only S W W') (hx : Ext K K' W.heap.size) (hS : ∀ k, 2 ≤ K k → K k ≤ 9 → ¬ S k) : SParts W' K' vs m1 m2 T :=
  ⟨h.r0.only ho hx (fun k e => hS k (by omega) (by omega)), h.h4, h.h5,
   (hx _ h.q4.lt).trans h.k4, (hx _ h.q5.lt).trans h.k5, h.q4.only ho (hS _ (by rw [h.k4]; omega) (by rw [h.k4]; omega)), h.q5.only ho (hS _ (by rw [h.k5]; omega) (by rw [h.k5]; omega)), fun i x hi => (h.ar i x hi).only hf ho hx (fun k e => hS k (by omega) (by omega))⟩
structure StoAt (W : World) (K : Nat → Nat) (base c : Nat) (T : Sto) : Prop where
  fr : ∀ k, W.heap.size ≤ k → K k = 0
  lo : ∀ k, k < base → K k = 0
  ka : K c = 1
  ob : ∃ vs m1 m2, Obj3 W c vs ∧ SParts W K vs m1 m2 T
section
variable {W W' W1 : World} {K K' : Nat → Nat} {base c : Nat} {T T' : Sto}
theorem StoAt.lt (h : StoAt W K base c T) : c < W.heap.size := by obtain ⟨_, _, _, h, _⟩ := h.ob; exact h.lt
theorem StoAt.base_lt (h : StoAt W K base c T) : base ≤ c := by
  rcases Nat.lt_or_ge c base with h1 | h1
  · have := h.lo c h1; have := h.ka; omega
  · exact h1
theorem StoAt.only {S : Nat → Prop} (h : StoAt W K base c T) (ho : Only S W W') (hS : ∀ k, K k ≠ 0 → K k ≤ 9 → ¬ S k) : StoAt W' K base c T := by
  obtain ⟨vs, m1, m2, ob, p⟩ := h.ob
  exact ⟨fun k hk => h.fr k (Nat.le_trans ho.size hk), h.lo, h.ka, vs, m1, m2, ob.only ho (hS c (by rw [h.ka]; omega) (by rw [h.ka]; omega)), p.only h.fr ho (Ext.refl _ _) (fun k hk hk2 => hS k (by omega) hk2)⟩
theorem StoAt.later (h : StoAt W K base c T) (hb : Below W.heap.size W W') : StoAt W' K base c T :=
  h.only (Only.of_below (T := fun _ => False) hb) (fun _ _ _ h => h)
theorem StepT.toBelowS (h : StepT W W' K K') (ht : StoAt W K base c T) : Below base W W' :=
  h.only.below (fun k hk => by
    rcases Nat.lt_or_ge k base with h1 | h1
    · have := ht.lo k h1; omega
    · exact h1) (Nat.le_trans ht.base_lt (Nat.le_of_lt ht.lt))
theorem StoAt.put (h : StoAt W K base c T) (i t : Nat) (hi : i < 3) (ht : 2 ≤ t ∧ t ≤ 8) (u : Value) (ho : Only (fun k => K k = t) W W1) (hx : Ext K K' W.heap.size) (hf : ∀ k, W1.heap.size ≤ k → K' k = 0) (hlo : ∀ k, k < base → K' k = 0)
    (hp : ∀ vs m1 m2, SParts W K vs m1 m2 T → SParts W1 K' (upd vs i u) m1 m2 T') : StoAt (W1.setCell ⟨c, i, none⟩ u) K' base c T' ∧ StepT W (W1.setCell ⟨c, i, none⟩ u) K K' := by
  obtain ⟨vs, m1, m2, ob, p⟩ := h.ob
  have ka' : K' c = 1 := (hx c h.lt).trans h.ka
  have ho2 := Only.of_setCell W1 ⟨c, i, none⟩ u
  refine ⟨⟨fun k hk => hf k (by simpa using hk), hlo, ka', upd vs i u, m1, m2, ?_, ?_⟩, ⟨ho.comp ho2 (fun k _ e => by omega) (fun k _ e => by have e2 : k = c := e; show 1 ≤ K k ∧ K k ≤ 8; rw [e2, h.ka]; omega), hx⟩⟩
  · exact (ob.only ho (by rw [h.ka]; omega)).set i hi u
  · exact (hp vs m1 m2 p).only hf ho2 (Ext.refl _ _) (fun k hk _ e => by have e2 : k = c := e; rw [e2, ka'] at hk; omega)
theorem StoAt.inside (h : StoAt W K base c T) (t : Nat) (ht : 2 ≤ t ∧ t ≤ 8) (ho : Only (fun k => K k = t) W W1)
    (hp : ∀ vs m1 m2, Obj3 W c vs → SParts W K vs m1 m2 T → SParts W1 K vs m1 m2 T') : StoAt W1 K base c T' ∧ StepT W W1 K K := by
  obtain ⟨vs, m1, m2, ob, p⟩ := h.ob
  refine ⟨⟨fun k hk => h.fr k (Nat.le_trans ho.size hk), h.lo, h.ka, vs, m1, m2, ob.only ho (by rw [h.ka]; omega), hp vs m1 m2 ob p⟩, ⟨ho.mono (fun k _ e => by omega), Ext.refl _ _⟩⟩
theorem StoAt.laterK (h : StoAt W K base c T) (hb : Below W.heap.size W W') (hx : Ext K K' W.heap.size) (hf : ∀ k, W'.heap.size ≤ k → K' k = 0) (hlo : ∀ k, k < base → K' k = 0) : StoAt W' K' base c T := by
  obtain ⟨vs, m1, m2, ob, p⟩ := h.ob
  have ho : Only (fun _ => False) W W' := Only.of_below hb
  exact ⟨hf, hlo, (hx c h.lt).trans h.ka, vs, m1, m2, ob.only ho (fun h => h), p.only h.fr ho hx (fun _ _ _ h => h)⟩
theorem StoAt.pushN {v' : Value} {p : Option Addr} {n z : Nat} (h : StoAt W K base c T) (h0 : W.cell? ⟨c, 0, none⟩ = some (.slice p n z)) (x : Nd) (ha : NdArgs W K x) (own : W1.ownsRow 0 89 5 v' (T.nodes.length + 1) (flatN T.nodes ++ ndV x)) (hg : W.grownBy W1 (Value.slice p n z).ownBlock) (hloc : v'.ownBlock = (Value.slice p n z).ownBlock ∨ v'.ownBlock = some W.heap.size) :
    ∃ K', StoAt (W1.setCell ⟨c, 0, none⟩ v') K' base c { T with nodes := T.nodes ++ [x] } ∧ StepT W (W1.setCell ⟨c, 0, none⟩ v') K K' ∧ W1.cell? ⟨c, 0, none⟩ = some (.slice p n z) ∧ W1.frozen? ⟨c, 0, none⟩ = false := by
  obtain ⟨vs, m1, m2, ob, p0⟩ := h.ob
  have e0 := ob.1 0 (by omega)
  rw [h0] at e0
  injection e0 with e0
  have r0 := p0.r0
  rw [← e0] at r0
  obtain ⟨r, ho, hx, hf, hlo⟩ := r0.grow own hg hloc h.fr h.lo (Nat.le_trans h.base_lt (Nat.le_of_lt h.lt)) (by omega)
  have hc : ¬ K c = 2 := by rw [h.ka]; omega
  obtain ⟨a, b⟩ := h.put 0 2 (T' := { T with nodes := T.nodes ++ [x] }) (by omega) (by omega) v' ho hx hf hlo (fun vs1 m3 m4 q =>
    ⟨by simpa [upd, flatN_snoc] using r, q.h4, q.h5, (hx _ q.q4.lt).trans q.k4, (hx _ q.q5.lt).trans q.k5, q.q4.only ho (by rw [q.k4]; omega), q.q5.only ho (by rw [q.k5]; omega), fun i y hi => by
      rcases nodes_snoc hi with hi | ⟨_, rfl⟩
      · exact (q.ar i y hi).only h.fr ho hx (fun k e => by omega)
      · exact ha.only h.fr ho hx (fun k e => by omega)⟩)
  exact ⟨_, a, b, ho.cell h0 hc, by rw [ho.frozen h.lt hc]; exact ob.2 0⟩
theorem StoAt.inM1 (h : StoAt W K base c T) {m1 : Nat} (h4 : W.cell? ⟨c, 1, none⟩ = some (.map (some m1))) {f : Lit → Option Value} {n : Nat} (hg : W.grownBy W1 (some m1)) (hf : FMap W1 129 m1 f n) :
    StoAt W1 K base c { T with f1 := f, n1 := n } ∧ StepT W W1 K K := by
  obtain ⟨vs, m1', m2, ob, p0⟩ := h.ob
  have e4 := ob.1 1 (by omega)
  rw [h4, p0.h4] at e4
  cases e4
  have ho : Only (fun k => K k = 6) W W1 := (Only.of_grown hg).mono (fun k _ e => by cases e; exact p0.k4)
  have hx := Ext.refl K W.heap.size
  exact h.inside 6 (by omega) ho (fun vs1 m3 m4 ob1 q => by
    have e5 := ob1.1 1 (by omega)
    rw [h4, q.h4] at e5
    cases e5
    exact ⟨q.r0.only ho hx (fun k e => by omega), q.h4, q.h5, q.k4, q.k5, hf, q.q5.only ho (by rw [q.k5]; omega), fun i x hi => (q.ar i x hi).only h.fr ho hx (fun k e => by omega)⟩)
theorem StoAt.inM2 (h : StoAt W K base c T) {m1 : Nat} (h4 : W.cell? ⟨c, 2, none⟩ = some (.map (some m1))) {f : Lit → Option Value} {n : Nat} (hg : W.grownBy W1 (some m1)) (hf : FMap W1 9 m1 f n) :
    StoAt W1 K base c { T with f2 := f, n2 := n } ∧ StepT W W1 K K := by
  obtain ⟨vs, m1', m2, ob, p0⟩ := h.ob
  have e4 := ob.1 2 (by omega)
  rw [h4, p0.h5] at e4
  cases e4
  have ho : Only (fun k => K k = 7) W W1 := (Only.of_grown hg).mono (fun k _ e => by cases e; exact p0.k5)
  have hx := Ext.refl K W.heap.size
  exact h.inside 7 (by omega) ho (fun vs1 m3 m4 ob1 q => by
    have e5 := ob1.1 2 (by omega)
    rw [h4, q.h5] at e5
    cases e5
    exact ⟨q.r0.only ho hx (fun k e => by omega), q.h4, q.h5, q.k4, q.k5, q.q4.only ho (by rw [q.k4]; omega), hf, fun i x hi => (q.ar i x hi).only h.fr ho hx (fun k e => by omega)⟩)
theorem StoAt.row0 (h : StoAt W K base c T) : ∃ p z, W.cell? ⟨c, 0, none⟩ = some (.slice p T.nodes.length z) ∧ W.ownsRow 0 89 5 (.slice p T.nodes.length z) T.nodes.length (flatN T.nodes) := by
  obtain ⟨vs, m1, m2, ob, q⟩ := h.ob
  have e0 := ob.1 0 (by omega)
  obtain ⟨p, z, e⟩ := own_shape q.r0.own
  have := q.r0.own
  rw [e] at e0 this
  exact ⟨p, z, e0, this⟩
theorem StoAt.map1 (h : StoAt W K base c T) : ∃ m, W.cell? ⟨c, 1, none⟩ = some (.map (some m)) ∧ FMap W 129 m T.f1 T.n1 := by
  obtain ⟨vs, m1, m2, ob, q⟩ := h.ob
  have e0 := ob.1 1 (by omega)
  rw [q.h4] at e0
  exact ⟨m1, e0, q.q4⟩
theorem StoAt.map2 (h : StoAt W K base c T) : ∃ m, W.cell? ⟨c, 2, none⟩ = some (.map (some m)) ∧ FMap W 9 m T.f2 T.n2 := by
  obtain ⟨vs, m1, m2, ob, q⟩ := h.ob
  have e0 := ob.1 2 (by omega)
  rw [q.h5] at e0
  exact ⟨m2, e0, q.q5⟩
theorem StoAt.fz (h : StoAt W K base c T) (i : Nat) : W.frozen? ⟨c, i, none⟩ = false := by
  obtain ⟨vs, m1, m2, ob, q⟩ := h.ob
  exact ob.2 i
/-- a node's cells. -/
theorem StoAt.cells (h : StoAt W K base c T) {t : Nat} {x : Nd} (hx : T.nodes[t]? = some x) : ∃ g z, W.cell? ⟨c, 0, none⟩ = some (.slice (some ⟨g, 0, none⟩) T.nodes.length z) ∧ K g = 2 ∧
    W.cell? ⟨g, t * 5, none⟩ = some (.int .u8 x.q) ∧ W.cell? ⟨g, t * 5 + 1, none⟩ = some (.int .i64 x.f) ∧ W.cell? ⟨g, t * 5 + 2, none⟩ = some (.int .i64 x.n) ∧ W.cell? ⟨g, t * 5 + 3, none⟩ = some (.int .i64 x.s) ∧ W.cell? ⟨g, t * 5 + 4, none⟩ = some (.slice x.P x.L x.C) := by
  obtain ⟨vs, m1, m2, ob, q⟩ := h.ob
  have e0 := ob.1 0 (by omega)
  have hlt := (List.getElem?_eq_some_iff.1 hx).1
  obtain ⟨g, z, e⟩ := own_some q.r0.own (by omega)
  have ho := q.r0.own
  have htg := q.r0.tg g (by rw [e]; rfl)
  rw [e] at e0 ho
  obtain ⟨g', c', hv, _, hcl⟩ := own_cells ho (by intro e; cases e)
  cases hv
  obtain ⟨a, b, d, f, k⟩ := flatN_get T.nodes t x hx
  exact ⟨g, z, e0, htg, hcl _ _ a, hcl _ _ b, hcl _ _ d, hcl _ _ f, hcl _ _ k⟩
theorem StoAt.nargs (h : StoAt W K base c T) {t : Nat} {x : Nd} (hx : T.nodes[t]? = some x) : NdArgs W K x := by
  obtain ⟨vs, m1, m2, ob, q⟩ := h.ob
  exact q.ar t x hx
/-- the row of arguments that the store keeps. -/
theorem StoAt.args (h : StoAt W K base c T) {v : Value} {n : Nat} {V : Nat → Int} {e : TypeId} (hb : Below W.heap.size W W') (ho : W'.ownsRow W.heap.size e 1 v n (rowV n V)) : ∃ K' P C, v = .slice P n C ∧ StoAt W' K' base c T ∧ StepT W W' K K' ∧ IntsIn W' P n V ∧ ∀ ad, P = some ad → K' ad.block = 9 := by
  obtain ⟨p, z, rfl, hp⟩ := own_shp ho
  have hbs : base ≤ W.heap.size := Nat.le_trans h.base_lt (Nat.le_of_lt h.lt)
  have hx : Ext K (upK K (Value.slice p n z).ownBlock 9) W.heap.size := fun k hk => upK_ne (fun e => by have := (own_lt ho e).1; omega)
  refine ⟨_, p, z, rfl, h.laterK hb hx (fun k hk => ?_) (fun k hk => ?_), ⟨Only.of_below hb, hx⟩, ?_, fun ad e => ?_⟩
  · rw [upK_ne (fun e => by have := (own_lt ho e).2; omega)]
    exact h.fr k (Nat.le_trans hb.size hk)
  · rw [upK_ne (fun e => by have := (own_lt ho e).1; omega)]
    exact h.lo k hk
  · obtain ⟨p', c', e, hI, _⟩ := own_intsIn ho
    cases e
    exact hI
  · obtain ⟨e1, _⟩ := hp ad e
    unfold upK
    rw [if_pos (by rw [e, e1]; rfl)]
end
end Go.Proofs.Ytkjmmdffelhkiaa
