/- DeclareSort. -/
import Derived.Test.YtkjmmdffelhkiaaS6
namespace Go.Proofs.Ytkjmmdffelhkiaa
open Go Go.RowKit Go.Maps

variable {W : World} {K : Nat → Nat} {base c : Nat} {T : Tab}
noncomputable
def addS (T : Tab) (N : ByteArray) : Tab := { T with names := T.names ++ [N], sorts := T.sorts ++ [T.names.length], f1 := updF T.f1 (keyS N) (some (sV T.names.length)), n1 := if (T.f1 (keyS N)).isSome then T.n1 else T.n1 + 1 }
theorem Good.addS (g : Good T) {N : ByteArray} (hf : T.f1 (keyS N) = none) (hn : T.names.length < 2000) (h1 : NotGiven N) (hz : N.size ≤ 100000) : Good (addS T N) := by
  have hlt : ∀ j ∈ T.sorts, j < T.names.length := fun j hj => by
    obtain ⟨s, hs, _⟩ := g.g1 j hj
    exact (List.getElem?_eq_some_iff.1 hs).1
  refine ⟨fun j hj => ?_, ?_, g.g3, g.g4, g.g5, fun p hp => ?_, ?_, g.b2, g.b3, ?_, g.b5, ?_, g.b7, fun s hs => ?_, g.b9⟩
  · rcases List.mem_append.1 hj with hj | hj
    · obtain ⟨s, hs, hv, a⟩ := g.g1 j hj
      refine ⟨s, ?_, ?_, a⟩
      · show (T.names ++ [N])[j]? = _
        rw [List.getElem?_append_left (hlt j hj)]; exact hs
      · show updF _ _ _ _ = _
        unfold updF
        rw [if_neg (fun e => by rw [e, hf] at hv; cases hv)]
        exact hv
    · obtain rfl := List.mem_singleton.1 hj
      refine ⟨N, ?_, ?_, h1⟩
      · show (T.names ++ [N])[T.names.length]? = _
        simp
      · show updF _ _ _ _ = _
        unfold updF
        rw [if_pos rfl]
  · show (T.sorts ++ [T.names.length]).Pairwise _
    rw [List.pairwise_append]
    exact ⟨g.g2, by simp, fun a ha b hb => by obtain rfl := List.mem_singleton.1 hb; exact hlt a ha⟩
  · have := g.g6 p hp
    show _ ≤ (T.sorts ++ [_]).length ∧ _
    rw [List.length_append]
    exact ⟨by omega, this.2⟩
  · show (T.names ++ [N]).length ≤ _
    rw [List.length_append]; simp; omega
  · show (T.sorts ++ [_]).length ≤ (T.names ++ [N]).length
    have := g.b4
    rw [List.length_append, List.length_append]; simp; omega
  · show (if (T.f1 (keyS N)).isSome then T.n1 else T.n1 + 1) ≤ (T.names ++ [N]).length
    have := g.b6
    rw [hf, List.length_append]; simp; omega
  · rcases List.mem_append.1 hs with hs | hs
    · exact g.b8 s hs
    · obtain rfl := List.mem_singleton.1 hs; exact hz
def DeclS (T : Tab) (N : ByteArray) (bs : Bool → Prop) (base c : Nat) (K : Nat → Nat) (W : World) (e : Ending) (w' : World) : Prop :=
  ∃ K' T' s er, e = .returned (.tuple #[.int .i64 s, .int .i64 er]) ∧ TabAt w' K' base c T' ∧ Good T' ∧ StepT W w' K K' ∧ ((er ≠ 0 ∧ T' = T ∧ (bs false ∨ ¬ NotGiven N ∨ T.f1 (keyS N) ≠ none ∨ 2000 ≤ T.names.length)) ∨ (er = 0 ∧ s = 2 + (T.names.length : Int) ∧ NotGiven N ∧ T' = addS T N))
/-- a name more in the row of names. -/
theorem TabAt.pushN {W1 : World} {v' : Value} {p : Option Addr} {n z : Nat} (h : TabAt W K base c T) (h0 : W.cell? ⟨c, 0, none⟩ = some (.slice p n z)) (N : ByteArray) (own : W1.ownsRow 0 9 1 v' (T.names.length + 1) (T.names.map Value.string ++ [.string N])) (hg : W.grownBy W1 (Value.slice p n z).ownBlock) (hloc : v'.ownBlock = (Value.slice p n z).ownBlock ∨ v'.ownBlock = some W.heap.size) :
    ∃ K', TabAt (W1.setCell ⟨c, 0, none⟩ v') K' base c { T with names := T.names ++ [N] } ∧ StepT W (W1.setCell ⟨c, 0, none⟩ v') K K' ∧ W1.cell? ⟨c, 0, none⟩ = some (.slice p n z) ∧ W1.frozen? ⟨c, 0, none⟩ = false := by
  obtain ⟨vs, m1, m2, ob, p0⟩ := h.ob
  have e0 := ob.1 0 (by omega)
  rw [h0] at e0
  injection e0 with e0
  have r0 := p0.r0
  rw [← e0] at r0
  obtain ⟨r, ho, hx, hf, hlo⟩ := r0.grow own hg hloc h.fr h.lo (Nat.le_trans h.base_lt (Nat.le_of_lt h.lt)) (by omega)
  have hc : ¬ K c = 2 := by rw [h.ka]; omega
  obtain ⟨a, b⟩ := h.put 0 2 (T' := { T with names := T.names ++ [N] }) (by omega) (by omega) v' ho hx hf hlo (fun vs1 m3 m4 q =>
    ⟨by simpa [upd] using r, q.r1.only ho hx (fun k e => by omega), q.r2.only ho hx (fun k e => by omega), q.r3.only ho hx (fun k e => by omega), q.h4, q.h5, (hx _ q.q4.lt).trans q.k4, (hx _ q.q5.lt).trans q.k5, q.q4.only ho (by rw [q.k4]; omega), q.q5.only ho (by rw [q.k5]; omega), q.r6.only ho hx (fun k e => by omega), fun i x hi => (q.ar i x hi).only h.fr ho hx (fun k e => by omega)⟩)
  exact ⟨_, a, b, ho.cell h0 hc, by rw [ho.frozen h.lt hc]; exact ob.2 0⟩
theorem TabAt.pushS {W1 : World} {v' : Value} {p : Option Addr} {n z : Nat} (h : TabAt W K base c T) (h0 : W.cell? ⟨c, 2, none⟩ = some (.slice p n z)) (N : Nat) (own : W1.ownsRow 0 33 1 v' (T.sorts.length + 1) (T.sorts.map sV ++ [sV N])) (hg : W.grownBy W1 (Value.slice p n z).ownBlock) (hloc : v'.ownBlock = (Value.slice p n z).ownBlock ∨ v'.ownBlock = some W.heap.size) :
    ∃ K', TabAt (W1.setCell ⟨c, 2, none⟩ v') K' base c { T with sorts := T.sorts ++ [N] } ∧ StepT W (W1.setCell ⟨c, 2, none⟩ v') K K' ∧ W1.cell? ⟨c, 2, none⟩ = some (.slice p n z) ∧ W1.frozen? ⟨c, 2, none⟩ = false := by
  obtain ⟨vs, m1, m2, ob, p0⟩ := h.ob
  have e0 := ob.1 2 (by omega)
  rw [h0] at e0
  injection e0 with e0
  have r0 := p0.r2
  rw [← e0] at r0
  obtain ⟨r, ho, hx, hf, hlo⟩ := r0.grow own hg hloc h.fr h.lo (Nat.le_trans h.base_lt (Nat.le_of_lt h.lt)) (by omega)
  have hc : ¬ K c = 4 := by rw [h.ka]; omega
  obtain ⟨a, b⟩ := h.put 2 4 (T' := { T with sorts := T.sorts ++ [N] }) (by omega) (by omega) v' ho hx hf hlo (fun vs1 m3 m4 q =>
    ⟨q.r0.only ho hx (fun k e => by omega), q.r1.only ho hx (fun k e => by omega), by simpa [upd] using r, q.r3.only ho hx (fun k e => by omega), q.h4, q.h5, (hx _ q.q4.lt).trans q.k4, (hx _ q.q5.lt).trans q.k5, q.q4.only ho (by rw [q.k4]; omega), q.q5.only ho (by rw [q.k5]; omega), q.r6.only ho hx (fun k e => by omega), fun i x hi => (q.ar i x hi).only h.fr ho hx (fun k e => by omega)⟩)
  exact ⟨_, a, b, ho.cell h0 hc, by rw [ho.frozen h.lt hc]; exact ob.2 2⟩
/-- the map of sorts turns at a name. -/
theorem TabAt.inM1 (h : TabAt W K base c T) {m1 : Nat} (h4 : W.cell? ⟨c, 4, none⟩ = some (.map (some m1))) {f : Lit → Option Value} {n : Nat} {W1 : World} (hg : W.grownBy W1 (some m1)) (hf : FMap W1 9 m1 f n) :
    TabAt W1 K base c { T with f1 := f, n1 := n } ∧ StepT W W1 K K := by
  obtain ⟨vs, m1', m2, ob, p0⟩ := h.ob
  have e4 := ob.1 4 (by omega)
  rw [h4, p0.h4] at e4
  cases e4
  have ho : Only (fun k => K k = 6) W W1 := (Only.of_grown hg).mono (fun k _ e => by cases e; exact p0.k4)
  have hx := Ext.refl K W.heap.size
  exact h.inside 6 (by omega) ho (fun vs1 m3 m4 ob1 q => by
    have e5 := ob1.1 4 (by omega)
    rw [h4, q.h4] at e5
    cases e5
    exact ⟨q.r0.only ho hx (fun k e => by omega), q.r1.only ho hx (fun k e => by omega), q.r2.only ho hx (fun k e => by omega), q.r3.only ho hx (fun k e => by omega), q.h4, q.h5, q.k4, q.k5, hf, q.q5.only ho (by rw [q.k5]; omega), q.r6.only ho hx (fun k e => by omega), fun i x hi => (q.ar i x hi).only h.fr ho hx (fun k e => by omega)⟩)
theorem TabAt.inM2 (h : TabAt W K base c T) {m1 : Nat} (h4 : W.cell? ⟨c, 5, none⟩ = some (.map (some m1))) {f : Lit → Option Value} {n : Nat} {W1 : World} (hg : W.grownBy W1 (some m1)) (hf : FMap W1 9 m1 f n) :
    TabAt W1 K base c { T with f2 := f, n2 := n } ∧ StepT W W1 K K := by
  obtain ⟨vs, m1', m2, ob, p0⟩ := h.ob
  have e4 := ob.1 5 (by omega)
  rw [h4, p0.h5] at e4
  cases e4
  have ho : Only (fun k => K k = 7) W W1 := (Only.of_grown hg).mono (fun k _ e => by cases e; exact p0.k5)
  have hx := Ext.refl K W.heap.size
  exact h.inside 7 (by omega) ho (fun vs1 m3 m4 ob1 q => by
    have e5 := ob1.1 5 (by omega)
    rw [h4, q.h5] at e5
    cases e5
    exact ⟨q.r0.only ho hx (fun k e => by omega), q.r1.only ho hx (fun k e => by omega), q.r2.only ho hx (fun k e => by omega), q.r3.only ho hx (fun k e => by omega), q.h4, q.h5, q.k4, q.k5, q.q4.only ho (by rw [q.k4]; omega), hf, q.r6.only ho hx (fun k e => by omega), fun i x hi => (q.ar i x hi).only h.fr ho hx (fun k e => by omega)⟩)
theorem TabAt.row0 (h : TabAt W K base c T) : ∃ p z, W.cell? ⟨c, 0, none⟩ = some (.slice p T.names.length z) ∧ W.ownsRow 0 9 1 (.slice p T.names.length z) T.names.length (T.names.map Value.string) := by
  obtain ⟨vs, m1, m2, ob, p0⟩ := h.ob
  obtain ⟨p, z, e, _⟩ := own_shp p0.r0.own
  have e0 := ob.1 0 (by omega)
  have o0 := p0.r0.own
  rw [e] at e0 o0
  exact ⟨p, z, e0, o0⟩
theorem TabAt.row1 (h : TabAt W K base c T) : ∃ p z, W.cell? ⟨c, 1, none⟩ = some (.slice p T.infos.length z) ∧ W.ownsRow 0 35 4 (.slice p T.infos.length z) T.infos.length (flatI T.infos) := by
  obtain ⟨vs, m1, m2, ob, p0⟩ := h.ob
  obtain ⟨p, z, e, _⟩ := own_shp p0.r1.own
  have e0 := ob.1 1 (by omega)
  have o0 := p0.r1.own
  rw [e] at e0 o0
  exact ⟨p, z, e0, o0⟩
theorem TabAt.row2 (h : TabAt W K base c T) : ∃ p z, W.cell? ⟨c, 2, none⟩ = some (.slice p T.sorts.length z) ∧ W.ownsRow 0 33 1 (.slice p T.sorts.length z) T.sorts.length (T.sorts.map sV) := by
  obtain ⟨vs, m1, m2, ob, p0⟩ := h.ob
  obtain ⟨p, z, e, _⟩ := own_shp p0.r2.own
  have e0 := ob.1 2 (by omega)
  have o0 := p0.r2.own
  rw [e] at e0 o0
  exact ⟨p, z, e0, o0⟩
theorem TabAt.row3 (h : TabAt W K base c T) : ∃ p z, W.cell? ⟨c, 3, none⟩ = some (.slice p T.funs.length z) ∧ W.ownsRow 0 3 1 (.slice p T.funs.length z) T.funs.length (T.funs.map nV) := by
  obtain ⟨vs, m1, m2, ob, p0⟩ := h.ob
  obtain ⟨p, z, e, _⟩ := own_shp p0.r3.own
  have e0 := ob.1 3 (by omega)
  have o0 := p0.r3.own
  rw [e] at e0 o0
  exact ⟨p, z, e0, o0⟩
theorem TabAt.row6 (h : TabAt W K base c T) : ∃ p z, W.cell? ⟨c, 6, none⟩ = some (.slice p T.scopes.length z) ∧ W.ownsRow 0 114 2 (.slice p T.scopes.length z) T.scopes.length (flatP T.scopes) := by
  obtain ⟨vs, m1, m2, ob, p0⟩ := h.ob
  obtain ⟨p, z, e, _⟩ := own_shp p0.r6.own
  have e0 := ob.1 6 (by omega)
  have o0 := p0.r6.own
  rw [e] at e0 o0
  exact ⟨p, z, e0, o0⟩
theorem TabAt.map1 (h : TabAt W K base c T) : ∃ m, W.cell? ⟨c, 4, none⟩ = some (.map (some m)) ∧ FMap W 9 m T.f1 T.n1 := by
  obtain ⟨vs, m1, m2, ob, p0⟩ := h.ob
  have e0 := ob.1 4 (by omega)
  rw [p0.h4] at e0
  exact ⟨m1, e0, p0.q4⟩
theorem TabAt.map2 (h : TabAt W K base c T) : ∃ m, W.cell? ⟨c, 5, none⟩ = some (.map (some m)) ∧ FMap W 9 m T.f2 T.n2 := by
  obtain ⟨vs, m1, m2, ob, p0⟩ := h.ob
  have e0 := ob.1 5 (by omega)
  rw [p0.h5] at e0
  exact ⟨m2, e0, p0.q5⟩
theorem TabAt.fz (h : TabAt W K base c T) (i : Nat) : W.frozen? ⟨c, i, none⟩ = false := by
  obtain ⟨vs, m1, m2, ob, p0⟩ := h.ob
  exact ob.2 i
end Go.Proofs.Ytkjmmdffelhkiaa
