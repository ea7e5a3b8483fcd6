/- Rows that are kept beside the tables. -/
import Derived.Test.YtkjmmdffelhkiaaS25
namespace Go.Proofs.Ytkjmmdffelhkiaa
open Go Go.RowKit Go.Maps

theorem DoP.below {W W0 : World} {K : Nat → Nat} {c r : Nat} {T : Tab} {kd n : Int} {e : Ending} {w' : World} (hr : LR W0 W K c r T) (h : DoP T kd n W0.heap.size c r K W e w') : ∃ b K' T', e = .returned (.bool b) ∧ LR W0 w' K' c r T' ∧ StepX W w' K K' ∧ Rel T T' kd n := by
  obtain ⟨b, K', T', he, ht, hg, hrf, hx, hrel⟩ := h
  exact ⟨b, K', T', he, ⟨ht, hg, hrf, hr.b.trans (hx.toBelow hr.tab)⟩, hx, hrel⟩
theorem row_fresh {wr w' : World} {K : Nat → Nat} {base c n : Nat} {T : Tab} {e : TypeId} {v : Value} {xs : List Value} (h : TabAt wr K base c T) (ho : w'.ownsRow wr.heap.size e 1 v n xs) : RowAt w' K 0 e 1 v n xs :=
  ⟨own_base ho (fun k _ => Nat.zero_le k), fun k hk => h.fr k (own_lt ho hk).1⟩
theorem LR.stepT {W wr w' : World} {K K' : Nat → Nat} {c r : Nat} {T T' : Tab} (h : LR W wr K c r T) (ht : TabAt w' K' W.heap.size c T') (hg : Good T') (hs : StepT wr w' K K') : LR W w' K' c r T' :=
  ⟨ht, hg, h.rf.step hs, h.b.trans (hs.toBelow h.tab)⟩
/-- with two rows of numbers. -/
structure LS (W wr : World) (K : Nat → Nat) (c r : Nat) (T0 T : Tab) (v8 v9 : Value) : Prop where
  lr : LR W wr K c r T
  r8 : RowAt wr K 0 33 1 v8 T0.sorts.length (T0.sorts.map sV)
  r9 : RowAt wr K 0 3 1 v9 T0.funs.length (T0.funs.map nV)
section
variable {W wr w' : World} {K K' : Nat → Nat} {c r : Nat} {T0 T T' : Tab} {v8 v9 v12 v13 : Value}
theorem LS.later (h : LS W wr K c r T0 T v8 v9) (hb : Below wr.heap.size wr w') : LS W w' K c r T0 T v8 v9 :=
  ⟨h.lr.later hb, row_step h.r8 (StepX.below hb), row_step h.r9 (StepX.below hb)⟩
theorem LS.step (h : LS W wr K c r T0 T v8 v9) (hl : LR W w' K' c r T') (hx : StepX wr w' K K') : LS W w' K' c r T0 T' v8 v9 :=
  ⟨hl, row_step h.r8 hx, row_step h.r9 hx⟩
structure L3 (W wr : World) (K : Nat → Nat) (c r : Nat) (T : Tab) (v8 v9 v12 v13 : Value) : Prop where
  s : LS W wr K c r T T v8 v9
  a : LS W wr K c r T T v12 v13
theorem L3.later (h : L3 W wr K c r T v8 v9 v12 v13) (hb : Below wr.heap.size wr w') : L3 W w' K c r T v8 v9 v12 v13 := ⟨h.s.later hb, h.a.later hb⟩
theorem popped {er n : Int} (hu : Under T0 T) (hn : n = (T.scopes.length : Int) - T0.scopes.length) (hp : (er ≠ 0 ∧ T' = T ∧ (n < 0 ∨ (T.scopes.length : Int) < n)) ∨ (er = 0 ∧ n = 0 ∧ T' = T) ∨
    (er = 0 ∧ ∃ (l a b : Nat) (g1 : Lit → Option Value) (n1 : Nat) (g2 : Lit → Option Value) (n2 : Nat), 0 < n ∧ (l : Int) = T.scopes.length - n ∧ T.scopes[l]? = some (a, b) ∧ T' = cutT T l a b g1 n1 g2 n2 ∧ Cut1 T a (T.sorts.length - a) g1 ∧ Cut2 T b (T.funs.length - b) g2)) :
    er = 0 ∧ T'.sorts = T0.sorts ∧ T'.funs = T0.funs ∧ T'.scopes.length = T0.scopes.length := by
  have hlt := (List.getElem?_eq_some_iff.1 hu.sl).1
  rcases hp with ⟨_, _, h | h⟩ | ⟨_, h, _⟩ | ⟨he, l, a, b, g1, n1, g2, n2, _, hl, hg, rfl, _, _⟩
  · omega
  · omega
  · omega
  · obtain rfl : l = T0.scopes.length := by omega
    rw [hu.sl] at hg
    injection hg with hg
    injection hg with e1 e2
    subst e1 e2
    exact ⟨he, hu.so, hu.fu, by show (T.scopes.take _).length = _; rw [List.length_take]; omega⟩
/-- the scope is shut: both rows of numbers are those of the table. -/
theorem LS.shut (h : LS W wr K c r T0 T v8 v9) (h1 : T.sorts = T0.sorts) (h2 : T.funs = T0.funs) : LS W wr K c r T T v8 v9 := by
  obtain ⟨a, b, d⟩ := h
  rw [← h1] at b
  rw [← h2] at d
  exact ⟨a, b, d⟩
end
end Go.Proofs.Ytkjmmdffelhkiaa
