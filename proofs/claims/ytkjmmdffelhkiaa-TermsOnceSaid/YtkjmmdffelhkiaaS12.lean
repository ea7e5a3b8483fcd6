/- Pop: parts of rows; what is cut off. -/
import Derived.Test.YtkjmmdffelhkiaaS11
namespace Go.Proofs.Ytkjmmdffelhkiaa
open Go Go.RowKit Go.Maps

variable {W : World} {K : Nat → Nat} {base c : Nat} {T : Tab}
theorem sizeOf33 (w : World) : (Go.sizeOf 33).run Try.prog w = .ok 1 w := by kernel_rfl
theorem sizeOf3 (w : World) : (Go.sizeOf 3).run Try.prog w = .ok 1 w := by kernel_rfl
theorem sizeOf114 (w : World) : (Go.sizeOf 114).run Try.prog w = .ok 2 w := by kernel_rfl
def lowP (p : Option Addr) (z a : Nat) : Option Addr := if z = a then p else p.map (·.add (a * 1))
theorem slice_low32 {p : Option Addr} {n z a : Nat} (w : World) (ha : a ≤ n) : (Instr.slice 32 (.slice p n z) (some (.int .i64 (a : Int))) none none).run Try.prog w = .ok (.slice (lowP p z a) (n - a) (z - a)) w := by
  have h3 : (a : Int) ≤ (n : Int) := by omega
  simp [Instr.slice, run_underlying Try.underlying32, Instr.sliceBounds, Instr.sliceBound, asIntOf, sizeOf33, h3, lowP]
  intro hh; omega
theorem slice_low39 {p : Option Addr} {n z a : Nat} (w : World) (ha : a ≤ n) : (Instr.slice 39 (.slice p n z) (some (.int .i64 (a : Int))) none none).run Try.prog w = .ok (.slice (lowP p z a) (n - a) (z - a)) w := by
  have h3 : (a : Int) ≤ (n : Int) := by omega
  simp [Instr.slice, run_underlying Try.underlying39, Instr.sliceBounds, Instr.sliceBound, asIntOf, sizeOf3, h3, lowP]
  intro hh; omega
theorem add_zero' (p : Option Addr) : p.map (·.add 0) = p := by cases p <;> rfl
theorem slice_high32 {p : Option Addr} {n z a : Nat} (w : World) (ha : a ≤ z) : (Instr.slice 32 (.slice p n z) none (some (.int .i64 (a : Int))) none).run Try.prog w = .ok (.slice p a z) w := by
  have h3 : (a : Int) ≤ (z : Int) := by omega
  have h4 := add_zero' p
  simp [Instr.slice, run_underlying Try.underlying32, Instr.sliceBounds, Instr.sliceBound, asIntOf, sizeOf33, h3, h4]
  intro hh; omega
theorem slice_high39 {p : Option Addr} {n z a : Nat} (w : World) (ha : a ≤ z) : (Instr.slice 39 (.slice p n z) none (some (.int .i64 (a : Int))) none).run Try.prog w = .ok (.slice p a z) w := by
  have h3 : (a : Int) ≤ (z : Int) := by omega
  have h4 := add_zero' p
  simp [Instr.slice, run_underlying Try.underlying39, Instr.sliceBounds, Instr.sliceBound, asIntOf, sizeOf3, h3, h4]
  intro hh; omega
theorem slice_high58 {p : Option Addr} {n z a : Nat} (w : World) (ha : a ≤ z) : (Instr.slice 58 (.slice p n z) none (some (.int .i64 (a : Int))) none).run Try.prog w = .ok (.slice p a z) w := by
  have h3 : (a : Int) ≤ (z : Int) := by omega
  have h4 := add_zero' p
  simp [Instr.slice, run_underlying Try.underlying58, Instr.sliceBounds, Instr.sliceBound, asIntOf, sizeOf114, h3, h4]
  intro hh; omega
theorem own_caps {w : World} {base n c : Nat} {e : TypeId} {size : Nat} {p : Option Addr} {xs : List Value} (h : w.ownsRow base e size (.slice p n c) n xs) : n ≤ c ∧ c ≤ maxLen := by
  rcases h.2 with ⟨h1, h2⟩ | ⟨g', cap, cur, hv, _, _, hn, hm, _⟩
  · simp at h1; omega
  · cases hv; exact ⟨hn, hm⟩
theorem own_cutn {w : World} {base n k c : Nat} {e : TypeId} {size : Nat} {p : Option Addr} {xs : List Value} (h : w.ownsRow base e size (.slice p n c) n xs) (hk : k ≤ n) : w.ownsRow base e size (.slice p k c) k (xs.take (k * size)) := by
  obtain ⟨h0, ⟨h1, h2⟩ | ⟨g', cap, cur, hv, hg, hh, hn, hm, hs, ht⟩⟩ := h
  · simp at h1
    obtain ⟨rfl, rfl, rfl⟩ := h1
    obtain rfl : k = 0 := by omega
    exact ⟨by simp, .inl ⟨rfl, by simp⟩⟩
  · cases hv
    have hks : k * size ≤ n * size := Nat.mul_le_mul_right _ hk
    refine ⟨by rw [List.length_take]; omega, .inr ⟨g', c, cur, rfl, hg, hh, by omega, hm, hs, ?_⟩⟩
    rw [← ht, List.take_take]
    congr 1
    omega
theorem RowAt.cut {t : Nat} {e : TypeId} {sz : Nat} {p : Option Addr} {n z k : Nat} {xs : List Value} (h : RowAt W K t e sz (.slice p n z) n xs) (hk : k ≤ n) : RowAt W K t e sz (.slice p k z) k (xs.take (k * sz)) :=
  ⟨own_cutn h.own hk, fun b hb => h.tg b (by cases p with | none => simp [Value.ownBlock] at hb | some ad => simpa [Value.ownBlock] using hb)⟩
theorem TabAt.cut2 {p : Option Addr} {n z : Nat} (h : TabAt W K base c T) (h0 : W.cell? ⟨c, 2, none⟩ = some (.slice p n z)) (k : Nat) (hk : k ≤ T.sorts.length) :
    TabAt (W.setCell ⟨c, 2, none⟩ (.slice p k z)) K base c { T with sorts := T.sorts.take k } ∧ StepT W (W.setCell ⟨c, 2, none⟩ (.slice p k z)) K K := by
  obtain ⟨vs, m1, m2, ob, p0⟩ := h.ob
  have e0 := ob.1 2 (by omega)
  rw [h0] at e0
  injection e0 with e0
  have r0 := p0.r2
  rw [← e0] at r0
  obtain ⟨p', z', e1, _⟩ := own_shp r0.own
  cases e1
  have r := r0.cut hk
  refine h.put 2 4 (by omega) (by omega) _ (Only.refl _ _) (Ext.refl _ _) h.fr h.lo (fun vs1 m3 m4 q => ⟨q.r0, q.r1, ?_, q.r3, q.h4, q.h5, q.k4, q.k5, q.q4, q.q5, q.r6, q.ar⟩)
  have e2 : (T.sorts.take k).length = k := by rw [List.length_take]; omega
  show RowAt W K 4 33 1 (upd vs1 2 (.slice p k z) 2) (T.sorts.take k).length ((T.sorts.take k).map sV)
  rw [e2, List.map_take]
  simpa [upd] using r
theorem TabAt.cut3 {p : Option Addr} {n z : Nat} (h : TabAt W K base c T) (h0 : W.cell? ⟨c, 3, none⟩ = some (.slice p n z)) (k : Nat) (hk : k ≤ T.funs.length) :
    TabAt (W.setCell ⟨c, 3, none⟩ (.slice p k z)) K base c { T with funs := T.funs.take k } ∧ StepT W (W.setCell ⟨c, 3, none⟩ (.slice p k z)) K K := by
  obtain ⟨vs, m1, m2, ob, p0⟩ := h.ob
  have e0 := ob.1 3 (by omega)
  rw [h0] at e0
  injection e0 with e0
  have r0 := p0.r3
  rw [← e0] at r0
  obtain ⟨p', z', e1, _⟩ := own_shp r0.own
  cases e1
  have r := r0.cut hk
  refine h.put 3 5 (by omega) (by omega) _ (Only.refl _ _) (Ext.refl _ _) h.fr h.lo (fun vs1 m3 m4 q => ⟨q.r0, q.r1, q.r2, ?_, q.h4, q.h5, q.k4, q.k5, q.q4, q.q5, q.r6, q.ar⟩)
  have e2 : (T.funs.take k).length = k := by rw [List.length_take]; omega
  show RowAt W K 5 3 1 (upd vs1 3 (.slice p k z) 3) (T.funs.take k).length ((T.funs.take k).map nV)
  rw [e2, List.map_take]
  simpa [upd] using r
theorem TabAt.cut6 {p : Option Addr} {n z : Nat} (h : TabAt W K base c T) (h0 : W.cell? ⟨c, 6, none⟩ = some (.slice p n z)) (k : Nat) (hk : k ≤ T.scopes.length) :
    TabAt (W.setCell ⟨c, 6, none⟩ (.slice p k z)) K base c { T with scopes := T.scopes.take k } ∧ StepT W (W.setCell ⟨c, 6, none⟩ (.slice p k z)) K K := by
  obtain ⟨vs, m1, m2, ob, p0⟩ := h.ob
  have e0 := ob.1 6 (by omega)
  rw [h0] at e0
  injection e0 with e0
  have r0 := p0.r6
  rw [← e0] at r0
  obtain ⟨p', z', e1, _⟩ := own_shp r0.own
  cases e1
  have r := r0.cut hk
  refine h.put 6 8 (by omega) (by omega) _ (Only.refl _ _) (Ext.refl _ _) h.fr h.lo (fun vs1 m3 m4 q => ⟨q.r0, q.r1, q.r2, q.r3, q.h4, q.h5, q.k4, q.k5, q.q4, q.q5, ?_, q.ar⟩)
  have e2 : (T.scopes.take k).length = k := by rw [List.length_take]; omega
  show RowAt W K 8 114 2 (upd vs1 6 (.slice p k z) 6) (T.scopes.take k).length (flatP (T.scopes.take k))
  rw [e2, flatP_take]
  simpa [upd] using r
/-- the names of what was cut are gone, those of what stays are there. -/
def Cut1 (T : Tab) (a k : Nat) (g : Lit → Option Value) : Prop :=
  (∀ i, i < k → ∀ j s, T.sorts[a + i]? = some j → T.names[j]? = some s → g (keyS s) = none) ∧ (∀ i, i < a → ∀ j s, T.sorts[i]? = some j → T.names[j]? = some s → g (keyS s) = T.f1 (keyS s)) ∧ ∀ kl, g kl = none ∨ g kl = T.f1 kl
def Cut2 (T : Tab) (a k : Nat) (g : Lit → Option Value) : Prop :=
  (∀ i, i < k → ∀ j x, T.funs[a + i]? = some j → T.infos[j]? = some x → g (keyS x.N) = none) ∧ (∀ i, i < a → ∀ j x, T.funs[i]? = some j → T.infos[j]? = some x → g (keyS x.N) = T.f2 (keyS x.N)) ∧ ∀ kl, g kl = none ∨ g kl = T.f2 kl
theorem pair_lt {l : List Nat} (h : l.Pairwise (· < ·)) {i k x y : Nat} (hi : l[i]? = some x) (hk : l[k]? = some y) (hik : i < k) : x < y := by
  obtain ⟨h1, rfl⟩ := List.getElem?_eq_some_iff.1 hi
  obtain ⟨h2, rfl⟩ := List.getElem?_eq_some_iff.1 hk
  exact List.pairwise_iff_getElem.1 h _ _ h1 h2 hik
theorem sV_inj {a b : Nat} (h : sV a = sV b) : a = b := by
  unfold sV at h
  injection h with _ h
  omega
theorem nV_inj {a b : Nat} (h : nV a = nV b) : a = b := by
  unfold nV at h
  injection h with _ h
  omega
theorem Cut1.step {a k : Nat} {g : Lit → Option Value} (gd : Good T) (h : Cut1 T a k g) {j : Nat} {s : ByteArray} (hj : T.sorts[a + k]? = some j) (hs : T.names[j]? = some s) : Cut1 T a (k + 1) (updF g (keyS s) none) := by
  refine ⟨fun i hi j' s' hj' hs' => ?_, fun i hi j' s' hj' hs' => ?_, fun kl => ?_⟩
  · unfold updF
    by_cases e : keyS s' = keyS s
    · rw [if_pos e]
    · rw [if_neg e]
      refine h.1 i ?_ j' s' hj' hs'
      rcases Nat.lt_or_ge i k with h1 | h1
      · exact h1
      · obtain rfl : i = k := by omega
        rw [hj] at hj'
        cases hj'
        rw [hs] at hs'
        cases hs'
        exact absurd rfl e
  · unfold updF
    rw [if_neg (fun e => ?_)]
    · exact h.2.1 i hi j' s' hj' hs'
    · have hlt := pair_lt gd.g2 hj' hj (by omega)
      obtain ⟨s1, e1, f1, _⟩ := gd.g1 j' (List.mem_of_getElem? hj')
      obtain ⟨s2, e2, f2, _⟩ := gd.g1 j (List.mem_of_getElem? hj)
      rw [hs'] at e1
      cases e1
      rw [hs] at e2
      cases e2
      rw [e, f2] at f1
      have := sV_inj (Option.some.inj f1)
      omega
  · unfold updF
    by_cases e : kl = keyS s
    · rw [if_pos e]; exact .inl rfl
    · rw [if_neg e]; exact h.2.2 kl
theorem Cut2.step {a k : Nat} {g : Lit → Option Value} (gd : Good T) (h : Cut2 T a k g) {j : Nat} {s : Info} (hj : T.funs[a + k]? = some j) (hs : T.infos[j]? = some s) : Cut2 T a (k + 1) (updF g (keyS s.N) none) := by
  refine ⟨fun i hi j' s' hj' hs' => ?_, fun i hi j' s' hj' hs' => ?_, fun kl => ?_⟩
  · unfold updF
    by_cases e : keyS s'.N = keyS s.N
    · rw [if_pos e]
    · rw [if_neg e]
      refine h.1 i ?_ j' s' hj' hs'
      rcases Nat.lt_or_ge i k with h1 | h1
      · exact h1
      · obtain rfl : i = k := by omega
        rw [hj] at hj'
        cases hj'
        rw [hs] at hs'
        cases hs'
        exact absurd rfl e
  · unfold updF
    rw [if_neg (fun e => ?_)]
    · exact h.2.1 i hi j' s' hj' hs'
    · have hlt := pair_lt gd.g4 hj' hj (by omega)
      obtain ⟨s1, e1, f1⟩ := gd.g3 j' (List.mem_of_getElem? hj')
      obtain ⟨s2, e2, f2⟩ := gd.g3 j (List.mem_of_getElem? hj)
      rw [hs'] at e1
      cases e1
      rw [hs] at e2
      cases e2
      rw [e, f2] at f1
      have := nV_inj (Option.some.inj f1)
      omega
  · unfold updF
    by_cases e : kl = keyS s.N
    · rw [if_pos e]; exact .inl rfl
    · rw [if_neg e]; exact h.2.2 kl
/-- a table cut back to where a scope was opened. -/
def cutT (T : Tab) (l a b : Nat) (g1 : Lit → Option Value) (n1 : Nat) (g2 : Lit → Option Value) (n2 : Nat) : Tab :=
  { T with sorts := T.sorts.take a, funs := T.funs.take b, scopes := T.scopes.take l, f1 := g1, n1 := n1, f2 := g2, n2 := n2 }
theorem Good.cut (g : Good T) {l a b : Nat} {g1 g2 : Lit → Option Value} {n1 n2 : Nat} (hl : T.scopes[l]? = some (a, b)) (h1 : Cut1 T a (T.sorts.length - a) g1) (h2 : Cut2 T b (T.funs.length - b) g2) (m1 : n1 ≤ T.n1) (m2 : n2 ≤ T.n2) : Good (cutT T l a b g1 n1 g2 n2) := by
  refine ⟨fun j hj => ?_, g.g2.sublist (List.take_sublist _ _), fun j hj => ?_, g.g4.sublist (List.take_sublist _ _), g.g5.sublist (List.take_sublist _ _), fun p hp => ?_, g.b1, g.b2, ?_, ?_, ?_, ?_, ?_, g.b8, g.b9⟩
  · obtain ⟨i, hi⟩ := List.getElem?_of_mem hj
    have hi : (T.sorts.take a)[i]? = some j := hi
    rw [List.getElem?_take] at hi
    split at hi
    · obtain ⟨s, e1, e2, e3⟩ := g.g1 j (List.mem_of_getElem? hi)
      exact ⟨s, e1, (h1.2.1 i ‹_› j s hi e1).trans e2, e3⟩
    · cases hi
  · obtain ⟨i, hi⟩ := List.getElem?_of_mem hj
    have hi : (T.funs.take b)[i]? = some j := hi
    rw [List.getElem?_take] at hi
    split at hi
    · obtain ⟨s, e1, e2⟩ := g.g3 j (List.mem_of_getElem? hi)
      exact ⟨s, e1, (h2.2.1 i ‹_› j s hi e1).trans e2⟩
    · cases hi
  · obtain ⟨i, hi⟩ := List.getElem?_of_mem hp
    have hi : (T.scopes.take l)[i]? = some p := hi
    rw [List.getElem?_take] at hi
    split at hi
    · obtain ⟨q1, rfl⟩ := List.getElem?_eq_some_iff.1 hi
      obtain ⟨q2, e2⟩ := List.getElem?_eq_some_iff.1 hl
      have := List.pairwise_iff_getElem.1 g.g5 _ _ q1 q2 ‹_›
      rw [e2] at this
      have h6 := g.g6 (a, b) (List.mem_of_getElem? hl)
      show _ ≤ (T.sorts.take a).length ∧ _ ≤ (T.funs.take b).length
      rw [List.length_take, List.length_take]
      simp only at this h6
      omega
    · cases hi
  · show (T.scopes.take l).length ≤ _
    rw [List.length_take]; have := g.b3; omega
  · show (T.sorts.take a).length ≤ T.names.length
    rw [List.length_take]; have := g.b4; omega
  · show (T.funs.take b).length ≤ T.infos.length
    rw [List.length_take]; have := g.b5; omega
  · show n1 ≤ T.names.length
    have := g.b6; omega
  · show n2 ≤ T.infos.length
    have := g.b7; omega
section
variable {w : World} {ops : Array Oper} {rest : List Oper} {o : Oper} {a : Act} {Q : Exit → Act → World → Prop}
theorem wp_del_run {K : Act → World → Prop} {t kt : TypeId} {m x : Operand} (ho : o.op = .call { callee := .builtin .delete, args := #[m, x], argTypes := #[t, kt] }) {mv key : Value} {w' : World} (hm : a.eval m = mv) (hx : a.eval x = key) (hr : (Builtin.delete_ #[t, kt] o.type #[mv, key]).run Try.prog w = .ok (.tuple #[]) w') (h : K (a.put o.dst (.tuple #[])) w') : o.wp Try.prog a w K Q := by
  unfold Oper.wp execOp
  simp only [ho, resolve, invoke, builtin, Sem.run_bind, Sem.run_pure, Result.andThen_ok, List.map_toArray, List.map_cons, List.map_nil, hm, hx, hr]
  exact h
end
end Go.Proofs.Ytkjmmdffelhkiaa
