/- What a push leaves beneath it. -/
import Derived.Test.YtkjmmdffelhkiaaS24
namespace Go.Proofs.Ytkjmmdffelhkiaa
open Go Go.RowKit Go.Maps

/-- a table above a scope that was opened at another one. -/
structure Under (T0 T : Tab) : Prop where
  nm : ∀ (j : Nat) (s : ByteArray), T0.names[j]? = some s → T.names[j]? = some s
  inf : ∀ (j : Nat) (x : Info), T0.infos[j]? = some x → T.infos[j]? = some x
  sl : T.scopes[T0.scopes.length]? = some (T0.sorts.length, T0.funs.length)
  so : T.sorts.take T0.sorts.length = T0.sorts
  fu : T.funs.take T0.funs.length = T0.funs
theorem Under.start (T : Tab) : Under T (addP T) :=
  ⟨fun _ _ h => h, fun _ _ h => h, by show (T.scopes ++ [_])[T.scopes.length]? = _; simp, List.take_length, List.take_length⟩
theorem take_len {l0 l : List Nat} (h : l.take l0.length = l0) : l0.length ≤ l.length := by
  have := congrArg List.length h
  rw [List.length_take] at this
  omega
theorem get_left {α : Type} {l : List α} {j : Nat} {s x : α} (h : l[j]? = some s) : (l ++ [x])[j]? = some s := by
  rw [List.getElem?_append_left (List.getElem?_eq_some_iff.1 h).1]; exact h
theorem Under.rel {T0 T T' : Tab} {kd n : Int} (h : Under T0 T) (g : Good T) (hr : Rel T T' kd n) (hn : kd = 3 → n ≤ (T.scopes.length : Int) - T0.scopes.length - 1) : Under T0 T' := by
  rcases hr with rfl | ⟨N, rfl⟩ | ⟨x, rfl⟩ | rfl | ⟨h3, l, a, b, g1, n1, g2, n2, h1, h2, h4, rfl⟩
  · exact h
  · exact ⟨fun j s hs => get_left (h.nm j s hs), h.inf, h.sl, by show (T.sorts ++ [_]).take _ = _; rw [List.take_append_of_le_length (take_len h.so)]; exact h.so, h.fu⟩
  · exact ⟨h.nm, fun j s hs => get_left (h.inf j s hs), h.sl, h.so, by show (T.funs ++ [_]).take _ = _; rw [List.take_append_of_le_length (take_len h.fu)]; exact h.fu⟩
  · exact ⟨h.nm, h.inf, get_left h.sl, h.so, h.fu⟩
  · have hl : T0.scopes.length < l := by have := hn h3; omega
    obtain ⟨q1, e1⟩ := List.getElem?_eq_some_iff.1 h.sl
    obtain ⟨q2, e2⟩ := List.getElem?_eq_some_iff.1 h4
    have h5 := List.pairwise_iff_getElem.1 g.g5 _ _ q1 q2 hl
    rw [e1, e2] at h5
    simp only at h5
    refine ⟨h.nm, h.inf, ?_, ?_, ?_⟩
    · show (T.scopes.take l)[_]? = _
      rw [List.getElem?_take, if_pos hl]; exact h.sl
    · show (T.sorts.take a).take _ = _
      rw [List.take_take, Nat.min_eq_left h5.1]; exact h.so
    · show (T.funs.take b).take _ = _
      rw [List.take_take, Nat.min_eq_left h5.2]; exact h.fu
/-- where the first calls stand. -/
structure LR (W wr : World) (K : Nat → Nat) (c r : Nat) (T : Tab) : Prop where
  tab : TabAt wr K W.heap.size c T
  good : Good T
  rf : RefAt wr K r
  b : Below W.heap.size W wr
theorem LR.later {W wr w' : World} {K : Nat → Nat} {c r : Nat} {T : Tab} (h : LR W wr K c r T) (hb : Below wr.heap.size wr w') : LR W w' K c r T :=
  ⟨h.tab.later hb, h.good, h.rf.later hb, h.b.trans (hb.mono h.b.size)⟩
/-- the document's table, new. -/
theorem ref_new {W W1 : World} {K : Nat → Nat} {c : Nat} {T : Tab} (h : TabAt W1 K W.heap.size c T) (g : Good T) (hb : Below W.heap.size W W1) :
    ∃ K', LR W (W1.alloc (.cells #[.slice none 0 0, .slice none 0 0, .int .i64 0] 30)) K' c W1.heap.size T := by
  have hb1 := below1 W1 (.cells #[.slice none 0 0, .slice none 0 0, .int .i64 0] 30)
  have hs := hb.size
  refine ⟨upK K (some W1.heap.size) 11, h.laterK hb1 (fun k hk => upK_ne (by intro e; injection e with e; omega)) (fun k hk => ?_) (fun k hk => ?_), g, ⟨by unfold upK; rw [if_pos rfl], ⟨.slice none 0 0, [], by simp [go_sem], row0_at _ _ _ _ _, by simp⟩, ⟨.slice none 0 0, [], by simp [go_sem], row0_at _ _ _ _ _, by simp⟩, ⟨0, by omega, by omega, by simp [go_sem]⟩, fun i => by simp [go_sem]⟩, hb.trans (hb1.mono hs)⟩
  · rw [upK_ne (by intro e; injection e with e; simp at hk; omega)]
    exact h.fr k (by simp at hk; omega)
  · rw [upK_ne (by intro e; injection e with e; omega)]
    exact h.lo k hk
end Go.Proofs.Ytkjmmdffelhkiaa
