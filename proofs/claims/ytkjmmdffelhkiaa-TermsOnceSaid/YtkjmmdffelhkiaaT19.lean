/- Stage 6: what the store answers to App, Num, Plus, Le, as what is asked for. -/
import Derived.Test.YtkjmmdffelhkiaaT18
namespace Go.Proofs.Ytkjmmdffelhkiaa
open Go Go.RowKit Go.Maps

variable {W : World} {K : Nat → Nat} {base c : Nat} {T : Sto} {e : Ending} {w' : World}
def RunS (T : Sto) (q : Req) (base c : Nat) (K : Nat → Nat) (W : World) (e : Ending) (w' : World) : Prop :=
  ∃ K' T' t er, e = .returned (.tuple #[.int .i64 t, .int .i64 er]) ∧ StoAt w' K' base c T' ∧ GoodS T' ∧ StepT W w' K K' ∧ Ans T.nodes q t er T'.nodes
theorem MakeP.run {x : Nd} {P : Option Addr} {C : Nat} (h : MakeP T { x with P := P, C := C } base c K W e w') : RunS T (.mk x) base c K W e w' := by
  obtain ⟨K', T', t, er, he, hst, hg, hs, hc⟩ := h
  refine ⟨K', T', t, er, he, hst, hg, hs, ?_⟩
  rcases hc with ⟨rfl, rfl, j, y, rfl, hy, hs⟩ | ⟨rfl, rfl, rfl, hl, hf⟩ | ⟨rfl, rfl, hl, hf, P', C', i, rfl⟩
  · exact .inl ⟨rfl, rfl, j, y, rfl, hy, ⟨hs.q, hs.f, hs.n, hs.s, hs.L, hs.V⟩⟩
  · exact .inr (.inl ⟨rfl, rfl, rfl, hl, fun t y hy hs => hf t y hy ⟨hs.q, hs.f, hs.n, hs.s, hs.L, hs.V⟩⟩)
  · exact .inr (.inr ⟨rfl, rfl, hl, fun t y hy hs => hf t y hy ⟨hs.q, hs.f, hs.n, hs.s, hs.L, hs.V⟩, P', C', rfl⟩)
theorem NoP.run {er : Int} (h : StoAt W K base c T) (g : GoodS T) (hn : NoP er W e w') : RunS T (.no er) base c K W e w' :=
  ⟨K, T, 0, er, hn.1, h.later hn.2, g, StepT.below hn.2, rfl, rfl, rfl⟩
theorem is_run {t : Int} (h : StoAt W K base c T) (g : GoodS T) (he : e = .returned (.tuple #[.int .i64 t, .int .i64 0])) (hb : Below W.heap.size W w') : RunS T (.is t) base c K W e w' :=
  ⟨K, T, t, 0, he, h.later hb, g, StepT.below hb, rfl, rfl, rfl⟩
theorem RunS.from {q : Req} {w1 : World} (h : RunS T q base c K w1 e w') (hb : Below W.heap.size W w1) : RunS T q base c K W e w' := by
  obtain ⟨K', T', t, er, he, hst, hg, hs, hc⟩ := h
  exact ⟨K', T', t, er, he, hst, hg, (StepT.below hb).trans hs, hc⟩
theorem SpR.eq {t b o er : Int} (h : SpR T t b o er) : spL T.nodes t = (b, o, er) := by
  unfold spL
  rcases h with ⟨hn, rfl, rfl, rfl⟩ | ⟨hin, x, hx, h⟩
  · rw [if_neg (show ¬ InL T.nodes t from hn)]
  · rw [if_pos (show InL T.nodes t from hin), hx]
    simp only
    unfold spN
    rcases h with ⟨h, rfl, rfl, rfl⟩ | ⟨h, rfl, ⟨h3, rfl, rfl⟩ | ⟨h4, rfl, rfl⟩ | ⟨h3, h4, rfl, rfl⟩⟩
    · rw [if_neg h]
    · rw [if_pos h, if_pos h3]
    · rw [if_pos h, if_neg (by omega), if_pos h4]
    · rw [if_pos h, if_neg h3, if_neg h4]
theorem app_run (h : StoAt W K base c T) (g : GoodS T) (h0 : 0 < T.nodes.length) (f s : Int) (hf : I64 f) (hs : I64 s) (p : Option Addr) (n z : Nat) (V : Nat → Int) (hV : IntsIn W p n V) (hn : n ≤ 9223372036854775807) :
    Calls Try.prog 35 #[.pointer (some ⟨c, 0, none⟩), .int .i64 f, .int .i64 s, .slice p n z] W (RunS T (appQ (view T.nodes) f s n V) base c K W) := by
  refine (app_any h g h0 f s hf hs p n z V hV hn).mono fun e w' hm => ?_
  unfold appQ
  rcases hm with ⟨h1, hm⟩ | ⟨h1, h2, ⟨i, hi, hni⟩, hm⟩ | ⟨h1, h2, h3, h4, hm⟩ | ⟨h1, h2, h3, h4, hm⟩
  · rw [if_pos h1]; exact hm.run h g
  · rw [if_neg (by omega), if_neg (fun h => hni (h i hi))]; exact hm.run h g
  · rw [if_neg (by omega), if_pos (show ∀ i, i < n → (view T.nodes).ok (V i) from h3), if_pos h4]; exact hm.run h g
  · rw [if_neg (by omega), if_pos (show ∀ i, i < n → (view T.nodes).ok (V i) from h3), if_neg (by omega)]
    exact MakeP.run (x := ⟨5, f, 0, s, none, n, n, V⟩) hm
theorem num_run (h : StoAt W K base c T) (g : GoodS T) (h0 : 0 < T.nodes.length) (n : Int) (hn : I64 n) :
    Calls Try.prog 49 #[.pointer (some ⟨c, 0, none⟩), .int .i64 n] W (RunS T (numQ n) base c K W) := by
  refine (num_any h g h0 n hn).mono fun e w' hm => ?_
  unfold numQ
  rcases hm with ⟨h1, hm⟩ | ⟨h1, hm⟩
  · rw [if_neg h1]; exact hm.run h g
  · rw [if_pos h1]; exact MakeP.run (x := numN n) hm
theorem plus_run (h : StoAt W K base c T) (g : GoodS T) (h0 : 0 < T.nodes.length) (t n : Int) (hn : I64 n) :
    Calls Try.prog 42 #[.pointer (some ⟨c, 0, none⟩), .int .i64 t, .int .i64 n] W (RunS T (plusQ (view T.nodes) t n) base c K W) := by
  refine (plus_any h g h0 t n hn).mono fun e w' hm => ?_
  unfold plusQ
  rcases hm with ⟨b, o, er, hs, he, hm⟩ | ⟨b, o, hs, hm⟩
  · rw [show (view T.nodes).sp t = (b, o, er) from hs.eq, if_neg he]; exact hm.run h g
  · rw [show (view T.nodes).sp t = (b, o, 0) from hs.eq]
    simp only
    rw [if_pos trivial]
    have ho := (hs.ok g).2.2 rfl
    rcases hm with ⟨hno, hm⟩ | ⟨h1, h2, hm⟩
    · rw [if_neg (fun h => hno ⟨h.1, by have := h.2; unfold InB at this; unfold I64; omega, h.2⟩)]; exact hm.run h g
    · rw [if_pos ⟨h1, h2⟩]
      rcases hm with ⟨rfl, hm⟩ | ⟨hb, h3, he, hbl⟩ | ⟨hb, h3, p, hm⟩
      · rw [if_pos rfl]; exact MakeP.run (x := numN _) hm
      · rw [if_neg hb, if_pos h3]; exact is_run h g he hbl
      · rw [if_neg hb, if_neg h3]; exact MakeP.run (x := plusN _ _ none) hm
theorem le_run (h : StoAt W K base c T) (g : GoodS T) (h3 : 3 ≤ T.nodes.length) (a b n : Int) (hn : I64 n) :
    Calls Try.prog 50 #[.pointer (some ⟨c, 0, none⟩), .int .i64 a, .int .i64 b, .int .i64 n] W (RunS T (leQ (view T.nodes) a b n) base c K W) := by
  refine (le_any h g h3 a b n hn).mono fun e w' hm => ?_
  unfold leQ
  rcases hm with ⟨hno, hm⟩ | ⟨h1, h2, hm⟩
  · rw [if_neg (fun h => hno.elim (fun k => k h.1) (fun k => k h.2))]; exact hm.run h g
  · rw [if_pos ⟨h1, h2⟩]
    rcases hm with ⟨x, p, e1, y, q, e2, hs1, hs2, he, hm⟩ | ⟨x, p, y, q, hs1, hs2, hm⟩
    · rw [show (view T.nodes).sp a = _ from hs1.eq, show (view T.nodes).sp b = _ from hs2.eq, if_neg (fun h => he.elim (fun k => k h.1) (fun k => k h.2))]
      exact hm.run h g
    · rw [show (view T.nodes).sp a = _ from hs1.eq, show (view T.nodes).sp b = _ from hs2.eq]
      simp only
      rw [if_pos ⟨trivial, trivial⟩]
      rcases hm with ⟨hno, hm⟩ | ⟨k1, k2, hm⟩
      · rw [if_neg hno]; exact hm.run h g
      · rw [if_pos ⟨k1, k2⟩]
        rcases hm with ⟨rfl, h4, he, hb⟩ | ⟨rfl, h4, he, hb⟩ | ⟨hxy, pp, hm⟩
        · rw [if_pos rfl, if_pos h4]; exact is_run h g he hb
        · rw [if_pos rfl, if_neg (by omega)]; exact is_run h g he hb
        · rw [if_neg hxy]; exact MakeP.run (x := leN _ _ _ none) hm
end Go.Proofs.Ytkjmmdffelhkiaa
