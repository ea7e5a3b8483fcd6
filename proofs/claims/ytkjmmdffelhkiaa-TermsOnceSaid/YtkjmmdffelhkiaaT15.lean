/- Stage 6: a term of a base and an offset. -/
import Derived.Test.YtkjmmdffelhkiaaT11
namespace Go.Proofs.Ytkjmmdffelhkiaa
open Go Go.RowKit Go.Maps

variable {W : World} {K : Nat → Nat} {base c : Nat} {T T' : Sto}
/-- no two nodes are alike. -/
theorem GoodS.uniq (g : GoodS T) {i j : Nat} {x y : Nd} (hx : T.nodes[i]? = some x) (hy : T.nodes[j]? = some y) (h : SameN x y) : i = j := by
  obtain ⟨a, a1, a2⟩ := g.g1 i x hx
  obtain ⟨b, b1, b2⟩ := g.g1 j y hy
  rw [h.text, b1] at a1
  obtain rfl := nV_inj (Option.some.inj a1)
  rw [h.key, b2] at a2
  exact (nV_inj (Option.some.inj a2)).symm
/-- a store that grew. -/
def Grown (T T' : Sto) : Prop := ∀ (i : Nat) (x : Nd), T.nodes[i]? = some x → T'.nodes[i]? = some x
theorem Grown.refl (T : Sto) : Grown T T := fun _ _ h => h
theorem Grown.trans {A B C : Sto} (h : Grown A B) (k : Grown B C) : Grown A C := fun i x hx => k i x (h i x hx)
theorem Grown.add (T : Sto) (x : Nd) (i : Nat) : Grown T (addN T x i) := fun j y hy => by
  show (T.nodes ++ [x])[j]? = _
  rw [List.getElem?_append_left (List.getElem?_eq_some_iff.1 hy).1]
  exact hy
/-- x is a term of Int that is its own base. -/
structure IsBase (T : Sto) (x : Int) : Prop where
  i : InS T x
  n : ∃ y, T.nodes[x.toNat]? = some y ∧ y.s = 1 ∧ y.q ≠ 3 ∧ y.q ≠ 4
theorem InS.grown {x : Int} (h : InS T x) (hg : Grown T T') : InS T' x := by
  refine ⟨h.1, ?_⟩
  obtain ⟨h0, h1⟩ := h
  have hl : x.toNat < T.nodes.length := by omega
  have := (List.getElem?_eq_some_iff.1 (hg x.toNat _ (List.getElem?_eq_getElem hl))).1
  omega
theorem IsBase.grown {x : Int} (h : IsBase T x) (hg : Grown T T') : IsBase T' x := by
  obtain ⟨y, hy, h2⟩ := h.n
  exact ⟨h.i.grown hg, y, hg _ _ hy, h2⟩
/-- t is x and s more. -/
def Rep (T : Sto) (x t s : Int) : Prop := (s = 0 ∧ t = x) ∨ (s ≠ 0 ∧ InS T t ∧ ∃ y, T.nodes[t.toNat]? = some y ∧ y.q = 4 ∧ y.f = 0 ∧ y.n = s ∧ y.s = 1 ∧ y.L = 1 ∧ y.V 0 = x)
theorem Rep.grown {x t s : Int} (h : Rep T x t s) (hg : Grown T T') : Rep T' x t s := by
  rcases h with h | ⟨h0, hi, y, hy, h⟩
  · exact .inl h
  · exact .inr ⟨h0, hi.grown hg, y, hg _ _ hy, h⟩
theorem Rep.uniq (g : GoodS T) {x t t' s : Int} (h : Rep T x t s) (h' : Rep T x t' s) : t = t' := by
  rcases h with ⟨h0, rfl⟩ | ⟨h0, hi, y, hy, hq, hf, hn, hs, hL, hV⟩
  · rcases h' with ⟨_, rfl⟩ | ⟨h1, _⟩
    · rfl
    · exact absurd h0 h1
  · rcases h' with ⟨h1, _⟩ | ⟨_, hi', z, hz, hq', hf', hn', hs', hL', hV'⟩
    · exact absurd h1 h0
    · have := g.uniq hy hz ⟨hq.trans hq'.symm, hf.trans hf'.symm, hn.trans hn'.symm, hs.trans hs'.symm, hL.trans hL'.symm, fun i hi => by
        obtain rfl : i = 0 := by omega
        exact hV.trans hV'.symm⟩
      have := hi.1
      have := hi'.1
      omega
theorem Rep.split {x t s b o er : Int} (hb : IsBase T x) (h : Rep T x t s) (hs : SpR T t b o er) : b = x ∧ o = s ∧ er = 0 := by
  rcases h with ⟨rfl, rfl⟩ | ⟨_, hi, y, hy, hq, _, hn, hs1, _, hV⟩
  · obtain ⟨y, hy, hs1, h3, h4⟩ := hb.n
    exact hs.plain hy hb.i hs1 h3 h4
  · obtain ⟨h1, h2, h3⟩ := hs.plus hy hi hs1 hq
    exact ⟨h1.trans hV, h2.trans hn, h3⟩
/-- what is made of a term and a number. -/
theorem MakeP.plus {x d : Int} {p : Option Addr} {e : Ending} {w' : World} (h : MakeP T (plusN x d p) base c K W e w') (hd : d ≠ 0) (hl : T.nodes.length < 20000) :
    ∃ K' T' t, e = .returned (.tuple #[.int .i64 t, .int .i64 0]) ∧ StoAt w' K' base c T' ∧ GoodS T' ∧ StepT W w' K K' ∧ Grown T T' ∧ T'.nodes.length ≤ T.nodes.length + 1 ∧ Rep T' x t d := by
  obtain ⟨K', T', t, er, rfl, hst, hg, hs, ⟨rfl, rfl, j, y, rfl, hy, hsame⟩ | ⟨_, _, _, hf, _⟩ | ⟨rfl, rfl, _, _, P, C, i, rfl⟩⟩ := h
  · have hlt := (List.getElem?_eq_some_iff.1 hy).1
    exact ⟨K', _, _, rfl, hst, hg, hs, Grown.refl _, by omega, .inr ⟨hd, ⟨by omega, by omega⟩, y, hy, hsame.q, hsame.f, hsame.n, hsame.s, hsame.L, hsame.V 0 (by rw [hsame.L]; exact Nat.one_pos)⟩⟩
  · omega
  · refine ⟨K', _, _, rfl, hst, hg, hs, Grown.add _ _ _, by show (T.nodes ++ [_]).length ≤ _; rw [List.length_append]; exact Nat.le_refl _, .inr ⟨hd, ⟨by omega, ?_⟩, { plusN x d p with P := P, C := C }, ?_, rfl, rfl, rfl, rfl, rfl, rfl⟩⟩
    · show _ < (((T.nodes ++ [_]).length : Nat) : Int)
      rw [List.length_append]; simp; omega
    · show (T.nodes ++ [_])[_]? = _
      simp
/-- a number more. -/
theorem PlusP.rep {x t s n : Int} {e : Ending} {w' : World} (hst : StoAt W K base c T) (g : GoodS T) (hl : T.nodes.length < 20000) (hb : IsBase T x) (h2 : x ≠ 2) (h : Rep T x t s) (hn : InB n) (hi : I64 (s + n)) (hs : InB (s + n)) (hp : PlusP T t n base c K W e w') :
    ∃ K' T' t', e = .returned (.tuple #[.int .i64 t', .int .i64 0]) ∧ StoAt w' K' base c T' ∧ GoodS T' ∧ StepT W w' K K' ∧ Grown T T' ∧ T'.nodes.length ≤ T.nodes.length + 1 ∧ Rep T' x t' (s + n) := by
  rcases hp with ⟨b, o, er, hsp, he, _⟩ | ⟨b, o, hsp, hc⟩
  · exact absurd (h.split hb hsp).2.2 he
  · obtain ⟨rfl, rfl, _⟩ := h.split hb hsp
    rcases hc with ⟨hno, _⟩ | ⟨_, _, ⟨hx, _⟩ | ⟨_, h0, rfl, hbw⟩ | ⟨_, h0, p, hm⟩⟩
    · exact absurd ⟨hn, hi, hs⟩ hno
    · exact absurd hx h2
    · exact ⟨K, T, _, rfl, hst.later hbw, g, StepT.below hbw, Grown.refl _, by omega, .inl ⟨h0, rfl⟩⟩
    · exact hm.plus h0 hl
end Go.Proofs.Ytkjmmdffelhkiaa
