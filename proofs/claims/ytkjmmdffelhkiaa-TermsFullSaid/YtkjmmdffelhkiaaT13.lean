/- TermsFull: its walk. -/
import Derived.Test.YtkjmmdffelhkiaaT11
namespace Go.Proofs.Ytkjmmdffelhkiaa
open Go Go.RowKit Go.Maps

theorem Firsts.get {T : Sto} {k j : Nat} (h : Firsts T k) (hj : j < k) : ∃ y, T.nodes[j]? = some y ∧ SameN y (three j) := h.2 j hj
/-- numerals from one on. -/
structure FullR (W wr : World) (K : Nat → Nat) (c : Nat) (m : Int) (k : Nat) (T : Sto) : Prop where
  kr : KR W wr K c T
  l : T.nodes.length = k
  f : ∀ j, j < 3 → ∃ y, T.nodes[j]? = some y ∧ SameN y (three j)
  n : ∀ j, 3 ≤ j → j < k → ∃ y, T.nodes[j]? = some y ∧ SameN y (numN (m + (j : Int)))
theorem FullR.none {W wr : World} {K : Nat → Nat} {c k : Nat} {m x : Int} {T : Sto} (h : FullR W wr K c m k T) (hm : 0 < m) (hx : m + (k : Int) ≤ x) : Fresh T (numN x) := fun t y hy hs => by
  have hlt := (List.getElem?_eq_some_iff.1 hy).1
  rw [h.l] at hlt
  by_cases h3 : t < 3
  · obtain ⟨z, hz, hz2⟩ := h.f t h3
    rw [hy] at hz
    cases hz
    have h1 := hz2.q.symm.trans hs.q
    have h2 := hz2.n.symm.trans hs.n
    have h4 : (three t).n = 0 := rfl
    have h5 : (numN x).n = x := rfl
    omega
  · obtain ⟨z, hz, hz2⟩ := h.n t (by omega) hlt
    rw [hy] at hz
    cases hz
    have h2 := hz2.n.symm.trans hs.n
    have h4 : (numN (m + (t : Int))).n = m + (t : Int) := rfl
    have h5 : (numN x).n = x := rfl
    omega
theorem FullR.next {W wr w' : World} {K : Nat → Nat} {c k : Nat} {m : Int} {T : Sto} {e : Ending} (h : FullR W wr K c m k T) (hm : 0 < m) (hm2 : m ≤ 1152921504606846976) (hk : k < 20000) (hk3 : 3 ≤ k) (hp : NumP T (m + (k : Int)) W.heap.size c K wr e w') :
    ∃ K' T', e = .returned (.tuple #[.int .i64 (k : Int), .int .i64 0]) ∧ FullR W w' K' c m (k + 1) T' := by
  rcases hp with ⟨hn, _⟩ | ⟨_, K', T', t, er, rfl, hst, hg, hs, ⟨_, _, j, y, _, hy, hsame⟩ | ⟨_, _, _, hf, _⟩ | ⟨rfl, rfl, _, _, P, C, i, rfl⟩⟩
  · exact absurd (by unfold InB; omega) hn
  · exact absurd hsame (h.none hm (Int.le_refl _) j y hy)
  · have := h.l; omega
  · have hl := h.l
    refine ⟨K', _, by rw [hl], ⟨hst, hg, h.kr.b.trans (hs.toBelowS h.kr.st)⟩, ?_, fun j hj => ?_, fun j h3 hj => ?_⟩
    · show (T.nodes ++ [_]).length = _
      rw [List.length_append, hl]; rfl
    · obtain ⟨y, hy, hs⟩ := h.f j hj
      exact ⟨y, by show (T.nodes ++ [_])[j]? = _; rw [List.getElem?_append_left (by omega)]; exact hy, hs⟩
    · by_cases e : j < k
      · obtain ⟨y, hy, hs⟩ := h.n j h3 e
        exact ⟨y, by show (T.nodes ++ [_])[j]? = _; rw [List.getElem?_append_left (by omega)]; exact hy, hs⟩
      · obtain rfl : j = k := by omega
        exact ⟨{ numN (m + (j : Int)) with P := P, C := C }, by show (T.nodes ++ [_])[j]? = _; rw [List.getElem?_append_right (by omega), hl]; simp, ⟨rfl, rfl, rfl, rfl, rfl, fun _ _ => rfl⟩⟩
/-- one more is not made. -/
theorem FullR.over {W wr w' : World} {K : Nat → Nat} {c : Nat} {m : Int} {T : Sto} {e : Ending} (h : FullR W wr K c m 20000 T) (hm : 0 < m) (hm2 : m ≤ 1152921504606846976) (hp : NumP T (m + 20000) W.heap.size c K wr e w') :
    ∃ K' T', e = .returned (.tuple #[.int .i64 0, .int .i64 9]) ∧ FullR W w' K' c m 20000 T' := by
  have hl := h.l
  rcases hp with ⟨hn, _⟩ | ⟨_, K', T', t, er, rfl, hst, hg, hs, ⟨_, _, j, y, _, hy, hsame⟩ | ⟨rfl, rfl, rfl, hf, _⟩ | ⟨_, _, hl2, _⟩⟩
  · exact absurd (by unfold InB; omega) hn
  · exact absurd hsame (h.none hm (by omega) j y hy)
  · exact ⟨K', _, rfl, ⟨hst, hg, h.kr.b.trans (hs.toBelowS h.kr.st)⟩, h.l, h.f, h.n⟩
  · omega
/-- what is there is told again. -/
theorem FullR.again {W wr w' : World} {K : Nat → Nat} {c : Nat} {m : Int} {T : Sto} {e : Ending} (h : FullR W wr K c m 20000 T) (hm : 0 < m) (hm2 : m ≤ 1152921504606846976) (hp : NumP T (m + 3) W.heap.size c K wr e w') :
    ∃ K' T', e = .returned (.tuple #[.int .i64 3, .int .i64 0]) ∧ FullR W w' K' c m 20000 T' := by
  have hl := h.l
  obtain ⟨z, hz, hz2⟩ := h.n 3 (by omega) (by omega)
  rcases hp with ⟨hn, _⟩ | ⟨_, K', T', t, er, rfl, hst, hg, hs, ⟨rfl, rfl, j, y, rfl, hy, hsame⟩ | ⟨_, _, _, _, hf⟩ | ⟨_, _, hl2, _⟩⟩
  · exact absurd (by unfold InB; omega) hn
  · have hlt := (List.getElem?_eq_some_iff.1 hy).1
    have hj3 : j = 3 := by
      by_cases h3 : j < 3
      · obtain ⟨u, hu, hu2⟩ := h.f j h3
        rw [hy] at hu
        cases hu
        have h1 := hu2.n.symm.trans hsame.n
        have h4 : (three j).n = 0 := rfl
        have h5 : (numN (m + 3)).n = m + 3 := rfl
        omega
      · obtain ⟨u, hu, hu2⟩ := h.n j (by omega) (by omega)
        rw [hy] at hu
        cases hu
        have h1 := hu2.n.symm.trans hsame.n
        have h4 : (numN (m + (j : Int))).n = m + (j : Int) := rfl
        have h5 : (numN (m + 3)).n = m + 3 := rfl
        omega
    subst hj3
    exact ⟨K', _, rfl, ⟨hst, hg, h.kr.b.trans (hs.toBelowS h.kr.st)⟩, h.l, h.f, h.n⟩
  · exact absurd hz2 (hf 3 z hz)
  · omega
theorem SpR.num {T : Sto} {t b o er : Int} {x : Nd} (h : SpR T t b o er) (hx : T.nodes[t.toNat]? = some x) (hin : InS T t) (hs : x.s = 1) (h3 : x.q = 3) : b = 2 ∧ o = x.n ∧ er = 0 := by
  rcases h with ⟨h, _⟩ | ⟨_, y, hy, h⟩
  · exact absurd hin h
  · rw [hx] at hy
    cases hy
    rcases h with ⟨h, _⟩ | ⟨_, he, ⟨_, hb, ho⟩ | ⟨h, _⟩ | ⟨h, _⟩⟩
    · exact absurd hs h
    · exact ⟨hb, ho, he⟩
    · rw [h3] at h; exact absurd h (by decide)
    · exact absurd h3 h
/-- Zero and nothing more is Zero. -/
theorem FullR.zero {W wr w' : World} {K : Nat → Nat} {c : Nat} {m : Int} {T : Sto} {e : Ending} (h : FullR W wr K c m 20000 T) (hm : 0 < m) (hp : PlusP T 2 0 W.heap.size c K wr e w') :
    ∃ K' T', e = .returned (.tuple #[.int .i64 2, .int .i64 0]) ∧ FullR W w' K' c m 20000 T' := by
  have hl := h.l
  obtain ⟨z, hz, hz2⟩ := h.f 2 (by omega)
  have hin : InS T 2 := by unfold InS; omega
  have hzq : z.q = 3 := hz2.q
  have hzs : z.s = 1 := hz2.s
  have hzn : z.n = 0 := hz2.n
  have sp : ∀ {b o er}, SpR T 2 b o er → b = 2 ∧ o = 0 ∧ er = 0 := fun hs => by
    have := hs.num hz hin hzs hzq
    omega
  rcases hp with ⟨b, o, er, hs, he, _⟩ | ⟨b, o, hs, ⟨hn, _⟩ | ⟨_, _, ⟨_, hm'⟩ | ⟨h2, _⟩ | ⟨h2, _⟩⟩⟩
  · exact absurd (sp hs).2.2 he
  · obtain ⟨rfl, rfl, _⟩ := sp hs
    exact absurd ⟨by unfold InB; decide, by unfold I64; decide, by unfold InB; decide⟩ hn
  · obtain ⟨rfl, rfl, _⟩ := sp hs
    obtain ⟨K', T', t, er, rfl, hst, hg, hs2, ⟨rfl, rfl, j, y, rfl, hy, hsame⟩ | ⟨_, _, _, _, hf⟩ | ⟨_, _, hl2, _⟩⟩ := hm'
    · have hlt := (List.getElem?_eq_some_iff.1 hy).1
      have hj2 : j = 2 := by
        by_cases h3 : j < 3
        · obtain ⟨u, hu, hu2⟩ := h.f j h3
          rw [hy] at hu
          cases hu
          have h1 := hu2.q.symm.trans hsame.q
          have h5 : (numN (0 + 0)).q = 3 := rfl
          have : j = 0 ∨ j = 1 ∨ j = 2 := by omega
          rcases this with rfl | rfl | rfl
          · exact absurd h1 (by decide)
          · exact absurd h1 (by decide)
          · rfl
        · obtain ⟨u, hu, hu2⟩ := h.n j (by omega) (by omega)
          rw [hy] at hu
          cases hu
          have h1 := hu2.n.symm.trans hsame.n
          have h4 : (numN (m + (j : Int))).n = m + (j : Int) := rfl
          have h5 : (numN (0 + 0)).n = 0 := rfl
          omega
      subst hj2
      exact ⟨K', _, rfl, ⟨hst, hg, h.kr.b.trans (hs2.toBelowS h.kr.st)⟩, h.l, h.f, h.n⟩
    · exact absurd (show SameN z (numN (0 + 0)) from ⟨hzq, hz2.f, hzn, hzs, hz2.L, fun i hi => absurd hi (by rw [hz2.L]; exact Nat.not_lt_zero _)⟩) (hf 2 z hz)
    · omega
  · exact absurd (sp hs).1 h2
  · exact absurd (sp hs).1 h2

end Go.Proofs.Ytkjmmdffelhkiaa
