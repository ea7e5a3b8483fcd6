/- Stage 6: known. -/
import Derived.Test.YtkjmmdffelhkiaaT7
import Derived.Test.YtkjmmdffelhkiaaT10
namespace Go.Proofs.Ytkjmmdffelhkiaa
open Go Go.RowKit Go.Maps

variable {W : World} {K : Nat → Nat} {base c : Nat} {T : Sto}
theorem MakeP.new {x : Nd} {e : Ending} {w' : World} (h : MakeP T x base c K W e w') (hl : T.nodes.length < 20000) (hq : ∀ y ∈ T.nodes, y.q ≠ x.q) :
    ∃ K' T' P C, e = .returned (.tuple #[.int .i64 (T.nodes.length : Int), .int .i64 0]) ∧ StoAt w' K' base c T' ∧ GoodS T' ∧ StepT W w' K K' ∧ T'.nodes = T.nodes ++ [{ x with P := P, C := C }] := by
  obtain ⟨K', T', t, er, rfl, hst, hg, hs, ⟨_, _, j, y, _, hy, hsame⟩ | ⟨_, _, _, hf, _⟩ | ⟨rfl, rfl, _, _, P, C, i, rfl⟩⟩ := h
  · exact absurd hsame.q (hq y (List.mem_of_getElem? hy))
  · omega
  · exact ⟨K', _, P, C, rfl, hst, hg, hs, rfl⟩
theorem SpR.plain {t b o er : Int} {x : Nd} (h : SpR T t b o er) (hx : T.nodes[t.toNat]? = some x) (hin : InS T t) (hs : x.s = 1) (h3 : x.q ≠ 3) (h4 : x.q ≠ 4) : b = t ∧ o = 0 ∧ er = 0 := by
  rcases h with ⟨h, _⟩ | ⟨_, y, hy, h⟩
  · exact absurd hin h
  · rw [hx] at hy
    cases hy
    rcases h with ⟨h, _⟩ | ⟨_, he, ⟨h, _⟩ | ⟨h, _⟩ | ⟨_, _, hb, ho⟩⟩
    · exact absurd hs h
    · exact absurd h h3
    · exact absurd h h4
    · exact ⟨hb, ho, he⟩
theorem SpR.plus {t b o er : Int} {x : Nd} (h : SpR T t b o er) (hx : T.nodes[t.toNat]? = some x) (hin : InS T t) (hs : x.s = 1) (h4 : x.q = 4) : b = x.V 0 ∧ o = x.n ∧ er = 0 := by
  rcases h with ⟨h, _⟩ | ⟨_, y, hy, h⟩
  · exact absurd hin h
  · rw [hx] at hy
    cases hy
    rcases h with ⟨h, _⟩ | ⟨_, he, ⟨h, _⟩ | ⟨h, hb, ho⟩ | ⟨_, h, _⟩⟩
    · exact absurd hs h
    · rw [h4] at h; exact absurd h (by decide)
    · exact ⟨hb, ho, he⟩
    · exact absurd h4 h
theorem Firsts.qs {k : Nat} (h : Firsts T k) (hk : k ≤ 3) : ∀ y ∈ T.nodes, y.q = 1 ∨ y.q = 2 ∨ y.q = 3 := fun y hy => by
  obtain ⟨j, hj⟩ := List.getElem?_of_mem hy
  have hlt := (List.getElem?_eq_some_iff.1 hj).1
  obtain ⟨z, hz, hs⟩ := h.2 j (by rw [← h.1]; exact hlt)
  rw [hj] at hz
  cases hz
  rw [hs.q]
  unfold three
  simp only
  split
  · exact .inl rfl
  · split
    · exact .inr (.inl rfl)
    · exact .inr (.inr rfl)
structure KR (W w : World) (K : Nat → Nat) (c : Nat) (T : Sto) : Prop where
  st : StoAt w K W.heap.size c T
  g : GoodS T
  b : Below W.heap.size W w
theorem kn1 {w w' : World} {e : Ending} (h : KR W w K c T) (hf : Firsts T 3) (hm : AppP T 0 1 none 0 0 (fun _ => 0) W.heap.size c K w e w') :
    ∃ K' T' x, e = .returned (.tuple #[.int .i64 3, .int .i64 0]) ∧ KR W w' K' c T' ∧ T'.nodes.length = 4 ∧ (∀ y ∈ T'.nodes, y.q ≠ 4) ∧ T'.nodes[3]? = some x ∧ x.q = 5 ∧ x.s = 1 := by
  have hl := hf.1
  rcases hm with ⟨h, _⟩ | ⟨_, _, ⟨i, hi, _⟩, _⟩ | ⟨_, _, _, h, _⟩ | ⟨_, _, _, _, hm⟩
  · omega
  · omega
  · omega
  · obtain ⟨K', T', P, C, he, hst, hg, hs, hn⟩ := hm.new (by omega) (fun y hy => by
      have := hf.qs (by omega) y hy
      show y.q ≠ 5
      omega)
    rw [hl] at he
    refine ⟨K', T', { appN 0 1 none 0 0 (fun _ => 0) with P := P, C := C }, he, ⟨hst, hg, h.b.trans (hs.toBelowS h.st)⟩, by rw [hn, List.length_append, hl]; rfl, fun y hy => ?_, by rw [hn, List.getElem?_append_right (by omega), hl]; rfl, rfl, rfl⟩
    rw [hn] at hy
    rcases List.mem_append.1 hy with hy | hy
    · have := hf.qs (by omega) y hy
      omega
    · rw [List.mem_singleton.1 hy]
      show (5 : Int) ≠ 4
      decide
theorem kn2 {w w' : World} {e : Ending} {x : Nd} (h : KR W w K c T) (hl : T.nodes.length = 4) (hq : ∀ y ∈ T.nodes, y.q ≠ 4) (hx : T.nodes[3]? = some x) (h5 : x.q = 5) (h1 : x.s = 1) (hm : PlusP T 3 2 W.heap.size c K w e w') :
    ∃ K' T' y, e = .returned (.tuple #[.int .i64 4, .int .i64 0]) ∧ KR W w' K' c T' ∧ T'.nodes.length = 5 ∧ T'.nodes[3]? = some x ∧ T'.nodes[4]? = some y ∧ y.q = 4 ∧ y.s = 1 ∧ y.n = 2 ∧ y.V 0 = 3 := by
  have hin : InS T 3 := by unfold InS; omega
  have sp : ∀ {b o er}, SpR T 3 b o er → b = 3 ∧ o = 0 ∧ er = 0 := fun hs => hs.plain hx hin h1 (by omega) (by omega)
  rcases hm with ⟨b, o, er, hs, he, _⟩ | ⟨b, o, hs, ⟨hn, _⟩ | ⟨_, _, ⟨h2, _⟩ | ⟨_, h0, _⟩ | ⟨_, _, p, hm⟩⟩⟩
  · exact absurd (sp hs).2.2 he
  · obtain ⟨rfl, rfl, _⟩ := sp hs
    exact absurd ⟨by unfold InB; decide, by unfold I64; decide, by unfold InB; decide⟩ hn
  · have := (sp hs).1
    omega
  · have := (sp hs).2.1
    omega
  · obtain ⟨rfl, rfl, _⟩ := sp hs
    obtain ⟨K', T', P, C, he, hst, hg, hs, hn⟩ := hm.new (by omega) hq
    rw [hl] at he
    refine ⟨K', T', _, he, ⟨hst, hg, h.b.trans (hs.toBelowS h.st)⟩, by rw [hn, List.length_append, hl]; rfl, by rw [hn, List.getElem?_append_left (by omega)]; exact hx, by rw [hn, List.getElem?_append_right (by omega), hl]; rfl, rfl, rfl, rfl, rfl⟩
theorem kn3 {w w' : World} {e : Ending} {y : Nd} (h : KR W w K c T) (hl : T.nodes.length = 5) (hy : T.nodes[4]? = some y) (h4 : y.q = 4) (h1 : y.s = 1) (h2 : y.n = 2) (hV : y.V 0 = 3) (hm : PlusP T 4 (-2) W.heap.size c K w e w') :
    e = .returned (.tuple #[.int .i64 3, .int .i64 0]) ∧ KR W w' K c T := by
  have hin : InS T 4 := by unfold InS; omega
  have sp : ∀ {b o er}, SpR T 4 b o er → b = 3 ∧ o = 2 ∧ er = 0 := fun hs => by
    have := hs.plus hy hin h1 h4
    omega
  rcases hm with ⟨b, o, er, hs, he, _⟩ | ⟨b, o, hs, ⟨hn, _⟩ | ⟨_, _, ⟨h2, _⟩ | ⟨_, _, he, hb⟩ | ⟨_, h0, _⟩⟩⟩
  · exact absurd (sp hs).2.2 he
  · obtain ⟨rfl, rfl, _⟩ := sp hs
    exact absurd ⟨by unfold InB; decide, by unfold I64; decide, by unfold InB; decide⟩ hn
  · have := (sp hs).1
    omega
  · obtain ⟨rfl, rfl, _⟩ := sp hs
    exact ⟨he, h.st.later hb, h.g, h.b.trans (hb.mono h.b.size)⟩
  · have := (sp hs).2.1
    omega
theorem kn4 {w w' : World} {e : Ending} {x y : Nd} (h : KR W w K c T) (hl : T.nodes.length = 5) (hx : T.nodes[3]? = some x) (h5 : x.q = 5) (hx1 : x.s = 1) (hy : T.nodes[4]? = some y) (h4 : y.q = 4) (h1 : y.s = 1) (h2 : y.n = 2) (hV : y.V 0 = 3) (hm : LeP T 4 3 1 W.heap.size c K w e w') :
    e = .returned (.tuple #[.int .i64 1, .int .i64 0]) ∧ Below W.heap.size W w' := by
  have hin : InS T 4 := by unfold InS; omega
  have hin3 : InS T 3 := by unfold InS; omega
  have sp : ∀ {b o er}, SpR T 4 b o er → b = 3 ∧ o = 2 ∧ er = 0 := fun hs => by
    have := hs.plus hy hin h1 h4
    omega
  have sp3 : ∀ {b o er}, SpR T 3 b o er → b = 3 ∧ o = 0 ∧ er = 0 := fun hs => hs.plain hx hin3 hx1 (by omega) (by omega)
  rcases hm with ⟨h | h, _⟩ | ⟨_, _, ⟨a1, p, e1, b1, q, e2, s1, s2, he, _⟩ | ⟨a1, p, b1, q, s1, s2, h⟩⟩
  · exact absurd hin h
  · exact absurd hin3 h
  · have := (sp s1).2.2
    have := (sp3 s2).2.2
    omega
  · obtain ⟨rfl, rfl, _⟩ := sp s1
    obtain ⟨rfl, rfl, _⟩ := sp3 s2
    rcases h with ⟨hn, _⟩ | ⟨_, _, ⟨_, h0, _⟩ | ⟨_, _, he, hb⟩ | ⟨hne, _⟩⟩
    · exact absurd ⟨by unfold InB; decide, by unfold InB; decide⟩ hn
    · omega
    · exact ⟨he, h.b.trans (hb.mono h.b.size)⟩
    · exact absurd rfl hne
set_option maxRecDepth 100000 in
set_option maxHeartbeats 4000000 in
theorem knownS_any (W : World) : Calls Try.prog 31 #[] W fun e w' => e = .returned (.bool true) ∧ Below W.heap.size W w' := by
  go_enter Try.func31, Try.ntmps31
  go_wp2_with fail
  refine (newS_any W).mono ?_
  rintro e w1 ⟨c, K1, T1, rfl, hst, hg, hf, hb⟩
  have HR := Lib.hid (show KR W w1 K1 c T1 from ⟨hst, hg, hb⟩)
  have HF := Lib.hid hf
  clear hst hg hf hb
  have HA := (app_any HR.out.st HR.out.g (by have := HF.out.1; omega) 0 1 i0 i1 none 0 0 (fun _ => 0) (fun h => absurd h (Nat.not_lt_zero _)) (by omega)).mono fun e w' h => kn1 HR.out HF.out h
  go_wp2_with fail
  refine HA.mono ?_
  rintro e w2 ⟨K2, T2, x, rfl, hr, hl, hq, hx, h5, h1⟩
  have HX := Lib.hid (And.intro hl (And.intro hq (And.intro hx (And.intro h5 h1))))
  have HR2 := Lib.hid hr
  clear HA hr hl hq hx h5 h1 HR HF
  have HP := (plus_any HR2.out.st HR2.out.g (by have := HX.out.1; omega) 3 2 (by unfold I64; decide)).mono fun e w' h => kn2 HR2.out HX.out.1 HX.out.2.1 HX.out.2.2.1 HX.out.2.2.2.1 HX.out.2.2.2.2 h
  go_wp2_with fail
  refine HP.mono ?_
  rintro e w3 ⟨K3, T3, y, rfl, hr, hl, hx, hy, h4, h1, h2, hV⟩
  have HY := Lib.hid (And.intro hl (And.intro hx (And.intro hy (And.intro h4 (And.intro h1 (And.intro h2 hV))))))
  have HR3 := Lib.hid hr
  clear HP hr hl hx hy h4 h1 h2 hV HR2
  have HP := (plus_any HR3.out.st HR3.out.g (by have := HY.out.1; omega) 4 (-2) (by unfold I64; decide)).mono fun e w' h => kn3 HR3.out HY.out.1 HY.out.2.2.1 HY.out.2.2.2.1 HY.out.2.2.2.2.1 HY.out.2.2.2.2.2.1 HY.out.2.2.2.2.2.2 h
  go_wp2_with fail
  refine HP.mono ?_
  rintro e w4 ⟨rfl, hr⟩
  have HR4 := Lib.hid hr
  clear HP hr HR3
  have HL := (le_any HR4.out.st HR4.out.g (by have := HY.out.1; omega) 4 3 1 i1).mono fun e w' h => kn4 HR4.out HY.out.1 HY.out.2.1 HX.out.2.2.2.1 HX.out.2.2.2.2 HY.out.2.2.1 HY.out.2.2.2.1 HY.out.2.2.2.2.1 HY.out.2.2.2.2.2.1 HY.out.2.2.2.2.2.2 h
  go_wp2_with fail
  refine HL.mono ?_
  rintro e w5 ⟨rfl, hb⟩
  have HB := Lib.hid hb
  clear HL hb
  go_wp2_with fail
  go_ret
  exact ⟨rfl, HB.out⟩
end Go.Proofs.Ytkjmmdffelhkiaa
