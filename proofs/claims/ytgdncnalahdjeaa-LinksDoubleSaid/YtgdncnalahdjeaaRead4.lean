/- An argument that is a link, by value. -/
import Derived.Test.YtgdncnalahdjeaaRead
import Derived.Test.YtgdncnalahdjeaaL5
namespace Go.Proofs.Ytgdncnalahdjeaa
open Go Go.RowKit Go.WideShapes Go.ChangeShapes Go.WideElems Go.Deep

set_option maxRecDepth 100000 in
theorem read_link {H : Type} {enc : TypeId × Value → H} {W : World} {base : Nat} {v : Value} {d : DataW H} {p : List MemPlace} (hv : Value.okWide Try.prog W .any base 57 v) (h : DataW.Trod enc Try.prog W 0 (fun _ => true) true 57 v d p) :
    ∃ (K T A B I J : Int) (P : Option Addr) (L C : Nat) (V : Nat → Int), v = linkV K T A B I J P L C ∧ L ≤ 9223372036854775807 ∧ LitsIn W P L V ∧ (-9223372036854775808 ≤ T ∧ T ≤ 9223372036854775807) := by
  obtain ⟨cs, rfl, hsz⟩ := okWide_struct Try.underlying57 hv
  rw [cells57] at hsz
  obtain ⟨l⟩ := cs
  have hl : l.length = 7 := hsz
  obtain ⟨fuel, hf0⟩ := h
  obtain ⟨xs, k, hk, hxy, _, hxl, hf⟩ := DataW.trod_struct Try.underlying57 hf0
  match xs, hxl, l, hl with
  | [y0, y1, y2, y3, y4, y5, y6], _, [v0, v1, v2, v3, v4, v5, v6], _ =>
    have g0 := hf 0 _ rfl
    have g1 := hf 1 _ rfl
    have g2 := hf 2 _ rfl
    have g3 := hf 3 _ rfl
    have g4 := hf 4 _ rfl
    have g5 := hf 5 _ rfl
    have g6 := hf 6 _ rfl
    simp [Value.cells, cells55, cells53, cells54', cells3'] at g0 g1 g2 g3 g4 g5 g6
    obtain ⟨k0, e0, _, w0⟩ := DataW.trod_int Try.underlying53 g0
    obtain ⟨k1, e1, _, w1⟩ := DataW.trod_int Try.underlying54 g1
    obtain ⟨k2, e2, _, w2⟩ := DataW.trod_int Try.underlying3 g2
    obtain ⟨k3, e3, _, w3⟩ := DataW.trod_int Try.underlying3 g3
    obtain ⟨k4, e4, _, w4⟩ := DataW.trod_int Try.underlying3 g4
    obtain ⟨k5, e5, _, w5⟩ := DataW.trod_int Try.underlying3 g5
    obtain ⟨k6, e6, r6, s6⟩ := read_row g6
    cases e0
    cases e1
    cases e2
    cases e3
    cases e4
    cases e5
    subst e6
    exact ⟨k0, k1, k2, k3, k4, k5, k6.1, k6.2.1, k6.2.2.1, k6.2.2.2, rfl, r6, s6, bounds_i64' w1⟩
end Go.Proofs.Ytgdncnalahdjeaa
