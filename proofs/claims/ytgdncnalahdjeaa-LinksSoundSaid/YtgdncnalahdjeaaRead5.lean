/- An argument that is a slice of numbers. -/
import Derived.Test.YtgdncnalahdjeaaRead4
namespace Go.Proofs.Ytgdncnalahdjeaa
open Go Go.RowKit Go.WideShapes Go.ChangeShapes Go.WideElems Go.Deep

theorem read_ints {H : Type} {enc : TypeId × Value → H} {W : World} {ad : Option Addr} {m cp : Nat} {d : DataW H} {p : List MemPlace} (h : DataW.Trod enc Try.prog W 0 (fun _ => true) true 55 (.slice ad m cp) d p) :
    m ≤ 9223372036854775807 ∧ ∃ V : Nat → Int, LitsIn W ad m V := by
  obtain ⟨fuel, hf⟩ := h
  obtain ⟨q, e, h1, h2⟩ := read_row (y := .slice ad m cp) (by simpa [Value.cells] using hf)
  cases e
  exact ⟨h1, _, h2⟩
end Go.Proofs.Ytgdncnalahdjeaa
