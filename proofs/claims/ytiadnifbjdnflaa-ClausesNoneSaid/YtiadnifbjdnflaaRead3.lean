/- Arguments that are slices of numbers: a nil one has no room. -/
import Derived.Test.YtiadnifbjdnflaaRead2
namespace Go.Proofs.Ytiadnifbjdnflaa
open Go Go.RowKit Go.WideShapes Go.ChangeShapes Go.WideElems Go.Deep

theorem read_none {H : Type} {enc : TypeId × Value → H} {W : World} {ad : Option Addr} {m cp t e : Nat} {d : DataW H} {p : List MemPlace} (ht : Try.prog.underlying t = some (.slice e)) (he : Try.prog.underlying e = some (.int .i64)) (hc : Try.prog.cellsOf e = 1) (h : DataW.Trod enc Try.prog W 0 (fun _ => true) true t (.slice ad m cp) d p) :
    ad = none → cp = 0 := by
  obtain ⟨fuel, hf⟩ := h
  rcases open_ints ht he hc hf with ⟨hcs, _⟩ | ⟨a', len', cap', zs, hcs, _⟩
  · simp [Value.cells] at hcs
    exact fun _ => hcs.2.2
  · simp [Value.cells] at hcs
    intro h
    rw [h] at hcs
    simp at hcs
end Go.Proofs.Ytiadnifbjdnflaa
