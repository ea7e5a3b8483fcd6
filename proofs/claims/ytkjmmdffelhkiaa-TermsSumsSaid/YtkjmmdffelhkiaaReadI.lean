/- An argument that is a slice of numbers: what its cells hold. -/
import Derived.Test.YtkjmmdffelhkiaaKit
import Derived.Test.YtkjmmdffelhkiaaS5
import Derived.Deep.Slices
namespace Go.Proofs.Ytkjmmdffelhkiaa
open Go Go.RowKit Go.WideShapes Go.ChangeShapes Go.WideElems Go.Deep

theorem cells2' : Try.prog.cellsOf 2 = 1 := by kernel_rfl
set_option maxRecDepth 100000 in
theorem read_i64s {H : Type} {enc : TypeId × Value → H} {W : World} {ad : Option Addr} {m cp : Nat} {d : DataW H} {p : List MemPlace} (h : DataW.Trod enc Try.prog W 0 (fun _ => true) true 93 (.slice ad m cp) d p) :
    m ≤ 9223372036854775807 ∧ ∃ V : Nat → Int, IntsIn W ad m V := by
  obtain ⟨fuel, hf⟩ := h
  rcases open_ints Try.underlying93 Try.underlying2 cells2' hf with ⟨hcs, _⟩ | ⟨a', len', cap', zs, hcs, _, hl, hmx, hz, _, hcell, hwf⟩
  · simp [Value.cells] at hcs
    obtain ⟨rfl, rfl, rfl⟩ := hcs
    exact ⟨by omega, fun _ => 0, fun h => absurd h (by omega)⟩
  · simp [Value.cells] at hcs
    obtain ⟨rfl, rfl, rfl⟩ := hcs
    simp only [if_true] at hz
    have hml : maxLen = 9223372036854775807 := rfl
    refine ⟨by omega, fun i => zs.getD i 0, fun h => ?_⟩
    obtain ⟨bk, off, spot⟩ := a'
    have hspot : spot = none := by simpa [Addr.add] using World.cell?_spot (hcell 0 (by omega))
    subst hspot
    exact ⟨bk, off, rfl, fun i hi => by rw [← Lib.add_plain]; exact hcell i (by omega)⟩
end Go.Proofs.Ytkjmmdffelhkiaa
