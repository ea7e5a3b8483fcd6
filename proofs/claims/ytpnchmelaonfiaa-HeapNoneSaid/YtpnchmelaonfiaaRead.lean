/- Arguments that are slices of numbers. -/
import Derived.Test.YtpnchmelaonfiaaKit
import Derived.Test.YtpnchmelaonfiaaF1
import Derived.Deep.Slices
namespace Go.Proofs.Ytpnchmelaonfiaa
open Go Go.RowKit Go.WideShapes Go.ChangeShapes Go.WideElems Go.Deep

theorem cells3' : Try.prog.cellsOf 3 = 1 := by kernel_rfl
theorem cells2' : Try.prog.cellsOf 2 = 1 := by kernel_rfl
set_option maxRecDepth 100000 in
theorem read_ints46 {H : Type} {enc : TypeId × Value → H} {W : World} {ad : Option Addr} {m cp : Nat} {d : DataW H} {p : List MemPlace} (h : DataW.Trod enc Try.prog W 0 (fun _ => true) true 46 (.slice ad m cp) d p) :
    m ≤ 9223372036854775807 ∧ ∃ V : Nat → Int, NumsIn W ad m V := by
  obtain ⟨fuel, hf⟩ := h
  rcases open_ints Try.underlying46 Try.underlying3 cells3' (by simpa [Value.cells] using hf) with ⟨hcs, _⟩ | ⟨a', len', cap', zs, hcs, _, hl, hmx, hz, _, hcell, hwf⟩
  · simp at hcs
    obtain ⟨rfl, rfl, rfl⟩ := hcs
    exact ⟨by omega, fun _ => 0, fun h => absurd h (by omega)⟩
  · simp at hcs
    obtain ⟨rfl, rfl, rfl⟩ := hcs
    simp only [if_true] at hz
    have hml : maxLen = 9223372036854775807 := rfl
    refine ⟨by omega, fun i => zs.getD i 0, fun h => ?_⟩
    obtain ⟨bk, off, spot⟩ := a'
    have hspot : spot = none := by simpa [Addr.add] using World.cell?_spot (hcell 0 (by omega))
    subst hspot
    exact ⟨bk, off, rfl, fun i hi => by rw [← Lib.add_plain]; exact hcell i (by omega)⟩
set_option maxRecDepth 100000 in
theorem read_ints29 {H : Type} {enc : TypeId × Value → H} {W : World} {ad : Option Addr} {m cp : Nat} {d : DataW H} {p : List MemPlace} (h : DataW.Trod enc Try.prog W 0 (fun _ => true) true 29 (.slice ad m cp) d p) :
    m ≤ 9223372036854775807 ∧ ∃ V : Nat → Int, NumsIn W ad m V := by
  obtain ⟨fuel, hf⟩ := h
  rcases open_ints Try.underlying29 Try.underlying2 cells2' (by simpa [Value.cells] using hf) with ⟨hcs, _⟩ | ⟨a', len', cap', zs, hcs, _, hl, hmx, hz, _, hcell, hwf⟩
  · simp at hcs
    obtain ⟨rfl, rfl, rfl⟩ := hcs
    exact ⟨by omega, fun _ => 0, fun h => absurd h (by omega)⟩
  · simp at hcs
    obtain ⟨rfl, rfl, rfl⟩ := hcs
    simp only [if_true] at hz
    have hml : maxLen = 9223372036854775807 := rfl
    refine ⟨by omega, fun i => zs.getD i 0, fun h => ?_⟩
    obtain ⟨bk, off, spot⟩ := a'
    have hspot : spot = none := by simpa [Addr.add] using World.cell?_spot (hcell 0 (by omega))
    subst hspot
    exact ⟨bk, off, rfl, fun i hi => by rw [← Lib.add_plain]; exact hcell i (by omega)⟩
end Go.Proofs.Ytpnchmelaonfiaa
