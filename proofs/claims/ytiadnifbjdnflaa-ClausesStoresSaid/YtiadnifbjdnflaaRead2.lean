/- Arguments that are slices of numbers: what their cells hold. -/
import Derived.Test.YtiadnifbjdnflaaRead
import Derived.Test.YtiadnifbjdnflaaMay
namespace Go.Proofs.Ytiadnifbjdnflaa
open Go Go.RowKit Go.WideShapes Go.ChangeShapes Go.WideElems Go.Deep

theorem cells30 : Try.prog.cellsOf 30 = 1 := by kernel_rfl
set_option maxRecDepth 100000 in
theorem read_nums {H : Type} {enc : TypeId × Value → H} {W : World} {ad : Option Addr} {m cp t e : Nat} {d : DataW H} {p : List MemPlace} (ht : Try.prog.underlying t = some (.slice e)) (he : Try.prog.underlying e = some (.int .i64)) (hc : Try.prog.cellsOf e = 1) (h : DataW.Trod enc Try.prog W 0 (fun _ => true) true t (.slice ad m cp) d p) :
    m ≤ 9223372036854775807 ∧ ∃ V : Nat → Int, (∀ i, i < m → I64 (V i)) ∧ LitsIn W ad m V := by
  obtain ⟨fuel, hf⟩ := h
  rcases open_ints ht he hc hf with ⟨hcs, _⟩ | ⟨a', len', cap', zs, hcs, _, hl, hmx, hz, _, hcell, hwf⟩
  · simp [Value.cells] at hcs
    obtain ⟨rfl, rfl, rfl⟩ := hcs
    exact ⟨by omega, fun _ => 0, fun i hi => by omega, fun h => by omega⟩
  · simp [Value.cells] at hcs
    obtain ⟨rfl, rfl, rfl⟩ := hcs
    simp only [if_true] at hz
    have hml : maxLen = 9223372036854775807 := rfl
    refine ⟨by omega, fun i => zs.getD i 0, fun i hi => ?_, fun h => ?_⟩
    · have hi' : i < zs.length := by omega
      have e : zs.getD i 0 = zs[i] := by simp [List.getD, List.getElem?_eq_getElem hi']
      show I64 (zs.getD i 0)
      rw [e]
      exact bounds_i64' (hwf _ (List.getElem_mem hi'))
    · obtain ⟨bk, off, spot⟩ := a'
      have hspot : spot = none := by simpa [Addr.add] using World.cell?_spot (hcell 0 (by omega))
      subst hspot
      exact ⟨bk, off, rfl, fun i hi => by rw [← add_plain]; exact hcell i (by omega)⟩
end Go.Proofs.Ytiadnifbjdnflaa
