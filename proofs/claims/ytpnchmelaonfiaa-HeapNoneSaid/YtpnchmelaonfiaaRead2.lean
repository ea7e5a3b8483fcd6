/- Arguments that are slices of strings. -/
import Derived.Test.YtpnchmelaonfiaaRead
import Derived.Test.YtpnchmelaonfiaaB1
import Derived.Deep.Strs
namespace Go.Proofs.Ytpnchmelaonfiaa
open Go Go.RowKit Go.WideShapes Go.ChangeShapes Go.WideElems Go.Deep

theorem cells9' : Try.prog.cellsOf 9 = 1 := by kernel_rfl
set_option maxRecDepth 100000 in
theorem read_strs {H : Type} {enc : TypeId × Value → H} {W : World} {ad : Option Addr} {m cp : Nat} {d : DataW H} {p : List MemPlace} (h : DataW.Trod enc Try.prog W 0 (fun _ => true) true 45 (.slice ad m cp) d p) :
    m ≤ 9223372036854775807 ∧ ∃ V : Nat → ByteArray, StrsIn W ad m V := by
  obtain ⟨fuel, hf⟩ := h
  rcases open_strs Try.underlying45 Try.underlying9 cells9' (by simpa [Value.cells] using hf) with ⟨hcs, _⟩ | ⟨a', len', cap', mm, zs, hcs, _, hl, hmx, hz, _, hcell⟩
  · simp at hcs
    obtain ⟨rfl, rfl, rfl⟩ := hcs
    exact ⟨by omega, fun _ => ByteArray.empty, fun h => absurd h (by omega)⟩
  · simp at hcs
    obtain ⟨rfl, rfl, rfl⟩ := hcs
    simp only [if_true] at hz
    have hml : maxLen = 9223372036854775807 := rfl
    refine ⟨by omega, zs, fun h => ?_⟩
    obtain ⟨bk, off, spot⟩ := a'
    have hspot : spot = none := by simpa [Addr.add] using World.cell?_spot (hcell 0 (by omega)).1
    subst hspot
    exact ⟨bk, off, rfl, fun i hi => by rw [← Lib.add_plain]; exact (hcell i (by omega)).1⟩
set_option maxRecDepth 100000 in
theorem read_int3 {H : Type} {enc : TypeId × Value → H} {W : World} {v : Value} {d : DataW H} {p : List MemPlace} {base : Nat} (hv : Value.okWide Try.prog W .any base 3 v) (h : DataW.Trod enc Try.prog W 0 (fun _ => true) true 3 v d p) : ∃ n : Int, v = .int .i64 n ∧ -9223372036854775808 ≤ n ∧ n ≤ 9223372036854775807 := by
  obtain ⟨n, rfl⟩ := okWide_int Try.underlying3 hv
  obtain ⟨fuel, hf⟩ := h
  obtain ⟨k, e, _, w⟩ := DataW.trod_int Try.underlying3 (by simpa [Value.cells] using hf)
  cases e
  exact ⟨_, rfl, bounds_i64' w⟩
end Go.Proofs.Ytpnchmelaonfiaa
