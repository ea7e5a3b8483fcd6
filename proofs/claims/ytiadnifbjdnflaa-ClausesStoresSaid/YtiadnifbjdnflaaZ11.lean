/- Arguments that are slices of rows of literals, read as rows of rows. -/
import Derived.Test.YtiadnifbjdnflaaKit
import Derived.Test.YtiadnifbjdnflaaRead2
import Derived.Test.YtiadnifbjdnflaaZ8
import Derived.Deep.Matrix
namespace Go.Proofs.Ytiadnifbjdnflaa
open Go Go.RowKit Go.WideShapes Go.ChangeShapes Go.WideElems Go.Deep

theorem cells22r : Try.prog.cellsOf 22 = 1 := by kernel_rfl
set_option maxRecDepth 100000 in
theorem read_args {H : Type} {enc : TypeId × Value → H} {W : World} {ad : Option Addr} {m cp : Nat} {d : DataW H} {p : List MemPlace} (h : DataW.Trod enc Try.prog W 0 (fun _ => true) true 33 (.slice ad m cp) d p) :
    m ≤ 9223372036854775807 ∧ ∃ (L : Nat → Nat) (V : Nat → Nat → Int), (∀ i, i < m → L i ≤ 9223372036854775807) ∧ ArgIn W ad m L V := by
  obtain ⟨fuel, hf⟩ := h
  have hml : maxLen = 9223372036854775807 := rfl
  rcases open_int_rows Try.underlying33 Try.underlying22 Try.underlying30 cells22r cells30 hf with ⟨hcs, _⟩ | ⟨a', len, cap, A, L, C, Z, hcs, _, hl, hm, _, hr⟩
  · simp [Value.cells] at hcs
    obtain ⟨rfl, rfl, rfl⟩ := hcs
    exact ⟨by omega, fun _ => 0, fun _ _ => 0, fun i hi => by omega, fun h => by omega⟩
  · simp [Value.cells] at hcs
    obtain ⟨rfl, rfl, rfl⟩ := hcs
    refine ⟨by omega, L, fun i j => (Z i).getD j 0, fun i hi => ?_, fun h0 => ?_⟩
    · obtain ⟨h1, h2, h3, _⟩ := hr i (by omega)
      omega
    · obtain ⟨b, off, spot⟩ := a'
      have hspot : spot = none := by simpa [Addr.add] using World.cell?_spot (hr 0 (by omega)).1
      subst hspot
      refine ⟨b, off, rfl, fun i hi => ?_⟩
      obtain ⟨h1, h2, h3, h4, h5, h6, h7⟩ := hr i (by omega)
      refine ⟨A i, C i, by rw [← Lib.add_plain]; exact h1, fun hq => ?_, h6⟩
      obtain ⟨qa, hqa⟩ : ∃ qa, qa = A i := ⟨_, rfl⟩
      rw [← hqa] at h6 h7 ⊢
      cases qa with
      | none => have := h6 rfl; omega
      | some a2 =>
        have hc := (h7 a2 rfl).2
        obtain ⟨b2, off2, spot2⟩ := a2
        have hs2 : spot2 = none := by simpa [Addr.add] using World.cell?_spot (hc 0 (by omega))
        subst hs2
        refine ⟨b2, off2, rfl, fun j hj => ?_⟩
        have := hc j (by omega)
        rw [Lib.add_plain] at this
        exact this
end Go.Proofs.Ytiadnifbjdnflaa
