/- Arguments that are slices of clauses, where what is nil has no room. -/
import Derived.Test.YtgdncnalahdjeaaReadR
import Derived.Test.YtgdncnalahdjeaaW1
namespace Go.Proofs.Ytgdncnalahdjeaa
open Go Go.RowKit Go.WideShapes Go.ChangeShapes Go.WideElems Go.Deep

set_option maxRecDepth 100000 in
theorem read_rowsz {H : Type} {enc : TypeId × Value → H} {W : World} {ad : Option Addr} {m cp : Nat} {d : DataW H} {p : List MemPlace} (h : DataW.Trod enc Try.prog W 0 (fun _ => true) true 22 (.slice ad m cp) d p) :
    ∃ dbl : List (List Int), dbl.length = m ∧ dbl.length ≤ 9223372036854775807 ∧ RowsZ W ad dbl ∧ Fit63 dbl ∧ (ad = none → cp = 0) ∧ dbl.length ≤ cp ∧ cp ≤ 9223372036854775807 := by
  obtain ⟨fuel, hf⟩ := h
  have hml : maxLen = 9223372036854775807 := rfl
  rcases open_int_rows Try.underlying22 Try.underlying23 Try.underlying54 cells23r cells54r hf with ⟨hcs, _⟩ | ⟨a', len, cap, A, L, C, Z, hcs, _, hl, hm, _, hr⟩
  · simp [Value.cells] at hcs
    obtain ⟨rfl, rfl, rfl⟩ := hcs
    exact ⟨[], rfl, by simp, fun h => by simp at h, fun c hc => by simp at hc, fun _ => rfl, by simp, by omega⟩
  · simp [Value.cells] at hcs
    obtain ⟨rfl, rfl, rfl⟩ := hcs
    refine ⟨(List.range m).map fun r => (Z r).take (L r), by simp, by simp; omega, fun h0 => ?_, fun c hc => ?_, (fun h => by cases h), by simpa using hl, by omega⟩
    · simp at h0
      obtain ⟨b, off, spot⟩ := a'
      have hspot : spot = none := by simpa [Addr.add] using World.cell?_spot (hr 0 (by omega)).1
      subst hspot
      refine ⟨b, off, rfl, fun i c hi => ?_⟩
      have him : i < m := by
        have := (List.getElem?_eq_some_iff.1 hi).1
        simpa using this
      simp [him] at hi
      subst hi
      obtain ⟨h1, h2, h3, h4, h5, h6, h7⟩ := hr i (by omega)
      obtain ⟨e, hq⟩ := row_lits h2 h4 h6 (fun a' ha => (h7 a' ha).2)
      refine ⟨A i, C i, ?_, hq, h6⟩
      rw [e]
      rw [← Lib.add_plain]
      exact h1
    · obtain ⟨r, hrm, rfl⟩ := List.mem_map.1 hc
      obtain ⟨h1, h2, h3, h4, _⟩ := hr r (by have := List.mem_range.1 hrm; omega)
      rw [List.length_take]
      omega
end Go.Proofs.Ytgdncnalahdjeaa
