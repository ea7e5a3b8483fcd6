/- Arguments that are slices of clauses, or of literals. -/
import Derived.Test.YtgdncnalahdjeaaKit
import Derived.Test.YtgdncnalahdjeaaU16
import Derived.Deep.Matrix
namespace Go.Proofs.Ytgdncnalahdjeaa
open Go Go.RowKit Go.WideShapes Go.ChangeShapes Go.WideElems Go.Deep

theorem cells54r : Try.prog.cellsOf 54 = 1 := by kernel_rfl
theorem cells23r : Try.prog.cellsOf 23 = 1 := by kernel_rfl
theorem row_lits {W : World} {a : Option Addr} {L C : Nat} {Z : List Int} (hL : L ≤ C) (hZ : Z.length = C) (hn : a = none → C = 0) (hc : ∀ a', a = some a' → ∀ c, c < C → W.cell? (a'.add c) = some (.int .i64 (Z.getD c 0))) : (Z.take L).length = L ∧ LitsIn W a (Z.take L).length (fnL (Z.take L)) := by
  have hl : (Z.take L).length = L := by rw [List.length_take]; omega
  refine ⟨hl, ?_⟩
  rw [hl]
  intro h0
  cases a with
  | none => have := hn rfl; omega
  | some a' =>
    obtain ⟨b, off, spot⟩ := a'
    have hspot : spot = none := by simpa [Addr.add] using World.cell?_spot (hc _ rfl 0 (by omega))
    subst hspot
    refine ⟨b, off, rfl, fun i hi => ?_⟩
    have := hc _ rfl i (by omega)
    rw [Lib.add_plain] at this
    rw [this]
    unfold fnL
    rw [getD_eq (c := Z) (by omega), getD_eq (c := Z.take L) (by omega), List.getElem_take]
set_option maxRecDepth 100000 in
theorem read_rows {H : Type} {enc : TypeId × Value → H} {W : World} {ad : Option Addr} {m cp : Nat} {d : DataW H} {p : List MemPlace} (h : DataW.Trod enc Try.prog W 0 (fun _ => true) true 22 (.slice ad m cp) d p) :
    ∃ dbl : List (List Int), dbl.length = m ∧ dbl.length ≤ 9223372036854775807 ∧ RowsIn W ad dbl ∧ Fit63 dbl ∧ (ad = none → cp = 0) ∧ dbl.length ≤ cp ∧ cp ≤ 9223372036854775807 := by
  obtain ⟨fuel, hf⟩ := h
  have hml : maxLen = 9223372036854775807 := rfl
  rcases open_int_rows Try.underlying22 Try.underlying23 Try.underlying54 cells23r cells54r hf with ⟨hcs, _⟩ | ⟨a', len, cap, A, L, C, Z, hcs, _, hl, hm, _, hr⟩
  · simp [Value.cells] at hcs
    obtain ⟨rfl, rfl, rfl⟩ := hcs
    exact ⟨[], rfl, by simp, fun h => by simp at h, fun c hc => by simp at hc, fun _ => rfl, by simp, by omega⟩
  · simp [Value.cells] at hcs
    obtain ⟨rfl, rfl, rfl⟩ := hcs
    refine ⟨(List.range m).map fun r => (Z r).take (L r), by simp, by simp; omega, fun h0 => ?_, fun c hc => ?_, (fun h => by cases h), by simpa using hl, by omega⟩
    · simp at h0
      obtain ⟨b, off, spot⟩ := a'
      have hspot : spot = none := by simpa [Addr.add] using World.cell?_spot (hr 0 (by omega)).1
      subst hspot
      refine ⟨b, off, rfl, fun i c hi => ?_⟩
      have him : i < m := by
        have := (List.getElem?_eq_some_iff.1 hi).1
        simpa using this
      simp [him] at hi
      subst hi
      obtain ⟨h1, h2, h3, h4, h5, h6, h7⟩ := hr i (by omega)
      obtain ⟨e, hq⟩ := row_lits h2 h4 h6 (fun a' ha => (h7 a' ha).2)
      refine ⟨A i, C i, ?_, hq⟩
      rw [e]
      rw [← Lib.add_plain]
      exact h1
    · obtain ⟨r, hrm, rfl⟩ := List.mem_map.1 hc
      obtain ⟨h1, h2, h3, h4, _⟩ := hr r (by have := List.mem_range.1 hrm; omega)
      rw [List.length_take]
      omega
set_option maxRecDepth 100000 in
theorem read_lits {H : Type} {enc : TypeId × Value → H} {W : World} {ad : Option Addr} {m cp : Nat} {d : DataW H} {p : List MemPlace} (h : DataW.Trod enc Try.prog W 0 (fun _ => true) true 23 (.slice ad m cp) d p) :
    ∃ c : List Int, c.length = m ∧ c.length ≤ 9223372036854775807 ∧ LitsIn W ad c.length (fnL c) ∧ (ad = none → cp = 0) ∧ c.length ≤ cp ∧ cp ≤ 9223372036854775807 := by
  obtain ⟨fuel, hf⟩ := h
  have hml : maxLen = 9223372036854775807 := rfl
  rcases open_ints Try.underlying23 Try.underlying54 cells54r hf with ⟨hcs, _⟩ | ⟨a', len', cap', zs, hcs, _, hl, hmx, hz, _, hcell, hwf⟩
  · simp [Value.cells] at hcs
    obtain ⟨rfl, rfl, rfl⟩ := hcs
    exact ⟨[], rfl, by simp, fun h => by simp at h, fun _ => rfl, by simp, by omega⟩
  · simp [Value.cells] at hcs
    obtain ⟨rfl, rfl, rfl⟩ := hcs
    simp only [if_true] at hz
    obtain ⟨e, hq⟩ := row_lits (W := W) (a := some a') (L := m) (C := cp) (Z := zs) hl (by omega) (fun h => by cases h) (fun a2 ha c hc => by cases ha; exact hcell c (by omega))
    exact ⟨zs.take m, e, by omega, hq, (fun h => by cases h), by omega, by omega⟩
theorem u64_of {x : Int} (h : (Lit.int .u64 x).wf = true) : 0 ≤ x ∧ x ≤ 18446744073709551615 := by
  simpa [Lit.wf, IntKind.min, IntKind.max, IntKind.signed, IntKind.bits] using h
end Go.Proofs.Ytgdncnalahdjeaa
