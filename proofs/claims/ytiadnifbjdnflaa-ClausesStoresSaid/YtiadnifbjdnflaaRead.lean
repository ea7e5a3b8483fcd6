/- Arguments that are slices of atoms, of edges: what their cells hold. -/
import Derived.Test.YtiadnifbjdnflaaKit
import Derived.Test.YtiadnifbjdnflaaSum
import Derived.Deep.Slices
namespace Go.Proofs.Ytiadnifbjdnflaa
open Go Go.RowKit Go.WideShapes Go.ChangeShapes Go.WideElems Go.Deep

theorem cells54e : Try.prog.cellsOf 70 = 4 := by kernel_rfl
theorem cells56 : Try.prog.cellsOf 56 = 3 := by kernel_rfl
theorem cells68 : Try.prog.cellsOf 68 = 1 := by kernel_rfl
theorem cells3 : Try.prog.cellsOf 3 = 1 := by kernel_rfl
theorem cells2' : Try.prog.cellsOf 2 = 1 := by kernel_rfl
set_option maxRecDepth 100000 in
theorem read_atoms {H : Type} {enc : TypeId × Value → H} {W : World} {ad : Option Addr} {m cp : Nat} {d : DataW H} {p : List MemPlace} (h : DataW.Trod enc Try.prog W 0 (fun _ => true) true 54 (.slice ad m cp) d p) :
    m ≤ 9223372036854775807 ∧ ∃ K A B C : Nat → Int, (∀ i, i < m → I64 (C i)) ∧ (0 < m → ∃ b off, ad = some ⟨b, off, none⟩ ∧ AtomsAt W b off m K A B C) := by
  obtain ⟨fuel, hf⟩ := h
  rcases open_slice Try.underlying54 hf with ⟨hcs, _⟩ | ⟨a', len', cap', mm, n, D, Pl, hcs, _, hl, hmx, hmm, _, hx⟩
  · simp [Value.cells] at hcs
    obtain ⟨rfl, rfl, rfl⟩ := hcs
    exact ⟨by omega, fun _ => 0, fun _ => 0, fun _ => 0, fun _ => 0, fun i hi => by omega, fun h => by omega⟩
  · simp [Value.cells] at hcs
    obtain ⟨rfl, rfl, rfl⟩ := hcs
    simp only [if_true] at hmm
    have hml : maxLen = 9223372036854775807 := rfl
    have each : ∀ i, i < mm → ∃ q : Int × Int × Int × Int, W.cell? (a'.add (i * 4)) = some (.int .u8 q.1) ∧ W.cell? (a'.add (i * 4 + 1)) = some (.int .i64 q.2.1) ∧ W.cell? (a'.add (i * 4 + 2)) = some (.int .i64 q.2.2.1) ∧ W.cell? (a'.add (i * 4 + 3)) = some (.int .i64 q.2.2.2) ∧ I64 q.2.2.2 := by
      intro i hi
      obtain ⟨cs', h1, h2⟩ := hx i hi
      rw [cells54e] at h1
      obtain ⟨_, hlen, hcell⟩ := World.cells?_some h1
      obtain ⟨xs, k, hk, hxy, _, hxl, hf⟩ := DataW.trod_struct Try.underlying70 h2
      match xs, hxl, cs', hlen with
      | [y0, y1, y2, y3], _, [v0, v1, v2, v3], _ =>
        have g0 := hf 0 _ rfl
        have g1 := hf 1 _ rfl
        have g2 := hf 2 _ rfl
        have g3 := hf 3 _ rfl
        simp [cells68, cells3, cells2'] at g0 g1 g2 g3
        obtain ⟨k0, e0, _, _⟩ := DataW.trod_int Try.underlying68 g0
        obtain ⟨k1, e1, _, _⟩ := DataW.trod_int Try.underlying3 g1
        obtain ⟨k2, e2, _, _⟩ := DataW.trod_int Try.underlying3 g2
        obtain ⟨k3, e3, _, w3⟩ := DataW.trod_int Try.underlying2 g3
        cases e0; cases e1; cases e2; cases e3
        have c0 := hcell 0 (by omega)
        have c1 := hcell 1 (by omega)
        have c2 := hcell 2 (by omega)
        have c3 := hcell 3 (by omega)
        rw [add_add] at c0 c1 c2 c3
        exact ⟨(k0, k1, k2, k3), by simpa using c0, by simpa using c1, by simpa using c2, by simpa using c3, bounds_i64' w3⟩
    obtain ⟨q, hq⟩ := choose_lt each
    refine ⟨by omega, fun i => (q i).1, fun i => (q i).2.1, fun i => (q i).2.2.1, fun i => (q i).2.2.2, fun i hi => (hq i (by omega)).2.2.2.2, fun h => ?_⟩
    obtain ⟨b, off, spot⟩ := a'
    have hspot : spot = none := by simpa [Addr.add] using World.cell?_spot (hq 0 (by omega)).1
    subst hspot
    refine ⟨b, off, rfl, ⟨fun i hi => ?_, fun i hi => ?_, fun i hi => ?_, fun i hi => ?_⟩⟩
    · have := (hq i (by omega)).1; rwa [add_plain] at this
    · have := (hq i (by omega)).2.1; rwa [add_plain] at this
    · have := (hq i (by omega)).2.2.1; rwa [add_plain] at this
    · have := (hq i (by omega)).2.2.2.1; rwa [add_plain] at this
set_option maxRecDepth 100000 in
theorem read_edges {H : Type} {enc : TypeId × Value → H} {W : World} {ad : Option Addr} {m cp : Nat} {d : DataW H} {p : List MemPlace} (h : DataW.Trod enc Try.prog W 0 (fun _ => true) true 60 (.slice ad m cp) d p) :
    m ≤ 9223372036854775807 ∧ ∃ X Y C : Nat → Int, (∀ i, i < m → I64 (X i) ∧ I64 (Y i) ∧ I64 (C i)) ∧ (0 < m → ∃ b off, ad = some ⟨b, off, none⟩ ∧ EdgesAt W b off m X Y C) := by
  obtain ⟨fuel, hf⟩ := h
  rcases open_slice Try.underlying60 hf with ⟨hcs, _⟩ | ⟨a', len', cap', mm, n, D, Pl, hcs, _, hl, hmx, hmm, _, hx⟩
  · simp [Value.cells] at hcs
    obtain ⟨rfl, rfl, rfl⟩ := hcs
    exact ⟨by omega, fun _ => 0, fun _ => 0, fun _ => 0, fun i hi => by omega, fun h => by omega⟩
  · simp [Value.cells] at hcs
    obtain ⟨rfl, rfl, rfl⟩ := hcs
    simp only [if_true] at hmm
    have hml : maxLen = 9223372036854775807 := rfl
    have each : ∀ i, i < mm → ∃ q : Int × Int × Int, W.cell? (a'.add (i * 3)) = some (.int .i64 q.1) ∧ W.cell? (a'.add (i * 3 + 1)) = some (.int .i64 q.2.1) ∧ W.cell? (a'.add (i * 3 + 2)) = some (.int .i64 q.2.2) ∧ I64 q.1 ∧ I64 q.2.1 ∧ I64 q.2.2 := by
      intro i hi
      obtain ⟨cs', h1, h2⟩ := hx i hi
      rw [cells56] at h1
      obtain ⟨_, hlen, hcell⟩ := World.cells?_some h1
      obtain ⟨xs, k, hk, hxy, _, hxl, hf⟩ := DataW.trod_struct Try.underlying56 h2
      match xs, hxl, cs', hlen with
      | [y0, y1, y2], _, [v0, v1, v2], _ =>
        have g0 := hf 0 _ rfl
        have g1 := hf 1 _ rfl
        have g2 := hf 2 _ rfl
        simp [cells3, cells2'] at g0 g1 g2
        obtain ⟨k0, e0, _, w0⟩ := DataW.trod_int Try.underlying3 g0
        obtain ⟨k1, e1, _, w1⟩ := DataW.trod_int Try.underlying3 g1
        obtain ⟨k2, e2, _, w2⟩ := DataW.trod_int Try.underlying2 g2
        cases e0; cases e1; cases e2
        have c0 := hcell 0 (by omega)
        have c1 := hcell 1 (by omega)
        have c2 := hcell 2 (by omega)
        rw [add_add] at c0 c1 c2
        exact ⟨(k0, k1, k2), by simpa using c0, by simpa using c1, by simpa using c2, bounds_i64' w0, bounds_i64' w1, bounds_i64' w2⟩
    obtain ⟨q, hq⟩ := choose_lt each
    refine ⟨by omega, fun i => (q i).1, fun i => (q i).2.1, fun i => (q i).2.2, fun i hi => (hq i (by omega)).2.2.2, fun h => ?_⟩
    obtain ⟨b, off, spot⟩ := a'
    have hspot : spot = none := by simpa [Addr.add] using World.cell?_spot (hq 0 (by omega)).1
    subst hspot
    refine ⟨b, off, rfl, ⟨fun i hi => ?_, fun i hi => ?_, fun i hi => ?_⟩⟩
    · have := (hq i (by omega)).1; rwa [add_plain] at this
    · have := (hq i (by omega)).2.1; rwa [add_plain] at this
    · have := (hq i (by omega)).2.2.1; rwa [add_plain] at this
end Go.Proofs.Ytiadnifbjdnflaa
