/- Arguments that are slices of vertices, atoms, links: what their cells hold. -/
import Derived.Test.YtgdncnalahdjeaaKit
import Derived.Test.YtgdncnalahdjeaaL1
import Derived.Deep.Slices
namespace Go.Proofs.Ytgdncnalahdjeaa
open Go Go.RowKit Go.WideShapes Go.ChangeShapes Go.WideElems Go.Deep

theorem cells84 : Try.prog.cellsOf 84 = 5 := by kernel_rfl
theorem cells99 : Try.prog.cellsOf 99 = 4 := by kernel_rfl
theorem cells57 : Try.prog.cellsOf 57 = 7 := by kernel_rfl
theorem cells55 : Try.prog.cellsOf 55 = 1 := by kernel_rfl
theorem cells82 : Try.prog.cellsOf 82 = 1 := by kernel_rfl
theorem cells97 : Try.prog.cellsOf 97 = 1 := by kernel_rfl
theorem cells53 : Try.prog.cellsOf 53 = 1 := by kernel_rfl
theorem cells54' : Try.prog.cellsOf 54 = 1 := by kernel_rfl
theorem cells3' : Try.prog.cellsOf 3 = 1 := by kernel_rfl
theorem cells2' : Try.prog.cellsOf 2 = 1 := by kernel_rfl
set_option maxRecDepth 100000 in
/-- a row of numbers that is a cell. -/
theorem read_row {H : Type} {enc : TypeId × Value → H} {W : World} {n : Nat} {y : Value} {x : DataW H × List MemPlace} (h : DataW.trod enc Try.prog W 0 (fun _ => true) true n 55 [y] = some x) :
    ∃ (q : Option Addr × Nat × Nat × (Nat → Int)), y = .slice q.1 q.2.1 q.2.2.1 ∧ q.2.1 ≤ 9223372036854775807 ∧ LitsIn W q.1 q.2.1 q.2.2.2 := by
  rcases open_ints Try.underlying55 Try.underlying3 cells3' h with ⟨hcs, _⟩ | ⟨a', len', cap', zs, hcs, _, hl, hmx, hz, _, hcell, hwf⟩
  · simp at hcs
    exact ⟨(none, 0, 0, fun _ => 0), hcs, by simp, fun h => by simp at h⟩
  · simp at hcs
    simp only [if_true] at hz
    have hml : maxLen = 9223372036854775807 := rfl
    refine ⟨(some a', len', cap', fun i => zs.getD i 0), hcs, by simp; omega, fun h => ?_⟩
    simp only at h
    obtain ⟨bk, off, spot⟩ := a'
    have hspot : spot = none := by simpa [Addr.add] using World.cell?_spot (hcell 0 (by omega))
    subst hspot
    exact ⟨bk, off, rfl, fun i hi => by rw [← Lib.add_plain]; exact hcell i (by simp at hi; omega)⟩
set_option maxRecDepth 100000 in
theorem read_verts {H : Type} {enc : TypeId × Value → H} {W : World} {ad : Option Addr} {m cp : Nat} {d : DataW H} {p : List MemPlace} (h : DataW.Trod enc Try.prog W 0 (fun _ => true) true 46 (.slice ad m cp) d p) :
    m ≤ cp ∧ cp ≤ 9223372036854775807 ∧ (ad = none → cp = 0) ∧ ∃ d0 : VD, VertsIn W ad m d0 := by
  obtain ⟨fuel, hf⟩ := h
  rcases open_slice Try.underlying46 hf with ⟨hcs, _⟩ | ⟨a', len', cap', mm, n, Dd, Pl, hcs, _, hl, hmx, hmm, _, hx⟩
  · simp [Value.cells] at hcs
    obtain ⟨rfl, rfl, rfl⟩ := hcs
    exact ⟨by omega, by omega, fun _ => rfl, ⟨fun _ => 0, fun _ => none, fun _ => 0, fun _ => 0, fun _ _ => 0, fun _ => 0, fun _ => 0, fun _ => 0⟩, fun h => absurd h (by omega)⟩
  · simp [Value.cells] at hcs
    obtain ⟨rfl, rfl, rfl⟩ := hcs
    simp only [if_true] at hmm
    have hml : maxLen = 9223372036854775807 := rfl
    have each : ∀ i, i < mm → ∃ q : Int × (Option Addr × Nat × Nat × (Nat → Int)) × Int × Int × Int, W.cell? (a'.add (i * 5)) = some (.int .i64 q.1) ∧ W.cell? (a'.add (i * 5 + 1)) = some (.slice q.2.1.1 q.2.1.2.1 q.2.1.2.2.1) ∧ W.cell? (a'.add (i * 5 + 2)) = some (.int .i64 q.2.2.1) ∧ W.cell? (a'.add (i * 5 + 3)) = some (.int .i64 q.2.2.2.1) ∧ W.cell? (a'.add (i * 5 + 4)) = some (.int .i64 q.2.2.2.2) ∧ (q.2.1.2.1 ≤ 9223372036854775807 ∧ LitsIn W q.2.1.1 q.2.1.2.1 q.2.1.2.2.2) := by
      intro i hi
      obtain ⟨cs', h1, h2⟩ := hx i hi
      rw [cells84] at h1
      obtain ⟨_, hlen, hcell⟩ := World.cells?_some h1
      obtain ⟨xs, k, hk, hxy, _, hxl, hf⟩ := DataW.trod_struct Try.underlying84 h2
      match xs, hxl, cs', hlen with
      | [y0, y1, y2, y3, y4], _, [v0, v1, v2, v3, v4], _ =>
        have g0 := hf 0 _ rfl
        have g1 := hf 1 _ rfl
        have g2 := hf 2 _ rfl
        have g3 := hf 3 _ rfl
        have g4 := hf 4 _ rfl
        simp [cells55, cells82, cells3', cells2'] at g0 g1 g2 g3 g4
        obtain ⟨k0, e0, _, w0⟩ := DataW.trod_int Try.underlying3 g0
        obtain ⟨k1, e1, r1, s1⟩ := read_row g1
        obtain ⟨k2, e2, _, w2⟩ := DataW.trod_int Try.underlying82 g2
        obtain ⟨k3, e3, _, w3⟩ := DataW.trod_int Try.underlying3 g3
        obtain ⟨k4, e4, _, w4⟩ := DataW.trod_int Try.underlying2 g4
        cases e0
        subst e1
        cases e2
        cases e3
        cases e4
        have c0 := hcell 0 (by omega)
        have c1 := hcell 1 (by omega)
        have c2 := hcell 2 (by omega)
        have c3 := hcell 3 (by omega)
        have c4 := hcell 4 (by omega)
        rw [add_add] at c0 c1 c2 c3 c4
        exact ⟨(k0, k1, k2, k3, k4), by simpa using c0, by simpa using c1, by simpa using c2, by simpa using c3, by simpa using c4, ⟨r1, s1⟩⟩
    obtain ⟨q, hq⟩ := choose_lt each
    refine ⟨by omega, by omega, (fun h => by cases h), ⟨fun i => (q i).1, fun i => (q i).2.1.1, fun i => (q i).2.1.2.1, fun i => (q i).2.1.2.2.1, fun i => (q i).2.1.2.2.2, fun i => (q i).2.2.1, fun i => (q i).2.2.2.1, fun i => (q i).2.2.2.2⟩, fun h => ?_⟩
    obtain ⟨b, off, spot⟩ := a'
    have hspot : spot = none := by simpa [Addr.add] using World.cell?_spot (hq 0 (by omega)).1
    subst hspot
    refine ⟨b, off, rfl, ⟨fun i hi => ?_, fun i hi => ?_, fun i hi => ?_, fun i hi => ?_, fun i hi => ?_, fun i hi => ?_⟩⟩
    · have := (hq i (by omega)).1; rwa [Lib.add_plain] at this
    · have := (hq i (by omega)).2.1; rwa [Lib.add_plain] at this
    · have := (hq i (by omega)).2.2.1; rw [Lib.add_plain] at this; exact ⟨_, this, rfl⟩
    · have := (hq i (by omega)).2.2.2.1; rwa [Lib.add_plain] at this
    · have := (hq i (by omega)).2.2.2.2.1; rwa [Lib.add_plain] at this
    · exact ⟨(hq i (by omega)).2.2.2.2.2.2, (hq i (by omega)).2.2.2.2.2.1⟩
set_option maxRecDepth 100000 in
theorem read_atoms {H : Type} {enc : TypeId × Value → H} {W : World} {ad : Option Addr} {m cp : Nat} {d : DataW H} {p : List MemPlace} (h : DataW.Trod enc Try.prog W 0 (fun _ => true) true 47 (.slice ad m cp) d p) :
    m ≤ cp ∧ cp ≤ 9223372036854775807 ∧ (ad = none → cp = 0) ∧ ∃ d0 : AD, AtomsIn W ad m d0 := by
  obtain ⟨fuel, hf⟩ := h
  rcases open_slice Try.underlying47 hf with ⟨hcs, _⟩ | ⟨a', len', cap', mm, n, Dd, Pl, hcs, _, hl, hmx, hmm, _, hx⟩
  · simp [Value.cells] at hcs
    obtain ⟨rfl, rfl, rfl⟩ := hcs
    exact ⟨by omega, by omega, fun _ => rfl, ⟨fun _ => 0, fun _ => 0, fun _ => 0, fun _ => 0⟩, fun h => absurd h (by omega)⟩
  · simp [Value.cells] at hcs
    obtain ⟨rfl, rfl, rfl⟩ := hcs
    simp only [if_true] at hmm
    have hml : maxLen = 9223372036854775807 := rfl
    have each : ∀ i, i < mm → ∃ q : Int × Int × Int × Int, W.cell? (a'.add (i * 4)) = some (.int .u8 q.1) ∧ W.cell? (a'.add (i * 4 + 1)) = some (.int .i64 q.2.1) ∧ W.cell? (a'.add (i * 4 + 2)) = some (.int .i64 q.2.2.1) ∧ W.cell? (a'.add (i * 4 + 3)) = some (.int .i64 q.2.2.2) := by
      intro i hi
      obtain ⟨cs', h1, h2⟩ := hx i hi
      rw [cells99] at h1
      obtain ⟨_, hlen, hcell⟩ := World.cells?_some h1
      obtain ⟨xs, k, hk, hxy, _, hxl, hf⟩ := DataW.trod_struct Try.underlying99 h2
      match xs, hxl, cs', hlen with
      | [y0, y1, y2, y3], _, [v0, v1, v2, v3], _ =>
        have g0 := hf 0 _ rfl
        have g1 := hf 1 _ rfl
        have g2 := hf 2 _ rfl
        have g3 := hf 3 _ rfl
        simp [cells97, cells3', cells2'] at g0 g1 g2 g3
        obtain ⟨k0, e0, _, w0⟩ := DataW.trod_int Try.underlying97 g0
        obtain ⟨k1, e1, _, w1⟩ := DataW.trod_int Try.underlying3 g1
        obtain ⟨k2, e2, _, w2⟩ := DataW.trod_int Try.underlying3 g2
        obtain ⟨k3, e3, _, w3⟩ := DataW.trod_int Try.underlying2 g3
        cases e0
        cases e1
        cases e2
        cases e3
        have c0 := hcell 0 (by omega)
        have c1 := hcell 1 (by omega)
        have c2 := hcell 2 (by omega)
        have c3 := hcell 3 (by omega)
        rw [add_add] at c0 c1 c2 c3
        exact ⟨(k0, k1, k2, k3), by simpa using c0, by simpa using c1, by simpa using c2, by simpa using c3⟩
    obtain ⟨q, hq⟩ := choose_lt each
    refine ⟨by omega, by omega, (fun h => by cases h), ⟨fun i => (q i).1, fun i => (q i).2.1, fun i => (q i).2.2.1, fun i => (q i).2.2.2⟩, fun h => ?_⟩
    obtain ⟨b, off, spot⟩ := a'
    have hspot : spot = none := by simpa [Addr.add] using World.cell?_spot (hq 0 (by omega)).1
    subst hspot
    refine ⟨b, off, rfl, ⟨fun i hi => ?_, fun i hi => ?_, fun i hi => ?_, fun i hi => ?_⟩⟩
    · have := (hq i (by omega)).1; rwa [Lib.add_plain] at this
    · have := (hq i (by omega)).2.1; rwa [Lib.add_plain] at this
    · have := (hq i (by omega)).2.2.1; rwa [Lib.add_plain] at this
    · have := (hq i (by omega)).2.2.2; rwa [Lib.add_plain] at this
set_option maxRecDepth 100000 in
theorem read_links {H : Type} {enc : TypeId × Value → H} {W : World} {ad : Option Addr} {m cp : Nat} {d : DataW H} {p : List MemPlace} (h : DataW.Trod enc Try.prog W 0 (fun _ => true) true 48 (.slice ad m cp) d p) :
    m ≤ cp ∧ cp ≤ 9223372036854775807 ∧ (ad = none → cp = 0) ∧ ∃ d0 : LD, (∀ i, i < m → -9223372036854775808 ≤ d0.T i ∧ d0.T i ≤ 9223372036854775807) ∧ LinksIn W ad m d0 := by
  obtain ⟨fuel, hf⟩ := h
  rcases open_slice Try.underlying48 hf with ⟨hcs, _⟩ | ⟨a', len', cap', mm, n, Dd, Pl, hcs, _, hl, hmx, hmm, _, hx⟩
  · simp [Value.cells] at hcs
    obtain ⟨rfl, rfl, rfl⟩ := hcs
    exact ⟨by omega, by omega, fun _ => rfl, ⟨fun _ => 0, fun _ => 0, fun _ => 0, fun _ => 0, fun _ => 0, fun _ => 0, fun _ => none, fun _ => 0, fun _ => 0, fun _ _ => 0⟩, fun i hi => absurd hi (by omega), fun h => absurd h (by omega)⟩
  · simp [Value.cells] at hcs
    obtain ⟨rfl, rfl, rfl⟩ := hcs
    simp only [if_true] at hmm
    have hml : maxLen = 9223372036854775807 := rfl
    have each : ∀ i, i < mm → ∃ q : Int × Int × Int × Int × Int × Int × (Option Addr × Nat × Nat × (Nat → Int)), W.cell? (a'.add (i * 7)) = some (.int .u8 q.1) ∧ W.cell? (a'.add (i * 7 + 1)) = some (.int .i64 q.2.1) ∧ W.cell? (a'.add (i * 7 + 2)) = some (.int .i64 q.2.2.1) ∧ W.cell? (a'.add (i * 7 + 3)) = some (.int .i64 q.2.2.2.1) ∧ W.cell? (a'.add (i * 7 + 4)) = some (.int .i64 q.2.2.2.2.1) ∧ W.cell? (a'.add (i * 7 + 5)) = some (.int .i64 q.2.2.2.2.2.1) ∧ W.cell? (a'.add (i * 7 + 6)) = some (.slice q.2.2.2.2.2.2.1 q.2.2.2.2.2.2.2.1 q.2.2.2.2.2.2.2.2.1) ∧ (q.2.2.2.2.2.2.2.1 ≤ 9223372036854775807 ∧ LitsIn W q.2.2.2.2.2.2.1 q.2.2.2.2.2.2.2.1 q.2.2.2.2.2.2.2.2.2) ∧ (-9223372036854775808 ≤ q.2.1 ∧ q.2.1 ≤ 9223372036854775807) := by
      intro i hi
      obtain ⟨cs', h1, h2⟩ := hx i hi
      rw [cells57] at h1
      obtain ⟨_, hlen, hcell⟩ := World.cells?_some h1
      obtain ⟨xs, k, hk, hxy, _, hxl, hf⟩ := DataW.trod_struct Try.underlying57 h2
      match xs, hxl, cs', hlen with
      | [y0, y1, y2, y3, y4, y5, y6], _, [v0, v1, v2, v3, v4, v5, v6], _ =>
        have g0 := hf 0 _ rfl
        have g1 := hf 1 _ rfl
        have g2 := hf 2 _ rfl
        have g3 := hf 3 _ rfl
        have g4 := hf 4 _ rfl
        have g5 := hf 5 _ rfl
        have g6 := hf 6 _ rfl
        simp [cells55, cells53, cells54', cells3'] at g0 g1 g2 g3 g4 g5 g6
        obtain ⟨k0, e0, _, w0⟩ := DataW.trod_int Try.underlying53 g0
        obtain ⟨k1, e1, _, w1⟩ := DataW.trod_int Try.underlying54 g1
        obtain ⟨k2, e2, _, w2⟩ := DataW.trod_int Try.underlying3 g2
        obtain ⟨k3, e3, _, w3⟩ := DataW.trod_int Try.underlying3 g3
        obtain ⟨k4, e4, _, w4⟩ := DataW.trod_int Try.underlying3 g4
        obtain ⟨k5, e5, _, w5⟩ := DataW.trod_int Try.underlying3 g5
        obtain ⟨k6, e6, r6, s6⟩ := read_row g6
        cases e0
        cases e1
        cases e2
        cases e3
        cases e4
        cases e5
        subst e6
        have c0 := hcell 0 (by omega)
        have c1 := hcell 1 (by omega)
        have c2 := hcell 2 (by omega)
        have c3 := hcell 3 (by omega)
        have c4 := hcell 4 (by omega)
        have c5 := hcell 5 (by omega)
        have c6 := hcell 6 (by omega)
        rw [add_add] at c0 c1 c2 c3 c4 c5 c6
        exact ⟨(k0, k1, k2, k3, k4, k5, k6), by simpa using c0, by simpa using c1, by simpa using c2, by simpa using c3, by simpa using c4, by simpa using c5, by simpa using c6, ⟨r6, s6⟩, bounds_i64' w1⟩
    obtain ⟨q, hq⟩ := choose_lt each
    refine ⟨by omega, by omega, (fun h => by cases h), ⟨fun i => (q i).1, fun i => (q i).2.1, fun i => (q i).2.2.1, fun i => (q i).2.2.2.1, fun i => (q i).2.2.2.2.1, fun i => (q i).2.2.2.2.2.1, fun i => (q i).2.2.2.2.2.2.1, fun i => (q i).2.2.2.2.2.2.2.1, fun i => (q i).2.2.2.2.2.2.2.2.1, fun i => (q i).2.2.2.2.2.2.2.2.2⟩, fun i hi => (hq i (by omega)).2.2.2.2.2.2.2.2, fun h => ?_⟩
    obtain ⟨b, off, spot⟩ := a'
    have hspot : spot = none := by simpa [Addr.add] using World.cell?_spot (hq 0 (by omega)).1
    subst hspot
    refine ⟨b, off, rfl, ⟨fun i hi => ?_, fun i hi => ?_, fun i hi => ?_, fun i hi => ?_, fun i hi => ?_, fun i hi => ?_, fun i hi => ?_, fun i hi => ?_⟩⟩
    · have := (hq i (by omega)).1; rwa [Lib.add_plain] at this
    · have := (hq i (by omega)).2.1; rwa [Lib.add_plain] at this
    · have := (hq i (by omega)).2.2.1; rwa [Lib.add_plain] at this
    · have := (hq i (by omega)).2.2.2.1; rwa [Lib.add_plain] at this
    · have := (hq i (by omega)).2.2.2.2.1; rwa [Lib.add_plain] at this
    · have := (hq i (by omega)).2.2.2.2.2.1; rwa [Lib.add_plain] at this
    · have := (hq i (by omega)).2.2.2.2.2.2.1; rwa [Lib.add_plain] at this
    · exact ⟨(hq i (by omega)).2.2.2.2.2.2.2.1.2, (hq i (by omega)).2.2.2.2.2.2.2.1.1⟩
end Go.Proofs.Ytgdncnalahdjeaa
