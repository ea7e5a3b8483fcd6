/- An argument that is a slice of calls: what its cells hold. -/
import Derived.Test.YtkjmmdffelhkiaaKit
import Derived.Test.YtkjmmdffelhkiaaS15
import Derived.Deep.Slices
namespace Go.Proofs.Ytkjmmdffelhkiaa
open Go Go.RowKit Go.WideShapes Go.ChangeShapes Go.WideElems Go.Deep

theorem cells37 : Try.prog.cellsOf 37 = 6 := by kernel_rfl
theorem cells35 : Try.prog.cellsOf 35 = 4 := by kernel_rfl
theorem cells33 : Try.prog.cellsOf 33 = 1 := by kernel_rfl
theorem cells32 : Try.prog.cellsOf 32 = 1 := by kernel_rfl
theorem cells9 : Try.prog.cellsOf 9 = 1 := by kernel_rfl
theorem cells4' : Try.prog.cellsOf 4 = 1 := by kernel_rfl
theorem cells3' : Try.prog.cellsOf 3 = 1 := by kernel_rfl
set_option maxRecDepth 100000 in
/-- a row of sorts that is a cell. -/
theorem read_row {H : Type} {enc : TypeId × Value → H} {W : World} {n : Nat} {y : Value} {x : DataW H × List MemPlace} (h : DataW.trod enc Try.prog W 0 (fun _ => true) true n 32 [y] = some x) :
    ∃ (q : Option Addr × Nat × Nat × (Nat → Int)), y = .slice q.1 q.2.1 q.2.2.1 ∧ q.2.1 ≤ 9223372036854775807 ∧ IntsIn W q.1 q.2.1 q.2.2.2 ∧ (q.1 = none → q.2.1 = 0 ∧ q.2.2.1 = 0) ∧ ∀ k, k < q.2.1 → I64 (q.2.2.2 k) := by
  rcases open_ints Try.underlying32 Try.underlying33 cells33 h with ⟨hcs, _⟩ | ⟨a', len', cap', zs, hcs, _, hl, hmx, hz, _, hcell, hwf⟩
  · simp at hcs
    exact ⟨(none, 0, 0, fun _ => 0), hcs, by simp, fun h => by simp at h, fun _ => ⟨rfl, rfl⟩, fun k hk => by simp at hk⟩
  · simp at hcs
    simp only [if_true] at hz
    have hml : maxLen = 9223372036854775807 := rfl
    refine ⟨(some a', len', cap', fun i => zs.getD i 0), hcs, by simp; omega, fun h => ?_, fun h => by simp at h, fun k hk => ?_⟩
    · simp only at h
      obtain ⟨bk, off, spot⟩ := a'
      have hspot : spot = none := by simpa [Addr.add] using World.cell?_spot (hcell 0 (by omega))
      subst hspot
      exact ⟨bk, off, rfl, fun i hi => by rw [← Lib.add_plain]; exact hcell i (by simp at hi; omega)⟩
    · simp only at hk
      have hk2 : k < zs.length := by omega
      simp only [List.getD_eq_getElem?_getD, List.getElem?_eq_getElem hk2, Option.getD_some]
      exact bounds_i64' (hwf _ (List.getElem_mem hk2))
set_option maxRecDepth 100000 in
theorem read_ops {H : Type} {enc : TypeId × Value → H} {W : World} {ad : Option Addr} {m cp : Nat} {d : DataW H} {p : List MemPlace} (h : DataW.Trod enc Try.prog W 0 (fun _ => true) true 22 (.slice ad m cp) d p) :
    m ≤ 9223372036854775807 ∧ ∃ d0 : OD, OpsIn W ad m d0 := by
  obtain ⟨fuel, hf⟩ := h
  rcases open_slice Try.underlying22 hf with ⟨hcs, _⟩ | ⟨a', len', cap', mm, n, Dd, Pl, hcs, _, hl, hmx, hmm, _, hx⟩
  · simp [Value.cells] at hcs
    obtain ⟨rfl, rfl, rfl⟩ := hcs
    exact ⟨by omega, ⟨fun _ => 0, fun _ => 0, fun _ => ⟨⟨#[]⟩, none, 0, 0, fun _ => 0, 0, false⟩⟩, ⟨fun h => absurd h (by omega), fun i hi => absurd hi (by omega)⟩⟩
  · simp [Value.cells] at hcs
    obtain ⟨rfl, rfl, rfl⟩ := hcs
    simp only [if_true] at hmm
    have hml : maxLen = 9223372036854775807 := rfl
    have each : ∀ i, i < mm → ∃ q : Int × Int × Info, W.cell? (a'.add (i * 6)) = some (.int .i64 q.1) ∧ W.cell? (a'.add (i * 6 + 1)) = some (.int .i64 q.2.1) ∧ W.cell? (a'.add (i * 6 + 2)) = some (.string q.2.2.N) ∧ W.cell? (a'.add (i * 6 + 3)) = some (.slice q.2.2.P q.2.2.L q.2.2.C) ∧ W.cell? (a'.add (i * 6 + 4)) = some (.int .i64 q.2.2.R) ∧ W.cell? (a'.add (i * 6 + 5)) = some (.bool q.2.2.D) ∧
        (IntsIn W q.2.2.P q.2.2.L q.2.2.V ∧ q.2.2.L ≤ 9223372036854775807 ∧ (q.2.2.P = none → q.2.2.L = 0 ∧ q.2.2.C = 0) ∧ q.2.2.N.size ≤ 9223372036854775807 ∧ I64 q.2.1 ∧ I64 q.2.2.R ∧ ∀ k, k < q.2.2.L → I64 (q.2.2.V k)) := by
      intro i hi
      obtain ⟨cs', h1, h2⟩ := hx i hi
      rw [cells37] at h1
      obtain ⟨_, hlen, hcell⟩ := World.cells?_some h1
      obtain ⟨xs, k, hk, hxy, _, hxl, hf⟩ := DataW.trod_struct Try.underlying37 h2
      match xs, hxl, cs', hlen with
      | [y0, y1, y2], _, [v0, v1, v2, v3, v4, v5], _ =>
        have g0 := hf 0 _ rfl
        have g1 := hf 1 _ rfl
        have g2 := hf 2 _ rfl
        simp [cells35, cells3'] at g0 g1 g2
        obtain ⟨k0, e0, _, w0⟩ := DataW.trod_int Try.underlying3 g0
        obtain ⟨k1, e1, _, w1⟩ := DataW.trod_int Try.underlying3 g1
        obtain ⟨xs2, k2', hk2, hxy2, _, hxl2, hf2⟩ := DataW.trod_struct Try.underlying35 g2
        match xs2, hxl2 with
        | [z0, z1, z2, z3], _ =>
          have f0 := hf2 0 _ rfl
          have f1 := hf2 1 _ rfl
          have f2 := hf2 2 _ rfl
          have f3 := hf2 3 _ rfl
          simp [cells32, cells33, cells9, cells4'] at f0 f1 f2 f3
          obtain ⟨s2, e2, _, w2⟩ := DataW.trod_string Try.underlying9 f0
          obtain ⟨q3, e3, r3, t3, u3, s3⟩ := read_row f1
          obtain ⟨k4, e4, _, w4⟩ := DataW.trod_int Try.underlying33 f2
          obtain ⟨b5, e5, _⟩ := DataW.trod_bool Try.underlying4 f3
          cases e0
          cases e1
          cases e2
          subst e3
          cases e4
          cases e5
          have c0 := hcell 0 (by omega)
          have c1 := hcell 1 (by omega)
          have c2 := hcell 2 (by omega)
          have c3 := hcell 3 (by omega)
          have c4 := hcell 4 (by omega)
          have c5 := hcell 5 (by omega)
          rw [add_add] at c0 c1 c2 c3 c4 c5
          exact ⟨(k0, k1, ⟨s2, q3.1, q3.2.1, q3.2.2.1, q3.2.2.2, k4, b5⟩), by simpa using c0, by simpa using c1, by simpa using c2, by simpa using c3, by simpa using c4, by simpa using c5, t3, r3, u3, w2, bounds_i64' w1, bounds_i64' w4, s3⟩
    haveI : Inhabited Info := ⟨⟨⟨#[]⟩, none, 0, 0, fun _ => 0, 0, false⟩⟩
    obtain ⟨q, hq⟩ := choose_lt each
    refine ⟨by omega, ⟨fun i => (q i).1, fun i => (q i).2.1, fun i => (q i).2.2⟩, ⟨fun h => ?_, fun i hi => (hq i (by omega)).2.2.2.2.2.2⟩⟩
    obtain ⟨b, off, spot⟩ := a'
    have hspot : spot = none := by simpa [Addr.add] using World.cell?_spot (hq 0 (by omega)).1
    subst hspot
    refine ⟨b, off, rfl, ⟨fun i hi => ?_, fun i hi => ?_, fun i hi => ?_, fun i hi => ?_, fun i hi => ?_, fun i hi => ?_⟩⟩
    · have := (hq i (by omega)).1; rwa [Lib.add_plain] at this
    · have := (hq i (by omega)).2.1; rwa [Lib.add_plain] at this
    · have := (hq i (by omega)).2.2.1; rwa [Lib.add_plain] at this
    · have := (hq i (by omega)).2.2.2.1; rwa [Lib.add_plain] at this
    · have := (hq i (by omega)).2.2.2.2.1; rwa [Lib.add_plain] at this
    · have := (hq i (by omega)).2.2.2.2.2.1; rwa [Lib.add_plain] at this
end Go.Proofs.Ytkjmmdffelhkiaa
