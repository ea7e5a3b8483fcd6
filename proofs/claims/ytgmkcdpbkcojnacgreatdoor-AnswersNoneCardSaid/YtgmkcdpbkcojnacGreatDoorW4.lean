/- What a world that is read holds. -/
import Derived.Test.YtgmkcdpbkcojnacGreatDoorW3
namespace Go.Proofs.YtgmkcdpbkcojnacGreatDoor
open Go Go.RowKit Go.WideShapes Go.ChangeShapes Go.WideElems Go.Deep

theorem cells69 : Tryz.prog.cellsOf 69 = 7 := by kernel_rfl
theorem cells72 : Tryz.prog.cellsOf 72 = 6 := by kernel_rfl
theorem cells30 : Tryz.prog.cellsOf 30 = 2 := by kernel_rfl
theorem cells27 : Tryz.prog.cellsOf 27 = 1 := by kernel_rfl
theorem cells28 : Tryz.prog.cellsOf 28 = 1 := by kernel_rfl
theorem cells67 : Tryz.prog.cellsOf 67 = 1 := by kernel_rfl
theorem cells57 : Tryz.prog.cellsOf 57 = 1 := by kernel_rfl
theorem add_plain' (b o i : Nat) : (⟨b, o, none⟩ : Addr).add i = ⟨b, o + i, none⟩ := by unfold Addr.add; split <;> simp_all
variable {H : Type} {enc : TypeId × Value → H} {W : World}
/-- a slice of anything: its length and room -/
theorem read_slice {n t e : TypeId} {y : Value} {x : DataW H × List MemPlace} (ht : Tryz.prog.underlying t = some (.slice e)) (h : DataW.trod enc Tryz.prog W 0 (fun _ => true) true n t [y] = some x) :
    ∃ q l c, y = .slice q l c ∧ l ≤ 9223372036854775807 := by
  rcases open_slice ht h with ⟨hcs, _⟩ | ⟨a', len', cap', mm, n, Dd, Pl, hcs, _, hl, hmx, hmm, _, hx⟩
  · simp at hcs
    exact ⟨none, 0, 0, hcs, by simp⟩
  · simp at hcs
    have hml : maxLen = 9223372036854775807 := rfl
    exact ⟨_, _, _, hcs, by omega⟩
set_option maxRecDepth 100000 in
theorem read_rows {n : TypeId} {y : Value} {x : DataW H × List MemPlace} (h : DataW.trod enc Tryz.prog W 0 (fun _ => true) true n 67 [y] = some x) :
    ∃ q l c, y = .slice q l c ∧ l ≤ 9223372036854775807 ∧ RowsIn W q l := by
  rcases open_slice Tryz.underlying67 h with ⟨hcs, _⟩ | ⟨a', len', cap', mm, n, Dd, Pl, hcs, _, hl, hmx, hmm, _, hx⟩
  · simp at hcs
    exact ⟨none, 0, 0, hcs, by simp, fun k hk => by omega⟩
  · simp at hcs
    simp only [if_true] at hmm
    have hml : maxLen = 9223372036854775807 := rfl
    refine ⟨_, _, _, hcs, by omega, fun i hi => ?_⟩
    have hsp : a'.spot = none := by
      obtain ⟨cs0, h10, _⟩ := hx 0 (by omega)
      rw [cells72] at h10
      obtain ⟨_, hl0, hc0⟩ := World.cells?_some h10
      have h9 := hc0 0 (by omega)
      rw [List.getElem?_eq_getElem (by omega)] at h9
      simpa [Addr.add] using World.cell?_spot h9
    obtain ⟨cs', h1, h2⟩ := hx i (by omega)
    rw [cells72] at h1
    obtain ⟨_, hlen, hcell⟩ := World.cells?_some h1
    obtain ⟨xs, k, hk, hxy, hcl, hxl, hf⟩ := DataW.trod_struct Tryz.underlying72 h2
    rw [cells72] at hcl
    match xs, hxl, cs', hcl with
    | [y0, y1], _, [v0, v1, v2, v3, v4, v5], _ =>
      have g0 := hf 0 _ rfl
      simp [cells57] at g0
      obtain ⟨q, l, c, rfl, hl2⟩ := read_slice Tryz.underlying57 g0
      have c0 := hcell 0 (by omega)
      obtain ⟨b, off, spot⟩ := a'
      have hspot : spot = none := by simpa [Addr.add] using hsp
      subst hspot
      rw [add_add, add_plain'] at c0
      exact ⟨b, off, q, l, c, rfl, by simpa using c0, hl2⟩
set_option maxRecDepth 100000 in
theorem read_tabs {n : TypeId} {y : Value} {x : DataW H × List MemPlace} (h : DataW.trod enc Tryz.prog W 0 (fun _ => true) true n 28 [y] = some x) :
    ∃ q l c, y = .slice q l c ∧ l ≤ 9223372036854775807 ∧ TabsIn W q l := by
  rcases open_slice Tryz.underlying28 h with ⟨hcs, _⟩ | ⟨a', len', cap', mm, n, Dd, Pl, hcs, _, hl, hmx, hmm, _, hx⟩
  · simp at hcs
    exact ⟨none, 0, 0, hcs, by simp, fun k hk => by omega⟩
  · simp at hcs
    simp only [if_true] at hmm
    have hml : maxLen = 9223372036854775807 := rfl
    refine ⟨_, _, _, hcs, by omega, fun i hi => ?_⟩
    have hsp : a'.spot = none := by
      obtain ⟨cs0, h10, _⟩ := hx 0 (by omega)
      rw [cells69] at h10
      obtain ⟨_, hl0, hc0⟩ := World.cells?_some h10
      have h9 := hc0 0 (by omega)
      rw [List.getElem?_eq_getElem (by omega)] at h9
      simpa [Addr.add] using World.cell?_spot h9
    obtain ⟨cs', h1, h2⟩ := hx i (by omega)
    rw [cells69] at h1
    obtain ⟨_, hlen, hcell⟩ := World.cells?_some h1
    obtain ⟨xs, k, hk, hxy, hcl, hxl, hf⟩ := DataW.trod_struct Tryz.underlying69 h2
    rw [cells69] at hcl
    match xs, hxl, cs', hcl with
    | [y0, y1, y2], _, [v0, v1, v2, v3, v4, v5, v6], _ =>
      have g1 := hf 1 _ rfl
      simp [cells67] at g1
      obtain ⟨q, l, c, rfl, hl2, hr⟩ := read_rows g1
      have c1 := hcell 1 (by omega)
      obtain ⟨b, off, spot⟩ := a'
      have hspot : spot = none := by simpa [Addr.add] using hsp
      subst hspot
      rw [add_add, add_plain'] at c1
      exact ⟨b, off, q, l, c, rfl, by simpa [Nat.add_assoc] using c1, hl2, hr⟩
set_option maxRecDepth 100000 in
theorem read_world {cs : Array Value} {d : DataW H} {p : List MemPlace} (h : DataW.Trod enc Tryz.prog W 0 (fun _ => true) true 30 (.agg cs) d p) :
    ∃ s0 n0 c0 q n c, cs = #[.slice s0 n0 c0, .slice q n c] ∧ n0 ≤ 9223372036854775807 ∧ n ≤ 9223372036854775807 ∧ TabsIn W q n := by
  obtain ⟨fuel, hf0⟩ := h
  obtain ⟨l⟩ := cs
  obtain ⟨xs, k, hk, hxy, hcl, hxl, hf⟩ := DataW.trod_struct Tryz.underlying30 hf0
  rw [cells30] at hcl
  simp only [Value.cells] at hcl hf
  match xs, hxl, l, hcl with
  | [y0, y1], _, [v0, v1], _ =>
    have g0 := hf 0 _ rfl
    have g1 := hf 1 _ rfl
    simp [cells27, cells28] at g0 g1
    obtain ⟨q0, l0, c0, rfl, h0⟩ := read_slice Tryz.underlying27 g0
    obtain ⟨q1, l1, c1, rfl, h1, ht⟩ := read_tabs g1
    exact ⟨q0, l0, c0, q1, l1, c1, rfl, h0, h1, ht⟩
end Go.Proofs.YtgmkcdpbkcojnacGreatDoor
