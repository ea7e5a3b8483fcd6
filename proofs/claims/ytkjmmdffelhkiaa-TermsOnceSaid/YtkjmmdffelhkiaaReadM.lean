/- An argument that is a slice of calls of stage 6: what its cells hold. -/
import Derived.Test.YtkjmmdffelhkiaaRead
import Derived.Test.YtkjmmdffelhkiaaT28
import Derived.SizedLaws
namespace Go.Proofs.Ytkjmmdffelhkiaa
open Go Go.RowKit Go.WideShapes Go.ChangeShapes Go.WideElems Go.Deep

theorem cells76 : Try.prog.cellsOf 76 = 9 := by kernel_rfl
theorem cells73 : Try.prog.cellsOf 73 = 1 := by kernel_rfl
theorem cells74 : Try.prog.cellsOf 74 = 1 := by kernel_rfl
theorem cells2'' : Try.prog.cellsOf 2 = 1 := by kernel_rfl
theorem bytes73 : Try.prog.bytesOf 73 = 8 := by kernel_rfl
theorem nine {α : Type} {l : List α} (h : l.length = 9) : ∃ a b c d e f g i j, l = [a, b, c, d, e, f, g, i, j] := by
  match l, h with
  | [a, b, c, d, e, f, g, i, j], _ => exact ⟨a, b, c, d, e, f, g, i, j, rfl⟩
theorem weightsAll_mem {H : Type} {P : Program} {t : TypeId} : ∀ {l : List (DataW H)} {d : DataW H}, d ∈ l → ∀ n ∈ d.weights P t, n ∈ DataW.weightsAll P t l
  | [], _, h, _, _ => by cases h
  | d0 :: l, d, h, n, hn => by
    simp only [DataW.weightsAll, List.mem_append]
    rcases List.mem_cons.1 h with rfl | h
    · exact .inl hn
    · exact .inr (weightsAll_mem h n hn)
set_option maxRecDepth 100000 in
/-- a row of terms that is a cell. -/
theorem read_term_row {H : Type} {enc : TypeId × Value → H} {W : World} {n : Nat} {y : Value} {x : DataW H × List MemPlace} (h : DataW.trod enc Try.prog W 0 (fun _ => true) true n 74 [y] = some x) :
    ∃ (q : Option Addr × Nat × Nat × (Nat → Int)), y = .slice q.1 q.2.1 q.2.2.1 ∧ IntsIn W q.1 q.2.1 q.2.2.2 ∧ (∀ k, k < q.2.1 → I64 (q.2.2.2 k)) ∧ ((∀ n ∈ x.1.weights Try.prog 74, n ≤ reachBytes) → q.2.1 ≤ 17592186043904) := by
  rcases open_ints Try.underlying74 Try.underlying73 cells73 h with ⟨hcs, _⟩ | ⟨a', len', cap', zs, hcs, _, hl, hmx, hz, hx, hcell, hwf⟩
  · simp at hcs
    exact ⟨(none, 0, 0, fun _ => 0), hcs, fun h => by simp at h, fun k hk => by simp at hk, fun _ => by simp⟩
  · simp at hcs
    simp only [if_true] at hz
    refine ⟨(some a', len', cap', fun i => zs.getD i 0), hcs, fun h => ?_, fun k hk => ?_, fun hw => ?_⟩
    · simp only at h
      obtain ⟨bk, off, spot⟩ := a'
      have hspot : spot = none := by simpa [Addr.add] using World.cell?_spot (hcell 0 (by omega))
      subst hspot
      exact ⟨bk, off, rfl, fun i hi => by rw [← Lib.add_plain]; exact hcell i (by simp at hi; omega)⟩
    · simp only at hk
      have hk2 : k < zs.length := by omega
      simp only [List.getD_eq_getElem?_getD, List.getElem?_eq_getElem hk2, Option.getD_some]
      exact bounds_i64' (hwf _ (List.getElem_mem hk2))
    · have hm := hw (((lits (H := H) .i64 (zs.take len')).length + (lits (H := H) .i64 (zs.drop len')).length) * Try.prog.bytesOf 73) (by rw [hx]; simp [DataW.weights, Try.underlying74])
      rw [bytes73] at hm
      have e1 : (lits (H := H) .i64 (zs.take len')).length = (zs.take len').length := by simp [lits]
      have e2 : (lits (H := H) .i64 (zs.drop len')).length = (zs.drop len').length := by simp [lits]
      rw [e1, e2, List.length_take, List.length_drop] at hm
      have : reachBytes = 140737488351232 := rfl
      simp only
      omega
set_option maxRecDepth 100000 in
theorem read_mops {H : Type} {enc : TypeId × Value → H} {W : World} {ad : Option Addr} {m cp : Nat} {d : DataW H} {p : List MemPlace} (h : DataW.Trod enc Try.prog W 0 (fun _ => true) true 67 (.slice ad m cp) d p) (hw : ∀ n ∈ d.weights Try.prog 67, n ≤ reachBytes) :
    m ≤ 9223372036854775807 ∧ ∃ D : Nat → OpV, MOps W ad m D := by
  obtain ⟨fuel, hf⟩ := h
  rcases open_slice Try.underlying67 hf with ⟨hcs, _⟩ | ⟨a', len', cap', mm, n, Dd, Pl, hcs, _, hl, hmx, hmm, hd, hx⟩
  · simp [Value.cells] at hcs
    obtain ⟨rfl, rfl, rfl⟩ := hcs
    exact ⟨by omega, ⟨fun _ => ⟨0, 0, 0, 0, none, 0, 0, fun _ => 0, 0, 0, 0, false⟩, ⟨fun h => absurd h (by omega), fun i hi => absurd hi (by omega)⟩⟩⟩
  · simp [Value.cells] at hcs
    obtain ⟨rfl, rfl, rfl⟩ := hcs
    simp only [if_true] at hmm
    have hml : maxLen = 9223372036854775807 := rfl
    have hd1 : d = .slice ((List.range m).map Dd) ((List.range (mm - m)).map fun j => Dd (m + j)) := (Prod.mk.inj hd).1
    have each : ∀ i, i < m → ∃ o : OpV, W.cell? (a'.add (i * 9)) = some (.int .i64 o.k) ∧ W.cell? (a'.add (i * 9 + 1)) = some (.int .i64 o.a) ∧ W.cell? (a'.add (i * 9 + 2)) = some (.int .i64 o.b) ∧ W.cell? (a'.add (i * 9 + 3)) = some (.int .i64 o.c) ∧ W.cell? (a'.add (i * 9 + 4)) = some (.slice o.P o.L o.C) ∧
        W.cell? (a'.add (i * 9 + 5)) = some (.int .i64 o.f) ∧ W.cell? (a'.add (i * 9 + 6)) = some (.int .i64 o.s) ∧ W.cell? (a'.add (i * 9 + 7)) = some (.int .i64 o.n) ∧ W.cell? (a'.add (i * 9 + 8)) = some (.bool o.m) ∧ (IntsIn W o.P o.L o.V ∧ OpI o) := by
      intro i hi
      obtain ⟨cs', h1, h2⟩ := hx i (by omega)
      rw [cells76] at h1
      obtain ⟨_, hlen, hcell⟩ := World.cells?_some h1
      have hwi : ∀ n ∈ (Dd i).weights Try.prog 76, n ≤ reachBytes := fun n hn => hw n (by
        rw [hd1]
        simp only [DataW.weights, Try.underlying67]
        exact List.mem_cons_of_mem _ (List.mem_append_left _ (weightsAll_mem (List.mem_map.2 ⟨i, List.mem_range.2 hi, rfl⟩) n hn)))
      obtain ⟨xs, k, hk, hxy, _, hxl, hf⟩ := DataW.trod_struct Try.underlying76 h2
      have hda : Dd i = .agg (xs.map (·.1)) := (Prod.mk.inj hxy).1
      obtain ⟨y0, y1, y2, y3, y4, y5, y6, y7, y8, rfl⟩ := nine hxl
      obtain ⟨v0, v1, v2, v3, v4, v5, v6, v7, v8, rfl⟩ := nine hlen
      have g0 := hf 0 _ rfl
      have g1 := hf 1 _ rfl
      have g2 := hf 2 _ rfl
      have g3 := hf 3 _ rfl
      have g4 := hf 4 _ rfl
      have g5 := hf 5 _ rfl
      have g6 := hf 6 _ rfl
      have g7 := hf 7 _ rfl
      have g8 := hf 8 _ rfl
      simp [cells73, cells74, cells3', cells33, cells2'', cells4'] at g0 g1 g2 g3 g4 g5 g6 g7 g8
      obtain ⟨k0, e0, _, w0⟩ := DataW.trod_int Try.underlying3 g0
      obtain ⟨k1, e1, _, w1⟩ := DataW.trod_int Try.underlying73 g1
      obtain ⟨k2, e2, _, w2⟩ := DataW.trod_int Try.underlying73 g2
      obtain ⟨k3, e3, _, w3⟩ := DataW.trod_int Try.underlying73 g3
      obtain ⟨q4, e4, t4, u4, z4⟩ := read_term_row g4
      obtain ⟨k5, e5, _, w5⟩ := DataW.trod_int Try.underlying3 g5
      obtain ⟨k6, e6, _, w6⟩ := DataW.trod_int Try.underlying33 g6
      obtain ⟨k7, e7, _, w7⟩ := DataW.trod_int Try.underlying2 g7
      obtain ⟨b8, e8, _⟩ := DataW.trod_bool Try.underlying4 g8
      cases e0
      cases e1
      cases e2
      cases e3
      subst e4
      cases e5
      cases e6
      cases e7
      cases e8
      have c0 := hcell 0 (by omega)
      have c1 := hcell 1 (by omega)
      have c2 := hcell 2 (by omega)
      have c3 := hcell 3 (by omega)
      have c4 := hcell 4 (by omega)
      have c5 := hcell 5 (by omega)
      have c6 := hcell 6 (by omega)
      have c7 := hcell 7 (by omega)
      have c8 := hcell 8 (by omega)
      rw [add_add] at c0 c1 c2 c3 c4 c5 c6 c7 c8
      have hL := z4 (fun n hn => hwi n (by
        rw [hda]
        simp only [DataW.weights, Try.underlying76, List.map_cons, List.map_nil, DataW.weightsEach]
        simp [hn]))
      exact ⟨⟨k0, k1, k2, k3, q4.1, q4.2.1, q4.2.2.1, q4.2.2.2, k5, k6, k7, b8⟩, by simpa using c0, by simpa using c1, by simpa using c2, by simpa using c3, by simpa using c4, by simpa using c5, by simpa using c6, by simpa using c7, by simpa using c8, t4, bounds_i64' w0, bounds_i64' w1, bounds_i64' w2, bounds_i64' w3, hL, u4, bounds_i64' w5, bounds_i64' w6, bounds_i64' w7⟩
    haveI : Inhabited OpV := ⟨⟨0, 0, 0, 0, none, 0, 0, fun _ => 0, 0, 0, 0, false⟩⟩
    obtain ⟨q, hq⟩ := choose_lt each
    refine ⟨by omega, q, ⟨fun h => ?_, fun i hi => (hq i hi).2.2.2.2.2.2.2.2.2⟩⟩
    obtain ⟨b, off, spot⟩ := a'
    have hspot : spot = none := by simpa [Addr.add] using World.cell?_spot (hq 0 (by omega)).1
    subst hspot
    refine ⟨b, off, rfl, fun i hi => ?_⟩
    obtain ⟨h0, h1, h2, h3, h4, h5, h6, h7, h8, _⟩ := hq i hi
    rw [Lib.add_plain] at h0 h1 h2 h3 h4 h5 h6 h7 h8
    exact ⟨h0, h1, h2, h3, h4, h5, h6, h7, h8⟩
end Go.Proofs.Ytkjmmdffelhkiaa
