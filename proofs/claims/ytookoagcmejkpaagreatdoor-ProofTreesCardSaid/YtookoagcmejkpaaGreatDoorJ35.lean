/- An argument that is a tree. Arguments that are rows of numbers, links, steps: the parts. Arguments that are rows of links, and steps. An argument that is a step. -/
import Derived.Test.YtookoagcmejkpaaGreatDoorS58
import Derived.ProofKit
import Derived.Deep.Slices
import Derived.SizedLaws
import Derived.Deep.Matrix
import Derived.Below
import Derived.ChangeSlices
namespace Go.Proofs.YtookoagcmejkpaaGreatDoor
open Go Go.RowKit Go.WideShapes Go.ChangeShapes Go.WideElems Go.Deep
theorem cells3r : Tryz.prog.cellsOf 3 = 1 := by kernel_rfl
theorem five {α : Type} {l : List α} (h : l.length = 5) : ∃ a b c d e, l = [a, b, c, d, e] := by
 match l, h with
 | [a, b, c, d, e], _ => exact ⟨a, b, c, d, e, rfl⟩
instance : Inhabited Fo := ⟨.nil⟩
set_option maxRecDepth 100000
theorem cells44r : Tryz.prog.cellsOf 44 = 1 := by kernel_rfl
theorem read_row {H : Type} {enc : TypeId × Value → H} {W : World} {n t e : Nat} {y : Value} {x : DataW H × List MemPlace} (ht : Tryz.prog.underlying t = some (.slice e)) (he : Tryz.prog.underlying e = some (.int .i64)) (hce : Tryz.prog.cellsOf e = 1) (h : DataW.trod enc Tryz.prog W 0 (fun _ => true) true n t [y] = some x) :
  ∃ (q : Option Addr) (c : Nat) (l : List Int), y = .slice q l.length c ∧ l.length ≤ c ∧ c ≤ 9223372036854775807 ∧ (q = none → c = 0) ∧ IntsIn W q l ∧ (0 < c → ∀ ad, q = some ad → ad = ⟨ad.block, ad.off, none⟩) := by
 rcases open_ints ht he hce h with ⟨hcs, _⟩ | ⟨a', len', cap', zs, hcs, _, hl, hmx, hz, _, hcell, hwf⟩
 ·simp at hcs
  exact ⟨none, 0, [], hcs, Nat.le_refl _, by omega, fun _ => rfl, fun i hi => absurd hi (Nat.not_lt_zero i), fun h => by omega⟩
 ·simp at hcs
  simp only [if_true] at hz
  have hml : maxLen = 9223372036854775807 := rfl
  have hlen : (zs.take len').length = len' := by simp; omega
  have hspot : 0 < cap' → a' = ⟨a'.block, a'.off, none⟩ := fun h => by
   obtain ⟨bk, off, spot⟩ := a'
   have : spot = none := by simpa [Addr.add] using World.cell?_spot (hcell 0 (by omega))
   subst this; rfl
  refine ⟨some a', cap', zs.take len', by rw [hlen]; exact hcs, by rw [hlen]; exact hl, by omega, (fun h => by cases h), fun i hi => ?_, fun h ad e => by cases e; exact hspot h⟩
  rw [hlen] at hi
  have hs := hspot (by omega)
  refine ⟨a'.block, a'.off, congrArg some hs, ?_⟩
  have hc := hcell i (by omega)
  rw [hs, Lib.add_plain] at hc
  have e : (zs.take len')[i]'(by rw [hlen]; exact hi) = zs.getD i 0 := by
   rw [List.getElem_take]
   simp [List.getD, List.getElem?_eq_getElem (show i < zs.length by omega)]
  rw [e]
  exact hc
theorem cells64r : Tryz.prog.cellsOf 64 = 7 := by kernel_rfl
theorem cells61r : Tryz.prog.cellsOf 61 = 1 := by kernel_rfl
theorem cells62r : Tryz.prog.cellsOf 62 = 1 := by kernel_rfl
theorem cells22r : Tryz.prog.cellsOf 22 = 1 := by kernel_rfl
theorem cells23r : Tryz.prog.cellsOf 23 = 1 := by kernel_rfl
theorem cells24r : Tryz.prog.cellsOf 24 = 1 := by kernel_rfl
instance : Inhabited Lk := ⟨⟨0, 0, 0, 0, 0, 0, []⟩⟩
theorem bounds_u8 {n : Int} (h : (Lit.int .u8 n).wf = true) : 0 ≤ n ∧ n ≤ 255 := by
 have h1 : IntKind.u8.min ≤ n ∧ n ≤ IntKind.u8.max := by simpa [Lit.wf] using h
 have a : IntKind.u8.min = 0 := by decide
 have b : IntKind.u8.max = 255 := by decide
 rw [a, b] at h1
 exact h1
theorem read_links {H : Type} {enc : TypeId × Value → H} {W : World} {n : Nat} {y : Value} {x : DataW H × List MemPlace} (h : DataW.trod enc Tryz.prog W 0 (fun _ => true) true n 24 [y] = some x) :
  ∃ (q : Option Addr) (c : Nat) (l : List Lk), y = .slice q l.length c ∧ l.length ≤ c ∧ c ≤ 9223372036854775807 ∧ SlOK q c ∧ LksIn W q l ∧ LksOK W q l ∧ KdL l ∧ (0 < c → ∀ ad, q = some ad → ad = ⟨ad.block, ad.off, none⟩) := by
 rcases open_slice Tryz.underlying24 h with ⟨hcs, _⟩ | ⟨a', len, cap, mm, n', Dd, Pl, hcs, _, hl, hmx, hmm, hd, hx⟩
 ·simp at hcs
  exact ⟨none, 0, [], hcs, Nat.le_refl _, by omega, fun _ => rfl, (fun i hi => absurd hi (Nat.not_lt_zero i)), (fun i hi => absurd hi (Nat.not_lt_zero i)), (fun y hy => by cases hy), fun h => by omega⟩
 ·simp at hcs
  simp only [if_true] at hmm
  have hml : maxLen = 9223372036854775807 := rfl
  have each : ∀ i, i < mm → ∃ q : Lk × Option Addr × Nat, W.cell? (a'.add (i * 7)) = some (.int .u8 q.1.k) ∧ W.cell? (a'.add (i * 7 + 1)) = some (.int .i64 q.1.lit) ∧ W.cell? (a'.add (i * 7 + 2)) = some (.int .i64 q.1.a) ∧ W.cell? (a'.add (i * 7 + 3)) = some (.int .i64 q.1.b) ∧ W.cell? (a'.add (i * 7 + 4)) = some (.int .i64 q.1.i) ∧ W.cell? (a'.add (i * 7 + 5)) = some (.int .i64 q.1.j) ∧ W.cell? (a'.add (i * 7 + 6)) = some (.slice q.2.1 q.1.l.length q.2.2) ∧
    IntsIn W q.2.1 q.1.l ∧ q.1.l.length ≤ q.2.2 ∧ q.2.2 ≤ 9223372036854775807 ∧ (0 ≤ q.1.k ∧ q.1.k ≤ 255) ∧ SlOK q.2.1 q.2.2 := by
   intro i hi
   obtain ⟨cs', h1, h2⟩ := hx i hi
   rw [cells64r] at h1
   obtain ⟨_, hlen, hcell⟩ := World.cells?_some h1
   obtain ⟨xs, k, hk, hxy, _, hxl, hf⟩ := DataW.trod_struct Tryz.underlying64 h2
   match xs, hxl, cs', hlen with
   | [y0, y1, y2, y3, y4, y5, y6], _, [v0, v1, v2, v3, v4, v5, v6], _ =>
    have g0 := hf 0 _ rfl
    have g1 := hf 1 _ rfl
    have g2 := hf 2 _ rfl
    have g3 := hf 3 _ rfl
    have g4 := hf 4 _ rfl
    have g5 := hf 5 _ rfl
    have g6 := hf 6 _ rfl
    simp [cells61r, cells44r, cells3r, cells62r] at g0 g1 g2 g3 g4 g5 g6
    obtain ⟨k0, e0, _, w0⟩ := DataW.trod_int Tryz.underlying61 g0
    obtain ⟨k1, e1, _, w1⟩ := DataW.trod_int Tryz.underlying44 g1
    obtain ⟨k2, e2, _, w2⟩ := DataW.trod_int Tryz.underlying3 g2
    obtain ⟨k3, e3, _, w3⟩ := DataW.trod_int Tryz.underlying3 g3
    obtain ⟨k4, e4, _, w4⟩ := DataW.trod_int Tryz.underlying3 g4
    obtain ⟨k5, e5, _, w5⟩ := DataW.trod_int Tryz.underlying3 g5
    obtain ⟨q6, c6, l6, e6, r1, r2, r3, r4, _⟩ := read_row Tryz.underlying62 Tryz.underlying3 cells3r g6
    cases e0
    cases e1
    cases e2
    cases e3
    cases e4
    cases e5
    subst e6
    have c0 := hcell 0 (by omega)
    have c1 := hcell 1 (by omega)
    have c2 := hcell 2 (by omega)
    have c3 := hcell 3 (by omega)
    have c4 := hcell 4 (by omega)
    have c5 := hcell 5 (by omega)
    have c6' := hcell 6 (by omega)
    rw [add_add] at c0 c1 c2 c3 c4 c5 c6'
    exact ⟨(⟨k0, k1, k2, k3, k4, k5, l6⟩, q6, c6), by simpa using c0, by simpa using c1, by simpa using c2, by simpa using c3, by simpa using c4, by simpa using c5, by simpa using c6', r4, r1, r2, bounds_u8 w0, r3⟩
  obtain ⟨q, hq⟩ := choose_lt each
  have hll : ((List.range len).map fun i => (q i).1).length = len := by simp
  have hspot : 0 < cap → a' = ⟨a'.block, a'.off, none⟩ := fun h => by
   obtain ⟨bk, off, spot⟩ := a'
   have : spot = none := by simpa [Addr.add] using World.cell?_spot (hq 0 (by omega)).1
   subst this; rfl
  refine ⟨some a', cap, (List.range len).map fun i => (q i).1, by rw [hll]; exact hcs, by rw [hll]; exact hl, by omega, (fun h => by cases h), fun i hi => ?_, fun i hi b off e q' n' c' hc => ?_, fun y hy => ?_, fun h ad e => by cases e; exact hspot h⟩
  ·rw [hll] at hi
   have hs := hspot (by omega)
   obtain ⟨c0, c1, c2, c3, c4, c5, c6, r1, r2, r3, _⟩ := hq i (by omega)
   rw [hs, Lib.add_plain] at c0 c1 c2 c3 c4 c5 c6
   have e : ((List.range len).map fun i => (q i).1)[i]'(by rw [hll]; exact hi) = (q i).1 := by simp
   rw [e]
   exact ⟨a'.block, a'.off, congrArg some hs, c0, c1, c2, c3, c4, c5, (q i).2.1, (q i).2.2, c6, r1, r2, r3⟩
  ·rw [hll] at hi
   cases e
   obtain ⟨_, _, _, _, _, _, c6, _, _, _, _, k3⟩ := hq i (by omega)
   rw [Lib.add_plain, ← Nat.add_assoc, hc] at c6
   injection c6 with c6; injection c6 with e1 e2 e3
   subst e1 e3
   exact k3
  ·obtain ⟨i, hi, rfl⟩ := List.mem_map.1 hy
   have hi' := List.mem_range.1 hi
   obtain ⟨_, _, _, _, _, _, _, _, _, _, k1, _⟩ := hq i (by omega)
   exact k1
theorem cells26r : Tryz.prog.cellsOf 26 = 5 := by kernel_rfl
theorem read_step {H : Type} {enc : TypeId × Value → H} {W : World} {base : Nat} {v : Value} {d : DataW H} {p : List MemPlace} (hval : Value.okWide Tryz.prog W .any base 26 v) (h : DataW.Trod enc Tryz.prog W 0 (fun _ => true) true 26 v d p) :
  ∃ (x : Stp) (p : Option Addr) (c : Nat) (q : Option Addr) (d : Nat), v = stV x p c q d ∧ StArg W x p c q d := by
 obtain ⟨cs, rfl, hcs⟩ := okWide_struct Tryz.underlying26 hval
 rw [cells26r] at hcs
 obtain ⟨fuel, hf⟩ := h
 obtain ⟨cl⟩ := cs
 obtain ⟨v0, v1, v2, v3, v4, rfl⟩ := five (l := cl) (by simpa using hcs)
 obtain ⟨xs, k, hk, hxy, _, hxl, hf2⟩ := DataW.trod_struct Tryz.underlying26 hf
 obtain ⟨y0, y1, y2, y3, y4, rfl⟩ := five hxl
 have g0 := hf2 0 _ rfl
 have g1 := hf2 1 _ rfl
 have g2 := hf2 2 _ rfl
 have g3 := hf2 3 _ rfl
 have g4 := hf2 4 _ rfl
 simp [Value.cells, cells22r, cells23r, cells24r, cells3r] at g0 g1 g2 g3 g4
 obtain ⟨k0, e0, _, w0⟩ := DataW.trod_int Tryz.underlying22 g0
 obtain ⟨q1, c1, l1, e1, a1, a2, a3, a4, a5⟩ := read_row Tryz.underlying23 Tryz.underlying44 cells44r g1
 obtain ⟨q2, c2, l2, e2, b1, b2, b3, b4, b5, b6, _⟩ := read_links g2
 obtain ⟨k3, e3, _, w3⟩ := DataW.trod_int Tryz.underlying3 g3
 obtain ⟨k4, e4, _, w4⟩ := DataW.trod_int Tryz.underlying3 g4
 cases e0
 cases e3
 cases e4
 subst e1
 subst e2
 exact ⟨⟨k0, l1, l2, k3, k4⟩, q1, c1, q2, c2, rfl, ⟨a4, b4, b5, a3, bounds_u8 w0, b6, Nat.le_trans a1 a2, Nat.le_trans b1 b2⟩⟩
end Go.Proofs.YtookoagcmejkpaaGreatDoor
