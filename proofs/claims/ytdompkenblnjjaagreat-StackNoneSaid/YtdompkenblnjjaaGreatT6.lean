/- Boxes of trees; a row grows; pieces of tokens. -/
import Derived.Test.YtdompkenblnjjaaGreatT5
namespace Go.Proofs.YtdompkenblnjjaaGreat
open Go Go.RowKit

/-- a tree in a block of its own. -/
structure BoxT (w : World) (b : Nat) (l : Bool) (k : Int) (s : ByteArray) (a : Int) (v : Value) : Prop where
  c0 : w.cell? ⟨b, 0, none⟩ = some (.bool l)
  c1 : w.cell? ⟨b, 1, none⟩ = some (.int .u8 k)
  c2 : w.cell? ⟨b, 2, none⟩ = some (.string s)
  c3 : w.cell? ⟨b, 3, none⟩ = some (.int .i64 a)
  c4 : w.cell? ⟨b, 4, none⟩ = some v
  fz : ∀ o, w.frozen? ⟨b, o, none⟩ = false
set_option maxRecDepth 100000 in
theorem BoxT.later {w w' : World} {b : Nat} {l : Bool} {k : Int} {s : ByteArray} {a : Int} {v : Value} (h : BoxT w b l k s a v) (hb : Below w.heap.size w w') : BoxT w' b l k s a v :=
  ⟨cell_later hb h.c0, cell_later hb h.c1, cell_later hb h.c2, cell_later hb h.c3, cell_later hb h.c4, fun o => by rw [hb.frozen (p := ⟨b, o, none⟩) (World.block_lt_of_cell? w ⟨b, 0, none⟩ h.c0)]; exact h.fz o⟩
set_option maxRecDepth 100000 in
theorem BoxT.only {w w' : World} {b : Nat} {l : Bool} {k : Int} {s : ByteArray} {a : Int} {v : Value} {T : Nat → Prop} (h : BoxT w b l k s a v) (ho : Only T w w') (hn : ¬ T b) : BoxT w' b l k s a v :=
  ⟨ho.cell h.c0 hn, ho.cell h.c1 hn, ho.cell h.c2 hn, ho.cell h.c3 hn, ho.cell h.c4 hn, fun o => by rw [ho.frozen (a := ⟨b, o, none⟩) (World.block_lt_of_cell? w ⟨b, 0, none⟩ h.c0) hn]; exact h.fz o⟩
set_option maxRecDepth 100000 in
theorem BoxT.lt {w : World} {b : Nat} {l : Bool} {k : Int} {s : ByteArray} {a : Int} {v : Value} (h : BoxT w b l k s a v) : b < w.heap.size := World.block_lt_of_cell? w _ h.c0
set_option maxRecDepth 100000 in
theorem BoxT.set4 {w : World} {b : Nat} {l : Bool} {k : Int} {s : ByteArray} {a : Int} {v : Value} (h : BoxT w b l k s a v) (v' : Value) : BoxT (w.setCell ⟨b, 4, none⟩ v') b l k s a v' := by
  refine ⟨?_, ?_, ?_, ?_, ?_, fun o => ?_⟩
  · rw [World.cell?_setCell_other _ _ _ _ (by intro e; cases e)]; exact h.c0
  · rw [World.cell?_setCell_other _ _ _ _ (by intro e; cases e)]; exact h.c1
  · rw [World.cell?_setCell_other _ _ _ _ (by intro e; cases e)]; exact h.c2
  · rw [World.cell?_setCell_other _ _ _ _ (by intro e; cases e)]; exact h.c3
  · have := h.c4
    have hf := h.fz 4
    simp [go_sem, this]
  · have := h.fz o
    simp [go_sem, this]
set_option maxRecDepth 100000 in
theorem box_new (w : World) (l : Bool) (k : Int) (s : ByteArray) (a : Int) (v : Value) : BoxT (w.alloc (.cells #[.bool l, .int .u8 k, .string s, .int .i64 a, v] 47)) w.heap.size l k s a v :=
  ⟨by simp [go_sem], by simp [go_sem], by simp [go_sem], by simp [go_sem], by simp [go_sem], fun o => by simp [go_sem]⟩
set_option maxRecDepth 100000 in
theorem OwnF.push {W w' : World} {base N : Nat} {v v' : Value} {f x : Fo} {xs : List Value} {l : Bool} {k : Int} {s : ByteArray} {a : Int} {q : Option Addr} {c : Nat} (_h1 : W.ownsRow base 47 5 v f.len xs) (h2 : RowF W (fun b => base ≤ b ∧ v.ownBlock ≠ some b) f xs)
    (hN : base ≤ N) (hv : ∀ g, v.ownBlock = some g → g < N) (hx : FoIn W (fun b => N ≤ b) x q) (hc : x.len ≤ c) (hm : x.len ≤ 281474976710656) (own : w'.ownsRow base 47 5 v' (f.len + 1) (xs ++ trC l k s a q x.len c)) (hg : W.grownBy w' v.ownBlock) (hloc : v'.ownBlock = v.ownBlock ∨ v'.ownBlock = some W.heap.size) :
    OwnF w' base v' (f.snoc l k s a x) := by
  have ho := Only.of_grown hg
  refine ⟨xs ++ trC l k s a q x.len c, by rw [Fo.len_snoc]; exact own, ?_⟩
  have hx2 : FoIn W (fun b => base ≤ b ∧ v.ownBlock ≠ some b) x q := hx.mono (fun b hb _ => ⟨by have : N ≤ b := hb; omega, fun e => by have := hv b e; have : N ≤ b := hb; omega⟩)
  have hr := RowF.snoc (l := l) (k := k) (s := s) (a := a) hc hm hx2 f xs h2
  have hr2 : RowF W (fun b => (base ≤ b ∧ v.ownBlock ≠ some b) ∧ v'.ownBlock ≠ some b) _ _ := hr.mono (fun b hb hlt => ⟨hb, fun e => by
    rcases hloc with h | h
    · exact hb.2 (h ▸ e)
    · rw [h] at e; injection e with e; omega⟩)
  exact (hr2.only ho (fun b hb => hb.1.2)).mono (fun b hb _ => ⟨hb.1.1, hb.2⟩)
set_option maxRecDepth 100000 in
theorem slice_tks (W : World) (b off n c lo hi : Nat) (h1 : lo < hi) (h2 : hi ≤ n) (h3 : n ≤ c) :
    (Instr.slice 63 (.slice (some ⟨b, off, none⟩) n c) (some (.int .i64 (lo : Int))) (some (.int .i64 (hi : Int))) none).run Tryz.prog W = .ok (.slice (some ⟨b, off + lo * 3, none⟩) (hi - lo) (c - lo)) W := by
  obtain ⟨i5, hi5, _, hs5, _⟩ := info33
  have e1 : (0 : Int) ≤ (lo : Int) := by omega
  have e2 : (lo : Int) ≤ (hi : Int) := by omega
  have e3 : (hi : Int) ≤ (c : Int) := by omega
  have e4 : (0 : Int) ≤ (hi : Int) := by omega
  have e5 : hi ≤ c := by omega
  have e6 : ¬ c = lo := by omega
  have e7 : lo ≤ hi := by omega
  simp [Instr.slice, run_underlying Tryz.underlying63, Instr.sliceBounds, Instr.sliceBound, asIntOf, sizeOf, typeInfo, hi5, hs5, e1, e4, e5, e6, e7, Addr.add]
set_option maxRecDepth 100000 in
theorem TksA.piece {W : World} {b off : Nat} {l u z : List TkA} {d : List TkA} (h : TksA W (some ⟨b, off, none⟩) l) (e : l = d ++ (u ++ z)) : TksA W (some ⟨b, off + d.length * 3, none⟩) u := fun i hi => by
  obtain ⟨b', off', e', h1, h2, h3⟩ := h (d.length + i) (by rw [e]; simp; omega)
  cases e'
  have hg : l[d.length + i]'(by rw [e]; simp; omega) = u[i] := by
    subst e
    rw [List.getElem_append_right (by omega), List.getElem_append_left (by omega)]
    congr 1; omega
  rw [hg] at h1 h2 h3
  have ea : off + (d.length + i) * 3 = off + d.length * 3 + i * 3 := by omega
  rw [ea] at h1 h2 h3
  exact ⟨b, _, rfl, h1, h2, h3⟩
end Go.Proofs.YtdompkenblnjjaaGreat

