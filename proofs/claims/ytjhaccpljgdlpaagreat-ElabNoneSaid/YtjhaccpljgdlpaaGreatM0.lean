/- Frames: what a call leaves; a row of the call's own; bytes in memory. -/
import Derived.Test.YtjhaccpljgdlpaaGreatProg
import Derived.WalkKit
import Derived.WalkSpells
import Derived.WalkLawsBesides
import Derived.Below
import Derived.Outline
import Derived.Lib.Hide
import Derived.Lib.Walk
import Derived.Deep.QuietTactic
import Derived.BigQuiet
import Derived.Maps.AppendAt
import Derived.Laws.Externs
import Derived.Lib.ItoaMem
import Derived.Deep.LoopGhost
import Derived.Laws.BytesArg
import Derived.Laws.IdiomStrings
namespace Go.Proofs.YtjhaccpljgdlpaaGreat
open Go Go.RowKit

set_option maxRecDepth 100000 in
theorem cell_later {W W' : World} (hb : Below W.heap.size W W') {a : Addr} {v : Value} (h : W.cell? a = some v) : W'.cell? a = some v := by
  rw [← h]
  exact hb.cell (World.block_lt_of_cell? W a h)
set_option maxRecDepth 100000 in
theorem below1 (w : World) (o1 : Obj) : Below w.heap.size w (w.alloc o1) := (Below.refl _ _).alloc (Nat.le_refl _) _
set_option maxRecDepth 100000 in
theorem below_drewN (w : World) (n : Nat) : Below w.heap.size w (w.drewN n) := ⟨rfl, rfl, rfl, Nat.le_refl _, fun _ _ => rfl⟩
set_option maxRecDepth 100000 in
theorem bdd {B : Nat} {w w' : World} {n : Nat} (h : Below B w w') : Below B w (w'.drewN n) := ⟨h.os, h.tape, h.output, h.size, h.block⟩
set_option maxRecDepth 100000 in
theorem below_drew (w : World) : Below w.heap.size w w.drew := ⟨rfl, rfl, rfl, Nat.le_refl _, fun _ _ => rfl⟩
set_option maxRecDepth 100000 in
theorem below_self (w : World) : Below w.heap.size w w := Below.refl _ _
set_option maxRecDepth 100000 in
theorem chain {w w1 w2 : World} {B : Nat} (h : Below B w w1) (k : Below w1.heap.size w1 w2) (hB : B ≤ w1.heap.size) : Below B w w2 := h.trans (k.mono hB)
/-- just blocks of a kind turn, and new ones come. -/
structure Only (T : Nat → Prop) (w w' : World) : Prop where
  os : w'.os = w.os
  tape : w'.tape = w.tape
  output : w'.output = w.output
  size : w.heap.size ≤ w'.heap.size
  block : ∀ k, k < w.heap.size → ¬ T k → w'.heap[k]? = w.heap[k]?
set_option maxRecDepth 100000 in
theorem Only.refl (T : Nat → Prop) (w : World) : Only T w w := ⟨rfl, rfl, rfl, Nat.le_refl _, fun _ _ _ => rfl⟩
set_option maxRecDepth 100000 in
theorem Only.trans {T : Nat → Prop} {a b c : World} (h : Only T a b) (k : Only T b c) : Only T a c :=
  ⟨k.os.trans h.os, k.tape.trans h.tape, k.output.trans h.output, Nat.le_trans h.size k.size, fun i hi hn => (k.block i (Nat.lt_of_lt_of_le hi h.size) hn).trans (h.block i hi hn)⟩
set_option maxRecDepth 100000 in
theorem Only.mono {T T' : Nat → Prop} {w w' : World} (h : Only T w w') (hT : ∀ k, k < w.heap.size → T k → T' k) : Only T' w w' := ⟨h.os, h.tape, h.output, h.size, fun k hk hn => h.block k hk (fun ht => hn (hT k hk ht))⟩
set_option maxRecDepth 100000 in
theorem Only.of_below {T : Nat → Prop} {w w' : World} (h : Below w.heap.size w w') : Only T w w' := ⟨h.os, h.tape, h.output, h.size, fun k hk _ => h.block k hk⟩
set_option maxRecDepth 100000 in
theorem Only.below {T : Nat → Prop} {B : Nat} {w w' : World} (h : Only T w w') (hT : ∀ k, T k → B ≤ k) (hB : B ≤ w.heap.size) : Below B w w' := ⟨h.os, h.tape, h.output, h.size, fun k hk => h.block k (Nat.lt_of_lt_of_le hk hB) (fun ht => by have := hT k ht; omega)⟩
set_option maxRecDepth 100000 in
theorem Only.of_grown {w w' : World} {row : Option Nat} (h : w.grownBy w' row) : Only (fun k => row = some k) w w' := ⟨h.os, h.tape, h.output, h.size, fun k hk hn => h.block k hk (fun e => hn e.symm)⟩
set_option maxRecDepth 100000 in
theorem Only.of_setCell (w : World) (a : Addr) (u : Value) : Only (fun k => k = a.block) w (w.setCell a u) := by
  refine ⟨rfl, rfl, rfl, by simp, fun k hk hn => Below.heap_setCell w a u k hn⟩
set_option maxRecDepth 100000 in
theorem Only.new {T : Nat → Prop} {w w2 : World} (h : Only T w w2) {b o : Nat} {v : Value} (hb : w.heap.size ≤ b) : Only T w (w2.setCell ⟨b, o, none⟩ v) :=
  ⟨h.os, h.tape, h.output, by rw [World.size_setCell]; exact h.size, fun k hk hn => by rw [Below.heap_setCell w2 ⟨b, o, none⟩ v k (by show k ≠ b; omega)]; exact h.block k hk hn⟩
set_option maxRecDepth 100000 in
theorem Only.transNew {T T' : Nat → Prop} {w w2 w3 : World} (h : Only T w w2) (k : Only T' w2 w3) (hT : ∀ j, T' j → w.heap.size ≤ j) : Only T w w3 :=
  ⟨k.os.trans h.os, k.tape.trans h.tape, k.output.trans h.output, Nat.le_trans h.size k.size, fun i hi hn => (k.block i (Nat.lt_of_lt_of_le hi h.size) (fun e => by have := hT i e; omega)).trans (h.block i hi hn)⟩
set_option maxRecDepth 100000 in
theorem Only.cell {T : Nat → Prop} {w w' : World} (h : Only T w w') {a : Addr} {v : Value} (hc : w.cell? a = some v) (hn : ¬ T a.block) : w'.cell? a = some v := by
  rw [← hc]
  exact World.cell?_of_block (w := w) (h.block a.block (World.block_lt_of_cell? w a hc) hn)
set_option maxRecDepth 100000 in
theorem Only.frozen {T : Nat → Prop} {w w' : World} (h : Only T w w') {a : Addr} (hl : a.block < w.heap.size) (hn : ¬ T a.block) : w'.frozen? a = w.frozen? a :=
  World.frozen?_of_block (w := w) (h.block a.block hl hn)
set_option maxRecDepth 100000 in
theorem own_block {w w' : World} {base n : Nat} {e : TypeId} {size : Nat} {v : Value} {xs : List Value} (h : w.ownsRow base e size v n xs) (hk : ∀ k, v.ownBlock = some k → k < w.heap.size → w'.heap[k]? = w.heap[k]?) : w'.ownsRow base e size v n xs := by
  rcases h with ⟨h0, ⟨h1, h2⟩ | ⟨g, cap, cur, rfl, hg, hh, hc⟩⟩
  · exact ⟨h0, .inl ⟨h1, h2⟩⟩
  · refine ⟨h0, .inr ⟨g, cap, cur, rfl, hg, ?_, hc⟩⟩
    rw [← hh]
    exact hk g rfl (by
      rcases Nat.lt_or_ge g w.heap.size with h | h
      · exact h
      · rw [Array.getElem?_eq_none h] at hh; cases hh)
set_option maxRecDepth 100000 in
theorem own_only {T : Nat → Prop} {w w' : World} {base n : Nat} {e : TypeId} {size : Nat} {v : Value} {xs : List Value} (h : w.ownsRow base e size v n xs) (ho : Only T w w') (hn : ∀ k, v.ownBlock = some k → ¬ T k) : w'.ownsRow base e size v n xs :=
  own_block h (fun k hk hl => ho.block k hl (hn k hk))
set_option maxRecDepth 100000 in
theorem own_later {w w' : World} {base n : Nat} {e : TypeId} {size : Nat} {v : Value} {xs : List Value} (h : w.ownsRow base e size v n xs) (hb : Below w.heap.size w w') : w'.ownsRow base e size v n xs :=
  own_block h (fun k _ hl => hb.block k hl)
set_option maxRecDepth 100000 in
theorem own_lt {w : World} {base n : Nat} {e : TypeId} {size : Nat} {v : Value} {xs : List Value} (h : w.ownsRow base e size v n xs) {k : Nat} (hk : v.ownBlock = some k) : base ≤ k ∧ k < w.heap.size := World.ownsRow.lt h k hk
set_option maxRecDepth 100000 in
theorem own_shape {w : World} {base n : Nat} {e : TypeId} {size : Nat} {v : Value} {xs : List Value} (h : w.ownsRow base e size v n xs) : ∃ (p : Option Addr) (c : Nat), v = .slice p n c ∧ (∀ ad, p = some ad → ad = ⟨ad.block, 0, none⟩ ∧ base ≤ ad.block) := by
  rcases h.2 with ⟨rfl, rfl⟩ | ⟨g, cap, cur, rfl, hg, _⟩
  · exact ⟨none, 0, rfl, fun ad h => by cases h⟩
  · exact ⟨some ⟨g, 0, none⟩, cap, rfl, fun ad h => by cases h; exact ⟨rfl, hg⟩⟩
set_option maxRecDepth 100000 in
theorem info_of {e : TypeId} {z : Value} {s b : Nat} (h : (Tryz.prog.info? e).map (fun i => (i.zero, i.size, i.bytes)) = some (some z, s, b)) : ∃ i0, Tryz.prog.info? e = some i0 ∧ i0.zero = some z ∧ i0.size = s ∧ i0.bytes = b := by
  obtain ⟨i, hi, hb⟩ := Option.map_eq_some_iff.1 h
  simp only [Prod.mk.injEq] at hb
  exact ⟨i, hi, hb.1, hb.2.1, hb.2.2⟩

/-- bytes in memory, as many as a list has: none, or one behind the other in a block. -/
def BytesIn (W : World) (p : Option Addr) (bs : List UInt8) : Prop := ∀ i (h : i < bs.length), ∃ b off, p = some ⟨b, off, none⟩ ∧ W.cell? ⟨b, off + i, none⟩ = some (.int .u8 (bs[i].toNat : Int))
set_option maxRecDepth 100000 in
theorem BytesIn.only {W W' : World} {p : Option Addr} {bs : List UInt8} {T : Nat → Prop} (h : BytesIn W p bs) (ho : Only T W W') (hn : 0 < bs.length → ∀ b off, p = some ⟨b, off, none⟩ → ¬ T b) : BytesIn W' p bs := fun i hi => by
  obtain ⟨b, off, e, hc⟩ := h i hi
  exact ⟨b, off, e, ho.cell hc (hn (by omega) b off e)⟩
set_option maxRecDepth 100000 in
theorem BytesIn.lt {W : World} {p : Option Addr} {bs : List UInt8} (h : BytesIn W p bs) (h0 : 0 < bs.length) : ∀ b off, p = some ⟨b, off, none⟩ → b < W.heap.size := fun b off e => by
  obtain ⟨b', off', e', hc⟩ := h 0 h0
  rw [e] at e'; cases e'
  exact World.block_lt_of_cell? W _ hc
set_option maxRecDepth 100000 in
theorem BytesIn.later {W W' : World} {p : Option Addr} {bs : List UInt8} (h : BytesIn W p bs) (hb : Below W.heap.size W W') : BytesIn W' p bs := fun i hi => by
  obtain ⟨b, off, e, hc⟩ := h i hi
  exact ⟨b, off, e, cell_later hb hc⟩
set_option maxRecDepth 100000 in
theorem info5 : ∃ i0, Tryz.prog.info? 5 = some i0 ∧ i0.zero = some (.int .u8 0) ∧ i0.size = 1 ∧ i0.bytes = 1 := info_of (by kernel_rfl)
set_option maxRecDepth 100000 in
/-- a piece of a slice of bytes, as text. -/
theorem slice_conv (W : World) (p : Option Addr) (bs : List UInt8) (c lo hi : Nat) (hb : BytesIn W p bs) (h1 : lo ≤ hi) (h2 : hi ≤ bs.length) (h3 : bs.length ≤ c) :
    ∃ V, (∀ w, (Instr.slice 55 (.slice p bs.length c) (some (.int .i64 (lo : Int))) (some (.int .i64 (hi : Int))) none).run Tryz.prog w = .ok V w) ∧ (∀ W', Below W.heap.size W W' → (convert 55 9 V).run Tryz.prog W' = .ok (.string ⟨((bs.drop lo).take (hi - lo)).toArray⟩) W') := by
  obtain ⟨i5, hi5, _, hs5, _⟩ := info5
  have e1 : (0 : Int) ≤ (lo : Int) := by omega
  have e2 : (lo : Int) ≤ (hi : Int) := by omega
  have e3 : (hi : Int) ≤ (c : Int) := by omega
  have e4 : (0 : Int) ≤ (hi : Int) := by omega
  have e5 : hi ≤ c := by omega
  refine ⟨sliced p lo hi c 1, fun w => ?_, ?_⟩
  · simp [Instr.slice, run_underlying Tryz.underlying55, Instr.sliceBounds, Instr.sliceBound, asIntOf, sizeOf, typeInfo, hi5, hs5, e1, e4, e5, h1, sliced]
  · intro W2 hw2
    replace hb := hb.later hw2
    have hl : ((bs.drop lo).take (hi - lo)).length = hi - lo := by simp; omega
    unfold sliced
    rw [Nat.mul_one]
    by_cases hlt : lo < hi
    · obtain ⟨b, off, rfl, _⟩ := hb lo (by omega)
      rw [if_neg (by omega)]
      have key := run_convert_bytes_back (P := Tryz.prog) W2 55 9 5 ((⟨b, off, none⟩ : Addr).add lo) (c - lo) ((bs.drop lo).take (hi - lo)) Tryz.underlying55 Tryz.underlying5 Tryz.underlying9 (fun j hj => ?_)
      · rw [hl] at key; exact key
      obtain ⟨b2, off2, e, hc⟩ := hb (lo + j) (by omega)
      cases e
      have ea : ((⟨b, off, none⟩ : Addr).add lo).add j = ⟨b, off + (lo + j), none⟩ := by rw [Lib.add_plain, Lib.add_plain, Nat.add_assoc]
      rw [ea, hc]
      simp
    · have hz : hi - lo = 0 := by omega
      rw [hz]
      have ht : ((bs.drop lo).take 0) = [] := by simp
      rw [ht]
      generalize (if c = lo then p else p.map (·.add lo)) = q
      cases q with
      | none => exact run_convert_bytes_nil W2 55 5 Tryz.underlying55 Tryz.underlying5 0 _ 9 Tryz.underlying9
      | some a => exact run_convert_bytes_back W2 55 9 5 a _ [] Tryz.underlying55 Tryz.underlying5 Tryz.underlying9 fun j hj => by simp at hj
end Go.Proofs.YtjhaccpljgdlpaaGreat

