/- Memory; the reader. -/
import Derived.Test.YtlifankiljbdjaaDoorProg
import Derived.WalkKit
import Derived.WalkSpells
import Derived.WalkLawsBesides
import Derived.Below
import Derived.Outline
import Derived.Lib.Hide
import Derived.Lib.Walk
import Derived.Deep.QuietTactic
import Derived.BigQuiet
import Derived.Maps.AppendAt
import Derived.Laws.Externs
import Derived.Lib.ItoaMem
import Derived.Deep.LoopGhost
import Derived.Laws.BytesArg
import Derived.Laws.IdiomStrings
import Derived.Test.YtlifankiljbdjaaDoorJP
namespace Go.Proofs.YtlifankiljbdjaaDoor
open Go Go.RowKit

theorem cell_later {W W' : World} (hb : Below W.heap.size W W') {a : Addr} {v : Value} (h : W.cell? a = some v) : W'.cell? a = some v := by
  rw [← h]
  exact hb.cell (World.block_lt_of_cell? W a h)
theorem below1 (w : World) (o1 : Obj) : Below w.heap.size w (w.alloc o1) := (Below.refl _ _).alloc (Nat.le_refl _) _
theorem below_drewN (w : World) (n : Nat) : Below w.heap.size w (w.drewN n) := ⟨rfl, rfl, rfl, Nat.le_refl _, fun _ _ => rfl⟩
theorem bdd {B : Nat} {w w' : World} {n : Nat} (h : Below B w w') : Below B w (w'.drewN n) := ⟨h.os, h.tape, h.output, h.size, h.block⟩
theorem below_drew (w : World) : Below w.heap.size w w.drew := ⟨rfl, rfl, rfl, Nat.le_refl _, fun _ _ => rfl⟩
theorem below_self (w : World) : Below w.heap.size w w := Below.refl _ _
theorem chain {w w1 w2 : World} {B : Nat} (h : Below B w w1) (k : Below w1.heap.size w1 w2) (hB : B ≤ w1.heap.size) : Below B w w2 := h.trans (k.mono hB)
/-- just blocks of a kind turn, and new ones come. -/
structure Only (T : Nat → Prop) (w w' : World) : Prop where
  os : w'.os = w.os
  tape : w'.tape = w.tape
  output : w'.output = w.output
  size : w.heap.size ≤ w'.heap.size
  block : ∀ k, k < w.heap.size → ¬ T k → w'.heap[k]? = w.heap[k]?
theorem Only.refl (T : Nat → Prop) (w : World) : Only T w w := ⟨rfl, rfl, rfl, Nat.le_refl _, fun _ _ _ => rfl⟩
theorem Only.trans {T : Nat → Prop} {a b c : World} (h : Only T a b) (k : Only T b c) : Only T a c :=
  ⟨k.os.trans h.os, k.tape.trans h.tape, k.output.trans h.output, Nat.le_trans h.size k.size, fun i hi hn => (k.block i (Nat.lt_of_lt_of_le hi h.size) hn).trans (h.block i hi hn)⟩
theorem Only.mono {T T' : Nat → Prop} {w w' : World} (h : Only T w w') (hT : ∀ k, k < w.heap.size → T k → T' k) : Only T' w w' := ⟨h.os, h.tape, h.output, h.size, fun k hk hn => h.block k hk (fun ht => hn (hT k hk ht))⟩
theorem Only.of_below {T : Nat → Prop} {w w' : World} (h : Below w.heap.size w w') : Only T w w' := ⟨h.os, h.tape, h.output, h.size, fun k hk _ => h.block k hk⟩
theorem Only.below {T : Nat → Prop} {B : Nat} {w w' : World} (h : Only T w w') (hT : ∀ k, T k → B ≤ k) (hB : B ≤ w.heap.size) : Below B w w' := ⟨h.os, h.tape, h.output, h.size, fun k hk => h.block k (Nat.lt_of_lt_of_le hk hB) (fun ht => by have := hT k ht; omega)⟩
theorem Only.of_grown {w w' : World} {row : Option Nat} (h : w.grownBy w' row) : Only (fun k => row = some k) w w' := ⟨h.os, h.tape, h.output, h.size, fun k hk hn => h.block k hk (fun e => hn e.symm)⟩
theorem Only.of_setCell (w : World) (a : Addr) (u : Value) : Only (fun k => k = a.block) w (w.setCell a u) := by
  refine ⟨rfl, rfl, rfl, by simp, fun k hk hn => Below.heap_setCell w a u k hn⟩
theorem Only.new {T : Nat → Prop} {w w2 : World} (h : Only T w w2) {b o : Nat} {v : Value} (hb : w.heap.size ≤ b) : Only T w (w2.setCell ⟨b, o, none⟩ v) :=
  ⟨h.os, h.tape, h.output, by rw [World.size_setCell]; exact h.size, fun k hk hn => by rw [Below.heap_setCell w2 ⟨b, o, none⟩ v k (by show k ≠ b; omega)]; exact h.block k hk hn⟩
theorem Only.transNew {T T' : Nat → Prop} {w w2 w3 : World} (h : Only T w w2) (k : Only T' w2 w3) (hT : ∀ j, T' j → w.heap.size ≤ j) : Only T w w3 :=
  ⟨k.os.trans h.os, k.tape.trans h.tape, k.output.trans h.output, Nat.le_trans h.size k.size, fun i hi hn => (k.block i (Nat.lt_of_lt_of_le hi h.size) (fun e => by have := hT i e; omega)).trans (h.block i hi hn)⟩
theorem Only.cell {T : Nat → Prop} {w w' : World} (h : Only T w w') {a : Addr} {v : Value} (hc : w.cell? a = some v) (hn : ¬ T a.block) : w'.cell? a = some v := by
  rw [← hc]
  exact World.cell?_of_block (w := w) (h.block a.block (World.block_lt_of_cell? w a hc) hn)
theorem Only.frozen {T : Nat → Prop} {w w' : World} (h : Only T w w') {a : Addr} (hl : a.block < w.heap.size) (hn : ¬ T a.block) : w'.frozen? a = w.frozen? a :=
  World.frozen?_of_block (w := w) (h.block a.block hl hn)
theorem own_block {w w' : World} {base n : Nat} {e : TypeId} {size : Nat} {v : Value} {xs : List Value} (h : w.ownsRow base e size v n xs) (hk : ∀ k, v.ownBlock = some k → k < w.heap.size → w'.heap[k]? = w.heap[k]?) : w'.ownsRow base e size v n xs := by
  rcases h with ⟨h0, ⟨h1, h2⟩ | ⟨g, cap, cur, rfl, hg, hh, hc⟩⟩
  · exact ⟨h0, .inl ⟨h1, h2⟩⟩
  · refine ⟨h0, .inr ⟨g, cap, cur, rfl, hg, ?_, hc⟩⟩
    rw [← hh]
    exact hk g rfl (by
      rcases Nat.lt_or_ge g w.heap.size with h | h
      · exact h
      · rw [Array.getElem?_eq_none h] at hh; cases hh)
theorem own_only {T : Nat → Prop} {w w' : World} {base n : Nat} {e : TypeId} {size : Nat} {v : Value} {xs : List Value} (h : w.ownsRow base e size v n xs) (ho : Only T w w') (hn : ∀ k, v.ownBlock = some k → ¬ T k) : w'.ownsRow base e size v n xs :=
  own_block h (fun k hk hl => ho.block k hl (hn k hk))
theorem own_later {w w' : World} {base n : Nat} {e : TypeId} {size : Nat} {v : Value} {xs : List Value} (h : w.ownsRow base e size v n xs) (hb : Below w.heap.size w w') : w'.ownsRow base e size v n xs :=
  own_block h (fun k _ hl => hb.block k hl)
theorem own_lt {w : World} {base n : Nat} {e : TypeId} {size : Nat} {v : Value} {xs : List Value} (h : w.ownsRow base e size v n xs) {k : Nat} (hk : v.ownBlock = some k) : base ≤ k ∧ k < w.heap.size := World.ownsRow.lt h k hk
theorem own_shape {w : World} {base n : Nat} {e : TypeId} {size : Nat} {v : Value} {xs : List Value} (h : w.ownsRow base e size v n xs) : ∃ (p : Option Addr) (c : Nat), v = .slice p n c ∧ (∀ ad, p = some ad → ad = ⟨ad.block, 0, none⟩ ∧ base ≤ ad.block) := by
  rcases h.2 with ⟨rfl, rfl⟩ | ⟨g, cap, cur, rfl, hg, _⟩
  · exact ⟨none, 0, rfl, fun ad h => by cases h⟩
  · exact ⟨some ⟨g, 0, none⟩, cap, rfl, fun ad h => by cases h; exact ⟨rfl, hg⟩⟩
theorem info_of {e : TypeId} {z : Value} {s b : Nat} (h : (Tryd.prog.info? e).map (fun i => (i.zero, i.size, i.bytes)) = some (some z, s, b)) : ∃ i0, Tryd.prog.info? e = some i0 ∧ i0.zero = some z ∧ i0.size = s ∧ i0.bytes = b := by
  obtain ⟨i, hi, hb⟩ := Option.map_eq_some_iff.1 h
  simp only [Prod.mk.injEq] at hb
  exact ⟨i, hi, hb.1, hb.2.1, hb.2.2⟩

/-- bytes in memory, as many as a list has: none, or one behind the other in a block. -/
def BytesIn (W : World) (p : Option Addr) (bs : List UInt8) : Prop := ∀ i (h : i < bs.length), ∃ b off, p = some ⟨b, off, none⟩ ∧ W.cell? ⟨b, off + i, none⟩ = some (.int .u8 (bs[i].toNat : Int))
theorem BytesIn.only {W W' : World} {p : Option Addr} {bs : List UInt8} {T : Nat → Prop} (h : BytesIn W p bs) (ho : Only T W W') (hn : 0 < bs.length → ∀ b off, p = some ⟨b, off, none⟩ → ¬ T b) : BytesIn W' p bs := fun i hi => by
  obtain ⟨b, off, e, hc⟩ := h i hi
  exact ⟨b, off, e, ho.cell hc (hn (by omega) b off e)⟩
theorem BytesIn.lt {W : World} {p : Option Addr} {bs : List UInt8} (h : BytesIn W p bs) (h0 : 0 < bs.length) : ∀ b off, p = some ⟨b, off, none⟩ → b < W.heap.size := fun b off e => by
  obtain ⟨b', off', e', hc⟩ := h 0 h0
  rw [e] at e'; cases e'
  exact World.block_lt_of_cell? W _ hc
theorem BytesIn.later {W W' : World} {p : Option Addr} {bs : List UInt8} (h : BytesIn W p bs) (hb : Below W.heap.size W W') : BytesIn W' p bs := fun i hi => by
  obtain ⟨b, off, e, hc⟩ := h i hi
  exact ⟨b, off, e, cell_later hb hc⟩
theorem info5 : ∃ i0, Tryd.prog.info? 5 = some i0 ∧ i0.zero = some (.int .u8 0) ∧ i0.size = 1 ∧ i0.bytes = 1 := info_of (by kernel_rfl)
/-- a piece of a slice of bytes, as text. -/
theorem slice_conv (W : World) (p : Option Addr) (bs : List UInt8) (c lo hi : Nat) (hb : BytesIn W p bs) (h1 : lo ≤ hi) (h2 : hi ≤ bs.length) (h3 : bs.length ≤ c) :
    ∃ V, (∀ w, (Instr.slice 22 (.slice p bs.length c) (some (.int .i64 (lo : Int))) (some (.int .i64 (hi : Int))) none).run Tryd.prog w = .ok V w) ∧ (∀ W', Below W.heap.size W W' → (convert 22 9 V).run Tryd.prog W' = .ok (.string ⟨((bs.drop lo).take (hi - lo)).toArray⟩) W') := by
  obtain ⟨i5, hi5, _, hs5, _⟩ := info5
  have e1 : (0 : Int) ≤ (lo : Int) := by omega
  have e2 : (lo : Int) ≤ (hi : Int) := by omega
  have e3 : (hi : Int) ≤ (c : Int) := by omega
  have e4 : (0 : Int) ≤ (hi : Int) := by omega
  have e5 : hi ≤ c := by omega
  refine ⟨sliced p lo hi c 1, fun w => ?_, ?_⟩
  · simp [Instr.slice, run_underlying Tryd.underlying22, Instr.sliceBounds, Instr.sliceBound, asIntOf, sizeOf, typeInfo, hi5, hs5, e1, e2, e3, e4, e5, h1, sliced]
  · intro W2 hw2
    replace hb := hb.later hw2
    have hl : ((bs.drop lo).take (hi - lo)).length = hi - lo := by simp; omega
    unfold sliced
    rw [Nat.mul_one]
    by_cases hlt : lo < hi
    · obtain ⟨b, off, rfl, _⟩ := hb lo (by omega)
      rw [if_neg (by omega)]
      have key := run_convert_bytes_back (P := Tryd.prog) W2 22 9 5 ((⟨b, off, none⟩ : Addr).add lo) (c - lo) ((bs.drop lo).take (hi - lo)) Tryd.underlying22 Tryd.underlying5 Tryd.underlying9 (fun j hj => ?_)
      · rw [hl] at key; exact key
      obtain ⟨b2, off2, e, hc⟩ := hb (lo + j) (by omega)
      cases e
      have ea : ((⟨b, off, none⟩ : Addr).add lo).add j = ⟨b, off + (lo + j), none⟩ := by rw [Lib.add_plain, Lib.add_plain, Nat.add_assoc]
      rw [ea, hc]
      simp
    · have hz : hi - lo = 0 := by omega
      rw [hz]
      have ht : ((bs.drop lo).take 0) = [] := by simp
      rw [ht]
      generalize (if c = lo then p else p.map (·.add lo)) = q
      cases q with
      | none => exact run_convert_bytes_nil W2 22 5 Tryd.underlying22 Tryd.underlying5 0 _ 9 Tryd.underlying9
      | some a => exact run_convert_bytes_back W2 22 9 5 a _ [] Tryd.underlying22 Tryd.underlying5 Tryd.underlying9 fun j hj => by simp at hj
end Go.Proofs.YtlifankiljbdjaaDoor
namespace Go.Proofs.YtlifankiljbdjaaDoor
open Go Go.RowKit

/-- a reader: its struct in block R: the bytes, the place, the classes. -/
structure RdAt (W : World) (R : Nat) (p : Option Addr) (c : Nat) (bs : List UInt8) (a : Nat) : Prop where
  cb : W.cell? ⟨R, 0, none⟩ = some (.slice p bs.length c)
  ca : W.cell? ⟨R, 1, none⟩ = some (.int .i64 (a : Int))
  cl : ∀ b : UInt8, W.cell? ⟨R, 2 + b.toNat, none⟩ = some (.int .u8 (clB b : Int))
  fz : W.frozen? ⟨R, 1, none⟩ = false
  bi : BytesIn W p bs
  ne : 0 < bs.length → ∀ b off, p = some ⟨b, off, none⟩ → b ≠ R
  hl : R < W.heap.size
  hn : bs.length ≤ 1048576
  hk : bs.length ≤ c
  ha : a ≤ bs.length
section
variable {W W' : World} {R : Nat} {p : Option Addr} {c : Nat} {bs : List UInt8} {a : Nat}
theorem RdAt.only {T : Nat → Prop} (h : RdAt W R p c bs a) (ho : Only T W W') (h1 : ¬ T R) (h2 : 0 < bs.length → ∀ b off, p = some ⟨b, off, none⟩ → ¬ T b) : RdAt W' R p c bs a :=
  ⟨ho.cell h.cb h1, ho.cell h.ca h1, fun b => ho.cell (h.cl b) h1, by rw [ho.frozen h.hl h1]; exact h.fz, h.bi.only ho h2, h.ne, Nat.lt_of_lt_of_le h.hl ho.size, h.hn, h.hk, h.ha⟩
theorem RdAt.later (h : RdAt W R p c bs a) (hb : Below W.heap.size W W') : RdAt W' R p c bs a :=
  h.only (Only.of_below (T := fun _ => False) hb) (fun h => h) (fun _ _ _ _ h => h)
theorem RdAt.set (h : RdAt W R p c bs a) {v : Int} {a' : Nat} (hv : v = (a' : Int)) (ha : a' ≤ bs.length) : RdAt (W.setCell ⟨R, 1, none⟩ (.int .i64 v)) R p c bs a' := by
  subst hv
  have hs := Only.of_setCell W ⟨R, 1, none⟩ (.int .i64 (a' : Int))
  have far : ∀ o v, o ≠ 1 → W.cell? ⟨R, o, none⟩ = some v → (W.setCell ⟨R, 1, none⟩ (.int .i64 (a' : Int))).cell? ⟨R, o, none⟩ = some v := fun o v h3 h4 => by
    rw [World.cell?_setCell_other _ _ _ _ (by intro e; cases e; exact h3 rfl)]; exact h4
  exact ⟨far 0 _ (by omega) h.cb, World.cell?_setCell_same _ _ _ h.ca, fun b => far _ _ (by omega) (h.cl b), by rw [World.frozen?_setCell]; exact h.fz,
    h.bi.only hs h.ne, h.ne, by rw [World.size_setCell]; exact h.hl, h.hn, h.hk, ha⟩
theorem only_set (W : World) (R o : Nat) (v : Value) : Only (· = R) W (W.setCell ⟨R, o, none⟩ v) := Only.of_setCell W ⟨R, o, none⟩ v
end
/-- a byte's class and a mask -/
theorem and_all (m : Nat) (f : UInt8 → Bool) (h : (List.range 256).all (fun n => (bits BinOp.and IntKind.u8 (clB (UInt8.ofNat n) : Int) (m : Int) != 0) == f (UInt8.ofNat n)) = true) (c : UInt8) : (bits BinOp.and IntKind.u8 (clB c : Int) (m : Int) != 0) = f c := by
  have := u8_all (p := fun c => (bits BinOp.and IntKind.u8 (clB c : Int) (m : Int) != 0) == f c) h c
  exact eq_of_beq this
theorem and1 (c : UInt8) : (bits BinOp.and IntKind.u8 (clB c : Int) 1 != 0) = spB c := and_all 1 spB (by decide +kernel) c
theorem and2 (c : UInt8) : (bits BinOp.and IntKind.u8 (clB c : Int) 2 != 0) = syB c := and_all 2 syB (by decide +kernel) c
theorem and4 (c : UInt8) : (bits BinOp.and IntKind.u8 (clB c : Int) 4 != 0) = dgB c := and_all 4 dgB (by decide +kernel) c
theorem and8 (c : UInt8) : (bits BinOp.and IntKind.u8 (clB c : Int) 8 != 0) = hxB c := and_all 8 hxB (by decide +kernel) c
theorem and16 (c : UInt8) : (bits BinOp.and IntKind.u8 (clB c : Int) 16 != 0) = txB c := and_all 16 txB (by decide +kernel) c
theorem not_ne {x : Int} {b : Bool} (h : (x != 0) = b) : (x == 0) = !b := by rw [← h, bne, Bool.not_not]
theorem cl_lt (c : UInt8) : clB c < 32 := by
  have := u8_all (p := fun c => decide (clB c < 32)) (by decide +kernel) c
  simpa using this
theorem drop_at {bs : List UInt8} {a : Nat} (h : a < bs.length) : bs.drop a = bs[a] :: bs.drop (a + 1) := List.drop_eq_getElem_cons h

set_option maxRecDepth 100000 in
set_option maxHeartbeats 1600000 in
theorem skip_any (R : Nat) (p : Option Addr) (c : Nat) (bs : List UInt8) (a0 : Nat) (W : World) (h : RdAt W R p c bs a0) :
    Calls Tryd.prog 35 #[.pointer (some ⟨R, 0, none⟩)] W fun e w' => e = .returned (.tuple #[]) ∧ RdAt w' R p c bs (a0 + skipM false (bs.drop a0)) ∧ Only (· = R) W w' := by
  have H := Lib.hid h
  have hn := h.hn
  generalize hN : a0 + skipM false (bs.drop a0) = N0
  have HN := Lib.hid hN
  clear h hN
  go_enter Tryd.func35, Tryd.ntmps35
  go_wp2_with fail
  go_loopg [12] (bs.length + 1) (fun gk s12 wx => ∃ a : Nat, Hid (a ≤ bs.length ∧ bs.length + 1 ≤ a + gk ∧ a + skipM false (bs.drop a) = N0 ∧ RdAt wx R p c bs a ∧ Only (· = R) W wx))
  case atStart => exact ⟨a0, Lib.hid ⟨H.out.ha, by omega, HN.out, H.out, Only.refl _ _⟩⟩
  case round =>
    obtain ⟨a, HI⟩ := hrel
    clear H HN
    obtain ⟨h1, h2, h3, hr, ho⟩ := HI.out
    have c0 := hr.cb
    have c1 := hr.ca
    have f1 := hr.fz
    have HG := Lib.hid h2
    have HE := Lib.hid h3
    have HO := Lib.hid ho
    have HR := Lib.hid hr
    clear h2 h3 ho HI
    obtain ⟨n, hnl⟩ : ∃ n, n = bs.length := ⟨_, rfl⟩
    have HL := Lib.hid hnl
    rw [← hnl] at c0 hn h1
    clear hnl
    by_cases hlt : a < n
    · obtain ⟨G, rfl⟩ : ∃ G, gk = G + 1 := ⟨gk - 1, by have := HG.out; have := HL.out; omega⟩
      have i1 : (a : Int) < (n : Int) := by omega
      have i0 : (0 : Int) ≤ (a : Int) := by omega
      have hab : a < bs.length := by have := HL.out; omega
      have hd := drop_at hab
      obtain ⟨b, off, rfl, cb⟩ := hr.bi a hab
      have ccl := hr.cl bs[a]
      have hz : (bs[a].toNat : Int) < 256 := by have := bs[a].toNat_lt; omega
      have hz0 : (0 : Int) ≤ (bs[a].toNat : Int) := by omega
      have an := and1 bs[a]
      have eq59 : ((bs[a].toNat : Int) == 59) = (bs[a] == 59) := by
        have := u8_all (p := fun c => ((c.toNat : Int) == 59) == (c == 59)) (by decide +kernel) bs[a]
        simpa using this
      generalize bs[a] = x at *
      generalize x.toNat = y at *
      generalize clB x = z at *
      have HD := Lib.hid hd
      clear hr hd
      cases hs : spB x with
      | true =>
        rw [hs] at an
        have HS := Lib.hid hs
        clear hs eq59
        go_wp2_with fail
        go_quiet (fail)
        go_wp2_with fail
        go_quiet (fail)
        go_wp2_with fail
        go_roundg G
        case measure => have := HG.out; have := HL.out; omega
        case rel =>
          have hl := HL.out
          have hg := HG.out
          obtain ⟨a', ha'⟩ : ∃ a', a' = a + 1 := ⟨_, rfl⟩
          refine ⟨a', Lib.hid ⟨by omega, by omega, ?_, ?_, ?_⟩⟩
          all_goals (try rw [ha'])
          · have := HE.out; rw [HD.out] at this; simp only [skipM, HS.out, if_true] at this; omega
          · exact (HR.out.later (by first | exact below_drewN _ _ | exact Below.refl _ _ | (repeat (first | exact Below.refl _ _ | apply bdd)))).set (by omega) (by omega)
          · exact (HO.out.trans (Only.of_below (by first | exact below_drewN _ _ | exact Below.refl _ _ | (repeat (first | exact Below.refl _ _ | apply bdd))))).trans (only_set _ _ _ _)
      | false =>
        rw [hs] at an
        cases hc : (x == 59) with
        | false =>
          rw [hc] at eq59
          have hend : a = N0 := by have := HE.out; rw [HD.out] at this; simp [skipM, hs, hc] at this; exact this
          have HN := Lib.hid hend
          clear hs hc hend
          go_wp2_with fail
          go_quiet (fail)
          go_wp2_with fail
          go_quiet (fail)
          go_wp2_with fail
          go_quiet (fail)
          go_wp2_with fail
          exact bodyPost_ret (v := .tuple #[]) (by simp [results, Tryd.results35, go_sem]) rfl ⟨rfl, by rw [← HN.out]; exact HR.out.later (by first | exact below_drewN _ _ | exact Below.refl _ _ | (repeat (first | exact Below.refl _ _ | apply bdd))), HO.out.trans (Only.of_below (by first | exact below_drewN _ _ | exact Below.refl _ _ | (repeat (first | exact Below.refl _ _ | apply bdd))))⟩
        | true =>
          rw [hc] at eq59
          have hx : x = 59 := by simpa using hc
          have HE2 := Lib.hid (show a + skipM true (bs.drop a) = N0 by
            have := HE.out; rw [HD.out] at this ⊢; subst hx; simpa [skipM, hs] using this)
          have HX := Lib.hid hx
          clear hs hc hx HE
          go_wp2_with fail
          go_quiet (fail)
          go_wp2_with fail
          go_quiet (fail)
          go_wp2_with fail
          go_quiet (fail)
          go_wp2_with fail
          generalize hW1 : ((wr.drewN _).drewN _).drewN _ = W1
          have HR1 := Lib.hid (show RdAt W1 R (some ⟨b, off, none⟩) c bs a from by rw [← hW1]; exact HR.out.later (by first | exact below_drewN _ _ | exact Below.refl _ _ | (repeat (first | exact Below.refl _ _ | apply bdd))))
          have HO1 := Lib.hid (show Only (· = R) W W1 from by rw [← hW1]; exact HO.out.trans (Only.of_below (by first | exact below_drewN _ _ | exact Below.refl _ _ | (repeat (first | exact Below.refl _ _ | apply bdd)))))
          clear hW1 c0 c1 f1 ccl cb HR HO
          go_loopg [71] (bs.length + 1) (fun ik s12 wx => ∃ a2 : Nat, Hid (a ≤ a2 ∧ a2 ≤ n ∧ n + 1 ≤ a2 + ik ∧ a2 + skipM true (bs.drop a2) = N0 ∧ RdAt wx R (some ⟨b, off, none⟩) c bs a2 ∧ Only (· = R) W wx))
          case atStart => exact ⟨a, Lib.hid ⟨Nat.le_refl _, h1, by have := HL.out; omega, HE2.out, HR1.out, HO1.out⟩⟩
          case round =>
            obtain ⟨a2, HI⟩ := hrel
            clear HR1 HO1 HE2
            obtain ⟨j0, j1, j2, j3, hr, ho⟩ := HI.out
            have c0 := hr.cb
            have c1 := hr.ca
            have f1 := hr.fz
            have HE := Lib.hid j3
            have HO := Lib.hid ho
            have HR := Lib.hid hr
            have HA := Lib.hid j0
            have HG2 := Lib.hid j2
            rw [← HL.out] at c0
            clear j0 j2 j3 ho HI
            by_cases hlt2 : a2 < n
            · have i1 : (a2 : Int) < (n : Int) := by omega
              have i0 : (0 : Int) ≤ (a2 : Int) := by omega
              have hab : a2 < bs.length := by have := HL.out; omega
              have hd := drop_at hab
              obtain ⟨b2, off2, e2, cb⟩ := hr.bi a2 hab
              cases e2
              have hz : (bs[a2].toNat : Int) < 256 := by have := bs[a2].toNat_lt; omega
              have hz0 : (0 : Int) ≤ (bs[a2].toNat : Int) := by omega
              have eq10 : ((bs[a2].toNat : Int) != 10) = (bs[a2] != 10) := by
                have := u8_all (p := fun c => ((c.toNat : Int) != 10) == (c != 10)) (by decide +kernel) bs[a2]
                simpa using this
              generalize bs[a2] = x2 at *
              generalize x2.toNat = y2 at *
              have HD2 := Lib.hid hd
              clear hr hd
              cases hc : (x2 != 10) with
              | true =>
                rw [hc] at eq10
                have HC := Lib.hid hc
                clear hc
                go_wp2_with fail
                go_quiet (fail)
                go_wp2_with fail
                go_roundg (gk - 1)
                case measure => have := HG2.out; omega
                case rel =>
                  have hg := HG2.out
                  obtain ⟨a', ha'⟩ : ∃ a', a' = a2 + 1 := ⟨_, rfl⟩
                  refine ⟨a', Lib.hid ⟨by have := HA.out; omega, by omega, by omega, ?_, ?_, ?_⟩⟩
                  all_goals (try rw [ha'])
                  · have hne : (x2 == 10) = false := by have := HC.out; simpa using this
                    have := HE.out; rw [HD2.out] at this; simp only [skipM, hne] at this; simp at this; omega
                  · exact (HR.out.later (by first | exact below_drewN _ _ | exact Below.refl _ _ | (repeat (first | exact Below.refl _ _ | apply bdd)))).set (by omega) (by have := HL.out; omega)
                  · exact (HO.out.trans (Only.of_below (by first | exact below_drewN _ _ | exact Below.refl _ _ | (repeat (first | exact Below.refl _ _ | apply bdd))))).trans (only_set _ _ _ _)
              | false =>
                rw [hc] at eq10
                have hx : x2 = 10 := by simpa using hc
                have hne : a ≠ a2 := fun e => by
                  subst e
                  have h1 := HD.out; have h2 := HD2.out
                  rw [h1] at h2
                  have h3 := HX.out
                  simp only [List.cons.injEq] at h2
                  rw [hx, h3] at h2
                  exact absurd h2.1 (by decide)
                have HX2 := Lib.hid (show a2 + skipM false (bs.drop a2) = N0 by
                  have := HE.out; rw [HD2.out] at this ⊢; subst hx; simpa [skipM, spB] using this)
                have HNE := Lib.hid hne
                clear hc hx hne
                go_wp2_with fail
                go_quiet (fail)
                go_wp2_with fail
                go_roundg G
                case measure => omega
                case rel =>
                  refine ⟨a2, Lib.hid ⟨by have := HL.out; omega, ?_, HX2.out, HR.out.later (by first | exact below_drewN _ _ | exact Below.refl _ _ | (repeat (first | exact Below.refl _ _ | apply bdd))), HO.out.trans (Only.of_below (by first | exact below_drewN _ _ | exact Below.refl _ _ | (repeat (first | exact Below.refl _ _ | apply bdd))))⟩⟩
                  have := HG.out; have := HA.out; have := HNE.out; omega
            · have HX2 := Lib.hid (show a2 + skipM false (bs.drop a2) = N0 by
                have hl := HL.out
                have := HE.out; rw [List.drop_of_length_le (by omega)] at this ⊢; simpa [skipM] using this)
              have d1 : ((a2 : Int) < (n : Int)) = False := by simp; omega
              have d2 : decide ((a2 : Int) < (n : Int)) = false := by simp; omega
              clear hr
              go_wp2_with fail
              go_quiet (fail)
              go_wp2_with fail
              go_roundg G
              case measure => omega
              case rel =>
                refine ⟨a2, Lib.hid ⟨by have := HL.out; omega, ?_, HX2.out, HR.out.later (by first | exact below_drewN _ _ | exact Below.refl _ _ | (repeat (first | exact Below.refl _ _ | apply bdd))), HO.out.trans (Only.of_below (by first | exact below_drewN _ _ | exact Below.refl _ _ | (repeat (first | exact Below.refl _ _ | apply bdd))))⟩⟩
                have := HG.out; have := HA.out; omega
    · have hend : a = N0 := by
        have hl := HL.out
        have := HE.out; rw [List.drop_of_length_le (by omega)] at this; simpa [skipM] using this
      have HN := Lib.hid hend
      clear hend hr
      go_wp2_with fail
      go_quiet (fail)
      go_wp2_with fail
      go_end0
      exact ⟨rfl, by rw [← HN.out]; exact HR.out.later (by first | exact below_drewN _ _ | exact Below.refl _ _ | (repeat (first | exact Below.refl _ _ | apply bdd))), HO.out.trans (Only.of_below (by first | exact below_drewN _ _ | exact Below.refl _ _ | (repeat (first | exact Below.refl _ _ | apply bdd))))⟩
end Go.Proofs.YtlifankiljbdjaaDoor
namespace Go.Proofs.YtlifankiljbdjaaDoor
open Go Go.RowKit

theorem tw_drop (bs : List UInt8) (a : Nat) (h : a < bs.length) (hs : syB bs[a] = true) : (wordL (bs.drop a)).length = 1 + (wordL (bs.drop (a + 1))).length := by
  unfold wordL
  rw [drop_at h, List.takeWhile_cons, if_pos hs]; simp; omega
theorem tw_stop (bs : List UInt8) (a : Nat) (h : a < bs.length) (hs : syB bs[a] = false) : (wordL (bs.drop a)).length = 0 := by
  unfold wordL
  rw [drop_at h, List.takeWhile_cons, if_neg (by rw [hs]; decide)]; rfl
theorem tw_end (bs : List UInt8) (a : Nat) (h : bs.length ≤ a) : (wordL (bs.drop a)).length = 0 := by
  rw [List.drop_of_length_le h]; rfl
theorem word_take (s : List UInt8) : s.take (wordL s).length = wordL s := by
  unfold wordL
  exact (List.prefix_iff_eq_take.1 (List.takeWhile_prefix syB)).symm
theorem byte_gt {x : UInt8} : (x.toNat : Int) < 256 ∧ (0 : Int) ≤ (x.toNat : Int) := by have := x.toNat_lt; omega
set_option maxRecDepth 100000 in
set_option maxHeartbeats 1600000 in
theorem word_any (R : Nat) (p : Option Addr) (c : Nat) (bs : List UInt8) (a0 : Nat) (W : World) (h : RdAt W R p c bs a0) :
    Calls Tryd.prog 73 #[.pointer (some ⟨R, 0, none⟩)] W fun e w' => e = .returned (.string ⟨(wordL (bs.drop a0)).toArray⟩) ∧ RdAt w' R p c bs (a0 + (wordL (bs.drop a0)).length) ∧ Only (· = R) W w' := by
  have H := Lib.hid h
  have hn := h.hn
  have hc1 := h.ca
  have h00 := h.ha
  generalize hN : a0 + (wordL (bs.drop a0)).length = N0
  have HN := Lib.hid hN
  have HNN := Lib.hid hN
  clear h hN
  go_enter Tryd.func73, Tryd.ntmps73
  go_wp2_with fail
  go_loopg [36] (bs.length + 1) (fun gk s12 wx => ∃ a : Nat, Hid (a0 ≤ a ∧ a ≤ bs.length ∧ bs.length + 1 ≤ a + gk ∧ a + (wordL (bs.drop a)).length = N0 ∧ RdAt wx R p c bs a ∧ Only (· = R) W wx))
  case atStart => exact ⟨a0, Lib.hid ⟨Nat.le_refl _, H.out.ha, by omega, HN.out, H.out, Only.refl _ _⟩⟩
  case round =>
    obtain ⟨a, HI⟩ := hrel
    clear H hc1
    obtain ⟨h0, h1, h2, h3, hr, ho⟩ := HI.out
    have c0 := hr.cb
    have c1 := hr.ca
    have f1 := hr.fz
    have HG := Lib.hid h2
    have HE := Lib.hid h3
    have HO := Lib.hid ho
    have HR := Lib.hid hr
    clear h2 h3 ho HI
    obtain ⟨n, hnl⟩ : ∃ n, n = bs.length := ⟨_, rfl⟩
    have HL := Lib.hid hnl
    rw [← hnl] at c0 hn h1 h00
    clear hnl
    by_cases hlt : a < n
    · obtain ⟨G, rfl⟩ : ∃ G, gk = G + 1 := ⟨gk - 1, by have := HG.out; have := HL.out; omega⟩
      have i1 : (a : Int) < (n : Int) := by omega
      have i0 : (0 : Int) ≤ (a : Int) := by omega
      have hab : a < bs.length := by have := HL.out; omega
      obtain ⟨b, off, rfl, cb⟩ := hr.bi a hab
      have ccl := hr.cl bs[a]
      obtain ⟨hz, hz0⟩ := byte_gt (x := bs[a])
      have an := and2 bs[a]
      have hs1 := tw_drop bs a hab
      have hs2 := tw_stop bs a hab
      cases hs : syB bs[a] with
      | true =>
        rw [hs] at an
        have HS := Lib.hid (hs1 hs)
        generalize bs[a] = x at *
        generalize x.toNat = y at *
        generalize clB x = z at *
        clear hs hs1 hs2 hr
        go_wp2_with fail
        go_quiet (fail)
        go_wp2_with fail
        go_roundg G
        case measure => have := HG.out; have := HL.out; omega
        case rel =>
          have hl := HL.out
          have hg := HG.out
          obtain ⟨a', ha'⟩ : ∃ a', a' = a + 1 := ⟨_, rfl⟩
          refine ⟨a', Lib.hid ⟨by omega, by omega, by omega, ?_, ?_, ?_⟩⟩
          all_goals (try rw [ha'])
          · have := HE.out; have := HS.out; omega
          · exact (HR.out.later (by first | exact below_drewN _ _ | exact Below.refl _ _ | (repeat (first | exact Below.refl _ _ | apply bdd)))).set (by omega) (by omega)
          · exact (HO.out.trans (Only.of_below (by first | exact below_drewN _ _ | exact Below.refl _ _ | (repeat (first | exact Below.refl _ _ | apply bdd))))).trans (only_set _ _ _ _)
      | false =>
        rw [hs] at an
        have HS := Lib.hid (show a = N0 by have := HE.out; have := hs2 hs; omega)
        generalize bs[a] = x at *
        generalize x.toNat = y at *
        generalize clB x = z at *
        clear hs hs1 hs2 hr
        go_wp2_with fail
        go_quiet (fail)
        go_wp2_with fail
        generalize hW1 : wr.drewN _ = W1
        have HR1 := Lib.hid (show RdAt W1 R (some ⟨b, off, none⟩) c bs a from by rw [← hW1]; exact HR.out.later (by first | exact below_drewN _ _ | exact Below.refl _ _ | (repeat (first | exact Below.refl _ _ | apply bdd))))
        have HO1 := Lib.hid (show Only (· = R) W W1 from by rw [← hW1]; exact HO.out.trans (Only.of_below (by first | exact below_drewN _ _ | exact Below.refl _ _ | (repeat (first | exact Below.refl _ _ | apply bdd)))))
        have d0 := HR1.out.cb
        have d1 := HR1.out.ca
        obtain ⟨V, hsl, hcv0⟩ := slice_conv W1 _ bs c a0 a HR1.out.bi h0 (by have := HL.out; omega) HR1.out.hk
        rw [← HL.out] at d0 hsl
        have HCV := Lib.hid (show (bs.drop a0).take (a - a0) = wordL (bs.drop a0) by
          have e : a - a0 = (wordL (bs.drop a0)).length := by have := HS.out; have := HNN.out; omega
          rw [e]; exact word_take _)
        rw [HCV.out] at hcv0
        have hcv := fun n => hcv0 (W1.drewN n) (below_drewN _ _)
        clear hcv0
        clear hW1 c0 c1 f1 HR HO
        go_quiet (fail)
        go_wp2_with fail
        go_ret
        exact ⟨rfl, by rw [← HS.out]; exact HR1.out.later (by first | exact below_drewN _ _ | exact Below.refl _ _ | (repeat (first | exact Below.refl _ _ | apply bdd))), HO1.out.trans (Only.of_below (by first | exact below_drewN _ _ | exact Below.refl _ _ | (repeat (first | exact Below.refl _ _ | apply bdd))))⟩
    · have hend : a = N0 := by
        have hl := HL.out
        have := HE.out; have := tw_end bs a (by omega); omega
      have HN := Lib.hid hend
      clear hend hr
      go_wp2_with fail
      go_quiet (fail)
      go_wp2_with fail
      generalize hW1 : wr.drewN _ = W1
      have HR1 := Lib.hid (show RdAt W1 R p c bs a from by rw [← hW1]; exact HR.out.later (by first | exact below_drewN _ _ | exact Below.refl _ _ | (repeat (first | exact Below.refl _ _ | apply bdd))))
      have HO1 := Lib.hid (show Only (· = R) W W1 from by rw [← hW1]; exact HO.out.trans (Only.of_below (by first | exact below_drewN _ _ | exact Below.refl _ _ | (repeat (first | exact Below.refl _ _ | apply bdd)))))
      have d0 := HR1.out.cb
      have d1 := HR1.out.ca
      obtain ⟨V, hsl, hcv0⟩ := slice_conv W1 _ bs c a0 a HR1.out.bi h0 (by have := HL.out; omega) HR1.out.hk
      rw [← HL.out] at d0 hsl
      have HCV := Lib.hid (show (bs.drop a0).take (a - a0) = wordL (bs.drop a0) by
        have e : a - a0 = (wordL (bs.drop a0)).length := by have := HN.out; have := HNN.out; omega
        rw [e]; exact word_take _)
      rw [HCV.out] at hcv0
      have hcv := fun n => hcv0 (W1.drewN n) (below_drewN _ _)
      clear hcv0
      clear hW1 c0 c1 f1 HR HO
      go_quiet (fail)
      go_wp2_with fail
      go_ret
      exact ⟨rfl, by rw [← HN.out]; exact HR1.out.later (by first | exact below_drewN _ _ | exact Below.refl _ _ | (repeat (first | exact Below.refl _ _ | apply bdd))), HO1.out.trans (Only.of_below (by first | exact below_drewN _ _ | exact Below.refl _ _ | (repeat (first | exact Below.refl _ _ | apply bdd))))⟩
end Go.Proofs.YtlifankiljbdjaaDoor
namespace Go.Proofs.YtlifankiljbdjaaDoor
open Go Go.RowKit

theorem toList_data (s : ByteArray) : s.toList = s.data.toList := ByteArray.toList_eq s
theorem drewN_later {W w' : World} (h : ∃ n, w' = W.drewN n) : Below W.heap.size W w' := by
  obtain ⟨n, rfl⟩ := h; exact below_drewN _ _
set_option maxRecDepth 100000 in
set_option maxHeartbeats 1600000 in
theorem all_any (m : Int) (f : UInt8 → Bool) (hm : ∀ c, (bits BinOp.and IntKind.u8 (clB c : Int) m == 0) = !(f c)) (R : Nat) (s : ByteArray) (W : World) (hcl : ∀ b : UInt8, W.cell? ⟨R, 2 + b.toNat, none⟩ = some (.int .u8 (clB b : Int))) (hs : s.size ≤ 1048576) :
    Calls Tryd.prog 74 #[.pointer (some ⟨R, 0, none⟩), .string s, .int .u8 m] W fun e w' => e = .returned (.bool (allB f s.data.toList)) ∧ ∃ n, w' = W.drewN n := by
  have HCL := Lib.hid hcl
  have HM := Lib.hid hm
  clear hcl hm
  go_enter Tryd.func74, Tryd.ntmps74
  go_wp2_with fail
  go_loopg [7] s.size (fun gk s7 wx => ∃ k : Nat, k + gk = s.size ∧ s7 = .int .i64 (k : Int) ∧ Hid ((∃ n, wx = W.drewN n) ∧ ∀ x ∈ s.data.toList.take k, f x = true))
  case atStart => exact ⟨0, by omega, rfl, Lib.hid ⟨⟨0, rfl⟩, by simp⟩⟩
  case round =>
    obtain ⟨k, hk, rfl, HI⟩ := hrel
    obtain ⟨nw, hwr⟩ := HI.out.1
    have HW := Lib.hid hwr
    have HG := Lib.hid hk
    have hk2 : k ≤ s.size := by omega
    clear hk hwr
    by_cases hlt : k < s.size
    · have i1 : (k : Int) < (s.size : Int) := by omega
      have i0 : (0 : Int) ≤ (k : Int) := by omega
      have ccl : wr.cell? ⟨R, 2 + s[k].toNat, none⟩ = some (.int .u8 (clB s[k] : Int)) := by rw [HW.out]; simpa using HCL.out s[k]
      obtain ⟨hz, hz0⟩ := byte_gt (x := s[k])
      have an := HM.out s[k]
      have hts : s.data.toList.take (k + 1) = s.data.toList.take k ++ [s[k]] := by
        rw [List.take_succ_eq_append_getElem (by simpa using hlt)]; rfl
      have HTS := Lib.hid hts
      have hmem : s[k] ∈ s.data.toList := by simp [ByteArray.getElem_eq_getElem_data]
      have HME := Lib.hid hmem
      clear hts hmem
      cases hs : f s[k] with
      | true =>
        rw [hs] at an
        have an2 : (bits BinOp.and IntKind.u8 (clB s[k] : Int) m == 0) = false := an
        clear an
        have HS := Lib.hid hs
        clear hs
        go_wp2_with fail
        go_quiet (fail)
        go_wp2_with fail
        obtain ⟨G, rfl⟩ : ∃ G, gk = G + 1 := ⟨gk - 1, by have := HG.out; omega⟩
        go_roundg G
        case measure => omega
        case rel =>
          obtain ⟨k', hk'⟩ : ∃ k', k' = k + 1 := ⟨_, rfl⟩
          refine ⟨k', by have := HG.out; omega, by rw [hk']; go_num, Lib.hid ⟨⟨nw + nq, by rw [HW.out]; simp⟩, fun x hx => ?_⟩⟩
          rw [hk', HTS.out] at hx
          rcases List.mem_append.1 hx with h | h
          · exact HI.out.2 x h
          · have : x = s[k] := by simpa using h
            rw [this]; exact HS.out
      | false =>
        rw [hs] at an
        have an2 : (bits BinOp.and IntKind.u8 (clB s[k] : Int) m == 0) = true := an
        clear an
        have HS := Lib.hid hs
        clear hs
        go_wp2_with fail
        go_quiet (fail)
        go_wp2_with fail
        go_ret
        refine ⟨?_, nw + nq, by rw [HW.out]; simp⟩
        have : allB f s.data.toList = false := by
          unfold allB
          rw [List.all_eq_false.2 ⟨_, HME.out, by rw [HS.out]; decide⟩]; rfl
        rw [this]
        rfl
    · go_wp2_with fail
      go_ret
      refine ⟨?_, nw, HW.out⟩
      have hk3 : k = s.size := by omega
      subst hk3
      have hall : s.data.toList.all f = true := by
        rw [List.all_eq_true]
        intro x hx
        refine HI.out.2 x ?_
        rw [List.take_of_length_le (by simp)]; exact hx
      show Ending.returned (Value.bool !s.toList.isEmpty) = _
      rw [toList_data]
      unfold allB
      rw [hall]; rfl
end Go.Proofs.YtlifankiljbdjaaDoor
namespace Go.Proofs.YtlifankiljbdjaaDoor
open Go Go.RowKit

theorem dg_i (x : UInt8) : dgB x = (decide ((48 : Int) ≤ (x.toNat : Int)) && decide ((x.toNat : Int) ≤ 57)) := by
  have := u8_all (p := fun x => dgB x == (decide ((48 : Int) ≤ (x.toNat : Int)) && decide ((x.toNat : Int) ≤ 57))) (by decide +kernel) x
  exact eq_of_beq this
theorem sy_i (x : UInt8) (h : extraL.contains x = false) : syB x = ((decide ((97 : Int) ≤ (x.toNat : Int)) && decide ((x.toNat : Int) ≤ 122)) || ((decide ((65 : Int) ≤ (x.toNat : Int)) && decide ((x.toNat : Int) ≤ 90)) || dgB x)) := by
  have := u8_all (p := fun x => extraL.contains x || (syB x == ((decide ((97 : Int) ≤ (x.toNat : Int)) && decide ((x.toNat : Int) ≤ 122)) || ((decide ((65 : Int) ≤ (x.toNat : Int)) && decide ((x.toNat : Int) ≤ 90)) || dgB x)))) (by decide +kernel) x
  rw [h] at this
  exact eq_of_beq (by simpa using this)
theorem sy_extra (x : UInt8) (h : extraL.contains x = true) : syB x = true := by unfold syB; rw [h]; simp
theorem sp_i (x : UInt8) : spB x = (((x.toNat : Int) == 9) || (((x.toNat : Int) == 10) || (((x.toNat : Int) == 13) || ((x.toNat : Int) == 32)))) := by
  have := u8_all (p := fun x => spB x == (((x.toNat : Int) == 9) || (((x.toNat : Int) == 10) || (((x.toNat : Int) == 13) || ((x.toNat : Int) == 32))))) (by decide +kernel) x
  exact eq_of_beq this
theorem tx_i (x : UInt8) : txB x = (spB x || ((decide ((32 : Int) < (x.toNat : Int)) && decide ((x.toNat : Int) < 127)) || decide ((127 : Int) < (x.toNat : Int)))) := by
  have := u8_all (p := fun x => txB x == (spB x || ((decide ((32 : Int) < (x.toNat : Int)) && decide ((x.toNat : Int) < 127)) || decide ((127 : Int) < (x.toNat : Int))))) (by decide +kernel) x
  exact eq_of_beq this
theorem str_get' {S : ByteArray} {i : Nat} (h : i < S.size) : S.data.toList[i]? = some S[i] := by
  have : i < S.data.toList.length := by simpa using h
  rw [List.getElem?_eq_getElem this]; rfl
set_option maxRecDepth 100000 in
set_option maxHeartbeats 800000 in
theorem blank_any (x : UInt8) (W : World) : Calls Tryd.prog 37 #[.int .u8 (x.toNat : Int)] W fun e w' => e = .returned (.bool (spB x)) ∧ W = w' := by
  have HS := Lib.hid (sp_i x)
  generalize x.toNat = y at *
  cases q1 : ((y : Int) == 9) <;> cases q2 : ((y : Int) == 10) <;> cases q3 : ((y : Int) == 13) <;> cases q4 : ((y : Int) == 32) <;>
    (have HR := Lib.hid (show spB x = _ by rw [HS.out, q1, q2, q3, q4])
     clear HS
     go_enter Tryd.func37, Tryd.ntmps37
     go_wp2_with fail
     go_ret
     exact ⟨by rw [HR.out]; rfl, rfl⟩)
set_option maxRecDepth 100000 in
set_option maxHeartbeats 800000 in
theorem digit_any (x : UInt8) (W : World) : Calls Tryd.prog 39 #[.int .u8 (x.toNat : Int)] W fun e w' => e = .returned (.bool (dgB x)) ∧ W = w' := by
  have HS := Lib.hid (dg_i x)
  generalize x.toNat = y at *
  cases q1 : decide ((48 : Int) ≤ (y : Int)) <;> cases q2 : decide ((y : Int) ≤ 57) <;>
    (have HR := Lib.hid (show dgB x = _ by rw [HS.out, q1, q2])
     clear HS
     go_enter Tryd.func39, Tryd.ntmps39
     go_wp2_with fail
     go_ret
     exact ⟨by rw [HR.out]; rfl, rfl⟩)
set_option maxRecDepth 100000 in
set_option maxHeartbeats 800000 in
theorem inner_any (x : UInt8) (W : World) : Calls Tryd.prog 77 #[.int .u8 (x.toNat : Int)] W fun e w' => e = .returned (.bool (txB x)) ∧ W = w' := by
  have HS := Lib.hid (tx_i x)
  have HB := Lib.hid (fun W => blank_any x W)
  generalize x.toNat = y at *
  cases q0 : spB x <;> cases q1 : decide ((32 : Int) < (y : Int)) <;> cases q2 : decide ((y : Int) < 127) <;> cases q3 : decide ((127 : Int) < (y : Int)) <;>
    (have HR := Lib.hid (show txB x = _ by rw [HS.out, q0, q1, q2, q3])
     have HQ := Lib.hid q0
     clear HS q0
     go_enter Tryd.func77, Tryd.ntmps77
     go_wp2_with fail
     refine (HB.out _).mono ?_
     rintro e w1 ⟨rfl, rfl⟩
     rw [HQ.out]
     go_wp2_with fail
     go_ret
     exact ⟨by rw [HR.out]; rfl, rfl⟩)
theorem eq_byte (a b : UInt8) : ((a.toNat : Int) == (b.toNat : Int)) = (a == b) := by
  rw [Bool.eq_iff_iff, beq_iff_eq, beq_iff_eq]
  exact ⟨fun h => UInt8.toNat_inj.1 (by omega), fun h => by rw [h]⟩
theorem extra_len : (⟨#[126, 33, 64, 36, 37, 94, 38, 42, 95, 45, 43, 61, 60, 62, 46, 63, 47]⟩ : ByteArray).size = 17 := rfl
set_option maxRecDepth 100000 in
set_option maxHeartbeats 1600000 in
theorem letter_any (x : UInt8) (W : World) : Calls Tryd.prog 66 #[.int .u8 (x.toNat : Int)] W fun e w' => e = .returned (.bool (syB x)) ∧ W = w' := by
  obtain ⟨S, hS⟩ : ∃ S : ByteArray, S = ⟨#[126, 33, 64, 36, 37, 94, 38, 42, 95, 45, 43, 61, 60, 62, 46, 63, 47]⟩ := ⟨_, rfl⟩
  have hSs : S.size = 17 := by rw [hS]; rfl
  have hSl : S.data.toList = extraL := by rw [hS]; rfl
  have hdg := Lib.hid (fun W => digit_any x W)
  go_enter Tryd.func66, Tryd.ntmps66
  rw [← hS]
  have HS := Lib.hid hSl
  have HZ := Lib.hid hSs
  clear hS hSl hSs
  go_wp2_with fail
  go_loopg [4] 17 (fun gk s4 wx => ∃ k : Nat, k + gk = 17 ∧ s4 = .int .i64 (k : Int) ∧ Hid (wx = W ∧ ∀ j, j < k → extraL[j]? ≠ some x))
  case atStart => exact ⟨0, by omega, rfl, Lib.hid ⟨rfl, fun j hj => by omega⟩⟩
  case round =>
    obtain ⟨k, hk, rfl, HI⟩ := hrel
    obtain ⟨hwr, hno⟩ := HI.out
    subst hwr
    have HG := Lib.hid hk
    have HNO := Lib.hid hno
    have hk2 : k ≤ S.size := by rw [HZ.out]; omega
    have hk3 : (S.size : Int) ≤ 1000 := by rw [HZ.out]; decide
    clear hk hno HI
    by_cases hlt : k < S.size
    · have hs := str_get' hlt
      have heq : ((S[k].toNat : Int) == (x.toNat : Int)) = (S[k] == x) := eq_byte _ _
      have hk17 : k < 17 := by rw [← HZ.out]; exact hlt
      have hget : extraL[k]? = some S[k] := by rw [← HS.out]; exact hs
      have HGET := Lib.hid hget
      obtain ⟨hz, hz0⟩ := byte_gt (x := S[k])
      clear hs hget
      cases q : (S[k] == x) with
      | true =>
        rw [q] at heq
        have HY := Lib.hid (show syB x = true from sy_extra x (by
          have h1 := List.mem_of_getElem? HGET.out
          rw [eq_of_beq q] at h1
          simpa using h1))
        clear q
        go_wp2_with fail
        go_ret
        exact ⟨by rw [HY.out]; rfl, rfl⟩
      | false =>
        rw [q] at heq
        have HQ := Lib.hid q
        clear q
        go_wp2_with fail
        go_roundg (17 - (k + 1))
        case measure => have := HG.out; omega
        case rel =>
          obtain ⟨k', hk'⟩ : ∃ k', k' = k + 1 := ⟨_, rfl⟩
          refine ⟨k', by omega, by rw [hk']; go_num, Lib.hid ⟨rfl, fun j hj => ?_⟩⟩
          by_cases e : j = k
          · subst e; rw [HGET.out]; intro h; cases h; simpa using HQ.out
          · exact HNO.out j (by omega)
    · have hk17 : k = 17 := by rw [HZ.out] at hlt hk2; omega
      have hne : extraL.contains x = false := by
        rw [Bool.eq_false_iff]; intro h
        obtain ⟨j, hj, e⟩ := List.mem_iff_getElem.1 (List.contains_iff_mem.1 h)
        have hl : extraL.length = 17 := rfl
        exact HNO.out j (by omega) (by rw [List.getElem?_eq_getElem hj, e])
      have HY := Lib.hid (sy_i x hne)
      clear hne
      cases q1 : decide ((97 : Int) ≤ (x.toNat : Int)) <;> cases q2 : decide ((x.toNat : Int) ≤ 122) <;> cases q3 : decide ((65 : Int) ≤ (x.toNat : Int)) <;> cases q4 : decide ((x.toNat : Int) ≤ 90) <;>
        (have HR := Lib.hid (show syB x = _ by rw [HY.out, q1, q2, q3, q4])
         clear HY
         go_wp2_with (go_at_call 39; refine (hdg.out _).mono ?_; rintro e w1 ⟨rfl, rfl⟩)
         go_ret
         exact ⟨by rw [HR.out]; rfl, rfl⟩)
end Go.Proofs.YtlifankiljbdjaaDoor
