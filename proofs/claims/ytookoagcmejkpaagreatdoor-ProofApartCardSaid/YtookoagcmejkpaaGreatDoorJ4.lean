/- Plain mathematics of numerals: the number of a row of digits, and the numeral of a number. What the laws' claims share: the listed tables, and a row's last step. Frames: what a call leaves; a row of t -/
import Derived.Lib.ItoaNum
import Derived.Test.YtookoagcmejkpaaGreatDoorRows
import Derived.ProofKit
import Derived.LaidMore
import Derived.OpenShut
import Derived.Stop.Joined
import Derived.Below
import Derived.ChangeSame
import Derived.Carry
import Derived.Lib.SmallJoins
import Derived.Lib.LaidTab
import Derived.Lay
import Derived.SevenTiedAt
import Derived.Test.YtookoagcmejkpaaGreatDoorTie
import Derived.Test.YtookoagcmejkpaaGreatDoorCards
import Derived.Test.YtookoagcmejkpaaGreatDoorProg
import Derived.WalkKit
import Derived.WalkSpells
import Derived.WalkLawsBesides
import Derived.Outline
import Derived.Lib.Hide
import Derived.Lib.Walk
import Derived.Deep.QuietTactic
import Derived.BigQuiet
import Derived.Maps.AppendAt
import Derived.Laws.Externs
import Derived.Lib.ItoaMem
import Derived.Deep.LoopGhost
import Derived.Laws.BytesArg
import Derived.Laws.IdiomStrings
import Derived.Deep.RegionHeld3
import Derived.Shelf.Strconv.Itoa0
import Derived.Shelf.Strconv.Itoa1
import Derived.Shelf.LaysM
import Derived.Shelf.Strconv.Itoa2
import Derived.Shelf.Strconv.Itoa3
import Derived.Shelf.Strconv.Itoa4
import Derived.Shelf.Strings.Builder1
import Derived.Shelf.Strings.Builder2
import Derived.Shelf.Strings.OnBuilder
import Derived.Shelf.Strings.Search1
import Derived.Shelf.Strings.Trim
import Derived.Shelf.Strings.SlTrimAscii
import Derived.Shelf.Strings.Search2
import Derived.Shelf.Strings.Search3
import Derived.Shelf.Strings.Count
import Derived.Shelf.Strings.Split
import Derived.Shelf.Strings.Replace
namespace Go.Proofs.YtookoagcmejkpaaGreatDoor
set_option maxRecDepth 100000
open Go
def dval (l : List UInt8) : Nat := l.foldl (fun n c => n * 10 + (c.toNat - 48)) 0
theorem dval_snoc (l : List UInt8) (c : UInt8) : dval (l ++ [c]) = dval l * 10 + (c.toNat - 48) := by simp [dval]
def dig (c : UInt8) : Bool := decide (48 ≤ c.toNat) && decide (c.toNat ≤ 57)
def isNum (l : List UInt8) : Bool := !l.isEmpty && !(decide (l.head? = some 48) && decide (1 < l.length)) && l.all dig
def readE (l : List UInt8) : Int := if isNum l = true then (if dval l ≤ 4611686018427387903 then 0 else 6) else 5
def readN (l : List UInt8) : Int := if isNum l = true ∧ dval l ≤ 4611686018427387903 then dval l else 0

theorem dec_all (u : Nat) : (Lib.decDigits u).all dig = true := by
 induction u using Nat.strongRecOn with
 | _ u ih =>
  rw [Lib.decDigits]
  split
  ·rename_i h
   have : (48 + u) % 256 = 48 + u := Nat.mod_eq_of_lt (by omega)
   simp [dig, this]; omega
  ·rename_i h
   have : (48 + u % 10) % 256 = 48 + u % 10 := Nat.mod_eq_of_lt (by omega)
   rw [List.all_append, ih (u / 10) (by omega)]
   simp [dig, this]; omega
theorem dec_ne (u : Nat) : Lib.decDigits u ≠ [] := by
 intro h
 have := Lib.decDigits_length u
 have := Lib.nDigits_pos u
 rw [h] at *
 simp at *
 omega
theorem dec_val (u : Nat) : dval (Lib.decDigits u) = u := by
 induction u using Nat.strongRecOn with
 | _ u ih =>
  rw [Lib.decDigits]
  split
  ·rename_i h
   have : (48 + u) % 256 = 48 + u := Nat.mod_eq_of_lt (by omega)
   simp [dval, this]
  ·rename_i h
   have : (48 + u % 10) % 256 = 48 + u % 10 := Nat.mod_eq_of_lt (by omega)
   rw [dval_snoc, ih (u / 10) (by omega)]
   simp [this]; omega
theorem head_app {m : List UInt8} (x : List UInt8) (h : m ≠ []) : (m ++ x).head? = m.head? := by
 cases m with
 | nil => exact absurd rfl h
 | cons a b => rfl
theorem dec_head (u : Nat) (h : 1 ≤ u) : (Lib.decDigits u).head? ≠ some 48 := by
 induction u using Nat.strongRecOn with
 | _ u ih =>
  rw [Lib.decDigits]
  split
  ·rename_i h'
   have hm : (48 + u) % 256 = 48 + u := Nat.mod_eq_of_lt (by omega)
   simp only [List.head?_cons, ne_eq, Option.some.injEq]
   intro e
   have := congrArg UInt8.toNat e
   simp [hm] at this
   omega
  ·rename_i h'
   rw [head_app _ (dec_ne _)]
   exact ih (u / 10) (by omega) (by omega)
theorem dec_isNum (u : Nat) : isNum (Lib.decDigits u) = true := by
 unfold isNum
 rw [dec_all]
 have h1 : (Lib.decDigits u).isEmpty = false := by simp [dec_ne]
 rw [h1]
 by_cases h : 1 ≤ u
 ·simp [dec_head u h]
 ·have : u = 0 := by omega
  subst this
  rw [Lib.decDigits]; simp
theorem read_itoa_ok (n : Int) (h0 : 0 ≤ n) (h1 : n ≤ 4611686018427387903) : readE (Lib.itoa n) = 0 ∧ readN (Lib.itoa n) = n := by
 have e : Lib.itoa n = Lib.decDigits n.toNat := by unfold Lib.itoa; rw [if_neg (by omega)]
 unfold readE readN
 rw [e, dec_isNum, dec_val]
 simp; omega
end Go.Proofs.YtookoagcmejkpaaGreatDoor
namespace Go.Proofs.YtookoagcmejkpaaGreatDoor
open Go Go.RowKit Go.WideShapes Go.ChangeShapes Go.WideElems
section
variable {H : Type} {enc : TypeId × Value → H} {P : Program}
theorem post_of_below {f : Func} {s : ChangeSpec} {apart fresh handsOn again : Bool} {W W' : World} {args : Array Value} {v : Value} {ds gs : List (DataW H)} {before pa pv : List MemPlace}
  (hW : DataW.Whole enc P f.params.toList s.vars apart W args.toList ds gs before)
  (hres : ∀ (b : Nat) (sp : Nat → Bool) (hd : Bool), DataW.TrodAll enc P W' b sp hd f.resultTypes.toList (v.resultList f.resultTypes.size) (s.fn H (ds ++ gs)).results [])
  (hargs : ∀ sp : Nat → Bool, (∀ p ∈ before, sp p.block = true) → DataW.TrodAll enc P W' 0 sp true f.params.toList args.toList (s.fn H (ds ++ gs)).args pa)
  (hvars : ∀ sp : Nat → Bool, (∀ p ∈ before, sp p.block = true) → DataW.TrodVars enc P W' sp s.vars (s.fn H (ds ++ gs)).vars pv)
  (hps : before = pa ++ pv) (hb : Below W.heap.size W W')
  (hok : ∀ (j : Nat) (t : TypeId) (r : Value), f.resultTypes[j]? = some t → (v.resultList f.resultTypes.size)[j]? = some r → Value.okWide P W' .any 0 t r) :
  s.post enc P f apart fresh handsOn again W args v W' := by
 have hlt : ∀ p ∈ before, p.block < W.heap.size := fun p hp => hW.lt p hp
 have hold : ∀ p ∈ before, (fun b => decide (b < W.heap.size)) p.block = true := fun p hp => by simpa using hlt p hp
 refine ⟨ds, gs, before, [], pa, pv, hW, hres _ _ _, hargs _ hold, hvars _ hold, World.keptBut_mono (fun p hp => ⟨hp, ?_⟩) (hb.frame (· ∈ before)), fun _ => ?_⟩
 ·rw [hps, List.mem_append] at hp
  exact Or.inr hp
 ·obtain ⟨_, _, _, _, _, hz, hn⟩ := hW
  refine ⟨hok, _, _, ([] ++ pa) ++ pv, ⟨[] ++ pa, pv, trodAll_append (hargs _ (fun _ _ => rfl)) (hres _ _ _), hvars _ (fun _ _ => rfl), rfl, ?_, ?_⟩, ?_⟩
  ·intro b off hp
   have hin : MemPlace.cell b off ∈ before := by rw [hps]; simpa using hp
   rw [hb.frozen (hlt _ hin)]
   exact hz b off hin
  ·intro ha
   have := hn ha
   rw [hps] at this
   simpa using this
  ·intro p hp _
   rw [hps]
   simpa using hp
end
theorem own : ownKnob Tryz.prog.godebug = none := by kernel_rfl
theorem laid : laidOutB Tryz.prog = true := by kernel_rfl

theorem trodAll_stays {H : Type} {enc : TypeId × Value → H} {W W' : World} {sp : Nat → Bool} : ∀ (ts : List TypeId) (vs : List Value) (ds : List (DataW H)) (ps : List MemPlace),
  DataW.TrodAll enc Tryz.prog W 0 (fun _ => true) true ts vs ds ps → (∀ t ∈ ts, Tryz.prog.readableRec t = true ∧ t < Tryz.prog.types.size) → Below W.heap.size W W' → (∀ p ∈ ps, p.block < W.heap.size) → (∀ p ∈ ps, sp p.block = true) →
  DataW.TrodAll enc Tryz.prog W' 0 sp true ts vs ds ps := by
 intro ts
 induction ts with
 | nil =>
  intro vs ds ps h _ _ _ _
  obtain ⟨rfl, rfl, rfl⟩ := trodAll_nil h
  exact trodAll_mk0
 | cons t ts ih =>
  intro vs ds ps h ht hb hlt hsp
  obtain ⟨v, vs', d, ds', p, q, rfl, rfl, rfl, h0, h1⟩ := trodAll_cons h
  have k := ht t (by simp)
  exact ⟨p, q, Trod_stays laid k.1 k.2 h0 (fun x hx => hb.same (hlt x (by simp [hx]))) (fun x hx => hsp x (by simp [hx])), ih vs' ds' q h1 (fun t' h' => ht t' (by simp [h'])) hb (fun x hx => hlt x (by simp [hx])) (fun x hx => hsp x (by simp [hx])), rfl⟩
theorem gPow : Tryz.prog.globalNamed "internal/strconv.uint64pow10" = some 1 := by kernel_rfl
theorem tPow : (Tryz.prog.globals[1]?).map (·.type) = some 188 := by kernel_rfl
theorem cells173k : Tryz.prog.cellsOf 173 = 1 := by kernel_rfl
theorem cells188k : Tryz.prog.cellsOf 188 = 20 := by kernel_rfl
def listed : List (String × DataW Unit) := [("math/bits.deBruijn32tab", Rows.laid_math_bits_deBruijn32tab), ("math/bits.deBruijn64tab", Rows.laid_math_bits_deBruijn64tab), ("internal/strconv.uint64pow10", Rows.laid_internal_strconv_uint64pow10), ("unicode/utf8.acceptRanges", Rows.laid_unicode_utf8_acceptRanges), ("unicode/utf8.first", Rows.laid_unicode_utf8_first)]
theorem tab_of {W : World} (h : laidMetH Tryz.prog listed W) : Lib.TabIs Tryz.prog W "internal/strconv.uint64pow10" .u64 Lib.pow10Tab := by
 rw [MakeChecks.laidMetH_plain _ _ _ (by kernel_rfl)] at h
 obtain ⟨ps, ⟨g0, t0, cs0, f0, p0, q0, hg0, ht0, hv0, hd0, ⟨g1, t1, cs1, f1, p1, q1, hg1, ht1, hv1, hd1, ⟨g2, t2, cs2, f2, p2, q2, hg2, ht2, hvar, hd, _, _⟩, _⟩, _⟩, _, _⟩ := h
 obtain rfl := Option.some.inj (gPow.symm.trans hg2)
 obtain rfl := Option.some.inj (tPow.symm.trans ht2)
 unfold Lib.TabIs
 rw [hvar, ← Lib.cells_of_tab (zs := Lib.pow10Tab) Tryz.underlying188 Tryz.underlying173 cells173k cells188k hd]
end Go.Proofs.YtookoagcmejkpaaGreatDoor
namespace Go.Proofs.YtookoagcmejkpaaGreatDoor
open Go Go.RowKit
theorem cell_later {W W' : World} (hb : Below W.heap.size W W') {a : Addr} {v : Value} (h : W.cell? a = some v) : W'.cell? a = some v := by
 rw [← h]
 exact hb.cell (World.block_lt_of_cell? W a h)
theorem below1 (w : World) (o1 : Obj) : Below w.heap.size w (w.alloc o1) := (Below.refl _ _).alloc (Nat.le_refl _) _
theorem below_drewN (w : World) (n : Nat) : Below w.heap.size w (w.drewN n) := ⟨rfl, rfl, rfl, Nat.le_refl _, fun _ _ => rfl⟩
theorem bdd {B : Nat} {w w' : World} {n : Nat} (h : Below B w w') : Below B w (w'.drewN n) := ⟨h.os, h.tape, h.output, h.size, h.block⟩
theorem below_drew (w : World) : Below w.heap.size w w.drew := ⟨rfl, rfl, rfl, Nat.le_refl _, fun _ _ => rfl⟩
structure Only (T : Nat → Prop) (w w' : World) : Prop where
 os : w'.os = w.os
 tape : w'.tape = w.tape
 output : w'.output = w.output
 size : w.heap.size ≤ w'.heap.size
 block : ∀ k, k < w.heap.size → ¬ T k → w'.heap[k]? = w.heap[k]?
theorem Only.refl (T : Nat → Prop) (w : World) : Only T w w := ⟨rfl, rfl, rfl, Nat.le_refl _, fun _ _ _ => rfl⟩
theorem Only.trans {T : Nat → Prop} {a b c : World} (h : Only T a b) (k : Only T b c) : Only T a c :=
 ⟨k.os.trans h.os, k.tape.trans h.tape, k.output.trans h.output, Nat.le_trans h.size k.size, fun i hi hn => (k.block i (Nat.lt_of_lt_of_le hi h.size) hn).trans (h.block i hi hn)⟩
theorem Only.mono {T T' : Nat → Prop} {w w' : World} (h : Only T w w') (hT : ∀ k, k < w.heap.size → T k → T' k) : Only T' w w' := ⟨h.os, h.tape, h.output, h.size, fun k hk hn => h.block k hk (fun ht => hn (hT k hk ht))⟩
theorem Only.of_below {T : Nat → Prop} {w w' : World} (h : Below w.heap.size w w') : Only T w w' := ⟨h.os, h.tape, h.output, h.size, fun k hk _ => h.block k hk⟩
theorem Only.below {T : Nat → Prop} {B : Nat} {w w' : World} (h : Only T w w') (hT : ∀ k, T k → B ≤ k) (hB : B ≤ w.heap.size) : Below B w w' := ⟨h.os, h.tape, h.output, h.size, fun k hk => h.block k (Nat.lt_of_lt_of_le hk hB) (fun ht => by have := hT k ht; omega)⟩
theorem Only.of_grown {w w' : World} {row : Option Nat} (h : w.grownBy w' row) : Only (fun k => row = some k) w w' := ⟨h.os, h.tape, h.output, h.size, fun k hk hn => h.block k hk (fun e => hn e.symm)⟩
theorem Only.of_setCell (w : World) (a : Addr) (u : Value) : Only (fun k => k = a.block) w (w.setCell a u) := by
 refine ⟨rfl, rfl, rfl, by simp, fun k hk hn => Below.heap_setCell w a u k hn⟩
theorem Only.new {T : Nat → Prop} {w w2 : World} (h : Only T w w2) {b o : Nat} {v : Value} (hb : w.heap.size ≤ b) : Only T w (w2.setCell ⟨b, o, none⟩ v) :=
 ⟨h.os, h.tape, h.output, by rw [World.size_setCell]; exact h.size, fun k hk hn => by rw [Below.heap_setCell w2 ⟨b, o, none⟩ v k (by show k ≠ b; omega)]; exact h.block k hk hn⟩
theorem Only.transNew {T T' : Nat → Prop} {w w2 w3 : World} (h : Only T w w2) (k : Only T' w2 w3) (hT : ∀ j, T' j → w.heap.size ≤ j) : Only T w w3 :=
 ⟨k.os.trans h.os, k.tape.trans h.tape, k.output.trans h.output, Nat.le_trans h.size k.size, fun i hi hn => (k.block i (Nat.lt_of_lt_of_le hi h.size) (fun e => by have := hT i e; omega)).trans (h.block i hi hn)⟩
theorem Only.cell {T : Nat → Prop} {w w' : World} (h : Only T w w') {a : Addr} {v : Value} (hc : w.cell? a = some v) (hn : ¬ T a.block) : w'.cell? a = some v := by
 rw [← hc]
 exact World.cell?_of_block (w := w) (h.block a.block (World.block_lt_of_cell? w a hc) hn)
theorem Only.frozen {T : Nat → Prop} {w w' : World} (h : Only T w w') {a : Addr} (hl : a.block < w.heap.size) (hn : ¬ T a.block) : w'.frozen? a = w.frozen? a :=
 World.frozen?_of_block (w := w) (h.block a.block hl hn)
theorem own_block {w w' : World} {base n : Nat} {e : TypeId} {size : Nat} {v : Value} {xs : List Value} (h : w.ownsRow base e size v n xs) (hk : ∀ k, v.ownBlock = some k → k < w.heap.size → w'.heap[k]? = w.heap[k]?) : w'.ownsRow base e size v n xs := by
 rcases h with ⟨h0, ⟨h1, h2⟩ | ⟨g, cap, cur, rfl, hg, hh, hc⟩⟩
 ·exact ⟨h0, .inl ⟨h1, h2⟩⟩
 ·refine ⟨h0, .inr ⟨g, cap, cur, rfl, hg, ?_, hc⟩⟩
  rw [← hh]
  exact hk g rfl (by
   rcases Nat.lt_or_ge g w.heap.size with h | h
   ·exact h
   ·rw [Array.getElem?_eq_none h] at hh; cases hh)
theorem own_only {T : Nat → Prop} {w w' : World} {base n : Nat} {e : TypeId} {size : Nat} {v : Value} {xs : List Value} (h : w.ownsRow base e size v n xs) (ho : Only T w w') (hn : ∀ k, v.ownBlock = some k → ¬ T k) : w'.ownsRow base e size v n xs :=
 own_block h (fun k hk hl => ho.block k hl (hn k hk))
theorem own_later {w w' : World} {base n : Nat} {e : TypeId} {size : Nat} {v : Value} {xs : List Value} (h : w.ownsRow base e size v n xs) (hb : Below w.heap.size w w') : w'.ownsRow base e size v n xs :=
 own_block h (fun k _ hl => hb.block k hl)
theorem own_lt {w : World} {base n : Nat} {e : TypeId} {size : Nat} {v : Value} {xs : List Value} (h : w.ownsRow base e size v n xs) {k : Nat} (hk : v.ownBlock = some k) : base ≤ k ∧ k < w.heap.size := World.ownsRow.lt h k hk
theorem own_shape {w : World} {base n : Nat} {e : TypeId} {size : Nat} {v : Value} {xs : List Value} (h : w.ownsRow base e size v n xs) : ∃ (p : Option Addr) (c : Nat), v = .slice p n c ∧ (∀ ad, p = some ad → ad = ⟨ad.block, 0, none⟩ ∧ base ≤ ad.block) := by
 rcases h.2 with ⟨rfl, rfl⟩ | ⟨g, cap, cur, rfl, hg, _⟩
 ·exact ⟨none, 0, rfl, fun ad h => by cases h⟩
 ·exact ⟨some ⟨g, 0, none⟩, cap, rfl, fun ad h => by cases h; exact ⟨rfl, hg⟩⟩
theorem info_of {e : TypeId} {z : Value} {s b : Nat} (h : (Tryz.prog.info? e).map (fun i => (i.zero, i.size, i.bytes)) = some (some z, s, b)) : ∃ i0, Tryz.prog.info? e = some i0 ∧ i0.zero = some z ∧ i0.size = s ∧ i0.bytes = b := by
 obtain ⟨i, hi, hb⟩ := Option.map_eq_some_iff.1 h
 simp only [Prod.mk.injEq] at hb
 exact ⟨i, hi, hb.1, hb.2.1, hb.2.2⟩

def BytesIn (W : World) (p : Option Addr) (bs : List UInt8) : Prop := ∀ i (h : i < bs.length), ∃ b off, p = some ⟨b, off, none⟩ ∧ W.cell? ⟨b, off + i, none⟩ = some (.int .u8 (bs[i].toNat : Int))
theorem BytesIn.only {W W' : World} {p : Option Addr} {bs : List UInt8} {T : Nat → Prop} (h : BytesIn W p bs) (ho : Only T W W') (hn : 0 < bs.length → ∀ b off, p = some ⟨b, off, none⟩ → ¬ T b) : BytesIn W' p bs := fun i hi => by
 obtain ⟨b, off, e, hc⟩ := h i hi
 exact ⟨b, off, e, ho.cell hc (hn (by omega) b off e)⟩
theorem BytesIn.lt {W : World} {p : Option Addr} {bs : List UInt8} (h : BytesIn W p bs) (h0 : 0 < bs.length) : ∀ b off, p = some ⟨b, off, none⟩ → b < W.heap.size := fun b off e => by
 obtain ⟨b', off', e', hc⟩ := h 0 h0
 rw [e] at e'; cases e'
 exact World.block_lt_of_cell? W _ hc
theorem BytesIn.later {W W' : World} {p : Option Addr} {bs : List UInt8} (h : BytesIn W p bs) (hb : Below W.heap.size W W') : BytesIn W' p bs := fun i hi => by
 obtain ⟨b, off, e, hc⟩ := h i hi
 exact ⟨b, off, e, cell_later hb hc⟩
theorem info5 : ∃ i0, Tryz.prog.info? 5 = some i0 ∧ i0.zero = some (.int .u8 0) ∧ i0.size = 1 ∧ i0.bytes = 1 := info_of (by kernel_rfl)
theorem slice_conv (W : World) (p : Option Addr) (bs : List UInt8) (c lo hi : Nat) (hb : BytesIn W p bs) (h1 : lo ≤ hi) (h2 : hi ≤ bs.length) (h3 : bs.length ≤ c) :
  ∃ V, (∀ w, (Instr.slice 57 (.slice p bs.length c) (some (.int .i64 (lo : Int))) (some (.int .i64 (hi : Int))) none).run Tryz.prog w = .ok V w) ∧ (∀ W', Below W.heap.size W W' → (convert 57 9 V).run Tryz.prog W' = .ok (.string ⟨((bs.drop lo).take (hi - lo)).toArray⟩) W') := by
 obtain ⟨i5, hi5, _, hs5, _⟩ := info5
 have e1 : (0 : Int) ≤ (lo : Int) := by omega
 have e2 : (lo : Int) ≤ (hi : Int) := by omega
 have e3 : (hi : Int) ≤ (c : Int) := by omega
 have e4 : (0 : Int) ≤ (hi : Int) := by omega
 have e5 : hi ≤ c := by omega
 refine ⟨sliced p lo hi c 1, fun w => ?_, ?_⟩
 ·simp [Instr.slice, run_underlying Tryz.underlying57, Instr.sliceBounds, Instr.sliceBound, asIntOf, sizeOf, typeInfo, hi5, hs5, e1, e4, e5, h1, sliced]
 ·intro W2 hw2
  replace hb := hb.later hw2
  have hl : ((bs.drop lo).take (hi - lo)).length = hi - lo := by simp; omega
  unfold sliced
  rw [Nat.mul_one]
  by_cases hlt : lo < hi
  ·obtain ⟨b, off, rfl, _⟩ := hb lo (by omega)
   rw [if_neg (by omega)]
   have key := run_convert_bytes_back (P := Tryz.prog) W2 57 9 5 ((⟨b, off, none⟩ : Addr).add lo) (c - lo) ((bs.drop lo).take (hi - lo)) Tryz.underlying57 Tryz.underlying5 Tryz.underlying9 (fun j hj => ?_)
   ·rw [hl] at key; exact key
   obtain ⟨b2, off2, e, hc⟩ := hb (lo + j) (by omega)
   cases e
   have ea : ((⟨b, off, none⟩ : Addr).add lo).add j = ⟨b, off + (lo + j), none⟩ := by rw [Lib.add_plain, Lib.add_plain, Nat.add_assoc]
   rw [ea, hc]
   simp
  ·have hz : hi - lo = 0 := by omega
   rw [hz]
   have ht : ((bs.drop lo).take 0) = [] := by simp
   rw [ht]
   generalize (if c = lo then p else p.map (·.add lo)) = q
   cases q with
   | none => exact run_convert_bytes_nil W2 57 5 Tryz.underlying57 Tryz.underlying5 0 _ 9 Tryz.underlying9
   | some a => exact run_convert_bytes_back W2 57 9 5 a _ [] Tryz.underlying57 Tryz.underlying5 Tryz.underlying9 fun j hj => by simp at hj
theorem wrap64_eq (x : Int) : wrap64 x = (x + 9223372036854775808) % 18446744073709551616 - 9223372036854775808 := by
 simp only [wrap64]
def IntsIn (W : World) (p : Option Addr) (c : List Int) : Prop := ∀ i (h : i < c.length), ∃ b off, p = some ⟨b, off, none⟩ ∧ W.cell? ⟨b, off + i, none⟩ = some (.int .i64 c[i])
theorem IntsIn.later {W W' : World} {p : Option Addr} {c : List Int} (h : IntsIn W p c) (hb : Below W.heap.size W W') : IntsIn W' p c := fun i hi => by
 obtain ⟨b, off, e, hc⟩ := h i hi
 exact ⟨b, off, e, cell_later hb hc⟩
structure Lk where
 k : Int
 lit : Int
 a : Int
 b : Int
 i : Int
 j : Int
 l : List Int
deriving DecidableEq
structure Stp where
 k : Int
 lits : List Int
 links : List Lk
 a : Int
 b : Int
deriving DecidableEq
def lkV (x : Lk) (q : Option Addr) (c : Nat) : Value := .agg #[.int .u8 x.k, .int .i64 x.lit, .int .i64 x.a, .int .i64 x.b, .int .i64 x.i, .int .i64 x.j, .slice q x.l.length c]
def stV (x : Stp) (p : Option Addr) (c : Nat) (q : Option Addr) (d : Nat) : Value := .agg #[.int .u8 x.k, .slice p x.lits.length c, .slice q x.links.length d, .int .i64 x.a, .int .i64 x.b]
def LksIn (W : World) (p : Option Addr) (l : List Lk) : Prop := ∀ i (h : i < l.length), ∃ b off, p = some ⟨b, off, none⟩ ∧ W.cell? ⟨b, off + i * 7, none⟩ = some (.int .u8 l[i].k) ∧ W.cell? ⟨b, off + i * 7 + 1, none⟩ = some (.int .i64 l[i].lit) ∧ W.cell? ⟨b, off + i * 7 + 2, none⟩ = some (.int .i64 l[i].a) ∧
 W.cell? ⟨b, off + i * 7 + 3, none⟩ = some (.int .i64 l[i].b) ∧ W.cell? ⟨b, off + i * 7 + 4, none⟩ = some (.int .i64 l[i].i) ∧ W.cell? ⟨b, off + i * 7 + 5, none⟩ = some (.int .i64 l[i].j) ∧
 ∃ q c, W.cell? ⟨b, off + i * 7 + 6, none⟩ = some (.slice q l[i].l.length c) ∧ IntsIn W q l[i].l ∧ l[i].l.length ≤ c ∧ c ≤ 9223372036854775807
theorem LksIn.later {W W' : World} {p : Option Addr} {l : List Lk} (h : LksIn W p l) (hb : Below W.heap.size W W') : LksIn W' p l := fun i hi => by
 obtain ⟨b, off, e, h0, h1, h2, h3, h4, h5, q, c, h6, h7, h8⟩ := h i hi
 exact ⟨b, off, e, cell_later hb h0, cell_later hb h1, cell_later hb h2, cell_later hb h3, cell_later hb h4, cell_later hb h5, q, c, cell_later hb h6, h7.later hb, h8⟩
structure LkAt (W : World) (B : Nat) (x : Lk) (q : Option Addr) (c : Nat) : Prop where
 c0 : W.cell? ⟨B, 0, none⟩ = some (.int .u8 x.k)
 c1 : W.cell? ⟨B, 1, none⟩ = some (.int .i64 x.lit)
 c2 : W.cell? ⟨B, 2, none⟩ = some (.int .i64 x.a)
 c3 : W.cell? ⟨B, 3, none⟩ = some (.int .i64 x.b)
 c4 : W.cell? ⟨B, 4, none⟩ = some (.int .i64 x.i)
 c5 : W.cell? ⟨B, 5, none⟩ = some (.int .i64 x.j)
 c6 : W.cell? ⟨B, 6, none⟩ = some (.slice q x.l.length c)
theorem LkAt.later {W W' : World} {B : Nat} {x : Lk} {q : Option Addr} {c : Nat} (h : LkAt W B x q c) (hb : Below W.heap.size W W') : LkAt W' B x q c :=
 ⟨cell_later hb h.c0, cell_later hb h.c1, cell_later hb h.c2, cell_later hb h.c3, cell_later hb h.c4, cell_later hb h.c5, cell_later hb h.c6⟩
structure StAt (W : World) (B : Nat) (x : Stp) (p : Option Addr) (c : Nat) (q : Option Addr) (d : Nat) : Prop where
 c0 : W.cell? ⟨B, 0, none⟩ = some (.int .u8 x.k)
 c1 : W.cell? ⟨B, 1, none⟩ = some (.slice p x.lits.length c)
 c2 : W.cell? ⟨B, 2, none⟩ = some (.slice q x.links.length d)
 c3 : W.cell? ⟨B, 3, none⟩ = some (.int .i64 x.a)
 c4 : W.cell? ⟨B, 4, none⟩ = some (.int .i64 x.b)
theorem StAt.later {W W' : World} {B : Nat} {x : Stp} {p : Option Addr} {c : Nat} {q : Option Addr} {d : Nat} (h : StAt W B x p c q d) (hb : Below W.heap.size W W') : StAt W' B x p c q d :=
 ⟨cell_later hb h.c0, cell_later hb h.c1, cell_later hb h.c2, cell_later hb h.c3, cell_later hb h.c4⟩
def litB (x : Int) : Bool := decide (x ≠ 0) && decide (-4611686018427387903 ≤ x) && decide (x ≤ 4611686018427387903)
def cntB (x : Int) : Bool := decide (0 ≤ x) && decide (x ≤ 4611686018427387903)
def fldL (has : Bool) (x : Int) : Bool := if has then litB x else decide (x = 0)
def fldC (has : Bool) (x : Int) : Bool := if has then cntB x else decide (x = 0)
structure Fm where
 lit : Bool
 a : Bool
 b : Bool
 i : Bool
 j : Bool
 list : Bool
def fmL : Int → Option Fm
 | 1 => some ⟨true, false, false, false, false, false⟩
 | 2 => some ⟨false, true, false, false, false, false⟩
 | 3 => some ⟨false, false, false, true, false, false⟩
 | 4 => some ⟨false, false, false, true, true, false⟩
 | 5 => some ⟨false, true, true, false, false, true⟩
 | 6 => some ⟨true, false, false, true, false, false⟩
 | 7 => some ⟨false, false, false, true, false, false⟩
 | _ => none
def mayLk (x : Lk) : Bool := match fmL x.k with
 | none => false
 | some f => decide (x.l.length ≤ 20) && (f.list || decide (x.l.length = 0)) && fldL f.lit x.lit && x.l.all cntB && fldC f.a x.a && fldC f.b x.b && fldC f.i x.i && fldC f.j x.j
def maySt (x : Stp) : Bool :=
 if x.k = 1 ∨ x.k = 3 then decide (x.lits.length ≤ 5000) && x.lits.all litB && decide (x.links.length = 0) && decide (x.a = 0) && decide (x.b = 0)
 else if x.k = 2 then decide (x.lits.length = 0) && decide (x.links.length ≤ 20000) && x.links.all mayLk && decide (x.a = 0) && decide (x.b = 0)
 else if x.k = 4 then decide (x.lits.length = 0) && decide (x.links.length = 0) && cntB x.a && cntB x.b
 else false
theorem succ_wrap {k n : Nat} (h : k < n) (hn : n ≤ 9223372036854775807) : wrap64 ((k : Int) + 1) = ((k + 1 : Nat) : Int) := by rw [wrap64_eq]; omega
theorem step_ok {k n : Nat} (h : k < n) (hn : n ≤ 9223372036854775807) : k + 1 ≤ n ∧ n - (k + 1) < n - k ∧ wrap64 ((k : Int) + 1) = ((k + 1 : Nat) : Int) :=
 ⟨Nat.succ_le_of_lt h, Nat.sub_lt_sub_left h (Nat.lt_succ_self k), succ_wrap h hn⟩
theorem beqd (x y : Int) : (x == y) = decide (x = y) := by by_cases h : x = y <;> simp [h]
theorem index34 (h : Bool) (x : Int) (w : World) : Calls Tryz.prog 34 #[.bool h, .int .i64 x] w fun e w' => e = .returned (.bool (fldC h x)) ∧ w' = w := by
 cases h with
 | false =>
  go_enter Tryz.func34, Tryz.ntmps34
  go_wp2_with fail
  refine bodyPost_ret (v := .bool _) (by simp [results, Tryz.results34, go_sem]; rfl) rfl ⟨?_, rfl⟩
  simp [fldC, beqd]
 | true =>
  by_cases h0 : 0 ≤ x
  ·go_enter Tryz.func34, Tryz.ntmps34
   go_wp2_with fail
   refine bodyPost_ret (v := .bool _) (by simp [results, Tryz.results34, go_sem]; rfl) rfl ⟨?_, rfl⟩
   simp [fldC, cntB, h0]
  ·have h1 : x < 0 := by omega
   go_enter Tryz.func34, Tryz.ntmps34
   go_wp2_with fail
   refine bodyPost_ret (v := .bool _) (by simp [results, Tryz.results34, go_sem]; rfl) rfl ⟨?_, rfl⟩
   simp [fldC, cntB]
   omega
theorem lit37 (h : Bool) (x : Int) (w : World) : Calls Tryz.prog 37 #[.bool h, .int .i64 x] w fun e w' => e = .returned (.bool (fldL h x)) ∧ w' = w := by
 cases h with
 | false =>
  go_enter Tryz.func37, Tryz.ntmps37
  go_wp2_with fail
  refine bodyPost_ret (v := .bool _) (by simp [results, Tryz.results37, go_sem]; rfl) rfl ⟨?_, rfl⟩
  simp [fldL, beqd]
 | true =>
  by_cases h0 : x = 0
  ·subst h0
   go_enter Tryz.func37, Tryz.ntmps37
   go_wp2_with fail
   exact bodyPost_ret (v := .bool _) (by simp [results, Tryz.results37, go_sem]; rfl) rfl ⟨by simp [fldL, litB], rfl⟩
  have e0 : (x == 0) = false := by simp [h0]
  by_cases h1 : -4611686018427387903 ≤ x
  ·go_enter Tryz.func37, Tryz.ntmps37
   go_wp2_with fail
   refine bodyPost_ret (v := .bool _) (by simp [results, Tryz.results37, go_sem]; rfl) rfl ⟨?_, rfl⟩
   simp [fldL, litB, h0, h1]
  ·have h2 : x < -4611686018427387903 := by omega
   go_enter Tryz.func37, Tryz.ntmps37
   go_wp2_with fail
   refine bodyPost_ret (v := .bool _) (by simp [results, Tryz.results37, go_sem]; rfl) rfl ⟨?_, rfl⟩
   simp [fldL, litB, h0]
   omega
set_option maxRecDepth 100000
theorem fn36 (x : Int) (w : World) : Calls Tryz.prog 36 #[.int .i64 x] w fun e w' => e = .returned (.bool (!(litB x))) ∧ w' = w := by
 have H := Lib.hid (show Calls Tryz.prog 37 #[.bool true, .int .i64 x] w (fun e w' => e = .returned (.bool (litB x)) ∧ w' = w) from lit37 true x w)
 go_enter Tryz.func36, Tryz.ntmps36
 go_wp2_with fail
 refine H.out.mono ?_
 rintro e w1 ⟨rfl, rfl⟩
 go_wp2_with fail
 exact bodyPost_ret (v := .bool (!(litB x))) (by simp [results, Tryz.results36, go_sem]) rfl ⟨rfl, rfl⟩
theorem fn72 (x : Int) (w : World) : Calls Tryz.prog 72 #[.int .i64 x] w fun e w' => e = .returned (.bool (!(cntB x))) ∧ w' = w := by
 have H := Lib.hid (show Calls Tryz.prog 34 #[.bool true, .int .i64 x] w (fun e w' => e = .returned (.bool (cntB x)) ∧ w' = w) from index34 true x w)
 go_enter Tryz.func72, Tryz.ntmps72
 go_wp2_with fail
 refine H.out.mono ?_
 rintro e w1 ⟨rfl, rfl⟩
 go_wp2_with fail
 exact bodyPost_ret (v := .bool (!(cntB x))) (by simp [results, Tryz.results72, go_sem]) rfl ⟨rfl, rfl⟩
theorem index69 (p : Option Addr) (c n : Nat) (xs : List Int) (W : World) (h : IntsIn W p xs) (hl : xs.length = n) (hn : n ≤ 9223372036854775807) :
  Calls Tryz.prog 69 #[.slice p n c, .func (.func 36) #[] #[]] W fun e w' => (∃ r : Int, e = .returned (.int .i64 r) ∧ decide (0 ≤ r) = !(xs.all litB)) ∧ w' = W := by
 have H := Lib.hid h
 have HL := Lib.hid hl
 clear h hl
 have n1 : (n : Int) ≤ 9223372036854775807 := by omega
 go_enter Tryz.func69, Tryz.ntmps69
 go_wp2_with fail
 go_loopw [8] (fun x wr => ∃ k : Nat, k ≤ n ∧ x = .int .i64 (k : Int) ∧ Hid ((xs.take k).all litB = true) ∧ wr = W) (fun x _ => n - (intOf x).toNat)
 case atStart => exact ⟨0, Nat.zero_le _, rfl, Lib.hid (by simp), rfl⟩
 case round =>
  obtain ⟨k, hk, rfl, HT, rfl⟩ := hrel
  have k0 : (0 : Int) ≤ (k : Int) := Int.natCast_nonneg k
  by_cases hlt : k < n
  ·have k1 : (k : Int) < (n : Int) := Int.ofNat_lt.2 hlt
   have hkl : k < xs.length := by rw [HL.out]; exact hlt
   obtain ⟨b, off, rfl, hc⟩ := H.out k hkl
   have HS := Lib.hid (step_ok hlt hn)
   obtain ⟨x, hx⟩ : ∃ x, x = xs[k] := ⟨_, rfl⟩
   have HX := Lib.hid (show xs.take (k + 1) = xs.take k ++ [x] from by rw [hx, List.take_add_one, List.getElem?_eq_getElem hkl]; rfl)
   have HM := Lib.hid (show x ∈ xs from by rw [hx]; exact List.getElem_mem hkl)
   rw [← hx] at hc
   clear hx hkl
   have HF := Lib.hid (fn36 x wr)
   obtain ⟨b0, hb0⟩ : ∃ b0, b0 = litB x := ⟨_, rfl⟩
   have HB := Lib.hid hb0
   rw [← hb0] at HF
   clear hb0
   go_wp2_with fail
   refine HF.out.mono ?_
   rintro e w1 ⟨rfl, rfl⟩
   cases b0 with
   | false =>
    go_wp2_with fail
    refine bodyPost_ret (v := .int .i64 (k : Int)) (by simp [results, Tryz.results69, go_sem]) rfl ⟨⟨_, rfl, ?_⟩, rfl⟩
    have h1 := HM.out
    have h2 := HB.out
    have h3 : xs.all litB = false := by rw [List.all_eq_false]; exact ⟨x, h1, by rw [← h2]; decide⟩
    rw [h3]
    simp
   | true =>
    go_wp2_with fail
    refine ⟨⟨k + 1, HS.out.1, by first | rfl | rw [HS.out.2.2], Lib.hid (by rw [HX.out, List.all_append, HT.out]; simp [HB.out.symm]), trivial⟩, ?_⟩
    first | rw [HS.out.2.2] | skip
    simp only [intOf, Int.toNat_natCast]
    exact HS.out.2.1
  ·obtain rfl : n = k := (Nat.le_antisymm hk (Nat.le_of_not_lt hlt)).symm
   clear hlt hk
   go_wp2_with fail
   refine bodyPost_ret (v := .int .i64 (-1)) (by simp [results, Tryz.results69, go_sem]) rfl ⟨⟨_, rfl, ?_⟩, rfl⟩
   have h1 := HT.out
   rw [List.take_of_length_le (by rw [HL.out]; exact Nat.le_refl _)] at h1
   rw [h1]
   rfl
theorem contains35 (p : Option Addr) (c n : Nat) (xs : List Int) (W : World) (h : IntsIn W p xs) (hl : xs.length = n) (hn : n ≤ 9223372036854775807) :
  Calls Tryz.prog 35 #[.slice p n c, .func (.func 36) #[] #[]] W fun e w' => e = .returned (.bool (!(xs.all litB))) ∧ w' = W := by
 have H := Lib.hid (index69 p c n xs W h hl hn)
 clear h hl
 go_enter Tryz.func35, Tryz.ntmps35
 go_wp2_with fail
 refine H.out.mono ?_
 rintro e w1 ⟨⟨r, rfl, hr⟩, rfl⟩
 have HR := Lib.hid hr
 clear hr
 go_wp2_with fail
 exact bodyPost_ret (v := .bool (decide (0 ≤ r))) (by simp [results, Tryz.results35, go_sem]) rfl ⟨by rw [HR.out], rfl⟩
theorem index96 (p : Option Addr) (c n : Nat) (xs : List Int) (W : World) (h : IntsIn W p xs) (hl : xs.length = n) (hn : n ≤ 9223372036854775807) :
  Calls Tryz.prog 96 #[.slice p n c, .func (.func 72) #[] #[]] W fun e w' => (∃ r : Int, e = .returned (.int .i64 r) ∧ decide (0 ≤ r) = !(xs.all cntB)) ∧ w' = W := by
 have H := Lib.hid h
 have HL := Lib.hid hl
 clear h hl
 have n1 : (n : Int) ≤ 9223372036854775807 := by omega
 go_enter Tryz.func96, Tryz.ntmps96
 go_wp2_with fail
 go_loopw [8] (fun x wr => ∃ k : Nat, k ≤ n ∧ x = .int .i64 (k : Int) ∧ Hid ((xs.take k).all cntB = true) ∧ wr = W) (fun x _ => n - (intOf x).toNat)
 case atStart => exact ⟨0, Nat.zero_le _, rfl, Lib.hid (by simp), rfl⟩
 case round =>
  obtain ⟨k, hk, rfl, HT, rfl⟩ := hrel
  have k0 : (0 : Int) ≤ (k : Int) := Int.natCast_nonneg k
  by_cases hlt : k < n
  ·have k1 : (k : Int) < (n : Int) := Int.ofNat_lt.2 hlt
   have hkl : k < xs.length := by rw [HL.out]; exact hlt
   obtain ⟨b, off, rfl, hc⟩ := H.out k hkl
   have HS := Lib.hid (step_ok hlt hn)
   obtain ⟨x, hx⟩ : ∃ x, x = xs[k] := ⟨_, rfl⟩
   have HX := Lib.hid (show xs.take (k + 1) = xs.take k ++ [x] from by rw [hx, List.take_add_one, List.getElem?_eq_getElem hkl]; rfl)
   have HM := Lib.hid (show x ∈ xs from by rw [hx]; exact List.getElem_mem hkl)
   rw [← hx] at hc
   clear hx hkl
   have HF := Lib.hid (fn72 x wr)
   obtain ⟨b0, hb0⟩ : ∃ b0, b0 = cntB x := ⟨_, rfl⟩
   have HB := Lib.hid hb0
   rw [← hb0] at HF
   clear hb0
   go_wp2_with fail
   refine HF.out.mono ?_
   rintro e w1 ⟨rfl, rfl⟩
   cases b0 with
   | false =>
    go_wp2_with fail
    refine bodyPost_ret (v := .int .i64 (k : Int)) (by simp [results, Tryz.results96, go_sem]) rfl ⟨⟨_, rfl, ?_⟩, rfl⟩
    have h1 := HM.out
    have h2 := HB.out
    have h3 : xs.all cntB = false := by rw [List.all_eq_false]; exact ⟨x, h1, by rw [← h2]; decide⟩
    rw [h3]
    simp
   | true =>
    go_wp2_with fail
    refine ⟨⟨k + 1, HS.out.1, by first | rfl | rw [HS.out.2.2], Lib.hid (by rw [HX.out, List.all_append, HT.out]; simp [HB.out.symm]), trivial⟩, ?_⟩
    first | rw [HS.out.2.2] | skip
    simp only [intOf, Int.toNat_natCast]
    exact HS.out.2.1
  ·obtain rfl : n = k := (Nat.le_antisymm hk (Nat.le_of_not_lt hlt)).symm
   clear hlt hk
   go_wp2_with fail
   refine bodyPost_ret (v := .int .i64 (-1)) (by simp [results, Tryz.results96, go_sem]) rfl ⟨⟨_, rfl, ?_⟩, rfl⟩
   have h1 := HT.out
   rw [List.take_of_length_le (by rw [HL.out]; exact Nat.le_refl _)] at h1
   rw [h1]
   rfl
theorem contains71 (p : Option Addr) (c n : Nat) (xs : List Int) (W : World) (h : IntsIn W p xs) (hl : xs.length = n) (hn : n ≤ 9223372036854775807) :
  Calls Tryz.prog 71 #[.slice p n c, .func (.func 72) #[] #[]] W fun e w' => e = .returned (.bool (!(xs.all cntB))) ∧ w' = W := by
 have H := Lib.hid (index96 p c n xs W h hl hn)
 clear h hl
 go_enter Tryz.func71, Tryz.ntmps71
 go_wp2_with fail
 refine H.out.mono ?_
 rintro e w1 ⟨⟨r, rfl, hr⟩, rfl⟩
 have HR := Lib.hid hr
 clear hr
 go_wp2_with fail
 exact bodyPost_ret (v := .bool (decide (0 ≤ r))) (by simp [results, Tryz.results71, go_sem]) rfl ⟨by rw [HR.out], rfl⟩
theorem same74 (p : Option Addr) (c n : Nat) (xs : List Int) (q : Option Addr) (d m : Nat) (ys : List Int) (W : World) (h1 : IntsIn W p xs) (h2 : IntsIn W q ys) (hl : xs.length = n) (hm : ys.length = m) (hn : n ≤ 9223372036854775807) (hk : m ≤ 9223372036854775807) :
  Calls Tryz.prog 74 #[.slice p n c, .slice q m d] W fun e w' => e = .returned (.bool (decide (xs = ys))) ∧ ∃ nd, w' = W.drewN nd := by
 by_cases hnm : n = m
 case neg =>
  have hne : decide (xs = ys) = false := decide_eq_false (fun e => hnm (by rw [← hl, ← hm, e]))
  have t1 : ((n : Int) == (m : Int)) = false := by simp; omega
  rw [hne]
  clear h1 h2 hl hm hne
  go_enter Tryz.func74, Tryz.ntmps74
  go_wp2_with fail
  exact bodyPost_ret (v := .bool false) (by simp [results, Tryz.results74, go_sem]) rfl ⟨rfl, 0, rfl⟩
 subst hnm
 have H1 := Lib.hid h1
 have H2 := Lib.hid h2
 have HL := Lib.hid hl
 have HM := Lib.hid hm
 obtain ⟨b0, hb0⟩ : ∃ b0, b0 = decide (xs = ys) := ⟨_, rfl⟩
 have HB := Lib.hid hb0
 rw [← hb0]
 clear h1 h2 hl hm hb0 hk
 have n1 : (n : Int) ≤ 9223372036854775807 := by omega
 go_enter Tryz.func74, Tryz.ntmps74
 go_wp2_with fail
 go_loopw [5] (fun x wr => ∃ (k nd : Nat), k ≤ n ∧ x = .int .i64 (k : Int) ∧ Hid (xs.take k = ys.take k) ∧ wr = W.drewN nd) (fun x _ => n - (intOf x).toNat)
 case atStart => exact ⟨0, 0, Nat.zero_le _, rfl, Lib.hid (by simp), rfl⟩
 case round =>
  obtain ⟨k, nd, hk, rfl, HT, hw⟩ := hrel
  have HW := Lib.hid hw
  have k0 : (0 : Int) ≤ (k : Int) := Int.natCast_nonneg k
  by_cases hlt : k < n
  ·have k1 : (k : Int) < (n : Int) := Int.ofNat_lt.2 hlt
   have hk1 : k < xs.length := by rw [HL.out]; exact hlt
   have hk2 : k < ys.length := by rw [HM.out]; exact hlt
   obtain ⟨b, off, rfl, hc⟩ := H1.out k hk1
   obtain ⟨b2, off2, rfl, hc2⟩ := H2.out k hk2
   have hbw : Below W.heap.size W wr := by rw [hw]; exact below_drewN W nd
   replace hc := cell_later hbw hc
   replace hc2 := cell_later hbw hc2
   have HS := Lib.hid (step_ok hlt hn)
   obtain ⟨x, hx⟩ : ∃ x, x = xs[k] := ⟨_, rfl⟩
   obtain ⟨y, hy⟩ : ∃ y, y = ys[k] := ⟨_, rfl⟩
   have HX := Lib.hid (show xs.take (k + 1) = xs.take k ++ [x] from by rw [hx, List.take_add_one, List.getElem?_eq_getElem hk1]; rfl)
   have HY := Lib.hid (show ys.take (k + 1) = ys.take k ++ [y] from by rw [hy, List.take_add_one, List.getElem?_eq_getElem hk2]; rfl)
   rw [← hx] at hc
   rw [← hy] at hc2
   clear hx hy hk1 hk2 hw hbw
   by_cases hxy : x = y
   ·subst hxy
    have t2 : (x == x) = true := by simp
    go_wp2_with fail
    try (go_quiet (fail))
    go_wp2_with fail
    refine ⟨⟨k + 1, nd + nq, HS.out.1, by first | rfl | rw [HS.out.2.2], Lib.hid (by rw [HX.out, HY.out, HT.out]), by rw [HW.out]; exact World.drewN_drewN _ _ _⟩, ?_⟩
    first | rw [HS.out.2.2] | skip
    simp only [intOf, Int.toNat_natCast]
    exact HS.out.2.1
   ·have t2 : (x == y) = false := by simp [hxy]
    have HN := Lib.hid hxy
    clear hxy
    go_wp2_with fail
    try (go_quiet (fail))
    go_wp2_with fail
    refine bodyPost_ret (v := .bool false) (by simp [results, Tryz.results74, go_sem]) rfl ⟨?_, nd + nq, by rw [HW.out]; exact World.drewN_drewN _ _ _⟩
    have h9 : b0 = false := by
     rw [HB.out]
     refine decide_eq_false (fun e => HN.out ?_)
     have h1 := HX.out
     have h2 := HY.out
     rw [e, h2, ← HT.out] at h1
     have := List.append_cancel_left h1
     simpa using this.symm
    rw [h9]
  ·obtain rfl : n = k := (Nat.le_antisymm hk (Nat.le_of_not_lt hlt)).symm
   clear hlt hk hw
   go_wp2_with fail
   refine bodyPost_ret (v := .bool true) (by simp [results, Tryz.results74, go_sem]) rfl ⟨?_, nd, HW.out⟩
   have h1 := HT.out
   rw [List.take_of_length_le (by rw [HL.out]; exact Nat.le_refl _), List.take_of_length_le (by rw [HM.out]; exact Nat.le_refl _)] at h1
   have h9 : b0 = true := by rw [HB.out]; exact decide_eq_true h1
   rw [h9]
theorem same44 (p : Option Addr) (c n : Nat) (xs : List Int) (q : Option Addr) (d m : Nat) (ys : List Int) (W : World) (h1 : IntsIn W p xs) (h2 : IntsIn W q ys) (hl : xs.length = n) (hm : ys.length = m) (hn : n ≤ 9223372036854775807) (hk : m ≤ 9223372036854775807) :
  Calls Tryz.prog 44 #[.slice p n c, .slice q m d] W fun e w' => e = .returned (.bool (decide (xs = ys))) ∧ ∃ nd, w' = W.drewN nd := by
 by_cases hnm : n = m
 case neg =>
  have hne : decide (xs = ys) = false := decide_eq_false (fun e => hnm (by rw [← hl, ← hm, e]))
  have t1 : ((n : Int) == (m : Int)) = false := by simp; omega
  rw [hne]
  clear h1 h2 hl hm hne
  go_enter Tryz.func44, Tryz.ntmps44
  go_wp2_with fail
  exact bodyPost_ret (v := .bool false) (by simp [results, Tryz.results44, go_sem]) rfl ⟨rfl, 0, rfl⟩
 subst hnm
 have H1 := Lib.hid h1
 have H2 := Lib.hid h2
 have HL := Lib.hid hl
 have HM := Lib.hid hm
 obtain ⟨b0, hb0⟩ : ∃ b0, b0 = decide (xs = ys) := ⟨_, rfl⟩
 have HB := Lib.hid hb0
 rw [← hb0]
 clear h1 h2 hl hm hb0 hk
 have n1 : (n : Int) ≤ 9223372036854775807 := by omega
 go_enter Tryz.func44, Tryz.ntmps44
 go_wp2_with fail
 go_loopw [13] (fun x wr => ∃ (k nd : Nat), k ≤ n ∧ x = .int .i64 (k : Int) ∧ Hid (xs.take k = ys.take k) ∧ wr = W.drewN nd) (fun x _ => n - (intOf x).toNat)
 case atStart => exact ⟨0, 0, Nat.zero_le _, rfl, Lib.hid (by simp), rfl⟩
 case round =>
  obtain ⟨k, nd, hk, rfl, HT, hw⟩ := hrel
  have HW := Lib.hid hw
  have k0 : (0 : Int) ≤ (k : Int) := Int.natCast_nonneg k
  by_cases hlt : k < n
  ·have k1 : (k : Int) < (n : Int) := Int.ofNat_lt.2 hlt
   have hk1 : k < xs.length := by rw [HL.out]; exact hlt
   have hk2 : k < ys.length := by rw [HM.out]; exact hlt
   obtain ⟨b, off, rfl, hc⟩ := H1.out k hk1
   obtain ⟨b2, off2, rfl, hc2⟩ := H2.out k hk2
   have hbw : Below W.heap.size W wr := by rw [hw]; exact below_drewN W nd
   replace hc := cell_later hbw hc
   replace hc2 := cell_later hbw hc2
   have HS := Lib.hid (step_ok hlt hn)
   obtain ⟨x, hx⟩ : ∃ x, x = xs[k] := ⟨_, rfl⟩
   obtain ⟨y, hy⟩ : ∃ y, y = ys[k] := ⟨_, rfl⟩
   have HX := Lib.hid (show xs.take (k + 1) = xs.take k ++ [x] from by rw [hx, List.take_add_one, List.getElem?_eq_getElem hk1]; rfl)
   have HY := Lib.hid (show ys.take (k + 1) = ys.take k ++ [y] from by rw [hy, List.take_add_one, List.getElem?_eq_getElem hk2]; rfl)
   rw [← hx] at hc
   rw [← hy] at hc2
   clear hx hy hk1 hk2 hw hbw
   by_cases hxy : x = y
   ·subst hxy
    have t2 : (x == x) = true := by simp
    go_wp2_with fail
    try (go_quiet (fail))
    go_wp2_with fail
    refine ⟨⟨k + 1, nd + nq, HS.out.1, by first | rfl | rw [HS.out.2.2], Lib.hid (by rw [HX.out, HY.out, HT.out]), by rw [HW.out]; exact World.drewN_drewN _ _ _⟩, ?_⟩
    first | rw [HS.out.2.2] | skip
    simp only [intOf, Int.toNat_natCast]
    exact HS.out.2.1
   ·have t2 : (x == y) = false := by simp [hxy]
    have HN := Lib.hid hxy
    clear hxy
    go_wp2_with fail
    try (go_quiet (fail))
    go_wp2_with fail
    refine bodyPost_ret (v := .bool false) (by simp [results, Tryz.results44, go_sem]) rfl ⟨?_, nd + nq, by rw [HW.out]; exact World.drewN_drewN _ _ _⟩
    have h9 : b0 = false := by
     rw [HB.out]
     refine decide_eq_false (fun e => HN.out ?_)
     have h1 := HX.out
     have h2 := HY.out
     rw [e, h2, ← HT.out] at h1
     have := List.append_cancel_left h1
     simpa using this.symm
    rw [h9]
  ·obtain rfl : n = k := (Nat.le_antisymm hk (Nat.le_of_not_lt hlt)).symm
   clear hlt hk hw
   go_wp2_with fail
   refine bodyPost_ret (v := .bool true) (by simp [results, Tryz.results44, go_sem]) rfl ⟨?_, nd, HW.out⟩
   have h1 := HT.out
   rw [List.take_of_length_le (by rw [HL.out]; exact Nat.le_refl _), List.take_of_length_le (by rw [HM.out]; exact Nat.le_refl _)] at h1
   have h9 : b0 = true := by rw [HB.out]; exact decide_eq_true h1
   rw [h9]
theorem same73 (p : Option Addr) (c n : Nat) (xs : List Int) (q : Option Addr) (d m : Nat) (ys : List Int) (W : World) (h1 : IntsIn W p xs) (h2 : IntsIn W q ys) (hl : xs.length = n) (hm : ys.length = m) (hn : n ≤ 9223372036854775807) (hk : m ≤ 9223372036854775807) :
  Calls Tryz.prog 73 #[.slice p n c, .slice q m d] W fun e w' => e = .returned (.bool (decide (xs = ys))) ∧ ∃ nd, w' = W.drewN nd := by
 by_cases hnm : n = m
 case neg =>
  have hne : decide (xs = ys) = false := decide_eq_false (fun e => hnm (by rw [← hl, ← hm, e]))
  have t1 : ((n : Int) == (m : Int)) = false := by simp; omega
  rw [hne]
  clear h1 h2 hl hm hne
  go_enter Tryz.func73, Tryz.ntmps73
  go_wp2_with fail
  exact bodyPost_ret (v := .bool false) (by simp [results, Tryz.results73, go_sem]) rfl ⟨rfl, 0, rfl⟩
 subst hnm
 have H1 := Lib.hid h1
 have H2 := Lib.hid h2
 have HL := Lib.hid hl
 have HM := Lib.hid hm
 obtain ⟨b0, hb0⟩ : ∃ b0, b0 = decide (xs = ys) := ⟨_, rfl⟩
 have HB := Lib.hid hb0
 rw [← hb0]
 clear h1 h2 hl hm hb0 hk
 have n1 : (n : Int) ≤ 9223372036854775807 := by omega
 go_enter Tryz.func73, Tryz.ntmps73
 go_wp2_with fail
 go_loopw [13] (fun x wr => ∃ (k nd : Nat), k ≤ n ∧ x = .int .i64 (k : Int) ∧ Hid (xs.take k = ys.take k) ∧ wr = W.drewN nd) (fun x _ => n - (intOf x).toNat)
 case atStart => exact ⟨0, 0, Nat.zero_le _, rfl, Lib.hid (by simp), rfl⟩
 case round =>
  obtain ⟨k, nd, hk, rfl, HT, hw⟩ := hrel
  have HW := Lib.hid hw
  have k0 : (0 : Int) ≤ (k : Int) := Int.natCast_nonneg k
  by_cases hlt : k < n
  ·have k1 : (k : Int) < (n : Int) := Int.ofNat_lt.2 hlt
   have hk1 : k < xs.length := by rw [HL.out]; exact hlt
   have hk2 : k < ys.length := by rw [HM.out]; exact hlt
   obtain ⟨b, off, rfl, hc⟩ := H1.out k hk1
   obtain ⟨b2, off2, rfl, hc2⟩ := H2.out k hk2
   have hbw : Below W.heap.size W wr := by rw [hw]; exact below_drewN W nd
   replace hc := cell_later hbw hc
   replace hc2 := cell_later hbw hc2
   have HS := Lib.hid (step_ok hlt hn)
   obtain ⟨x, hx⟩ : ∃ x, x = xs[k] := ⟨_, rfl⟩
   obtain ⟨y, hy⟩ : ∃ y, y = ys[k] := ⟨_, rfl⟩
   have HX := Lib.hid (show xs.take (k + 1) = xs.take k ++ [x] from by rw [hx, List.take_add_one, List.getElem?_eq_getElem hk1]; rfl)
   have HY := Lib.hid (show ys.take (k + 1) = ys.take k ++ [y] from by rw [hy, List.take_add_one, List.getElem?_eq_getElem hk2]; rfl)
   rw [← hx] at hc
   rw [← hy] at hc2
   clear hx hy hk1 hk2 hw hbw
   by_cases hxy : x = y
   ·subst hxy
    have t2 : (x == x) = true := by simp
    go_wp2_with fail
    try (go_quiet (fail))
    go_wp2_with fail
    refine ⟨⟨k + 1, nd + nq, HS.out.1, by first | rfl | rw [HS.out.2.2], Lib.hid (by rw [HX.out, HY.out, HT.out]), by rw [HW.out]; exact World.drewN_drewN _ _ _⟩, ?_⟩
    first | rw [HS.out.2.2] | skip
    simp only [intOf, Int.toNat_natCast]
    exact HS.out.2.1
   ·have t2 : (x == y) = false := by simp [hxy]
    have HN := Lib.hid hxy
    clear hxy
    go_wp2_with fail
    try (go_quiet (fail))
    go_wp2_with fail
    refine bodyPost_ret (v := .bool false) (by simp [results, Tryz.results73, go_sem]) rfl ⟨?_, nd + nq, by rw [HW.out]; exact World.drewN_drewN _ _ _⟩
    have h9 : b0 = false := by
     rw [HB.out]
     refine decide_eq_false (fun e => HN.out ?_)
     have h1 := HX.out
     have h2 := HY.out
     rw [e, h2, ← HT.out] at h1
     have := List.append_cancel_left h1
     simpa using this.symm
    rw [h9]
  ·obtain rfl : n = k := (Nat.le_antisymm hk (Nat.le_of_not_lt hlt)).symm
   clear hlt hk hw
   go_wp2_with fail
   refine bodyPost_ret (v := .bool true) (by simp [results, Tryz.results73, go_sem]) rfl ⟨?_, nd, HW.out⟩
   have h1 := HT.out
   rw [List.take_of_length_le (by rw [HL.out]; exact Nat.le_refl _), List.take_of_length_le (by rw [HM.out]; exact Nat.le_refl _)] at h1
   have h9 : b0 = true := by rw [HB.out]; exact decide_eq_true h1
   rw [h9]
theorem link46 (x : Lk) (q : Option Addr) (c : Nat) (y : Lk) (q2 : Option Addr) (c2 : Nat) (W : World) (h1 : IntsIn W q x.l) (h2 : IntsIn W q2 y.l) (hn : x.l.length ≤ 9223372036854775807) (hm : y.l.length ≤ 9223372036854775807) :
  Calls Tryz.prog 46 #[lkV x q c, lkV y q2 c2] W fun e w' => e = .returned (.bool (decide (x = y))) ∧ Below W.heap.size W w' := by
 obtain ⟨k, lit, a, b, i, j, l⟩ := x
 obtain ⟨k2, lit2, a2, b2, i2, j2, l2⟩ := y
 simp only at h1 h2 hn hm
 simp only [lkV]
 by_cases hk : k = k2
 case neg =>
  have e9 : (k == k2) = false := by simp [hk]
  have hne : decide ((⟨k, lit, a, b, i, j, l⟩ : Lk) = ⟨k2, lit2, a2, b2, i2, j2, l2⟩) = false := decide_eq_false (fun e => hk (by injection e))
  rw [hne]
  clear h1 h2 hn hm hne hk
  go_enter Tryz.func46, Tryz.ntmps46
  go_wp2_with fail
  exact bodyPost_ret (v := .bool false) (by simp [results, Tryz.results46, go_sem]) rfl ⟨rfl, by repeat (first | exact Below.refl _ _ | refine Below.alloc ?_ (by simp) _)⟩
 subst hk
 have ek : (k == k) = true := by simp
 by_cases hlit : lit = lit2
 case neg =>
  have e9 : (lit == lit2) = false := by simp [hlit]
  have hne : decide ((⟨k, lit, a, b, i, j, l⟩ : Lk) = ⟨k, lit2, a2, b2, i2, j2, l2⟩) = false := decide_eq_false (fun e => hlit (by injection e))
  rw [hne]
  clear h1 h2 hn hm hne hlit
  go_enter Tryz.func46, Tryz.ntmps46
  go_wp2_with fail
  exact bodyPost_ret (v := .bool false) (by simp [results, Tryz.results46, go_sem]) rfl ⟨rfl, by repeat (first | exact Below.refl _ _ | refine Below.alloc ?_ (by simp) _)⟩
 subst hlit
 have elit : (lit == lit) = true := by simp
 by_cases ha : a = a2
 case neg =>
  have e9 : (a == a2) = false := by simp [ha]
  have hne : decide ((⟨k, lit, a, b, i, j, l⟩ : Lk) = ⟨k, lit, a2, b2, i2, j2, l2⟩) = false := decide_eq_false (fun e => ha (by injection e))
  rw [hne]
  clear h1 h2 hn hm hne ha
  go_enter Tryz.func46, Tryz.ntmps46
  go_wp2_with fail
  exact bodyPost_ret (v := .bool false) (by simp [results, Tryz.results46, go_sem]) rfl ⟨rfl, by repeat (first | exact Below.refl _ _ | refine Below.alloc ?_ (by simp) _)⟩
 subst ha
 have ea : (a == a) = true := by simp
 by_cases hb : b = b2
 case neg =>
  have e9 : (b == b2) = false := by simp [hb]
  have hne : decide ((⟨k, lit, a, b, i, j, l⟩ : Lk) = ⟨k, lit, a, b2, i2, j2, l2⟩) = false := decide_eq_false (fun e => hb (by injection e))
  rw [hne]
  clear h1 h2 hn hm hne hb
  go_enter Tryz.func46, Tryz.ntmps46
  go_wp2_with fail
  exact bodyPost_ret (v := .bool false) (by simp [results, Tryz.results46, go_sem]) rfl ⟨rfl, by repeat (first | exact Below.refl _ _ | refine Below.alloc ?_ (by simp) _)⟩
 subst hb
 have eb : (b == b) = true := by simp
 by_cases hi : i = i2
 case neg =>
  have e9 : (i == i2) = false := by simp [hi]
  have hne : decide ((⟨k, lit, a, b, i, j, l⟩ : Lk) = ⟨k, lit, a, b, i2, j2, l2⟩) = false := decide_eq_false (fun e => hi (by injection e))
  rw [hne]
  clear h1 h2 hn hm hne hi
  go_enter Tryz.func46, Tryz.ntmps46
  go_wp2_with fail
  exact bodyPost_ret (v := .bool false) (by simp [results, Tryz.results46, go_sem]) rfl ⟨rfl, by repeat (first | exact Below.refl _ _ | refine Below.alloc ?_ (by simp) _)⟩
 subst hi
 have ei : (i == i) = true := by simp
 by_cases hj : j = j2
 case neg =>
  have e9 : (j == j2) = false := by simp [hj]
  have hne : decide ((⟨k, lit, a, b, i, j, l⟩ : Lk) = ⟨k, lit, a, b, i, j2, l2⟩) = false := decide_eq_false (fun e => hj (by injection e))
  rw [hne]
  clear h1 h2 hn hm hne hj
  go_enter Tryz.func46, Tryz.ntmps46
  go_wp2_with fail
  exact bodyPost_ret (v := .bool false) (by simp [results, Tryz.results46, go_sem]) rfl ⟨rfl, by repeat (first | exact Below.refl _ _ | refine Below.alloc ?_ (by simp) _)⟩
 subst hj
 have ej : (j == j) = true := by simp
 have hd : decide ((⟨k, lit, a, b, i, j, l⟩ : Lk) = ⟨k, lit, a, b, i, j, l2⟩) = decide (l = l2) := by
  by_cases h : l = l2
  ·subst h; simp
  ·rw [decide_eq_false h]; exact decide_eq_false (fun e => h (by injection e))
 rw [hd]
 clear hd
 have HC := Lib.hid (fun (w : World) (hb : Below W.heap.size W w) => same73 q c l.length l q2 c2 l2.length l2 w (h1.later hb) (h2.later hb) rfl rfl hn hm)
 have HW := Lib.hid (show Below W.heap.size W ((W.alloc (.cells #[.int .u8 k, .int .i64 lit, .int .i64 a, .int .i64 b, .int .i64 i, .int .i64 j, .slice q l.length c] 64)).alloc (.cells #[.int .u8 k, .int .i64 lit, .int .i64 a, .int .i64 b, .int .i64 i, .int .i64 j, .slice q2 l2.length c2] 64)) from by repeat (first | exact Below.refl _ _ | refine Below.alloc ?_ (by simp) _))
 clear h1 h2 hn hm
 obtain ⟨b0, hb0⟩ : ∃ b0, b0 = decide (l = l2) := ⟨_, rfl⟩
 rw [← hb0] at HC ⊢
 clear hb0
 go_enter Tryz.func46, Tryz.ntmps46
 go_wp2_with fail
 refine (HC.out _ HW.out).mono ?_
 rintro e w1 ⟨rfl, nd, rfl⟩
 go_wp2_with fail
 exact bodyPost_ret (v := .bool b0) (by simp [results, Tryz.results46, go_sem]) rfl ⟨rfl, bdd HW.out⟩
set_option maxHeartbeats 800000 in
theorem links45 (p : Option Addr) (c n : Nat) (xs : List Lk) (q : Option Addr) (d m : Nat) (ys : List Lk) (W : World) (h1 : LksIn W p xs) (h2 : LksIn W q ys) (hl : xs.length = n) (hm : ys.length = m) (hn : n ≤ 9223372036854775807) (hk : m ≤ 9223372036854775807) :
  Calls Tryz.prog 45 #[.slice p n c, .slice q m d, .func (.func 46) #[] #[]] W fun e w' => e = .returned (.bool (decide (xs = ys))) ∧ Below W.heap.size W w' := by
 by_cases hnm : n = m
 case neg =>
  have hne : decide (xs = ys) = false := decide_eq_false (fun e => hnm (by rw [← hl, ← hm, e]))
  have t1 : ((n : Int) == (m : Int)) = false := by simp; omega
  rw [hne]
  clear h1 h2 hl hm hne
  go_enter Tryz.func45, Tryz.ntmps45
  go_wp2_with fail
  exact bodyPost_ret (v := .bool false) (by simp [results, Tryz.results45, go_sem]) rfl ⟨rfl, Below.refl _ _⟩
 subst hnm
 have H1 := Lib.hid h1
 have H2 := Lib.hid h2
 have HL := Lib.hid hl
 have HM := Lib.hid hm
 obtain ⟨b0, hb0⟩ : ∃ b0, b0 = decide (xs = ys) := ⟨_, rfl⟩
 have HB := Lib.hid hb0
 rw [← hb0]
 clear h1 h2 hl hm hb0 hk
 have n1 : (n : Int) ≤ 9223372036854775807 := by omega
 go_enter Tryz.func45, Tryz.ntmps45
 go_wp2_with fail
 go_loopw [17] (fun x wr => ∃ k : Nat, k ≤ n ∧ x = .int .i64 (k : Int) ∧ Hid (xs.take k = ys.take k ∧ Below W.heap.size W wr)) (fun x _ => n - (intOf x).toNat)
 case atStart => exact ⟨0, Nat.zero_le _, rfl, Lib.hid ⟨by simp, Below.refl _ _⟩⟩
 case round =>
  obtain ⟨k, hk, rfl, HT⟩ := hrel
  have k0 : (0 : Int) ≤ (k : Int) := Int.natCast_nonneg k
  by_cases hlt : k < n
  ·have k1 : (k : Int) < (n : Int) := Int.ofNat_lt.2 hlt
   have hk1 : k < xs.length := by rw [HL.out]; exact hlt
   have hk2 : k < ys.length := by rw [HM.out]; exact hlt
   obtain ⟨b, off, rfl, c0, c1, c2, c3, c4, c5, q1, d1, c6, hi1, hd1, hd2⟩ := (H1.out.later HT.out.2) k hk1
   obtain ⟨b2, off2, rfl, e0, e1, e2, e3, e4, e5, q2, d2, e6, hi2, hd3, hd4⟩ := (H2.out.later HT.out.2) k hk2
   have HS := Lib.hid (step_ok hlt hn)
   obtain ⟨x, hx⟩ : ∃ x, x = xs[k] := ⟨_, rfl⟩
   obtain ⟨y, hy⟩ : ∃ y, y = ys[k] := ⟨_, rfl⟩
   have HX := Lib.hid (show xs.take (k + 1) = xs.take k ++ [x] from by rw [hx, List.take_add_one, List.getElem?_eq_getElem hk1]; rfl)
   have HY := Lib.hid (show ys.take (k + 1) = ys.take k ++ [y] from by rw [hy, List.take_add_one, List.getElem?_eq_getElem hk2]; rfl)
   rw [← hx] at c0 c1 c2 c3 c4 c5 c6 hi1 hd1
   rw [← hy] at e0 e1 e2 e3 e4 e5 e6 hi2 hd3
   obtain ⟨b1, hb1⟩ : ∃ b1, b1 = decide (x = y) := ⟨_, rfl⟩
   have HC := Lib.hid (fun (w : World) (hb : Below wr.heap.size wr w) => link46 x q1 d1 y q2 d2 w (hi1.later hb) (hi2.later hb) (Nat.le_trans hd1 hd2) (Nat.le_trans hd3 hd4))
   rw [← hb1] at HC
   have HB1 := Lib.hid hb1
   simp only [lkV] at HC
   have HW := Lib.hid (show Below wr.heap.size wr ((wr.alloc (.cells #[.int .u8 x.k, .int .i64 x.lit, .int .i64 x.a, .int .i64 x.b, .int .i64 x.i, .int .i64 x.j, .slice q1 x.l.length d1] 64)).alloc (.cells #[.int .u8 y.k, .int .i64 y.lit, .int .i64 y.a, .int .i64 y.b, .int .i64 y.i, .int .i64 y.j, .slice q2 y.l.length d2] 64)) from by repeat (first | exact Below.refl _ _ | refine Below.alloc ?_ (by simp) _))
   have hO := below1 wr (.cells #[.int .u8 x.k, .int .i64 x.lit, .int .i64 x.a, .int .i64 x.b, .int .i64 x.i, .int .i64 x.j, .slice q1 x.l.length d1] 64)
   replace e0 := cell_later hO e0
   replace e1 := cell_later hO e1
   replace e2 := cell_later hO e2
   replace e3 := cell_later hO e3
   replace e4 := cell_later hO e4
   replace e5 := cell_later hO e5
   replace e6 := cell_later hO e6
   clear hx hy hk1 hk2 hi1 hi2 hd1 hd2 hd3 hd4 hb1 hO
   go_wp2_with fail
   refine (HC.out _ HW.out).mono ?_
   rintro e w1 ⟨rfl, hb⟩
   have HB2 := Lib.hid ((HT.out.2.trans (HW.out.mono HT.out.2.size)).trans (hb.mono (Nat.le_trans HT.out.2.size HW.out.size)))
   clear hb
   cases b1 with
   | true =>
    go_wp2_with fail
    refine ⟨⟨k + 1, HS.out.1, by first | rfl | rw [HS.out.2.2], Lib.hid ⟨by rw [HX.out, HY.out, HT.out.1, of_decide_eq_true HB1.out.symm], HB2.out⟩⟩, ?_⟩
    first | rw [HS.out.2.2] | skip
    simp only [intOf, Int.toNat_natCast]
    exact HS.out.2.1
   | false =>
    go_wp2_with fail
    refine bodyPost_ret (v := .bool false) (by simp [results, Tryz.results45, go_sem]) rfl ⟨?_, HB2.out⟩
    have h9 : b0 = false := by
     rw [HB.out]
     refine decide_eq_false (fun e => of_decide_eq_false HB1.out.symm ?_)
     have h1 := HX.out
     have h2 := HY.out
     rw [e, h2, ← HT.out.1] at h1
     rw [e] at h1
     have := List.append_cancel_left h1
     simpa using this.symm
    rw [h9]
  ·obtain rfl : n = k := (Nat.le_antisymm hk (Nat.le_of_not_lt hlt)).symm
   clear hlt hk
   go_wp2_with fail
   refine bodyPost_ret (v := .bool true) (by simp [results, Tryz.results45, go_sem]) rfl ⟨?_, HT.out.2⟩
   have h1 := HT.out.1
   rw [List.take_of_length_le (by rw [HL.out]; exact Nat.le_refl _), List.take_of_length_le (by rw [HM.out]; exact Nat.le_refl _)] at h1
   have h9 : b0 = true := by rw [HB.out]; exact decide_eq_true h1
   rw [h9]
end Go.Proofs.YtookoagcmejkpaaGreatDoor
namespace Go.Proofs
open Go.Shelf
def Tryz.laysM173_ren : Go.Shelf.Ren := ⟨fun | 173 => 110 | 246 => 120 | 283 => 126 | 284 => 127 | 285 => 128 | 286 => 129 | 129 => 137 | 317 => 136 | 318 => 138 | 319 => 139 | 320 => 140 | 337 => 150 | 338 => 151 | n => n, fun | 2 => 2 | 3 => 3 | 9 => 9 | 4 => 4 | 171 => 172 | 0 => 0 | 53 => 173 | 37 => 57 | 5 => 5 | 173 => 176 | 212 => 188 | 51 => 189 | 20 => 20 | 213 => 190 | 46 => 191 | 232 => 205 | 233 => 206 | n => n, fun | 17 => 1 | 18 => 4 | 19 => 5 | n => n⟩
theorem Tryz.laysM173 : Go.Proofs.LaysM.n173 Tryz.prog Tryz.laysM173_ren := {
 mixed := by kernel_rfl
 f129 := Tryz.func137.trans (congrArg some (by kernel_rfl))
 f173 := Tryz.func110.trans (congrArg some (by kernel_rfl))
 f246 := Tryz.func120.trans (congrArg some (by kernel_rfl))
 f283 := Tryz.func126.trans (congrArg some (by kernel_rfl))
 f284 := Tryz.func127.trans (congrArg some (by kernel_rfl))
 f285 := Tryz.func128.trans (congrArg some (by kernel_rfl))
 f286 := Tryz.func129.trans (congrArg some (by kernel_rfl))
 f317 := Tryz.func136.trans (congrArg some (by kernel_rfl))
 f318 := Tryz.func138.trans (congrArg some (by kernel_rfl))
 f319 := Tryz.func139.trans (congrArg some (by kernel_rfl))
 f320 := Tryz.func140.trans (congrArg some (by kernel_rfl))
 f337 := Tryz.func150.trans (congrArg some (by kernel_rfl))
 f338 := Tryz.func151.trans (congrArg some (by kernel_rfl))
 t0 := Tryz.underlying0
 a0 := Tryz.isAgg0
 z0 := Tryz.sizeOf0
 v0 := Tryz.zeroValue0
 t2 := Tryz.underlying2
 a2 := Tryz.isAgg2
 z2 := Tryz.sizeOf2
 v2 := Tryz.zeroValue2
 t3 := Tryz.underlying3
 a3 := Tryz.isAgg3
 z3 := Tryz.sizeOf3
 v3 := Tryz.zeroValue3
 t4 := Tryz.underlying4
 a4 := Tryz.isAgg4
 z4 := Tryz.sizeOf4
 v4 := Tryz.zeroValue4
 t5 := Tryz.underlying5
 a5 := Tryz.isAgg5
 z5 := Tryz.sizeOf5
 v5 := Tryz.zeroValue5
 t9 := Tryz.underlying9
 a9 := Tryz.isAgg9
 z9 := Tryz.sizeOf9
 v9 := Tryz.zeroValue9
 t20 := Tryz.underlying20
 a20 := Tryz.isAgg20
 z20 := Tryz.sizeOf20
 v20 := Tryz.zeroValue20
 t37 := Tryz.underlying57
 a37 := Tryz.isAgg57
 z37 := Tryz.sizeOf57
 v37 := Tryz.zeroValue57
 t46 := Tryz.underlying191
 a46 := Tryz.isAgg191
 z46 := Tryz.sizeOf191
 v46 := Tryz.zeroValue191
 t51 := Tryz.underlying189
 a51 := Tryz.isAgg189
 z51 := Tryz.sizeOf189
 v51 := Tryz.zeroValue189
 t53 := Tryz.underlying173
 a53 := Tryz.isAgg173
 z53 := Tryz.sizeOf173
 v53 := Tryz.zeroValue173
 t171 := Tryz.underlying172
 a171 := Tryz.isAgg172
 z171 := Tryz.sizeOf172
 v171 := Tryz.zeroValue172
 t173 := Tryz.underlying176
 a173 := Tryz.isAgg176
 z173 := Tryz.sizeOf176
 v173 := Tryz.zeroValue176
 t212 := Tryz.underlying188
 a212 := Tryz.isAgg188
 z212 := Tryz.sizeOf188
 v212 := Tryz.zeroValue188
 t213 := Tryz.underlying190
 a213 := Tryz.isAgg190
 z213 := Tryz.sizeOf190
 t232 := Tryz.underlying205
 a232 := Tryz.isAgg205
 z232 := Tryz.sizeOf205
 v232 := Tryz.zeroValue205
 t233 := Tryz.underlying206
 a233 := Tryz.isAgg206
 z233 := Tryz.sizeOf206
 v233 := Tryz.zeroValue206
 g17 := by kernel_rfl
 g18 := by kernel_rfl
 g19 := by kernel_rfl
 i0 := by kernel_rfl
 i2 := by kernel_rfl
 i3 := by kernel_rfl
 i4 := by kernel_rfl
 i5 := by kernel_rfl
 i9 := by kernel_rfl
 i20 := by kernel_rfl
 i37 := by kernel_rfl
 i46 := by kernel_rfl
 i51 := by kernel_rfl
 i53 := by kernel_rfl
 i171 := by kernel_rfl
 i173 := by kernel_rfl
 i212 := by kernel_rfl
 i232 := by kernel_rfl
 i233 := by kernel_rfl
 m17 := by kernel_rfl
 m18 := by kernel_rfl
 m19 := by kernel_rfl }
open Go.RowKit Go.Sort Go.Lib in
theorem Tryz.strconv_FormatInt_10 (n : Int) (h0 : -9223372036854775808 ≤ n) (h1 : n ≤ 9223372036854775807) (w : World) (htab : Lib.TabIs Tryz.prog w "internal/strconv.uint64pow10" .u64 Lib.pow10Tab) :
  Calls Tryz.prog 110 #[.int .i64 n, .int .i64 10] w fun e w' => e = .returned (.string ⟨(Lib.itoa n).toArray⟩) ∧ ∃ k os, w' = grow (w.drewN k) os := Any.strconv_FormatInt_10 Tryz.laysM173 n h0 h1 w htab
def Tryz.lays156_ren : Go.Shelf.Ren := ⟨fun | 156 => 87 | 165 => 104 | 166 => 105 | 169 => 106 | 240 => 117 | 241 => 118 | 276 => 124 | 277 => 125 | n => n, fun | 31 => 95 | 9 => 9 | 3 => 3 | 4 => 4 | 0 => 0 | 20 => 20 | 72 => 151 | 76 => 155 | 70 => 149 | 37 => 57 | 75 => 154 | 127 => 163 | 164 => 168 | 5 => 5 | 80 => 157 | n => n, fun | n => n⟩
theorem Tryz.lays156 : Go.Proofs.Lays.n156 Tryz.prog Tryz.lays156_ren := {
 mixed := by kernel_rfl
 f156 := Tryz.func87.trans (congrArg some (by kernel_rfl))
 f165 := Tryz.func104.trans (congrArg some (by kernel_rfl))
 f166 := Tryz.func105.trans (congrArg some (by kernel_rfl))
 f169 := Tryz.func106.trans (congrArg some (by kernel_rfl))
 f240 := Tryz.func117.trans (congrArg some (by kernel_rfl))
 f241 := Tryz.func118.trans (congrArg some (by kernel_rfl))
 f276 := Tryz.func124.trans (congrArg some (by kernel_rfl))
 f277 := Tryz.func125.trans (congrArg some (by kernel_rfl))
 t0 := Tryz.underlying0
 a0 := Tryz.isAgg0
 z0 := Tryz.sizeOf0
 v0 := Tryz.zeroValue0
 t3 := Tryz.underlying3
 a3 := Tryz.isAgg3
 z3 := Tryz.sizeOf3
 v3 := Tryz.zeroValue3
 t4 := Tryz.underlying4
 a4 := Tryz.isAgg4
 z4 := Tryz.sizeOf4
 v4 := Tryz.zeroValue4
 t9 := Tryz.underlying9
 a9 := Tryz.isAgg9
 z9 := Tryz.sizeOf9
 v9 := Tryz.zeroValue9
 t20 := Tryz.underlying20
 a20 := Tryz.isAgg20
 z20 := Tryz.sizeOf20
 v20 := Tryz.zeroValue20
 t31 := Tryz.underlying95
 a31 := Tryz.isAgg95
 z31 := Tryz.sizeOf95
 v31 := Tryz.zeroValue95
 t37 := Tryz.underlying57
 a37 := Tryz.isAgg57
 z37 := Tryz.sizeOf57
 v37 := Tryz.zeroValue57
 t70 := Tryz.underlying149
 a70 := Tryz.isAgg149
 z70 := Tryz.sizeOf149
 v70 := Tryz.zeroValue149
 t72 := Tryz.underlying151
 a72 := Tryz.isAgg151
 z72 := Tryz.sizeOf151
 v72 := Tryz.zeroValue151
 t75 := Tryz.underlying154
 a75 := Tryz.isAgg154
 z75 := Tryz.sizeOf154
 v75 := Tryz.zeroValue154
 t76 := Tryz.underlying155
 a76 := Tryz.isAgg155
 z76 := Tryz.sizeOf155
 v76 := Tryz.zeroValue155
 t127 := Tryz.underlying163
 a127 := Tryz.isAgg163
 z127 := Tryz.sizeOf163
 v127 := Tryz.zeroValue163
 t164 := Tryz.underlying168
 a164 := Tryz.isAgg168
 z164 := Tryz.sizeOf168
 v164 := Tryz.zeroValue168 }
theorem Tryz.Builder_Extra_156 : Builder.Extra Tryz.prog Tryz.lays156_ren := {
 sizeBuilder := by kernel_rfl
 liesBuilder := by kernel_rfl
 t5 := Tryz.underlying5
 a5 := Tryz.isAgg5
 z5 := Tryz.sizeOf5
 v5 := Tryz.zeroValue5
 infoByte := by kernel_rfl
 cellsByte := by kernel_rfl
 sizeByte := by kernel_rfl
 neB5 := by decide }
open Go.RowKit in
theorem Tryz.strings_Join_none (a : Option Addr) (c : Nat) (sep : ByteArray) (w : World) :
  Calls Tryz.prog 87 #[.slice a 0 c, .string sep] w fun e w' => e = .returned (.string ⟨#[]⟩) ∧ w' = w := Any.strings_Join_none Tryz.lays156 Tryz.Builder_Extra_156 a c sep w
open Go.RowKit in
theorem Tryz.strings_Join (bk o c : Nat) (xs : List ByteArray) (sep : ByteArray) (w : World) (hcells : ∀ (j : Nat) x, xs[j]? = some x → w.cell? ⟨bk, o + j, none⟩ = some (.string x)) (hbk : bk < w.heap.size) (hN : xs.length ≤ 140737488355328) (hcap : xs.length ≤ c) (hlen : (Lib.join (xs.map (·.data.toList)) sep.data.toList).length ≤ 140737488355328) :
  Calls Tryz.prog 87 #[.slice (some ⟨bk, o, none⟩) xs.length c, .string sep] w fun e w' => e = .returned (.string ⟨(Lib.join (xs.map (·.data.toList)) sep.data.toList).toArray⟩) ∧ Below w.heap.size w w' := Any.strings_Join Tryz.lays156 Tryz.Builder_Extra_156 bk o c xs sep w hcells hbk hN hcap hlen
def Tryz.lays217_ren : Go.Shelf.Ren := ⟨fun | 217 => 152 | 266 => 160 | n => n, fun | 9 => 9 | 5 => 5 | 3 => 3 | n => n, fun | n => n⟩
theorem Tryz.lays217 : Go.Proofs.Lays.n217 Tryz.prog Tryz.lays217_ren := {
 mixed := by kernel_rfl
 f217 := Tryz.func152.trans (congrArg some (by kernel_rfl))
 f266 := Tryz.func160.trans (congrArg some (by kernel_rfl))
 t3 := Tryz.underlying3
 a3 := Tryz.isAgg3
 z3 := Tryz.sizeOf3
 v3 := Tryz.zeroValue3
 t5 := Tryz.underlying5
 a5 := Tryz.isAgg5
 z5 := Tryz.sizeOf5
 v5 := Tryz.zeroValue5
 t9 := Tryz.underlying9
 a9 := Tryz.isAgg9
 z9 := Tryz.sizeOf9
 v9 := Tryz.zeroValue9 }
open Go.RowKit Go.Lib in
theorem Tryz.stringslite_IndexByte (s : ByteArray) (c : Int) (w : World) :
  Calls Tryz.prog 152 #[.string s, .int .u8 c] w fun e w' => e = .returned (.int .i64 (Lib.indexByte s.data.toList c.toNat.toUInt8)) ∧ w' = w := Any.stringslite_IndexByte Tryz.lays217 s c w
end Go.Proofs
namespace Go.Proofs.YtookoagcmejkpaaGreatDoor
set_option maxRecDepth 100000
open Go Go.RowKit
inductive Fo where
 | nil : Fo
 | cons (l : Bool) (k : Int) (s : ByteArray) (a : Int) (kids rest : Fo) : Fo
namespace Fo
def len : Fo → Nat
 | .nil => 0
 | .cons _ _ _ _ _ r => r.len + 1
def size : Fo → Nat
 | .nil => 0
 | .cons _ _ _ _ x r => x.size + r.size + 1
def snoc : Fo → Bool → Int → ByteArray → Int → Fo → Fo
 | .nil, l, k, s, a, x => .cons l k s a x .nil
 | .cons l0 k0 s0 a0 x0 r, l, k, s, a, x => .cons l0 k0 s0 a0 x0 (r.snoc l k s a x)
def app : Fo → Fo → Fo
 | .nil, g => g
 | .cons l k s a x r, g => .cons l k s a x (r.app g)
theorem len_snoc (l : Bool) (k : Int) (s : ByteArray) (a : Int) (x : Fo) : ∀ f : Fo, (f.snoc l k s a x).len = f.len + 1
 | .nil => rfl
 | .cons _ _ _ _ _ r => by simp only [snoc, len, len_snoc l k s a x r]
theorem app_nil : ∀ f : Fo, f.app .nil = f
 | .nil => rfl
 | .cons _ _ _ _ _ r => by simp only [app, app_nil r]
theorem snoc_app (l : Bool) (k : Int) (s : ByteArray) (a : Int) (x g : Fo) : ∀ f : Fo, (f.snoc l k s a x).app g = f.app (.cons l k s a x g)
 | .nil => rfl
 | .cons _ _ _ _ _ r => by simp only [app, snoc, snoc_app l k s a x g r]
end Fo
def sameF : Fo → Fo → Bool
 | .nil, .nil => true
 | .cons l k s _ x r, .cons l' k' s' _ x' r' => (decide (l = l') && decide (k = k') && decide (s = s') && decide (x.len = x'.len)) && sameF x x' && sameF r r'
 | _, _ => false
def sameT (l : Bool) (k : Int) (s : ByteArray) (x : Fo) (l' : Bool) (k' : Int) (s' : ByteArray) (x' : Fo) : Bool := (decide (l = l') && decide (k = k') && decide (s = s') && decide (x.len = x'.len)) && sameF x x'
theorem sameF_refl : ∀ f : Fo, sameF f f = true
 | .nil => rfl
 | .cons _ _ _ _ x r => by simp [sameF, sameF_refl x, sameF_refl r]
theorem sameT_refl (l : Bool) (k : Int) (s : ByteArray) (x : Fo) : sameT l k s x l k s x = true := by simp [sameT, sameF_refl]
def FoIn (W : World) (F : Nat → Prop) : Fo → Option Addr → Prop
 | .nil, _ => True
 | .cons l k s a x r, p => ∃ b off, p = some ⟨b, off, none⟩ ∧ F b ∧ W.cell? ⟨b, off, none⟩ = some (.bool l) ∧ W.cell? ⟨b, off + 1, none⟩ = some (.int .u8 k) ∧ W.cell? ⟨b, off + 2, none⟩ = some (.string s) ∧ W.cell? ⟨b, off + 3, none⟩ = some (.int .i64 a) ∧
  (∃ q c, W.cell? ⟨b, off + 4, none⟩ = some (.slice q x.len c) ∧ x.len ≤ c ∧ x.len ≤ 281474976710656 ∧ FoIn W F x q) ∧ FoIn W F r (some ⟨b, off + 5, none⟩)
theorem FoIn.move {W W' : World} {F F' : Nat → Prop} (hc : ∀ b o v, F b → W.cell? ⟨b, o, none⟩ = some v → W'.cell? ⟨b, o, none⟩ = some v ∧ F' b) : ∀ (f : Fo) (p : Option Addr), FoIn W F f p → FoIn W' F' f p
 | .nil, _, _ => trivial
 | .cons l k s a x r, p, h => by
  obtain ⟨b, off, e, hF, h0, h1, h2, h3, ⟨q, c, h4, hn, hm, hx⟩, hr⟩ := h
  exact ⟨b, off, e, (hc b _ _ hF h0).2, (hc b _ _ hF h0).1, (hc b _ _ hF h1).1, (hc b _ _ hF h2).1, (hc b _ _ hF h3).1, ⟨q, c, (hc b _ _ hF h4).1, hn, hm, FoIn.move hc x q hx⟩, FoIn.move hc r _ hr⟩
theorem FoIn.later {W W' : World} {F : Nat → Prop} {f : Fo} {p : Option Addr} (h : FoIn W F f p) (hb : Below W.heap.size W W') : FoIn W' F f p :=
 FoIn.move (fun _ _ _ hF hv => ⟨cell_later hb hv, hF⟩) f p h
theorem FoIn.only {W W' : World} {F T : Nat → Prop} {f : Fo} {p : Option Addr} (h : FoIn W F f p) (ho : Only T W W') (hn : ∀ b, F b → ¬ T b) : FoIn W' F f p :=
 FoIn.move (fun _ _ _ hF hv => ⟨ho.cell hv (hn _ hF), hF⟩) f p h
theorem FoIn.mono {W : World} {F F' : Nat → Prop} {f : Fo} {p : Option Addr} (h : FoIn W F f p) (hn : ∀ b, F b → b < W.heap.size → F' b) : FoIn W F' f p :=
 FoIn.move (fun b _ _ hF hv => ⟨hv, hn b hF (World.block_lt_of_cell? W _ hv)⟩) f p h
def trV (l : Bool) (k : Int) (s : ByteArray) (a : Int) (q : Option Addr) (n c : Nat) : Value := .agg #[.bool l, .int .u8 k, .string s, .int .i64 a, .slice q n c]
def pl (q : Option Addr) (i : Nat) : Option Addr := q.map fun a => ⟨a.block, a.off + i * 5, none⟩
theorem pl_zero {W : World} {F : Nat → Prop} {f : Fo} {q : Option Addr} (h : FoIn W F f q) : FoIn W F f (pl q 0) := by
 cases f with
 | nil => trivial
 | cons l k s a x r =>
  obtain ⟨b, off, rfl, hr⟩ := h
  exact ⟨b, off, by simp [pl], hr⟩
theorem FoIn.head {W : World} {F : Nat → Prop} {l : Bool} {k : Int} {s : ByteArray} {a : Int} {x r : Fo} {b off i : Nat} (h : FoIn W F (.cons l k s a x r) (pl (some ⟨b, off, none⟩) i)) :
  F b ∧ W.cell? ⟨b, off + i * 5, none⟩ = some (.bool l) ∧ W.cell? ⟨b, off + i * 5 + 1, none⟩ = some (.int .u8 k) ∧ W.cell? ⟨b, off + i * 5 + 2, none⟩ = some (.string s) ∧ W.cell? ⟨b, off + i * 5 + 3, none⟩ = some (.int .i64 a) ∧
  (∃ q c, W.cell? ⟨b, off + i * 5 + 4, none⟩ = some (.slice q x.len c) ∧ x.len ≤ c ∧ x.len ≤ 281474976710656 ∧ FoIn W F x q) ∧ FoIn W F r (pl (some ⟨b, off, none⟩) (i + 1)) := by
 obtain ⟨b', off', e, hF, h0, h1, h2, h3, h4, h5⟩ := h
 simp only [pl, Option.map_some, Option.some.injEq, Addr.mk.injEq] at e
 obtain ⟨rfl, rfl, _⟩ := e
 refine ⟨hF, h0, h1, h2, h3, h4, ?_⟩
 have e2 : pl (some ⟨b, off, none⟩) (i + 1) = some ⟨b, off + i * 5 + 5, none⟩ := by
  simp only [pl, Option.map_some, Option.some.injEq, Addr.mk.injEq]; exact ⟨trivial, by omega, trivial⟩
 rw [e2]; exact h5
theorem FoIn.some {W : World} {F : Nat → Prop} {f : Fo} {q : Option Addr} (h : FoIn W F f q) (h0 : 0 < f.len) : ∃ b off, q = some ⟨b, off, none⟩ := by
 cases f with
 | nil => exact absurd h0 (by decide)
 | cons l k s a x r =>
  obtain ⟨b, off, rfl, _⟩ := h
  exact ⟨b, off, rfl⟩
theorem toList_byte {s s' : ByteArray} (h : s.toList = s'.toList) : s = s' := by
 rw [ByteArray.toList_eq, ByteArray.toList_eq] at h
 exact ByteArray.ext (Array.toList_inj.1 h)
end Go.Proofs.YtookoagcmejkpaaGreatDoor
namespace Go.Proofs.YtookoagcmejkpaaGreatDoor
open Go Go.RowKit
def SameP (f : Nat) (n : Nat) : Prop := ∀ (x x' : Fo), x.size ≤ n → ∀ (l l' : Bool) (k k' : Int) (s s' : ByteArray) (a a' : Int) (q q' : Option Addr) (c c' : Nat) (W : World) (F F' : Nat → Prop), FoIn W F x q → FoIn W F' x' q' → x.len ≤ c → x'.len ≤ c' → x.len ≤ 281474976710656 → x'.len ≤ 281474976710656 →
 Calls Tryz.prog f #[trV l k s a q x.len c, trV l' k' s' a' q' x'.len c'] W fun e w' => e = .returned (.bool (sameT l k s x l' k' s' x')) ∧ Below W.heap.size W w'
set_option maxRecDepth 100000
set_option maxHeartbeats 3200000 in
theorem same23_no (l l' : Bool) (k k' : Int) (s s' : ByteArray) (a a' : Int) (q q' : Option Addr) (c c' n n' : Nat) (W : World) (h : (decide (l = l') && decide (k = k') && decide (s = s') && decide (n = n')) = false) (hn : n ≤ 281474976710656) (hn' : n' ≤ 281474976710656) :
  Calls Tryz.prog 15 #[trV l k s a q n c, trV l' k' s' a' q' n' c'] W fun e w' => e = .returned (.bool false) ∧ Below W.heap.size W w' := by
 have i1 : (n : Int) ≤ 281474976710656 := by omega
 have i2 : (n' : Int) ≤ 281474976710656 := by omega
 have hb2 : ∀ (w : World) (o1 o2 : Obj), Below w.heap.size w ((w.alloc o1).alloc o2) := fun w o1 o2 => (below1 w o1).alloc (by simp) _
 unfold trV
 by_cases h1 : l = l'
 ·subst h1
  by_cases h2 : k = k'
  ·subst h2
   by_cases h3 : s = s'
   ·subst h3
    have h4 : ¬ n = n' := fun e => by simp [e] at h
    have h5 : ((n : Int) != (n' : Int)) = true := by simp; omega
    clear h
    go_enter Tryz.func15, Tryz.ntmps15
    go_wp2_with fail
    go_ret
    exact ⟨rfl, hb2 _ _ _⟩
   ·have h5 : ¬ s.toList = s'.toList := fun e => h3 (toList_byte e)
    clear h
    go_enter Tryz.func15, Tryz.ntmps15
    go_wp2_with fail
    go_ret
    exact ⟨rfl, hb2 _ _ _⟩
  ·clear h
   go_enter Tryz.func15, Tryz.ntmps15
   go_wp2_with fail
   go_ret
   exact ⟨rfl, hb2 _ _ _⟩
 ·clear h
  go_enter Tryz.func15, Tryz.ntmps15
  go_wp2_with fail
  go_ret
  exact ⟨rfl, hb2 _ _ _⟩
set_option maxHeartbeats 6400000 in
theorem same23_step (n : Nat) (ih : ∀ m, m < n → SameP 15 m) : SameP 15 n := by
 intro x x' hsz l l' k k' s s' a a' q q' c c' W F F' hx hx' hc hc' hn hn'
 by_cases hd : (decide (l = l') && decide (k = k') && decide (s = s') && decide (x.len = x'.len)) = true
 case neg =>
  have hd2 := Bool.eq_false_iff.2 hd
  have h := same23_no l l' k k' s s' a a' q q' c c' x.len x'.len W hd2 hn hn'
  refine h.mono ?_
  rintro e w ⟨rfl, hb⟩
  refine ⟨?_, hb⟩
  unfold sameT
  rw [hd2]; rfl
 simp only [Bool.and_eq_true, decide_eq_true_eq] at hd
 obtain ⟨⟨⟨rfl, rfl⟩, rfl⟩, hlen⟩ := hd
 have hS : sameT l k s x l k s x' = sameF x x' := by simp [sameT, hlen]
 rw [hS]
 clear hS
 rw [← hlen]
 rw [← hlen] at hc'
 obtain ⟨N, hN⟩ : ∃ N, N = x.len := ⟨_, rfl⟩
 rw [← hN] at hlen hc hc' hn ⊢
 obtain ⟨R, hR⟩ : ∃ R, R = sameF x x' := ⟨_, rfl⟩
 rw [← hR]
 have i1 : (N : Int) ≤ 281474976710656 := by omega
 have hb2 : ∀ (w : World) (o1 o2 : Obj), Below w.heap.size w ((w.alloc o1).alloc o2) := fun w o1 o2 => (below1 w o1).alloc (by simp) _
 have HX := Lib.hid (And.intro hx hx')
 have HI := Lib.hid (show (N = x.len ∧ x'.len = x.len ∧ R = sameF x x' ∧ x.size ≤ n) from ⟨hN, by omega, hR, hsz⟩)
 have IH := Lib.hid ih
 have HB2 := Lib.hid hb2
 clear hx hx' ih hN hlen hR hsz hb2
 unfold trV
 go_enter Tryz.func15, Tryz.ntmps15
 go_wp2_with fail
 go_loopg [5] N (fun gk s5 wx => ∃ (i : Nat) (f f' : Fo), i + gk = N ∧ s5 = .int .i64 (i : Int) ∧ Hid (f.len = gk ∧ f'.len = gk ∧ R = sameF f f' ∧ f.size ≤ x.size ∧ FoIn wx F f (pl q i) ∧ FoIn wx F' f' (pl q' i) ∧ wx.cell? ⟨W.heap.size, 4, none⟩ = some (.slice q N c) ∧ wx.cell? ⟨W.heap.size + 1, 4, none⟩ = some (.slice q' N c') ∧ Below W.heap.size W wx))
 case atStart =>
  refine ⟨0, x, x', by omega, rfl, Lib.hid ⟨?_, ?_, ?_, ?_, ?_, ?_, ?_, ?_, ?_⟩⟩
  ·exact HI.out.1.symm
  ·rw [HI.out.2.1]; exact HI.out.1.symm
  ·exact HI.out.2.2.1
  ·exact Nat.le_refl _
  ·exact (pl_zero HX.out.1).later (HB2.out _ _ _)
  ·exact (pl_zero HX.out.2).later (HB2.out _ _ _)
  ·simp [go_sem]
  ·simp [go_sem]
  ·exact HB2.out _ _ _
 case round =>
  obtain ⟨i, f, f', hk, rfl, HK⟩ := hrel
  have HG := Lib.hid hk
  have hi2 : i ≤ N := by omega
  clear hk
  obtain ⟨wA, hwA⟩ : ∃ w, w = wr := ⟨_, rfl⟩
  subst hwA
  have i2 : (i : Int) ≤ (N : Int) := by omega
  have d3 := HK.out.2.2.2.2.2.2.1
  have d4 := HK.out.2.2.2.2.2.2.2.1
  by_cases hlt : i < N
  ·obtain ⟨G, rfl⟩ : ∃ G, gk = G + 1 := ⟨gk - 1, by have := HG.out; omega⟩
   have i0 : (0 : Int) ≤ (i : Int) := by omega
   have i3 : (i : Int) < (N : Int) := by omega
   obtain ⟨hf, hf', hR, hsz, hx, hx', -, -, hb⟩ := HK.out
   obtain ⟨b, off, rfl⟩ : ∃ b off, q = some ⟨b, off, none⟩ := HX.out.1.some (by rw [← HI.out.1]; omega)
   obtain ⟨b2, off2, rfl⟩ : ∃ b off, q' = some ⟨b, off, none⟩ := HX.out.2.some (by rw [HI.out.2.1, ← HI.out.1]; omega)
   cases f with
   | nil => simp [Fo.len] at hf
   | cons l1 k1 s1 a1 x1 r1 =>
    cases f' with
    | nil => simp [Fo.len] at hf'
    | cons l2 k2 s2 a2 x2 r2 =>
     obtain ⟨_, e0, e1, e2, e3, ⟨q3, cc3, e4, hc3, hm3, hx3⟩, hr3⟩ := hx.head
     obtain ⟨_, g0, g1, g2, g3, ⟨q4, cc4, g4, hc4, hm4, hx4⟩, hr4⟩ := hx'.head
     have hC := fun w' (h : Below wA.heap.size wA w') => IH.out x1.size (by have := HI.out.2.2.2; simp only [Fo.size] at hsz; omega) x1 x2 (Nat.le_refl _) l1 l2 k1 k2 s1 s2 a1 a2 q3 q4 cc3 cc4 w' F F' (hx3.later h) (hx4.later h) hc3 hc4 hm3 hm4
     have HS := Lib.hid (show (r1.len = G ∧ r2.len = G ∧ R = (sameT l1 k1 s1 x1 l2 k2 s2 x2 && sameF r1 r2) ∧ r1.size ≤ x.size) from ⟨by simpa [Fo.len] using hf, by simpa [Fo.len] using hf', hR, by simp only [Fo.size] at hsz; omega⟩)
     generalize x1.len = n3 at *
     generalize x2.len = n4 at *
     generalize sameT l1 k1 s1 x1 l2 k2 s2 x2 = r at *
     have hkp : ∀ w', Below wA.heap.size wA w' → (Below wA.heap.size wA w' ∧ w'.cell? ⟨W.heap.size, 4, none⟩ = some (.slice (some ⟨b, off, none⟩) N c) ∧ w'.cell? ⟨W.heap.size + 1, 4, none⟩ = some (.slice (some ⟨b2, off2, none⟩) N c') ∧ w'.cell? ⟨b, off + i * 5, none⟩ = some (.bool l1) ∧ w'.cell? ⟨b, off + i * 5 + 1, none⟩ = some (.int .u8 k1) ∧ w'.cell? ⟨b, off + i * 5 + 2, none⟩ = some (.string s1) ∧ w'.cell? ⟨b, off + i * 5 + 3, none⟩ = some (.int .i64 a1) ∧ w'.cell? ⟨b, off + i * 5 + 4, none⟩ = some (.slice q3 n3 cc3) ∧ w'.cell? ⟨b2, off2 + i * 5, none⟩ = some (.bool l2) ∧ w'.cell? ⟨b2, off2 + i * 5 + 1, none⟩ = some (.int .u8 k2) ∧ w'.cell? ⟨b2, off2 + i * 5 + 2, none⟩ = some (.string s2) ∧ w'.cell? ⟨b2, off2 + i * 5 + 3, none⟩ = some (.int .i64 a2) ∧ w'.cell? ⟨b2, off2 + i * 5 + 4, none⟩ = some (.slice q4 n4 cc4)) := fun w' h => ⟨h, cell_later h d3, cell_later h d4, cell_later h e0, cell_later h e1, cell_later h e2, cell_later h e3, cell_later h e4, cell_later h g0, cell_later h g1, cell_later h g2, cell_later h g3, cell_later h g4⟩
     have hcc : ∀ w', (Below wA.heap.size wA w' ∧ w'.cell? ⟨W.heap.size, 4, none⟩ = some (.slice (some ⟨b, off, none⟩) N c) ∧ w'.cell? ⟨W.heap.size + 1, 4, none⟩ = some (.slice (some ⟨b2, off2, none⟩) N c') ∧ w'.cell? ⟨b, off + i * 5, none⟩ = some (.bool l1) ∧ w'.cell? ⟨b, off + i * 5 + 1, none⟩ = some (.int .u8 k1) ∧ w'.cell? ⟨b, off + i * 5 + 2, none⟩ = some (.string s1) ∧ w'.cell? ⟨b, off + i * 5 + 3, none⟩ = some (.int .i64 a1) ∧ w'.cell? ⟨b, off + i * 5 + 4, none⟩ = some (.slice q3 n3 cc3) ∧ w'.cell? ⟨b2, off2 + i * 5, none⟩ = some (.bool l2) ∧ w'.cell? ⟨b2, off2 + i * 5 + 1, none⟩ = some (.int .u8 k2) ∧ w'.cell? ⟨b2, off2 + i * 5 + 2, none⟩ = some (.string s2) ∧ w'.cell? ⟨b2, off2 + i * 5 + 3, none⟩ = some (.int .i64 a2) ∧ w'.cell? ⟨b2, off2 + i * 5 + 4, none⟩ = some (.slice q4 n4 cc4)) → Calls Tryz.prog 15 #[trV l1 k1 s1 a1 q3 n3 cc3, trV l2 k2 s2 a2 q4 n4 cc4] w' fun e w'' => e = .returned (.bool r) ∧ (Below wA.heap.size wA w'' ∧ w''.cell? ⟨W.heap.size, 4, none⟩ = some (.slice (some ⟨b, off, none⟩) N c) ∧ w''.cell? ⟨W.heap.size + 1, 4, none⟩ = some (.slice (some ⟨b2, off2, none⟩) N c') ∧ w''.cell? ⟨b, off + i * 5, none⟩ = some (.bool l1) ∧ w''.cell? ⟨b, off + i * 5 + 1, none⟩ = some (.int .u8 k1) ∧ w''.cell? ⟨b, off + i * 5 + 2, none⟩ = some (.string s1) ∧ w''.cell? ⟨b, off + i * 5 + 3, none⟩ = some (.int .i64 a1) ∧ w''.cell? ⟨b, off + i * 5 + 4, none⟩ = some (.slice q3 n3 cc3) ∧ w''.cell? ⟨b2, off2 + i * 5, none⟩ = some (.bool l2) ∧ w''.cell? ⟨b2, off2 + i * 5 + 1, none⟩ = some (.int .u8 k2) ∧ w''.cell? ⟨b2, off2 + i * 5 + 2, none⟩ = some (.string s2) ∧ w''.cell? ⟨b2, off2 + i * 5 + 3, none⟩ = some (.int .i64 a2) ∧ w''.cell? ⟨b2, off2 + i * 5 + 4, none⟩ = some (.slice q4 n4 cc4)) := fun w' h => (hC w' h.1).mono fun e w'' h2 => ⟨h2.1, hkp w'' (h.1.trans (h2.2.mono h.1.size))⟩
     unfold trV at hcc
     have HKP := Lib.hid hkp
     have HCC := Lib.hid hcc
     have HR := Lib.hid (And.intro hr3 hr4)
     have HBB := Lib.hid hb
     clear hf hf' hR hsz hx hx' hb hx3 hr3 hx4 hr4 hc3 hc4 hm3 hm4 hC hkp hcc HK e0 e1 e2 e3 e4 g0 g1 g2 g3 g4
     go_wp2_with fail
     go_region_held3 (fun w' => Below wA.heap.size wA w' ∧ w'.cell? ⟨W.heap.size, 4, none⟩ = some (.slice (some ⟨b, off, none⟩) N c) ∧ w'.cell? ⟨W.heap.size + 1, 4, none⟩ = some (.slice (some ⟨b2, off2, none⟩) N c') ∧ w'.cell? ⟨b, off + i * 5, none⟩ = some (.bool l1) ∧ w'.cell? ⟨b, off + i * 5 + 1, none⟩ = some (.int .u8 k1) ∧ w'.cell? ⟨b, off + i * 5 + 2, none⟩ = some (.string s1) ∧ w'.cell? ⟨b, off + i * 5 + 3, none⟩ = some (.int .i64 a1) ∧ w'.cell? ⟨b, off + i * 5 + 4, none⟩ = some (.slice q3 n3 cc3) ∧ w'.cell? ⟨b2, off2 + i * 5, none⟩ = some (.bool l2) ∧ w'.cell? ⟨b2, off2 + i * 5 + 1, none⟩ = some (.int .u8 k2) ∧ w'.cell? ⟨b2, off2 + i * 5 + 2, none⟩ = some (.string s2) ∧ w'.cell? ⟨b2, off2 + i * 5 + 3, none⟩ = some (.int .i64 a2) ∧ w'.cell? ⟨b2, off2 + i * 5 + 4, none⟩ = some (.slice q4 n4 cc4)) (first | exact HKP.out _ (below_drew _) | exact HKP.out _ (Below.refl _ _) | assumption) (first | (go_at_call 15; refine (HCC.out _ (by assumption)).mono ?_; rintro e w' ⟨rfl, hs⟩))
     have HW := Lib.hid hs.1
     have HSS := Lib.hid hs
     have z3 := hs.2.1
     have z4 := hs.2.2.1
     clear hs
     cases r with
     | false =>
      go_wp2_with fail
      go_ret
      refine ⟨by rw [HS.out.2.2.1]; rfl, ?_⟩
      exact HBB.out.trans (HW.out.mono HBB.out.size)
     | true =>
      go_wp2_with fail
      go_roundg G
      case measure => omega
      case rel =>
       obtain ⟨i', hi'⟩ : ∃ i', i' = i + 1 := ⟨_, rfl⟩
       refine ⟨i', r1, r2, by have := HG.out; omega, by rw [hi']; go_num, Lib.hid ⟨HS.out.1, HS.out.2.1, by rw [HS.out.2.2.1]; rfl, HS.out.2.2.2, ?_, ?_, HSS.out.2.1, HSS.out.2.2.1, HBB.out.trans (HW.out.mono HBB.out.size)⟩⟩
       ·rw [hi']; exact HR.out.1.later HW.out
       ·rw [hi']; exact HR.out.2.later HW.out
  ·obtain rfl : i = N := by omega
   obtain rfl : gk = 0 := by have := HG.out; omega
   obtain ⟨hf, hf', hR, -, -, -, -, -, hb⟩ := HK.out
   have hR2 : R = true := by
    cases f with
    | cons => simp [Fo.len] at hf
    | nil => cases f' with
     | cons => simp [Fo.len] at hf'
     | nil => exact hR
   have HBB := Lib.hid hb
   clear hf hf' hR hb
   subst hR2
   go_wp2_with fail
   go_ret
   exact ⟨rfl, by first | exact HBB.out | exact bdd HBB.out⟩
theorem same23_any (n : Nat) : SameP 15 n := Nat.strongRecOn n fun n ih => same23_step n ih
end Go.Proofs.YtookoagcmejkpaaGreatDoor
namespace Go.Proofs.YtookoagcmejkpaaGreatDoor.Lx
def spB (c : UInt8) : Bool := c == 9 || c == 10 || c == 13 || c == 32
def dgB (c : UInt8) : Bool := 48 ≤ c && c ≤ 57
def hxB (c : UInt8) : Bool := dgB c || (65 ≤ c && c ≤ 70) || (97 ≤ c && c ≤ 102)
def extraL : List UInt8 := [126, 33, 64, 36, 37, 94, 38, 42, 95, 45, 43, 61, 60, 62, 46, 63, 47]
def syB (c : UInt8) : Bool := dgB c || (65 ≤ c && c ≤ 90) || (97 ≤ c && c ≤ 122) || extraL.contains c
def txB (c : UInt8) : Bool := (32 ≤ c && c ≤ 126) || c > 127 || spB c
def clB (c : UInt8) : Nat := (if spB c then 1 else 0) + (if syB c then 2 else 0) + (if dgB c then 4 else 0) + (if hxB c then 8 else 0) + (if txB c then 16 else 0)

def skipM : Bool → List UInt8 → Nat
 | _, [] => 0
 | true, c :: s => if c == 10 then 1 + skipM false s else 1 + skipM true s
 | false, c :: s => if spB c then 1 + skipM false s else if c == 59 then 1 + skipM true s else 0

inductive Res where
 | tok (kind : Nat) (text : List UInt8) (n : Nat)
 | err (e : Nat)
deriving DecidableEq

def quo : List UInt8 → List UInt8 → Res
 | _, [] => .err 31
 | acc, c :: s => if c == 124 then .tok 3 acc (acc.length + 2) else if c == 92 || !txB c then .err 30 else quo (acc ++ [c]) s
def lit : Bool → List UInt8 → Nat → List UInt8 → Res
 | true, acc, n, [] => .tok 5 acc n
 | false, _, _, [] => .err 31
 | true, acc, n, c :: s => if c == 34 then lit false (acc ++ [34]) (n + 1) s else .tok 5 acc n
 | false, acc, n, c :: s => if !txB c then .err 30 else if c == 34 then lit true acc (n + 1) s else lit false (acc ++ [c]) (n + 1) s
def allB (p : UInt8 → Bool) (l : List UInt8) : Bool := l.all p && !l.isEmpty
def wordL (s : List UInt8) : List UInt8 := s.takeWhile syB
def plainR (w : List UInt8) : Res :=
 if !(dgB (w.getD 0 0)) then .tok 3 w w.length
 else
  let whole := w.takeWhile (· != 46)
  let part := (w.dropWhile (· != 46)).drop 1
  if !allB dgB whole || (whole.getD 0 0 == 48 && decide (1 < whole.length)) then .err 5
  else if !w.contains 46 then .tok 4 w w.length
  else if !allB dgB part then .err 5
  else .tok 7 w w.length
def basedR (w : List UInt8) : Res :=
 if w.isEmpty then .err 30
 else if (w.getD 0 0 == 120 && allB hxB (w.drop 1)) || (w.getD 0 0 == 98 && allB (fun c => c == 48 || c == 49) (w.drop 1)) then .tok 7 (35 :: w) (w.length + 1)
 else .err 5
def keyR (w : List UInt8) : Res := if w.isEmpty then .err 30 else .tok 6 w (w.length + 1)
def oneR : List UInt8 → Res
 | [] => .err 0
 | c :: s =>
  if c == 40 then .tok 1 [40] 1
  else if c == 41 then .tok 2 [41] 1
  else if c == 124 then quo [] s
  else if c == 34 then lit false [] 1 s
  else if c == 58 then keyR (wordL s)
  else if c == 35 then basedR (wordL s)
  else if syB c then plainR (wordL (c :: s))
  else .err 30

structure Tk where
 kind : Nat
 text : List UInt8
 at_ : Nat
deriving DecidableEq

inductive Toks (b : List UInt8) : Nat → List Tk → Nat → Nat → Prop
 | done {at_ : Nat} : b.length ≤ at_ + skipM false (b.drop at_) → Toks b at_ [] b.length 0
 | bad {at_ e : Nat} : at_ + skipM false (b.drop at_) < b.length → oneR (b.drop (at_ + skipM false (b.drop at_))) = .err e → Toks b at_ [] (at_ + skipM false (b.drop at_)) e
 | step {at_ k n p e : Nat} {t : List UInt8} {l : List Tk} : at_ + skipM false (b.drop at_) < b.length → oneR (b.drop (at_ + skipM false (b.drop at_))) = .tok k t n → Toks b (at_ + skipM false (b.drop at_) + n) l p e →
   Toks b at_ (⟨k, t, at_ + skipM false (b.drop at_)⟩ :: l) p e
def plainB (s : List UInt8) : Bool := s.all syB && !s.isEmpty && !(dgB (s.getD 0 0))

theorem quo_n : ∀ (s acc : List UInt8) {k n : Nat} {t : List UInt8}, quo acc s = .tok k t n → k = 3 ∧ n = t.length + 2 ∧ n ≤ acc.length + 1 + s.length
 | [], acc, k, n, t, h => by simp [quo] at h
 | c :: s, acc, k, n, t, h => by
  simp only [quo] at h
  split at h
  ·cases h; simp; omega
  ·split at h
   ·cases h
   ·have := quo_n s _ h; simp at this ⊢; omega
theorem lit_n : ∀ (s : List UInt8) (m : Bool) (acc : List UInt8) (i : Nat) {k n : Nat} {t : List UInt8}, lit m acc i s = .tok k t n → k = 5 ∧ i ≤ n ∧ n ≤ i + s.length ∧ t.length + i ≤ n + acc.length
 | [], true, acc, i, k, n, t, h => by simp only [lit] at h; cases h; simp; omega
 | [], false, acc, i, k, n, t, h => by simp [lit] at h
 | c :: s, true, acc, i, k, n, t, h => by
  simp only [lit] at h
  split at h
  ·have := lit_n s _ _ _ h; simp at this ⊢; omega
  ·cases h; simp; omega
 | c :: s, false, acc, i, k, n, t, h => by
  simp only [lit] at h
  split at h
  ·cases h
  ·split at h
   ·have := lit_n s _ _ _ h; simp at this ⊢; omega
   ·have := lit_n s _ _ _ h; simp at this ⊢; omega
theorem plainR_n {w : List UInt8} {k n : Nat} {t : List UInt8} (h : plainR w = .tok k t n) : t = w ∧ n = w.length ∧ (k = 3 ∨ k = 4 ∨ k = 7) := by
 unfold plainR at h
 split at h
 ·cases h; simp
 ·simp only at h
  split at h
  ·cases h
  ·split at h
   ·cases h; simp
   ·split at h
    ·cases h
    ·cases h; simp
theorem word_le (s : List UInt8) : (wordL s).length ≤ s.length := (List.takeWhile_sublist syB).length_le
theorem one_n {s : List UInt8} {k n : Nat} {t : List UInt8} (h : oneR s = .tok k t n) : 1 ≤ n ∧ n ≤ s.length ∧ t.length ≤ n ∧ k < 8 := by
 cases s with
 | nil => simp [oneR] at h
 | cons c s =>
  simp only [oneR] at h
  have hw := word_le s
  split at h
  ·cases h; simp
  ·split at h
   ·cases h; simp
   ·split at h
    ·have := quo_n _ _ h; simp at this ⊢; omega
    ·split at h
     ·have := lit_n _ _ _ _ h; simp at this ⊢; omega
     ·split at h
      ·unfold keyR at h
       split at h
       ·cases h
       ·cases h; simp; omega
      ·split at h
       ·unfold basedR at h
        split at h
        ·cases h
        ·split at h
         ·cases h; simp; omega
         ·cases h
       ·split at h
        ·rename_i hs
         obtain ⟨rfl, rfl, hk⟩ := plainR_n h
         have h1 := word_le (c :: s)
         have h2 : 1 ≤ (wordL (c :: s)).length := by unfold wordL; rw [List.takeWhile_cons, if_pos hs]; simp
         refine ⟨h2, h1, Nat.le_refl _, by omega⟩
        ·cases h
theorem Toks.uniq {b : List UInt8} {at_ : Nat} {l : List Tk} {p e : Nat} (h : Toks b at_ l p e) : ∀ {l' : List Tk} {p' e' : Nat}, Toks b at_ l' p' e' → l = l' ∧ p = p' ∧ e = e' := by
 induction h with
 | done h1 =>
  intro l' p' e' h'
  cases h' with
  | done _ => exact ⟨rfl, rfl, rfl⟩
  | bad g1 _ => omega
  | step g1 _ _ => omega
 | bad h1 h2 =>
  intro l' p' e' h'
  cases h' with
  | done _ => omega
  | bad g1 g2 => rw [h2] at g2; cases g2; exact ⟨rfl, rfl, rfl⟩
  | step g1 g2 _ => rw [h2] at g2; cases g2
 | step h1 h2 h3 ih =>
  intro l' p' e' h'
  cases h' with
  | done _ => omega
  | bad g1 g2 => rw [h2] at g2; cases g2
  | step g1 g2 g3 =>
   rw [h2] at g2; cases g2
   obtain ⟨rfl, rfl, rfl⟩ := ih g3
   exact ⟨rfl, rfl, rfl⟩
def dblL : List UInt8 → List UInt8
 | [] => []
 | c :: s => if c == 34 then 34 :: 34 :: dblL s else c :: dblL s
def rendL (k : Nat) (t : List UInt8) : List UInt8 :=
 if k == 3 then (if plainB t then t else 124 :: (t ++ [124]))
 else if k == 5 then 34 :: (dblL t ++ [34])
 else if k == 6 then 58 :: t
 else t
def sepB (c : UInt8) : Bool := spB c || c == 59
def SepR (r : List UInt8) : Prop := r = [] ∨ ∃ c r', r = c :: r' ∧ sepB c = true
theorem u8_all {p : UInt8 → Bool} (h : (List.range 256).all (fun n => p (UInt8.ofNat n)) = true) (c : UInt8) : p c = true := by
 have := List.all_eq_true.1 h c.toNat (by simp; exact c.toNat_lt)
 simpa using this
theorem sep_not (c : UInt8) (h : sepB c = true) : syB c = false ∧ c ≠ 34 := by
 have := u8_all (p := fun c => !sepB c || (!syB c && c != 34)) (by decide +kernel) c
 simpa [h] using this
theorem SepR.tw {r : List UInt8} (h : SepR r) : r.takeWhile syB = [] := by
 rcases h with rfl | ⟨c, r', rfl, h⟩
 ·rfl
 ·simp [(sep_not c h).1]
theorem word_app {w r : List UInt8} (hw : w.all syB = true) (h : SepR r) : wordL (w ++ r) = w := by
 unfold wordL
 rw [List.takeWhile_append_of_pos (by simpa using hw), h.tw, List.append_nil]
def inB (c : UInt8) : Bool := txB c && c != 124 && c != 92
theorem quo_app : ∀ (t acc r : List UInt8), t.all inB = true → quo acc (t ++ 124 :: r) = .tok 3 (acc ++ t) (acc.length + t.length + 2)
 | [], acc, r, _ => by simp [quo]
 | c :: t, acc, r, h => by
  simp only [List.all_cons, Bool.and_eq_true, inB] at h
  obtain ⟨⟨⟨h1, h2⟩, h3⟩, h4⟩ := h
  simp only [List.cons_append, quo]
  rw [if_neg (by simpa using h2), if_neg (by simp at h3; simp [h3, h1]), quo_app t _ r h4]
  simp; omega
theorem lit_app : ∀ (t acc : List UInt8) (i : Nat) (r : List UInt8), t.all txB = true → SepR r → lit false acc i (dblL t ++ 34 :: r) = .tok 5 (acc ++ t) (i + (dblL t).length + 1)
 | [], acc, i, r, _, h => by
  have h34 : txB 34 = true := by decide
  simp only [dblL, List.nil_append, lit, h34]
  rcases h with rfl | ⟨c, r', rfl, hc⟩
  ·simp [lit]
  ·simp [lit, (sep_not c hc).2]
 | c :: t, acc, i, r, h, hr => by
  simp only [List.all_cons, Bool.and_eq_true] at h
  simp only [dblL]
  split
  ·rename_i hc
   have hc : c = 34 := by simpa using hc
   subst hc
   have h34 : txB 34 = true := by decide
   simp only [List.cons_append, lit, h34]
   simp only [Bool.not_true, Bool.false_eq_true, if_false, beq_self_eq_true, if_true]
   rw [lit_app t _ _ r h.2 hr]; simp; omega
  ·rename_i hc
   simp only [List.cons_append, lit]
   rw [if_neg (by simp [h.1]), if_neg hc, lit_app t _ _ r h.2 hr]; simp; omega
inductive GoodT : Nat → List UInt8 → Prop
 | op : GoodT 1 [40]
 | cl : GoodT 2 [41]
 | sym {t} : plainB t = true ∨ t.all inB = true → GoodT 3 t
 | str {t} : t.all txB = true → GoodT 5 t
 | key {t} : t.all syB = true → t ≠ [] → GoodT 6 t
 | num {k t} : (k = 4 ∨ k = 7) → t.all syB = true → t ≠ [] → plainR t = .tok k t t.length → dgB (t.getD 0 0) = true → GoodT k t
 | bas {w} : w.all syB = true → basedR w = .tok 7 (35 :: w) (w.length + 1) → GoodT 7 (35 :: w)
theorem quo_good : ∀ (s acc : List UInt8) {k n : Nat} {t : List UInt8}, quo acc s = .tok k t n → acc.all inB = true → t.all inB = true
 | [], acc, k, n, t, h, _ => by simp [quo] at h
 | c :: s, acc, k, n, t, h, ha => by
  simp only [quo] at h
  split at h
  ·cases h; exact ha
  ·split at h
   ·cases h
   ·rename_i h1 h2
    refine quo_good s _ h ?_
    simp only [List.all_append, List.all_cons, List.all_nil, Bool.and_true, ha, Bool.true_and]
    simp at h1 h2
    simp [inB, h1, h2]
theorem lit_good : ∀ (s : List UInt8) (m : Bool) (acc : List UInt8) (i : Nat) {k n : Nat} {t : List UInt8}, lit m acc i s = .tok k t n → acc.all txB = true → t.all txB = true
 | [], true, acc, i, k, n, t, h, ha => by simp only [lit] at h; cases h; exact ha
 | [], false, acc, i, k, n, t, h, ha => by simp [lit] at h
 | c :: s, true, acc, i, k, n, t, h, ha => by
  simp only [lit] at h
  split at h
  ·refine lit_good s _ _ _ h ?_
   have h34 : txB 34 = true := by decide
   simp only [List.all_append, ha, List.all_cons, h34, List.all_nil, Bool.and_self]
  ·cases h; exact ha
 | c :: s, false, acc, i, k, n, t, h, ha => by
  simp only [lit] at h
  split at h
  ·cases h
  ·rename_i h1
   split at h
   ·exact lit_good s _ _ _ h ha
   ·refine lit_good s _ _ _ h ?_
    simp at h1 ha
    simp [h1]; exact ha
theorem word_all (s : List UInt8) : (wordL s).all syB = true := by unfold wordL; exact List.all_takeWhile
theorem one_good {s : List UInt8} {k n : Nat} {t : List UInt8} (h : oneR s = .tok k t n) : GoodT k t := by
 cases s with
 | nil => simp [oneR] at h
 | cons c s =>
  simp only [oneR] at h
  split at h
  ·cases h; exact .op
  ·split at h
   ·cases h; exact .cl
   ·split at h
    ·have hk := (quo_n _ _ h).1
     subst hk
     exact .sym (.inr (quo_good _ _ h rfl))
    ·split at h
     ·have hk := (lit_n _ _ _ _ h).1
      subst hk
      exact .str (lit_good _ _ _ _ h rfl)
     ·split at h
      ·unfold keyR at h
       split at h
       ·cases h
       ·rename_i he
        cases h; exact .key (word_all _) (by simpa using he)
      ·split at h
       ·have h' := h
        unfold basedR at h
        split at h
        ·cases h
        ·split at h
         ·cases h; exact .bas (word_all _) h'
         ·cases h
       ·split at h
        ·rename_i hs
         have hne : wordL (c :: s) ≠ [] := by unfold wordL; rw [List.takeWhile_cons, if_pos hs]; simp
         obtain ⟨rfl, rfl, hk⟩ := plainR_n h
         by_cases hd : dgB ((wordL (c :: s)).getD 0 0) = true
         ·have hk2 : k = 4 ∨ k = 7 := by
           unfold plainR at h
           rw [if_neg (by rw [hd]; decide)] at h
           simp only at h
           split at h
           ·cases h
           ·split at h
            ·cases h; exact .inl rfl
            ·split at h
             ·cases h
             ·cases h; exact .inr rfl
          exact .num hk2 (word_all _) hne h hd
         ·have hd' : dgB ((wordL (c :: s)).getD 0 0) = false := by simpa using hd
          have : k = 3 := by
           unfold plainR at h
           rw [if_pos (by rw [hd']; decide)] at h
           cases h; rfl
          subst this
          refine .sym (.inl ?_)
          unfold plainB
          simp only [Bool.and_eq_true, Bool.not_eq_true']
          exact ⟨⟨word_all _, by simpa using hne⟩, hd'⟩
        ·cases h
theorem Toks.good {b : List UInt8} {at_ : Nat} {l : List Tk} {p e : Nat} (h : Toks b at_ l p e) : ∀ t ∈ l, GoodT t.kind t.text := by
 induction h with
 | done _ => simp
 | bad _ _ => simp
 | step _ h2 _ ih =>
  intro t ht
  rcases List.mem_cons.1 ht with rfl | ht
  ·exact one_good h2
  ·exact ih t ht
theorem sy_plain_not (c : UInt8) (h : syB c = true) : c ≠ 40 ∧ c ≠ 41 ∧ c ≠ 124 ∧ c ≠ 34 ∧ c ≠ 58 ∧ c ≠ 35 ∧ c ≠ 59 ∧ spB c = false := by
 have := u8_all (p := fun c => !syB c || (c != 40 && c != 41 && c != 124 && c != 34 && c != 58 && c != 35 && c != 59 && !spB c)) (by decide +kernel) c
 simp [h] at this
 simp [this]
theorem one_word {w r : List UInt8} (hw : w.all syB = true) (hne : w ≠ []) (hr : SepR r) : oneR (w ++ r) = plainR w := by
 cases w with
 | nil => exact absurd rfl hne
 | cons c w =>
  have hc : syB c = true := by simp at hw; exact hw.1
  have h := sy_plain_not c hc
  have hw2 := word_app hw hr
  simp only [List.cons_append] at hw2 ⊢
  simp only [oneR, hw2]
  simp [h, hc]
def HeadR (s : List UInt8) : Prop := ∃ c s', s = c :: s' ∧ spB c = false ∧ c ≠ 59
theorem rend_head {k : Nat} {t : List UInt8} (h : GoodT k t) : HeadR (rendL k t) := by
 have word : ∀ w : List UInt8, w.all syB = true → w ≠ [] → HeadR w := fun w hw hne => by
  cases w with
  | nil => exact absurd rfl hne
  | cons c w =>
   have hc : syB c = true := by simp at hw; exact hw.1
   have h := sy_plain_not c hc
   exact ⟨c, w, rfl, h.2.2.2.2.2.2.2, h.2.2.2.2.2.2.1⟩
 cases h with
 | op => exact ⟨40, [], rfl, by decide, by decide⟩
 | cl => exact ⟨41, [], rfl, by decide, by decide⟩
 | sym h =>
  by_cases hp : plainB t = true
  ·simp only [rendL, hp]
   simp only [beq_self_eq_true, if_true]
   simp only [plainB, Bool.and_eq_true, Bool.not_eq_true'] at hp
   exact word t hp.1.1 (by simpa using hp.1.2)
  ·simp only [rendL, hp]
   exact ⟨124, _, rfl, by decide, by decide⟩
 | str h => exact ⟨34, _, rfl, by decide, by decide⟩
 | key h hne => exact ⟨58, _, rfl, by decide, by decide⟩
 | num hk h hne _ _ => rcases hk with rfl | rfl <;> exact word t h hne
 | bas h _ => exact ⟨35, _, rfl, by decide, by decide⟩
theorem plain_word {t : List UInt8} (h : plainB t = true) : t.all syB = true ∧ t ≠ [] ∧ plainR t = .tok 3 t t.length := by
 simp only [plainB, Bool.and_eq_true, Bool.not_eq_true'] at h
 refine ⟨h.1.1, by simpa using h.1.2, ?_⟩
 unfold plainR
 rw [if_pos (by rw [h.2]; decide)]
theorem one_rend {k : Nat} {t r : List UInt8} (h : GoodT k t) (hr : SepR r) : oneR (rendL k t ++ r) = .tok k t (rendL k t).length := by
 cases h with
 | op => rfl
 | cl => rfl
 | sym h =>
  by_cases hp : plainB t = true
  ·have hw := plain_word hp
   simp only [rendL, hp]
   simp only [beq_self_eq_true, if_true]
   rw [one_word hw.1 hw.2.1 hr, hw.2.2]
  ·have h : t.all inB = true := h.resolve_left hp
   simp only [rendL, hp]
   have := quo_app t [] r h
   simp [oneR, this]
 | str h =>
  have := lit_app t [] 1 r h hr
  simp [rendL, oneR, this]; omega
 | key h hne =>
  have := word_app h hr
  simp [rendL, oneR, this, keyR, hne]
 | num hk h hne hp hd =>
  have : rendL k t = t := by rcases hk with rfl | rfl <;> rfl
  rw [this, one_word h hne hr, hp]
 | @bas w h hb =>
  have hw := word_app h hr
  have : rendL 7 (35 :: w) = 35 :: w := rfl
  rw [this]
  simp only [List.cons_append, oneR, hw, hb]
  simp
theorem head_skip {s : List UInt8} (h : HeadR s) (r : List UInt8) : skipM false (s ++ r) = 0 := by
 obtain ⟨c, s', rfl, h1, h2⟩ := h
 simp [skipM, h1, h2]
theorem alone {k : Nat} {t : List UInt8} (h : GoodT k t) : Toks (rendL k t) 0 [⟨k, t, 0⟩] (rendL k t).length 0 := by
 have h1 := head_skip (rend_head h) []
 have h2 := one_rend h (.inl rfl)
 have h3 := one_n h2
 simp only [List.append_nil] at h1 h2 h3
 have hd : (rendL k t).drop 0 = rendL k t := rfl
 have := Toks.step (b := rendL k t) (at_ := 0) (k := k) (n := (rendL k t).length) (t := t) (l := []) (p := (rendL k t).length) (e := 0) (by rw [hd, h1]; omega) (by rw [hd, h1]; exact h2)
  (by rw [hd, h1]; exact .done (by omega))
 rw [hd, h1] at this
 exact this
end Go.Proofs.YtookoagcmejkpaaGreatDoor.Lx
namespace Go.Proofs
open Go.Shelf
def Tryz.lays160_ren : Go.Shelf.Ren := ⟨fun | 160 => 158 | 232 => 163 | 231 => 162 | 227 => 164 | 234 => 166 | 233 => 165 | 236 => 168 | 235 => 167 | 228 => 170 | 271 => 172 | 151 => 171 | 197 => 133 | 120 => 174 | 152 => 173 | 260 => 144 | 137 => 175 | 119 => 176 | 224 => 154 | 225 => 153 | 217 => 152 | 266 => 160 | n => n, fun | 9 => 9 | 4 => 4 | 3 => 3 | 5 => 5 | 117 => 212 | 116 => 211 | 0 => 0 | 124 => 215 | 21 => 21 | 105 => 180 | 46 => 191 | 119 => 197 | 139 => 200 | 138 => 199 | n => n, fun | 3 => 2 | 4 => 3 | n => n⟩
theorem Tryz.lays160 : Go.Proofs.Lays.n160 Tryz.prog Tryz.lays160_ren := {
 mixed := by kernel_rfl
 f119 := Tryz.func176.trans (congrArg some (by kernel_rfl))
 f120 := Tryz.func174.trans (congrArg some (by kernel_rfl))
 f137 := Tryz.func175.trans (congrArg some (by kernel_rfl))
 f151 := Tryz.func171.trans (congrArg some (by kernel_rfl))
 f152 := Tryz.func173.trans (congrArg some (by kernel_rfl))
 f160 := Tryz.func158.trans (congrArg some (by kernel_rfl))
 f197 := Tryz.func133.trans (congrArg some (by kernel_rfl))
 f217 := Tryz.func152.trans (congrArg some (by kernel_rfl))
 f224 := Tryz.func154.trans (congrArg some (by kernel_rfl))
 f225 := Tryz.func153.trans (congrArg some (by kernel_rfl))
 f227 := Tryz.func164.trans (congrArg some (by kernel_rfl))
 f228 := Tryz.func170.trans (congrArg some (by kernel_rfl))
 f231 := Tryz.func162.trans (congrArg some (by kernel_rfl))
 f232 := Tryz.func163.trans (congrArg some (by kernel_rfl))
 f233 := Tryz.func165.trans (congrArg some (by kernel_rfl))
 f234 := Tryz.func166.trans (congrArg some (by kernel_rfl))
 f235 := Tryz.func167.trans (congrArg some (by kernel_rfl))
 f236 := Tryz.func168.trans (congrArg some (by kernel_rfl))
 f260 := Tryz.func144.trans (congrArg some (by kernel_rfl))
 f266 := Tryz.func160.trans (congrArg some (by kernel_rfl))
 f271 := Tryz.func172.trans (congrArg some (by kernel_rfl))
 t0 := Tryz.underlying0
 a0 := Tryz.isAgg0
 z0 := Tryz.sizeOf0
 v0 := Tryz.zeroValue0
 t3 := Tryz.underlying3
 a3 := Tryz.isAgg3
 z3 := Tryz.sizeOf3
 v3 := Tryz.zeroValue3
 t4 := Tryz.underlying4
 a4 := Tryz.isAgg4
 z4 := Tryz.sizeOf4
 v4 := Tryz.zeroValue4
 t5 := Tryz.underlying5
 a5 := Tryz.isAgg5
 z5 := Tryz.sizeOf5
 v5 := Tryz.zeroValue5
 t9 := Tryz.underlying9
 a9 := Tryz.isAgg9
 z9 := Tryz.sizeOf9
 v9 := Tryz.zeroValue9
 t21 := Tryz.underlying21
 a21 := Tryz.isAgg21
 z21 := Tryz.sizeOf21
 v21 := Tryz.zeroValue21
 t46 := Tryz.underlying191
 a46 := Tryz.isAgg191
 z46 := Tryz.sizeOf191
 v46 := Tryz.zeroValue191
 t105 := Tryz.underlying180
 a105 := Tryz.isAgg180
 z105 := Tryz.sizeOf180
 v105 := Tryz.zeroValue180
 t116 := Tryz.underlying211
 a116 := Tryz.isAgg211
 z116 := Tryz.sizeOf211
 t117 := Tryz.underlying212
 a117 := Tryz.isAgg212
 z117 := Tryz.sizeOf212
 v117 := Tryz.zeroValue212
 t119 := Tryz.underlying197
 a119 := Tryz.isAgg197
 z119 := Tryz.sizeOf197
 t124 := Tryz.underlying215
 a124 := Tryz.isAgg215
 z124 := Tryz.sizeOf215
 v124 := Tryz.zeroValue215
 t138 := Tryz.underlying199
 a138 := Tryz.isAgg199
 z138 := Tryz.sizeOf199
 v138 := Tryz.zeroValue199
 t139 := Tryz.underlying200
 a139 := Tryz.isAgg200
 z139 := Tryz.sizeOf200
 v139 := Tryz.zeroValue200
 g3 := by kernel_rfl
 g4 := by kernel_rfl }
def Tryz.lays219_ren : Go.Shelf.Ren := ⟨fun | 219 => 143 | 217 => 152 | 225 => 153 | 224 => 154 | 267 => 155 | 266 => 160 | 314 => 161 | n => n, fun | 9 => 9 | 3 => 3 | 4 => 4 | 5 => 5 | 46 => 191 | 146 => 207 | 51 => 189 | n => n, fun | 1 => 0 | n => n⟩
theorem Tryz.lays219 : Go.Proofs.Lays.n219 Tryz.prog Tryz.lays219_ren := {
 mixed := by kernel_rfl
 f217 := Tryz.func152.trans (congrArg some (by kernel_rfl))
 f219 := Tryz.func143.trans (congrArg some (by kernel_rfl))
 f224 := Tryz.func154.trans (congrArg some (by kernel_rfl))
 f225 := Tryz.func153.trans (congrArg some (by kernel_rfl))
 f266 := Tryz.func160.trans (congrArg some (by kernel_rfl))
 f267 := Tryz.func155.trans (congrArg some (by kernel_rfl))
 f314 := Tryz.func161.trans (congrArg some (by kernel_rfl))
 t3 := Tryz.underlying3
 a3 := Tryz.isAgg3
 z3 := Tryz.sizeOf3
 v3 := Tryz.zeroValue3
 t4 := Tryz.underlying4
 a4 := Tryz.isAgg4
 z4 := Tryz.sizeOf4
 v4 := Tryz.zeroValue4
 t5 := Tryz.underlying5
 a5 := Tryz.isAgg5
 z5 := Tryz.sizeOf5
 v5 := Tryz.zeroValue5
 t9 := Tryz.underlying9
 a9 := Tryz.isAgg9
 z9 := Tryz.sizeOf9
 v9 := Tryz.zeroValue9
 t46 := Tryz.underlying191
 a46 := Tryz.isAgg191
 z46 := Tryz.sizeOf191
 v46 := Tryz.zeroValue191
 t51 := Tryz.underlying189
 a51 := Tryz.isAgg189
 z51 := Tryz.sizeOf189
 v51 := Tryz.zeroValue189
 t146 := Tryz.underlying207
 a146 := Tryz.isAgg207
 z146 := Tryz.sizeOf207
 v146 := Tryz.zeroValue207
 g1 := by kernel_rfl }
open Go.RowKit Go.Lib in
theorem Tryz.stringslite_Index_one (s : ByteArray) (c : UInt8) (w : World) :
  Calls Tryz.prog 143 #[.string s, .string ⟨#[c]⟩] w fun e w' => e = .returned (.int .i64 (Lib.indexByte s.data.toList c)) ∧ w' = w := Any.stringslite_Index_one Tryz.lays219 s c w
def Tryz.lays155_ren : Go.Shelf.Ren := ⟨fun | 155 => 114 | 154 => 122 | 138 => 131 | 165 => 104 | 143 => 132 | 166 => 105 | 197 => 133 | 169 => 106 | 195 => 141 | 218 => 142 | 240 => 117 | 241 => 118 | 219 => 143 | 260 => 144 | 276 => 124 | 277 => 125 | 217 => 152 | 225 => 153 | 224 => 154 | 267 => 155 | 266 => 160 | 314 => 161 | n => n, fun | 9 => 9 | 3 => 3 | 4 => 4 | 72 => 151 | 0 => 0 | 76 => 155 | 105 => 180 | 21 => 21 | 5 => 5 | 70 => 149 | 20 => 20 | 37 => 57 | 75 => 154 | 127 => 163 | 164 => 168 | 46 => 191 | 119 => 197 | 139 => 200 | 138 => 199 | 146 => 207 | 51 => 189 | 80 => 157 | n => n, fun | 1 => 0 | 3 => 2 | 4 => 3 | n => n⟩
theorem Tryz.lays155 : Go.Proofs.Lays.n155 Tryz.prog Tryz.lays155_ren := {
 mixed := by kernel_rfl
 f138 := Tryz.func131.trans (congrArg some (by kernel_rfl))
 f143 := Tryz.func132.trans (congrArg some (by kernel_rfl))
 f154 := Tryz.func122.trans (congrArg some (by kernel_rfl))
 f155 := Tryz.func114.trans (congrArg some (by kernel_rfl))
 f165 := Tryz.func104.trans (congrArg some (by kernel_rfl))
 f166 := Tryz.func105.trans (congrArg some (by kernel_rfl))
 f169 := Tryz.func106.trans (congrArg some (by kernel_rfl))
 f195 := Tryz.func141.trans (congrArg some (by kernel_rfl))
 f197 := Tryz.func133.trans (congrArg some (by kernel_rfl))
 f217 := Tryz.func152.trans (congrArg some (by kernel_rfl))
 f218 := Tryz.func142.trans (congrArg some (by kernel_rfl))
 f219 := Tryz.func143.trans (congrArg some (by kernel_rfl))
 f224 := Tryz.func154.trans (congrArg some (by kernel_rfl))
 f225 := Tryz.func153.trans (congrArg some (by kernel_rfl))
 f240 := Tryz.func117.trans (congrArg some (by kernel_rfl))
 f241 := Tryz.func118.trans (congrArg some (by kernel_rfl))
 f260 := Tryz.func144.trans (congrArg some (by kernel_rfl))
 f266 := Tryz.func160.trans (congrArg some (by kernel_rfl))
 f267 := Tryz.func155.trans (congrArg some (by kernel_rfl))
 f276 := Tryz.func124.trans (congrArg some (by kernel_rfl))
 f277 := Tryz.func125.trans (congrArg some (by kernel_rfl))
 f314 := Tryz.func161.trans (congrArg some (by kernel_rfl))
 t0 := Tryz.underlying0
 a0 := Tryz.isAgg0
 z0 := Tryz.sizeOf0
 v0 := Tryz.zeroValue0
 t3 := Tryz.underlying3
 a3 := Tryz.isAgg3
 z3 := Tryz.sizeOf3
 v3 := Tryz.zeroValue3
 t4 := Tryz.underlying4
 a4 := Tryz.isAgg4
 z4 := Tryz.sizeOf4
 v4 := Tryz.zeroValue4
 t5 := Tryz.underlying5
 a5 := Tryz.isAgg5
 z5 := Tryz.sizeOf5
 v5 := Tryz.zeroValue5
 t9 := Tryz.underlying9
 a9 := Tryz.isAgg9
 z9 := Tryz.sizeOf9
 v9 := Tryz.zeroValue9
 t20 := Tryz.underlying20
 a20 := Tryz.isAgg20
 z20 := Tryz.sizeOf20
 v20 := Tryz.zeroValue20
 t21 := Tryz.underlying21
 a21 := Tryz.isAgg21
 z21 := Tryz.sizeOf21
 v21 := Tryz.zeroValue21
 t37 := Tryz.underlying57
 a37 := Tryz.isAgg57
 z37 := Tryz.sizeOf57
 v37 := Tryz.zeroValue57
 t46 := Tryz.underlying191
 a46 := Tryz.isAgg191
 z46 := Tryz.sizeOf191
 v46 := Tryz.zeroValue191
 t51 := Tryz.underlying189
 a51 := Tryz.isAgg189
 z51 := Tryz.sizeOf189
 v51 := Tryz.zeroValue189
 t70 := Tryz.underlying149
 a70 := Tryz.isAgg149
 z70 := Tryz.sizeOf149
 v70 := Tryz.zeroValue149
 t72 := Tryz.underlying151
 a72 := Tryz.isAgg151
 z72 := Tryz.sizeOf151
 v72 := Tryz.zeroValue151
 t75 := Tryz.underlying154
 a75 := Tryz.isAgg154
 z75 := Tryz.sizeOf154
 v75 := Tryz.zeroValue154
 t76 := Tryz.underlying155
 a76 := Tryz.isAgg155
 z76 := Tryz.sizeOf155
 v76 := Tryz.zeroValue155
 t105 := Tryz.underlying180
 a105 := Tryz.isAgg180
 z105 := Tryz.sizeOf180
 v105 := Tryz.zeroValue180
 t119 := Tryz.underlying197
 a119 := Tryz.isAgg197
 z119 := Tryz.sizeOf197
 t127 := Tryz.underlying163
 a127 := Tryz.isAgg163
 z127 := Tryz.sizeOf163
 v127 := Tryz.zeroValue163
 t138 := Tryz.underlying199
 a138 := Tryz.isAgg199
 z138 := Tryz.sizeOf199
 v138 := Tryz.zeroValue199
 t139 := Tryz.underlying200
 a139 := Tryz.isAgg200
 z139 := Tryz.sizeOf200
 v139 := Tryz.zeroValue200
 t146 := Tryz.underlying207
 a146 := Tryz.isAgg207
 z146 := Tryz.sizeOf207
 v146 := Tryz.zeroValue207
 t164 := Tryz.underlying168
 a164 := Tryz.isAgg168
 z164 := Tryz.sizeOf168
 v164 := Tryz.zeroValue168
 g1 := by kernel_rfl
 g3 := by kernel_rfl
 g4 := by kernel_rfl }
theorem Tryz.Builder_Extra_155 : Builder.Extra Tryz.prog Tryz.lays155_ren := {
 sizeBuilder := by kernel_rfl
 liesBuilder := by kernel_rfl
 t5 := Tryz.underlying5
 a5 := Tryz.isAgg5
 z5 := Tryz.sizeOf5
 v5 := Tryz.zeroValue5
 infoByte := by kernel_rfl
 cellsByte := by kernel_rfl
 sizeByte := by kernel_rfl
 neB5 := by decide }
open Go.RowKit Go.Lib in
theorem Tryz.strings_ReplaceAll (s old new : ByteArray) (m : Int) (w : World) (hs : s.size < 4294967281) (hm : w.cell? ⟨0, 0, none⟩ = some (.int .i64 m)) (h1 : 1 ≤ old.size) (hlen : s.size + Lib.countB s old * new.size ≤ 140737488355328) :
  Calls Tryz.prog 114 #[.string s, .string old, .string new] w fun e w' =>
   e = .returned (.string ⟨(Lib.replaceAll s.data.toList old.data.toList new.data.toList).toArray⟩) ∧ Below w.heap.size w w' := Any.strings_ReplaceAll Tryz.lays155 Tryz.Builder_Extra_155 s old new m w hs hm h1 hlen
end Go.Proofs
