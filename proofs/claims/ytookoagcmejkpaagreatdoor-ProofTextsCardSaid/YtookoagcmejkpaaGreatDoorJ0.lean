/- Plain mathematics of numerals: the number of a row of digits, and the numeral of a number. What the laws' claims share: the listed tables, and a row's last step. Frames: what a call leaves; a row of t -/
import Derived.Lib.ItoaNum
import Derived.Test.YtookoagcmejkpaaGreatDoorRows
import Derived.ProofKit
import Derived.LaidMore
import Derived.OpenShut
import Derived.Stop.Joined
import Derived.Below
import Derived.ChangeSame
import Derived.Carry
import Derived.Lib.SmallJoins
import Derived.Lib.LaidTab
import Derived.Lay
import Derived.SevenTiedAt
import Derived.Test.YtookoagcmejkpaaGreatDoorTie
import Derived.Test.YtookoagcmejkpaaGreatDoorCards
import Derived.Test.YtookoagcmejkpaaGreatDoorProg
import Derived.WalkKit
import Derived.WalkSpells
import Derived.WalkLawsBesides
import Derived.Outline
import Derived.Lib.Hide
import Derived.Lib.Walk
import Derived.Deep.QuietTactic
import Derived.BigQuiet
import Derived.Maps.AppendAt
import Derived.Laws.Externs
import Derived.Lib.ItoaMem
import Derived.Deep.LoopGhost
import Derived.Laws.BytesArg
import Derived.Laws.IdiomStrings
import Derived.Deep.RegionHeld3
import Derived.Shelf.Strconv.Itoa0
import Derived.Shelf.Strconv.Itoa1
import Derived.Shelf.LaysM
import Derived.Shelf.Strconv.Itoa2
import Derived.Shelf.Strconv.Itoa3
import Derived.Shelf.Strconv.Itoa4
import Derived.Shelf.Strings.Builder1
import Derived.Shelf.Strings.Builder2
import Derived.Shelf.Strings.OnBuilder
import Derived.Shelf.Strings.Search1
import Derived.Shelf.Strings.Trim
import Derived.Shelf.Strings.SlTrimAscii
import Derived.Shelf.Strings.Search2
import Derived.Shelf.Strings.Search3
import Derived.Shelf.Strings.Count
import Derived.Shelf.Strings.Split
import Derived.Shelf.Strings.Replace
set_option maxHeartbeats 6400000
theorem Go.RowKit.Hid.o {p : Prop} (h : Go.RowKit.Hid p) : p := h
namespace Go.Proofs.YtookoagcmejkpaaGreatDoor
theorem Zh {p : Prop} (h : p) : Go.RowKit.Hid p := h
theorem aI {a b : Prop} (h : a) (g : b) : a ∧ b := ⟨h, g⟩
end Go.Proofs.YtookoagcmejkpaaGreatDoor
namespace Go.Proofs.YtookoagcmejkpaaGreatDoor
set_option maxRecDepth 100000
open Go
def dval (l : List UInt8) : Nat := l.foldl (fun n c => n * 10 + (c.toNat - 48)) 0
theorem qiy (l : List UInt8) (c : UInt8) : dval (l ++ [c]) = dval l * 10 + (c.toNat - 48) := by simp [dval]
def dig (c : UInt8) : Bool := decide (48 <= c.toNat) && decide (c.toNat <= 57)
def qgk (l : List UInt8) : Bool := !l.isEmpty && !(decide (l.head? = some 48) && decide (1 < l.length)) && l.all dig
def qee (l : List UInt8) : Int := if qgk l = true then (if dval l <= 4611686018427387903 then 0 else 6) else 5
def qdd (l : List UInt8) : Int := if qgk l = true /\ dval l <= 4611686018427387903 then dval l else 0

theorem qr0 (u : Nat) : (Lib.decDigits u).all dig = true := by
 induction u using Nat.strongRecOn with
 | _ u ih =>
  rw [Lib.decDigits]
  split
  ·rename_i h
   have : (48 + u) % 256 = 48 + u := Nat.mod_eq_of_lt (by omega);simp [dig, this]; omega
  ·rename_i h
   have : (48 + u % 10) % 256 = 48 + u % 10 := Nat.mod_eq_of_lt (by omega);rw [List.all_append, ih (u / 10) (by omega)];simp [dig, this]; omega
theorem qqr (u : Nat) : Lib.decDigits u ≠ [] := by
 intro h;have := Lib.decDigits_length u;have := Lib.nDigits_pos u;rw [h] at *;simp at *;omega
theorem qrz (u : Nat) : dval (Lib.decDigits u) = u := by
 induction u using Nat.strongRecOn with
 | _ u ih =>
  rw [Lib.decDigits]
  split
  ·rename_i h
   have : (48 + u) % 256 = 48 + u := Nat.mod_eq_of_lt (by omega);simp [dval, this]
  ·rename_i h
   have : (48 + u % 10) % 256 = 48 + u % 10 := Nat.mod_eq_of_lt (by omega);rw [qiy, ih (u / 10) (by omega)];simp [this]; omega
theorem qp2 {m : List UInt8} (x : List UInt8) (h : m ≠ []) : (m ++ x).head? = m.head? := by
 cases m with
 | nil => exact absurd rfl h
 | cons a b => rfl
theorem qp3 (u : Nat) (h : 1 <= u) : (Lib.decDigits u).head? ≠ some 48 := by
 induction u using Nat.strongRecOn with
 | _ u ih =>
  rw [Lib.decDigits]
  split
  ·rename_i h'
   have hm : (48 + u) % 256 = 48 + u := Nat.mod_eq_of_lt (by omega);simp only [List.head?_cons, ne_eq, Option.some.injEq];intro e;have := congrArg UInt8.toNat e;simp [hm] at this;omega
  ·rename_i h'
   rw [qp2 _ (qqr _)];exact ih (u / 10) (by omega) (by omega)
theorem qol (u : Nat) : qgk (Lib.decDigits u) = true := by
 unfold qgk;rw [qr0];have h1 : (Lib.decDigits u).isEmpty = false := by simp [qqr]
 rw [h1]
 by_cases h : 1 <= u
 ·simp [qp3 u h]
 ·have : u = 0 := by omega
  subst this;rw [Lib.decDigits]; simp
theorem qic (n : Int) (h0 : 0 <= n) (h1 : n <= 4611686018427387903) : qee (Lib.itoa n) = 0 /\ qdd (Lib.itoa n) = n := by
 have e : Lib.itoa n = Lib.decDigits n.toNat := by unfold Lib.itoa; rw [if_neg (by omega)]
 unfold qee qdd;rw [e, qol, qrz];simp; omega
end Go.Proofs.YtookoagcmejkpaaGreatDoor
namespace Go.Proofs.YtookoagcmejkpaaGreatDoor
open Go Go.RowKit Go.WideShapes Go.ChangeShapes Go.WideElems
section
variable {H : Type} {enc : TypeId × Value -> H} {P : Program}
theorem qg9 {f : Func} {s : ChangeSpec} {apart fresh handsOn again : Bool} {W W' : World} {args : Array Value} {v : Value} {ds gs : List (DataW H)} {before pa pv : List MemPlace}
  (hW : DataW.Whole enc P f.params.toList s.vars apart W args.toList ds gs before)
  (hres : ∀ (b : Nat) (sp : Nat -> Bool) (hd : Bool), DataW.TrodAll enc P W' b sp hd f.resultTypes.toList (v.resultList f.resultTypes.size) (s.fn H (ds ++ gs)).results [])
  (hargs : ∀ sp : Nat -> Bool, (∀ p ∈ before, sp p.block = true) -> DataW.TrodAll enc P W' 0 sp true f.params.toList args.toList (s.fn H (ds ++ gs)).args pa)
  (hvars : ∀ sp : Nat -> Bool, (∀ p ∈ before, sp p.block = true) -> DataW.TrodVars enc P W' sp s.vars (s.fn H (ds ++ gs)).vars pv)
  (hps : before = pa ++ pv) (hb : Below W.heap.size W W')
  (hok : ∀ (j : Nat) (t : TypeId) (r : Value), f.resultTypes[j]? = some t -> (v.resultList f.resultTypes.size)[j]? = some r -> Value.okWide P W' .any 0 t r) :
  s.post enc P f apart fresh handsOn again W args v W' := by
 have hlt : ∀ p ∈ before, p.block < W.heap.size := fun p hp => hW.lt p hp
 have hold : ∀ p ∈ before, (fun b => decide (b < W.heap.size)) p.block = true := fun p hp => by simpa using hlt p hp
 refine ⟨ds, gs, before, [], pa, pv, hW, hres _ _ _, hargs _ hold, hvars _ hold, World.keptBut_mono (fun p hp => ⟨hp, ?_⟩) (hb.frame (· ∈ before)), fun _ => ?_⟩
 ·rw [hps, List.mem_append] at hp
  exact Or.inr hp
 ·obtain ⟨_, _, _, _, _, hz, hn⟩ := hW
  refine ⟨hok, _, _, ([] ++ pa) ++ pv, ⟨[] ++ pa, pv, trodAll_append (hargs _ (fun _ _ => rfl)) (hres _ _ _), hvars _ (fun _ _ => rfl), rfl, ?_, ?_⟩, ?_⟩
  ·intro b off hp
   have hin : MemPlace.cell b off ∈ before := by rw [hps]; simpa using hp
   rw [hb.frozen (hlt _ hin)];exact hz b off hin
  ·intro ha
   have := hn ha;rw [hps] at this
   simpa using this
  ·intro p hp _
   rw [hps]
   simpa using hp
end
theorem own : ownKnob Tryz.prog.godebug = none := by kernel_rfl
theorem laid : laidOutB Tryz.prog = true := by kernel_rfl

theorem qg2 {H : Type} {enc : TypeId × Value -> H} {W W' : World} {sp : Nat -> Bool} : ∀ (ts : List TypeId) (vs : List Value) (ds : List (DataW H)) (ps : List MemPlace),
  DataW.TrodAll enc Tryz.prog W 0 (fun _ => true) true ts vs ds ps -> (∀ t ∈ ts, Tryz.prog.readableRec t = true /\ t < Tryz.prog.types.size) -> Below W.heap.size W W' -> (∀ p ∈ ps, p.block < W.heap.size) -> (∀ p ∈ ps, sp p.block = true) →
  DataW.TrodAll enc Tryz.prog W' 0 sp true ts vs ds ps := by
 intro ts
 induction ts with
 | nil =>
  intro vs ds ps h _ _ _ _;obtain ⟨rfl, rfl, rfl⟩ := trodAll_nil h
  exact trodAll_mk0
 | cons t ts ih =>
  intro vs ds ps h ht hb hlt hsp;obtain ⟨v, vs', d, ds', p, q, rfl, rfl, rfl, h0, h1⟩ := trodAll_cons h;have k := ht t (by simp);exact ⟨p, q, Trod_stays laid k.1 k.2 h0 (fun x hx => hb.same (hlt x (by simp [hx]))) (fun x hx => hsp x (by simp [hx])), ih vs' ds' q h1 (fun t' h' => ht t' (by simp [h'])) hb (fun x hx => hlt x (by simp [hx])) (fun x hx => hsp x (by simp [hx])), rfl⟩
theorem gPow : Tryz.prog.globalNamed "internal/strconv.uint64pow10" = some 1 := by kernel_rfl
theorem tPow : (Tryz.prog.globals[1]?).map (·.type) = some 188 := by kernel_rfl
theorem qos : Tryz.prog.cellsOf 173 = 1 := by kernel_rfl
theorem qor : Tryz.prog.cellsOf 188 = 20 := by kernel_rfl
def listed : List (String × DataW Unit) := [("math/bits.deBruijn32tab", Rows.laid_math_bits_deBruijn32tab), ("math/bits.deBruijn64tab", Rows.laid_math_bits_deBruijn64tab), ("internal/strconv.uint64pow10", Rows.laid_internal_strconv_uint64pow10), ("unicode/utf8.acceptRanges", Rows.laid_unicode_utf8_acceptRanges), ("unicode/utf8.first", Rows.laid_unicode_utf8_first)]
theorem qqk {W : World} (h : laidMetH Tryz.prog listed W) : Lib.TabIs Tryz.prog W "internal/strconv.uint64pow10" .u64 Lib.pow10Tab := by
 rw [MakeChecks.laidMetH_plain _ _ _ (by kernel_rfl)] at h;obtain ⟨ps, ⟨g0, t0, cs0, f0, p0, q0, hg0, ht0, hv0, hd0, ⟨g1, t1, cs1, f1, p1, q1, hg1, ht1, hv1, hd1, ⟨g2, t2, cs2, f2, p2, q2, hg2, ht2, hvar, hd, _, _⟩, _⟩, _⟩, _, _⟩ := h;obtain rfl := Option.some.inj (gPow.symm.trans hg2);obtain rfl := Option.some.inj (tPow.symm.trans ht2);unfold Lib.TabIs;rw [hvar, <- Lib.cells_of_tab (zs := Lib.pow10Tab) Tryz.underlying188 Tryz.underlying173 qos qor hd]
end Go.Proofs.YtookoagcmejkpaaGreatDoor
namespace Go.Proofs.YtookoagcmejkpaaGreatDoor
open Go Go.RowKit
theorem qaa {W W' : World} (hb : Below W.heap.size W W') {a : Addr} {v : Value} (h : W.cell? a = some v) : W'.cell? a = some v := by
 rw [<- h];exact hb.cell (World.block_lt_of_cell? W a h)
theorem qab (w : World) (o1 : Obj) : Below w.heap.size w (w.alloc o1) := (Below.refl _ _).alloc (Nat.le_refl _) _
theorem qad (w : World) (n : Nat) : Below w.heap.size w (w.drewN n) := ⟨rfl, rfl, rfl, Nat.le_refl _, fun _ _ => rfl⟩
theorem bdd {B : Nat} {w w' : World} {n : Nat} (h : Below B w w') : Below B w (w'.drewN n) := ⟨h.os, h.tape, h.output, h.size, h.block⟩
theorem qae (w : World) : Below w.heap.size w w.drew := ⟨rfl, rfl, rfl, Nat.le_refl _, fun _ _ => rfl⟩
structure Only (T : Nat -> Prop) (w w' : World) : Prop where
 os : w'.os = w.os
 tape : w'.tape = w.tape
 output : w'.output = w.output
 size : w.heap.size <= w'.heap.size
 block : ∀ k, k < w.heap.size -> ¬ T k -> w'.heap[k]? = w.heap[k]?
theorem Only.refl (T : Nat -> Prop) (w : World) : Only T w w := ⟨rfl, rfl, rfl, Nat.le_refl _, fun _ _ _ => rfl⟩
theorem Only.trans {T : Nat -> Prop} {a b c : World} (h : Only T a b) (k : Only T b c) : Only T a c :=
 ⟨k.os.trans h.os, k.tape.trans h.tape, k.output.trans h.output, Nat.le_trans h.size k.size, fun i hi hn => (k.block i (Nat.lt_of_lt_of_le hi h.size) hn).trans (h.block i hi hn)⟩
theorem Only.mono {T T' : Nat -> Prop} {w w' : World} (h : Only T w w') (hT : ∀ k, k < w.heap.size -> T k -> T' k) : Only T' w w' := ⟨h.os, h.tape, h.output, h.size, fun k hk hn => h.block k hk (fun ht => hn (hT k hk ht))⟩
theorem Only.of_below {T : Nat -> Prop} {w w' : World} (h : Below w.heap.size w w') : Only T w w' := ⟨h.os, h.tape, h.output, h.size, fun k hk _ => h.block k hk⟩
theorem Only.below {T : Nat -> Prop} {B : Nat} {w w' : World} (h : Only T w w') (hT : ∀ k, T k -> B <= k) (hB : B <= w.heap.size) : Below B w w' := ⟨h.os, h.tape, h.output, h.size, fun k hk => h.block k (Nat.lt_of_lt_of_le hk hB) (fun ht => by have := hT k ht; omega)⟩
theorem Only.of_grown {w w' : World} {row : Option Nat} (h : w.grownBy w' row) : Only (fun k => row = some k) w w' := ⟨h.os, h.tape, h.output, h.size, fun k hk hn => h.block k hk (fun e => hn e.symm)⟩
theorem Only.of_setCell (w : World) (a : Addr) (u : Value) : Only (fun k => k = a.block) w (w.setCell a u) := by
 refine ⟨rfl, rfl, rfl, by simp, fun k hk hn => Below.heap_setCell w a u k hn⟩
theorem Only.new {T : Nat -> Prop} {w w2 : World} (h : Only T w w2) {b o : Nat} {v : Value} (hb : w.heap.size <= b) : Only T w (w2.setCell ⟨b, o, none⟩ v) :=
 ⟨h.os, h.tape, h.output, by rw [World.size_setCell]; exact h.size, fun k hk hn => by rw [Below.heap_setCell w2 ⟨b, o, none⟩ v k (by show k ≠ b; omega)]; exact h.block k hk hn⟩
theorem Only.transNew {T T' : Nat -> Prop} {w w2 w3 : World} (h : Only T w w2) (k : Only T' w2 w3) (hT : ∀ j, T' j -> w.heap.size <= j) : Only T w w3 :=
 ⟨k.os.trans h.os, k.tape.trans h.tape, k.output.trans h.output, Nat.le_trans h.size k.size, fun i hi hn => (k.block i (Nat.lt_of_lt_of_le hi h.size) (fun e => by have := hT i e; omega)).trans (h.block i hi hn)⟩
theorem Only.cell {T : Nat -> Prop} {w w' : World} (h : Only T w w') {a : Addr} {v : Value} (hc : w.cell? a = some v) (hn : ¬ T a.block) : w'.cell? a = some v := by
 rw [<- hc];exact World.cell?_of_block (w := w) (h.block a.block (World.block_lt_of_cell? w a hc) hn)
theorem Only.frozen {T : Nat -> Prop} {w w' : World} (h : Only T w w') {a : Addr} (hl : a.block < w.heap.size) (hn : ¬ T a.block) : w'.frozen? a = w.frozen? a :=
 World.frozen?_of_block (w := w) (h.block a.block hl hn)
theorem qih {w w' : World} {base n : Nat} {e : TypeId} {size : Nat} {v : Value} {xs : List Value} (h : w.ownsRow base e size v n xs) (hk : ∀ k, v.ownBlock = some k -> k < w.heap.size -> w'.heap[k]? = w.heap[k]?) : w'.ownsRow base e size v n xs := by
 rcases h with ⟨h0, ⟨h1, h2⟩ | ⟨g, cap, cur, rfl, hg, hh, hc⟩⟩
 ·exact ⟨h0, .inl ⟨h1, h2⟩⟩
 ·refine ⟨h0, .inr ⟨g, cap, cur, rfl, hg, ?_, hc⟩⟩
  rw [<- hh]
  exact hk g rfl (by
   rcases Nat.lt_or_ge g w.heap.size with h | h
   ·exact h
   ·rw [Array.getElem?_eq_none h] at hh; cases hh)
theorem qb3 {T : Nat -> Prop} {w w' : World} {base n : Nat} {e : TypeId} {size : Nat} {v : Value} {xs : List Value} (h : w.ownsRow base e size v n xs) (ho : Only T w w') (hn : ∀ k, v.ownBlock = some k -> ¬ T k) : w'.ownsRow base e size v n xs :=
 qih h (fun k hk hl => ho.block k hl (hn k hk))
theorem qal {w w' : World} {base n : Nat} {e : TypeId} {size : Nat} {v : Value} {xs : List Value} (h : w.ownsRow base e size v n xs) (hb : Below w.heap.size w w') : w'.ownsRow base e size v n xs :=
 qih h (fun k _ hl => hb.block k hl)
theorem qaw {w : World} {base n : Nat} {e : TypeId} {size : Nat} {v : Value} {xs : List Value} (h : w.ownsRow base e size v n xs) {k : Nat} (hk : v.ownBlock = some k) : base <= k /\ k < w.heap.size := World.ownsRow.lt h k hk
theorem qaq {w : World} {base n : Nat} {e : TypeId} {size : Nat} {v : Value} {xs : List Value} (h : w.ownsRow base e size v n xs) : ∃ (p : Option Addr) (c : Nat), v = .slice p n c /\ (∀ ad, p = some ad -> ad = ⟨ad.block, 0, none⟩ /\ base <= ad.block) := by
 rcases h.2 with ⟨rfl, rfl⟩ | ⟨g, cap, cur, rfl, hg, _⟩
 ·exact ⟨none, 0, rfl, fun ad h => by cases h⟩
 ·exact ⟨some ⟨g, 0, none⟩, cap, rfl, fun ad h => by cases h; exact ⟨rfl, hg⟩⟩
theorem qd1 {e : TypeId} {z : Value} {s b : Nat} (h : (Tryz.prog.info? e).map (fun i => (i.zero, i.size, i.bytes)) = some (some z, s, b)) : ∃ i0, Tryz.prog.info? e = some i0 /\ i0.zero = some z /\ i0.size = s /\ i0.bytes = b := by
 obtain ⟨i, hi, hb⟩ := Option.map_eq_some_iff.1 h;simp only [Prod.mk.injEq] at hb;exact ⟨i, hi, hb.1, hb.2.1, hb.2.2⟩

def BytesIn (W : World) (p : Option Addr) (bs : List UInt8) : Prop := ∀ i (h : i < bs.length), ∃ b off, p = some ⟨b, off, none⟩ /\ W.cell? ⟨b, off + i, none⟩ = some (.int .u8 (bs[i].toNat : Int))
theorem BytesIn.only {W W' : World} {p : Option Addr} {bs : List UInt8} {T : Nat -> Prop} (h : BytesIn W p bs) (ho : Only T W W') (hn : 0 < bs.length -> ∀ b off, p = some ⟨b, off, none⟩ -> ¬ T b) : BytesIn W' p bs := fun i hi => by
 obtain ⟨b, off, e, hc⟩ := h i hi;exact ⟨b, off, e, ho.cell hc (hn (by omega) b off e)⟩
theorem BytesIn.lt {W : World} {p : Option Addr} {bs : List UInt8} (h : BytesIn W p bs) (h0 : 0 < bs.length) : ∀ b off, p = some ⟨b, off, none⟩ -> b < W.heap.size := fun b off e => by
 obtain ⟨b', off', e', hc⟩ := h 0 h0;rw [e] at e'; cases e';exact World.block_lt_of_cell? W _ hc
theorem BytesIn.later {W W' : World} {p : Option Addr} {bs : List UInt8} (h : BytesIn W p bs) (hb : Below W.heap.size W W') : BytesIn W' p bs := fun i hi => by
 obtain ⟨b, off, e, hc⟩ := h i hi;exact ⟨b, off, e, qaa hb hc⟩
theorem qiv : ∃ i0, Tryz.prog.info? 5 = some i0 /\ i0.zero = some (.int .u8 0) /\ i0.size = 1 /\ i0.bytes = 1 := qd1 (by kernel_rfl)
theorem qb2 (W : World) (p : Option Addr) (bs : List UInt8) (c lo hi : Nat) (hb : BytesIn W p bs) (h1 : lo <= hi) (h2 : hi <= bs.length) (h3 : bs.length <= c) :
  ∃ V, (∀ w, (Instr.slice 57 (.slice p bs.length c) (some (.int .i64 (lo : Int))) (some (.int .i64 (hi : Int))) none).run Tryz.prog w = .ok V w) /\ (∀ W', Below W.heap.size W W' -> (convert 57 9 V).run Tryz.prog W' = .ok (.string ⟨((bs.drop lo).take (hi - lo)).toArray⟩) W') := by
 obtain ⟨i5, hi5, _, hs5, _⟩ := qiv;have e1 : (0 : Int) <= (lo : Int) := by omega
 have e2 : (lo : Int) <= (hi : Int) := by omega
 have e3 : (hi : Int) <= (c : Int) := by omega
 have e4 : (0 : Int) <= (hi : Int) := by omega
 have e5 : hi <= c := by omega
 refine ⟨sliced p lo hi c 1, fun w => ?_, ?_⟩
 ·simp [Instr.slice, run_underlying Tryz.underlying57, Instr.sliceBounds, Instr.sliceBound, asIntOf, sizeOf, typeInfo, hi5, hs5, e1, e4, e5, h1, sliced]
 ·intro W2 hw2
  replace hb := hb.later hw2
  have hl : ((bs.drop lo).take (hi - lo)).length = hi - lo := by simp; omega
  unfold sliced;rw [Nat.mul_one]
  by_cases hlt : lo < hi
  ·obtain ⟨b, off, rfl, _⟩ := hb lo (by omega)
   rw [if_neg (by omega)];have key := run_convert_bytes_back (P := Tryz.prog) W2 57 9 5 ((⟨b, off, none⟩ : Addr).add lo) (c - lo) ((bs.drop lo).take (hi - lo)) Tryz.underlying57 Tryz.underlying5 Tryz.underlying9 (fun j hj => ?_)
   ·rw [hl] at key; exact key
   obtain ⟨b2, off2, e, hc⟩ := hb (lo + j) (by omega);cases e;have ea : ((⟨b, off, none⟩ : Addr).add lo).add j = ⟨b, off + (lo + j), none⟩ := by rw [Lib.add_plain, Lib.add_plain, Nat.add_assoc]
   rw [ea, hc];simp
  ·have hz : hi - lo = 0 := by omega
   rw [hz];have ht : ((bs.drop lo).take 0) = [] := by simp
   rw [ht];generalize (if c = lo then p else p.map (·.add lo)) = q
   cases q with
   | none => exact run_convert_bytes_nil W2 57 5 Tryz.underlying57 Tryz.underlying5 0 _ 9 Tryz.underlying9
   | some a => exact run_convert_bytes_back W2 57 9 5 a _ [] Tryz.underlying57 Tryz.underlying5 Tryz.underlying9 fun j hj => by simp at hj
theorem qmb (x : Int) : wrap64 x = (x + 9223372036854775808) % 18446744073709551616 - 9223372036854775808 := by
 simp only [wrap64]
def IntsIn (W : World) (p : Option Addr) (c : List Int) : Prop := ∀ i (h : i < c.length), ∃ b off, p = some ⟨b, off, none⟩ /\ W.cell? ⟨b, off + i, none⟩ = some (.int .i64 c[i])
theorem IntsIn.later {W W' : World} {p : Option Addr} {c : List Int} (h : IntsIn W p c) (hb : Below W.heap.size W W') : IntsIn W' p c := fun i hi => by
 obtain ⟨b, off, e, hc⟩ := h i hi;exact ⟨b, off, e, qaa hb hc⟩
theorem IntsIn.nil (W : World) (p : Option Addr) : IntsIn W p [] := fun i hi => absurd hi (Nat.not_lt_zero i)
structure Lk where
 k : Int
 lit : Int
 a : Int
 b : Int
 i : Int
 j : Int
 l : List Int
deriving DecidableEq
structure Stp where
 k : Int
 lits : List Int
 links : List Lk
 a : Int
 b : Int
deriving DecidableEq
def lkV (x : Lk) (q : Option Addr) (c : Nat) : Value := .agg #[.int .u8 x.k, .int .i64 x.lit, .int .i64 x.a, .int .i64 x.b, .int .i64 x.i, .int .i64 x.j, .slice q x.l.length c]
def stV (x : Stp) (p : Option Addr) (c : Nat) (q : Option Addr) (d : Nat) : Value := .agg #[.int .u8 x.k, .slice p x.lits.length c, .slice q x.links.length d, .int .i64 x.a, .int .i64 x.b]
def LksIn (W : World) (p : Option Addr) (l : List Lk) : Prop := ∀ i (h : i < l.length), ∃ b off, p = some ⟨b, off, none⟩ /\ W.cell? ⟨b, off + i * 7, none⟩ = some (.int .u8 l[i].k) /\ W.cell? ⟨b, off + i * 7 + 1, none⟩ = some (.int .i64 l[i].lit) /\ W.cell? ⟨b, off + i * 7 + 2, none⟩ = some (.int .i64 l[i].a) ∧
 W.cell? ⟨b, off + i * 7 + 3, none⟩ = some (.int .i64 l[i].b) /\ W.cell? ⟨b, off + i * 7 + 4, none⟩ = some (.int .i64 l[i].i) /\ W.cell? ⟨b, off + i * 7 + 5, none⟩ = some (.int .i64 l[i].j) ∧
 ∃ q c, W.cell? ⟨b, off + i * 7 + 6, none⟩ = some (.slice q l[i].l.length c) /\ IntsIn W q l[i].l /\ l[i].l.length <= c /\ c <= 9223372036854775807
theorem LksIn.later {W W' : World} {p : Option Addr} {l : List Lk} (h : LksIn W p l) (hb : Below W.heap.size W W') : LksIn W' p l := fun i hi => by
 obtain ⟨b, off, e, h0, h1, h2, h3, h4, h5, q, c, h6, h7, h8⟩ := h i hi;exact ⟨b, off, e, qaa hb h0, qaa hb h1, qaa hb h2, qaa hb h3, qaa hb h4, qaa hb h5, q, c, qaa hb h6, h7.later hb, h8⟩
structure LkAt (W : World) (B : Nat) (x : Lk) (q : Option Addr) (c : Nat) : Prop where
 c0 : W.cell? ⟨B, 0, none⟩ = some (.int .u8 x.k)
 c1 : W.cell? ⟨B, 1, none⟩ = some (.int .i64 x.lit)
 c2 : W.cell? ⟨B, 2, none⟩ = some (.int .i64 x.a)
 c3 : W.cell? ⟨B, 3, none⟩ = some (.int .i64 x.b)
 c4 : W.cell? ⟨B, 4, none⟩ = some (.int .i64 x.i)
 c5 : W.cell? ⟨B, 5, none⟩ = some (.int .i64 x.j)
 c6 : W.cell? ⟨B, 6, none⟩ = some (.slice q x.l.length c)
theorem LkAt.later {W W' : World} {B : Nat} {x : Lk} {q : Option Addr} {c : Nat} (h : LkAt W B x q c) (hb : Below W.heap.size W W') : LkAt W' B x q c :=
 ⟨qaa hb h.c0, qaa hb h.c1, qaa hb h.c2, qaa hb h.c3, qaa hb h.c4, qaa hb h.c5, qaa hb h.c6⟩
structure StAt (W : World) (B : Nat) (x : Stp) (p : Option Addr) (c : Nat) (q : Option Addr) (d : Nat) : Prop where
 c0 : W.cell? ⟨B, 0, none⟩ = some (.int .u8 x.k)
 c1 : W.cell? ⟨B, 1, none⟩ = some (.slice p x.lits.length c)
 c2 : W.cell? ⟨B, 2, none⟩ = some (.slice q x.links.length d)
 c3 : W.cell? ⟨B, 3, none⟩ = some (.int .i64 x.a)
 c4 : W.cell? ⟨B, 4, none⟩ = some (.int .i64 x.b)
theorem StAt.later {W W' : World} {B : Nat} {x : Stp} {p : Option Addr} {c : Nat} {q : Option Addr} {d : Nat} (h : StAt W B x p c q d) (hb : Below W.heap.size W W') : StAt W' B x p c q d :=
 ⟨qaa hb h.c0, qaa hb h.c1, qaa hb h.c2, qaa hb h.c3, qaa hb h.c4⟩
def litB (x : Int) : Bool := decide (x ≠ 0) && decide (-4611686018427387903 <= x) && decide (x <= 4611686018427387903)
def cntB (x : Int) : Bool := decide (0 <= x) && decide (x <= 4611686018427387903)
def fldL (has : Bool) (x : Int) : Bool := if has then litB x else decide (x = 0)
def fldC (has : Bool) (x : Int) : Bool := if has then cntB x else decide (x = 0)
structure Fm where
 lit : Bool
 a : Bool
 b : Bool
 i : Bool
 j : Bool
 list : Bool
def fmL : Int -> Option Fm
 | 1 => some ⟨true, false, false, false, false, false⟩
 | 2 => some ⟨false, true, false, false, false, false⟩
 | 3 => some ⟨false, false, false, true, false, false⟩
 | 4 => some ⟨false, false, false, true, true, false⟩
 | 5 => some ⟨false, true, true, false, false, true⟩
 | 6 => some ⟨true, false, false, true, false, false⟩
 | 7 => some ⟨false, false, false, true, false, false⟩
 | _ => none
def qaz (x : Lk) : Bool := match fmL x.k with
 | none => false
 | some f => decide (x.l.length <= 20) && (f.list || decide (x.l.length = 0)) && fldL f.lit x.lit && x.l.all cntB && fldC f.a x.a && fldC f.b x.b && fldC f.i x.i && fldC f.j x.j
def qau (x : Stp) : Bool :=
 if x.k = 1 \/ x.k = 3 then decide (x.lits.length <= 5000) && x.lits.all litB && decide (x.links.length = 0) && decide (x.a = 0) && decide (x.b = 0)
 else if x.k = 2 then decide (x.lits.length = 0) && decide (x.links.length <= 20000) && x.links.all qaz && decide (x.a = 0) && decide (x.b = 0)
 else if x.k = 4 then decide (x.lits.length = 0) && decide (x.links.length = 0) && cntB x.a && cntB x.b
 else false
theorem qmu {k n : Nat} (h : k < n) (hn : n <= 9223372036854775807) : wrap64 ((k : Int) + 1) = ((k + 1 : Nat) : Int) := by rw [qmb]; omega
theorem qax {k n : Nat} (h : k < n) (hn : n <= 9223372036854775807) : k + 1 <= n /\ n - (k + 1) < n - k /\ wrap64 ((k : Int) + 1) = ((k + 1 : Nat) : Int) :=
 ⟨Nat.succ_le_of_lt h, Nat.sub_lt_sub_left h (Nat.lt_succ_self k), qmu h hn⟩
theorem beqd (x y : Int) : (x == y) = decide (x = y) := by by_cases h : x = y <;> simp [h]
theorem qck (h : Bool) (x : Int) (w : World) : Calls Tryz.prog 34 #[.bool h, .int .i64 x] w fun e w' => e = .returned (.bool (fldC h x)) /\ w' = w := by
 cases h with
 | false =>
  go_enter Tryz.func34, Tryz.ntmps34
  go_wp2_with fail
  refine bodyPost_ret (v := .bool _) (by simp [results, Tryz.results34, go_sem]; rfl) rfl ⟨?_, rfl⟩
  simp [fldC, beqd]
 | true =>
  by_cases h0 : 0 <= x
  ·go_enter Tryz.func34, Tryz.ntmps34
   go_wp2_with fail
   refine bodyPost_ret (v := .bool _) (by simp [results, Tryz.results34, go_sem]; rfl) rfl ⟨?_, rfl⟩;simp [fldC, cntB, h0]
  ·have h1 : x < 0 := by omega
   go_enter Tryz.func34, Tryz.ntmps34
   go_wp2_with fail
   refine bodyPost_ret (v := .bool _) (by simp [results, Tryz.results34, go_sem]; rfl) rfl ⟨?_, rfl⟩;simp [fldC, cntB];omega
theorem qta (h : Bool) (x : Int) (w : World) : Calls Tryz.prog 37 #[.bool h, .int .i64 x] w fun e w' => e = .returned (.bool (fldL h x)) /\ w' = w := by
 cases h with
 | false =>
  go_enter Tryz.func37, Tryz.ntmps37
  go_wp2_with fail
  refine bodyPost_ret (v := .bool _) (by simp [results, Tryz.results37, go_sem]; rfl) rfl ⟨?_, rfl⟩
  simp [fldL, beqd]
 | true =>
  by_cases h0 : x = 0
  ·subst h0
   go_enter Tryz.func37, Tryz.ntmps37
   go_wp2_with fail
   exact bodyPost_ret (v := .bool _) (by simp [results, Tryz.results37, go_sem]; rfl) rfl ⟨by simp [fldL, litB], rfl⟩
  have e0 : (x == 0) = false := by simp [h0]
  by_cases h1 : -4611686018427387903 <= x
  ·go_enter Tryz.func37, Tryz.ntmps37
   go_wp2_with fail
   refine bodyPost_ret (v := .bool _) (by simp [results, Tryz.results37, go_sem]; rfl) rfl ⟨?_, rfl⟩;simp [fldL, litB, h0, h1]
  ·have h2 : x < -4611686018427387903 := by omega
   go_enter Tryz.func37, Tryz.ntmps37
   go_wp2_with fail
   refine bodyPost_ret (v := .bool _) (by simp [results, Tryz.results37, go_sem]; rfl) rfl ⟨?_, rfl⟩;simp [fldL, litB, h0];omega
theorem qek (x : Int) (w : World) : Calls Tryz.prog 41 #[.int .i64 x] w fun e w' => e = .returned (.bool (cntB x)) /\ w' = w := by
 by_cases h0 : 0 <= x
 ·go_enter Tryz.func41, Tryz.ntmps41
  go_wp2_with fail
  refine bodyPost_ret (v := .bool _) (by simp [results, Tryz.results41, go_sem]; rfl) rfl ⟨?_, rfl⟩;simp [cntB, h0]
 ·have h1 : x < 0 := by omega
  go_enter Tryz.func41, Tryz.ntmps41
  go_wp2_with fail
  refine bodyPost_ret (v := .bool _) (by simp [results, Tryz.results41, go_sem]; rfl) rfl ⟨?_, rfl⟩;simp [cntB];omega
theorem qrm (x : Int) (w : World) : Calls Tryz.prog 42 #[.int .i64 x] w fun e w' => e = .returned (.bool (litB x)) /\ w' = w := by
 by_cases h0 : x = 0
 ·subst h0
  go_enter Tryz.func42, Tryz.ntmps42
  go_wp2_with fail
  exact bodyPost_ret (v := .bool _) (by simp [results, Tryz.results42, go_sem]; rfl) rfl ⟨by simp [litB], rfl⟩
 have e0 : (x == 0) = false := by simp [h0]
 by_cases h1 : -4611686018427387903 <= x
 ·go_enter Tryz.func42, Tryz.ntmps42
  go_wp2_with fail
  refine bodyPost_ret (v := .bool _) (by simp [results, Tryz.results42, go_sem]; rfl) rfl ⟨?_, rfl⟩;simp [litB, h0, h1]
 ·have h2 : x < -4611686018427387903 := by omega
  go_enter Tryz.func42, Tryz.ntmps42
  go_wp2_with fail
  refine bodyPost_ret (v := .bool _) (by simp [results, Tryz.results42, go_sem]; rfl) rfl ⟨?_, rfl⟩;simp [litB, h0];omega
set_option maxRecDepth 100000
theorem fn36 (x : Int) (w : World) : Calls Tryz.prog 36 #[.int .i64 x] w fun e w' => e = .returned (.bool (!(litB x))) /\ w' = w := by
 have H := Zh (show Calls Tryz.prog 37 #[.bool true, .int .i64 x] w (fun e w' => e = .returned (.bool (litB x)) /\ w' = w) from qta true x w);go_enter Tryz.func36, Tryz.ntmps36
 go_wp2_with fail
 refine H.o.mono ?_;rintro e w1 ⟨rfl, rfl⟩
 go_wp2_with fail
 exact bodyPost_ret (v := .bool (!(litB x))) (by simp [results, Tryz.results36, go_sem]) rfl ⟨rfl, rfl⟩
theorem fn72 (x : Int) (w : World) : Calls Tryz.prog 72 #[.int .i64 x] w fun e w' => e = .returned (.bool (!(cntB x))) /\ w' = w := by
 have H := Zh (show Calls Tryz.prog 34 #[.bool true, .int .i64 x] w (fun e w' => e = .returned (.bool (cntB x)) /\ w' = w) from qck true x w);go_enter Tryz.func72, Tryz.ntmps72
 go_wp2_with fail
 refine H.o.mono ?_;rintro e w1 ⟨rfl, rfl⟩
 go_wp2_with fail
 exact bodyPost_ret (v := .bool (!(cntB x))) (by simp [results, Tryz.results72, go_sem]) rfl ⟨rfl, rfl⟩
theorem qrr (p : Option Addr) (c n : Nat) (xs : List Int) (W : World) (h : IntsIn W p xs) (hl : xs.length = n) (hn : n <= 9223372036854775807) :
  Calls Tryz.prog 69 #[.slice p n c, .func (.func 36) #[] #[]] W fun e w' => (∃ r : Int, e = .returned (.int .i64 r) /\ decide (0 <= r) = !(xs.all litB)) /\ w' = W := by
 have H := Zh h;have HL := Zh hl;clear h hl;have n1 : (n : Int) <= 9223372036854775807 := by omega
 go_enter Tryz.func69, Tryz.ntmps69
 go_wp2_with fail
 go_loopw [8] (fun x wr => ∃ k : Nat, k <= n /\ x = .int .i64 (k : Int) /\ Hid ((xs.take k).all litB = true) /\ wr = W) (fun x _ => n - (intOf x).toNat)
 case atStart => exact ⟨0, Nat.zero_le _, rfl, Zh (by simp), rfl⟩
 case round =>
  obtain ⟨k, hk, rfl, HT, rfl⟩ := hrel;have k0 : (0 : Int) <= (k : Int) := Int.natCast_nonneg k
  by_cases hlt : k < n
  ·have k1 : (k : Int) < (n : Int) := Int.ofNat_lt.2 hlt
   have hkl : k < xs.length := by rw [HL.o]; exact hlt
   obtain ⟨b, off, rfl, hc⟩ := H.o k hkl;have HS := Zh (qax hlt hn);obtain ⟨x, hx⟩ : ∃ x, x = xs[k] := ⟨_, rfl⟩;have HX := Zh (show xs.take (k + 1) = xs.take k ++ [x] from by rw [hx, List.take_add_one, List.getElem?_eq_getElem hkl]; rfl);have HM := Zh (show x ∈ xs from by rw [hx]; exact List.getElem_mem hkl);rw [<- hx] at hc;clear hx hkl;have HF := Zh (fn36 x wr);obtain ⟨b0, hb0⟩ : ∃ b0, b0 = litB x := ⟨_, rfl⟩;have HB := Zh hb0;rw [<- hb0] at HF;clear hb0
   go_wp2_with fail
   refine HF.o.mono ?_;rintro e w1 ⟨rfl, rfl⟩
   cases b0 with
   | false =>
    go_wp2_with fail
    refine bodyPost_ret (v := .int .i64 (k : Int)) (by simp [results, Tryz.results69, go_sem]) rfl ⟨⟨_, rfl, ?_⟩, rfl⟩;have h1 := HM.o;have h2 := HB.o;have h3 : xs.all litB = false := by rw [List.all_eq_false]; exact ⟨x, h1, by rw [<- h2]; decide⟩
    rw [h3]
    simp
   | true =>
    go_wp2_with fail
    refine ⟨⟨k + 1, HS.o.1, by first | rfl | rw [HS.o.2.2], Zh (by rw [HX.o, List.all_append, HT.o]; simp [HB.o.symm]), trivial⟩, ?_⟩
    first | rw [HS.o.2.2] | skip
    simp only [intOf, Int.toNat_natCast];exact HS.o.2.1
  ·obtain rfl : n = k := (Nat.le_antisymm hk (Nat.le_of_not_lt hlt)).symm
   clear hlt hk
   go_wp2_with fail
   refine bodyPost_ret (v := .int .i64 (-1)) (by simp [results, Tryz.results69, go_sem]) rfl ⟨⟨_, rfl, ?_⟩, rfl⟩;have h1 := HT.o;rw [List.take_of_length_le (by rw [HL.o]; exact Nat.le_refl _)] at h1;rw [h1]
   rfl
theorem qe9 (p : Option Addr) (c n : Nat) (xs : List Int) (W : World) (h : IntsIn W p xs) (hl : xs.length = n) (hn : n <= 9223372036854775807) :
  Calls Tryz.prog 35 #[.slice p n c, .func (.func 36) #[] #[]] W fun e w' => e = .returned (.bool (!(xs.all litB))) /\ w' = W := by
 have H := Zh (qrr p c n xs W h hl hn);clear h hl;go_enter Tryz.func35, Tryz.ntmps35
 go_wp2_with fail
 refine H.o.mono ?_;rintro e w1 ⟨⟨r, rfl, hr⟩, rfl⟩;have HR := Zh hr;clear hr
 go_wp2_with fail
 exact bodyPost_ret (v := .bool (decide (0 <= r))) (by simp [results, Tryz.results35, go_sem]) rfl ⟨by rw [HR.o], rfl⟩
theorem qrp (p : Option Addr) (c n : Nat) (xs : List Int) (W : World) (h : IntsIn W p xs) (hl : xs.length = n) (hn : n <= 9223372036854775807) :
  Calls Tryz.prog 96 #[.slice p n c, .func (.func 72) #[] #[]] W fun e w' => (∃ r : Int, e = .returned (.int .i64 r) /\ decide (0 <= r) = !(xs.all cntB)) /\ w' = W := by
 have H := Zh h;have HL := Zh hl;clear h hl;have n1 : (n : Int) <= 9223372036854775807 := by omega
 go_enter Tryz.func96, Tryz.ntmps96
 go_wp2_with fail
 go_loopw [8] (fun x wr => ∃ k : Nat, k <= n /\ x = .int .i64 (k : Int) /\ Hid ((xs.take k).all cntB = true) /\ wr = W) (fun x _ => n - (intOf x).toNat)
 case atStart => exact ⟨0, Nat.zero_le _, rfl, Zh (by simp), rfl⟩
 case round =>
  obtain ⟨k, hk, rfl, HT, rfl⟩ := hrel;have k0 : (0 : Int) <= (k : Int) := Int.natCast_nonneg k
  by_cases hlt : k < n
  ·have k1 : (k : Int) < (n : Int) := Int.ofNat_lt.2 hlt
   have hkl : k < xs.length := by rw [HL.o]; exact hlt
   obtain ⟨b, off, rfl, hc⟩ := H.o k hkl;have HS := Zh (qax hlt hn);obtain ⟨x, hx⟩ : ∃ x, x = xs[k] := ⟨_, rfl⟩;have HX := Zh (show xs.take (k + 1) = xs.take k ++ [x] from by rw [hx, List.take_add_one, List.getElem?_eq_getElem hkl]; rfl);have HM := Zh (show x ∈ xs from by rw [hx]; exact List.getElem_mem hkl);rw [<- hx] at hc;clear hx hkl;have HF := Zh (fn72 x wr);obtain ⟨b0, hb0⟩ : ∃ b0, b0 = cntB x := ⟨_, rfl⟩;have HB := Zh hb0;rw [<- hb0] at HF;clear hb0
   go_wp2_with fail
   refine HF.o.mono ?_;rintro e w1 ⟨rfl, rfl⟩
   cases b0 with
   | false =>
    go_wp2_with fail
    refine bodyPost_ret (v := .int .i64 (k : Int)) (by simp [results, Tryz.results96, go_sem]) rfl ⟨⟨_, rfl, ?_⟩, rfl⟩;have h1 := HM.o;have h2 := HB.o;have h3 : xs.all cntB = false := by rw [List.all_eq_false]; exact ⟨x, h1, by rw [<- h2]; decide⟩
    rw [h3]
    simp
   | true =>
    go_wp2_with fail
    refine ⟨⟨k + 1, HS.o.1, by first | rfl | rw [HS.o.2.2], Zh (by rw [HX.o, List.all_append, HT.o]; simp [HB.o.symm]), trivial⟩, ?_⟩
    first | rw [HS.o.2.2] | skip
    simp only [intOf, Int.toNat_natCast];exact HS.o.2.1
  ·obtain rfl : n = k := (Nat.le_antisymm hk (Nat.le_of_not_lt hlt)).symm
   clear hlt hk
   go_wp2_with fail
   refine bodyPost_ret (v := .int .i64 (-1)) (by simp [results, Tryz.results96, go_sem]) rfl ⟨⟨_, rfl, ?_⟩, rfl⟩;have h1 := HT.o;rw [List.take_of_length_le (by rw [HL.o]; exact Nat.le_refl _)] at h1;rw [h1]
   rfl
theorem ql6 (p : Option Addr) (c n : Nat) (xs : List Int) (W : World) (h : IntsIn W p xs) (hl : xs.length = n) (hn : n <= 9223372036854775807) :
  Calls Tryz.prog 71 #[.slice p n c, .func (.func 72) #[] #[]] W fun e w' => e = .returned (.bool (!(xs.all cntB))) /\ w' = W := by
 have H := Zh (qrp p c n xs W h hl hn);clear h hl;go_enter Tryz.func71, Tryz.ntmps71
 go_wp2_with fail
 refine H.o.mono ?_;rintro e w1 ⟨⟨r, rfl, hr⟩, rfl⟩;have HR := Zh hr;clear hr
 go_wp2_with fail
 exact bodyPost_ret (v := .bool (decide (0 <= r))) (by simp [results, Tryz.results71, go_sem]) rfl ⟨by rw [HR.o], rfl⟩
theorem qsk (p : Option Addr) (c n : Nat) (xs : List Int) (q : Option Addr) (d m : Nat) (ys : List Int) (W : World) (h1 : IntsIn W p xs) (h2 : IntsIn W q ys) (hl : xs.length = n) (hm : ys.length = m) (hn : n <= 9223372036854775807) (hk : m <= 9223372036854775807) :
  Calls Tryz.prog 74 #[.slice p n c, .slice q m d] W fun e w' => e = .returned (.bool (decide (xs = ys))) /\ ∃ nd, w' = W.drewN nd := by
 by_cases hnm : n = m
 case neg =>
  have hne : decide (xs = ys) = false := decide_eq_false (fun e => hnm (by rw [<- hl, <- hm, e]));have t1 : ((n : Int) == (m : Int)) = false := by simp; omega
  rw [hne];clear h1 h2 hl hm hne;go_enter Tryz.func74, Tryz.ntmps74
  go_wp2_with fail
  exact bodyPost_ret (v := .bool false) (by simp [results, Tryz.results74, go_sem]) rfl ⟨rfl, 0, rfl⟩
 subst hnm;have H1 := Zh h1;have H2 := Zh h2;have HL := Zh hl;have HM := Zh hm;obtain ⟨b0, hb0⟩ : ∃ b0, b0 = decide (xs = ys) := ⟨_, rfl⟩;have HB := Zh hb0;rw [<- hb0];clear h1 h2 hl hm hb0 hk;have n1 : (n : Int) <= 9223372036854775807 := by omega
 go_enter Tryz.func74, Tryz.ntmps74
 go_wp2_with fail
 go_loopw [5] (fun x wr => ∃ (k nd : Nat), k <= n /\ x = .int .i64 (k : Int) /\ Hid (xs.take k = ys.take k) /\ wr = W.drewN nd) (fun x _ => n - (intOf x).toNat)
 case atStart => exact ⟨0, 0, Nat.zero_le _, rfl, Zh (by simp), rfl⟩
 case round =>
  obtain ⟨k, nd, hk, rfl, HT, hw⟩ := hrel;have HW := Zh hw;have k0 : (0 : Int) <= (k : Int) := Int.natCast_nonneg k
  by_cases hlt : k < n
  ·have k1 : (k : Int) < (n : Int) := Int.ofNat_lt.2 hlt
   have hk1 : k < xs.length := by rw [HL.o]; exact hlt
   have hk2 : k < ys.length := by rw [HM.o]; exact hlt
   obtain ⟨b, off, rfl, hc⟩ := H1.o k hk1;obtain ⟨b2, off2, rfl, hc2⟩ := H2.o k hk2;have hbw : Below W.heap.size W wr := by rw [hw]; exact qad W nd
   replace hc := qaa hbw hc
   replace hc2 := qaa hbw hc2
   have HS := Zh (qax hlt hn);obtain ⟨x, hx⟩ : ∃ x, x = xs[k] := ⟨_, rfl⟩;obtain ⟨y, hy⟩ : ∃ y, y = ys[k] := ⟨_, rfl⟩;have HX := Zh (show xs.take (k + 1) = xs.take k ++ [x] from by rw [hx, List.take_add_one, List.getElem?_eq_getElem hk1]; rfl);have HY := Zh (show ys.take (k + 1) = ys.take k ++ [y] from by rw [hy, List.take_add_one, List.getElem?_eq_getElem hk2]; rfl);rw [<- hx] at hc;rw [<- hy] at hc2;clear hx hy hk1 hk2 hw hbw
   by_cases hxy : x = y
   ·subst hxy
    have t2 : (x == x) = true := by simp
    go_wp2_with fail
    try (go_quiet (fail))
    go_wp2_with fail
    refine ⟨⟨k + 1, nd + nq, HS.o.1, by first | rfl | rw [HS.o.2.2], Zh (by rw [HX.o, HY.o, HT.o]), by rw [HW.o]; exact World.drewN_drewN _ _ _⟩, ?_⟩
    first | rw [HS.o.2.2] | skip
    simp only [intOf, Int.toNat_natCast];exact HS.o.2.1
   ·have t2 : (x == y) = false := by simp [hxy]
    have HN := Zh hxy;clear hxy
    go_wp2_with fail
    try (go_quiet (fail))
    go_wp2_with fail
    refine bodyPost_ret (v := .bool false) (by simp [results, Tryz.results74, go_sem]) rfl ⟨?_, nd + nq, by rw [HW.o]; exact World.drewN_drewN _ _ _⟩
    have h9 : b0 = false := by
     rw [HB.o];refine decide_eq_false (fun e => HN.o ?_);have h1 := HX.o;have h2 := HY.o;rw [e, h2, <- HT.o] at h1;have := List.append_cancel_left h1
     simpa using this.symm
    rw [h9]
  ·obtain rfl : n = k := (Nat.le_antisymm hk (Nat.le_of_not_lt hlt)).symm
   clear hlt hk hw
   go_wp2_with fail
   refine bodyPost_ret (v := .bool true) (by simp [results, Tryz.results74, go_sem]) rfl ⟨?_, nd, HW.o⟩;have h1 := HT.o;rw [List.take_of_length_le (by rw [HL.o]; exact Nat.le_refl _), List.take_of_length_le (by rw [HM.o]; exact Nat.le_refl _)] at h1;have h9 : b0 = true := by rw [HB.o]; exact decide_eq_true h1
   rw [h9]
theorem qkc (p : Option Addr) (c n : Nat) (xs : List Int) (q : Option Addr) (d m : Nat) (ys : List Int) (W : World) (h1 : IntsIn W p xs) (h2 : IntsIn W q ys) (hl : xs.length = n) (hm : ys.length = m) (hn : n <= 9223372036854775807) (hk : m <= 9223372036854775807) :
  Calls Tryz.prog 47 #[.slice p n c, .slice q m d] W fun e w' => e = .returned (.bool (decide (xs = ys))) /\ ∃ nd, w' = W.drewN nd := by
 by_cases hnm : n = m
 case neg =>
  have hne : decide (xs = ys) = false := decide_eq_false (fun e => hnm (by rw [<- hl, <- hm, e]));have t1 : ((n : Int) == (m : Int)) = false := by simp; omega
  rw [hne];clear h1 h2 hl hm hne;go_enter Tryz.func47, Tryz.ntmps47
  go_wp2_with fail
  exact bodyPost_ret (v := .bool false) (by simp [results, Tryz.results47, go_sem]) rfl ⟨rfl, 0, rfl⟩
 subst hnm;have H1 := Zh h1;have H2 := Zh h2;have HL := Zh hl;have HM := Zh hm;obtain ⟨b0, hb0⟩ : ∃ b0, b0 = decide (xs = ys) := ⟨_, rfl⟩;have HB := Zh hb0;rw [<- hb0];clear h1 h2 hl hm hb0 hk;have n1 : (n : Int) <= 9223372036854775807 := by omega
 go_enter Tryz.func47, Tryz.ntmps47
 go_wp2_with fail
 go_loopw [5] (fun x wr => ∃ (k nd : Nat), k <= n /\ x = .int .i64 (k : Int) /\ Hid (xs.take k = ys.take k) /\ wr = W.drewN nd) (fun x _ => n - (intOf x).toNat)
 case atStart => exact ⟨0, 0, Nat.zero_le _, rfl, Zh (by simp), rfl⟩
 case round =>
  obtain ⟨k, nd, hk, rfl, HT, hw⟩ := hrel;have HW := Zh hw;have k0 : (0 : Int) <= (k : Int) := Int.natCast_nonneg k
  by_cases hlt : k < n
  ·have k1 : (k : Int) < (n : Int) := Int.ofNat_lt.2 hlt
   have hk1 : k < xs.length := by rw [HL.o]; exact hlt
   have hk2 : k < ys.length := by rw [HM.o]; exact hlt
   obtain ⟨b, off, rfl, hc⟩ := H1.o k hk1;obtain ⟨b2, off2, rfl, hc2⟩ := H2.o k hk2;have hbw : Below W.heap.size W wr := by rw [hw]; exact qad W nd
   replace hc := qaa hbw hc
   replace hc2 := qaa hbw hc2
   have HS := Zh (qax hlt hn);obtain ⟨x, hx⟩ : ∃ x, x = xs[k] := ⟨_, rfl⟩;obtain ⟨y, hy⟩ : ∃ y, y = ys[k] := ⟨_, rfl⟩;have HX := Zh (show xs.take (k + 1) = xs.take k ++ [x] from by rw [hx, List.take_add_one, List.getElem?_eq_getElem hk1]; rfl);have HY := Zh (show ys.take (k + 1) = ys.take k ++ [y] from by rw [hy, List.take_add_one, List.getElem?_eq_getElem hk2]; rfl);rw [<- hx] at hc;rw [<- hy] at hc2;clear hx hy hk1 hk2 hw hbw
   by_cases hxy : x = y
   ·subst hxy
    have t2 : (x == x) = true := by simp
    go_wp2_with fail
    try (go_quiet (fail))
    go_wp2_with fail
    refine ⟨⟨k + 1, nd + nq, HS.o.1, by first | rfl | rw [HS.o.2.2], Zh (by rw [HX.o, HY.o, HT.o]), by rw [HW.o]; exact World.drewN_drewN _ _ _⟩, ?_⟩
    first | rw [HS.o.2.2] | skip
    simp only [intOf, Int.toNat_natCast];exact HS.o.2.1
   ·have t2 : (x == y) = false := by simp [hxy]
    have HN := Zh hxy;clear hxy
    go_wp2_with fail
    try (go_quiet (fail))
    go_wp2_with fail
    refine bodyPost_ret (v := .bool false) (by simp [results, Tryz.results47, go_sem]) rfl ⟨?_, nd + nq, by rw [HW.o]; exact World.drewN_drewN _ _ _⟩
    have h9 : b0 = false := by
     rw [HB.o];refine decide_eq_false (fun e => HN.o ?_);have h1 := HX.o;have h2 := HY.o;rw [e, h2, <- HT.o] at h1;have := List.append_cancel_left h1
     simpa using this.symm
    rw [h9]
  ·obtain rfl : n = k := (Nat.le_antisymm hk (Nat.le_of_not_lt hlt)).symm
   clear hlt hk hw
   go_wp2_with fail
   refine bodyPost_ret (v := .bool true) (by simp [results, Tryz.results47, go_sem]) rfl ⟨?_, nd, HW.o⟩;have h1 := HT.o;rw [List.take_of_length_le (by rw [HL.o]; exact Nat.le_refl _), List.take_of_length_le (by rw [HM.o]; exact Nat.le_refl _)] at h1;have h9 : b0 = true := by rw [HB.o]; exact decide_eq_true h1
   rw [h9]
theorem qfe (x : Lk) (q : Option Addr) (c : Nat) (y : Lk) (q2 : Option Addr) (c2 : Nat) (W : World) (h1 : IntsIn W q x.l) (h2 : IntsIn W q2 y.l) (hn : x.l.length <= 9223372036854775807) (hm : y.l.length <= 9223372036854775807) :
  Calls Tryz.prog 48 #[lkV x q c, lkV y q2 c2] W fun e w' => e = .returned (.bool (decide (x = y))) /\ Below W.heap.size W w' := by
 obtain ⟨k, lit, a, b, i, j, l⟩ := x;obtain ⟨k2, lit2, a2, b2, i2, j2, l2⟩ := y;simp only at h1 h2 hn hm;simp only [lkV]
 by_cases hk : k = k2
 case neg =>
  have e9 : (k == k2) = false := by simp [hk]
  have hne : decide ((⟨k, lit, a, b, i, j, l⟩ : Lk) = ⟨k2, lit2, a2, b2, i2, j2, l2⟩) = false := decide_eq_false (fun e => hk (by injection e));rw [hne];clear h1 h2 hn hm hne hk;go_enter Tryz.func48, Tryz.ntmps48
  go_wp2_with fail
  exact bodyPost_ret (v := .bool false) (by simp [results, Tryz.results48, go_sem]) rfl ⟨rfl, by repeat (first | exact Below.refl _ _ | refine Below.alloc ?_ (by simp) _)⟩
 subst hk;have ek : (k == k) = true := by simp
 by_cases hlit : lit = lit2
 case neg =>
  have e9 : (lit == lit2) = false := by simp [hlit]
  have hne : decide ((⟨k, lit, a, b, i, j, l⟩ : Lk) = ⟨k, lit2, a2, b2, i2, j2, l2⟩) = false := decide_eq_false (fun e => hlit (by injection e));rw [hne];clear h1 h2 hn hm hne hlit;go_enter Tryz.func48, Tryz.ntmps48
  go_wp2_with fail
  exact bodyPost_ret (v := .bool false) (by simp [results, Tryz.results48, go_sem]) rfl ⟨rfl, by repeat (first | exact Below.refl _ _ | refine Below.alloc ?_ (by simp) _)⟩
 subst hlit;have elit : (lit == lit) = true := by simp
 by_cases ha : a = a2
 case neg =>
  have e9 : (a == a2) = false := by simp [ha]
  have hne : decide ((⟨k, lit, a, b, i, j, l⟩ : Lk) = ⟨k, lit, a2, b2, i2, j2, l2⟩) = false := decide_eq_false (fun e => ha (by injection e));rw [hne];clear h1 h2 hn hm hne ha;go_enter Tryz.func48, Tryz.ntmps48
  go_wp2_with fail
  exact bodyPost_ret (v := .bool false) (by simp [results, Tryz.results48, go_sem]) rfl ⟨rfl, by repeat (first | exact Below.refl _ _ | refine Below.alloc ?_ (by simp) _)⟩
 subst ha;have ea : (a == a) = true := by simp
 by_cases hb : b = b2
 case neg =>
  have e9 : (b == b2) = false := by simp [hb]
  have hne : decide ((⟨k, lit, a, b, i, j, l⟩ : Lk) = ⟨k, lit, a, b2, i2, j2, l2⟩) = false := decide_eq_false (fun e => hb (by injection e));rw [hne];clear h1 h2 hn hm hne hb;go_enter Tryz.func48, Tryz.ntmps48
  go_wp2_with fail
  exact bodyPost_ret (v := .bool false) (by simp [results, Tryz.results48, go_sem]) rfl ⟨rfl, by repeat (first | exact Below.refl _ _ | refine Below.alloc ?_ (by simp) _)⟩
 subst hb;have eb : (b == b) = true := by simp
 by_cases hi : i = i2
 case neg =>
  have e9 : (i == i2) = false := by simp [hi]
  have hne : decide ((⟨k, lit, a, b, i, j, l⟩ : Lk) = ⟨k, lit, a, b, i2, j2, l2⟩) = false := decide_eq_false (fun e => hi (by injection e));rw [hne];clear h1 h2 hn hm hne hi;go_enter Tryz.func48, Tryz.ntmps48
  go_wp2_with fail
  exact bodyPost_ret (v := .bool false) (by simp [results, Tryz.results48, go_sem]) rfl ⟨rfl, by repeat (first | exact Below.refl _ _ | refine Below.alloc ?_ (by simp) _)⟩
 subst hi;have ei : (i == i) = true := by simp
 by_cases hj : j = j2
 case neg =>
  have e9 : (j == j2) = false := by simp [hj]
  have hne : decide ((⟨k, lit, a, b, i, j, l⟩ : Lk) = ⟨k, lit, a, b, i, j2, l2⟩) = false := decide_eq_false (fun e => hj (by injection e));rw [hne];clear h1 h2 hn hm hne hj;go_enter Tryz.func48, Tryz.ntmps48
  go_wp2_with fail
  exact bodyPost_ret (v := .bool false) (by simp [results, Tryz.results48, go_sem]) rfl ⟨rfl, by repeat (first | exact Below.refl _ _ | refine Below.alloc ?_ (by simp) _)⟩
 subst hj;have ej : (j == j) = true := by simp
 have hd : decide ((⟨k, lit, a, b, i, j, l⟩ : Lk) = ⟨k, lit, a, b, i, j, l2⟩) = decide (l = l2) := by
  by_cases h : l = l2
  ·subst h; simp
  ·rw [decide_eq_false h]; exact decide_eq_false (fun e => h (by injection e))
 rw [hd];clear hd;have HC := Zh (fun (w : World) (hb : Below W.heap.size W w) => qsk q c l.length l q2 c2 l2.length l2 w (h1.later hb) (h2.later hb) rfl rfl hn hm);have HW := Zh (show Below W.heap.size W ((W.alloc (.cells #[.int .u8 k, .int .i64 lit, .int .i64 a, .int .i64 b, .int .i64 i, .int .i64 j, .slice q l.length c] 64)).alloc (.cells #[.int .u8 k, .int .i64 lit, .int .i64 a, .int .i64 b, .int .i64 i, .int .i64 j, .slice q2 l2.length c2] 64)) from by repeat (first | exact Below.refl _ _ | refine Below.alloc ?_ (by simp) _));clear h1 h2 hn hm;obtain ⟨b0, hb0⟩ : ∃ b0, b0 = decide (l = l2) := ⟨_, rfl⟩;rw [<- hb0] at HC ⊢;clear hb0;go_enter Tryz.func48, Tryz.ntmps48
 go_wp2_with fail
 refine (HC.o _ HW.o).mono ?_;rintro e w1 ⟨rfl, nd, rfl⟩
 go_wp2_with fail
 exact bodyPost_ret (v := .bool b0) (by simp [results, Tryz.results48, go_sem]) rfl ⟨rfl, bdd HW.o⟩
end Go.Proofs.YtookoagcmejkpaaGreatDoor
namespace Go.Proofs
open Go.Shelf
def Tryz.laysM173_ren : Go.Shelf.Ren := ⟨fun | 173 => 110 | 246 => 120 | 283 => 126 | 284 => 127 | 285 => 128 | 286 => 129 | 129 => 137 | 317 => 136 | 318 => 138 | 319 => 139 | 320 => 140 | 337 => 150 | 338 => 151 | n => n, fun | 2 => 2 | 3 => 3 | 9 => 9 | 4 => 4 | 171 => 172 | 0 => 0 | 53 => 173 | 37 => 57 | 5 => 5 | 173 => 176 | 212 => 188 | 51 => 189 | 20 => 20 | 213 => 190 | 46 => 191 | 232 => 205 | 233 => 206 | n => n, fun | 17 => 1 | 18 => 4 | 19 => 5 | n => n⟩
theorem Tryz.laysM173 : Go.Proofs.LaysM.n173 Tryz.prog Tryz.laysM173_ren := {
 mixed := by kernel_rfl
 f129 := Tryz.func137.trans (congrArg some (by kernel_rfl))
 f173 := Tryz.func110.trans (congrArg some (by kernel_rfl))
 f246 := Tryz.func120.trans (congrArg some (by kernel_rfl))
 f283 := Tryz.func126.trans (congrArg some (by kernel_rfl))
 f284 := Tryz.func127.trans (congrArg some (by kernel_rfl))
 f285 := Tryz.func128.trans (congrArg some (by kernel_rfl))
 f286 := Tryz.func129.trans (congrArg some (by kernel_rfl))
 f317 := Tryz.func136.trans (congrArg some (by kernel_rfl))
 f318 := Tryz.func138.trans (congrArg some (by kernel_rfl))
 f319 := Tryz.func139.trans (congrArg some (by kernel_rfl))
 f320 := Tryz.func140.trans (congrArg some (by kernel_rfl))
 f337 := Tryz.func150.trans (congrArg some (by kernel_rfl))
 f338 := Tryz.func151.trans (congrArg some (by kernel_rfl))
 t0 := Tryz.underlying0
 a0 := Tryz.isAgg0
 z0 := Tryz.sizeOf0
 v0 := Tryz.zeroValue0
 t2 := Tryz.underlying2
 a2 := Tryz.isAgg2
 z2 := Tryz.sizeOf2
 v2 := Tryz.zeroValue2
 t3 := Tryz.underlying3
 a3 := Tryz.isAgg3
 z3 := Tryz.sizeOf3
 v3 := Tryz.zeroValue3
 t4 := Tryz.underlying4
 a4 := Tryz.isAgg4
 z4 := Tryz.sizeOf4
 v4 := Tryz.zeroValue4
 t5 := Tryz.underlying5
 a5 := Tryz.isAgg5
 z5 := Tryz.sizeOf5
 v5 := Tryz.zeroValue5
 t9 := Tryz.underlying9
 a9 := Tryz.isAgg9
 z9 := Tryz.sizeOf9
 v9 := Tryz.zeroValue9
 t20 := Tryz.underlying20
 a20 := Tryz.isAgg20
 z20 := Tryz.sizeOf20
 v20 := Tryz.zeroValue20
 t37 := Tryz.underlying57
 a37 := Tryz.isAgg57
 z37 := Tryz.sizeOf57
 v37 := Tryz.zeroValue57
 t46 := Tryz.underlying191
 a46 := Tryz.isAgg191
 z46 := Tryz.sizeOf191
 v46 := Tryz.zeroValue191
 t51 := Tryz.underlying189
 a51 := Tryz.isAgg189
 z51 := Tryz.sizeOf189
 v51 := Tryz.zeroValue189
 t53 := Tryz.underlying173
 a53 := Tryz.isAgg173
 z53 := Tryz.sizeOf173
 v53 := Tryz.zeroValue173
 t171 := Tryz.underlying172
 a171 := Tryz.isAgg172
 z171 := Tryz.sizeOf172
 v171 := Tryz.zeroValue172
 t173 := Tryz.underlying176
 a173 := Tryz.isAgg176
 z173 := Tryz.sizeOf176
 v173 := Tryz.zeroValue176
 t212 := Tryz.underlying188
 a212 := Tryz.isAgg188
 z212 := Tryz.sizeOf188
 v212 := Tryz.zeroValue188
 t213 := Tryz.underlying190
 a213 := Tryz.isAgg190
 z213 := Tryz.sizeOf190
 t232 := Tryz.underlying205
 a232 := Tryz.isAgg205
 z232 := Tryz.sizeOf205
 v232 := Tryz.zeroValue205
 t233 := Tryz.underlying206
 a233 := Tryz.isAgg206
 z233 := Tryz.sizeOf206
 v233 := Tryz.zeroValue206
 g17 := by kernel_rfl
 g18 := by kernel_rfl
 g19 := by kernel_rfl
 i0 := by kernel_rfl
 i2 := by kernel_rfl
 i3 := by kernel_rfl
 i4 := by kernel_rfl
 i5 := by kernel_rfl
 i9 := by kernel_rfl
 i20 := by kernel_rfl
 i37 := by kernel_rfl
 i46 := by kernel_rfl
 i51 := by kernel_rfl
 i53 := by kernel_rfl
 i171 := by kernel_rfl
 i173 := by kernel_rfl
 i212 := by kernel_rfl
 i232 := by kernel_rfl
 i233 := by kernel_rfl
 m17 := by kernel_rfl
 m18 := by kernel_rfl
 m19 := by kernel_rfl }
open Go.RowKit Go.Sort Go.Lib in
theorem Tryz.strconv_FormatInt_10 (n : Int) (h0 : -9223372036854775808 <= n) (h1 : n <= 9223372036854775807) (w : World) (htab : Lib.TabIs Tryz.prog w "internal/strconv.uint64pow10" .u64 Lib.pow10Tab) :
  Calls Tryz.prog 110 #[.int .i64 n, .int .i64 10] w fun e w' => e = .returned (.string ⟨(Lib.itoa n).toArray⟩) /\ ∃ k os, w' = grow (w.drewN k) os := Any.strconv_FormatInt_10 Tryz.laysM173 n h0 h1 w htab
def Tryz.lays156_ren : Go.Shelf.Ren := ⟨fun | 156 => 87 | 165 => 104 | 166 => 105 | 169 => 106 | 240 => 117 | 241 => 118 | 276 => 124 | 277 => 125 | n => n, fun | 31 => 95 | 9 => 9 | 3 => 3 | 4 => 4 | 0 => 0 | 20 => 20 | 72 => 151 | 76 => 155 | 70 => 149 | 37 => 57 | 75 => 154 | 127 => 163 | 164 => 168 | 5 => 5 | 80 => 157 | n => n, fun | n => n⟩
theorem Tryz.lays156 : Go.Proofs.Lays.n156 Tryz.prog Tryz.lays156_ren := {
 mixed := by kernel_rfl
 f156 := Tryz.func87.trans (congrArg some (by kernel_rfl))
 f165 := Tryz.func104.trans (congrArg some (by kernel_rfl))
 f166 := Tryz.func105.trans (congrArg some (by kernel_rfl))
 f169 := Tryz.func106.trans (congrArg some (by kernel_rfl))
 f240 := Tryz.func117.trans (congrArg some (by kernel_rfl))
 f241 := Tryz.func118.trans (congrArg some (by kernel_rfl))
 f276 := Tryz.func124.trans (congrArg some (by kernel_rfl))
 f277 := Tryz.func125.trans (congrArg some (by kernel_rfl))
 t0 := Tryz.underlying0
 a0 := Tryz.isAgg0
 z0 := Tryz.sizeOf0
 v0 := Tryz.zeroValue0
 t3 := Tryz.underlying3
 a3 := Tryz.isAgg3
 z3 := Tryz.sizeOf3
 v3 := Tryz.zeroValue3
 t4 := Tryz.underlying4
 a4 := Tryz.isAgg4
 z4 := Tryz.sizeOf4
 v4 := Tryz.zeroValue4
 t9 := Tryz.underlying9
 a9 := Tryz.isAgg9
 z9 := Tryz.sizeOf9
 v9 := Tryz.zeroValue9
 t20 := Tryz.underlying20
 a20 := Tryz.isAgg20
 z20 := Tryz.sizeOf20
 v20 := Tryz.zeroValue20
 t31 := Tryz.underlying95
 a31 := Tryz.isAgg95
 z31 := Tryz.sizeOf95
 v31 := Tryz.zeroValue95
 t37 := Tryz.underlying57
 a37 := Tryz.isAgg57
 z37 := Tryz.sizeOf57
 v37 := Tryz.zeroValue57
 t70 := Tryz.underlying149
 a70 := Tryz.isAgg149
 z70 := Tryz.sizeOf149
 v70 := Tryz.zeroValue149
 t72 := Tryz.underlying151
 a72 := Tryz.isAgg151
 z72 := Tryz.sizeOf151
 v72 := Tryz.zeroValue151
 t75 := Tryz.underlying154
 a75 := Tryz.isAgg154
 z75 := Tryz.sizeOf154
 v75 := Tryz.zeroValue154
 t76 := Tryz.underlying155
 a76 := Tryz.isAgg155
 z76 := Tryz.sizeOf155
 v76 := Tryz.zeroValue155
 t127 := Tryz.underlying163
 a127 := Tryz.isAgg163
 z127 := Tryz.sizeOf163
 v127 := Tryz.zeroValue163
 t164 := Tryz.underlying168
 a164 := Tryz.isAgg168
 z164 := Tryz.sizeOf168
 v164 := Tryz.zeroValue168 }
theorem Tryz.Builder_Extra_156 : Builder.Extra Tryz.prog Tryz.lays156_ren := {
 sizeBuilder := by kernel_rfl
 liesBuilder := by kernel_rfl
 t5 := Tryz.underlying5
 a5 := Tryz.isAgg5
 z5 := Tryz.sizeOf5
 v5 := Tryz.zeroValue5
 infoByte := by kernel_rfl
 cellsByte := by kernel_rfl
 sizeByte := by kernel_rfl
 neB5 := by decide }
open Go.RowKit in
theorem Tryz.strings_Join_none (a : Option Addr) (c : Nat) (sep : ByteArray) (w : World) :
  Calls Tryz.prog 87 #[.slice a 0 c, .string sep] w fun e w' => e = .returned (.string ⟨#[]⟩) /\ w' = w := Any.strings_Join_none Tryz.lays156 Tryz.Builder_Extra_156 a c sep w
open Go.RowKit in
theorem Tryz.strings_Join (bk o c : Nat) (xs : List ByteArray) (sep : ByteArray) (w : World) (hcells : ∀ (j : Nat) x, xs[j]? = some x -> w.cell? ⟨bk, o + j, none⟩ = some (.string x)) (hbk : bk < w.heap.size) (hN : xs.length <= 140737488355328) (hcap : xs.length <= c) (hlen : (Lib.join (xs.map (·.data.toList)) sep.data.toList).length <= 140737488355328) :
  Calls Tryz.prog 87 #[.slice (some ⟨bk, o, none⟩) xs.length c, .string sep] w fun e w' => e = .returned (.string ⟨(Lib.join (xs.map (·.data.toList)) sep.data.toList).toArray⟩) /\ Below w.heap.size w w' := Any.strings_Join Tryz.lays156 Tryz.Builder_Extra_156 bk o c xs sep w hcells hbk hN hcap hlen
end Go.Proofs
namespace Go.Proofs.YtookoagcmejkpaaGreatDoor
set_option maxRecDepth 100000
open Go Go.RowKit
inductive Fo where
 | nil : Fo
 | cons (l : Bool) (k : Int) (s : ByteArray) (a : Int) (kids rest : Fo) : Fo
namespace Fo
def len : Fo -> Nat
 | .nil => 0
 | .cons _ _ _ _ _ r => r.len + 1
def size : Fo -> Nat
 | .nil => 0
 | .cons _ _ _ _ x r => x.size + r.size + 1
def snoc : Fo -> Bool -> Int -> ByteArray -> Int -> Fo -> Fo
 | .nil, l, k, s, a, x => .cons l k s a x .nil
 | .cons l0 k0 s0 a0 x0 r, l, k, s, a, x => .cons l0 k0 s0 a0 x0 (r.snoc l k s a x)
def app : Fo -> Fo -> Fo
 | .nil, g => g
 | .cons l k s a x r, g => .cons l k s a x (r.app g)
theorem len_snoc (l : Bool) (k : Int) (s : ByteArray) (a : Int) (x : Fo) : ∀ f : Fo, (f.snoc l k s a x).len = f.len + 1
 | .nil => rfl
 | .cons _ _ _ _ _ r => by simp only [snoc, len, len_snoc l k s a x r]
theorem app_nil : ∀ f : Fo, f.app .nil = f
 | .nil => rfl
 | .cons _ _ _ _ _ r => by simp only [app, app_nil r]
theorem snoc_app (l : Bool) (k : Int) (s : ByteArray) (a : Int) (x g : Fo) : ∀ f : Fo, (f.snoc l k s a x).app g = f.app (.cons l k s a x g)
 | .nil => rfl
 | .cons _ _ _ _ _ r => by simp only [app, snoc, snoc_app l k s a x g r]
end Fo
def qbv : Fo -> Fo -> Bool
 | .nil, .nil => true
 | .cons l k s _ x r, .cons l' k' s' _ x' r' => (decide (l = l') && decide (k = k') && decide (s = s') && decide (x.len = x'.len)) && qbv x x' && qbv r r'
 | _, _ => false
def qdu (l : Bool) (k : Int) (s : ByteArray) (x : Fo) (l' : Bool) (k' : Int) (s' : ByteArray) (x' : Fo) : Bool := (decide (l = l') && decide (k = k') && decide (s = s') && decide (x.len = x'.len)) && qbv x x'
def FoIn (W : World) (F : Nat -> Prop) : Fo -> Option Addr -> Prop
 | .nil, _ => True
 | .cons l k s a x r, p => ∃ b off, p = some ⟨b, off, none⟩ /\ F b /\ W.cell? ⟨b, off, none⟩ = some (.bool l) /\ W.cell? ⟨b, off + 1, none⟩ = some (.int .u8 k) /\ W.cell? ⟨b, off + 2, none⟩ = some (.string s) /\ W.cell? ⟨b, off + 3, none⟩ = some (.int .i64 a) ∧
  (∃ q c, W.cell? ⟨b, off + 4, none⟩ = some (.slice q x.len c) /\ x.len <= c /\ x.len <= 281474976710656 /\ FoIn W F x q) /\ FoIn W F r (some ⟨b, off + 5, none⟩)
theorem FoIn.move {W W' : World} {F F' : Nat -> Prop} (hc : ∀ b o v, F b -> W.cell? ⟨b, o, none⟩ = some v -> W'.cell? ⟨b, o, none⟩ = some v /\ F' b) : ∀ (f : Fo) (p : Option Addr), FoIn W F f p -> FoIn W' F' f p
 | .nil, _, _ => trivial
 | .cons l k s a x r, p, h => by
  obtain ⟨b, off, e, hF, h0, h1, h2, h3, ⟨q, c, h4, hn, hm, hx⟩, hr⟩ := h;exact ⟨b, off, e, (hc b _ _ hF h0).2, (hc b _ _ hF h0).1, (hc b _ _ hF h1).1, (hc b _ _ hF h2).1, (hc b _ _ hF h3).1, ⟨q, c, (hc b _ _ hF h4).1, hn, hm, FoIn.move hc x q hx⟩, FoIn.move hc r _ hr⟩
theorem FoIn.later {W W' : World} {F : Nat -> Prop} {f : Fo} {p : Option Addr} (h : FoIn W F f p) (hb : Below W.heap.size W W') : FoIn W' F f p :=
 FoIn.move (fun _ _ _ hF hv => ⟨qaa hb hv, hF⟩) f p h
theorem FoIn.only {W W' : World} {F T : Nat -> Prop} {f : Fo} {p : Option Addr} (h : FoIn W F f p) (ho : Only T W W') (hn : ∀ b, F b -> ¬ T b) : FoIn W' F f p :=
 FoIn.move (fun _ _ _ hF hv => ⟨ho.cell hv (hn _ hF), hF⟩) f p h
theorem FoIn.mono {W : World} {F F' : Nat -> Prop} {f : Fo} {p : Option Addr} (h : FoIn W F f p) (hn : ∀ b, F b -> b < W.heap.size -> F' b) : FoIn W F' f p :=
 FoIn.move (fun b _ _ hF hv => ⟨hv, hn b hF (World.block_lt_of_cell? W _ hv)⟩) f p h
def trV (l : Bool) (k : Int) (s : ByteArray) (a : Int) (q : Option Addr) (n c : Nat) : Value := .agg #[.bool l, .int .u8 k, .string s, .int .i64 a, .slice q n c]
def pl (q : Option Addr) (i : Nat) : Option Addr := q.map fun a => ⟨a.block, a.off + i * 5, none⟩
theorem qcd {W : World} {F : Nat -> Prop} {f : Fo} {q : Option Addr} (h : FoIn W F f q) : FoIn W F f (pl q 0) := by
 cases f with
 | nil => trivial
 | cons l k s a x r =>
  obtain ⟨b, off, rfl, hr⟩ := h;exact ⟨b, off, by simp [pl], hr⟩
theorem FoIn.head {W : World} {F : Nat -> Prop} {l : Bool} {k : Int} {s : ByteArray} {a : Int} {x r : Fo} {b off i : Nat} (h : FoIn W F (.cons l k s a x r) (pl (some ⟨b, off, none⟩) i)) :
  F b /\ W.cell? ⟨b, off + i * 5, none⟩ = some (.bool l) /\ W.cell? ⟨b, off + i * 5 + 1, none⟩ = some (.int .u8 k) /\ W.cell? ⟨b, off + i * 5 + 2, none⟩ = some (.string s) /\ W.cell? ⟨b, off + i * 5 + 3, none⟩ = some (.int .i64 a) ∧
  (∃ q c, W.cell? ⟨b, off + i * 5 + 4, none⟩ = some (.slice q x.len c) /\ x.len <= c /\ x.len <= 281474976710656 /\ FoIn W F x q) /\ FoIn W F r (pl (some ⟨b, off, none⟩) (i + 1)) := by
 obtain ⟨b', off', e, hF, h0, h1, h2, h3, h4, h5⟩ := h;simp only [pl, Option.map_some, Option.some.injEq, Addr.mk.injEq] at e;obtain ⟨rfl, rfl, _⟩ := e;refine ⟨hF, h0, h1, h2, h3, h4, ?_⟩
 have e2 : pl (some ⟨b, off, none⟩) (i + 1) = some ⟨b, off + i * 5 + 5, none⟩ := by
  simp only [pl, Option.map_some, Option.some.injEq, Addr.mk.injEq]; exact ⟨trivial, by omega, trivial⟩
 rw [e2]; exact h5
theorem FoIn.some {W : World} {F : Nat -> Prop} {f : Fo} {q : Option Addr} (h : FoIn W F f q) (h0 : 0 < f.len) : ∃ b off, q = some ⟨b, off, none⟩ := by
 cases f with
 | nil => exact absurd h0 (by decide)
 | cons l k s a x r =>
  obtain ⟨b, off, rfl, _⟩ := h;exact ⟨b, off, rfl⟩
theorem qat {s s' : ByteArray} (h : s.toList = s'.toList) : s = s' := by
 rw [ByteArray.toList_eq, ByteArray.toList_eq] at h;exact ByteArray.ext (Array.toList_inj.1 h)
end Go.Proofs.YtookoagcmejkpaaGreatDoor
namespace Go.Proofs.YtookoagcmejkpaaGreatDoor
set_option maxRecDepth 100000
open Go Go.RowKit
def qsb (f : Nat) (n : Nat) : Prop := ∀ (x x' : Fo), x.size <= n -> ∀ (l l' : Bool) (k k' : Int) (s s' : ByteArray) (a a' : Int) (q q' : Option Addr) (c c' : Nat) (W : World) (F F' : Nat -> Prop), FoIn W F x q -> FoIn W F' x' q' -> x.len <= c -> x'.len <= c' -> x.len <= 281474976710656 -> x'.len <= 281474976710656 →
 Calls Tryz.prog f #[trV l k s a q x.len c, trV l' k' s' a' q' x'.len c'] W fun e w' => e = .returned (.bool (qdu l k s x l' k' s' x')) /\ Below W.heap.size W w'
theorem qm3 (l l' : Bool) (k k' : Int) (s s' : ByteArray) (a a' : Int) (q q' : Option Addr) (c c' n n' : Nat) (W : World) (h : (decide (l = l') && decide (k = k') && decide (s = s') && decide (n = n')) = false) (hn : n <= 281474976710656) (hn' : n' <= 281474976710656) :
  Calls Tryz.prog 50 #[trV l k s a q n c, trV l' k' s' a' q' n' c'] W fun e w' => e = .returned (.bool false) /\ Below W.heap.size W w' := by
 have i1 : (n : Int) <= 281474976710656 := by omega
 have i2 : (n' : Int) <= 281474976710656 := by omega
 have hb2 : ∀ (w : World) (o1 o2 : Obj), Below w.heap.size w ((w.alloc o1).alloc o2) := fun w o1 o2 => (qab w o1).alloc (by simp) _
 unfold trV
 by_cases h1 : l = l'
 ·subst h1
  by_cases h2 : k = k'
  ·subst h2
   by_cases h3 : s = s'
   ·subst h3
    have h4 : ¬ n = n' := fun e => by simp [e] at h
    have h5 : ((n : Int) != (n' : Int)) = true := by simp; omega
    clear h;go_enter Tryz.func50, Tryz.ntmps50
    go_wp2_with fail
    go_ret
    exact ⟨rfl, hb2 _ _ _⟩
   ·have h5 : ¬ s.toList = s'.toList := fun e => h3 (qat e)
    clear h;go_enter Tryz.func50, Tryz.ntmps50
    go_wp2_with fail
    go_ret
    exact ⟨rfl, hb2 _ _ _⟩
  ·clear h
   go_enter Tryz.func50, Tryz.ntmps50
   go_wp2_with fail
   go_ret
   exact ⟨rfl, hb2 _ _ _⟩
 ·clear h
  go_enter Tryz.func50, Tryz.ntmps50
  go_wp2_with fail
  go_ret
  exact ⟨rfl, hb2 _ _ _⟩
theorem qjb (n : Nat) (ih : ∀ m, m < n -> qsb 50 m) : qsb 50 n := by
 intro x x' hsz l l' k k' s s' a a' q q' c c' W F F' hx hx' hc hc' hn hn'
 by_cases hd : (decide (l = l') && decide (k = k') && decide (s = s') && decide (x.len = x'.len)) = true
 case neg =>
  have hd2 := Bool.eq_false_iff.2 hd;have h := qm3 l l' k k' s s' a a' q q' c c' x.len x'.len W hd2 hn hn';refine h.mono ?_;rintro e w ⟨rfl, hb⟩;refine ⟨?_, hb⟩;unfold qdu;rw [hd2]; rfl
 simp only [Bool.and_eq_true, decide_eq_true_eq] at hd;obtain ⟨⟨⟨rfl, rfl⟩, rfl⟩, hlen⟩ := hd;have hS : qdu l k s x l k s x' = qbv x x' := by simp [qdu, hlen]
 rw [hS];clear hS;rw [<- hlen];rw [<- hlen] at hc';obtain ⟨N, hN⟩ : ∃ N, N = x.len := ⟨_, rfl⟩;rw [<- hN] at hlen hc hc' hn ⊢;obtain ⟨R, hR⟩ : ∃ R, R = qbv x x' := ⟨_, rfl⟩;rw [<- hR];have i1 : (N : Int) <= 281474976710656 := by omega
 have hb2 : ∀ (w : World) (o1 o2 : Obj), Below w.heap.size w ((w.alloc o1).alloc o2) := fun w o1 o2 => (qab w o1).alloc (by simp) _
 have HX := Zh (aI hx hx');have HI := Zh (show (N = x.len /\ x'.len = x.len /\ R = qbv x x' /\ x.size <= n) from ⟨hN, by omega, hR, hsz⟩);have IH := Zh ih;have HB2 := Zh hb2;clear hx hx' ih hN hlen hR hsz hb2;unfold trV;go_enter Tryz.func50, Tryz.ntmps50
 go_wp2_with fail
 go_loopg [5, 41] N (fun gk s5 s41 wx => ∃ (i : Nat) (f f' : Fo), i + gk = N /\ s41 = .int .i64 (i : Int) /\ Hid (f.len = gk /\ f'.len = gk /\ R = qbv f f' /\ f.size <= x.size /\ FoIn wx F f (pl q i) /\ FoIn wx F' f' (pl q' i) /\ wx.cell? ⟨W.heap.size, 4, none⟩ = some (.slice q N c) /\ wx.cell? ⟨W.heap.size + 1, 4, none⟩ = some (.slice q' N c') /\ Below W.heap.size W wx))
 case atStart =>
  refine ⟨0, x, x', by omega, rfl, Zh ⟨?_, ?_, ?_, ?_, ?_, ?_, ?_, ?_, ?_⟩⟩
  ·exact HI.o.1.symm
  ·rw [HI.o.2.1]; exact HI.o.1.symm
  ·exact HI.o.2.2.1
  ·exact Nat.le_refl _
  ·exact (qcd HX.o.1).later (HB2.o _ _ _)
  ·exact (qcd HX.o.2).later (HB2.o _ _ _)
  ·simp [go_sem]
  ·simp [go_sem]
  ·exact HB2.o _ _ _
 case round =>
  obtain ⟨i, f, f', hk, rfl, HK⟩ := hrel;have HG := Zh hk;have hi2 : i <= N := by omega
  clear hk;obtain ⟨wA, hwA⟩ : ∃ w, w = wr := ⟨_, rfl⟩;subst hwA;have i2 : (i : Int) <= (N : Int) := by omega
  have d3 := HK.o.2.2.2.2.2.2.1;have d4 := HK.o.2.2.2.2.2.2.2.1
  by_cases hlt : i < N
  ·obtain ⟨G, rfl⟩ : ∃ G, gk = G + 1 := ⟨gk - 1, by have := HG.o; omega⟩
   have i0 : (0 : Int) <= (i : Int) := by omega
   have i3 : (i : Int) < (N : Int) := by omega
   obtain ⟨hf, hf', hR, hsz, hx, hx', -, -, hb⟩ := HK.o;obtain ⟨b, off, rfl⟩ : ∃ b off, q = some ⟨b, off, none⟩ := HX.o.1.some (by rw [<- HI.o.1]; omega);obtain ⟨b2, off2, rfl⟩ : ∃ b off, q' = some ⟨b, off, none⟩ := HX.o.2.some (by rw [HI.o.2.1, <- HI.o.1]; omega)
   cases f with
   | nil => simp [Fo.len] at hf
   | cons l1 k1 s1 a1 x1 r1 =>
    cases f' with
    | nil => simp [Fo.len] at hf'
    | cons l2 k2 s2 a2 x2 r2 =>
     obtain ⟨_, e0, e1, e2, e3, ⟨q3, cc3, e4, hc3, hm3, hx3⟩, hr3⟩ := hx.head;obtain ⟨_, g0, g1, g2, g3, ⟨q4, cc4, g4, hc4, hm4, hx4⟩, hr4⟩ := hx'.head;have hC := fun w' (h : Below wA.heap.size wA w') => IH.o x1.size (by have := HI.o.2.2.2; simp only [Fo.size] at hsz; omega) x1 x2 (Nat.le_refl _) l1 l2 k1 k2 s1 s2 a1 a2 q3 q4 cc3 cc4 w' F F' (hx3.later h) (hx4.later h) hc3 hc4 hm3 hm4
     have HS := Zh (show (r1.len = G /\ r2.len = G /\ R = (qdu l1 k1 s1 x1 l2 k2 s2 x2 && qbv r1 r2) /\ r1.size <= x.size) from ⟨by simpa [Fo.len] using hf, by simpa [Fo.len] using hf', hR, by simp only [Fo.size] at hsz; omega⟩);generalize x1.len = n3 at *;generalize x2.len = n4 at *;generalize qdu l1 k1 s1 x1 l2 k2 s2 x2 = r at *;have hkp : ∀ w', Below wA.heap.size wA w' -> (Below wA.heap.size wA w' /\ w'.cell? ⟨W.heap.size, 4, none⟩ = some (.slice (some ⟨b, off, none⟩) N c) /\ w'.cell? ⟨W.heap.size + 1, 4, none⟩ = some (.slice (some ⟨b2, off2, none⟩) N c') /\ w'.cell? ⟨b, off + i * 5, none⟩ = some (.bool l1) /\ w'.cell? ⟨b, off + i * 5 + 1, none⟩ = some (.int .u8 k1) /\ w'.cell? ⟨b, off + i * 5 + 2, none⟩ = some (.string s1) /\ w'.cell? ⟨b, off + i * 5 + 3, none⟩ = some (.int .i64 a1) /\ w'.cell? ⟨b, off + i * 5 + 4, none⟩ = some (.slice q3 n3 cc3) /\ w'.cell? ⟨b2, off2 + i * 5, none⟩ = some (.bool l2) /\ w'.cell? ⟨b2, off2 + i * 5 + 1, none⟩ = some (.int .u8 k2) /\ w'.cell? ⟨b2, off2 + i * 5 + 2, none⟩ = some (.string s2) /\ w'.cell? ⟨b2, off2 + i * 5 + 3, none⟩ = some (.int .i64 a2) /\ w'.cell? ⟨b2, off2 + i * 5 + 4, none⟩ = some (.slice q4 n4 cc4)) := fun w' h => ⟨h, qaa h d3, qaa h d4, qaa h e0, qaa h e1, qaa h e2, qaa h e3, qaa h e4, qaa h g0, qaa h g1, qaa h g2, qaa h g3, qaa h g4⟩
     have hcc : ∀ w', (Below wA.heap.size wA w' /\ w'.cell? ⟨W.heap.size, 4, none⟩ = some (.slice (some ⟨b, off, none⟩) N c) /\ w'.cell? ⟨W.heap.size + 1, 4, none⟩ = some (.slice (some ⟨b2, off2, none⟩) N c') /\ w'.cell? ⟨b, off + i * 5, none⟩ = some (.bool l1) /\ w'.cell? ⟨b, off + i * 5 + 1, none⟩ = some (.int .u8 k1) /\ w'.cell? ⟨b, off + i * 5 + 2, none⟩ = some (.string s1) /\ w'.cell? ⟨b, off + i * 5 + 3, none⟩ = some (.int .i64 a1) /\ w'.cell? ⟨b, off + i * 5 + 4, none⟩ = some (.slice q3 n3 cc3) /\ w'.cell? ⟨b2, off2 + i * 5, none⟩ = some (.bool l2) /\ w'.cell? ⟨b2, off2 + i * 5 + 1, none⟩ = some (.int .u8 k2) /\ w'.cell? ⟨b2, off2 + i * 5 + 2, none⟩ = some (.string s2) /\ w'.cell? ⟨b2, off2 + i * 5 + 3, none⟩ = some (.int .i64 a2) /\ w'.cell? ⟨b2, off2 + i * 5 + 4, none⟩ = some (.slice q4 n4 cc4)) -> Calls Tryz.prog 50 #[trV l1 k1 s1 a1 q3 n3 cc3, trV l2 k2 s2 a2 q4 n4 cc4] w' fun e w'' => e = .returned (.bool r) /\ (Below wA.heap.size wA w'' /\ w''.cell? ⟨W.heap.size, 4, none⟩ = some (.slice (some ⟨b, off, none⟩) N c) /\ w''.cell? ⟨W.heap.size + 1, 4, none⟩ = some (.slice (some ⟨b2, off2, none⟩) N c') /\ w''.cell? ⟨b, off + i * 5, none⟩ = some (.bool l1) /\ w''.cell? ⟨b, off + i * 5 + 1, none⟩ = some (.int .u8 k1) /\ w''.cell? ⟨b, off + i * 5 + 2, none⟩ = some (.string s1) /\ w''.cell? ⟨b, off + i * 5 + 3, none⟩ = some (.int .i64 a1) /\ w''.cell? ⟨b, off + i * 5 + 4, none⟩ = some (.slice q3 n3 cc3) /\ w''.cell? ⟨b2, off2 + i * 5, none⟩ = some (.bool l2) /\ w''.cell? ⟨b2, off2 + i * 5 + 1, none⟩ = some (.int .u8 k2) /\ w''.cell? ⟨b2, off2 + i * 5 + 2, none⟩ = some (.string s2) /\ w''.cell? ⟨b2, off2 + i * 5 + 3, none⟩ = some (.int .i64 a2) /\ w''.cell? ⟨b2, off2 + i * 5 + 4, none⟩ = some (.slice q4 n4 cc4)) := fun w' h => (hC w' h.1).mono fun e w'' h2 => ⟨h2.1, hkp w'' (h.1.trans (h2.2.mono h.1.size))⟩
     unfold trV at hcc;have HKP := Zh hkp;have HCC := Zh hcc;have HR := Zh (aI hr3 hr4);have HBB := Zh hb;clear hf hf' hR hsz hx hx' hb hx3 hr3 hx4 hr4 hc3 hc4 hm3 hm4 hC hkp hcc HK e0 e1 e2 e3 e4 g0 g1 g2 g3 g4
     go_wp2_with fail
     go_region_held3 (fun w' => Below wA.heap.size wA w' /\ w'.cell? ⟨W.heap.size, 4, none⟩ = some (.slice (some ⟨b, off, none⟩) N c) /\ w'.cell? ⟨W.heap.size + 1, 4, none⟩ = some (.slice (some ⟨b2, off2, none⟩) N c') /\ w'.cell? ⟨b, off + i * 5, none⟩ = some (.bool l1) /\ w'.cell? ⟨b, off + i * 5 + 1, none⟩ = some (.int .u8 k1) /\ w'.cell? ⟨b, off + i * 5 + 2, none⟩ = some (.string s1) /\ w'.cell? ⟨b, off + i * 5 + 3, none⟩ = some (.int .i64 a1) /\ w'.cell? ⟨b, off + i * 5 + 4, none⟩ = some (.slice q3 n3 cc3) /\ w'.cell? ⟨b2, off2 + i * 5, none⟩ = some (.bool l2) /\ w'.cell? ⟨b2, off2 + i * 5 + 1, none⟩ = some (.int .u8 k2) /\ w'.cell? ⟨b2, off2 + i * 5 + 2, none⟩ = some (.string s2) /\ w'.cell? ⟨b2, off2 + i * 5 + 3, none⟩ = some (.int .i64 a2) /\ w'.cell? ⟨b2, off2 + i * 5 + 4, none⟩ = some (.slice q4 n4 cc4)) (first | exact HKP.o _ (qae _) | exact HKP.o _ (Below.refl _ _) | assumption) (first | (go_at_call 50; refine (HCC.o _ (by assumption)).mono ?_; rintro e w' ⟨rfl, hs⟩))
     have HW := Zh hs.1;have HSS := Zh hs;have z3 := hs.2.1;have z4 := hs.2.2.1;clear hs
     cases r with
     | false =>
      go_wp2_with fail
      go_ret
      refine ⟨by rw [HS.o.2.2.1]; rfl, ?_⟩
      exact HBB.o.trans (HW.o.mono HBB.o.size)
     | true =>
      go_wp2_with fail
      go_roundg G
      case measure => omega
      case rel =>
       obtain ⟨i', hi'⟩ : ∃ i', i' = i + 1 := ⟨_, rfl⟩;refine ⟨i', r1, r2, by have := HG.o; omega, by rw [hi']; go_num, Zh ⟨HS.o.1, HS.o.2.1, by rw [HS.o.2.2.1]; rfl, HS.o.2.2.2, ?_, ?_, HSS.o.2.1, HSS.o.2.2.1, HBB.o.trans (HW.o.mono HBB.o.size)⟩⟩
       ·rw [hi']; exact HR.o.1.later HW.o
       ·rw [hi']; exact HR.o.2.later HW.o
  ·obtain rfl : i = N := by omega
   obtain rfl : gk = 0 := by have := HG.o; omega
   obtain ⟨hf, hf', hR, -, -, -, -, -, hb⟩ := HK.o
   have hR2 : R = true := by
    cases f with
    | cons => simp [Fo.len] at hf
    | nil => cases f' with
     | cons => simp [Fo.len] at hf'
     | nil => exact hR
   have HBB := Zh hb;clear hf hf' hR hb;subst hR2
   go_wp2_with fail
   go_ret
   exact ⟨rfl, by first | exact HBB.o | exact bdd HBB.o⟩
theorem qlk (n : Nat) : qsb 50 n := Nat.strongRecOn n fun n ih => qjb n ih
structure TkA where
 k : Int
 s : ByteArray
 a : Int
def TksA (W : World) (p : Option Addr) (l : List TkA) : Prop := ∀ i (h : i < l.length), ∃ b off, p = some ⟨b, off, none⟩ /\ W.cell? ⟨b, off + i * 3, none⟩ = some (.int .u8 (l[i].k)) /\ W.cell? ⟨b, off + i * 3 + 1, none⟩ = some (.string l[i].s) /\ W.cell? ⟨b, off + i * 3 + 2, none⟩ = some (.int .i64 l[i].a)
theorem TksA.later {W W' : World} {p : Option Addr} {l : List TkA} (h : TksA W p l) (hb : Below W.heap.size W W') : TksA W' p l := fun i hi => by
 obtain ⟨b, off, e, h1, h2, h3⟩ := h i hi;exact ⟨b, off, e, qaa hb h1, qaa hb h2, qaa hb h3⟩
def opn (t : TkA) (o : Int) : Int := (if t.k = 1 then o + 1 else o) - (if t.k = 2 then 1 else 0)
def endF : List TkA -> Int -> Nat -> Option Nat
 | [], _, _ => none
 | t :: r, o, i => if opn t o = 0 then some (i + 1) else endF r (opn t o) (i + 1)
def endV : Option Nat -> Int
 | none => -1
 | some n => (n : Int)
def qcg : List TkA -> Int -> Int -> Int
 | [], _, top => top
 | t :: r, o, top => qcg r (opn t o) (if top < (if t.k = 1 then o + 1 else o) then (if t.k = 1 then o + 1 else o) else top)
theorem qf9 {α : Type} {l : List α} {i : Nat} (h : i < l.length) : l.drop i = l[i] :: l.drop (i + 1) := List.drop_eq_getElem_cons h
theorem qtn (p : Option Addr) (c from_ : Nat) (l : List TkA) (W : World) (h1 : TksA W p l) (hc : l.length <= c) (hn : l.length <= 281474976710656) (hf : from_ <= l.length) :
  Calls Tryz.prog 62 #[.slice p l.length c, .int .i64 (from_ : Int)] W fun e w' => e = .returned (.int .i64 (endV (endF (l.drop from_) 0 from_))) /\ Below W.heap.size W w' := by
 obtain ⟨n, hl⟩ : ∃ n, n = l.length := ⟨_, rfl⟩;obtain ⟨R, hR⟩ : ∃ R, R = endF (l.drop from_) 0 from_ := ⟨_, rfl⟩;rw [<- hR];have H1 := Zh h1;have HL := Zh hl;have HR := Zh hR;rw [<- hl] at hc hn hf ⊢;clear h1 hl hR;have hn' : (n : Int) <= 281474976710656 := by omega
 go_enter Tryz.func62, Tryz.ntmps62
 go_wp2_with fail
 go_loopg [5, 6] (n - from_) (fun gk s5 s6 wx => ∃ (i : Nat) (o : Int), i + gk = n /\ s6 = .int .i64 (i : Int) /\ s5 = .int .i64 o /\ Hid (o <= i /\ -(i : Int) <= o /\ R = endF (l.drop i) o i /\ ∃ m, wx = W.drewN m))
 case atStart => exact ⟨from_, 0, by omega, rfl, rfl, Zh ⟨by omega, by omega, HR.o, 0, rfl⟩⟩
 case round =>
  obtain ⟨i, o, hk, rfl, rfl, HI⟩ := hrel;obtain ⟨ho1, ho2, hR, m, hm⟩ := HI.o;have HM := Zh hm;have HG := Zh hk;have hk2 : i <= n := by omega
  have o1 : o <= 281474976710656 := by omega
  have o2 : -281474976710656 <= o := by omega
  clear hk hm HI
  by_cases hlt : i < n
  ·have hlt' : i < l.length := by rw [<- HL.o]; exact hlt
   have i0 : (0 : Int) <= (i : Int) := by omega
   have i1 : (i : Int) < (n : Int) := by omega
   obtain ⟨b, off, rfl, x0, x1, x2⟩ := (H1.o.later (W' := wr) (by rw [HM.o]; exact qad _ _)) i hlt';rw [qf9 hlt'] at hR;have HRR := Zh hR;have HO := Zh (aI ho1 ho2);clear hR ho1 ho2;obtain ⟨G, rfl⟩ : ∃ G, gk = G + 1 := ⟨gk - 1, by have := HG.o; omega⟩;generalize l[i] = t at *;obtain ⟨k, s, a⟩ := t
   by_cases q1 : k = 1
   ·subst q1
    by_cases q0 : (o + 1) = 0
    ·have e0 : ((o + 1) == 0) = true := by simp [q0]
     go_wp2_with fail
     go_ret
     refine ⟨?_, by first | (rw [HM.o]; exact qad _ _) | (rw [HM.o, World.drewN_drewN]; exact qad _ _)⟩;rw [HRR.o, endF, if_pos (by simp [opn]; omega)]; simp [endV, go_sem]
    ·have e0 : ((o + 1) == 0) = false := by simp [q0]
     go_wp2_with fail
     go_roundg G
     case measure => omega
     case rel =>
      obtain ⟨i', hi'⟩ : ∃ i', i' = i + 1 := ⟨_, rfl⟩;refine ⟨i', (o + 1), by have := HG.o; omega, by rw [hi']; go_num, rfl, Zh ⟨by have := HO.o.1; omega, by have := HO.o.2; omega, ?_, by first | exact ⟨_, HM.o⟩ | exact ⟨_, by rw [HM.o, World.drewN_drewN]⟩⟩⟩;rw [HRR.o, endF, if_neg (by simp [opn]; omega), hi']; congr 1 <;> simp [opn]
   ·by_cases q2 : k = 2
    ·subst q2
     by_cases q0 : (o - 1) = 0
     ·have e0 : ((o - 1) == 0) = true := by simp [q0]
      go_wp2_with fail
      go_ret
      refine ⟨?_, by first | (rw [HM.o]; exact qad _ _) | (rw [HM.o, World.drewN_drewN]; exact qad _ _)⟩;rw [HRR.o, endF, if_pos (by simp [opn]; omega)]; simp [endV, go_sem]
     ·have e0 : ((o - 1) == 0) = false := by simp [q0]
      go_wp2_with fail
      go_roundg G
      case measure => omega
      case rel =>
       obtain ⟨i', hi'⟩ : ∃ i', i' = i + 1 := ⟨_, rfl⟩;refine ⟨i', (o - 1), by have := HG.o; omega, by rw [hi']; go_num, rfl, Zh ⟨by have := HO.o.1; omega, by have := HO.o.2; omega, ?_, by first | exact ⟨_, HM.o⟩ | exact ⟨_, by rw [HM.o, World.drewN_drewN]⟩⟩⟩;rw [HRR.o, endF, if_neg (by simp [opn]; omega), hi']; congr 1 <;> simp [opn]
    ·have e1 : (k == 1) = false := by simp [q1]
     have e2 : (k == 2) = false := by simp [q2]
     by_cases q0 : o = 0
     ·have e0 : (o == 0) = true := by simp [q0]
      go_wp2_with fail
      go_ret
      refine ⟨?_, by first | (rw [HM.o]; exact qad _ _) | (rw [HM.o, World.drewN_drewN]; exact qad _ _)⟩;rw [HRR.o, endF, if_pos (by simp [opn, q1, q2]; omega)]; simp [endV, go_sem]
     ·have e0 : (o == 0) = false := by simp [q0]
      go_wp2_with fail
      go_roundg G
      case measure => omega
      case rel =>
       obtain ⟨i', hi'⟩ : ∃ i', i' = i + 1 := ⟨_, rfl⟩;refine ⟨i', o, by have := HG.o; omega, by rw [hi']; go_num, rfl, Zh ⟨by have := HO.o.1; omega, by have := HO.o.2; omega, ?_, by first | exact ⟨_, HM.o⟩ | exact ⟨_, by rw [HM.o, World.drewN_drewN]⟩⟩⟩;rw [HRR.o, endF, if_neg (by simp [opn, q1, q2]; omega), hi']; congr 1 <;> simp [opn, q1, q2]
  ·obtain rfl : i = n := by omega
   go_wp2_with fail
   go_ret
   refine ⟨?_, by rw [HM.o]; exact qad _ _⟩;rw [hR, HL.o, List.drop_length]; rfl
theorem qs6 (p : Option Addr) (c : Nat) (l : List TkA) (W : World) (h1 : TksA W p l) (hc : l.length <= c) (hn : l.length <= 281474976710656) :
  Calls Tryz.prog 63 #[.slice p l.length c] W fun e w' => e = .returned (.int .i64 (qcg l 0 0)) /\ Below W.heap.size W w' := by
 obtain ⟨n, hl⟩ : ∃ n, n = l.length := ⟨_, rfl⟩;obtain ⟨R, hR⟩ : ∃ R, R = qcg l 0 0 := ⟨_, rfl⟩;rw [<- hR];have H1 := Zh h1;have HL := Zh hl;have HR := Zh hR;rw [<- hl] at hc hn ⊢;clear h1 hl hR;have hn' : (n : Int) <= 281474976710656 := by omega
 go_enter Tryz.func63, Tryz.ntmps63
 go_wp2_with fail
 go_loopg [3, 4, 5] n (fun gk s3 s4 s5 wx => ∃ (i : Nat) (o top : Int), i + gk = n /\ s5 = .int .i64 (i : Int) /\ s3 = .int .i64 o /\ s4 = .int .i64 top /\ Hid (o <= i /\ -(i : Int) <= o /\ top <= i /\ 0 <= top /\ R = qcg (l.drop i) o top /\ ∃ m, wx = W.drewN m))
 case atStart => exact ⟨0, 0, 0, by omega, rfl, rfl, rfl, Zh ⟨by omega, by omega, by omega, by omega, HR.o, 0, rfl⟩⟩
 case round =>
  obtain ⟨i, o, top, hk, rfl, rfl, rfl, HI⟩ := hrel;obtain ⟨ho1, ho2, ho3, ho4, hR, m, hm⟩ := HI.o;have HM := Zh hm;have HG := Zh hk;have hk2 : i <= n := by omega
  have o1 : o <= 281474976710656 := by omega
  have o2 : -281474976710656 <= o := by omega
  clear hk hm HI
  by_cases hlt : i < n
  ·have hlt' : i < l.length := by rw [<- HL.o]; exact hlt
   have i0 : (0 : Int) <= (i : Int) := by omega
   have i1 : (i : Int) < (n : Int) := by omega
   obtain ⟨b, off, rfl, x0, x1, x2⟩ := (H1.o.later (W' := wr) (by rw [HM.o]; exact qad _ _)) i hlt';rw [qf9 hlt'] at hR;have HRR := Zh hR;have HO := Zh (aI ho1 (aI ho2 (aI ho3 ho4)));clear hR ho1 ho2 ho3 ho4;obtain ⟨G, rfl⟩ : ∃ G, gk = G + 1 := ⟨gk - 1, by have := HG.o; omega⟩;generalize l[i] = t at *;obtain ⟨k, s, a⟩ := t
   by_cases q1 : k = 1
   ·subst q1
    by_cases q0 : top < (o + 1)
    ·have e0 : decide (top < (o + 1)) = true := by simp [q0]
     go_wp2_with fail
     go_roundg G
     case measure => omega
     case rel =>
      obtain ⟨i', hi'⟩ : ∃ i', i' = i + 1 := ⟨_, rfl⟩;refine ⟨i', (o + 1), (o + 1), by have := HG.o; omega, by rw [hi']; go_num, rfl, rfl, Zh ⟨by have := HO.o; omega, by have := HO.o; omega, by have := HO.o; omega, by have := HO.o; omega, ?_, by first | exact ⟨_, HM.o⟩ | exact ⟨_, by rw [HM.o, World.drewN_drewN]⟩⟩⟩;rw [HRR.o, qcg, hi']; congr 1 <;> simp [opn, q0] <;> omega
    ·have e0 : decide (top < (o + 1)) = false := by simp [q0]
     go_wp2_with fail
     go_roundg G
     case measure => omega
     case rel =>
      obtain ⟨i', hi'⟩ : ∃ i', i' = i + 1 := ⟨_, rfl⟩;refine ⟨i', (o + 1), top, by have := HG.o; omega, by rw [hi']; go_num, rfl, rfl, Zh ⟨by have := HO.o; omega, by have := HO.o; omega, by have := HO.o; omega, by have := HO.o; omega, ?_, by first | exact ⟨_, HM.o⟩ | exact ⟨_, by rw [HM.o, World.drewN_drewN]⟩⟩⟩;rw [HRR.o, qcg, hi']; congr 1 <;> simp [opn] <;> omega
   ·by_cases q2 : k = 2
    ·subst q2
     by_cases q0 : top < o
     ·have e0 : decide (top < o) = true := by simp [q0]
      go_wp2_with fail
      go_roundg G
      case measure => omega
      case rel =>
       obtain ⟨i', hi'⟩ : ∃ i', i' = i + 1 := ⟨_, rfl⟩;refine ⟨i', (o - 1), o, by have := HG.o; omega, by rw [hi']; go_num, rfl, rfl, Zh ⟨by have := HO.o; omega, by have := HO.o; omega, by have := HO.o; omega, by have := HO.o; omega, ?_, by first | exact ⟨_, HM.o⟩ | exact ⟨_, by rw [HM.o, World.drewN_drewN]⟩⟩⟩;rw [HRR.o, qcg, hi']; congr 1 <;> simp [q0] <;> omega
     ·have e0 : decide (top < o) = false := by simp [q0]
      go_wp2_with fail
      go_roundg G
      case measure => omega
      case rel =>
       obtain ⟨i', hi'⟩ : ∃ i', i' = i + 1 := ⟨_, rfl⟩;refine ⟨i', (o - 1), top, by have := HG.o; omega, by rw [hi']; go_num, rfl, rfl, Zh ⟨by have := HO.o; omega, by have := HO.o; omega, by have := HO.o; omega, by have := HO.o; omega, ?_, by first | exact ⟨_, HM.o⟩ | exact ⟨_, by rw [HM.o, World.drewN_drewN]⟩⟩⟩;rw [HRR.o, qcg, hi']; congr 1 <;> simp [] <;> omega
    ·have e1 : (k == 1) = false := by simp [q1]
     have e2 : (k == 2) = false := by simp [q2]
     by_cases q0 : top < o
     ·have e0 : decide (top < o) = true := by simp [q0]
      go_wp2_with fail
      go_roundg G
      case measure => omega
      case rel =>
       obtain ⟨i', hi'⟩ : ∃ i', i' = i + 1 := ⟨_, rfl⟩;refine ⟨i', o, o, by have := HG.o; omega, by rw [hi']; go_num, rfl, rfl, Zh ⟨by have := HO.o; omega, by have := HO.o; omega, by have := HO.o; omega, by have := HO.o; omega, ?_, by first | exact ⟨_, HM.o⟩ | exact ⟨_, by rw [HM.o, World.drewN_drewN]⟩⟩⟩;rw [HRR.o, qcg, hi']; congr 1 <;> simp [opn, q1, q2, q0] <;> omega
     ·have e0 : decide (top < o) = false := by simp [q0]
      go_wp2_with fail
      go_roundg G
      case measure => omega
      case rel =>
       obtain ⟨i', hi'⟩ : ∃ i', i' = i + 1 := ⟨_, rfl⟩;refine ⟨i', o, top, by have := HG.o; omega, by rw [hi']; go_num, rfl, rfl, Zh ⟨by have := HO.o; omega, by have := HO.o; omega, by have := HO.o; omega, by have := HO.o; omega, ?_, by first | exact ⟨_, HM.o⟩ | exact ⟨_, by rw [HM.o, World.drewN_drewN]⟩⟩⟩;rw [HRR.o, qcg, hi']; congr 1 <;> simp [opn, q1, q2] <;> omega
  ·obtain rfl : i = n := by omega
   go_wp2_with fail
   go_ret
   refine ⟨?_, by rw [HM.o]; exact qad _ _⟩;rw [hR, HL.o, List.drop_length]; rfl
end Go.Proofs.YtookoagcmejkpaaGreatDoor
namespace Go.Proofs.YtookoagcmejkpaaGreatDoor.Lx
def spB (c : UInt8) : Bool := c == 9 || c == 10 || c == 13 || c == 32
def dgB (c : UInt8) : Bool := 48 <= c && c <= 57
def hxB (c : UInt8) : Bool := dgB c || (65 <= c && c <= 70) || (97 <= c && c <= 102)
def extraL : List UInt8 := [126, 33, 64, 36, 37, 94, 38, 42, 95, 45, 43, 61, 60, 62, 46, 63, 47]
def syB (c : UInt8) : Bool := dgB c || (65 <= c && c <= 90) || (97 <= c && c <= 122) || extraL.contains c
def txB (c : UInt8) : Bool := (32 <= c && c <= 126) || c > 127 || spB c
def clB (c : UInt8) : Nat := (if spB c then 1 else 0) + (if syB c then 2 else 0) + (if dgB c then 4 else 0) + (if hxB c then 8 else 0) + (if txB c then 16 else 0)

def qav : Bool -> List UInt8 -> Nat
 | _, [] => 0
 | true, c :: s => if c == 10 then 1 + qav false s else 1 + qav true s
 | false, c :: s => if spB c then 1 + qav false s else if c == 59 then 1 + qav true s else 0

inductive Res where
 | tok (kind : Nat) (text : List UInt8) (n : Nat)
 | err (e : Nat)
deriving DecidableEq

def quo : List UInt8 -> List UInt8 -> Res
 | _, [] => .err 31
 | acc, c :: s => if c == 124 then .tok 3 acc (acc.length + 2) else if c == 92 || !txB c then .err 30 else quo (acc ++ [c]) s
def lit : Bool -> List UInt8 -> Nat -> List UInt8 -> Res
 | true, acc, n, [] => .tok 5 acc n
 | false, _, _, [] => .err 31
 | true, acc, n, c :: s => if c == 34 then lit false (acc ++ [34]) (n + 1) s else .tok 5 acc n
 | false, acc, n, c :: s => if !txB c then .err 30 else if c == 34 then lit true acc (n + 1) s else lit false (acc ++ [c]) (n + 1) s
def allB (p : UInt8 -> Bool) (l : List UInt8) : Bool := l.all p && !l.isEmpty
def qas (s : List UInt8) : List UInt8 := s.takeWhile syB
def qba (w : List UInt8) : Res :=
 if !(dgB (w.getD 0 0)) then .tok 3 w w.length
 else
  let whole := w.takeWhile (· != 46)
  let part := (w.dropWhile (· != 46)).drop 1
  if !allB dgB whole || (whole.getD 0 0 == 48 && decide (1 < whole.length)) then .err 5
  else if !w.contains 46 then .tok 4 w w.length
  else if !allB dgB part then .err 5
  else .tok 7 w w.length
def qbs (w : List UInt8) : Res :=
 if w.isEmpty then .err 30
 else if (w.getD 0 0 == 120 && allB hxB (w.drop 1)) || (w.getD 0 0 == 98 && allB (fun c => c == 48 || c == 49) (w.drop 1)) then .tok 7 (35 :: w) (w.length + 1)
 else .err 5
def keyR (w : List UInt8) : Res := if w.isEmpty then .err 30 else .tok 6 w (w.length + 1)
def oneR : List UInt8 -> Res
 | [] => .err 0
 | c :: s =>
  if c == 40 then .tok 1 [40] 1
  else if c == 41 then .tok 2 [41] 1
  else if c == 124 then quo [] s
  else if c == 34 then lit false [] 1 s
  else if c == 58 then keyR (qas s)
  else if c == 35 then qbs (qas s)
  else if syB c then qba (qas (c :: s))
  else .err 30

structure Tk where
 kind : Nat
 text : List UInt8
 at_ : Nat
deriving DecidableEq

inductive Toks (b : List UInt8) : Nat -> List Tk -> Nat -> Nat -> Prop
 | done {at_ : Nat} : b.length <= at_ + qav false (b.drop at_) -> Toks b at_ [] b.length 0
 | bad {at_ e : Nat} : at_ + qav false (b.drop at_) < b.length -> oneR (b.drop (at_ + qav false (b.drop at_))) = .err e -> Toks b at_ [] (at_ + qav false (b.drop at_)) e
 | step {at_ k n p e : Nat} {t : List UInt8} {l : List Tk} : at_ + qav false (b.drop at_) < b.length -> oneR (b.drop (at_ + qav false (b.drop at_))) = .tok k t n -> Toks b (at_ + qav false (b.drop at_) + n) l p e →
   Toks b at_ (⟨k, t, at_ + qav false (b.drop at_)⟩ :: l) p e
def qbg (s : List UInt8) : Bool := s.all syB && !s.isEmpty && !(dgB (s.getD 0 0))

theorem qpd : ∀ (s acc : List UInt8) {k n : Nat} {t : List UInt8}, quo acc s = .tok k t n -> k = 3 /\ n = t.length + 2 /\ n <= acc.length + 1 + s.length
 | [], acc, k, n, t, h => by simp [quo] at h
 | c :: s, acc, k, n, t, h => by
  simp only [quo] at h
  split at h
  ·cases h; simp; omega
  ·split at h
   ·cases h
   ·have := qpd s _ h; simp at this ⊢; omega
theorem qlx : ∀ (s : List UInt8) (m : Bool) (acc : List UInt8) (i : Nat) {k n : Nat} {t : List UInt8}, lit m acc i s = .tok k t n -> k = 5 /\ i <= n /\ n <= i + s.length /\ t.length + i <= n + acc.length
 | [], true, acc, i, k, n, t, h => by simp only [lit] at h; cases h; simp; omega
 | [], false, acc, i, k, n, t, h => by simp [lit] at h
 | c :: s, true, acc, i, k, n, t, h => by
  simp only [lit] at h
  split at h
  ·have := qlx s _ _ _ h; simp at this ⊢; omega
  ·cases h; simp; omega
 | c :: s, false, acc, i, k, n, t, h => by
  simp only [lit] at h
  split at h
  ·cases h
  ·split at h
   ·have := qlx s _ _ _ h; simp at this ⊢; omega
   ·have := qlx s _ _ _ h; simp at this ⊢; omega
theorem qkk {w : List UInt8} {k n : Nat} {t : List UInt8} (h : qba w = .tok k t n) : t = w /\ n = w.length /\ (k = 3 \/ k = 4 \/ k = 7) := by
 unfold qba at h
 split at h
 ·cases h; simp
 ·simp only at h
  split at h
  ·cases h
  ·split at h
   ·cases h; simp
   ·split at h
    ·cases h
    ·cases h; simp
theorem qc9 (s : List UInt8) : (qas s).length <= s.length := (List.takeWhile_sublist syB).length_le
theorem qnl {s : List UInt8} {k n : Nat} {t : List UInt8} (h : oneR s = .tok k t n) : 1 <= n /\ n <= s.length /\ t.length <= n /\ k < 8 := by
 cases s with
 | nil => simp [oneR] at h
 | cons c s =>
  simp only [oneR] at h;have hw := qc9 s
  split at h
  ·cases h; simp
  ·split at h
   ·cases h; simp
   ·split at h
    ·have := qpd _ _ h; simp at this ⊢; omega
    ·split at h
     ·have := qlx _ _ _ _ h; simp at this ⊢; omega
     ·split at h
      ·unfold keyR at h
       split at h
       ·cases h
       ·cases h; simp; omega
      ·split at h
       ·unfold qbs at h
        split at h
        ·cases h
        ·split at h
         ·cases h; simp; omega
         ·cases h
       ·split at h
        ·rename_i hs
         obtain ⟨rfl, rfl, hk⟩ := qkk h;have h1 := qc9 (c :: s);have h2 : 1 <= (qas (c :: s)).length := by unfold qas; rw [List.takeWhile_cons, if_pos hs]; simp
         refine ⟨h2, h1, Nat.le_refl _, by omega⟩
        ·cases h
theorem Toks.uniq {b : List UInt8} {at_ : Nat} {l : List Tk} {p e : Nat} (h : Toks b at_ l p e) : ∀ {l' : List Tk} {p' e' : Nat}, Toks b at_ l' p' e' -> l = l' /\ p = p' /\ e = e' := by
 induction h with
 | done h1 =>
  intro l' p' e' h'
  cases h' with
  | done _ => exact ⟨rfl, rfl, rfl⟩
  | bad g1 _ => omega
  | step g1 _ _ => omega
 | bad h1 h2 =>
  intro l' p' e' h'
  cases h' with
  | done _ => omega
  | bad g1 g2 => rw [h2] at g2; cases g2; exact ⟨rfl, rfl, rfl⟩
  | step g1 g2 _ => rw [h2] at g2; cases g2
 | step h1 h2 h3 ih =>
  intro l' p' e' h'
  cases h' with
  | done _ => omega
  | bad g1 g2 => rw [h2] at g2; cases g2
  | step g1 g2 g3 =>
   rw [h2] at g2; cases g2;obtain ⟨rfl, rfl, rfl⟩ := ih g3;exact ⟨rfl, rfl, rfl⟩
def dblL : List UInt8 -> List UInt8
 | [] => []
 | c :: s => if c == 34 then 34 :: 34 :: dblL s else c :: dblL s
def qaj (k : Nat) (t : List UInt8) : List UInt8 :=
 if k == 3 then (if qbg t then t else 124 :: (t ++ [124]))
 else if k == 5 then 34 :: (dblL t ++ [34])
 else if k == 6 then 58 :: t
 else t
def sepB (c : UInt8) : Bool := spB c || c == 59
def SepR (r : List UInt8) : Prop := r = [] \/ ∃ c r', r = c :: r' /\ sepB c = true
theorem qdm {p : UInt8 -> Bool} (h : (List.range 256).all (fun n => p (UInt8.ofNat n)) = true) (c : UInt8) : p c = true := by
 have := List.all_eq_true.1 h c.toNat (by simp; exact c.toNat_lt)
 simpa using this
theorem qm2 (c : UInt8) (h : sepB c = true) : syB c = false /\ c ≠ 34 := by
 have := qdm (p := fun c => !sepB c || (!syB c && c != 34)) (by decide +kernel) c
 simpa [h] using this
theorem SepR.tw {r : List UInt8} (h : SepR r) : r.takeWhile syB = [] := by
 rcases h with rfl | ⟨c, r', rfl, h⟩
 ·rfl
 ·simp [(qm2 c h).1]
theorem qgz {w r : List UInt8} (hw : w.all syB = true) (h : SepR r) : qas (w ++ r) = w := by
 unfold qas;rw [List.takeWhile_append_of_pos (by simpa using hw), h.tw, List.append_nil]
def inB (c : UInt8) : Bool := txB c && c != 124 && c != 92
theorem qjg : ∀ (t acc r : List UInt8), t.all inB = true -> quo acc (t ++ 124 :: r) = .tok 3 (acc ++ t) (acc.length + t.length + 2)
 | [], acc, r, _ => by simp [quo]
 | c :: t, acc, r, h => by
  simp only [List.all_cons, Bool.and_eq_true, inB] at h;obtain ⟨⟨⟨h1, h2⟩, h3⟩, h4⟩ := h;simp only [List.cons_append, quo];rw [if_neg (by simpa using h2), if_neg (by simp at h3; simp [h3, h1]), qjg t _ r h4];simp; omega
theorem qjp : ∀ (t acc : List UInt8) (i : Nat) (r : List UInt8), t.all txB = true -> SepR r -> lit false acc i (dblL t ++ 34 :: r) = .tok 5 (acc ++ t) (i + (dblL t).length + 1)
 | [], acc, i, r, _, h => by
  have h34 : txB 34 = true := by decide
  simp only [dblL, List.nil_append, lit, h34];rcases h with rfl | ⟨c, r', rfl, hc⟩
  ·simp [lit]
  ·simp [lit, (qm2 c hc).2]
 | c :: t, acc, i, r, h, hr => by
  simp only [List.all_cons, Bool.and_eq_true] at h;simp only [dblL]
  split
  ·rename_i hc
   have hc : c = 34 := by simpa using hc
   subst hc;have h34 : txB 34 = true := by decide
   simp only [List.cons_append, lit, h34];simp only [Bool.not_true, Bool.false_eq_true, if_false, beq_self_eq_true, if_true];rw [qjp t _ _ r h.2 hr]; simp; omega
  ·rename_i hc
   simp only [List.cons_append, lit];rw [if_neg (by simp [h.1]), if_neg hc, qjp t _ _ r h.2 hr]; simp; omega
inductive GoodT : Nat -> List UInt8 -> Prop
 | op : GoodT 1 [40]
 | cl : GoodT 2 [41]
 | sym {t} : qbg t = true \/ t.all inB = true -> GoodT 3 t
 | str {t} : t.all txB = true -> GoodT 5 t
 | key {t} : t.all syB = true -> t ≠ [] -> GoodT 6 t
 | num {k t} : (k = 4 \/ k = 7) -> t.all syB = true -> t ≠ [] -> qba t = .tok k t t.length -> dgB (t.getD 0 0) = true -> GoodT k t
 | bas {w} : w.all syB = true -> qbs w = .tok 7 (35 :: w) (w.length + 1) -> GoodT 7 (35 :: w)
theorem qkj : ∀ (s acc : List UInt8) {k n : Nat} {t : List UInt8}, quo acc s = .tok k t n -> acc.all inB = true -> t.all inB = true
 | [], acc, k, n, t, h, _ => by simp [quo] at h
 | c :: s, acc, k, n, t, h, ha => by
  simp only [quo] at h
  split at h
  ·cases h; exact ha
  ·split at h
   ·cases h
   ·rename_i h1 h2
    refine qkj s _ h ?_;simp only [List.all_append, List.all_cons, List.all_nil, Bool.and_true, ha, Bool.true_and];simp at h1 h2;simp [inB, h1, h2]
theorem qfo : ∀ (s : List UInt8) (m : Bool) (acc : List UInt8) (i : Nat) {k n : Nat} {t : List UInt8}, lit m acc i s = .tok k t n -> acc.all txB = true -> t.all txB = true
 | [], true, acc, i, k, n, t, h, ha => by simp only [lit] at h; cases h; exact ha
 | [], false, acc, i, k, n, t, h, ha => by simp [lit] at h
 | c :: s, true, acc, i, k, n, t, h, ha => by
  simp only [lit] at h
  split at h
  ·refine qfo s _ _ _ h ?_
   have h34 : txB 34 = true := by decide
   simp only [List.all_append, ha, List.all_cons, h34, List.all_nil, Bool.and_self]
  ·cases h; exact ha
 | c :: s, false, acc, i, k, n, t, h, ha => by
  simp only [lit] at h
  split at h
  ·cases h
  ·rename_i h1
   split at h
   ·exact qfo s _ _ _ h ha
   ·refine qfo s _ _ _ h ?_
    simp at h1 ha;simp [h1]; exact ha
theorem qfl (s : List UInt8) : (qas s).all syB = true := by unfold qas; exact List.all_takeWhile
theorem qpm {s : List UInt8} {k n : Nat} {t : List UInt8} (h : oneR s = .tok k t n) : GoodT k t := by
 cases s with
 | nil => simp [oneR] at h
 | cons c s =>
  simp only [oneR] at h
  split at h
  ·cases h; exact .op
  ·split at h
   ·cases h; exact .cl
   ·split at h
    ·have hk := (qpd _ _ h).1
     subst hk;exact .sym (.inr (qkj _ _ h rfl))
    ·split at h
     ·have hk := (qlx _ _ _ _ h).1
      subst hk;exact .str (qfo _ _ _ _ h rfl)
     ·split at h
      ·unfold keyR at h
       split at h
       ·cases h
       ·rename_i he
        cases h; exact .key (qfl _) (by simpa using he)
      ·split at h
       ·have h' := h
        unfold qbs at h
        split at h
        ·cases h
        ·split at h
         ·cases h; exact .bas (qfl _) h'
         ·cases h
       ·split at h
        ·rename_i hs
         have hne : qas (c :: s) ≠ [] := by unfold qas; rw [List.takeWhile_cons, if_pos hs]; simp
         obtain ⟨rfl, rfl, hk⟩ := qkk h
         by_cases hd : dgB ((qas (c :: s)).getD 0 0) = true
         ·have hk2 : k = 4 \/ k = 7 := by
           unfold qba at h;rw [if_neg (by rw [hd]; decide)] at h;simp only at h
           split at h
           ·cases h
           ·split at h
            ·cases h; exact .inl rfl
            ·split at h
             ·cases h
             ·cases h; exact .inr rfl
          exact .num hk2 (qfl _) hne h hd
         ·have hd' : dgB ((qas (c :: s)).getD 0 0) = false := by simpa using hd
          have : k = 3 := by
           unfold qba at h;rw [if_pos (by rw [hd']; decide)] at h;cases h; rfl
          subst this;refine .sym (.inl ?_);unfold qbg;simp only [Bool.and_eq_true, Bool.not_eq_true'];exact ⟨⟨qfl _, by simpa using hne⟩, hd'⟩
        ·cases h
theorem Toks.good {b : List UInt8} {at_ : Nat} {l : List Tk} {p e : Nat} (h : Toks b at_ l p e) : ∀ t ∈ l, GoodT t.kind t.text := by
 induction h with
 | done _ => simp
 | bad _ _ => simp
 | step _ h2 _ ih =>
  intro t ht;rcases List.mem_cons.1 ht with rfl | ht
  ·exact qpm h2
  ·exact ih t ht
theorem qdt (c : UInt8) (h : syB c = true) : c ≠ 40 /\ c ≠ 41 /\ c ≠ 124 /\ c ≠ 34 /\ c ≠ 58 /\ c ≠ 35 /\ c ≠ 59 /\ spB c = false := by
 have := qdm (p := fun c => !syB c || (c != 40 && c != 41 && c != 124 && c != 34 && c != 58 && c != 35 && c != 59 && !spB c)) (by decide +kernel) c;simp [h] at this;simp [this]
theorem qkn {w r : List UInt8} (hw : w.all syB = true) (hne : w ≠ []) (hr : SepR r) : oneR (w ++ r) = qba w := by
 cases w with
 | nil => exact absurd rfl hne
 | cons c w =>
  have hc : syB c = true := by simp at hw; exact hw.1
  have h := qdt c hc;have hw2 := qgz hw hr;simp only [List.cons_append] at hw2 ⊢;simp only [oneR, hw2];simp [h, hc]
def qsc (s : List UInt8) : Prop := ∃ c s', s = c :: s' /\ spB c = false /\ c ≠ 59
theorem qia {k : Nat} {t : List UInt8} (h : GoodT k t) : qsc (qaj k t) := by
 have word : ∀ w : List UInt8, w.all syB = true -> w ≠ [] -> qsc w := fun w hw hne => by
  cases w with
  | nil => exact absurd rfl hne
  | cons c w =>
   have hc : syB c = true := by simp at hw; exact hw.1
   have h := qdt c hc;exact ⟨c, w, rfl, h.2.2.2.2.2.2.2, h.2.2.2.2.2.2.1⟩
 cases h with
 | op => exact ⟨40, [], rfl, by decide, by decide⟩
 | cl => exact ⟨41, [], rfl, by decide, by decide⟩
 | sym h =>
  by_cases hp : qbg t = true
  ·simp only [qaj, hp]
   simp only [beq_self_eq_true, if_true];simp only [qbg, Bool.and_eq_true, Bool.not_eq_true'] at hp;exact word t hp.1.1 (by simpa using hp.1.2)
  ·simp only [qaj, hp]
   exact ⟨124, _, rfl, by decide, by decide⟩
 | str h => exact ⟨34, _, rfl, by decide, by decide⟩
 | key h hne => exact ⟨58, _, rfl, by decide, by decide⟩
 | num hk h hne _ _ => rcases hk with rfl | rfl <;> exact word t h hne
 | bas h _ => exact ⟨35, _, rfl, by decide, by decide⟩
theorem qgn {t : List UInt8} (h : qbg t = true) : t.all syB = true /\ t ≠ [] /\ qba t = .tok 3 t t.length := by
 simp only [qbg, Bool.and_eq_true, Bool.not_eq_true'] at h;refine ⟨h.1.1, by simpa using h.1.2, ?_⟩;unfold qba;rw [if_pos (by rw [h.2]; decide)]
theorem qpi {k : Nat} {t r : List UInt8} (h : GoodT k t) (hr : SepR r) : oneR (qaj k t ++ r) = .tok k t (qaj k t).length := by
 cases h with
 | op => rfl
 | cl => rfl
 | sym h =>
  by_cases hp : qbg t = true
  ·have hw := qgn hp
   simp only [qaj, hp];simp only [beq_self_eq_true, if_true];rw [qkn hw.1 hw.2.1 hr, hw.2.2]
  ·have h : t.all inB = true := h.resolve_left hp
   simp only [qaj, hp];have := qjg t [] r h
   simp [oneR, this]
 | str h =>
  have := qjp t [] 1 r h hr
  simp [qaj, oneR, this]; omega
 | key h hne =>
  have := qgz h hr
  simp [qaj, oneR, this, keyR, hne]
 | num hk h hne hp hd =>
  have : qaj k t = t := by rcases hk with rfl | rfl <;> rfl
  rw [this, qkn h hne hr, hp]
 | @bas w h hb =>
  have hw := qgz h hr;have : qaj 7 (35 :: w) = 35 :: w := rfl;rw [this];simp only [List.cons_append, oneR, hw, hb];simp
theorem qiw {s : List UInt8} (h : qsc s) (r : List UInt8) : qav false (s ++ r) = 0 := by
 obtain ⟨c, s', rfl, h1, h2⟩ := h;simp [qav, h1, h2]
theorem qt6 {k : Nat} {t : List UInt8} (h : GoodT k t) : Toks (qaj k t) 0 [⟨k, t, 0⟩] (qaj k t).length 0 := by
 have h1 := qiw (qia h) [];have h2 := qpi h (.inl rfl);have h3 := qnl h2;simp only [List.append_nil] at h1 h2 h3;have hd : (qaj k t).drop 0 = qaj k t := rfl
 have := Toks.step (b := qaj k t) (at_ := 0) (k := k) (n := (qaj k t).length) (t := t) (l := []) (p := (qaj k t).length) (e := 0) (by rw [hd, h1]; omega) (by rw [hd, h1]; exact h2)
  (by rw [hd, h1]; exact .done (by omega))
 rw [hd, h1] at this;exact this
end Go.Proofs.YtookoagcmejkpaaGreatDoor.Lx
namespace Go.Proofs
open Go.Shelf
def Tryz.lays160_ren : Go.Shelf.Ren := ⟨fun | 160 => 158 | 232 => 163 | 231 => 162 | 227 => 164 | 234 => 166 | 233 => 165 | 236 => 168 | 235 => 167 | 228 => 170 | 271 => 172 | 151 => 171 | 197 => 133 | 120 => 174 | 152 => 173 | 260 => 144 | 137 => 175 | 119 => 176 | 224 => 154 | 225 => 153 | 217 => 152 | 266 => 160 | n => n, fun | 9 => 9 | 4 => 4 | 3 => 3 | 5 => 5 | 117 => 212 | 116 => 211 | 0 => 0 | 124 => 215 | 21 => 21 | 105 => 180 | 46 => 191 | 119 => 197 | 139 => 200 | 138 => 199 | n => n, fun | 3 => 2 | 4 => 3 | n => n⟩
theorem Tryz.lays160 : Go.Proofs.Lays.n160 Tryz.prog Tryz.lays160_ren := {
 mixed := by kernel_rfl
 f119 := Tryz.func176.trans (congrArg some (by kernel_rfl))
 f120 := Tryz.func174.trans (congrArg some (by kernel_rfl))
 f137 := Tryz.func175.trans (congrArg some (by kernel_rfl))
 f151 := Tryz.func171.trans (congrArg some (by kernel_rfl))
 f152 := Tryz.func173.trans (congrArg some (by kernel_rfl))
 f160 := Tryz.func158.trans (congrArg some (by kernel_rfl))
 f197 := Tryz.func133.trans (congrArg some (by kernel_rfl))
 f217 := Tryz.func152.trans (congrArg some (by kernel_rfl))
 f224 := Tryz.func154.trans (congrArg some (by kernel_rfl))
 f225 := Tryz.func153.trans (congrArg some (by kernel_rfl))
 f227 := Tryz.func164.trans (congrArg some (by kernel_rfl))
 f228 := Tryz.func170.trans (congrArg some (by kernel_rfl))
 f231 := Tryz.func162.trans (congrArg some (by kernel_rfl))
 f232 := Tryz.func163.trans (congrArg some (by kernel_rfl))
 f233 := Tryz.func165.trans (congrArg some (by kernel_rfl))
 f234 := Tryz.func166.trans (congrArg some (by kernel_rfl))
 f235 := Tryz.func167.trans (congrArg some (by kernel_rfl))
 f236 := Tryz.func168.trans (congrArg some (by kernel_rfl))
 f260 := Tryz.func144.trans (congrArg some (by kernel_rfl))
 f266 := Tryz.func160.trans (congrArg some (by kernel_rfl))
 f271 := Tryz.func172.trans (congrArg some (by kernel_rfl))
 t0 := Tryz.underlying0
 a0 := Tryz.isAgg0
 z0 := Tryz.sizeOf0
 v0 := Tryz.zeroValue0
 t3 := Tryz.underlying3
 a3 := Tryz.isAgg3
 z3 := Tryz.sizeOf3
 v3 := Tryz.zeroValue3
 t4 := Tryz.underlying4
 a4 := Tryz.isAgg4
 z4 := Tryz.sizeOf4
 v4 := Tryz.zeroValue4
 t5 := Tryz.underlying5
 a5 := Tryz.isAgg5
 z5 := Tryz.sizeOf5
 v5 := Tryz.zeroValue5
 t9 := Tryz.underlying9
 a9 := Tryz.isAgg9
 z9 := Tryz.sizeOf9
 v9 := Tryz.zeroValue9
 t21 := Tryz.underlying21
 a21 := Tryz.isAgg21
 z21 := Tryz.sizeOf21
 v21 := Tryz.zeroValue21
 t46 := Tryz.underlying191
 a46 := Tryz.isAgg191
 z46 := Tryz.sizeOf191
 v46 := Tryz.zeroValue191
 t105 := Tryz.underlying180
 a105 := Tryz.isAgg180
 z105 := Tryz.sizeOf180
 v105 := Tryz.zeroValue180
 t116 := Tryz.underlying211
 a116 := Tryz.isAgg211
 z116 := Tryz.sizeOf211
 t117 := Tryz.underlying212
 a117 := Tryz.isAgg212
 z117 := Tryz.sizeOf212
 v117 := Tryz.zeroValue212
 t119 := Tryz.underlying197
 a119 := Tryz.isAgg197
 z119 := Tryz.sizeOf197
 t124 := Tryz.underlying215
 a124 := Tryz.isAgg215
 z124 := Tryz.sizeOf215
 v124 := Tryz.zeroValue215
 t138 := Tryz.underlying199
 a138 := Tryz.isAgg199
 z138 := Tryz.sizeOf199
 v138 := Tryz.zeroValue199
 t139 := Tryz.underlying200
 a139 := Tryz.isAgg200
 z139 := Tryz.sizeOf200
 v139 := Tryz.zeroValue200
 g3 := by kernel_rfl
 g4 := by kernel_rfl }
def Tryz.lays219_ren : Go.Shelf.Ren := ⟨fun | 219 => 143 | 217 => 152 | 225 => 153 | 224 => 154 | 267 => 155 | 266 => 160 | 314 => 161 | n => n, fun | 9 => 9 | 3 => 3 | 4 => 4 | 5 => 5 | 46 => 191 | 146 => 207 | 51 => 189 | n => n, fun | 1 => 0 | n => n⟩
theorem Tryz.lays219 : Go.Proofs.Lays.n219 Tryz.prog Tryz.lays219_ren := {
 mixed := by kernel_rfl
 f217 := Tryz.func152.trans (congrArg some (by kernel_rfl))
 f219 := Tryz.func143.trans (congrArg some (by kernel_rfl))
 f224 := Tryz.func154.trans (congrArg some (by kernel_rfl))
 f225 := Tryz.func153.trans (congrArg some (by kernel_rfl))
 f266 := Tryz.func160.trans (congrArg some (by kernel_rfl))
 f267 := Tryz.func155.trans (congrArg some (by kernel_rfl))
 f314 := Tryz.func161.trans (congrArg some (by kernel_rfl))
 t3 := Tryz.underlying3
 a3 := Tryz.isAgg3
 z3 := Tryz.sizeOf3
 v3 := Tryz.zeroValue3
 t4 := Tryz.underlying4
 a4 := Tryz.isAgg4
 z4 := Tryz.sizeOf4
 v4 := Tryz.zeroValue4
 t5 := Tryz.underlying5
 a5 := Tryz.isAgg5
 z5 := Tryz.sizeOf5
 v5 := Tryz.zeroValue5
 t9 := Tryz.underlying9
 a9 := Tryz.isAgg9
 z9 := Tryz.sizeOf9
 v9 := Tryz.zeroValue9
 t46 := Tryz.underlying191
 a46 := Tryz.isAgg191
 z46 := Tryz.sizeOf191
 v46 := Tryz.zeroValue191
 t51 := Tryz.underlying189
 a51 := Tryz.isAgg189
 z51 := Tryz.sizeOf189
 v51 := Tryz.zeroValue189
 t146 := Tryz.underlying207
 a146 := Tryz.isAgg207
 z146 := Tryz.sizeOf207
 v146 := Tryz.zeroValue207
 g1 := by kernel_rfl }
open Go.RowKit Go.Lib in
theorem Tryz.stringslite_Index_one (s : ByteArray) (c : UInt8) (w : World) :
  Calls Tryz.prog 143 #[.string s, .string ⟨#[c]⟩] w fun e w' => e = .returned (.int .i64 (Lib.indexByte s.data.toList c)) /\ w' = w := Any.stringslite_Index_one Tryz.lays219 s c w
def Tryz.lays155_ren : Go.Shelf.Ren := ⟨fun | 155 => 114 | 154 => 122 | 138 => 131 | 165 => 104 | 143 => 132 | 166 => 105 | 197 => 133 | 169 => 106 | 195 => 141 | 218 => 142 | 240 => 117 | 241 => 118 | 219 => 143 | 260 => 144 | 276 => 124 | 277 => 125 | 217 => 152 | 225 => 153 | 224 => 154 | 267 => 155 | 266 => 160 | 314 => 161 | n => n, fun | 9 => 9 | 3 => 3 | 4 => 4 | 72 => 151 | 0 => 0 | 76 => 155 | 105 => 180 | 21 => 21 | 5 => 5 | 70 => 149 | 20 => 20 | 37 => 57 | 75 => 154 | 127 => 163 | 164 => 168 | 46 => 191 | 119 => 197 | 139 => 200 | 138 => 199 | 146 => 207 | 51 => 189 | 80 => 157 | n => n, fun | 1 => 0 | 3 => 2 | 4 => 3 | n => n⟩
theorem Tryz.lays155 : Go.Proofs.Lays.n155 Tryz.prog Tryz.lays155_ren := {
 mixed := by kernel_rfl
 f138 := Tryz.func131.trans (congrArg some (by kernel_rfl))
 f143 := Tryz.func132.trans (congrArg some (by kernel_rfl))
 f154 := Tryz.func122.trans (congrArg some (by kernel_rfl))
 f155 := Tryz.func114.trans (congrArg some (by kernel_rfl))
 f165 := Tryz.func104.trans (congrArg some (by kernel_rfl))
 f166 := Tryz.func105.trans (congrArg some (by kernel_rfl))
 f169 := Tryz.func106.trans (congrArg some (by kernel_rfl))
 f195 := Tryz.func141.trans (congrArg some (by kernel_rfl))
 f197 := Tryz.func133.trans (congrArg some (by kernel_rfl))
 f217 := Tryz.func152.trans (congrArg some (by kernel_rfl))
 f218 := Tryz.func142.trans (congrArg some (by kernel_rfl))
 f219 := Tryz.func143.trans (congrArg some (by kernel_rfl))
 f224 := Tryz.func154.trans (congrArg some (by kernel_rfl))
 f225 := Tryz.func153.trans (congrArg some (by kernel_rfl))
 f240 := Tryz.func117.trans (congrArg some (by kernel_rfl))
 f241 := Tryz.func118.trans (congrArg some (by kernel_rfl))
 f260 := Tryz.func144.trans (congrArg some (by kernel_rfl))
 f266 := Tryz.func160.trans (congrArg some (by kernel_rfl))
 f267 := Tryz.func155.trans (congrArg some (by kernel_rfl))
 f276 := Tryz.func124.trans (congrArg some (by kernel_rfl))
 f277 := Tryz.func125.trans (congrArg some (by kernel_rfl))
 f314 := Tryz.func161.trans (congrArg some (by kernel_rfl))
 t0 := Tryz.underlying0
 a0 := Tryz.isAgg0
 z0 := Tryz.sizeOf0
 v0 := Tryz.zeroValue0
 t3 := Tryz.underlying3
 a3 := Tryz.isAgg3
 z3 := Tryz.sizeOf3
 v3 := Tryz.zeroValue3
 t4 := Tryz.underlying4
 a4 := Tryz.isAgg4
 z4 := Tryz.sizeOf4
 v4 := Tryz.zeroValue4
 t5 := Tryz.underlying5
 a5 := Tryz.isAgg5
 z5 := Tryz.sizeOf5
 v5 := Tryz.zeroValue5
 t9 := Tryz.underlying9
 a9 := Tryz.isAgg9
 z9 := Tryz.sizeOf9
 v9 := Tryz.zeroValue9
 t20 := Tryz.underlying20
 a20 := Tryz.isAgg20
 z20 := Tryz.sizeOf20
 v20 := Tryz.zeroValue20
 t21 := Tryz.underlying21
 a21 := Tryz.isAgg21
 z21 := Tryz.sizeOf21
 v21 := Tryz.zeroValue21
 t37 := Tryz.underlying57
 a37 := Tryz.isAgg57
 z37 := Tryz.sizeOf57
 v37 := Tryz.zeroValue57
 t46 := Tryz.underlying191
 a46 := Tryz.isAgg191
 z46 := Tryz.sizeOf191
 v46 := Tryz.zeroValue191
 t51 := Tryz.underlying189
 a51 := Tryz.isAgg189
 z51 := Tryz.sizeOf189
 v51 := Tryz.zeroValue189
 t70 := Tryz.underlying149
 a70 := Tryz.isAgg149
 z70 := Tryz.sizeOf149
 v70 := Tryz.zeroValue149
 t72 := Tryz.underlying151
 a72 := Tryz.isAgg151
 z72 := Tryz.sizeOf151
 v72 := Tryz.zeroValue151
 t75 := Tryz.underlying154
 a75 := Tryz.isAgg154
 z75 := Tryz.sizeOf154
 v75 := Tryz.zeroValue154
 t76 := Tryz.underlying155
 a76 := Tryz.isAgg155
 z76 := Tryz.sizeOf155
 v76 := Tryz.zeroValue155
 t105 := Tryz.underlying180
 a105 := Tryz.isAgg180
 z105 := Tryz.sizeOf180
 v105 := Tryz.zeroValue180
 t119 := Tryz.underlying197
 a119 := Tryz.isAgg197
 z119 := Tryz.sizeOf197
 t127 := Tryz.underlying163
 a127 := Tryz.isAgg163
 z127 := Tryz.sizeOf163
 v127 := Tryz.zeroValue163
 t138 := Tryz.underlying199
 a138 := Tryz.isAgg199
 z138 := Tryz.sizeOf199
 v138 := Tryz.zeroValue199
 t139 := Tryz.underlying200
 a139 := Tryz.isAgg200
 z139 := Tryz.sizeOf200
 v139 := Tryz.zeroValue200
 t146 := Tryz.underlying207
 a146 := Tryz.isAgg207
 z146 := Tryz.sizeOf207
 v146 := Tryz.zeroValue207
 t164 := Tryz.underlying168
 a164 := Tryz.isAgg168
 z164 := Tryz.sizeOf168
 v164 := Tryz.zeroValue168
 g1 := by kernel_rfl
 g3 := by kernel_rfl
 g4 := by kernel_rfl }
theorem Tryz.Builder_Extra_155 : Builder.Extra Tryz.prog Tryz.lays155_ren := {
 sizeBuilder := by kernel_rfl
 liesBuilder := by kernel_rfl
 t5 := Tryz.underlying5
 a5 := Tryz.isAgg5
 z5 := Tryz.sizeOf5
 v5 := Tryz.zeroValue5
 infoByte := by kernel_rfl
 cellsByte := by kernel_rfl
 sizeByte := by kernel_rfl
 neB5 := by decide }
open Go.RowKit Go.Lib in
theorem Tryz.strings_ReplaceAll (s old new : ByteArray) (m : Int) (w : World) (hs : s.size < 4294967281) (hm : w.cell? ⟨0, 0, none⟩ = some (.int .i64 m)) (h1 : 1 <= old.size) (hlen : s.size + Lib.countB s old * new.size <= 140737488355328) :
  Calls Tryz.prog 114 #[.string s, .string old, .string new] w fun e w' =>
   e = .returned (.string ⟨(Lib.replaceAll s.data.toList old.data.toList new.data.toList).toArray⟩) /\ Below w.heap.size w w' := Any.strings_ReplaceAll Tryz.lays155 Tryz.Builder_Extra_155 s old new m w hs hm h1 hlen
end Go.Proofs
namespace Go.Proofs.YtookoagcmejkpaaGreatDoor.Lx
set_option maxRecDepth 100000
open Go Go.RowKit
structure RdAt (W : World) (R : Nat) (p : Option Addr) (c : Nat) (bs : List UInt8) (a : Nat) : Prop where
 cb : W.cell? ⟨R, 0, none⟩ = some (.slice p bs.length c)
 ca : W.cell? ⟨R, 1, none⟩ = some (.int .i64 (a : Int))
 cl : ∀ b : UInt8, W.cell? ⟨R, 2 + b.toNat, none⟩ = some (.int .u8 (clB b : Int))
 fz : W.frozen? ⟨R, 1, none⟩ = false
 bi : BytesIn W p bs
 ne : 0 < bs.length -> ∀ b off, p = some ⟨b, off, none⟩ -> b ≠ R
 hl : R < W.heap.size
 hn : bs.length <= 1048576
 hk : bs.length <= c
 ha : a <= bs.length
section
variable {W W' : World} {R : Nat} {p : Option Addr} {c : Nat} {bs : List UInt8} {a : Nat}
theorem RdAt.only {T : Nat -> Prop} (h : RdAt W R p c bs a) (ho : Only T W W') (h1 : ¬ T R) (h2 : 0 < bs.length -> ∀ b off, p = some ⟨b, off, none⟩ -> ¬ T b) : RdAt W' R p c bs a :=
 ⟨ho.cell h.cb h1, ho.cell h.ca h1, fun b => ho.cell (h.cl b) h1, by rw [ho.frozen h.hl h1]; exact h.fz, h.bi.only ho h2, h.ne, Nat.lt_of_lt_of_le h.hl ho.size, h.hn, h.hk, h.ha⟩
theorem RdAt.later (h : RdAt W R p c bs a) (hb : Below W.heap.size W W') : RdAt W' R p c bs a :=
 h.only (Only.of_below (T := fun _ => False) hb) (fun h => h) (fun _ _ _ _ h => h)
theorem RdAt.set (h : RdAt W R p c bs a) {v : Int} {a' : Nat} (hv : v = (a' : Int)) (ha : a' <= bs.length) : RdAt (W.setCell ⟨R, 1, none⟩ (.int .i64 v)) R p c bs a' := by
 subst hv;have hs := Only.of_setCell W ⟨R, 1, none⟩ (.int .i64 (a' : Int))
 have far : ∀ o v, o ≠ 1 -> W.cell? ⟨R, o, none⟩ = some v -> (W.setCell ⟨R, 1, none⟩ (.int .i64 (a' : Int))).cell? ⟨R, o, none⟩ = some v := fun o v h3 h4 => by
  rw [World.cell?_setCell_other _ _ _ _ (by intro e; cases e; exact h3 rfl)]; exact h4
 exact ⟨far 0 _ (by omega) h.cb, World.cell?_setCell_same _ _ _ h.ca, fun b => far _ _ (by omega) (h.cl b), by rw [World.frozen?_setCell]; exact h.fz,
  h.bi.only hs h.ne, h.ne, by rw [World.size_setCell]; exact h.hl, h.hn, h.hk, ha⟩
theorem qap (W : World) (R o : Nat) (v : Value) : Only (· = R) W (W.setCell ⟨R, o, none⟩ v) := Only.of_setCell W ⟨R, o, none⟩ v
end
theorem qgd (m : Nat) (f : UInt8 -> Bool) (h : (List.range 256).all (fun n => (bits BinOp.and IntKind.u8 (clB (UInt8.ofNat n) : Int) (m : Int) != 0) == f (UInt8.ofNat n)) = true) (c : UInt8) : (bits BinOp.and IntKind.u8 (clB c : Int) (m : Int) != 0) = f c := by
 have := qdm (p := fun c => (bits BinOp.and IntKind.u8 (clB c : Int) (m : Int) != 0) == f c) h c;exact eq_of_beq this
theorem and1 (c : UInt8) : (bits BinOp.and IntKind.u8 (clB c : Int) 1 != 0) = spB c := qgd 1 spB (by decide +kernel) c
theorem and2 (c : UInt8) : (bits BinOp.and IntKind.u8 (clB c : Int) 2 != 0) = syB c := qgd 2 syB (by decide +kernel) c
theorem and4 (c : UInt8) : (bits BinOp.and IntKind.u8 (clB c : Int) 4 != 0) = dgB c := qgd 4 dgB (by decide +kernel) c
theorem and8 (c : UInt8) : (bits BinOp.and IntKind.u8 (clB c : Int) 8 != 0) = hxB c := qgd 8 hxB (by decide +kernel) c
theorem qtu (c : UInt8) : (bits BinOp.and IntKind.u8 (clB c : Int) 16 != 0) = txB c := qgd 16 txB (by decide +kernel) c
theorem qb4 {x : Int} {b : Bool} (h : (x != 0) = b) : (x == 0) = !b := by rw [<- h, bne, Bool.not_not]
theorem qbf {bs : List UInt8} {a : Nat} (h : a < bs.length) : bs.drop a = bs[a] :: bs.drop (a + 1) := List.drop_eq_getElem_cons h

theorem qj9 (R : Nat) (p : Option Addr) (c : Nat) (bs : List UInt8) (a0 : Nat) (W : World) (h : RdAt W R p c bs a0) :
  Calls Tryz.prog 134 #[.pointer (some ⟨R, 0, none⟩)] W fun e w' => e = .returned (.tuple #[]) /\ RdAt w' R p c bs (a0 + qav false (bs.drop a0)) /\ Only (· = R) W w' := by
 have H := Zh h;have hn := h.hn;generalize hN : a0 + qav false (bs.drop a0) = N0;have HN := Zh hN;clear h hN;go_enter Tryz.func134, Tryz.ntmps134
 go_wp2_with fail
 go_loopg [12] (bs.length + 1) (fun gk s12 wx => ∃ a : Nat, Hid (a <= bs.length /\ bs.length + 1 <= a + gk /\ a + qav false (bs.drop a) = N0 /\ RdAt wx R p c bs a /\ Only (· = R) W wx))
 case atStart => exact ⟨a0, Zh ⟨H.o.ha, by omega, HN.o, H.o, Only.refl _ _⟩⟩
 case round =>
  obtain ⟨a, HI⟩ := hrel;clear H HN;obtain ⟨h1, h2, h3, hr, ho⟩ := HI.o;have c0 := hr.cb;have c1 := hr.ca;have f1 := hr.fz;have HG := Zh h2;have HE := Zh h3;have HO := Zh ho;have HR := Zh hr;clear h2 h3 ho HI;obtain ⟨n, hnl⟩ : ∃ n, n = bs.length := ⟨_, rfl⟩;have HL := Zh hnl;rw [<- hnl] at c0 hn h1;clear hnl
  by_cases hlt : a < n
  ·obtain ⟨G, rfl⟩ : ∃ G, gk = G + 1 := ⟨gk - 1, by have := HG.o; have := HL.o; omega⟩
   have i1 : (a : Int) < (n : Int) := by omega
   have i0 : (0 : Int) <= (a : Int) := by omega
   have hab : a < bs.length := by have := HL.o; omega
   have hd := qbf hab;obtain ⟨b, off, rfl, cb⟩ := hr.bi a hab;have ccl := hr.cl bs[a];have hz : (bs[a].toNat : Int) < 256 := by have := bs[a].toNat_lt; omega
   have hz0 : (0 : Int) <= (bs[a].toNat : Int) := by omega
   have an := and1 bs[a]
   have eq59 : ((bs[a].toNat : Int) == 59) = (bs[a] == 59) := by
    have := qdm (p := fun c => ((c.toNat : Int) == 59) == (c == 59)) (by decide +kernel) bs[a]
    simpa using this
   generalize bs[a] = x at *;generalize x.toNat = y at *;generalize clB x = z at *;have HD := Zh hd;clear hr hd
   cases hs : spB x with
   | true =>
    rw [hs] at an;have HS := Zh hs;clear hs eq59
    go_wp2_with fail
    go_quiet (fail)
    go_wp2_with fail
    go_quiet (fail)
    go_wp2_with fail
    go_roundg G
    case measure => have := HG.o; have := HL.o; omega
    case rel =>
     have hl := HL.o;have hg := HG.o;obtain ⟨a', ha'⟩ : ∃ a', a' = a + 1 := ⟨_, rfl⟩;refine ⟨a', Zh ⟨by omega, by omega, ?_, ?_, ?_⟩⟩
     all_goals (try rw [ha'])
     ·have := HE.o; rw [HD.o] at this; simp only [qav, HS.o, if_true] at this; omega
     ·exact (HR.o.later (by first | exact qad _ _ | exact Below.refl _ _ | (repeat (first | exact Below.refl _ _ | apply bdd)))).set (by omega) (by omega)
     ·exact (HO.o.trans (Only.of_below (by first | exact qad _ _ | exact Below.refl _ _ | (repeat (first | exact Below.refl _ _ | apply bdd))))).trans (qap _ _ _ _)
   | false =>
    rw [hs] at an
    cases hc : (x == 59) with
    | false =>
     rw [hc] at eq59;have hend : a = N0 := by have := HE.o; rw [HD.o] at this; simp [qav, hs, hc] at this; exact this
     have HN := Zh hend;clear hs hc hend
     go_wp2_with fail
     go_quiet (fail)
     go_wp2_with fail
     go_quiet (fail)
     go_wp2_with fail
     go_quiet (fail)
     go_wp2_with fail
     exact bodyPost_ret (v := .tuple #[]) (by simp [results, Tryz.results134, go_sem]) rfl ⟨rfl, by rw [<- HN.o]; exact HR.o.later (by first | exact qad _ _ | exact Below.refl _ _ | (repeat (first | exact Below.refl _ _ | apply bdd))), HO.o.trans (Only.of_below (by first | exact qad _ _ | exact Below.refl _ _ | (repeat (first | exact Below.refl _ _ | apply bdd))))⟩
    | true =>
     rw [hc] at eq59;have hx : x = 59 := by simpa using hc
     have HE2 := Zh (show a + qav true (bs.drop a) = N0 by
      have := HE.o; rw [HD.o] at this ⊢; subst hx; simpa [qav, hs] using this)
     have HX := Zh hx;clear hs hc hx HE
     go_wp2_with fail
     go_quiet (fail)
     go_wp2_with fail
     go_quiet (fail)
     go_wp2_with fail
     go_quiet (fail)
     go_wp2_with fail
     generalize hW1 : ((wr.drewN _).drewN _).drewN _ = W1;have HR1 := Zh (show RdAt W1 R (some ⟨b, off, none⟩) c bs a from by rw [<- hW1]; exact HR.o.later (by first | exact qad _ _ | exact Below.refl _ _ | (repeat (first | exact Below.refl _ _ | apply bdd))));have HO1 := Zh (show Only (· = R) W W1 from by rw [<- hW1]; exact HO.o.trans (Only.of_below (by first | exact qad _ _ | exact Below.refl _ _ | (repeat (first | exact Below.refl _ _ | apply bdd)))));clear hW1 c0 c1 f1 ccl cb HR HO
     go_loopg [71] (bs.length + 1) (fun ik s12 wx => ∃ a2 : Nat, Hid (a <= a2 /\ a2 <= n /\ n + 1 <= a2 + ik /\ a2 + qav true (bs.drop a2) = N0 /\ RdAt wx R (some ⟨b, off, none⟩) c bs a2 /\ Only (· = R) W wx))
     case atStart => exact ⟨a, Zh ⟨Nat.le_refl _, h1, by have := HL.o; omega, HE2.o, HR1.o, HO1.o⟩⟩
     case round =>
      obtain ⟨a2, HI⟩ := hrel;clear HR1 HO1 HE2;obtain ⟨j0, j1, j2, j3, hr, ho⟩ := HI.o;have c0 := hr.cb;have c1 := hr.ca;have f1 := hr.fz;have HE := Zh j3;have HO := Zh ho;have HR := Zh hr;have HA := Zh j0;have HG2 := Zh j2;rw [<- HL.o] at c0;clear j0 j2 j3 ho HI
      by_cases hlt2 : a2 < n
      ·have i1 : (a2 : Int) < (n : Int) := by omega
       have i0 : (0 : Int) <= (a2 : Int) := by omega
       have hab : a2 < bs.length := by have := HL.o; omega
       have hd := qbf hab;obtain ⟨b2, off2, e2, cb⟩ := hr.bi a2 hab;cases e2;have hz : (bs[a2].toNat : Int) < 256 := by have := bs[a2].toNat_lt; omega
       have hz0 : (0 : Int) <= (bs[a2].toNat : Int) := by omega
       have eq10 : ((bs[a2].toNat : Int) != 10) = (bs[a2] != 10) := by
        have := qdm (p := fun c => ((c.toNat : Int) != 10) == (c != 10)) (by decide +kernel) bs[a2]
        simpa using this
       generalize bs[a2] = x2 at *;generalize x2.toNat = y2 at *;have HD2 := Zh hd;clear hr hd
       cases hc : (x2 != 10) with
       | true =>
        rw [hc] at eq10;have HC := Zh hc;clear hc
        go_wp2_with fail
        go_quiet (fail)
        go_wp2_with fail
        go_roundg (gk - 1)
        case measure => have := HG2.o; omega
        case rel =>
         have hg := HG2.o;obtain ⟨a', ha'⟩ : ∃ a', a' = a2 + 1 := ⟨_, rfl⟩;refine ⟨a', Zh ⟨by have := HA.o; omega, by omega, by omega, ?_, ?_, ?_⟩⟩
         all_goals (try rw [ha'])
         ·have hne : (x2 == 10) = false := by have := HC.o; simpa using this
          have := HE.o; rw [HD2.o] at this; simp only [qav, hne] at this; simp at this; omega
         ·exact (HR.o.later (by first | exact qad _ _ | exact Below.refl _ _ | (repeat (first | exact Below.refl _ _ | apply bdd)))).set (by omega) (by have := HL.o; omega)
         ·exact (HO.o.trans (Only.of_below (by first | exact qad _ _ | exact Below.refl _ _ | (repeat (first | exact Below.refl _ _ | apply bdd))))).trans (qap _ _ _ _)
       | false =>
        rw [hc] at eq10;have hx : x2 = 10 := by simpa using hc
        have hne : a ≠ a2 := fun e => by
         subst e;have h1 := HD.o; have h2 := HD2.o;rw [h1] at h2;have h3 := HX.o;simp only [List.cons.injEq] at h2;rw [hx, h3] at h2;exact absurd h2.1 (by decide)
        have HX2 := Zh (show a2 + qav false (bs.drop a2) = N0 by
         have := HE.o; rw [HD2.o] at this ⊢; subst hx; simpa [qav, spB] using this)
        have HNE := Zh hne;clear hc hx hne
        go_wp2_with fail
        go_quiet (fail)
        go_wp2_with fail
        go_roundg G
        case measure => omega
        case rel =>
         refine ⟨a2, Zh ⟨by have := HL.o; omega, ?_, HX2.o, HR.o.later (by first | exact qad _ _ | exact Below.refl _ _ | (repeat (first | exact Below.refl _ _ | apply bdd))), HO.o.trans (Only.of_below (by first | exact qad _ _ | exact Below.refl _ _ | (repeat (first | exact Below.refl _ _ | apply bdd))))⟩⟩;have := HG.o; have := HA.o; have := HNE.o; omega
      ·have HX2 := Zh (show a2 + qav false (bs.drop a2) = N0 by
        have hl := HL.o
        have := HE.o; rw [List.drop_of_length_le (by omega)] at this ⊢; simpa [qav] using this)
       have d1 : ((a2 : Int) < (n : Int)) = False := by simp; omega
       have d2 : decide ((a2 : Int) < (n : Int)) = false := by simp; omega
       clear hr
       go_wp2_with fail
       go_quiet (fail)
       go_wp2_with fail
       go_roundg G
       case measure => omega
       case rel =>
        refine ⟨a2, Zh ⟨by have := HL.o; omega, ?_, HX2.o, HR.o.later (by first | exact qad _ _ | exact Below.refl _ _ | (repeat (first | exact Below.refl _ _ | apply bdd))), HO.o.trans (Only.of_below (by first | exact qad _ _ | exact Below.refl _ _ | (repeat (first | exact Below.refl _ _ | apply bdd))))⟩⟩;have := HG.o; have := HA.o; omega
  ·have hend : a = N0 := by
    have hl := HL.o;have := HE.o; rw [List.drop_of_length_le (by omega)] at this; simpa [qav] using this
   have HN := Zh hend;clear hend hr
   go_wp2_with fail
   go_quiet (fail)
   go_wp2_with fail
   go_end0
   exact ⟨rfl, by rw [<- HN.o]; exact HR.o.later (by first | exact qad _ _ | exact Below.refl _ _ | (repeat (first | exact Below.refl _ _ | apply bdd))), HO.o.trans (Only.of_below (by first | exact qad _ _ | exact Below.refl _ _ | (repeat (first | exact Below.refl _ _ | apply bdd))))⟩
theorem qg1 (bs : List UInt8) (a : Nat) (h : a < bs.length) (hs : syB bs[a] = true) : (qas (bs.drop a)).length = 1 + (qas (bs.drop (a + 1))).length := by
 unfold qas;rw [qbf h, List.takeWhile_cons, if_pos hs]; simp; omega
theorem qi9 (bs : List UInt8) (a : Nat) (h : a < bs.length) (hs : syB bs[a] = false) : (qas (bs.drop a)).length = 0 := by
 unfold qas;rw [qbf h, List.takeWhile_cons, if_neg (by rw [hs]; decide)]; rfl
theorem qqg (bs : List UInt8) (a : Nat) (h : bs.length <= a) : (qas (bs.drop a)).length = 0 := by
 rw [List.drop_of_length_le h]; rfl
theorem qds (s : List UInt8) : s.take (qas s).length = qas s := by
 unfold qas;exact (List.prefix_iff_eq_take.1 (List.takeWhile_prefix syB)).symm
theorem qbe {x : UInt8} : (x.toNat : Int) < 256 /\ (0 : Int) <= (x.toNat : Int) := by have := x.toNat_lt; omega
theorem qg0 (R : Nat) (p : Option Addr) (c : Nat) (bs : List UInt8) (a0 : Nat) (W : World) (h : RdAt W R p c bs a0) :
  Calls Tryz.prog 156 #[.pointer (some ⟨R, 0, none⟩)] W fun e w' => e = .returned (.string ⟨(qas (bs.drop a0)).toArray⟩) /\ RdAt w' R p c bs (a0 + (qas (bs.drop a0)).length) /\ Only (· = R) W w' := by
 have H := Zh h;have hn := h.hn;have hc1 := h.ca;have h00 := h.ha;generalize hN : a0 + (qas (bs.drop a0)).length = N0;have HN := Zh hN;have HNN := Zh hN;clear h hN;go_enter Tryz.func156, Tryz.ntmps156
 go_wp2_with fail
 go_loopg [36] (bs.length + 1) (fun gk s12 wx => ∃ a : Nat, Hid (a0 <= a /\ a <= bs.length /\ bs.length + 1 <= a + gk /\ a + (qas (bs.drop a)).length = N0 /\ RdAt wx R p c bs a /\ Only (· = R) W wx))
 case atStart => exact ⟨a0, Zh ⟨Nat.le_refl _, H.o.ha, by omega, HN.o, H.o, Only.refl _ _⟩⟩
 case round =>
  obtain ⟨a, HI⟩ := hrel;clear H hc1;obtain ⟨h0, h1, h2, h3, hr, ho⟩ := HI.o;have c0 := hr.cb;have c1 := hr.ca;have f1 := hr.fz;have HG := Zh h2;have HE := Zh h3;have HO := Zh ho;have HR := Zh hr;clear h2 h3 ho HI;obtain ⟨n, hnl⟩ : ∃ n, n = bs.length := ⟨_, rfl⟩;have HL := Zh hnl;rw [<- hnl] at c0 hn h1 h00;clear hnl
  by_cases hlt : a < n
  ·obtain ⟨G, rfl⟩ : ∃ G, gk = G + 1 := ⟨gk - 1, by have := HG.o; have := HL.o; omega⟩
   have i1 : (a : Int) < (n : Int) := by omega
   have i0 : (0 : Int) <= (a : Int) := by omega
   have hab : a < bs.length := by have := HL.o; omega
   obtain ⟨b, off, rfl, cb⟩ := hr.bi a hab;have ccl := hr.cl bs[a];obtain ⟨hz, hz0⟩ := qbe (x := bs[a]);have an := and2 bs[a];have hs1 := qg1 bs a hab;have hs2 := qi9 bs a hab
   cases hs : syB bs[a] with
   | true =>
    rw [hs] at an;have HS := Zh (hs1 hs);generalize bs[a] = x at *;generalize x.toNat = y at *;generalize clB x = z at *;clear hs hs1 hs2 hr
    go_wp2_with fail
    go_quiet (fail)
    go_wp2_with fail
    go_roundg G
    case measure => have := HG.o; have := HL.o; omega
    case rel =>
     have hl := HL.o;have hg := HG.o;obtain ⟨a', ha'⟩ : ∃ a', a' = a + 1 := ⟨_, rfl⟩;refine ⟨a', Zh ⟨by omega, by omega, by omega, ?_, ?_, ?_⟩⟩
     all_goals (try rw [ha'])
     ·have := HE.o; have := HS.o; omega
     ·exact (HR.o.later (by first | exact qad _ _ | exact Below.refl _ _ | (repeat (first | exact Below.refl _ _ | apply bdd)))).set (by omega) (by omega)
     ·exact (HO.o.trans (Only.of_below (by first | exact qad _ _ | exact Below.refl _ _ | (repeat (first | exact Below.refl _ _ | apply bdd))))).trans (qap _ _ _ _)
   | false =>
    rw [hs] at an;have HS := Zh (show a = N0 by have := HE.o; have := hs2 hs; omega);generalize bs[a] = x at *;generalize x.toNat = y at *;generalize clB x = z at *;clear hs hs1 hs2 hr
    go_wp2_with fail
    go_quiet (fail)
    go_wp2_with fail
    generalize hW1 : wr.drewN _ = W1;have HR1 := Zh (show RdAt W1 R (some ⟨b, off, none⟩) c bs a from by rw [<- hW1]; exact HR.o.later (by first | exact qad _ _ | exact Below.refl _ _ | (repeat (first | exact Below.refl _ _ | apply bdd))));have HO1 := Zh (show Only (· = R) W W1 from by rw [<- hW1]; exact HO.o.trans (Only.of_below (by first | exact qad _ _ | exact Below.refl _ _ | (repeat (first | exact Below.refl _ _ | apply bdd)))));have d0 := HR1.o.cb;have d1 := HR1.o.ca;obtain ⟨V, hsl, hcv0⟩ := qb2 W1 _ bs c a0 a HR1.o.bi h0 (by have := HL.o; omega) HR1.o.hk;rw [<- HL.o] at d0 hsl
    have HCV := Zh (show (bs.drop a0).take (a - a0) = qas (bs.drop a0) by
     have e : a - a0 = (qas (bs.drop a0)).length := by have := HS.o; have := HNN.o; omega
     rw [e]; exact qds _)
    rw [HCV.o] at hcv0;have hcv := fun n => hcv0 (W1.drewN n) (qad _ _)
    clear hcv0;clear hW1 c0 c1 f1 HR HO
    go_quiet (fail)
    go_wp2_with fail
    go_ret
    exact ⟨rfl, by rw [<- HS.o]; exact HR1.o.later (by first | exact qad _ _ | exact Below.refl _ _ | (repeat (first | exact Below.refl _ _ | apply bdd))), HO1.o.trans (Only.of_below (by first | exact qad _ _ | exact Below.refl _ _ | (repeat (first | exact Below.refl _ _ | apply bdd))))⟩
  ·have hend : a = N0 := by
    have hl := HL.o;have := HE.o; have := qqg bs a (by omega); omega
   have HN := Zh hend;clear hend hr
   go_wp2_with fail
   go_quiet (fail)
   go_wp2_with fail
   generalize hW1 : wr.drewN _ = W1;have HR1 := Zh (show RdAt W1 R p c bs a from by rw [<- hW1]; exact HR.o.later (by first | exact qad _ _ | exact Below.refl _ _ | (repeat (first | exact Below.refl _ _ | apply bdd))));have HO1 := Zh (show Only (· = R) W W1 from by rw [<- hW1]; exact HO.o.trans (Only.of_below (by first | exact qad _ _ | exact Below.refl _ _ | (repeat (first | exact Below.refl _ _ | apply bdd)))));have d0 := HR1.o.cb;have d1 := HR1.o.ca;obtain ⟨V, hsl, hcv0⟩ := qb2 W1 _ bs c a0 a HR1.o.bi h0 (by have := HL.o; omega) HR1.o.hk;rw [<- HL.o] at d0 hsl
   have HCV := Zh (show (bs.drop a0).take (a - a0) = qas (bs.drop a0) by
    have e : a - a0 = (qas (bs.drop a0)).length := by have := HN.o; have := HNN.o; omega
    rw [e]; exact qds _)
   rw [HCV.o] at hcv0;have hcv := fun n => hcv0 (W1.drewN n) (qad _ _)
   clear hcv0;clear hW1 c0 c1 f1 HR HO
   go_quiet (fail)
   go_wp2_with fail
   go_ret
   exact ⟨rfl, by rw [<- HN.o]; exact HR1.o.later (by first | exact qad _ _ | exact Below.refl _ _ | (repeat (first | exact Below.refl _ _ | apply bdd))), HO1.o.trans (Only.of_below (by first | exact qad _ _ | exact Below.refl _ _ | (repeat (first | exact Below.refl _ _ | apply bdd))))⟩
theorem toList_data (s : ByteArray) : s.toList = s.data.toList := ByteArray.toList_eq s
theorem qb6 (m : Int) (f : UInt8 -> Bool) (hm : ∀ c, (bits BinOp.and IntKind.u8 (clB c : Int) m == 0) = !(f c)) (R : Nat) (s : ByteArray) (W : World) (hcl : ∀ b : UInt8, W.cell? ⟨R, 2 + b.toNat, none⟩ = some (.int .u8 (clB b : Int))) (hs : s.size <= 1048576) :
  Calls Tryz.prog 157 #[.pointer (some ⟨R, 0, none⟩), .string s, .int .u8 m] W fun e w' => e = .returned (.bool (allB f s.data.toList)) /\ ∃ n, w' = W.drewN n := by
 have HCL := Zh hcl;have HM := Zh hm;clear hcl hm;go_enter Tryz.func157, Tryz.ntmps157
 go_wp2_with fail
 go_loopg [7] s.size (fun gk s7 wx => ∃ k : Nat, k + gk = s.size /\ s7 = .int .i64 (k : Int) /\ Hid ((∃ n, wx = W.drewN n) /\ ∀ x ∈ s.data.toList.take k, f x = true))
 case atStart => exact ⟨0, by omega, rfl, Zh ⟨⟨0, rfl⟩, by simp⟩⟩
 case round =>
  obtain ⟨k, hk, rfl, HI⟩ := hrel;obtain ⟨nw, hwr⟩ := HI.o.1;have HW := Zh hwr;have HG := Zh hk;have hk2 : k <= s.size := by omega
  clear hk hwr
  by_cases hlt : k < s.size
  ·have i1 : (k : Int) < (s.size : Int) := by omega
   have i0 : (0 : Int) <= (k : Int) := by omega
   have ccl : wr.cell? ⟨R, 2 + s[k].toNat, none⟩ = some (.int .u8 (clB s[k] : Int)) := by rw [HW.o]; simpa using HCL.o s[k]
   obtain ⟨hz, hz0⟩ := qbe (x := s[k]);have an := HM.o s[k]
   have hts : s.data.toList.take (k + 1) = s.data.toList.take k ++ [s[k]] := by
    rw [List.take_succ_eq_append_getElem (by simpa using hlt)]; rfl
   have HTS := Zh hts;have hmem : s[k] ∈ s.data.toList := by simp [ByteArray.getElem_eq_getElem_data]
   have HME := Zh hmem;clear hts hmem
   cases hs : f s[k] with
   | true =>
    rw [hs] at an;have an2 : (bits BinOp.and IntKind.u8 (clB s[k] : Int) m == 0) = false := an;clear an;have HS := Zh hs;clear hs
    go_wp2_with fail
    go_quiet (fail)
    go_wp2_with fail
    obtain ⟨G, rfl⟩ : ∃ G, gk = G + 1 := ⟨gk - 1, by have := HG.o; omega⟩
    go_roundg G
    case measure => omega
    case rel =>
     obtain ⟨k', hk'⟩ : ∃ k', k' = k + 1 := ⟨_, rfl⟩;refine ⟨k', by have := HG.o; omega, by rw [hk']; go_num, Zh ⟨⟨nw + nq, by rw [HW.o]; simp⟩, fun x hx => ?_⟩⟩;rw [hk', HTS.o] at hx;rcases List.mem_append.1 hx with h | h
     ·exact HI.o.2 x h
     ·have : x = s[k] := by simpa using h
      rw [this]; exact HS.o
   | false =>
    rw [hs] at an;have an2 : (bits BinOp.and IntKind.u8 (clB s[k] : Int) m == 0) = true := an;clear an;have HS := Zh hs;clear hs
    go_wp2_with fail
    go_quiet (fail)
    go_wp2_with fail
    go_ret
    refine ⟨?_, nw + nq, by rw [HW.o]; simp⟩
    have : allB f s.data.toList = false := by
     unfold allB;rw [List.all_eq_false.2 ⟨_, HME.o, by rw [HS.o]; decide⟩]; rfl
    rw [this]
    rfl
  ·go_wp2_with fail
   go_ret
   refine ⟨?_, nw, HW.o⟩;have hk3 : k = s.size := by omega
   subst hk3
   have hall : s.data.toList.all f = true := by
    rw [List.all_eq_true];intro x hx;refine HI.o.2 x ?_;rw [List.take_of_length_le (by simp)]; exact hx
   show Ending.returned (Value.bool !s.toList.isEmpty) = _
   rw [toList_data];unfold allB;rw [hall]; rfl
end Go.Proofs.YtookoagcmejkpaaGreatDoor.Lx
