/- Plain mathematics of numerals: the number of a row of digits, and the numeral of a number. What the laws' claims share: the listed tables, and a row's last step. Frames: what a call leaves; a row of t -/
import Derived.Lib.ItoaNum
import Derived.Test.YtookoagcmejkpaaGreatDoorRows
import Derived.ProofKit
import Derived.LaidMore
import Derived.OpenShut
import Derived.Stop.Joined
import Derived.Below
import Derived.ChangeSame
import Derived.Carry
import Derived.Lib.SmallJoins
import Derived.Lib.LaidTab
import Derived.Lay
import Derived.SevenTiedAt
import Derived.Test.YtookoagcmejkpaaGreatDoorTie
import Derived.Test.YtookoagcmejkpaaGreatDoorCards
import Derived.Test.YtookoagcmejkpaaGreatDoorProg
import Derived.WalkKit
import Derived.WalkSpells
import Derived.WalkLawsBesides
import Derived.Outline
import Derived.Lib.Hide
import Derived.Lib.Walk
import Derived.Deep.QuietTactic
import Derived.BigQuiet
import Derived.Maps.AppendAt
import Derived.Laws.Externs
import Derived.Lib.ItoaMem
import Derived.Deep.LoopGhost
import Derived.Laws.BytesArg
import Derived.Laws.IdiomStrings
import Derived.Deep.RegionHeld3
import Derived.Shelf.Strconv.Itoa0
import Derived.Shelf.Strconv.Itoa1
import Derived.Shelf.LaysM
import Derived.Shelf.Strconv.Itoa2
import Derived.Shelf.Strconv.Itoa3
import Derived.Shelf.Strconv.Itoa4
import Derived.Shelf.Strings.Builder1
import Derived.Shelf.Strings.Builder2
import Derived.Shelf.Strings.OnBuilder
import Derived.Shelf.Strings.Search1
import Derived.Laws.Bits128
import Derived.RegionTactic
import Derived.BigCall
import Derived.BigGuard
import Derived.Maps.OwnOps
import Derived.Maps.RangeWalk
namespace Go.Proofs.YtookoagcmejkpaaGreatDoor
set_option maxRecDepth 100000
open Go
def dval (l : List UInt8) : Nat := l.foldl (fun n c => n * 10 + (c.toNat - 48)) 0
theorem dval_snoc (l : List UInt8) (c : UInt8) : dval (l ++ [c]) = dval l * 10 + (c.toNat - 48) := by simp [dval]
def dig (c : UInt8) : Bool := decide (48 <= c.toNat) && decide (c.toNat <= 57)
def isNum (l : List UInt8) : Bool := !l.isEmpty && !(decide (l.head? = some 48) && decide (1 < l.length)) && l.all dig
def readE (l : List UInt8) : Int := if isNum l = true then (if dval l <= 4611686018427387903 then 0 else 6) else 5
def readN (l : List UInt8) : Int := if isNum l = true /\ dval l <= 4611686018427387903 then dval l else 0

theorem dval_le_snoc (l : List UInt8) (c : UInt8) : dval l <= dval (l ++ [c]) := by rw [dval_snoc]; omega

theorem dec_all (u : Nat) : (Lib.decDigits u).all dig = true := by
 induction u using Nat.strongRecOn with
 | _ u ih =>
  rw [Lib.decDigits]
  split
  ·rename_i h
   have : (48 + u) % 256 = 48 + u := Nat.mod_eq_of_lt (by omega)
   simp [dig, this]; omega
  ·rename_i h
   have : (48 + u % 10) % 256 = 48 + u % 10 := Nat.mod_eq_of_lt (by omega)
   rw [List.all_append, ih (u / 10) (by omega)]
   simp [dig, this]; omega
theorem dec_ne (u : Nat) : Lib.decDigits u ≠ [] := by
 intro h
 have := Lib.decDigits_length u
 have := Lib.nDigits_pos u
 rw [h] at *
 simp at *
 omega
theorem dec_val (u : Nat) : dval (Lib.decDigits u) = u := by
 induction u using Nat.strongRecOn with
 | _ u ih =>
  rw [Lib.decDigits]
  split
  ·rename_i h
   have : (48 + u) % 256 = 48 + u := Nat.mod_eq_of_lt (by omega)
   simp [dval, this]
  ·rename_i h
   have : (48 + u % 10) % 256 = 48 + u % 10 := Nat.mod_eq_of_lt (by omega)
   rw [dval_snoc, ih (u / 10) (by omega)]
   simp [this]; omega
theorem head_app {m : List UInt8} (x : List UInt8) (h : m ≠ []) : (m ++ x).head? = m.head? := by
 cases m with
 | nil => exact absurd rfl h
 | cons a b => rfl
theorem dec_head (u : Nat) (h : 1 <= u) : (Lib.decDigits u).head? ≠ some 48 := by
 induction u using Nat.strongRecOn with
 | _ u ih =>
  rw [Lib.decDigits]
  split
  ·rename_i h'
   have hm : (48 + u) % 256 = 48 + u := Nat.mod_eq_of_lt (by omega)
   simp only [List.head?_cons, ne_eq, Option.some.injEq]
   intro e
   have := congrArg UInt8.toNat e
   simp [hm] at this
   omega
  ·rename_i h'
   rw [head_app _ (dec_ne _)]
   exact ih (u / 10) (by omega) (by omega)
theorem dec_isNum (u : Nat) : isNum (Lib.decDigits u) = true := by
 unfold isNum
 rw [dec_all]
 have h1 : (Lib.decDigits u).isEmpty = false := by simp [dec_ne]
 rw [h1]
 by_cases h : 1 <= u
 ·simp [dec_head u h]
 ·have : u = 0 := by omega
  subst this
  rw [Lib.decDigits]; simp
theorem read_itoa_ok (n : Int) (h0 : 0 <= n) (h1 : n <= 4611686018427387903) : readE (Lib.itoa n) = 0 /\ readN (Lib.itoa n) = n := by
 have e : Lib.itoa n = Lib.decDigits n.toNat := by unfold Lib.itoa; rw [if_neg (by omega)]
 unfold readE readN
 rw [e, dec_isNum, dec_val]
 simp; omega
end Go.Proofs.YtookoagcmejkpaaGreatDoor
namespace Go.Proofs.YtookoagcmejkpaaGreatDoor
open Go Go.RowKit Go.WideShapes Go.ChangeShapes Go.WideElems
section
variable {H : Type} {enc : TypeId × Value -> H} {P : Program}
theorem post_of_below {f : Func} {s : ChangeSpec} {apart fresh handsOn again : Bool} {W W' : World} {args : Array Value} {v : Value} {ds gs : List (DataW H)} {before pa pv : List MemPlace}
  (hW : DataW.Whole enc P f.params.toList s.vars apart W args.toList ds gs before)
  (hres : ∀ (b : Nat) (sp : Nat -> Bool) (hd : Bool), DataW.TrodAll enc P W' b sp hd f.resultTypes.toList (v.resultList f.resultTypes.size) (s.fn H (ds ++ gs)).results [])
  (hargs : ∀ sp : Nat -> Bool, (∀ p ∈ before, sp p.block = true) -> DataW.TrodAll enc P W' 0 sp true f.params.toList args.toList (s.fn H (ds ++ gs)).args pa)
  (hvars : ∀ sp : Nat -> Bool, (∀ p ∈ before, sp p.block = true) -> DataW.TrodVars enc P W' sp s.vars (s.fn H (ds ++ gs)).vars pv)
  (hps : before = pa ++ pv) (hb : Below W.heap.size W W')
  (hok : ∀ (j : Nat) (t : TypeId) (r : Value), f.resultTypes[j]? = some t -> (v.resultList f.resultTypes.size)[j]? = some r -> Value.okWide P W' .any 0 t r) :
  s.post enc P f apart fresh handsOn again W args v W' := by
 have hlt : ∀ p ∈ before, p.block < W.heap.size := fun p hp => hW.lt p hp
 have hold : ∀ p ∈ before, (fun b => decide (b < W.heap.size)) p.block = true := fun p hp => by simpa using hlt p hp
 refine ⟨ds, gs, before, [], pa, pv, hW, hres _ _ _, hargs _ hold, hvars _ hold, World.keptBut_mono (fun p hp => ⟨hp, ?_⟩) (hb.frame (· ∈ before)), fun _ => ?_⟩
 ·rw [hps, List.mem_append] at hp
  exact Or.inr hp
 ·obtain ⟨_, _, _, _, _, hz, hn⟩ := hW
  refine ⟨hok, _, _, ([] ++ pa) ++ pv, ⟨[] ++ pa, pv, trodAll_append (hargs _ (fun _ _ => rfl)) (hres _ _ _), hvars _ (fun _ _ => rfl), rfl, ?_, ?_⟩, ?_⟩
  ·intro b off hp
   have hin : MemPlace.cell b off ∈ before := by rw [hps]; simpa using hp
   rw [hb.frozen (hlt _ hin)]
   exact hz b off hin
  ·intro ha
   have := hn ha
   rw [hps] at this
   simpa using this
  ·intro p hp _
   rw [hps]
   simpa using hp
end
theorem own : ownKnob Tryz.prog.godebug = none := by kernel_rfl
theorem laid : laidOutB Tryz.prog = true := by kernel_rfl

theorem trodAll_stays {H : Type} {enc : TypeId × Value -> H} {W W' : World} {sp : Nat -> Bool} : ∀ (ts : List TypeId) (vs : List Value) (ds : List (DataW H)) (ps : List MemPlace),
  DataW.TrodAll enc Tryz.prog W 0 (fun _ => true) true ts vs ds ps -> (∀ t ∈ ts, Tryz.prog.readableRec t = true /\ t < Tryz.prog.types.size) -> Below W.heap.size W W' -> (∀ p ∈ ps, p.block < W.heap.size) -> (∀ p ∈ ps, sp p.block = true) →
  DataW.TrodAll enc Tryz.prog W' 0 sp true ts vs ds ps := by
 intro ts
 induction ts with
 | nil =>
  intro vs ds ps h _ _ _ _
  obtain ⟨rfl, rfl, rfl⟩ := trodAll_nil h
  exact trodAll_mk0
 | cons t ts ih =>
  intro vs ds ps h ht hb hlt hsp
  obtain ⟨v, vs', d, ds', p, q, rfl, rfl, rfl, h0, h1⟩ := trodAll_cons h
  have k := ht t (by simp)
  exact ⟨p, q, Trod_stays laid k.1 k.2 h0 (fun x hx => hb.same (hlt x (by simp [hx]))) (fun x hx => hsp x (by simp [hx])), ih vs' ds' q h1 (fun t' h' => ht t' (by simp [h'])) hb (fun x hx => hlt x (by simp [hx])) (fun x hx => hsp x (by simp [hx])), rfl⟩
theorem gPow : Tryz.prog.globalNamed "internal/strconv.uint64pow10" = some 1 := by kernel_rfl
theorem tPow : (Tryz.prog.globals[1]?).map (·.type) = some 188 := by kernel_rfl
theorem cells173k : Tryz.prog.cellsOf 173 = 1 := by kernel_rfl
theorem cells188k : Tryz.prog.cellsOf 188 = 20 := by kernel_rfl
def listed : List (String × DataW Unit) := [("math/bits.deBruijn32tab", Rows.laid_math_bits_deBruijn32tab), ("math/bits.deBruijn64tab", Rows.laid_math_bits_deBruijn64tab), ("internal/strconv.uint64pow10", Rows.laid_internal_strconv_uint64pow10), ("unicode/utf8.acceptRanges", Rows.laid_unicode_utf8_acceptRanges), ("unicode/utf8.first", Rows.laid_unicode_utf8_first)]
theorem tab_of {W : World} (h : laidMetH Tryz.prog listed W) : Lib.TabIs Tryz.prog W "internal/strconv.uint64pow10" .u64 Lib.pow10Tab := by
 rw [MakeChecks.laidMetH_plain _ _ _ (by kernel_rfl)] at h
 obtain ⟨ps, ⟨g0, t0, cs0, f0, p0, q0, hg0, ht0, hv0, hd0, ⟨g1, t1, cs1, f1, p1, q1, hg1, ht1, hv1, hd1, ⟨g2, t2, cs2, f2, p2, q2, hg2, ht2, hvar, hd, _, _⟩, _⟩, _⟩, _, _⟩ := h
 obtain rfl := Option.some.inj (gPow.symm.trans hg2)
 obtain rfl := Option.some.inj (tPow.symm.trans ht2)
 unfold Lib.TabIs
 rw [hvar, <- Lib.cells_of_tab (zs := Lib.pow10Tab) Tryz.underlying188 Tryz.underlying173 cells173k cells188k hd]
end Go.Proofs.YtookoagcmejkpaaGreatDoor
namespace Go.Proofs.YtookoagcmejkpaaGreatDoor
open Go Go.RowKit
theorem cell_later {W W' : World} (hb : Below W.heap.size W W') {a : Addr} {v : Value} (h : W.cell? a = some v) : W'.cell? a = some v := by
 rw [<- h]
 exact hb.cell (World.block_lt_of_cell? W a h)
theorem below1 (w : World) (o1 : Obj) : Below w.heap.size w (w.alloc o1) := (Below.refl _ _).alloc (Nat.le_refl _) _
theorem below_drewN (w : World) (n : Nat) : Below w.heap.size w (w.drewN n) := ⟨rfl, rfl, rfl, Nat.le_refl _, fun _ _ => rfl⟩
theorem bdd {B : Nat} {w w' : World} {n : Nat} (h : Below B w w') : Below B w (w'.drewN n) := ⟨h.os, h.tape, h.output, h.size, h.block⟩
theorem below_drew (w : World) : Below w.heap.size w w.drew := ⟨rfl, rfl, rfl, Nat.le_refl _, fun _ _ => rfl⟩
structure Only (T : Nat -> Prop) (w w' : World) : Prop where
 os : w'.os = w.os
 tape : w'.tape = w.tape
 output : w'.output = w.output
 size : w.heap.size <= w'.heap.size
 block : ∀ k, k < w.heap.size -> ¬ T k -> w'.heap[k]? = w.heap[k]?
theorem Only.refl (T : Nat -> Prop) (w : World) : Only T w w := ⟨rfl, rfl, rfl, Nat.le_refl _, fun _ _ _ => rfl⟩
theorem Only.trans {T : Nat -> Prop} {a b c : World} (h : Only T a b) (k : Only T b c) : Only T a c :=
 ⟨k.os.trans h.os, k.tape.trans h.tape, k.output.trans h.output, Nat.le_trans h.size k.size, fun i hi hn => (k.block i (Nat.lt_of_lt_of_le hi h.size) hn).trans (h.block i hi hn)⟩
theorem Only.mono {T T' : Nat -> Prop} {w w' : World} (h : Only T w w') (hT : ∀ k, k < w.heap.size -> T k -> T' k) : Only T' w w' := ⟨h.os, h.tape, h.output, h.size, fun k hk hn => h.block k hk (fun ht => hn (hT k hk ht))⟩
theorem Only.of_below {T : Nat -> Prop} {w w' : World} (h : Below w.heap.size w w') : Only T w w' := ⟨h.os, h.tape, h.output, h.size, fun k hk _ => h.block k hk⟩
theorem Only.below {T : Nat -> Prop} {B : Nat} {w w' : World} (h : Only T w w') (hT : ∀ k, T k -> B <= k) (hB : B <= w.heap.size) : Below B w w' := ⟨h.os, h.tape, h.output, h.size, fun k hk => h.block k (Nat.lt_of_lt_of_le hk hB) (fun ht => by have := hT k ht; omega)⟩
theorem Only.of_grown {w w' : World} {row : Option Nat} (h : w.grownBy w' row) : Only (fun k => row = some k) w w' := ⟨h.os, h.tape, h.output, h.size, fun k hk hn => h.block k hk (fun e => hn e.symm)⟩
theorem Only.of_setCell (w : World) (a : Addr) (u : Value) : Only (fun k => k = a.block) w (w.setCell a u) := by
 refine ⟨rfl, rfl, rfl, by simp, fun k hk hn => Below.heap_setCell w a u k hn⟩
theorem Only.transNew {T T' : Nat -> Prop} {w w2 w3 : World} (h : Only T w w2) (k : Only T' w2 w3) (hT : ∀ j, T' j -> w.heap.size <= j) : Only T w w3 :=
 ⟨k.os.trans h.os, k.tape.trans h.tape, k.output.trans h.output, Nat.le_trans h.size k.size, fun i hi hn => (k.block i (Nat.lt_of_lt_of_le hi h.size) (fun e => by have := hT i e; omega)).trans (h.block i hi hn)⟩
theorem Only.cell {T : Nat -> Prop} {w w' : World} (h : Only T w w') {a : Addr} {v : Value} (hc : w.cell? a = some v) (hn : ¬ T a.block) : w'.cell? a = some v := by
 rw [<- hc]
 exact World.cell?_of_block (w := w) (h.block a.block (World.block_lt_of_cell? w a hc) hn)
theorem Only.frozen {T : Nat -> Prop} {w w' : World} (h : Only T w w') {a : Addr} (hl : a.block < w.heap.size) (hn : ¬ T a.block) : w'.frozen? a = w.frozen? a :=
 World.frozen?_of_block (w := w) (h.block a.block hl hn)
theorem own_block {w w' : World} {base n : Nat} {e : TypeId} {size : Nat} {v : Value} {xs : List Value} (h : w.ownsRow base e size v n xs) (hk : ∀ k, v.ownBlock = some k -> k < w.heap.size -> w'.heap[k]? = w.heap[k]?) : w'.ownsRow base e size v n xs := by
 rcases h with ⟨h0, ⟨h1, h2⟩ | ⟨g, cap, cur, rfl, hg, hh, hc⟩⟩
 ·exact ⟨h0, .inl ⟨h1, h2⟩⟩
 ·refine ⟨h0, .inr ⟨g, cap, cur, rfl, hg, ?_, hc⟩⟩
  rw [<- hh]
  exact hk g rfl (by
   rcases Nat.lt_or_ge g w.heap.size with h | h
   ·exact h
   ·rw [Array.getElem?_eq_none h] at hh; cases hh)
theorem own_only {T : Nat -> Prop} {w w' : World} {base n : Nat} {e : TypeId} {size : Nat} {v : Value} {xs : List Value} (h : w.ownsRow base e size v n xs) (ho : Only T w w') (hn : ∀ k, v.ownBlock = some k -> ¬ T k) : w'.ownsRow base e size v n xs :=
 own_block h (fun k hk hl => ho.block k hl (hn k hk))
theorem own_later {w w' : World} {base n : Nat} {e : TypeId} {size : Nat} {v : Value} {xs : List Value} (h : w.ownsRow base e size v n xs) (hb : Below w.heap.size w w') : w'.ownsRow base e size v n xs :=
 own_block h (fun k _ hl => hb.block k hl)
theorem own_lt {w : World} {base n : Nat} {e : TypeId} {size : Nat} {v : Value} {xs : List Value} (h : w.ownsRow base e size v n xs) {k : Nat} (hk : v.ownBlock = some k) : base <= k /\ k < w.heap.size := World.ownsRow.lt h k hk
theorem own_shape {w : World} {base n : Nat} {e : TypeId} {size : Nat} {v : Value} {xs : List Value} (h : w.ownsRow base e size v n xs) : ∃ (p : Option Addr) (c : Nat), v = .slice p n c /\ (∀ ad, p = some ad -> ad = ⟨ad.block, 0, none⟩ /\ base <= ad.block) := by
 rcases h.2 with ⟨rfl, rfl⟩ | ⟨g, cap, cur, rfl, hg, _⟩
 ·exact ⟨none, 0, rfl, fun ad h => by cases h⟩
 ·exact ⟨some ⟨g, 0, none⟩, cap, rfl, fun ad h => by cases h; exact ⟨rfl, hg⟩⟩
theorem info_of {e : TypeId} {z : Value} {s b : Nat} (h : (Tryz.prog.info? e).map (fun i => (i.zero, i.size, i.bytes)) = some (some z, s, b)) : ∃ i0, Tryz.prog.info? e = some i0 /\ i0.zero = some z /\ i0.size = s /\ i0.bytes = b := by
 obtain ⟨i, hi, hb⟩ := Option.map_eq_some_iff.1 h
 simp only [Prod.mk.injEq] at hb
 exact ⟨i, hi, hb.1, hb.2.1, hb.2.2⟩

theorem wrap64_eq (x : Int) : wrap64 x = (x + 9223372036854775808) % 18446744073709551616 - 9223372036854775808 := by
 simp only [wrap64]
def IntsIn (W : World) (p : Option Addr) (c : List Int) : Prop := ∀ i (h : i < c.length), ∃ b off, p = some ⟨b, off, none⟩ /\ W.cell? ⟨b, off + i, none⟩ = some (.int .i64 c[i])
theorem IntsIn.later {W W' : World} {p : Option Addr} {c : List Int} (h : IntsIn W p c) (hb : Below W.heap.size W W') : IntsIn W' p c := fun i hi => by
 obtain ⟨b, off, e, hc⟩ := h i hi
 exact ⟨b, off, e, cell_later hb hc⟩
theorem IntsIn.nil (W : World) (p : Option Addr) : IntsIn W p [] := fun i hi => absurd hi (Nat.not_lt_zero i)
structure Lk where
 k : Int
 lit : Int
 a : Int
 b : Int
 i : Int
 j : Int
 l : List Int
deriving DecidableEq
structure Stp where
 k : Int
 lits : List Int
 links : List Lk
 a : Int
 b : Int
deriving DecidableEq
def lkV (x : Lk) (q : Option Addr) (c : Nat) : Value := .agg #[.int .u8 x.k, .int .i64 x.lit, .int .i64 x.a, .int .i64 x.b, .int .i64 x.i, .int .i64 x.j, .slice q x.l.length c]
def stV (x : Stp) (p : Option Addr) (c : Nat) (q : Option Addr) (d : Nat) : Value := .agg #[.int .u8 x.k, .slice p x.lits.length c, .slice q x.links.length d, .int .i64 x.a, .int .i64 x.b]
def LksIn (W : World) (p : Option Addr) (l : List Lk) : Prop := ∀ i (h : i < l.length), ∃ b off, p = some ⟨b, off, none⟩ /\ W.cell? ⟨b, off + i * 7, none⟩ = some (.int .u8 l[i].k) /\ W.cell? ⟨b, off + i * 7 + 1, none⟩ = some (.int .i64 l[i].lit) /\ W.cell? ⟨b, off + i * 7 + 2, none⟩ = some (.int .i64 l[i].a) ∧
 W.cell? ⟨b, off + i * 7 + 3, none⟩ = some (.int .i64 l[i].b) /\ W.cell? ⟨b, off + i * 7 + 4, none⟩ = some (.int .i64 l[i].i) /\ W.cell? ⟨b, off + i * 7 + 5, none⟩ = some (.int .i64 l[i].j) ∧
 ∃ q c, W.cell? ⟨b, off + i * 7 + 6, none⟩ = some (.slice q l[i].l.length c) /\ IntsIn W q l[i].l /\ l[i].l.length <= c /\ c <= 9223372036854775807
theorem LksIn.later {W W' : World} {p : Option Addr} {l : List Lk} (h : LksIn W p l) (hb : Below W.heap.size W W') : LksIn W' p l := fun i hi => by
 obtain ⟨b, off, e, h0, h1, h2, h3, h4, h5, q, c, h6, h7, h8⟩ := h i hi
 exact ⟨b, off, e, cell_later hb h0, cell_later hb h1, cell_later hb h2, cell_later hb h3, cell_later hb h4, cell_later hb h5, q, c, cell_later hb h6, h7.later hb, h8⟩
structure LkAt (W : World) (B : Nat) (x : Lk) (q : Option Addr) (c : Nat) : Prop where
 c0 : W.cell? ⟨B, 0, none⟩ = some (.int .u8 x.k)
 c1 : W.cell? ⟨B, 1, none⟩ = some (.int .i64 x.lit)
 c2 : W.cell? ⟨B, 2, none⟩ = some (.int .i64 x.a)
 c3 : W.cell? ⟨B, 3, none⟩ = some (.int .i64 x.b)
 c4 : W.cell? ⟨B, 4, none⟩ = some (.int .i64 x.i)
 c5 : W.cell? ⟨B, 5, none⟩ = some (.int .i64 x.j)
 c6 : W.cell? ⟨B, 6, none⟩ = some (.slice q x.l.length c)
theorem LkAt.later {W W' : World} {B : Nat} {x : Lk} {q : Option Addr} {c : Nat} (h : LkAt W B x q c) (hb : Below W.heap.size W W') : LkAt W' B x q c :=
 ⟨cell_later hb h.c0, cell_later hb h.c1, cell_later hb h.c2, cell_later hb h.c3, cell_later hb h.c4, cell_later hb h.c5, cell_later hb h.c6⟩
structure StAt (W : World) (B : Nat) (x : Stp) (p : Option Addr) (c : Nat) (q : Option Addr) (d : Nat) : Prop where
 c0 : W.cell? ⟨B, 0, none⟩ = some (.int .u8 x.k)
 c1 : W.cell? ⟨B, 1, none⟩ = some (.slice p x.lits.length c)
 c2 : W.cell? ⟨B, 2, none⟩ = some (.slice q x.links.length d)
 c3 : W.cell? ⟨B, 3, none⟩ = some (.int .i64 x.a)
 c4 : W.cell? ⟨B, 4, none⟩ = some (.int .i64 x.b)
theorem StAt.later {W W' : World} {B : Nat} {x : Stp} {p : Option Addr} {c : Nat} {q : Option Addr} {d : Nat} (h : StAt W B x p c q d) (hb : Below W.heap.size W W') : StAt W' B x p c q d :=
 ⟨cell_later hb h.c0, cell_later hb h.c1, cell_later hb h.c2, cell_later hb h.c3, cell_later hb h.c4⟩
def litB (x : Int) : Bool := decide (x ≠ 0) && decide (-4611686018427387903 <= x) && decide (x <= 4611686018427387903)
def cntB (x : Int) : Bool := decide (0 <= x) && decide (x <= 4611686018427387903)
def fldL (has : Bool) (x : Int) : Bool := if has then litB x else decide (x = 0)
def fldC (has : Bool) (x : Int) : Bool := if has then cntB x else decide (x = 0)
structure Fm where
 lit : Bool
 a : Bool
 b : Bool
 i : Bool
 j : Bool
 list : Bool
def fmL : Int -> Option Fm
 | 1 => some ⟨true, false, false, false, false, false⟩
 | 2 => some ⟨false, true, false, false, false, false⟩
 | 3 => some ⟨false, false, false, true, false, false⟩
 | 4 => some ⟨false, false, false, true, true, false⟩
 | 5 => some ⟨false, true, true, false, false, true⟩
 | 6 => some ⟨true, false, false, true, false, false⟩
 | 7 => some ⟨false, false, false, true, false, false⟩
 | _ => none
def mayLk (x : Lk) : Bool := match fmL x.k with
 | none => false
 | some f => decide (x.l.length <= 20) && (f.list || decide (x.l.length = 0)) && fldL f.lit x.lit && x.l.all cntB && fldC f.a x.a && fldC f.b x.b && fldC f.i x.i && fldC f.j x.j
def maySt (x : Stp) : Bool :=
 if x.k = 1 \/ x.k = 3 then decide (x.lits.length <= 5000) && x.lits.all litB && decide (x.links.length = 0) && decide (x.a = 0) && decide (x.b = 0)
 else if x.k = 2 then decide (x.lits.length = 0) && decide (x.links.length <= 20000) && x.links.all mayLk && decide (x.a = 0) && decide (x.b = 0)
 else if x.k = 4 then decide (x.lits.length = 0) && decide (x.links.length = 0) && cntB x.a && cntB x.b
 else false
theorem succ_wrap {k n : Nat} (h : k < n) (hn : n <= 9223372036854775807) : wrap64 ((k : Int) + 1) = ((k + 1 : Nat) : Int) := by rw [wrap64_eq]; omega
theorem step_ok {k n : Nat} (h : k < n) (hn : n <= 9223372036854775807) : k + 1 <= n /\ n - (k + 1) < n - k /\ wrap64 ((k : Int) + 1) = ((k + 1 : Nat) : Int) :=
 ⟨Nat.succ_le_of_lt h, Nat.sub_lt_sub_left h (Nat.lt_succ_self k), succ_wrap h hn⟩
theorem beqd (x y : Int) : (x == y) = decide (x = y) := by by_cases h : x = y <;> simp [h]
theorem index34 (h : Bool) (x : Int) (w : World) : Calls Tryz.prog 34 #[.bool h, .int .i64 x] w fun e w' => e = .returned (.bool (fldC h x)) /\ w' = w := by
 cases h with
 | false =>
  go_enter Tryz.func34, Tryz.ntmps34
  go_wp2_with fail
  refine bodyPost_ret (v := .bool _) (by simp [results, Tryz.results34, go_sem]; rfl) rfl ⟨?_, rfl⟩
  simp [fldC, beqd]
 | true =>
  by_cases h0 : 0 <= x
  ·go_enter Tryz.func34, Tryz.ntmps34
   go_wp2_with fail
   refine bodyPost_ret (v := .bool _) (by simp [results, Tryz.results34, go_sem]; rfl) rfl ⟨?_, rfl⟩
   simp [fldC, cntB, h0]
  ·have h1 : x < 0 := by omega
   go_enter Tryz.func34, Tryz.ntmps34
   go_wp2_with fail
   refine bodyPost_ret (v := .bool _) (by simp [results, Tryz.results34, go_sem]; rfl) rfl ⟨?_, rfl⟩
   simp [fldC, cntB]
   omega
theorem lit37 (h : Bool) (x : Int) (w : World) : Calls Tryz.prog 37 #[.bool h, .int .i64 x] w fun e w' => e = .returned (.bool (fldL h x)) /\ w' = w := by
 cases h with
 | false =>
  go_enter Tryz.func37, Tryz.ntmps37
  go_wp2_with fail
  refine bodyPost_ret (v := .bool _) (by simp [results, Tryz.results37, go_sem]; rfl) rfl ⟨?_, rfl⟩
  simp [fldL, beqd]
 | true =>
  by_cases h0 : x = 0
  ·subst h0
   go_enter Tryz.func37, Tryz.ntmps37
   go_wp2_with fail
   exact bodyPost_ret (v := .bool _) (by simp [results, Tryz.results37, go_sem]; rfl) rfl ⟨by simp [fldL, litB], rfl⟩
  have e0 : (x == 0) = false := by simp [h0]
  by_cases h1 : -4611686018427387903 <= x
  ·go_enter Tryz.func37, Tryz.ntmps37
   go_wp2_with fail
   refine bodyPost_ret (v := .bool _) (by simp [results, Tryz.results37, go_sem]; rfl) rfl ⟨?_, rfl⟩
   simp [fldL, litB, h0, h1]
  ·have h2 : x < -4611686018427387903 := by omega
   go_enter Tryz.func37, Tryz.ntmps37
   go_wp2_with fail
   refine bodyPost_ret (v := .bool _) (by simp [results, Tryz.results37, go_sem]; rfl) rfl ⟨?_, rfl⟩
   simp [fldL, litB, h0]
   omega
theorem count41 (x : Int) (w : World) : Calls Tryz.prog 41 #[.int .i64 x] w fun e w' => e = .returned (.bool (cntB x)) /\ w' = w := by
 by_cases h0 : 0 <= x
 ·go_enter Tryz.func41, Tryz.ntmps41
  go_wp2_with fail
  refine bodyPost_ret (v := .bool _) (by simp [results, Tryz.results41, go_sem]; rfl) rfl ⟨?_, rfl⟩
  simp [cntB, h0]
 ·have h1 : x < 0 := by omega
  go_enter Tryz.func41, Tryz.ntmps41
  go_wp2_with fail
  refine bodyPost_ret (v := .bool _) (by simp [results, Tryz.results41, go_sem]; rfl) rfl ⟨?_, rfl⟩
  simp [cntB]
  omega
theorem lit42 (x : Int) (w : World) : Calls Tryz.prog 42 #[.int .i64 x] w fun e w' => e = .returned (.bool (litB x)) /\ w' = w := by
 by_cases h0 : x = 0
 ·subst h0
  go_enter Tryz.func42, Tryz.ntmps42
  go_wp2_with fail
  exact bodyPost_ret (v := .bool _) (by simp [results, Tryz.results42, go_sem]; rfl) rfl ⟨by simp [litB], rfl⟩
 have e0 : (x == 0) = false := by simp [h0]
 by_cases h1 : -4611686018427387903 <= x
 ·go_enter Tryz.func42, Tryz.ntmps42
  go_wp2_with fail
  refine bodyPost_ret (v := .bool _) (by simp [results, Tryz.results42, go_sem]; rfl) rfl ⟨?_, rfl⟩
  simp [litB, h0, h1]
 ·have h2 : x < -4611686018427387903 := by omega
  go_enter Tryz.func42, Tryz.ntmps42
  go_wp2_with fail
  refine bodyPost_ret (v := .bool _) (by simp [results, Tryz.results42, go_sem]; rfl) rfl ⟨?_, rfl⟩
  simp [litB, h0]
  omega
theorem fn36 (x : Int) (w : World) : Calls Tryz.prog 36 #[.int .i64 x] w fun e w' => e = .returned (.bool (!(litB x))) /\ w' = w := by
 have H := Lib.hid (show Calls Tryz.prog 37 #[.bool true, .int .i64 x] w (fun e w' => e = .returned (.bool (litB x)) /\ w' = w) from lit37 true x w)
 go_enter Tryz.func36, Tryz.ntmps36
 go_wp2_with fail
 refine H.out.mono ?_
 rintro e w1 ⟨rfl, rfl⟩
 go_wp2_with fail
 exact bodyPost_ret (v := .bool (!(litB x))) (by simp [results, Tryz.results36, go_sem]) rfl ⟨rfl, rfl⟩
theorem fn72 (x : Int) (w : World) : Calls Tryz.prog 72 #[.int .i64 x] w fun e w' => e = .returned (.bool (!(cntB x))) /\ w' = w := by
 have H := Lib.hid (show Calls Tryz.prog 34 #[.bool true, .int .i64 x] w (fun e w' => e = .returned (.bool (cntB x)) /\ w' = w) from index34 true x w)
 go_enter Tryz.func72, Tryz.ntmps72
 go_wp2_with fail
 refine H.out.mono ?_
 rintro e w1 ⟨rfl, rfl⟩
 go_wp2_with fail
 exact bodyPost_ret (v := .bool (!(cntB x))) (by simp [results, Tryz.results72, go_sem]) rfl ⟨rfl, rfl⟩
theorem index69 (p : Option Addr) (c n : Nat) (xs : List Int) (W : World) (h : IntsIn W p xs) (hl : xs.length = n) (hn : n <= 9223372036854775807) :
  Calls Tryz.prog 69 #[.slice p n c, .func (.func 36) #[] #[]] W fun e w' => (∃ r : Int, e = .returned (.int .i64 r) /\ decide (0 <= r) = !(xs.all litB)) /\ w' = W := by
 have H := Lib.hid h
 have HL := Lib.hid hl
 clear h hl
 have n1 : (n : Int) <= 9223372036854775807 := by omega
 go_enter Tryz.func69, Tryz.ntmps69
 go_wp2_with fail
 go_loopw [8] (fun x wr => ∃ k : Nat, k <= n /\ x = .int .i64 (k : Int) /\ Hid ((xs.take k).all litB = true) /\ wr = W) (fun x _ => n - (intOf x).toNat)
 case atStart => exact ⟨0, Nat.zero_le _, rfl, Lib.hid (by simp), rfl⟩
 case round =>
  obtain ⟨k, hk, rfl, HT, rfl⟩ := hrel
  have k0 : (0 : Int) <= (k : Int) := Int.natCast_nonneg k
  by_cases hlt : k < n
  ·have k1 : (k : Int) < (n : Int) := Int.ofNat_lt.2 hlt
   have hkl : k < xs.length := by rw [HL.out]; exact hlt
   obtain ⟨b, off, rfl, hc⟩ := H.out k hkl
   have HS := Lib.hid (step_ok hlt hn)
   obtain ⟨x, hx⟩ : ∃ x, x = xs[k] := ⟨_, rfl⟩
   have HX := Lib.hid (show xs.take (k + 1) = xs.take k ++ [x] from by rw [hx, List.take_add_one, List.getElem?_eq_getElem hkl]; rfl)
   have HM := Lib.hid (show x ∈ xs from by rw [hx]; exact List.getElem_mem hkl)
   rw [<- hx] at hc
   clear hx hkl
   have HF := Lib.hid (fn36 x wr)
   obtain ⟨b0, hb0⟩ : ∃ b0, b0 = litB x := ⟨_, rfl⟩
   have HB := Lib.hid hb0
   rw [<- hb0] at HF
   clear hb0
   go_wp2_with fail
   refine HF.out.mono ?_
   rintro e w1 ⟨rfl, rfl⟩
   cases b0 with
   | false =>
    go_wp2_with fail
    refine bodyPost_ret (v := .int .i64 (k : Int)) (by simp [results, Tryz.results69, go_sem]) rfl ⟨⟨_, rfl, ?_⟩, rfl⟩
    have h1 := HM.out
    have h2 := HB.out
    have h3 : xs.all litB = false := by rw [List.all_eq_false]; exact ⟨x, h1, by rw [<- h2]; decide⟩
    rw [h3]
    simp
   | true =>
    go_wp2_with fail
    refine ⟨⟨k + 1, HS.out.1, by first | rfl | rw [HS.out.2.2], Lib.hid (by rw [HX.out, List.all_append, HT.out]; simp [HB.out.symm]), trivial⟩, ?_⟩
    first | rw [HS.out.2.2] | skip
    simp only [intOf, Int.toNat_natCast]
    exact HS.out.2.1
  ·obtain rfl : n = k := (Nat.le_antisymm hk (Nat.le_of_not_lt hlt)).symm
   clear hlt hk
   go_wp2_with fail
   refine bodyPost_ret (v := .int .i64 (-1)) (by simp [results, Tryz.results69, go_sem]) rfl ⟨⟨_, rfl, ?_⟩, rfl⟩
   have h1 := HT.out
   rw [List.take_of_length_le (by rw [HL.out]; exact Nat.le_refl _)] at h1
   rw [h1]
   rfl
theorem contains35 (p : Option Addr) (c n : Nat) (xs : List Int) (W : World) (h : IntsIn W p xs) (hl : xs.length = n) (hn : n <= 9223372036854775807) :
  Calls Tryz.prog 35 #[.slice p n c, .func (.func 36) #[] #[]] W fun e w' => e = .returned (.bool (!(xs.all litB))) /\ w' = W := by
 have H := Lib.hid (index69 p c n xs W h hl hn)
 clear h hl
 go_enter Tryz.func35, Tryz.ntmps35
 go_wp2_with fail
 refine H.out.mono ?_
 rintro e w1 ⟨⟨r, rfl, hr⟩, rfl⟩
 have HR := Lib.hid hr
 clear hr
 go_wp2_with fail
 exact bodyPost_ret (v := .bool (decide (0 <= r))) (by simp [results, Tryz.results35, go_sem]) rfl ⟨by rw [HR.out], rfl⟩
theorem index96 (p : Option Addr) (c n : Nat) (xs : List Int) (W : World) (h : IntsIn W p xs) (hl : xs.length = n) (hn : n <= 9223372036854775807) :
  Calls Tryz.prog 96 #[.slice p n c, .func (.func 72) #[] #[]] W fun e w' => (∃ r : Int, e = .returned (.int .i64 r) /\ decide (0 <= r) = !(xs.all cntB)) /\ w' = W := by
 have H := Lib.hid h
 have HL := Lib.hid hl
 clear h hl
 have n1 : (n : Int) <= 9223372036854775807 := by omega
 go_enter Tryz.func96, Tryz.ntmps96
 go_wp2_with fail
 go_loopw [8] (fun x wr => ∃ k : Nat, k <= n /\ x = .int .i64 (k : Int) /\ Hid ((xs.take k).all cntB = true) /\ wr = W) (fun x _ => n - (intOf x).toNat)
 case atStart => exact ⟨0, Nat.zero_le _, rfl, Lib.hid (by simp), rfl⟩
 case round =>
  obtain ⟨k, hk, rfl, HT, rfl⟩ := hrel
  have k0 : (0 : Int) <= (k : Int) := Int.natCast_nonneg k
  by_cases hlt : k < n
  ·have k1 : (k : Int) < (n : Int) := Int.ofNat_lt.2 hlt
   have hkl : k < xs.length := by rw [HL.out]; exact hlt
   obtain ⟨b, off, rfl, hc⟩ := H.out k hkl
   have HS := Lib.hid (step_ok hlt hn)
   obtain ⟨x, hx⟩ : ∃ x, x = xs[k] := ⟨_, rfl⟩
   have HX := Lib.hid (show xs.take (k + 1) = xs.take k ++ [x] from by rw [hx, List.take_add_one, List.getElem?_eq_getElem hkl]; rfl)
   have HM := Lib.hid (show x ∈ xs from by rw [hx]; exact List.getElem_mem hkl)
   rw [<- hx] at hc
   clear hx hkl
   have HF := Lib.hid (fn72 x wr)
   obtain ⟨b0, hb0⟩ : ∃ b0, b0 = cntB x := ⟨_, rfl⟩
   have HB := Lib.hid hb0
   rw [<- hb0] at HF
   clear hb0
   go_wp2_with fail
   refine HF.out.mono ?_
   rintro e w1 ⟨rfl, rfl⟩
   cases b0 with
   | false =>
    go_wp2_with fail
    refine bodyPost_ret (v := .int .i64 (k : Int)) (by simp [results, Tryz.results96, go_sem]) rfl ⟨⟨_, rfl, ?_⟩, rfl⟩
    have h1 := HM.out
    have h2 := HB.out
    have h3 : xs.all cntB = false := by rw [List.all_eq_false]; exact ⟨x, h1, by rw [<- h2]; decide⟩
    rw [h3]
    simp
   | true =>
    go_wp2_with fail
    refine ⟨⟨k + 1, HS.out.1, by first | rfl | rw [HS.out.2.2], Lib.hid (by rw [HX.out, List.all_append, HT.out]; simp [HB.out.symm]), trivial⟩, ?_⟩
    first | rw [HS.out.2.2] | skip
    simp only [intOf, Int.toNat_natCast]
    exact HS.out.2.1
  ·obtain rfl : n = k := (Nat.le_antisymm hk (Nat.le_of_not_lt hlt)).symm
   clear hlt hk
   go_wp2_with fail
   refine bodyPost_ret (v := .int .i64 (-1)) (by simp [results, Tryz.results96, go_sem]) rfl ⟨⟨_, rfl, ?_⟩, rfl⟩
   have h1 := HT.out
   rw [List.take_of_length_le (by rw [HL.out]; exact Nat.le_refl _)] at h1
   rw [h1]
   rfl
theorem contains71 (p : Option Addr) (c n : Nat) (xs : List Int) (W : World) (h : IntsIn W p xs) (hl : xs.length = n) (hn : n <= 9223372036854775807) :
  Calls Tryz.prog 71 #[.slice p n c, .func (.func 72) #[] #[]] W fun e w' => e = .returned (.bool (!(xs.all cntB))) /\ w' = W := by
 have H := Lib.hid (index96 p c n xs W h hl hn)
 clear h hl
 go_enter Tryz.func71, Tryz.ntmps71
 go_wp2_with fail
 refine H.out.mono ?_
 rintro e w1 ⟨⟨r, rfl, hr⟩, rfl⟩
 have HR := Lib.hid hr
 clear hr
 go_wp2_with fail
 exact bodyPost_ret (v := .bool (decide (0 <= r))) (by simp [results, Tryz.results71, go_sem]) rfl ⟨by rw [HR.out], rfl⟩
theorem same74 (p : Option Addr) (c n : Nat) (xs : List Int) (q : Option Addr) (d m : Nat) (ys : List Int) (W : World) (h1 : IntsIn W p xs) (h2 : IntsIn W q ys) (hl : xs.length = n) (hm : ys.length = m) (hn : n <= 9223372036854775807) (hk : m <= 9223372036854775807) :
  Calls Tryz.prog 74 #[.slice p n c, .slice q m d] W fun e w' => e = .returned (.bool (decide (xs = ys))) /\ ∃ nd, w' = W.drewN nd := by
 by_cases hnm : n = m
 case neg =>
  have hne : decide (xs = ys) = false := decide_eq_false (fun e => hnm (by rw [<- hl, <- hm, e]))
  have t1 : ((n : Int) == (m : Int)) = false := by simp; omega
  rw [hne]
  clear h1 h2 hl hm hne
  go_enter Tryz.func74, Tryz.ntmps74
  go_wp2_with fail
  exact bodyPost_ret (v := .bool false) (by simp [results, Tryz.results74, go_sem]) rfl ⟨rfl, 0, rfl⟩
 subst hnm
 have H1 := Lib.hid h1
 have H2 := Lib.hid h2
 have HL := Lib.hid hl
 have HM := Lib.hid hm
 obtain ⟨b0, hb0⟩ : ∃ b0, b0 = decide (xs = ys) := ⟨_, rfl⟩
 have HB := Lib.hid hb0
 rw [<- hb0]
 clear h1 h2 hl hm hb0 hk
 have n1 : (n : Int) <= 9223372036854775807 := by omega
 go_enter Tryz.func74, Tryz.ntmps74
 go_wp2_with fail
 go_loopw [5] (fun x wr => ∃ (k nd : Nat), k <= n /\ x = .int .i64 (k : Int) /\ Hid (xs.take k = ys.take k) /\ wr = W.drewN nd) (fun x _ => n - (intOf x).toNat)
 case atStart => exact ⟨0, 0, Nat.zero_le _, rfl, Lib.hid (by simp), rfl⟩
 case round =>
  obtain ⟨k, nd, hk, rfl, HT, hw⟩ := hrel
  have HW := Lib.hid hw
  have k0 : (0 : Int) <= (k : Int) := Int.natCast_nonneg k
  by_cases hlt : k < n
  ·have k1 : (k : Int) < (n : Int) := Int.ofNat_lt.2 hlt
   have hk1 : k < xs.length := by rw [HL.out]; exact hlt
   have hk2 : k < ys.length := by rw [HM.out]; exact hlt
   obtain ⟨b, off, rfl, hc⟩ := H1.out k hk1
   obtain ⟨b2, off2, rfl, hc2⟩ := H2.out k hk2
   have hbw : Below W.heap.size W wr := by rw [hw]; exact below_drewN W nd
   replace hc := cell_later hbw hc
   replace hc2 := cell_later hbw hc2
   have HS := Lib.hid (step_ok hlt hn)
   obtain ⟨x, hx⟩ : ∃ x, x = xs[k] := ⟨_, rfl⟩
   obtain ⟨y, hy⟩ : ∃ y, y = ys[k] := ⟨_, rfl⟩
   have HX := Lib.hid (show xs.take (k + 1) = xs.take k ++ [x] from by rw [hx, List.take_add_one, List.getElem?_eq_getElem hk1]; rfl)
   have HY := Lib.hid (show ys.take (k + 1) = ys.take k ++ [y] from by rw [hy, List.take_add_one, List.getElem?_eq_getElem hk2]; rfl)
   rw [<- hx] at hc
   rw [<- hy] at hc2
   clear hx hy hk1 hk2 hw hbw
   by_cases hxy : x = y
   ·subst hxy
    have t2 : (x == x) = true := by simp
    go_wp2_with fail
    try (go_quiet (fail))
    go_wp2_with fail
    refine ⟨⟨k + 1, nd + nq, HS.out.1, by first | rfl | rw [HS.out.2.2], Lib.hid (by rw [HX.out, HY.out, HT.out]), by rw [HW.out]; exact World.drewN_drewN _ _ _⟩, ?_⟩
    first | rw [HS.out.2.2] | skip
    simp only [intOf, Int.toNat_natCast]
    exact HS.out.2.1
   ·have t2 : (x == y) = false := by simp [hxy]
    have HN := Lib.hid hxy
    clear hxy
    go_wp2_with fail
    try (go_quiet (fail))
    go_wp2_with fail
    refine bodyPost_ret (v := .bool false) (by simp [results, Tryz.results74, go_sem]) rfl ⟨?_, nd + nq, by rw [HW.out]; exact World.drewN_drewN _ _ _⟩
    have h9 : b0 = false := by
     rw [HB.out]
     refine decide_eq_false (fun e => HN.out ?_)
     have h1 := HX.out
     have h2 := HY.out
     rw [e, h2, <- HT.out] at h1
     have := List.append_cancel_left h1
     simpa using this.symm
    rw [h9]
  ·obtain rfl : n = k := (Nat.le_antisymm hk (Nat.le_of_not_lt hlt)).symm
   clear hlt hk hw
   go_wp2_with fail
   refine bodyPost_ret (v := .bool true) (by simp [results, Tryz.results74, go_sem]) rfl ⟨?_, nd, HW.out⟩
   have h1 := HT.out
   rw [List.take_of_length_le (by rw [HL.out]; exact Nat.le_refl _), List.take_of_length_le (by rw [HM.out]; exact Nat.le_refl _)] at h1
   have h9 : b0 = true := by rw [HB.out]; exact decide_eq_true h1
   rw [h9]
theorem same47 (p : Option Addr) (c n : Nat) (xs : List Int) (q : Option Addr) (d m : Nat) (ys : List Int) (W : World) (h1 : IntsIn W p xs) (h2 : IntsIn W q ys) (hl : xs.length = n) (hm : ys.length = m) (hn : n <= 9223372036854775807) (hk : m <= 9223372036854775807) :
  Calls Tryz.prog 47 #[.slice p n c, .slice q m d] W fun e w' => e = .returned (.bool (decide (xs = ys))) /\ ∃ nd, w' = W.drewN nd := by
 by_cases hnm : n = m
 case neg =>
  have hne : decide (xs = ys) = false := decide_eq_false (fun e => hnm (by rw [<- hl, <- hm, e]))
  have t1 : ((n : Int) == (m : Int)) = false := by simp; omega
  rw [hne]
  clear h1 h2 hl hm hne
  go_enter Tryz.func47, Tryz.ntmps47
  go_wp2_with fail
  exact bodyPost_ret (v := .bool false) (by simp [results, Tryz.results47, go_sem]) rfl ⟨rfl, 0, rfl⟩
 subst hnm
 have H1 := Lib.hid h1
 have H2 := Lib.hid h2
 have HL := Lib.hid hl
 have HM := Lib.hid hm
 obtain ⟨b0, hb0⟩ : ∃ b0, b0 = decide (xs = ys) := ⟨_, rfl⟩
 have HB := Lib.hid hb0
 rw [<- hb0]
 clear h1 h2 hl hm hb0 hk
 have n1 : (n : Int) <= 9223372036854775807 := by omega
 go_enter Tryz.func47, Tryz.ntmps47
 go_wp2_with fail
 go_loopw [5] (fun x wr => ∃ (k nd : Nat), k <= n /\ x = .int .i64 (k : Int) /\ Hid (xs.take k = ys.take k) /\ wr = W.drewN nd) (fun x _ => n - (intOf x).toNat)
 case atStart => exact ⟨0, 0, Nat.zero_le _, rfl, Lib.hid (by simp), rfl⟩
 case round =>
  obtain ⟨k, nd, hk, rfl, HT, hw⟩ := hrel
  have HW := Lib.hid hw
  have k0 : (0 : Int) <= (k : Int) := Int.natCast_nonneg k
  by_cases hlt : k < n
  ·have k1 : (k : Int) < (n : Int) := Int.ofNat_lt.2 hlt
   have hk1 : k < xs.length := by rw [HL.out]; exact hlt
   have hk2 : k < ys.length := by rw [HM.out]; exact hlt
   obtain ⟨b, off, rfl, hc⟩ := H1.out k hk1
   obtain ⟨b2, off2, rfl, hc2⟩ := H2.out k hk2
   have hbw : Below W.heap.size W wr := by rw [hw]; exact below_drewN W nd
   replace hc := cell_later hbw hc
   replace hc2 := cell_later hbw hc2
   have HS := Lib.hid (step_ok hlt hn)
   obtain ⟨x, hx⟩ : ∃ x, x = xs[k] := ⟨_, rfl⟩
   obtain ⟨y, hy⟩ : ∃ y, y = ys[k] := ⟨_, rfl⟩
   have HX := Lib.hid (show xs.take (k + 1) = xs.take k ++ [x] from by rw [hx, List.take_add_one, List.getElem?_eq_getElem hk1]; rfl)
   have HY := Lib.hid (show ys.take (k + 1) = ys.take k ++ [y] from by rw [hy, List.take_add_one, List.getElem?_eq_getElem hk2]; rfl)
   rw [<- hx] at hc
   rw [<- hy] at hc2
   clear hx hy hk1 hk2 hw hbw
   by_cases hxy : x = y
   ·subst hxy
    have t2 : (x == x) = true := by simp
    go_wp2_with fail
    try (go_quiet (fail))
    go_wp2_with fail
    refine ⟨⟨k + 1, nd + nq, HS.out.1, by first | rfl | rw [HS.out.2.2], Lib.hid (by rw [HX.out, HY.out, HT.out]), by rw [HW.out]; exact World.drewN_drewN _ _ _⟩, ?_⟩
    first | rw [HS.out.2.2] | skip
    simp only [intOf, Int.toNat_natCast]
    exact HS.out.2.1
   ·have t2 : (x == y) = false := by simp [hxy]
    have HN := Lib.hid hxy
    clear hxy
    go_wp2_with fail
    try (go_quiet (fail))
    go_wp2_with fail
    refine bodyPost_ret (v := .bool false) (by simp [results, Tryz.results47, go_sem]) rfl ⟨?_, nd + nq, by rw [HW.out]; exact World.drewN_drewN _ _ _⟩
    have h9 : b0 = false := by
     rw [HB.out]
     refine decide_eq_false (fun e => HN.out ?_)
     have h1 := HX.out
     have h2 := HY.out
     rw [e, h2, <- HT.out] at h1
     have := List.append_cancel_left h1
     simpa using this.symm
    rw [h9]
  ·obtain rfl : n = k := (Nat.le_antisymm hk (Nat.le_of_not_lt hlt)).symm
   clear hlt hk hw
   go_wp2_with fail
   refine bodyPost_ret (v := .bool true) (by simp [results, Tryz.results47, go_sem]) rfl ⟨?_, nd, HW.out⟩
   have h1 := HT.out
   rw [List.take_of_length_le (by rw [HL.out]; exact Nat.le_refl _), List.take_of_length_le (by rw [HM.out]; exact Nat.le_refl _)] at h1
   have h9 : b0 = true := by rw [HB.out]; exact decide_eq_true h1
   rw [h9]
theorem link48 (x : Lk) (q : Option Addr) (c : Nat) (y : Lk) (q2 : Option Addr) (c2 : Nat) (W : World) (h1 : IntsIn W q x.l) (h2 : IntsIn W q2 y.l) (hn : x.l.length <= 9223372036854775807) (hm : y.l.length <= 9223372036854775807) :
  Calls Tryz.prog 48 #[lkV x q c, lkV y q2 c2] W fun e w' => e = .returned (.bool (decide (x = y))) /\ Below W.heap.size W w' := by
 obtain ⟨k, lit, a, b, i, j, l⟩ := x
 obtain ⟨k2, lit2, a2, b2, i2, j2, l2⟩ := y
 simp only at h1 h2 hn hm
 simp only [lkV]
 by_cases hk : k = k2
 case neg =>
  have e9 : (k == k2) = false := by simp [hk]
  have hne : decide ((⟨k, lit, a, b, i, j, l⟩ : Lk) = ⟨k2, lit2, a2, b2, i2, j2, l2⟩) = false := decide_eq_false (fun e => hk (by injection e))
  rw [hne]
  clear h1 h2 hn hm hne hk
  go_enter Tryz.func48, Tryz.ntmps48
  go_wp2_with fail
  exact bodyPost_ret (v := .bool false) (by simp [results, Tryz.results48, go_sem]) rfl ⟨rfl, by repeat (first | exact Below.refl _ _ | refine Below.alloc ?_ (by simp) _)⟩
 subst hk
 have ek : (k == k) = true := by simp
 by_cases hlit : lit = lit2
 case neg =>
  have e9 : (lit == lit2) = false := by simp [hlit]
  have hne : decide ((⟨k, lit, a, b, i, j, l⟩ : Lk) = ⟨k, lit2, a2, b2, i2, j2, l2⟩) = false := decide_eq_false (fun e => hlit (by injection e))
  rw [hne]
  clear h1 h2 hn hm hne hlit
  go_enter Tryz.func48, Tryz.ntmps48
  go_wp2_with fail
  exact bodyPost_ret (v := .bool false) (by simp [results, Tryz.results48, go_sem]) rfl ⟨rfl, by repeat (first | exact Below.refl _ _ | refine Below.alloc ?_ (by simp) _)⟩
 subst hlit
 have elit : (lit == lit) = true := by simp
 by_cases ha : a = a2
 case neg =>
  have e9 : (a == a2) = false := by simp [ha]
  have hne : decide ((⟨k, lit, a, b, i, j, l⟩ : Lk) = ⟨k, lit, a2, b2, i2, j2, l2⟩) = false := decide_eq_false (fun e => ha (by injection e))
  rw [hne]
  clear h1 h2 hn hm hne ha
  go_enter Tryz.func48, Tryz.ntmps48
  go_wp2_with fail
  exact bodyPost_ret (v := .bool false) (by simp [results, Tryz.results48, go_sem]) rfl ⟨rfl, by repeat (first | exact Below.refl _ _ | refine Below.alloc ?_ (by simp) _)⟩
 subst ha
 have ea : (a == a) = true := by simp
 by_cases hb : b = b2
 case neg =>
  have e9 : (b == b2) = false := by simp [hb]
  have hne : decide ((⟨k, lit, a, b, i, j, l⟩ : Lk) = ⟨k, lit, a, b2, i2, j2, l2⟩) = false := decide_eq_false (fun e => hb (by injection e))
  rw [hne]
  clear h1 h2 hn hm hne hb
  go_enter Tryz.func48, Tryz.ntmps48
  go_wp2_with fail
  exact bodyPost_ret (v := .bool false) (by simp [results, Tryz.results48, go_sem]) rfl ⟨rfl, by repeat (first | exact Below.refl _ _ | refine Below.alloc ?_ (by simp) _)⟩
 subst hb
 have eb : (b == b) = true := by simp
 by_cases hi : i = i2
 case neg =>
  have e9 : (i == i2) = false := by simp [hi]
  have hne : decide ((⟨k, lit, a, b, i, j, l⟩ : Lk) = ⟨k, lit, a, b, i2, j2, l2⟩) = false := decide_eq_false (fun e => hi (by injection e))
  rw [hne]
  clear h1 h2 hn hm hne hi
  go_enter Tryz.func48, Tryz.ntmps48
  go_wp2_with fail
  exact bodyPost_ret (v := .bool false) (by simp [results, Tryz.results48, go_sem]) rfl ⟨rfl, by repeat (first | exact Below.refl _ _ | refine Below.alloc ?_ (by simp) _)⟩
 subst hi
 have ei : (i == i) = true := by simp
 by_cases hj : j = j2
 case neg =>
  have e9 : (j == j2) = false := by simp [hj]
  have hne : decide ((⟨k, lit, a, b, i, j, l⟩ : Lk) = ⟨k, lit, a, b, i, j2, l2⟩) = false := decide_eq_false (fun e => hj (by injection e))
  rw [hne]
  clear h1 h2 hn hm hne hj
  go_enter Tryz.func48, Tryz.ntmps48
  go_wp2_with fail
  exact bodyPost_ret (v := .bool false) (by simp [results, Tryz.results48, go_sem]) rfl ⟨rfl, by repeat (first | exact Below.refl _ _ | refine Below.alloc ?_ (by simp) _)⟩
 subst hj
 have ej : (j == j) = true := by simp
 have hd : decide ((⟨k, lit, a, b, i, j, l⟩ : Lk) = ⟨k, lit, a, b, i, j, l2⟩) = decide (l = l2) := by
  by_cases h : l = l2
  ·subst h; simp
  ·rw [decide_eq_false h]; exact decide_eq_false (fun e => h (by injection e))
 rw [hd]
 clear hd
 have HC := Lib.hid (fun (w : World) (hb : Below W.heap.size W w) => same74 q c l.length l q2 c2 l2.length l2 w (h1.later hb) (h2.later hb) rfl rfl hn hm)
 have HW := Lib.hid (show Below W.heap.size W ((W.alloc (.cells #[.int .u8 k, .int .i64 lit, .int .i64 a, .int .i64 b, .int .i64 i, .int .i64 j, .slice q l.length c] 64)).alloc (.cells #[.int .u8 k, .int .i64 lit, .int .i64 a, .int .i64 b, .int .i64 i, .int .i64 j, .slice q2 l2.length c2] 64)) from by repeat (first | exact Below.refl _ _ | refine Below.alloc ?_ (by simp) _))
 clear h1 h2 hn hm
 obtain ⟨b0, hb0⟩ : ∃ b0, b0 = decide (l = l2) := ⟨_, rfl⟩
 rw [<- hb0] at HC ⊢
 clear hb0
 go_enter Tryz.func48, Tryz.ntmps48
 go_wp2_with fail
 refine (HC.out _ HW.out).mono ?_
 rintro e w1 ⟨rfl, nd, rfl⟩
 go_wp2_with fail
 exact bodyPost_ret (v := .bool b0) (by simp [results, Tryz.results48, go_sem]) rfl ⟨rfl, bdd HW.out⟩
end Go.Proofs.YtookoagcmejkpaaGreatDoor
namespace Go.Proofs
open Go.Shelf
def Tryz.laysM173_ren : Go.Shelf.Ren := ⟨fun | 173 => 110 | 246 => 120 | 283 => 126 | 284 => 127 | 285 => 128 | 286 => 129 | 129 => 137 | 317 => 136 | 318 => 138 | 319 => 139 | 320 => 140 | 337 => 150 | 338 => 151 | n => n, fun | 2 => 2 | 3 => 3 | 9 => 9 | 4 => 4 | 171 => 172 | 0 => 0 | 53 => 173 | 37 => 57 | 5 => 5 | 173 => 176 | 212 => 188 | 51 => 189 | 20 => 20 | 213 => 190 | 46 => 191 | 232 => 205 | 233 => 206 | n => n, fun | 17 => 1 | 18 => 4 | 19 => 5 | n => n⟩
theorem Tryz.laysM173 : Go.Proofs.LaysM.n173 Tryz.prog Tryz.laysM173_ren := {
 mixed := by kernel_rfl
 f129 := Tryz.func137.trans (congrArg some (by kernel_rfl))
 f173 := Tryz.func110.trans (congrArg some (by kernel_rfl))
 f246 := Tryz.func120.trans (congrArg some (by kernel_rfl))
 f283 := Tryz.func126.trans (congrArg some (by kernel_rfl))
 f284 := Tryz.func127.trans (congrArg some (by kernel_rfl))
 f285 := Tryz.func128.trans (congrArg some (by kernel_rfl))
 f286 := Tryz.func129.trans (congrArg some (by kernel_rfl))
 f317 := Tryz.func136.trans (congrArg some (by kernel_rfl))
 f318 := Tryz.func138.trans (congrArg some (by kernel_rfl))
 f319 := Tryz.func139.trans (congrArg some (by kernel_rfl))
 f320 := Tryz.func140.trans (congrArg some (by kernel_rfl))
 f337 := Tryz.func150.trans (congrArg some (by kernel_rfl))
 f338 := Tryz.func151.trans (congrArg some (by kernel_rfl))
 t0 := Tryz.underlying0
 a0 := Tryz.isAgg0
 z0 := Tryz.sizeOf0
 v0 := Tryz.zeroValue0
 t2 := Tryz.underlying2
 a2 := Tryz.isAgg2
 z2 := Tryz.sizeOf2
 v2 := Tryz.zeroValue2
 t3 := Tryz.underlying3
 a3 := Tryz.isAgg3
 z3 := Tryz.sizeOf3
 v3 := Tryz.zeroValue3
 t4 := Tryz.underlying4
 a4 := Tryz.isAgg4
 z4 := Tryz.sizeOf4
 v4 := Tryz.zeroValue4
 t5 := Tryz.underlying5
 a5 := Tryz.isAgg5
 z5 := Tryz.sizeOf5
 v5 := Tryz.zeroValue5
 t9 := Tryz.underlying9
 a9 := Tryz.isAgg9
 z9 := Tryz.sizeOf9
 v9 := Tryz.zeroValue9
 t20 := Tryz.underlying20
 a20 := Tryz.isAgg20
 z20 := Tryz.sizeOf20
 v20 := Tryz.zeroValue20
 t37 := Tryz.underlying57
 a37 := Tryz.isAgg57
 z37 := Tryz.sizeOf57
 v37 := Tryz.zeroValue57
 t46 := Tryz.underlying191
 a46 := Tryz.isAgg191
 z46 := Tryz.sizeOf191
 v46 := Tryz.zeroValue191
 t51 := Tryz.underlying189
 a51 := Tryz.isAgg189
 z51 := Tryz.sizeOf189
 v51 := Tryz.zeroValue189
 t53 := Tryz.underlying173
 a53 := Tryz.isAgg173
 z53 := Tryz.sizeOf173
 v53 := Tryz.zeroValue173
 t171 := Tryz.underlying172
 a171 := Tryz.isAgg172
 z171 := Tryz.sizeOf172
 v171 := Tryz.zeroValue172
 t173 := Tryz.underlying176
 a173 := Tryz.isAgg176
 z173 := Tryz.sizeOf176
 v173 := Tryz.zeroValue176
 t212 := Tryz.underlying188
 a212 := Tryz.isAgg188
 z212 := Tryz.sizeOf188
 v212 := Tryz.zeroValue188
 t213 := Tryz.underlying190
 a213 := Tryz.isAgg190
 z213 := Tryz.sizeOf190
 t232 := Tryz.underlying205
 a232 := Tryz.isAgg205
 z232 := Tryz.sizeOf205
 v232 := Tryz.zeroValue205
 t233 := Tryz.underlying206
 a233 := Tryz.isAgg206
 z233 := Tryz.sizeOf206
 v233 := Tryz.zeroValue206
 g17 := by kernel_rfl
 g18 := by kernel_rfl
 g19 := by kernel_rfl
 i0 := by kernel_rfl
 i2 := by kernel_rfl
 i3 := by kernel_rfl
 i4 := by kernel_rfl
 i5 := by kernel_rfl
 i9 := by kernel_rfl
 i20 := by kernel_rfl
 i37 := by kernel_rfl
 i46 := by kernel_rfl
 i51 := by kernel_rfl
 i53 := by kernel_rfl
 i171 := by kernel_rfl
 i173 := by kernel_rfl
 i212 := by kernel_rfl
 i232 := by kernel_rfl
 i233 := by kernel_rfl
 m17 := by kernel_rfl
 m18 := by kernel_rfl
 m19 := by kernel_rfl }
open Go.RowKit Go.Sort Go.Lib in
theorem Tryz.strconv_FormatInt_10 (n : Int) (h0 : -9223372036854775808 <= n) (h1 : n <= 9223372036854775807) (w : World) (htab : Lib.TabIs Tryz.prog w "internal/strconv.uint64pow10" .u64 Lib.pow10Tab) :
  Calls Tryz.prog 110 #[.int .i64 n, .int .i64 10] w fun e w' => e = .returned (.string ⟨(Lib.itoa n).toArray⟩) /\ ∃ k os, w' = grow (w.drewN k) os := Any.strconv_FormatInt_10 Tryz.laysM173 n h0 h1 w htab
def Tryz.lays156_ren : Go.Shelf.Ren := ⟨fun | 156 => 87 | 165 => 104 | 166 => 105 | 169 => 106 | 240 => 117 | 241 => 118 | 276 => 124 | 277 => 125 | n => n, fun | 31 => 95 | 9 => 9 | 3 => 3 | 4 => 4 | 0 => 0 | 20 => 20 | 72 => 151 | 76 => 155 | 70 => 149 | 37 => 57 | 75 => 154 | 127 => 163 | 164 => 168 | 5 => 5 | 80 => 157 | n => n, fun | n => n⟩
theorem Tryz.lays156 : Go.Proofs.Lays.n156 Tryz.prog Tryz.lays156_ren := {
 mixed := by kernel_rfl
 f156 := Tryz.func87.trans (congrArg some (by kernel_rfl))
 f165 := Tryz.func104.trans (congrArg some (by kernel_rfl))
 f166 := Tryz.func105.trans (congrArg some (by kernel_rfl))
 f169 := Tryz.func106.trans (congrArg some (by kernel_rfl))
 f240 := Tryz.func117.trans (congrArg some (by kernel_rfl))
 f241 := Tryz.func118.trans (congrArg some (by kernel_rfl))
 f276 := Tryz.func124.trans (congrArg some (by kernel_rfl))
 f277 := Tryz.func125.trans (congrArg some (by kernel_rfl))
 t0 := Tryz.underlying0
 a0 := Tryz.isAgg0
 z0 := Tryz.sizeOf0
 v0 := Tryz.zeroValue0
 t3 := Tryz.underlying3
 a3 := Tryz.isAgg3
 z3 := Tryz.sizeOf3
 v3 := Tryz.zeroValue3
 t4 := Tryz.underlying4
 a4 := Tryz.isAgg4
 z4 := Tryz.sizeOf4
 v4 := Tryz.zeroValue4
 t9 := Tryz.underlying9
 a9 := Tryz.isAgg9
 z9 := Tryz.sizeOf9
 v9 := Tryz.zeroValue9
 t20 := Tryz.underlying20
 a20 := Tryz.isAgg20
 z20 := Tryz.sizeOf20
 v20 := Tryz.zeroValue20
 t31 := Tryz.underlying95
 a31 := Tryz.isAgg95
 z31 := Tryz.sizeOf95
 v31 := Tryz.zeroValue95
 t37 := Tryz.underlying57
 a37 := Tryz.isAgg57
 z37 := Tryz.sizeOf57
 v37 := Tryz.zeroValue57
 t70 := Tryz.underlying149
 a70 := Tryz.isAgg149
 z70 := Tryz.sizeOf149
 v70 := Tryz.zeroValue149
 t72 := Tryz.underlying151
 a72 := Tryz.isAgg151
 z72 := Tryz.sizeOf151
 v72 := Tryz.zeroValue151
 t75 := Tryz.underlying154
 a75 := Tryz.isAgg154
 z75 := Tryz.sizeOf154
 v75 := Tryz.zeroValue154
 t76 := Tryz.underlying155
 a76 := Tryz.isAgg155
 z76 := Tryz.sizeOf155
 v76 := Tryz.zeroValue155
 t127 := Tryz.underlying163
 a127 := Tryz.isAgg163
 z127 := Tryz.sizeOf163
 v127 := Tryz.zeroValue163
 t164 := Tryz.underlying168
 a164 := Tryz.isAgg168
 z164 := Tryz.sizeOf168
 v164 := Tryz.zeroValue168 }
theorem Tryz.Builder_Extra_156 : Builder.Extra Tryz.prog Tryz.lays156_ren := {
 sizeBuilder := by kernel_rfl
 liesBuilder := by kernel_rfl
 t5 := Tryz.underlying5
 a5 := Tryz.isAgg5
 z5 := Tryz.sizeOf5
 v5 := Tryz.zeroValue5
 infoByte := by kernel_rfl
 cellsByte := by kernel_rfl
 sizeByte := by kernel_rfl
 neB5 := by decide }
open Go.RowKit in
theorem Tryz.strings_Join (bk o c : Nat) (xs : List ByteArray) (sep : ByteArray) (w : World) (hcells : ∀ (j : Nat) x, xs[j]? = some x -> w.cell? ⟨bk, o + j, none⟩ = some (.string x)) (hbk : bk < w.heap.size) (hN : xs.length <= 140737488355328) (hcap : xs.length <= c) (hlen : (Lib.join (xs.map (·.data.toList)) sep.data.toList).length <= 140737488355328) :
  Calls Tryz.prog 87 #[.slice (some ⟨bk, o, none⟩) xs.length c, .string sep] w fun e w' => e = .returned (.string ⟨(Lib.join (xs.map (·.data.toList)) sep.data.toList).toArray⟩) /\ Below w.heap.size w w' := Any.strings_Join Tryz.lays156 Tryz.Builder_Extra_156 bk o c xs sep w hcells hbk hN hcap hlen
def Tryz.lays217_ren : Go.Shelf.Ren := ⟨fun | 217 => 152 | 266 => 160 | n => n, fun | 9 => 9 | 5 => 5 | 3 => 3 | n => n, fun | n => n⟩
theorem Tryz.lays217 : Go.Proofs.Lays.n217 Tryz.prog Tryz.lays217_ren := {
 mixed := by kernel_rfl
 f217 := Tryz.func152.trans (congrArg some (by kernel_rfl))
 f266 := Tryz.func160.trans (congrArg some (by kernel_rfl))
 t3 := Tryz.underlying3
 a3 := Tryz.isAgg3
 z3 := Tryz.sizeOf3
 v3 := Tryz.zeroValue3
 t5 := Tryz.underlying5
 a5 := Tryz.isAgg5
 z5 := Tryz.sizeOf5
 v5 := Tryz.zeroValue5
 t9 := Tryz.underlying9
 a9 := Tryz.isAgg9
 z9 := Tryz.sizeOf9
 v9 := Tryz.zeroValue9 }
open Go.RowKit Go.Lib in
theorem Tryz.stringslite_IndexByte (s : ByteArray) (c : Int) (w : World) :
  Calls Tryz.prog 152 #[.string s, .int .u8 c] w fun e w' => e = .returned (.int .i64 (Lib.indexByte s.data.toList c.toNat.toUInt8)) /\ w' = w := Any.stringslite_IndexByte Tryz.lays217 s c w
end Go.Proofs
namespace Go.Proofs.YtookoagcmejkpaaGreatDoor
set_option maxRecDepth 100000
open Go Go.RowKit
inductive Fo where
 | nil : Fo
 | cons (l : Bool) (k : Int) (s : ByteArray) (a : Int) (kids rest : Fo) : Fo
namespace Fo
def len : Fo -> Nat
 | .nil => 0
 | .cons _ _ _ _ _ r => r.len + 1
def size : Fo -> Nat
 | .nil => 0
 | .cons _ _ _ _ x r => x.size + r.size + 1
def snoc : Fo -> Bool -> Int -> ByteArray -> Int -> Fo -> Fo
 | .nil, l, k, s, a, x => .cons l k s a x .nil
 | .cons l0 k0 s0 a0 x0 r, l, k, s, a, x => .cons l0 k0 s0 a0 x0 (r.snoc l k s a x)
def app : Fo -> Fo -> Fo
 | .nil, g => g
 | .cons l k s a x r, g => .cons l k s a x (r.app g)
theorem len_snoc (l : Bool) (k : Int) (s : ByteArray) (a : Int) (x : Fo) : ∀ f : Fo, (f.snoc l k s a x).len = f.len + 1
 | .nil => rfl
 | .cons _ _ _ _ _ r => by simp only [snoc, len, len_snoc l k s a x r]
theorem app_nil : ∀ f : Fo, f.app .nil = f
 | .nil => rfl
 | .cons _ _ _ _ _ r => by simp only [app, app_nil r]
theorem snoc_app (l : Bool) (k : Int) (s : ByteArray) (a : Int) (x g : Fo) : ∀ f : Fo, (f.snoc l k s a x).app g = f.app (.cons l k s a x g)
 | .nil => rfl
 | .cons _ _ _ _ _ r => by simp only [app, snoc, snoc_app l k s a x g r]
end Fo
def sameF : Fo -> Fo -> Bool
 | .nil, .nil => true
 | .cons l k s _ x r, .cons l' k' s' _ x' r' => (decide (l = l') && decide (k = k') && decide (s = s') && decide (x.len = x'.len)) && sameF x x' && sameF r r'
 | _, _ => false
def sameT (l : Bool) (k : Int) (s : ByteArray) (x : Fo) (l' : Bool) (k' : Int) (s' : ByteArray) (x' : Fo) : Bool := (decide (l = l') && decide (k = k') && decide (s = s') && decide (x.len = x'.len)) && sameF x x'
def FoIn (W : World) (F : Nat -> Prop) : Fo -> Option Addr -> Prop
 | .nil, _ => True
 | .cons l k s a x r, p => ∃ b off, p = some ⟨b, off, none⟩ /\ F b /\ W.cell? ⟨b, off, none⟩ = some (.bool l) /\ W.cell? ⟨b, off + 1, none⟩ = some (.int .u8 k) /\ W.cell? ⟨b, off + 2, none⟩ = some (.string s) /\ W.cell? ⟨b, off + 3, none⟩ = some (.int .i64 a) ∧
  (∃ q c, W.cell? ⟨b, off + 4, none⟩ = some (.slice q x.len c) /\ x.len <= c /\ x.len <= 281474976710656 /\ FoIn W F x q) /\ FoIn W F r (some ⟨b, off + 5, none⟩)
theorem FoIn.move {W W' : World} {F F' : Nat -> Prop} (hc : ∀ b o v, F b -> W.cell? ⟨b, o, none⟩ = some v -> W'.cell? ⟨b, o, none⟩ = some v /\ F' b) : ∀ (f : Fo) (p : Option Addr), FoIn W F f p -> FoIn W' F' f p
 | .nil, _, _ => trivial
 | .cons l k s a x r, p, h => by
  obtain ⟨b, off, e, hF, h0, h1, h2, h3, ⟨q, c, h4, hn, hm, hx⟩, hr⟩ := h
  exact ⟨b, off, e, (hc b _ _ hF h0).2, (hc b _ _ hF h0).1, (hc b _ _ hF h1).1, (hc b _ _ hF h2).1, (hc b _ _ hF h3).1, ⟨q, c, (hc b _ _ hF h4).1, hn, hm, FoIn.move hc x q hx⟩, FoIn.move hc r _ hr⟩
theorem FoIn.later {W W' : World} {F : Nat -> Prop} {f : Fo} {p : Option Addr} (h : FoIn W F f p) (hb : Below W.heap.size W W') : FoIn W' F f p :=
 FoIn.move (fun _ _ _ hF hv => ⟨cell_later hb hv, hF⟩) f p h
theorem FoIn.only {W W' : World} {F T : Nat -> Prop} {f : Fo} {p : Option Addr} (h : FoIn W F f p) (ho : Only T W W') (hn : ∀ b, F b -> ¬ T b) : FoIn W' F f p :=
 FoIn.move (fun _ _ _ hF hv => ⟨ho.cell hv (hn _ hF), hF⟩) f p h
theorem FoIn.mono {W : World} {F F' : Nat -> Prop} {f : Fo} {p : Option Addr} (h : FoIn W F f p) (hn : ∀ b, F b -> b < W.heap.size -> F' b) : FoIn W F' f p :=
 FoIn.move (fun b _ _ hF hv => ⟨hv, hn b hF (World.block_lt_of_cell? W _ hv)⟩) f p h
def trV (l : Bool) (k : Int) (s : ByteArray) (a : Int) (q : Option Addr) (n c : Nat) : Value := .agg #[.bool l, .int .u8 k, .string s, .int .i64 a, .slice q n c]
def pl (q : Option Addr) (i : Nat) : Option Addr := q.map fun a => ⟨a.block, a.off + i * 5, none⟩
theorem pl_zero {W : World} {F : Nat -> Prop} {f : Fo} {q : Option Addr} (h : FoIn W F f q) : FoIn W F f (pl q 0) := by
 cases f with
 | nil => trivial
 | cons l k s a x r =>
  obtain ⟨b, off, rfl, hr⟩ := h
  exact ⟨b, off, by simp [pl], hr⟩
theorem FoIn.head {W : World} {F : Nat -> Prop} {l : Bool} {k : Int} {s : ByteArray} {a : Int} {x r : Fo} {b off i : Nat} (h : FoIn W F (.cons l k s a x r) (pl (some ⟨b, off, none⟩) i)) :
  F b /\ W.cell? ⟨b, off + i * 5, none⟩ = some (.bool l) /\ W.cell? ⟨b, off + i * 5 + 1, none⟩ = some (.int .u8 k) /\ W.cell? ⟨b, off + i * 5 + 2, none⟩ = some (.string s) /\ W.cell? ⟨b, off + i * 5 + 3, none⟩ = some (.int .i64 a) ∧
  (∃ q c, W.cell? ⟨b, off + i * 5 + 4, none⟩ = some (.slice q x.len c) /\ x.len <= c /\ x.len <= 281474976710656 /\ FoIn W F x q) /\ FoIn W F r (pl (some ⟨b, off, none⟩) (i + 1)) := by
 obtain ⟨b', off', e, hF, h0, h1, h2, h3, h4, h5⟩ := h
 simp only [pl, Option.map_some, Option.some.injEq, Addr.mk.injEq] at e
 obtain ⟨rfl, rfl, _⟩ := e
 refine ⟨hF, h0, h1, h2, h3, h4, ?_⟩
 have e2 : pl (some ⟨b, off, none⟩) (i + 1) = some ⟨b, off + i * 5 + 5, none⟩ := by
  simp only [pl, Option.map_some, Option.some.injEq, Addr.mk.injEq]; exact ⟨trivial, by omega, trivial⟩
 rw [e2]; exact h5
theorem FoIn.some {W : World} {F : Nat -> Prop} {f : Fo} {q : Option Addr} (h : FoIn W F f q) (h0 : 0 < f.len) : ∃ b off, q = some ⟨b, off, none⟩ := by
 cases f with
 | nil => exact absurd h0 (by decide)
 | cons l k s a x r =>
  obtain ⟨b, off, rfl, _⟩ := h
  exact ⟨b, off, rfl⟩
theorem toList_byte {s s' : ByteArray} (h : s.toList = s'.toList) : s = s' := by
 rw [ByteArray.toList_eq, ByteArray.toList_eq] at h
 exact ByteArray.ext (Array.toList_inj.1 h)
end Go.Proofs.YtookoagcmejkpaaGreatDoor
namespace Go.Proofs.YtookoagcmejkpaaGreatDoor
set_option maxRecDepth 100000
open Go Go.RowKit
def SameP (f : Nat) (n : Nat) : Prop := ∀ (x x' : Fo), x.size <= n -> ∀ (l l' : Bool) (k k' : Int) (s s' : ByteArray) (a a' : Int) (q q' : Option Addr) (c c' : Nat) (W : World) (F F' : Nat -> Prop), FoIn W F x q -> FoIn W F' x' q' -> x.len <= c -> x'.len <= c' -> x.len <= 281474976710656 -> x'.len <= 281474976710656 →
 Calls Tryz.prog f #[trV l k s a q x.len c, trV l' k' s' a' q' x'.len c'] W fun e w' => e = .returned (.bool (sameT l k s x l' k' s' x')) /\ Below W.heap.size W w'
set_option maxHeartbeats 3200000 in
theorem same33_no (l l' : Bool) (k k' : Int) (s s' : ByteArray) (a a' : Int) (q q' : Option Addr) (c c' n n' : Nat) (W : World) (h : (decide (l = l') && decide (k = k') && decide (s = s') && decide (n = n')) = false) (hn : n <= 281474976710656) (hn' : n' <= 281474976710656) :
  Calls Tryz.prog 50 #[trV l k s a q n c, trV l' k' s' a' q' n' c'] W fun e w' => e = .returned (.bool false) /\ Below W.heap.size W w' := by
 have i1 : (n : Int) <= 281474976710656 := by omega
 have i2 : (n' : Int) <= 281474976710656 := by omega
 have hb2 : ∀ (w : World) (o1 o2 : Obj), Below w.heap.size w ((w.alloc o1).alloc o2) := fun w o1 o2 => (below1 w o1).alloc (by simp) _
 unfold trV
 by_cases h1 : l = l'
 ·subst h1
  by_cases h2 : k = k'
  ·subst h2
   by_cases h3 : s = s'
   ·subst h3
    have h4 : ¬ n = n' := fun e => by simp [e] at h
    have h5 : ((n : Int) != (n' : Int)) = true := by simp; omega
    clear h
    go_enter Tryz.func50, Tryz.ntmps50
    go_wp2_with fail
    go_ret
    exact ⟨rfl, hb2 _ _ _⟩
   ·have h5 : ¬ s.toList = s'.toList := fun e => h3 (toList_byte e)
    clear h
    go_enter Tryz.func50, Tryz.ntmps50
    go_wp2_with fail
    go_ret
    exact ⟨rfl, hb2 _ _ _⟩
  ·clear h
   go_enter Tryz.func50, Tryz.ntmps50
   go_wp2_with fail
   go_ret
   exact ⟨rfl, hb2 _ _ _⟩
 ·clear h
  go_enter Tryz.func50, Tryz.ntmps50
  go_wp2_with fail
  go_ret
  exact ⟨rfl, hb2 _ _ _⟩
set_option maxHeartbeats 6400000 in
theorem same33_step (n : Nat) (ih : ∀ m, m < n -> SameP 50 m) : SameP 50 n := by
 intro x x' hsz l l' k k' s s' a a' q q' c c' W F F' hx hx' hc hc' hn hn'
 by_cases hd : (decide (l = l') && decide (k = k') && decide (s = s') && decide (x.len = x'.len)) = true
 case neg =>
  have hd2 := Bool.eq_false_iff.2 hd
  have h := same33_no l l' k k' s s' a a' q q' c c' x.len x'.len W hd2 hn hn'
  refine h.mono ?_
  rintro e w ⟨rfl, hb⟩
  refine ⟨?_, hb⟩
  unfold sameT
  rw [hd2]; rfl
 simp only [Bool.and_eq_true, decide_eq_true_eq] at hd
 obtain ⟨⟨⟨rfl, rfl⟩, rfl⟩, hlen⟩ := hd
 have hS : sameT l k s x l k s x' = sameF x x' := by simp [sameT, hlen]
 rw [hS]
 clear hS
 rw [<- hlen]
 rw [<- hlen] at hc'
 obtain ⟨N, hN⟩ : ∃ N, N = x.len := ⟨_, rfl⟩
 rw [<- hN] at hlen hc hc' hn ⊢
 obtain ⟨R, hR⟩ : ∃ R, R = sameF x x' := ⟨_, rfl⟩
 rw [<- hR]
 have i1 : (N : Int) <= 281474976710656 := by omega
 have hb2 : ∀ (w : World) (o1 o2 : Obj), Below w.heap.size w ((w.alloc o1).alloc o2) := fun w o1 o2 => (below1 w o1).alloc (by simp) _
 have HX := Lib.hid (And.intro hx hx')
 have HI := Lib.hid (show (N = x.len /\ x'.len = x.len /\ R = sameF x x' /\ x.size <= n) from ⟨hN, by omega, hR, hsz⟩)
 have IH := Lib.hid ih
 have HB2 := Lib.hid hb2
 clear hx hx' ih hN hlen hR hsz hb2
 unfold trV
 go_enter Tryz.func50, Tryz.ntmps50
 go_wp2_with fail
 go_loopg [5, 41] N (fun gk s5 s41 wx => ∃ (i : Nat) (f f' : Fo), i + gk = N /\ s41 = .int .i64 (i : Int) /\ Hid (f.len = gk /\ f'.len = gk /\ R = sameF f f' /\ f.size <= x.size /\ FoIn wx F f (pl q i) /\ FoIn wx F' f' (pl q' i) /\ wx.cell? ⟨W.heap.size, 4, none⟩ = some (.slice q N c) /\ wx.cell? ⟨W.heap.size + 1, 4, none⟩ = some (.slice q' N c') /\ Below W.heap.size W wx))
 case atStart =>
  refine ⟨0, x, x', by omega, rfl, Lib.hid ⟨?_, ?_, ?_, ?_, ?_, ?_, ?_, ?_, ?_⟩⟩
  ·exact HI.out.1.symm
  ·rw [HI.out.2.1]; exact HI.out.1.symm
  ·exact HI.out.2.2.1
  ·exact Nat.le_refl _
  ·exact (pl_zero HX.out.1).later (HB2.out _ _ _)
  ·exact (pl_zero HX.out.2).later (HB2.out _ _ _)
  ·simp [go_sem]
  ·simp [go_sem]
  ·exact HB2.out _ _ _
 case round =>
  obtain ⟨i, f, f', hk, rfl, HK⟩ := hrel
  have HG := Lib.hid hk
  have hi2 : i <= N := by omega
  clear hk
  obtain ⟨wA, hwA⟩ : ∃ w, w = wr := ⟨_, rfl⟩
  subst hwA
  have i2 : (i : Int) <= (N : Int) := by omega
  have d3 := HK.out.2.2.2.2.2.2.1
  have d4 := HK.out.2.2.2.2.2.2.2.1
  by_cases hlt : i < N
  ·obtain ⟨G, rfl⟩ : ∃ G, gk = G + 1 := ⟨gk - 1, by have := HG.out; omega⟩
   have i0 : (0 : Int) <= (i : Int) := by omega
   have i3 : (i : Int) < (N : Int) := by omega
   obtain ⟨hf, hf', hR, hsz, hx, hx', -, -, hb⟩ := HK.out
   obtain ⟨b, off, rfl⟩ : ∃ b off, q = some ⟨b, off, none⟩ := HX.out.1.some (by rw [<- HI.out.1]; omega)
   obtain ⟨b2, off2, rfl⟩ : ∃ b off, q' = some ⟨b, off, none⟩ := HX.out.2.some (by rw [HI.out.2.1, <- HI.out.1]; omega)
   cases f with
   | nil => simp [Fo.len] at hf
   | cons l1 k1 s1 a1 x1 r1 =>
    cases f' with
    | nil => simp [Fo.len] at hf'
    | cons l2 k2 s2 a2 x2 r2 =>
     obtain ⟨_, e0, e1, e2, e3, ⟨q3, cc3, e4, hc3, hm3, hx3⟩, hr3⟩ := hx.head
     obtain ⟨_, g0, g1, g2, g3, ⟨q4, cc4, g4, hc4, hm4, hx4⟩, hr4⟩ := hx'.head
     have hC := fun w' (h : Below wA.heap.size wA w') => IH.out x1.size (by have := HI.out.2.2.2; simp only [Fo.size] at hsz; omega) x1 x2 (Nat.le_refl _) l1 l2 k1 k2 s1 s2 a1 a2 q3 q4 cc3 cc4 w' F F' (hx3.later h) (hx4.later h) hc3 hc4 hm3 hm4
     have HS := Lib.hid (show (r1.len = G /\ r2.len = G /\ R = (sameT l1 k1 s1 x1 l2 k2 s2 x2 && sameF r1 r2) /\ r1.size <= x.size) from ⟨by simpa [Fo.len] using hf, by simpa [Fo.len] using hf', hR, by simp only [Fo.size] at hsz; omega⟩)
     generalize x1.len = n3 at *
     generalize x2.len = n4 at *
     generalize sameT l1 k1 s1 x1 l2 k2 s2 x2 = r at *
     have hkp : ∀ w', Below wA.heap.size wA w' -> (Below wA.heap.size wA w' /\ w'.cell? ⟨W.heap.size, 4, none⟩ = some (.slice (some ⟨b, off, none⟩) N c) /\ w'.cell? ⟨W.heap.size + 1, 4, none⟩ = some (.slice (some ⟨b2, off2, none⟩) N c') /\ w'.cell? ⟨b, off + i * 5, none⟩ = some (.bool l1) /\ w'.cell? ⟨b, off + i * 5 + 1, none⟩ = some (.int .u8 k1) /\ w'.cell? ⟨b, off + i * 5 + 2, none⟩ = some (.string s1) /\ w'.cell? ⟨b, off + i * 5 + 3, none⟩ = some (.int .i64 a1) /\ w'.cell? ⟨b, off + i * 5 + 4, none⟩ = some (.slice q3 n3 cc3) /\ w'.cell? ⟨b2, off2 + i * 5, none⟩ = some (.bool l2) /\ w'.cell? ⟨b2, off2 + i * 5 + 1, none⟩ = some (.int .u8 k2) /\ w'.cell? ⟨b2, off2 + i * 5 + 2, none⟩ = some (.string s2) /\ w'.cell? ⟨b2, off2 + i * 5 + 3, none⟩ = some (.int .i64 a2) /\ w'.cell? ⟨b2, off2 + i * 5 + 4, none⟩ = some (.slice q4 n4 cc4)) := fun w' h => ⟨h, cell_later h d3, cell_later h d4, cell_later h e0, cell_later h e1, cell_later h e2, cell_later h e3, cell_later h e4, cell_later h g0, cell_later h g1, cell_later h g2, cell_later h g3, cell_later h g4⟩
     have hcc : ∀ w', (Below wA.heap.size wA w' /\ w'.cell? ⟨W.heap.size, 4, none⟩ = some (.slice (some ⟨b, off, none⟩) N c) /\ w'.cell? ⟨W.heap.size + 1, 4, none⟩ = some (.slice (some ⟨b2, off2, none⟩) N c') /\ w'.cell? ⟨b, off + i * 5, none⟩ = some (.bool l1) /\ w'.cell? ⟨b, off + i * 5 + 1, none⟩ = some (.int .u8 k1) /\ w'.cell? ⟨b, off + i * 5 + 2, none⟩ = some (.string s1) /\ w'.cell? ⟨b, off + i * 5 + 3, none⟩ = some (.int .i64 a1) /\ w'.cell? ⟨b, off + i * 5 + 4, none⟩ = some (.slice q3 n3 cc3) /\ w'.cell? ⟨b2, off2 + i * 5, none⟩ = some (.bool l2) /\ w'.cell? ⟨b2, off2 + i * 5 + 1, none⟩ = some (.int .u8 k2) /\ w'.cell? ⟨b2, off2 + i * 5 + 2, none⟩ = some (.string s2) /\ w'.cell? ⟨b2, off2 + i * 5 + 3, none⟩ = some (.int .i64 a2) /\ w'.cell? ⟨b2, off2 + i * 5 + 4, none⟩ = some (.slice q4 n4 cc4)) -> Calls Tryz.prog 50 #[trV l1 k1 s1 a1 q3 n3 cc3, trV l2 k2 s2 a2 q4 n4 cc4] w' fun e w'' => e = .returned (.bool r) /\ (Below wA.heap.size wA w'' /\ w''.cell? ⟨W.heap.size, 4, none⟩ = some (.slice (some ⟨b, off, none⟩) N c) /\ w''.cell? ⟨W.heap.size + 1, 4, none⟩ = some (.slice (some ⟨b2, off2, none⟩) N c') /\ w''.cell? ⟨b, off + i * 5, none⟩ = some (.bool l1) /\ w''.cell? ⟨b, off + i * 5 + 1, none⟩ = some (.int .u8 k1) /\ w''.cell? ⟨b, off + i * 5 + 2, none⟩ = some (.string s1) /\ w''.cell? ⟨b, off + i * 5 + 3, none⟩ = some (.int .i64 a1) /\ w''.cell? ⟨b, off + i * 5 + 4, none⟩ = some (.slice q3 n3 cc3) /\ w''.cell? ⟨b2, off2 + i * 5, none⟩ = some (.bool l2) /\ w''.cell? ⟨b2, off2 + i * 5 + 1, none⟩ = some (.int .u8 k2) /\ w''.cell? ⟨b2, off2 + i * 5 + 2, none⟩ = some (.string s2) /\ w''.cell? ⟨b2, off2 + i * 5 + 3, none⟩ = some (.int .i64 a2) /\ w''.cell? ⟨b2, off2 + i * 5 + 4, none⟩ = some (.slice q4 n4 cc4)) := fun w' h => (hC w' h.1).mono fun e w'' h2 => ⟨h2.1, hkp w'' (h.1.trans (h2.2.mono h.1.size))⟩
     unfold trV at hcc
     have HKP := Lib.hid hkp
     have HCC := Lib.hid hcc
     have HR := Lib.hid (And.intro hr3 hr4)
     have HBB := Lib.hid hb
     clear hf hf' hR hsz hx hx' hb hx3 hr3 hx4 hr4 hc3 hc4 hm3 hm4 hC hkp hcc HK e0 e1 e2 e3 e4 g0 g1 g2 g3 g4
     go_wp2_with fail
     go_region_held3 (fun w' => Below wA.heap.size wA w' /\ w'.cell? ⟨W.heap.size, 4, none⟩ = some (.slice (some ⟨b, off, none⟩) N c) /\ w'.cell? ⟨W.heap.size + 1, 4, none⟩ = some (.slice (some ⟨b2, off2, none⟩) N c') /\ w'.cell? ⟨b, off + i * 5, none⟩ = some (.bool l1) /\ w'.cell? ⟨b, off + i * 5 + 1, none⟩ = some (.int .u8 k1) /\ w'.cell? ⟨b, off + i * 5 + 2, none⟩ = some (.string s1) /\ w'.cell? ⟨b, off + i * 5 + 3, none⟩ = some (.int .i64 a1) /\ w'.cell? ⟨b, off + i * 5 + 4, none⟩ = some (.slice q3 n3 cc3) /\ w'.cell? ⟨b2, off2 + i * 5, none⟩ = some (.bool l2) /\ w'.cell? ⟨b2, off2 + i * 5 + 1, none⟩ = some (.int .u8 k2) /\ w'.cell? ⟨b2, off2 + i * 5 + 2, none⟩ = some (.string s2) /\ w'.cell? ⟨b2, off2 + i * 5 + 3, none⟩ = some (.int .i64 a2) /\ w'.cell? ⟨b2, off2 + i * 5 + 4, none⟩ = some (.slice q4 n4 cc4)) (first | exact HKP.out _ (below_drew _) | exact HKP.out _ (Below.refl _ _) | assumption) (first | (go_at_call 50; refine (HCC.out _ (by assumption)).mono ?_; rintro e w' ⟨rfl, hs⟩))
     have HW := Lib.hid hs.1
     have HSS := Lib.hid hs
     have z3 := hs.2.1
     have z4 := hs.2.2.1
     clear hs
     cases r with
     | false =>
      go_wp2_with fail
      go_ret
      refine ⟨by rw [HS.out.2.2.1]; rfl, ?_⟩
      exact HBB.out.trans (HW.out.mono HBB.out.size)
     | true =>
      go_wp2_with fail
      go_roundg G
      case measure => omega
      case rel =>
       obtain ⟨i', hi'⟩ : ∃ i', i' = i + 1 := ⟨_, rfl⟩
       refine ⟨i', r1, r2, by have := HG.out; omega, by rw [hi']; go_num, Lib.hid ⟨HS.out.1, HS.out.2.1, by rw [HS.out.2.2.1]; rfl, HS.out.2.2.2, ?_, ?_, HSS.out.2.1, HSS.out.2.2.1, HBB.out.trans (HW.out.mono HBB.out.size)⟩⟩
       ·rw [hi']; exact HR.out.1.later HW.out
       ·rw [hi']; exact HR.out.2.later HW.out
  ·obtain rfl : i = N := by omega
   obtain rfl : gk = 0 := by have := HG.out; omega
   obtain ⟨hf, hf', hR, -, -, -, -, -, hb⟩ := HK.out
   have hR2 : R = true := by
    cases f with
    | cons => simp [Fo.len] at hf
    | nil => cases f' with
     | cons => simp [Fo.len] at hf'
     | nil => exact hR
   have HBB := Lib.hid hb
   clear hf hf' hR hb
   subst hR2
   go_wp2_with fail
   go_ret
   exact ⟨rfl, by first | exact HBB.out | exact bdd HBB.out⟩
theorem same33_any (n : Nat) : SameP 50 n := Nat.strongRecOn n fun n ih => same33_step n ih
theorem same23_no (l l' : Bool) (k k' : Int) (s s' : ByteArray) (a a' : Int) (q q' : Option Addr) (c c' n n' : Nat) (W : World) (h : (decide (l = l') && decide (k = k') && decide (s = s') && decide (n = n')) = false) (hn : n <= 281474976710656) (hn' : n' <= 281474976710656) :
  Calls Tryz.prog 15 #[trV l k s a q n c, trV l' k' s' a' q' n' c'] W fun e w' => e = .returned (.bool false) /\ Below W.heap.size W w' := by
 have i1 : (n : Int) <= 281474976710656 := by omega
 have i2 : (n' : Int) <= 281474976710656 := by omega
 have hb2 : ∀ (w : World) (o1 o2 : Obj), Below w.heap.size w ((w.alloc o1).alloc o2) := fun w o1 o2 => (below1 w o1).alloc (by simp) _
 unfold trV
 by_cases h1 : l = l'
 ·subst h1
  by_cases h2 : k = k'
  ·subst h2
   by_cases h3 : s = s'
   ·subst h3
    have h4 : ¬ n = n' := fun e => by simp [e] at h
    have h5 : ((n : Int) != (n' : Int)) = true := by simp; omega
    clear h
    go_enter Tryz.func15, Tryz.ntmps15
    go_wp2_with fail
    go_ret
    exact ⟨rfl, hb2 _ _ _⟩
   ·have h5 : ¬ s.toList = s'.toList := fun e => h3 (toList_byte e)
    clear h
    go_enter Tryz.func15, Tryz.ntmps15
    go_wp2_with fail
    go_ret
    exact ⟨rfl, hb2 _ _ _⟩
  ·clear h
   go_enter Tryz.func15, Tryz.ntmps15
   go_wp2_with fail
   go_ret
   exact ⟨rfl, hb2 _ _ _⟩
 ·clear h
  go_enter Tryz.func15, Tryz.ntmps15
  go_wp2_with fail
  go_ret
  exact ⟨rfl, hb2 _ _ _⟩
set_option maxHeartbeats 6400000 in
theorem same23_step (n : Nat) (ih : ∀ m, m < n -> SameP 15 m) : SameP 15 n := by
 intro x x' hsz l l' k k' s s' a a' q q' c c' W F F' hx hx' hc hc' hn hn'
 by_cases hd : (decide (l = l') && decide (k = k') && decide (s = s') && decide (x.len = x'.len)) = true
 case neg =>
  have hd2 := Bool.eq_false_iff.2 hd
  have h := same23_no l l' k k' s s' a a' q q' c c' x.len x'.len W hd2 hn hn'
  refine h.mono ?_
  rintro e w ⟨rfl, hb⟩
  refine ⟨?_, hb⟩
  unfold sameT
  rw [hd2]; rfl
 simp only [Bool.and_eq_true, decide_eq_true_eq] at hd
 obtain ⟨⟨⟨rfl, rfl⟩, rfl⟩, hlen⟩ := hd
 have hS : sameT l k s x l k s x' = sameF x x' := by simp [sameT, hlen]
 rw [hS]
 clear hS
 rw [<- hlen]
 rw [<- hlen] at hc'
 obtain ⟨N, hN⟩ : ∃ N, N = x.len := ⟨_, rfl⟩
 rw [<- hN] at hlen hc hc' hn ⊢
 obtain ⟨R, hR⟩ : ∃ R, R = sameF x x' := ⟨_, rfl⟩
 rw [<- hR]
 have i1 : (N : Int) <= 281474976710656 := by omega
 have hb2 : ∀ (w : World) (o1 o2 : Obj), Below w.heap.size w ((w.alloc o1).alloc o2) := fun w o1 o2 => (below1 w o1).alloc (by simp) _
 have HX := Lib.hid (And.intro hx hx')
 have HI := Lib.hid (show (N = x.len /\ x'.len = x.len /\ R = sameF x x' /\ x.size <= n) from ⟨hN, by omega, hR, hsz⟩)
 have IH := Lib.hid ih
 have HB2 := Lib.hid hb2
 clear hx hx' ih hN hlen hR hsz hb2
 unfold trV
 go_enter Tryz.func15, Tryz.ntmps15
 go_wp2_with fail
 go_loopg [5] N (fun gk s5 wx => ∃ (i : Nat) (f f' : Fo), i + gk = N /\ s5 = .int .i64 (i : Int) /\ Hid (f.len = gk /\ f'.len = gk /\ R = sameF f f' /\ f.size <= x.size /\ FoIn wx F f (pl q i) /\ FoIn wx F' f' (pl q' i) /\ wx.cell? ⟨W.heap.size, 4, none⟩ = some (.slice q N c) /\ wx.cell? ⟨W.heap.size + 1, 4, none⟩ = some (.slice q' N c') /\ Below W.heap.size W wx))
 case atStart =>
  refine ⟨0, x, x', by omega, rfl, Lib.hid ⟨?_, ?_, ?_, ?_, ?_, ?_, ?_, ?_, ?_⟩⟩
  ·exact HI.out.1.symm
  ·rw [HI.out.2.1]; exact HI.out.1.symm
  ·exact HI.out.2.2.1
  ·exact Nat.le_refl _
  ·exact (pl_zero HX.out.1).later (HB2.out _ _ _)
  ·exact (pl_zero HX.out.2).later (HB2.out _ _ _)
  ·simp [go_sem]
  ·simp [go_sem]
  ·exact HB2.out _ _ _
 case round =>
  obtain ⟨i, f, f', hk, rfl, HK⟩ := hrel
  have HG := Lib.hid hk
  have hi2 : i <= N := by omega
  clear hk
  obtain ⟨wA, hwA⟩ : ∃ w, w = wr := ⟨_, rfl⟩
  subst hwA
  have i2 : (i : Int) <= (N : Int) := by omega
  have d3 := HK.out.2.2.2.2.2.2.1
  have d4 := HK.out.2.2.2.2.2.2.2.1
  by_cases hlt : i < N
  ·obtain ⟨G, rfl⟩ : ∃ G, gk = G + 1 := ⟨gk - 1, by have := HG.out; omega⟩
   have i0 : (0 : Int) <= (i : Int) := by omega
   have i3 : (i : Int) < (N : Int) := by omega
   obtain ⟨hf, hf', hR, hsz, hx, hx', -, -, hb⟩ := HK.out
   obtain ⟨b, off, rfl⟩ : ∃ b off, q = some ⟨b, off, none⟩ := HX.out.1.some (by rw [<- HI.out.1]; omega)
   obtain ⟨b2, off2, rfl⟩ : ∃ b off, q' = some ⟨b, off, none⟩ := HX.out.2.some (by rw [HI.out.2.1, <- HI.out.1]; omega)
   cases f with
   | nil => simp [Fo.len] at hf
   | cons l1 k1 s1 a1 x1 r1 =>
    cases f' with
    | nil => simp [Fo.len] at hf'
    | cons l2 k2 s2 a2 x2 r2 =>
     obtain ⟨_, e0, e1, e2, e3, ⟨q3, cc3, e4, hc3, hm3, hx3⟩, hr3⟩ := hx.head
     obtain ⟨_, g0, g1, g2, g3, ⟨q4, cc4, g4, hc4, hm4, hx4⟩, hr4⟩ := hx'.head
     have hC := fun w' (h : Below wA.heap.size wA w') => IH.out x1.size (by have := HI.out.2.2.2; simp only [Fo.size] at hsz; omega) x1 x2 (Nat.le_refl _) l1 l2 k1 k2 s1 s2 a1 a2 q3 q4 cc3 cc4 w' F F' (hx3.later h) (hx4.later h) hc3 hc4 hm3 hm4
     have HS := Lib.hid (show (r1.len = G /\ r2.len = G /\ R = (sameT l1 k1 s1 x1 l2 k2 s2 x2 && sameF r1 r2) /\ r1.size <= x.size) from ⟨by simpa [Fo.len] using hf, by simpa [Fo.len] using hf', hR, by simp only [Fo.size] at hsz; omega⟩)
     generalize x1.len = n3 at *
     generalize x2.len = n4 at *
     generalize sameT l1 k1 s1 x1 l2 k2 s2 x2 = r at *
     have hkp : ∀ w', Below wA.heap.size wA w' -> (Below wA.heap.size wA w' /\ w'.cell? ⟨W.heap.size, 4, none⟩ = some (.slice (some ⟨b, off, none⟩) N c) /\ w'.cell? ⟨W.heap.size + 1, 4, none⟩ = some (.slice (some ⟨b2, off2, none⟩) N c') /\ w'.cell? ⟨b, off + i * 5, none⟩ = some (.bool l1) /\ w'.cell? ⟨b, off + i * 5 + 1, none⟩ = some (.int .u8 k1) /\ w'.cell? ⟨b, off + i * 5 + 2, none⟩ = some (.string s1) /\ w'.cell? ⟨b, off + i * 5 + 3, none⟩ = some (.int .i64 a1) /\ w'.cell? ⟨b, off + i * 5 + 4, none⟩ = some (.slice q3 n3 cc3) /\ w'.cell? ⟨b2, off2 + i * 5, none⟩ = some (.bool l2) /\ w'.cell? ⟨b2, off2 + i * 5 + 1, none⟩ = some (.int .u8 k2) /\ w'.cell? ⟨b2, off2 + i * 5 + 2, none⟩ = some (.string s2) /\ w'.cell? ⟨b2, off2 + i * 5 + 3, none⟩ = some (.int .i64 a2) /\ w'.cell? ⟨b2, off2 + i * 5 + 4, none⟩ = some (.slice q4 n4 cc4)) := fun w' h => ⟨h, cell_later h d3, cell_later h d4, cell_later h e0, cell_later h e1, cell_later h e2, cell_later h e3, cell_later h e4, cell_later h g0, cell_later h g1, cell_later h g2, cell_later h g3, cell_later h g4⟩
     have hcc : ∀ w', (Below wA.heap.size wA w' /\ w'.cell? ⟨W.heap.size, 4, none⟩ = some (.slice (some ⟨b, off, none⟩) N c) /\ w'.cell? ⟨W.heap.size + 1, 4, none⟩ = some (.slice (some ⟨b2, off2, none⟩) N c') /\ w'.cell? ⟨b, off + i * 5, none⟩ = some (.bool l1) /\ w'.cell? ⟨b, off + i * 5 + 1, none⟩ = some (.int .u8 k1) /\ w'.cell? ⟨b, off + i * 5 + 2, none⟩ = some (.string s1) /\ w'.cell? ⟨b, off + i * 5 + 3, none⟩ = some (.int .i64 a1) /\ w'.cell? ⟨b, off + i * 5 + 4, none⟩ = some (.slice q3 n3 cc3) /\ w'.cell? ⟨b2, off2 + i * 5, none⟩ = some (.bool l2) /\ w'.cell? ⟨b2, off2 + i * 5 + 1, none⟩ = some (.int .u8 k2) /\ w'.cell? ⟨b2, off2 + i * 5 + 2, none⟩ = some (.string s2) /\ w'.cell? ⟨b2, off2 + i * 5 + 3, none⟩ = some (.int .i64 a2) /\ w'.cell? ⟨b2, off2 + i * 5 + 4, none⟩ = some (.slice q4 n4 cc4)) -> Calls Tryz.prog 15 #[trV l1 k1 s1 a1 q3 n3 cc3, trV l2 k2 s2 a2 q4 n4 cc4] w' fun e w'' => e = .returned (.bool r) /\ (Below wA.heap.size wA w'' /\ w''.cell? ⟨W.heap.size, 4, none⟩ = some (.slice (some ⟨b, off, none⟩) N c) /\ w''.cell? ⟨W.heap.size + 1, 4, none⟩ = some (.slice (some ⟨b2, off2, none⟩) N c') /\ w''.cell? ⟨b, off + i * 5, none⟩ = some (.bool l1) /\ w''.cell? ⟨b, off + i * 5 + 1, none⟩ = some (.int .u8 k1) /\ w''.cell? ⟨b, off + i * 5 + 2, none⟩ = some (.string s1) /\ w''.cell? ⟨b, off + i * 5 + 3, none⟩ = some (.int .i64 a1) /\ w''.cell? ⟨b, off + i * 5 + 4, none⟩ = some (.slice q3 n3 cc3) /\ w''.cell? ⟨b2, off2 + i * 5, none⟩ = some (.bool l2) /\ w''.cell? ⟨b2, off2 + i * 5 + 1, none⟩ = some (.int .u8 k2) /\ w''.cell? ⟨b2, off2 + i * 5 + 2, none⟩ = some (.string s2) /\ w''.cell? ⟨b2, off2 + i * 5 + 3, none⟩ = some (.int .i64 a2) /\ w''.cell? ⟨b2, off2 + i * 5 + 4, none⟩ = some (.slice q4 n4 cc4)) := fun w' h => (hC w' h.1).mono fun e w'' h2 => ⟨h2.1, hkp w'' (h.1.trans (h2.2.mono h.1.size))⟩
     unfold trV at hcc
     have HKP := Lib.hid hkp
     have HCC := Lib.hid hcc
     have HR := Lib.hid (And.intro hr3 hr4)
     have HBB := Lib.hid hb
     clear hf hf' hR hsz hx hx' hb hx3 hr3 hx4 hr4 hc3 hc4 hm3 hm4 hC hkp hcc HK e0 e1 e2 e3 e4 g0 g1 g2 g3 g4
     go_wp2_with fail
     go_region_held3 (fun w' => Below wA.heap.size wA w' /\ w'.cell? ⟨W.heap.size, 4, none⟩ = some (.slice (some ⟨b, off, none⟩) N c) /\ w'.cell? ⟨W.heap.size + 1, 4, none⟩ = some (.slice (some ⟨b2, off2, none⟩) N c') /\ w'.cell? ⟨b, off + i * 5, none⟩ = some (.bool l1) /\ w'.cell? ⟨b, off + i * 5 + 1, none⟩ = some (.int .u8 k1) /\ w'.cell? ⟨b, off + i * 5 + 2, none⟩ = some (.string s1) /\ w'.cell? ⟨b, off + i * 5 + 3, none⟩ = some (.int .i64 a1) /\ w'.cell? ⟨b, off + i * 5 + 4, none⟩ = some (.slice q3 n3 cc3) /\ w'.cell? ⟨b2, off2 + i * 5, none⟩ = some (.bool l2) /\ w'.cell? ⟨b2, off2 + i * 5 + 1, none⟩ = some (.int .u8 k2) /\ w'.cell? ⟨b2, off2 + i * 5 + 2, none⟩ = some (.string s2) /\ w'.cell? ⟨b2, off2 + i * 5 + 3, none⟩ = some (.int .i64 a2) /\ w'.cell? ⟨b2, off2 + i * 5 + 4, none⟩ = some (.slice q4 n4 cc4)) (first | exact HKP.out _ (below_drew _) | exact HKP.out _ (Below.refl _ _) | assumption) (first | (go_at_call 15; refine (HCC.out _ (by assumption)).mono ?_; rintro e w' ⟨rfl, hs⟩))
     have HW := Lib.hid hs.1
     have HSS := Lib.hid hs
     have z3 := hs.2.1
     have z4 := hs.2.2.1
     clear hs
     cases r with
     | false =>
      go_wp2_with fail
      go_ret
      refine ⟨by rw [HS.out.2.2.1]; rfl, ?_⟩
      exact HBB.out.trans (HW.out.mono HBB.out.size)
     | true =>
      go_wp2_with fail
      go_roundg G
      case measure => omega
      case rel =>
       obtain ⟨i', hi'⟩ : ∃ i', i' = i + 1 := ⟨_, rfl⟩
       refine ⟨i', r1, r2, by have := HG.out; omega, by rw [hi']; go_num, Lib.hid ⟨HS.out.1, HS.out.2.1, by rw [HS.out.2.2.1]; rfl, HS.out.2.2.2, ?_, ?_, HSS.out.2.1, HSS.out.2.2.1, HBB.out.trans (HW.out.mono HBB.out.size)⟩⟩
       ·rw [hi']; exact HR.out.1.later HW.out
       ·rw [hi']; exact HR.out.2.later HW.out
  ·obtain rfl : i = N := by omega
   obtain rfl : gk = 0 := by have := HG.out; omega
   obtain ⟨hf, hf', hR, -, -, -, -, -, hb⟩ := HK.out
   have hR2 : R = true := by
    cases f with
    | cons => simp [Fo.len] at hf
    | nil => cases f' with
     | cons => simp [Fo.len] at hf'
     | nil => exact hR
   have HBB := Lib.hid hb
   clear hf hf' hR hb
   subst hR2
   go_wp2_with fail
   go_ret
   exact ⟨rfl, by first | exact HBB.out | exact bdd HBB.out⟩
theorem same23_any (n : Nat) : SameP 15 n := Nat.strongRecOn n fun n ih => same23_step n ih
theorem below2 (w : World) (o1 o2 : Obj) : Below w.heap.size w ((w.alloc o1).alloc o2) :=
 ((Below.refl _ _).alloc (Nat.le_refl _) _).alloc (by simp) _
end Go.Proofs.YtookoagcmejkpaaGreatDoor
namespace Go.Proofs.YtookoagcmejkpaaGreatDoor
set_option maxRecDepth 100000
open Go Go.RowKit Go.Sort
theorem below_grow (w : World) (k : Nat) (os : Array Obj) : Below w.heap.size w (grow (w.drewN k) os) :=
 ⟨rfl, rfl, rfl, by simp [grow], fun j hj => by simp [grow, Array.getElem?_append_left, hj]⟩

theorem tabIs_below {w w' : World} {name : String} {k : IntKind} {zs : List Int} (h : Lib.TabIs Tryz.prog w name k zs) (hb : Below w.heap.size w w') : Lib.TabIs Tryz.prog w' name k zs := by
 unfold Lib.TabIs World.var? at *
 cases hg : Tryz.prog.globalNamed name with
 | none => simp [hg] at h
 | some g =>
  simp only [hg, Option.bind_some] at h ⊢
  have hlt : g < w.heap.size := by
   rcases Nat.lt_or_ge g w.heap.size with h' | h'
   ·exact h'
   ·rw [Array.getElem?_eq_none h'] at h; simp at h
  rw [hb.block g hlt]
  exact h

theorem decLen (u : Nat) (h : u < 18446744073709551616) : (Lib.decDigits u).length <= 20 := by
 rw [Lib.decDigits_length]
 by_cases h1 : 1 <= u
 ·have := Lib.numDigits_eq u h1 h; split at this <;> omega
 ·rw [Lib.nDigits_small (by omega)]; omega
end Go.Proofs.YtookoagcmejkpaaGreatDoor
namespace Go.Proofs.YtookoagcmejkpaaGreatDoor
set_option maxRecDepth 100000
open Go Go.RowKit
theorem sI {α : Type _} {l : List α} {i : Nat} {a : α} : l.toArray.setIfInBounds i a = (l.set i a).toArray := List.setIfInBounds_toArray ..
theorem s0 {α : Type _} {a : α} {l : List α} {b : α} : (a :: l).set 0 b = b :: l := List.set_cons_zero
theorem s1 {α : Type _} {a : α} {l : List α} {i : Nat} {b : α} : (a :: l).set (i + 1) b = a :: l.set i b := List.set_cons_succ
section
variable {P : Program} {ops : Array Oper} {Q : Exit -> Act -> World -> Prop} {md : Region.Mode} {ks : List (Nat × (World -> Prop))}
def SL (ks : List (Nat × (World -> Prop))) (l : Array Bool) (w : World) : Prop := ∀ p ∈ ks, l.getD p.1 false = false -> p.2 w
theorem SL.nil {l : Array Bool} {w : World} : SL [] l w := fun _ h => by cases h
theorem SL.cons {k : Nat} {T : World -> Prop} {l : Array Bool} {w : World} (h : l.getD k false = false -> T w) (hs : SL ks l w) : SL ((k, T) :: ks) l w := fun p hp => by
 rcases List.mem_cons.1 hp with rfl | hp
 ·exact h
 ·exact hs p hp
theorem SL.listed {l : Array Bool} {w : World} (h : SL ks l w) (i : Nat) : SL ks (l.setIfInBounds i true) w := fun p hp hl => h p hp (by
 cases hb : l.getD p.1 false with
 | false => rfl
 | true => rw [getD_set_true hb] at hl; cases hl)
def wpAnyL (P : Program) (md : Region.Mode) (ops : Array Oper) (Q : Exit -> Act -> World -> Prop) (ks : List (Nat × (World -> Prop))) : Nat -> Array Bool -> Act -> World -> Prop
 | 0, listed, a, w => Region.ready md ops listed = [] /\ Q .normal a w
 | fuel + 1, listed, a, w =>
  (Region.ready md ops listed = [] -> Q .normal a w) ∧
  ∀ i ∈ Region.ready md ops listed, wpOp P ops Q i (fun a' w' => SL ks (listed.setIfInBounds i true) w' /\ wpAnyL P md ops Q ks fuel (listed.setIfInBounds i true) a' w') a w
theorem wpAny_of_L : ∀ (fuel : Nat) (listed : Array Bool) (a : Act) (w : World), wpAnyL P md ops Q ks fuel listed a w -> wpAny P md ops Q fuel listed a w
 | 0, _, _, _, h => h
 | fuel + 1, _, _, _, h => ⟨h.1, fun i hi => wpOp_mono (fun a' w' h' => wpAny_of_L fuel _ a' w' h'.2) (h.2 i hi)⟩
theorem wpAnyL_first {i : Nat} {oi : Oper} {v : Value} (k : Nat) (T : World -> Prop) (hT : (k, T) ∈ ks) (hn : ∀ p ∈ ks, p.1 ≠ i) (hk : ∀ ok, ops[k]? = some ok -> ∃ e ∈ ok.after, Region.binds md e = true /\ e.on = i) (hi : ops[i]? = some oi) (hsel : ∀ (j : Nat) (o : Oper) cs b, ops[j]? = some o -> o.op ≠ .select cs b)
  (hQ : ∀ c a w, Q (.panic c) (a.put oi.dst v) w -> Q (.panic c) a w) :
  ∀ (fuel : Nat) (listed : Array Bool) (a : Act) (w : World),
   (∀ j oj, ops[j]? = some oj -> j ≠ i -> listed.getD j true = false -> (∀ e ∈ oj.after, Region.binds md e = true -> e.on ≠ i) -> oi.apart ops oj = true) →
   i ∈ Region.ready md ops listed -> YieldsIf P ops T oi v a -> SL ks listed w -> listed.getD k false = false →
   wpAnyL P md ops Q ks fuel (listed.setIfInBounds i true) (a.put oi.dst v) w -> wpAnyL P md ops Q ks (fuel + 1) listed a w := by
 intro fuel
 induction fuel with
 | zero =>
  intro listed a w _ hr hy hS hl H
  refine ⟨fun h => (by rw [h] at hr; cases hr), fun j hj => ?_⟩
  by_cases hji : j = i
  ·subst hji; exact hy.wpOp hi (hS _ hT hl) ⟨hS.listed _, H⟩
  ·have := ready_mono hj hji
   rw [H.1] at this
   cases this
 | succ fuel ih =>
  intro listed a w hfree hr hy hS hl H
  refine ⟨fun h => (by rw [h] at hr; cases hr), fun j hj => ?_⟩
  by_cases hji : j = i
  ·subst hji; exact hy.wpOp hi (hS _ hT hl) ⟨hS.listed _, H⟩
  ·have h1 := H.2 j (ready_mono hj hji)
   obtain ⟨hjun, oj, hoj, hall⟩ := mem_ready.1 hj
   have hnot : ∀ e ∈ oj.after, Region.binds md e = true -> e.on ≠ i := fun e he hb heq => by
    have h1 := hall e he hb
    have h0 := (mem_ready.1 hr).1
    rw [heq] at h1
    rcases Nat.lt_or_ge i listed.size with h' | h'
    ·simp [h'] at h0 h1; rw [h0] at h1; cases h1
    ·simp [Array.getElem?_eq_none h'] at h1
   have hjk : j ≠ k := fun e => by
    subst e
    obtain ⟨e, he, hb, ho⟩ := hk oj hoj
    exact hnot e he hb ho
   have h2 := wpOp_putIf hoj (hfree j oj hoj hji hjun hnot) (fun cs b => hsel i oi cs b hi) (fun cs b => hsel j oj cs b hoj) hQ hy h1
   have hfree' : ∀ k ok, ops[k]? = some ok -> k ≠ i -> (listed.setIfInBounds j true).getD k true = false →
     (∀ e ∈ ok.after, Region.binds md e = true -> e.on ≠ i) -> oi.apart ops ok = true := fun k ok hk hki hun hno => by
    refine hfree k ok hk hki ?_ hno
    by_cases hjk : j = k
    ·subst hjk; exact hjun
    ·rw [getD_set_ne true hjk] at hun; exact hun
   refine wpOp_mono (fun a' w' h3 => ?_) h2
   obtain ⟨hy', hs', hw'⟩ := h3
   have hs2 : SL ks (listed.setIfInBounds j true) w' := fun p hp hl2 => hs' p hp (by
    rw [Array.setIfInBounds_comm _ _ (Ne.symm hji), getD_set_ne false (Ne.symm (hn p hp))]
    exact hl2)
   refine ⟨hs2, ih (listed.setIfInBounds j true) a' w' hfree' (ready_mono hr (Ne.symm hji)) hy' hs2 (by rw [getD_set_ne false hjk]; exact hl) ?_⟩
   rw [Array.setIfInBounds_comm _ _ hji]
   exact hw'
def killB (md : Region.Mode) (ops : Array Oper) (i k : Nat) : Bool := match ops[k]? with
 | none => true
 | some o => o.after.toList.any fun e => Region.binds md e && e.on == i
theorem killB_spec {i k : Nat} (h : killB md ops i k = true) : ∀ ok, ops[k]? = some ok -> ∃ e ∈ ok.after, Region.binds md e = true /\ e.on = i := fun ok hk => by
 unfold killB at h
 rw [hk] at h
 obtain ⟨e, he, hb⟩ := List.any_eq_true.1 h
 simp at hb
 exact ⟨e, by simpa using he, hb.1, hb.2⟩
theorem wpAnyL_take {i : Nat} {oi : Oper} {v : Value} {fuel : Nat} {listed : Array Bool} {a : Act} {w : World} (n k : Nat) (T : World -> Prop) (hi : ops[i]? = some oi)
  (hs : Region.noSelect ops = true) (hf : Region.free md ops listed i = true) (hr : (Region.ready md ops listed).contains i = true)
  (hQ : ∀ c a w, Q (.panic c) (a.put oi.dst v) w -> Q (.panic c) a w) (hT : ks[n]? = some (k, T)) (hn : (ks.map (·.1)).contains i = false) (hk : killB md ops i k = true) (hl : listed.getD k false = false) (hy : YieldsIf P ops T oi v a) (hS : SL ks listed w)
  (h : SL ks (listed.setIfInBounds i true) w -> wpAnyL P md ops Q ks fuel (listed.setIfInBounds i true) (a.put oi.dst v) w) : wpAnyL P md ops Q ks (fuel + 1) listed a w :=
 wpAnyL_first k T (List.mem_of_getElem? hT) (fun p hp e => by
  have : (ks.map (·.1)).contains i = true := by rw [List.contains_iff_mem]; exact List.mem_map.2 ⟨p, hp, e⟩
  rw [hn] at this; cases this) (killB_spec hk) hi (Region.noSelect_spec hs) hQ fuel listed a w (Region.free_spec hi hf) (by simpa using hr) hy hS hl (h (hS.listed i))
def AllReadyL (P : Program) (md : Region.Mode) (ops : Array Oper) (Q : Exit -> Act -> World -> Prop) (ks : List (Nat × (World -> Prop))) (fuel : Nat) (listed : Array Bool) (a : Act) (w : World) (rs : List Nat) : Prop :=
 ∀ i ∈ rs, wpOp P ops Q i (fun a' w' => SL ks (listed.setIfInBounds i true) w' /\ wpAnyL P md ops Q ks fuel (listed.setIfInBounds i true) a' w') a w
theorem AllReadyL.nil {fuel : Nat} {listed : Array Bool} {a : Act} {w : World} : AllReadyL P md ops Q ks fuel listed a w [] := fun _ h => by cases h
theorem AllReadyL.cons {fuel : Nat} {listed : Array Bool} {a : Act} {w : World} {i : Nat} {o : Oper} {rs : List Nat} (ho : ops[i]? = some o)
  (h : ∀ K' : Act -> World -> Prop, Shut (∀ a w, SL ks (listed.setIfInBounds i true) w -> (SL ks (listed.setIfInBounds i true) w -> wpAnyL P md ops Q ks fuel (listed.setIfInBounds i true) a w) -> K' a w) -> if Region.wanted o (yielded ops a.tmps) = true then Oper.wp P o a w K' Q else K' (a.put o.dst undef) w)
  (hs : AllReadyL P md ops Q ks fuel listed a w rs) : AllReadyL P md ops Q ks fuel listed a w (i :: rs) := fun j hj => by
 rcases List.mem_cons.1 hj with rfl | hj
 ·exact wpOp_step ho (fun K' hK => h K' (fun a w hS hW => hK a w ⟨hS, hW hS⟩))
 ·exact hs j hj
theorem wpAnyL_ready {rs : List Nat} {fuel : Nat} {listed : Array Bool} {a : Act} {w : World} (hr : Region.ready md ops listed = rs) (hne : rs ≠ [])
  (h : AllReadyL P md ops Q ks fuel listed a w rs) : wpAnyL P md ops Q ks (fuel + 1) listed a w := ⟨fun h0 => absurd (hr ▸ h0) hne, hr ▸ h⟩
theorem wpAnyL_done {listed : Array Bool} {a : Act} {w : World} (hr : Region.ready md ops listed = []) (h : Q .normal a w) :
  ∀ fuel, wpAnyL P md ops Q ks fuel listed a w
 | 0 => ⟨hr, h⟩
 | _ + 1 => ⟨fun _ => h, by rw [hr]; simp⟩
theorem wp_region_L (ks : List (Nat × (World -> Prop))) {id : Nat} {a : Act} {w : World} (hm : P.follows .mixedOrders = true) (hS : SL ks (Array.replicate ops.size false) w.drew)
  (h : SL ks (Array.replicate ops.size false) w.drew -> wpAnyL P .any ops Q ks ops.size (Array.replicate ops.size false) a w.drew) : (Code.region id ops true).wp P Q a w :=
 wp_region_any hm (wpAny_of_L _ _ _ _ (h hS))
theorem tk {fuel k : Nat} {T : World -> Prop} {listed : Array Bool} {a : Act} {w : World} (n i : Nat) (oi : Oper) (v : Value) (hi : ops[i]? = some oi) (hT : ks[n]? = some (k, T)) (hy : ∀ w, T w -> (execOp a.eval oi).run P w = .ok (.value v) w) (hS : SL ks listed w)
  (h : SL ks (listed.setIfInBounds i true) w -> wpAnyL P md ops Q ks fuel (listed.setIfInBounds i true) (a.put oi.dst v) w)
  (hs : Region.noSelect ops = true := by kernel_rfl) (hf : Region.free md ops listed i = true := by kernel_rfl) (hr : (Region.ready md ops listed).contains i = true := by kernel_rfl)
  (hQ : ∀ c a w, Q (.panic c) (a.put oi.dst v) w -> Q (.panic c) a w := by exact fun _ _ _ h => h) (hn : (ks.map (·.1)).contains i = false := by kernel_rfl) (hk : killB md ops i k = true := by kernel_rfl) (hl : listed.getD k false = false := by kernel_rfl) (hw : Region.wanted oi (yielded ops a.tmps) = true := by rfl) : wpAnyL P md ops Q ks (fuel + 1) listed a w :=
 wpAnyL_take n k T hi hs hf hr hQ hT hn hk hl (.inl ⟨hw, hy⟩) hS h
theorem tu {fuel k : Nat} {T : World -> Prop} {listed : Array Bool} {a : Act} {w : World} (n i : Nat) (oi : Oper) (hi : ops[i]? = some oi) (hT : ks[n]? = some (k, T)) (hS : SL ks listed w)
  (h : SL ks (listed.setIfInBounds i true) w -> wpAnyL P md ops Q ks fuel (listed.setIfInBounds i true) (a.put oi.dst undef) w)
  (hs : Region.noSelect ops = true := by kernel_rfl) (hf : Region.free md ops listed i = true := by kernel_rfl) (hr : (Region.ready md ops listed).contains i = true := by kernel_rfl)
  (hQ : ∀ c a w, Q (.panic c) (a.put oi.dst undef) w -> Q (.panic c) a w := by exact fun _ _ _ h => h) (hn : (ks.map (·.1)).contains i = false := by kernel_rfl) (hk : killB md ops i k = true := by kernel_rfl) (hl : listed.getD k false = false := by kernel_rfl) (hw : Region.wanted oi (yielded ops a.tmps) = false := by rfl) : wpAnyL P md ops Q ks (fuel + 1) listed a w :=
 wpAnyL_take n k T hi hs hf hr hQ hT hn hk hl (.inr ⟨hw, rfl⟩) hS h
end
end Go.Proofs.YtookoagcmejkpaaGreatDoor
namespace Go.Proofs.YtookoagcmejkpaaGreatDoor
open Go Go.RowKit Go.Maps
def heldR (v : Value) : Option (DataW Value × List MemPlace) := some (.held v, [])
structure FMap (W : World) (kt : TypeId) (m : Nat) (f : Lit -> Option Value) (n : Nat) : Prop where
 has : ∃ D, W.ownsMap Tryz.prog kt heldR m n D /\ Maps.size D = n /\ Tidy D /\ (∀ kl, KeysOf Tryz.prog kt kl -> Maps.has D kl = (f kl).isSome) /\ ∀ kl v, KeysOf Tryz.prog kt kl -> f kl = some v -> ∀ z, D.atKey kl z = .held v
theorem ownsMap_tight {P : Program} {w : World} {k : TypeId} {b n : Nat} {D : DataW Value} (h : w.ownsMap P k heldR b n D) : w.ownsMap P k heldR b (Maps.size D) D := by
 obtain ⟨es, cl, h1, h2, h3, rfl⟩ := h
 exact ⟨es, cl, h1, h2, by show es.size <= Maps.size _; rw [Maps.size_eq, length_sorted]; simp, rfl⟩
theorem ownsMap_only {P : Program} {w w' : World} {k : TypeId} {b n : Nat} {D : DataW Value} {T : Nat -> Prop} (h : w.ownsMap P k heldR b n D) (ho : Only T w w') (hn : ¬ T b) : w'.ownsMap P k heldR b n D := by
 obtain ⟨es, cl, h1, h2⟩ := h
 refine ⟨es, cl, ?_, h2⟩
 rw [<- h1]
 exact ho.block b (by
  rcases Nat.lt_or_ge b w.heap.size with h | h
  ·exact h
  ·rw [Array.getElem?_eq_none h] at h1; cases h1) hn
section
variable {W : World} {kt : TypeId} {m : Nat} {f : Lit -> Option Value} {n : Nat}
theorem FMap.only {W' : World} {T : Nat -> Prop} (h : FMap W kt m f n) (ho : Only T W W') (hn : ¬ T m) : FMap W' kt m f n := by
 obtain ⟨D, h1, h2⟩ := h.has
 exact ⟨D, ownsMap_only h1 ho hn, h2⟩
theorem FMap.lt (h : FMap W kt m f n) : m < W.heap.size := by obtain ⟨D, h1, _⟩ := h.has; exact h1.lt
theorem FMap.later {W' : World} (h : FMap W kt m f n) (hb : Below W.heap.size W W') : FMap W' kt m f n := h.only (Only.of_below (T := fun _ => False) hb) (fun h => h)
theorem FMap.made (w : World) (kt : TypeId) : FMap (w.alloc (.map #[] 0)) kt w.heap.size (fun _ => none) 0 :=
 ⟨.map [], World.ownsMap_made w Tryz.prog kt heldR, rfl, tidy_empty, fun _ _ => rfl, fun _ _ _ h => by cases h⟩
theorem FMap.look_ok {t e : TypeId} (h : FMap W kt m f n) (K : Keyed Tryz.prog kt) (ht : Tryz.prog.underlying t = some (.map kt e)) {z : Value} (hz : (zeroValue e).run Tryz.prog W = .ok z W) {key : Value} {kl : Lit} (hkey : keyOf Tryz.prog kt key = some kl) :
  (Instr.lookup t (.map (some m)) key true).run Tryz.prog W = .ok (.tuple #[(f kl).getD z, .bool (f kl).isSome]) W := by
 obtain ⟨D, h1, _, _, h4, h5⟩ := h.has
 obtain ⟨v, ps, hr, hv⟩ := h1.look_ok K ht hz (show heldR z = some (.held z, []) from rfl) hkey
 rw [hr, h4 kl ⟨_, hkey⟩]
 have hv2 : (DataW.held v, ([] : List MemPlace)) = (D.atKey kl (.held z), ps) := Option.some.inj hv
 have e1 : DataW.held v = D.atKey kl (.held z) := congrArg Prod.fst hv2
 cases hf : f kl with
 | none =>
  have hn : Maps.has D kl = false := by rw [h4 kl ⟨_, hkey⟩, hf]; rfl
  rw [atKey_of_not_has hn] at e1
  cases e1
  rfl
 | some u =>
  rw [h5 kl u ⟨_, hkey⟩ hf] at e1
  cases e1
  rfl
theorem FMap.look {t e : TypeId} (h : FMap W kt m f n) (K : Keyed Tryz.prog kt) (ht : Tryz.prog.underlying t = some (.map kt e)) {z : Value} (hz : (zeroValue e).run Tryz.prog W = .ok z W) {key : Value} {kl : Lit} (hkey : keyOf Tryz.prog kt key = some kl) :
  (Instr.lookup t (.map (some m)) key false).run Tryz.prog W = .ok ((f kl).getD z) W := by
 obtain ⟨D, h1, _, _, h4, h5⟩ := h.has
 obtain ⟨v, ps, hr, hv⟩ := h1.lookup K ht hz (show heldR z = some (.held z, []) from rfl) hkey
 rw [hr]
 have hv2 : (DataW.held v, ([] : List MemPlace)) = (D.atKey kl (.held z), ps) := Option.some.inj hv
 have e1 : DataW.held v = D.atKey kl (.held z) := congrArg Prod.fst hv2
 cases hf : f kl with
 | none =>
  have hn : Maps.has D kl = false := by rw [h4 kl ⟨_, hkey⟩, hf]; rfl
  rw [atKey_of_not_has hn] at e1
  cases e1
  rfl
 | some u =>
  rw [h5 kl u ⟨_, hkey⟩ hf] at e1
  cases e1
  rfl
open Classical in
noncomputable
def updF (f : Lit -> Option Value) (kl : Lit) (v : Option Value) : Lit -> Option Value := fun k => @ite _ (k = kl) (Classical.propDecidable _) v (f k)
theorem FMap.put {t e : TypeId} (h : FMap W kt m f n) (K : Keyed Tryz.prog kt) (ht : Tryz.prog.underlying t = some (.map kt e)) (hn : n < maxLen) {key : Value} {kl : Lit} (hkey : keyOf Tryz.prog kt key = some kl) (v : Value) :
  ∃ w', (Instr.mapUpdate t (.map (some m)) key v).run Tryz.prog W = .ok () w' /\ FMap w' kt m (updF f kl (some v)) (if (f kl).isSome then n else n + 1) /\ W.grownBy w' (some m) := by
 obtain ⟨D, h1, h2, h3, h4, h5⟩ := h.has
 obtain ⟨w', hr, ho, hg⟩ := h1.update K ht hn hkey (show heldR v = some (.held v, []) from rfl)
 refine ⟨w', hr, ⟨D.put kl (.held v), ?_, ?_, ?_, ?_, ?_⟩, hg⟩
 ·have := ownsMap_tight ho
  rw [size_put h3, h2, h4 kl ⟨_, hkey⟩] at this
  exact this
 ·rw [size_put h3, h2, h4 kl ⟨_, hkey⟩]
 ·exact h3.put (K.key hkey) _
 ·intro k hk
  unfold updF
  by_cases e : k = kl
  ·subst e; rw [if_pos rfl, has_put_same h3.isMap (K.key hkey)]; rfl
  ·rw [if_neg e, has_put_other e]; exact h4 k hk
 ·intro k u hk hu z
  unfold updF at hu
  by_cases e : k = kl
  ·subst e
   rw [if_pos rfl] at hu
   cases hu
   exact atKey_put_same h3.isMap (K.key hkey) _ z
  ·rw [if_neg e] at hu
   rw [atKey_put_other e]
   exact h5 k u hk hu z
end
section
variable {w : World} {ops : Array Oper} {rest : List Oper} {o : Oper} {a : Act} {Q : Exit -> Act -> World -> Prop}
theorem wp_op_run {K : Act -> World -> Prop} {t : TypeId} {m x : Operand} {ok : Bool} (hop : o.op = Op.lookup t m x ok) {mv key u : Value} (hm : a.eval m = mv) (hx : a.eval x = key) (hr : (Instr.lookup t mv key ok).run Tryz.prog w = .ok u w) (h : K (a.put o.dst u) w) : o.wp Tryz.prog a w K Q := by
 unfold Oper.wp
 simp [execOp, hop, hm, hx, hr, Result.andThen]
 exact h
end
end Go.Proofs.YtookoagcmejkpaaGreatDoor
namespace Go.Proofs.YtookoagcmejkpaaGreatDoor
set_option maxRecDepth 100000
open Go Go.RowKit
theorem own_cap {w : World} {base n c : Nat} {e : TypeId} {size : Nat} {p : Option Addr} {xs : List Value} (h : w.ownsRow base e size (.slice p n c) n xs) : n <= c := by
 rcases h with ⟨h0, ⟨h1, h2⟩ | ⟨g, cap, cur, hv, hg, hh, hn, hm, hs, ht⟩⟩
 ·injection h1 with _ h3 h4; omega
 ·injection hv with _ _ h4; subst h4; omega

theorem wp_append_own_at {P : Program} {w : World} {o : Oper} {a : Act} {K : Act -> World -> Prop} {Q : Exit -> Act -> World -> Prop} (s x : Operand) (t : TypeId)
  (ho : o.op = .call { callee := .builtin .append, args := #[s, x], argTypes := #[t, t] })
  (base : Nat) (e : TypeId) (i : TypeInfo) (z : Value) (size bytes : Nat) (ht : P.underlying t = some (.slice e)) (hi : P.info? e = some i) (hz : i.zero = some z)
  (hsize : i.size = size) (hby : i.bytes = bytes) (hzs : z.cells.size = size) (hsz : 0 < size)
  (v : Value) (n : Nat) (xs : List Value) (hs : a.eval s = v) (hown : w.ownsRow base e size v n xs)
  (ad : Addr) (m c : Nat) (news : List Value) (hx : a.eval x = .slice (some ad) m c) (hl : news.length = m * size) (hnews : ∀ j u, news[j]? = some u -> w.cell? (ad.add j) = some u) (h1 : ∀ u ∈ news, u.oneCell' = true)
  (h63 : n + m <= maxLen) (hbytes : (n + m) * bytes <= 140737488355328) (hbase : base <= w.heap.size)
  (h : ∀ v' w', w'.ownsRow base e size v' (n + m) (xs ++ news) -> w.grownBy w' v.ownBlock -> (v' = .slice none 0 0 ↔ v = .slice none 0 0 /\ m = 0) -> (v'.ownBlock = v.ownBlock \/ v'.ownBlock = some w.heap.size) -> K (a.put o.dst v') w') : o.wp P a w K Q := by
 obtain ⟨v', w', hr, h2, h3, h4, h5⟩ := run_append_own_at (P := P) w base t o.type e i z size bytes ht hi hz hsize hby hzs hsz v n xs hown ad m c news hl hnews h1 h63 hbytes hbase
 unfold Oper.wp execOp
 simp only [ho, resolve, invoke, builtin, Sem.run_bind, Sem.run_pure, Result.andThen_ok, List.map_toArray, List.map_cons, List.map_nil, hs, hx, hr]
 exact h v' w' h2 h3 h4 h5
def Z41 : Value := .agg #[.bool false, .int .u8 0, .string ⟨#[]⟩, .int .i64 0, .slice none 0 0]
theorem info41 : ∃ i0, Tryz.prog.info? 35 = some i0 /\ i0.zero = some Z41 /\ i0.size = 5 /\ i0.bytes = 64 := info_of (by kernel_rfl)
def trC (l : Bool) (k : Int) (s : ByteArray) (a : Int) (q : Option Addr) (n c : Nat) : List Value := [.bool l, .int .u8 k, .string s, .int .i64 a, .slice q n c]
def RowF (W : World) (F : Nat -> Prop) : Fo -> List Value -> Prop
 | .nil, xs => xs = []
 | .cons l k s a x r, xs => ∃ q c ys, xs = trC l k s a q x.len c ++ ys /\ x.len <= c /\ x.len <= 281474976710656 /\ FoIn W F x q /\ RowF W F r ys
theorem RowF.move {W W' : World} {F F' : Nat -> Prop} (hc : ∀ b o v, F b -> W.cell? ⟨b, o, none⟩ = some v -> W'.cell? ⟨b, o, none⟩ = some v /\ F' b) : ∀ (f : Fo) (xs : List Value), RowF W F f xs -> RowF W' F' f xs
 | .nil, _, h => h
 | .cons l k s a x r, xs, h => by
  obtain ⟨q, c, ys, e, h1, h2, h3, h4⟩ := h
  exact ⟨q, c, ys, e, h1, h2, FoIn.move hc _ _ h3, RowF.move hc r ys h4⟩
theorem RowF.later {W W' : World} {F : Nat -> Prop} {f : Fo} {xs : List Value} (h : RowF W F f xs) (hb : Below W.heap.size W W') : RowF W' F f xs :=
 RowF.move (fun _ _ _ hF hv => ⟨cell_later hb hv, hF⟩) f xs h
theorem RowF.only {W W' : World} {F T : Nat -> Prop} {f : Fo} {xs : List Value} (h : RowF W F f xs) (ho : Only T W W') (hn : ∀ b, F b -> ¬ T b) : RowF W' F f xs :=
 RowF.move (fun _ _ _ hF hv => ⟨ho.cell hv (hn _ hF), hF⟩) f xs h
theorem RowF.mono {W : World} {F F' : Nat -> Prop} {f : Fo} {xs : List Value} (h : RowF W F f xs) (hn : ∀ b, F b -> b < W.heap.size -> F' b) : RowF W F' f xs :=
 RowF.move (fun b _ _ hF hv => ⟨hv, hn b hF (World.block_lt_of_cell? W _ hv)⟩) f xs h
theorem RowF.snoc {W : World} {F : Nat -> Prop} {l : Bool} {k : Int} {s : ByteArray} {a : Int} {x : Fo} {q : Option Addr} {c : Nat} (h1 : x.len <= c) (h2 : x.len <= 281474976710656) (hx : FoIn W F x q) : ∀ (f : Fo) (xs : List Value), RowF W F f xs -> RowF W F (f.snoc l k s a x) (xs ++ trC l k s a q x.len c)
 | .nil, xs, h => by
  obtain rfl : xs = [] := h
  exact ⟨q, c, [], by simp, h1, h2, hx, rfl⟩
 | .cons l0 k0 s0 a0 x0 r, xs, h => by
  obtain ⟨q0, c0, ys, rfl, h3, h4, h5, h6⟩ := h
  exact ⟨q0, c0, ys ++ trC l k s a q x.len c, by simp, h3, h4, h5, RowF.snoc h1 h2 hx r ys h6⟩
theorem RowF.foIn {W : World} {F F' : Nat -> Prop} {g : Nat} (hg : F' g) (hF : ∀ b, F b -> F' b) : ∀ (f : Fo) (xs : List Value) (off : Nat), RowF W F f xs -> (∀ j u, xs[j]? = some u -> W.cell? ⟨g, off + j, none⟩ = some u) -> FoIn W F' f (some ⟨g, off, none⟩)
 | .nil, _, _, _, _ => trivial
 | .cons l0 k0 s0 a0 x0 r, xs, off, h, hc => by
  obtain ⟨q0, c0, ys, rfl, h3, h4, h5, h6⟩ := h
  refine ⟨g, off, rfl, hg, hc 0 _ rfl, hc 1 _ rfl, hc 2 _ rfl, hc 3 _ rfl, ⟨q0, c0, hc 4 _ rfl, h3, h4, FoIn.move (fun b _ _ hb hv => ⟨hv, hF b hb⟩) _ _ h5⟩, ?_⟩
  refine RowF.foIn hg hF r ys (off + 5) h6 (fun j u hu => ?_)
  have := hc (5 + j) u (by rw [List.getElem?_append_right (by simp [trC])]; simpa [trC] using hu)
  rw [<- Nat.add_assoc] at this
  exact this
theorem own_cell5 {w : World} {base n c : Nat} {e : TypeId} {g : Nat} {xs : List Value} (h : w.ownsRow base e 5 (.slice (some ⟨g, 0, none⟩) n c) n xs) (i : Nat) (u : Value) (hu : xs[i]? = some u) : w.cell? ⟨g, i, none⟩ = some u /\ w.frozen? ⟨g, i, none⟩ = false := by
 obtain ⟨h0, ⟨h1, _⟩ | ⟨g', cap, cur, hv, hg, hh, hn, hm, hs, ht⟩⟩ := h
 ·cases h1
 ·cases hv
  have hlt := (List.getElem?_eq_some_iff.1 hu).1
  rw [<- ht, List.getElem?_take_of_lt (by omega)] at hu
  have e' : cur[i]? = some u := by simpa using hu
  exact ⟨by simp [World.cell?, hh, e'], by simp [World.frozen?, hh]⟩
def OwnF (W : World) (base : Nat) (v : Value) (f : Fo) : Prop := ∃ xs, W.ownsRow base 35 5 v f.len xs /\ RowF W (fun b => base <= b /\ v.ownBlock ≠ some b) f xs
theorem OwnF.only {W W' : World} {base : Nat} {v : Value} {f : Fo} {T : Nat -> Prop} (h : OwnF W base v f) (ho : Only T W W') (hn : ∀ b, base <= b -> ¬ T b) : OwnF W' base v f := by
 obtain ⟨xs, h1, h2⟩ := h
 exact ⟨xs, own_only h1 ho (fun k hk => hn k (own_lt h1 hk).1), h2.only ho (fun b hb => hn b hb.1)⟩
structure BoxT (w : World) (b : Nat) (l : Bool) (k : Int) (s : ByteArray) (a : Int) (v : Value) : Prop where
 c0 : w.cell? ⟨b, 0, none⟩ = some (.bool l)
 c1 : w.cell? ⟨b, 1, none⟩ = some (.int .u8 k)
 c2 : w.cell? ⟨b, 2, none⟩ = some (.string s)
 c3 : w.cell? ⟨b, 3, none⟩ = some (.int .i64 a)
 c4 : w.cell? ⟨b, 4, none⟩ = some v
 fz : ∀ o, w.frozen? ⟨b, o, none⟩ = false
theorem BoxT.later {w w' : World} {b : Nat} {l : Bool} {k : Int} {s : ByteArray} {a : Int} {v : Value} (h : BoxT w b l k s a v) (hb : Below w.heap.size w w') : BoxT w' b l k s a v :=
 ⟨cell_later hb h.c0, cell_later hb h.c1, cell_later hb h.c2, cell_later hb h.c3, cell_later hb h.c4, fun o => by rw [hb.frozen (p := ⟨b, o, none⟩) (World.block_lt_of_cell? w ⟨b, 0, none⟩ h.c0)]; exact h.fz o⟩
theorem BoxT.only {w w' : World} {b : Nat} {l : Bool} {k : Int} {s : ByteArray} {a : Int} {v : Value} {T : Nat -> Prop} (h : BoxT w b l k s a v) (ho : Only T w w') (hn : ¬ T b) : BoxT w' b l k s a v :=
 ⟨ho.cell h.c0 hn, ho.cell h.c1 hn, ho.cell h.c2 hn, ho.cell h.c3 hn, ho.cell h.c4 hn, fun o => by rw [ho.frozen (a := ⟨b, o, none⟩) (World.block_lt_of_cell? w ⟨b, 0, none⟩ h.c0) hn]; exact h.fz o⟩
theorem BoxT.lt {w : World} {b : Nat} {l : Bool} {k : Int} {s : ByteArray} {a : Int} {v : Value} (h : BoxT w b l k s a v) : b < w.heap.size := World.block_lt_of_cell? w _ h.c0
theorem BoxT.set4 {w : World} {b : Nat} {l : Bool} {k : Int} {s : ByteArray} {a : Int} {v : Value} (h : BoxT w b l k s a v) (v' : Value) : BoxT (w.setCell ⟨b, 4, none⟩ v') b l k s a v' := by
 refine ⟨?_, ?_, ?_, ?_, ?_, fun o => ?_⟩
 ·rw [World.cell?_setCell_other _ _ _ _ (by intro e; cases e)]; exact h.c0
 ·rw [World.cell?_setCell_other _ _ _ _ (by intro e; cases e)]; exact h.c1
 ·rw [World.cell?_setCell_other _ _ _ _ (by intro e; cases e)]; exact h.c2
 ·rw [World.cell?_setCell_other _ _ _ _ (by intro e; cases e)]; exact h.c3
 ·have := h.c4
  have hf := h.fz 4
  simp [go_sem, this]
 ·have := h.fz o
  simp [go_sem, this]
theorem box_new (w : World) (l : Bool) (k : Int) (s : ByteArray) (a : Int) (v : Value) : BoxT (w.alloc (.cells #[.bool l, .int .u8 k, .string s, .int .i64 a, v] 35)) w.heap.size l k s a v :=
 ⟨by simp [go_sem], by simp [go_sem], by simp [go_sem], by simp [go_sem], by simp [go_sem], fun o => by simp [go_sem]⟩
theorem symbol65 (s : ByteArray) (W : World) : Calls Tryz.prog 65 #[.string s] W fun e w' => e = .returned (trV false 3 s 0 none 0 0) /\ Below W.heap.size W w' := by
 go_enter Tryz.func65, Tryz.ntmps65
 go_wp2_with fail
 exact bodyPost_ret (v := trV false 3 s 0 none 0 0) (by simp [trV, results, Tryz.results65, go_sem]) rfl ⟨rfl, by repeat (first | exact Below.refl _ _ | refine Below.alloc ?_ (by simp) _)⟩
theorem own_one (w1 : World) (s : ByteArray) : OwnF (w1.alloc (.cells #[.bool false, .int .u8 3, .string s, .int .i64 0, .slice none 0 0] 35)) w1.heap.size (.slice (some ⟨w1.heap.size, 0, none⟩) 1 1) (.cons false 3 s 0 .nil .nil) :=
 ⟨trC false 3 s 0 none 0 0, ⟨rfl, .inr ⟨w1.heap.size, 1, #[.bool false, .int .u8 3, .string s, .int .i64 0, .slice none 0 0], rfl, Nat.le_refl _, Array.getElem?_push_size, Nat.le_refl _, by decide, rfl, rfl⟩⟩, none, 0, [], by simp [Fo.len], Nat.le_refl _, Nat.zero_le _, trivial, rfl⟩
theorem list29 (s : ByteArray) (W : World) : Calls Tryz.prog 29 #[.string s] W fun e w' => ∃ g, e = .returned (trV true 1 ⟨#[40]⟩ 0 (some ⟨g, 0, none⟩) 1 1) /\ W.heap.size < g /\ OwnF w' g (.slice (some ⟨g, 0, none⟩) 1 1) (.cons false 3 s 0 .nil .nil) /\ Below W.heap.size W w' := by
 go_enter Tryz.func29, Tryz.ntmps29
 go_wp2_with fail
 refine (symbol65 s _).mono ?_
 rintro e w1 ⟨rfl, hb⟩
 have HB := Lib.hid (Below.trans (show Below W.heap.size W _ from by repeat (first | exact Below.refl _ _ | refine Below.alloc ?_ (by simp) _)) (hb.mono (by simp)))
 obtain ⟨W0, hW0⟩ : ∃ W0, W0 = W.alloc (.cells #[.bool false, .int .u8 0, .string ⟨#[]⟩, .int .i64 0, .slice none 0 0] 35) := ⟨_, rfl⟩
 have hbx0 := box_new W false 0 ⟨#[]⟩ 0 (.slice none 0 0)
 have hbx1 := hbx0.later hb
 have hbx := hbx1.later (below1 w1 (.cells #[.bool false, .int .u8 3, .string s, .int .i64 0, .slice none 0 0] 35))
 have HLT := Lib.hid hbx1.lt
 obtain ⟨z0, z1, z2, z3, z4, zf⟩ := hbx
 clear hb hbx0 hbx1 hW0 W0
 unfold trV
 go_wp2_with fail
 refine bodyPost_ret (v := trV true 1 ⟨#[40]⟩ 0 (some ⟨w1.heap.size, 0, none⟩) 1 1) (by simp [trV, results, Tryz.results29, go_sem, z0, z1, z2, z3, z4]) rfl ⟨w1.heap.size, rfl, HLT.out, ?_, ?_⟩
 ·have hn : ∀ o b, w1.heap.size <= b -> ¬ b = (⟨W.heap.size, o, none⟩ : Addr).block := fun o b h e => by
   have h1 := HLT.out
   simp only at e
   omega
  exact (((((own_one w1 s).only (Only.of_setCell _ _ _) (hn _)).only (Only.of_setCell _ _ _) (hn _)).only (Only.of_setCell _ _ _) (hn _)).only (Only.of_setCell _ _ _) (hn _)).only (Only.of_setCell _ _ _) (hn _)
 ·iterate 5 refine Below.setCell ?_ (show W.heap.size <= W.heap.size from Nat.le_refl _) _
  exact HB.out.alloc HB.out.size _
end Go.Proofs.YtookoagcmejkpaaGreatDoor
