/- A number's text: the document's digits. What a link that may be is: plain. What a step that may be is: plain. A number's tree, where it isn't negative: the document's. Trees of numbers, links and step -/
import Derived.Test.YtookoagcmejkpaaGreatDoorDW4
import Derived.Test.YtookoagcmejkpaaGreatDoorDRefOf
import Derived.Test.YtookoagcmejkpaaGreatDoorDRefText
import Derived.Test.YtookoagcmejkpaaGreatDoorS7
import Derived.Test.YtookoagcmejkpaaGreatDoorJ8
import Derived.Test.YtookoagcmejkpaaGreatDoorF2
import Derived.Test.YtookoagcmejkpaaGreatDoorJ0
import Derived.Test.YtookoagcmejkpaaGreatDoorJ2
import Derived.Lib.ItoaLen
import Derived.Lib.Join
set_option maxHeartbeats 1600000
namespace Go.Proofs.YtookoagcmejkpaaGreatDoor
set_option maxRecDepth 100000
open Go Go.RowKit Go.Sort
theorem qto (n : Int) (h0 : -9223372036854775808 <= n) (h1 : n <= 9223372036854775807) :
  dn n 0 = e0 n.natAbs /\ dn n 1 = e1 n.natAbs /\ dn n 2 = e2 n.natAbs /\ dn n 3 = e3 n.natAbs := by
 rcases Int.lt_or_le n 0 with hn | hn
 ·obtain ⟨m, rfl⟩ : ∃ m : Int, n = -m := ⟨-n, by omega⟩
  have ha : ((-m).natAbs : Int) = m := by omega
  rw [ha];have q : ∀ d : Int, (-m).tdiv d = -(m / d) := fun d => by rw [Int.neg_tdiv, Int.tdiv_eq_ediv_of_nonneg (by omega)]
  have r : ∀ x : Int, 0 <= x -> (if (-x).tmod 65536 < 0 then -((-x).tmod 65536) else (-x).tmod 65536) = x % 65536 := fun x hx => by
   rw [Int.neg_tmod, Int.tmod_eq_emod_of_nonneg hx]; split <;> omega
  refine ⟨?_, ?_, ?_, ?_⟩
  ·show (if (-m).tmod 65536 < 0 then -((-m).tmod 65536) else (-m).tmod 65536) = _
   rw [r m (by omega)]; rfl
  ·show (if ((-m).tdiv 65536).tmod 65536 < 0 then -(((-m).tdiv 65536).tmod 65536) else ((-m).tdiv 65536).tmod 65536) = _
   rw [q, r _ (by omega)]; rfl
  ·show (if ((-m).tdiv 4294967296).tmod 65536 < 0 then -(((-m).tdiv 4294967296).tmod 65536) else ((-m).tdiv 4294967296).tmod 65536) = _
   rw [q, r _ (by omega)]; rfl
  ·show (if ((-m).tdiv 281474976710656).tmod 65536 < 0 then -(((-m).tdiv 281474976710656).tmod 65536) else ((-m).tdiv 281474976710656).tmod 65536) = _
   rw [q, r _ (by omega)]; unfold e3; omega
 ·have ha : (n.natAbs : Int) = n := by omega
  rw [ha];have q : ∀ d : Int, n.tdiv d = n / d := fun d => Int.tdiv_eq_ediv_of_nonneg hn
  have r : ∀ x : Int, 0 <= x -> (if x.tmod 65536 < 0 then -(x.tmod 65536) else x.tmod 65536) = x % 65536 := fun x hx => by
   rw [Int.tmod_eq_emod_of_nonneg hx]; split <;> omega
  refine ⟨?_, ?_, ?_, ?_⟩
  ·show (if n.tmod 65536 < 0 then -(n.tmod 65536) else n.tmod 65536) = _
   rw [r n hn]; rfl
  ·show (if (n.tdiv 65536).tmod 65536 < 0 then -((n.tdiv 65536).tmod 65536) else (n.tdiv 65536).tmod 65536) = _
   rw [q, r _ (by omega)]; rfl
  ·show (if (n.tdiv 4294967296).tmod 65536 < 0 then -((n.tdiv 4294967296).tmod 65536) else (n.tdiv 4294967296).tmod 65536) = _
   rw [q, r _ (by omega)]; rfl
  ·show (if (n.tdiv 281474976710656).tmod 65536 < 0 then -((n.tdiv 281474976710656).tmod 65536) else (n.tdiv 281474976710656).tmod 65536) = _
   rw [q, r _ (by omega)]; unfold e3; omega

theorem qib (w : World) :
  Calls Tryz.prog 79 #[.agg #[.bool false, .int .i64 (e0 0), .int .i64 (e1 0), .int .i64 (e2 0), .int .i64 (e3 0), .int .i64 0, .int .i64 0, .int .i64 0, .int .i64 0, .int .i64 0, .int .i64 0]] w fun e w' => e = .returned (.string ⟨#[48]⟩) /\ Below w.heap.size w w' := by
 have HZ := Zh (show decide ((0 : Int) = 0) = true from rfl);go_enter Tryz.func79, Tryz.ntmps79
 go_wp2_with fail
 refine (qj2 0 _ _ (by omega) (by omega) HZ.o).mono ?_;rintro e w1 ⟨rfl, hb⟩;have hB : Below w.heap.size w w1 := ((Below.refl _ _).alloc (Nat.le_refl _) _).trans (hb.mono (by simp only [World.size_alloc]; omega))
 go_wp2_with fail
 go_ret
 exact ⟨rfl, hB⟩

theorem qq9 (n : Int) (w : World) (h0 : -9223372036854775808 <= n) (h1 : n <= 9223372036854775807) :
  Calls Tryz.prog 79 #[.agg (oc0 n 4)] w fun e w' => e = .returned (.string ⟨(Lib.itoa n).toArray⟩) /\ Below w.heap.size w w' := by
 obtain ⟨d0, d1, d2, d3⟩ := qto n h0 h1
 have e : oc0 n 4 = #[.bool (decide (n < 0)), .int .i64 (e0 n.natAbs), .int .i64 (e1 n.natAbs), .int .i64 (e2 n.natAbs), .int .i64 (e3 n.natAbs), .int .i64 0, .int .i64 0, .int .i64 0, .int .i64 0, .int .i64 0, .int .i64 0] := by
  rw [<- d0, <- d1, <- d2, <- d3]; rfl
 rw [e]
 by_cases hz : n = 0
 ·subst hz
  refine (qib w).mono ?_;rintro e w' ⟨rfl, hb⟩;refine ⟨?_, hb⟩;have : Lib.itoa 0 = [48] := by unfold Lib.itoa; rw [if_neg (by omega), show (0 : Int).toNat = 0 from rfl, Lib.decDigits_one (by omega)]; rfl
  rw [this]
 ·refine (qje (decide (n < 0)) n.natAbs w (by omega) (by omega) (by omega)).mono ?_
  rintro e w' ⟨rfl, hb⟩;refine ⟨?_, hb⟩;unfold Lib.itoa
  by_cases hn : n < 0
  ·rw [if_pos hn, decide_eq_true hn]; simp
  ·rw [if_neg hn, decide_eq_false hn, show ((n.natAbs : Int)).toNat = n.toNat by omega]; simp
end Go.Proofs.YtookoagcmejkpaaGreatDoor
namespace Go.Proofs.YtookoagcmejkpaaGreatDoor
open Go Go.RowKit
theorem qfp (g : Bool) (x : Int) (h : fldC g x = true) : cntB x = true := by
 cases g with
 | true => exact h
 | false =>
  have h0 : x = 0 := by simpa [fldC] using h
  subst h0
  rfl
theorem qf3 {k lit a b i j : Int} {l : List Int} (h : qaz ⟨k, lit, a, b, i, j, l⟩ = true) : cntB a = true /\ cntB b = true /\ cntB i = true /\ cntB j = true /\ l.length <= 20 /\ l.all cntB = true /\ fmL k ≠ none /\ ((k = 1 \/ k = 6) -> litB lit = true) := by
 unfold qaz at h;simp only at h
 cases hf : fmL k with
 | none => rw [hf] at h; simp at h
 | some f =>
  rw [hf] at h;simp only [Bool.and_eq_true, decide_eq_true_eq] at h;obtain ⟨⟨⟨⟨⟨⟨⟨h1, h2⟩, h3⟩, h4⟩, h5⟩, h6⟩, h7⟩, h8⟩ := h;refine ⟨qfp _ _ h5, qfp _ _ h6, qfp _ _ h7, qfp _ _ h8, h1, h4, by simp, ?_⟩;rintro (rfl | rfl)
  ·have e : fmL 1 = some ⟨true, false, false, false, false, false⟩ := rfl
   rw [e] at hf; injection hf with hf; subst hf; exact h3
  ·have e : fmL 6 = some ⟨true, false, false, true, false, false⟩ := rfl
   rw [e] at hf; injection hf with hf; subst hf; exact h3
theorem lk_1 (lit a b i j : Int) (l : List Int) (h : litB lit = true) : decide ((⟨1, lit, a, b, i, j, l⟩ : Lk) = ⟨1, lit, 0, 0, 0, 0, []⟩) = qaz ⟨1, lit, a, b, i, j, l⟩ := by
 have e : fmL 1 = some ⟨true, false, false, false, false, false⟩ := rfl;rw [Bool.eq_iff_iff];unfold qaz;simp only [e]
 cases l with
 | nil => simp [fldL, fldC, h, and_assoc]
 | cons x xs => simp [fldL, fldC]
theorem lk_2 (lit a b i j : Int) (l : List Int) (h : cntB a = true) : decide ((⟨2, lit, a, b, i, j, l⟩ : Lk) = ⟨2, 0, a, 0, 0, 0, []⟩) = qaz ⟨2, lit, a, b, i, j, l⟩ := by
 have e : fmL 2 = some ⟨false, true, false, false, false, false⟩ := rfl;rw [Bool.eq_iff_iff];unfold qaz;simp only [e]
 cases l with
 | nil => simp [fldL, fldC, h, and_assoc]
 | cons x xs => simp [fldL, fldC]
theorem lk_3 (lit a b i j : Int) (l : List Int) (h : cntB i = true) : decide ((⟨3, lit, a, b, i, j, l⟩ : Lk) = ⟨3, 0, 0, 0, i, 0, []⟩) = qaz ⟨3, lit, a, b, i, j, l⟩ := by
 have e : fmL 3 = some ⟨false, false, false, true, false, false⟩ := rfl;rw [Bool.eq_iff_iff];unfold qaz;simp only [e]
 cases l with
 | nil => simp [fldL, fldC, h, and_assoc]
 | cons x xs => simp [fldL, fldC]
theorem lk_7 (lit a b i j : Int) (l : List Int) (h : cntB i = true) : decide ((⟨7, lit, a, b, i, j, l⟩ : Lk) = ⟨7, 0, 0, 0, i, 0, []⟩) = qaz ⟨7, lit, a, b, i, j, l⟩ := by
 have e : fmL 7 = some ⟨false, false, false, true, false, false⟩ := rfl;rw [Bool.eq_iff_iff];unfold qaz;simp only [e]
 cases l with
 | nil => simp [fldL, fldC, h, and_assoc]
 | cons x xs => simp [fldL, fldC]
theorem lk_4 (lit a b i j : Int) (l : List Int) (h : cntB i = true) (h2 : cntB j = true) : decide ((⟨4, lit, a, b, i, j, l⟩ : Lk) = ⟨4, 0, 0, 0, i, j, []⟩) = qaz ⟨4, lit, a, b, i, j, l⟩ := by
 have e : fmL 4 = some ⟨false, false, false, true, true, false⟩ := rfl;rw [Bool.eq_iff_iff];unfold qaz;simp only [e]
 cases l with
 | nil => simp [fldL, fldC, h, h2, and_assoc]
 | cons x xs => simp [fldL, fldC]
theorem lk_5 (lit a b i j : Int) (l : List Int) (h : cntB a = true) (h2 : cntB b = true) (h3 : l.length <= 20) (h4 : l.all cntB = true) : decide ((⟨5, lit, a, b, i, j, l⟩ : Lk) = ⟨5, 0, a, b, 0, 0, l⟩) = qaz ⟨5, lit, a, b, i, j, l⟩ := by
 have e : fmL 5 = some ⟨false, true, true, false, false, true⟩ := rfl;rw [Bool.eq_iff_iff];unfold qaz;simp only [e, h4, decide_eq_true h3];simp [fldL, fldC, h, h2, and_assoc]
theorem lk_6 (lit a b i j : Int) (l : List Int) (h : litB lit = true) (h2 : cntB i = true) : decide ((⟨6, lit, a, b, i, j, l⟩ : Lk) = ⟨6, lit, 0, 0, i, 0, []⟩) = qaz ⟨6, lit, a, b, i, j, l⟩ := by
 have e : fmL 6 = some ⟨true, false, false, true, false, false⟩ := rfl;rw [Bool.eq_iff_iff];unfold qaz;simp only [e]
 cases l with
 | nil => simp [fldL, fldC, h, h2, and_assoc]
 | cons x xs => simp [fldL, fldC]
theorem qbn {k a b : Int} {lits : List Int} {links : List Lk} (h : qau ⟨k, lits, links, a, b⟩ = true) : cntB a = true /\ cntB b = true /\ lits.length <= 5000 /\ links.length <= 20000 /\ lits.all litB = true /\ links.all qaz = true /\ (k = 1 \/ k = 3 \/ k = 2 \/ k = 4) := by
 unfold qau at h;simp only at h
 by_cases k1 : k = 1 \/ k = 3
 ·rw [if_pos k1] at h
  simp only [Bool.and_eq_true, decide_eq_true_eq] at h;obtain ⟨⟨⟨⟨h1, h2⟩, h3⟩, h4⟩, h5⟩ := h;subst h4;subst h5;exact ⟨rfl, rfl, h1, by omega, h2, by rw [List.eq_nil_of_length_eq_zero h3]; rfl, k1.elim .inl (fun h => .inr (.inl h))⟩
 rw [if_neg k1] at h
 by_cases k2 : k = 2
 ·rw [if_pos k2] at h
  simp only [Bool.and_eq_true, decide_eq_true_eq] at h;obtain ⟨⟨⟨⟨h1, h2⟩, h3⟩, h4⟩, h5⟩ := h;subst h4;subst h5;exact ⟨rfl, rfl, by omega, h2, by rw [List.eq_nil_of_length_eq_zero h1]; rfl, h3, .inr (.inr (.inl k2))⟩
 rw [if_neg k2] at h
 by_cases k4 : k = 4
 ·rw [if_pos k4] at h
  simp only [Bool.and_eq_true, decide_eq_true_eq] at h;obtain ⟨⟨⟨h1, h2⟩, h3⟩, h4⟩ := h;exact ⟨h3, h4, by omega, by omega, by rw [List.eq_nil_of_length_eq_zero h1]; rfl, by rw [List.eq_nil_of_length_eq_zero h2]; rfl, .inr (.inr (.inr k4))⟩
 rw [if_neg k4] at h;exact absurd h (by decide)
theorem qm1 (k a b : Int) (lits : List Int) (links : List Lk) (hk : k = 1 \/ k = 3) (h1 : lits.length <= 5000) (h2 : lits.all litB = true) : decide ((⟨k, lits, links, a, b⟩ : Stp) = ⟨k, lits, [], 0, 0⟩) = qau ⟨k, lits, links, a, b⟩ := by
 unfold qau;simp only;rw [if_pos hk, h2, decide_eq_true h1];rw [Bool.eq_iff_iff];cases links <;> simp
theorem qo8 (a b : Int) (lits : List Int) (links : List Lk) (h1 : links.length <= 20000) (h2 : links.all qaz = true) : decide ((⟨2, lits, links, a, b⟩ : Stp) = ⟨2, [], links, 0, 0⟩) = qau ⟨2, lits, links, a, b⟩ := by
 unfold qau;simp only;rw [if_neg (by decide), if_pos trivial, h2, decide_eq_true h1];rw [Bool.eq_iff_iff];cases lits <;> simp
theorem qq5 (a b : Int) (lits : List Int) (links : List Lk) (h1 : cntB a = true) (h2 : cntB b = true) : decide ((⟨4, lits, links, a, b⟩ : Stp) = ⟨4, [], [], a, b⟩) = qau ⟨4, lits, links, a, b⟩ := by
 unfold qau;simp only;rw [if_neg (by decide), if_neg (by decide), if_pos trivial, h1, h2];rw [Bool.eq_iff_iff];cases lits <;> cases links <;> simp
set_option maxRecDepth 100000
theorem qcn (n : Int) (W : World) (h0 : 0 <= n) (h1 : n <= 9223372036854775807) : Calls Tryz.prog 51 #[.int .i64 n] W fun e w' => e = .returned (trV false 4 (itoB n) 0 none 0 0) /\ Below W.heap.size W w' := by
 have HO := Zh (fun w => qsn n w (by omega) h1);have HX := Zh (fun w => qq9 n w (by omega) h1);have hneg : ¬ n < 0 := by omega
 obtain ⟨row, hrow⟩ : ∃ r, r = oc0 n 4 := ⟨_, rfl⟩;rw [<- hrow] at HO HX;clear hrow;go_enter Tryz.func51, Tryz.ntmps51
 go_wp2_with fail
 refine (HO.o _).mono ?_;rintro e w1 ⟨rfl, hb⟩;have hbx := (qam W false 0 ⟨#[]⟩ 0 (.slice none 0 0)).later hb;have HB := Zh (Below.trans (qab W (.cells #[.bool false, .int .u8 0, .string ⟨#[]⟩, .int .i64 0, .slice none 0 0] 35)) (hb.mono (by simp)));clear hb
 go_wp2_with fail
 refine (HX.o _).mono ?_;rintro e w2 ⟨rfl, hb⟩;have HB2 := Zh (HB.o.trans (hb.mono HB.o.size));obtain ⟨z0, z1, z2, z3, z4, zf⟩ := hbx.later hb;clear hb hbx
 go_wp2_with fail
 refine bodyPost_ret (v := trV false 4 (itoB n) 0 none 0 0) (by simp [trV, itoB, results, Tryz.results51, go_sem, z0, z1, z2, z3, z4]) rfl ⟨rfl, ?_⟩
 iterate 5 refine Below.setCell ?_ (show W.heap.size <= W.heap.size from Nat.le_refl _) _
 exact HB2.o
def nuL (n : Int) : Bool := decide (n < 0)
def nuK (n : Int) : Int := if n < 0 then 1 else 4
def nuS (n : Int) : ByteArray := if n < 0 then ⟨#[40]⟩ else itoB n
def nuX (n : Int) : Fo := if n < 0 then .cons false 3 ⟨#[45]⟩ 0 .nil (.cons false 4 (itoB (-n)) 0 .nil .nil) else .nil
def nusF : List Int -> Fo
 | [] => .nil
 | n :: r => .cons (nuL n) (nuK n) (nuS n) 0 (nuX n) (nusF r)
theorem qdw (l : List Int) (n : Int) : nusF (l ++ [n]) = (nusF l).snoc (nuL n) (nuK n) (nuS n) 0 (nuX n) := by
 induction l with
 | nil => rfl
 | cons x r ih => simp only [List.cons_append, nusF, Fo.snoc, ih]
theorem qhf (l m : List Int) : nusF (l ++ m) = (nusF l).app (nusF m) := by
 induction l with
 | nil => rfl
 | cons x r ih => simp only [List.cons_append, nusF, Fo.app, ih]
theorem qag (l : List Int) : (nusF l).len = l.length := by
 induction l with
 | nil => rfl
 | cons x r ih => simp only [nusF, Fo.len, ih, List.length_cons]
def lkH (k : Int) : ByteArray := if k = 1 then qbw else if k = 2 then qcu else if k = 3 then qcs else if k = 4 then qct else if k = 5 then qby else if k = 6 then qa9 else qbx
def lkN (x : Lk) : List Int := if x.k = 1 then [x.lit] else if x.k = 2 then [x.a] else if x.k = 3 then [x.i] else if x.k = 4 then [x.i, x.j] else if x.k = 5 then x.a :: x.b :: x.l else if x.k = 6 then [x.lit, x.i] else [x.i]
def lkX (x : Lk) : Fo := .cons false 3 (lkH x.k) 0 .nil (nusF (lkN x))
def lksF : List Lk -> Fo
 | [] => .nil
 | x :: r => .cons true 1 ⟨#[40]⟩ 0 (lkX x) (lksF r)
theorem qio (l : List Lk) (x : Lk) : lksF (l ++ [x]) = (lksF l).snoc true 1 ⟨#[40]⟩ 0 (lkX x) := by
 induction l with
 | nil => rfl
 | cons y r ih => simp only [List.cons_append, lksF, Fo.snoc, ih]
theorem qb0 (l : List Lk) : (lksF l).len = l.length := by
 induction l with
 | nil => rfl
 | cons x r ih => simp only [lksF, Fo.len, ih, List.length_cons]
def stH (k : Int) : ByteArray := if k = 1 then qb5 else if k = 2 then qcp else if k = 3 then qcq else qew
def stK (x : Stp) : Fo := if x.k = 2 then lksF x.links else if x.k = 4 then nusF [x.a, x.b] else nusF x.lits
def stX (x : Stp) : Fo := .cons false 3 (stH x.k) 0 .nil (stK x)
theorem Fo.len_app : ∀ f g : Fo, (f.app g).len = f.len + g.len
 | .nil, g => by simp only [Fo.app, Fo.len, Nat.zero_add]
 | .cons _ _ _ _ _ r, g => by simp only [Fo.app, Fo.len, Fo.len_app r g]; omega
theorem RowF.app {W : World} {F : Nat -> Prop} {g : Fo} {ys : List Value} (hg : RowF W F g ys) : ∀ (f : Fo) (xs : List Value), RowF W F f xs -> RowF W F (f.app g) (xs ++ ys)
 | .nil, xs, h => by
  obtain rfl : xs = [] := h
  exact hg
 | .cons l k s a x r, xs, h => by
  obtain ⟨q0, c0, zs, rfl, h3, h4, h5, h6⟩ := h;exact ⟨q0, c0, zs ++ ys, by simp, h3, h4, h5, RowF.app hg r zs h6⟩
def TrR (W w' : World) (e : Ending) (l : Bool) (k : Int) (s : ByteArray) (x : Fo) : Prop :=
 ∃ q c, e = .returned (trV l k s 0 q x.len c) /\ x.len <= c /\ x.len <= 281474976710656 /\ FoIn w' (fun b => W.heap.size <= b) x q /\ Below W.heap.size W w'
structure OwnG (W : World) (F : Nat -> Prop) (v : Value) (f : Fo) : Prop where
 has : ∃ xs, W.ownsRow 0 35 5 v f.len xs /\ RowF W (fun b => F b /\ v.ownBlock ≠ some b) f xs
 blk : ∀ k, v.ownBlock = some k -> F k /\ k < W.heap.size
theorem qpf {w : World} {base n size : Nat} {e : TypeId} {v : Value} {xs : List Value} (h : w.ownsRow base e size v n xs) : w.ownsRow 0 e size v n xs := by
 obtain ⟨h0, h | ⟨g, cap, cur, e, hg, hr⟩⟩ := h
 ·exact ⟨h0, Or.inl h⟩
 ·exact ⟨h0, Or.inr ⟨g, cap, cur, e, Nat.zero_le _, hr⟩⟩
theorem qec {g o n c k : Nat} (h : (Value.slice (some ⟨g, o, none⟩) n c).ownBlock = some k) : k = g := by
 simp [Value.ownBlock] at h; exact h.symm
theorem OwnF.wide {W : World} {base : Nat} {v : Value} {f : Fo} (h : OwnF W base v f) : OwnG W (fun b => base <= b) v f := by
 obtain ⟨xs, h1, h2⟩ := h;exact ⟨⟨xs, qpf h1, h2⟩, fun k hk => qaw h1 hk⟩
theorem OwnG.later {W W' : World} {F : Nat -> Prop} {v : Value} {f : Fo} (h : OwnG W F v f) (hb : Below W.heap.size W W') : OwnG W' F v f := by
 obtain ⟨⟨xs, h1, h2⟩, h3⟩ := h;exact ⟨⟨xs, qal h1 hb, h2.later hb⟩, fun k hk => ⟨(h3 k hk).1, Nat.lt_of_lt_of_le (h3 k hk).2 hb.size⟩⟩
theorem OwnG.only {W W' : World} {F T : Nat -> Prop} {v : Value} {f : Fo} (h : OwnG W F v f) (ho : Only T W W') (hn : ∀ b, F b -> ¬ T b) : OwnG W' F v f := by
 obtain ⟨⟨xs, h1, h2⟩, h3⟩ := h;exact ⟨⟨xs, qb3 h1 ho (fun k hk => hn k (h3 k hk).1), h2.only ho (fun b hb => hn b hb.1)⟩, fun k hk => ⟨(h3 k hk).1, Nat.lt_of_lt_of_le (h3 k hk).2 ho.size⟩⟩
theorem OwnG.mono {W : World} {F F' : Nat -> Prop} {v : Value} {f : Fo} (h : OwnG W F v f) (hn : ∀ b, F b -> b < W.heap.size -> F' b) : OwnG W F' v f := by
 obtain ⟨⟨xs, h1, h2⟩, h3⟩ := h;exact ⟨⟨xs, h1, h2.mono (fun b hb hl => ⟨hn b hb.1 hl, hb.2⟩)⟩, fun k hk => ⟨hn k (h3 k hk).1 (h3 k hk).2, (h3 k hk).2⟩⟩
theorem OwnG.nil (W : World) (F : Nat -> Prop) : OwnG W F (.slice none 0 0) .nil := ⟨⟨[], ⟨rfl, Or.inl ⟨rfl, rfl⟩⟩, rfl⟩, fun k hk => by cases hk⟩
theorem OwnG.foIn {W : World} {F : Nat -> Prop} {v : Value} {f : Fo} (h : OwnG W F v f) : ∃ q c, v = .slice q f.len c /\ f.len <= c /\ FoIn W F f q := by
 obtain ⟨⟨xs, h1, h2⟩, h3⟩ := h;obtain ⟨q, c, rfl, hq⟩ := qaq h1;have hc := qf1 h1;refine ⟨q, c, rfl, hc, ?_⟩
 cases f with
 | nil => trivial
 | cons l k s a x r =>
  obtain ⟨g, rfl⟩ : ∃ g, q = some ⟨g, 0, none⟩ := by
   rcases h1.2 with ⟨e, _⟩ | ⟨g, _, _, e, _⟩
   ·injection e with _ e2 _; simp [Fo.len] at e2
   ·injection e with e2 _ _; exact ⟨g, e2⟩
  exact RowF.foIn (h3 g rfl).1 (fun b hb => hb.1) _ xs 0 h2 (fun j u hu => by rw [Nat.zero_add]; exact (qeq h1 j u hu).1)
theorem OwnG.push {W w' : World} {F G : Nat -> Prop} {v v' : Value} {f x : Fo} {xs : List Value} {l : Bool} {k : Int} {s : ByteArray} {a : Int} {q : Option Addr} {c : Nat} (_h1 : W.ownsRow 0 35 5 v f.len xs) (h2 : RowF W (fun b => F b /\ v.ownBlock ≠ some b) f xs) (h3 : ∀ k, v.ownBlock = some k -> F k /\ k < W.heap.size)
  (hG : ∀ b, G b -> b < W.heap.size -> F b /\ v.ownBlock ≠ some b) (hnew : F W.heap.size) (hx : FoIn W G x q) (hc : x.len <= c) (hm : x.len <= 281474976710656) (own : w'.ownsRow 0 35 5 v' (f.len + 1) (xs ++ trC l k s a q x.len c)) (hg : W.grownBy w' v.ownBlock) (hloc : v'.ownBlock = v.ownBlock \/ v'.ownBlock = some W.heap.size) :
  OwnG w' F v' (f.snoc l k s a x) := by
 have ho := Only.of_grown hg;refine ⟨⟨xs ++ trC l k s a q x.len c, by rw [Fo.len_snoc]; exact own, ?_⟩, fun j hj => ⟨?_, (qaw own hj).2⟩⟩
 ·have hx2 : FoIn W (fun b => F b /\ v.ownBlock ≠ some b) x q := hx.mono (fun b hb hl => hG b hb hl)
  have hr := RowF.snoc (l := l) (k := k) (s := s) (a := a) hc hm hx2 f xs h2
  have hr2 : RowF W (fun b => (F b /\ v.ownBlock ≠ some b) /\ v'.ownBlock ≠ some b) _ _ := hr.mono (fun b hb hlt => ⟨hb, fun e => by
   rcases hloc with h | h
   ·exact hb.2 (h ▸ e)
   ·rw [h] at e; injection e with e; omega⟩)
  exact (hr2.only ho (fun b hb => hb.1.2)).mono (fun b hb _ => ⟨hb.1.1, hb.2⟩)
 ·rcases hloc with h | h
  ·exact (h3 j (h ▸ hj)).1
  ·rw [h] at hj; injection hj with hj; exact hj ▸ hnew
theorem OwnG.join {W w' : World} {F G : Nat -> Prop} {v v' u : Value} {f g : Fo} {xs ys : List Value} (_h1 : W.ownsRow 0 35 5 v f.len xs) (h2 : RowF W (fun b => F b /\ v.ownBlock ≠ some b) f xs) (h3 : ∀ k, v.ownBlock = some k -> F k /\ k < W.heap.size)
  (hG : ∀ b, G b -> b < W.heap.size -> F b /\ v.ownBlock ≠ some b) (hnew : F W.heap.size) (hg2 : RowF W (fun b => G b /\ u.ownBlock ≠ some b) g ys) (own : w'.ownsRow 0 35 5 v' (f.len + g.len) (xs ++ ys)) (hg : W.grownBy w' v.ownBlock) (hloc : v'.ownBlock = v.ownBlock \/ v'.ownBlock = some W.heap.size) :
  OwnG w' F v' (f.app g) := by
 have ho := Only.of_grown hg;refine ⟨⟨xs ++ ys, by rw [Fo.len_app]; exact own, ?_⟩, fun j hj => ⟨?_, (qaw own hj).2⟩⟩
 ·have hx2 : RowF W (fun b => F b /\ v.ownBlock ≠ some b) g ys := hg2.mono (fun b hb hl => hG b hb.1 hl)
  have hr := RowF.app hx2 f xs h2
  have hr2 : RowF W (fun b => (F b /\ v.ownBlock ≠ some b) /\ v'.ownBlock ≠ some b) _ _ := hr.mono (fun b hb hlt => ⟨hb, fun e => by
   rcases hloc with h | h
   ·exact hb.2 (h ▸ e)
   ·rw [h] at e; injection e with e; omega⟩)
  exact (hr2.only ho (fun b hb => hb.1.2)).mono (fun b hb _ => ⟨hb.1.1, hb.2⟩)
 ·rcases hloc with h | h
  ·exact (h3 j (h ▸ hj)).1
  ·rw [h] at hj; injection hj with hj; exact hj ▸ hnew

section
variable {w : World} {ops : Array Oper} {rest : List Oper} {o : Oper} {a : Act} {Q : Exit -> Act -> World -> Prop} {K : Act -> World -> Prop}
theorem qca (s x : Operand) (ho : o.op = .call { callee := .builtin .append, args := #[s, x], argTypes := #[33, 33] })
  (F G : Nat -> Prop) (B : Nat) (v : Value) (f : Fo) (l : Bool) (k : Int) (t : ByteArray) (p : Int) (X : Fo) (q : Option Addr) (c : Nat)
  (hs : a.eval s = v) (hx : a.eval x = .slice (some ⟨B, 0, none⟩) 1 1) (own : OwnG w F v f) (hb : BoxT w B l k t p (.slice q X.len c)) (hq : FoIn w G X q) (hc : X.len <= c) (hm : X.len <= 281474976710656) (hG : ∀ b, G b -> b < w.heap.size -> F b /\ v.ownBlock ≠ some b) (hnew : F w.heap.size)
  (hf : f.len <= 2000000000)
  (h : ∀ p' c' w', OwnG w' F (.slice p' (f.len + 1) c') (f.snoc l k t p X) -> Only (fun j => v.ownBlock = some j) w w' -> K (a.put o.dst (.slice p' (f.len + 1) c')) w') : o.wp Tryz.prog a w K Q := by
 obtain ⟨⟨xs, ho1, hrw⟩, hbk⟩ := own;obtain ⟨i0, hi, hz0, hz1, hz2⟩ := qgt;refine qay s x 33 ho 0 35 i0 Z41 5 64 Tryz.underlying33 hi hz0 hz1 hz2 rfl (by omega) v f.len xs hs ho1 ⟨B, 0, none⟩ 1 1 (trC l k t p q X.len c) hx (by rfl) ?_ ?_ ?_ ?_ (Nat.zero_le _) ?_
 ·intro jj u hjj
  rw [Lib.add_plain]
  match jj, hjj with
  | 0, hjj => cases hjj; exact hb.c0
  | 1, hjj => cases hjj; exact hb.c1
  | 2, hjj => cases hjj; exact hb.c2
  | 3, hjj => cases hjj; exact hb.c3
  | 4, hjj => cases hjj; exact hb.c4
 ·intro u hu; simp [trC] at hu; rcases hu with rfl | rfl | rfl | rfl | rfl <;> rfl
 ·have hml : maxLen = 9223372036854775807 := rfl
  omega
 ·omega
 intro v8 w8 hown hgrow hnil_ hloc;have hpush := OwnG.push (G := G) ho1 hrw hbk hG hnew hq hc hm hown hgrow hloc;obtain ⟨p8, c8, hv8, hA_⟩ := qaq hown;subst hv8;exact h p8 c8 w8 hpush (Only.of_grown hgrow)
theorem qbb (hg : o.guard = none) (s x : Operand) (ho : o.op = .call { callee := .builtin .append, args := #[s, x], argTypes := #[33, 33] })
  (F G : Nat -> Prop) (B : Nat) (v : Value) (f : Fo) (l : Bool) (k : Int) (t : ByteArray) (p : Int) (X : Fo) (q : Option Addr) (c : Nat)
  (hs : a.eval s = v) (hx : a.eval x = .slice (some ⟨B, 0, none⟩) 1 1) (own : OwnG w F v f) (hb : BoxT w B l k t p (.slice q X.len c)) (hq : FoIn w G X q) (hc : X.len <= c) (hm : X.len <= 281474976710656) (hG : ∀ b, G b -> b < w.heap.size -> F b /\ v.ownBlock ≠ some b) (hnew : F w.heap.size)
  (hf : f.len <= 2000000000)
  (h : ∀ p' c' w', OwnG w' F (.slice p' (f.len + 1) c') (f.snoc l k t p X) -> Only (fun j => v.ownBlock = some j) w w' -> wpList Tryz.prog ops Q rest (a.put o.dst (.slice p' (f.len + 1) c')) w') : wpList Tryz.prog ops Q (o :: rest) a w :=
 wpList_plain hg fun _ hK => qca s x ho F G B v f l k t p X q c hs hx own hb hq hc hm hG hnew hf (fun p' c' w' h1 h2 => hK _ _ (h p' c' w' h1 h2))
theorem qpg {w : World} {N : Nat} {u : Value} {n : Nat} {ys : List Value} (h : w.ownsRow N 35 5 u n ys) : (u = .slice none 0 0 /\ n = 0 /\ ys = []) \/ ∃ g c, u = .slice (some ⟨g, 0, none⟩) n c /\ ∀ j z, ys[j]? = some z -> w.cell? (Addr.add ⟨g, 0, none⟩ j) = some z := by
 have hl := h.1;rcases h.2 with ⟨e, e2⟩ | ⟨g, cap, cur, e, _⟩
 ·subst e2
  exact Or.inl ⟨e, rfl, List.length_eq_zero_iff.1 (by simpa using hl)⟩
 ·subst e
  exact Or.inr ⟨g, cap, rfl, fun j z hj => by rw [Lib.add_plain, Nat.zero_add]; exact (qeq h j z hj).1⟩
theorem RowF.plain {W : World} {F : Nat -> Prop} : ∀ (f : Fo) (xs : List Value), RowF W F f xs -> ∀ u ∈ xs, u.oneCell' = true
 | .nil, xs, h, u, hu => by
  obtain rfl : xs = [] := h
  cases hu
 | .cons l k s a x r, xs, h, u, hu => by
  obtain ⟨q0, c0, ys, rfl, h3, h4, h5, h6⟩ := h;rcases List.mem_append.1 hu with hu | hu
  ·simp [trC] at hu; rcases hu with rfl | rfl | rfl | rfl | rfl <;> rfl
  ·exact RowF.plain r ys h6 u hu
theorem qa7 (s x : Operand) (ho : o.op = .call { callee := .builtin .append, args := #[s, x], argTypes := #[33, 33] })
  (F G : Nat -> Prop) (v u : Value) (f g : Fo)
  (hs : a.eval s = v) (hx : a.eval x = u) (own : OwnG w F v f) (hu : OwnG w G u g) (hG : ∀ b, G b -> b < w.heap.size -> F b /\ v.ownBlock ≠ some b) (hnew : F w.heap.size)
  (hf : f.len <= 1000000000) (hgl : g.len <= 1000000000)
  (h : ∀ p' c' w', OwnG w' F (.slice p' (f.len + g.len) c') (f.app g) -> Only (fun j => v.ownBlock = some j) w w' -> K (a.put o.dst (.slice p' (f.len + g.len) c')) w') : o.wp Tryz.prog a w K Q := by
 obtain ⟨⟨xs, ho1, hrw⟩, hbk⟩ := own;obtain ⟨⟨ys, hu1, hru⟩, hub⟩ := hu;obtain ⟨i0, hi, hz0, hz1, hz2⟩ := qgt;rcases qpg hu1 with ⟨rfl, hn, rfl⟩ | ⟨b, c, rfl, hcell⟩
 ·cases g with
  | cons _ _ _ _ _ _ => simp [Fo.len] at hn
  | nil =>
   have hrun := run_append_owned_none (P := Tryz.prog) (w := w) 0 33 o.type 35 i0 5 Tryz.underlying33 hi v f.len xs ho1;obtain ⟨p8, c8, hv8, _⟩ := qaq ho1;unfold Oper.wp;simp [execOp, ho, resolve, invoke, builtin, hs, hx, hrun, Result.andThen];subst hv8;refine h p8 c8 w ?_ (Only.refl _ _);rw [Fo.app_nil];exact ⟨⟨xs, ho1, hrw⟩, hbk⟩
 ·refine qay s x 33 ho 0 35 i0 Z41 5 64 Tryz.underlying33 hi hz0 hz1 hz2 rfl (by omega) v f.len xs hs ho1 ⟨b, 0, none⟩ g.len c ys hx hu1.1 hcell (RowF.plain g ys hru) ?_ ?_ (Nat.zero_le _) ?_
  ·have hml : maxLen = 9223372036854775807 := rfl
   omega
  ·omega
  intro v8 w8 hown hgrow hnil_ hloc;have hpush := OwnG.join (G := G) ho1 hrw hbk hG hnew hru hown hgrow hloc;obtain ⟨p8, c8, hv8, hA_⟩ := qaq hown;subst hv8;exact h p8 c8 w8 hpush (Only.of_grown hgrow)
theorem qey (hg : o.guard = none) (s x : Operand) (ho : o.op = .call { callee := .builtin .append, args := #[s, x], argTypes := #[33, 33] })
  (F G : Nat -> Prop) (v u : Value) (f g : Fo)
  (hs : a.eval s = v) (hx : a.eval x = u) (own : OwnG w F v f) (hu : OwnG w G u g) (hG : ∀ b, G b -> b < w.heap.size -> F b /\ v.ownBlock ≠ some b) (hnew : F w.heap.size)
  (hf : f.len <= 1000000000) (hgl : g.len <= 1000000000)
  (h : ∀ p' c' w', OwnG w' F (.slice p' (f.len + g.len) c') (f.app g) -> Only (fun j => v.ownBlock = some j) w w' -> wpList Tryz.prog ops Q rest (a.put o.dst (.slice p' (f.len + g.len) c')) w') : wpList Tryz.prog ops Q (o :: rest) a w :=
 wpList_plain hg fun _ hK => qa7 s x ho F G v u f g hs hx own hu hG hnew hf hgl (fun p' c' w' h1 h2 => hK _ _ (h p' c' w' h1 h2))
end
theorem qkp (n : Int) (W : World) (h0 : -4611686018427387903 <= n) (h1 : n <= 4611686018427387903) (htab : qb7 W) : Calls Tryz.prog 68 #[.int .i64 n] W fun e w' => TrR W w' e (nuL n) (nuK n) (nuS n) (nuX n) := by
 by_cases hn : n < 0
 case neg =>
  refine (qfc n W (by omega) (by omega) htab).mono ?_;rintro e w' ⟨rfl, hb⟩;refine ⟨none, 0, ?_, ?_, ?_, ?_, hb⟩
  ·simp [nuL, nuK, nuS, nuX, hn, Fo.len]
  ·simp [nuX, hn, Fo.len]
  ·simp [nuX, hn, Fo.len]
  ·simp [nuX, hn, FoIn]
 have hlt : n < 0 := hn;have HT := Zh htab;have hw : IntKind.i64.wrap (-n) = -n := by have := IntWalk.i64_in (-n) (by omega); exact this
 have HNX := Zh (show nuX n = (Fo.cons false 3 ⟨#[45]⟩ 0 .nil .nil).snoc false 4 (itoB (-n)) 0 .nil from by simp [nuX, hn, Fo.snoc]);have HNL := Zh (show nuL n = true /\ nuK n = 1 /\ nuS n = ⟨#[40]⟩ from by simp [nuL, nuK, nuS, hn]);have hm0 : 0 <= -n := by omega
 have hm1 : -n <= 9223372036854775807 := by omega
 clear htab hn;go_enter Tryz.func68, Tryz.ntmps68
 go_wp2_with fail
 refine (qip ⟨#[45]⟩ _).mono ?_;rintro e w1 ⟨g, rfl, hg, hown, hb⟩;have HB1 := Zh ((qab W (.cells #[.bool false, .int .u8 0, .string ⟨#[]⟩, .int .i64 0, .slice none 0 0] 35)).trans (hb.mono (by simp)));have hbx := (qam W false 0 ⟨#[]⟩ 0 (.slice none 0 0)).later hb;have HG := Zh (show W.heap.size < g /\ g < w1.heap.size from ⟨by simp at hg; omega, (qaw hown.choose_spec.1 (k := g) rfl).2⟩);have HO := Zh hown.wide;have HX := Zh hbx;clear hg hown hb hbx;unfold trV
 go_wp2_with fail
 have hxa := qam w1 true 1 ⟨#[40]⟩ 0 (.slice (some ⟨g, 0, none⟩) 1 1);have hx0 := HX.o.later (qab w1 (.cells #[.bool true, .int .u8 1, .string ⟨#[40]⟩, .int .i64 0, .slice (some ⟨g, 0, none⟩) 1 1] 35));have hoa := (OwnG.mono (F' := fun b => g <= b /\ b ≠ w1.heap.size) HO.o (fun b hb hl => ⟨hb, by omega⟩)).later (qab w1 (.cells #[.bool true, .int .u8 1, .string ⟨#[40]⟩, .int .i64 0, .slice (some ⟨g, 0, none⟩) 1 1] 35));have hba := HB1.o.trans ((qab w1 (.cells #[.bool true, .int .u8 1, .string ⟨#[40]⟩, .int .i64 0, .slice (some ⟨g, 0, none⟩) 1 1] 35)).mono HB1.o.size);obtain ⟨B, hB⟩ : ∃ B, B = w1.heap.size := ⟨_, rfl⟩;obtain ⟨wa, hwa⟩ : ∃ wa, wa = w1.alloc (.cells #[.bool true, .int .u8 1, .string ⟨#[40]⟩, .int .i64 0, .slice (some ⟨g, 0, none⟩) 1 1] 35) := ⟨_, rfl⟩;have hsz : wa.heap.size = B + 1 := by rw [hwa, hB]; simp
 rw [<- hwa, <- hB] at hxa;rw [<- hwa] at hx0 hoa hba;rw [<- hB] at hoa;rw [<- hwa, <- hB];have HG2 := Zh (show W.heap.size < g /\ g < B from by rw [hB]; exact HG.o);have HS := Zh (aI hxa (aI hx0 (aI hoa hba)));have HZ := Zh hsz;clear hxa hx0 hoa hba hwa hB hsz HG HO HX HB1;refine qai [(1000, (fun _ => True : World -> Prop)), (8, (fun w => w.cell? ⟨B, 4, none⟩ = some (.slice (some ⟨g, 0, none⟩) 1 1) : World -> Prop))] (by kernel_rfl) (SL.cons (fun _ => trivial) (SL.cons (fun _ => HS.o.1.c4) SL.nil)) (fun hH => ?_);generalize hwd : wa.drew = wd at *;have hbd : Below wa.heap.size wa wd := by rw [<- hwd]; exact qae wa
 clear hwd;have x4 := (HS.o.1.later hbd).c4;refine tk 0 0 ⟨some 7, .fieldAddr 35 (.tmp 3) 2, 0, "proof.go:139", #[], none⟩ ?_ rfl rfl ?_ hH fun hH => ?_
 rotate_left
 ·intro w hSw; (try dsimp only at hSw); go_simp; try with_reducible rfl
 try simp only [Act.put, sI, s0, s1]
 refine tk 1 1 ⟨some 8, .load 33 (.tmp 7), 33, "proof.go:139", #[⟨0, .data⟩], none⟩ ?_ rfl rfl ?_ hH fun hH => ?_
 rotate_left
 ·intro w hSw; (try dsimp only at hSw); go_simp; try with_reducible rfl
 try simp only [Act.put, sI, s0, s1]
 refine tk 0 2 ⟨some 9, .move (.tmp 0), 3, "proof.go:139", #[], none⟩ ?_ rfl rfl ?_ hH fun hH => ?_
 rotate_left
 ·intro w hSw; (try dsimp only at hSw); go_simp; try with_reducible rfl
 try simp only [Act.put, sI, s0, s1]
 refine tk 0 3 ⟨some 10, .unOp .neg 3 (.tmp 9), 3, "proof.go:139", #[⟨2, .data⟩], none⟩ ?_ rfl rfl ?_ hH fun hH => ?_
 rotate_left
 ·intro w hSw; (try dsimp only at hSw); go_simp; try with_reducible rfl
 try simp only [Act.put, sI, s0, s1]
 refine qac (rs := [4]) (by kernel_rfl) (by simp) ?_;refine AllReadyL.cons (o := ⟨some 11, .call ⟨.value (.func 68), #[.tmp 10], #[3]⟩, 35, "proof.go:139", #[⟨3, .data⟩], none⟩) rfl (fun K hK => ?_) AllReadyL.nil;go_simp;go_at_call 68;refine (qfc (-n) wd hm0 hm1 (qak HT.o (HS.o.2.2.2.trans (hbd.mono HS.o.2.2.2.size)))).mono ?_;rintro e w3 ⟨rfl, hb3⟩;refine hK.out _ _ (SL.cons (fun _ => trivial) (SL.cons (fun _ => qaa hb3 x4) SL.nil)) (fun hH => ?_);clear hK K
 try simp only [Act.put, sI, s0, s1]
 have x5 := qaa hb3 x4;clear x4 hH;unfold trV;refine qac (rs := [5]) (by kernel_rfl) (by simp) ?_;refine AllReadyL.cons (o := ⟨some 12, .buildSlice 33 1 #[(0, .tmp 11)], 33, "proof.go:139", #[⟨4, .data⟩], none⟩) rfl (fun K hK => ?_) AllReadyL.nil;go_simp;refine hK.out _ _ (SL.cons (fun _ => trivial) (SL.cons (fun _ => qaa (qab w3 _) x5) SL.nil)) (fun hH => ?_);clear hK K
 try simp only [Act.put, sI, s0, s1]
 have hb4 := (hbd.trans (hb3.mono hbd.size)).trans ((qab w3 (.cells #[.bool false, .int .u8 4, .string (itoB (-n)), .int .i64 0, .slice none 0 0] 35)).mono (hbd.trans (hb3.mono hbd.size)).size);have hnb := qam w3 false 4 (itoB (-n)) 0 (.slice none 0 0);have hz3 : B + 1 <= w3.heap.size := by have := (hbd.trans (hb3.mono hbd.size)).size; rw [HZ.o] at this; exact this
 clear x5 hH;refine qac (rs := [6]) (by kernel_rfl) (by simp) ?_;refine AllReadyL.cons (o := ⟨some 13, .call ⟨.builtin .append, #[.tmp 8, .tmp 12], #[33, 33]⟩, 33, "proof.go:139", #[⟨1, .data⟩, ⟨5, .data⟩, ⟨4, .chain⟩], none⟩) rfl (fun K hK => ?_) AllReadyL.nil;rw [if_pos (by rfl)];refine qca _ _ (by rfl) (fun b => g <= b /\ b ≠ B) (fun _ => False) w3.heap.size _ _ false 4 (itoB (-n)) 0 .nil none 0 (by rfl) (by rfl) (HS.o.2.2.1.later hb4) hnb trivial (Nat.le_refl _) (Nat.zero_le _) (fun _ h => h.elim) (by have := HG2.o.2; simp; omega) (by simp [Fo.len]) ?_;intro p8 c8 w8 hpush ho8;have hbx8 := (HS.o.1.later hb4).only ho8 (fun e => by have := qec e; have := HG2.o.2; omega);have hbt8 := (HS.o.2.1.later hb4).only ho8 (fun e => by have := qec e; have := HG2.o.1; omega);have x8 := hbx8.c4;have f8 := hbx8.fz;have hb8 := (HS.o.2.2.2.trans (hb4.mono HS.o.2.2.2.size)).trans (ho8.below (B := W.heap.size) (fun j hj => by have := qec hj; have := HG2.o.1; omega) (HS.o.2.2.2.trans (hb4.mono HS.o.2.2.2.size)).size);have HE := Zh (aI hpush (aI hbx8 (aI hbt8 hb8)));clear ho8 hbx8 hbt8 hb8 hpush hb4 hnb hb3 hz3;refine hK.out _ _ (SL.cons (fun _ => trivial) (SL.cons (fun _ => x8) SL.nil)) (fun hH => ?_);clear hK K
 try simp only [Act.put, sI, s0, s1]
 refine tk 0 7 ⟨some 14, .fieldAddr 35 (.tmp 3) 2, 0, "proof.go:139", #[⟨0, .phase⟩, ⟨1, .phase⟩, ⟨2, .phase⟩, ⟨3, .phase⟩, ⟨4, .phase⟩, ⟨5, .phase⟩, ⟨6, .phase⟩], none⟩ ?_ rfl rfl ?_ hH fun hH => ?_
 rotate_left
 ·intro w hSw; (try dsimp only at hSw); go_simp; try with_reducible rfl
 try simp only [Act.put, sI, s0, s1]
 refine qac (rs := [8]) (by kernel_rfl) (by simp) ?_;refine AllReadyL.cons (o := ⟨none, .store 33 (.tmp 14) (.tmp 13), 0, "proof.go:139", #[⟨7, .data⟩, ⟨6, .data⟩, ⟨6, .chain⟩, ⟨0, .phase⟩, ⟨1, .phase⟩, ⟨2, .phase⟩, ⟨3, .phase⟩, ⟨4, .phase⟩, ⟨5, .phase⟩, ⟨6, .phase⟩], none⟩) rfl (fun K hK => ?_) AllReadyL.nil;go_simp;refine hK.out _ _ (SL.cons (fun _ => trivial) (SL.cons (fun h => absurd h (by decide +kernel)) SL.nil)) (fun hH => ?_);clear hK K
 try simp only [Act.put, sI, s0, s1]
 refine qah (by kernel_rfl) ?_ _;obtain ⟨w9, hw9⟩ : ∃ w9, w9 = w8.setCell ⟨B, 4, none⟩ (.slice p8 ((Fo.cons false 3 ⟨#[45]⟩ 0 .nil .nil).len + 1) c8) := ⟨_, rfl⟩;have ho9 : Only (fun k => k = B) w8 w9 := by rw [hw9]; exact Only.of_setCell w8 ⟨B, 4, none⟩ _
 have HN := Zh (show BoxT w9 W.heap.size false 0 ⟨#[]⟩ 0 (.slice none 0 0) /\ OwnG w9 (fun b => g <= b /\ b ≠ B) (.slice p8 2 c8) ((Fo.cons false 3 ⟨#[45]⟩ 0 .nil .nil).snoc false 4 (itoB (-n)) 0 .nil) /\ Below W.heap.size W w9 from
  ⟨HE.o.2.2.1.only ho9 (by have := HG2.o; omega), HE.o.1.only ho9 (fun b hb e => hb.2 e), HE.o.2.2.2.trans (ho9.below (fun j hj => by have := HG2.o; omega) HE.o.2.2.2.size)⟩)
 have hbn : BoxT w9 B true 1 ⟨#[40]⟩ 0 (.slice p8 2 c8) := by rw [hw9]; exact HE.o.2.1.set4 _
 rw [<- hw9];clear hw9 ho9 x8 f8 hH HE HS;obtain ⟨y0, y1, y2, y3, y4, yf⟩ := hbn;obtain ⟨z0, z1, z2, z3, z4, zf⟩ := HN.o.1
 go_wp2_with fail
 obtain ⟨q, c, hv, hc, hq⟩ := HN.o.2.1.foIn;cases hv;refine bodyPost_ret (v := trV true 1 ⟨#[40]⟩ 0 p8 2 c8) (by simp [trV, results, Tryz.results68, go_sem, z0, z1, z2, z3, z4]) rfl ⟨p8, c8, ?_, ?_, ?_, ?_, ?_⟩
 ·rw [HNX.o, HNL.o.1, HNL.o.2.1, HNL.o.2.2]; rfl
 ·rw [HNX.o]; exact hc
 ·rw [HNX.o]; simp [Fo.snoc, Fo.len]
 ·rw [HNX.o]
  have hkk := hq.mono (F' := fun b => W.heap.size <= b) (fun b hb _ => by have := HG2.o; have := hb.1; omega);have hne : ∀ o b, W.heap.size < b -> ¬ b = (⟨W.heap.size, o, none⟩ : Addr).block := fun o b h e => by simp only at e; omega
  have hq1 := hq.mono (F' := fun b => W.heap.size < b) (fun b hb _ => by have := HG2.o; have := hb.1; omega);exact (((((hq1.only (Only.of_setCell _ _ _) (hne _)).only (Only.of_setCell _ _ _) (hne _)).only (Only.of_setCell _ _ _) (hne _)).only (Only.of_setCell _ _ _) (hne _)).only (Only.of_setCell _ _ _) (hne _)).mono (fun b hb _ => Nat.le_of_lt hb)
 ·iterate 5 refine Below.setCell ?_ (show W.heap.size <= W.heap.size from Nat.le_refl _) _
  exact HN.o.2.2
theorem qkq (n : Int) (W : World) (h0 : -4611686018427387903 <= n) (h1 : n <= 4611686018427387903) (htab : qb7 W) : Calls Tryz.prog 66 #[.int .i64 n] W fun e w' => TrR W w' e (nuL n) (nuK n) (nuS n) (nuX n) := by
 by_cases hn : n < 0
 case neg =>
  refine (qfd n W (by omega) (by omega) htab).mono ?_;rintro e w' ⟨rfl, hb⟩;refine ⟨none, 0, ?_, ?_, ?_, ?_, hb⟩
  ·simp [nuL, nuK, nuS, nuX, hn, Fo.len]
  ·simp [nuX, hn, Fo.len]
  ·simp [nuX, hn, Fo.len]
  ·simp [nuX, hn, FoIn]
 have hlt : n < 0 := hn;have HT := Zh htab;have hw : IntKind.i64.wrap (-n) = -n := by have := IntWalk.i64_in (-n) (by omega); exact this
 have HNX := Zh (show nuX n = (Fo.cons false 3 ⟨#[45]⟩ 0 .nil .nil).snoc false 4 (itoB (-n)) 0 .nil from by simp [nuX, hn, Fo.snoc]);have HNL := Zh (show nuL n = true /\ nuK n = 1 /\ nuS n = ⟨#[40]⟩ from by simp [nuL, nuK, nuS, hn]);have hm0 : 0 <= -n := by omega
 have hm1 : -n <= 9223372036854775807 := by omega
 clear htab hn;go_enter Tryz.func66, Tryz.ntmps66
 go_wp2_with fail
 refine (qip ⟨#[45]⟩ _).mono ?_;rintro e w1 ⟨g, rfl, hg, hown, hb⟩;have HB1 := Zh ((qab W (.cells #[.bool false, .int .u8 0, .string ⟨#[]⟩, .int .i64 0, .slice none 0 0] 35)).trans (hb.mono (by simp)));have hbx := (qam W false 0 ⟨#[]⟩ 0 (.slice none 0 0)).later hb;have HG := Zh (show W.heap.size < g /\ g < w1.heap.size from ⟨by simp at hg; omega, (qaw hown.choose_spec.1 (k := g) rfl).2⟩);have HO := Zh hown.wide;have HX := Zh hbx;clear hg hown hb hbx;unfold trV
 go_wp2_with fail
 have hxa := qam w1 true 1 ⟨#[40]⟩ 0 (.slice (some ⟨g, 0, none⟩) 1 1);have hx0 := HX.o.later (qab w1 (.cells #[.bool true, .int .u8 1, .string ⟨#[40]⟩, .int .i64 0, .slice (some ⟨g, 0, none⟩) 1 1] 35));have hoa := (OwnG.mono (F' := fun b => g <= b /\ b ≠ w1.heap.size) HO.o (fun b hb hl => ⟨hb, by omega⟩)).later (qab w1 (.cells #[.bool true, .int .u8 1, .string ⟨#[40]⟩, .int .i64 0, .slice (some ⟨g, 0, none⟩) 1 1] 35));have hba := HB1.o.trans ((qab w1 (.cells #[.bool true, .int .u8 1, .string ⟨#[40]⟩, .int .i64 0, .slice (some ⟨g, 0, none⟩) 1 1] 35)).mono HB1.o.size);obtain ⟨B, hB⟩ : ∃ B, B = w1.heap.size := ⟨_, rfl⟩;obtain ⟨wa, hwa⟩ : ∃ wa, wa = w1.alloc (.cells #[.bool true, .int .u8 1, .string ⟨#[40]⟩, .int .i64 0, .slice (some ⟨g, 0, none⟩) 1 1] 35) := ⟨_, rfl⟩;have hsz : wa.heap.size = B + 1 := by rw [hwa, hB]; simp
 rw [<- hwa, <- hB] at hxa;rw [<- hwa] at hx0 hoa hba;rw [<- hB] at hoa;rw [<- hwa, <- hB];have HG2 := Zh (show W.heap.size < g /\ g < B from by rw [hB]; exact HG.o);have HS := Zh (aI hxa (aI hx0 (aI hoa hba)));have HZ := Zh hsz;clear hxa hx0 hoa hba hwa hB hsz HG HO HX HB1;refine qai [(1000, (fun _ => True : World -> Prop)), (8, (fun w => w.cell? ⟨B, 4, none⟩ = some (.slice (some ⟨g, 0, none⟩) 1 1) : World -> Prop))] (by kernel_rfl) (SL.cons (fun _ => trivial) (SL.cons (fun _ => HS.o.1.c4) SL.nil)) (fun hH => ?_);generalize hwd : wa.drew = wd at *;have hbd : Below wa.heap.size wa wd := by rw [<- hwd]; exact qae wa
 clear hwd;have x4 := (HS.o.1.later hbd).c4;refine tk 0 0 ⟨some 7, .fieldAddr 35 (.tmp 3) 2, 0, "proof.go:139", #[], none⟩ ?_ rfl rfl ?_ hH fun hH => ?_
 rotate_left
 ·intro w hSw; (try dsimp only at hSw); go_simp; try with_reducible rfl
 try simp only [Act.put, sI, s0, s1]
 refine tk 1 1 ⟨some 8, .load 33 (.tmp 7), 33, "proof.go:139", #[⟨0, .data⟩], none⟩ ?_ rfl rfl ?_ hH fun hH => ?_
 rotate_left
 ·intro w hSw; (try dsimp only at hSw); go_simp; try with_reducible rfl
 try simp only [Act.put, sI, s0, s1]
 refine tk 0 2 ⟨some 9, .move (.tmp 0), 44, "proof.go:139", #[], none⟩ ?_ rfl rfl ?_ hH fun hH => ?_
 rotate_left
 ·intro w hSw; (try dsimp only at hSw); go_simp; try with_reducible rfl
 try simp only [Act.put, sI, s0, s1]
 refine tk 0 3 ⟨some 10, .unOp .neg 44 (.tmp 9), 44, "proof.go:139", #[⟨2, .data⟩], none⟩ ?_ rfl rfl ?_ hH fun hH => ?_
 rotate_left
 ·intro w hSw; (try dsimp only at hSw); go_simp; try with_reducible rfl
 try simp only [Act.put, sI, s0, s1]
 refine qac (rs := [4]) (by kernel_rfl) (by simp) ?_;refine AllReadyL.cons (o := ⟨some 11, .call ⟨.value (.func 66), #[.tmp 10], #[44]⟩, 35, "proof.go:139", #[⟨3, .data⟩], none⟩) rfl (fun K hK => ?_) AllReadyL.nil;go_simp;go_at_call 66;refine (qfd (-n) wd hm0 hm1 (qak HT.o (HS.o.2.2.2.trans (hbd.mono HS.o.2.2.2.size)))).mono ?_;rintro e w3 ⟨rfl, hb3⟩;refine hK.out _ _ (SL.cons (fun _ => trivial) (SL.cons (fun _ => qaa hb3 x4) SL.nil)) (fun hH => ?_);clear hK K
 try simp only [Act.put, sI, s0, s1]
 have x5 := qaa hb3 x4;clear x4 hH;unfold trV;refine qac (rs := [5]) (by kernel_rfl) (by simp) ?_;refine AllReadyL.cons (o := ⟨some 12, .buildSlice 33 1 #[(0, .tmp 11)], 33, "proof.go:139", #[⟨4, .data⟩], none⟩) rfl (fun K hK => ?_) AllReadyL.nil;go_simp;refine hK.out _ _ (SL.cons (fun _ => trivial) (SL.cons (fun _ => qaa (qab w3 _) x5) SL.nil)) (fun hH => ?_);clear hK K
 try simp only [Act.put, sI, s0, s1]
 have hb4 := (hbd.trans (hb3.mono hbd.size)).trans ((qab w3 (.cells #[.bool false, .int .u8 4, .string (itoB (-n)), .int .i64 0, .slice none 0 0] 35)).mono (hbd.trans (hb3.mono hbd.size)).size);have hnb := qam w3 false 4 (itoB (-n)) 0 (.slice none 0 0);have hz3 : B + 1 <= w3.heap.size := by have := (hbd.trans (hb3.mono hbd.size)).size; rw [HZ.o] at this; exact this
 clear x5 hH;refine qac (rs := [6]) (by kernel_rfl) (by simp) ?_;refine AllReadyL.cons (o := ⟨some 13, .call ⟨.builtin .append, #[.tmp 8, .tmp 12], #[33, 33]⟩, 33, "proof.go:139", #[⟨1, .data⟩, ⟨5, .data⟩, ⟨4, .chain⟩], none⟩) rfl (fun K hK => ?_) AllReadyL.nil;rw [if_pos (by rfl)];refine qca _ _ (by rfl) (fun b => g <= b /\ b ≠ B) (fun _ => False) w3.heap.size _ _ false 4 (itoB (-n)) 0 .nil none 0 (by rfl) (by rfl) (HS.o.2.2.1.later hb4) hnb trivial (Nat.le_refl _) (Nat.zero_le _) (fun _ h => h.elim) (by have := HG2.o.2; simp; omega) (by simp [Fo.len]) ?_;intro p8 c8 w8 hpush ho8;have hbx8 := (HS.o.1.later hb4).only ho8 (fun e => by have := qec e; have := HG2.o.2; omega);have hbt8 := (HS.o.2.1.later hb4).only ho8 (fun e => by have := qec e; have := HG2.o.1; omega);have x8 := hbx8.c4;have f8 := hbx8.fz;have hb8 := (HS.o.2.2.2.trans (hb4.mono HS.o.2.2.2.size)).trans (ho8.below (B := W.heap.size) (fun j hj => by have := qec hj; have := HG2.o.1; omega) (HS.o.2.2.2.trans (hb4.mono HS.o.2.2.2.size)).size);have HE := Zh (aI hpush (aI hbx8 (aI hbt8 hb8)));clear ho8 hbx8 hbt8 hb8 hpush hb4 hnb hb3 hz3;refine hK.out _ _ (SL.cons (fun _ => trivial) (SL.cons (fun _ => x8) SL.nil)) (fun hH => ?_);clear hK K
 try simp only [Act.put, sI, s0, s1]
 refine tk 0 7 ⟨some 14, .fieldAddr 35 (.tmp 3) 2, 0, "proof.go:139", #[⟨0, .phase⟩, ⟨1, .phase⟩, ⟨2, .phase⟩, ⟨3, .phase⟩, ⟨4, .phase⟩, ⟨5, .phase⟩, ⟨6, .phase⟩], none⟩ ?_ rfl rfl ?_ hH fun hH => ?_
 rotate_left
 ·intro w hSw; (try dsimp only at hSw); go_simp; try with_reducible rfl
 try simp only [Act.put, sI, s0, s1]
 refine qac (rs := [8]) (by kernel_rfl) (by simp) ?_;refine AllReadyL.cons (o := ⟨none, .store 33 (.tmp 14) (.tmp 13), 0, "proof.go:139", #[⟨7, .data⟩, ⟨6, .data⟩, ⟨6, .chain⟩, ⟨0, .phase⟩, ⟨1, .phase⟩, ⟨2, .phase⟩, ⟨3, .phase⟩, ⟨4, .phase⟩, ⟨5, .phase⟩, ⟨6, .phase⟩], none⟩) rfl (fun K hK => ?_) AllReadyL.nil;go_simp;refine hK.out _ _ (SL.cons (fun _ => trivial) (SL.cons (fun h => absurd h (by decide +kernel)) SL.nil)) (fun hH => ?_);clear hK K
 try simp only [Act.put, sI, s0, s1]
 refine qah (by kernel_rfl) ?_ _;obtain ⟨w9, hw9⟩ : ∃ w9, w9 = w8.setCell ⟨B, 4, none⟩ (.slice p8 ((Fo.cons false 3 ⟨#[45]⟩ 0 .nil .nil).len + 1) c8) := ⟨_, rfl⟩;have ho9 : Only (fun k => k = B) w8 w9 := by rw [hw9]; exact Only.of_setCell w8 ⟨B, 4, none⟩ _
 have HN := Zh (show BoxT w9 W.heap.size false 0 ⟨#[]⟩ 0 (.slice none 0 0) /\ OwnG w9 (fun b => g <= b /\ b ≠ B) (.slice p8 2 c8) ((Fo.cons false 3 ⟨#[45]⟩ 0 .nil .nil).snoc false 4 (itoB (-n)) 0 .nil) /\ Below W.heap.size W w9 from
  ⟨HE.o.2.2.1.only ho9 (by have := HG2.o; omega), HE.o.1.only ho9 (fun b hb e => hb.2 e), HE.o.2.2.2.trans (ho9.below (fun j hj => by have := HG2.o; omega) HE.o.2.2.2.size)⟩)
 have hbn : BoxT w9 B true 1 ⟨#[40]⟩ 0 (.slice p8 2 c8) := by rw [hw9]; exact HE.o.2.1.set4 _
 rw [<- hw9];clear hw9 ho9 x8 f8 hH HE HS;obtain ⟨y0, y1, y2, y3, y4, yf⟩ := hbn;obtain ⟨z0, z1, z2, z3, z4, zf⟩ := HN.o.1
 go_wp2_with fail
 obtain ⟨q, c, hv, hc, hq⟩ := HN.o.2.1.foIn;cases hv;refine bodyPost_ret (v := trV true 1 ⟨#[40]⟩ 0 p8 2 c8) (by simp [trV, results, Tryz.results66, go_sem, z0, z1, z2, z3, z4]) rfl ⟨p8, c8, ?_, ?_, ?_, ?_, ?_⟩
 ·rw [HNX.o, HNL.o.1, HNL.o.2.1, HNL.o.2.2]; rfl
 ·rw [HNX.o]; exact hc
 ·rw [HNX.o]; simp [Fo.snoc, Fo.len]
 ·rw [HNX.o]
  have hkk := hq.mono (F' := fun b => W.heap.size <= b) (fun b hb _ => by have := HG2.o; have := hb.1; omega);have hne : ∀ o b, W.heap.size < b -> ¬ b = (⟨W.heap.size, o, none⟩ : Addr).block := fun o b h e => by simp only at e; omega
  have hq1 := hq.mono (F' := fun b => W.heap.size < b) (fun b hb _ => by have := HG2.o; have := hb.1; omega);exact (((((hq1.only (Only.of_setCell _ _ _) (hne _)).only (Only.of_setCell _ _ _) (hne _)).only (Only.of_setCell _ _ _) (hne _)).only (Only.of_setCell _ _ _) (hne _)).only (Only.of_setCell _ _ _) (hne _)).mono (fun b hb _ => Nat.le_of_lt hb)
 ·iterate 5 refine Below.setCell ?_ (show W.heap.size <= W.heap.size from Nat.le_refl _) _
  exact HN.o.2.2
theorem qdo (s : ByteArray) (u : Value) (g : Fo) (N : Nat) (W : World) (hu : OwnG W (fun b => N <= b) u g) (hN : N <= W.heap.size) (hgl : g.len <= 1000000000) :
  Calls Tryz.prog 53 #[.string s, u] W fun e w' => ∃ q c, e = .returned (trV true 1 ⟨#[40]⟩ 0 q (g.len + 1) c) /\ g.len + 1 <= c /\ FoIn w' (fun b => N <= b) (.cons false 3 s 0 .nil g) q /\ Below W.heap.size W w' := by
 obtain ⟨uq, uc, rfl, huc, hui⟩ := hu.foIn;obtain ⟨gl, hgl0⟩ : ∃ gl, gl = g.len := ⟨_, rfl⟩;have HGL := Zh hgl0;rw [<- hgl0] at hu hgl ⊢;have HU := Zh hu;have HN := Zh hN;have HL := Zh hgl;obtain ⟨w1, hw1⟩ : ∃ w1, w1 = ((W.alloc (.cells #[.bool false, .int .u8 0, .string ⟨#[]⟩, .int .i64 0, .slice none 0 0] 35)).alloc (.cells #[.bool true, .int .u8 1, .string ⟨#[40]⟩, .int .i64 0, .slice none 0 0] 35)).alloc (.cells #[.bool false, .int .u8 3, .string s, .int .i64 0, .slice none 0 0] 35) := ⟨_, rfl⟩;have hb1 : Below W.heap.size W w1 := by rw [hw1]; exact (((qab W _).alloc (by simp) _).alloc (by simp; omega) _)
 have hsz : w1.heap.size = W.heap.size + 3 := by rw [hw1]; simp
 have hx0 : BoxT w1 W.heap.size false 0 ⟨#[]⟩ 0 (.slice none 0 0) := by
  rw [hw1]; exact ((qam W false 0 ⟨#[]⟩ 0 (.slice none 0 0)).later (qab _ _)).later (qab _ _)
 have hx1 : BoxT w1 (W.heap.size + 1) true 1 ⟨#[40]⟩ 0 (.slice none 0 0) := by
  have h := ((qam (W.alloc (.cells #[.bool false, .int .u8 0, .string ⟨#[]⟩, .int .i64 0, .slice none 0 0] 35)) true 1 ⟨#[40]⟩ 0 (.slice none 0 0)).later (qab _ (.cells #[.bool false, .int .u8 3, .string s, .int .i64 0, .slice none 0 0] 35)));rw [hw1]; simpa using h
 have hx2 : BoxT w1 (W.heap.size + 2) false 3 s 0 (.slice none 0 0) := by
  have h := qam ((W.alloc (.cells #[.bool false, .int .u8 0, .string ⟨#[]⟩, .int .i64 0, .slice none 0 0] 35)).alloc (.cells #[.bool true, .int .u8 1, .string ⟨#[40]⟩, .int .i64 0, .slice none 0 0] 35)) false 3 s 0 (.slice none 0 0);rw [hw1]; simpa using h
 have HS := Zh (aI hx0 (aI hx1 (aI hx2 (aI hb1 hsz))));have HW1 := Zh hw1;clear hw1 hb1 hsz hx0 hx1 hx2 hgl0 hu hN hgl hui huc;go_enter Tryz.func53, Tryz.ntmps53
 go_wp2_with (at_builtin; rw [<- HW1.o]; refine qbb (by rfl) _ _ (by rfl) (fun b => W.heap.size + 3 <= b) (fun _ => False) (W.heap.size + 2) _ .nil false 3 s 0 .nil none 0 (by rfl) (by rfl) (OwnG.nil _ _) HS.o.2.2.1 trivial (Nat.le_refl _) (Nat.zero_le _) (fun _ h => h.elim) (by rw [HS.o.2.2.2.2]; exact Nat.le_refl _) (by simp [Fo.len]) ?_)
 intro p2 c2 w2 hp2 ho2;have ho2b : Below w1.heap.size w1 w2 := ho2.below (fun k hk => by cases hk) (Nat.le_refl _);have HS2 := Zh (aI (HS.o.1.later ho2b) (aI (HS.o.2.1.later ho2b) (aI hp2 (aI (HS.o.2.2.2.1.trans (ho2b.mono HS.o.2.2.2.1.size)) (show W.heap.size + 3 <= w2.heap.size from by have := ho2b.size; rw [HS.o.2.2.2.2] at this; exact this)))));clear ho2 ho2b hp2;obtain ⟨y0, y1, y2, y3, y4, yf⟩ := HS2.o.2.1;obtain ⟨w3, hw3⟩ : ∃ w3, w3 = w2.setCell ⟨W.heap.size + 1, 4, none⟩ (.slice p2 (Fo.nil.len + 1) c2) := ⟨_, rfl⟩;have HW3 := Zh hw3;have ho3 : Only (fun k => k = W.heap.size + 1) w2 w3 := by rw [hw3]; exact Only.of_setCell w2 ⟨W.heap.size + 1, 4, none⟩ _
 have HS3 := Zh (show BoxT w3 W.heap.size false 0 ⟨#[]⟩ 0 (.slice none 0 0) /\ BoxT w3 (W.heap.size + 1) true 1 ⟨#[40]⟩ 0 (.slice p2 (Fo.nil.len + 1) c2) /\ OwnG w3 (fun b => W.heap.size + 3 <= b) (.slice p2 (Fo.nil.len + 1) c2) (Fo.nil.snoc false 3 s 0 .nil) /\ Below W.heap.size W w3 /\ W.heap.size + 3 <= w3.heap.size from
  ⟨HS2.o.1.only ho3 (by omega), by rw [hw3]; exact HS2.o.2.1.set4 _, HS2.o.2.2.1.only ho3 (fun b hb e => by omega), HS2.o.2.2.2.1.trans (ho3.below (fun j hj => by omega) HS2.o.2.2.2.1.size), Nat.le_trans HS2.o.2.2.2.2 ho3.size⟩)
 clear hw3 ho3
 go_wp2_with (at_builtin; rw [<- HW3.o]; refine qey (by rfl) _ _ (by rfl) (fun b => N <= b /\ b ≠ W.heap.size /\ b ≠ W.heap.size + 1) (fun b => N <= b /\ b < W.heap.size) (.slice p2 (Fo.nil.len + 1) c2) (.slice uq gl uc) _ g (by rfl) (by rfl) (HS3.o.2.2.1.mono (fun b hb _ => ?_)) ((HU.o.mono (fun b hb hl => ⟨hb, hl⟩)).later HS3.o.2.2.2.1) ?_ ?_ (by simp [Fo.snoc, Fo.len]) (by rw [<- HGL.o]; exact HL.o) ?_)
 case refine_1 => have := HN.o; omega
 case refine_2 =>
  intro b hb _;exact ⟨⟨hb.1, by omega, by omega⟩, fun e => by have := (HS3.o.2.2.1.blk b e).1; omega⟩
 case refine_3 => have := HS3.o.2.2.2.2; have := HN.o; exact ⟨by omega, by omega, by omega⟩
 intro p4 c4 w4 hp4 ho4;have hx4 := HS3.o.2.1.only ho4 (fun e => by have := (HS3.o.2.2.1.blk _ e).1; omega);have hz4 := HS3.o.1.only ho4 (fun e => by have := (HS3.o.2.2.1.blk _ e).1; omega);have hb4 := HS3.o.2.2.2.1.trans (ho4.below (B := W.heap.size) (fun j e => by have := (HS3.o.2.2.1.blk _ e).1; omega) HS3.o.2.2.2.1.size);have HS4 := Zh (aI hz4 (aI hx4 (aI hp4 hb4)));clear hz4 hx4 hp4 hb4 ho4 y0 y1 y2 y3 y4 yf;obtain ⟨L4, hL4⟩ : ∃ n, n = (Fo.nil.snoc false 3 s 0 Fo.nil).len + g.len := ⟨_, rfl⟩;have HL4 := Zh hL4;rw [<- hL4];clear hL4;obtain ⟨x0, x1, x2, x3, x4, xf⟩ := HS4.o.2.1;obtain ⟨z0, z1, z2, z3, z4, zf⟩ := HS4.o.1
 go_wp2_with fail
 have hr := HS4.o.2.2.1;rw [<- HL4.o] at hr;obtain ⟨q, c, hv, hc, hq⟩ := hr.foIn;have hlen : L4 = gl + 1 := by rw [HL4.o, HGL.o]; simp [Fo.snoc, Fo.len]; omega
 injection hv with hv1 hv2 hv3
 subst hv1 hv3;rw [<- hv2, hlen] at hc;rw [hlen];refine bodyPost_ret (v := trV true 1 ⟨#[40]⟩ 0 p4 (gl + 1) c4) (by simp [trV, results, Tryz.results53, go_sem, z0, z1, z2, z3, z4]) rfl ⟨p4, c4, rfl, hc, ?_, ?_⟩
 ·have hne : ∀ o b, (N <= b /\ b ≠ W.heap.size /\ b ≠ W.heap.size + 1) -> ¬ b = (⟨W.heap.size, o, none⟩ : Addr).block := fun o b h e => by simp only at e; omega
  have hne1 : ∀ o b, (N <= b /\ b ≠ W.heap.size /\ b ≠ W.heap.size + 1) -> ¬ b = (⟨W.heap.size + 1, o, none⟩ : Addr).block := fun o b h e => by simp only at e; omega
  exact ((((((hq.only (Only.of_setCell _ _ _) (hne1 _)).only (Only.of_setCell _ _ _) (hne _)).only (Only.of_setCell _ _ _) (hne _)).only (Only.of_setCell _ _ _) (hne _)).only (Only.of_setCell _ _ _) (hne _)).only (Only.of_setCell _ _ _) (hne _)).mono (fun b hb _ => hb.1)
 ·iterate 5 refine Below.setCell ?_ (show W.heap.size <= W.heap.size from Nat.le_refl _) _
  exact Below.setCell HS4.o.2.2.2 (show W.heap.size <= W.heap.size + 1 from Nat.le_succ _) _
theorem qkr (n : Int) (W : World) (h0 : -4611686018427387903 <= n) (h1 : n <= 4611686018427387903) : Calls Tryz.prog 51 #[.int .i64 n] W fun e w' => TrR W w' e (nuL n) (nuK n) (nuS n) (nuX n) := by
 by_cases hn : n < 0
 case neg =>
  refine (qcn n W (by omega) (by omega)).mono ?_;rintro e w' ⟨rfl, hb⟩;refine ⟨none, 0, ?_, ?_, ?_, ?_, hb⟩
  ·simp [nuL, nuK, nuS, nuX, hn, Fo.len]
  ·simp [nuX, hn, Fo.len]
  ·simp [nuX, hn, Fo.len]
  ·simp [nuX, hn, FoIn]
 have hlt : n < 0 := hn;have hw : IntKind.i64.wrap (-n) = -n := by have := IntWalk.i64_in (-n) (by omega); exact this
 have HNX := Zh (show nuX n = .cons false 3 ⟨#[45]⟩ 0 .nil (.cons false 4 (itoB (-n)) 0 .nil .nil) from by simp [nuX, hn]);have HNL := Zh (show nuL n = true /\ nuK n = 1 /\ nuS n = ⟨#[40]⟩ from by simp [nuL, nuK, nuS, hn]);have HP := Zh (fun w => qcn (-n) w (by omega) (by omega));clear hn;go_enter Tryz.func51, Tryz.ntmps51
 go_wp2_with fail
 refine (HP.o _).mono ?_;rintro e w1 ⟨rfl, hb⟩;have hbx := (qam W false 0 ⟨#[]⟩ 0 (.slice none 0 0)).later hb;have HB := Zh (Below.trans (qab W (.cells #[.bool false, .int .u8 0, .string ⟨#[]⟩, .int .i64 0, .slice none 0 0] 35)) (hb.mono (by simp)));have HLT := Zh hbx.lt;have HBX := Zh hbx
 have HOW := Zh (show OwnG (w1.alloc (.cells #[.bool false, .int .u8 4, .string (itoB (-n)), .int .i64 0, .slice none 0 0] 35)) (fun b => W.heap.size + 1 <= b) (.slice (some ⟨w1.heap.size, 0, none⟩) 1 1) (.cons false 4 (itoB (-n)) 0 .nil .nil) from by
  refine (OwnF.wide (base := w1.heap.size) (f := .cons false 4 (itoB (-n)) 0 .nil .nil) (v := .slice (some ⟨w1.heap.size, 0, none⟩) 1 1) ⟨trC false 4 (itoB (-n)) 0 none 0 0, ⟨rfl, .inr ⟨w1.heap.size, 1, #[.bool false, .int .u8 4, .string (itoB (-n)), .int .i64 0, .slice none 0 0], rfl, Nat.le_refl _, Array.getElem?_push_size, Nat.le_refl _, by decide, rfl, rfl⟩⟩, none, 0, [], by simp [Fo.len], Nat.le_refl _, Nat.zero_le _, trivial, rfl⟩).mono (fun b hb _ => ?_);have := hbx.lt
  omega)
 clear hb hbx;unfold trV
 go_wp2_with fail
 refine (qdo _ _ _ (W.heap.size + 1) _ HOW.o (by have := HLT.o; simp; omega) (by simp [Fo.len])).mono ?_;rintro e w3 ⟨q, c, rfl, hc, hq, hb⟩;have HB3 := Zh ((HB.o.alloc HB.o.size (.cells #[.bool false, .int .u8 4, .string (itoB (-n)), .int .i64 0, .slice none 0 0] 35)).trans (hb.mono (by have := HB.o.size; simp; omega)));have HQ := Zh (aI hc hq);obtain ⟨z0, z1, z2, z3, z4, zf⟩ := (HBX.o.later (qab w1 (.cells #[.bool false, .int .u8 4, .string (itoB (-n)), .int .i64 0, .slice none 0 0] 35))).later hb;clear hb hc hq;unfold trV
 go_wp2_with fail
 refine bodyPost_ret (v := trV true 1 ⟨#[40]⟩ 0 q 2 c) (by simp [trV, results, Tryz.results51, go_sem, z0, z1, z2, z3, z4, Fo.len]) rfl ⟨q, c, ?_, ?_, ?_, ?_, ?_⟩
 ·rw [HNX.o, HNL.o.1, HNL.o.2.1, HNL.o.2.2]; rfl
 ·rw [HNX.o]; exact HQ.o.1
 ·rw [HNX.o]; simp [Fo.len]
 ·rw [HNX.o]
  have hne : ∀ o b, W.heap.size + 1 <= b -> ¬ b = (⟨W.heap.size, o, none⟩ : Addr).block := fun o b h e => by simp only at e; omega
  exact (((((HQ.o.2.only (Only.of_setCell _ _ _) (hne _)).only (Only.of_setCell _ _ _) (hne _)).only (Only.of_setCell _ _ _) (hne _)).only (Only.of_setCell _ _ _) (hne _)).only (Only.of_setCell _ _ _) (hne _)).mono (fun b hb _ => Nat.le_of_succ_le hb)
 ·iterate 5 refine Below.setCell ?_ (show W.heap.size <= W.heap.size from Nat.le_refl _) _
  exact HB3.o
theorem qik (p : Option Addr) (c n : Nat) (xs : List Int) (W : World) (h : IntsIn W p xs) (hl : xs.length = n) (hn : n <= 500000000) (hxs : ∀ x ∈ xs, -4611686018427387903 <= x /\ x <= 4611686018427387903) (htab : qb7 W) :
  Calls Tryz.prog 67 #[.slice p n c] W fun e w' => ∃ q d, e = .returned (.slice q n d) /\ OwnG w' (fun b => W.heap.size <= b) (.slice q n d) (nusF xs) /\ Below W.heap.size W w' := by
 have H := Zh h;have HL := Zh hl;have HX := Zh hxs;have HT := Zh htab;clear htab;have HN := Zh hn;have n1 : (n : Int) <= 500000000 := by omega
 clear h hl hxs;go_enter Tryz.func67, Tryz.ntmps67
 go_wp2_with fail
 go_loopg [3, 8] n (fun gk s3 s8 wx => ∃ (k : Nat) (p3 : Option Addr) (c3 : Nat), k + gk = n /\ s3 = .slice p3 k c3 /\ s8 = .int .i64 (k : Int) /\ Hid (OwnG wx (fun b => W.heap.size <= b) (.slice p3 k c3) (nusF (xs.take k)) /\ Below W.heap.size W wx))
 case atStart => exact ⟨0, none, 0, by omega, rfl, rfl, Zh ⟨OwnG.nil _ _, Below.refl _ _⟩⟩
 case round =>
  obtain ⟨k, p3, c3, hk, rfl, rfl, HR⟩ := hrel;have k0 : (0 : Int) <= (k : Int) := Int.natCast_nonneg k
  by_cases hlt : k < n
  ·have k1 : (k : Int) < (n : Int) := Int.ofNat_lt.2 hlt
   have hkl : k < xs.length := by rw [HL.o]; exact hlt
   obtain ⟨b, off, rfl, c0⟩ := (H.o.later HR.o.2) k hkl;have HS := Zh (qax hlt (show n <= 9223372036854775807 from by omega));obtain ⟨x, hx⟩ : ∃ x, x = xs[k] := ⟨_, rfl⟩;have HE := Zh (show xs.take (k + 1) = xs.take k ++ [x] from by rw [hx, List.take_add_one, List.getElem?_eq_getElem hkl]; rfl);have HM := Zh (show x ∈ xs from by rw [hx]; exact List.getElem_mem hkl);rw [<- hx] at c0;have HK := Zh hk;have HLT := Zh hlt;clear hx hkl hk hlt
   go_wp2_with fail
   refine (qkp x _ (HX.o x HM.o).1 (HX.o x HM.o).2 (qak HT.o HR.o.2)).mono ?_;rintro e w1 ⟨q, d, rfl, hd, hd2, hq, hb⟩;have HB := Zh (HR.o.2.trans (hb.mono HR.o.2.size));have HQ := Zh (show OwnG w1 (fun b => W.heap.size <= b) (.slice p3 k c3) (nusF (xs.take k)) /\ FoIn w1 (fun b => wr.heap.size <= b) (nuX x) q from ⟨HR.o.1.later hb, hq⟩);have HZ := Zh (show wr.heap.size <= w1.heap.size from hb.size);have HD := Zh (aI hd hd2);obtain ⟨w2, hw2⟩ : ∃ w2, w2 = w1.alloc (.cells #[.bool (nuL x), .int .u8 (nuK x), .string (nuS x), .int .i64 0, .slice q (nuX x).len d] 35) := ⟨_, rfl⟩;have HB2 := Zh (show Below w1.heap.size w1 w2 from by rw [hw2]; exact qab _ _);have HBX := Zh (show BoxT w2 w1.heap.size (nuL x) (nuK x) (nuS x) 0 (.slice q (nuX x).len d) from by rw [hw2]; exact qam _ _ _ _ _ _);have HSZ := Zh (show w2.heap.size = w1.heap.size + 1 from by rw [hw2]; simp);have HW2 := Zh hw2;clear hb hq hd hd2 hw2;unfold trV
   go_wp2_with (at_builtin; rw [<- HW2.o]; refine qbb (by rfl) _ _ (by rfl) (fun b => W.heap.size <= b) (fun b => wr.heap.size <= b) w1.heap.size _ (nusF (xs.take k)) (nuL x) (nuK x) (nuS x) 0 (nuX x) q d (by rfl) (by rfl) (HQ.o.1.later HB2.o) HBX.o (HQ.o.2.later HB2.o) HD.o.1 HD.o.2 ?_ ?_ ?_ ?_)
   case refine_1 =>
    intro b hb _;refine ⟨Nat.le_trans HR.o.2.size hb, fun e => ?_⟩;have h1 := (HR.o.1.blk b e).2;have h2 : wr.heap.size <= b := hb;omega
   case refine_2 => have h1 := HSZ.o; have h2 := HB.o.size; omega
   case refine_3 => rw [qag]; have h1 := HN.o; have h2 := HLT.o; simp; omega
   intro p5 c5 w5 hp5 ho5
   have HP5 := Zh (show OwnG w5 (fun b => W.heap.size <= b) (.slice p5 (k + 1) c5) (nusF (xs.take (k + 1))) from by
    have e1 : (nusF (xs.take k)).len + 1 = k + 1 := by rw [qag, List.length_take, HL.o]; have := HLT.o; omega
    have h := hp5;rw [e1] at h
    rw [HE.o, qdw]; exact h)
   have HB5 := Zh (show Below W.heap.size W w5 from (HB.o.trans (HB2.o.mono HB.o.size)).trans (ho5.below (B := W.heap.size) (fun j hj => (HR.o.1.blk j hj).1) (Nat.le_trans HB.o.size HB2.o.size)));have hkk : (nusF (xs.take k)).len = k := by rw [qag, List.length_take, HL.o]; have := HLT.o; omega
   rw [hkk];clear hp5 ho5 hkk;obtain ⟨G, rfl⟩ : ∃ G, gk = G + 1 := ⟨gk - 1, by have := HK.o; have := HLT.o; omega⟩
   go_wp2_with fail
   go_roundg G
   case measure => omega
   case rel => exact ⟨k + 1, p5, c5, by have := HK.o; omega, rfl, by first | rfl | rw [HS.o.2.2], Zh ⟨HP5.o, HB5.o⟩⟩
  ·obtain rfl : n = k := by omega
   clear hlt hk
   go_wp2_with fail
   refine bodyPost_ret (v := .slice p3 n c3) (by simp [results, Tryz.results67, go_sem]) rfl ⟨p3, c3, rfl, ?_, HR.o.2⟩;have h1 := HR.o.1;rw [List.take_of_length_le (by rw [HL.o]; exact Nat.le_refl _)] at h1;exact h1
theorem qno (p : Option Addr) (c n : Nat) (xs : List Int) (W : World) (h : IntsIn W p xs) (hl : xs.length = n) (hn : n <= 500000000) (hxs : ∀ x ∈ xs, -4611686018427387903 <= x /\ x <= 4611686018427387903) (htab : qb7 W) :
  Calls Tryz.prog 30 #[.slice p n c] W fun e w' => ∃ q d, e = .returned (.slice q n d) /\ OwnG w' (fun b => W.heap.size <= b) (.slice q n d) (nusF xs) /\ Below W.heap.size W w' := by
 have H := Zh h;have HL := Zh hl;have HX := Zh hxs;have HT := Zh htab;clear htab;have HN := Zh hn;have n1 : (n : Int) <= 500000000 := by omega
 clear h hl hxs;go_enter Tryz.func30, Tryz.ntmps30
 go_wp2_with fail
 go_loopg [3, 8] n (fun gk s3 s8 wx => ∃ (k : Nat) (p3 : Option Addr) (c3 : Nat), k + gk = n /\ s3 = .slice p3 k c3 /\ s8 = .int .i64 (k : Int) /\ Hid (OwnG wx (fun b => W.heap.size <= b) (.slice p3 k c3) (nusF (xs.take k)) /\ Below W.heap.size W wx))
 case atStart => exact ⟨0, none, 0, by omega, rfl, rfl, Zh ⟨OwnG.nil _ _, Below.refl _ _⟩⟩
 case round =>
  obtain ⟨k, p3, c3, hk, rfl, rfl, HR⟩ := hrel;have k0 : (0 : Int) <= (k : Int) := Int.natCast_nonneg k
  by_cases hlt : k < n
  ·have k1 : (k : Int) < (n : Int) := Int.ofNat_lt.2 hlt
   have hkl : k < xs.length := by rw [HL.o]; exact hlt
   obtain ⟨b, off, rfl, c0⟩ := (H.o.later HR.o.2) k hkl;have HS := Zh (qax hlt (show n <= 9223372036854775807 from by omega));obtain ⟨x, hx⟩ : ∃ x, x = xs[k] := ⟨_, rfl⟩;have HE := Zh (show xs.take (k + 1) = xs.take k ++ [x] from by rw [hx, List.take_add_one, List.getElem?_eq_getElem hkl]; rfl);have HM := Zh (show x ∈ xs from by rw [hx]; exact List.getElem_mem hkl);rw [<- hx] at c0;have HK := Zh hk;have HLT := Zh hlt;clear hx hkl hk hlt
   go_wp2_with fail
   refine (qkq x _ (HX.o x HM.o).1 (HX.o x HM.o).2 (qak HT.o HR.o.2)).mono ?_;rintro e w1 ⟨q, d, rfl, hd, hd2, hq, hb⟩;have HB := Zh (HR.o.2.trans (hb.mono HR.o.2.size));have HQ := Zh (show OwnG w1 (fun b => W.heap.size <= b) (.slice p3 k c3) (nusF (xs.take k)) /\ FoIn w1 (fun b => wr.heap.size <= b) (nuX x) q from ⟨HR.o.1.later hb, hq⟩);have HZ := Zh (show wr.heap.size <= w1.heap.size from hb.size);have HD := Zh (aI hd hd2);obtain ⟨w2, hw2⟩ : ∃ w2, w2 = w1.alloc (.cells #[.bool (nuL x), .int .u8 (nuK x), .string (nuS x), .int .i64 0, .slice q (nuX x).len d] 35) := ⟨_, rfl⟩;have HB2 := Zh (show Below w1.heap.size w1 w2 from by rw [hw2]; exact qab _ _);have HBX := Zh (show BoxT w2 w1.heap.size (nuL x) (nuK x) (nuS x) 0 (.slice q (nuX x).len d) from by rw [hw2]; exact qam _ _ _ _ _ _);have HSZ := Zh (show w2.heap.size = w1.heap.size + 1 from by rw [hw2]; simp);have HW2 := Zh hw2;clear hb hq hd hd2 hw2;unfold trV
   go_wp2_with (at_builtin; rw [<- HW2.o]; refine qbb (by rfl) _ _ (by rfl) (fun b => W.heap.size <= b) (fun b => wr.heap.size <= b) w1.heap.size _ (nusF (xs.take k)) (nuL x) (nuK x) (nuS x) 0 (nuX x) q d (by rfl) (by rfl) (HQ.o.1.later HB2.o) HBX.o (HQ.o.2.later HB2.o) HD.o.1 HD.o.2 ?_ ?_ ?_ ?_)
   case refine_1 =>
    intro b hb _;refine ⟨Nat.le_trans HR.o.2.size hb, fun e => ?_⟩;have h1 := (HR.o.1.blk b e).2;have h2 : wr.heap.size <= b := hb;omega
   case refine_2 => have h1 := HSZ.o; have h2 := HB.o.size; omega
   case refine_3 => rw [qag]; have h1 := HN.o; have h2 := HLT.o; simp; omega
   intro p5 c5 w5 hp5 ho5
   have HP5 := Zh (show OwnG w5 (fun b => W.heap.size <= b) (.slice p5 (k + 1) c5) (nusF (xs.take (k + 1))) from by
    have e1 : (nusF (xs.take k)).len + 1 = k + 1 := by rw [qag, List.length_take, HL.o]; have := HLT.o; omega
    have h := hp5;rw [e1] at h
    rw [HE.o, qdw]; exact h)
   have HB5 := Zh (show Below W.heap.size W w5 from (HB.o.trans (HB2.o.mono HB.o.size)).trans (ho5.below (B := W.heap.size) (fun j hj => (HR.o.1.blk j hj).1) (Nat.le_trans HB.o.size HB2.o.size)));have hkk : (nusF (xs.take k)).len = k := by rw [qag, List.length_take, HL.o]; have := HLT.o; omega
   rw [hkk];clear hp5 ho5 hkk;obtain ⟨G, rfl⟩ : ∃ G, gk = G + 1 := ⟨gk - 1, by have := HK.o; have := HLT.o; omega⟩
   go_wp2_with fail
   go_roundg G
   case measure => omega
   case rel => exact ⟨k + 1, p5, c5, by have := HK.o; omega, rfl, by first | rfl | rw [HS.o.2.2], Zh ⟨HP5.o, HB5.o⟩⟩
  ·obtain rfl : n = k := by omega
   clear hlt hk
   go_wp2_with fail
   refine bodyPost_ret (v := .slice p3 n c3) (by simp [results, Tryz.results30, go_sem]) rfl ⟨p3, c3, rfl, ?_, HR.o.2⟩;have h1 := HR.o.1;rw [List.take_of_length_le (by rw [HL.o]; exact Nat.le_refl _)] at h1;exact h1
theorem qdj (p : Option Addr) (c n : Nat) (xs : List Int) (W : World) (h : IntsIn W p xs) (hl : xs.length = n) (hn : n <= 500000000) (hxs : ∀ x ∈ xs, -4611686018427387903 <= x /\ x <= 4611686018427387903) :
  Calls Tryz.prog 81 #[.slice p n c] W fun e w' => ∃ q d, e = .returned (.slice q n d) /\ OwnG w' (fun b => W.heap.size <= b) (.slice q n d) (nusF xs) /\ Below W.heap.size W w' := by
 have H := Zh h;have HL := Zh hl;have HX := Zh hxs;have HN := Zh hn;have n1 : (n : Int) <= 500000000 := by omega
 clear h hl hxs;go_enter Tryz.func81, Tryz.ntmps81
 go_wp2_with fail
 go_loopg [3, 4] n (fun gk s3 s8 wx => ∃ (k : Nat) (p3 : Option Addr) (c3 : Nat), k + gk = n /\ s3 = .slice p3 k c3 /\ s8 = .int .i64 (k : Int) /\ Hid (OwnG wx (fun b => W.heap.size <= b) (.slice p3 k c3) (nusF (xs.take k)) /\ Below W.heap.size W wx))
 case atStart => exact ⟨0, none, 0, by omega, rfl, rfl, Zh ⟨OwnG.nil _ _, Below.refl _ _⟩⟩
 case round =>
  obtain ⟨k, p3, c3, hk, rfl, rfl, HR⟩ := hrel;have k0 : (0 : Int) <= (k : Int) := Int.natCast_nonneg k
  by_cases hlt : k < n
  ·have k1 : (k : Int) < (n : Int) := Int.ofNat_lt.2 hlt
   have hkl : k < xs.length := by rw [HL.o]; exact hlt
   obtain ⟨b, off, rfl, c0⟩ := (H.o.later HR.o.2) k hkl;have HS := Zh (qax hlt (show n <= 9223372036854775807 from by omega));obtain ⟨x, hx⟩ : ∃ x, x = xs[k] := ⟨_, rfl⟩;have HE := Zh (show xs.take (k + 1) = xs.take k ++ [x] from by rw [hx, List.take_add_one, List.getElem?_eq_getElem hkl]; rfl);have HM := Zh (show x ∈ xs from by rw [hx]; exact List.getElem_mem hkl);rw [<- hx] at c0;have HK := Zh hk;have HLT := Zh hlt;clear hx hkl hk hlt
   go_wp2_with fail
   refine (qkr x _ (HX.o x HM.o).1 (HX.o x HM.o).2).mono ?_;rintro e w1 ⟨q, d, rfl, hd, hd2, hq, hb⟩;have HB := Zh (HR.o.2.trans (hb.mono HR.o.2.size));have HQ := Zh (show OwnG w1 (fun b => W.heap.size <= b) (.slice p3 k c3) (nusF (xs.take k)) /\ FoIn w1 (fun b => wr.heap.size <= b) (nuX x) q from ⟨HR.o.1.later hb, hq⟩);have HZ := Zh (show wr.heap.size <= w1.heap.size from hb.size);have HD := Zh (aI hd hd2);obtain ⟨w2, hw2⟩ : ∃ w2, w2 = w1.alloc (.cells #[.bool (nuL x), .int .u8 (nuK x), .string (nuS x), .int .i64 0, .slice q (nuX x).len d] 35) := ⟨_, rfl⟩;have HB2 := Zh (show Below w1.heap.size w1 w2 from by rw [hw2]; exact qab _ _);have HBX := Zh (show BoxT w2 w1.heap.size (nuL x) (nuK x) (nuS x) 0 (.slice q (nuX x).len d) from by rw [hw2]; exact qam _ _ _ _ _ _);have HSZ := Zh (show w2.heap.size = w1.heap.size + 1 from by rw [hw2]; simp);have HW2 := Zh hw2;clear hb hq hd hd2 hw2;unfold trV
   go_wp2_with (at_builtin; rw [<- HW2.o]; refine qbb (by rfl) _ _ (by rfl) (fun b => W.heap.size <= b) (fun b => wr.heap.size <= b) w1.heap.size _ (nusF (xs.take k)) (nuL x) (nuK x) (nuS x) 0 (nuX x) q d (by rfl) (by rfl) (HQ.o.1.later HB2.o) HBX.o (HQ.o.2.later HB2.o) HD.o.1 HD.o.2 ?_ ?_ ?_ ?_)
   case refine_1 =>
    intro b hb _;refine ⟨Nat.le_trans HR.o.2.size hb, fun e => ?_⟩;have h1 := (HR.o.1.blk b e).2;have h2 : wr.heap.size <= b := hb;omega
   case refine_2 => have h1 := HSZ.o; have h2 := HB.o.size; omega
   case refine_3 => rw [qag]; have h1 := HN.o; have h2 := HLT.o; simp; omega
   intro p5 c5 w5 hp5 ho5
   have HP5 := Zh (show OwnG w5 (fun b => W.heap.size <= b) (.slice p5 (k + 1) c5) (nusF (xs.take (k + 1))) from by
    have e1 : (nusF (xs.take k)).len + 1 = k + 1 := by rw [qag, List.length_take, HL.o]; have := HLT.o; omega
    have h := hp5;rw [e1] at h
    rw [HE.o, qdw]; exact h)
   have HB5 := Zh (show Below W.heap.size W w5 from (HB.o.trans (HB2.o.mono HB.o.size)).trans (ho5.below (B := W.heap.size) (fun j hj => (HR.o.1.blk j hj).1) (Nat.le_trans HB.o.size HB2.o.size)));have hkk : (nusF (xs.take k)).len = k := by rw [qag, List.length_take, HL.o]; have := HLT.o; omega
   rw [hkk];clear hp5 ho5 hkk;obtain ⟨G, rfl⟩ : ∃ G, gk = G + 1 := ⟨gk - 1, by have := HK.o; have := HLT.o; omega⟩
   go_wp2_with fail
   go_roundg G
   case measure => omega
   case rel => exact ⟨k + 1, p5, c5, by have := HK.o; omega, rfl, by first | rfl | rw [HS.o.2.2], Zh ⟨HP5.o, HB5.o⟩⟩
  ·obtain rfl : n = k := by omega
   clear hlt hk
   go_wp2_with fail
   refine bodyPost_ret (v := .slice p3 n c3) (by simp [results, Tryz.results81, go_sem]) rfl ⟨p3, c3, rfl, ?_, HR.o.2⟩;have h1 := HR.o.1;rw [List.take_of_length_le (by rw [HL.o]; exact Nat.le_refl _)] at h1;exact h1
def BoolsIn (W : World) (p : Option Addr) (c : List Bool) : Prop := ∀ i (h : i < c.length), ∃ b off, p = some ⟨b, off, none⟩ /\ W.cell? ⟨b, off + i, none⟩ = some (.bool c[i])
theorem BoolsIn.later {W W' : World} {p : Option Addr} {c : List Bool} (h : BoolsIn W p c) (hb : Below W.heap.size W W') : BoolsIn W' p c := fun i hi => by
 obtain ⟨b, off, e, hc⟩ := h i hi;exact ⟨b, off, e, qaa hb hc⟩
def flt : List Bool -> List Int -> List Int
 | h :: hs, x :: xs => if h then x :: flt hs xs else flt hs xs
 | _, _ => []
theorem qky (h : Bool) (x : Int) : ∀ (hs : List Bool) (xs : List Int), hs.length = xs.length -> flt (hs ++ [h]) (xs ++ [x]) = flt hs xs ++ (if h then [x] else [])
 | [], [], _ => by simp [flt]
 | [], _ :: _, e => by simp at e
 | _ :: _, [], e => by simp at e
 | g :: hs, y :: xs, e => by
  have ih := qky h x hs xs (by simpa using e);simp only [List.cons_append, flt, ih]
  split <;> rfl
theorem qce : ∀ (hs : List Bool) (xs : List Int), (flt hs xs).length <= xs.length
 | [], xs => by simp [flt]
 | _ :: _, [] => by simp [flt]
 | g :: hs, y :: xs => by
  have ih := qce hs xs;simp only [flt]; split <;> simp <;> omega
theorem qd8 (p0 : Option Addr) (cc : Nat) (p : Option Addr) (c n : Nat) (hs : List Bool) (xs : List Int) (W : World) (hh : BoolsIn W p0 hs) (hhl : hs.length = n) (h : IntsIn W p xs) (hl : xs.length = n) (hn : n <= 500000000) (hxs : ∀ x ∈ xs, -4611686018427387903 <= x /\ x <= 4611686018427387903) (htab : qb7 W) :
  Calls Tryz.prog 33 #[.slice p0 n cc, .slice p n c] W fun e w' => ∃ q d, e = .returned (.slice q (flt hs xs).length d) /\ OwnG w' (fun b => W.heap.size <= b) (.slice q (flt hs xs).length d) (nusF (flt hs xs)) /\ Below W.heap.size W w' := by
 have H := Zh h;have HL := Zh hl;have HH := Zh hh;have HHL := Zh hhl;have HX := Zh hxs;have HT := Zh htab;have HN := Zh hn;have n1 : (n : Int) <= 500000000 := by omega
 clear h hl hxs htab hh hhl;go_enter Tryz.func33, Tryz.ntmps33
 go_wp2_with fail
 go_loopg [5, 9] n (fun gk s3 s8 wx => ∃ (k m : Nat) (p3 : Option Addr) (c3 : Nat), k + gk = n /\ s3 = .slice p3 m c3 /\ s8 = .int .i64 (k : Int) /\ Hid (OwnG wx (fun b => W.heap.size <= b) (.slice p3 m c3) (nusF (flt (hs.take k) (xs.take k))) /\ Below W.heap.size W wx /\ m = (flt (hs.take k) (xs.take k)).length))
 case atStart => exact ⟨0, 0, none, 0, by omega, rfl, rfl, Zh ⟨OwnG.nil _ _, Below.refl _ _, rfl⟩⟩
 case round =>
  obtain ⟨k, m, p3, c3, hk, rfl, rfl, HR⟩ := hrel;have k0 : (0 : Int) <= (k : Int) := Int.natCast_nonneg k
  by_cases hlt : k < n
  ·have k1 : (k : Int) < (n : Int) := Int.ofNat_lt.2 hlt
   have hkl : k < xs.length := by rw [HL.o]; exact hlt
   have hkh : k < hs.length := by rw [HHL.o]; exact hlt
   obtain ⟨b, off, rfl, c0⟩ := (H.o.later HR.o.2.1) k hkl;obtain ⟨b', off', rfl, c1⟩ := (HH.o.later HR.o.2.1) k hkh;have HS := Zh (qax hlt (show n <= 9223372036854775807 from by omega));obtain ⟨x, hx⟩ : ∃ x, x = xs[k] := ⟨_, rfl⟩;obtain ⟨t, ht⟩ : ∃ t, t = hs[k] := ⟨_, rfl⟩
   have HE := Zh (show flt (hs.take (k + 1)) (xs.take (k + 1)) = flt (hs.take k) (xs.take k) ++ (if t then [x] else []) from by
    rw [show xs.take (k + 1) = xs.take k ++ [x] from by rw [hx, List.take_add_one, List.getElem?_eq_getElem hkl]; rfl, show hs.take (k + 1) = hs.take k ++ [t] from by rw [ht, List.take_add_one, List.getElem?_eq_getElem hkh]; rfl]
    exact qky t x _ _ (by simp; omega))
   have HM := Zh (show x ∈ xs from by rw [hx]; exact List.getElem_mem hkl);rw [<- hx] at c0;rw [<- ht] at c1;have HK := Zh hk;have HLT := Zh hlt;clear hx hkl hk hlt ht hkh;obtain ⟨G, rfl⟩ : ∃ G, gk = G + 1 := ⟨gk - 1, by have := HK.o; have := HLT.o; omega⟩
   cases t with
   | false =>
    go_wp2_with fail
    go_roundg G
    case measure => omega
    case rel => exact ⟨k + 1, m, p3, c3, by have := HK.o; omega, rfl, by first | rfl | rw [HS.o.2.2], Zh ⟨by rw [HE.o]; simpa using HR.o.1, HR.o.2.1, by rw [HE.o]; simpa using HR.o.2.2⟩⟩
   | true =>
   go_wp2_with fail
   refine (qkp x _ (HX.o x HM.o).1 (HX.o x HM.o).2 (qak HT.o HR.o.2.1)).mono ?_;rintro e w1 ⟨q, d, rfl, hd, hd2, hq, hb⟩;have HB := Zh (HR.o.2.1.trans (hb.mono HR.o.2.1.size));have HQ := Zh (show OwnG w1 (fun b => W.heap.size <= b) (.slice p3 m c3) (nusF (flt (hs.take k) (xs.take k))) /\ FoIn w1 (fun b => wr.heap.size <= b) (nuX x) q from ⟨HR.o.1.later hb, hq⟩);have HZ := Zh (show wr.heap.size <= w1.heap.size from hb.size);have HD := Zh (aI hd hd2);obtain ⟨w2, hw2⟩ : ∃ w2, w2 = w1.alloc (.cells #[.bool (nuL x), .int .u8 (nuK x), .string (nuS x), .int .i64 0, .slice q (nuX x).len d] 35) := ⟨_, rfl⟩;have HB2 := Zh (show Below w1.heap.size w1 w2 from by rw [hw2]; exact qab _ _);have HBX := Zh (show BoxT w2 w1.heap.size (nuL x) (nuK x) (nuS x) 0 (.slice q (nuX x).len d) from by rw [hw2]; exact qam _ _ _ _ _ _);have HSZ := Zh (show w2.heap.size = w1.heap.size + 1 from by rw [hw2]; simp);have HW2 := Zh hw2;clear hb hq hd hd2 hw2;unfold trV
   go_wp2_with (at_builtin; rw [<- HW2.o]; refine qbb (by rfl) _ _ (by rfl) (fun b => W.heap.size <= b) (fun b => wr.heap.size <= b) w1.heap.size _ (nusF (flt (hs.take k) (xs.take k))) (nuL x) (nuK x) (nuS x) 0 (nuX x) q d (by rfl) (by rfl) (HQ.o.1.later HB2.o) HBX.o (HQ.o.2.later HB2.o) HD.o.1 HD.o.2 ?_ ?_ ?_ ?_)
   case refine_1 =>
    intro b hb _;refine ⟨Nat.le_trans HR.o.2.1.size hb, fun e => ?_⟩;have h1 := (HR.o.1.blk b e).2;have h2 : wr.heap.size <= b := hb;omega
   case refine_2 => have h1 := HSZ.o; have h2 := HB.o.size; omega
   case refine_3 => rw [qag]; have h1 := HN.o; have h2 := HLT.o; have h3 := qce (hs.take k) (xs.take k); have h4 := List.length_take_le k xs; omega
   intro p5 c5 w5 hp5 ho5;have hkk : (nusF (flt (hs.take k) (xs.take k))).len = m := by rw [qag, HR.o.2.2]
   rw [hkk] at hp5 ⊢
   have HP5 := Zh (show OwnG w5 (fun b => W.heap.size <= b) (.slice p5 (m + 1) c5) (nusF (flt (hs.take (k + 1)) (xs.take (k + 1)))) from by
    rw [HE.o, if_pos trivial, qdw]; exact hp5)
   have HB5 := Zh (show Below W.heap.size W w5 from (HB.o.trans (HB2.o.mono HB.o.size)).trans (ho5.below (B := W.heap.size) (fun j hj => (HR.o.1.blk j hj).1) (Nat.le_trans HB.o.size HB2.o.size)));clear hp5 ho5 hkk
   go_wp2_with fail
   go_roundg G
   case measure => omega
   case rel => exact ⟨k + 1, m + 1, p5, c5, by have := HK.o; omega, rfl, by first | rfl | rw [HS.o.2.2], Zh ⟨HP5.o, HB5.o, by rw [HE.o, if_pos trivial, List.length_append, HR.o.2.2]; rfl⟩⟩
  ·obtain rfl : n = k := by omega
   clear hlt hk;have h1 := HR.o;rw [List.take_of_length_le (l := xs) (by rw [HL.o]; exact Nat.le_refl _), List.take_of_length_le (l := hs) (by rw [HHL.o]; exact Nat.le_refl _)] at h1;have H1 := Zh h1;clear h1
   go_wp2_with fail
   refine bodyPost_ret (v := .slice p3 m c3) (by simp [results, Tryz.results33, go_sem]) rfl ⟨p3, c3, by rw [H1.o.2.2], by rw [<- H1.o.2.2]; exact H1.o.1, H1.o.2.1⟩
theorem qcl {P : Program} {md : Region.Mode} {ops : Array Oper} {Q : Exit -> Act -> World -> Prop} {ks : List (Nat × (World -> Prop))} {fuel : Nat} {listed : Array Bool} {a : Act} {w : World} (h : ∀ (Q0 : Exit -> Act -> World -> Prop) (A0 : Act), Q0 = Q -> A0 = a -> qcb P md ops Q0 ks fuel listed A0 w) : qcb P md ops Q ks fuel listed a w := h Q a rfl rfl
structure Keeps (R : World -> Prop) (F : Nat -> Prop) (B : Nat) : Prop where
 only : ∀ w w', R w -> Only (fun j => F j \/ j = B) w w' -> R w'
 notB : ¬ F B
 new : ∀ w k, R w -> w.heap.size <= k -> F k
structure LS (R : World -> Prop) (F : Nat -> Prop) (B : Nat) (w : World) (v : Value) (f : Fo) : Prop where
 rest : R w
 box : BoxT w B true 1 ⟨#[40]⟩ 0 v
 own : OwnG w F v f
section
variable {R : World -> Prop} {F : Nat -> Prop} {B : Nat} {w w1 w5 : World} {v v5 : Value} {f f5 : Fo}
theorem LS.later (K : Keeps R F B) (h : LS R F B w v f) (hb : Below w.heap.size w w1) : LS R F B w1 v f :=
 ⟨K.only _ _ h.rest ((Only.of_below (T := fun _ => False) hb).mono (fun _ _ h => h.elim)), h.box.later hb, h.own.later hb⟩
theorem LS.turn (K : Keeps R F B) (h : LS R F B w1 v f) (ho : Only (fun j => v.ownBlock = some j) w1 w5) (hn : OwnG w5 F v5 f5) : LS R F B (w5.setCell ⟨B, 4, none⟩ v5) v5 f5 := by
 have hx := h.box.only ho (fun e => K.notB (h.own.blk B e).1);have hs := Only.of_setCell w5 ⟨B, 4, none⟩ v5
 exact ⟨K.only _ _ (K.only _ _ h.rest (ho.mono (fun j _ e => Or.inl (h.own.blk j e).1))) (hs.mono (fun j _ e => Or.inr e)), hx.set4 v5, hn.only hs (fun b hb e => K.notB (by
  have e2 : b = B := e
  rw [<- e2]; exact hb))⟩
theorem LS.box_at (K : Keeps R F B) (h : LS R F B w1 v f) (ho : Only (fun j => v.ownBlock = some j) w1 w5) : BoxT w5 B true 1 ⟨#[40]⟩ 0 v :=
 h.box.only ho (fun e => K.notB (h.own.blk B e).1)
end
structure FormAt (W : World) (B : Nat) (h : ByteArray) (a b lit i j : Bool) : Prop where
 c0 : W.cell? ⟨B, 0, none⟩ = some (.string h)
 c3 : W.cell? ⟨B, 3, none⟩ = some (.bool a)
 c4 : W.cell? ⟨B, 4, none⟩ = some (.bool b)
 c5 : W.cell? ⟨B, 5, none⟩ = some (.bool lit)
 c6 : W.cell? ⟨B, 6, none⟩ = some (.bool i)
 c7 : W.cell? ⟨B, 7, none⟩ = some (.bool j)
theorem FormAt.only {W W' : World} {B : Nat} {h : ByteArray} {a b lit i j : Bool} {T : Nat -> Prop} (x : FormAt W B h a b lit i j) (ho : Only T W W') (hn : ¬ T B) : FormAt W' B h a b lit i j :=
 ⟨ho.cell x.c0 hn, ho.cell x.c3 hn, ho.cell x.c4 hn, ho.cell x.c5 hn, ho.cell x.c6 hn, ho.cell x.c7 hn⟩
theorem LkAt.only {W W' : World} {B : Nat} {x : Lk} {q : Option Addr} {c : Nat} {T : Nat -> Prop} (h : LkAt W B x q c) (ho : Only T W W') (hn : ¬ T B) : LkAt W' B x q c :=
 ⟨ho.cell h.c0 hn, ho.cell h.c1 hn, ho.cell h.c2 hn, ho.cell h.c3 hn, ho.cell h.c4 hn, ho.cell h.c5 hn, ho.cell h.c6 hn⟩
theorem StAt.only {W W' : World} {B : Nat} {x : Stp} {p : Option Addr} {c : Nat} {q : Option Addr} {d : Nat} {T : Nat -> Prop} (h : StAt W B x p c q d) (ho : Only T W W') (hn : ¬ T B) : StAt W' B x p c q d :=
 ⟨ho.cell h.c0 hn, ho.cell h.c1 hn, ho.cell h.c2 hn, ho.cell h.c3 hn, ho.cell h.c4 hn⟩
structure RLk (W : World) (B : Nat) (h : ByteArray) (a b lit i j : Bool) (x : Lk) (q : Option Addr) (c : Nat) (w : World) : Prop where
 form : FormAt w W.heap.size h a b lit i j
 lk : LkAt w (W.heap.size + 1) x q c
 res : BoxT w (W.heap.size + 1 + 1) false 0 ⟨#[]⟩ 0 (.slice none 0 0)
 below : Below W.heap.size W w
 lt : B < w.heap.size
def FLk (W : World) (B : Nat) : Nat -> Prop := fun b => W.heap.size + 3 <= b /\ b ≠ B
theorem qkw (W : World) (B : Nat) (hB : W.heap.size + 3 <= B) (h : ByteArray) (a b lit i j : Bool) (x : Lk) (q : Option Addr) (c : Nat) : Keeps (RLk W B h a b lit i j x q c) (FLk W B) B where
 only := fun w w' r ho => ⟨r.form.only ho (fun e => by unfold FLk at e; omega), r.lk.only ho (fun e => by unfold FLk at e; omega), r.res.only ho (fun e => by unfold FLk at e; omega), r.below.trans (ho.below (B := W.heap.size) (fun k e => by unfold FLk at e; omega) r.below.size), Nat.lt_of_lt_of_le r.lt ho.size⟩
 notB := fun e => e.2 rfl
 new := fun w k r hk => ⟨by have := r.lt; omega, by have := r.lt; omega⟩
structure OwnI (e : TypeId) (W : World) (F : Nat -> Prop) (v : Value) (l : List Int) : Prop where
 has : W.ownsRow 0 e 1 v l.length (l.map (fun x => Value.int .i64 x))
 blk : ∀ k, v.ownBlock = some k -> F k /\ k < W.heap.size
section
variable {e : TypeId} {W W' : World} {F T : Nat -> Prop} {v : Value} {l : List Int}
theorem OwnI.later (h : OwnI e W F v l) (hb : Below W.heap.size W W') : OwnI e W' F v l := ⟨qal h.has hb, fun k hk => ⟨(h.blk k hk).1, Nat.lt_of_lt_of_le (h.blk k hk).2 hb.size⟩⟩
theorem OwnI.only (h : OwnI e W F v l) (ho : Only T W W') (hn : ∀ b, F b -> ¬ T b) : OwnI e W' F v l := ⟨qb3 h.has ho (fun k hk => hn k (h.blk k hk).1), fun k hk => ⟨(h.blk k hk).1, Nat.lt_of_lt_of_le (h.blk k hk).2 ho.size⟩⟩
theorem OwnI.mono {F' : Nat -> Prop} (h : OwnI e W F v l) (hn : ∀ b, F b -> b < W.heap.size -> F' b) : OwnI e W F' v l := ⟨h.has, fun k hk => ⟨hn k (h.blk k hk).1 (h.blk k hk).2, (h.blk k hk).2⟩⟩
theorem OwnI.nil (e : TypeId) (W : World) (F : Nat -> Prop) : OwnI e W F (.slice none 0 0) [] := ⟨⟨rfl, Or.inl ⟨rfl, rfl⟩⟩, fun k hk => by cases hk⟩
theorem OwnI.intsIn (h : OwnI e W F v l) : ∃ q c, v = .slice q l.length c /\ l.length <= c /\ c <= 9223372036854775807 /\ (q = none -> c = 0) /\ (∀ a, q = some a -> a = ⟨a.block, 0, none⟩ /\ F a.block) /\ IntsIn W q l /\ ∀ a, q = some a -> ∀ i, i < l.length -> W.frozen? ⟨a.block, i, none⟩ = false := by
 have hb := h.blk;obtain ⟨h0, ⟨h1, h2⟩ | ⟨g, cap, cur, hv, hg, hh, hn, hm, hs, ht⟩⟩ := h.has
 ·have : l = [] := List.eq_nil_of_length_eq_zero h2
  subst this;exact ⟨none, 0, h1, Nat.le_refl _, Nat.zero_le _, fun _ => rfl, (fun a h => by cases h), IntsIn.nil _ _, (fun a h => by cases h)⟩
 ·refine ⟨some ⟨g, 0, none⟩, cap, hv, hn, hm, fun h => (by cases h), fun a h => by cases h; exact ⟨rfl, (hb g (by rw [hv]; rfl)).1⟩, fun i hi => ⟨g, 0, rfl, ?_⟩, fun a ha i hi => by cases ha; simp [World.frozen?, hh]⟩
  have e1 : (cur.toList.take (l.length * 1))[i]? = some (.int .i64 l[i]) := by rw [ht]; simp [hi]
  rw [List.getElem?_take_of_lt (by omega)] at e1;have e' : cur[i]? = some (.int .i64 l[i]) := by simpa using e1
  rw [Nat.zero_add];simp [World.cell?, hh, e']
end
structure IntE (t e : TypeId) : Prop where
 under : Tryz.prog.underlying t = some (.slice e)
 info : ∃ i0, Tryz.prog.info? e = some i0 /\ i0.zero = some (.int .i64 0) /\ i0.size = 1 /\ i0.bytes = 8
theorem qn9 : IntE 62 3 := ⟨Tryz.underlying62, qd1 (by kernel_rfl)⟩
theorem qqq : IntE 23 44 := ⟨Tryz.underlying23, qd1 (by kernel_rfl)⟩
section
variable {w : World} {ops : Array Oper} {rest : List Oper} {o : Oper} {a : Act} {Q : Exit -> Act -> World -> Prop} {K : Act -> World -> Prop} {t e : TypeId}
theorem qh2 (E : IntE t e) (s x : Operand) (ho : o.op = .call { callee := .builtin .append, args := #[s, x], argTypes := #[t, t] })
  (F : Nat -> Prop) (v : Value) (l : List Int) (q : Option Addr) (m c : Nat) (g : List Int)
  (hs : a.eval s = v) (hx : a.eval x = .slice q m c) (own : OwnI e w F v l) (hg : IntsIn w q g) (hm : g.length = m) (hq : q = none -> m = 0 /\ c = 0) (hnew : F w.heap.size)
  (hf : l.length <= 1000000000) (hgl : g.length <= 1000000000)
  (h : ∀ p' c' w', OwnI e w' F (.slice p' (l.length + m) c') (l ++ g) -> Only (fun j => v.ownBlock = some j) w w' -> (v.ownBlock ≠ none -> p' ≠ none) -> K (a.put o.dst (.slice p' (l.length + m) c')) w') : o.wp Tryz.prog a w K Q := by
 obtain ⟨hown, hblk⟩ := own;obtain ⟨i0, hi, hz0, hz1, hz2⟩ := E.info
 cases q with
 | none =>
  obtain ⟨rfl, rfl⟩ := hq rfl;have hg0 : g = [] := List.eq_nil_of_length_eq_zero hm;subst hg0;have hrun := run_append_owned_none (P := Tryz.prog) (w := w) 0 t o.type e i0 1 E.under hi v l.length _ hown;obtain ⟨p8, c8, hv8, _⟩ := qaq hown;unfold Oper.wp;simp [execOp, ho, resolve, invoke, builtin, hs, hx, hrun, Result.andThen];subst hv8;refine h p8 c8 w ?_ (Only.refl _ _) ?_
  ·rw [List.append_nil]; exact ⟨hown, hblk⟩
  ·intro h1 h2
   subst h2
   exact h1 rfl
 | some ad =>
  refine qay s x t ho 0 e i0 (.int .i64 0) 1 8 E.under hi hz0 hz1 hz2 rfl (by omega) v l.length _ hs hown ad m c (g.map (fun x => Value.int .i64 x)) hx (by simp [hm]) ?_ ?_ ?_ ?_ (Nat.zero_le _) ?_
  ·intro j u hj
   have hlt : j < g.length := by
    have := (List.getElem?_eq_some_iff.1 hj).1
    simpa using this
   obtain ⟨b', off', e', hc⟩ := hg j hlt;cases e';rw [Lib.add_plain]
   have : u = .int .i64 g[j] := by
    rw [List.getElem?_map, List.getElem?_eq_getElem hlt] at hj
    simpa using hj.symm
   rw [this];exact hc
  ·intro u hu
   obtain ⟨y, _, rfl⟩ := List.mem_map.1 hu
   rfl
  ·have hml : maxLen = 9223372036854775807 := rfl
   omega
  ·omega
  intro v8 w8 hown8 hgrow hnil hloc;obtain ⟨p8, c8, hv8, hA_⟩ := qaq hown8;subst hv8;refine h p8 c8 w8 ⟨by rw [List.map_append, List.length_append, hm]; exact hown8, fun k hk => ⟨?_, (qaw hown8 hk).2⟩⟩ (Only.of_grown hgrow) ?_
  ·rcases hloc with hl | hl
   ·exact (hblk k (hl ▸ hk)).1
   ·rw [hl] at hk; injection hk with hk; exact hk ▸ hnew
  ·intro h1 h2
   subst h2;rcases hloc with hl | hl
   ·exact h1 (by rw [<- hl]; rfl)
   ·cases hl
theorem qbh (E : IntE t e) (hgd : o.guard = none) (s x : Operand) (ho : o.op = .call { callee := .builtin .append, args := #[s, x], argTypes := #[t, t] })
  (F : Nat -> Prop) (v : Value) (l : List Int) (q : Option Addr) (m c : Nat) (g : List Int)
  (hs : a.eval s = v) (hx : a.eval x = .slice q m c) (own : OwnI e w F v l) (hg : IntsIn w q g) (hm : g.length = m) (hq : q = none -> m = 0 /\ c = 0) (hnew : F w.heap.size)
  (hf : l.length <= 1000000000) (hgl : g.length <= 1000000000)
  (h : ∀ p' c' w', OwnI e w' F (.slice p' (l.length + m) c') (l ++ g) -> Only (fun j => v.ownBlock = some j) w w' -> (v.ownBlock ≠ none -> p' ≠ none) -> wpList Tryz.prog ops Q rest (a.put o.dst (.slice p' (l.length + m) c')) w') : wpList Tryz.prog ops Q (o :: rest) a w :=
 wpList_plain hgd fun _ hK => qh2 E s x ho F v l q m c g hs hx own hg hm hq hnew hf hgl (fun p' c' w' h1 h2 h3 => hK _ _ (h p' c' w' h1 h2 h3))
end
theorem qde {W : World} (e : TypeId) (F : Nat -> Prop) (l : List Int) (h : F W.heap.size) (hl : l.length <= 1000) : OwnI e (W.alloc (.cells (l.map (fun x => Value.int .i64 x)).toArray e)) F (.slice (some ⟨W.heap.size, 0, none⟩) l.length l.length) l :=
 ⟨⟨by simp, Or.inr ⟨W.heap.size, l.length, (l.map (fun x => Value.int .i64 x)).toArray, rfl, Nat.zero_le _, Array.getElem?_push_size, Nat.le_refl _, by have hml : maxLen = 9223372036854775807 := rfl; omega, by simp, by simp [List.take_of_length_le]⟩⟩,
  fun k hk => by
   have := qec hk;subst this
   exact ⟨h, by simp⟩⟩
end Go.Proofs.YtookoagcmejkpaaGreatDoor
namespace Go.Proofs.YtookoagcmejkpaaGreatDoor
set_option maxRecDepth 100000
open Go Go.RowKit Go.Maps
def KdL (l : List Lk) : Prop := ∀ x ∈ l, 0 <= x.k /\ x.k <= 255
structure FmAt (W : World) (B m : Nat) : Prop where
 c : W.cell? ⟨B, 0, none⟩ = some (.map (some m))
 f : FMap W 61 m qdg 7
theorem FmAt.later {W W' : World} {B m : Nat} (h : FmAt W B m) (hb : Below W.heap.size W W') : FmAt W' B m := ⟨qaa hb h.c, h.f.later hb⟩
theorem fn39 (B m : Nat) (x : Lk) (q : Option Addr) (c : Nat) (W : World) (hF : FmAt W B m) (hk0 : 0 <= x.k) (hk1 : x.k <= 255) (hn : x.l.length <= 9223372036854775807) (hq : IntsIn W q x.l) :
  Calls Tryz.prog 39 #[lkV x q c, .pointer (some ⟨B, 0, none⟩)] W fun e w' => e = .returned (.bool (!(qaz x))) /\ Below W.heap.size W w' := by
 obtain ⟨W1, hW1⟩ : ∃ W1, W1 = W.alloc (.cells #[.int .u8 x.k, .int .i64 x.lit, .int .i64 x.a, .int .i64 x.b, .int .i64 x.i, .int .i64 x.j, .slice q x.l.length c] 64) := ⟨_, rfl⟩;have hb : Below W.heap.size W W1 := by rw [hW1]; exact qab _ _
 have hc := (hF.later hb).c;have HM := Zh (qnu m x q c W1 (hF.later hb).f hk0 hk1 hn (hq.later hb));have HB := Zh hb;have HW1 := Zh hW1;rw [hW1] at hc;unfold lkV at HM ⊢;obtain ⟨b0, hb0⟩ : ∃ b0, b0 = qaz x := ⟨_, rfl⟩;rw [<- hb0] at HM ⊢;clear hb hF hq hW1 hb0;go_enter Tryz.func39, Tryz.ntmps39
 go_wp2_with fail
 rw [<- HW1.o];refine HM.o.mono ?_;rintro e w1 ⟨rfl, hb⟩;have HB2 := Zh (HB.o.trans (hb.mono HB.o.size));clear hb
 go_wp2_with fail
 exact bodyPost_ret (v := .bool (!b0)) (by simp [results, Tryz.results39, go_sem]) rfl ⟨rfl, HB2.o⟩
theorem qrq (B m : Nat) (p : Option Addr) (c n : Nat) (xs : List Lk) (W : World) (hF : FmAt W B m) (h : LksIn W p xs) (hkd : KdL xs) (hl : xs.length = n) (hn : n <= 9223372036854775807) :
  Calls Tryz.prog 70 #[.slice p n c, .func (.func 39) #[] #[.pointer (some ⟨B, 0, none⟩)]] W fun e w' => (∃ r : Int, e = .returned (.int .i64 r) /\ decide (0 <= r) = !(xs.all qaz)) /\ Below W.heap.size W w' := by
 have H := Zh h;have HL := Zh hl;have HF := Zh hF;have HK := Zh hkd;clear h hl hF hkd;have n1 : (n : Int) <= 9223372036854775807 := by omega
 go_enter Tryz.func70, Tryz.ntmps70
 go_wp2_with fail
 go_loopw [8] (fun x wr => ∃ k : Nat, k <= n /\ x = .int .i64 (k : Int) /\ Hid ((xs.take k).all qaz = true /\ Below W.heap.size W wr)) (fun x _ => n - (intOf x).toNat)
 case atStart => exact ⟨0, Nat.zero_le _, rfl, Zh ⟨by simp, Below.refl _ _⟩⟩
 case round =>
  obtain ⟨k, hk, rfl, HT⟩ := hrel;have k0 : (0 : Int) <= (k : Int) := Int.natCast_nonneg k
  by_cases hlt : k < n
  ·have k1 : (k : Int) < (n : Int) := Int.ofNat_lt.2 hlt
   have hkl : k < xs.length := by rw [HL.o]; exact hlt
   obtain ⟨b, off, rfl, c0, c1, c2, c3, c4, c5, q1, d1, c6, hi1, hd1, hd2⟩ := (H.o.later HT.o.2) k hkl;have HS := Zh (qax hlt hn);obtain ⟨x, hx⟩ : ∃ x, x = xs[k] := ⟨_, rfl⟩;have HX := Zh (show xs.take (k + 1) = xs.take k ++ [x] from by rw [hx, List.take_add_one, List.getElem?_eq_getElem hkl]; rfl);have HM := Zh (show x ∈ xs from by rw [hx]; exact List.getElem_mem hkl);rw [<- hx] at c0 c1 c2 c3 c4 c5 c6 hi1 hd1;have HC := Zh (fn39 B m x q1 d1 wr (HF.o.later HT.o.2) (HK.o x HM.o).1 (HK.o x HM.o).2 (Nat.le_trans hd1 hd2) hi1);unfold lkV at HC;obtain ⟨b0, hb0⟩ : ∃ b0, b0 = qaz x := ⟨_, rfl⟩;have HB := Zh hb0;rw [<- hb0] at HC;clear hx hkl hi1 hd1 hd2 hb0
   go_wp2_with fail
   refine HC.o.mono ?_;rintro e w1 ⟨rfl, hb⟩;have HB2 := Zh (HT.o.2.trans (hb.mono HT.o.2.size));clear hb
   cases b0 with
   | false =>
    go_wp2_with fail
    refine bodyPost_ret (v := .int .i64 (k : Int)) (by simp [results, Tryz.results70, go_sem]) rfl ⟨⟨_, rfl, ?_⟩, HB2.o⟩;have h1 := HM.o;have h2 := HB.o;have h3 : xs.all qaz = false := by rw [List.all_eq_false]; exact ⟨x, h1, by rw [<- h2]; decide⟩
    rw [h3]
    simp
   | true =>
    go_wp2_with fail
    refine ⟨⟨k + 1, HS.o.1, by first | rfl | rw [HS.o.2.2], Zh ⟨by rw [HX.o, List.all_append, HT.o.1]; simp [HB.o.symm], HB2.o⟩⟩, ?_⟩
    first | rw [HS.o.2.2] | skip
    simp only [intOf, Int.toNat_natCast];exact HS.o.2.1
  ·obtain rfl : n = k := (Nat.le_antisymm hk (Nat.le_of_not_lt hlt)).symm
   clear hlt hk
   go_wp2_with fail
   refine bodyPost_ret (v := .int .i64 (-1)) (by simp [results, Tryz.results70, go_sem]) rfl ⟨⟨_, rfl, ?_⟩, HT.o.2⟩;have h1 := HT.o.1;rw [List.take_of_length_le (by rw [HL.o]; exact Nat.le_refl _)] at h1;rw [h1]
   rfl
theorem qe8 (B m : Nat) (p : Option Addr) (c n : Nat) (xs : List Lk) (W : World) (hF : FmAt W B m) (h : LksIn W p xs) (hkd : KdL xs) (hl : xs.length = n) (hn : n <= 9223372036854775807) :
  Calls Tryz.prog 38 #[.slice p n c, .func (.func 39) #[] #[.pointer (some ⟨B, 0, none⟩)]] W fun e w' => e = .returned (.bool (!(xs.all qaz))) /\ Below W.heap.size W w' := by
 have H := Zh (qrq B m p c n xs W hF h hkd hl hn);clear h hl hF;go_enter Tryz.func38, Tryz.ntmps38
 go_wp2_with fail
 refine H.o.mono ?_;rintro e w1 ⟨⟨r, rfl, hr⟩, hb⟩;have HR := Zh hr;have HB := Zh hb;clear hr hb
 go_wp2_with fail
 exact bodyPost_ret (v := .bool (decide (0 <= r))) (by simp [results, Tryz.results38, go_sem]) rfl ⟨by rw [HR.o], HB.o⟩
end Go.Proofs.YtookoagcmejkpaaGreatDoor
namespace Go.Proofs.YtookoagcmejkpaaGreatDoor
set_option maxRecDepth 100000
open Go Go.RowKit
structure OwnS (W : World) (F : Nat -> Prop) (v : Value) (l : List ByteArray) : Prop where
 has : W.ownsRow 0 9 1 v l.length (l.map Value.string)
 blk : ∀ k, v.ownBlock = some k -> F k /\ k < W.heap.size
section
variable {W W' : World} {F T : Nat -> Prop} {v : Value} {l : List ByteArray}
theorem OwnS.later (h : OwnS W F v l) (hb : Below W.heap.size W W') : OwnS W' F v l := ⟨qal h.has hb, fun k hk => ⟨(h.blk k hk).1, Nat.lt_of_lt_of_le (h.blk k hk).2 hb.size⟩⟩
theorem OwnS.nil (W : World) (F : Nat -> Prop) : OwnS W F (.slice none 0 0) [] := ⟨⟨rfl, Or.inl ⟨rfl, rfl⟩⟩, fun k hk => by cases hk⟩
theorem OwnS.cells (h : OwnS W F v l) : ∃ q c, v = .slice q l.length c /\ l.length <= c /\ (q = none -> l = []) /\ ∀ a, q = some a -> a = ⟨a.block, 0, none⟩ /\ a.block < W.heap.size /\ ∀ (j : Nat) x, l[j]? = some x -> W.cell? ⟨a.block, 0 + j, none⟩ = some (.string x) := by
 have hb := h.blk;obtain ⟨h0, ⟨h1, h2⟩ | ⟨g, cap, cur, hv, hg, hh, hn, hm, hs, ht⟩⟩ := h.has
 ·have : l = [] := List.eq_nil_of_length_eq_zero h2
  subst this;exact ⟨none, 0, h1, Nat.le_refl _, fun _ => rfl, (fun a h => by cases h)⟩
 ·refine ⟨some ⟨g, 0, none⟩, cap, hv, hn, (fun h => by cases h), fun a h => ?_⟩
  cases h;refine ⟨rfl, (hb g (by rw [hv]; rfl)).2, fun j x hx => ?_⟩;have hj : j < l.length := (List.getElem?_eq_some_iff.1 hx).1;have e1 : (cur.toList.take (l.length * 1))[j]? = some (.string x) := by rw [ht]; simp [hx]
  rw [List.getElem?_take_of_lt (by omega)] at e1;have e' : cur[j]? = some (.string x) := by simpa using e1
  rw [Nat.zero_add];simp [World.cell?, hh, e']
end
theorem qt5 : ∃ i0, Tryz.prog.info? 9 = some i0 /\ i0.zero = some (.string ⟨#[]⟩) /\ i0.size = 1 /\ i0.bytes = 16 := qd1 (by kernel_rfl)
section
variable {w : World} {ops : Array Oper} {rest : List Oper} {o : Oper} {a : Act} {Q : Exit -> Act -> World -> Prop} {K : Act -> World -> Prop}
theorem qi6 (s x : Operand) (ho : o.op = .call { callee := .builtin .append, args := #[s, x], argTypes := #[95, 95] })
  (F : Nat -> Prop) (B : Nat) (v : Value) (l : List ByteArray) (y : ByteArray)
  (hs : a.eval s = v) (hx : a.eval x = .slice (some ⟨B, 0, none⟩) 1 1) (own : OwnS w F v l) (hb : w.cell? ⟨B, 0, none⟩ = some (.string y)) (hnew : F w.heap.size) (hf : l.length <= 1000000000)
  (h : ∀ p' c' w', OwnS w' F (.slice p' (l.length + 1) c') (l ++ [y]) -> Only (fun j => v.ownBlock = some j) w w' -> K (a.put o.dst (.slice p' (l.length + 1) c')) w') : o.wp Tryz.prog a w K Q := by
 obtain ⟨hown, hblk⟩ := own;obtain ⟨i0, hi, hz0, hz1, hz2⟩ := qt5;refine qay s x 95 ho 0 9 i0 (.string ⟨#[]⟩) 1 16 Tryz.underlying95 hi hz0 hz1 hz2 rfl (by omega) v l.length _ hs hown ⟨B, 0, none⟩ 1 1 [.string y] hx (by rfl) ?_ ?_ ?_ ?_ (Nat.zero_le _) ?_
 ·intro j u hj
  have hj0 : j = 0 := by
   have := (List.getElem?_eq_some_iff.1 hj).1;simp at this; exact this
  subst hj0;cases hj
  simpa [Lib.add_plain] using hb
 ·intro u hu
  obtain rfl : u = .string y := by simpa using hu
  rfl
 ·have hml : maxLen = 9223372036854775807 := rfl
  omega
 ·omega
 intro v8 w8 hown8 hgrow hnil hloc;obtain ⟨p8, c8, hv8, hA_⟩ := qaq hown8;subst hv8;refine h p8 c8 w8 ⟨by rw [List.map_append, List.length_append]; exact hown8, fun k hk => ⟨?_, (qaw hown8 hk).2⟩⟩ (Only.of_grown hgrow);rcases hloc with hl | hl
 ·exact (hblk k (hl ▸ hk)).1
 ·rw [hl] at hk; injection hk with hk; exact hk ▸ hnew
theorem qdr (hgd : o.guard = none) (s x : Operand) (ho : o.op = .call { callee := .builtin .append, args := #[s, x], argTypes := #[95, 95] })
  (F : Nat -> Prop) (B : Nat) (v : Value) (l : List ByteArray) (y : ByteArray)
  (hs : a.eval s = v) (hx : a.eval x = .slice (some ⟨B, 0, none⟩) 1 1) (own : OwnS w F v l) (hb : w.cell? ⟨B, 0, none⟩ = some (.string y)) (hnew : F w.heap.size) (hf : l.length <= 1000000000)
  (h : ∀ p' c' w', OwnS w' F (.slice p' (l.length + 1) c') (l ++ [y]) -> Only (fun j => v.ownBlock = some j) w w' -> wpList Tryz.prog ops Q rest (a.put o.dst (.slice p' (l.length + 1) c')) w') : wpList Tryz.prog ops Q (o :: rest) a w :=
 wpList_plain hgd fun _ hK => qi6 s x ho F B v l y hs hx own hb hnew hf (fun p' c' w' h1 h2 => hK _ _ (h p' c' w' h1 h2))
end
def brkL (l : List (List UInt8)) : List UInt8 := 40 :: (Lib.join l [32] ++ [41])
def brkS (l : List ByteArray) : ByteArray := ⟨(brkL (l.map (·.data.toList))).toArray⟩
theorem qtf (l : List ByteArray) (v : Value) (F : Nat -> Prop) (W : World) (h : OwnS W F v l) (hl : l.length <= 1000000000) (hlen : (Lib.join (l.map (·.data.toList)) [32]).length <= 140737488355328) :
  Calls Tryz.prog 87 #[v, .string ⟨#[32]⟩] W fun e w' => e = .returned (.string ⟨(Lib.join (l.map (·.data.toList)) [32]).toArray⟩) /\ Below W.heap.size W w' := by
 obtain ⟨q, c, rfl, hc, hq, hcell⟩ := h.cells
 cases q with
 | none =>
  obtain rfl := hq rfl;refine (Tryz.strings_Join_none none c ⟨#[32]⟩ W).mono ?_;rintro e w' ⟨rfl, rfl⟩
  exact ⟨by rfl, Below.refl _ _⟩
 | some a =>
  obtain ⟨e1, e2, e3⟩ := hcell a rfl;rw [e1];exact Tryz.strings_Join a.block 0 c l ⟨#[32]⟩ W e3 e2 (by omega) hc hlen
theorem qov (l : List ByteArray) (v : Value) (F : Nat -> Prop) (W : World) (h : OwnS W F v l) (hl : l.length <= 1000000000) (hlen : (Lib.join (l.map (·.data.toList)) [32]).length <= 1000000000000) :
  Calls Tryz.prog 58 #[v] W fun e w' => e = .returned (.string (brkS l)) /\ Below W.heap.size W w' := by
 obtain ⟨s, hs⟩ : ∃ s : ByteArray, s = ⟨(Lib.join (l.map (·.data.toList)) [32]).toArray⟩ := ⟨_, rfl⟩;have HJ := Zh (qtf l v F W h hl (by omega));have h1 : s.size <= 1000000000000 := by rw [hs]; simpa [ByteArray.size] using hlen
 have HS := Zh hs;rw [<- hs] at HJ;clear h hl hlen hs;go_enter Tryz.func58, Tryz.ntmps58
 go_wp2_with fail
 refine HJ.o.mono ?_;rintro e w1 ⟨rfl, hb⟩;have z1 : ((⟨#[40]⟩ : ByteArray) ++ s).size = 1 + s.size := by rw [ByteArray.size_append]; rfl
 go_wp2_with fail
 refine bodyPost_ret (v := .string (⟨#[40]⟩ ++ s ++ ⟨#[41]⟩)) (by simp [results, Tryz.results58, go_sem]) rfl ⟨?_, hb⟩
 have : (⟨#[40]⟩ ++ s ++ ⟨#[41]⟩ : ByteArray) = brkS l := by
  rw [HS.o]
  apply ByteArray.ext
  simp [brkS, brkL, ByteArray.data_append]
 rw [this]
end Go.Proofs.YtookoagcmejkpaaGreatDoor
namespace Go.Proofs.YtookoagcmejkpaaGreatDoor
open Go Go.RowKit Lx
theorem qht (u : Nat) : Lib.decDigits u = if u < 10 then [UInt8.ofNat (48 + u)] else Lib.decDigits (u / 10) ++ [UInt8.ofNat (48 + u % 10)] := by
 rw [Lib.decDigits]; split <;> simp [*]
theorem qtp {d : Nat} (h : d < 10) : dgB (UInt8.ofNat (48 + d)) = true := by
 have : d = 0 \/ d = 1 \/ d = 2 \/ d = 3 \/ d = 4 \/ d = 5 \/ d = 6 \/ d = 7 \/ d = 8 \/ d = 9 := by omega
 rcases this with rfl | rfl | rfl | rfl | rfl | rfl | rfl | rfl | rfl | rfl <;> decide
theorem qqs (u : Nat) : (Lib.decDigits u).all dgB = true := by
 induction u using Nat.strongRecOn with
 | ind u ih =>
  rw [qht]
  split
  ·rw [List.all_cons, qtp ‹_›]; rfl
  ·rw [List.all_append, ih (u / 10) (by omega)]
   rw [List.all_cons, qtp (show u % 10 < 10 by omega)]; rfl
theorem qr1 (u : Nat) : Lib.decDigits u ≠ [] := by
 rw [qht]; split <;> simp
theorem qr2 (u : Nat) (h : 1 <= u) : (Lib.decDigits u).getD 0 0 ≠ 48 := by
 induction u using Nat.strongRecOn with
 | ind u ih =>
  rw [qht]
  split
  ·have : u = 1 \/ u = 2 \/ u = 3 \/ u = 4 \/ u = 5 \/ u = 6 \/ u = 7 \/ u = 8 \/ u = 9 := by omega
   rcases this with rfl | rfl | rfl | rfl | rfl | rfl | rfl | rfl | rfl <;> decide
  ·have h2 := ih (u / 10) (by omega) (by omega)
   have h3 := qr1 (u / 10)
   cases h4 : Lib.decDigits (u / 10) with
   | nil => exact absurd h4 h3
   | cons c s => rw [h4] at h2; simpa using h2
theorem qrw (c : UInt8) (h : dgB c = true) : syB c = true /\ (c == 46) = false /\ (c == 32) = false /\ (c == 40) = false /\ (c == 41) = false := by
 have := qdm (p := fun c => !dgB c || (syB c && !(c == 46) && !(c == 32) && !(c == 40) && !(c == 41))) (by decide +kernel) c
 simpa [h, and_assoc] using this
theorem qqh {p : UInt8 -> Bool} : ∀ l : List UInt8, l.all p = true -> l.takeWhile p = l
 | [], _ => rfl
 | c :: l, h => by
  simp only [List.all_cons, Bool.and_eq_true] at h;rw [List.takeWhile_cons, if_pos h.1, qqh l h.2]
theorem qp4 (u : Nat) : qba (Lib.decDigits u) = .tok 4 (Lib.decDigits u) (Lib.decDigits u).length := by
 have ha := qqs u;have hn := qr1 u;have h46 : ∀ c ∈ Lib.decDigits u, (c == 46) = false := fun c hc => (qrw c (List.all_eq_true.1 ha c hc)).2.1
 have hw : (Lib.decDigits u).takeWhile (· != 46) = Lib.decDigits u := by
  exact qqh _ (List.all_eq_true.2 fun c hc => by simp [bne, h46 c hc])
 have hd : dgB ((Lib.decDigits u).getD 0 0) = true := by
  cases h : Lib.decDigits u with
  | nil => exact absurd h hn
  | cons c s => rw [h] at ha; simp at ha; simpa using ha.1
 have hc : (Lib.decDigits u).contains 46 = false := by
  rw [Bool.eq_false_iff];intro h;have := h46 46 (by simpa using h);simp at this
 have hz : ((Lib.decDigits u).getD 0 0 == 48 && decide (1 < (Lib.decDigits u).length)) = false := by
  rcases Nat.eq_zero_or_pos u with rfl | h1
  ·rw [qht]; rfl
  ·have := qr2 u h1
   rw [beq_eq_false_iff_ne.2 this]; rfl
 unfold qba;simp only [hd, hw, hc, hz, Bool.not_true, Bool.false_eq_true, if_false, allB, ha, Bool.true_and, Bool.or_false, Bool.not_false, if_true];rw [if_neg (by cases h : Lib.decDigits u with | nil => exact absurd h hn | cons c s => simp)]
def wdB (c : UInt8) : Bool := !(c == 32) && !(c == 40) && !(c == 41)
structure LfG (k : Int) (s : ByteArray) : Prop where
 good : GoodT k.toNat s.data.toList
 kind : k = 3 \/ k = 4
 rend : qaj k.toNat s.data.toList = s.data.toList
 wd : s.data.toList.all wdB = true
 ne : s.data.toList ≠ []
 dig : k = 4 ↔ dgB (s.data.toList.getD 0 0) = true
 len : s.data.toList.length <= 21
theorem qqp (n : Int) (h0 : 0 <= n) (h1 : n <= 9223372036854775807) : LfG 4 (itoB n) := by
 have e : (itoB n).data.toList = Lib.decDigits n.toNat := by
  have : Lib.itoa n = Lib.decDigits n.toNat := by unfold Lib.itoa; rw [if_neg (by omega)]
  simp [itoB, this]
 have hl := Lib.itoa_length_le n (by omega) h1;have ha := qqs n.toNat;have hn := qr1 n.toNat
 have hd : dgB ((Lib.decDigits n.toNat).getD 0 0) = true := by
  cases h : Lib.decDigits n.toNat with
  | nil => exact absurd h hn
  | cons c s => rw [h] at ha; simp at ha; simpa using ha.1
 have hl2 : (itoB n).data.toList.length <= 21 := by simpa [itoB] using hl
 refine ⟨?_, .inr rfl, by rw [e]; rfl, ?_, by rw [e]; exact hn, by rw [e]; exact iff_of_true rfl hd, hl2⟩
 ·rw [e]
  exact .num (.inl rfl) (List.all_eq_true.2 fun c hc => (qrw c (List.all_eq_true.1 ha c hc)).1) hn (qp4 _) hd
 ·rw [e]
  refine List.all_eq_true.2 fun c hc => ?_
  obtain ⟨_, _, h2, h3, h4⟩ := qrw c (List.all_eq_true.1 ha c hc);simp [wdB, h2, h3, h4]
theorem qnz (t : List UInt8) (h : (qbg t && t.all wdB && decide (t.length <= 21)) = true) : LfG 3 ⟨t.toArray⟩ := by
 simp only [Bool.and_eq_true, decide_eq_true_eq] at h;obtain ⟨⟨h1, h2⟩, h3⟩ := h;have h1' := h1;simp only [qbg, Bool.and_eq_true, Bool.not_eq_true'] at h1;refine ⟨.sym (.inl h1'), .inl rfl, ?_, h2, ?_, ?_, h3⟩
 ·simp [qaj, h1']
 ·intro e
  have e' : t = [] := by simpa using e
  rw [e'] at h1; simp at h1
 ·have := h1.2
  exact ⟨fun e => absurd e (by decide), fun e => by rw [show (⟨t.toArray⟩ : ByteArray).data.toList = t by simp] at e; rw [this] at e; cases e⟩
def GdF : Fo -> Prop
 | .nil => True
 | .cons l k s a x r => a = 0 /\ ((l = true /\ k = 1 /\ s = ⟨#[40]⟩ /\ GdF x) \/ (l = false /\ x = .nil /\ LfG k s)) /\ GdF r
theorem qko : ∀ l : List Int, (∀ y ∈ l, -4611686018427387903 <= y /\ y <= 4611686018427387903) -> GdF (nusF l)
 | [], _ => trivial
 | n :: r, h => by
  have ih := qko r (fun y hy => h y (by simp [hy]));have hn := h n (by simp);refine ⟨rfl, ?_, ih⟩
  by_cases h0 : n < 0
  ·left
   refine ⟨by simp [nuL, h0], by simp [nuK, h0], by simp [nuS, h0], ?_⟩;simp only [nuX, h0, if_true];exact ⟨rfl, .inr ⟨rfl, rfl, qnz [45] (by decide)⟩, rfl, .inr ⟨rfl, rfl, qqp (-n) (by omega) (by omega)⟩, trivial⟩
  ·right
   refine ⟨by simp [nuL, h0], by simp [nuX, h0], ?_⟩;simp only [nuK, nuS, h0, if_false];exact qqp n (by omega) (by omega)
theorem qt3 (k : Int) : LfG 3 (lkH k) := by
 unfold lkH
 repeat' split
 all_goals exact qnz _ (by decide)
theorem qt2 (k : Int) : LfG 3 (stH k) := by
 unfold stH
 repeat' split
 all_goals exact qnz _ (by decide)
end Go.Proofs.YtookoagcmejkpaaGreatDoor
