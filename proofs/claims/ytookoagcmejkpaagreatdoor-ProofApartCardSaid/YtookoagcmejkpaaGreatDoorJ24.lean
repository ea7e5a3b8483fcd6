/- A step's tree: the program's, whole. What is read out of a tree: plain. What the fourth law says: the walk of ProofReads. A step's own tree can be read: its texts and rows are short. Texts of steps, p -/
import Derived.Test.YtookoagcmejkpaaGreatDoorS31
import Derived.Test.YtookoagcmejkpaaGreatDoorJ5
import Derived.Test.YtookoagcmejkpaaGreatDoorJ4
import Derived.LoopTactic
import Derived.Lib.Strings
import Derived.Test.YtookoagcmejkpaaGreatDoorJ16
import Derived.Test.YtookoagcmejkpaaGreatDoorS6
import Derived.Test.YtookoagcmejkpaaGreatDoorS10
import Derived.Lib.ItoaLen
import Derived.Test.YtookoagcmejkpaaGreatDoorJ10
namespace Go.Proofs.YtookoagcmejkpaaGreatDoor
open Go Go.RowKit
theorem st_shape {x : Stp} (h : maySt x = true) : ((x.k = 1 ∨ x.k = 3) ∧ x.links = [] ∧ x.a = 0 ∧ x.b = 0 ∧ x.lits.length ≤ 5000 ∧ x.lits.all litB = true) ∨ (x.k = 2 ∧ x.lits = [] ∧ x.a = 0 ∧ x.b = 0 ∧ x.links.length ≤ 20000 ∧ x.links.all mayLk = true) ∨ (x.k = 4 ∧ x.lits = [] ∧ x.links = [] ∧ cntB x.a = true ∧ cntB x.b = true) := by
 obtain ⟨k, lits, links, a, b⟩ := x
 unfold maySt at h
 simp only at h ⊢
 split at h
 ·rename_i hk
  simp only [Bool.and_eq_true, decide_eq_true_eq] at h
  exact Or.inl ⟨hk, List.eq_nil_of_length_eq_zero h.1.1.2, h.1.2, h.2, h.1.1.1.1, h.1.1.1.2⟩
 ·split at h
  ·rename_i hk
   simp only [Bool.and_eq_true, decide_eq_true_eq] at h
   exact Or.inr (Or.inl ⟨hk, List.eq_nil_of_length_eq_zero h.1.1.1.1, h.1.2, h.2, h.1.1.1.2, h.1.1.2⟩)
  ·split at h
   ·rename_i hk
    simp only [Bool.and_eq_true, decide_eq_true_eq] at h
    exact Or.inr (Or.inr ⟨hk, List.eq_nil_of_length_eq_zero h.1.1.1, List.eq_nil_of_length_eq_zero h.1.1.2, h.1.2, h.2⟩)
   ·cases h
def TreeR (W w' : World) (e : Ending) (x : Stp) : Prop :=
 (maySt x = false ∧ e = .returned (.tuple #[trV false 0 ⟨#[]⟩ 0 none 0 0, .int .i64 2]) ∧ Below W.heap.size W w') ∨
 (maySt x = true ∧ ∃ q' c', e = .returned (.tuple #[trV true 1 ⟨#[40]⟩ 0 q' (stX x).len c', .int .i64 0]) ∧ FoIn w' (fun b => W.heap.size ≤ b) (stX x) q' ∧ (stX x).len ≤ c' ∧ Below W.heap.size W w')
theorem tree10 (x : Stp) (p : Option Addr) (c : Nat) (q : Option Addr) (d : Nat) (W : World) (hk0 : 0 ≤ x.k) (hk1 : x.k ≤ 255) (h1 : IntsIn W p x.lits) (h2 : LksIn W q x.links) (hkd : KdL x.links) (n1 : x.lits.length ≤ 9223372036854775807) (n2 : x.links.length ≤ 9223372036854775807) (htab : PowTab W) :
  Calls Tryz.prog 10 #[stV x p c q d] W fun e w' => TreeR W w' e x := by
 cases hm : maySt x with
 | false =>
  refine (tree10_no x p c q d W hk0 hk1 h1 h2 hkd n1 n2 hm).mono ?_
  rintro e w' ⟨he, hb⟩
  exact Or.inl ⟨hm, he, hb⟩
 | true =>
  have key : ∀ (h : ByteArray) (f1 f2 a b lit i j list : Bool), stepV x.k = some (fmV h f1 f2 a b lit i j list) → Fo.cons false 3 h 0 .nil (((nusF x.lits).app (lksF x.links)).app (nusF (flt [a, b] [x.a, x.b]))) = stX x → Calls Tryz.prog 10 #[stV x p c q d] W fun e w' => TreeR W w' e x := by
   intro h f1 f2 a b lit i j list hv e1
   refine (tree10_ok h f1 f2 a b lit i j list x p c q d W hk0 hk1 h1 h2 hkd n1 n2 hm hv htab).mono ?_
   rintro e w' ⟨q', c', he, hq, hc, hb⟩
   rw [e1] at he hq hc
   exact Or.inr ⟨hm, q', c', he, hq, hc, hb⟩
  have hs := st_shape hm
  obtain ⟨k, lits, links, a, b⟩ := x
  simp only at hs
  rcases hs with ⟨hk, rfl, rfl, rfl, _⟩ | ⟨rfl, rfl, rfl, rfl, _⟩ | ⟨rfl, rfl, rfl, _⟩
  ·rcases hk with rfl | rfl
   ·exact key _ _ _ _ _ _ _ _ _ rfl (by simp [stX, stH, stK, flt, lksF, nusF, Fo.app_nil])
   ·exact key _ _ _ _ _ _ _ _ _ rfl (by simp [stX, stH, stK, flt, lksF, nusF, Fo.app_nil])
  ·exact key _ _ _ _ _ _ _ _ _ rfl (by simp [stX, stH, stK, flt, nusF, Fo.app, Fo.app_nil])
  ·exact key _ _ _ _ _ _ _ _ _ rfl (by simp [stX, stH, stK, flt, lksF, nusF, Fo.app, Fo.app_nil])
set_option maxRecDepth 100000
def noA : Fo → Fo
 | .nil => .nil
 | .cons l k s _ x r => .cons l k s 0 (noA x) (noA r)
theorem noA_len : ∀ f : Fo, (noA f).len = f.len
 | .nil => rfl
 | .cons l k s a x r => by simp only [noA, Fo.len, noA_len r]
theorem sameF_noA : ∀ f g : Fo, sameF f g = true → noA f = noA g
 | .nil, .nil, _ => rfl
 | .nil, .cons _ _ _ _ _ _, h => by simp [sameF] at h
 | .cons _ _ _ _ _ _, .nil, h => by simp [sameF] at h
 | .cons l k s a x r, .cons l' k' s' a' x' r', h => by
  simp only [sameF, Bool.and_eq_true, decide_eq_true_eq] at h
  obtain ⟨⟨⟨⟨⟨h1, h2⟩, h3⟩, _⟩, h4⟩, h5⟩ := h
  simp only [noA, h1, h2, h3, sameF_noA x x' h4, sameF_noA r r' h5]
theorem noA_nusF : ∀ l : List Int, noA (nusF l) = nusF l
 | [] => rfl
 | n :: r => by
  have h : noA (nuX n) = nuX n := by unfold nuX; split <;> simp [noA]
  simp only [nusF, noA, h, noA_nusF r]
theorem noA_lkX (x : Lk) : noA (lkX x) = lkX x := by simp only [lkX, noA, noA_nusF]
theorem noA_lksF : ∀ l : List Lk, noA (lksF l) = lksF l
 | [] => rfl
 | x :: r => by simp only [lksF, noA, noA_lkX, noA_lksF r]
theorem noA_stX (x : Stp) : noA (stX x) = stX x := by
 simp only [stX, noA, stK]
 split
 ·rw [noA_lksF]
 ·split <;> rw [noA_nusF]
def hd (l : Bool) : Fo → ByteArray × Fo
 | .nil => (⟨#[]⟩, .nil)
 | .cons l0 k s _ _ r => if l = true ∧ l0 = false ∧ k = 3 then (s, r) else (⟨#[]⟩, .nil)
theorem hd_noA (l : Bool) (x : Fo) : hd l (noA x) = ((hd l x).1, noA (hd l x).2) := by
 cases x with
 | nil => rfl
 | cons l0 k s a x r => simp only [noA, hd]; split <;> rfl
def leafN (k : Int) (s : ByteArray) : Int × Bool := if k = 4 then (readN s.data.toList, decide (readE s.data.toList = 0)) else (0, false)
def oneLeaf : Fo → Option (Int × ByteArray)
 | .cons false k s _ _ .nil => some (k, s)
 | _ => none
theorem oneLeaf_noA (x : Fo) : oneLeaf (noA x) = oneLeaf x := by
 cases x with
 | nil => rfl
 | cons l k s a x r =>
  cases r with
  | nil => cases l <;> rfl
  | cons l' k' s' a' x' r' => cases l <;> rfl
def numP (l : Bool) (k : Int) (s : ByteArray) (x : Fo) : Int × Bool :=
 if (hd l x).1 = ⟨#[45]⟩ then
  match oneLeaf (hd l x).2 with
  | some (k1, s1) => (-(leafN k1 s1).1, (leafN k1 s1).2)
  | none => if l then (0, false) else leafN k s
 else if l then (0, false) else leafN k s
theorem numP_noA (l : Bool) (k : Int) (s : ByteArray) (x : Fo) : numP l k s (noA x) = numP l k s x := by
 simp only [numP, hd_noA, oneLeaf_noA]
theorem itoB_list (n : Int) : (itoB n).data.toList = Lib.itoa n := by simp [itoB]
theorem leafN_ito (n : Int) (h0 : 0 ≤ n) (h1 : n ≤ 4611686018427387903) : leafN 4 (itoB n) = (n, true) := by
 have h := read_itoa_ok n h0 h1
 simp only [leafN, if_pos, itoB_list, h.1, h.2]
 simp
theorem numP_nu (n : Int) (h0 : -4611686018427387903 ≤ n) (h1 : n ≤ 4611686018427387903) : numP (nuL n) (nuK n) (nuS n) (nuX n) = (n, true) := by
 by_cases h : n < 0
 ·have e := leafN_ito (-n) (by omega) (by omega)
  simp only [numP, nuL, nuX, h, decide_true, hd, oneLeaf, e, if_pos, and_self]
  simp
 ·have e := leafN_ito n (by omega) h1
  simp [numP, nuL, nuK, nuS, nuX, h, hd, e]
def nx (has : Bool) (st : Fo × Bool) : Int × (Fo × Bool) :=
 if has then
  match st.1 with
  | .nil => (0, (.nil, false))
  | .cons l k s _ x r => ((numP l k s x).1, (r, st.2 && (numP l k s x).2))
 else (0, st)
def restN : Fo → List Int × Bool
 | .nil => ([], true)
 | .cons l k s _ x r => ((numP l k s x).1 :: (restN r).1, (numP l k s x).2 && (restN r).2)
theorem nx_noA (has : Bool) (f : Fo) (ok : Bool) : nx has (noA f, ok) = ((nx has (f, ok)).1, (noA (nx has (f, ok)).2.1, (nx has (f, ok)).2.2)) := by
 unfold nx
 split
 ·cases f with
  | nil => rfl
  | cons l k s a x r => simp only [noA, numP_noA]
 ·rfl
theorem restN_noA : ∀ f : Fo, restN (noA f) = restN f
 | .nil => rfl
 | .cons l k s a x r => by simp only [noA, restN, numP_noA, restN_noA r]
theorem restN_nus : ∀ l : List Int, (∀ y ∈ l, -4611686018427387903 ≤ y ∧ y ≤ 4611686018427387903) → restN (nusF l) = (l, true)
 | [], _ => rfl
 | n :: r, h => by
  have e := numP_nu n (h n (by simp)).1 (h n (by simp)).2
  simp only [nusF, restN, e, restN_nus r (fun y hy => h y (by simp [hy])), Bool.and_self]
theorem nx_nus (n : Int) (r : Fo) (h : -4611686018427387903 ≤ n ∧ n ≤ 4611686018427387903) : nx true (.cons (nuL n) (nuK n) (nuS n) 0 (nuX n) r, true) = (n, (r, true)) := by
 have e := numP_nu n h.1 h.2
 simp [nx, e]
def lkBy (k : Int) (lit a b i j list : Bool) (args : Fo) : Lk × Bool :=
 let s1 := nx lit (args, true)
 let s2 := nx a s1.2
 let s3 := nx b s2.2
 let s4 := nx i s3.2
 let s5 := nx j s4.2
 if list then (⟨k, s1.1, s2.1, s3.1, s4.1, s5.1, (restN s5.2.1).1⟩, s5.2.2 && (restN s5.2.1).2)
 else (⟨k, s1.1, s2.1, s3.1, s4.1, s5.1, []⟩, s5.2.2 && decide (s5.2.1.len = 0))
def linkP (l : Bool) (x : Fo) : Lk × Bool :=
 let h := (hd l x).1
 let g := (hd l x).2
 if h = hGiven then lkBy 1 true false false false false false g
 else if h = hSame then lkBy 2 false true false false false false g
 else if h = hTurn then lkBy 3 false false false true false false g
 else if h = hThen then lkBy 4 false false false true true false g
 else if h = hApply then lkBy 5 false true true false false true g
 else if h = hAgainst then lkBy 6 true false false true false false g
 else if h = hClash then lkBy 7 false false false true false false g
 else (⟨0, 0, 0, 0, 0, 0, []⟩, false)
theorem lkBy_noA (k : Int) (lit a b i j list : Bool) (args : Fo) : lkBy k lit a b i j list (noA args) = lkBy k lit a b i j list args := by
 simp only [lkBy, nx_noA, restN_noA, noA_len]
theorem linkP_noA (l : Bool) (x : Fo) : linkP l (noA x) = linkP l x := by
 simp only [linkP, hd_noA, lkBy_noA]
theorem linkP_lkX (x : Lk) (h : mayLk x = true) : linkP true (lkX x) = (x, true) := by
 have Z := zero_rng
 rcases lk_shape h with ⟨e, h1⟩ | ⟨e, h1⟩ | ⟨e, h1⟩ | ⟨e, h1, h2⟩ | ⟨e, h1, h2, h3, h4⟩ | ⟨e, h1, h2⟩ | ⟨e, h1⟩ <;> obtain ⟨k, lit, a, b, i, j, l⟩ := x <;> cases e
 ·have e1 := nx_nus lit .nil (lit_rng h1)
  simp [linkP, lkX, hd, lkH, lkN, lkBy, nusF, e1]
  simp [nx, Fo.len]
 ·have e1 := nx_nus a .nil (cnt_rng h1)
  have e0 : hSame ≠ hGiven := by decide
  simp [linkP, lkX, hd, lkH, lkN, lkBy, nusF, e0]
  simp [nx] at e1 ⊢
  simp [e1, Fo.len]
 ·have e1 := nx_nus i .nil (cnt_rng h1)
  have e0 : hTurn ≠ hGiven ∧ hTurn ≠ hSame := by decide
  simp [linkP, lkX, hd, lkH, lkN, lkBy, nusF, e0]
  simp [nx] at e1 ⊢
  simp [e1, Fo.len]
 ·have e1 := nx_nus i (.cons (nuL j) (nuK j) (nuS j) 0 (nuX j) .nil) (cnt_rng h1)
  have e2 := nx_nus j .nil (cnt_rng h2)
  have e0 : hThen ≠ hGiven ∧ hThen ≠ hSame ∧ hThen ≠ hTurn := by decide
  simp [linkP, lkX, hd, lkH, lkN, lkBy, nusF, e0]
  simp [nx] at e1 e2 ⊢
  simp [e1, e2, Fo.len]
 ·have e1 := nx_nus a (.cons (nuL b) (nuK b) (nuS b) 0 (nuX b) (nusF l)) (cnt_rng h1)
  have e2 := nx_nus b (nusF l) (cnt_rng h2)
  have e3 := restN_nus l (fun y hy => cnt_rng (List.all_eq_true.1 h4 y hy))
  have e0 : hApply ≠ hGiven ∧ hApply ≠ hSame ∧ hApply ≠ hTurn ∧ hApply ≠ hThen := by decide
  simp [linkP, lkX, hd, lkH, lkN, lkBy, nusF, e0]
  simp [nx] at e1 e2 ⊢
  simp [e1, e2, e3]
 ·have e1 := nx_nus lit (.cons (nuL i) (nuK i) (nuS i) 0 (nuX i) .nil) (lit_rng h1)
  have e2 := nx_nus i .nil (cnt_rng h2)
  have e0 : hAgainst ≠ hGiven ∧ hAgainst ≠ hSame ∧ hAgainst ≠ hTurn ∧ hAgainst ≠ hThen ∧ hAgainst ≠ hApply := by decide
  simp [linkP, lkX, hd, lkH, lkN, lkBy, nusF, e0]
  simp [nx] at e1 e2 ⊢
  simp [e1, e2, Fo.len]
 ·have e1 := nx_nus i .nil (cnt_rng h1)
  have e0 : hClash ≠ hGiven ∧ hClash ≠ hSame ∧ hClash ≠ hTurn ∧ hClash ≠ hThen ∧ hClash ≠ hApply ∧ hClash ≠ hAgainst := by decide
  simp [linkP, lkX, hd, lkH, lkN, lkBy, nusF, e0]
  simp [nx] at e1 ⊢
  simp [e1, Fo.len]
def linksP : Fo → List Lk × Bool
 | .nil => ([], true)
 | .cons l _ _ _ x r => ((linkP l x).1 :: (linksP r).1, (linkP l x).2 && (linksP r).2)
theorem linksP_noA : ∀ f : Fo, linksP (noA f) = linksP f
 | .nil => rfl
 | .cons l k s a x r => by simp only [noA, linksP, linkP_noA, linksP_noA r]
theorem linksP_lks : ∀ l : List Lk, (∀ y ∈ l, mayLk y = true) → linksP (lksF l) = (l, true)
 | [], _ => rfl
 | x :: r, h => by
  have e := linkP_lkX x (h x (by simp))
  simp only [lksF, linksP, e, linksP_lks r (fun y hy => h y (by simp [hy])), Bool.and_self]
def stBy (k : Int) (lits links a b : Bool) (args : Fo) : Stp × Bool :=
 let s1 := nx a (args, true)
 let s2 := nx b s1.2
 if lits then (⟨k, (restN s2.2.1).1, [], s1.1, s2.1⟩, s2.2.2 && (restN s2.2.1).2)
 else if links then (⟨k, [], (linksP s2.2.1).1, s1.1, s2.1⟩, s2.2.2 && (linksP s2.2.1).2)
 else (⟨k, [], [], s1.1, s2.1⟩, s2.2.2 && decide (s2.2.1.len = 0))
def stepP (l : Bool) (x : Fo) : Stp × Bool :=
 let h := (hd l x).1
 let g := (hd l x).2
 if h = hClause then stBy 1 true false false false g
 else if h = hLinks then stBy 2 false true false false g
 else if h = hCycle then stBy 3 true false false false g
 else if h = hPair then stBy 4 false false true true g
 else (⟨0, [], [], 0, 0⟩, false)
theorem stBy_noA (k : Int) (lits links a b : Bool) (args : Fo) : stBy k lits links a b (noA args) = stBy k lits links a b args := by
 simp only [stBy, nx_noA, restN_noA, linksP_noA, noA_len]
theorem stepP_noA (l : Bool) (x : Fo) : stepP l (noA x) = stepP l x := by
 simp only [stepP, hd_noA, stBy_noA]
theorem stepP_stX (x : Stp) (h : maySt x = true) : stepP true (stX x) = (x, true) := by
 have hs := st_shape h
 obtain ⟨k, lits, links, a, b⟩ := x
 simp only at hs
 rcases hs with ⟨hk, rfl, rfl, rfl, _, h1⟩ | ⟨rfl, rfl, rfl, rfl, _, h1⟩ | ⟨rfl, rfl, rfl, h1, h2⟩
 ·have e := restN_nus lits (fun y hy => lit_rng (List.all_eq_true.1 h1 y hy))
  rcases hk with rfl | rfl
  ·simp [stepP, stX, hd, stH, stK, stBy, nx, e]
  ·have e0 : hCycle ≠ hClause ∧ hCycle ≠ hLinks := by decide
   simp [stepP, stX, hd, stH, stK, stBy, nx, e, e0]
 ·have e := linksP_lks links (fun y hy => List.all_eq_true.1 h1 y hy)
  have e0 : hLinks ≠ hClause := by decide
  simp [stepP, stX, hd, stH, stK, stBy, nx, e, e0]
 ·have e1 := nx_nus a (.cons (nuL b) (nuK b) (nuS b) 0 (nuX b) .nil) (cnt_rng h1)
  have e2 := nx_nus b .nil (cnt_rng h2)
  have e0 : hPair ≠ hClause ∧ hPair ≠ hLinks ∧ hPair ≠ hCycle := by decide
  simp [stepP, stX, hd, stH, stK, stBy, nusF, e0]
  simp [nx] at e1 e2 ⊢
  simp [e1, e2, Fo.len]
theorem stepP_same (x : Stp) (h : maySt x = true) (l : Bool) (k : Int) (s : ByteArray) (f : Fo) (hs : sameT true 1 ⟨#[40]⟩ (stX x) l k s f = true) : stepP l f = (x, true) := by
 simp only [sameT, Bool.and_eq_true, decide_eq_true_eq] at hs
 obtain ⟨⟨⟨⟨rfl, _⟩, _⟩, _⟩, h5⟩ := hs
 have e := sameF_noA _ _ h5
 rw [noA_stX] at e
 rw [← stepP_noA, ← e]
 exact stepP_stX x h
end Go.Proofs.YtookoagcmejkpaaGreatDoor
namespace Go.Proofs.YtookoagcmejkpaaGreatDoor
open Go Go.RowKit Go.Maps
def Known (W : World) : Prop := ∀ w, Below W.heap.size W w → Calls Tryz.prog 8 #[] w fun e w' => e = .returned (.bool true) ∧ Below w.heap.size w w'
theorem lkN_rng {x : Lk} (h : mayLk x = true) : (∀ y ∈ lkN x, -4611686018427387903 ≤ y ∧ y ≤ 4611686018427387903) ∧ (lkN x).length ≤ 22 := by
 rcases lk_shape h with ⟨e, h1⟩ | ⟨e, h1⟩ | ⟨e, h1⟩ | ⟨e, h1, h2⟩ | ⟨e, h1, h2, h3, h4⟩ | ⟨e, h1, h2⟩ | ⟨e, h1⟩ <;> obtain ⟨k, lit, a, b, i, j, l⟩ := x <;> cases e
 ·exact ⟨by simpa [lkN] using lit_rng h1, by simp [lkN]⟩
 ·exact ⟨by simpa [lkN] using cnt_rng h1, by simp [lkN]⟩
 ·exact ⟨by simpa [lkN] using cnt_rng h1, by simp [lkN]⟩
 ·exact ⟨by simpa [lkN] using ⟨cnt_rng h1, cnt_rng h2⟩, by simp [lkN]⟩
 ·refine ⟨?_, by simp [lkN]; simpa using h3⟩
  intro y hy
  simp [lkN] at hy
  rcases hy with rfl | rfl | hy
  ·exact cnt_rng h1
  ·exact cnt_rng h2
  ·exact cnt_rng (List.all_eq_true.1 h4 y hy)
 ·exact ⟨by simpa [lkN] using ⟨lit_rng h1, cnt_rng h2⟩, by simp [lkN]⟩
 ·exact ⟨by simpa [lkN] using cnt_rng h1, by simp [lkN]⟩
end Go.Proofs.YtookoagcmejkpaaGreatDoor
namespace Go.Proofs.YtookoagcmejkpaaGreatDoor
open Go Go.RowKit Lx
theorem gd_ok : ∀ f : Fo, GdF f → okF f = true
 | .nil, _ => rfl
 | .cons l k s a x r, h => by
  obtain ⟨_, h1, h2⟩ := h
  have ih := gd_ok r h2
  rcases h1 with ⟨rfl, rfl, rfl, hx⟩ | ⟨rfl, rfl, hl⟩
  ·simp [okF, ih, gd_ok x hx]
  ·have hb : readB k s = true := readB_iff.2 ⟨hl.good, by rcases hl.kind with rfl | rfl <;> decide⟩
   simp [okF, ih, hb, Fo.len]
theorem gd_sz : ∀ f : Fo, GdF f → Lx.szB 65536 f
 | .nil, _ => trivial
 | .cons l k s a x r, h => by
  obtain ⟨_, h1, h2⟩ := h
  have ih := gd_sz r h2
  rcases h1 with ⟨rfl, rfl, rfl, hx⟩ | ⟨rfl, rfl, hl⟩
  ·exact ⟨by decide, gd_sz x hx, ih⟩
  ·refine ⟨?_, trivial, ih⟩
   have := hl.len
   have e : s.size = s.data.toList.length := (Array.length_toList (xs := s.data)).symm
   omega
theorem gd_len : ∀ (f : Fo) (b : Bool), GdF f → (txtF b f).length ≤ 25 * f.size
 | .nil, b, _ => by simp [txtF]
 | .cons l k s a x r, b, h => by
  obtain ⟨_, h1, h2⟩ := h
  have ih := gd_len r false h2
  have hb : ((if b = true then [] else [32] : List UInt8)).length ≤ 1 := by cases b <;> simp
  rcases h1 with ⟨rfl, rfl, rfl, hx⟩ | ⟨rfl, rfl, hl⟩
  ·have ihx := gd_len x true hx
   simp only [txtF, if_true, List.length_append, List.length_cons, List.length_nil, Fo.size]
   omega
  ·have := hl.len
   simp only [txtF, Bool.false_eq_true, if_false, List.length_append, hl.rend, Fo.size]
   omega
def KdF : Fo → Prop
 | .nil => True
 | .cons l k s _ x r => (Lx.textR l k s x = (txtT l k s x, 0) ∧ s.size ≤ 65536 ∧ Lx.szB 65536 x ∧ x.size ≤ 1000 ∧ (txtT l k s x).length ≤ 100000) ∧ KdF r
def KsF : Fo → Prop
 | .nil => True
 | .cons _ _ _ _ x r => x.size ≤ 1000 ∧ KsF r
theorem dep_cons (l : Bool) (k : Int) (s : ByteArray) (a : Int) (x r : Fo) (m : Nat) : Lx.depF (.cons l k s a x r) m = max (Lx.depT l x m) (Lx.depF r m) := rfl
theorem kd_of : ∀ f : Fo, GdF f → Lx.depF f 201 ≤ 200 → KsF f → KdF f
 | .nil, _, _, _ => trivial
 | .cons l k s a x r, h, hd, hk => by
  have hok := gd_ok _ h
  have hsz := gd_sz _ h
  obtain ⟨_, h1, h2⟩ := h
  rw [dep_cons] at hd
  have ih := kd_of r h2 (by omega) hk.2
  have hkx := hk.1
  have hlen : (txtT l k s x).length ≤ 100000 := by
   rcases h1 with ⟨rfl, rfl, rfl, hx⟩ | ⟨rfl, rfl, hl⟩
   ·have := gd_len x true hx
    simp only [txtT, if_true, List.length_cons, List.length_append, List.length_nil]
    omega
   ·have := hl.len
    simp only [txtT, Bool.false_eq_true, if_false, hl.rend]
    omega
  refine ⟨⟨?_, hsz.1, hsz.2.1, hk.1, hlen⟩, ih⟩
  have hT : okT l k s x = true := by
   simp only [okF, Bool.and_eq_true] at hok
   cases l <;> simpa [okT] using hok.1
  unfold Lx.textR
  rw [if_neg (by rw [hT]; simp), if_neg (by omega), if_neg (by omega)]
theorem dep_nus (m : Nat) : ∀ l : List Int, Lx.depF (nusF l) m ≤ 1
 | [] => Nat.zero_le _
 | n :: r => by
  have ih := dep_nus m r
  have h1 : ∀ k, Lx.depF (nuX n) k = 0 := fun k => by
   unfold nuX
   split
   ·simp [Lx.depF]
   ·rfl
  rw [nusF, dep_cons]
  simp only [Lx.depT, h1]
  split <;> omega
theorem dep_lk (x : Lk) (m : Nat) : Lx.depF (lkX x) m ≤ 1 := by
 have := dep_nus m (lkN x)
 simp only [lkX, dep_cons, Lx.depT, Bool.false_and, Bool.false_eq_true, if_false]
 omega
theorem dep_lks (m : Nat) : ∀ l : List Lk, Lx.depF (lksF l) m ≤ 2
 | [] => Nat.zero_le _
 | x :: r => by
  have ih := dep_lks m r
  have h1 := dep_lk x (m - 1)
  rw [lksF, dep_cons]
  simp only [Lx.depT]
  split <;> omega
theorem nu_size (n : Int) : (nuX n).size ≤ 2 := by
 unfold nuX; split <;> simp [Fo.size]
theorem nus_size : ∀ l : List Int, (nusF l).size ≤ 3 * l.length
 | [] => Nat.le_refl _
 | n :: r => by
  have := nus_size r
  have := nu_size n
  simp only [nusF, Fo.size, List.length_cons]
  omega
theorem nus_ks : ∀ l : List Int, KsF (nusF l)
 | [] => trivial
 | n :: r => ⟨Nat.le_trans (nu_size n) (by decide), nus_ks r⟩
theorem lks_facts : ∀ l : List Lk, (∀ y ∈ l, mayLk y = true) → GdF (lksF l) ∧ KsF (lksF l) ∧ (lksF l).size ≤ 70 * l.length
 | [], _ => ⟨trivial, trivial, Nat.le_refl _⟩
 | x :: r, h => by
  obtain ⟨h1, h2, h3⟩ := lks_facts r (fun y hy => h y (by simp [hy]))
  have hn := lkN_rng (h x (by simp))
  have hs := nus_size (lkN x)
  refine ⟨⟨rfl, .inl ⟨rfl, rfl, rfl, ⟨rfl, .inr ⟨rfl, rfl, lf_lk x.k⟩, nus_gd _ hn.1⟩⟩, h1⟩, ⟨?_, h2⟩, ?_⟩
  ·simp only [lkX, Fo.size]; omega
  ·simp only [lksF, lkX, Fo.size, List.length_cons]; omega
theorem st_facts (x : Stp) (h : maySt x = true) : GdF (stX x) ∧ KdF (stX x) ∧ (stX x).size ≤ 2000000 := by
 obtain ⟨k, lits, links, a, b⟩ := x
 obtain ⟨m1, m2, m3, m4, m5, m6, m7⟩ := maySt_facts h
 have hl : ∀ y ∈ lits, -4611686018427387903 ≤ y ∧ y ≤ 4611686018427387903 := fun y hy => lit_rng (List.all_eq_true.1 m5 y hy)
 have hk : ∀ y ∈ links, mayLk y = true := fun y hy => List.all_eq_true.1 m6 y hy
 have hab : ∀ y ∈ [a, b], -4611686018427387903 ≤ y ∧ y ≤ 4611686018427387903 := by
  intro y hy
  simp at hy
  rcases hy with rfl | rfl
  ·exact cnt_rng m1
  ·exact cnt_rng m2
 obtain ⟨g1, g2, g3⟩ := lks_facts links hk
 have key : ∀ f, GdF f → Lx.depF f 201 ≤ 2 → KsF f → f.size ≤ 1999999 → GdF (.cons false 3 (stH k) 0 .nil f) ∧ KdF (.cons false 3 (stH k) 0 .nil f) ∧ (Fo.cons false 3 (stH k) 0 .nil f).size ≤ 2000000 := fun f f1 f2 f3 f4 => by
  have hg : GdF (.cons false 3 (stH k) 0 .nil f) := ⟨rfl, .inr ⟨rfl, rfl, lf_st k⟩, f1⟩
  refine ⟨hg, kd_of _ hg ?_ ⟨by decide, f3⟩, by simp only [Fo.size]; omega⟩
  rw [dep_cons]
  simp only [Lx.depT, Bool.false_and, Bool.false_eq_true, if_false]
  omega
 simp only [stX, stK]
 split
 ·exact key _ g1 (dep_lks _ _) g2 (by omega)
 ·split
  ·have := nus_size [a, b]
   exact key _ (nus_gd _ hab) (Nat.le_trans (dep_nus _ _) (by decide)) (nus_ks _) (by simp at this; omega)
  ·have := nus_size lits
   exact key _ (nus_gd _ hl) (Nat.le_trans (dep_nus _ _) (by decide)) (nus_ks _) (by omega)
def kidS : Fo → List ByteArray
 | .nil => []
 | .cons l k s _ x r => ⟨(txtT l k s x).toArray⟩ :: kidS r
theorem kidS_app : ∀ f g : Fo, kidS (f.app g) = kidS f ++ kidS g
 | .nil, g => rfl
 | .cons l k s a x r, g => by simp only [Fo.app, kidS, kidS_app r g, List.cons_append]
theorem kidS_len : ∀ f : Fo, (kidS f).length = f.len
 | .nil => rfl
 | .cons l k s a x r => by simp only [kidS, List.length_cons, kidS_len r, Fo.len]
theorem join_cons (t : List UInt8) (ts : List (List UInt8)) : Lib.join (t :: ts) [32] = t ++ (ts.map fun u => 32 :: u).flatten := by
 unfold Lib.join List.intercalate
 induction ts generalizing t with
 | nil => simp
 | cons u us ih => rw [List.intersperse_cons_cons]; simp only [List.flatten_cons, ih u, List.map_cons]; simp
theorem kids_flat : ∀ f : Fo, ((kidS f).map (fun u => 32 :: u.data.toList)).flatten = txtF false f
 | .nil => rfl
 | .cons l k s a x r => by
  simp only [kidS, List.map_cons, List.flatten_cons, kids_flat r, txtF, txtT]
  simp
theorem join_kids (f : Fo) : Lib.join ((kidS f).map (·.data.toList)) [32] = txtF true f := by
 cases f with
 | nil => rfl
 | cons l k s a x r =>
  simp only [kidS, List.map_cons]
  rw [join_cons, List.map_map]
  have := kids_flat r
  simp only [Function.comp_def] at this ⊢
  rw [this]
  simp [txtF, txtT]
def stTx (x : Stp) : ByteArray := brkS (kidS (stX x))
theorem stTx_list (x : Stp) : (stTx x).data.toList = txtT true 1 ⟨#[40]⟩ (stX x) := by
 simp [stTx, brkS, brkL, join_kids, txtT]
theorem stTx_inj {x y : Stp} (hx : maySt x = true) (hy : maySt y = true) (h : stTx x = stTx y) : stX x = stX y := by
 have h1 := congrArg (fun s : ByteArray => s.data.toList) h
 simp only [stTx_list] at h1
 exact txt_inj (st_facts x hx).1 (st_facts y hy).1 h1
theorem stTx_size (x : Stp) (h : maySt x = true) : (stTx x).size ≤ 100000000 ∧ (Lib.join ((kidS (stX x)).map (·.data.toList)) [32]).length ≤ 100000000 := by
 obtain ⟨h1, _, h3⟩ := st_facts x h
 have h4 := gd_len (stX x) true h1
 have h5 : (stTx x).size = (txtF true (stX x)).length + 2 := by
  have e : (stTx x).size = (stTx x).data.toList.length := (Array.length_toList (xs := (stTx x).data)).symm
  rw [e, stTx_list]
  simp [txtT]
 rw [join_kids]
 omega
end Go.Proofs.YtookoagcmejkpaaGreatDoor
