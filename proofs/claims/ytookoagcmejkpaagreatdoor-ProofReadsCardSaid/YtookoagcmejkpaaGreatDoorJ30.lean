/- A step is read out of its tree: the program's Read. The step that a tree would be: the document's reading, plain. -/
import Derived.Test.YtookoagcmejkpaaGreatDoorS46
import Derived.Test.YtookoagcmejkpaaGreatDoorJ3
import Derived.Test.YtookoagcmejkpaaGreatDoorJ24
namespace Go.Proofs.YtookoagcmejkpaaGreatDoor
set_option maxRecDepth 100000
open Go Go.RowKit
def readT (l : Bool) (k : Int) (s : ByteArray) (x : Fo) : Option Stp :=
 if (stepP l x).2 = true /\ maySt (stepP l x).1 = true /\ sameT true 1 ⟨#[40]⟩ (stX (stepP l x).1) l k s x = true then some (stepP l x).1 else none
theorem lkBy_k (k : Int) (lit a b i j list : Bool) (g : Fo) : (lkBy k lit a b i j list g).1.k = k := by
 unfold lkBy
 cases list <;> rfl
theorem linkP_k (l : Bool) (x : Fo) : 0 <= (linkP l x).1.k /\ (linkP l x).1.k <= 255 := by
 unfold linkP
 simp only
 repeat' split
 all_goals first | (rw [lkBy_k]; decide) | decide
theorem linksP_k : ∀ f : Fo, KdL (linksP f).1
 | .nil => fun y hy => by cases hy
 | .cons l k s a x r => fun y hy => by
  simp only [linksP, List.mem_cons] at hy
  rcases hy with rfl | hy
  ·exact linkP_k l x
  ·exact linksP_k r y hy
theorem stBy_k (k : Int) (lits links a b : Bool) (g : Fo) : (stBy k lits links a b g).1.k = k /\ KdL (stBy k lits links a b g).1.links /\ (stBy k lits links a b g).1.lits.length <= g.len /\ (stBy k lits links a b g).1.links.length <= g.len := by
 have h1 := nx_len a g true
 have h2 := nx_len b (nx a (g, true)).2.1 (nx a (g, true)).2.2
 have nk : KdL [] := fun y hy => by cases hy
 have h3 : (nx b (nx a (g, true)).2).2.1.len <= g.len := Nat.le_trans h2 h1
 cases lits
 ·cases links
  ·exact ⟨rfl, nk, Nat.zero_le _, Nat.zero_le _⟩
  ·refine ⟨rfl, ?_, Nat.zero_le _, ?_⟩
   ·simp only [stBy, Bool.false_eq_true, if_false, if_true]; exact linksP_k _
   ·simp only [stBy, Bool.false_eq_true, if_false, if_true, linksP_len]; exact h3
 ·refine ⟨rfl, nk, ?_, Nat.zero_le _⟩
  simp only [stBy, if_true, restN_len]; exact h3
theorem hd_len (l : Bool) (x : Fo) : (hd l x).2.len <= x.len := by
 cases x with
 | nil => exact Nat.le_refl _
 | cons l0 k0 s0 a0 y z =>
  simp only [hd]
  split
  ·simp [Fo.len]
  ·simp [Fo.len]
theorem stepP_k (l : Bool) (x : Fo) : 0 <= (stepP l x).1.k /\ (stepP l x).1.k <= 255 /\ KdL (stepP l x).1.links /\ (stepP l x).1.lits.length <= x.len /\ (stepP l x).1.links.length <= x.len := by
 have h := hd_len l x
 have key : ∀ k lits links a b, 0 <= k /\ k <= 255 -> 0 <= (stBy k lits links a b (hd l x).2).1.k /\ (stBy k lits links a b (hd l x).2).1.k <= 255 /\ KdL (stBy k lits links a b (hd l x).2).1.links /\ (stBy k lits links a b (hd l x).2).1.lits.length <= x.len /\ (stBy k lits links a b (hd l x).2).1.links.length <= x.len := by
  intro k lits links a b hk
  have hs := stBy_k k lits links a b (hd l x).2
  exact ⟨by rw [hs.1]; exact hk.1, by rw [hs.1]; exact hk.2, hs.2.1, Nat.le_trans hs.2.2.1 h, Nat.le_trans hs.2.2.2 h⟩
 unfold stepP
 simp only
 repeat' split
 all_goals first | exact key _ _ _ _ _ (by decide) | exact ⟨by decide, by decide, (fun y hy => by cases hy), Nat.zero_le _, Nat.zero_le _⟩
def ReadR (w w' : World) (e : Ending) (r : Option Stp) : Prop :=
 (match r with
 | none => e = .returned (.tuple #[stV ⟨0, [], [], 0, 0⟩ none 0 none 0, .int .i64 5])
 | some y => ∃ p c q d, e = .returned (.tuple #[stV y p c q d, .int .i64 0]) /\ OwnI 44 w' (fun b => w.heap.size <= b) (.slice p y.lits.length c) y.lits /\ OwnK w' (fun b => w.heap.size <= b) (.slice q y.links.length d) y.links) /\ Below w.heap.size w w'
set_option maxHeartbeats 6400000 in
theorem read16 (l : Bool) (k : Int) (s : ByteArray) (a0 : Int) (x : Fo) (q : Option Addr) (c : Nat) (F : Nat -> Prop) (W : World) (hq : FoIn W F x q) (hc : x.len <= c) (hl : x.len <= 1000000000) (hx : TxOK x) (hln : LnOK x) (htab : PowTab W) :
  Calls Tryz.prog 16 #[trV l k s a0 q x.len c] W fun e w' => ReadR W w' e (readT l k s x) := by
 obtain ⟨w2, hw2⟩ : ∃ w2, w2 = (W.alloc (.cells #[.bool l, .int .u8 k, .string s, .int .i64 a0, .slice q x.len c] 35)).alloc (.cells #[.int .u8 0, .slice none 0 0, .slice none 0 0, .int .i64 0, .int .i64 0] 26) := ⟨_, rfl⟩
 have hb2 : Below W.heap.size W w2 := by rw [hw2]; exact (below1 W _).alloc (by simp) _
 have hz2 : BoxS w2 (W.heap.size + 1) 0 (.slice none 0 0) (.slice none 0 0) 0 0 := by
  have h := boxS_new (W.alloc (.cells #[.bool l, .int .u8 k, .string s, .int .i64 a0, .slice q x.len c] 35)) 0 0 0 (.slice none 0 0) (.slice none 0 0)
  rw [hw2]; simpa using h
 have ht2 : BoxT w2 W.heap.size l k s a0 (.slice q x.len c) := by
  have h := (box_new W l k s a0 (.slice q x.len c)).later (below1 _ (.cells #[.int .u8 0, .slice none 0 0, .slice none 0 0, .int .i64 0, .int .i64 0] 26))
  rw [hw2]; exact h
 have HP := Lib.hid (step49 l k s a0 x q c F w2 (hq.later hb2) hc hl hx hln)
 have HS2 := Lib.hid (And.intro hb2 (And.intro hz2 (And.intro ht2 (show W.heap.size + 2 <= w2.heap.size from by rw [hw2]; simp))))
 have HW2 := Lib.hid hw2
 have HQ2 := Lib.hid (And.intro (hq.later hb2) (And.intro hc hl))
 have HT2 := Lib.hid (tabIs_below htab hb2)
 have HK := Lib.hid (stepP_k l x)
 obtain ⟨y, o, hy⟩ : ∃ y o, stepP l x = (y, o) := ⟨_, _, rfl⟩
 have HR := Lib.hid (show readT l k s x = if o = true /\ maySt y = true /\ sameT true 1 ⟨#[40]⟩ (stX y) l k s x = true then some y else none from by unfold readT; rw [hy])
 rw [hy] at HP HK
 dsimp only at HP HK
 obtain ⟨R, hR⟩ : ∃ R, R = readT l k s x := ⟨_, rfl⟩
 rw [<- hR] at HR ⊢
 clear hq hc hl hx hln htab hw2 hb2 hz2 ht2 hy hR
 unfold trV at HP ⊢
 go_enter Tryz.func16, Tryz.ntmps16
 go_wp2_with fail
 rw [<- HW2.out]
 refine HP.out.mono ?_
 rintro e w3 ⟨⟨p3, c3, q3, d3, rfl, hoi, hok⟩, hb3⟩
 have HB3 := Lib.hid (HS2.out.1.trans (hb3.mono HS2.out.1.size))
 have HZ3 := Lib.hid (HS2.out.2.1.later hb3)
 have HTX3 := Lib.hid (HS2.out.2.2.1.later hb3)
 have HQ3 := Lib.hid (HQ2.out.1.later hb3)
 have HO3 := Lib.hid (And.intro hoi hok)
 have HT3 := Lib.hid (tabIs_below HT2.out hb3)
 have HSZ := Lib.hid (show W.heap.size + 2 <= w3.heap.size /\ w2.heap.size <= w3.heap.size from ⟨Nat.le_trans HS2.out.2.2.2 hb3.size, hb3.size⟩)
 clear hoi hok hb3 HP HW2
 cases o with
 | false =>
  have hr0 : R = none := by rw [HR.out]; simp
  subst hr0
  unfold stV
  obtain ⟨z0, z1, z2, z3, z4, zf⟩ := HZ3.out.later (below1 w3 (.cells #[.int .u8 y.k, .slice p3 y.lits.length c3, .slice q3 y.links.length d3, .int .i64 y.a, .int .i64 y.b] 26))
  go_wp2_with fail
  refine bodyPost_ret (v := .tuple #[.agg #[.int .u8 0, .slice none 0 0, .slice none 0 0, .int .i64 0, .int .i64 0], .int .i64 5]) (by simp [results, Tryz.results16, go_sem, z0, z1, z2, z3, z4]) rfl ⟨rfl, ?_⟩
  have h7 := only5 (w3.alloc (.cells #[.int .u8 y.k, .slice p3 y.lits.length c3, .slice q3 y.links.length d3, .int .i64 y.a, .int .i64 y.b] 26)) (W.heap.size + 1) (.int .u8 0) (.slice none 0 0) (.slice none 0 0) (.int .i64 0) (.int .i64 0)
  have h8 := HB3.out.trans ((below1 w3 (.cells #[.int .u8 y.k, .slice p3 y.lits.length c3, .slice q3 y.links.length d3, .int .i64 y.a, .int .i64 y.b] 26)).mono HB3.out.size)
  exact h8.trans (h7.below (fun k e => by omega) h8.size)
 | true =>
  obtain ⟨w4, hw4⟩ : ∃ w4, w4 = w3.alloc (.cells #[.int .u8 y.k, .slice p3 y.lits.length c3, .slice q3 y.links.length d3, .int .i64 y.a, .int .i64 y.b] 26) := ⟨_, rfl⟩
  have hb4 : Below w3.heap.size w3 w4 := by rw [hw4]; exact below1 _ _
  have HO4 := Lib.hid (And.intro (HO3.out.1.later hb4) (HO3.out.2.later hb4))
  obtain ⟨qi, ci, hvi, _, _, _, _, hii, _⟩ := HO4.out.1.intsIn
  injection hvi with hv1 hv2 hv3
  subst hv1 hv3
  obtain ⟨qk, ck, hvk, _, _, hlk, _⟩ := HO4.out.2.lks
  injection hvk with hv4 hv5 hv6
  subst hv4 hv6
  have HTR := Lib.hid (tree10 y p3 c3 q3 d3 w4 HK.out.1 HK.out.2.1 hii hlk HK.out.2.2.1 (by have := HK.out.2.2.2.1; have := HQ2.out.2.2; omega) (by have := HK.out.2.2.2.2; have := HQ2.out.2.2; omega) (tabIs_below HT3.out hb4))
  have HB4 := Lib.hid (HB3.out.trans (hb4.mono HB3.out.size))
  have HBS4 := Lib.hid (show BoxS w4 w3.heap.size y.k (.slice p3 y.lits.length c3) (.slice q3 y.links.length d3) y.a y.b from by rw [hw4]; exact boxS_new _ _ _ _ _ _)
  have HZ4 := Lib.hid (HZ3.out.later hb4)
  have HTX4 := Lib.hid (HTX3.out.later hb4)
  have HQ4 := Lib.hid (HQ3.out.later hb4)
  have HW4 := Lib.hid hw4
  have HS34 := Lib.hid hb4.size
  clear hw4 hb4 hii hlk hv2 hv5
  unfold stV at HTR ⊢
  go_wp2_with fail
  rw [<- HW4.out]
  refine HTR.out.mono ?_
  rintro e w5 htr
  clear HTR HW4
  rcases htr with ⟨hm, rfl, hb5⟩ | ⟨hm, qt, ct, rfl, hqt, hct, hb5⟩
  ·have hr0 : R = none := by rw [HR.out]; simp [hm]
   subst hr0
   obtain ⟨z0, z1, z2, z3, z4, zf⟩ := (HZ4.out.later hb5).later (below1 w5 (.cells #[.bool false, .int .u8 0, .string ⟨#[]⟩, .int .i64 0, .slice none 0 0] 35))
   have HB5 := Lib.hid (HB4.out.trans (hb5.mono HB4.out.size))
   clear hb5
   unfold trV
   go_wp2_with fail
   refine bodyPost_ret (v := .tuple #[.agg #[.int .u8 0, .slice none 0 0, .slice none 0 0, .int .i64 0, .int .i64 0], .int .i64 5]) (by simp [results, Tryz.results16, go_sem, z0, z1, z2, z3, z4]) rfl ⟨rfl, ?_⟩
   have h7 := only5 (w5.alloc (.cells #[.bool false, .int .u8 0, .string ⟨#[]⟩, .int .i64 0, .slice none 0 0] 35)) (W.heap.size + 1) (.int .u8 0) (.slice none 0 0) (.slice none 0 0) (.int .i64 0) (.int .i64 0)
   have h8 := HB5.out.trans ((below1 w5 (.cells #[.bool false, .int .u8 0, .string ⟨#[]⟩, .int .i64 0, .slice none 0 0] 35)).mono HB5.out.size)
   exact h8.trans (h7.below (fun k e => by omega) h8.size)
  ·obtain ⟨w6, hw6⟩ : ∃ w6, w6 = w5.alloc (.cells #[.bool true, .int .u8 1, .string ⟨#[40]⟩, .int .i64 0, .slice qt (stX y).len ct] 35) := ⟨_, rfl⟩
   have hb6 : Below w5.heap.size w5 w6 := by rw [hw6]; exact below1 _ _
   have hb46 := hb5.trans (hb6.mono hb5.size)
   have hsl : (stX y).len <= 281474976710656 := by
    obtain ⟨_, _, m3, m4, _⟩ := maySt_facts (k := y.k) (a := y.a) (b := y.b) (lits := y.lits) (links := y.links) (by simpa using hm)
    unfold stX stK
    simp only [Fo.len]
    split
    ·rw [lksF_len]; omega
    ·split
     ·rw [nusF_len]; simp
     ·rw [nusF_len]; omega
   have HSM := Lib.hid (same33_any (stX y).size (stX y) x (Nat.le_refl _) true l 1 k ⟨#[40]⟩ s 0 a0 qt q ct c w6 _ _ (hqt.later hb6) (HQ4.out.later hb46) hct HQ2.out.2.1 hsl (by have := HQ2.out.2.2; omega))
   obtain ⟨bs, hbs⟩ : ∃ b, b = sameT true 1 ⟨#[40]⟩ (stX y) l k s x := ⟨_, rfl⟩
   have HRS := Lib.hid (show R = if bs = true then some y else none from by rw [HR.out, hbs]; simp [hm])
   rw [<- hbs] at HSM
   have HB6 := Lib.hid (HB4.out.trans (hb46.mono HB4.out.size))
   have HZ6 := Lib.hid (HZ4.out.later hb46)
   obtain ⟨x0, x1, x2, x3, x4, xf⟩ := HTX4.out.later hb46
   have HBS6 := Lib.hid (HBS4.out.later hb46)
   have HO6 := Lib.hid (And.intro (HO4.out.1.later hb46) (HO4.out.2.later hb46))
   have HS46 := Lib.hid hb46.size
   have HW6 := Lib.hid hw6
   have hy6 : BoxT w6 w5.heap.size true 1 ⟨#[40]⟩ 0 (.slice qt (stX y).len ct) := by rw [hw6]; exact box_new _ _ _ _ _ _
   rw [hw6] at x0 x1 x2 x3 x4 xf
   clear hb5 hb6 hb46 hw6 hqt hct hsl hbs HR hy6
   unfold trV at HSM ⊢
   go_wp2_with fail
   rw [<- HW6.out]
   refine HSM.out.mono ?_
   rintro e w7 ⟨rfl, hb7⟩
   have HB7 := Lib.hid (HB6.out.trans (hb7.mono HB6.out.size))
   have HO7 := Lib.hid (And.intro (HO6.out.1.later hb7) (HO6.out.2.later hb7))
   obtain ⟨z0, z1, z2, z3, z4, zf⟩ := HZ6.out.later hb7
   obtain ⟨y0, y1, y2, y3, y4, yf⟩ := HBS6.out.later hb7
   clear hb7 HSM HW6 x0 x1 x2 x3 x4 xf
   cases bs with
   | false =>
    have hr0 : R = none := by rw [HRS.out]; simp
    subst hr0
    go_wp2_with fail
    refine bodyPost_ret (v := .tuple #[.agg #[.int .u8 0, .slice none 0 0, .slice none 0 0, .int .i64 0, .int .i64 0], .int .i64 5]) (by simp [results, Tryz.results16, go_sem, z0, z1, z2, z3, z4]) rfl ⟨rfl, ?_⟩
    have h7 := only5 w7 (W.heap.size + 1) (.int .u8 0) (.slice none 0 0) (.slice none 0 0) (.int .i64 0) (.int .i64 0)
    exact HB7.out.trans (h7.below (fun k e => by omega) HB7.out.size)
   | true =>
    have hr0 : R = some y := by rw [HRS.out]; simp
    subst hr0
    go_wp2_with fail
    have h7 := only5 w7 (W.heap.size + 1) (.int .u8 y.k) (.slice p3 y.lits.length c3) (.slice q3 y.links.length d3) (.int .i64 y.a) (.int .i64 y.b)
    have hsz := HSZ.out
    have hs2 := HS2.out.2.2.2
    refine bodyPost_ret (v := .tuple #[.agg #[.int .u8 y.k, .slice p3 y.lits.length c3, .slice q3 y.links.length d3, .int .i64 y.a, .int .i64 y.b], .int .i64 0]) (by simp [results, Tryz.results16, go_sem, z0, z1, z2, z3, z4]) rfl ⟨⟨p3, c3, q3, d3, rfl, ?_, ?_⟩, HB7.out.trans (h7.below (fun k e => by omega) HB7.out.size)⟩
    ·exact (HO7.out.1.only h7 (fun b hb e => by omega)).mono (fun b hb _ => by omega)
    ·exact (HO7.out.2.only h7 (fun b hb e => by omega)).mono (fun b hb _ => by omega)
def valsF : Fo -> List Int
 | .nil => []
 | .cons l _ s _ x r => valP l s x :: valsF r
def tl : Fo -> Fo
 | .nil => .nil
 | .cons _ _ _ _ _ r => r
def hdS : Fo -> ByteArray
 | .nil => ⟨#[]⟩
 | .cons _ _ s _ _ _ => s
theorem valsF_len : ∀ f : Fo, (valsF f).length = f.len
 | .nil => rfl
 | .cons _ _ _ _ _ r => by simp only [valsF, Fo.len, List.length_cons, valsF_len r]
theorem valsF_snoc (l : Bool) (k : Int) (s : ByteArray) (a : Int) (x : Fo) : ∀ f : Fo, valsF (f.snoc l k s a x) = valsF f ++ [valP l s x]
 | .nil => rfl
 | .cons _ _ _ _ _ r => by simp only [valsF, Fo.snoc, valsF_snoc l k s a x r, List.cons_append]
theorem valsF_noA : ∀ f : Fo, valsF (noA f) = valsF f
 | .nil => rfl
 | .cons l k s a x r => by simp only [noA, valsF, valP_noA, valsF_noA r]
theorem tl_noA (x : Fo) : tl (noA x) = noA (tl x) := by cases x <;> rfl
theorem hdS_noA (x : Fo) : hdS (noA x) = hdS x := by cases x <;> rfl
def guessV (h : ByteArray) (a b : Int) (rest : List Int) : Lk :=
 if h = hGiven then ⟨1, a, 0, 0, 0, 0, []⟩
 else if h = hSame then ⟨2, 0, a, 0, 0, 0, []⟩
 else if h = hTurn then ⟨3, 0, 0, 0, a, 0, []⟩
 else if h = hThen then ⟨4, 0, 0, 0, a, b, []⟩
 else if h = hApply then ⟨5, 0, a, b, 0, 0, rest⟩
 else if h = hAgainst then ⟨6, a, 0, 0, b, 0, []⟩
 else if h = hClash then ⟨7, 0, 0, 0, a, 0, []⟩
 else ⟨0, 0, 0, 0, 0, 0, []⟩
def guessP (l : Bool) (x : Fo) : Lk :=
 if l = false \/ x.len = 0 then ⟨0, 0, 0, 0, 0, 0, []⟩
 else guessV (hdS x) ((valsF (tl x)).getD 0 0) ((valsF (tl x)).getD 1 0) ((valsF (tl x)).drop 2)
theorem guessP_noA (l : Bool) (x : Fo) : guessP l (noA x) = guessP l x := by
 simp only [guessP, noA_len, hdS_noA, tl_noA, valsF_noA]
def guessF : Fo -> List Lk
 | .nil => []
 | .cons l _ _ _ x r => guessP l x :: guessF r
theorem guessF_len : ∀ f : Fo, (guessF f).length = f.len
 | .nil => rfl
 | .cons _ _ _ _ _ r => by simp only [guessF, Fo.len, List.length_cons, guessF_len r]
theorem guessF_snoc (l : Bool) (k : Int) (s : ByteArray) (a : Int) (x : Fo) : ∀ f : Fo, guessF (f.snoc l k s a x) = guessF f ++ [guessP l x]
 | .nil => rfl
 | .cons _ _ _ _ _ r => by simp only [guessF, Fo.snoc, guessF_snoc l k s a x r, List.cons_append]
theorem guessF_noA : ∀ f : Fo, guessF (noA f) = guessF f
 | .nil => rfl
 | .cons l k s a x r => by simp only [noA, guessF, guessP_noA, guessF_noA r]
theorem guessV_k (h : ByteArray) (a b : Int) (rest : List Int) : 0 <= (guessV h a b rest).k /\ (guessV h a b rest).k <= 255 := by
 unfold guessV
 repeat' split
 all_goals simp
theorem guessP_k (l : Bool) (x : Fo) : 0 <= (guessP l x).k /\ (guessP l x).k <= 255 := by
 unfold guessP
 split
 ·decide
 ·exact guessV_k _ _ _ _
theorem guessF_k : ∀ f : Fo, KdL (guessF f)
 | .nil => fun y hy => by cases hy
 | .cons l k s a x r => fun y hy => by
  simp only [guessF, List.mem_cons] at hy
  rcases hy with rfl | hy
  ·exact guessP_k l x
  ·exact guessF_k r y hy
theorem valP_nu (n : Int) (h : -4611686018427387903 <= n /\ n <= 4611686018427387903) : valP (nuL n) (nuS n) (nuX n) = n := by
 by_cases hn : n < 0
 ·have e := read_itoa_ok (-n) (by omega) (by omega)
  simp [nuL, nuS, nuX, hn, valP, leafV, itoB_list, e.2]
 ·have e := read_itoa_ok n (by omega) h.2
  simp [nuL, nuS, nuX, hn, valP, leafV, itoB_list, e.2]
theorem valsF_nus : ∀ l : List Int, (∀ y ∈ l, -4611686018427387903 <= y /\ y <= 4611686018427387903) -> valsF (nusF l) = l
 | [], _ => rfl
 | n :: r, h => by
  simp only [nusF, valsF, valP_nu n (h n (by simp)), valsF_nus r (fun y hy => h y (by simp [hy]))]
theorem guessP_lkX (x : Lk) (h : mayLk x = true) : guessP true (lkX x) = x := by
 rcases lk_shape h with ⟨e, h1⟩ | ⟨e, h1⟩ | ⟨e, h1⟩ | ⟨e, h1, h2⟩ | ⟨e, h1, h2, h3, h4⟩ | ⟨e, h1, h2⟩ | ⟨e, h1⟩ <;> obtain ⟨k, lit, a, b, i, j, l⟩ := x <;> cases e
 ·have e1 := valsF_nus [lit] (by simpa using lit_rng h1)
  simp [guessP, lkX, Fo.len, hdS, tl, lkH, lkN, e1, guessV]
 ·have e1 := valsF_nus [a] (by simpa using cnt_rng h1)
  have e0 : hSame ≠ hGiven := by decide
  simp [guessP, lkX, Fo.len, hdS, tl, lkH, lkN, e1, guessV, e0]
 ·have e1 := valsF_nus [i] (by simpa using cnt_rng h1)
  have e0 : hTurn ≠ hGiven /\ hTurn ≠ hSame := by decide
  simp [guessP, lkX, Fo.len, hdS, tl, lkH, lkN, e1, guessV, e0]
 ·have e1 := valsF_nus [i, j] (by intro y hy; simp at hy; rcases hy with rfl | rfl <;> first | exact cnt_rng h1 | exact cnt_rng h2)
  have e0 : hThen ≠ hGiven /\ hThen ≠ hSame /\ hThen ≠ hTurn := by decide
  simp [guessP, lkX, Fo.len, hdS, tl, lkH, lkN, e1, guessV, e0]
 ·have e1 := valsF_nus (a :: b :: l) (by intro y hy; simp at hy; rcases hy with rfl | rfl | hy <;> first | exact cnt_rng h1 | exact cnt_rng h2 | exact cnt_rng (List.all_eq_true.1 h4 y hy))
  have e0 : hApply ≠ hGiven /\ hApply ≠ hSame /\ hApply ≠ hTurn /\ hApply ≠ hThen := by decide
  simp [guessP, lkX, Fo.len, hdS, tl, lkH, lkN, e1, guessV, e0]
 ·have e1 := valsF_nus [lit, i] (by intro y hy; simp at hy; rcases hy with rfl | rfl <;> first | exact lit_rng h1 | exact cnt_rng h2)
  have e0 : hAgainst ≠ hGiven /\ hAgainst ≠ hSame /\ hAgainst ≠ hTurn /\ hAgainst ≠ hThen /\ hAgainst ≠ hApply := by decide
  simp [guessP, lkX, Fo.len, hdS, tl, lkH, lkN, e1, guessV, e0]
 ·have e1 := valsF_nus [i] (by simpa using cnt_rng h1)
  have e0 : hClash ≠ hGiven /\ hClash ≠ hSame /\ hClash ≠ hTurn /\ hClash ≠ hThen /\ hClash ≠ hApply /\ hClash ≠ hAgainst := by decide
  simp [guessP, lkX, Fo.len, hdS, tl, lkH, lkN, e1, guessV, e0]
theorem guessF_lks : ∀ l : List Lk, (∀ y ∈ l, mayLk y = true) -> guessF (lksF l) = l
 | [], _ => rfl
 | x :: r, h => by simp only [lksF, guessF, guessP_lkX x (h x (by simp)), guessF_lks r (fun y hy => h y (by simp [hy]))]
def stepD (x : Fo) : Stp :=
 if hdS x = hClause then ⟨1, valsF (tl x), [], 0, 0⟩
 else if hdS x = hCycle then ⟨3, valsF (tl x), [], 0, 0⟩
 else if hdS x = hLinks then ⟨2, [], guessF (tl x), 0, 0⟩
 else if hdS x = hPair /\ (valsF (tl x)).length = 2 then ⟨4, [], [], (valsF (tl x)).getD 0 0, (valsF (tl x)).getD 1 0⟩
 else ⟨0, [], [], 0, 0⟩
theorem stepD_noA (x : Fo) : stepD (noA x) = stepD x := by
 simp only [stepD, hdS_noA, tl_noA, valsF_noA, guessF_noA]
theorem stepD_stX (x : Stp) (h : maySt x = true) : stepD (stX x) = x := by
 have hs := st_shape h
 obtain ⟨k, lits, links, a, b⟩ := x
 simp only at hs
 rcases hs with ⟨hk, rfl, rfl, rfl, _, h1⟩ | ⟨rfl, rfl, rfl, rfl, _, h1⟩ | ⟨rfl, rfl, rfl, h1, h2⟩
 ·have e := valsF_nus lits (fun y hy => lit_rng (List.all_eq_true.1 h1 y hy))
  rcases hk with rfl | rfl
  ·simp [stepD, stX, hdS, tl, stH, stK, e]
  ·have e0 : hCycle ≠ hClause := by decide
   simp [stepD, stX, hdS, tl, stH, stK, e, e0]
 ·have e := guessF_lks links (fun y hy => List.all_eq_true.1 h1 y hy)
  have e0 : hLinks ≠ hClause /\ hLinks ≠ hCycle := by decide
  simp [stepD, stX, hdS, tl, stH, stK, e, e0]
 ·have e1 := valsF_nus [a, b] (by intro y hy; simp at hy; rcases hy with rfl | rfl <;> first | exact cnt_rng h1 | exact cnt_rng h2)
  have e0 : hPair ≠ hClause /\ hPair ≠ hCycle /\ hPair ≠ hLinks := by decide
  simp [stepD, stX, hdS, tl, stH, stK, e0, e1]
theorem stX_len (x : Stp) (h : maySt x = true) : (stX x).len <= 20001 /\ (stX x).len ≠ 0 := by
 have hs := st_shape h
 obtain ⟨k, lits, links, a, b⟩ := x
 simp only at hs
 rcases hs with ⟨hk, rfl, rfl, rfl, h2, h1⟩ | ⟨rfl, rfl, rfl, rfl, h2, h1⟩ | ⟨rfl, rfl, rfl, h1, h2⟩
 ·rcases hk with rfl | rfl <;> simp [stX, stK, Fo.len, nusF_len] <;> omega
 ·simp [stX, stK, Fo.len, lksF_len]; omega
 ·simp [stX, stK, Fo.len, nusF_len]
def readD (l : Bool) (k : Int) (s : ByteArray) (x : Fo) : Option Stp :=
 if l = false \/ x.len = 0 \/ 20001 < x.len then none
 else if maySt (stepD x) = true /\ sameT true 1 ⟨#[40]⟩ (stX (stepD x)) l k s x = true then some (stepD x) else none
theorem readT_eq (l : Bool) (k : Int) (s : ByteArray) (x : Fo) (y : Stp) : readT l k s x = some y ↔ maySt y = true /\ sameT true 1 ⟨#[40]⟩ (stX y) l k s x = true := by
 constructor
 ·intro h
  unfold readT at h
  split at h
  ·rename_i hh
   injection h with h
   subst h
   exact ⟨hh.2.1, hh.2.2⟩
  ·cases h
 ·rintro ⟨h1, h2⟩
  have e := stepP_same y h1 l k s x h2
  simp [readT, e, h1, h2]
theorem readD_eq (l : Bool) (k : Int) (s : ByteArray) (x : Fo) (y : Stp) : readD l k s x = some y ↔ maySt y = true /\ sameT true 1 ⟨#[40]⟩ (stX y) l k s x = true := by
 constructor
 ·intro h
  unfold readD at h
  split at h
  ·cases h
  ·split at h
   ·rename_i hh
    injection h with h
    subst h
    exact hh
   ·cases h
 ·rintro ⟨h1, h2⟩
  have h3 := h2
  simp only [sameT, Bool.and_eq_true, decide_eq_true_eq] at h3
  obtain ⟨⟨⟨⟨rfl, _⟩, _⟩, h4⟩, h5⟩ := h3
  have e := sameF_noA _ _ h5
  rw [noA_stX] at e
  have ed : stepD x = y := by rw [<- stepD_noA, <- e]; exact stepD_stX y h1
  have hl := stX_len y h1
  rw [h4] at hl
  unfold readD
  rw [if_neg (by simp; omega), ed, if_pos ⟨h1, h2⟩]
theorem readD_readT (l : Bool) (k : Int) (s : ByteArray) (x : Fo) : readD l k s x = readT l k s x := by
 cases h : readT l k s x with
 | some y => exact (readD_eq l k s x y).2 ((readT_eq l k s x y).1 h)
 | none =>
  cases h2 : readD l k s x with
  | none => rfl
  | some y =>
   have := (readT_eq l k s x y).2 ((readD_eq l k s x y).1 h2)
   rw [h] at this
   cases this
end Go.Proofs.YtookoagcmejkpaaGreatDoor
