/- A step is read out of its tree: the program's Read. The step that a tree would be: the document's reading, plain. What the fourth law says: the walk of ProofReads. A step's own tree can be read: its t -/
import Derived.Test.YtookoagcmejkpaaGreatDoorS46
import Derived.Test.YtookoagcmejkpaaGreatDoorJ4
import Derived.Test.YtookoagcmejkpaaGreatDoorJ27
import Derived.Test.YtookoagcmejkpaaGreatDoorS17
import Derived.Test.YtookoagcmejkpaaGreatDoorS6
import Derived.Lib.ItoaLen
namespace Go.Proofs.YtookoagcmejkpaaGreatDoor
set_option maxRecDepth 100000
open Go Go.RowKit
def readT (l : Bool) (k : Int) (s : ByteArray) (x : Fo) : Option Stp :=
 if (stepP l x).2 = true ∧ maySt (stepP l x).1 = true ∧ sameT true 1 ⟨#[40]⟩ (stX (stepP l x).1) l k s x = true then some (stepP l x).1 else none
theorem lkBy_k (k : Int) (lit a b i j list : Bool) (g : Fo) : (lkBy k lit a b i j list g).1.k = k := by
 unfold lkBy
 cases list <;> rfl
theorem linkP_k (l : Bool) (x : Fo) : 0 ≤ (linkP l x).1.k ∧ (linkP l x).1.k ≤ 255 := by
 unfold linkP
 simp only
 repeat' split
 all_goals first | (rw [lkBy_k]; decide) | decide
theorem linksP_k : ∀ f : Fo, KdL (linksP f).1
 | .nil => fun y hy => by cases hy
 | .cons l k s a x r => fun y hy => by
  simp only [linksP, List.mem_cons] at hy
  rcases hy with rfl | hy
  ·exact linkP_k l x
  ·exact linksP_k r y hy
theorem stBy_k (k : Int) (lits links a b : Bool) (g : Fo) : (stBy k lits links a b g).1.k = k ∧ KdL (stBy k lits links a b g).1.links ∧ (stBy k lits links a b g).1.lits.length ≤ g.len ∧ (stBy k lits links a b g).1.links.length ≤ g.len := by
 have h1 := nx_len a g true
 have h2 := nx_len b (nx a (g, true)).2.1 (nx a (g, true)).2.2
 have nk : KdL [] := fun y hy => by cases hy
 have h3 : (nx b (nx a (g, true)).2).2.1.len ≤ g.len := Nat.le_trans h2 h1
 cases lits
 ·cases links
  ·exact ⟨rfl, nk, Nat.zero_le _, Nat.zero_le _⟩
  ·refine ⟨rfl, ?_, Nat.zero_le _, ?_⟩
   ·simp only [stBy, Bool.false_eq_true, if_false, if_true]; exact linksP_k _
   ·simp only [stBy, Bool.false_eq_true, if_false, if_true, linksP_len]; exact h3
 ·refine ⟨rfl, nk, ?_, Nat.zero_le _⟩
  simp only [stBy, if_true, restN_len]; exact h3
theorem hd_len (l : Bool) (x : Fo) : (hd l x).2.len ≤ x.len := by
 cases x with
 | nil => exact Nat.le_refl _
 | cons l0 k0 s0 a0 y z =>
  simp only [hd]
  split
  ·simp [Fo.len]
  ·simp [Fo.len]
theorem stepP_k (l : Bool) (x : Fo) : 0 ≤ (stepP l x).1.k ∧ (stepP l x).1.k ≤ 255 ∧ KdL (stepP l x).1.links ∧ (stepP l x).1.lits.length ≤ x.len ∧ (stepP l x).1.links.length ≤ x.len := by
 have h := hd_len l x
 have key : ∀ k lits links a b, 0 ≤ k ∧ k ≤ 255 → 0 ≤ (stBy k lits links a b (hd l x).2).1.k ∧ (stBy k lits links a b (hd l x).2).1.k ≤ 255 ∧ KdL (stBy k lits links a b (hd l x).2).1.links ∧ (stBy k lits links a b (hd l x).2).1.lits.length ≤ x.len ∧ (stBy k lits links a b (hd l x).2).1.links.length ≤ x.len := by
  intro k lits links a b hk
  have hs := stBy_k k lits links a b (hd l x).2
  exact ⟨by rw [hs.1]; exact hk.1, by rw [hs.1]; exact hk.2, hs.2.1, Nat.le_trans hs.2.2.1 h, Nat.le_trans hs.2.2.2 h⟩
 unfold stepP
 simp only
 repeat' split
 all_goals first | exact key _ _ _ _ _ (by decide) | exact ⟨by decide, by decide, (fun y hy => by cases hy), Nat.zero_le _, Nat.zero_le _⟩
def ReadR (w w' : World) (e : Ending) (r : Option Stp) : Prop :=
 (match r with
 | none => e = .returned (.tuple #[stV ⟨0, [], [], 0, 0⟩ none 0 none 0, .int .i64 5])
 | some y => ∃ p c q d, e = .returned (.tuple #[stV y p c q d, .int .i64 0]) ∧ OwnI 44 w' (fun b => w.heap.size ≤ b) (.slice p y.lits.length c) y.lits ∧ OwnK w' (fun b => w.heap.size ≤ b) (.slice q y.links.length d) y.links) ∧ Below w.heap.size w w'
set_option maxHeartbeats 6400000 in
theorem read16 (l : Bool) (k : Int) (s : ByteArray) (a0 : Int) (x : Fo) (q : Option Addr) (c : Nat) (F : Nat → Prop) (W : World) (hq : FoIn W F x q) (hc : x.len ≤ c) (hl : x.len ≤ 1000000000) (hx : TxOK x) (hln : LnOK x) (htab : PowTab W) :
  Calls Tryz.prog 16 #[trV l k s a0 q x.len c] W fun e w' => ReadR W w' e (readT l k s x) := by
 obtain ⟨w2, hw2⟩ : ∃ w2, w2 = (W.alloc (.cells #[.bool l, .int .u8 k, .string s, .int .i64 a0, .slice q x.len c] 35)).alloc (.cells #[.int .u8 0, .slice none 0 0, .slice none 0 0, .int .i64 0, .int .i64 0] 26) := ⟨_, rfl⟩
 have hb2 : Below W.heap.size W w2 := by rw [hw2]; exact (below1 W _).alloc (by simp) _
 have hz2 : BoxS w2 (W.heap.size + 1) 0 (.slice none 0 0) (.slice none 0 0) 0 0 := by
  have h := boxS_new (W.alloc (.cells #[.bool l, .int .u8 k, .string s, .int .i64 a0, .slice q x.len c] 35)) 0 0 0 (.slice none 0 0) (.slice none 0 0)
  rw [hw2]; simpa using h
 have ht2 : BoxT w2 W.heap.size l k s a0 (.slice q x.len c) := by
  have h := (box_new W l k s a0 (.slice q x.len c)).later (below1 _ (.cells #[.int .u8 0, .slice none 0 0, .slice none 0 0, .int .i64 0, .int .i64 0] 26))
  rw [hw2]; exact h
 have HP := Lib.hid (step49 l k s a0 x q c F w2 (hq.later hb2) hc hl hx hln)
 have HS2 := Lib.hid (And.intro hb2 (And.intro hz2 (And.intro ht2 (show W.heap.size + 2 ≤ w2.heap.size from by rw [hw2]; simp))))
 have HW2 := Lib.hid hw2
 have HQ2 := Lib.hid (And.intro (hq.later hb2) (And.intro hc hl))
 have HT2 := Lib.hid (tabIs_below htab hb2)
 have HK := Lib.hid (stepP_k l x)
 obtain ⟨y, o, hy⟩ : ∃ y o, stepP l x = (y, o) := ⟨_, _, rfl⟩
 have HR := Lib.hid (show readT l k s x = if o = true ∧ maySt y = true ∧ sameT true 1 ⟨#[40]⟩ (stX y) l k s x = true then some y else none from by unfold readT; rw [hy])
 rw [hy] at HP HK
 dsimp only at HP HK
 obtain ⟨R, hR⟩ : ∃ R, R = readT l k s x := ⟨_, rfl⟩
 rw [← hR] at HR ⊢
 clear hq hc hl hx hln htab hw2 hb2 hz2 ht2 hy hR
 unfold trV at HP ⊢
 go_enter Tryz.func16, Tryz.ntmps16
 go_wp2_with fail
 rw [← HW2.out]
 refine HP.out.mono ?_
 rintro e w3 ⟨⟨p3, c3, q3, d3, rfl, hoi, hok⟩, hb3⟩
 have HB3 := Lib.hid (HS2.out.1.trans (hb3.mono HS2.out.1.size))
 have HZ3 := Lib.hid (HS2.out.2.1.later hb3)
 have HTX3 := Lib.hid (HS2.out.2.2.1.later hb3)
 have HQ3 := Lib.hid (HQ2.out.1.later hb3)
 have HO3 := Lib.hid (And.intro hoi hok)
 have HT3 := Lib.hid (tabIs_below HT2.out hb3)
 have HSZ := Lib.hid (show W.heap.size + 2 ≤ w3.heap.size ∧ w2.heap.size ≤ w3.heap.size from ⟨Nat.le_trans HS2.out.2.2.2 hb3.size, hb3.size⟩)
 clear hoi hok hb3 HP HW2
 cases o with
 | false =>
  have hr0 : R = none := by rw [HR.out]; simp
  subst hr0
  unfold stV
  obtain ⟨z0, z1, z2, z3, z4, zf⟩ := HZ3.out.later (below1 w3 (.cells #[.int .u8 y.k, .slice p3 y.lits.length c3, .slice q3 y.links.length d3, .int .i64 y.a, .int .i64 y.b] 26))
  go_wp2_with fail
  refine bodyPost_ret (v := .tuple #[.agg #[.int .u8 0, .slice none 0 0, .slice none 0 0, .int .i64 0, .int .i64 0], .int .i64 5]) (by simp [results, Tryz.results16, go_sem, z0, z1, z2, z3, z4]) rfl ⟨rfl, ?_⟩
  have h7 := only5 (w3.alloc (.cells #[.int .u8 y.k, .slice p3 y.lits.length c3, .slice q3 y.links.length d3, .int .i64 y.a, .int .i64 y.b] 26)) (W.heap.size + 1) (.int .u8 0) (.slice none 0 0) (.slice none 0 0) (.int .i64 0) (.int .i64 0)
  have h8 := HB3.out.trans ((below1 w3 (.cells #[.int .u8 y.k, .slice p3 y.lits.length c3, .slice q3 y.links.length d3, .int .i64 y.a, .int .i64 y.b] 26)).mono HB3.out.size)
  exact h8.trans (h7.below (fun k e => by omega) h8.size)
 | true =>
  obtain ⟨w4, hw4⟩ : ∃ w4, w4 = w3.alloc (.cells #[.int .u8 y.k, .slice p3 y.lits.length c3, .slice q3 y.links.length d3, .int .i64 y.a, .int .i64 y.b] 26) := ⟨_, rfl⟩
  have hb4 : Below w3.heap.size w3 w4 := by rw [hw4]; exact below1 _ _
  have HO4 := Lib.hid (And.intro (HO3.out.1.later hb4) (HO3.out.2.later hb4))
  obtain ⟨qi, ci, hvi, _, _, _, _, hii, _⟩ := HO4.out.1.intsIn
  injection hvi with hv1 hv2 hv3
  subst hv1 hv3
  obtain ⟨qk, ck, hvk, _, _, hlk, _⟩ := HO4.out.2.lks
  injection hvk with hv4 hv5 hv6
  subst hv4 hv6
  have HTR := Lib.hid (tree10 y p3 c3 q3 d3 w4 HK.out.1 HK.out.2.1 hii hlk HK.out.2.2.1 (by have := HK.out.2.2.2.1; have := HQ2.out.2.2; omega) (by have := HK.out.2.2.2.2; have := HQ2.out.2.2; omega) (tabIs_below HT3.out hb4))
  have HB4 := Lib.hid (HB3.out.trans (hb4.mono HB3.out.size))
  have HBS4 := Lib.hid (show BoxS w4 w3.heap.size y.k (.slice p3 y.lits.length c3) (.slice q3 y.links.length d3) y.a y.b from by rw [hw4]; exact boxS_new _ _ _ _ _ _)
  have HZ4 := Lib.hid (HZ3.out.later hb4)
  have HTX4 := Lib.hid (HTX3.out.later hb4)
  have HQ4 := Lib.hid (HQ3.out.later hb4)
  have HW4 := Lib.hid hw4
  have HS34 := Lib.hid hb4.size
  clear hw4 hb4 hii hlk hv2 hv5
  unfold stV at HTR ⊢
  go_wp2_with fail
  rw [← HW4.out]
  refine HTR.out.mono ?_
  rintro e w5 htr
  clear HTR HW4
  rcases htr with ⟨hm, rfl, hb5⟩ | ⟨hm, qt, ct, rfl, hqt, hct, hb5⟩
  ·have hr0 : R = none := by rw [HR.out]; simp [hm]
   subst hr0
   obtain ⟨z0, z1, z2, z3, z4, zf⟩ := (HZ4.out.later hb5).later (below1 w5 (.cells #[.bool false, .int .u8 0, .string ⟨#[]⟩, .int .i64 0, .slice none 0 0] 35))
   have HB5 := Lib.hid (HB4.out.trans (hb5.mono HB4.out.size))
   clear hb5
   unfold trV
   go_wp2_with fail
   refine bodyPost_ret (v := .tuple #[.agg #[.int .u8 0, .slice none 0 0, .slice none 0 0, .int .i64 0, .int .i64 0], .int .i64 5]) (by simp [results, Tryz.results16, go_sem, z0, z1, z2, z3, z4]) rfl ⟨rfl, ?_⟩
   have h7 := only5 (w5.alloc (.cells #[.bool false, .int .u8 0, .string ⟨#[]⟩, .int .i64 0, .slice none 0 0] 35)) (W.heap.size + 1) (.int .u8 0) (.slice none 0 0) (.slice none 0 0) (.int .i64 0) (.int .i64 0)
   have h8 := HB5.out.trans ((below1 w5 (.cells #[.bool false, .int .u8 0, .string ⟨#[]⟩, .int .i64 0, .slice none 0 0] 35)).mono HB5.out.size)
   exact h8.trans (h7.below (fun k e => by omega) h8.size)
  ·obtain ⟨w6, hw6⟩ : ∃ w6, w6 = w5.alloc (.cells #[.bool true, .int .u8 1, .string ⟨#[40]⟩, .int .i64 0, .slice qt (stX y).len ct] 35) := ⟨_, rfl⟩
   have hb6 : Below w5.heap.size w5 w6 := by rw [hw6]; exact below1 _ _
   have hb46 := hb5.trans (hb6.mono hb5.size)
   have hsl : (stX y).len ≤ 281474976710656 := by
    obtain ⟨_, _, m3, m4, _⟩ := maySt_facts (k := y.k) (a := y.a) (b := y.b) (lits := y.lits) (links := y.links) (by simpa using hm)
    unfold stX stK
    simp only [Fo.len]
    split
    ·rw [lksF_len]; omega
    ·split
     ·rw [nusF_len]; simp
     ·rw [nusF_len]; omega
   have HSM := Lib.hid (same33_any (stX y).size (stX y) x (Nat.le_refl _) true l 1 k ⟨#[40]⟩ s 0 a0 qt q ct c w6 _ _ (hqt.later hb6) (HQ4.out.later hb46) hct HQ2.out.2.1 hsl (by have := HQ2.out.2.2; omega))
   obtain ⟨bs, hbs⟩ : ∃ b, b = sameT true 1 ⟨#[40]⟩ (stX y) l k s x := ⟨_, rfl⟩
   have HRS := Lib.hid (show R = if bs = true then some y else none from by rw [HR.out, hbs]; simp [hm])
   rw [← hbs] at HSM
   have HB6 := Lib.hid (HB4.out.trans (hb46.mono HB4.out.size))
   have HZ6 := Lib.hid (HZ4.out.later hb46)
   obtain ⟨x0, x1, x2, x3, x4, xf⟩ := HTX4.out.later hb46
   have HBS6 := Lib.hid (HBS4.out.later hb46)
   have HO6 := Lib.hid (And.intro (HO4.out.1.later hb46) (HO4.out.2.later hb46))
   have HS46 := Lib.hid hb46.size
   have HW6 := Lib.hid hw6
   have hy6 : BoxT w6 w5.heap.size true 1 ⟨#[40]⟩ 0 (.slice qt (stX y).len ct) := by rw [hw6]; exact box_new _ _ _ _ _ _
   rw [hw6] at x0 x1 x2 x3 x4 xf
   clear hb5 hb6 hb46 hw6 hqt hct hsl hbs HR hy6
   unfold trV at HSM ⊢
   go_wp2_with fail
   rw [← HW6.out]
   refine HSM.out.mono ?_
   rintro e w7 ⟨rfl, hb7⟩
   have HB7 := Lib.hid (HB6.out.trans (hb7.mono HB6.out.size))
   have HO7 := Lib.hid (And.intro (HO6.out.1.later hb7) (HO6.out.2.later hb7))
   obtain ⟨z0, z1, z2, z3, z4, zf⟩ := HZ6.out.later hb7
   obtain ⟨y0, y1, y2, y3, y4, yf⟩ := HBS6.out.later hb7
   clear hb7 HSM HW6 x0 x1 x2 x3 x4 xf
   cases bs with
   | false =>
    have hr0 : R = none := by rw [HRS.out]; simp
    subst hr0
    go_wp2_with fail
    refine bodyPost_ret (v := .tuple #[.agg #[.int .u8 0, .slice none 0 0, .slice none 0 0, .int .i64 0, .int .i64 0], .int .i64 5]) (by simp [results, Tryz.results16, go_sem, z0, z1, z2, z3, z4]) rfl ⟨rfl, ?_⟩
    have h7 := only5 w7 (W.heap.size + 1) (.int .u8 0) (.slice none 0 0) (.slice none 0 0) (.int .i64 0) (.int .i64 0)
    exact HB7.out.trans (h7.below (fun k e => by omega) HB7.out.size)
   | true =>
    have hr0 : R = some y := by rw [HRS.out]; simp
    subst hr0
    go_wp2_with fail
    have h7 := only5 w7 (W.heap.size + 1) (.int .u8 y.k) (.slice p3 y.lits.length c3) (.slice q3 y.links.length d3) (.int .i64 y.a) (.int .i64 y.b)
    have hsz := HSZ.out
    have hs2 := HS2.out.2.2.2
    refine bodyPost_ret (v := .tuple #[.agg #[.int .u8 y.k, .slice p3 y.lits.length c3, .slice q3 y.links.length d3, .int .i64 y.a, .int .i64 y.b], .int .i64 0]) (by simp [results, Tryz.results16, go_sem, z0, z1, z2, z3, z4]) rfl ⟨⟨p3, c3, q3, d3, rfl, ?_, ?_⟩, HB7.out.trans (h7.below (fun k e => by omega) HB7.out.size)⟩
    ·exact (HO7.out.1.only h7 (fun b hb e => by omega)).mono (fun b hb _ => by omega)
    ·exact (HO7.out.2.only h7 (fun b hb e => by omega)).mono (fun b hb _ => by omega)
theorem stX_len (x : Stp) (h : maySt x = true) : (stX x).len ≤ 20001 ∧ (stX x).len ≠ 0 := by
 have hs := st_shape h
 obtain ⟨k, lits, links, a, b⟩ := x
 simp only at hs
 rcases hs with ⟨hk, rfl, rfl, rfl, h2, h1⟩ | ⟨rfl, rfl, rfl, rfl, h2, h1⟩ | ⟨rfl, rfl, rfl, h1, h2⟩
 ·rcases hk with rfl | rfl <;> simp [stX, stK, Fo.len, nusF_len] <;> omega
 ·simp [stX, stK, Fo.len, lksF_len]; omega
 ·simp [stX, stK, Fo.len, nusF_len]
theorem readT_eq (l : Bool) (k : Int) (s : ByteArray) (x : Fo) (y : Stp) : readT l k s x = some y ↔ maySt y = true ∧ sameT true 1 ⟨#[40]⟩ (stX y) l k s x = true := by
 constructor
 ·intro h
  unfold readT at h
  split at h
  ·rename_i hh
   injection h with h
   subst h
   exact ⟨hh.2.1, hh.2.2⟩
  ·cases h
 ·rintro ⟨h1, h2⟩
  have e := stepP_same y h1 l k s x h2
  simp [readT, e, h1, h2]
end Go.Proofs.YtookoagcmejkpaaGreatDoor
namespace Go.Proofs.YtookoagcmejkpaaGreatDoor
open Go Go.RowKit Go.Maps
def Known (W : World) : Prop := ∀ w, Below W.heap.size W w → Calls Tryz.prog 8 #[] w fun e w' => e = .returned (.bool true) ∧ Below w.heap.size w w'
theorem itoB_size (n : Int) (h0 : -4611686018427387903 ≤ n) (h1 : n ≤ 4611686018427387903) : (itoB n).size ≤ 140737488351232 := by
 have h := Lib.itoa_length_le n (by omega) (by omega)
 have e : (itoB n).size = (Lib.itoa n).length := by simp [itoB, ByteArray.size]
 omega
theorem nu_tx (n : Int) (h : -4611686018427387903 ≤ n ∧ n ≤ 4611686018427387903) (r : Fo) (hr : TxOK r) : TxOK (.cons (nuL n) (nuK n) (nuS n) 0 (nuX n) r) := by
 by_cases hn : n < 0
 ·have e := itoB_size (-n) (by omega) (by omega)
  have e2 : (⟨#[40]⟩ : ByteArray).size ≤ 140737488351232 := by decide
  have e3 : (⟨#[45]⟩ : ByteArray).size ≤ 140737488351232 := by decide
  simp only [nuS, nuX, hn, if_true, TxOK]
  exact ⟨e2, ⟨e3, trivial, e, trivial, trivial⟩, hr⟩
 ·have e := itoB_size n (by omega) h.2
  simp only [nuS, nuX, hn, if_false, TxOK]
  exact ⟨e, trivial, hr⟩
theorem nusF_tx : ∀ l : List Int, (∀ y ∈ l, -4611686018427387903 ≤ y ∧ y ≤ 4611686018427387903) → TxOK (nusF l)
 | [], _ => trivial
 | n :: r, h => nu_tx n (h n (by simp)) (nusF r) (nusF_tx r (fun y hy => h y (by simp [hy])))
theorem nu_ln (n : Int) (r : Fo) (hr : LnOK r) : LnOK (.cons (nuL n) (nuK n) (nuS n) 0 (nuX n) r) := by
 by_cases hn : n < 0
 ·simp only [nuX, hn, if_true, LnOK, Fo.len]
  exact ⟨by decide, ⟨Nat.zero_le _, trivial, Nat.zero_le _, trivial, trivial⟩, hr⟩
 ·simp only [nuX, hn, if_false, LnOK, Fo.len]
  exact ⟨Nat.zero_le _, trivial, hr⟩
theorem nusF_ln : ∀ l : List Int, LnOK (nusF l)
 | [] => trivial
 | n :: r => nu_ln n (nusF r) (nusF_ln r)
theorem lkH_size (k : Int) : (lkH k).size ≤ 140737488351232 := by
 unfold lkH
 repeat' split
 all_goals decide
theorem stH_size (k : Int) : (stH k).size ≤ 140737488351232 := by
 unfold stH
 repeat' split
 all_goals decide
theorem lkN_rng {x : Lk} (h : mayLk x = true) : (∀ y ∈ lkN x, -4611686018427387903 ≤ y ∧ y ≤ 4611686018427387903) ∧ (lkN x).length ≤ 22 := by
 rcases lk_shape h with ⟨e, h1⟩ | ⟨e, h1⟩ | ⟨e, h1⟩ | ⟨e, h1, h2⟩ | ⟨e, h1, h2, h3, h4⟩ | ⟨e, h1, h2⟩ | ⟨e, h1⟩ <;> obtain ⟨k, lit, a, b, i, j, l⟩ := x <;> cases e
 ·exact ⟨by simpa [lkN] using lit_rng h1, by simp [lkN]⟩
 ·exact ⟨by simpa [lkN] using cnt_rng h1, by simp [lkN]⟩
 ·exact ⟨by simpa [lkN] using cnt_rng h1, by simp [lkN]⟩
 ·exact ⟨by simpa [lkN] using ⟨cnt_rng h1, cnt_rng h2⟩, by simp [lkN]⟩
 ·refine ⟨?_, by simp [lkN]; simpa using h3⟩
  intro y hy
  simp [lkN] at hy
  rcases hy with rfl | rfl | hy
  ·exact cnt_rng h1
  ·exact cnt_rng h2
  ·exact cnt_rng (List.all_eq_true.1 h4 y hy)
 ·exact ⟨by simpa [lkN] using ⟨lit_rng h1, cnt_rng h2⟩, by simp [lkN]⟩
 ·exact ⟨by simpa [lkN] using cnt_rng h1, by simp [lkN]⟩
theorem lksF_ok : ∀ l : List Lk, (∀ y ∈ l, mayLk y = true) → TxOK (lksF l) ∧ LnOK (lksF l)
 | [], _ => ⟨trivial, trivial⟩
 | x :: r, h => by
  have h1 := lkN_rng (h x (by simp))
  have h2 := lksF_ok r (fun y hy => h y (by simp [hy]))
  have e2 : (⟨#[40]⟩ : ByteArray).size ≤ 140737488351232 := by decide
  have e3 : (lkX x).len ≤ 1000000000 := by
   simp only [lkX, Fo.len, nusF_len]
   omega
  exact ⟨⟨e2, ⟨lkH_size x.k, trivial, nusF_tx _ h1.1⟩, h2.1⟩, ⟨e3, ⟨Nat.zero_le _, trivial, nusF_ln _⟩, h2.2⟩⟩
theorem stX_ok (x : Stp) (h : maySt x = true) : TxOK (stX x) ∧ LnOK (stX x) ∧ (stX x).len ≤ 1000000000 := by
 have hl := stX_len x h
 have hs := st_shape h
 obtain ⟨k, lits, links, a, b⟩ := x
 simp only at hs
 rcases hs with ⟨hk, rfl, rfl, rfl, h2, h1⟩ | ⟨rfl, rfl, rfl, rfl, h2, h1⟩ | ⟨rfl, rfl, rfl, h1, h2⟩
 ·have e := nusF_tx lits (fun y hy => lit_rng (List.all_eq_true.1 h1 y hy))
  have e2 : stK ⟨k, lits, [], 0, 0⟩ = nusF lits := by rcases hk with rfl | rfl <;> simp [stK]
  refine ⟨⟨stH_size _, trivial, ?_⟩, ⟨Nat.zero_le _, trivial, ?_⟩, by omega⟩
  ·rw [e2]; exact e
  ·rw [e2]; exact nusF_ln lits
 ·have e := lksF_ok links (fun y hy => List.all_eq_true.1 h1 y hy)
  exact ⟨⟨stH_size _, trivial, by simpa [stK] using e.1⟩, ⟨Nat.zero_le _, trivial, by simpa [stK] using e.2⟩, by omega⟩
 ·have e := nusF_tx [a, b] (by intro y hy; simp at hy; rcases hy with rfl | rfl <;> first | exact cnt_rng h1 | exact cnt_rng h2)
  exact ⟨⟨stH_size _, trivial, by simpa [stK] using e⟩, ⟨Nat.zero_le _, trivial, by simpa [stK] using nusF_ln [a, b]⟩, by omega⟩
theorem readT_stX (x : Stp) (h : maySt x = true) : readT true 1 ⟨#[40]⟩ (stX x) = some x := (readT_eq _ _ _ _ _).2 ⟨h, sameT_refl _ _ _ _⟩
end Go.Proofs.YtookoagcmejkpaaGreatDoor
