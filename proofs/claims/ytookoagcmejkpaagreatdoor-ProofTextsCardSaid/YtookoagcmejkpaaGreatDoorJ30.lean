/- A step is read out of its tree: the program's Read. The step that a tree would be: the document's reading, plain. Rows of steps of the call's own. Steps are read out of a tree: ReadAll, the program's  -/
import Derived.Test.YtookoagcmejkpaaGreatDoorS46
import Derived.Test.YtookoagcmejkpaaGreatDoorJ0
import Derived.Test.YtookoagcmejkpaaGreatDoorJ24
import Derived.Test.YtookoagcmejkpaaGreatDoorS17
import Derived.Test.YtookoagcmejkpaaGreatDoorS6
import Derived.Lib.ItoaLen
import Derived.Test.YtookoagcmejkpaaGreatDoorJ12
set_option maxHeartbeats 6400000
namespace Go.Proofs.YtookoagcmejkpaaGreatDoor
set_option maxRecDepth 100000
open Go Go.RowKit
def qfh (l : Bool) (k : Int) (s : ByteArray) (x : Fo) : Option Stp :=
 if (qbo l x).2 = true /\ qau (qbo l x).1 = true /\ qdu true 1 ⟨#[40]⟩ (stX (qbo l x).1) l k s x = true then some (qbo l x).1 else none
theorem qs9 (k : Int) (lit a b i j list : Bool) (g : Fo) : (lkBy k lit a b i j list g).1.k = k := by
 unfold lkBy;cases list <;> rfl
theorem qro (l : Bool) (x : Fo) : 0 <= (qbr l x).1.k /\ (qbr l x).1.k <= 255 := by
 unfold qbr;simp only
 repeat' split
 all_goals first | (rw [qs9]; decide) | decide
theorem qku : ∀ f : Fo, KdL (qa6 f).1
 | .nil => fun y hy => by cases hy
 | .cons l k s a x r => fun y hy => by
  simp only [qa6, List.mem_cons] at hy;rcases hy with rfl | hy
  ·exact qro l x
  ·exact qku r y hy
theorem qsj (k : Int) (lits links a b : Bool) (g : Fo) : (stBy k lits links a b g).1.k = k /\ KdL (stBy k lits links a b g).1.links /\ (stBy k lits links a b g).1.lits.length <= g.len /\ (stBy k lits links a b g).1.links.length <= g.len := by
 have h1 := qes a g true;have h2 := qes b (nx a (g, true)).2.1 (nx a (g, true)).2.2;have nk : KdL [] := fun y hy => by cases hy
 have h3 : (nx b (nx a (g, true)).2).2.1.len <= g.len := Nat.le_trans h2 h1;cases lits
 ·cases links
  ·exact ⟨rfl, nk, Nat.zero_le _, Nat.zero_le _⟩
  ·refine ⟨rfl, ?_, Nat.zero_le _, ?_⟩
   ·simp only [stBy, Bool.false_eq_true, if_false, if_true]; exact qku _
   ·simp only [stBy, Bool.false_eq_true, if_false, if_true, qc0]; exact h3
 ·refine ⟨rfl, nk, ?_, Nat.zero_le _⟩
  simp only [stBy, if_true, qbi]; exact h3
theorem qtk (l : Bool) (x : Fo) : (hd l x).2.len <= x.len := by
 cases x with
 | nil => exact Nat.le_refl _
 | cons l0 k0 s0 a0 y z =>
  simp only [hd]
  split
  ·simp [Fo.len]
  ·simp [Fo.len]
theorem qq4 (l : Bool) (x : Fo) : 0 <= (qbo l x).1.k /\ (qbo l x).1.k <= 255 /\ KdL (qbo l x).1.links /\ (qbo l x).1.lits.length <= x.len /\ (qbo l x).1.links.length <= x.len := by
 have h := qtk l x
 have key : ∀ k lits links a b, 0 <= k /\ k <= 255 -> 0 <= (stBy k lits links a b (hd l x).2).1.k /\ (stBy k lits links a b (hd l x).2).1.k <= 255 /\ KdL (stBy k lits links a b (hd l x).2).1.links /\ (stBy k lits links a b (hd l x).2).1.lits.length <= x.len /\ (stBy k lits links a b (hd l x).2).1.links.length <= x.len := by
  intro k lits links a b hk;have hs := qsj k lits links a b (hd l x).2;exact ⟨by rw [hs.1]; exact hk.1, by rw [hs.1]; exact hk.2, hs.2.1, Nat.le_trans hs.2.2.1 h, Nat.le_trans hs.2.2.2 h⟩
 unfold qbo;simp only
 repeat' split
 all_goals first | exact key _ _ _ _ _ (by decide) | exact ⟨by decide, by decide, (fun y hy => by cases hy), Nat.zero_le _, Nat.zero_le _⟩
def qt8 (w w' : World) (e : Ending) (r : Option Stp) : Prop :=
 (match r with
 | none => e = .returned (.tuple #[stV ⟨0, [], [], 0, 0⟩ none 0 none 0, .int .i64 5])
 | some y => ∃ p c q d, e = .returned (.tuple #[stV y p c q d, .int .i64 0]) /\ OwnI 44 w' (fun b => w.heap.size <= b) (.slice p y.lits.length c) y.lits /\ OwnK w' (fun b => w.heap.size <= b) (.slice q y.links.length d) y.links) /\ Below w.heap.size w w'
theorem qso (l : Bool) (k : Int) (s : ByteArray) (a0 : Int) (x : Fo) (q : Option Addr) (c : Nat) (F : Nat -> Prop) (W : World) (hq : FoIn W F x q) (hc : x.len <= c) (hl : x.len <= 1000000000) (hx : TxOK x) (hln : LnOK x) (htab : qb7 W) :
  Calls Tryz.prog 16 #[trV l k s a0 q x.len c] W fun e w' => qt8 W w' e (qfh l k s x) := by
 obtain ⟨w2, hw2⟩ : ∃ w2, w2 = (W.alloc (.cells #[.bool l, .int .u8 k, .string s, .int .i64 a0, .slice q x.len c] 35)).alloc (.cells #[.int .u8 0, .slice none 0 0, .slice none 0 0, .int .i64 0, .int .i64 0] 26) := ⟨_, rfl⟩;have hb2 : Below W.heap.size W w2 := by rw [hw2]; exact (qab W _).alloc (by simp) _
 have hz2 : BoxS w2 (W.heap.size + 1) 0 (.slice none 0 0) (.slice none 0 0) 0 0 := by
  have h := qd9 (W.alloc (.cells #[.bool l, .int .u8 k, .string s, .int .i64 a0, .slice q x.len c] 35)) 0 0 0 (.slice none 0 0) (.slice none 0 0);rw [hw2]; simpa using h
 have ht2 : BoxT w2 W.heap.size l k s a0 (.slice q x.len c) := by
  have h := (qam W l k s a0 (.slice q x.len c)).later (qab _ (.cells #[.int .u8 0, .slice none 0 0, .slice none 0 0, .int .i64 0, .int .i64 0] 26));rw [hw2]; exact h
 have HP := Zh (qsh l k s a0 x q c F w2 (hq.later hb2) hc hl hx hln);have HS2 := Zh (aI hb2 (aI hz2 (aI ht2 (show W.heap.size + 2 <= w2.heap.size from by rw [hw2]; simp))));have HW2 := Zh hw2;have HQ2 := Zh (aI (hq.later hb2) (aI hc hl));have HT2 := Zh (qak htab hb2);have HK := Zh (qq4 l x);obtain ⟨y, o, hy⟩ : ∃ y o, qbo l x = (y, o) := ⟨_, _, rfl⟩;have HR := Zh (show qfh l k s x = if o = true /\ qau y = true /\ qdu true 1 ⟨#[40]⟩ (stX y) l k s x = true then some y else none from by unfold qfh; rw [hy]);rw [hy] at HP HK
 dsimp only at HP HK
 obtain ⟨R, hR⟩ : ∃ R, R = qfh l k s x := ⟨_, rfl⟩;rw [<- hR] at HR ⊢;clear hq hc hl hx hln htab hw2 hb2 hz2 ht2 hy hR;unfold trV at HP ⊢;go_enter Tryz.func16, Tryz.ntmps16
 go_wp2_with fail
 rw [<- HW2.o];refine HP.o.mono ?_;rintro e w3 ⟨⟨p3, c3, q3, d3, rfl, hoi, hok⟩, hb3⟩;have HB3 := Zh (HS2.o.1.trans (hb3.mono HS2.o.1.size));have HZ3 := Zh (HS2.o.2.1.later hb3);have HTX3 := Zh (HS2.o.2.2.1.later hb3);have HQ3 := Zh (HQ2.o.1.later hb3);have HO3 := Zh (aI hoi hok);have HT3 := Zh (qak HT2.o hb3);have HSZ := Zh (show W.heap.size + 2 <= w3.heap.size /\ w2.heap.size <= w3.heap.size from ⟨Nat.le_trans HS2.o.2.2.2 hb3.size, hb3.size⟩);clear hoi hok hb3 HP HW2
 cases o with
 | false =>
  have hr0 : R = none := by rw [HR.o]; simp
  subst hr0;unfold stV;obtain ⟨z0, z1, z2, z3, z4, zf⟩ := HZ3.o.later (qab w3 (.cells #[.int .u8 y.k, .slice p3 y.lits.length c3, .slice q3 y.links.length d3, .int .i64 y.a, .int .i64 y.b] 26))
  go_wp2_with fail
  refine bodyPost_ret (v := .tuple #[.agg #[.int .u8 0, .slice none 0 0, .slice none 0 0, .int .i64 0, .int .i64 0], .int .i64 5]) (by simp [results, Tryz.results16, go_sem, z0, z1, z2, z3, z4]) rfl ⟨rfl, ?_⟩;have h7 := qdp (w3.alloc (.cells #[.int .u8 y.k, .slice p3 y.lits.length c3, .slice q3 y.links.length d3, .int .i64 y.a, .int .i64 y.b] 26)) (W.heap.size + 1) (.int .u8 0) (.slice none 0 0) (.slice none 0 0) (.int .i64 0) (.int .i64 0);have h8 := HB3.o.trans ((qab w3 (.cells #[.int .u8 y.k, .slice p3 y.lits.length c3, .slice q3 y.links.length d3, .int .i64 y.a, .int .i64 y.b] 26)).mono HB3.o.size)
  exact h8.trans (h7.below (fun k e => by omega) h8.size)
 | true =>
  obtain ⟨w4, hw4⟩ : ∃ w4, w4 = w3.alloc (.cells #[.int .u8 y.k, .slice p3 y.lits.length c3, .slice q3 y.links.length d3, .int .i64 y.a, .int .i64 y.b] 26) := ⟨_, rfl⟩;have hb4 : Below w3.heap.size w3 w4 := by rw [hw4]; exact qab _ _
  have HO4 := Zh (aI (HO3.o.1.later hb4) (HO3.o.2.later hb4));obtain ⟨qi, ci, hvi, _, _, _, _, hii, _⟩ := HO4.o.1.intsIn
  injection hvi with hv1 hv2 hv3
  subst hv1 hv3;obtain ⟨qk, ck, hvk, _, _, hlk, _⟩ := HO4.o.2.lks
  injection hvk with hv4 hv5 hv6
  subst hv4 hv6;have HTR := Zh (qqj y p3 c3 q3 d3 w4 HK.o.1 HK.o.2.1 hii hlk HK.o.2.2.1 (by have := HK.o.2.2.2.1; have := HQ2.o.2.2; omega) (by have := HK.o.2.2.2.2; have := HQ2.o.2.2; omega) (qak HT3.o hb4));have HB4 := Zh (HB3.o.trans (hb4.mono HB3.o.size));have HBS4 := Zh (show BoxS w4 w3.heap.size y.k (.slice p3 y.lits.length c3) (.slice q3 y.links.length d3) y.a y.b from by rw [hw4]; exact qd9 _ _ _ _ _ _);have HZ4 := Zh (HZ3.o.later hb4);have HTX4 := Zh (HTX3.o.later hb4);have HQ4 := Zh (HQ3.o.later hb4);have HW4 := Zh hw4;have HS34 := Zh hb4.size;clear hw4 hb4 hii hlk hv2 hv5;unfold stV at HTR ⊢
  go_wp2_with fail
  rw [<- HW4.o];refine HTR.o.mono ?_;rintro e w5 htr;clear HTR HW4;rcases htr with ⟨hm, rfl, hb5⟩ | ⟨hm, qt, ct, rfl, hqt, hct, hb5⟩
  ·have hr0 : R = none := by rw [HR.o]; simp [hm]
   subst hr0;obtain ⟨z0, z1, z2, z3, z4, zf⟩ := (HZ4.o.later hb5).later (qab w5 (.cells #[.bool false, .int .u8 0, .string ⟨#[]⟩, .int .i64 0, .slice none 0 0] 35));have HB5 := Zh (HB4.o.trans (hb5.mono HB4.o.size));clear hb5;unfold trV
   go_wp2_with fail
   refine bodyPost_ret (v := .tuple #[.agg #[.int .u8 0, .slice none 0 0, .slice none 0 0, .int .i64 0, .int .i64 0], .int .i64 5]) (by simp [results, Tryz.results16, go_sem, z0, z1, z2, z3, z4]) rfl ⟨rfl, ?_⟩;have h7 := qdp (w5.alloc (.cells #[.bool false, .int .u8 0, .string ⟨#[]⟩, .int .i64 0, .slice none 0 0] 35)) (W.heap.size + 1) (.int .u8 0) (.slice none 0 0) (.slice none 0 0) (.int .i64 0) (.int .i64 0);have h8 := HB5.o.trans ((qab w5 (.cells #[.bool false, .int .u8 0, .string ⟨#[]⟩, .int .i64 0, .slice none 0 0] 35)).mono HB5.o.size);exact h8.trans (h7.below (fun k e => by omega) h8.size)
  ·obtain ⟨w6, hw6⟩ : ∃ w6, w6 = w5.alloc (.cells #[.bool true, .int .u8 1, .string ⟨#[40]⟩, .int .i64 0, .slice qt (stX y).len ct] 35) := ⟨_, rfl⟩
   have hb6 : Below w5.heap.size w5 w6 := by rw [hw6]; exact qab _ _
   have hb46 := hb5.trans (hb6.mono hb5.size)
   have hsl : (stX y).len <= 281474976710656 := by
    obtain ⟨_, _, m3, m4, _⟩ := qbn (k := y.k) (a := y.a) (b := y.b) (lits := y.lits) (links := y.links) (by simpa using hm);unfold stX stK;simp only [Fo.len]
    split
    ·rw [qb0]; omega
    ·split
     ·rw [qag]; simp
     ·rw [qag]; omega
   have HSM := Zh (qlk (stX y).size (stX y) x (Nat.le_refl _) true l 1 k ⟨#[40]⟩ s 0 a0 qt q ct c w6 _ _ (hqt.later hb6) (HQ4.o.later hb46) hct HQ2.o.2.1 hsl (by have := HQ2.o.2.2; omega));obtain ⟨bs, hbs⟩ : ∃ b, b = qdu true 1 ⟨#[40]⟩ (stX y) l k s x := ⟨_, rfl⟩;have HRS := Zh (show R = if bs = true then some y else none from by rw [HR.o, hbs]; simp [hm]);rw [<- hbs] at HSM;have HB6 := Zh (HB4.o.trans (hb46.mono HB4.o.size));have HZ6 := Zh (HZ4.o.later hb46);obtain ⟨x0, x1, x2, x3, x4, xf⟩ := HTX4.o.later hb46;have HBS6 := Zh (HBS4.o.later hb46);have HO6 := Zh (aI (HO4.o.1.later hb46) (HO4.o.2.later hb46));have HS46 := Zh hb46.size;have HW6 := Zh hw6;have hy6 : BoxT w6 w5.heap.size true 1 ⟨#[40]⟩ 0 (.slice qt (stX y).len ct) := by rw [hw6]; exact qam _ _ _ _ _ _
   rw [hw6] at x0 x1 x2 x3 x4 xf;clear hb5 hb6 hb46 hw6 hqt hct hsl hbs HR hy6;unfold trV at HSM ⊢
   go_wp2_with fail
   rw [<- HW6.o];refine HSM.o.mono ?_;rintro e w7 ⟨rfl, hb7⟩;have HB7 := Zh (HB6.o.trans (hb7.mono HB6.o.size));have HO7 := Zh (aI (HO6.o.1.later hb7) (HO6.o.2.later hb7));obtain ⟨z0, z1, z2, z3, z4, zf⟩ := HZ6.o.later hb7;obtain ⟨y0, y1, y2, y3, y4, yf⟩ := HBS6.o.later hb7;clear hb7 HSM HW6 x0 x1 x2 x3 x4 xf
   cases bs with
   | false =>
    have hr0 : R = none := by rw [HRS.o]; simp
    subst hr0
    go_wp2_with fail
    refine bodyPost_ret (v := .tuple #[.agg #[.int .u8 0, .slice none 0 0, .slice none 0 0, .int .i64 0, .int .i64 0], .int .i64 5]) (by simp [results, Tryz.results16, go_sem, z0, z1, z2, z3, z4]) rfl ⟨rfl, ?_⟩;have h7 := qdp w7 (W.heap.size + 1) (.int .u8 0) (.slice none 0 0) (.slice none 0 0) (.int .i64 0) (.int .i64 0)
    exact HB7.o.trans (h7.below (fun k e => by omega) HB7.o.size)
   | true =>
    have hr0 : R = some y := by rw [HRS.o]; simp
    subst hr0
    go_wp2_with fail
    have h7 := qdp w7 (W.heap.size + 1) (.int .u8 y.k) (.slice p3 y.lits.length c3) (.slice q3 y.links.length d3) (.int .i64 y.a) (.int .i64 y.b);have hsz := HSZ.o;have hs2 := HS2.o.2.2.2;refine bodyPost_ret (v := .tuple #[.agg #[.int .u8 y.k, .slice p3 y.lits.length c3, .slice q3 y.links.length d3, .int .i64 y.a, .int .i64 y.b], .int .i64 0]) (by simp [results, Tryz.results16, go_sem, z0, z1, z2, z3, z4]) rfl ⟨⟨p3, c3, q3, d3, rfl, ?_, ?_⟩, HB7.o.trans (h7.below (fun k e => by omega) HB7.o.size)⟩
    ·exact (HO7.o.1.only h7 (fun b hb e => by omega)).mono (fun b hb _ => by omega)
    ·exact (HO7.o.2.only h7 (fun b hb e => by omega)).mono (fun b hb _ => by omega)
theorem qq6 (x : Stp) (h : qau x = true) : (stX x).len <= 20001 /\ (stX x).len ≠ 0 := by
 have hs := qen h;obtain ⟨k, lits, links, a, b⟩ := x;simp only at hs;rcases hs with ⟨hk, rfl, rfl, rfl, h2, h1⟩ | ⟨rfl, rfl, rfl, rfl, h2, h1⟩ | ⟨rfl, rfl, rfl, h1, h2⟩
 ·rcases hk with rfl | rfl <;> simp [stX, stK, Fo.len, qag] <;> omega
 ·simp [stX, stK, Fo.len, qb0]; omega
 ·simp [stX, stK, Fo.len, qag]
theorem qpb (l : Bool) (k : Int) (s : ByteArray) (x : Fo) (y : Stp) : qfh l k s x = some y ↔ qau y = true /\ qdu true 1 ⟨#[40]⟩ (stX y) l k s x = true := by
 constructor
 ·intro h
  unfold qfh at h
  split at h
  ·rename_i hh
   injection h with h
   subst h;exact ⟨hh.2.1, hh.2.2⟩
  ·cases h
 ·rintro ⟨h1, h2⟩
  have e := qlg y h1 l k s x h2;simp [qfh, e, h1, h2]
def stC (y : Stp) (p : Option Addr) (c : Nat) (q : Option Addr) (d : Nat) : List Value := [.int .u8 y.k, .slice p y.lits.length c, .slice q y.links.length d, .int .i64 y.a, .int .i64 y.b]
def RowY (W : World) (F : Nat -> Prop) : List Stp -> List Value -> Prop
 | [], xs => xs = []
 | y :: r, xs => ∃ p c q d ys, xs = stC y p c q d ++ ys /\ OwnI 44 W F (.slice p y.lits.length c) y.lits /\ OwnK W F (.slice q y.links.length d) y.links /\ RowY W F r ys
theorem RowY.only {W W' : World} {F T : Nat -> Prop} (ho : Only T W W') (hn : ∀ b, F b -> ¬ T b) : ∀ (l : List Stp) (xs : List Value), RowY W F l xs -> RowY W' F l xs
 | [], _, h => h
 | y :: r, xs, h => by
  obtain ⟨p, c, q, d, ys, e, h1, h2, h3⟩ := h;exact ⟨p, c, q, d, ys, e, h1.only ho hn, h2.only ho hn, RowY.only ho hn r ys h3⟩
theorem RowY.mono {W : World} {F F' : Nat -> Prop} (hF : ∀ b, F b -> b < W.heap.size -> F' b) : ∀ (l : List Stp) (xs : List Value), RowY W F l xs -> RowY W F' l xs
 | [], _, h => h
 | y :: r, xs, h => by
  obtain ⟨p, c, q, d, ys, e, h1, h2, h3⟩ := h;exact ⟨p, c, q, d, ys, e, h1.mono hF, h2.mono hF, RowY.mono hF r ys h3⟩
theorem RowY.snoc {W : World} {F : Nat -> Prop} {y : Stp} {p : Option Addr} {c : Nat} {q : Option Addr} {d : Nat} (h1 : OwnI 44 W F (.slice p y.lits.length c) y.lits) (h2 : OwnK W F (.slice q y.links.length d) y.links) : ∀ (l : List Stp) (xs : List Value), RowY W F l xs -> RowY W F (l ++ [y]) (xs ++ stC y p c q d)
 | [], xs, h => by
  obtain rfl : xs = [] := h
  exact ⟨p, c, q, d, [], by simp, h1, h2, rfl⟩
 | z :: r, xs, h => by
  obtain ⟨p0, c0, q0, d0, ys, rfl, g1, g2, g3⟩ := h;exact ⟨p0, c0, q0, d0, ys ++ stC y p c q d, by simp, g1, g2, RowY.snoc h1 h2 r ys g3⟩
theorem RowY.at {W : World} {F : Nat -> Prop} : ∀ (l : List Stp) (xs : List Value), RowY W F l xs -> ∀ i (hi : i < l.length), ∃ p c q d, (∀ j u, (stC l[i] p c q d)[j]? = some u -> xs[i * 5 + j]? = some u) /\ OwnI 44 W F (.slice p l[i].lits.length c) l[i].lits /\ OwnK W F (.slice q l[i].links.length d) l[i].links
 | [], _, _, i, hi => absurd hi (Nat.not_lt_zero i)
 | y :: r, xs, h, i, hi => by
  obtain ⟨p, c, q, d, ys, rfl, h1, h2, h3⟩ := h
  cases i with
  | zero =>
   refine ⟨p, c, q, d, fun j u hu => ?_, h1, h2⟩
   replace hu : (stC y p c q d)[j]? = some u := hu
   have hj := (List.getElem?_eq_some_iff.1 hu).1;rw [Nat.zero_mul, Nat.zero_add, List.getElem?_append_left hj]
   exact hu
  | succ i =>
   obtain ⟨p', c', q', d', e, g1, g2⟩ := RowY.at r ys h3 i (by simpa using hi);refine ⟨p', c', q', d', fun j u hu => ?_, g1, g2⟩;have ee : (i + 1) * 5 + j = 5 + (i * 5 + j) := by omega
   rw [ee, List.getElem?_append_right (by simp [stC])]
   simpa [stC] using e j u hu
structure OwnY (W : World) (F : Nat -> Prop) (v : Value) (l : List Stp) : Prop where
 has : ∃ xs, W.ownsRow 0 26 5 v l.length xs /\ RowY W (fun b => F b /\ v.ownBlock ≠ some b) l xs
 blk : ∀ k, v.ownBlock = some k -> F k /\ k < W.heap.size
theorem OwnY.nil (W : World) (F : Nat -> Prop) : OwnY W F (.slice none 0 0) [] := ⟨⟨[], ⟨rfl, Or.inl ⟨rfl, rfl⟩⟩, rfl⟩, fun k hk => by cases hk⟩
theorem OwnY.only {W W' : World} {F T : Nat -> Prop} {v : Value} {l : List Stp} (h : OwnY W F v l) (ho : Only T W W') (hn : ∀ b, F b -> ¬ T b) : OwnY W' F v l := by
 obtain ⟨⟨xs, h1, h2⟩, h3⟩ := h;exact ⟨⟨xs, qb3 h1 ho (fun k hk => hn k (h3 k hk).1), RowY.only ho (fun b hb => hn b hb.1) l xs h2⟩, fun k hk => ⟨(h3 k hk).1, Nat.lt_of_lt_of_le (h3 k hk).2 ho.size⟩⟩
theorem OwnY.later {W W' : World} {F : Nat -> Prop} {v : Value} {l : List Stp} (h : OwnY W F v l) (hb : Below W.heap.size W W') : OwnY W' F v l :=
 h.only (Only.of_below (T := fun _ => False) hb) (fun _ _ h => h)
theorem OwnY.mono {W : World} {F F' : Nat -> Prop} {v : Value} {l : List Stp} (h : OwnY W F v l) (hn : ∀ b, F b -> b < W.heap.size -> F' b) : OwnY W F' v l := by
 obtain ⟨⟨xs, h1, h2⟩, h3⟩ := h;exact ⟨⟨xs, h1, RowY.mono (fun b hb hl => ⟨hn b hb.1 hl, hb.2⟩) l xs h2⟩, fun k hk => ⟨hn k (h3 k hk).1 (h3 k hk).2, (h3 k hk).2⟩⟩
theorem OwnY.shape {W : World} {F : Nat -> Prop} {v : Value} {l : List Stp} (h : OwnY W F v l) : ∃ q c, v = .slice q l.length c /\ (0 < l.length -> ∃ g, q = some ⟨g, 0, none⟩) := by
 obtain ⟨⟨xs, h1, h2⟩, h3⟩ := h;obtain ⟨q, c, rfl, hq⟩ := qaq h1;refine ⟨q, c, rfl, fun hl => ?_⟩;rcases h1.2 with ⟨e, e2⟩ | ⟨g, cap, cur, e, _⟩
 ·omega
 ·injection e with e3 e4 e5
  exact ⟨g, e3⟩
theorem OwnY.at {W : World} {F : Nat -> Prop} {g n c : Nat} {l : List Stp} (h : OwnY W F (.slice (some ⟨g, 0, none⟩) n c) l) (i : Nat) (hi : i < l.length) : ∃ p c' q d, W.cell? ⟨g, i * 5, none⟩ = some (.int .u8 l[i].k) /\ W.cell? ⟨g, i * 5 + 1, none⟩ = some (.slice p l[i].lits.length c') /\ W.cell? ⟨g, i * 5 + 2, none⟩ = some (.slice q l[i].links.length d) /\ W.cell? ⟨g, i * 5 + 3, none⟩ = some (.int .i64 l[i].a) /\ W.cell? ⟨g, i * 5 + 4, none⟩ = some (.int .i64 l[i].b) /\ OwnI 44 W F (.slice p l[i].lits.length c') l[i].lits /\ OwnK W F (.slice q l[i].links.length d) l[i].links := by
 obtain ⟨⟨xs, h1, h2⟩, h3⟩ := h;obtain ⟨p, c', q, d, e, g1, g2⟩ := RowY.at l xs h2 i hi
 have hn : n = l.length := by
  obtain ⟨q', c'', e', _⟩ := qaq h1
  injection e'
 subst hn;exact ⟨p, c', q, d, (qcx h1 _ _ (e 0 _ rfl)).1, (qcx h1 _ _ (e 1 _ rfl)).1, (qcx h1 _ _ (e 2 _ rfl)).1, (qcx h1 _ _ (e 3 _ rfl)).1, (qcx h1 _ _ (e 4 _ rfl)).1, g1.mono (fun b hb _ => hb.1), g2.mono (fun b hb _ => hb.1)⟩
def Z26 : Value := .agg #[.int .u8 0, .slice none 0 0, .slice none 0 0, .int .i64 0, .int .i64 0]
theorem qtj : ∃ i0, Tryz.prog.info? 26 = some i0 /\ i0.zero = some Z26 /\ i0.size = 5 /\ i0.bytes = 72 := qd1 (by kernel_rfl)
section
variable {w : World} {ops : Array Oper} {rest : List Oper} {o : Oper} {a : Act} {Q : Exit -> Act -> World -> Prop} {K : Act -> World -> Prop}
theorem qh0 (s x : Operand) (ho : o.op = .call { callee := .builtin .append, args := #[s, x], argTypes := #[47, 47] })
  (F G : Nat -> Prop) (B : Nat) (v : Value) (l : List Stp) (y : Stp) (p : Option Addr) (c : Nat) (q : Option Addr) (d : Nat)
  (hs : a.eval s = v) (hx : a.eval x = .slice (some ⟨B, 0, none⟩) 1 1) (own : OwnY w F v l) (hb : StAt w B y p c q d) (h1 : OwnI 44 w G (.slice p y.lits.length c) y.lits) (h2 : OwnK w G (.slice q y.links.length d) y.links)
  (hG : ∀ b, G b -> b < w.heap.size -> F b /\ v.ownBlock ≠ some b) (hnew : F w.heap.size) (hf : l.length <= 1000000000)
  (h : ∀ p' c' w', OwnY w' F (.slice p' (l.length + 1) c') (l ++ [y]) -> Only (fun j => v.ownBlock = some j) w w' -> K (a.put o.dst (.slice p' (l.length + 1) c')) w') : o.wp Tryz.prog a w K Q := by
 obtain ⟨⟨xs, ho1, hrw⟩, hbk⟩ := own;obtain ⟨i0, hi, hz0, hz1, hz2⟩ := qtj;refine qay s x 47 ho 0 26 i0 Z26 5 72 Tryz.underlying47 hi hz0 hz1 hz2 rfl (by omega) v l.length xs hs ho1 ⟨B, 0, none⟩ 1 1 (stC y p c q d) hx (by rfl) ?_ ?_ ?_ ?_ (Nat.zero_le _) ?_
 ·intro jj u hjj
  rw [Lib.add_plain]
  match jj, hjj with
  | 0, hjj => cases hjj; exact hb.c0
  | 1, hjj => cases hjj; exact hb.c1
  | 2, hjj => cases hjj; exact hb.c2
  | 3, hjj => cases hjj; exact hb.c3
  | 4, hjj => cases hjj; exact hb.c4
 ·intro u hu; simp [stC] at hu; rcases hu with rfl | rfl | rfl | rfl | rfl <;> rfl
 ·have hml : maxLen = 9223372036854775807 := rfl
  omega
 ·omega
 intro v8 w8 hown hgrow hnil_ hloc;obtain ⟨p8, c8, hv8, hA_⟩ := qaq hown;have ho8 := Only.of_grown hgrow;subst hv8;refine h p8 c8 w8 ⟨⟨xs ++ stC y p c q d, by rw [List.length_append]; exact hown, ?_⟩, fun j hj => ⟨?_, (qaw hown hj).2⟩⟩ ho8
 ·have hr := RowY.snoc (h1.mono hG) (h2.mono hG) l xs hrw
  refine RowY.mono (fun b hb hlt => hb) _ _ (RowY.only (F := fun b => F b /\ (Value.slice p8 (l.length + 1) c8).ownBlock ≠ some b /\ v.ownBlock ≠ some b) ho8 (fun b hb e => hb.2.2 e) _ _ (RowY.mono (fun b hb hlt => ⟨hb.1, fun e => ?_, hb.2⟩) _ _ hr)) |> RowY.mono (fun b hb _ => ⟨hb.1, hb.2.1⟩) _ _
  rcases hloc with h | h
  ·exact hb.2 (h ▸ e)
  ·rw [h] at e; injection e with e; omega
 ·rcases hloc with h | h
  ·exact (hbk j (h ▸ hj)).1
  ·rw [h] at hj; injection hj with hj; exact hj ▸ hnew
theorem qfg (hgd : o.guard = none) (s x : Operand) (ho : o.op = .call { callee := .builtin .append, args := #[s, x], argTypes := #[47, 47] })
  (F G : Nat -> Prop) (B : Nat) (v : Value) (l : List Stp) (y : Stp) (p : Option Addr) (c : Nat) (q : Option Addr) (d : Nat)
  (hs : a.eval s = v) (hx : a.eval x = .slice (some ⟨B, 0, none⟩) 1 1) (own : OwnY w F v l) (hb : StAt w B y p c q d) (h1 : OwnI 44 w G (.slice p y.lits.length c) y.lits) (h2 : OwnK w G (.slice q y.links.length d) y.links)
  (hG : ∀ b, G b -> b < w.heap.size -> F b /\ v.ownBlock ≠ some b) (hnew : F w.heap.size) (hf : l.length <= 1000000000)
  (h : ∀ p' c' w', OwnY w' F (.slice p' (l.length + 1) c') (l ++ [y]) -> Only (fun j => v.ownBlock = some j) w w' -> wpList Tryz.prog ops Q rest (a.put o.dst (.slice p' (l.length + 1) c')) w') : wpList Tryz.prog ops Q (o :: rest) a w :=
 wpList_plain hgd fun _ hK => qh0 s x ho F G B v l y p c q d hs hx own hb h1 h2 hG hnew hf (fun p' c' w' h1 h2 => hK _ _ (h p' c' w' h1 h2))
end
end Go.Proofs.YtookoagcmejkpaaGreatDoor
namespace Go.Proofs.YtookoagcmejkpaaGreatDoor
set_option maxRecDepth 100000
open Go Go.RowKit Go.Maps
def allT : Fo -> Option (List Stp)
 | .nil => some []
 | .cons l k s _ x r => match qfh l k s x with
  | none => none
  | some y => match allT r with
   | none => none
   | some t => some (y :: t)
theorem qhu : ∀ (f g : Fo) (t : List Stp), allT f = some t -> allT (f.app g) = match allT g with | none => none | some u => some (t ++ u)
 | .nil, g, t, h => by
  cases h;simp only [Fo.app, List.nil_append]
  cases allT g <;> rfl
 | .cons l k s a x r, g, t, h => by
  simp only [allT] at h
  cases h1 : qfh l k s x with
  | none => rw [h1] at h; cases h
  | some y =>
   rw [h1] at h;simp only at h
   cases h2 : allT r with
   | none => rw [h2] at h; cases h
   | some u =>
    rw [h2] at h;cases h;simp only [Fo.app, allT, h1, qhu r g u h2];cases allT g <;> rfl
theorem qk8 : ∀ (f : Fo) (t : List Stp), allT f = some t -> t.length = f.len
 | .nil, t, h => by cases h; rfl
 | .cons l k s a x r, t, h => by
  simp only [allT] at h
  cases h1 : qfh l k s x with
  | none => rw [h1] at h; cases h
  | some y =>
   rw [h1] at h;simp only at h
   cases h2 : allT r with
   | none => rw [h2] at h; cases h
   | some u =>
    rw [h2] at h;cases h;simp [Fo.len, qk8 r u h2]
def qlp (l : Bool) (k : Int) (s : ByteArray) (x : Fo) : Option (List Stp) := if l = true /\ k = 1 /\ s = ⟨#[40]⟩ then allT x else none
def qtw (W w' : World) (e : Ending) (r : Option (List Stp)) : Prop :=
 (match r with
 | none => e = .returned (.tuple #[.slice none 0 0, .int .i64 5])
 | some t => ∃ p c, e = .returned (.tuple #[.slice p t.length c, .int .i64 0]) /\ OwnY w' (fun b => W.heap.size <= b) (.slice p t.length c) t) /\ Below W.heap.size W w'
theorem qm7 (l : Bool) (k : Int) (s : ByteArray) (a0 : Int) (x : Fo) (q : Option Addr) (c : Nat) (F : Nat -> Prop) (W : World) (hq : FoIn W F x q) (_hc : x.len <= c) (hl : x.len <= 1000000000) (hx : TxOK x) (hln : LnOK x) (htab : qb7 W) :
  Calls Tryz.prog 21 #[trV l k s a0 q x.len c] W fun e w' => qtw W w' e (qlp l k s x) := by
 obtain ⟨N, hN⟩ : ∃ N, N = x.len := ⟨_, rfl⟩;have HN := Zh hN;obtain ⟨F1, hF1⟩ : ∃ F1 : Nat -> Prop, F1 = fun b => F b /\ b < W.heap.size := ⟨_, rfl⟩
 have hq1 : FoIn W F1 x q := by rw [hF1]; exact hq.mono (fun b hb hl => ⟨hb, hl⟩)
 have HF1 := Zh (show ∀ b, F1 b -> b < W.heap.size from fun b hb => by rw [hF1] at hb; exact hb.2);have HQ := Zh (aI hq1 (aI hx hln));obtain ⟨R, hR⟩ : ∃ R, R = qlp l k s x := ⟨_, rfl⟩;have HR := Zh hR;rw [<- hR];rw [<- hN] at _hc hl ⊢;have n1 : (N : Int) <= 1000000000 := by omega
 have HTB := Zh htab;clear htab;clear hF1 hq1 hq hx hln _hc hN hR;have hbx := qam W l k s a0 (.slice q N c);have HB1 := Zh (qab W (.cells #[.bool l, .int .u8 k, .string s, .int .i64 a0, .slice q N c] 35));obtain ⟨y0, y1, y2, y3, y4, yf⟩ := hbx
 by_cases hbad : ¬ (l = true /\ k = 1 /\ s = ⟨#[40]⟩)
 ·have hR0 : R = none := by rw [HR.o, qlp, if_neg hbad]
  subst hR0;unfold trV
  cases l with
  | false =>
   clear hbad;go_enter Tryz.func21, Tryz.ntmps21
   go_wp2_with fail
   exact bodyPost_ret (v := .tuple #[.slice none 0 0, .int .i64 5]) (by simp [results, Tryz.results21, go_sem]) rfl ⟨rfl, HB1.o⟩
  | true =>
   by_cases hk : k = 1
   ·have hs : s ≠ ⟨#[40]⟩ := fun e => hbad ⟨rfl, hk, e⟩
    subst hk;have t1 : (s.toList == [40]) = false := beq_eq_false_iff_ne.2 (fun e => hs (qat (e.trans (by rw [ByteArray.toList_eq]))));have t2 : (s.toList != [40]) = true := by simp only [bne, t1]; rfl
    have t3 : ¬ s.toList = [40] := by simpa using t1
    clear hbad hs;go_enter Tryz.func21, Tryz.ntmps21
    go_wp2_with fail
    exact bodyPost_ret (v := .tuple #[.slice none 0 0, .int .i64 5]) (by simp [results, Tryz.results21, go_sem]) rfl ⟨rfl, HB1.o⟩
   ·have hk2 : (k == 1) = false := by simp [hk]
    have hk3 : (k != 1) = true := by simp [hk]
    clear hbad hk;go_enter Tryz.func21, Tryz.ntmps21
    go_wp2_with fail
    exact bodyPost_ret (v := .tuple #[.slice none 0 0, .int .i64 5]) (by simp [results, Tryz.results21, go_sem]) rfl ⟨rfl, HB1.o⟩
 have hgood : l = true /\ k = 1 /\ s = ⟨#[40]⟩ := by
  by_cases h : l = true /\ k = 1 /\ s = ⟨#[40]⟩
  ·exact h
  ·exact absurd h hbad
 have hR1 : R = allT x := by rw [HR.o, qlp, if_pos hgood]
 clear HR;have HR := Zh hR1;obtain ⟨rfl, rfl, hs⟩ := hgood;have t1 : (s.toList == [40]) = true := by rw [beq_iff_eq, hs, ByteArray.toList_eq]
 have t2 : (s.toList != [40]) = false := by simp only [bne, t1]; rfl
 have t3 : s.toList = [40] := by simpa using t1
 have HBX := Zh (show BoxT (W.alloc (.cells #[.bool true, .int .u8 1, .string s, .int .i64 a0, .slice q N c] 35)) W.heap.size true 1 s a0 (.slice q N c) from qam W true 1 s a0 (.slice q N c));have hfo := Zh (HQ.o.1.later HB1.o);obtain ⟨w1, hw1⟩ : ∃ w1, w1 = W.alloc (.cells #[.bool true, .int .u8 1, .string s, .int .i64 a0, .slice q N c] 35) := ⟨_, rfl⟩;have HW1 := Zh hw1;rw [<- hw1] at HB1 HBX hfo;have HSZ1 := Zh (show w1.heap.size = W.heap.size + 1 from by rw [hw1]; simp);clear hbad hR1 hw1 hs;unfold trV;go_enter Tryz.func21, Tryz.ntmps21
 go_wp2_with fail
 rw [<- HW1.o];clear HW1 y0 y1 y2 y3 y4 yf t1 t2 t3
 go_loopg [4, 27] N (fun gk s4 s5 wx => ∃ (m : Nat) (p4 : Option Addr) (c4 : Nat), m + gk = N /\ s4 = .slice p4 m c4 /\ s5 = .int .i64 (m : Int) /\ Hid (∃ (pre g : Fo) (t : List Stp), x = pre.app g /\ pre.len = m /\ allT pre = some t /\ TxOK g /\ LnOK g /\ FoIn wx F1 g (pl q m) /\ OwnY wx (fun b => W.heap.size + 1 <= b) (.slice p4 m c4) t /\ BoxT wx W.heap.size true 1 s a0 (.slice q N c) /\ Below W.heap.size W wx))
 case atStart => exact ⟨0, none, 0, by omega, rfl, rfl, Zh ⟨.nil, x, [], rfl, rfl, rfl, HQ.o.2.1, HQ.o.2.2, qcd hfo.o, OwnY.nil _ _, HBX.o, HB1.o⟩⟩
 case round =>
  obtain ⟨m, p4, c4, hk, rfl, rfl, HR0⟩ := hrel;obtain ⟨pre, g, t, hfg, hpl, hat, htx, hlo, hg, hown, hbx, hbl⟩ := HR0.o;clear HR0 HBX hfo;have k0 : (0 : Int) <= (m : Int) := Int.natCast_nonneg m;have hlen : pre.len + g.len = N := by rw [HN.o, hfg, Fo.len_app]
  have htl : t.length = m := by rw [qk8 pre t hat, hpl]
  have HTL := Zh htl
  cases g with
  | nil =>
   have hlt : ¬ (m : Int) < (N : Int) := by simp [Fo.len] at hlen; omega
   rw [Fo.app_nil] at hfg;have hr0 : R = some t := by rw [HR.o, hfg, hat]
   subst hr0;have HF := Zh (aI (hown.mono (F' := fun b => W.heap.size <= b) (fun b hb _ => by omega)) hbl);obtain ⟨y0, y1, y2, y3, y4, yf⟩ := hbx;clear hk hpl hat htx hlo hg hown hbl hlen hfg htl
   go_wp2_with fail
   exact bodyPost_ret (v := .tuple #[.slice p4 m c4, .int .i64 0]) (by simp [results, Tryz.results21, go_sem]) rfl ⟨⟨p4, c4, by rw [HTL.o], by rw [HTL.o]; exact HF.o.1⟩, HF.o.2⟩
  | cons l1 k1 s1 a1 x1 r =>
   have hkn : m < N := by simp [Fo.len] at hlen; omega
   have k1' : (m : Int) < (N : Int) := Int.ofNat_lt.2 hkn;obtain ⟨bq, oq, hqe⟩ : ∃ bq oq, q = some ⟨bq, oq, none⟩ := HQ.o.1.some (by rw [<- HN.o]; omega);subst hqe;obtain ⟨hFq, c0, c1, c2, c3, ⟨q4, d4, c4', hl4, hm4, hq4⟩, hr⟩ := hg.head;have HS := Zh (qax hkn (show N <= 9223372036854775807 from by omega));have HG := Zh (aI hown (aI hbx (aI hbl (aI hr (aI htx hlo)))));have HFG := Zh (aI hfg (aI hpl (aI hat (aI hk hkn))));obtain ⟨w2, hw2⟩ : ∃ w2, w2 = wr.alloc (.cells #[.bool l1, .int .u8 k1, .string s1, .int .i64 a1, .slice q4 x1.len d4] 35) := ⟨_, rfl⟩;have HB2 := Zh (show Below wr.heap.size wr w2 from by rw [hw2]; exact qab _ _);have HW2 := Zh hw2;have HC := Zh (qso l1 k1 s1 a1 x1 q4 d4 F1 w2 (hq4.later HB2.o) hl4 hlo.1 htx.2.1 hlo.2.1 (qak HTB.o (hbl.trans (HB2.o.mono hbl.size))));obtain ⟨R1, hR1⟩ : ∃ R1, R1 = qfh l1 k1 s1 x1 := ⟨_, rfl⟩;have HR1 := Zh hR1;rw [<- hR1] at HC;obtain ⟨y0, y1, y2, y3, y4, yf⟩ := hbx;obtain ⟨G, rfl⟩ : ∃ G, gk = G + 1 := ⟨gk - 1, by omega⟩;unfold trV at HC;clear hk hfg hpl hat htx hlo hg hown hbl hlen hkn hl4 hm4 hq4 hr hFq hR1 htl hw2
   go_wp2_with fail
   rw [<- HW2.o];refine HC.o.mono ?_;intro e w3 hrr;clear HC c0 c1 c2 c3 c4' y0 y1 y2 y3 y4 yf
   cases R1 with
   | none =>
    obtain ⟨rfl, hb3⟩ := hrr;have hr0 : R = none := by rw [HR.o, HFG.o.1, qhu _ _ _ HFG.o.2.2.1]; simp only [allT, <- HR1.o]
    subst hr0;have HB3 := Zh (HG.o.2.2.1.trans ((HB2.o.trans (hb3.mono HB2.o.size)).mono HG.o.2.2.1.size));clear hb3;unfold stV
    go_wp2_with fail
    exact bodyPost_ret (v := .tuple #[.slice none 0 0, .int .i64 5]) (by simp [results, Tryz.results21, go_sem]) rfl ⟨rfl, HB3.o.alloc HB3.o.size _⟩
   | some y =>
    obtain ⟨⟨pp, cc, qq, dd, rfl, hoi, hok⟩, hb3⟩ := hrr;have HB3 := Zh (HB2.o.trans (hb3.mono HB2.o.size));obtain ⟨w4, hw4⟩ : ∃ w4, w4 = w3.alloc (.cells #[.int .u8 y.k, .slice pp y.lits.length cc, .slice qq y.links.length dd, .int .i64 y.a, .int .i64 y.b] 26) := ⟨_, rfl⟩;have HB4 := Zh (show Below w3.heap.size w3 w4 from by rw [hw4]; exact qab _ _);obtain ⟨w5, hw5⟩ : ∃ w5, w5 = w4.alloc (.cells #[.int .u8 y.k, .slice pp y.lits.length cc, .slice qq y.links.length dd, .int .i64 y.a, .int .i64 y.b] 26) := ⟨_, rfl⟩;have HB5 := Zh (show Below w4.heap.size w4 w5 from by rw [hw5]; exact qab _ _);obtain ⟨z0, z1, z2, z3, z4, zf⟩ := qd9 w3 y.k y.a y.b (.slice pp y.lits.length cc) (.slice qq y.links.length dd)
    have HST := Zh (show StAt w5 (w3.heap.size + 1) y pp cc qq dd from by
     have hs4 : w4.heap.size = w3.heap.size + 1 := by rw [hw4]; simp
     have hh := qd9 w4 y.k y.a y.b (.slice pp y.lits.length cc) (.slice qq y.links.length dd);rw [hs4] at hh;rw [hw5]
     exact ⟨hh.c0, hh.c1, hh.c2, hh.c3, hh.c4⟩)
    have HOO := Zh (aI ((hoi.later HB4.o).later HB5.o) ((hok.later HB4.o).later HB5.o));have HYY := Zh (((HG.o.1.later HB3.o).later HB4.o).later HB5.o);have HSZ := Zh (show W.heap.size + 1 <= wr.heap.size /\ wr.heap.size <= w2.heap.size /\ w2.heap.size <= w5.heap.size from ⟨HG.o.2.1.lt, HB2.o.size, Nat.le_trans hb3.size (Nat.le_trans HB4.o.size HB5.o.size)⟩);have HBK := Zh (show ∀ j, (Value.slice p4 m c4).ownBlock = some j -> W.heap.size + 1 <= j /\ j < wr.heap.size from fun j e => HG.o.1.blk j e);have HW4 := Zh hw4;have HW5 := Zh hw5;clear hw4 hw5 hoi hok hb3;unfold stV
    go_wp2_with (at_builtin; rw [<- HW4.o, <- HW5.o]; refine qfg (by rfl) _ _ (by rfl) (fun b => W.heap.size + 1 <= b) (fun b => w2.heap.size <= b) (w3.heap.size + 1) (.slice p4 m c4) t y pp cc qq dd (by rfl) (by rfl) HYY.o HST.o HOO.o.1 HOO.o.2 (fun b hb hl => ⟨by have := HSZ.o; omega, fun e => by have := (HBK.o b e).2; have := HSZ.o; omega⟩) (by have := HSZ.o; omega) (by rw [HTL.o]; have := HFG.o.2.2.2.2; omega) ?_)
    intro p6 c6 w6 hown6 ho6;rw [HTL.o] at hown6 ⊢;have hO : Only (fun k => W.heap.size + 1 <= k) wr w6 := (((Only.of_below HB3.o).trans (Only.of_below HB4.o)).trans (Only.of_below HB5.o)).trans (ho6.mono (fun j _ e => (HBK.o j e).1))
    have HFIN := Zh (show ∃ (pre' g' : Fo) (t' : List Stp), x = pre'.app g' /\ pre'.len = m + 1 /\ allT pre' = some t' /\ TxOK g' /\ LnOK g' /\ FoIn w6 F1 g' (pl (some ⟨bq, oq, none⟩) (m + 1)) /\ OwnY w6 (fun b => W.heap.size + 1 <= b) (.slice p6 (m + 1) c6) t' /\ BoxT w6 W.heap.size true 1 s a0 (.slice (some ⟨bq, oq, none⟩) N c) /\ Below W.heap.size W w6 from by
     refine ⟨pre.snoc l1 k1 s1 a1 x1, r, t ++ [y], by rw [HFG.o.1, Fo.snoc_app], by rw [Fo.len_snoc, HFG.o.2.1], ?_, HG.o.2.2.2.2.1.2.2, HG.o.2.2.2.2.2.2.2, HG.o.2.2.2.1.only hO (fun b hb e => by have := HF1.o b hb; omega), hown6, HG.o.2.1.only hO (fun e => by omega), HG.o.2.2.1.trans (hO.below (fun k e => by omega) HG.o.2.2.1.size)⟩;rw [<- Fo.app_nil (pre.snoc l1 k1 s1 a1 x1), Fo.snoc_app, qhu _ _ _ HFG.o.2.2.1]
     simp only [allT, <- HR1.o])
    clear hown6 ho6 hO z0 z1 z2 z3 z4 zf
    go_wp2_with fail
    go_roundg G
    case measure => omega
    case rel => exact ⟨m + 1, p6, c6, by have := HFG.o.2.2.2.1; omega, rfl, by first | rfl | rw [HS.o.2.2], HFIN⟩
def qt9 (W : World) : Prop := ∀ w, Below W.heap.size W w -> Calls Tryz.prog 8 #[] w fun e w' => e = .returned (.bool true) /\ Below w.heap.size w w'
theorem qit (n : Int) (h0 : -4611686018427387903 <= n) (h1 : n <= 4611686018427387903) : (itoB n).size <= 140737488351232 := by
 have h := Lib.itoa_length_le n (by omega) (by omega);have e : (itoB n).size = (Lib.itoa n).length := by simp [itoB, ByteArray.size]
 omega
theorem qt0 (n : Int) (h : -4611686018427387903 <= n /\ n <= 4611686018427387903) (r : Fo) (hr : TxOK r) : TxOK (.cons (nuL n) (nuK n) (nuS n) 0 (nuX n) r) := by
 by_cases hn : n < 0
 ·have e := qit (-n) (by omega) (by omega)
  have e2 : (⟨#[40]⟩ : ByteArray).size <= 140737488351232 := by decide
  have e3 : (⟨#[45]⟩ : ByteArray).size <= 140737488351232 := by decide
  simp only [nuS, nuX, hn, if_true, TxOK];exact ⟨e2, ⟨e3, trivial, e, trivial, trivial⟩, hr⟩
 ·have e := qit n (by omega) h.2
  simp only [nuS, nuX, hn, if_false, TxOK];exact ⟨e, trivial, hr⟩
theorem qhd : ∀ l : List Int, (∀ y ∈ l, -4611686018427387903 <= y /\ y <= 4611686018427387903) -> TxOK (nusF l)
 | [], _ => trivial
 | n :: r, h => qt0 n (h n (by simp)) (nusF r) (qhd r (fun y hy => h y (by simp [hy])))
theorem qt1 (n : Int) (r : Fo) (hr : LnOK r) : LnOK (.cons (nuL n) (nuK n) (nuS n) 0 (nuX n) r) := by
 by_cases hn : n < 0
 ·simp only [nuX, hn, if_true, LnOK, Fo.len]
  exact ⟨by decide, ⟨Nat.zero_le _, trivial, Nat.zero_le _, trivial, trivial⟩, hr⟩
 ·simp only [nuX, hn, if_false, LnOK, Fo.len]
  exact ⟨Nat.zero_le _, trivial, hr⟩
theorem qhe : ∀ l : List Int, LnOK (nusF l)
 | [] => trivial
 | n :: r => qt1 n (nusF r) (qhe r)
theorem qpp (k : Int) : (lkH k).size <= 140737488351232 := by
 unfold lkH
 repeat' split
 all_goals decide
theorem qg5 (k : Int) : (stH k).size <= 140737488351232 := by
 unfold stH
 repeat' split
 all_goals decide
theorem qnw {x : Lk} (h : qaz x = true) : (∀ y ∈ lkN x, -4611686018427387903 <= y /\ y <= 4611686018427387903) /\ (lkN x).length <= 22 := by
 rcases qeu h with ⟨e, h1⟩ | ⟨e, h1⟩ | ⟨e, h1⟩ | ⟨e, h1, h2⟩ | ⟨e, h1, h2, h3, h4⟩ | ⟨e, h1, h2⟩ | ⟨e, h1⟩ <;> obtain ⟨k, lit, a, b, i, j, l⟩ := x <;> cases e
 ·exact ⟨by simpa [lkN] using qb8 h1, by simp [lkN]⟩
 ·exact ⟨by simpa [lkN] using qar h1, by simp [lkN]⟩
 ·exact ⟨by simpa [lkN] using qar h1, by simp [lkN]⟩
 ·exact ⟨by simpa [lkN] using ⟨qar h1, qar h2⟩, by simp [lkN]⟩
 ·refine ⟨?_, by simp [lkN]; simpa using h3⟩
  intro y hy;simp [lkN] at hy;rcases hy with rfl | rfl | hy
  ·exact qar h1
  ·exact qar h2
  ·exact qar (List.all_eq_true.1 h4 y hy)
 ·exact ⟨by simpa [lkN] using ⟨qb8 h1, qar h2⟩, by simp [lkN]⟩
 ·exact ⟨by simpa [lkN] using qar h1, by simp [lkN]⟩
theorem qnv : ∀ l : List Lk, (∀ y ∈ l, qaz y = true) -> TxOK (lksF l) /\ LnOK (lksF l)
 | [], _ => ⟨trivial, trivial⟩
 | x :: r, h => by
  have h1 := qnw (h x (by simp));have h2 := qnv r (fun y hy => h y (by simp [hy]));have e2 : (⟨#[40]⟩ : ByteArray).size <= 140737488351232 := by decide
  have e3 : (lkX x).len <= 1000000000 := by
   simp only [lkX, Fo.len, qag];omega
  exact ⟨⟨e2, ⟨qpp x.k, trivial, qhd _ h1.1⟩, h2.1⟩, ⟨e3, ⟨Nat.zero_le _, trivial, qhe _⟩, h2.2⟩⟩
theorem qsi (x : Stp) (h : qau x = true) : TxOK (stX x) /\ LnOK (stX x) /\ (stX x).len <= 1000000000 := by
 have hl := qq6 x h;have hs := qen h;obtain ⟨k, lits, links, a, b⟩ := x;simp only at hs;rcases hs with ⟨hk, rfl, rfl, rfl, h2, h1⟩ | ⟨rfl, rfl, rfl, rfl, h2, h1⟩ | ⟨rfl, rfl, rfl, h1, h2⟩
 ·have e := qhd lits (fun y hy => qb8 (List.all_eq_true.1 h1 y hy))
  have e2 : stK ⟨k, lits, [], 0, 0⟩ = nusF lits := by rcases hk with rfl | rfl <;> simp [stK]
  refine ⟨⟨qg5 _, trivial, ?_⟩, ⟨Nat.zero_le _, trivial, ?_⟩, by omega⟩
  ·rw [e2]; exact e
  ·rw [e2]; exact qhe lits
 ·have e := qnv links (fun y hy => List.all_eq_true.1 h1 y hy)
  exact ⟨⟨qg5 _, trivial, by simpa [stK] using e.1⟩, ⟨Nat.zero_le _, trivial, by simpa [stK] using e.2⟩, by omega⟩
 ·have e := qhd [a, b] (by intro y hy; simp at hy; rcases hy with rfl | rfl <;> first | exact qar h1 | exact qar h2)
  exact ⟨⟨qg5 _, trivial, by simpa [stK] using e⟩, ⟨Nat.zero_le _, trivial, by simpa [stK] using qhe [a, b]⟩, by omega⟩
end Go.Proofs.YtookoagcmejkpaaGreatDoor
namespace Go.Proofs.YtookoagcmejkpaaGreatDoor
open Go Go.RowKit Lx
theorem qoe : ∀ f : Fo, GdF f -> okF f = true
 | .nil, _ => rfl
 | .cons l k s a x r, h => by
  obtain ⟨_, h1, h2⟩ := h;have ih := qoe r h2;rcases h1 with ⟨rfl, rfl, rfl, hx⟩ | ⟨rfl, rfl, hl⟩
  ·simp [okF, ih, qoe x hx]
  ·have hb : qbd k s = true := readB_iff.2 ⟨hl.good, by rcases hl.kind with rfl | rfl <;> decide⟩
   simp [okF, ih, hb, Fo.len]
theorem qod : ∀ f : Fo, GdF f -> Lx.szB 65536 f
 | .nil, _ => trivial
 | .cons l k s a x r, h => by
  obtain ⟨_, h1, h2⟩ := h;have ih := qod r h2;rcases h1 with ⟨rfl, rfl, rfl, hx⟩ | ⟨rfl, rfl, hl⟩
  ·exact ⟨by decide, qod x hx, ih⟩
  ·refine ⟨?_, trivial, ih⟩
   have := hl.len;have e : s.size = s.data.toList.length := (Array.length_toList (xs := s.data)).symm;omega
theorem qix : ∀ (f : Fo) (b : Bool), GdF f -> (txtF b f).length <= 25 * f.size
 | .nil, b, _ => by simp [txtF]
 | .cons l k s a x r, b, h => by
  obtain ⟨_, h1, h2⟩ := h;have ih := qix r false h2;have hb : ((if b = true then [] else [32] : List UInt8)).length <= 1 := by cases b <;> simp
  rcases h1 with ⟨rfl, rfl, rfl, hx⟩ | ⟨rfl, rfl, hl⟩
  ·have ihx := qix x true hx
   simp only [txtF, if_true, List.length_append, List.length_cons, List.length_nil, Fo.size];omega
  ·have := hl.len
   simp only [txtF, Bool.false_eq_true, if_false, List.length_append, hl.rend, Fo.size];omega
def KdF : Fo -> Prop
 | .nil => True
 | .cons l k s _ x r => (Lx.textR l k s x = (txtT l k s x, 0) /\ s.size <= 65536 /\ Lx.szB 65536 x /\ x.size <= 1000 /\ (txtT l k s x).length <= 100000) /\ KdF r
def KsF : Fo -> Prop
 | .nil => True
 | .cons _ _ _ _ x r => x.size <= 1000 /\ KsF r
theorem qdi (l : Bool) (k : Int) (s : ByteArray) (a : Int) (x r : Fo) (m : Nat) : Lx.depF (.cons l k s a x r) m = max (Lx.depT l x m) (Lx.depF r m) := rfl
theorem qte : ∀ f : Fo, GdF f -> Lx.depF f 201 <= 200 -> KsF f -> KdF f
 | .nil, _, _, _ => trivial
 | .cons l k s a x r, h, hd, hk => by
  have hok := qoe _ h;have hsz := qod _ h;obtain ⟨_, h1, h2⟩ := h;rw [qdi] at hd;have ih := qte r h2 (by omega) hk.2;have hkx := hk.1
  have hlen : (txtT l k s x).length <= 100000 := by
   rcases h1 with ⟨rfl, rfl, rfl, hx⟩ | ⟨rfl, rfl, hl⟩
   ·have := qix x true hx
    simp only [txtT, if_true, List.length_cons, List.length_append, List.length_nil];omega
   ·have := hl.len
    simp only [txtT, Bool.false_eq_true, if_false, hl.rend];omega
  refine ⟨⟨?_, hsz.1, hsz.2.1, hk.1, hlen⟩, ih⟩
  have hT : okT l k s x = true := by
   simp only [okF, Bool.and_eq_true] at hok;cases l <;> simpa [okT] using hok.1
  unfold Lx.textR;rw [if_neg (by rw [hT]; simp), if_neg (by omega), if_neg (by omega)]
theorem qe7 (m : Nat) : ∀ l : List Int, Lx.depF (nusF l) m <= 1
 | [] => Nat.zero_le _
 | n :: r => by
  have ih := qe7 m r
  have h1 : ∀ k, Lx.depF (nuX n) k = 0 := fun k => by
   unfold nuX
   split
   ·simp [Lx.depF]
   ·rfl
  rw [nusF, qdi];simp only [Lx.depT, h1]
  split <;> omega
theorem qtq (x : Lk) (m : Nat) : Lx.depF (lkX x) m <= 1 := by
 have := qe7 m (lkN x);simp only [lkX, qdi, Lx.depT, Bool.false_and, Bool.false_eq_true, if_false];omega
theorem qjx (m : Nat) : ∀ l : List Lk, Lx.depF (lksF l) m <= 2
 | [] => Nat.zero_le _
 | x :: r => by
  have ih := qjx m r;have h1 := qtq x (m - 1);rw [lksF, qdi];simp only [Lx.depT]
  split <;> omega
theorem qnr (n : Int) : (nuX n).size <= 2 := by
 unfold nuX; split <;> simp [Fo.size]
theorem qd6 : ∀ l : List Int, (nusF l).size <= 3 * l.length
 | [] => Nat.le_refl _
 | n :: r => by
  have := qd6 r;have := qnr n;simp only [nusF, Fo.size, List.length_cons];omega
theorem qnn : ∀ l : List Int, KsF (nusF l)
 | [] => trivial
 | n :: r => ⟨Nat.le_trans (qnr n) (by decide), qnn r⟩
theorem qf4 : ∀ l : List Lk, (∀ y ∈ l, qaz y = true) -> GdF (lksF l) /\ KsF (lksF l) /\ (lksF l).size <= 70 * l.length
 | [], _ => ⟨trivial, trivial, Nat.le_refl _⟩
 | x :: r, h => by
  obtain ⟨h1, h2, h3⟩ := qf4 r (fun y hy => h y (by simp [hy]));have hn := qnw (h x (by simp));have hs := qd6 (lkN x);refine ⟨⟨rfl, .inl ⟨rfl, rfl, rfl, ⟨rfl, .inr ⟨rfl, rfl, qt3 x.k⟩, qko _ hn.1⟩⟩, h1⟩, ⟨?_, h2⟩, ?_⟩
  ·simp only [lkX, Fo.size]; omega
  ·simp only [lksF, lkX, Fo.size, List.length_cons]; omega
theorem qda (x : Stp) (h : qau x = true) : GdF (stX x) /\ KdF (stX x) /\ (stX x).size <= 2000000 := by
 obtain ⟨k, lits, links, a, b⟩ := x;obtain ⟨m1, m2, m3, m4, m5, m6, m7⟩ := qbn h;have hl : ∀ y ∈ lits, -4611686018427387903 <= y /\ y <= 4611686018427387903 := fun y hy => qb8 (List.all_eq_true.1 m5 y hy)
 have hk : ∀ y ∈ links, qaz y = true := fun y hy => List.all_eq_true.1 m6 y hy
 have hab : ∀ y ∈ [a, b], -4611686018427387903 <= y /\ y <= 4611686018427387903 := by
  intro y hy;simp at hy;rcases hy with rfl | rfl
  ·exact qar m1
  ·exact qar m2
 obtain ⟨g1, g2, g3⟩ := qf4 links hk
 have key : ∀ f, GdF f -> Lx.depF f 201 <= 2 -> KsF f -> f.size <= 1999999 -> GdF (.cons false 3 (stH k) 0 .nil f) /\ KdF (.cons false 3 (stH k) 0 .nil f) /\ (Fo.cons false 3 (stH k) 0 .nil f).size <= 2000000 := fun f f1 f2 f3 f4 => by
  have hg : GdF (.cons false 3 (stH k) 0 .nil f) := ⟨rfl, .inr ⟨rfl, rfl, qt2 k⟩, f1⟩;refine ⟨hg, qte _ hg ?_ ⟨by decide, f3⟩, by simp only [Fo.size]; omega⟩;rw [qdi];simp only [Lx.depT, Bool.false_and, Bool.false_eq_true, if_false];omega
 simp only [stX, stK]
 split
 ·exact key _ g1 (qjx _ _) g2 (by omega)
 ·split
  ·have := qd6 [a, b]
   exact key _ (qko _ hab) (Nat.le_trans (qe7 _ _) (by decide)) (qnn _) (by simp at this; omega)
  ·have := qd6 lits
   exact key _ (qko _ hl) (Nat.le_trans (qe7 _ _) (by decide)) (qnn _) (by omega)
def kidS : Fo -> List ByteArray
 | .nil => []
 | .cons l k s _ x r => ⟨(txtT l k s x).toArray⟩ :: kidS r
theorem qkv : ∀ f g : Fo, kidS (f.app g) = kidS f ++ kidS g
 | .nil, g => rfl
 | .cons l k s a x r, g => by simp only [Fo.app, kidS, qkv r g, List.cons_append]
theorem qhl : ∀ f : Fo, (kidS f).length = f.len
 | .nil => rfl
 | .cons l k s a x r => by simp only [kidS, List.length_cons, qhl r, Fo.len]
theorem qev (t : List UInt8) (ts : List (List UInt8)) : Lib.join (t :: ts) [32] = t ++ (ts.map fun u => 32 :: u).flatten := by
 unfold Lib.join List.intercalate
 induction ts generalizing t with
 | nil => simp
 | cons u us ih => rw [List.intersperse_cons_cons]; simp only [List.flatten_cons, ih u, List.map_cons]; simp
theorem qis : ∀ f : Fo, ((kidS f).map (fun u => 32 :: u.data.toList)).flatten = txtF false f
 | .nil => rfl
 | .cons l k s a x r => by
  simp only [kidS, List.map_cons, List.flatten_cons, qis r, txtF, txtT];simp
theorem qf5 (f : Fo) : Lib.join ((kidS f).map (·.data.toList)) [32] = txtF true f := by
 cases f with
 | nil => rfl
 | cons l k s a x r =>
  simp only [kidS, List.map_cons];rw [qev, List.map_map];have := qis r;simp only [Function.comp_def] at this ⊢;rw [this];simp [txtF, txtT]
def stTx (x : Stp) : ByteArray := brkS (kidS (stX x))
theorem qeo (x : Stp) : (stTx x).data.toList = txtT true 1 ⟨#[40]⟩ (stX x) := by
 simp [stTx, brkS, brkL, qf5, txtT]
theorem qh7 (x : Stp) (h : qau x = true) : (stTx x).size <= 100000000 /\ (Lib.join ((kidS (stX x)).map (·.data.toList)) [32]).length <= 100000000 := by
 obtain ⟨h1, _, h3⟩ := qda x h;have h4 := qix (stX x) true h1
 have h5 : (stTx x).size = (txtF true (stX x)).length + 2 := by
  have e : (stTx x).size = (stTx x).data.toList.length := (Array.length_toList (xs := (stTx x).data)).symm;rw [e, qeo];simp [txtT]
 rw [qf5];omega
end Go.Proofs.YtookoagcmejkpaaGreatDoor
