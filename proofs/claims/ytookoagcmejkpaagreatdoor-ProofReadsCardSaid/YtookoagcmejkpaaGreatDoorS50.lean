/- The link that a tree would be: the document's guess. -/
import Derived.Test.YtookoagcmejkpaaGreatDoorJ30
namespace Go.Proofs.YtookoagcmejkpaaGreatDoor
set_option maxRecDepth 100000
open Go Go.RowKit Go.Maps
structure A3 (w : World) (B : Nat) (x y z : Int) : Prop where
 c0 : w.cell? ⟨B, 0, none⟩ = some (.int .i64 x)
 c1 : w.cell? ⟨B, 1, none⟩ = some (.int .i64 y)
 c2 : w.cell? ⟨B, 2, none⟩ = some (.int .i64 z)
 fz : ∀ o, w.frozen? ⟨B, o, none⟩ = false
section
variable {w w' : World} {B : Nat} {x y z : Int} {T : Nat -> Prop}
theorem A3.lt (h : A3 w B x y z) : B < w.heap.size := World.block_lt_of_cell? w _ h.c0
theorem A3.only (h : A3 w B x y z) (ho : Only T w w') (hn : ¬ T B) : A3 w' B x y z :=
 ⟨ho.cell h.c0 hn, ho.cell h.c1 hn, ho.cell h.c2 hn, fun o => by rw [ho.frozen (a := ⟨B, o, none⟩) h.lt hn]; exact h.fz o⟩
theorem A3.later (h : A3 w B x y z) (hb : Below w.heap.size w w') : A3 w' B x y z := h.only (Only.of_below (T := fun _ => False) hb) (fun h => h)
theorem A3.set0 (h : A3 w B x y z) (v : Int) : A3 (w.setCell ⟨B, 0, none⟩ (.int .i64 v)) B v y z := by
 refine ⟨by have h1 := h.c0; have hf := h.fz 0; simp [go_sem, h1], ?_, ?_, fun o => by have := h.fz o; simp [go_sem, this]⟩
 ·rw [World.cell?_setCell_other _ _ _ _ (by intro e; cases e)]; exact h.c1
 ·rw [World.cell?_setCell_other _ _ _ _ (by intro e; cases e)]; exact h.c2
theorem A3.set1 (h : A3 w B x y z) (v : Int) : A3 (w.setCell ⟨B, 1, none⟩ (.int .i64 v)) B x v z := by
 refine ⟨?_, by have h1 := h.c1; have hf := h.fz 1; simp [go_sem, h1], ?_, fun o => by have := h.fz o; simp [go_sem, this]⟩
 ·rw [World.cell?_setCell_other _ _ _ _ (by intro e; cases e)]; exact h.c0
 ·rw [World.cell?_setCell_other _ _ _ _ (by intro e; cases e)]; exact h.c2
theorem A3.set2 (h : A3 w B x y z) (v : Int) : A3 (w.setCell ⟨B, 2, none⟩ (.int .i64 v)) B x y v := by
 refine ⟨?_, ?_, by have h1 := h.c2; have hf := h.fz 2; simp [go_sem, h1], fun o => by have := h.fz o; simp [go_sem, this]⟩
 ·rw [World.cell?_setCell_other _ _ _ _ (by intro e; cases e)]; exact h.c0
 ·rw [World.cell?_setCell_other _ _ _ _ (by intro e; cases e)]; exact h.c1
end
theorem a3_new (w : World) (x y z : Int) : A3 (w.alloc (.cells #[.int .i64 x, .int .i64 y, .int .i64 z] 128)) w.heap.size x y z :=
 ⟨by simp [go_sem], by simp [go_sem], by simp [go_sem], fun o => by simp [go_sem]⟩
theorem int_one (w : World) (v : Int) : IntsIn (w.alloc (.cells #[.int .i64 v] 3)) (some ⟨w.heap.size, 0, none⟩) [v] := by
 intro t ht
 match t, ht with
 | 0, _ => exact ⟨_, 0, rfl, by simp [go_sem]⟩
structure G56 (W : World) (q : Option Addr) (F1 : Nat -> Prop) (l : Bool) (k : Int) (s : ByteArray) (a0 : Int) (c N : Nat) (m : Nat) (pre g : Fo) (v4 : Value) (w : World) : Prop where
 box : BoxT w W.heap.size l k s a0 (.slice q N c)
 res : BoxL w (W.heap.size + 1) zLk (.slice none 0 0)
 arr : A3 w (W.heap.size + 2) ((valsF pre).getD 0 0) ((valsF pre).getD 1 0) ((valsF pre).getD 2 0)
 row : OwnI 3 w (fun b => W.heap.size + 3 <= b) v4 ((valsF pre).drop 2)
 fo : FoIn w F1 g (pl q m)
 below : Below W.heap.size W w
 len : pre.len + 1 = m
section
variable {W : World} {q : Option Addr} {F1 : Nat -> Prop} {l : Bool} {k : Int} {s : ByteArray} {a0 : Int} {c N : Nat} {m : Nat} {pre g : Fo} {v4 : Value} {w w' : World}
theorem G56.next (h : G56 W q F1 l k s a0 c N m pre g v4 w) {pre' r : Fo} {v4' : Value} {T : Nat -> Prop} (hr : FoIn w F1 r (pl q (m + 1))) (hF : ∀ b, F1 b -> b < W.heap.size) (ho : Only T w w') (hT : ∀ k, T k -> W.heap.size + 2 <= k)
  (ha : A3 w' (W.heap.size + 2) ((valsF pre').getD 0 0) ((valsF pre').getD 1 0) ((valsF pre').getD 2 0)) (hv : OwnI 3 w' (fun b => W.heap.size + 3 <= b) v4' ((valsF pre').drop 2)) (hl : pre'.len + 1 = m + 1) : G56 W q F1 l k s a0 c N (m + 1) pre' r v4' w' where
 box := h.box.only ho (fun e => by have := hT _ e; omega)
 res := h.res.only ho (fun e => by have := hT _ e; omega)
 arr := ha
 row := hv
 fo := hr.only ho (fun b hb e => by have := hT _ e; have := hF b hb; omega)
 below := h.below.trans (ho.below (B := W.heap.size) (fun k e => by have := hT _ e; omega) h.below.size)
 len := hl
end
theorem getD_snoc_same (l : List Int) (v : Int) (i : Nat) (h : l.length = i) : (l ++ [v]).getD i 0 = v := by
 subst h; simp
theorem getD_snoc_lt (l : List Int) (v : Int) (i : Nat) (h : i ≠ l.length) : (l ++ [v]).getD i 0 = l.getD i 0 := by
 simp only [List.getD_eq_getElem?_getD]
 rcases Nat.lt_or_gt_of_ne h with h1 | h1
 ·rw [List.getElem?_append_left h1]
 ·rw [List.getElem?_eq_none (by simp; omega), List.getElem?_eq_none (by omega)]
set_option maxHeartbeats 6400000 in
theorem guess56 (l : Bool) (k : Int) (s : ByteArray) (a0 : Int) (x : Fo) (q : Option Addr) (c : Nat) (F : Nat -> Prop) (W : World) (hq : FoIn W F x q) (hc : x.len <= c) (hl : x.len <= 1000000000) (hx : TxOK x) :
  Calls Tryz.prog 56 #[trV l k s a0 q x.len c] W fun e w' => (∃ p' c', e = .returned (lkV (guessP l x) p' c') /\ OwnI 3 w' (fun b => W.heap.size <= b) (.slice p' (guessP l x).l.length c') (guessP l x).l) /\ Below W.heap.size W w' := by
 obtain ⟨f, hf⟩ : ∃ f, f = tl x := ⟨_, rfl⟩
 obtain ⟨N, hN⟩ : ∃ N, N = x.len := ⟨_, rfl⟩
 have HN := Lib.hid (And.intro hf (And.intro hN (show N <= f.len + 1 /\ (N ≠ 0 -> N = f.len + 1) from by
  subst hf hN
  cases x with
  | nil => exact ⟨by simp [Fo.len], fun h => absurd rfl h⟩
  | cons _ _ _ _ _ r => exact ⟨by simp [tl, Fo.len], fun _ => by simp [tl, Fo.len]⟩)))
 obtain ⟨F1, hF1⟩ : ∃ F1 : Nat -> Prop, F1 = fun b => F b /\ b < W.heap.size := ⟨_, rfl⟩
 have hq1 : FoIn W F1 x q := by rw [hF1]; exact hq.mono (fun b hb hl => ⟨hb, hl⟩)
 have HF1 := Lib.hid (show ∀ b, F1 b -> F b /\ b < W.heap.size from fun b hb => by rw [hF1] at hb; exact hb)
 have htx : TxOK f := by
  subst hf
  cases x with
  | nil => trivial
  | cons _ _ _ _ _ r => exact hx.2.2
 have hfo : FoIn W F1 f (pl q 1) := by
  subst hf
  cases x with
  | nil => trivial
  | cons _ _ _ _ _ r =>
   obtain ⟨b, off, rfl, _, _, _, _, _, _, hr⟩ := hq1
   exact hr
 have hsm : ∀ m, pl q m = none -> q = none := fun m h => by cases q with
  | none => rfl
  | some a => cases h
 have HQ := Lib.hid (And.intro hq1 (And.intro htx (And.intro hfo (And.intro hc hl))))
 rw [<- hN] at hc hl ⊢
 have n1 : (N : Int) <= 1000000000 := by omega
 clear hF1 hq1 htx hfo hq hx hc hf hN hsm
 obtain ⟨w3, hw3⟩ : ∃ w3, w3 = ((W.alloc (.cells #[.bool l, .int .u8 k, .string s, .int .i64 a0, .slice q N c] 35)).alloc (.cells #[.int .u8 0, .int .i64 0, .int .i64 0, .int .i64 0, .int .i64 0, .int .i64 0, .slice none 0 0] 64)).alloc (.cells #[.int .i64 0, .int .i64 0, .int .i64 0] 128) := ⟨_, rfl⟩
 have HG := Lib.hid (show G56 W q F1 l k s a0 c N 1 .nil f (.slice none 0 0) w3 from by
  have hb3 : Below W.heap.size W w3 := by rw [hw3]; exact ((below1 W _).alloc (by simp) _).alloc (by simp; omega) _
  have e1 := box_new W l k s a0 (.slice q N c)
  have e2 := boxL_new (W.alloc (.cells #[.bool l, .int .u8 k, .string s, .int .i64 a0, .slice q N c] 35)) zLk (.slice none 0 0)
  have e3 := a3_new ((W.alloc (.cells #[.bool l, .int .u8 k, .string s, .int .i64 a0, .slice q N c] 35)).alloc (.cells #[.int .u8 0, .int .i64 0, .int .i64 0, .int .i64 0, .int .i64 0, .int .i64 0, .slice none 0 0] 64)) 0 0 0
  have e1' := (e1.later (below1 _ (.cells #[.int .u8 0, .int .i64 0, .int .i64 0, .int .i64 0, .int .i64 0, .int .i64 0, .slice none 0 0] 64))).later (below1 _ (.cells #[.int .i64 0, .int .i64 0, .int .i64 0] 128))
  have e2' := e2.later (below1 _ (.cells #[.int .i64 0, .int .i64 0, .int .i64 0] 128))
  refine ⟨by rw [hw3]; exact e1', by rw [hw3]; simpa [zLk] using e2', by rw [hw3]; simpa [valsF] using e3, OwnI.nil _ _ _, HQ.out.2.2.1.later hb3, hb3, rfl⟩)
 have HW3 := Lib.hid hw3
 clear hw3
 obtain ⟨R, hR⟩ : ∃ R, R = guessP l x := ⟨_, rfl⟩
 have HGR := Lib.hid hR
 rw [<- hR]
 clear hR
 unfold trV
 go_enter Tryz.func56, Tryz.ntmps56
 go_wp2_with fail
 rw [<- HW3.out]
 clear HW3
 go_loopg [4, 5] f.len (fun gk s4 s5 wx => ∃ (m : Nat) (p4 : Option Addr) (n4 c4 : Nat), m + gk = f.len + 1 /\ s4 = .slice p4 n4 c4 /\ s5 = .int .i64 (m : Int) /\ Hid (∃ (pre g : Fo), f = pre.app g /\ TxOK g /\ n4 = pre.len - 2 /\ G56 W q F1 l k s a0 c N m pre g (.slice p4 n4 c4) wx))
 case atStart => exact ⟨1, none, 0, 0, by omega, rfl, rfl, Lib.hid ⟨.nil, f, rfl, HQ.out.2.1, rfl, HG.out⟩⟩
 case round =>
  obtain ⟨m, p4, n4, c4, hk, rfl, rfl, HR0⟩ := hrel
  obtain ⟨pre, g, hfg, htx, hn4, hg⟩ := HR0.out
  have HN4 := Lib.hid hn4
  clear HR0 HG hn4
  have k0 : (0 : Int) <= (m : Int) := Int.natCast_nonneg m
  have hlen : pre.len + g.len = f.len := by rw [hfg, Fo.len_app]
  cases g with
  | nil =>
   rw [Fo.app_nil] at hfg
   subst hfg
   have hlt : ¬ (m : Int) < (N : Int) := by have := HN.out.2.2.1; have := hg.len; omega
   have HG := Lib.hid hg
   obtain ⟨y0, y1, y2, y3, y4, yf⟩ := hg.box
   obtain ⟨z0, z1, z2, z3, z4, z5, z6, zf⟩ := hg.res
   clear hk hg htx hlen
   have hz6 : ∀ (w : World), OwnI 3 w (fun b => W.heap.size <= b) (.slice none 0 0) [] := fun w => OwnI.nil _ _ _
   by_cases hzero : l = false \/ N = 0
   ·have hR : R = zLk := by rw [HGR.out]; unfold guessP zLk; rw [<- HN.out.2.1, if_pos hzero]
    subst hR
    have HG2 := Lib.hid HG.out.below
    cases l with
    | false =>
     clear hzero
     go_wp2_with fail
     refine bodyPost_ret (v := .agg #[.int .u8 0, .int .i64 0, .int .i64 0, .int .i64 0, .int .i64 0, .int .i64 0, .slice none 0 0]) (by simp [results, Tryz.results56, go_sem, z0, z1, z2, z3, z4, z5, z6]) rfl ⟨⟨none, 0, rfl, hz6 _⟩, ?_⟩
     exact HG2.out.trans ((only7 wr (W.heap.size + 1) _ _ _ _ _ _ _).below (fun k e => by omega) HG2.out.size)
    | true =>
     have hN0 : N = 0 := by rcases hzero with h | h; cases h; exact h
     subst hN0
     clear hzero
     go_wp2_with fail
     refine bodyPost_ret (v := .agg #[.int .u8 0, .int .i64 0, .int .i64 0, .int .i64 0, .int .i64 0, .int .i64 0, .slice none 0 0]) (by simp [results, Tryz.results56, go_sem, z0, z1, z2, z3, z4, z5, z6]) rfl ⟨⟨none, 0, rfl, hz6 _⟩, ?_⟩
     exact HG2.out.trans ((only7 wr (W.heap.size + 1) _ _ _ _ _ _ _).below (fun k e => by omega) HG2.out.size)
   ·have hl1 : l = true := by cases l; exact absurd (Or.inl rfl) hzero; rfl
    have hN0 : N ≠ 0 := fun h => hzero (Or.inr h)
    have hNe : ((N : Int) == 0) = false := by simp; omega
    have hNp : (0 : Int) < (N : Int) := by omega
    subst hl1
    have hR := HGR.out
    have hx2 := HN.out.1
    have hx3 := HN.out.2.1
    have hx4 := (HQ.out.1).later HG.out.below
    cases x with
    | nil => exact absurd hx3 hN0
    | cons l0 k0 h a1 x0 r0 =>
    rw [guessP, if_neg (by simp [Fo.len]), <- hx2] at hR
    obtain ⟨bq, oq, rfl, _, c0, c1, c2, c3, ⟨q4, d4, c4', _⟩, _⟩ := hx4
    have HA := Lib.hid HG.out.arr
    have HV := Lib.hid HG.out.row
    have HC0 := Lib.hid (And.intro c0 (And.intro c1 (And.intro c2 (And.intro c3 c4'))))
    obtain ⟨A, hA⟩ : ∃ A, A = (valsF f).getD 0 0 := ⟨_, rfl⟩
    obtain ⟨B, hB⟩ : ∃ B, B = (valsF f).getD 1 0 := ⟨_, rfl⟩
    obtain ⟨C, hC⟩ : ∃ C, C = (valsF f).drop 2 := ⟨_, rfl⟩
    rw [<- hA, <- hB, <- hC] at hR
    rw [<- hC] at HV
    rw [<- hA, <- hB] at HA
    have hCl : n4 = C.length := by rw [HN4.out, hC, List.length_drop, valsF_len]
    have HCl := Lib.hid hCl
    have hdse : hdS (.cons l0 k0 h a1 x0 r0) = h := rfl
    rw [hdse] at hR
    have HR := Lib.hid hR
    obtain ⟨A0, A1, A2, Af⟩ := HA.out
    clear hdse hA hB hC hCl hR hx2 hx3 hzero hN0 HN4 HN HQ HGR
    go_wp2_with fail
    go_quiet (fail)
    have hbd := below_drewN wr nq
    have HG2 := Lib.hid (HG.out.below.trans (hbd.mono HG.out.below.size))
    clear y0 y1 y2 y3 y4 yf z0 z1 z2 z3 z4 z5 z6 zf c0 c1 c2 c3 c4' A0 A1 A2 Af
    obtain ⟨y0, y1, y2, y3, y4, yf⟩ := HG.out.box.later hbd
    obtain ⟨z0, z1, z2, z3, z4, z5, z6, zf⟩ := HG.out.res.later hbd
    have c0 := cell_later hbd HC0.out.1
    have c1 := cell_later hbd HC0.out.2.1
    have c2 := cell_later hbd HC0.out.2.2.1
    have c3 := cell_later hbd HC0.out.2.2.2.1
    have c4' := cell_later hbd HC0.out.2.2.2.2
    have HV2 := Lib.hid (show ∀ w', Only (fun k => k = W.heap.size + 1) (wr.drewN nq) w' -> OwnI 3 w' (fun b => W.heap.size <= b) (.slice p4 C.length c4) C from fun w' ho => by
     have h8 := ((HV.out.later hbd).only ho (fun b hb e => by omega)).mono (F' := fun b => W.heap.size <= b) (fun b hb _ => by omega)
     rw [HCl.out] at h8
     exact h8)
    clear hbd
    by_cases g1 : h = hGiven
    ·have t1 : (h.toList == [103, 105, 118, 101, 110]) = true := by rw [beq_iff_eq, g1, ByteArray.toList_eq]; rfl
     have hR : R = ⟨1, A, 0, 0, 0, 0, []⟩ := by rw [HR.out, guessV, if_pos g1]
     subst hR
     clear g1
     go_wp2_with fail
     refine bodyPost_ret (v := .agg #[.int .u8 1, .int .i64 A, .int .i64 0, .int .i64 0, .int .i64 0, .int .i64 0, .slice none 0 0]) (by simp [results, Tryz.results56, go_sem, z0, z1, z2, z3, z4, z5, z6]) rfl ⟨⟨none, 0, rfl, hz6 _⟩, HG2.out.trans ((only7 (wr.drewN nq) (W.heap.size + 1) _ _ _ _ _ _ _).below (fun k e => by omega) HG2.out.size)⟩
    have t1 : (h.toList == [103, 105, 118, 101, 110]) = false := beq_eq_false_iff_ne.2 (fun e => g1 (toList_byte (e.trans (by rw [ByteArray.toList_eq]; rfl))))
    by_cases g2 : h = hSame
    ·have t2 : (h.toList == [115, 97, 109, 101]) = true := by rw [beq_iff_eq, g2, ByteArray.toList_eq]; rfl
     have hR : R = ⟨2, 0, A, 0, 0, 0, []⟩ := by rw [HR.out, guessV, if_neg g1, if_pos g2]
     subst hR
     clear g1 g2
     go_wp2_with fail
     refine bodyPost_ret (v := .agg #[.int .u8 2, .int .i64 0, .int .i64 A, .int .i64 0, .int .i64 0, .int .i64 0, .slice none 0 0]) (by simp [results, Tryz.results56, go_sem, z0, z1, z2, z3, z4, z5, z6]) rfl ⟨⟨none, 0, rfl, hz6 _⟩, HG2.out.trans ((only7 (wr.drewN nq) (W.heap.size + 1) _ _ _ _ _ _ _).below (fun k e => by omega) HG2.out.size)⟩
    have t2 : (h.toList == [115, 97, 109, 101]) = false := beq_eq_false_iff_ne.2 (fun e => g2 (toList_byte (e.trans (by rw [ByteArray.toList_eq]; rfl))))
    by_cases g3 : h = hTurn
    ·have t3 : (h.toList == [116, 117, 114, 110]) = true := by rw [beq_iff_eq, g3, ByteArray.toList_eq]; rfl
     have hR : R = ⟨3, 0, 0, 0, A, 0, []⟩ := by rw [HR.out, guessV, if_neg g1, if_neg g2, if_pos g3]
     subst hR
     clear g1 g2 g3
     go_wp2_with fail
     refine bodyPost_ret (v := .agg #[.int .u8 3, .int .i64 0, .int .i64 0, .int .i64 0, .int .i64 A, .int .i64 0, .slice none 0 0]) (by simp [results, Tryz.results56, go_sem, z0, z1, z2, z3, z4, z5, z6]) rfl ⟨⟨none, 0, rfl, hz6 _⟩, HG2.out.trans ((only7 (wr.drewN nq) (W.heap.size + 1) _ _ _ _ _ _ _).below (fun k e => by omega) HG2.out.size)⟩
    have t3 : (h.toList == [116, 117, 114, 110]) = false := beq_eq_false_iff_ne.2 (fun e => g3 (toList_byte (e.trans (by rw [ByteArray.toList_eq]; rfl))))
    by_cases g4 : h = hThen
    ·have t4 : (h.toList == [116, 104, 101, 110]) = true := by rw [beq_iff_eq, g4, ByteArray.toList_eq]; rfl
     have hR : R = ⟨4, 0, 0, 0, A, B, []⟩ := by rw [HR.out, guessV, if_neg g1, if_neg g2, if_neg g3, if_pos g4]
     subst hR
     clear g1 g2 g3 g4
     go_wp2_with fail
     refine bodyPost_ret (v := .agg #[.int .u8 4, .int .i64 0, .int .i64 0, .int .i64 0, .int .i64 A, .int .i64 B, .slice none 0 0]) (by simp [results, Tryz.results56, go_sem, z0, z1, z2, z3, z4, z5, z6]) rfl ⟨⟨none, 0, rfl, hz6 _⟩, HG2.out.trans ((only7 (wr.drewN nq) (W.heap.size + 1) _ _ _ _ _ _ _).below (fun k e => by omega) HG2.out.size)⟩
    have t4 : (h.toList == [116, 104, 101, 110]) = false := beq_eq_false_iff_ne.2 (fun e => g4 (toList_byte (e.trans (by rw [ByteArray.toList_eq]; rfl))))
    by_cases g5 : h = hApply
    ·have t5 : (h.toList == [97, 112, 112, 108, 121]) = true := by rw [beq_iff_eq, g5, ByteArray.toList_eq]; rfl
     have hR : R = ⟨5, 0, A, B, 0, 0, C⟩ := by rw [HR.out, guessV, if_neg g1, if_neg g2, if_neg g3, if_neg g4, if_pos g5]
     subst hR
     clear g1 g2 g3 g4 g5
     go_wp2_with fail
     have h7 := only7 (wr.drewN nq) (W.heap.size + 1) (.int .u8 5) (.int .i64 0) (.int .i64 A) (.int .i64 B) (.int .i64 0) (.int .i64 0) (.slice p4 n4 c4)
     refine bodyPost_ret (v := .agg #[.int .u8 5, .int .i64 0, .int .i64 A, .int .i64 B, .int .i64 0, .int .i64 0, .slice p4 n4 c4]) (by simp [results, Tryz.results56, go_sem, z0, z1, z2, z3, z4, z5, z6]) rfl ⟨⟨p4, c4, by simp only [lkV, HCl.out], ?_⟩, HG2.out.trans (h7.below (fun k e => by omega) HG2.out.size)⟩
     exact HV2.out _ h7
    have t5 : (h.toList == [97, 112, 112, 108, 121]) = false := beq_eq_false_iff_ne.2 (fun e => g5 (toList_byte (e.trans (by rw [ByteArray.toList_eq]; rfl))))
    by_cases g6 : h = hAgainst
    ·have t6 : (h.toList == [97, 103, 97, 105, 110, 115, 116]) = true := by rw [beq_iff_eq, g6, ByteArray.toList_eq]; rfl
     have hR : R = ⟨6, A, 0, 0, B, 0, []⟩ := by rw [HR.out, guessV, if_neg g1, if_neg g2, if_neg g3, if_neg g4, if_neg g5, if_pos g6]
     subst hR
     clear g1 g2 g3 g4 g5 g6
     go_wp2_with fail
     refine bodyPost_ret (v := .agg #[.int .u8 6, .int .i64 A, .int .i64 0, .int .i64 0, .int .i64 B, .int .i64 0, .slice none 0 0]) (by simp [results, Tryz.results56, go_sem, z0, z1, z2, z3, z4, z5, z6]) rfl ⟨⟨none, 0, rfl, hz6 _⟩, HG2.out.trans ((only7 (wr.drewN nq) (W.heap.size + 1) _ _ _ _ _ _ _).below (fun k e => by omega) HG2.out.size)⟩
    have t6 : (h.toList == [97, 103, 97, 105, 110, 115, 116]) = false := beq_eq_false_iff_ne.2 (fun e => g6 (toList_byte (e.trans (by rw [ByteArray.toList_eq]; rfl))))
    by_cases g7 : h = hClash
    ·have t7 : (h.toList == [99, 108, 97, 115, 104]) = true := by rw [beq_iff_eq, g7, ByteArray.toList_eq]; rfl
     have hR : R = ⟨7, 0, 0, 0, A, 0, []⟩ := by rw [HR.out, guessV, if_neg g1, if_neg g2, if_neg g3, if_neg g4, if_neg g5, if_neg g6, if_pos g7]
     subst hR
     clear g1 g2 g3 g4 g5 g6 g7
     go_wp2_with fail
     refine bodyPost_ret (v := .agg #[.int .u8 7, .int .i64 0, .int .i64 0, .int .i64 0, .int .i64 A, .int .i64 0, .slice none 0 0]) (by simp [results, Tryz.results56, go_sem, z0, z1, z2, z3, z4, z5, z6]) rfl ⟨⟨none, 0, rfl, hz6 _⟩, HG2.out.trans ((only7 (wr.drewN nq) (W.heap.size + 1) _ _ _ _ _ _ _).below (fun k e => by omega) HG2.out.size)⟩
    have t7 : (h.toList == [99, 108, 97, 115, 104]) = false := beq_eq_false_iff_ne.2 (fun e => g7 (toList_byte (e.trans (by rw [ByteArray.toList_eq]; rfl))))
    have hR : R = zLk := by rw [HR.out, guessV, if_neg g1, if_neg g2, if_neg g3, if_neg g4, if_neg g5, if_neg g6, if_neg g7]; rfl
    subst hR
    clear g1 g2 g3 g4 g5 g6 g7
    go_wp2_with fail
    refine bodyPost_ret (v := .agg #[.int .u8 0, .int .i64 0, .int .i64 0, .int .i64 0, .int .i64 0, .int .i64 0, .slice none 0 0]) (by simp [results, Tryz.results56, go_sem, z0, z1, z2, z3, z4, z5, z6]) rfl ⟨⟨none, 0, rfl, hz6 _⟩, HG2.out.trans ((only7 (wr.drewN nq) (W.heap.size + 1) _ _ _ _ _ _ _).below (fun k e => by omega) HG2.out.size)⟩
  | cons l1 k1 s1 a1 x1 r =>
   have hne : N = f.len + 1 := by
    apply HN.out.2.2.2
    intro h
    have h2 := HN.out.1
    have h3 := HN.out.2.1
    rw [h] at h3
    cases x with
    | nil => rw [h2] at hfg; cases pre <;> cases hfg
    | cons _ _ _ _ _ _ => simp [Fo.len] at h3
   have hkn : m < N := by have := hg.len; simp [Fo.len] at hlen; omega
   have k1' : (m : Int) < (N : Int) := Int.ofNat_lt.2 hkn
   obtain ⟨bq, oq, hqe⟩ : ∃ bq oq, q = some ⟨bq, oq, none⟩ := HQ.out.1.some (by rw [<- HN.out.2.1]; omega)
   subst hqe
   obtain ⟨hFq, c0, c1, c2, c3, ⟨q4, d4, c4', hl4, hm4, hq4⟩, hr⟩ := hg.fo.head
   have HS := Lib.hid (step_ok hkn (show N <= 9223372036854775807 from by omega))
   have HG := Lib.hid hg
   have HR := Lib.hid hr
   have HFG := Lib.hid (And.intro hfg (And.intro hk (And.intro htx hkn)))
   obtain ⟨v, hv⟩ : ∃ v, v = valP l1 s1 x1 := ⟨_, rfl⟩
   have HN7 := Lib.hid (fun (w : World) (hb : FoIn w F1 x1 q4) => value55 x1 l1 k1 s1 a1 q4 d4 w F1 hb hl4 hm4 htx.1 htx.2.1)
   rw [<- hv] at HN7
   have HQ4 := Lib.hid hq4
   have HCC := Lib.hid (And.intro hFq (And.intro c0 (And.intro c1 (And.intro c2 (And.intro c3 c4')))))
   have HV := Lib.hid hv
   have HSN := Lib.hid (show valsF (pre.snoc l1 k1 s1 a1 x1) = valsF pre ++ [v] /\ (valsF pre).length + 1 = m /\ f = (pre.snoc l1 k1 s1 a1 x1).app r /\ (pre.snoc l1 k1 s1 a1 x1).len + 1 = m + 1 /\ W.heap.size + 3 <= wr.heap.size from ⟨by rw [valsF_snoc, <- hv], by rw [valsF_len, hg.len], by rw [hfg, Fo.snoc_app], by rw [Fo.len_snoc, hg.len], hg.arr.lt⟩)
   obtain ⟨y0, y1, y2, y3, y4, yf⟩ := hg.box
   obtain ⟨G, rfl⟩ : ∃ G, gk = G + 1 := ⟨gk - 1, by simp [Fo.len] at hlen; have := hg.len; omega⟩
   have hm1 : 1 <= m := by have := hg.len; omega
   unfold trV at HN7
   clear hk hfg htx hg hlen hkn hl4 hm4 hq4 hr hv hne hFq
   by_cases hm1 : m = 1
   ·subst hm1
    have HC1 := Lib.hid (HN7.out wr HQ4.out)
    go_wp2_with fail
    refine HC1.out.mono ?_
    rintro e w4 ⟨rfl, hb4⟩
    clear HC1 c0 c1 c2 c3 c4' y0 y1 y2 y3 y4 yf
    have HB4 := Lib.hid hb4
    have HA4 := Lib.hid (HG.out.arr.later hb4)
    obtain ⟨A0, A1, A2, Af⟩ := HA4.out
    have HV4 := Lib.hid (HG.out.row.later hb4)
    have hsz4 := Nat.le_trans HSN.out.2.2.2.2 hb4.size
    clear hb4
    have HF := Lib.hid (show G56 W (some ⟨bq, oq, none⟩) F1 l k s a0 c N (1 + 1) (pre.snoc l1 k1 s1 a1 x1) r (.slice p4 n4 c4) (w4.setCell ⟨W.heap.size + 2, 0, none⟩ (.int .i64 v)) from by
     refine HG.out.next HR.out (fun b hb => (HF1.out b hb).2) ((Only.of_below (T := fun k => k = W.heap.size + 2) HB4.out).trans (Only.of_setCell w4 ⟨W.heap.size + 2, 0, none⟩ _)) (fun k e => by omega) ?_ ?_ HSN.out.2.2.2.1
     ·rw [HSN.out.1, getD_snoc_same _ _ 0 (by have := HSN.out.2.1; omega), getD_snoc_lt _ _ 1 (by have := HSN.out.2.1; omega), getD_snoc_lt _ _ 2 (by have := HSN.out.2.1; omega)]
      exact HA4.out.set0 v
     ·rw [HSN.out.1, List.drop_eq_nil_of_le (by have := HSN.out.2.1; simp; omega)]
      have h1 := HV4.out.only (Only.of_setCell w4 ⟨W.heap.size + 2, 0, none⟩ (.int .i64 v)) (fun b hb e => by simp only at e; omega)
      rw [List.drop_eq_nil_of_le (by have := HSN.out.2.1; omega)] at h1
      exact h1)
    go_wp2_with fail
    go_roundg G
    case measure => omega
    case rel => exact ⟨2, p4, n4, c4, by have := HFG.out.2.1; omega, rfl, rfl, Lib.hid ⟨pre.snoc l1 k1 s1 a1 x1, r, HSN.out.2.2.1, HFG.out.2.2.1.2.2, by rw [HN4.out]; have := HSN.out.2.2.2.1; have := HG.out.len; omega, HF.out⟩⟩
   by_cases hm2 : m = 2
   ·subst hm2
    have HC1 := Lib.hid (HN7.out wr HQ4.out)
    go_wp2_with fail
    refine HC1.out.mono ?_
    rintro e w4 ⟨rfl, hb4⟩
    clear HC1 c0 c1 c2 c3 c4' y0 y1 y2 y3 y4 yf
    have HB4 := Lib.hid hb4
    have HA4 := Lib.hid (HG.out.arr.later hb4)
    obtain ⟨A0, A1, A2, Af⟩ := HA4.out
    have HV4 := Lib.hid (HG.out.row.later hb4)
    have hsz4 := Nat.le_trans HSN.out.2.2.2.2 hb4.size
    clear hb4
    have HF := Lib.hid (show G56 W (some ⟨bq, oq, none⟩) F1 l k s a0 c N (2 + 1) (pre.snoc l1 k1 s1 a1 x1) r (.slice p4 n4 c4) (w4.setCell ⟨W.heap.size + 2, 1, none⟩ (.int .i64 v)) from by
     refine HG.out.next HR.out (fun b hb => (HF1.out b hb).2) ((Only.of_below (T := fun k => k = W.heap.size + 2) HB4.out).trans (Only.of_setCell w4 ⟨W.heap.size + 2, 1, none⟩ _)) (fun k e => by omega) ?_ ?_ HSN.out.2.2.2.1
     ·rw [HSN.out.1, getD_snoc_lt _ _ 0 (by have := HSN.out.2.1; omega), getD_snoc_same _ _ 1 (by have := HSN.out.2.1; omega), getD_snoc_lt _ _ 2 (by have := HSN.out.2.1; omega)]
      exact HA4.out.set1 v
     ·rw [HSN.out.1, List.drop_eq_nil_of_le (by have := HSN.out.2.1; simp; omega)]
      have h1 := HV4.out.only (Only.of_setCell w4 ⟨W.heap.size + 2, 1, none⟩ (.int .i64 v)) (fun b hb e => by simp only at e; omega)
      rw [List.drop_eq_nil_of_le (by have := HSN.out.2.1; omega)] at h1
      exact h1)
    go_wp2_with fail
    go_roundg G
    case measure => omega
    case rel => exact ⟨3, p4, n4, c4, by have := HFG.out.2.1; omega, rfl, rfl, Lib.hid ⟨pre.snoc l1 k1 s1 a1 x1, r, HSN.out.2.2.1, HFG.out.2.2.1.2.2, by rw [HN4.out]; have := HSN.out.2.2.2.1; have := HG.out.len; omega, HF.out⟩⟩
   by_cases hm3 : m = 3
   ·subst hm3
    have HC1 := Lib.hid (HN7.out wr HQ4.out)
    go_wp2_with fail
    refine HC1.out.mono ?_
    rintro e w4 ⟨rfl, hb4⟩
    clear HC1 c0 c1 c2 c3 c4' y0 y1 y2 y3 y4 yf
    have HB4 := Lib.hid hb4
    have HA4 := Lib.hid (HG.out.arr.later hb4)
    obtain ⟨A0, A1, A2, Af⟩ := HA4.out
    have HV4 := Lib.hid (HG.out.row.later hb4)
    have hsz4 := Nat.le_trans HSN.out.2.2.2.2 hb4.size
    clear hb4
    obtain ⟨w5, hw5⟩ : ∃ w5, w5 = w4.setCell ⟨W.heap.size + 2, 2, none⟩ (.int .i64 v) := ⟨_, rfl⟩
    have HO5 := Lib.hid (show Only (fun k => k = W.heap.size + 2) w4 w5 from by rw [hw5]; exact Only.of_setCell w4 ⟨W.heap.size + 2, 2, none⟩ _)
    have HA5 := Lib.hid (show A3 w5 (W.heap.size + 2) ((valsF pre).getD 0 0) ((valsF pre).getD 1 0) v from by rw [hw5]; exact HA4.out.set2 v)
    have hnb : ∀ b, F1 b -> ¬ (b = W.heap.size + 2) := fun b hb e => by have := (HF1.out b hb).2; omega
    have hnq := hnb bq HCC.out.1
    have c0 := HO5.out.cell (cell_later HB4.out HCC.out.2.1) hnq
    have c1 := HO5.out.cell (cell_later HB4.out HCC.out.2.2.1) hnq
    have c2 := HO5.out.cell (cell_later HB4.out HCC.out.2.2.2.1) hnq
    have c3 := HO5.out.cell (cell_later HB4.out HCC.out.2.2.2.2.1) hnq
    have c4' := HO5.out.cell (cell_later HB4.out HCC.out.2.2.2.2.2) hnq
    obtain ⟨y0, y1, y2, y3, y4, yf⟩ := (HG.out.box.later HB4.out).only HO5.out (fun e => by omega)
    have HC5 := Lib.hid (HN7.out w5 ((HQ4.out.later HB4.out).only HO5.out hnb))
    have HV5 := Lib.hid (HV4.out.only HO5.out (fun b hb e => by omega))
    have hsz5 : W.heap.size + 3 <= w5.heap.size := Nat.le_trans hsz4 HO5.out.size
    have HW5 := Lib.hid hw5
    rw [hw5] at c0 c1 c2 c3 c4' y0 y1 y2 y3 y4 yf
    clear hw5 hnb hnq
    go_wp2_with fail
    rw [<- HW5.out]
    refine HC5.out.mono ?_
    rintro e w6 ⟨rfl, hb6⟩
    have HB6 := Lib.hid hb6
    have HV6 := Lib.hid (HV5.out.later hb6)
    have HA6 := Lib.hid (HA5.out.later hb6)
    have hsz6 := Nat.le_trans hsz5 hb6.size
    have HO6 := Lib.hid (show Only (fun k => W.heap.size + 2 <= k) wr w6 from ((Only.of_below HB4.out).trans (HO5.out.mono (fun k _ e => by omega))).trans (Only.of_below HB6.out))
    clear hb6 HC5 HW5 A0 A1 A2 Af y0 y1 y2 y3 y4 yf c0 c1 c2 c3 c4'
    obtain ⟨w7, hw7⟩ : ∃ w7, w7 = w6.alloc (.cells #[.int .i64 v] 3) := ⟨_, rfl⟩
    have HB7 := Lib.hid (show Below w6.heap.size w6 w7 from by rw [hw7]; exact below1 _ _)
    have HI7 := Lib.hid (show IntsIn w7 (some ⟨w6.heap.size, 0, none⟩) [v] from by rw [hw7]; exact int_one _ _)
    have HV7 := Lib.hid (HV6.out.later HB7.out)
    have HSZ7 := Lib.hid (Nat.le_trans hsz6 HB7.out.size)
    have HW7 := Lib.hid hw7
    clear hw7 hsz4 hsz6 hsz5
    go_wp2_with (at_builtin; rw [<- HW7.out]; refine wpList_join_ints intE62 (by rfl) _ _ (by rfl) (fun b => W.heap.size + 3 <= b) (.slice p4 n4 c4) ((valsF pre).drop 2) (some ⟨w6.heap.size, 0, none⟩) 1 1 [v] (by rfl) (by rfl) HV7.out HI7.out rfl (fun h => by cases h) HSZ7.out (by have := HSN.out.2.1; have := HFG.out.2.2.2; simp; omega) (by simp) ?_)
    intro p8 c8 w8 hown8 ho8 _
    have hoT : ∀ j, (Value.slice p4 n4 c4).ownBlock = some j -> W.heap.size + 3 <= j := fun j e => (HV7.out.blk j e).1
    have HF := Lib.hid (show G56 W (some ⟨bq, oq, none⟩) F1 l k s a0 c N (3 + 1) (pre.snoc l1 k1 s1 a1 x1) r (.slice p8 ((valsF pre).length - 2 + 1) c8) w8 from by
     refine HG.out.next (T := fun k => W.heap.size + 2 <= k) HR.out (fun b hb => (HF1.out b hb).2) ((HO6.out.trans (Only.of_below HB7.out)).trans (ho8.mono (fun j _ e => by have := hoT j e; omega))) (fun k e => e) ?_ ?_ HSN.out.2.2.2.1
     ·rw [HSN.out.1, getD_snoc_lt _ _ 0 (by have := HSN.out.2.1; omega), getD_snoc_lt _ _ 1 (by have := HSN.out.2.1; omega), getD_snoc_same _ _ 2 (by have := HSN.out.2.1; omega)]
      exact (HA6.out.later HB7.out).only ho8 (fun e => by have := hoT _ e; omega)
     ·rw [HSN.out.1, List.drop_append_of_le_length (by have := HSN.out.2.1; omega)]
      exact hown8)
    clear hown8 ho8 hoT
    go_wp2_with fail
    go_roundg G
    case measure => omega
    case rel => exact ⟨3 + 1, p8, (valsF pre).length - 2 + 1, c8, by have := HFG.out.2.1; omega, rfl, by first | rfl | rw [HS.out.2.2], Lib.hid ⟨pre.snoc l1 k1 s1 a1 x1, r, HSN.out.2.2.1, HFG.out.2.2.1.2.2, by have h1 := HSN.out.2.2.2.1; have h2 := HSN.out.2.1; omega, HF.out⟩⟩
   have hge : (2 : Int) < (m : Int) := by omega
   have hle : ¬ (m : Int) <= 3 := by omega
   have HC1 := Lib.hid (HN7.out wr HQ4.out)
   go_wp2_with fail
   refine HC1.out.mono ?_
   rintro e w4 ⟨rfl, hb4⟩
   clear HC1 c0 c1 c2 c3 c4' y0 y1 y2 y3 y4 yf
   have HB4 := Lib.hid hb4
   have HA4 := Lib.hid (HG.out.arr.later hb4)
   obtain ⟨A0, A1, A2, Af⟩ := HA4.out
   have HV4 := Lib.hid (HG.out.row.later hb4)
   have hsz4 := Nat.le_trans HSN.out.2.2.2.2 hb4.size
   obtain ⟨w6, hw6⟩ : ∃ w6, w6 = w4 := ⟨_, rfl⟩
   subst hw6
   have HV6 := Lib.hid HV4.out
   have HA6 := Lib.hid HA4.out
   have hsz6 := hsz4
   have HO6 := Lib.hid (show Only (fun k => W.heap.size + 2 <= k) wr w6 from Only.of_below HB4.out)
   clear hb4 A0 A1 A2 Af
   obtain ⟨w7, hw7⟩ : ∃ w7, w7 = w6.alloc (.cells #[.int .i64 v] 3) := ⟨_, rfl⟩
   have HB7 := Lib.hid (show Below w6.heap.size w6 w7 from by rw [hw7]; exact below1 _ _)
   have HI7 := Lib.hid (show IntsIn w7 (some ⟨w6.heap.size, 0, none⟩) [v] from by rw [hw7]; exact int_one _ _)
   have HV7 := Lib.hid (HV6.out.later HB7.out)
   have HSZ7 := Lib.hid (Nat.le_trans hsz6 HB7.out.size)
   have HW7 := Lib.hid hw7
   clear hw7 hsz4 hsz6
   go_wp2_with (at_builtin; rw [<- HW7.out]; refine wpList_join_ints intE62 (by rfl) _ _ (by rfl) (fun b => W.heap.size + 3 <= b) (.slice p4 n4 c4) ((valsF pre).drop 2) (some ⟨w6.heap.size, 0, none⟩) 1 1 [v] (by rfl) (by rfl) HV7.out HI7.out rfl (fun h => by cases h) HSZ7.out (by have := HSN.out.2.1; have := HFG.out.2.2.2; simp; omega) (by simp) ?_)
   intro p8 c8 w8 hown8 ho8 _
   have hoT : ∀ j, (Value.slice p4 n4 c4).ownBlock = some j -> W.heap.size + 3 <= j := fun j e => (HV7.out.blk j e).1
   have HF := Lib.hid (show G56 W (some ⟨bq, oq, none⟩) F1 l k s a0 c N (m + 1) (pre.snoc l1 k1 s1 a1 x1) r (.slice p8 ((valsF pre).length - 2 + 1) c8) w8 from by
    refine HG.out.next (T := fun k => W.heap.size + 2 <= k) HR.out (fun b hb => (HF1.out b hb).2) ((HO6.out.trans (Only.of_below HB7.out)).trans (ho8.mono (fun j _ e => by have := hoT j e; omega))) (fun k e => e) ?_ ?_ HSN.out.2.2.2.1
    ·rw [HSN.out.1, getD_snoc_lt _ _ 0 (by have := HSN.out.2.1; omega), getD_snoc_lt _ _ 1 (by have := HSN.out.2.1; omega), getD_snoc_lt _ _ 2 (by have := HSN.out.2.1; omega)]
     exact (HA6.out.later HB7.out).only ho8 (fun e => by have := hoT _ e; omega)
    ·rw [HSN.out.1, List.drop_append_of_le_length (by have := HSN.out.2.1; omega)]
     exact hown8)
   clear hown8 ho8 hoT
   go_wp2_with fail
   go_roundg G
   case measure => omega
   case rel => exact ⟨m + 1, p8, (valsF pre).length - 2 + 1, c8, by have := HFG.out.2.1; omega, rfl, by first | rfl | rw [HS.out.2.2], Lib.hid ⟨pre.snoc l1 k1 s1 a1 x1, r, HSN.out.2.2.1, HFG.out.2.2.1.2.2, by have h1 := HSN.out.2.2.2.1; have h2 := HSN.out.2.1; omega, HF.out⟩⟩
end Go.Proofs.YtookoagcmejkpaaGreatDoor
