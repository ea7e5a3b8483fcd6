/- The step that a tree would be: the document's Read. -/
import Derived.Test.YtookoagcmejkpaaGreatDoorS50
import Derived.Test.YtookoagcmejkpaaGreatDoorS17
import Derived.Test.YtookoagcmejkpaaGreatDoorJ24
import Derived.Test.YtookoagcmejkpaaGreatDoorJ3
namespace Go.Proofs.YtookoagcmejkpaaGreatDoor
set_option maxRecDepth 100000
open Go Go.RowKit Go.Maps
structure D20 (W : World) (q : Option Addr) (F1 : Nat -> Prop) (l : Bool) (k : Int) (s : ByteArray) (a0 : Int) (c N : Nat) (x : Fo) (k2 : Int) (v1 v2 : Value) (a b : Int) (w : World) : Prop where
 box : BoxT w W.heap.size l k s a0 (.slice q N c)
 res : BoxS w (W.heap.size + 1) 0 (.slice none 0 0) (.slice none 0 0) 0 0
 st : BoxS w (W.heap.size + 2) k2 v1 v2 a b
 fo : FoIn w F1 x q
 below : Below W.heap.size W w
section
variable {W : World} {q : Option Addr} {F1 : Nat -> Prop} {l : Bool} {k : Int} {s : ByteArray} {a0 : Int} {c N : Nat} {x : Fo} {k2 k2' : Int} {v1 v2 v1' v2' : Value} {a b a' b' : Int} {w w' : World}
theorem D20.next (h : D20 W q F1 l k s a0 c N x k2 v1 v2 a b w) {T : Nat -> Prop} (ho : Only T w w') (hF : ∀ b, F1 b -> b < W.heap.size) (hT : ∀ k, T k -> W.heap.size + 2 <= k) (hs : BoxS w' (W.heap.size + 2) k2' v1' v2' a' b') : D20 W q F1 l k s a0 c N x k2' v1' v2' a' b' w' where
 box := h.box.only ho (fun e => by have := hT _ e; omega)
 res := h.res.only ho (fun e => by have := hT _ e; omega)
 st := hs
 fo := h.fo.only ho (fun b hb e => by have := hT _ e; have := hF b hb; omega)
 below := h.below.trans (ho.below (B := W.heap.size) (fun k e => by have := hT _ e; omega) h.below.size)
theorem D20.only (h : D20 W q F1 l k s a0 c N x k2 v1 v2 a b w) {T : Nat -> Prop} (ho : Only T w w') (hF : ∀ b, F1 b -> b < W.heap.size) (hT : ∀ k, T k -> W.heap.size + 3 <= k) : D20 W q F1 l k s a0 c N x k2 v1 v2 a b w' :=
 h.next ho hF (fun k e => by have := hT _ e; omega) (h.st.only ho (fun e => by have := hT _ e; omega))
theorem D20.later (h : D20 W q F1 l k s a0 c N x k2 v1 v2 a b w) (hF : ∀ b, F1 b -> b < W.heap.size) (hb : Below w.heap.size w w') : D20 W q F1 l k s a0 c N x k2 v1 v2 a b w' :=
 h.only (Only.of_below (T := fun _ => False) hb) hF (fun _ e => e.elim)
theorem D20.le (h : D20 W q F1 l k s a0 c N x k2 v1 v2 a b w) : W.heap.size + 3 <= w.heap.size := h.st.lt
end
theorem boxS_five {w : World} {B : Nat} {k x y : Int} {v1 v2 : Value} (h : BoxS w B k v1 v2 x y) (k' x' y' : Int) (u1 u2 : Value) : BoxS (((((w.setCell ⟨B, 0, none⟩ (.int .u8 k')).setCell ⟨B, 1, none⟩ u1).setCell ⟨B, 2, none⟩ u2).setCell ⟨B, 3, none⟩ (.int .i64 x')).setCell ⟨B, 4, none⟩ (.int .i64 y')) B k' u1 u2 x' y' := by
 obtain ⟨h0, h1, h2, h3, h4, hf⟩ := h
 refine ⟨?_, ?_, ?_, ?_, ?_, fun o => ?_⟩
 all_goals simp [go_sem, h0, h1, h2, h3, h4, hf]
theorem boxS_kind {w : World} {B : Nat} {k x y : Int} {v1 v2 : Value} (h : BoxS w B k v1 v2 x y) (k' : Int) : BoxS (w.setCell ⟨B, 0, none⟩ (.int .u8 k')) B k' v1 v2 x y := by
 obtain ⟨h0, h1, h2, h3, h4, hf⟩ := h
 refine ⟨?_, ?_, ?_, ?_, ?_, fun o => ?_⟩
 all_goals simp [go_sem, h0, h1, h2, h3, h4, hf]
theorem int_one44 (w : World) (v : Int) : IntsIn (w.alloc (.cells #[.int .i64 v] 44)) (some ⟨w.heap.size, 0, none⟩) [v] := by
 intro t ht
 match t, ht with
 | 0, _ => exact ⟨_, 0, rfl, by simp [go_sem]⟩
structure G20 (W : World) (q : Option Addr) (F1 : Nat -> Prop) (l : Bool) (k : Int) (s : ByteArray) (a0 : Int) (c N : Nat) (x : Fo) (m : Nat) (pre g : Fo) (v4 : Value) (w : World) : Prop where
 d : D20 W q F1 l k s a0 c N x 0 (.slice none 0 0) (.slice none 0 0) 0 0 w
 row : OwnI 44 w (fun b => W.heap.size + 3 <= b) v4 (valsF pre)
 fo : FoIn w F1 g (pl q m)
 len : pre.len + 1 = m
structure H20 (W : World) (q : Option Addr) (F1 : Nat -> Prop) (l : Bool) (k : Int) (s : ByteArray) (a0 : Int) (c N : Nat) (x : Fo) (m : Nat) (pre g : Fo) (v4 : Value) (w : World) : Prop where
 d : D20 W q F1 l k s a0 c N x 2 (.slice none 0 0) v4 0 0 w
 row : OwnK w (fun b => W.heap.size + 3 <= b) v4 (guessF pre)
 fo : FoIn w F1 g (pl q m)
 len : pre.len + 1 = m
set_option maxHeartbeats 6400000 in
theorem readD20 (l : Bool) (k : Int) (s : ByteArray) (a0 : Int) (x : Fo) (q : Option Addr) (c : Nat) (F : Nat -> Prop) (W : World) (hq : FoIn W F x q) (hc : x.len <= c) (hl : x.len <= 1000000000) (hx : TxOK x) (hln : LnOK x) :
  Calls Tryz.prog 20 #[trV l k s a0 q x.len c] W fun e w' => ReadR W w' e (readD l k s x) := by
 obtain ⟨N, hN⟩ : ∃ N, N = x.len := ⟨_, rfl⟩
 have HN := Lib.hid hN
 obtain ⟨F1, hF1⟩ : ∃ F1 : Nat -> Prop, F1 = fun b => F b /\ b < W.heap.size := ⟨_, rfl⟩
 have hq1 : FoIn W F1 x q := by rw [hF1]; exact hq.mono (fun b hb hl => ⟨hb, hl⟩)
 have HF1 := Lib.hid (show ∀ b, F1 b -> b < W.heap.size from fun b hb => by rw [hF1] at hb; exact hb.2)
 have HQ := Lib.hid (And.intro hq1 (And.intro hx (And.intro hln (And.intro hc hl))))
 obtain ⟨R, hR⟩ : ∃ R, R = readD l k s x := ⟨_, rfl⟩
 have HR := Lib.hid hR
 rw [<- hR]
 rw [<- hN] at hc hl ⊢
 have n1 : (N : Int) <= 1000000000 := by omega
 clear hF1 hq1 hq hx hln hc hN hR
 obtain ⟨w2, hw2⟩ : ∃ w2, w2 = (W.alloc (.cells #[.bool l, .int .u8 k, .string s, .int .i64 a0, .slice q N c] 35)).alloc (.cells #[.int .u8 0, .slice none 0 0, .slice none 0 0, .int .i64 0, .int .i64 0] 26) := ⟨_, rfl⟩
 have hb2 : Below W.heap.size W w2 := by rw [hw2]; exact (below1 W _).alloc (by simp) _
 have HBX := Lib.hid (show BoxT w2 W.heap.size l k s a0 (.slice q N c) from by
  have h := (box_new W l k s a0 (.slice q N c)).later (below1 _ (.cells #[.int .u8 0, .slice none 0 0, .slice none 0 0, .int .i64 0, .int .i64 0] 26))
  rw [hw2]; exact h)
 have HZ := Lib.hid (show BoxS w2 (W.heap.size + 1) 0 (.slice none 0 0) (.slice none 0 0) 0 0 from by
  have h := boxS_new (W.alloc (.cells #[.bool l, .int .u8 k, .string s, .int .i64 a0, .slice q N c] 35)) 0 0 0 (.slice none 0 0) (.slice none 0 0)
  rw [hw2]; simpa using h)
 have HB2 := Lib.hid (And.intro hb2 (show w2.heap.size = W.heap.size + 2 from by rw [hw2]; simp))
 by_cases hbad : l = false \/ N = 0 \/ 20001 < N
 ·have hR0 : R = none := by rw [HR.out, readD, <- HN.out, if_pos hbad]
  subst hR0
  obtain ⟨y0, y1, y2, y3, y4, yf⟩ := HBX.out
  obtain ⟨z0, z1, z2, z3, z4, zf⟩ := HZ.out
  have HW2 := Lib.hid hw2
  rw [hw2] at y0 y1 y2 y3 y4 yf z0 z1 z2 z3 z4 zf
  clear hb2 hw2
  unfold trV
  have hlf : l = false \/ (l = true /\ (N = 0 \/ 20001 < N)) := by
   cases l
   ·exact Or.inl rfl
   ·rcases hbad with h | h
    ·cases h
    ·exact Or.inr ⟨rfl, h⟩
  clear hbad
  rcases hlf with rfl | ⟨rfl, rfl | h⟩
  ·go_enter Tryz.func20, Tryz.ntmps20
   go_wp2_with fail
   refine bodyPost_ret (v := .tuple #[.agg #[.int .u8 0, .slice none 0 0, .slice none 0 0, .int .i64 0, .int .i64 0], .int .i64 5]) (by simp [results, Tryz.results20, go_sem, z0, z1, z2, z3, z4]) rfl ⟨rfl, ?_⟩
   rw [<- HW2.out]
   exact HB2.out.1
  ·go_enter Tryz.func20, Tryz.ntmps20
   go_wp2_with fail
   refine bodyPost_ret (v := .tuple #[.agg #[.int .u8 0, .slice none 0 0, .slice none 0 0, .int .i64 0, .int .i64 0], .int .i64 5]) (by simp [results, Tryz.results20, go_sem, z0, z1, z2, z3, z4]) rfl ⟨rfl, ?_⟩
   rw [<- HW2.out]
   exact HB2.out.1
  ·have h1 : (20001 : Int) < (N : Int) := by omega
   have h2 : ((N : Int) == 0) = false := by simp; omega
   clear h
   go_enter Tryz.func20, Tryz.ntmps20
   go_wp2_with fail
   refine bodyPost_ret (v := .tuple #[.agg #[.int .u8 0, .slice none 0 0, .slice none 0 0, .int .i64 0, .int .i64 0], .int .i64 5]) (by simp [results, Tryz.results20, go_sem, z0, z1, z2, z3, z4]) rfl ⟨rfl, ?_⟩
   rw [<- HW2.out]
   exact HB2.out.1
 have hl1 : l = true := by cases l; exact absurd (Or.inl rfl) hbad; rfl
 have hN0 : N ≠ 0 := fun h => hbad (Or.inr (Or.inl h))
 have hN1 : ¬ 20001 < N := fun h => hbad (Or.inr (Or.inr h))
 have hR1 : R = if maySt (stepD x) = true /\ sameT true 1 ⟨#[40]⟩ (stX (stepD x)) l k s x = true then some (stepD x) else none := by rw [HR.out, readD, <- HN.out, if_neg hbad]
 clear HR
 have HR := Lib.hid hR1
 subst hl1
 have hNe : ((N : Int) == 0) = false := by simp; omega
 have hNp : (0 : Int) < (N : Int) := by omega
 have hNg : ¬ (20001 : Int) < (N : Int) := by omega
 obtain ⟨w3, hw3⟩ : ∃ w3, w3 = w2.alloc (.cells #[.int .u8 0, .slice none 0 0, .slice none 0 0, .int .i64 0, .int .i64 0] 26) := ⟨_, rfl⟩
 obtain ⟨l0, k0, h, a1, x0, f, hxe⟩ : ∃ l0 k0 h a1 x0 f, x = .cons l0 k0 h a1 x0 f := by
  cases x with
  | nil => exact absurd HN.out hN0
  | cons l0 k0 h a1 x0 f => exact ⟨l0, k0, h, a1, x0, f, rfl⟩
 have HXE := Lib.hid (And.intro hxe (show N = f.len + 1 from by rw [HN.out, hxe]; rfl))
 have htx : TxOK f := by have := HQ.out.2.1; rw [hxe] at this; exact this.2.2
 have hlx : LnOK f := by have := HQ.out.2.2.1; rw [hxe] at this; exact this.2.2
 have hq3 := HQ.out.1
 rw [hxe] at hq3
 obtain ⟨bq, oq, rfl, hFq, _, _, _, _, _, hr0⟩ := hq3
 have HTX := Lib.hid (And.intro htx (And.intro hlx hFq))
 have HG := Lib.hid (show G20 W (some ⟨bq, oq, none⟩) F1 true k s a0 c N x 1 .nil f (.slice none 0 0) w3 from by
  have hb3 : Below W.heap.size W w3 := by rw [hw3]; exact hb2.alloc hb2.size _
  have hl3 : Below w2.heap.size w2 w3 := by rw [hw3]; exact below1 _ _
  have h3 : BoxS w3 (W.heap.size + 2) 0 (.slice none 0 0) (.slice none 0 0) 0 0 := by
   have h := boxS_new w2 0 0 0 (.slice none 0 0) (.slice none 0 0)
   rw [HB2.out.2] at h
   rw [hw3]; exact h
  exact ⟨⟨HBX.out.later hl3, HZ.out.later hl3, h3, HQ.out.1.later hb3, hb3⟩, OwnI.nil _ _ _, (show FoIn W F1 f (pl (some ⟨bq, oq, none⟩) 1) from hr0).later hb3, rfl⟩)
 obtain ⟨y0, y1, y2, y3, y4, yf⟩ := HBX.out
 rw [hw2] at y0 y1 y2 y3 y4 yf
 have HW3 := Lib.hid (show w3 = ((W.alloc (.cells #[.bool true, .int .u8 k, .string s, .int .i64 a0, .slice (some ⟨bq, oq, none⟩) N c] 35)).alloc (.cells #[.int .u8 0, .slice none 0 0, .slice none 0 0, .int .i64 0, .int .i64 0] 26)).alloc (.cells #[.int .u8 0, .slice none 0 0, .slice none 0 0, .int .i64 0, .int .i64 0] 26) from by rw [hw3, hw2])
 clear hbad hN0 hN1 hR1 htx hlx hr0 hFq hb2 hw2 hw3 hxe HBX HZ HB2
 unfold trV
 go_enter Tryz.func20, Tryz.ntmps20
 go_wp2_with fail
 rw [<- HW3.out]
 clear HW3 y0 y1 y2 y3 y4 yf
 go_loopg [5, 6] f.len (fun gk s5 s6 wx => ∃ (m : Nat) (p4 : Option Addr) (c4 : Nat), m + gk = f.len + 1 /\ s5 = .slice p4 (m - 1) c4 /\ s6 = .int .i64 (m : Int) /\ Hid (∃ (pre g : Fo), f = pre.app g /\ TxOK g /\ G20 W (some ⟨bq, oq, none⟩) F1 true k s a0 c N x m pre g (.slice p4 (m - 1) c4) wx))
 case atStart => exact ⟨1, none, 0, by omega, rfl, rfl, Lib.hid ⟨.nil, f, rfl, HTX.out.1, HG.out⟩⟩
 case round =>
  obtain ⟨m, p4, c4, hk, rfl, rfl, HR0⟩ := hrel
  obtain ⟨pre, g, hfg, htx, hg⟩ := HR0.out
  clear HR0 HG
  have k0 : (0 : Int) <= (m : Int) := Int.natCast_nonneg m
  have hlen : pre.len + g.len = f.len := by rw [hfg, Fo.len_app]
  obtain ⟨j, hj⟩ : ∃ j, j = m - 1 := ⟨_, rfl⟩
  rw [<- hj] at hg ⊢
  have HJ := Lib.hid (show j + 1 = m /\ j = m - 1 from ⟨by have := hg.len; omega, hj⟩)
  clear hj
  cases g with
  | nil =>
   rw [Fo.app_nil] at hfg
   subst hfg
   have hlt : ¬ (m : Int) < (N : Int) := by have := HXE.out.2; have := hg.len; omega
   have HG := Lib.hid hg
   have hjl : (valsF f).length = j := by rw [valsF_len]; have := hg.len; have := HJ.out.1; omega
   have HJL := Lib.hid hjl
   have hx5 := hg.d.fo
   rw [HXE.out.1] at hx5
   obtain ⟨b', o', he, _, c0, c1, c2, c3, ⟨q4, d4, c4', _⟩, _⟩ := hx5
   injection he with he
   injection he with he1 he2
   subst he1 he2
   obtain ⟨y0, y1, y2, y3, y4, yf⟩ := hg.d.box
   obtain ⟨z0, z1, z2, z3, z4, zf⟩ := hg.d.st
   have HFO := Lib.hid (show FoIn wr F1 f (pl (some ⟨bq, oq, none⟩) 1) from by
    have hx6 := HG.out.d.fo
    rw [HXE.out.1] at hx6
    obtain ⟨b', o', he, _, _, _, _, _, _, hrr⟩ := hx6
    cases he
    exact hrr)
   have HSD := Lib.hid (show stepD x = if h = hClause then ⟨1, valsF f, [], 0, 0⟩ else if h = hCycle then ⟨3, valsF f, [], 0, 0⟩ else if h = hLinks then ⟨2, [], guessF f, 0, 0⟩ else if h = hPair /\ (valsF f).length = 2 then ⟨4, [], [], (valsF f).getD 0 0, (valsF f).getD 1 0⟩ else ⟨0, [], [], 0, 0⟩ from by rw [HXE.out.1]; rfl)
   have HJ2 := Lib.hid (show j <= 1000000000 from by have := HXE.out.2; have := hg.len; have := HJ.out.1; omega)
   clear hk htx hlen hg hjl
   by_cases g1 : h = hClause
   ·have t1 : (h.toList == [99, 108, 97, 117, 115, 101]) = true := by rw [beq_iff_eq, g1, ByteArray.toList_eq]; rfl
    obtain ⟨wE, hwE⟩ : ∃ wE, wE = (((((wr.setCell ⟨W.heap.size + 2, 0, none⟩ (.int .u8 1)).setCell ⟨W.heap.size + 2, 1, none⟩ (.slice p4 j c4)).setCell ⟨W.heap.size + 2, 2, none⟩ (.slice none 0 0)).setCell ⟨W.heap.size + 2, 3, none⟩ (.int .i64 0)).setCell ⟨W.heap.size + 2, 4, none⟩ (.int .i64 0)) := ⟨_, rfl⟩
    have hoE : Only (fun k => k = W.heap.size + 2) wr wE := by rw [hwE]; exact only5 wr (W.heap.size + 2) _ _ _ _ _
    have hEE : D20 W (some ⟨bq, oq, none⟩) F1 true k s a0 c N x 1 (.slice p4 (valsF f).length c4) (.slice none 0 0) 0 0 wE := HG.out.d.next hoE HF1.out (fun k e => by omega) (by rw [hwE, HJL.out]; exact boxS_five HG.out.d.st 1 0 0 _ _)
    have hOE : OwnI 44 wE (fun b => W.heap.size + 3 <= b) (.slice p4 (valsF f).length c4) (valsF f) := by rw [HJL.out]; exact HG.out.row.only hoE (fun b hb e => by omega)
    obtain ⟨y, hyd⟩ : ∃ y, y = stepD x := ⟨_, rfl⟩
    have HRY := Lib.hid (show R = if maySt y = true /\ sameT true 1 ⟨#[40]⟩ (stX y) true k s x = true then some y else none from by rw [hyd]; exact HR.out)
    have hyv : y = ⟨1, valsF f, [], 0, 0⟩ := by rw [hyd, HSD.out, if_pos g1]
    have HT := Lib.hid (show D20 W (some ⟨bq, oq, none⟩) F1 true k s a0 c N x y.k (.slice p4 y.lits.length c4) (.slice none y.links.length 0) y.a y.b wE /\ OwnI 44 wE (fun b => W.heap.size + 3 <= b) (.slice p4 y.lits.length c4) y.lits /\ OwnK wE (fun b => W.heap.size + 3 <= b) (.slice none y.links.length 0) y.links /\ KdL y.links /\ y.lits.length <= 1000000000 /\ y.links.length <= 1000000000 from by
     rw [hyv]
     exact ⟨hEE, hOE, OwnK.nil _ _, (fun y hy => by cases hy), by rw [HJL.out]; exact HJ2.out, Nat.zero_le _⟩)
    clear hyd hyv
    have HWE := Lib.hid hwE
    clear hwE hoE hEE hOE g1
    go_wp2_with fail
    rw [<- HWE.out]
    clear HWE c0 c1 c2 c3 c4' y0 y1 y2 y3 y4 yf z0 z1 z2 z3 z4 zf
    obtain ⟨p1, c1, q2, d2, hpp⟩ : ∃ (p1 : Option Addr) (c1 : Nat) (q2 : Option Addr) (d2 : Nat), p1 = p4 /\ c1 = c4 /\ q2 = none /\ d2 = 0 := ⟨_, _, _, _, rfl, rfl, rfl, rfl⟩
    have HD := Lib.hid (HT.out.1.later HF1.out (below_drew _))
    have HOI := Lib.hid (HT.out.2.1.later (below_drew _))
    have HOK := Lib.hid (HT.out.2.2.1.later (below_drew _))
    obtain ⟨M, hM⟩ : ∃ M, M = maySt y := ⟨_, rfl⟩
    have HM := Lib.hid hM
    obtain ⟨bs, hbs⟩ : ∃ b, b = sameT true 1 ⟨#[40]⟩ (stX y) true k s x := ⟨_, rfl⟩
    have HBS := Lib.hid hbs
    clear hM hbs
    refine wp_region_L [(1000, (fun _ => True : World -> Prop)), (1000, (fun w => BoxS w (W.heap.size + 2) y.k (.slice p4 y.lits.length c4) (.slice none y.links.length 0) y.a y.b /\ BoxT w W.heap.size true k s a0 (.slice (some ⟨bq, oq, none⟩) N c) : World -> Prop))] (by kernel_rfl) (SL.cons (fun _ => trivial) (SL.cons (fun _ => ⟨HD.out.st, HD.out.box⟩) SL.nil)) (fun hH => ?_)
    generalize wE.drew = wd at *
    have HIN := Lib.hid (show IntsIn wd p4 y.lits from by
     obtain ⟨qi, ci, hvi, _, _, _, _, hii, _⟩ := HOI.out.intsIn
     injection hvi with hv1 hv2 hv3
     subst hv1
     exact hii)
    have HLK := Lib.hid (show LksIn wd none y.links /\ LksOK wd none y.links from by
     obtain ⟨qi, ci, hvi, _, _, hii, hoo⟩ := HOK.out.lks
     injection hvi with hv1 hv2 hv3
     subst hv1
     exact ⟨hii, hoo⟩)
    refine tk 1 0 ⟨some 87, .load 26 (.tmp 4), 26, "ref.go:273", #[], none⟩ ?_ rfl rfl ?_ hH fun hH => ?_
    rotate_left
    ·intro w hSw; (try dsimp only at hSw); obtain ⟨⟨z0, z1, z2, z3, z4, zf⟩, x0, x1', x2', x3', x4', xf⟩ := hSw; go_simp; try with_reducible rfl
    try simp only [Act.put, sI, s0, s1]
    refine wpAnyL_ready (rs := [1]) (by kernel_rfl) (by simp) ?_
    refine AllReadyL.cons (o := ⟨some 88, .call ⟨.value (.func 12), #[.tmp 87], #[26]⟩, 4, "ref.go:273", #[⟨0, .data⟩], none⟩) rfl (fun K hK => ?_) AllReadyL.nil
    go_simp
    go_at_call 12
    refine (may12 y.k y.a y.b p4 c4 y.lits.length none 0 y.links.length y.lits y.links M wd rfl rfl (by have := HT.out.2.2.2.2.1; omega) (by have := HT.out.2.2.2.2.2; omega) HIN.out HLK.out.1 HT.out.2.2.2.1 HM.out).mono ?_
    rintro e w5 ⟨rfl, hb5⟩
    have HD5 := Lib.hid (HD.out.later HF1.out hb5)
    have HB5 := Lib.hid hb5
    clear hb5
    refine hK.out _ _ (SL.cons (fun _ => trivial) (SL.cons (fun _ => ⟨HD5.out.st, HD5.out.box⟩) SL.nil)) (fun hH => ?_)
    clear hK K
    try simp only [Act.put, sI, s0, s1]
    cases M with
    | false =>
     have hr0 : R = none := by rw [HRY.out, if_neg (by rw [<- HM.out]; simp)]
     subst hr0
     refine tk 0 2 ⟨some 89, .unOp .not 4 (.tmp 88), 4, "ref.go:273", #[⟨1, .data⟩], none⟩ ?_ rfl rfl ?_ hH fun hH => ?_
     rotate_left
     ·intro w hSw; (try dsimp only at hSw); go_simp; try with_reducible rfl
     try simp only [Act.put, sI, s0, s1]
     refine tk 0 3 ⟨some 90, .move (.tmp 89), 4, "ref.go:273", #[⟨2, .data⟩, ⟨1, .chain⟩], none⟩ ?_ rfl rfl ?_ hH fun hH => ?_
     rotate_left
     ·intro w hSw; (try dsimp only at hSw); go_simp; try with_reducible rfl
     try simp only [Act.put, sI, s0, s1]
     refine tu 0 4 ⟨some 91, .load 26 (.tmp 4), 26, "ref.go:273", #[⟨3, .guard⟩], some (3, false)⟩ rfl rfl hH fun hH => ?_
     try simp only [Act.put, sI, s0, s1]
     refine tu 0 5 ⟨some 92, .call ⟨.value (.func 17), #[.tmp 91], #[26]⟩, 35, "ref.go:273", #[⟨4, .data⟩, ⟨3, .chain⟩, ⟨3, .guard⟩], some (3, false)⟩ rfl rfl hH fun hH => ?_
     try simp only [Act.put, sI, s0, s1]
     refine tu 0 6 ⟨some 93, .load 35 (.tmp 1), 35, "ref.go:273", #[⟨3, .guard⟩], some (3, false)⟩ rfl rfl hH fun hH => ?_
     try simp only [Act.put, sI, s0, s1]
     refine tu 0 7 ⟨some 94, .call ⟨.value (.func 15), #[.tmp 92, .tmp 93], #[35, 35]⟩, 4, "ref.go:273", #[⟨5, .data⟩, ⟨6, .data⟩, ⟨5, .chain⟩, ⟨3, .guard⟩], some (3, false)⟩ rfl rfl hH fun hH => ?_
     try simp only [Act.put, sI, s0, s1]
     refine tu 0 8 ⟨some 95, .unOp .not 4 (.tmp 94), 4, "ref.go:273", #[⟨7, .data⟩, ⟨3, .guard⟩], some (3, false)⟩ rfl rfl hH fun hH => ?_
     try simp only [Act.put, sI, s0, s1]
     refine tk 0 9 ⟨some 96, .pick (.tmp 90) (.const (.bool true)) (.tmp 95), 4, "ref.go:273", #[⟨3, .data⟩, ⟨8, .data⟩], none⟩ ?_ rfl rfl ?_ hH fun hH => ?_
     rotate_left
     ·intro w hSw; (try dsimp only at hSw); go_simp; try with_reducible rfl
     try simp only [Act.put, sI, s0, s1]
     refine wpAnyL_done (by kernel_rfl) ?_ _
     clear hH
     obtain ⟨z0, z1, z2, z3, z4, zf⟩ := HD5.out.res
     go_wp2_with fail
     have h7 := only5 w5 (W.heap.size + 1) (.int .u8 0) (.slice none 0 0) (.slice none 0 0) (.int .i64 0) (.int .i64 0)
     exact bodyPost_ret (v := .tuple #[.agg #[.int .u8 0, .slice none 0 0, .slice none 0 0, .int .i64 0, .int .i64 0], .int .i64 5]) (by simp [results, Tryz.results20, go_sem, z0, z1, z2, z3, z4]) rfl ⟨rfl, HD5.out.below.trans (h7.below (fun k e => by omega) HD5.out.below.size)⟩
    | true =>
     refine tk 0 2 ⟨some 89, .unOp .not 4 (.tmp 88), 4, "ref.go:273", #[⟨1, .data⟩], none⟩ ?_ rfl rfl ?_ hH fun hH => ?_
     rotate_left
     ·intro w hSw; (try dsimp only at hSw); go_simp; try with_reducible rfl
     try simp only [Act.put, sI, s0, s1]
     refine tk 0 3 ⟨some 90, .move (.tmp 89), 4, "ref.go:273", #[⟨2, .data⟩, ⟨1, .chain⟩], none⟩ ?_ rfl rfl ?_ hH fun hH => ?_
     rotate_left
     ·intro w hSw; (try dsimp only at hSw); go_simp; try with_reducible rfl
     try simp only [Act.put, sI, s0, s1]
     refine tk 1 4 ⟨some 91, .load 26 (.tmp 4), 26, "ref.go:273", #[⟨3, .guard⟩], some (3, false)⟩ ?_ rfl rfl ?_ hH fun hH => ?_
     rotate_left
     ·intro w hSw; (try dsimp only at hSw); obtain ⟨⟨z0, z1, z2, z3, z4, zf⟩, x0, x1', x2', x3', x4', xf⟩ := hSw; go_simp; try with_reducible rfl
     try simp only [Act.put, sI, s0, s1]
     refine tk 1 6 ⟨some 93, .load 35 (.tmp 1), 35, "ref.go:273", #[⟨3, .guard⟩], some (3, false)⟩ ?_ rfl rfl ?_ hH fun hH => ?_
     rotate_left
     ·intro w hSw; (try dsimp only at hSw); obtain ⟨⟨z0, z1, z2, z3, z4, zf⟩, x0, x1', x2', x3', x4', xf⟩ := hSw; go_simp; try with_reducible rfl
     try simp only [Act.put, sI, s0, s1]
     refine wpAnyL_ready (rs := [5]) (by kernel_rfl) (by simp) ?_
     refine AllReadyL.cons (o := ⟨some 92, .call ⟨.value (.func 17), #[.tmp 91], #[26]⟩, 35, "ref.go:273", #[⟨4, .data⟩, ⟨3, .chain⟩, ⟨3, .guard⟩], some (3, false)⟩) rfl (fun K hK => ?_) AllReadyL.nil
     go_simp
     go_at_call 17
     refine (tree17 y p4 c4 none 0 w5 (HIN.out.later HB5.out) (HLK.out.1.later HB5.out) (HLK.out.2.later HLK.out.1 HB5.out) HM.out.symm).mono ?_
     rintro e w6 ⟨q6, c6, rfl, hc6, hl6, hq6, hb6⟩
     have HD6 := Lib.hid (HD5.out.later HF1.out hb6)
     have HB6 := Lib.hid hb6
     have HSM := Lib.hid (same23_any (stX y).size (stX y) x (Nat.le_refl _) true true 1 k ⟨#[40]⟩ s 0 a0 q6 (some ⟨bq, oq, none⟩) c6 c w6 _ _ hq6 HD6.out.fo hc6 HQ.out.2.2.2.1 hl6 (by have := HQ.out.2.2.2.2; omega))
     rw [<- HBS.out, <- HN.out] at HSM
     unfold trV at HSM ⊢
     clear hb6 hc6 hl6 hq6
     refine hK.out _ _ (SL.cons (fun _ => trivial) (SL.cons (fun _ => ⟨HD6.out.st, HD6.out.box⟩) SL.nil)) (fun hH => ?_)
     clear hK K
     try simp only [Act.put, sI, s0, s1]
     refine wpAnyL_ready (rs := [7]) (by kernel_rfl) (by simp) ?_
     refine AllReadyL.cons (o := ⟨some 94, .call ⟨.value (.func 15), #[.tmp 92, .tmp 93], #[35, 35]⟩, 4, "ref.go:273", #[⟨5, .data⟩, ⟨6, .data⟩, ⟨5, .chain⟩, ⟨3, .guard⟩], some (3, false)⟩) rfl (fun K hK => ?_) AllReadyL.nil
     go_simp
     go_at_call 15
     refine HSM.out.mono ?_
     rintro e w7 ⟨rfl, hb7⟩
     have HD7 := Lib.hid (HD6.out.later HF1.out hb7)
     have HB7 := Lib.hid hb7
     clear hb7 HSM
     refine hK.out _ _ (SL.cons (fun _ => trivial) (SL.cons (fun _ => ⟨HD7.out.st, HD7.out.box⟩) SL.nil)) (fun hH => ?_)
     clear hK K
     try simp only [Act.put, sI, s0, s1]
     refine tk 0 8 ⟨some 95, .unOp .not 4 (.tmp 94), 4, "ref.go:273", #[⟨7, .data⟩, ⟨3, .guard⟩], some (3, false)⟩ ?_ rfl rfl ?_ hH fun hH => ?_
     rotate_left
     ·intro w hSw; (try dsimp only at hSw); go_simp; try with_reducible rfl
     try simp only [Act.put, sI, s0, s1]
     refine tk 0 9 ⟨some 96, .pick (.tmp 90) (.const (.bool true)) (.tmp 95), 4, "ref.go:273", #[⟨3, .data⟩, ⟨8, .data⟩], none⟩ ?_ rfl rfl ?_ hH fun hH => ?_
     rotate_left
     ·intro w hSw; (try dsimp only at hSw); go_simp; try with_reducible rfl
     try simp only [Act.put, sI, s0, s1]
     refine wpAnyL_done (by kernel_rfl) ?_ _
     cases bs with
     | false =>
      have hr0 : R = none := by rw [HRY.out, if_neg (by rw [<- HBS.out]; simp)]
      subst hr0
      clear hH
      obtain ⟨z0, z1, z2, z3, z4, zf⟩ := HD7.out.res
      go_wp2_with fail
      have h7 := only5 w7 (W.heap.size + 1) (.int .u8 0) (.slice none 0 0) (.slice none 0 0) (.int .i64 0) (.int .i64 0)
      exact bodyPost_ret (v := .tuple #[.agg #[.int .u8 0, .slice none 0 0, .slice none 0 0, .int .i64 0, .int .i64 0], .int .i64 5]) (by simp [results, Tryz.results20, go_sem, z0, z1, z2, z3, z4]) rfl ⟨rfl, HD7.out.below.trans (h7.below (fun k e => by omega) HD7.out.below.size)⟩
     | true =>
      have hr0 : R = some y := by rw [HRY.out, if_pos ⟨HM.out.symm, HBS.out.symm⟩]
      subst hr0
      clear hH
      have HOI7 := Lib.hid (((HOI.out.later HB5.out).later HB6.out).later HB7.out)
      have HOK7 := Lib.hid (((HOK.out.later HB5.out).later HB6.out).later HB7.out)
      obtain ⟨z0, z1, z2, z3, z4, zf⟩ := HD7.out.res
      obtain ⟨x0, x1', x2', x3', x4', xf⟩ := HD7.out.st
      have HEND := Lib.hid (show ∀ w9, Only (fun k => k = W.heap.size + 1) w7 w9 -> OwnI 44 w9 (fun b => W.heap.size <= b) (.slice p4 y.lits.length c4) y.lits /\ OwnK w9 (fun b => W.heap.size <= b) (.slice none y.links.length 0) y.links /\ Below W.heap.size W w9 from fun w9 ho =>
       ⟨(HOI7.out.only ho (fun b hb e => by omega)).mono (fun b hb _ => by omega), (HOK7.out.only ho (fun b hb e => by omega)).mono (fun b hb _ => by omega), HD7.out.below.trans (ho.below (fun k e => by omega) HD7.out.below.size)⟩)
      go_wp2_with fail
      have h7 := HEND.out _ (only5 w7 (W.heap.size + 1) (.int .u8 y.k) (.slice p4 y.lits.length c4) (.slice none y.links.length 0) (.int .i64 y.a) (.int .i64 y.b))
      exact bodyPost_ret (v := .tuple #[.agg #[.int .u8 y.k, .slice p4 y.lits.length c4, .slice none y.links.length 0, .int .i64 y.a, .int .i64 y.b], .int .i64 0]) (by simp [results, Tryz.results20, go_sem, z0, z1, z2, z3, z4]) rfl ⟨⟨p4, c4, none, 0, rfl, h7.1, h7.2.1⟩, h7.2.2⟩
   have t1 : (h.toList == [99, 108, 97, 117, 115, 101]) = false := beq_eq_false_iff_ne.2 (fun e => g1 (toList_byte (e.trans (by rw [ByteArray.toList_eq]; rfl))))
   by_cases g2 : h = hCycle
   ·have t2 : (h.toList == [99, 121, 99, 108, 101]) = true := by rw [beq_iff_eq, g2, ByteArray.toList_eq]; rfl
    obtain ⟨wE, hwE⟩ : ∃ wE, wE = (((((wr.setCell ⟨W.heap.size + 2, 0, none⟩ (.int .u8 3)).setCell ⟨W.heap.size + 2, 1, none⟩ (.slice p4 j c4)).setCell ⟨W.heap.size + 2, 2, none⟩ (.slice none 0 0)).setCell ⟨W.heap.size + 2, 3, none⟩ (.int .i64 0)).setCell ⟨W.heap.size + 2, 4, none⟩ (.int .i64 0)) := ⟨_, rfl⟩
    have hoE : Only (fun k => k = W.heap.size + 2) wr wE := by rw [hwE]; exact only5 wr (W.heap.size + 2) _ _ _ _ _
    have hEE : D20 W (some ⟨bq, oq, none⟩) F1 true k s a0 c N x 3 (.slice p4 (valsF f).length c4) (.slice none 0 0) 0 0 wE := HG.out.d.next hoE HF1.out (fun k e => by omega) (by rw [hwE, HJL.out]; exact boxS_five HG.out.d.st 3 0 0 _ _)
    have hOE : OwnI 44 wE (fun b => W.heap.size + 3 <= b) (.slice p4 (valsF f).length c4) (valsF f) := by rw [HJL.out]; exact HG.out.row.only hoE (fun b hb e => by omega)
    obtain ⟨y, hyd⟩ : ∃ y, y = stepD x := ⟨_, rfl⟩
    have HRY := Lib.hid (show R = if maySt y = true /\ sameT true 1 ⟨#[40]⟩ (stX y) true k s x = true then some y else none from by rw [hyd]; exact HR.out)
    have hyv : y = ⟨3, valsF f, [], 0, 0⟩ := by rw [hyd, HSD.out, if_neg g1, if_pos g2]
    have HT := Lib.hid (show D20 W (some ⟨bq, oq, none⟩) F1 true k s a0 c N x y.k (.slice p4 y.lits.length c4) (.slice none y.links.length 0) y.a y.b wE /\ OwnI 44 wE (fun b => W.heap.size + 3 <= b) (.slice p4 y.lits.length c4) y.lits /\ OwnK wE (fun b => W.heap.size + 3 <= b) (.slice none y.links.length 0) y.links /\ KdL y.links /\ y.lits.length <= 1000000000 /\ y.links.length <= 1000000000 from by
     rw [hyv]
     exact ⟨hEE, hOE, OwnK.nil _ _, (fun y hy => by cases hy), by rw [HJL.out]; exact HJ2.out, Nat.zero_le _⟩)
    clear hyd hyv
    have HWE := Lib.hid hwE
    clear hwE hoE hEE hOE g1 g2
    go_wp2_with fail
    rw [<- HWE.out]
    clear HWE c0 c1 c2 c3 c4' y0 y1 y2 y3 y4 yf z0 z1 z2 z3 z4 zf
    obtain ⟨p1, c1, q2, d2, hpp⟩ : ∃ (p1 : Option Addr) (c1 : Nat) (q2 : Option Addr) (d2 : Nat), p1 = p4 /\ c1 = c4 /\ q2 = none /\ d2 = 0 := ⟨_, _, _, _, rfl, rfl, rfl, rfl⟩
    have HD := Lib.hid (HT.out.1.later HF1.out (below_drew _))
    have HOI := Lib.hid (HT.out.2.1.later (below_drew _))
    have HOK := Lib.hid (HT.out.2.2.1.later (below_drew _))
    obtain ⟨M, hM⟩ : ∃ M, M = maySt y := ⟨_, rfl⟩
    have HM := Lib.hid hM
    obtain ⟨bs, hbs⟩ : ∃ b, b = sameT true 1 ⟨#[40]⟩ (stX y) true k s x := ⟨_, rfl⟩
    have HBS := Lib.hid hbs
    clear hM hbs
    refine wp_region_L [(1000, (fun _ => True : World -> Prop)), (1000, (fun w => BoxS w (W.heap.size + 2) y.k (.slice p4 y.lits.length c4) (.slice none y.links.length 0) y.a y.b /\ BoxT w W.heap.size true k s a0 (.slice (some ⟨bq, oq, none⟩) N c) : World -> Prop))] (by kernel_rfl) (SL.cons (fun _ => trivial) (SL.cons (fun _ => ⟨HD.out.st, HD.out.box⟩) SL.nil)) (fun hH => ?_)
    generalize wE.drew = wd at *
    have HIN := Lib.hid (show IntsIn wd p4 y.lits from by
     obtain ⟨qi, ci, hvi, _, _, _, _, hii, _⟩ := HOI.out.intsIn
     injection hvi with hv1 hv2 hv3
     subst hv1
     exact hii)
    have HLK := Lib.hid (show LksIn wd none y.links /\ LksOK wd none y.links from by
     obtain ⟨qi, ci, hvi, _, _, hii, hoo⟩ := HOK.out.lks
     injection hvi with hv1 hv2 hv3
     subst hv1
     exact ⟨hii, hoo⟩)
    refine tk 1 0 ⟨some 87, .load 26 (.tmp 4), 26, "ref.go:273", #[], none⟩ ?_ rfl rfl ?_ hH fun hH => ?_
    rotate_left
    ·intro w hSw; (try dsimp only at hSw); obtain ⟨⟨z0, z1, z2, z3, z4, zf⟩, x0, x1', x2', x3', x4', xf⟩ := hSw; go_simp; try with_reducible rfl
    try simp only [Act.put, sI, s0, s1]
    refine wpAnyL_ready (rs := [1]) (by kernel_rfl) (by simp) ?_
    refine AllReadyL.cons (o := ⟨some 88, .call ⟨.value (.func 12), #[.tmp 87], #[26]⟩, 4, "ref.go:273", #[⟨0, .data⟩], none⟩) rfl (fun K hK => ?_) AllReadyL.nil
    go_simp
    go_at_call 12
    refine (may12 y.k y.a y.b p4 c4 y.lits.length none 0 y.links.length y.lits y.links M wd rfl rfl (by have := HT.out.2.2.2.2.1; omega) (by have := HT.out.2.2.2.2.2; omega) HIN.out HLK.out.1 HT.out.2.2.2.1 HM.out).mono ?_
    rintro e w5 ⟨rfl, hb5⟩
    have HD5 := Lib.hid (HD.out.later HF1.out hb5)
    have HB5 := Lib.hid hb5
    clear hb5
    refine hK.out _ _ (SL.cons (fun _ => trivial) (SL.cons (fun _ => ⟨HD5.out.st, HD5.out.box⟩) SL.nil)) (fun hH => ?_)
    clear hK K
    try simp only [Act.put, sI, s0, s1]
    cases M with
    | false =>
     have hr0 : R = none := by rw [HRY.out, if_neg (by rw [<- HM.out]; simp)]
     subst hr0
     refine tk 0 2 ⟨some 89, .unOp .not 4 (.tmp 88), 4, "ref.go:273", #[⟨1, .data⟩], none⟩ ?_ rfl rfl ?_ hH fun hH => ?_
     rotate_left
     ·intro w hSw; (try dsimp only at hSw); go_simp; try with_reducible rfl
     try simp only [Act.put, sI, s0, s1]
     refine tk 0 3 ⟨some 90, .move (.tmp 89), 4, "ref.go:273", #[⟨2, .data⟩, ⟨1, .chain⟩], none⟩ ?_ rfl rfl ?_ hH fun hH => ?_
     rotate_left
     ·intro w hSw; (try dsimp only at hSw); go_simp; try with_reducible rfl
     try simp only [Act.put, sI, s0, s1]
     refine tu 0 4 ⟨some 91, .load 26 (.tmp 4), 26, "ref.go:273", #[⟨3, .guard⟩], some (3, false)⟩ rfl rfl hH fun hH => ?_
     try simp only [Act.put, sI, s0, s1]
     refine tu 0 5 ⟨some 92, .call ⟨.value (.func 17), #[.tmp 91], #[26]⟩, 35, "ref.go:273", #[⟨4, .data⟩, ⟨3, .chain⟩, ⟨3, .guard⟩], some (3, false)⟩ rfl rfl hH fun hH => ?_
     try simp only [Act.put, sI, s0, s1]
     refine tu 0 6 ⟨some 93, .load 35 (.tmp 1), 35, "ref.go:273", #[⟨3, .guard⟩], some (3, false)⟩ rfl rfl hH fun hH => ?_
     try simp only [Act.put, sI, s0, s1]
     refine tu 0 7 ⟨some 94, .call ⟨.value (.func 15), #[.tmp 92, .tmp 93], #[35, 35]⟩, 4, "ref.go:273", #[⟨5, .data⟩, ⟨6, .data⟩, ⟨5, .chain⟩, ⟨3, .guard⟩], some (3, false)⟩ rfl rfl hH fun hH => ?_
     try simp only [Act.put, sI, s0, s1]
     refine tu 0 8 ⟨some 95, .unOp .not 4 (.tmp 94), 4, "ref.go:273", #[⟨7, .data⟩, ⟨3, .guard⟩], some (3, false)⟩ rfl rfl hH fun hH => ?_
     try simp only [Act.put, sI, s0, s1]
     refine tk 0 9 ⟨some 96, .pick (.tmp 90) (.const (.bool true)) (.tmp 95), 4, "ref.go:273", #[⟨3, .data⟩, ⟨8, .data⟩], none⟩ ?_ rfl rfl ?_ hH fun hH => ?_
     rotate_left
     ·intro w hSw; (try dsimp only at hSw); go_simp; try with_reducible rfl
     try simp only [Act.put, sI, s0, s1]
     refine wpAnyL_done (by kernel_rfl) ?_ _
     clear hH
     obtain ⟨z0, z1, z2, z3, z4, zf⟩ := HD5.out.res
     go_wp2_with fail
     have h7 := only5 w5 (W.heap.size + 1) (.int .u8 0) (.slice none 0 0) (.slice none 0 0) (.int .i64 0) (.int .i64 0)
     exact bodyPost_ret (v := .tuple #[.agg #[.int .u8 0, .slice none 0 0, .slice none 0 0, .int .i64 0, .int .i64 0], .int .i64 5]) (by simp [results, Tryz.results20, go_sem, z0, z1, z2, z3, z4]) rfl ⟨rfl, HD5.out.below.trans (h7.below (fun k e => by omega) HD5.out.below.size)⟩
    | true =>
     refine tk 0 2 ⟨some 89, .unOp .not 4 (.tmp 88), 4, "ref.go:273", #[⟨1, .data⟩], none⟩ ?_ rfl rfl ?_ hH fun hH => ?_
     rotate_left
     ·intro w hSw; (try dsimp only at hSw); go_simp; try with_reducible rfl
     try simp only [Act.put, sI, s0, s1]
     refine tk 0 3 ⟨some 90, .move (.tmp 89), 4, "ref.go:273", #[⟨2, .data⟩, ⟨1, .chain⟩], none⟩ ?_ rfl rfl ?_ hH fun hH => ?_
     rotate_left
     ·intro w hSw; (try dsimp only at hSw); go_simp; try with_reducible rfl
     try simp only [Act.put, sI, s0, s1]
     refine tk 1 4 ⟨some 91, .load 26 (.tmp 4), 26, "ref.go:273", #[⟨3, .guard⟩], some (3, false)⟩ ?_ rfl rfl ?_ hH fun hH => ?_
     rotate_left
     ·intro w hSw; (try dsimp only at hSw); obtain ⟨⟨z0, z1, z2, z3, z4, zf⟩, x0, x1', x2', x3', x4', xf⟩ := hSw; go_simp; try with_reducible rfl
     try simp only [Act.put, sI, s0, s1]
     refine tk 1 6 ⟨some 93, .load 35 (.tmp 1), 35, "ref.go:273", #[⟨3, .guard⟩], some (3, false)⟩ ?_ rfl rfl ?_ hH fun hH => ?_
     rotate_left
     ·intro w hSw; (try dsimp only at hSw); obtain ⟨⟨z0, z1, z2, z3, z4, zf⟩, x0, x1', x2', x3', x4', xf⟩ := hSw; go_simp; try with_reducible rfl
     try simp only [Act.put, sI, s0, s1]
     refine wpAnyL_ready (rs := [5]) (by kernel_rfl) (by simp) ?_
     refine AllReadyL.cons (o := ⟨some 92, .call ⟨.value (.func 17), #[.tmp 91], #[26]⟩, 35, "ref.go:273", #[⟨4, .data⟩, ⟨3, .chain⟩, ⟨3, .guard⟩], some (3, false)⟩) rfl (fun K hK => ?_) AllReadyL.nil
     go_simp
     go_at_call 17
     refine (tree17 y p4 c4 none 0 w5 (HIN.out.later HB5.out) (HLK.out.1.later HB5.out) (HLK.out.2.later HLK.out.1 HB5.out) HM.out.symm).mono ?_
     rintro e w6 ⟨q6, c6, rfl, hc6, hl6, hq6, hb6⟩
     have HD6 := Lib.hid (HD5.out.later HF1.out hb6)
     have HB6 := Lib.hid hb6
     have HSM := Lib.hid (same23_any (stX y).size (stX y) x (Nat.le_refl _) true true 1 k ⟨#[40]⟩ s 0 a0 q6 (some ⟨bq, oq, none⟩) c6 c w6 _ _ hq6 HD6.out.fo hc6 HQ.out.2.2.2.1 hl6 (by have := HQ.out.2.2.2.2; omega))
     rw [<- HBS.out, <- HN.out] at HSM
     unfold trV at HSM ⊢
     clear hb6 hc6 hl6 hq6
     refine hK.out _ _ (SL.cons (fun _ => trivial) (SL.cons (fun _ => ⟨HD6.out.st, HD6.out.box⟩) SL.nil)) (fun hH => ?_)
     clear hK K
     try simp only [Act.put, sI, s0, s1]
     refine wpAnyL_ready (rs := [7]) (by kernel_rfl) (by simp) ?_
     refine AllReadyL.cons (o := ⟨some 94, .call ⟨.value (.func 15), #[.tmp 92, .tmp 93], #[35, 35]⟩, 4, "ref.go:273", #[⟨5, .data⟩, ⟨6, .data⟩, ⟨5, .chain⟩, ⟨3, .guard⟩], some (3, false)⟩) rfl (fun K hK => ?_) AllReadyL.nil
     go_simp
     go_at_call 15
     refine HSM.out.mono ?_
     rintro e w7 ⟨rfl, hb7⟩
     have HD7 := Lib.hid (HD6.out.later HF1.out hb7)
     have HB7 := Lib.hid hb7
     clear hb7 HSM
     refine hK.out _ _ (SL.cons (fun _ => trivial) (SL.cons (fun _ => ⟨HD7.out.st, HD7.out.box⟩) SL.nil)) (fun hH => ?_)
     clear hK K
     try simp only [Act.put, sI, s0, s1]
     refine tk 0 8 ⟨some 95, .unOp .not 4 (.tmp 94), 4, "ref.go:273", #[⟨7, .data⟩, ⟨3, .guard⟩], some (3, false)⟩ ?_ rfl rfl ?_ hH fun hH => ?_
     rotate_left
     ·intro w hSw; (try dsimp only at hSw); go_simp; try with_reducible rfl
     try simp only [Act.put, sI, s0, s1]
     refine tk 0 9 ⟨some 96, .pick (.tmp 90) (.const (.bool true)) (.tmp 95), 4, "ref.go:273", #[⟨3, .data⟩, ⟨8, .data⟩], none⟩ ?_ rfl rfl ?_ hH fun hH => ?_
     rotate_left
     ·intro w hSw; (try dsimp only at hSw); go_simp; try with_reducible rfl
     try simp only [Act.put, sI, s0, s1]
     refine wpAnyL_done (by kernel_rfl) ?_ _
     cases bs with
     | false =>
      have hr0 : R = none := by rw [HRY.out, if_neg (by rw [<- HBS.out]; simp)]
      subst hr0
      clear hH
      obtain ⟨z0, z1, z2, z3, z4, zf⟩ := HD7.out.res
      go_wp2_with fail
      have h7 := only5 w7 (W.heap.size + 1) (.int .u8 0) (.slice none 0 0) (.slice none 0 0) (.int .i64 0) (.int .i64 0)
      exact bodyPost_ret (v := .tuple #[.agg #[.int .u8 0, .slice none 0 0, .slice none 0 0, .int .i64 0, .int .i64 0], .int .i64 5]) (by simp [results, Tryz.results20, go_sem, z0, z1, z2, z3, z4]) rfl ⟨rfl, HD7.out.below.trans (h7.below (fun k e => by omega) HD7.out.below.size)⟩
     | true =>
      have hr0 : R = some y := by rw [HRY.out, if_pos ⟨HM.out.symm, HBS.out.symm⟩]
      subst hr0
      clear hH
      have HOI7 := Lib.hid (((HOI.out.later HB5.out).later HB6.out).later HB7.out)
      have HOK7 := Lib.hid (((HOK.out.later HB5.out).later HB6.out).later HB7.out)
      obtain ⟨z0, z1, z2, z3, z4, zf⟩ := HD7.out.res
      obtain ⟨x0, x1', x2', x3', x4', xf⟩ := HD7.out.st
      have HEND := Lib.hid (show ∀ w9, Only (fun k => k = W.heap.size + 1) w7 w9 -> OwnI 44 w9 (fun b => W.heap.size <= b) (.slice p4 y.lits.length c4) y.lits /\ OwnK w9 (fun b => W.heap.size <= b) (.slice none y.links.length 0) y.links /\ Below W.heap.size W w9 from fun w9 ho =>
       ⟨(HOI7.out.only ho (fun b hb e => by omega)).mono (fun b hb _ => by omega), (HOK7.out.only ho (fun b hb e => by omega)).mono (fun b hb _ => by omega), HD7.out.below.trans (ho.below (fun k e => by omega) HD7.out.below.size)⟩)
      go_wp2_with fail
      have h7 := HEND.out _ (only5 w7 (W.heap.size + 1) (.int .u8 y.k) (.slice p4 y.lits.length c4) (.slice none y.links.length 0) (.int .i64 y.a) (.int .i64 y.b))
      exact bodyPost_ret (v := .tuple #[.agg #[.int .u8 y.k, .slice p4 y.lits.length c4, .slice none y.links.length 0, .int .i64 y.a, .int .i64 y.b], .int .i64 0]) (by simp [results, Tryz.results20, go_sem, z0, z1, z2, z3, z4]) rfl ⟨⟨p4, c4, none, 0, rfl, h7.1, h7.2.1⟩, h7.2.2⟩
   have t2 : (h.toList == [99, 121, 99, 108, 101]) = false := beq_eq_false_iff_ne.2 (fun e => g2 (toList_byte (e.trans (by rw [ByteArray.toList_eq]; rfl))))
   by_cases g3 : h = hLinks
   ·have t3 : (h.toList == [108, 105, 110, 107, 115]) = true := by rw [beq_iff_eq, g3, ByteArray.toList_eq]; rfl
    have HY3 := Lib.hid (show stepD x = ⟨2, [], guessF f, 0, 0⟩ from by rw [HSD.out, if_neg g1, if_neg g2, if_pos g3])
    obtain ⟨wL, hwL⟩ : ∃ wL, wL = wr.setCell ⟨W.heap.size + 2, 0, none⟩ (.int .u8 2) := ⟨_, rfl⟩
    have hoL : Only (fun k => k = W.heap.size + 2) wr wL := by rw [hwL]; exact Only.of_setCell wr ⟨W.heap.size + 2, 0, none⟩ _
    have HH0 := Lib.hid (show H20 W (some ⟨bq, oq, none⟩) F1 true k s a0 c N x 1 .nil f (.slice none 0 0) wL from
     ⟨HG.out.d.next hoL HF1.out (fun k e => by omega) (by rw [hwL]; exact boxS_kind HG.out.d.st 2), OwnK.nil _ _, HFO.out.only hoL (fun b hb e => by have := HF1.out b hb; omega), rfl⟩)
    have HWL := Lib.hid hwL
    clear hwL hoL g1 g2 g3
    go_wp2_with fail
    rw [<- HWL.out]
    clear HWL c0 c1 c2 c3 c4' y0 y1 y2 y3 y4 yf z0 z1 z2 z3 z4 zf t1 t2 t3
    go_loopg [7] f.len (fun gk s7 wx => ∃ (m : Nat), m + gk = f.len + 1 /\ s7 = .int .i64 (m : Int) /\ Hid (∃ (pre g : Fo) (v4 : Value), f = pre.app g /\ TxOK g /\ LnOK g /\ H20 W (some ⟨bq, oq, none⟩) F1 true k s a0 c N x m pre g v4 wx))
    case atStart => exact ⟨1, by omega, rfl, Lib.hid ⟨.nil, f, _, rfl, HTX.out.1, HTX.out.2.1, HH0.out⟩⟩
    case round =>
     obtain ⟨m, hk, rfl, HR0⟩ := hrel
     obtain ⟨pre, g, v4, hfg, htx, hlo, hg⟩ := HR0.out
     clear HR0 HH0
     have k0 : (0 : Int) <= (m : Int) := Int.natCast_nonneg m
     have hlen : pre.len + g.len = f.len := by rw [hfg, Fo.len_app]
     cases g with
     | nil =>
      rw [Fo.app_nil] at hfg
      subst hfg
      have hlt : ¬ (m : Int) < (N : Int) := by have := HXE.out.2; have := hg.len; omega
      obtain ⟨q2, d2, hv4, _, _, _, _⟩ := hg.row.lks
      subst hv4
      have HGL := Lib.hid (show (guessF f).length <= 1000000000 from by rw [guessF_len]; have := HXE.out.2; omega)
      have HHg := Lib.hid hg
      obtain ⟨y0, y1, y2, y3, y4, yf⟩ := hg.d.box
      obtain ⟨y, hyd⟩ : ∃ y, y = stepD x := ⟨_, rfl⟩
      have HRY := Lib.hid (show R = if maySt y = true /\ sameT true 1 ⟨#[40]⟩ (stX y) true k s x = true then some y else none from by rw [hyd]; exact HR.out)
      have hyv : y = ⟨2, [], guessF f, 0, 0⟩ := by rw [hyd, HY3.out]
      have HT := Lib.hid (show D20 W (some ⟨bq, oq, none⟩) F1 true k s a0 c N x y.k (.slice none y.lits.length 0) (.slice q2 y.links.length d2) y.a y.b wr /\ OwnI 44 wr (fun b => W.heap.size + 3 <= b) (.slice none y.lits.length 0) y.lits /\ OwnK wr (fun b => W.heap.size + 3 <= b) (.slice q2 y.links.length d2) y.links /\ KdL y.links /\ y.lits.length <= 1000000000 /\ y.links.length <= 1000000000 from by
       rw [hyv]
       exact ⟨HHg.out.d, OwnI.nil _ _ _, HHg.out.row, guessF_k f, Nat.zero_le _, HGL.out⟩)
      clear hyd hyv hk htx hlo hlen hg
      go_wp2_with fail
      clear y0 y1 y2 y3 y4 yf
      have HD := Lib.hid (HT.out.1.later HF1.out (below_drew _))
      have HOI := Lib.hid (HT.out.2.1.later (below_drew _))
      have HOK := Lib.hid (HT.out.2.2.1.later (below_drew _))
      obtain ⟨M, hM⟩ : ∃ M, M = maySt y := ⟨_, rfl⟩
      have HM := Lib.hid hM
      obtain ⟨bs, hbs⟩ : ∃ b, b = sameT true 1 ⟨#[40]⟩ (stX y) true k s x := ⟨_, rfl⟩
      have HBS := Lib.hid hbs
      clear hM hbs
      refine wp_region_L [(1000, (fun _ => True : World -> Prop)), (1000, (fun w => BoxS w (W.heap.size + 2) y.k (.slice none y.lits.length 0) (.slice q2 y.links.length d2) y.a y.b /\ BoxT w W.heap.size true k s a0 (.slice (some ⟨bq, oq, none⟩) N c) : World -> Prop))] (by kernel_rfl) (SL.cons (fun _ => trivial) (SL.cons (fun _ => ⟨HD.out.st, HD.out.box⟩) SL.nil)) (fun hH => ?_)
      generalize wr.drew = wd at *
      have HIN := Lib.hid (show IntsIn wd none y.lits from by
       obtain ⟨qi, ci, hvi, _, _, _, _, hii, _⟩ := HOI.out.intsIn
       injection hvi with hv1 hv2 hv3
       subst hv1
       exact hii)
      have HLK := Lib.hid (show LksIn wd q2 y.links /\ LksOK wd q2 y.links from by
       obtain ⟨qi, ci, hvi, _, _, hii, hoo⟩ := HOK.out.lks
       injection hvi with hv1 hv2 hv3
       subst hv1
       exact ⟨hii, hoo⟩)
      refine tk 1 0 ⟨some 87, .load 26 (.tmp 4), 26, "ref.go:273", #[], none⟩ ?_ rfl rfl ?_ hH fun hH => ?_
      rotate_left
      ·intro w hSw; (try dsimp only at hSw); obtain ⟨⟨z0, z1, z2, z3, z4, zf⟩, x0, x1', x2', x3', x4', xf⟩ := hSw; go_simp; try with_reducible rfl
      try simp only [Act.put, sI, s0, s1]
      refine wpAnyL_ready (rs := [1]) (by kernel_rfl) (by simp) ?_
      refine AllReadyL.cons (o := ⟨some 88, .call ⟨.value (.func 12), #[.tmp 87], #[26]⟩, 4, "ref.go:273", #[⟨0, .data⟩], none⟩) rfl (fun K hK => ?_) AllReadyL.nil
      go_simp
      go_at_call 12
      refine (may12 y.k y.a y.b none 0 y.lits.length q2 d2 y.links.length y.lits y.links M wd rfl rfl (by have := HT.out.2.2.2.2.1; omega) (by have := HT.out.2.2.2.2.2; omega) HIN.out HLK.out.1 HT.out.2.2.2.1 HM.out).mono ?_
      rintro e w5 ⟨rfl, hb5⟩
      have HD5 := Lib.hid (HD.out.later HF1.out hb5)
      have HB5 := Lib.hid hb5
      clear hb5
      refine hK.out _ _ (SL.cons (fun _ => trivial) (SL.cons (fun _ => ⟨HD5.out.st, HD5.out.box⟩) SL.nil)) (fun hH => ?_)
      clear hK K
      try simp only [Act.put, sI, s0, s1]
      cases M with
      | false =>
       have hr0 : R = none := by rw [HRY.out, if_neg (by rw [<- HM.out]; simp)]
       subst hr0
       refine tk 0 2 ⟨some 89, .unOp .not 4 (.tmp 88), 4, "ref.go:273", #[⟨1, .data⟩], none⟩ ?_ rfl rfl ?_ hH fun hH => ?_
       rotate_left
       ·intro w hSw; (try dsimp only at hSw); go_simp; try with_reducible rfl
       try simp only [Act.put, sI, s0, s1]
       refine tk 0 3 ⟨some 90, .move (.tmp 89), 4, "ref.go:273", #[⟨2, .data⟩, ⟨1, .chain⟩], none⟩ ?_ rfl rfl ?_ hH fun hH => ?_
       rotate_left
       ·intro w hSw; (try dsimp only at hSw); go_simp; try with_reducible rfl
       try simp only [Act.put, sI, s0, s1]
       refine tu 0 4 ⟨some 91, .load 26 (.tmp 4), 26, "ref.go:273", #[⟨3, .guard⟩], some (3, false)⟩ rfl rfl hH fun hH => ?_
       try simp only [Act.put, sI, s0, s1]
       refine tu 0 5 ⟨some 92, .call ⟨.value (.func 17), #[.tmp 91], #[26]⟩, 35, "ref.go:273", #[⟨4, .data⟩, ⟨3, .chain⟩, ⟨3, .guard⟩], some (3, false)⟩ rfl rfl hH fun hH => ?_
       try simp only [Act.put, sI, s0, s1]
       refine tu 0 6 ⟨some 93, .load 35 (.tmp 1), 35, "ref.go:273", #[⟨3, .guard⟩], some (3, false)⟩ rfl rfl hH fun hH => ?_
       try simp only [Act.put, sI, s0, s1]
       refine tu 0 7 ⟨some 94, .call ⟨.value (.func 15), #[.tmp 92, .tmp 93], #[35, 35]⟩, 4, "ref.go:273", #[⟨5, .data⟩, ⟨6, .data⟩, ⟨5, .chain⟩, ⟨3, .guard⟩], some (3, false)⟩ rfl rfl hH fun hH => ?_
       try simp only [Act.put, sI, s0, s1]
       refine tu 0 8 ⟨some 95, .unOp .not 4 (.tmp 94), 4, "ref.go:273", #[⟨7, .data⟩, ⟨3, .guard⟩], some (3, false)⟩ rfl rfl hH fun hH => ?_
       try simp only [Act.put, sI, s0, s1]
       refine tk 0 9 ⟨some 96, .pick (.tmp 90) (.const (.bool true)) (.tmp 95), 4, "ref.go:273", #[⟨3, .data⟩, ⟨8, .data⟩], none⟩ ?_ rfl rfl ?_ hH fun hH => ?_
       rotate_left
       ·intro w hSw; (try dsimp only at hSw); go_simp; try with_reducible rfl
       try simp only [Act.put, sI, s0, s1]
       refine wpAnyL_done (by kernel_rfl) ?_ _
       clear hH
       obtain ⟨z0, z1, z2, z3, z4, zf⟩ := HD5.out.res
       go_wp2_with fail
       have h7 := only5 w5 (W.heap.size + 1) (.int .u8 0) (.slice none 0 0) (.slice none 0 0) (.int .i64 0) (.int .i64 0)
       exact bodyPost_ret (v := .tuple #[.agg #[.int .u8 0, .slice none 0 0, .slice none 0 0, .int .i64 0, .int .i64 0], .int .i64 5]) (by simp [results, Tryz.results20, go_sem, z0, z1, z2, z3, z4]) rfl ⟨rfl, HD5.out.below.trans (h7.below (fun k e => by omega) HD5.out.below.size)⟩
      | true =>
       refine tk 0 2 ⟨some 89, .unOp .not 4 (.tmp 88), 4, "ref.go:273", #[⟨1, .data⟩], none⟩ ?_ rfl rfl ?_ hH fun hH => ?_
       rotate_left
       ·intro w hSw; (try dsimp only at hSw); go_simp; try with_reducible rfl
       try simp only [Act.put, sI, s0, s1]
       refine tk 0 3 ⟨some 90, .move (.tmp 89), 4, "ref.go:273", #[⟨2, .data⟩, ⟨1, .chain⟩], none⟩ ?_ rfl rfl ?_ hH fun hH => ?_
       rotate_left
       ·intro w hSw; (try dsimp only at hSw); go_simp; try with_reducible rfl
       try simp only [Act.put, sI, s0, s1]
       refine tk 1 4 ⟨some 91, .load 26 (.tmp 4), 26, "ref.go:273", #[⟨3, .guard⟩], some (3, false)⟩ ?_ rfl rfl ?_ hH fun hH => ?_
       rotate_left
       ·intro w hSw; (try dsimp only at hSw); obtain ⟨⟨z0, z1, z2, z3, z4, zf⟩, x0, x1', x2', x3', x4', xf⟩ := hSw; go_simp; try with_reducible rfl
       try simp only [Act.put, sI, s0, s1]
       refine tk 1 6 ⟨some 93, .load 35 (.tmp 1), 35, "ref.go:273", #[⟨3, .guard⟩], some (3, false)⟩ ?_ rfl rfl ?_ hH fun hH => ?_
       rotate_left
       ·intro w hSw; (try dsimp only at hSw); obtain ⟨⟨z0, z1, z2, z3, z4, zf⟩, x0, x1', x2', x3', x4', xf⟩ := hSw; go_simp; try with_reducible rfl
       try simp only [Act.put, sI, s0, s1]
       refine wpAnyL_ready (rs := [5]) (by kernel_rfl) (by simp) ?_
       refine AllReadyL.cons (o := ⟨some 92, .call ⟨.value (.func 17), #[.tmp 91], #[26]⟩, 35, "ref.go:273", #[⟨4, .data⟩, ⟨3, .chain⟩, ⟨3, .guard⟩], some (3, false)⟩) rfl (fun K hK => ?_) AllReadyL.nil
       go_simp
       go_at_call 17
       refine (tree17 y none 0 q2 d2 w5 (HIN.out.later HB5.out) (HLK.out.1.later HB5.out) (HLK.out.2.later HLK.out.1 HB5.out) HM.out.symm).mono ?_
       rintro e w6 ⟨q6, c6, rfl, hc6, hl6, hq6, hb6⟩
       have HD6 := Lib.hid (HD5.out.later HF1.out hb6)
       have HB6 := Lib.hid hb6
       have HSM := Lib.hid (same23_any (stX y).size (stX y) x (Nat.le_refl _) true true 1 k ⟨#[40]⟩ s 0 a0 q6 (some ⟨bq, oq, none⟩) c6 c w6 _ _ hq6 HD6.out.fo hc6 HQ.out.2.2.2.1 hl6 (by have := HQ.out.2.2.2.2; omega))
       rw [<- HBS.out, <- HN.out] at HSM
       unfold trV at HSM ⊢
       clear hb6 hc6 hl6 hq6
       refine hK.out _ _ (SL.cons (fun _ => trivial) (SL.cons (fun _ => ⟨HD6.out.st, HD6.out.box⟩) SL.nil)) (fun hH => ?_)
       clear hK K
       try simp only [Act.put, sI, s0, s1]
       refine wpAnyL_ready (rs := [7]) (by kernel_rfl) (by simp) ?_
       refine AllReadyL.cons (o := ⟨some 94, .call ⟨.value (.func 15), #[.tmp 92, .tmp 93], #[35, 35]⟩, 4, "ref.go:273", #[⟨5, .data⟩, ⟨6, .data⟩, ⟨5, .chain⟩, ⟨3, .guard⟩], some (3, false)⟩) rfl (fun K hK => ?_) AllReadyL.nil
       go_simp
       go_at_call 15
       refine HSM.out.mono ?_
       rintro e w7 ⟨rfl, hb7⟩
       have HD7 := Lib.hid (HD6.out.later HF1.out hb7)
       have HB7 := Lib.hid hb7
       clear hb7 HSM
       refine hK.out _ _ (SL.cons (fun _ => trivial) (SL.cons (fun _ => ⟨HD7.out.st, HD7.out.box⟩) SL.nil)) (fun hH => ?_)
       clear hK K
       try simp only [Act.put, sI, s0, s1]
       refine tk 0 8 ⟨some 95, .unOp .not 4 (.tmp 94), 4, "ref.go:273", #[⟨7, .data⟩, ⟨3, .guard⟩], some (3, false)⟩ ?_ rfl rfl ?_ hH fun hH => ?_
       rotate_left
       ·intro w hSw; (try dsimp only at hSw); go_simp; try with_reducible rfl
       try simp only [Act.put, sI, s0, s1]
       refine tk 0 9 ⟨some 96, .pick (.tmp 90) (.const (.bool true)) (.tmp 95), 4, "ref.go:273", #[⟨3, .data⟩, ⟨8, .data⟩], none⟩ ?_ rfl rfl ?_ hH fun hH => ?_
       rotate_left
       ·intro w hSw; (try dsimp only at hSw); go_simp; try with_reducible rfl
       try simp only [Act.put, sI, s0, s1]
       refine wpAnyL_done (by kernel_rfl) ?_ _
       cases bs with
       | false =>
        have hr0 : R = none := by rw [HRY.out, if_neg (by rw [<- HBS.out]; simp)]
        subst hr0
        clear hH
        obtain ⟨z0, z1, z2, z3, z4, zf⟩ := HD7.out.res
        go_wp2_with fail
        have h7 := only5 w7 (W.heap.size + 1) (.int .u8 0) (.slice none 0 0) (.slice none 0 0) (.int .i64 0) (.int .i64 0)
        exact bodyPost_ret (v := .tuple #[.agg #[.int .u8 0, .slice none 0 0, .slice none 0 0, .int .i64 0, .int .i64 0], .int .i64 5]) (by simp [results, Tryz.results20, go_sem, z0, z1, z2, z3, z4]) rfl ⟨rfl, HD7.out.below.trans (h7.below (fun k e => by omega) HD7.out.below.size)⟩
       | true =>
        have hr0 : R = some y := by rw [HRY.out, if_pos ⟨HM.out.symm, HBS.out.symm⟩]
        subst hr0
        clear hH
        have HOI7 := Lib.hid (((HOI.out.later HB5.out).later HB6.out).later HB7.out)
        have HOK7 := Lib.hid (((HOK.out.later HB5.out).later HB6.out).later HB7.out)
        obtain ⟨z0, z1, z2, z3, z4, zf⟩ := HD7.out.res
        obtain ⟨x0, x1', x2', x3', x4', xf⟩ := HD7.out.st
        have HEND := Lib.hid (show ∀ w9, Only (fun k => k = W.heap.size + 1) w7 w9 -> OwnI 44 w9 (fun b => W.heap.size <= b) (.slice none y.lits.length 0) y.lits /\ OwnK w9 (fun b => W.heap.size <= b) (.slice q2 y.links.length d2) y.links /\ Below W.heap.size W w9 from fun w9 ho =>
         ⟨(HOI7.out.only ho (fun b hb e => by omega)).mono (fun b hb _ => by omega), (HOK7.out.only ho (fun b hb e => by omega)).mono (fun b hb _ => by omega), HD7.out.below.trans (ho.below (fun k e => by omega) HD7.out.below.size)⟩)
        go_wp2_with fail
        have h7 := HEND.out _ (only5 w7 (W.heap.size + 1) (.int .u8 y.k) (.slice none y.lits.length 0) (.slice q2 y.links.length d2) (.int .i64 y.a) (.int .i64 y.b))
        exact bodyPost_ret (v := .tuple #[.agg #[.int .u8 y.k, .slice none y.lits.length 0, .slice q2 y.links.length d2, .int .i64 y.a, .int .i64 y.b], .int .i64 0]) (by simp [results, Tryz.results20, go_sem, z0, z1, z2, z3, z4]) rfl ⟨⟨none, 0, q2, d2, rfl, h7.1, h7.2.1⟩, h7.2.2⟩
     | cons l1 k1 s1 a1' x1 r =>
      have hkn : m < N := by have := hg.len; have := HXE.out.2; simp [Fo.len] at hlen; omega
      have k1' : (m : Int) < (N : Int) := Int.ofNat_lt.2 hkn
      have HS := Lib.hid (step_ok hkn (show N <= 9223372036854775807 from by omega))
      have HFG := Lib.hid (And.intro hfg (And.intro hk (And.intro htx (And.intro hlo hkn))))
      have HGG := Lib.hid (show G20 W (some ⟨bq, oq, none⟩) F1 true k s a0 c N x m pre (.cons l1 k1 s1 a1' x1 r) (.slice none 0 0) wr -> True from fun _ => trivial)
      obtain ⟨Y, hY⟩ : ∃ Y, Y = guessP l1 x1 := ⟨_, rfl⟩
      have HSN := Lib.hid (show guessF (pre.snoc l1 k1 s1 a1' x1) = guessF pre ++ [Y] /\ (guessF pre).length + 1 = m /\ f = (pre.snoc l1 k1 s1 a1' x1).app r /\ (pre.snoc l1 k1 s1 a1' x1).len + 1 = m + 1 from ⟨by rw [guessF_snoc, <- hY], by rw [guessF_len]; exact hg.len, by rw [hfg, Fo.snoc_app], by rw [Fo.len_snoc, hg.len]⟩)
      have hbd := below_drew wr
      have HD := Lib.hid (hg.d.later HF1.out hbd)
      have HOD := Lib.hid (hg.row.later hbd)
      obtain ⟨hFq, c0, c1, c2, c3, ⟨q4, d4, c4', hl4, hm4, hq4⟩, hr⟩ := (hg.fo.later hbd).head
      have HC5 := Lib.hid (And.intro c0 (And.intro c1 (And.intro c2 (And.intro c3 c4'))))
      have HR := Lib.hid hr
      have HG7 := Lib.hid (guess56 l1 k1 s1 a1' x1 q4 d4 F1 wr.drew hq4 hl4 (by have := HFG.out.2.2.2.1.1; exact this) htx.2.1)
      rw [<- hY] at HG7
      have HHg := Lib.hid hg
      obtain ⟨y0, y1, y2, y3, y4, yf⟩ := hg.d.box
      obtain ⟨G, rfl⟩ : ∃ G, gk = G + 1 := ⟨gk - 1, by simp [Fo.len] at hlen; have := hg.len; omega⟩
      unfold trV at HG7
      clear hk hfg htx hlo hg hlen hkn hl4 hm4 hq4 hr hY hbd c0 c1 c2 c3 c4' HGG
      go_wp2_with fail
      clear y0 y1 y2 y3 y4 yf
      refine wp_region_L [(1000, (fun _ => True : World -> Prop)), (1000, (fun w => BoxT w W.heap.size true k s a0 (.slice (some ⟨bq, oq, none⟩) N c) /\ w.cell? ⟨bq, oq + m * 5, none⟩ = some (.bool l1) /\ w.cell? ⟨bq, oq + m * 5 + 1, none⟩ = some (.int .u8 k1) /\ w.cell? ⟨bq, oq + m * 5 + 2, none⟩ = some (.string s1) /\ w.cell? ⟨bq, oq + m * 5 + 3, none⟩ = some (.int .i64 a1') /\ w.cell? ⟨bq, oq + m * 5 + 4, none⟩ = some (.slice q4 x1.len d4) : World -> Prop)), (11, (fun w => w.cell? ⟨W.heap.size + 2, 2, none⟩ = some v4 : World -> Prop))] (by kernel_rfl) (SL.cons (fun _ => trivial) (SL.cons (fun _ => ⟨HD.out.box, HC5.out⟩) (SL.cons (fun _ => HD.out.st.c2) SL.nil))) (fun hH => ?_)
      generalize wr.drew = wd at *
      have HCL := Lib.hid (show ∀ w', Below wd.heap.size wd w' -> w'.cell? ⟨bq, oq + m * 5, none⟩ = some (.bool l1) /\ w'.cell? ⟨bq, oq + m * 5 + 1, none⟩ = some (.int .u8 k1) /\ w'.cell? ⟨bq, oq + m * 5 + 2, none⟩ = some (.string s1) /\ w'.cell? ⟨bq, oq + m * 5 + 3, none⟩ = some (.int .i64 a1') /\ w'.cell? ⟨bq, oq + m * 5 + 4, none⟩ = some (.slice q4 x1.len d4) from fun w' hb => ⟨cell_later hb HC5.out.1, cell_later hb HC5.out.2.1, cell_later hb HC5.out.2.2.1, cell_later hb HC5.out.2.2.2.1, cell_later hb HC5.out.2.2.2.2⟩)
      refine tk 0 0 ⟨some 64, .fieldAddr 26 (.tmp 4) 2, 0, "ref.go:266", #[], none⟩ ?_ rfl rfl ?_ hH fun hH => ?_
      rotate_left
      ·intro w hSw; (try dsimp only at hSw); go_simp; try with_reducible rfl
      try simp only [Act.put, sI, s0, s1]
      refine tk 2 1 ⟨some 65, .load 24 (.tmp 64), 24, "ref.go:266", #[⟨0, .data⟩], none⟩ ?_ rfl rfl ?_ hH fun hH => ?_
      rotate_left
      ·intro w hSw; (try dsimp only at hSw); go_simp; try with_reducible rfl
      try simp only [Act.put, sI, s0, s1]
      refine tk 0 2 ⟨some 66, .fieldAddr 35 (.tmp 1) 2, 0, "ref.go:266", #[], none⟩ ?_ rfl rfl ?_ hH fun hH => ?_
      rotate_left
      ·intro w hSw; (try dsimp only at hSw); go_simp; try with_reducible rfl
      try simp only [Act.put, sI, s0, s1]
      refine tk 1 3 ⟨some 67, .load 33 (.tmp 66), 33, "ref.go:266", #[⟨2, .data⟩], none⟩ ?_ rfl rfl ?_ hH fun hH => ?_
      rotate_left
      ·intro w hSw; (try dsimp only at hSw); obtain ⟨⟨x0, x1', x2', x3', x4', xf⟩, c0, c1, c2, c3, c4'⟩ := hSw; go_simp; try with_reducible rfl
      try simp only [Act.put, sI, s0, s1]
      refine tk 0 4 ⟨some 68, .move (.tmp 7), 3, "ref.go:266", #[], none⟩ ?_ rfl rfl ?_ hH fun hH => ?_
      rotate_left
      ·intro w hSw; (try dsimp only at hSw); go_simp; try with_reducible rfl
      try simp only [Act.put, sI, s0, s1]
      refine tk 0 5 ⟨some 69, .indexAddr 33 (.tmp 67) (.tmp 68), 0, "ref.go:266", #[⟨3, .data⟩, ⟨4, .data⟩], none⟩ ?_ rfl rfl ?_ hH fun hH => ?_
      rotate_left
      ·intro w hSw; (try dsimp only at hSw); go_simp; try with_reducible rfl
      try simp only [Act.put, sI, s0, s1]
      refine tk 1 6 ⟨some 70, .load 35 (.tmp 69), 35, "ref.go:266", #[⟨5, .data⟩], none⟩ ?_ rfl rfl ?_ hH fun hH => ?_
      rotate_left
      ·intro w hSw; (try dsimp only at hSw); obtain ⟨⟨x0, x1', x2', x3', x4', xf⟩, c0, c1, c2, c3, c4'⟩ := hSw; go_simp; try with_reducible rfl
      try simp only [Act.put, sI, s0, s1]
      refine wpAnyL_ready (rs := [7]) (by kernel_rfl) (by simp) ?_
      refine AllReadyL.cons (o := ⟨some 71, .call ⟨.value (.func 56), #[.tmp 70], #[35]⟩, 64, "ref.go:266", #[⟨6, .data⟩], none⟩) rfl (fun K hK => ?_) AllReadyL.nil
      go_simp
      go_at_call 56
      refine HG7.out.mono ?_
      rintro e w5 ⟨⟨pv, cv, rfl, hov⟩, hb5⟩
      have HD5 := Lib.hid (HD.out.later HF1.out hb5)
      have HB5 := Lib.hid hb5
      have HOV := Lib.hid hov
      clear hb5 hov HG7
      refine hK.out _ _ (SL.cons (fun _ => trivial) (SL.cons (fun _ => ⟨HD5.out.box, HCL.out _ HB5.out⟩) (SL.cons (fun _ => HD5.out.st.c2) SL.nil))) (fun hH => ?_)
      clear hK K
      try simp only [Act.put, sI, s0, s1]
      unfold lkV
      refine wpAnyL_ready (rs := [8]) (by kernel_rfl) (by simp) ?_
      refine AllReadyL.cons (o := ⟨some 72, .buildSlice 24 1 #[(0, .tmp 71)], 24, "ref.go:266", #[⟨7, .data⟩], none⟩) rfl (fun K hK => ?_) AllReadyL.nil
      go_simp
      have HD6 := Lib.hid (HD5.out.later HF1.out (below1 w5 (.cells #[.int .u8 Y.k, .int .i64 Y.lit, .int .i64 Y.a, .int .i64 Y.b, .int .i64 Y.i, .int .i64 Y.j, .slice pv Y.l.length cv] 64)))
      have HB6 := Lib.hid (HB5.out.trans ((below1 w5 (.cells #[.int .u8 Y.k, .int .i64 Y.lit, .int .i64 Y.a, .int .i64 Y.b, .int .i64 Y.i, .int .i64 Y.j, .slice pv Y.l.length cv] 64)).mono HB5.out.size))
      refine hK.out _ _ (SL.cons (fun _ => trivial) (SL.cons (fun _ => ⟨HD6.out.box, HCL.out _ HB6.out⟩) (SL.cons (fun _ => HD6.out.st.c2) SL.nil))) (fun hH => ?_)
      clear hK K
      try simp only [Act.put, sI, s0, s1]
      obtain ⟨w6, hw6⟩ : ∃ w6, w6 = w5.alloc (.cells #[.int .u8 Y.k, .int .i64 Y.lit, .int .i64 Y.a, .int .i64 Y.b, .int .i64 Y.i, .int .i64 Y.j, .slice pv Y.l.length cv] 64) := ⟨_, rfl⟩
      rw [<- hw6] at HD6 HB6 hH ⊢
      have HB56 := Lib.hid (show Below w5.heap.size w5 w6 from by rw [hw6]; exact below1 _ _)
      have HLA := Lib.hid (show LkAt w6 w5.heap.size Y pv cv from by
       have hh := boxL_new w5 Y (.slice pv Y.l.length cv)
       rw [hw6]
       exact ⟨hh.c0, hh.c1, hh.c2, hh.c3, hh.c4, hh.c5, hh.c6⟩)
      have HSZ6 := Lib.hid (show W.heap.size + 3 <= w5.heap.size /\ wd.heap.size <= w5.heap.size /\ w5.heap.size <= w6.heap.size from ⟨HD5.out.le, HB5.out.size, HB56.out.size⟩)
      have HOV6 := Lib.hid (HOV.out.later HB56.out)
      obtain ⟨qi, ci, hvi, hci, hci2, hso, hib⟩ := HOV6.out.intsB
      injection hvi with hv1 hv2 hv3
      subst hv1 hv3
      have HO6 := Lib.hid (HOD.out.later HB6.out)
      clear hw6 hv2
      refine wpAnyL_ready (rs := [9]) (by kernel_rfl) (by simp) ?_
      refine AllReadyL.cons (o := ⟨some 73, .call ⟨.builtin .append, #[.tmp 65, .tmp 72], #[24, 24]⟩, 24, "ref.go:266", #[⟨1, .data⟩, ⟨8, .data⟩, ⟨7, .chain⟩], none⟩) rfl (fun K hK => ?_) AllReadyL.nil
      rw [if_pos (by rfl)]
      refine wp_push_link _ _ (by rfl) (fun b => W.heap.size + 3 <= b) (fun b => wd.heap.size <= b) w5.heap.size v4 (guessF pre) Y pv cv (by rfl) (by rfl) HO6.out HLA.out hib hci hci2 hso (fun b hb hl => ⟨by have hb' : wd.heap.size <= b := hb; have := HD.out.le; omega, fun e => ?_⟩) (show W.heap.size + 3 <= w6.heap.size from Nat.le_trans HSZ6.out.1 HSZ6.out.2.2) (by have := HSN.out.2.1; have := HFG.out.2.2.2.2; omega) ?_
      ·have h1 := (HOD.out.blk b e).2
       have h2 : wd.heap.size <= b := hb
       omega
      intro p8 c8 w8 hown8 ho8
      have hoT : ∀ j', v4.ownBlock = some j' -> W.heap.size + 3 <= j' := fun j' e => (HOD.out.blk j' e).1
      have HO8 := Lib.hid (show Only (fun k => W.heap.size + 3 <= k) w6 w8 from ho8.mono (fun j _ e => hoT j e))
      have HD8 := Lib.hid (HD6.out.only HO8.out HF1.out (fun _ e => e))
      have HW8 := Lib.hid hown8
      have HCF := Lib.hid (show ∀ w', Only (fun k => W.heap.size <= k) wd w' -> w'.cell? ⟨bq, oq + m * 5, none⟩ = some (.bool l1) /\ w'.cell? ⟨bq, oq + m * 5 + 1, none⟩ = some (.int .u8 k1) /\ w'.cell? ⟨bq, oq + m * 5 + 2, none⟩ = some (.string s1) /\ w'.cell? ⟨bq, oq + m * 5 + 3, none⟩ = some (.int .i64 a1') /\ w'.cell? ⟨bq, oq + m * 5 + 4, none⟩ = some (.slice q4 x1.len d4) from fun w' ho => by
       have hn : ¬ W.heap.size <= bq := by have := HF1.out bq hFq; omega
       exact ⟨ho.cell HC5.out.1 hn, ho.cell HC5.out.2.1 hn, ho.cell HC5.out.2.2.1 hn, ho.cell HC5.out.2.2.2.1 hn, ho.cell HC5.out.2.2.2.2 hn⟩)
      have HO9 := Lib.hid (show Only (fun k => W.heap.size <= k) wd w8 from (Only.of_below HB6.out).trans (HO8.out.mono (fun k _ e => by omega)))
      clear hown8 ho8 hoT hci hci2 hso hib
      obtain ⟨z0, z1, z2, z3, z4, zf⟩ := HD8.out.st
      refine hK.out _ _ (SL.cons (fun _ => trivial) (SL.cons (fun _ => ⟨HD8.out.box, HCF.out _ HO9.out⟩) (SL.cons (fun _ => HD8.out.st.c2) SL.nil))) (fun hH => ?_)
      clear hK K
      try simp only [Act.put, sI, s0, s1]
      refine tk 0 10 ⟨some 74, .fieldAddr 26 (.tmp 4) 2, 0, "ref.go:266", #[⟨0, .phase⟩, ⟨1, .phase⟩, ⟨2, .phase⟩, ⟨3, .phase⟩, ⟨4, .phase⟩, ⟨5, .phase⟩, ⟨6, .phase⟩, ⟨7, .phase⟩, ⟨8, .phase⟩, ⟨9, .phase⟩], none⟩ ?_ rfl rfl ?_ hH fun hH => ?_
      rotate_left
      ·intro w hSw; (try dsimp only at hSw); go_simp; try with_reducible rfl
      try simp only [Act.put, sI, s0, s1]
      have HS9 := Lib.hid (Only.of_setCell w8 ⟨W.heap.size + 2, 2, none⟩ (.slice p8 ((guessF pre).length + 1) c8))
      refine wpAnyL_ready (rs := [11]) (by kernel_rfl) (by simp) ?_
      refine AllReadyL.cons (o := ⟨none, .store 24 (.tmp 74) (.tmp 73), 0, "ref.go:266", #[⟨10, .data⟩, ⟨9, .data⟩, ⟨9, .chain⟩, ⟨0, .phase⟩, ⟨1, .phase⟩, ⟨2, .phase⟩, ⟨3, .phase⟩, ⟨4, .phase⟩, ⟨5, .phase⟩, ⟨6, .phase⟩, ⟨7, .phase⟩, ⟨8, .phase⟩, ⟨9, .phase⟩], none⟩) rfl (fun K hK => ?_) AllReadyL.nil
      go_simp
      refine hK.out _ _ (SL.cons (fun _ => trivial) (SL.cons (fun _ => ⟨HD8.out.box.only HS9.out (fun e => by simp only at e; omega), HCF.out _ (HO9.out.trans (HS9.out.mono (fun k _ e => by simp only at e; omega)))⟩) (SL.cons (fun h => absurd h (by decide +kernel)) SL.nil))) (fun hH => ?_)
      clear hK K
      try simp only [Act.put, sI, s0, s1]
      refine wpAnyL_done (by kernel_rfl) ?_ _
      clear hH
      have HF := Lib.hid (show H20 W (some ⟨bq, oq, none⟩) F1 true k s a0 c N x (m + 1) (pre.snoc l1 k1 s1 a1' x1) r (.slice p8 ((guessF pre).length + 1) c8) (w8.setCell ⟨W.heap.size + 2, 2, none⟩ (.slice p8 ((guessF pre).length + 1) c8)) from
       ⟨HD8.out.next HS9.out HF1.out (fun k e => by simp only at e; omega) (HD8.out.st.set2 _), by rw [HSN.out.1]; exact HW8.out.only HS9.out (fun b hb e => by simp only at e; omega), (HR.out.only HO9.out (fun b hb e => by have := HF1.out b hb; omega)).only HS9.out (fun b hb e => by have := HF1.out b hb; simp only at e; omega), HSN.out.2.2.2⟩)
      clear z0 z1 z2 z3 z4 zf
      go_wp2_with fail
      go_roundg G
      case measure => omega
      case rel => exact ⟨m + 1, by have := HFG.out.2.1; omega, by first | rfl | rw [HS.out.2.2], Lib.hid ⟨pre.snoc l1 k1 s1 a1' x1, r, _, HSN.out.2.2.1, HFG.out.2.2.1.2.2, HFG.out.2.2.2.1.2.2, HF.out⟩⟩
   have t3 : (h.toList == [108, 105, 110, 107, 115]) = false := beq_eq_false_iff_ne.2 (fun e => g3 (toList_byte (e.trans (by rw [ByteArray.toList_eq]; rfl))))
   by_cases g4 : h = hPair
   ·have t4 : (h.toList == [112, 97, 105, 114]) = true := by rw [beq_iff_eq, g4, ByteArray.toList_eq]; rfl
    by_cases hj2 : j = 2
    ·skip
     obtain ⟨v0, v1, hvv⟩ : ∃ v0 v1, valsF f = [v0, v1] := by
      have hh := HJL.out
      rw [hj2] at hh
      match hf : valsF f, hh with
      | [v0, v1], _ => exact ⟨v0, v1, rfl⟩
     have hyv0 : stepD x = ⟨4, [], [], v0, v1⟩ := by rw [HSD.out, if_neg g1, if_neg g2, if_neg g3, if_pos ⟨g4, by rw [hvv]; rfl⟩, hvv]; rfl
     obtain ⟨y, hyd⟩ : ∃ y, y = stepD x := ⟨_, rfl⟩
     have HRY := Lib.hid (show R = if maySt y = true /\ sameT true 1 ⟨#[40]⟩ (stX y) true k s x = true then some y else none from by rw [hyd]; exact HR.out)
     have hyv : y = ⟨4, [], [], v0, v1⟩ := by rw [hyd, hyv0]
     have HYV := Lib.hid hyv
     have hj3 : ((j : Int) == 2) = true := by rw [hj2]; rfl
     have hj4 : (1 : Int) < (j : Int) := by rw [hj2]; decide
     have hj5 : (0 : Int) < (j : Int) := by rw [hj2]; decide
     have hj6 : 1 < j := by rw [hj2]; decide
     have hj7 : 0 < j := by rw [hj2]; decide
     have HIN0 := Lib.hid (show ∃ b o, p4 = some ⟨b, o, none⟩ /\ wr.cell? ⟨b, o, none⟩ = some (.int .i64 v0) /\ wr.cell? ⟨b, o + 1, none⟩ = some (.int .i64 v1) from by
      obtain ⟨qi, ci, hvi, _, _, _, _, hii, _⟩ := HG.out.row.intsIn
      injection hvi with hv1 hv2 hv3
      subst hv1
      rw [hvv] at hii
      obtain ⟨b, o, e1, e2⟩ := hii 0 (by simp)
      obtain ⟨b', o', e3, e4⟩ := hii 1 (by simp)
      rw [e1] at e3
      injection e3 with e3
      injection e3 with e5 e6
      subst e5 e6
      exact ⟨b, o, e1, by simpa using e2, by simpa using e4⟩)
     obtain ⟨pb, po, hpe, d0, d1⟩ := HIN0.out
     subst hpe
     have HDD := Lib.hid (And.intro (HG.out.d.later HF1.out (below_drew wr)) (And.intro (cell_later (below_drew wr) d0) (cell_later (below_drew wr) d1)))
     clear g1 g2 g3 g4 hyd hyv hyv0 hvv hj2 d0 d1 HIN0
     go_wp2_with fail
     clear c0 c1 c2 c3 c4' y0 y1 y2 y3 y4 yf z0 z1 z2 z3 z4 zf
     refine wp_region_L [(1000, (fun _ => True : World -> Prop)), (7, (fun w => w.cell? ⟨pb, po, none⟩ = some (.int .i64 v0) /\ w.cell? ⟨pb, po + 1, none⟩ = some (.int .i64 v1) : World -> Prop))] (by kernel_rfl) (SL.cons (fun _ => trivial) (SL.cons (fun _ => HDD.out.2) SL.nil)) (fun hH => ?_)
     generalize wr.drew = wd0 at *
     refine tk 0 0 ⟨some 80, .move (.tmp 5), 23, "ref.go:270", #[], none⟩ ?_ rfl rfl ?_ hH fun hH => ?_
     rotate_left
     ·intro w hSw; (try dsimp only at hSw); go_simp; try with_reducible rfl
     try simp only [Act.put, sI, s0, s1]
     refine tk 0 1 ⟨some 81, .indexAddr 23 (.tmp 80) (.const (.int .i64 0)), 0, "ref.go:270", #[⟨0, .data⟩], none⟩ ?_ rfl rfl ?_ hH fun hH => ?_
     rotate_left
     ·intro w hSw; (try dsimp only at hSw); go_simp; try with_reducible rfl
     try simp only [Act.put, sI, s0, s1]
     refine tk 1 2 ⟨some 82, .load 44 (.tmp 81), 44, "ref.go:270", #[⟨1, .data⟩], none⟩ ?_ rfl rfl ?_ hH fun hH => ?_
     rotate_left
     ·intro w hSw; (try dsimp only at hSw); obtain ⟨d0, d1⟩ := hSw; go_simp; try with_reducible rfl
     try simp only [Act.put, sI, s0, s1]
     refine tk 0 3 ⟨some 83, .move (.tmp 5), 23, "ref.go:270", #[], none⟩ ?_ rfl rfl ?_ hH fun hH => ?_
     rotate_left
     ·intro w hSw; (try dsimp only at hSw); go_simp; try with_reducible rfl
     try simp only [Act.put, sI, s0, s1]
     refine tk 0 4 ⟨some 84, .indexAddr 23 (.tmp 83) (.const (.int .i64 1)), 0, "ref.go:270", #[⟨3, .data⟩], none⟩ ?_ rfl rfl ?_ hH fun hH => ?_
     rotate_left
     ·intro w hSw; (try dsimp only at hSw); go_simp; try with_reducible rfl
     try simp only [Act.put, sI, s0, s1]
     refine tk 1 5 ⟨some 85, .load 44 (.tmp 84), 44, "ref.go:270", #[⟨4, .data⟩], none⟩ ?_ rfl rfl ?_ hH fun hH => ?_
     rotate_left
     ·intro w hSw; (try dsimp only at hSw); obtain ⟨d0, d1⟩ := hSw; go_simp; try with_reducible rfl
     try simp only [Act.put, sI, s0, s1]
     refine tk 0 6 ⟨some 86, .build 26 #[(0, .const (.int .u8 4)), (3, .tmp 82), (4, .tmp 85)], 26, "ref.go:270", #[⟨2, .data⟩, ⟨5, .data⟩], none⟩ ?_ rfl rfl ?_ hH fun hH => ?_
     rotate_left
     ·intro w hSw; (try dsimp only at hSw); go_simp; try with_reducible rfl
     try simp only [Act.put, sI, s0, s1]
     obtain ⟨z0, z1, z2, z3, z4, zf⟩ := HDD.out.1.st
     refine wpAnyL_ready (rs := [7]) (by kernel_rfl) (by simp) ?_
     refine AllReadyL.cons (o := ⟨none, .store 26 (.tmp 4) (.tmp 86), 0, "ref.go:270", #[⟨6, .data⟩, ⟨0, .phase⟩, ⟨1, .phase⟩, ⟨2, .phase⟩, ⟨3, .phase⟩, ⟨4, .phase⟩, ⟨5, .phase⟩, ⟨6, .phase⟩], none⟩) rfl (fun K hK => ?_) AllReadyL.nil
     go_simp
     refine hK.out _ _ (SL.cons (fun _ => trivial) (SL.cons (fun h => absurd h (by decide +kernel)) SL.nil)) (fun hH => ?_)
     clear hK K
     try simp only [Act.put, sI, s0, s1]
     refine wpAnyL_done (by kernel_rfl) ?_ _
     clear hH
     obtain ⟨wE, hwE⟩ : ∃ wE, wE = (((((wd0.setCell ⟨W.heap.size + 2, 0, none⟩ (.int .u8 4)).setCell ⟨W.heap.size + 2, 1, none⟩ (.slice none 0 0)).setCell ⟨W.heap.size + 2, 2, none⟩ (.slice none 0 0)).setCell ⟨W.heap.size + 2, 3, none⟩ (.int .i64 v0)).setCell ⟨W.heap.size + 2, 4, none⟩ (.int .i64 v1)) := ⟨_, rfl⟩
     have hoE : Only (fun k => k = W.heap.size + 2) wd0 wE := by rw [hwE]; exact only5 wd0 (W.heap.size + 2) _ _ _ _ _
     have hEE : D20 W (some ⟨bq, oq, none⟩) F1 true k s a0 c N x 4 (.slice none 0 0) (.slice none 0 0) v0 v1 wE := HDD.out.1.next hoE HF1.out (fun k e => by omega) (by rw [hwE]; exact boxS_five HDD.out.1.st 4 v0 v1 _ _)
     have HT := Lib.hid (show D20 W (some ⟨bq, oq, none⟩) F1 true k s a0 c N x y.k (.slice none y.lits.length 0) (.slice none y.links.length 0) y.a y.b wE /\ OwnI 44 wE (fun b => W.heap.size + 3 <= b) (.slice none y.lits.length 0) y.lits /\ OwnK wE (fun b => W.heap.size + 3 <= b) (.slice none y.links.length 0) y.links /\ KdL y.links /\ y.lits.length <= 1000000000 /\ y.links.length <= 1000000000 from by
      rw [HYV.out]
      exact ⟨hEE, OwnI.nil _ _ _, OwnK.nil _ _, (fun y hy => by cases hy), Nat.zero_le _, Nat.zero_le _⟩)
     have HWE := Lib.hid hwE
     clear hwE hoE hEE HYV
     go_wp2_with fail
     rw [<- HWE.out]
     clear HWE z0 z1 z2 z3 z4 zf
     have HD := Lib.hid (HT.out.1.later HF1.out (below_drew _))
     have HOI := Lib.hid (HT.out.2.1.later (below_drew _))
     have HOK := Lib.hid (HT.out.2.2.1.later (below_drew _))
     obtain ⟨M, hM⟩ : ∃ M, M = maySt y := ⟨_, rfl⟩
     have HM := Lib.hid hM
     obtain ⟨bs, hbs⟩ : ∃ b, b = sameT true 1 ⟨#[40]⟩ (stX y) true k s x := ⟨_, rfl⟩
     have HBS := Lib.hid hbs
     clear hM hbs
     refine wp_region_L [(1000, (fun _ => True : World -> Prop)), (1000, (fun w => BoxS w (W.heap.size + 2) y.k (.slice none y.lits.length 0) (.slice none y.links.length 0) y.a y.b /\ BoxT w W.heap.size true k s a0 (.slice (some ⟨bq, oq, none⟩) N c) : World -> Prop))] (by kernel_rfl) (SL.cons (fun _ => trivial) (SL.cons (fun _ => ⟨HD.out.st, HD.out.box⟩) SL.nil)) (fun hH => ?_)
     generalize wE.drew = wd at *
     have HIN := Lib.hid (show IntsIn wd none y.lits from by
      obtain ⟨qi, ci, hvi, _, _, _, _, hii, _⟩ := HOI.out.intsIn
      injection hvi with hv1 hv2 hv3
      subst hv1
      exact hii)
     have HLK := Lib.hid (show LksIn wd none y.links /\ LksOK wd none y.links from by
      obtain ⟨qi, ci, hvi, _, _, hii, hoo⟩ := HOK.out.lks
      injection hvi with hv1 hv2 hv3
      subst hv1
      exact ⟨hii, hoo⟩)
     refine tk 1 0 ⟨some 87, .load 26 (.tmp 4), 26, "ref.go:273", #[], none⟩ ?_ rfl rfl ?_ hH fun hH => ?_
     rotate_left
     ·intro w hSw; (try dsimp only at hSw); obtain ⟨⟨z0, z1, z2, z3, z4, zf⟩, x0, x1', x2', x3', x4', xf⟩ := hSw; go_simp; try with_reducible rfl
     try simp only [Act.put, sI, s0, s1]
     refine wpAnyL_ready (rs := [1]) (by kernel_rfl) (by simp) ?_
     refine AllReadyL.cons (o := ⟨some 88, .call ⟨.value (.func 12), #[.tmp 87], #[26]⟩, 4, "ref.go:273", #[⟨0, .data⟩], none⟩) rfl (fun K hK => ?_) AllReadyL.nil
     go_simp
     go_at_call 12
     refine (may12 y.k y.a y.b none 0 y.lits.length none 0 y.links.length y.lits y.links M wd rfl rfl (by have := HT.out.2.2.2.2.1; omega) (by have := HT.out.2.2.2.2.2; omega) HIN.out HLK.out.1 HT.out.2.2.2.1 HM.out).mono ?_
     rintro e w5 ⟨rfl, hb5⟩
     have HD5 := Lib.hid (HD.out.later HF1.out hb5)
     have HB5 := Lib.hid hb5
     clear hb5
     refine hK.out _ _ (SL.cons (fun _ => trivial) (SL.cons (fun _ => ⟨HD5.out.st, HD5.out.box⟩) SL.nil)) (fun hH => ?_)
     clear hK K
     try simp only [Act.put, sI, s0, s1]
     cases M with
     | false =>
      have hr0 : R = none := by rw [HRY.out, if_neg (by rw [<- HM.out]; simp)]
      subst hr0
      refine tk 0 2 ⟨some 89, .unOp .not 4 (.tmp 88), 4, "ref.go:273", #[⟨1, .data⟩], none⟩ ?_ rfl rfl ?_ hH fun hH => ?_
      rotate_left
      ·intro w hSw; (try dsimp only at hSw); go_simp; try with_reducible rfl
      try simp only [Act.put, sI, s0, s1]
      refine tk 0 3 ⟨some 90, .move (.tmp 89), 4, "ref.go:273", #[⟨2, .data⟩, ⟨1, .chain⟩], none⟩ ?_ rfl rfl ?_ hH fun hH => ?_
      rotate_left
      ·intro w hSw; (try dsimp only at hSw); go_simp; try with_reducible rfl
      try simp only [Act.put, sI, s0, s1]
      refine tu 0 4 ⟨some 91, .load 26 (.tmp 4), 26, "ref.go:273", #[⟨3, .guard⟩], some (3, false)⟩ rfl rfl hH fun hH => ?_
      try simp only [Act.put, sI, s0, s1]
      refine tu 0 5 ⟨some 92, .call ⟨.value (.func 17), #[.tmp 91], #[26]⟩, 35, "ref.go:273", #[⟨4, .data⟩, ⟨3, .chain⟩, ⟨3, .guard⟩], some (3, false)⟩ rfl rfl hH fun hH => ?_
      try simp only [Act.put, sI, s0, s1]
      refine tu 0 6 ⟨some 93, .load 35 (.tmp 1), 35, "ref.go:273", #[⟨3, .guard⟩], some (3, false)⟩ rfl rfl hH fun hH => ?_
      try simp only [Act.put, sI, s0, s1]
      refine tu 0 7 ⟨some 94, .call ⟨.value (.func 15), #[.tmp 92, .tmp 93], #[35, 35]⟩, 4, "ref.go:273", #[⟨5, .data⟩, ⟨6, .data⟩, ⟨5, .chain⟩, ⟨3, .guard⟩], some (3, false)⟩ rfl rfl hH fun hH => ?_
      try simp only [Act.put, sI, s0, s1]
      refine tu 0 8 ⟨some 95, .unOp .not 4 (.tmp 94), 4, "ref.go:273", #[⟨7, .data⟩, ⟨3, .guard⟩], some (3, false)⟩ rfl rfl hH fun hH => ?_
      try simp only [Act.put, sI, s0, s1]
      refine tk 0 9 ⟨some 96, .pick (.tmp 90) (.const (.bool true)) (.tmp 95), 4, "ref.go:273", #[⟨3, .data⟩, ⟨8, .data⟩], none⟩ ?_ rfl rfl ?_ hH fun hH => ?_
      rotate_left
      ·intro w hSw; (try dsimp only at hSw); go_simp; try with_reducible rfl
      try simp only [Act.put, sI, s0, s1]
      refine wpAnyL_done (by kernel_rfl) ?_ _
      clear hH
      obtain ⟨z0, z1, z2, z3, z4, zf⟩ := HD5.out.res
      go_wp2_with fail
      have h7 := only5 w5 (W.heap.size + 1) (.int .u8 0) (.slice none 0 0) (.slice none 0 0) (.int .i64 0) (.int .i64 0)
      exact bodyPost_ret (v := .tuple #[.agg #[.int .u8 0, .slice none 0 0, .slice none 0 0, .int .i64 0, .int .i64 0], .int .i64 5]) (by simp [results, Tryz.results20, go_sem, z0, z1, z2, z3, z4]) rfl ⟨rfl, HD5.out.below.trans (h7.below (fun k e => by omega) HD5.out.below.size)⟩
     | true =>
      refine tk 0 2 ⟨some 89, .unOp .not 4 (.tmp 88), 4, "ref.go:273", #[⟨1, .data⟩], none⟩ ?_ rfl rfl ?_ hH fun hH => ?_
      rotate_left
      ·intro w hSw; (try dsimp only at hSw); go_simp; try with_reducible rfl
      try simp only [Act.put, sI, s0, s1]
      refine tk 0 3 ⟨some 90, .move (.tmp 89), 4, "ref.go:273", #[⟨2, .data⟩, ⟨1, .chain⟩], none⟩ ?_ rfl rfl ?_ hH fun hH => ?_
      rotate_left
      ·intro w hSw; (try dsimp only at hSw); go_simp; try with_reducible rfl
      try simp only [Act.put, sI, s0, s1]
      refine tk 1 4 ⟨some 91, .load 26 (.tmp 4), 26, "ref.go:273", #[⟨3, .guard⟩], some (3, false)⟩ ?_ rfl rfl ?_ hH fun hH => ?_
      rotate_left
      ·intro w hSw; (try dsimp only at hSw); obtain ⟨⟨z0, z1, z2, z3, z4, zf⟩, x0, x1', x2', x3', x4', xf⟩ := hSw; go_simp; try with_reducible rfl
      try simp only [Act.put, sI, s0, s1]
      refine tk 1 6 ⟨some 93, .load 35 (.tmp 1), 35, "ref.go:273", #[⟨3, .guard⟩], some (3, false)⟩ ?_ rfl rfl ?_ hH fun hH => ?_
      rotate_left
      ·intro w hSw; (try dsimp only at hSw); obtain ⟨⟨z0, z1, z2, z3, z4, zf⟩, x0, x1', x2', x3', x4', xf⟩ := hSw; go_simp; try with_reducible rfl
      try simp only [Act.put, sI, s0, s1]
      refine wpAnyL_ready (rs := [5]) (by kernel_rfl) (by simp) ?_
      refine AllReadyL.cons (o := ⟨some 92, .call ⟨.value (.func 17), #[.tmp 91], #[26]⟩, 35, "ref.go:273", #[⟨4, .data⟩, ⟨3, .chain⟩, ⟨3, .guard⟩], some (3, false)⟩) rfl (fun K hK => ?_) AllReadyL.nil
      go_simp
      go_at_call 17
      refine (tree17 y none 0 none 0 w5 (HIN.out.later HB5.out) (HLK.out.1.later HB5.out) (HLK.out.2.later HLK.out.1 HB5.out) HM.out.symm).mono ?_
      rintro e w6 ⟨q6, c6, rfl, hc6, hl6, hq6, hb6⟩
      have HD6 := Lib.hid (HD5.out.later HF1.out hb6)
      have HB6 := Lib.hid hb6
      have HSM := Lib.hid (same23_any (stX y).size (stX y) x (Nat.le_refl _) true true 1 k ⟨#[40]⟩ s 0 a0 q6 (some ⟨bq, oq, none⟩) c6 c w6 _ _ hq6 HD6.out.fo hc6 HQ.out.2.2.2.1 hl6 (by have := HQ.out.2.2.2.2; omega))
      rw [<- HBS.out, <- HN.out] at HSM
      unfold trV at HSM ⊢
      clear hb6 hc6 hl6 hq6
      refine hK.out _ _ (SL.cons (fun _ => trivial) (SL.cons (fun _ => ⟨HD6.out.st, HD6.out.box⟩) SL.nil)) (fun hH => ?_)
      clear hK K
      try simp only [Act.put, sI, s0, s1]
      refine wpAnyL_ready (rs := [7]) (by kernel_rfl) (by simp) ?_
      refine AllReadyL.cons (o := ⟨some 94, .call ⟨.value (.func 15), #[.tmp 92, .tmp 93], #[35, 35]⟩, 4, "ref.go:273", #[⟨5, .data⟩, ⟨6, .data⟩, ⟨5, .chain⟩, ⟨3, .guard⟩], some (3, false)⟩) rfl (fun K hK => ?_) AllReadyL.nil
      go_simp
      go_at_call 15
      refine HSM.out.mono ?_
      rintro e w7 ⟨rfl, hb7⟩
      have HD7 := Lib.hid (HD6.out.later HF1.out hb7)
      have HB7 := Lib.hid hb7
      clear hb7 HSM
      refine hK.out _ _ (SL.cons (fun _ => trivial) (SL.cons (fun _ => ⟨HD7.out.st, HD7.out.box⟩) SL.nil)) (fun hH => ?_)
      clear hK K
      try simp only [Act.put, sI, s0, s1]
      refine tk 0 8 ⟨some 95, .unOp .not 4 (.tmp 94), 4, "ref.go:273", #[⟨7, .data⟩, ⟨3, .guard⟩], some (3, false)⟩ ?_ rfl rfl ?_ hH fun hH => ?_
      rotate_left
      ·intro w hSw; (try dsimp only at hSw); go_simp; try with_reducible rfl
      try simp only [Act.put, sI, s0, s1]
      refine tk 0 9 ⟨some 96, .pick (.tmp 90) (.const (.bool true)) (.tmp 95), 4, "ref.go:273", #[⟨3, .data⟩, ⟨8, .data⟩], none⟩ ?_ rfl rfl ?_ hH fun hH => ?_
      rotate_left
      ·intro w hSw; (try dsimp only at hSw); go_simp; try with_reducible rfl
      try simp only [Act.put, sI, s0, s1]
      refine wpAnyL_done (by kernel_rfl) ?_ _
      cases bs with
      | false =>
       have hr0 : R = none := by rw [HRY.out, if_neg (by rw [<- HBS.out]; simp)]
       subst hr0
       clear hH
       obtain ⟨z0, z1, z2, z3, z4, zf⟩ := HD7.out.res
       go_wp2_with fail
       have h7 := only5 w7 (W.heap.size + 1) (.int .u8 0) (.slice none 0 0) (.slice none 0 0) (.int .i64 0) (.int .i64 0)
       exact bodyPost_ret (v := .tuple #[.agg #[.int .u8 0, .slice none 0 0, .slice none 0 0, .int .i64 0, .int .i64 0], .int .i64 5]) (by simp [results, Tryz.results20, go_sem, z0, z1, z2, z3, z4]) rfl ⟨rfl, HD7.out.below.trans (h7.below (fun k e => by omega) HD7.out.below.size)⟩
      | true =>
       have hr0 : R = some y := by rw [HRY.out, if_pos ⟨HM.out.symm, HBS.out.symm⟩]
       subst hr0
       clear hH
       have HOI7 := Lib.hid (((HOI.out.later HB5.out).later HB6.out).later HB7.out)
       have HOK7 := Lib.hid (((HOK.out.later HB5.out).later HB6.out).later HB7.out)
       obtain ⟨z0, z1, z2, z3, z4, zf⟩ := HD7.out.res
       obtain ⟨x0, x1', x2', x3', x4', xf⟩ := HD7.out.st
       have HEND := Lib.hid (show ∀ w9, Only (fun k => k = W.heap.size + 1) w7 w9 -> OwnI 44 w9 (fun b => W.heap.size <= b) (.slice none y.lits.length 0) y.lits /\ OwnK w9 (fun b => W.heap.size <= b) (.slice none y.links.length 0) y.links /\ Below W.heap.size W w9 from fun w9 ho =>
        ⟨(HOI7.out.only ho (fun b hb e => by omega)).mono (fun b hb _ => by omega), (HOK7.out.only ho (fun b hb e => by omega)).mono (fun b hb _ => by omega), HD7.out.below.trans (ho.below (fun k e => by omega) HD7.out.below.size)⟩)
       go_wp2_with fail
       have h7 := HEND.out _ (only5 w7 (W.heap.size + 1) (.int .u8 y.k) (.slice none y.lits.length 0) (.slice none y.links.length 0) (.int .i64 y.a) (.int .i64 y.b))
       exact bodyPost_ret (v := .tuple #[.agg #[.int .u8 y.k, .slice none y.lits.length 0, .slice none y.links.length 0, .int .i64 y.a, .int .i64 y.b], .int .i64 0]) (by simp [results, Tryz.results20, go_sem, z0, z1, z2, z3, z4]) rfl ⟨⟨none, 0, none, 0, rfl, h7.1, h7.2.1⟩, h7.2.2⟩
    ·have hj3 : ((j : Int) == 2) = false := by simp; omega
     have hjn : ¬ (h = hPair /\ (valsF f).length = 2) := fun e => hj2 (HJL.out.symm.trans e.2)
     obtain ⟨y, hyd⟩ : ∃ y, y = stepD x := ⟨_, rfl⟩
     have HRY := Lib.hid (show R = if maySt y = true /\ sameT true 1 ⟨#[40]⟩ (stX y) true k s x = true then some y else none from by rw [hyd]; exact HR.out)
     have hyv : y = ⟨0, [], [], 0, 0⟩ := by rw [hyd, HSD.out, if_neg g1, if_neg g2, if_neg g3, if_neg hjn]
     have HT := Lib.hid (show D20 W (some ⟨bq, oq, none⟩) F1 true k s a0 c N x y.k (.slice none y.lits.length 0) (.slice none y.links.length 0) y.a y.b wr /\ OwnI 44 wr (fun b => W.heap.size + 3 <= b) (.slice none y.lits.length 0) y.lits /\ OwnK wr (fun b => W.heap.size + 3 <= b) (.slice none y.links.length 0) y.links /\ KdL y.links /\ y.lits.length <= 1000000000 /\ y.links.length <= 1000000000 from by
      rw [hyv]
      exact ⟨HG.out.d, OwnI.nil _ _ _, OwnK.nil _ _, (fun y hy => by cases hy), Nat.zero_le _, Nat.zero_le _⟩)
     clear hyd hyv
     clear g1 g2 g3 g4
     go_wp2_with fail
     clear c0 c1 c2 c3 c4' y0 y1 y2 y3 y4 yf z0 z1 z2 z3 z4 zf
     have HD := Lib.hid (HT.out.1.later HF1.out (below_drew _))
     have HOI := Lib.hid (HT.out.2.1.later (below_drew _))
     have HOK := Lib.hid (HT.out.2.2.1.later (below_drew _))
     obtain ⟨M, hM⟩ : ∃ M, M = maySt y := ⟨_, rfl⟩
     have HM := Lib.hid hM
     obtain ⟨bs, hbs⟩ : ∃ b, b = sameT true 1 ⟨#[40]⟩ (stX y) true k s x := ⟨_, rfl⟩
     have HBS := Lib.hid hbs
     clear hM hbs
     refine wp_region_L [(1000, (fun _ => True : World -> Prop)), (1000, (fun w => BoxS w (W.heap.size + 2) y.k (.slice none y.lits.length 0) (.slice none y.links.length 0) y.a y.b /\ BoxT w W.heap.size true k s a0 (.slice (some ⟨bq, oq, none⟩) N c) : World -> Prop))] (by kernel_rfl) (SL.cons (fun _ => trivial) (SL.cons (fun _ => ⟨HD.out.st, HD.out.box⟩) SL.nil)) (fun hH => ?_)
     generalize wr.drew = wd at *
     have HIN := Lib.hid (show IntsIn wd none y.lits from by
      obtain ⟨qi, ci, hvi, _, _, _, _, hii, _⟩ := HOI.out.intsIn
      injection hvi with hv1 hv2 hv3
      subst hv1
      exact hii)
     have HLK := Lib.hid (show LksIn wd none y.links /\ LksOK wd none y.links from by
      obtain ⟨qi, ci, hvi, _, _, hii, hoo⟩ := HOK.out.lks
      injection hvi with hv1 hv2 hv3
      subst hv1
      exact ⟨hii, hoo⟩)
     refine tk 1 0 ⟨some 87, .load 26 (.tmp 4), 26, "ref.go:273", #[], none⟩ ?_ rfl rfl ?_ hH fun hH => ?_
     rotate_left
     ·intro w hSw; (try dsimp only at hSw); obtain ⟨⟨z0, z1, z2, z3, z4, zf⟩, x0, x1', x2', x3', x4', xf⟩ := hSw; go_simp; try with_reducible rfl
     try simp only [Act.put, sI, s0, s1]
     refine wpAnyL_ready (rs := [1]) (by kernel_rfl) (by simp) ?_
     refine AllReadyL.cons (o := ⟨some 88, .call ⟨.value (.func 12), #[.tmp 87], #[26]⟩, 4, "ref.go:273", #[⟨0, .data⟩], none⟩) rfl (fun K hK => ?_) AllReadyL.nil
     go_simp
     go_at_call 12
     refine (may12 y.k y.a y.b none 0 y.lits.length none 0 y.links.length y.lits y.links M wd rfl rfl (by have := HT.out.2.2.2.2.1; omega) (by have := HT.out.2.2.2.2.2; omega) HIN.out HLK.out.1 HT.out.2.2.2.1 HM.out).mono ?_
     rintro e w5 ⟨rfl, hb5⟩
     have HD5 := Lib.hid (HD.out.later HF1.out hb5)
     have HB5 := Lib.hid hb5
     clear hb5
     refine hK.out _ _ (SL.cons (fun _ => trivial) (SL.cons (fun _ => ⟨HD5.out.st, HD5.out.box⟩) SL.nil)) (fun hH => ?_)
     clear hK K
     try simp only [Act.put, sI, s0, s1]
     cases M with
     | false =>
      have hr0 : R = none := by rw [HRY.out, if_neg (by rw [<- HM.out]; simp)]
      subst hr0
      refine tk 0 2 ⟨some 89, .unOp .not 4 (.tmp 88), 4, "ref.go:273", #[⟨1, .data⟩], none⟩ ?_ rfl rfl ?_ hH fun hH => ?_
      rotate_left
      ·intro w hSw; (try dsimp only at hSw); go_simp; try with_reducible rfl
      try simp only [Act.put, sI, s0, s1]
      refine tk 0 3 ⟨some 90, .move (.tmp 89), 4, "ref.go:273", #[⟨2, .data⟩, ⟨1, .chain⟩], none⟩ ?_ rfl rfl ?_ hH fun hH => ?_
      rotate_left
      ·intro w hSw; (try dsimp only at hSw); go_simp; try with_reducible rfl
      try simp only [Act.put, sI, s0, s1]
      refine tu 0 4 ⟨some 91, .load 26 (.tmp 4), 26, "ref.go:273", #[⟨3, .guard⟩], some (3, false)⟩ rfl rfl hH fun hH => ?_
      try simp only [Act.put, sI, s0, s1]
      refine tu 0 5 ⟨some 92, .call ⟨.value (.func 17), #[.tmp 91], #[26]⟩, 35, "ref.go:273", #[⟨4, .data⟩, ⟨3, .chain⟩, ⟨3, .guard⟩], some (3, false)⟩ rfl rfl hH fun hH => ?_
      try simp only [Act.put, sI, s0, s1]
      refine tu 0 6 ⟨some 93, .load 35 (.tmp 1), 35, "ref.go:273", #[⟨3, .guard⟩], some (3, false)⟩ rfl rfl hH fun hH => ?_
      try simp only [Act.put, sI, s0, s1]
      refine tu 0 7 ⟨some 94, .call ⟨.value (.func 15), #[.tmp 92, .tmp 93], #[35, 35]⟩, 4, "ref.go:273", #[⟨5, .data⟩, ⟨6, .data⟩, ⟨5, .chain⟩, ⟨3, .guard⟩], some (3, false)⟩ rfl rfl hH fun hH => ?_
      try simp only [Act.put, sI, s0, s1]
      refine tu 0 8 ⟨some 95, .unOp .not 4 (.tmp 94), 4, "ref.go:273", #[⟨7, .data⟩, ⟨3, .guard⟩], some (3, false)⟩ rfl rfl hH fun hH => ?_
      try simp only [Act.put, sI, s0, s1]
      refine tk 0 9 ⟨some 96, .pick (.tmp 90) (.const (.bool true)) (.tmp 95), 4, "ref.go:273", #[⟨3, .data⟩, ⟨8, .data⟩], none⟩ ?_ rfl rfl ?_ hH fun hH => ?_
      rotate_left
      ·intro w hSw; (try dsimp only at hSw); go_simp; try with_reducible rfl
      try simp only [Act.put, sI, s0, s1]
      refine wpAnyL_done (by kernel_rfl) ?_ _
      clear hH
      obtain ⟨z0, z1, z2, z3, z4, zf⟩ := HD5.out.res
      go_wp2_with fail
      have h7 := only5 w5 (W.heap.size + 1) (.int .u8 0) (.slice none 0 0) (.slice none 0 0) (.int .i64 0) (.int .i64 0)
      exact bodyPost_ret (v := .tuple #[.agg #[.int .u8 0, .slice none 0 0, .slice none 0 0, .int .i64 0, .int .i64 0], .int .i64 5]) (by simp [results, Tryz.results20, go_sem, z0, z1, z2, z3, z4]) rfl ⟨rfl, HD5.out.below.trans (h7.below (fun k e => by omega) HD5.out.below.size)⟩
     | true =>
      refine tk 0 2 ⟨some 89, .unOp .not 4 (.tmp 88), 4, "ref.go:273", #[⟨1, .data⟩], none⟩ ?_ rfl rfl ?_ hH fun hH => ?_
      rotate_left
      ·intro w hSw; (try dsimp only at hSw); go_simp; try with_reducible rfl
      try simp only [Act.put, sI, s0, s1]
      refine tk 0 3 ⟨some 90, .move (.tmp 89), 4, "ref.go:273", #[⟨2, .data⟩, ⟨1, .chain⟩], none⟩ ?_ rfl rfl ?_ hH fun hH => ?_
      rotate_left
      ·intro w hSw; (try dsimp only at hSw); go_simp; try with_reducible rfl
      try simp only [Act.put, sI, s0, s1]
      refine tk 1 4 ⟨some 91, .load 26 (.tmp 4), 26, "ref.go:273", #[⟨3, .guard⟩], some (3, false)⟩ ?_ rfl rfl ?_ hH fun hH => ?_
      rotate_left
      ·intro w hSw; (try dsimp only at hSw); obtain ⟨⟨z0, z1, z2, z3, z4, zf⟩, x0, x1', x2', x3', x4', xf⟩ := hSw; go_simp; try with_reducible rfl
      try simp only [Act.put, sI, s0, s1]
      refine tk 1 6 ⟨some 93, .load 35 (.tmp 1), 35, "ref.go:273", #[⟨3, .guard⟩], some (3, false)⟩ ?_ rfl rfl ?_ hH fun hH => ?_
      rotate_left
      ·intro w hSw; (try dsimp only at hSw); obtain ⟨⟨z0, z1, z2, z3, z4, zf⟩, x0, x1', x2', x3', x4', xf⟩ := hSw; go_simp; try with_reducible rfl
      try simp only [Act.put, sI, s0, s1]
      refine wpAnyL_ready (rs := [5]) (by kernel_rfl) (by simp) ?_
      refine AllReadyL.cons (o := ⟨some 92, .call ⟨.value (.func 17), #[.tmp 91], #[26]⟩, 35, "ref.go:273", #[⟨4, .data⟩, ⟨3, .chain⟩, ⟨3, .guard⟩], some (3, false)⟩) rfl (fun K hK => ?_) AllReadyL.nil
      go_simp
      go_at_call 17
      refine (tree17 y none 0 none 0 w5 (HIN.out.later HB5.out) (HLK.out.1.later HB5.out) (HLK.out.2.later HLK.out.1 HB5.out) HM.out.symm).mono ?_
      rintro e w6 ⟨q6, c6, rfl, hc6, hl6, hq6, hb6⟩
      have HD6 := Lib.hid (HD5.out.later HF1.out hb6)
      have HB6 := Lib.hid hb6
      have HSM := Lib.hid (same23_any (stX y).size (stX y) x (Nat.le_refl _) true true 1 k ⟨#[40]⟩ s 0 a0 q6 (some ⟨bq, oq, none⟩) c6 c w6 _ _ hq6 HD6.out.fo hc6 HQ.out.2.2.2.1 hl6 (by have := HQ.out.2.2.2.2; omega))
      rw [<- HBS.out, <- HN.out] at HSM
      unfold trV at HSM ⊢
      clear hb6 hc6 hl6 hq6
      refine hK.out _ _ (SL.cons (fun _ => trivial) (SL.cons (fun _ => ⟨HD6.out.st, HD6.out.box⟩) SL.nil)) (fun hH => ?_)
      clear hK K
      try simp only [Act.put, sI, s0, s1]
      refine wpAnyL_ready (rs := [7]) (by kernel_rfl) (by simp) ?_
      refine AllReadyL.cons (o := ⟨some 94, .call ⟨.value (.func 15), #[.tmp 92, .tmp 93], #[35, 35]⟩, 4, "ref.go:273", #[⟨5, .data⟩, ⟨6, .data⟩, ⟨5, .chain⟩, ⟨3, .guard⟩], some (3, false)⟩) rfl (fun K hK => ?_) AllReadyL.nil
      go_simp
      go_at_call 15
      refine HSM.out.mono ?_
      rintro e w7 ⟨rfl, hb7⟩
      have HD7 := Lib.hid (HD6.out.later HF1.out hb7)
      have HB7 := Lib.hid hb7
      clear hb7 HSM
      refine hK.out _ _ (SL.cons (fun _ => trivial) (SL.cons (fun _ => ⟨HD7.out.st, HD7.out.box⟩) SL.nil)) (fun hH => ?_)
      clear hK K
      try simp only [Act.put, sI, s0, s1]
      refine tk 0 8 ⟨some 95, .unOp .not 4 (.tmp 94), 4, "ref.go:273", #[⟨7, .data⟩, ⟨3, .guard⟩], some (3, false)⟩ ?_ rfl rfl ?_ hH fun hH => ?_
      rotate_left
      ·intro w hSw; (try dsimp only at hSw); go_simp; try with_reducible rfl
      try simp only [Act.put, sI, s0, s1]
      refine tk 0 9 ⟨some 96, .pick (.tmp 90) (.const (.bool true)) (.tmp 95), 4, "ref.go:273", #[⟨3, .data⟩, ⟨8, .data⟩], none⟩ ?_ rfl rfl ?_ hH fun hH => ?_
      rotate_left
      ·intro w hSw; (try dsimp only at hSw); go_simp; try with_reducible rfl
      try simp only [Act.put, sI, s0, s1]
      refine wpAnyL_done (by kernel_rfl) ?_ _
      cases bs with
      | false =>
       have hr0 : R = none := by rw [HRY.out, if_neg (by rw [<- HBS.out]; simp)]
       subst hr0
       clear hH
       obtain ⟨z0, z1, z2, z3, z4, zf⟩ := HD7.out.res
       go_wp2_with fail
       have h7 := only5 w7 (W.heap.size + 1) (.int .u8 0) (.slice none 0 0) (.slice none 0 0) (.int .i64 0) (.int .i64 0)
       exact bodyPost_ret (v := .tuple #[.agg #[.int .u8 0, .slice none 0 0, .slice none 0 0, .int .i64 0, .int .i64 0], .int .i64 5]) (by simp [results, Tryz.results20, go_sem, z0, z1, z2, z3, z4]) rfl ⟨rfl, HD7.out.below.trans (h7.below (fun k e => by omega) HD7.out.below.size)⟩
      | true =>
       have hr0 : R = some y := by rw [HRY.out, if_pos ⟨HM.out.symm, HBS.out.symm⟩]
       subst hr0
       clear hH
       have HOI7 := Lib.hid (((HOI.out.later HB5.out).later HB6.out).later HB7.out)
       have HOK7 := Lib.hid (((HOK.out.later HB5.out).later HB6.out).later HB7.out)
       obtain ⟨z0, z1, z2, z3, z4, zf⟩ := HD7.out.res
       obtain ⟨x0, x1', x2', x3', x4', xf⟩ := HD7.out.st
       have HEND := Lib.hid (show ∀ w9, Only (fun k => k = W.heap.size + 1) w7 w9 -> OwnI 44 w9 (fun b => W.heap.size <= b) (.slice none y.lits.length 0) y.lits /\ OwnK w9 (fun b => W.heap.size <= b) (.slice none y.links.length 0) y.links /\ Below W.heap.size W w9 from fun w9 ho =>
        ⟨(HOI7.out.only ho (fun b hb e => by omega)).mono (fun b hb _ => by omega), (HOK7.out.only ho (fun b hb e => by omega)).mono (fun b hb _ => by omega), HD7.out.below.trans (ho.below (fun k e => by omega) HD7.out.below.size)⟩)
       go_wp2_with fail
       have h7 := HEND.out _ (only5 w7 (W.heap.size + 1) (.int .u8 y.k) (.slice none y.lits.length 0) (.slice none y.links.length 0) (.int .i64 y.a) (.int .i64 y.b))
       exact bodyPost_ret (v := .tuple #[.agg #[.int .u8 y.k, .slice none y.lits.length 0, .slice none y.links.length 0, .int .i64 y.a, .int .i64 y.b], .int .i64 0]) (by simp [results, Tryz.results20, go_sem, z0, z1, z2, z3, z4]) rfl ⟨⟨none, 0, none, 0, rfl, h7.1, h7.2.1⟩, h7.2.2⟩
   have t4 : (h.toList == [112, 97, 105, 114]) = false := beq_eq_false_iff_ne.2 (fun e => g4 (toList_byte (e.trans (by rw [ByteArray.toList_eq]; rfl))))
   have hjn : ¬ (h = hPair /\ (valsF f).length = 2) := fun e => g4 e.1
   obtain ⟨y, hyd⟩ : ∃ y, y = stepD x := ⟨_, rfl⟩
   have HRY := Lib.hid (show R = if maySt y = true /\ sameT true 1 ⟨#[40]⟩ (stX y) true k s x = true then some y else none from by rw [hyd]; exact HR.out)
   have hyv : y = ⟨0, [], [], 0, 0⟩ := by rw [hyd, HSD.out, if_neg g1, if_neg g2, if_neg g3, if_neg hjn]
   have HT := Lib.hid (show D20 W (some ⟨bq, oq, none⟩) F1 true k s a0 c N x y.k (.slice none y.lits.length 0) (.slice none y.links.length 0) y.a y.b wr /\ OwnI 44 wr (fun b => W.heap.size + 3 <= b) (.slice none y.lits.length 0) y.lits /\ OwnK wr (fun b => W.heap.size + 3 <= b) (.slice none y.links.length 0) y.links /\ KdL y.links /\ y.lits.length <= 1000000000 /\ y.links.length <= 1000000000 from by
    rw [hyv]
    exact ⟨HG.out.d, OwnI.nil _ _ _, OwnK.nil _ _, (fun y hy => by cases hy), Nat.zero_le _, Nat.zero_le _⟩)
   clear hyd hyv
   clear g1 g2 g3 g4
   go_wp2_with fail
   clear c0 c1 c2 c3 c4' y0 y1 y2 y3 y4 yf z0 z1 z2 z3 z4 zf
   have HD := Lib.hid (HT.out.1.later HF1.out (below_drew _))
   have HOI := Lib.hid (HT.out.2.1.later (below_drew _))
   have HOK := Lib.hid (HT.out.2.2.1.later (below_drew _))
   obtain ⟨M, hM⟩ : ∃ M, M = maySt y := ⟨_, rfl⟩
   have HM := Lib.hid hM
   obtain ⟨bs, hbs⟩ : ∃ b, b = sameT true 1 ⟨#[40]⟩ (stX y) true k s x := ⟨_, rfl⟩
   have HBS := Lib.hid hbs
   clear hM hbs
   refine wp_region_L [(1000, (fun _ => True : World -> Prop)), (1000, (fun w => BoxS w (W.heap.size + 2) y.k (.slice none y.lits.length 0) (.slice none y.links.length 0) y.a y.b /\ BoxT w W.heap.size true k s a0 (.slice (some ⟨bq, oq, none⟩) N c) : World -> Prop))] (by kernel_rfl) (SL.cons (fun _ => trivial) (SL.cons (fun _ => ⟨HD.out.st, HD.out.box⟩) SL.nil)) (fun hH => ?_)
   generalize wr.drew = wd at *
   have HIN := Lib.hid (show IntsIn wd none y.lits from by
    obtain ⟨qi, ci, hvi, _, _, _, _, hii, _⟩ := HOI.out.intsIn
    injection hvi with hv1 hv2 hv3
    subst hv1
    exact hii)
   have HLK := Lib.hid (show LksIn wd none y.links /\ LksOK wd none y.links from by
    obtain ⟨qi, ci, hvi, _, _, hii, hoo⟩ := HOK.out.lks
    injection hvi with hv1 hv2 hv3
    subst hv1
    exact ⟨hii, hoo⟩)
   refine tk 1 0 ⟨some 87, .load 26 (.tmp 4), 26, "ref.go:273", #[], none⟩ ?_ rfl rfl ?_ hH fun hH => ?_
   rotate_left
   ·intro w hSw; (try dsimp only at hSw); obtain ⟨⟨z0, z1, z2, z3, z4, zf⟩, x0, x1', x2', x3', x4', xf⟩ := hSw; go_simp; try with_reducible rfl
   try simp only [Act.put, sI, s0, s1]
   refine wpAnyL_ready (rs := [1]) (by kernel_rfl) (by simp) ?_
   refine AllReadyL.cons (o := ⟨some 88, .call ⟨.value (.func 12), #[.tmp 87], #[26]⟩, 4, "ref.go:273", #[⟨0, .data⟩], none⟩) rfl (fun K hK => ?_) AllReadyL.nil
   go_simp
   go_at_call 12
   refine (may12 y.k y.a y.b none 0 y.lits.length none 0 y.links.length y.lits y.links M wd rfl rfl (by have := HT.out.2.2.2.2.1; omega) (by have := HT.out.2.2.2.2.2; omega) HIN.out HLK.out.1 HT.out.2.2.2.1 HM.out).mono ?_
   rintro e w5 ⟨rfl, hb5⟩
   have HD5 := Lib.hid (HD.out.later HF1.out hb5)
   have HB5 := Lib.hid hb5
   clear hb5
   refine hK.out _ _ (SL.cons (fun _ => trivial) (SL.cons (fun _ => ⟨HD5.out.st, HD5.out.box⟩) SL.nil)) (fun hH => ?_)
   clear hK K
   try simp only [Act.put, sI, s0, s1]
   cases M with
   | false =>
    have hr0 : R = none := by rw [HRY.out, if_neg (by rw [<- HM.out]; simp)]
    subst hr0
    refine tk 0 2 ⟨some 89, .unOp .not 4 (.tmp 88), 4, "ref.go:273", #[⟨1, .data⟩], none⟩ ?_ rfl rfl ?_ hH fun hH => ?_
    rotate_left
    ·intro w hSw; (try dsimp only at hSw); go_simp; try with_reducible rfl
    try simp only [Act.put, sI, s0, s1]
    refine tk 0 3 ⟨some 90, .move (.tmp 89), 4, "ref.go:273", #[⟨2, .data⟩, ⟨1, .chain⟩], none⟩ ?_ rfl rfl ?_ hH fun hH => ?_
    rotate_left
    ·intro w hSw; (try dsimp only at hSw); go_simp; try with_reducible rfl
    try simp only [Act.put, sI, s0, s1]
    refine tu 0 4 ⟨some 91, .load 26 (.tmp 4), 26, "ref.go:273", #[⟨3, .guard⟩], some (3, false)⟩ rfl rfl hH fun hH => ?_
    try simp only [Act.put, sI, s0, s1]
    refine tu 0 5 ⟨some 92, .call ⟨.value (.func 17), #[.tmp 91], #[26]⟩, 35, "ref.go:273", #[⟨4, .data⟩, ⟨3, .chain⟩, ⟨3, .guard⟩], some (3, false)⟩ rfl rfl hH fun hH => ?_
    try simp only [Act.put, sI, s0, s1]
    refine tu 0 6 ⟨some 93, .load 35 (.tmp 1), 35, "ref.go:273", #[⟨3, .guard⟩], some (3, false)⟩ rfl rfl hH fun hH => ?_
    try simp only [Act.put, sI, s0, s1]
    refine tu 0 7 ⟨some 94, .call ⟨.value (.func 15), #[.tmp 92, .tmp 93], #[35, 35]⟩, 4, "ref.go:273", #[⟨5, .data⟩, ⟨6, .data⟩, ⟨5, .chain⟩, ⟨3, .guard⟩], some (3, false)⟩ rfl rfl hH fun hH => ?_
    try simp only [Act.put, sI, s0, s1]
    refine tu 0 8 ⟨some 95, .unOp .not 4 (.tmp 94), 4, "ref.go:273", #[⟨7, .data⟩, ⟨3, .guard⟩], some (3, false)⟩ rfl rfl hH fun hH => ?_
    try simp only [Act.put, sI, s0, s1]
    refine tk 0 9 ⟨some 96, .pick (.tmp 90) (.const (.bool true)) (.tmp 95), 4, "ref.go:273", #[⟨3, .data⟩, ⟨8, .data⟩], none⟩ ?_ rfl rfl ?_ hH fun hH => ?_
    rotate_left
    ·intro w hSw; (try dsimp only at hSw); go_simp; try with_reducible rfl
    try simp only [Act.put, sI, s0, s1]
    refine wpAnyL_done (by kernel_rfl) ?_ _
    clear hH
    obtain ⟨z0, z1, z2, z3, z4, zf⟩ := HD5.out.res
    go_wp2_with fail
    have h7 := only5 w5 (W.heap.size + 1) (.int .u8 0) (.slice none 0 0) (.slice none 0 0) (.int .i64 0) (.int .i64 0)
    exact bodyPost_ret (v := .tuple #[.agg #[.int .u8 0, .slice none 0 0, .slice none 0 0, .int .i64 0, .int .i64 0], .int .i64 5]) (by simp [results, Tryz.results20, go_sem, z0, z1, z2, z3, z4]) rfl ⟨rfl, HD5.out.below.trans (h7.below (fun k e => by omega) HD5.out.below.size)⟩
   | true =>
    refine tk 0 2 ⟨some 89, .unOp .not 4 (.tmp 88), 4, "ref.go:273", #[⟨1, .data⟩], none⟩ ?_ rfl rfl ?_ hH fun hH => ?_
    rotate_left
    ·intro w hSw; (try dsimp only at hSw); go_simp; try with_reducible rfl
    try simp only [Act.put, sI, s0, s1]
    refine tk 0 3 ⟨some 90, .move (.tmp 89), 4, "ref.go:273", #[⟨2, .data⟩, ⟨1, .chain⟩], none⟩ ?_ rfl rfl ?_ hH fun hH => ?_
    rotate_left
    ·intro w hSw; (try dsimp only at hSw); go_simp; try with_reducible rfl
    try simp only [Act.put, sI, s0, s1]
    refine tk 1 4 ⟨some 91, .load 26 (.tmp 4), 26, "ref.go:273", #[⟨3, .guard⟩], some (3, false)⟩ ?_ rfl rfl ?_ hH fun hH => ?_
    rotate_left
    ·intro w hSw; (try dsimp only at hSw); obtain ⟨⟨z0, z1, z2, z3, z4, zf⟩, x0, x1', x2', x3', x4', xf⟩ := hSw; go_simp; try with_reducible rfl
    try simp only [Act.put, sI, s0, s1]
    refine tk 1 6 ⟨some 93, .load 35 (.tmp 1), 35, "ref.go:273", #[⟨3, .guard⟩], some (3, false)⟩ ?_ rfl rfl ?_ hH fun hH => ?_
    rotate_left
    ·intro w hSw; (try dsimp only at hSw); obtain ⟨⟨z0, z1, z2, z3, z4, zf⟩, x0, x1', x2', x3', x4', xf⟩ := hSw; go_simp; try with_reducible rfl
    try simp only [Act.put, sI, s0, s1]
    refine wpAnyL_ready (rs := [5]) (by kernel_rfl) (by simp) ?_
    refine AllReadyL.cons (o := ⟨some 92, .call ⟨.value (.func 17), #[.tmp 91], #[26]⟩, 35, "ref.go:273", #[⟨4, .data⟩, ⟨3, .chain⟩, ⟨3, .guard⟩], some (3, false)⟩) rfl (fun K hK => ?_) AllReadyL.nil
    go_simp
    go_at_call 17
    refine (tree17 y none 0 none 0 w5 (HIN.out.later HB5.out) (HLK.out.1.later HB5.out) (HLK.out.2.later HLK.out.1 HB5.out) HM.out.symm).mono ?_
    rintro e w6 ⟨q6, c6, rfl, hc6, hl6, hq6, hb6⟩
    have HD6 := Lib.hid (HD5.out.later HF1.out hb6)
    have HB6 := Lib.hid hb6
    have HSM := Lib.hid (same23_any (stX y).size (stX y) x (Nat.le_refl _) true true 1 k ⟨#[40]⟩ s 0 a0 q6 (some ⟨bq, oq, none⟩) c6 c w6 _ _ hq6 HD6.out.fo hc6 HQ.out.2.2.2.1 hl6 (by have := HQ.out.2.2.2.2; omega))
    rw [<- HBS.out, <- HN.out] at HSM
    unfold trV at HSM ⊢
    clear hb6 hc6 hl6 hq6
    refine hK.out _ _ (SL.cons (fun _ => trivial) (SL.cons (fun _ => ⟨HD6.out.st, HD6.out.box⟩) SL.nil)) (fun hH => ?_)
    clear hK K
    try simp only [Act.put, sI, s0, s1]
    refine wpAnyL_ready (rs := [7]) (by kernel_rfl) (by simp) ?_
    refine AllReadyL.cons (o := ⟨some 94, .call ⟨.value (.func 15), #[.tmp 92, .tmp 93], #[35, 35]⟩, 4, "ref.go:273", #[⟨5, .data⟩, ⟨6, .data⟩, ⟨5, .chain⟩, ⟨3, .guard⟩], some (3, false)⟩) rfl (fun K hK => ?_) AllReadyL.nil
    go_simp
    go_at_call 15
    refine HSM.out.mono ?_
    rintro e w7 ⟨rfl, hb7⟩
    have HD7 := Lib.hid (HD6.out.later HF1.out hb7)
    have HB7 := Lib.hid hb7
    clear hb7 HSM
    refine hK.out _ _ (SL.cons (fun _ => trivial) (SL.cons (fun _ => ⟨HD7.out.st, HD7.out.box⟩) SL.nil)) (fun hH => ?_)
    clear hK K
    try simp only [Act.put, sI, s0, s1]
    refine tk 0 8 ⟨some 95, .unOp .not 4 (.tmp 94), 4, "ref.go:273", #[⟨7, .data⟩, ⟨3, .guard⟩], some (3, false)⟩ ?_ rfl rfl ?_ hH fun hH => ?_
    rotate_left
    ·intro w hSw; (try dsimp only at hSw); go_simp; try with_reducible rfl
    try simp only [Act.put, sI, s0, s1]
    refine tk 0 9 ⟨some 96, .pick (.tmp 90) (.const (.bool true)) (.tmp 95), 4, "ref.go:273", #[⟨3, .data⟩, ⟨8, .data⟩], none⟩ ?_ rfl rfl ?_ hH fun hH => ?_
    rotate_left
    ·intro w hSw; (try dsimp only at hSw); go_simp; try with_reducible rfl
    try simp only [Act.put, sI, s0, s1]
    refine wpAnyL_done (by kernel_rfl) ?_ _
    cases bs with
    | false =>
     have hr0 : R = none := by rw [HRY.out, if_neg (by rw [<- HBS.out]; simp)]
     subst hr0
     clear hH
     obtain ⟨z0, z1, z2, z3, z4, zf⟩ := HD7.out.res
     go_wp2_with fail
     have h7 := only5 w7 (W.heap.size + 1) (.int .u8 0) (.slice none 0 0) (.slice none 0 0) (.int .i64 0) (.int .i64 0)
     exact bodyPost_ret (v := .tuple #[.agg #[.int .u8 0, .slice none 0 0, .slice none 0 0, .int .i64 0, .int .i64 0], .int .i64 5]) (by simp [results, Tryz.results20, go_sem, z0, z1, z2, z3, z4]) rfl ⟨rfl, HD7.out.below.trans (h7.below (fun k e => by omega) HD7.out.below.size)⟩
    | true =>
     have hr0 : R = some y := by rw [HRY.out, if_pos ⟨HM.out.symm, HBS.out.symm⟩]
     subst hr0
     clear hH
     have HOI7 := Lib.hid (((HOI.out.later HB5.out).later HB6.out).later HB7.out)
     have HOK7 := Lib.hid (((HOK.out.later HB5.out).later HB6.out).later HB7.out)
     obtain ⟨z0, z1, z2, z3, z4, zf⟩ := HD7.out.res
     obtain ⟨x0, x1', x2', x3', x4', xf⟩ := HD7.out.st
     have HEND := Lib.hid (show ∀ w9, Only (fun k => k = W.heap.size + 1) w7 w9 -> OwnI 44 w9 (fun b => W.heap.size <= b) (.slice none y.lits.length 0) y.lits /\ OwnK w9 (fun b => W.heap.size <= b) (.slice none y.links.length 0) y.links /\ Below W.heap.size W w9 from fun w9 ho =>
      ⟨(HOI7.out.only ho (fun b hb e => by omega)).mono (fun b hb _ => by omega), (HOK7.out.only ho (fun b hb e => by omega)).mono (fun b hb _ => by omega), HD7.out.below.trans (ho.below (fun k e => by omega) HD7.out.below.size)⟩)
     go_wp2_with fail
     have h7 := HEND.out _ (only5 w7 (W.heap.size + 1) (.int .u8 y.k) (.slice none y.lits.length 0) (.slice none y.links.length 0) (.int .i64 y.a) (.int .i64 y.b))
     exact bodyPost_ret (v := .tuple #[.agg #[.int .u8 y.k, .slice none y.lits.length 0, .slice none y.links.length 0, .int .i64 y.a, .int .i64 y.b], .int .i64 0]) (by simp [results, Tryz.results20, go_sem, z0, z1, z2, z3, z4]) rfl ⟨⟨none, 0, none, 0, rfl, h7.1, h7.2.1⟩, h7.2.2⟩
  | cons l1 k1 s1 a1' x1 r =>
   have hkn : m < N := by have := hg.len; have := HXE.out.2; simp [Fo.len] at hlen; omega
   have k1' : (m : Int) < (N : Int) := Int.ofNat_lt.2 hkn
   obtain ⟨hFq, c0, c1, c2, c3, ⟨q4, d4, c4', hl4, hm4, hq4⟩, hr⟩ := hg.fo.head
   have HS := Lib.hid (step_ok hkn (show N <= 9223372036854775807 from by omega))
   have HG := Lib.hid hg
   have HR := Lib.hid hr
   have HFG := Lib.hid (And.intro hfg (And.intro hk (And.intro htx hkn)))
   obtain ⟨v, hv⟩ : ∃ v, v = valP l1 s1 x1 := ⟨_, rfl⟩
   have HC := Lib.hid (value55 x1 l1 k1 s1 a1' q4 d4 wr F1 hq4 hl4 hm4 htx.1 htx.2.1)
   rw [<- hv] at HC
   have HSN := Lib.hid (show valsF (pre.snoc l1 k1 s1 a1' x1) = valsF pre ++ [v] /\ (valsF pre).length = j /\ f = (pre.snoc l1 k1 s1 a1' x1).app r /\ (pre.snoc l1 k1 s1 a1' x1).len + 1 = m + 1 from ⟨by rw [valsF_snoc, <- hv], by rw [valsF_len]; have := hg.len; have := HJ.out.1; omega, by rw [hfg, Fo.snoc_app], by rw [Fo.len_snoc, hg.len]⟩)
   obtain ⟨y0, y1, y2, y3, y4, yf⟩ := hg.d.box
   obtain ⟨G, rfl⟩ : ∃ G, gk = G + 1 := ⟨gk - 1, by simp [Fo.len] at hlen; have := hg.len; omega⟩
   unfold trV at HC
   clear hk hfg htx hg hlen hkn hl4 hm4 hq4 hr hv hFq
   go_wp2_with fail
   refine HC.out.mono ?_
   rintro e w6 ⟨rfl, hb6⟩
   have HB6 := Lib.hid hb6
   have HV6 := Lib.hid (HG.out.row.later hb6)
   have hsz6 : W.heap.size + 3 <= w6.heap.size := Nat.le_trans HG.out.d.le hb6.size
   obtain ⟨w7, hw7⟩ : ∃ w7, w7 = w6.alloc (.cells #[.int .i64 v] 44) := ⟨_, rfl⟩
   have HB7 := Lib.hid (show Below w6.heap.size w6 w7 from by rw [hw7]; exact below1 _ _)
   have HI7 := Lib.hid (show IntsIn w7 (some ⟨w6.heap.size, 0, none⟩) [v] from by rw [hw7]; exact int_one44 _ _)
   have HV7 := Lib.hid (HV6.out.later HB7.out)
   have HSZ7 := Lib.hid (Nat.le_trans hsz6 HB7.out.size)
   have HW7 := Lib.hid hw7
   clear hw7 hsz6 hb6 HC c0 c1 c2 c3 c4' y0 y1 y2 y3 y4 yf
   go_wp2_with (at_builtin; rw [<- HW7.out]; refine wpList_join_ints intE23 (by rfl) _ _ (by rfl) (fun b => W.heap.size + 3 <= b) (.slice p4 j c4) (valsF pre) (some ⟨w6.heap.size, 0, none⟩) 1 1 [v] (by rfl) (by rfl) HV7.out HI7.out rfl (fun h => by cases h) HSZ7.out (by have := HSN.out.2.1; have := HFG.out.2.2.2; have := HJ.out; omega) (by simp) ?_)
   intro p8 c8 w8 hown8 ho8 _
   rw [HSN.out.2.1] at hown8 ⊢
   have hoT : ∀ j', (Value.slice p4 j c4).ownBlock = some j' -> W.heap.size + 3 <= j' := fun j' e => (HV7.out.blk j' e).1
   have HO8 := Lib.hid (show Only (fun k => W.heap.size + 3 <= k) wr w8 from ((Only.of_below HB6.out).trans (Only.of_below HB7.out)).trans (ho8.mono (fun j _ e => hoT j e)))
   have HF := Lib.hid (show G20 W (some ⟨bq, oq, none⟩) F1 true k s a0 c N x (m + 1) (pre.snoc l1 k1 s1 a1' x1) r (.slice p8 (j + 1) c8) w8 from
    ⟨HG.out.d.only HO8.out HF1.out (fun _ e => e), by rw [HSN.out.1]; exact hown8, HR.out.only HO8.out (fun b hb e => by have := HF1.out b hb; omega), HSN.out.2.2.2⟩)
   have H9 := Lib.hid (show m + 1 - 1 = j + 1 from by have := HJ.out; omega)
   clear hown8 ho8 hoT
   go_wp2_with fail
   go_roundg G
   case measure => omega
   case rel => exact ⟨m + 1, p8, c8, by have := HFG.out.2.1; omega, by rw [H9.out], by first | rfl | rw [HS.out.2.2], Lib.hid ⟨pre.snoc l1 k1 s1 a1' x1, r, HSN.out.2.2.1, HFG.out.2.2.1.2.2, (H9.out.symm ▸ HF.out)⟩⟩
end Go.Proofs.YtookoagcmejkpaaGreatDoor
