/- A link is read out of a tree: the program's. -/
import Derived.Test.YtookoagcmejkpaaGreatDoorJ26
set_option maxHeartbeats 6400000
namespace Go.Proofs.YtookoagcmejkpaaGreatDoor
set_option maxRecDepth 100000
open Go Go.RowKit Go.Maps
theorem qd7 {w w' : World} {r : Option Nat} (h : w.grownBy w' r) : Only (fun k => r = some k) w w' := Only.of_grown h
def zLk : Lk := ⟨0, 0, 0, 0, 0, 0, []⟩
theorem qhc (w : World) (B : Nat) (v0 v1 v2 v3 v4 v5 v6 : Value) : Only (fun k => k = B) w (((((((w.setCell ⟨B, 0, none⟩ v0).setCell ⟨B, 1, none⟩ v1).setCell ⟨B, 2, none⟩ v2).setCell ⟨B, 3, none⟩ v3).setCell ⟨B, 4, none⟩ v4).setCell ⟨B, 5, none⟩ v5).setCell ⟨B, 6, none⟩ v6) :=
 ((qdp w B v0 v1 v2 v3 v4).trans (Only.of_setCell _ ⟨B, 5, none⟩ _)).trans (Only.of_setCell _ ⟨B, 6, none⟩ _)
structure S98 (w3 : World) (r b9 : Nat) (h : ByteArray) (a b lit i j list : Bool) (w : World) (y : Lk) (v : Value) (f : Fo) (o : Bool) (q : Option Addr) (c : Nat) : Prop where
 form : FormL w b9 h a b lit i j list
 box : BoxL w (b9 + 1) y v
 rd : RdB w (b9 + 1 + 1) q f.len c o
 fo : FoIn w (fun b => b < r) f q
 le : f.len <= c
 len : f.len <= 1000000000
 tx : TxOK f
 below : Below r w3 w
 lt : r <= b9
theorem S98.step {w3 : World} {r b9 : Nat} {h : ByteArray} {a b lit i j list : Bool} {w w' : World} {y y' : Lk} {v v' : Value} {f f' : Fo} {o o' : Bool} {q q' : Option Addr} {c c' : Nat} {Bt ot : Nat} {n : Int}
  (s : S98 w3 r b9 h a b lit i j list w y v f o q c) (hb : BoxL w' (b9 + 1) y' v') (hr : RdB w' (b9 + 1 + 1) q' f'.len c' o') (hc : f'.len <= c') (hf : FoIn w' (fun b => b < r) f' q') (hn : NxC w w' (b9 + 1 + 1) Bt ot n) (hl : f'.len <= f.len) (ht : TxOK f') (hB : b9 < Bt) : S98 w3 r b9 h a b lit i j list w' y' v' f' o' q' c' where
 form := s.form.only hn.only (fun e => by omega)
 box := hb
 rd := hr
 fo := hf
 le := hc
 len := Nat.le_trans hl s.len
 tx := ht
 below := s.below.trans (hn.only.below (B := r) (fun k e => by have := s.lt; omega) (Nat.le_trans (Nat.le_trans s.lt (Nat.le_succ_of_le (Nat.le_succ _))) (Nat.le_of_lt s.rd.lt)))
 lt := s.lt
theorem qtb (m : Nat) (l : Bool) (k : Int) (s : ByteArray) (a0 : Int) (x : Fo) (q : Option Addr) (c : Nat) (F : Nat -> Prop) (W : World) (hm : FMap W 61 m qdg 7) (hq : FoIn W F x q) (hc : x.len <= c) (hl : x.len <= 1000000000) (hx : TxOK x) :
  Calls Tryz.prog 98 #[.map (some m), trV l k s a0 q x.len c] W fun e w' => (∃ p' c', e = .returned (.tuple #[lkV (qbr l x).1 p' c', .bool (qbr l x).2]) /\ OwnI 3 w' (fun b => W.heap.size <= b) (.slice p' (qbr l x).1.l.length c') (qbr l x).1.l) /\ Below W.heap.size W w' := by
 obtain ⟨w2, hw2⟩ : ∃ w2, w2 = (W.alloc (.cells #[.bool l, .int .u8 k, .string s, .int .i64 a0, .slice q x.len c] 35)).alloc (.cells #[.int .u8 0, .int .i64 0, .int .i64 0, .int .i64 0, .int .i64 0, .int .i64 0, .slice none 0 0] 64) := ⟨_, rfl⟩;have hb2 : Below W.heap.size W w2 := by rw [hw2]; exact (qab W _).alloc (by simp) _
 have hz2 : BoxL w2 (W.heap.size + 1) zLk (.slice none 0 0) := by
  have h := qea (W.alloc (.cells #[.bool l, .int .u8 k, .string s, .int .i64 a0, .slice q x.len c] 35)) ⟨0, 0, 0, 0, 0, 0, []⟩ (.slice none 0 0);rw [hw2]; unfold zLk; simpa using h
 have hs2 : w2.heap.size = W.heap.size + 2 := by rw [hw2]; simp
 have HP := Zh (qfm l k s a0 x q c w2 F (hq.later hb2) hc (by omega));have HS2 := Zh (aI hb2 (aI hz2 (aI hs2 (hm.later hb2))));have HW2 := Zh hw2;have HTX := Zh (TxOK.hd (l := l) hx)
 have HGL := Zh (show (hd l x).2.len <= 1000000000 from by
  have e : (hd l x).2.len <= x.len := by
   cases x with
   | nil => exact Nat.le_refl _
   | cons l0 k0 s0 a0 y z =>
    simp only [hd]
    split
    ·simp [Fo.len]
    ·simp [Fo.len]
  omega)
 obtain ⟨R, hR⟩ : ∃ R, R = qbr l x := ⟨_, rfl⟩;have HRR := Zh hR;rw [<- hR];obtain ⟨h, hh⟩ : ∃ h, h = (hd l x).1 := ⟨_, rfl⟩;obtain ⟨g, hg⟩ : ∃ g, g = (hd l x).2 := ⟨_, rfl⟩;have HH := Zh hh;have HG := Zh hg;rw [<- hh, <- hg] at HP;rw [<- hg] at HTX HGL;clear hm hq hc hl hx hw2 hb2 hz2 hs2 hR hh hg;unfold trV at HP ⊢;go_enter Tryz.func98, Tryz.ntmps98
 go_wp2_with fail
 rw [<- HW2.o];refine HP.o.mono ?_;rintro e w3 ⟨⟨q3, c3, rfl, hq3, hc3⟩, hb3⟩;have HF3 := Zh (HS2.o.2.2.2.later hb3);have HB3 := Zh (HS2.o.1.trans (hb3.mono HS2.o.1.size));have HZ3 := Zh (HS2.o.2.1.later hb3);have HSZ3 := Zh (show W.heap.size + 2 <= w3.heap.size from by have := hb3.size; have := HS2.o.2.2.1; omega);have HQ3 := Zh (aI (hq3.mono (F' := fun b => b < w3.heap.size) (fun b _ hl => hl)) hc3);obtain ⟨gl, hgl⟩ : ∃ gl, gl = g.len := ⟨_, rfl⟩;have HGN := Zh hgl;rw [<- hgl];clear hq3 hc3 hb3 HP HW2 HS2 hgl;obtain ⟨D, hd1, hd2, hd3, hd4, hd5⟩ := HF3.o.has;have HD := Zh (aI hd1 (aI hd4 hd5));clear hd1 hd2 hd3 hd4 hd5
 go_wp2_with (first | (at_range; refine wpList_range_own _ rfl _ 71 rfl 61 66 K61 Tryz.underlying71 qdh m 7 D rfl HD.o.1 ?_; intro w0 hrg0 hg0 hs0) | fail)
 go_frame
 have HB0 := Zh (show Below w3.heap.size w3 w0 from (qd7 hg0).below (fun k e => by cases e) (Nat.le_refl _));have HG0 := Zh hrg0;have HS0 := Zh hs0;obtain ⟨r, hr⟩ : ∃ r, r = w3.heap.size := ⟨_, rfl⟩;have HR3 := Zh hr;rw [<- hr] at HG0 HS0 HSZ3 HB0 ⊢;clear hrg0 hg0 hs0 hr
 go_loopw [8] (fun y wr => ∃ (left : Lit -> Bool) (cnt : Nat), Hid (wr.ranges Tryz.prog 61 qdh m r 7 D left cnt /\ Below r w3 wr /\ (∀ z, left z = true -> Maps.has D z = true) /\ (∀ z : Int, 1 <= z -> z <= 7 -> left (.int .u8 z) = false -> h ≠ lkH z))) (fun _ wr => wr.rangeLeft m r)
 case atStart => exact ⟨_, _, Zh ⟨HG0.o, HB0.o, fun z hz => hz, fun z h1 h7 hz => by
  obtain ⟨v, hv⟩ := qpr h1 h7;rw [HD.o.2.1 (.int .u8 z) ⟨_, qfk z (by omega) (by omega)⟩, qdz, hv] at hz
  cases hz⟩⟩
 case round =>
  obtain ⟨left, cnt, HI⟩ := hrel
  go_wp2_with (first | (at_next; refine wpList_next_ranges _ rfl _ rfl 61 K61 qdh (Value.int .u8) id (fun key kl hkey => by obtain ⟨x, rfl, _⟩ := Maps.keyOf_int_inv Tryz.underlying61 hkey; exact ⟨x, rfl⟩) (fun v y _ => ⟨v, rfl⟩) m r 7 D left cnt rfl HI.o.1 ?_ ?_) | fail)
  ·intro hc0 hl0
   have hr0 : R = (zLk, false) := by
    rw [HRR.o];exact qlz (fun z h1 h7 => by rw [<- HH.o]; exact HI.o.2.2.2 z h1 h7 (hl0 _))
   subst hr0;have HBE := Zh (show Below r w3 wr from HI.o.2.1);have hz := HZ3.o.only (Only.of_below (T := fun _ => False) (by rw [<- HR3.o]; exact HBE.o)) (fun h => h);obtain ⟨z0, z1, z2, z3, z4, z5, z6, zf⟩ := hz;clear hc0 hl0 HI;unfold zLk at z0 z1 z2 z3 z4 z5
   go_wp2_with fail
   have h7 := qhc wr (W.heap.size + 1) (.int .u8 0) (.int .i64 0) (.int .i64 0) (.int .i64 0) (.int .i64 0) (.int .i64 0) (.slice none 0 0);refine bodyPost_ret (v := .tuple #[.agg #[.int .u8 0, .int .i64 0, .int .i64 0, .int .i64 0, .int .i64 0, .int .i64 0, .slice none 0 0], .bool false]) (by simp [results, Tryz.results98, go_sem, z0, z1, z2, z3, z4, z5, z6]) rfl ⟨⟨none, 0, rfl, OwnI.nil _ _ _⟩, ?_⟩;have h8 : Below W.heap.size W wr := HB3.o.trans (HBE.o.mono (by have := HSZ3.o; omega));exact h8.trans (h7.below (fun k e => by omega) h8.size)
  ·intro x1 v1 kl yd yp w1 cnt1 hkey hlx hRv hat hrg1 hlt hg1 hs1 hen
   obtain ⟨_, e1, rfl, hwf⟩ := Maps.keyOf_int_inv Tryz.underlying61 hkey
   injection e1 with _ e1
   subst e1
   have hk255 : 0 <= x1 /\ x1 <= 255 := by
    simp [Lit.wf, IntKind.min, IntKind.max, IntKind.signed, IntKind.bits] at hwf;exact hwf
   have hv1 : qfj x1 = some v1 := by
    have hhas := HI.o.2.2.1 _ hlx;rw [HD.o.2.1 (.int .u8 x1) ⟨_, qfk x1 hk255.1 hk255.2⟩, qdz] at hhas
    cases hl : qfj x1 with
    | none => rw [hl] at hhas; cases hhas
    | some v =>
     have h1 := HD.o.2.2 (.int .u8 x1) v ⟨_, qfk x1 hk255.1 hk255.2⟩ (by rw [qdz]; exact hl) .nil;rw [hat] at h1;simp only [qdh] at hRv
     injection hRv with hRv
     injection hRv with hRv _
     rw [<- hRv] at h1
     injection h1 with h1
     rw [h1]
   obtain ⟨a, b, lit, i, j, list, rfl, hx1, hx7, hby⟩ := qly hv1;have HX1 := Zh (aI hx1 hx7);have HBY := Zh (hby l x);have HLO := Zh (aI hrg1 (aI hlt (aI hlx hg1)));have HI1 := Zh HI.o
   try simp only [id] at hen
   unfold fmV at hen ⊢;clear hkey hRv hat hrg1 hlt hg1 hlx hwf hk255 hv1 hx1 hx7 hby HI;have HW1B := Zh (show Below r w3 w1 from HI1.o.2.1.trans ((qd7 HLO.o.2.2.2).below (B := r) (fun k e => by injection e with e; omega) (by rw [HR3.o]; exact HI1.o.2.1.size)));have HWS := Zh (show w1.heap.size = wr.heap.size /\ r <= wr.heap.size from ⟨hs1, by rw [HR3.o]; exact HI1.o.2.1.size⟩)
   by_cases heq : h = lkH x1
   case neg =>
    have h1 : ((lkH x1).toList == h.toList) = false := by
     rw [beq_eq_false_iff_ne];exact fun e => heq (qat e).symm
    have HNE := Zh heq;clear heq
    go_wp2_with fail
    obtain ⟨wn, hwn⟩ : ∃ wn, wn = w1.alloc (.cells #[.string (lkH x1), .bool false, .bool false, .bool a, .bool b, .bool lit, .bool i, .bool j, .bool list] 66) := ⟨_, rfl⟩
    have HNEW := Zh (show wn.ranges Tryz.prog 61 qdh m r 7 D (fun z => left z && !z.sameKey (.int .u8 x1)) cnt1 /\ Below r w3 wn /\ (∀ z, (left z && !z.sameKey (.int .u8 x1)) = true -> Maps.has D z = true) /\ (∀ z : Int, 1 <= z -> z <= 7 -> (left (.int .u8 z) && !(Lit.int .u8 z).sameKey (.int .u8 x1)) = false -> h ≠ lkH z) from by
     refine ⟨by rw [hwn]; exact World.ranges.alloc HLO.o.1 _, ?_, fun z hz => HI1.o.2.2.1 z ?_, fun z z1 z7 hz => ?_⟩
     ·rw [hwn]
      exact HW1B.o.trans ((qab w1 _).mono (by rw [HWS.o.1]; exact HWS.o.2))
     ·simp only [Bool.and_eq_true] at hz
      exact hz.1
     ·by_cases hzx : z = x1
      ·subst hzx; exact HNE.o
      ·have hs : (Lit.int .u8 z).sameKey (.int .u8 x1) = false := by
        simp [Lit.sameKey]; exact hzx
       rw [hs] at hz
       exact HI1.o.2.2.2 z z1 z7 (by simpa using hz))
    rw [<- hwn];clear hwn;refine ⟨⟨_, cnt1, HNEW⟩, ?_⟩;have e1 := HNEW.o.1.left_eq;have e2 := HI1.o.1.left_eq;rw [e1, e2];exact HLO.o.2.1
   case pos =>
    have h1 : ((lkH x1).toList == h.toList) = true := by rw [heq]; simp
    have HEQ := Zh heq;clear heq;obtain ⟨wb, hwb⟩ : ∃ wb, wb = (((w1.alloc (.cells #[.string (lkH x1), .bool false, .bool false, .bool a, .bool b, .bool lit, .bool i, .bool j, .bool list] 66)).alloc (.cells #[.int .u8 x1, .int .i64 0, .int .i64 0, .int .i64 0, .int .i64 0, .int .i64 0, .slice none 0 0] 64)).alloc (.cells #[.slice q3 gl c3, .bool true] 114)).alloc (.cells #[.int .i64 0] 3) := ⟨_, rfl⟩;have hbb : Below w1.heap.size w1 wb := by rw [hwb]; exact (((qab w1 _).alloc (by simp) _).alloc (by simp; omega) _).alloc (by simp; omega) _
    have hfm : FormL wb w1.heap.size (lkH x1) a b lit i j list := by
     rw [hwb];exact ⟨⟨by simp [go_sem], by simp [go_sem], by simp [go_sem], by simp [go_sem], by simp [go_sem], by simp [go_sem]⟩, by simp [go_sem]⟩
    have hbx : BoxL wb (w1.heap.size + 1) ⟨x1, 0, 0, 0, 0, 0, []⟩ (.slice none 0 0) := by
     have hh := ((qea (w1.alloc (.cells #[.string (lkH x1), .bool false, .bool false, .bool a, .bool b, .bool lit, .bool i, .bool j, .bool list] 66)) ⟨x1, 0, 0, 0, 0, 0, []⟩ (.slice none 0 0)).later (qab _ (.cells #[.slice q3 gl c3, .bool true] 114))).later (qab _ (.cells #[.int .i64 0] 3));rw [hwb]; simpa using hh
    have hrd : RdB wb (w1.heap.size + 1 + 1) q3 gl c3 true := by
     rw [hwb];exact ⟨by simp [go_sem], by simp [go_sem], fun o => by simp [go_sem]⟩
    have hto : wb.cell? ⟨w1.heap.size + 1 + 1 + 1, 0, none⟩ = some (.int .i64 0) /\ wb.frozen? ⟨w1.heap.size + 1 + 1 + 1, 0, none⟩ = false := by
     rw [hwb];exact ⟨by simp [go_sem], by simp [go_sem]⟩
    have h3b : Below r w3 wb := HW1B.o.trans (hbb.mono (by rw [HWS.o.1]; exact HWS.o.2))
    have HS := Zh (show S98 w3 r w1.heap.size (lkH x1) a b lit i j list wb ⟨x1, 0, 0, 0, 0, 0, []⟩ (.slice none 0 0) g true q3 c3 from
     ⟨hfm, hbx, by rw [<- HGN.o]; exact hrd, by
      have hh := (HQ3.o.1.mono (F' := fun b => b < r) (fun b hb _ => by rw [HR3.o]; exact hb)).later (W' := wb) (by rw [<- HR3.o]; exact h3b)
      exact hh, HQ3.o.2, HGL.o, HTX.o, h3b, by rw [HWS.o.1]; exact HWS.o.2⟩)
    have HTO := Zh hto;have HWB := Zh hwb;rw [HGN.o];rw [HGN.o] at HWB;clear hwb hbb hfm hbx hrd hto h3b hs1 HLO;obtain ⟨⟨y0, y3, y4, y5, y6, y7⟩, y8⟩ := HS.o.form;rw [HWB.o] at y0 y3 y4 y5 y6 y7 y8
    go_wp2_with fail
    rw [<- HWB.o];clear y0 y3 y4 y5 y6 y7 y8 HWB h1;generalize w1.heap.size = b9 at *;obtain ⟨n1, f1, o1, e1⟩ : ∃ n f o, nx lit (g, true) = (n, (f, o)) := ⟨_, _, _, rfl⟩;have HC1 := Zh (qf2 lit (b9 + 1 + 1) g q3 c3 true (fun b => b < r) (b9 + 1 + 1 + 1) 0 wb HS.o.fo HS.o.le (Nat.le_trans HS.o.len (by decide)) (fun b hb => by have := HS.o.lt; omega) HS.o.tx HS.o.rd HTO.o.1 HTO.o.2 (by omega));have ht1 := qjk lit g true HS.o.tx;have hl1 := qes lit g true;rw [e1] at HC1 ht1 hl1
    dsimp only at HC1 ht1 hl1
    have HE1 := Zh e1;have HT1 := Zh (aI ht1 hl1);clear e1 ht1 hl1;refine HC1.o.mono ?_;rintro e wn1 ⟨rfl, qn1, cn1, hrd, hle, hfo, hnx⟩;have HS1 := Zh (HS.o.step (y' := ⟨x1, 0, 0, 0, 0, 0, []⟩) (v' := .slice none 0 0) (HS.o.box.only hnx.only (fun e => by omega)) hrd hle hfo hnx HT1.o.2 HT1.o.1 (by omega));have HTO1 := Zh (aI hnx.to (show wn1.frozen? ⟨b9 + 1 + 1 + 1, 0, none⟩ = false from by rw [hnx.fz]; exact HTO.o.2));clear hrd hle hfo hnx HC1;obtain ⟨⟨y0, y3, y4, y5, y6, y7⟩, y8⟩ := HS1.o.form;obtain ⟨z0, z1, z2, z3, z4, z5, z6, zf⟩ := HS1.o.box;have t0 := HTO1.o.1
    go_wp2_with fail
    obtain ⟨wL, hwL⟩ : ∃ w, w = wn1.setCell ⟨b9 + 1, 1, none⟩ (.int .i64 n1) := ⟨_, rfl⟩
    have HSL := Zh (show S98 w3 r b9 (lkH x1) a b lit i j list wL ⟨x1, n1, 0, 0, 0, 0, []⟩ (.slice none 0 0) f1 o1 qn1 cn1 from by
     have ho := Only.of_setCell wn1 ⟨b9 + 1, 1, none⟩ (.int .i64 n1);rw [<- hwL] at ho
     exact ⟨HS1.o.form.only ho (fun e => by simp only at e; omega), by rw [hwL]; exact HS1.o.box.nx1, HS1.o.rd.only ho (fun e => by simp only at e; omega), HS1.o.fo.only ho (fun b hb e => by have := HS1.o.lt; simp only at e; omega), HS1.o.le, HS1.o.len, HS1.o.tx, HS1.o.below.trans (ho.below (B := r) (fun k e => by have := HS1.o.lt; simp only at e; omega) (Nat.le_trans (Nat.le_trans HS1.o.lt (Nat.le_succ_of_le (Nat.le_succ _))) (Nat.le_of_lt HS1.o.rd.lt))), HS1.o.lt⟩)
    rw [<- hwL];clear hwL t0 z0 z1 z2 z3 z4 z5 z6 zf y0 y3 y4 y5 y6 y7 y8;clear HS1 HTO1 HTO;obtain ⟨⟨y0, y3, y4, y5, y6, y7⟩, y8⟩ := HSL.o.form
    go_wp2_with fail
    obtain ⟨n2, f2, o2, e2⟩ : ∃ n f o, nx a (f1, o1) = (n, (f, o)) := ⟨_, _, _, rfl⟩;have HC2 := Zh (qf2 a (b9 + 1 + 1) f1 qn1 cn1 o1 (fun b => b < r) (b9 + 1) 2 wL HSL.o.fo HSL.o.le (Nat.le_trans HSL.o.len (by decide)) (fun b hb => by have := HSL.o.lt; omega) HSL.o.tx HSL.o.rd HSL.o.box.c2 (HSL.o.box.fz 2) (by omega));have ht2 := qjk a f1 o1 HSL.o.tx;have hl2 := qes a f1 o1;rw [e2] at HC2 ht2 hl2
    dsimp only at HC2 ht2 hl2
    have HE2 := Zh e2;have HT2 := Zh (aI ht2 hl2);clear e2 ht2 hl2;refine HC2.o.mono ?_;rintro e wn2 ⟨rfl, qn2, cn2, hrd, hle, hfo, hnx⟩;have HS2 := Zh (HSL.o.step (y' := ⟨x1, n1, n2, 0, 0, 0, []⟩) (v' := .slice none 0 0) (BoxL.nx2 HSL.o.box hnx) hrd hle hfo hnx HT2.o.2 HT2.o.1 (by omega));clear hrd hle hfo hnx HC2;obtain ⟨⟨y0, y3, y4, y5, y6, y7⟩, y8⟩ := HS2.o.form
    go_wp2_with fail
    clear y0 y3 y4 y5 y6 y7 y8;obtain ⟨n3, f3, o3, e3⟩ : ∃ n f o, nx b (f2, o2) = (n, (f, o)) := ⟨_, _, _, rfl⟩;have HC3 := Zh (qf2 b (b9 + 1 + 1) f2 qn2 cn2 o2 (fun b => b < r) (b9 + 1) 3 wn2 HS2.o.fo HS2.o.le (Nat.le_trans HS2.o.len (by decide)) (fun b hb => by have := HS2.o.lt; omega) HS2.o.tx HS2.o.rd HS2.o.box.c3 (HS2.o.box.fz 3) (by omega));have ht3 := qjk b f2 o2 HS2.o.tx;have hl3 := qes b f2 o2;rw [e3] at HC3 ht3 hl3
    dsimp only at HC3 ht3 hl3
    have HE3 := Zh e3;have HT3 := Zh (aI ht3 hl3);clear e3 ht3 hl3;refine HC3.o.mono ?_;rintro e wn3 ⟨rfl, qn3, cn3, hrd, hle, hfo, hnx⟩;have HS3 := Zh (HS2.o.step (y' := ⟨x1, n1, n2, n3, 0, 0, []⟩) (v' := .slice none 0 0) (BoxL.nx3 HS2.o.box hnx) hrd hle hfo hnx HT3.o.2 HT3.o.1 (by omega));clear hrd hle hfo hnx HC3;obtain ⟨⟨y0, y3, y4, y5, y6, y7⟩, y8⟩ := HS3.o.form
    go_wp2_with fail
    clear y0 y3 y4 y5 y6 y7 y8;obtain ⟨n4, f4, o4, e4⟩ : ∃ n f o, nx i (f3, o3) = (n, (f, o)) := ⟨_, _, _, rfl⟩;have HC4 := Zh (qf2 i (b9 + 1 + 1) f3 qn3 cn3 o3 (fun b => b < r) (b9 + 1) 4 wn3 HS3.o.fo HS3.o.le (Nat.le_trans HS3.o.len (by decide)) (fun b hb => by have := HS3.o.lt; omega) HS3.o.tx HS3.o.rd HS3.o.box.c4 (HS3.o.box.fz 4) (by omega));have ht4 := qjk i f3 o3 HS3.o.tx;have hl4 := qes i f3 o3;rw [e4] at HC4 ht4 hl4
    dsimp only at HC4 ht4 hl4
    have HE4 := Zh e4;have HT4 := Zh (aI ht4 hl4);clear e4 ht4 hl4;refine HC4.o.mono ?_;rintro e wn4 ⟨rfl, qn4, cn4, hrd, hle, hfo, hnx⟩;have HS4 := Zh (HS3.o.step (y' := ⟨x1, n1, n2, n3, n4, 0, []⟩) (v' := .slice none 0 0) (BoxL.nx4 HS3.o.box hnx) hrd hle hfo hnx HT4.o.2 HT4.o.1 (by omega));clear hrd hle hfo hnx HC4;obtain ⟨⟨y0, y3, y4, y5, y6, y7⟩, y8⟩ := HS4.o.form
    go_wp2_with fail
    clear y0 y3 y4 y5 y6 y7 y8;obtain ⟨n5, f5, o5, e5⟩ : ∃ n f o, nx j (f4, o4) = (n, (f, o)) := ⟨_, _, _, rfl⟩;have HC5 := Zh (qf2 j (b9 + 1 + 1) f4 qn4 cn4 o4 (fun b => b < r) (b9 + 1) 5 wn4 HS4.o.fo HS4.o.le (Nat.le_trans HS4.o.len (by decide)) (fun b hb => by have := HS4.o.lt; omega) HS4.o.tx HS4.o.rd HS4.o.box.c5 (HS4.o.box.fz 5) (by omega));have ht5 := qjk j f4 o4 HS4.o.tx;have hl5 := qes j f4 o4;rw [e5] at HC5 ht5 hl5
    dsimp only at HC5 ht5 hl5
    have HE5 := Zh e5;have HT5 := Zh (aI ht5 hl5);clear e5 ht5 hl5;refine HC5.o.mono ?_;rintro e wn5 ⟨rfl, qn5, cn5, hrd, hle, hfo, hnx⟩;have HS5 := Zh (HS4.o.step (y' := ⟨x1, n1, n2, n3, n4, n5, []⟩) (v' := .slice none 0 0) (BoxL.nx5 HS4.o.box hnx) hrd hle hfo hnx HT5.o.2 HT5.o.1 (by omega));clear hrd hle hfo hnx HC5;obtain ⟨⟨y0, y3, y4, y5, y6, y7⟩, y8⟩ := HS5.o.form;have HRV := Zh (show R = lkBy x1 lit a b i j list g from by rw [HRR.o, HG.o]; exact HBY.o (by rw [<- HH.o]; exact HEQ.o))
    cases list with
    | false =>
     have hrv := HRV.o;simp only [lkBy, HE1.o, HE2.o, HE3.o, HE4.o, HE5.o] at hrv;simp only [Bool.false_eq_true, if_false] at hrv;subst hrv;clear HRV HBY;have HSS := Zh (show BoxL wn5 (b9 + 1) ⟨x1, n1, n2, n3, n4, n5, []⟩ (.slice none 0 0) /\ RdB wn5 (b9 + 1 + 1) qn5 f5.len cn5 o5 /\ Below r w3 wn5 from ⟨HS5.o.box, HS5.o.rd, HS5.o.below⟩);obtain ⟨fl, hfl⟩ : ∃ fl, fl = f5.len := ⟨_, rfl⟩;have HFL := Zh hfl;rw [<- hfl] at HSS;have fl1 : (fl : Int) <= 1000000000 := by have := HS5.o.len; omega
     go_wp2_with fail
     clear y0 y3 y4 y5 y6 y7 y8;clear hfl
     cases o5 with
     | true =>
      have hdec : ((fl : Int) == 0) = decide (fl = 0) := by
       by_cases h0 : fl = 0
       ·subst h0; rfl
       ·have : ((fl : Int) == 0) = false := by simp; omega
        rw [this]; simp [h0]
      have HD := Zh (show BoxL wn5.drew (b9 + 1) ⟨x1, n1, n2, n3, n4, n5, []⟩ (.slice none 0 0) /\ RdB wn5.drew (b9 + 1 + 1) qn5 fl cn5 true /\ Below r w3 wn5.drew from ⟨HSS.o.1.later (qae _), HSS.o.2.1.later (qae _), HSS.o.2.2.trans ((qae _).mono (by rw [HR3.o]; exact HSS.o.2.2.size))⟩);refine qai [(1000, (fun _ => True : World -> Prop)), (1000, (fun w => BoxL w (b9 + 1) ⟨x1, n1, n2, n3, n4, n5, []⟩ (.slice none 0 0) /\ RdB w (b9 + 1 + 1) qn5 fl cn5 true : World -> Prop))] (by kernel_rfl) (SL.cons (fun _ => trivial) (SL.cons (fun _ => ⟨HD.o.1, HD.o.2.1⟩) SL.nil)) (fun hH => ?_);generalize wn5.drew = wd at *;refine tk 1 0 ⟨some 58, .load 64 (.tmp 10), 64, "read.go:80", #[], none⟩ ?_ rfl rfl ?_ hH fun hH => ?_
      rotate_left
      ·intro w hSw; (try dsimp only at hSw); obtain ⟨⟨z0, z1, z2, z3, z4, z5, z6, zf⟩, x0, x1', xf⟩ := hSw; go_simp; try with_reducible rfl
      try simp only [Act.put, sI, s0, s1]
      refine tk 0 1 ⟨some 59, .fieldAddr 114 (.tmp 11) 1, 0, "read.go:80", #[], none⟩ ?_ rfl rfl ?_ hH fun hH => ?_
      rotate_left
      ·intro w hSw; (try dsimp only at hSw); go_simp; try with_reducible rfl
      try simp only [Act.put, sI, s0, s1]
      refine tk 1 2 ⟨some 60, .load 4 (.tmp 59), 4, "read.go:80", #[⟨1, .data⟩], none⟩ ?_ rfl rfl ?_ hH fun hH => ?_
      rotate_left
      ·intro w hSw; (try dsimp only at hSw); obtain ⟨⟨z0, z1, z2, z3, z4, z5, z6, zf⟩, x0, x1', xf⟩ := hSw; go_simp; try with_reducible rfl
      try simp only [Act.put, sI, s0, s1]
      refine tk 0 3 ⟨some 61, .move (.tmp 60), 4, "read.go:80", #[⟨2, .data⟩], none⟩ ?_ rfl rfl ?_ hH fun hH => ?_
      rotate_left
      ·intro w hSw; (try dsimp only at hSw); go_simp; try with_reducible rfl
      try simp only [Act.put, sI, s0, s1]
      refine tk 0 4 ⟨some 62, .fieldAddr 114 (.tmp 11) 0, 0, "read.go:80", #[⟨3, .guard⟩], some (3, true)⟩ ?_ rfl rfl ?_ hH fun hH => ?_
      rotate_left
      ·intro w hSw; (try dsimp only at hSw); go_simp; try with_reducible rfl
      try simp only [Act.put, sI, s0, s1]
      refine tk 1 5 ⟨some 63, .load 33 (.tmp 62), 33, "read.go:80", #[⟨4, .data⟩, ⟨3, .guard⟩], some (3, true)⟩ ?_ rfl rfl ?_ hH fun hH => ?_
      rotate_left
      ·intro w hSw; (try dsimp only at hSw); obtain ⟨⟨z0, z1, z2, z3, z4, z5, z6, zf⟩, x0, x1', xf⟩ := hSw; go_simp; try with_reducible rfl
      try simp only [Act.put, sI, s0, s1]
      refine tk 0 6 ⟨some 64, .call ⟨.builtin .len, #[.tmp 63], #[33]⟩, 3, "read.go:80", #[⟨5, .data⟩, ⟨3, .guard⟩], some (3, true)⟩ ?_ rfl rfl ?_ hH fun hH => ?_
      rotate_left
      ·intro w hSw; (try dsimp only at hSw); go_simp; try with_reducible rfl
      try simp only [Act.put, sI, s0, s1]
      refine tk 0 7 ⟨some 65, .binOp .eql 3 (.tmp 64) (.const (.int .i64 0)) 3, 4, "read.go:80", #[⟨6, .data⟩, ⟨3, .guard⟩, ⟨9, .gcOnly .lateStores⟩], some (3, true)⟩ ?_ rfl rfl ?_ hH fun hH => ?_
      rotate_left
      ·intro w hSw; (try dsimp only at hSw); go_simp; try with_reducible rfl
      try simp only [Act.put, sI, s0, s1]
      refine tk 0 8 ⟨some 66, .pick (.tmp 61) (.tmp 65) (.const (.bool false)), 4, "read.go:80", #[⟨3, .data⟩, ⟨7, .data⟩, ⟨9, .gcOnly .lateStores⟩], none⟩ ?_ rfl rfl ?_ hH fun hH => ?_
      rotate_left
      ·intro w hSw; (try dsimp only at hSw); go_simp; try with_reducible rfl
      try simp only [Act.put, sI, s0, s1]
      have hzz : BoxL wd (W.heap.size + 1) zLk (.slice none 0 0) := HZ3.o.only (Only.of_below (T := fun _ => False) (by rw [<- HR3.o]; exact HD.o.2.2)) (fun h => h);obtain ⟨u0, u1, u2, u3, u4, u5', u6, uf⟩ := hzz;unfold zLk at u0 u1 u2 u3 u4 u5';have h7' := qhc wd (W.heap.size + 1) (.int .u8 x1) (.int .i64 n1) (.int .i64 n2) (.int .i64 n3) (.int .i64 n4) (.int .i64 n5) (.slice none 0 0);have hSTA := aI (HD.o.1.only h7' (fun e => by have := HSZ3.o; have := HS5.o.lt; omega)) (HD.o.2.1.only h7' (fun e => by have := HSZ3.o; have := HS5.o.lt; omega));refine qac (rs := [9]) (by kernel_rfl) (by simp) ?_;refine AllReadyL.cons (o := ⟨none, .store 64 (.tmp 4) (.tmp 58), 0, "read.go:80", #[⟨0, .data⟩, ⟨3, .chain⟩, ⟨0, .phase⟩, ⟨1, .textOnly .lateStores⟩, ⟨2, .textOnly .lateStores⟩, ⟨3, .textOnly .lateStores⟩, ⟨4, .textOnly .lateStores⟩, ⟨5, .textOnly .lateStores⟩, ⟨6, .textOnly .lateStoresUnsure⟩, ⟨7, .textOnly .lateStores⟩, ⟨8, .textOnly .lateStores⟩], none⟩) rfl (fun K hK => ?_) AllReadyL.nil;go_simp;refine hK.out _ _ (SL.cons (fun _ => trivial) (SL.cons (fun _ => hSTA) SL.nil)) (fun hH => ?_);clear hK K
      try simp only [Act.put, sI, s0, s1]
      refine qac (rs := [10]) (by kernel_rfl) (by simp) ?_;refine AllReadyL.cons (o := ⟨some 5, .assign (.tmp 66), 4, "read.go:80", #[⟨8, .data⟩, ⟨9, .chain⟩, ⟨0, .phase⟩, ⟨1, .phase⟩, ⟨2, .phase⟩, ⟨3, .phase⟩, ⟨4, .phase⟩, ⟨5, .phase⟩, ⟨6, .phase⟩, ⟨7, .phase⟩, ⟨8, .phase⟩, ⟨9, .phase⟩], none⟩) rfl (fun K hK => ?_) AllReadyL.nil;go_simp;refine hK.out _ _ (SL.cons (fun _ => trivial) (SL.cons (fun _ => hSTA) SL.nil)) (fun hH => ?_);clear hK K
      try simp only [Act.put, sI, s0, s1]
      refine qah (by kernel_rfl) ?_ _
      go_wp2_with fail
      have h7 := qhc wd (W.heap.size + 1) (.int .u8 x1) (.int .i64 n1) (.int .i64 n2) (.int .i64 n3) (.int .i64 n4) (.int .i64 n5) (.slice none 0 0);have hN := HSZ3.o;refine bodyPost_ret (v := .tuple #[.agg #[.int .u8 x1, .int .i64 n1, .int .i64 n2, .int .i64 n3, .int .i64 n4, .int .i64 n5, (.slice none 0 0)], .bool (decide (fl = 0))]) (by simp [results, Tryz.results98, go_sem, u0, u1, u2, u3, u4, u5', u6]) rfl ⟨⟨none, 0, ?_, ?_⟩, ?_⟩
      ·simp [lkV, HFL.o]
      ·exact OwnI.nil _ _ _
      ·have h8 : Below W.heap.size W wd := HB3.o.trans (HD.o.2.2.mono (by omega))
       exact h8.trans (h7.below (fun k e => by omega) h8.size)
     | false =>
      have HD := Zh (show BoxL wn5.drew (b9 + 1) ⟨x1, n1, n2, n3, n4, n5, []⟩ (.slice none 0 0) /\ RdB wn5.drew (b9 + 1 + 1) qn5 fl cn5 false /\ Below r w3 wn5.drew from ⟨HSS.o.1.later (qae _), HSS.o.2.1.later (qae _), HSS.o.2.2.trans ((qae _).mono (by rw [HR3.o]; exact HSS.o.2.2.size))⟩);refine qai [(1000, (fun _ => True : World -> Prop)), (1000, (fun w => BoxL w (b9 + 1) ⟨x1, n1, n2, n3, n4, n5, []⟩ (.slice none 0 0) /\ RdB w (b9 + 1 + 1) qn5 fl cn5 false : World -> Prop))] (by kernel_rfl) (SL.cons (fun _ => trivial) (SL.cons (fun _ => ⟨HD.o.1, HD.o.2.1⟩) SL.nil)) (fun hH => ?_);generalize wn5.drew = wd at *;refine tk 1 0 ⟨some 58, .load 64 (.tmp 10), 64, "read.go:80", #[], none⟩ ?_ rfl rfl ?_ hH fun hH => ?_
      rotate_left
      ·intro w hSw; (try dsimp only at hSw); obtain ⟨⟨z0, z1, z2, z3, z4, z5, z6, zf⟩, x0, x1', xf⟩ := hSw; go_simp; try with_reducible rfl
      try simp only [Act.put, sI, s0, s1]
      refine tk 0 1 ⟨some 59, .fieldAddr 114 (.tmp 11) 1, 0, "read.go:80", #[], none⟩ ?_ rfl rfl ?_ hH fun hH => ?_
      rotate_left
      ·intro w hSw; (try dsimp only at hSw); go_simp; try with_reducible rfl
      try simp only [Act.put, sI, s0, s1]
      refine tk 1 2 ⟨some 60, .load 4 (.tmp 59), 4, "read.go:80", #[⟨1, .data⟩], none⟩ ?_ rfl rfl ?_ hH fun hH => ?_
      rotate_left
      ·intro w hSw; (try dsimp only at hSw); obtain ⟨⟨z0, z1, z2, z3, z4, z5, z6, zf⟩, x0, x1', xf⟩ := hSw; go_simp; try with_reducible rfl
      try simp only [Act.put, sI, s0, s1]
      refine tk 0 3 ⟨some 61, .move (.tmp 60), 4, "read.go:80", #[⟨2, .data⟩], none⟩ ?_ rfl rfl ?_ hH fun hH => ?_
      rotate_left
      ·intro w hSw; (try dsimp only at hSw); go_simp; try with_reducible rfl
      try simp only [Act.put, sI, s0, s1]
      refine tu 0 4 ⟨some 62, .fieldAddr 114 (.tmp 11) 0, 0, "read.go:80", #[⟨3, .guard⟩], some (3, true)⟩ rfl rfl hH fun hH => ?_
      try simp only [Act.put, sI, s0, s1]
      refine tu 0 5 ⟨some 63, .load 33 (.tmp 62), 33, "read.go:80", #[⟨4, .data⟩, ⟨3, .guard⟩], some (3, true)⟩ rfl rfl hH fun hH => ?_
      try simp only [Act.put, sI, s0, s1]
      refine tu 0 6 ⟨some 64, .call ⟨.builtin .len, #[.tmp 63], #[33]⟩, 3, "read.go:80", #[⟨5, .data⟩, ⟨3, .guard⟩], some (3, true)⟩ rfl rfl hH fun hH => ?_
      try simp only [Act.put, sI, s0, s1]
      refine tu 0 7 ⟨some 65, .binOp .eql 3 (.tmp 64) (.const (.int .i64 0)) 3, 4, "read.go:80", #[⟨6, .data⟩, ⟨3, .guard⟩, ⟨9, .gcOnly .lateStores⟩], some (3, true)⟩ rfl rfl hH fun hH => ?_
      try simp only [Act.put, sI, s0, s1]
      refine tk 0 8 ⟨some 66, .pick (.tmp 61) (.tmp 65) (.const (.bool false)), 4, "read.go:80", #[⟨3, .data⟩, ⟨7, .data⟩, ⟨9, .gcOnly .lateStores⟩], none⟩ ?_ rfl rfl ?_ hH fun hH => ?_
      rotate_left
      ·intro w hSw; (try dsimp only at hSw); go_simp; try with_reducible rfl
      try simp only [Act.put, sI, s0, s1]
      have hzz : BoxL wd (W.heap.size + 1) zLk (.slice none 0 0) := HZ3.o.only (Only.of_below (T := fun _ => False) (by rw [<- HR3.o]; exact HD.o.2.2)) (fun h => h);obtain ⟨u0, u1, u2, u3, u4, u5', u6, uf⟩ := hzz;unfold zLk at u0 u1 u2 u3 u4 u5';have h7' := qhc wd (W.heap.size + 1) (.int .u8 x1) (.int .i64 n1) (.int .i64 n2) (.int .i64 n3) (.int .i64 n4) (.int .i64 n5) (.slice none 0 0);have hSTA := aI (HD.o.1.only h7' (fun e => by have := HSZ3.o; have := HS5.o.lt; omega)) (HD.o.2.1.only h7' (fun e => by have := HSZ3.o; have := HS5.o.lt; omega));refine qac (rs := [9]) (by kernel_rfl) (by simp) ?_;refine AllReadyL.cons (o := ⟨none, .store 64 (.tmp 4) (.tmp 58), 0, "read.go:80", #[⟨0, .data⟩, ⟨3, .chain⟩, ⟨0, .phase⟩, ⟨1, .textOnly .lateStores⟩, ⟨2, .textOnly .lateStores⟩, ⟨3, .textOnly .lateStores⟩, ⟨4, .textOnly .lateStores⟩, ⟨5, .textOnly .lateStores⟩, ⟨6, .textOnly .lateStoresUnsure⟩, ⟨7, .textOnly .lateStores⟩, ⟨8, .textOnly .lateStores⟩], none⟩) rfl (fun K hK => ?_) AllReadyL.nil;go_simp;refine hK.out _ _ (SL.cons (fun _ => trivial) (SL.cons (fun _ => hSTA) SL.nil)) (fun hH => ?_);clear hK K
      try simp only [Act.put, sI, s0, s1]
      refine qac (rs := [10]) (by kernel_rfl) (by simp) ?_;refine AllReadyL.cons (o := ⟨some 5, .assign (.tmp 66), 4, "read.go:80", #[⟨8, .data⟩, ⟨9, .chain⟩, ⟨0, .phase⟩, ⟨1, .phase⟩, ⟨2, .phase⟩, ⟨3, .phase⟩, ⟨4, .phase⟩, ⟨5, .phase⟩, ⟨6, .phase⟩, ⟨7, .phase⟩, ⟨8, .phase⟩, ⟨9, .phase⟩], none⟩) rfl (fun K hK => ?_) AllReadyL.nil;go_simp;refine hK.out _ _ (SL.cons (fun _ => trivial) (SL.cons (fun _ => hSTA) SL.nil)) (fun hH => ?_);clear hK K
      try simp only [Act.put, sI, s0, s1]
      refine qah (by kernel_rfl) ?_ _
      go_wp2_with fail
      have h7 := qhc wd (W.heap.size + 1) (.int .u8 x1) (.int .i64 n1) (.int .i64 n2) (.int .i64 n3) (.int .i64 n4) (.int .i64 n5) (.slice none 0 0);have hN := HSZ3.o;refine bodyPost_ret (v := .tuple #[.agg #[.int .u8 x1, .int .i64 n1, .int .i64 n2, .int .i64 n3, .int .i64 n4, .int .i64 n5, (.slice none 0 0)], .bool false]) (by simp [results, Tryz.results98, go_sem, u0, u1, u2, u3, u4, u5', u6]) rfl ⟨⟨none, 0, ?_, ?_⟩, ?_⟩
      ·simp [lkV]
      ·exact OwnI.nil _ _ _
      ·have h8 : Below W.heap.size W wd := HB3.o.trans (HD.o.2.2.mono (by omega))
       exact h8.trans (h7.below (fun k e => by omega) h8.size)
    | true =>
     have hrv := HRV.o;simp only [lkBy, HE1.o, HE2.o, HE3.o, HE4.o, HE5.o] at hrv;simp only [if_true] at hrv;subst hrv;clear HRV HBY;have HC6 := Zh (qq8 (b9 + 1 + 1) f5 qn5 cn5 o5 (fun b => b < r) wn5 HS5.o.fo HS5.o.le HS5.o.len (fun b hb => by have := HS5.o.lt; omega) HS5.o.tx HS5.o.rd)
     go_wp2_with fail
     clear y0 y3 y4 y5 y6 y7 y8;refine HC6.o.mono ?_;rintro e wR ⟨⟨pR, cR, rfl, hoR⟩, hrdR, honR⟩;obtain ⟨RL, hRL⟩ : ∃ RL, RL = (qa8 f5).1 := ⟨_, rfl⟩;have HRL := Zh hRL;obtain ⟨RO, hRO⟩ : ∃ RO, RO = (o5 && (qa8 f5).2) := ⟨_, rfl⟩;have HRO := Zh hRO;rw [<- hRO] at hrdR;rw [<- hRL] at hoR ⊢;have hbR := HS5.o.box.only honR (fun e => by omega);have hblR : Below r w3 wR := HS5.o.below.trans (honR.below (B := r) (fun k e => by have := HS5.o.lt; omega) (by rw [HR3.o]; exact HS5.o.below.size));have HOR := Zh hoR;have HBR := Zh (aI hbR (aI hrdR hblR));obtain ⟨z0, z1, z2, z3, z4, z5, z6, zf⟩ := hbR;have HNR := Zh (show r <= wn5.heap.size from by rw [HR3.o]; exact HS5.o.below.size);clear hoR hrdR honR hblR hRL hRO HC6
     go_wp2_with fail
     obtain ⟨wS, hwS⟩ : ∃ w, w = wR.setCell ⟨b9 + 1, 6, none⟩ (.slice pR RL.length cR) := ⟨_, rfl⟩;have hoS : Only (fun k => k = b9 + 1) wR wS := by rw [hwS]; exact Only.of_setCell wR ⟨b9 + 1, 6, none⟩ _
     have HSS := Zh (show BoxL wS (b9 + 1) ⟨x1, n1, n2, n3, n4, n5, []⟩ (.slice pR RL.length cR) /\ RdB wS (b9 + 1 + 1) none 0 0 RO /\ Below r w3 wS from ⟨by rw [hwS]; exact HBR.o.1.set6 _, HBR.o.2.1.only hoS (fun e => by omega), HBR.o.2.2.trans (hoS.below (B := r) (fun k e => by have := HS5.o.lt; omega) (by rw [HR3.o]; exact HBR.o.2.2.size))⟩);have HOS := Zh (show OwnI 3 wS (fun b => wn5.heap.size <= b) (.slice pR RL.length cR) RL from HOR.o.only hoS (fun b hb e => by have := HS5.o.rd.lt; omega));rw [<- hwS];clear hwS hoS z0 z1 z2 z3 z4 z5 z6 zf
     cases RO with
     | true =>
      have HD := Zh (show BoxL wS.drew (b9 + 1) ⟨x1, n1, n2, n3, n4, n5, []⟩ (.slice pR RL.length cR) /\ RdB wS.drew (b9 + 1 + 1) none 0 0 true /\ Below r w3 wS.drew from ⟨HSS.o.1.later (qae _), HSS.o.2.1.later (qae _), HSS.o.2.2.trans ((qae _).mono (by rw [HR3.o]; exact HSS.o.2.2.size))⟩);refine qai [(1000, (fun _ => True : World -> Prop)), (1000, (fun w => BoxL w (b9 + 1) ⟨x1, n1, n2, n3, n4, n5, []⟩ (.slice pR RL.length cR) /\ RdB w (b9 + 1 + 1) none 0 0 true : World -> Prop))] (by kernel_rfl) (SL.cons (fun _ => trivial) (SL.cons (fun _ => ⟨HD.o.1, HD.o.2.1⟩) SL.nil)) (fun hH => ?_);have HOD := Zh (show OwnI 3 wS.drew (fun b => wn5.heap.size <= b) (.slice pR RL.length cR) RL from HOS.o.later (qae _));generalize wS.drew = wd at *;refine tk 1 0 ⟨some 58, .load 64 (.tmp 10), 64, "read.go:80", #[], none⟩ ?_ rfl rfl ?_ hH fun hH => ?_
      rotate_left
      ·intro w hSw; (try dsimp only at hSw); obtain ⟨⟨z0, z1, z2, z3, z4, z5, z6, zf⟩, x0, x1', xf⟩ := hSw; go_simp; try with_reducible rfl
      try simp only [Act.put, sI, s0, s1]
      refine tk 0 1 ⟨some 59, .fieldAddr 114 (.tmp 11) 1, 0, "read.go:80", #[], none⟩ ?_ rfl rfl ?_ hH fun hH => ?_
      rotate_left
      ·intro w hSw; (try dsimp only at hSw); go_simp; try with_reducible rfl
      try simp only [Act.put, sI, s0, s1]
      refine tk 1 2 ⟨some 60, .load 4 (.tmp 59), 4, "read.go:80", #[⟨1, .data⟩], none⟩ ?_ rfl rfl ?_ hH fun hH => ?_
      rotate_left
      ·intro w hSw; (try dsimp only at hSw); obtain ⟨⟨z0, z1, z2, z3, z4, z5, z6, zf⟩, x0, x1', xf⟩ := hSw; go_simp; try with_reducible rfl
      try simp only [Act.put, sI, s0, s1]
      refine tk 0 3 ⟨some 61, .move (.tmp 60), 4, "read.go:80", #[⟨2, .data⟩], none⟩ ?_ rfl rfl ?_ hH fun hH => ?_
      rotate_left
      ·intro w hSw; (try dsimp only at hSw); go_simp; try with_reducible rfl
      try simp only [Act.put, sI, s0, s1]
      refine tk 0 4 ⟨some 62, .fieldAddr 114 (.tmp 11) 0, 0, "read.go:80", #[⟨3, .guard⟩], some (3, true)⟩ ?_ rfl rfl ?_ hH fun hH => ?_
      rotate_left
      ·intro w hSw; (try dsimp only at hSw); go_simp; try with_reducible rfl
      try simp only [Act.put, sI, s0, s1]
      refine tk 1 5 ⟨some 63, .load 33 (.tmp 62), 33, "read.go:80", #[⟨4, .data⟩, ⟨3, .guard⟩], some (3, true)⟩ ?_ rfl rfl ?_ hH fun hH => ?_
      rotate_left
      ·intro w hSw; (try dsimp only at hSw); obtain ⟨⟨z0, z1, z2, z3, z4, z5, z6, zf⟩, x0, x1', xf⟩ := hSw; go_simp; try with_reducible rfl
      try simp only [Act.put, sI, s0, s1]
      refine tk 0 6 ⟨some 64, .call ⟨.builtin .len, #[.tmp 63], #[33]⟩, 3, "read.go:80", #[⟨5, .data⟩, ⟨3, .guard⟩], some (3, true)⟩ ?_ rfl rfl ?_ hH fun hH => ?_
      rotate_left
      ·intro w hSw; (try dsimp only at hSw); go_simp; try with_reducible rfl
      try simp only [Act.put, sI, s0, s1]
      refine tk 0 7 ⟨some 65, .binOp .eql 3 (.tmp 64) (.const (.int .i64 0)) 3, 4, "read.go:80", #[⟨6, .data⟩, ⟨3, .guard⟩, ⟨9, .gcOnly .lateStores⟩], some (3, true)⟩ ?_ rfl rfl ?_ hH fun hH => ?_
      rotate_left
      ·intro w hSw; (try dsimp only at hSw); go_simp; try with_reducible rfl
      try simp only [Act.put, sI, s0, s1]
      refine tk 0 8 ⟨some 66, .pick (.tmp 61) (.tmp 65) (.const (.bool false)), 4, "read.go:80", #[⟨3, .data⟩, ⟨7, .data⟩, ⟨9, .gcOnly .lateStores⟩], none⟩ ?_ rfl rfl ?_ hH fun hH => ?_
      rotate_left
      ·intro w hSw; (try dsimp only at hSw); go_simp; try with_reducible rfl
      try simp only [Act.put, sI, s0, s1]
      have hzz : BoxL wd (W.heap.size + 1) zLk (.slice none 0 0) := HZ3.o.only (Only.of_below (T := fun _ => False) (by rw [<- HR3.o]; exact HD.o.2.2)) (fun h => h);obtain ⟨u0, u1, u2, u3, u4, u5', u6, uf⟩ := hzz;unfold zLk at u0 u1 u2 u3 u4 u5';have h7' := qhc wd (W.heap.size + 1) (.int .u8 x1) (.int .i64 n1) (.int .i64 n2) (.int .i64 n3) (.int .i64 n4) (.int .i64 n5) (.slice pR RL.length cR);have hSTA := aI (HD.o.1.only h7' (fun e => by have := HSZ3.o; have := HS5.o.lt; omega)) (HD.o.2.1.only h7' (fun e => by have := HSZ3.o; have := HS5.o.lt; omega));refine qac (rs := [9]) (by kernel_rfl) (by simp) ?_;refine AllReadyL.cons (o := ⟨none, .store 64 (.tmp 4) (.tmp 58), 0, "read.go:80", #[⟨0, .data⟩, ⟨3, .chain⟩, ⟨0, .phase⟩, ⟨1, .textOnly .lateStores⟩, ⟨2, .textOnly .lateStores⟩, ⟨3, .textOnly .lateStores⟩, ⟨4, .textOnly .lateStores⟩, ⟨5, .textOnly .lateStores⟩, ⟨6, .textOnly .lateStoresUnsure⟩, ⟨7, .textOnly .lateStores⟩, ⟨8, .textOnly .lateStores⟩], none⟩) rfl (fun K hK => ?_) AllReadyL.nil;go_simp;refine hK.out _ _ (SL.cons (fun _ => trivial) (SL.cons (fun _ => hSTA) SL.nil)) (fun hH => ?_);clear hK K
      try simp only [Act.put, sI, s0, s1]
      refine qac (rs := [10]) (by kernel_rfl) (by simp) ?_;refine AllReadyL.cons (o := ⟨some 5, .assign (.tmp 66), 4, "read.go:80", #[⟨8, .data⟩, ⟨9, .chain⟩, ⟨0, .phase⟩, ⟨1, .phase⟩, ⟨2, .phase⟩, ⟨3, .phase⟩, ⟨4, .phase⟩, ⟨5, .phase⟩, ⟨6, .phase⟩, ⟨7, .phase⟩, ⟨8, .phase⟩, ⟨9, .phase⟩], none⟩) rfl (fun K hK => ?_) AllReadyL.nil;go_simp;refine hK.out _ _ (SL.cons (fun _ => trivial) (SL.cons (fun _ => hSTA) SL.nil)) (fun hH => ?_);clear hK K
      try simp only [Act.put, sI, s0, s1]
      refine qah (by kernel_rfl) ?_ _
      go_wp2_with fail
      have h7 := qhc wd (W.heap.size + 1) (.int .u8 x1) (.int .i64 n1) (.int .i64 n2) (.int .i64 n3) (.int .i64 n4) (.int .i64 n5) (.slice pR RL.length cR);have hN := HSZ3.o;refine bodyPost_ret (v := .tuple #[.agg #[.int .u8 x1, .int .i64 n1, .int .i64 n2, .int .i64 n3, .int .i64 n4, .int .i64 n5, (.slice pR RL.length cR)], .bool true]) (by simp [results, Tryz.results98, go_sem, u0, u1, u2, u3, u4, u5', u6]) rfl ⟨⟨pR, cR, ?_, ?_⟩, ?_⟩
      ·rw [HRL.o] at *; simp [lkV, <- HRO.o]
      ·rw [<- HRL.o]; exact (HOD.o.only h7 (fun b hb e => by have := HNR.o; omega)).mono (fun b hb _ => by have := HNR.o; omega)
      ·have h8 : Below W.heap.size W wd := HB3.o.trans (HD.o.2.2.mono (by omega))
       exact h8.trans (h7.below (fun k e => by omega) h8.size)
     | false =>
      have HD := Zh (show BoxL wS.drew (b9 + 1) ⟨x1, n1, n2, n3, n4, n5, []⟩ (.slice pR RL.length cR) /\ RdB wS.drew (b9 + 1 + 1) none 0 0 false /\ Below r w3 wS.drew from ⟨HSS.o.1.later (qae _), HSS.o.2.1.later (qae _), HSS.o.2.2.trans ((qae _).mono (by rw [HR3.o]; exact HSS.o.2.2.size))⟩);refine qai [(1000, (fun _ => True : World -> Prop)), (1000, (fun w => BoxL w (b9 + 1) ⟨x1, n1, n2, n3, n4, n5, []⟩ (.slice pR RL.length cR) /\ RdB w (b9 + 1 + 1) none 0 0 false : World -> Prop))] (by kernel_rfl) (SL.cons (fun _ => trivial) (SL.cons (fun _ => ⟨HD.o.1, HD.o.2.1⟩) SL.nil)) (fun hH => ?_);have HOD := Zh (show OwnI 3 wS.drew (fun b => wn5.heap.size <= b) (.slice pR RL.length cR) RL from HOS.o.later (qae _));generalize wS.drew = wd at *;refine tk 1 0 ⟨some 58, .load 64 (.tmp 10), 64, "read.go:80", #[], none⟩ ?_ rfl rfl ?_ hH fun hH => ?_
      rotate_left
      ·intro w hSw; (try dsimp only at hSw); obtain ⟨⟨z0, z1, z2, z3, z4, z5, z6, zf⟩, x0, x1', xf⟩ := hSw; go_simp; try with_reducible rfl
      try simp only [Act.put, sI, s0, s1]
      refine tk 0 1 ⟨some 59, .fieldAddr 114 (.tmp 11) 1, 0, "read.go:80", #[], none⟩ ?_ rfl rfl ?_ hH fun hH => ?_
      rotate_left
      ·intro w hSw; (try dsimp only at hSw); go_simp; try with_reducible rfl
      try simp only [Act.put, sI, s0, s1]
      refine tk 1 2 ⟨some 60, .load 4 (.tmp 59), 4, "read.go:80", #[⟨1, .data⟩], none⟩ ?_ rfl rfl ?_ hH fun hH => ?_
      rotate_left
      ·intro w hSw; (try dsimp only at hSw); obtain ⟨⟨z0, z1, z2, z3, z4, z5, z6, zf⟩, x0, x1', xf⟩ := hSw; go_simp; try with_reducible rfl
      try simp only [Act.put, sI, s0, s1]
      refine tk 0 3 ⟨some 61, .move (.tmp 60), 4, "read.go:80", #[⟨2, .data⟩], none⟩ ?_ rfl rfl ?_ hH fun hH => ?_
      rotate_left
      ·intro w hSw; (try dsimp only at hSw); go_simp; try with_reducible rfl
      try simp only [Act.put, sI, s0, s1]
      refine tu 0 4 ⟨some 62, .fieldAddr 114 (.tmp 11) 0, 0, "read.go:80", #[⟨3, .guard⟩], some (3, true)⟩ rfl rfl hH fun hH => ?_
      try simp only [Act.put, sI, s0, s1]
      refine tu 0 5 ⟨some 63, .load 33 (.tmp 62), 33, "read.go:80", #[⟨4, .data⟩, ⟨3, .guard⟩], some (3, true)⟩ rfl rfl hH fun hH => ?_
      try simp only [Act.put, sI, s0, s1]
      refine tu 0 6 ⟨some 64, .call ⟨.builtin .len, #[.tmp 63], #[33]⟩, 3, "read.go:80", #[⟨5, .data⟩, ⟨3, .guard⟩], some (3, true)⟩ rfl rfl hH fun hH => ?_
      try simp only [Act.put, sI, s0, s1]
      refine tu 0 7 ⟨some 65, .binOp .eql 3 (.tmp 64) (.const (.int .i64 0)) 3, 4, "read.go:80", #[⟨6, .data⟩, ⟨3, .guard⟩, ⟨9, .gcOnly .lateStores⟩], some (3, true)⟩ rfl rfl hH fun hH => ?_
      try simp only [Act.put, sI, s0, s1]
      refine tk 0 8 ⟨some 66, .pick (.tmp 61) (.tmp 65) (.const (.bool false)), 4, "read.go:80", #[⟨3, .data⟩, ⟨7, .data⟩, ⟨9, .gcOnly .lateStores⟩], none⟩ ?_ rfl rfl ?_ hH fun hH => ?_
      rotate_left
      ·intro w hSw; (try dsimp only at hSw); go_simp; try with_reducible rfl
      try simp only [Act.put, sI, s0, s1]
      have hzz : BoxL wd (W.heap.size + 1) zLk (.slice none 0 0) := HZ3.o.only (Only.of_below (T := fun _ => False) (by rw [<- HR3.o]; exact HD.o.2.2)) (fun h => h);obtain ⟨u0, u1, u2, u3, u4, u5', u6, uf⟩ := hzz;unfold zLk at u0 u1 u2 u3 u4 u5';have h7' := qhc wd (W.heap.size + 1) (.int .u8 x1) (.int .i64 n1) (.int .i64 n2) (.int .i64 n3) (.int .i64 n4) (.int .i64 n5) (.slice pR RL.length cR);have hSTA := aI (HD.o.1.only h7' (fun e => by have := HSZ3.o; have := HS5.o.lt; omega)) (HD.o.2.1.only h7' (fun e => by have := HSZ3.o; have := HS5.o.lt; omega));refine qac (rs := [9]) (by kernel_rfl) (by simp) ?_;refine AllReadyL.cons (o := ⟨none, .store 64 (.tmp 4) (.tmp 58), 0, "read.go:80", #[⟨0, .data⟩, ⟨3, .chain⟩, ⟨0, .phase⟩, ⟨1, .textOnly .lateStores⟩, ⟨2, .textOnly .lateStores⟩, ⟨3, .textOnly .lateStores⟩, ⟨4, .textOnly .lateStores⟩, ⟨5, .textOnly .lateStores⟩, ⟨6, .textOnly .lateStoresUnsure⟩, ⟨7, .textOnly .lateStores⟩, ⟨8, .textOnly .lateStores⟩], none⟩) rfl (fun K hK => ?_) AllReadyL.nil;go_simp;refine hK.out _ _ (SL.cons (fun _ => trivial) (SL.cons (fun _ => hSTA) SL.nil)) (fun hH => ?_);clear hK K
      try simp only [Act.put, sI, s0, s1]
      refine qac (rs := [10]) (by kernel_rfl) (by simp) ?_;refine AllReadyL.cons (o := ⟨some 5, .assign (.tmp 66), 4, "read.go:80", #[⟨8, .data⟩, ⟨9, .chain⟩, ⟨0, .phase⟩, ⟨1, .phase⟩, ⟨2, .phase⟩, ⟨3, .phase⟩, ⟨4, .phase⟩, ⟨5, .phase⟩, ⟨6, .phase⟩, ⟨7, .phase⟩, ⟨8, .phase⟩, ⟨9, .phase⟩], none⟩) rfl (fun K hK => ?_) AllReadyL.nil;go_simp;refine hK.out _ _ (SL.cons (fun _ => trivial) (SL.cons (fun _ => hSTA) SL.nil)) (fun hH => ?_);clear hK K
      try simp only [Act.put, sI, s0, s1]
      refine qah (by kernel_rfl) ?_ _
      go_wp2_with fail
      have h7 := qhc wd (W.heap.size + 1) (.int .u8 x1) (.int .i64 n1) (.int .i64 n2) (.int .i64 n3) (.int .i64 n4) (.int .i64 n5) (.slice pR RL.length cR);have hN := HSZ3.o;refine bodyPost_ret (v := .tuple #[.agg #[.int .u8 x1, .int .i64 n1, .int .i64 n2, .int .i64 n3, .int .i64 n4, .int .i64 n5, (.slice pR RL.length cR)], .bool false]) (by simp [results, Tryz.results98, go_sem, u0, u1, u2, u3, u4, u5', u6]) rfl ⟨⟨pR, cR, ?_, ?_⟩, ?_⟩
      ·rw [HRL.o] at *; simp [lkV, <- HRO.o]
      ·rw [<- HRL.o]; exact (HOD.o.only h7 (fun b hb e => by have := HNR.o; omega)).mono (fun b hb _ => by have := HNR.o; omega)
      ·have h8 : Below W.heap.size W wd := HB3.o.trans (HD.o.2.2.mono (by omega))
       exact h8.trans (h7.below (fun k e => by omega) h8.size)
end Go.Proofs.YtookoagcmejkpaaGreatDoor
