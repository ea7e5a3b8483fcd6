/- A step is read out of a tree: the program's. -/
import Derived.Test.YtookoagcmejkpaaGreatDoorS45
set_option maxHeartbeats 6400000
namespace Go.Proofs.YtookoagcmejkpaaGreatDoor
set_option maxRecDepth 100000
open Go Go.RowKit Go.Maps
structure FormS (W : World) (B : Nat) (h : ByteArray) (lits links a b : Bool) : Prop where
 c0 : W.cell? ⟨B, 0, none⟩ = some (.string h)
 c1 : W.cell? ⟨B, 1, none⟩ = some (.bool lits)
 c2 : W.cell? ⟨B, 2, none⟩ = some (.bool links)
 c3 : W.cell? ⟨B, 3, none⟩ = some (.bool a)
 c4 : W.cell? ⟨B, 4, none⟩ = some (.bool b)
theorem FormS.only {W W' : World} {B : Nat} {h : ByteArray} {lits links a b : Bool} {T : Nat -> Prop} (x : FormS W B h lits links a b) (ho : Only T W W') (hn : ¬ T B) : FormS W' B h lits links a b :=
 ⟨ho.cell x.c0 hn, ho.cell x.c1 hn, ho.cell x.c2 hn, ho.cell x.c3 hn, ho.cell x.c4 hn⟩
theorem BoxS.nx3 {w w' : World} {B Bt : Nat} {k x y n : Int} {v1 v2 : Value} (h : BoxS w B k v1 v2 x y) (c : NxC w w' Bt B 3 n) : BoxS w' B k v1 v2 n y :=
 ⟨c.cells 0 _ (by decide) h.c0, c.cells 1 _ (by decide) h.c1, c.cells 2 _ (by decide) h.c2, c.to, c.cells 4 _ (by decide) h.c4, fun o => by rw [c.fz]; exact h.fz o⟩
theorem BoxS.nx4 {w w' : World} {B Bt : Nat} {k x y n : Int} {v1 v2 : Value} (h : BoxS w B k v1 v2 x y) (c : NxC w w' Bt B 4 n) : BoxS w' B k v1 v2 x n :=
 ⟨c.cells 0 _ (by decide) h.c0, c.cells 1 _ (by decide) h.c1, c.cells 2 _ (by decide) h.c2, c.cells 3 _ (by decide) h.c3, c.to, fun o => by rw [c.fz]; exact h.fz o⟩
structure S49 (w3 : World) (r b9 : Nat) (h : ByteArray) (lits links a b : Bool) (w : World) (k : Int) (v1 v2 : Value) (m1 m2 : Int) (f : Fo) (o : Bool) (q : Option Addr) (c : Nat) : Prop where
 form : FormS w b9 h lits links a b
 box : BoxS w (b9 + 1) k v1 v2 m1 m2
 rd : RdB w (b9 + 1 + 1) q f.len c o
 fo : FoIn w (fun b => b < r) f q
 le : f.len <= c
 len : f.len <= 1000000000
 tx : TxOK f
 ln : LnOK f
 below : Below r w3 w
 lt : r <= b9
theorem S49.step {w3 : World} {r b9 : Nat} {h : ByteArray} {lits links a b : Bool} {w w' : World} {k : Int} {v1 v2 v1' v2' : Value} {m1 m2 m1' m2' : Int} {f f' : Fo} {o o' : Bool} {q q' : Option Addr} {c c' : Nat} {Bt ot : Nat} {n : Int}
  (s : S49 w3 r b9 h lits links a b w k v1 v2 m1 m2 f o q c) (hb : BoxS w' (b9 + 1) k v1' v2' m1' m2') (hr : RdB w' (b9 + 1 + 1) q' f'.len c' o') (hc : f'.len <= c') (hf : FoIn w' (fun b => b < r) f' q') (hn : NxC w w' (b9 + 1 + 1) Bt ot n) (hl : f'.len <= f.len) (ht : TxOK f') (hln : LnOK f') (hB : b9 < Bt) : S49 w3 r b9 h lits links a b w' k v1' v2' m1' m2' f' o' q' c' where
 form := s.form.only hn.only (fun e => by omega)
 box := hb
 rd := hr
 fo := hf
 le := hc
 len := Nat.le_trans hl s.len
 tx := ht
 ln := hln
 below := s.below.trans (hn.only.below (B := r) (fun k e => by have := s.lt; omega) (Nat.le_trans (Nat.le_trans s.lt (Nat.le_succ_of_le (Nat.le_succ _))) (Nat.le_of_lt s.rd.lt)))
 lt := s.lt
theorem qs4 (has : Bool) (f : Fo) (ok : Bool) (h : LnOK f) : LnOK (nx has (f, ok)).2.1 := by
 unfold nx
 split
 ·cases f with
  | nil => trivial
  | cons l k s a x r => exact h.2.2
 ·exact h
theorem LnOK.hd {l : Bool} {x : Fo} (h : LnOK x) : LnOK (hd l x).2 := by
 cases x with
 | nil => trivial
 | cons l0 k s a y r =>
  simp only [Go.Proofs.YtookoagcmejkpaaGreatDoor.hd]
  split
  ·exact h.2.2
  ·trivial
theorem qsh (l : Bool) (k : Int) (s : ByteArray) (a0 : Int) (x : Fo) (q : Option Addr) (c : Nat) (F : Nat -> Prop) (W : World) (hq : FoIn W F x q) (hc : x.len <= c) (hl : x.len <= 1000000000) (hx : TxOK x) (hln : LnOK x) :
  Calls Tryz.prog 49 #[trV l k s a0 q x.len c] W fun e w' => (∃ p' c' q' d', e = .returned (.tuple #[stV (qbo l x).1 p' c' q' d', .bool (qbo l x).2]) /\ OwnI 44 w' (fun b => W.heap.size <= b) (.slice p' (qbo l x).1.lits.length c') (qbo l x).1.lits /\ OwnK w' (fun b => W.heap.size <= b) (.slice q' (qbo l x).1.links.length d') (qbo l x).1.links) /\ Below W.heap.size W w' := by
 obtain ⟨w2, hw2⟩ : ∃ w2, w2 = (W.alloc (.cells #[.bool l, .int .u8 k, .string s, .int .i64 a0, .slice q x.len c] 35)).alloc (.cells #[.int .u8 0, .slice none 0 0, .slice none 0 0, .int .i64 0, .int .i64 0] 26) := ⟨_, rfl⟩;have hb2 : Below W.heap.size W w2 := by rw [hw2]; exact (qab W _).alloc (by simp) _
 have hz2 : BoxS w2 (W.heap.size + 1) 0 (.slice none 0 0) (.slice none 0 0) 0 0 := by
  have h := qd9 (W.alloc (.cells #[.bool l, .int .u8 k, .string s, .int .i64 a0, .slice q x.len c] 35)) 0 0 0 (.slice none 0 0) (.slice none 0 0);rw [hw2]; simpa using h
 have hs2 : w2.heap.size = W.heap.size + 2 := by rw [hw2]; simp
 have HP := Zh (qfm l k s a0 x q c w2 F (hq.later hb2) hc (by omega));have HS2 := Zh (aI hb2 (aI hz2 hs2));have HW2 := Zh hw2;have HTX := Zh (aI (TxOK.hd (l := l) hx) (LnOK.hd (l := l) hln))
 have HGL := Zh (show (hd l x).2.len <= 1000000000 from by
  have e : (hd l x).2.len <= x.len := by
   cases x with
   | nil => exact Nat.le_refl _
   | cons l0 k0 s0 a0 y z =>
    simp only [hd]
    split
    ·simp [Fo.len]
    ·simp [Fo.len]
  omega)
 obtain ⟨R, hR⟩ : ∃ R, R = qbo l x := ⟨_, rfl⟩;have HRR := Zh hR;rw [<- hR];obtain ⟨h, hh⟩ : ∃ h, h = (hd l x).1 := ⟨_, rfl⟩;obtain ⟨g, hg⟩ : ∃ g, g = (hd l x).2 := ⟨_, rfl⟩;have HH := Zh hh;have HG := Zh hg;rw [<- hh, <- hg] at HP;rw [<- hg] at HTX HGL;clear hq hc hl hx hln hw2 hb2 hz2 hs2 hR hh hg;unfold trV at HP ⊢;go_enter Tryz.func49, Tryz.ntmps49
 go_wp2_with fail
 rw [<- HW2.o];refine HP.o.mono ?_;rintro e wp ⟨⟨q3, c3, rfl, hq3, hc3⟩, hbp⟩;have HBP := Zh (HS2.o.1.trans (hbp.mono HS2.o.1.size));have HZP := Zh (HS2.o.2.1.later hbp);have HQP := Zh (aI (hq3.mono (F' := fun b => b < wp.heap.size) (fun b _ hl => hl)) hc3);have HSP := Zh (show W.heap.size + 2 <= wp.heap.size from by have := hbp.size; have := HS2.o.2.2; omega);obtain ⟨gl, hgl⟩ : ∃ gl, gl = g.len := ⟨_, rfl⟩;have HGN := Zh hgl;rw [<- hgl];clear hq3 hc3 hbp HP HW2 HS2 hgl
 go_wp2_with fail
 refine (qei wp).mono ?_;rintro e w3 ⟨m, rfl, hfm, hb3, hmm⟩;have HF3 := Zh hfm;have HB3 := Zh (HBP.o.trans (hb3.mono HBP.o.size));have HZ3 := Zh (HZP.o.later hb3);have HSZ3 := Zh (show W.heap.size + 2 <= w3.heap.size from by have := hb3.size; have := HSP.o; omega);have HQ3 := Zh (show FoIn w3 (fun b => b < w3.heap.size) g q3 /\ g.len <= c3 from ⟨(HQP.o.1.later hb3).mono (fun b hb hl => hl), HQP.o.2⟩);clear hfm hb3 hmm HQP HZP HBP HSP;obtain ⟨D, hd1, hd2, hd3, hd4, hd5⟩ := HF3.o.has;have HD := Zh (aI hd1 (aI hd4 hd5));clear hd1 hd2 hd3 hd4 hd5
 go_wp2_with (first | (at_range; refine wpList_range_own _ rfl _ 67 rfl 22 66 K22 Tryz.underlying67 qdh m 4 D rfl HD.o.1 ?_; intro w0 hrg0 hg0 hs0) | fail)
 go_frame
 have HB0 := Zh (show Below w3.heap.size w3 w0 from (qd7 hg0).below (fun k e => by cases e) (Nat.le_refl _));have HG0 := Zh hrg0;obtain ⟨r, hr⟩ : ∃ r, r = w3.heap.size := ⟨_, rfl⟩;have HR3 := Zh hr;rw [<- hr] at HG0 HSZ3 HB0 ⊢;clear hrg0 hg0 hs0 hr
 go_loopw [6] (fun y wr => ∃ (left : Lit -> Bool) (cnt : Nat), Hid (wr.ranges Tryz.prog 22 qdh m r 4 D left cnt /\ Below r w3 wr /\ (∀ z, left z = true -> Maps.has D z = true) /\ (∀ z : Int, 1 <= z -> z <= 4 -> left (.int .u8 z) = false -> h ≠ stH z))) (fun _ wr => wr.rangeLeft m r)
 case atStart => exact ⟨_, _, Zh ⟨HG0.o, HB0.o, fun z hz => hz, fun z h1 h7 hz => by
  obtain ⟨v, hv⟩ := qo7 h1 h7;rw [HD.o.2.1 (.int .u8 z) ⟨_, qdq z (by omega) (by omega)⟩, qbu, hv] at hz
  cases hz⟩⟩
 case round =>
  obtain ⟨left, cnt, HI⟩ := hrel
  go_wp2_with (first | (at_next; refine wpList_next_ranges _ rfl _ rfl 22 K22 qdh (Value.int .u8) id (fun key kl hkey => by obtain ⟨x, rfl, _⟩ := Maps.keyOf_int_inv Tryz.underlying22 hkey; exact ⟨x, rfl⟩) (fun v y _ => ⟨v, rfl⟩) m r 4 D left cnt rfl HI.o.1 ?_ ?_) | fail)
  ·intro hc0 hl0
   have hr0 : R = (⟨0, [], [], 0, 0⟩, false) := by
    rw [HRR.o];exact qlh (fun z h1 h7 => by rw [<- HH.o]; exact HI.o.2.2.2 z h1 h7 (hl0 _))
   subst hr0;have HBE := Zh (show Below r w3 wr from HI.o.2.1);have hz := HZ3.o.only (Only.of_below (T := fun _ => False) (by rw [<- HR3.o]; exact HBE.o)) (fun h => h);obtain ⟨z0, z1, z2, z3, z4, zf⟩ := hz;clear hc0 hl0 HI
   go_wp2_with fail
   have h7 := qdp wr (W.heap.size + 1) (.int .u8 0) (.slice none 0 0) (.slice none 0 0) (.int .i64 0) (.int .i64 0);refine bodyPost_ret (v := .tuple #[.agg #[.int .u8 0, .slice none 0 0, .slice none 0 0, .int .i64 0, .int .i64 0], .bool false]) (by simp [results, Tryz.results49, go_sem, z0, z1, z2, z3, z4]) rfl ⟨⟨none, 0, none, 0, rfl, OwnI.nil _ _ _, OwnK.nil _ _⟩, ?_⟩;have h8 : Below W.heap.size W wr := HB3.o.trans (HBE.o.mono (by have := HSZ3.o; omega));exact h8.trans (h7.below (fun k e => by omega) h8.size)
  ·intro x1 v1 kl yd yp w1 cnt1 hkey hlx hRv hat hrg1 hlt hg1 hs1 hen
   obtain ⟨_, e1, rfl, hwf⟩ := Maps.keyOf_int_inv Tryz.underlying22 hkey
   injection e1 with _ e1
   subst e1
   have hk255 : 0 <= x1 /\ x1 <= 255 := by
    simp [Lit.wf, IntKind.min, IntKind.max, IntKind.signed, IntKind.bits] at hwf;exact hwf
   have hv1 : qem x1 = some v1 := by
    have hhas := HI.o.2.2.1 _ hlx;rw [HD.o.2.1 (.int .u8 x1) ⟨_, qdq x1 hk255.1 hk255.2⟩, qbu] at hhas
    cases hl : qem x1 with
    | none => rw [hl] at hhas; cases hhas
    | some v =>
     have h1 := HD.o.2.2 (.int .u8 x1) v ⟨_, qdq x1 hk255.1 hk255.2⟩ (by rw [qbu]; exact hl) .nil;rw [hat] at h1;simp only [qdh] at hRv
     injection hRv with hRv
     injection hRv with hRv _
     rw [<- hRv] at h1
     injection h1 with h1
     rw [h1]
   obtain ⟨a, b, lits, links, rfl, hx1, hx7, hby⟩ := qlf hv1;have HX1 := Zh (aI hx1 hx7);have HBY := Zh (hby l x);have HLO := Zh (aI hrg1 (aI hlt (aI hlx hg1)));have HI1 := Zh HI.o
   try simp only [id] at hen
   unfold fmV at hen ⊢;clear hkey hRv hat hrg1 hlt hg1 hlx hwf hk255 hv1 hx1 hx7 hby HI;have HW1B := Zh (show Below r w3 w1 from HI1.o.2.1.trans ((qd7 HLO.o.2.2.2).below (B := r) (fun k e => by injection e with e; omega) (by rw [HR3.o]; exact HI1.o.2.1.size)));have HWS := Zh (show w1.heap.size = wr.heap.size /\ r <= wr.heap.size from ⟨hs1, by rw [HR3.o]; exact HI1.o.2.1.size⟩)
   by_cases heq : h = stH x1
   case neg =>
    have h1 : ((stH x1).toList == h.toList) = false := by
     rw [beq_eq_false_iff_ne];exact fun e => heq (qat e).symm
    have HNE := Zh heq;clear heq
    go_wp2_with fail
    obtain ⟨wn, hwn⟩ : ∃ wn, wn = w1.alloc (.cells #[.string (stH x1), .bool lits, .bool links, .bool a, .bool b, .bool false, .bool false, .bool false, .bool false] 66) := ⟨_, rfl⟩
    have HNEW := Zh (show wn.ranges Tryz.prog 22 qdh m r 4 D (fun z => left z && !z.sameKey (.int .u8 x1)) cnt1 /\ Below r w3 wn /\ (∀ z, (left z && !z.sameKey (.int .u8 x1)) = true -> Maps.has D z = true) /\ (∀ z : Int, 1 <= z -> z <= 4 -> (left (.int .u8 z) && !(Lit.int .u8 z).sameKey (.int .u8 x1)) = false -> h ≠ stH z) from by
     refine ⟨by rw [hwn]; exact World.ranges.alloc HLO.o.1 _, ?_, fun z hz => HI1.o.2.2.1 z ?_, fun z z1 z7 hz => ?_⟩
     ·rw [hwn]
      exact HW1B.o.trans ((qab w1 _).mono (by rw [HWS.o.1]; exact HWS.o.2))
     ·simp only [Bool.and_eq_true] at hz
      exact hz.1
     ·by_cases hzx : z = x1
      ·subst hzx; exact HNE.o
      ·have hs : (Lit.int .u8 z).sameKey (.int .u8 x1) = false := by
        simp [Lit.sameKey]; exact hzx
       rw [hs] at hz
       exact HI1.o.2.2.2 z z1 z7 (by simpa using hz))
    rw [<- hwn];clear hwn;refine ⟨⟨_, cnt1, HNEW⟩, ?_⟩;have e1 := HNEW.o.1.left_eq;have e2 := HI1.o.1.left_eq;rw [e1, e2];exact HLO.o.2.1
   case pos =>
    have h1 : ((stH x1).toList == h.toList) = true := by rw [heq]; simp
    have HEQ := Zh heq;clear heq;obtain ⟨wb, hwb⟩ : ∃ wb, wb = ((w1.alloc (.cells #[.string (stH x1), .bool lits, .bool links, .bool a, .bool b, .bool false, .bool false, .bool false, .bool false] 66)).alloc (.cells #[.int .u8 x1, .slice none 0 0, .slice none 0 0, .int .i64 0, .int .i64 0] 26)).alloc (.cells #[.slice q3 gl c3, .bool true] 114) := ⟨_, rfl⟩;have hbb : Below w1.heap.size w1 wb := by rw [hwb]; exact ((qab w1 _).alloc (by simp) _).alloc (by simp; omega) _
    have hfm : FormS wb w1.heap.size (stH x1) lits links a b := by
     rw [hwb];exact ⟨by simp [go_sem], by simp [go_sem], by simp [go_sem], by simp [go_sem], by simp [go_sem]⟩
    have hbx : BoxS wb (w1.heap.size + 1) x1 (.slice none 0 0) (.slice none 0 0) 0 0 := by
     have hh := (qd9 (w1.alloc (.cells #[.string (stH x1), .bool lits, .bool links, .bool a, .bool b, .bool false, .bool false, .bool false, .bool false] 66)) x1 0 0 (.slice none 0 0) (.slice none 0 0)).later (qab _ (.cells #[.slice q3 gl c3, .bool true] 114));rw [hwb]; simpa using hh
    have hrd : RdB wb (w1.heap.size + 1 + 1) q3 gl c3 true := by
     rw [hwb];exact ⟨by simp [go_sem], by simp [go_sem], fun o => by simp [go_sem]⟩
    have h3b : Below r w3 wb := HW1B.o.trans (hbb.mono (by rw [HWS.o.1]; exact HWS.o.2))
    have HS := Zh (show S49 w3 r w1.heap.size (stH x1) lits links a b wb x1 (.slice none 0 0) (.slice none 0 0) 0 0 g true q3 c3 from
     ⟨hfm, hbx, by rw [<- HGN.o]; exact hrd, by
      have hh := (HQ3.o.1.mono (F' := fun b => b < r) (fun b hb _ => by rw [HR3.o]; exact hb)).later (W' := wb) (by rw [<- HR3.o]; exact h3b)
      exact hh, HQ3.o.2, HGL.o, HTX.o.1, HTX.o.2, h3b, by rw [HWS.o.1]; exact HWS.o.2⟩)
    have HWB := Zh hwb;rw [HGN.o];rw [HGN.o] at HWB;clear hwb hbb hfm hbx hrd h3b hs1 HLO;obtain ⟨y0, y1, y2, y3, y4⟩ := HS.o.form;rw [HWB.o] at y0 y1 y2 y3 y4
    go_wp2_with fail
    rw [<- HWB.o];clear y0 y1 y2 y3 y4 HWB h1;generalize w1.heap.size = b9 at *;obtain ⟨n1, f1, o1, e1⟩ : ∃ n f o, nx a (g, true) = (n, (f, o)) := ⟨_, _, _, rfl⟩;have HC1 := Zh (qf2 a (b9 + 1 + 1) g q3 c3 true (fun b => b < r) (b9 + 1) 3 wb HS.o.fo HS.o.le (Nat.le_trans HS.o.len (by decide)) (fun b hb => by have := HS.o.lt; omega) HS.o.tx HS.o.rd HS.o.box.c3 (HS.o.box.fz 3) (by omega));have ht1 := qjk a g true HS.o.tx;have hn1 := qs4 a g true HS.o.ln;have hl1 := qes a g true;rw [e1] at HC1 ht1 hl1 hn1
    dsimp only at HC1 ht1 hl1 hn1
    have HE1 := Zh e1;have HT1 := Zh (aI ht1 (aI hl1 hn1));clear e1 ht1 hl1 hn1;refine HC1.o.mono ?_;rintro e wn1 ⟨rfl, qn1, cn1, hrd, hle, hfo, hnx⟩;have HS1 := Zh (HS.o.step (v1' := .slice none 0 0) (v2' := .slice none 0 0) (m1' := n1) (m2' := 0) (BoxS.nx3 HS.o.box hnx) hrd hle hfo hnx HT1.o.2.1 HT1.o.1 HT1.o.2.2 (by omega));clear hrd hle hfo hnx HC1;obtain ⟨y0, y1, y2, y3, y4⟩ := HS1.o.form
    go_wp2_with fail
    clear y0 y1 y2 y3 y4;obtain ⟨n2, f2, o2, e2⟩ : ∃ n f o, nx b (f1, o1) = (n, (f, o)) := ⟨_, _, _, rfl⟩;have HC2 := Zh (qf2 b (b9 + 1 + 1) f1 qn1 cn1 o1 (fun b => b < r) (b9 + 1) 4 wn1 HS1.o.fo HS1.o.le (Nat.le_trans HS1.o.len (by decide)) (fun b hb => by have := HS1.o.lt; omega) HS1.o.tx HS1.o.rd HS1.o.box.c4 (HS1.o.box.fz 4) (by omega));have ht2 := qjk b f1 o1 HS1.o.tx;have hn2 := qs4 b f1 o1 HS1.o.ln;have hl2 := qes b f1 o1;rw [e2] at HC2 ht2 hl2 hn2
    dsimp only at HC2 ht2 hl2 hn2
    have HE2 := Zh e2;have HT2 := Zh (aI ht2 (aI hl2 hn2));clear e2 ht2 hl2 hn2;refine HC2.o.mono ?_;rintro e wn2 ⟨rfl, qn2, cn2, hrd, hle, hfo, hnx⟩;have HS2 := Zh (HS1.o.step (v1' := .slice none 0 0) (v2' := .slice none 0 0) (m1' := n1) (m2' := n2) (BoxS.nx4 HS1.o.box hnx) hrd hle hfo hnx HT2.o.2.1 HT2.o.1 HT2.o.2.2 (by omega));clear hrd hle hfo hnx HC2;obtain ⟨y0, y1, y2, y3, y4⟩ := HS2.o.form;have HRV := Zh (show R = stBy x1 lits links a b g from by rw [HRR.o, HG.o]; exact HBY.o (by rw [<- HH.o]; exact HEQ.o))
    cases lits with
    | true =>
     have hrv := HRV.o;simp only [stBy, HE1.o, HE2.o] at hrv;simp only [if_true] at hrv;subst hrv;clear HRV HBY;have HC6 := Zh (qsl (b9 + 1 + 1) f2 qn2 cn2 o2 (fun b => b < r) wn2 HS2.o.fo HS2.o.le HS2.o.len (fun b hb => by have := HS2.o.lt; omega) HS2.o.tx HS2.o.rd)
     go_wp2_with fail
     clear y0 y1 y2 y3 y4;refine HC6.o.mono ?_;rintro e wR ⟨⟨pR, cR, rfl, hoR⟩, hrdR, honR⟩;obtain ⟨RL, hRL⟩ : ∃ RL, RL = (qa8 f2).1 := ⟨_, rfl⟩;have HRL := Zh hRL;obtain ⟨RO, hRO⟩ : ∃ RO, RO = (o2 && (qa8 f2).2) := ⟨_, rfl⟩;have HRO := Zh hRO;rw [<- hRO] at hrdR;rw [<- hRL] at hoR ⊢;have hbR := HS2.o.box.only honR (fun e => by omega);have hblR : Below r w3 wR := HS2.o.below.trans (honR.below (B := r) (fun k e => by have := HS2.o.lt; omega) (by rw [HR3.o]; exact HS2.o.below.size));have HOR := Zh hoR;have HBR := Zh (aI hbR (aI hrdR hblR));obtain ⟨z0, z1, z2, z3, z4, zf⟩ := hbR;have HNR := Zh (show r <= wn2.heap.size from by rw [HR3.o]; exact HS2.o.below.size);clear hoR hrdR honR hblR hRL hRO HC6
     go_wp2_with fail
     obtain ⟨wS, hwS⟩ : ∃ w, w = wR.setCell ⟨b9 + 1, 1, none⟩ (.slice pR RL.length cR) := ⟨_, rfl⟩;have hoS : Only (fun k => k = b9 + 1) wR wS := by rw [hwS]; exact Only.of_setCell wR ⟨b9 + 1, 1, none⟩ _
     have HSS := Zh (show BoxS wS (b9 + 1) x1 (.slice pR RL.length cR) (.slice none 0 0) n1 n2 /\ RdB wS (b9 + 1 + 1) none 0 0 RO /\ Below r w3 wS from ⟨by rw [hwS]; exact HBR.o.1.set1 _, HBR.o.2.1.only hoS (fun e => by omega), HBR.o.2.2.trans (hoS.below (B := r) (fun k e => by have := HS2.o.lt; omega) (by rw [HR3.o]; exact HBR.o.2.2.size))⟩);have HOS := Zh (show OwnI 44 wS (fun b => wn2.heap.size <= b) (.slice pR RL.length cR) RL from HOR.o.only hoS (fun b hb e => by have := HS2.o.rd.lt; omega));rw [<- hwS];clear hwS hoS z0 z1 z2 z3 z4 zf
     cases RO with
     | true =>
      have HD := Zh (show BoxS wS.drew (b9 + 1) x1 (.slice pR RL.length cR) (.slice none 0 0) n1 n2 /\ RdB wS.drew (b9 + 1 + 1) none 0 0 true /\ Below r w3 wS.drew from ⟨HSS.o.1.later (qae _), HSS.o.2.1.later (qae _), HSS.o.2.2.trans ((qae _).mono (by rw [HR3.o]; exact HSS.o.2.2.size))⟩);have HOD := Zh (show OwnI 44 wS.drew (fun b => wn2.heap.size <= b) (.slice pR RL.length cR) RL from HOS.o.later (qae _));refine qai [(1000, (fun _ => True : World -> Prop)), (1000, (fun w => BoxS w (b9 + 1) x1 (.slice pR RL.length cR) (.slice none 0 0) n1 n2 /\ RdB w (b9 + 1 + 1) none 0 0 true : World -> Prop))] (by kernel_rfl) (SL.cons (fun _ => trivial) (SL.cons (fun _ => ⟨HD.o.1, HD.o.2.1⟩) SL.nil)) (fun hH => ?_);generalize wS.drew = wd at *;refine tk 1 0 ⟨some 48, .load 26 (.tmp 8), 26, "read.go:56", #[], none⟩ ?_ rfl rfl ?_ hH fun hH => ?_
      rotate_left
      ·intro w hSw; (try dsimp only at hSw); obtain ⟨⟨z0, z1, z2, z3, z4, zf⟩, x0, x1', xf⟩ := hSw; go_simp; try with_reducible rfl
      try simp only [Act.put, sI, s0, s1]
      refine tk 0 1 ⟨some 49, .fieldAddr 114 (.tmp 9) 1, 0, "read.go:56", #[], none⟩ ?_ rfl rfl ?_ hH fun hH => ?_
      rotate_left
      ·intro w hSw; (try dsimp only at hSw); go_simp; try with_reducible rfl
      try simp only [Act.put, sI, s0, s1]
      refine tk 1 2 ⟨some 50, .load 4 (.tmp 49), 4, "read.go:56", #[⟨1, .data⟩], none⟩ ?_ rfl rfl ?_ hH fun hH => ?_
      rotate_left
      ·intro w hSw; (try dsimp only at hSw); obtain ⟨⟨z0, z1, z2, z3, z4, zf⟩, x0, x1', xf⟩ := hSw; go_simp; try with_reducible rfl
      try simp only [Act.put, sI, s0, s1]
      refine tk 0 3 ⟨some 51, .move (.tmp 50), 4, "read.go:56", #[⟨2, .data⟩], none⟩ ?_ rfl rfl ?_ hH fun hH => ?_
      rotate_left
      ·intro w hSw; (try dsimp only at hSw); go_simp; try with_reducible rfl
      try simp only [Act.put, sI, s0, s1]
      refine tk 0 4 ⟨some 52, .fieldAddr 114 (.tmp 9) 0, 0, "read.go:56", #[⟨3, .guard⟩], some (3, true)⟩ ?_ rfl rfl ?_ hH fun hH => ?_
      rotate_left
      ·intro w hSw; (try dsimp only at hSw); go_simp; try with_reducible rfl
      try simp only [Act.put, sI, s0, s1]
      refine tk 1 5 ⟨some 53, .load 33 (.tmp 52), 33, "read.go:56", #[⟨4, .data⟩, ⟨3, .guard⟩], some (3, true)⟩ ?_ rfl rfl ?_ hH fun hH => ?_
      rotate_left
      ·intro w hSw; (try dsimp only at hSw); obtain ⟨⟨z0, z1, z2, z3, z4, zf⟩, x0, x1', xf⟩ := hSw; go_simp; try with_reducible rfl
      try simp only [Act.put, sI, s0, s1]
      refine tk 0 6 ⟨some 54, .call ⟨.builtin .len, #[.tmp 53], #[33]⟩, 3, "read.go:56", #[⟨5, .data⟩, ⟨3, .guard⟩], some (3, true)⟩ ?_ rfl rfl ?_ hH fun hH => ?_
      rotate_left
      ·intro w hSw; (try dsimp only at hSw); go_simp; try with_reducible rfl
      try simp only [Act.put, sI, s0, s1]
      refine tk 0 7 ⟨some 55, .binOp .eql 3 (.tmp 54) (.const (.int .i64 0)) 3, 4, "read.go:56", #[⟨6, .data⟩, ⟨3, .guard⟩, ⟨9, .gcOnly .lateStores⟩], some (3, true)⟩ ?_ rfl rfl ?_ hH fun hH => ?_
      rotate_left
      ·intro w hSw; (try dsimp only at hSw); go_simp; try with_reducible rfl
      try simp only [Act.put, sI, s0, s1]
      refine tk 0 8 ⟨some 56, .pick (.tmp 51) (.tmp 55) (.const (.bool false)), 4, "read.go:56", #[⟨3, .data⟩, ⟨7, .data⟩, ⟨9, .gcOnly .lateStores⟩], none⟩ ?_ rfl rfl ?_ hH fun hH => ?_
      rotate_left
      ·intro w hSw; (try dsimp only at hSw); go_simp; try with_reducible rfl
      try simp only [Act.put, sI, s0, s1]
      have hzz : BoxS wd (W.heap.size + 1) 0 (.slice none 0 0) (.slice none 0 0) 0 0 := HZ3.o.only (Only.of_below (T := fun _ => False) (by rw [<- HR3.o]; exact HD.o.2.2)) (fun h => h);obtain ⟨u0, u1, u2, u3, u4, uf⟩ := hzz;have h7' := qdp wd (W.heap.size + 1) (.int .u8 x1) (.slice pR RL.length cR) (.slice none 0 0) (.int .i64 n1) (.int .i64 n2);have hSTA := aI (HD.o.1.only h7' (fun e => by have := HSZ3.o; have := HS2.o.lt; omega)) (HD.o.2.1.only h7' (fun e => by have := HSZ3.o; have := HS2.o.lt; omega));refine qac (rs := [9]) (by kernel_rfl) (by simp) ?_;refine AllReadyL.cons (o := ⟨none, .store 26 (.tmp 2) (.tmp 48), 0, "read.go:56", #[⟨0, .data⟩, ⟨3, .chain⟩, ⟨0, .phase⟩, ⟨1, .textOnly .lateStores⟩, ⟨2, .textOnly .lateStores⟩, ⟨3, .textOnly .lateStores⟩, ⟨4, .textOnly .lateStores⟩, ⟨5, .textOnly .lateStores⟩, ⟨6, .textOnly .lateStoresUnsure⟩, ⟨7, .textOnly .lateStores⟩, ⟨8, .textOnly .lateStores⟩], none⟩) rfl (fun K hK => ?_) AllReadyL.nil;go_simp;refine hK.out _ _ (SL.cons (fun _ => trivial) (SL.cons (fun _ => hSTA) SL.nil)) (fun hH => ?_);clear hK K
      try simp only [Act.put, sI, s0, s1]
      refine qac (rs := [10]) (by kernel_rfl) (by simp) ?_;refine AllReadyL.cons (o := ⟨some 3, .assign (.tmp 56), 4, "read.go:56", #[⟨8, .data⟩, ⟨9, .chain⟩, ⟨0, .phase⟩, ⟨1, .phase⟩, ⟨2, .phase⟩, ⟨3, .phase⟩, ⟨4, .phase⟩, ⟨5, .phase⟩, ⟨6, .phase⟩, ⟨7, .phase⟩, ⟨8, .phase⟩, ⟨9, .phase⟩], none⟩) rfl (fun K hK => ?_) AllReadyL.nil;go_simp;refine hK.out _ _ (SL.cons (fun _ => trivial) (SL.cons (fun _ => hSTA) SL.nil)) (fun hH => ?_);clear hK K
      try simp only [Act.put, sI, s0, s1]
      refine qah (by kernel_rfl) ?_ _
      go_wp2_with fail
      have h7 := qdp wd (W.heap.size + 1) (.int .u8 x1) (.slice pR RL.length cR) (.slice none 0 0) (.int .i64 n1) (.int .i64 n2);have hN := HSZ3.o;refine bodyPost_ret (v := .tuple #[.agg #[.int .u8 x1, (.slice pR RL.length cR), (.slice none 0 0), .int .i64 n1, .int .i64 n2], .bool true]) (by simp [results, Tryz.results49, go_sem, u0, u1, u2, u3, u4]) rfl ⟨⟨pR, cR, none, 0, ?_, ?_, ?_⟩, ?_⟩
      ·rw [HRL.o] at *; simp [stV, <- HRO.o]
      ·rw [<- HRL.o]; exact (HOD.o.only h7 (fun b hb e => by have := HNR.o; omega)).mono (fun b hb _ => by have := HNR.o; omega)
      ·exact OwnK.nil _ _
      ·have h8 : Below W.heap.size W wd := HB3.o.trans (HD.o.2.2.mono (by omega))
       exact h8.trans (h7.below (fun k e => by omega) h8.size)
     | false =>
      have HD := Zh (show BoxS wS.drew (b9 + 1) x1 (.slice pR RL.length cR) (.slice none 0 0) n1 n2 /\ RdB wS.drew (b9 + 1 + 1) none 0 0 false /\ Below r w3 wS.drew from ⟨HSS.o.1.later (qae _), HSS.o.2.1.later (qae _), HSS.o.2.2.trans ((qae _).mono (by rw [HR3.o]; exact HSS.o.2.2.size))⟩);have HOD := Zh (show OwnI 44 wS.drew (fun b => wn2.heap.size <= b) (.slice pR RL.length cR) RL from HOS.o.later (qae _));refine qai [(1000, (fun _ => True : World -> Prop)), (1000, (fun w => BoxS w (b9 + 1) x1 (.slice pR RL.length cR) (.slice none 0 0) n1 n2 /\ RdB w (b9 + 1 + 1) none 0 0 false : World -> Prop))] (by kernel_rfl) (SL.cons (fun _ => trivial) (SL.cons (fun _ => ⟨HD.o.1, HD.o.2.1⟩) SL.nil)) (fun hH => ?_);generalize wS.drew = wd at *;refine tk 1 0 ⟨some 48, .load 26 (.tmp 8), 26, "read.go:56", #[], none⟩ ?_ rfl rfl ?_ hH fun hH => ?_
      rotate_left
      ·intro w hSw; (try dsimp only at hSw); obtain ⟨⟨z0, z1, z2, z3, z4, zf⟩, x0, x1', xf⟩ := hSw; go_simp; try with_reducible rfl
      try simp only [Act.put, sI, s0, s1]
      refine tk 0 1 ⟨some 49, .fieldAddr 114 (.tmp 9) 1, 0, "read.go:56", #[], none⟩ ?_ rfl rfl ?_ hH fun hH => ?_
      rotate_left
      ·intro w hSw; (try dsimp only at hSw); go_simp; try with_reducible rfl
      try simp only [Act.put, sI, s0, s1]
      refine tk 1 2 ⟨some 50, .load 4 (.tmp 49), 4, "read.go:56", #[⟨1, .data⟩], none⟩ ?_ rfl rfl ?_ hH fun hH => ?_
      rotate_left
      ·intro w hSw; (try dsimp only at hSw); obtain ⟨⟨z0, z1, z2, z3, z4, zf⟩, x0, x1', xf⟩ := hSw; go_simp; try with_reducible rfl
      try simp only [Act.put, sI, s0, s1]
      refine tk 0 3 ⟨some 51, .move (.tmp 50), 4, "read.go:56", #[⟨2, .data⟩], none⟩ ?_ rfl rfl ?_ hH fun hH => ?_
      rotate_left
      ·intro w hSw; (try dsimp only at hSw); go_simp; try with_reducible rfl
      try simp only [Act.put, sI, s0, s1]
      refine tu 0 4 ⟨some 52, .fieldAddr 114 (.tmp 9) 0, 0, "read.go:56", #[⟨3, .guard⟩], some (3, true)⟩ rfl rfl hH fun hH => ?_
      try simp only [Act.put, sI, s0, s1]
      refine tu 0 5 ⟨some 53, .load 33 (.tmp 52), 33, "read.go:56", #[⟨4, .data⟩, ⟨3, .guard⟩], some (3, true)⟩ rfl rfl hH fun hH => ?_
      try simp only [Act.put, sI, s0, s1]
      refine tu 0 6 ⟨some 54, .call ⟨.builtin .len, #[.tmp 53], #[33]⟩, 3, "read.go:56", #[⟨5, .data⟩, ⟨3, .guard⟩], some (3, true)⟩ rfl rfl hH fun hH => ?_
      try simp only [Act.put, sI, s0, s1]
      refine tu 0 7 ⟨some 55, .binOp .eql 3 (.tmp 54) (.const (.int .i64 0)) 3, 4, "read.go:56", #[⟨6, .data⟩, ⟨3, .guard⟩, ⟨9, .gcOnly .lateStores⟩], some (3, true)⟩ rfl rfl hH fun hH => ?_
      try simp only [Act.put, sI, s0, s1]
      refine tk 0 8 ⟨some 56, .pick (.tmp 51) (.tmp 55) (.const (.bool false)), 4, "read.go:56", #[⟨3, .data⟩, ⟨7, .data⟩, ⟨9, .gcOnly .lateStores⟩], none⟩ ?_ rfl rfl ?_ hH fun hH => ?_
      rotate_left
      ·intro w hSw; (try dsimp only at hSw); go_simp; try with_reducible rfl
      try simp only [Act.put, sI, s0, s1]
      have hzz : BoxS wd (W.heap.size + 1) 0 (.slice none 0 0) (.slice none 0 0) 0 0 := HZ3.o.only (Only.of_below (T := fun _ => False) (by rw [<- HR3.o]; exact HD.o.2.2)) (fun h => h);obtain ⟨u0, u1, u2, u3, u4, uf⟩ := hzz;have h7' := qdp wd (W.heap.size + 1) (.int .u8 x1) (.slice pR RL.length cR) (.slice none 0 0) (.int .i64 n1) (.int .i64 n2);have hSTA := aI (HD.o.1.only h7' (fun e => by have := HSZ3.o; have := HS2.o.lt; omega)) (HD.o.2.1.only h7' (fun e => by have := HSZ3.o; have := HS2.o.lt; omega));refine qac (rs := [9]) (by kernel_rfl) (by simp) ?_;refine AllReadyL.cons (o := ⟨none, .store 26 (.tmp 2) (.tmp 48), 0, "read.go:56", #[⟨0, .data⟩, ⟨3, .chain⟩, ⟨0, .phase⟩, ⟨1, .textOnly .lateStores⟩, ⟨2, .textOnly .lateStores⟩, ⟨3, .textOnly .lateStores⟩, ⟨4, .textOnly .lateStores⟩, ⟨5, .textOnly .lateStores⟩, ⟨6, .textOnly .lateStoresUnsure⟩, ⟨7, .textOnly .lateStores⟩, ⟨8, .textOnly .lateStores⟩], none⟩) rfl (fun K hK => ?_) AllReadyL.nil;go_simp;refine hK.out _ _ (SL.cons (fun _ => trivial) (SL.cons (fun _ => hSTA) SL.nil)) (fun hH => ?_);clear hK K
      try simp only [Act.put, sI, s0, s1]
      refine qac (rs := [10]) (by kernel_rfl) (by simp) ?_;refine AllReadyL.cons (o := ⟨some 3, .assign (.tmp 56), 4, "read.go:56", #[⟨8, .data⟩, ⟨9, .chain⟩, ⟨0, .phase⟩, ⟨1, .phase⟩, ⟨2, .phase⟩, ⟨3, .phase⟩, ⟨4, .phase⟩, ⟨5, .phase⟩, ⟨6, .phase⟩, ⟨7, .phase⟩, ⟨8, .phase⟩, ⟨9, .phase⟩], none⟩) rfl (fun K hK => ?_) AllReadyL.nil;go_simp;refine hK.out _ _ (SL.cons (fun _ => trivial) (SL.cons (fun _ => hSTA) SL.nil)) (fun hH => ?_);clear hK K
      try simp only [Act.put, sI, s0, s1]
      refine qah (by kernel_rfl) ?_ _
      go_wp2_with fail
      have h7 := qdp wd (W.heap.size + 1) (.int .u8 x1) (.slice pR RL.length cR) (.slice none 0 0) (.int .i64 n1) (.int .i64 n2);have hN := HSZ3.o;refine bodyPost_ret (v := .tuple #[.agg #[.int .u8 x1, (.slice pR RL.length cR), (.slice none 0 0), .int .i64 n1, .int .i64 n2], .bool false]) (by simp [results, Tryz.results49, go_sem, u0, u1, u2, u3, u4]) rfl ⟨⟨pR, cR, none, 0, ?_, ?_, ?_⟩, ?_⟩
      ·rw [HRL.o] at *; simp [stV, <- HRO.o]
      ·rw [<- HRL.o]; exact (HOD.o.only h7 (fun b hb e => by have := HNR.o; omega)).mono (fun b hb _ => by have := HNR.o; omega)
      ·exact OwnK.nil _ _
      ·have h8 : Below W.heap.size W wd := HB3.o.trans (HD.o.2.2.mono (by omega))
       exact h8.trans (h7.below (fun k e => by omega) h8.size)
    | false =>
    cases links with
    | true =>
     have hrv := HRV.o;simp only [stBy, HE1.o, HE2.o] at hrv;simp only [if_true, Bool.false_eq_true, if_false] at hrv;subst hrv;clear HRV HBY;have HC6 := Zh (qrn (b9 + 1 + 1) f2 qn2 cn2 o2 (fun b => b < r) wn2 HS2.o.fo HS2.o.le HS2.o.len (fun b hb => by have := HS2.o.lt; omega) HS2.o.tx HS2.o.ln HS2.o.rd)
     go_wp2_with fail
     clear y0 y1 y2 y3 y4;refine HC6.o.mono ?_;rintro e wR ⟨⟨pR, cR, rfl, hoR⟩, hrdR, honR⟩;obtain ⟨RL, hRL⟩ : ∃ RL, RL = (qa6 f2).1 := ⟨_, rfl⟩;have HRL := Zh hRL;obtain ⟨RO, hRO⟩ : ∃ RO, RO = (o2 && (qa6 f2).2) := ⟨_, rfl⟩;have HRO := Zh hRO;rw [<- hRO] at hrdR;rw [<- hRL] at hoR ⊢;have hbR := HS2.o.box.only honR (fun e => by omega);have hblR : Below r w3 wR := HS2.o.below.trans (honR.below (B := r) (fun k e => by have := HS2.o.lt; omega) (by rw [HR3.o]; exact HS2.o.below.size));have HOR := Zh hoR;have HBR := Zh (aI hbR (aI hrdR hblR));obtain ⟨z0, z1, z2, z3, z4, zf⟩ := hbR;have HNR := Zh (show r <= wn2.heap.size from by rw [HR3.o]; exact HS2.o.below.size);clear hoR hrdR honR hblR hRL hRO HC6
     go_wp2_with fail
     obtain ⟨wS, hwS⟩ : ∃ w, w = wR.setCell ⟨b9 + 1, 2, none⟩ (.slice pR RL.length cR) := ⟨_, rfl⟩;have hoS : Only (fun k => k = b9 + 1) wR wS := by rw [hwS]; exact Only.of_setCell wR ⟨b9 + 1, 2, none⟩ _
     have HSS := Zh (show BoxS wS (b9 + 1) x1 (.slice none 0 0) (.slice pR RL.length cR) n1 n2 /\ RdB wS (b9 + 1 + 1) none 0 0 RO /\ Below r w3 wS from ⟨by rw [hwS]; exact HBR.o.1.set2 _, HBR.o.2.1.only hoS (fun e => by omega), HBR.o.2.2.trans (hoS.below (B := r) (fun k e => by have := HS2.o.lt; omega) (by rw [HR3.o]; exact HBR.o.2.2.size))⟩);have HOS := Zh (show OwnK wS (fun b => wn2.heap.size <= b) (.slice pR RL.length cR) RL from HOR.o.only hoS (fun b hb e => by have := HS2.o.rd.lt; omega));rw [<- hwS];clear hwS hoS z0 z1 z2 z3 z4 zf
     cases RO with
     | true =>
      have HD := Zh (show BoxS wS.drew (b9 + 1) x1 (.slice none 0 0) (.slice pR RL.length cR) n1 n2 /\ RdB wS.drew (b9 + 1 + 1) none 0 0 true /\ Below r w3 wS.drew from ⟨HSS.o.1.later (qae _), HSS.o.2.1.later (qae _), HSS.o.2.2.trans ((qae _).mono (by rw [HR3.o]; exact HSS.o.2.2.size))⟩);have HOD := Zh (show OwnK wS.drew (fun b => wn2.heap.size <= b) (.slice pR RL.length cR) RL from HOS.o.later (qae _));refine qai [(1000, (fun _ => True : World -> Prop)), (1000, (fun w => BoxS w (b9 + 1) x1 (.slice none 0 0) (.slice pR RL.length cR) n1 n2 /\ RdB w (b9 + 1 + 1) none 0 0 true : World -> Prop))] (by kernel_rfl) (SL.cons (fun _ => trivial) (SL.cons (fun _ => ⟨HD.o.1, HD.o.2.1⟩) SL.nil)) (fun hH => ?_);generalize wS.drew = wd at *;refine tk 1 0 ⟨some 48, .load 26 (.tmp 8), 26, "read.go:56", #[], none⟩ ?_ rfl rfl ?_ hH fun hH => ?_
      rotate_left
      ·intro w hSw; (try dsimp only at hSw); obtain ⟨⟨z0, z1, z2, z3, z4, zf⟩, x0, x1', xf⟩ := hSw; go_simp; try with_reducible rfl
      try simp only [Act.put, sI, s0, s1]
      refine tk 0 1 ⟨some 49, .fieldAddr 114 (.tmp 9) 1, 0, "read.go:56", #[], none⟩ ?_ rfl rfl ?_ hH fun hH => ?_
      rotate_left
      ·intro w hSw; (try dsimp only at hSw); go_simp; try with_reducible rfl
      try simp only [Act.put, sI, s0, s1]
      refine tk 1 2 ⟨some 50, .load 4 (.tmp 49), 4, "read.go:56", #[⟨1, .data⟩], none⟩ ?_ rfl rfl ?_ hH fun hH => ?_
      rotate_left
      ·intro w hSw; (try dsimp only at hSw); obtain ⟨⟨z0, z1, z2, z3, z4, zf⟩, x0, x1', xf⟩ := hSw; go_simp; try with_reducible rfl
      try simp only [Act.put, sI, s0, s1]
      refine tk 0 3 ⟨some 51, .move (.tmp 50), 4, "read.go:56", #[⟨2, .data⟩], none⟩ ?_ rfl rfl ?_ hH fun hH => ?_
      rotate_left
      ·intro w hSw; (try dsimp only at hSw); go_simp; try with_reducible rfl
      try simp only [Act.put, sI, s0, s1]
      refine tk 0 4 ⟨some 52, .fieldAddr 114 (.tmp 9) 0, 0, "read.go:56", #[⟨3, .guard⟩], some (3, true)⟩ ?_ rfl rfl ?_ hH fun hH => ?_
      rotate_left
      ·intro w hSw; (try dsimp only at hSw); go_simp; try with_reducible rfl
      try simp only [Act.put, sI, s0, s1]
      refine tk 1 5 ⟨some 53, .load 33 (.tmp 52), 33, "read.go:56", #[⟨4, .data⟩, ⟨3, .guard⟩], some (3, true)⟩ ?_ rfl rfl ?_ hH fun hH => ?_
      rotate_left
      ·intro w hSw; (try dsimp only at hSw); obtain ⟨⟨z0, z1, z2, z3, z4, zf⟩, x0, x1', xf⟩ := hSw; go_simp; try with_reducible rfl
      try simp only [Act.put, sI, s0, s1]
      refine tk 0 6 ⟨some 54, .call ⟨.builtin .len, #[.tmp 53], #[33]⟩, 3, "read.go:56", #[⟨5, .data⟩, ⟨3, .guard⟩], some (3, true)⟩ ?_ rfl rfl ?_ hH fun hH => ?_
      rotate_left
      ·intro w hSw; (try dsimp only at hSw); go_simp; try with_reducible rfl
      try simp only [Act.put, sI, s0, s1]
      refine tk 0 7 ⟨some 55, .binOp .eql 3 (.tmp 54) (.const (.int .i64 0)) 3, 4, "read.go:56", #[⟨6, .data⟩, ⟨3, .guard⟩, ⟨9, .gcOnly .lateStores⟩], some (3, true)⟩ ?_ rfl rfl ?_ hH fun hH => ?_
      rotate_left
      ·intro w hSw; (try dsimp only at hSw); go_simp; try with_reducible rfl
      try simp only [Act.put, sI, s0, s1]
      refine tk 0 8 ⟨some 56, .pick (.tmp 51) (.tmp 55) (.const (.bool false)), 4, "read.go:56", #[⟨3, .data⟩, ⟨7, .data⟩, ⟨9, .gcOnly .lateStores⟩], none⟩ ?_ rfl rfl ?_ hH fun hH => ?_
      rotate_left
      ·intro w hSw; (try dsimp only at hSw); go_simp; try with_reducible rfl
      try simp only [Act.put, sI, s0, s1]
      have hzz : BoxS wd (W.heap.size + 1) 0 (.slice none 0 0) (.slice none 0 0) 0 0 := HZ3.o.only (Only.of_below (T := fun _ => False) (by rw [<- HR3.o]; exact HD.o.2.2)) (fun h => h);obtain ⟨u0, u1, u2, u3, u4, uf⟩ := hzz;have h7' := qdp wd (W.heap.size + 1) (.int .u8 x1) (.slice none 0 0) (.slice pR RL.length cR) (.int .i64 n1) (.int .i64 n2);have hSTA := aI (HD.o.1.only h7' (fun e => by have := HSZ3.o; have := HS2.o.lt; omega)) (HD.o.2.1.only h7' (fun e => by have := HSZ3.o; have := HS2.o.lt; omega));refine qac (rs := [9]) (by kernel_rfl) (by simp) ?_;refine AllReadyL.cons (o := ⟨none, .store 26 (.tmp 2) (.tmp 48), 0, "read.go:56", #[⟨0, .data⟩, ⟨3, .chain⟩, ⟨0, .phase⟩, ⟨1, .textOnly .lateStores⟩, ⟨2, .textOnly .lateStores⟩, ⟨3, .textOnly .lateStores⟩, ⟨4, .textOnly .lateStores⟩, ⟨5, .textOnly .lateStores⟩, ⟨6, .textOnly .lateStoresUnsure⟩, ⟨7, .textOnly .lateStores⟩, ⟨8, .textOnly .lateStores⟩], none⟩) rfl (fun K hK => ?_) AllReadyL.nil;go_simp;refine hK.out _ _ (SL.cons (fun _ => trivial) (SL.cons (fun _ => hSTA) SL.nil)) (fun hH => ?_);clear hK K
      try simp only [Act.put, sI, s0, s1]
      refine qac (rs := [10]) (by kernel_rfl) (by simp) ?_;refine AllReadyL.cons (o := ⟨some 3, .assign (.tmp 56), 4, "read.go:56", #[⟨8, .data⟩, ⟨9, .chain⟩, ⟨0, .phase⟩, ⟨1, .phase⟩, ⟨2, .phase⟩, ⟨3, .phase⟩, ⟨4, .phase⟩, ⟨5, .phase⟩, ⟨6, .phase⟩, ⟨7, .phase⟩, ⟨8, .phase⟩, ⟨9, .phase⟩], none⟩) rfl (fun K hK => ?_) AllReadyL.nil;go_simp;refine hK.out _ _ (SL.cons (fun _ => trivial) (SL.cons (fun _ => hSTA) SL.nil)) (fun hH => ?_);clear hK K
      try simp only [Act.put, sI, s0, s1]
      refine qah (by kernel_rfl) ?_ _
      go_wp2_with fail
      have h7 := qdp wd (W.heap.size + 1) (.int .u8 x1) (.slice none 0 0) (.slice pR RL.length cR) (.int .i64 n1) (.int .i64 n2);have hN := HSZ3.o;refine bodyPost_ret (v := .tuple #[.agg #[.int .u8 x1, (.slice none 0 0), (.slice pR RL.length cR), .int .i64 n1, .int .i64 n2], .bool true]) (by simp [results, Tryz.results49, go_sem, u0, u1, u2, u3, u4]) rfl ⟨⟨none, 0, pR, cR, ?_, ?_, ?_⟩, ?_⟩
      ·rw [HRL.o] at *; simp [stV, <- HRO.o]
      ·exact OwnI.nil _ _ _
      ·rw [<- HRL.o]; exact (HOD.o.only h7 (fun b hb e => by have := HNR.o; omega)).mono (fun b hb _ => by have := HNR.o; omega)
      ·have h8 : Below W.heap.size W wd := HB3.o.trans (HD.o.2.2.mono (by omega))
       exact h8.trans (h7.below (fun k e => by omega) h8.size)
     | false =>
      have HD := Zh (show BoxS wS.drew (b9 + 1) x1 (.slice none 0 0) (.slice pR RL.length cR) n1 n2 /\ RdB wS.drew (b9 + 1 + 1) none 0 0 false /\ Below r w3 wS.drew from ⟨HSS.o.1.later (qae _), HSS.o.2.1.later (qae _), HSS.o.2.2.trans ((qae _).mono (by rw [HR3.o]; exact HSS.o.2.2.size))⟩);have HOD := Zh (show OwnK wS.drew (fun b => wn2.heap.size <= b) (.slice pR RL.length cR) RL from HOS.o.later (qae _));refine qai [(1000, (fun _ => True : World -> Prop)), (1000, (fun w => BoxS w (b9 + 1) x1 (.slice none 0 0) (.slice pR RL.length cR) n1 n2 /\ RdB w (b9 + 1 + 1) none 0 0 false : World -> Prop))] (by kernel_rfl) (SL.cons (fun _ => trivial) (SL.cons (fun _ => ⟨HD.o.1, HD.o.2.1⟩) SL.nil)) (fun hH => ?_);generalize wS.drew = wd at *;refine tk 1 0 ⟨some 48, .load 26 (.tmp 8), 26, "read.go:56", #[], none⟩ ?_ rfl rfl ?_ hH fun hH => ?_
      rotate_left
      ·intro w hSw; (try dsimp only at hSw); obtain ⟨⟨z0, z1, z2, z3, z4, zf⟩, x0, x1', xf⟩ := hSw; go_simp; try with_reducible rfl
      try simp only [Act.put, sI, s0, s1]
      refine tk 0 1 ⟨some 49, .fieldAddr 114 (.tmp 9) 1, 0, "read.go:56", #[], none⟩ ?_ rfl rfl ?_ hH fun hH => ?_
      rotate_left
      ·intro w hSw; (try dsimp only at hSw); go_simp; try with_reducible rfl
      try simp only [Act.put, sI, s0, s1]
      refine tk 1 2 ⟨some 50, .load 4 (.tmp 49), 4, "read.go:56", #[⟨1, .data⟩], none⟩ ?_ rfl rfl ?_ hH fun hH => ?_
      rotate_left
      ·intro w hSw; (try dsimp only at hSw); obtain ⟨⟨z0, z1, z2, z3, z4, zf⟩, x0, x1', xf⟩ := hSw; go_simp; try with_reducible rfl
      try simp only [Act.put, sI, s0, s1]
      refine tk 0 3 ⟨some 51, .move (.tmp 50), 4, "read.go:56", #[⟨2, .data⟩], none⟩ ?_ rfl rfl ?_ hH fun hH => ?_
      rotate_left
      ·intro w hSw; (try dsimp only at hSw); go_simp; try with_reducible rfl
      try simp only [Act.put, sI, s0, s1]
      refine tu 0 4 ⟨some 52, .fieldAddr 114 (.tmp 9) 0, 0, "read.go:56", #[⟨3, .guard⟩], some (3, true)⟩ rfl rfl hH fun hH => ?_
      try simp only [Act.put, sI, s0, s1]
      refine tu 0 5 ⟨some 53, .load 33 (.tmp 52), 33, "read.go:56", #[⟨4, .data⟩, ⟨3, .guard⟩], some (3, true)⟩ rfl rfl hH fun hH => ?_
      try simp only [Act.put, sI, s0, s1]
      refine tu 0 6 ⟨some 54, .call ⟨.builtin .len, #[.tmp 53], #[33]⟩, 3, "read.go:56", #[⟨5, .data⟩, ⟨3, .guard⟩], some (3, true)⟩ rfl rfl hH fun hH => ?_
      try simp only [Act.put, sI, s0, s1]
      refine tu 0 7 ⟨some 55, .binOp .eql 3 (.tmp 54) (.const (.int .i64 0)) 3, 4, "read.go:56", #[⟨6, .data⟩, ⟨3, .guard⟩, ⟨9, .gcOnly .lateStores⟩], some (3, true)⟩ rfl rfl hH fun hH => ?_
      try simp only [Act.put, sI, s0, s1]
      refine tk 0 8 ⟨some 56, .pick (.tmp 51) (.tmp 55) (.const (.bool false)), 4, "read.go:56", #[⟨3, .data⟩, ⟨7, .data⟩, ⟨9, .gcOnly .lateStores⟩], none⟩ ?_ rfl rfl ?_ hH fun hH => ?_
      rotate_left
      ·intro w hSw; (try dsimp only at hSw); go_simp; try with_reducible rfl
      try simp only [Act.put, sI, s0, s1]
      have hzz : BoxS wd (W.heap.size + 1) 0 (.slice none 0 0) (.slice none 0 0) 0 0 := HZ3.o.only (Only.of_below (T := fun _ => False) (by rw [<- HR3.o]; exact HD.o.2.2)) (fun h => h);obtain ⟨u0, u1, u2, u3, u4, uf⟩ := hzz;have h7' := qdp wd (W.heap.size + 1) (.int .u8 x1) (.slice none 0 0) (.slice pR RL.length cR) (.int .i64 n1) (.int .i64 n2);have hSTA := aI (HD.o.1.only h7' (fun e => by have := HSZ3.o; have := HS2.o.lt; omega)) (HD.o.2.1.only h7' (fun e => by have := HSZ3.o; have := HS2.o.lt; omega));refine qac (rs := [9]) (by kernel_rfl) (by simp) ?_;refine AllReadyL.cons (o := ⟨none, .store 26 (.tmp 2) (.tmp 48), 0, "read.go:56", #[⟨0, .data⟩, ⟨3, .chain⟩, ⟨0, .phase⟩, ⟨1, .textOnly .lateStores⟩, ⟨2, .textOnly .lateStores⟩, ⟨3, .textOnly .lateStores⟩, ⟨4, .textOnly .lateStores⟩, ⟨5, .textOnly .lateStores⟩, ⟨6, .textOnly .lateStoresUnsure⟩, ⟨7, .textOnly .lateStores⟩, ⟨8, .textOnly .lateStores⟩], none⟩) rfl (fun K hK => ?_) AllReadyL.nil;go_simp;refine hK.out _ _ (SL.cons (fun _ => trivial) (SL.cons (fun _ => hSTA) SL.nil)) (fun hH => ?_);clear hK K
      try simp only [Act.put, sI, s0, s1]
      refine qac (rs := [10]) (by kernel_rfl) (by simp) ?_;refine AllReadyL.cons (o := ⟨some 3, .assign (.tmp 56), 4, "read.go:56", #[⟨8, .data⟩, ⟨9, .chain⟩, ⟨0, .phase⟩, ⟨1, .phase⟩, ⟨2, .phase⟩, ⟨3, .phase⟩, ⟨4, .phase⟩, ⟨5, .phase⟩, ⟨6, .phase⟩, ⟨7, .phase⟩, ⟨8, .phase⟩, ⟨9, .phase⟩], none⟩) rfl (fun K hK => ?_) AllReadyL.nil;go_simp;refine hK.out _ _ (SL.cons (fun _ => trivial) (SL.cons (fun _ => hSTA) SL.nil)) (fun hH => ?_);clear hK K
      try simp only [Act.put, sI, s0, s1]
      refine qah (by kernel_rfl) ?_ _
      go_wp2_with fail
      have h7 := qdp wd (W.heap.size + 1) (.int .u8 x1) (.slice none 0 0) (.slice pR RL.length cR) (.int .i64 n1) (.int .i64 n2);have hN := HSZ3.o;refine bodyPost_ret (v := .tuple #[.agg #[.int .u8 x1, (.slice none 0 0), (.slice pR RL.length cR), .int .i64 n1, .int .i64 n2], .bool false]) (by simp [results, Tryz.results49, go_sem, u0, u1, u2, u3, u4]) rfl ⟨⟨none, 0, pR, cR, ?_, ?_, ?_⟩, ?_⟩
      ·rw [HRL.o] at *; simp [stV, <- HRO.o]
      ·exact OwnI.nil _ _ _
      ·rw [<- HRL.o]; exact (HOD.o.only h7 (fun b hb e => by have := HNR.o; omega)).mono (fun b hb _ => by have := HNR.o; omega)
      ·have h8 : Below W.heap.size W wd := HB3.o.trans (HD.o.2.2.mono (by omega))
       exact h8.trans (h7.below (fun k e => by omega) h8.size)
    | false =>
     have hrv := HRV.o;simp only [stBy, HE1.o, HE2.o] at hrv;simp only [Bool.false_eq_true, if_false] at hrv;subst hrv;clear HRV HBY;have HSS := Zh (show BoxS wn2 (b9 + 1) x1 (.slice none 0 0) (.slice none 0 0) n1 n2 /\ RdB wn2 (b9 + 1 + 1) qn2 f2.len cn2 o2 /\ Below r w3 wn2 from ⟨HS2.o.box, HS2.o.rd, HS2.o.below⟩);obtain ⟨fl, hfl⟩ : ∃ fl, fl = f2.len := ⟨_, rfl⟩;have HFL := Zh hfl;rw [<- hfl] at HSS;have fl1 : (fl : Int) <= 1000000000 := by have := HS2.o.len; omega
     go_wp2_with fail
     clear y0 y1 y2 y3 y4;clear hfl
     cases o2 with
     | true =>
      have hdec : ((fl : Int) == 0) = decide (fl = 0) := by
       by_cases h0 : fl = 0
       ·subst h0; rfl
       ·have : ((fl : Int) == 0) = false := by simp; omega
        rw [this]; simp [h0]
      have HD := Zh (show BoxS wn2.drew (b9 + 1) x1 (.slice none 0 0) (.slice none 0 0) n1 n2 /\ RdB wn2.drew (b9 + 1 + 1) qn2 fl cn2 true /\ Below r w3 wn2.drew from ⟨HSS.o.1.later (qae _), HSS.o.2.1.later (qae _), HSS.o.2.2.trans ((qae _).mono (by rw [HR3.o]; exact HSS.o.2.2.size))⟩);refine qai [(1000, (fun _ => True : World -> Prop)), (1000, (fun w => BoxS w (b9 + 1) x1 (.slice none 0 0) (.slice none 0 0) n1 n2 /\ RdB w (b9 + 1 + 1) qn2 fl cn2 true : World -> Prop))] (by kernel_rfl) (SL.cons (fun _ => trivial) (SL.cons (fun _ => ⟨HD.o.1, HD.o.2.1⟩) SL.nil)) (fun hH => ?_);generalize wn2.drew = wd at *;refine tk 1 0 ⟨some 48, .load 26 (.tmp 8), 26, "read.go:56", #[], none⟩ ?_ rfl rfl ?_ hH fun hH => ?_
      rotate_left
      ·intro w hSw; (try dsimp only at hSw); obtain ⟨⟨z0, z1, z2, z3, z4, zf⟩, x0, x1', xf⟩ := hSw; go_simp; try with_reducible rfl
      try simp only [Act.put, sI, s0, s1]
      refine tk 0 1 ⟨some 49, .fieldAddr 114 (.tmp 9) 1, 0, "read.go:56", #[], none⟩ ?_ rfl rfl ?_ hH fun hH => ?_
      rotate_left
      ·intro w hSw; (try dsimp only at hSw); go_simp; try with_reducible rfl
      try simp only [Act.put, sI, s0, s1]
      refine tk 1 2 ⟨some 50, .load 4 (.tmp 49), 4, "read.go:56", #[⟨1, .data⟩], none⟩ ?_ rfl rfl ?_ hH fun hH => ?_
      rotate_left
      ·intro w hSw; (try dsimp only at hSw); obtain ⟨⟨z0, z1, z2, z3, z4, zf⟩, x0, x1', xf⟩ := hSw; go_simp; try with_reducible rfl
      try simp only [Act.put, sI, s0, s1]
      refine tk 0 3 ⟨some 51, .move (.tmp 50), 4, "read.go:56", #[⟨2, .data⟩], none⟩ ?_ rfl rfl ?_ hH fun hH => ?_
      rotate_left
      ·intro w hSw; (try dsimp only at hSw); go_simp; try with_reducible rfl
      try simp only [Act.put, sI, s0, s1]
      refine tk 0 4 ⟨some 52, .fieldAddr 114 (.tmp 9) 0, 0, "read.go:56", #[⟨3, .guard⟩], some (3, true)⟩ ?_ rfl rfl ?_ hH fun hH => ?_
      rotate_left
      ·intro w hSw; (try dsimp only at hSw); go_simp; try with_reducible rfl
      try simp only [Act.put, sI, s0, s1]
      refine tk 1 5 ⟨some 53, .load 33 (.tmp 52), 33, "read.go:56", #[⟨4, .data⟩, ⟨3, .guard⟩], some (3, true)⟩ ?_ rfl rfl ?_ hH fun hH => ?_
      rotate_left
      ·intro w hSw; (try dsimp only at hSw); obtain ⟨⟨z0, z1, z2, z3, z4, zf⟩, x0, x1', xf⟩ := hSw; go_simp; try with_reducible rfl
      try simp only [Act.put, sI, s0, s1]
      refine tk 0 6 ⟨some 54, .call ⟨.builtin .len, #[.tmp 53], #[33]⟩, 3, "read.go:56", #[⟨5, .data⟩, ⟨3, .guard⟩], some (3, true)⟩ ?_ rfl rfl ?_ hH fun hH => ?_
      rotate_left
      ·intro w hSw; (try dsimp only at hSw); go_simp; try with_reducible rfl
      try simp only [Act.put, sI, s0, s1]
      refine tk 0 7 ⟨some 55, .binOp .eql 3 (.tmp 54) (.const (.int .i64 0)) 3, 4, "read.go:56", #[⟨6, .data⟩, ⟨3, .guard⟩, ⟨9, .gcOnly .lateStores⟩], some (3, true)⟩ ?_ rfl rfl ?_ hH fun hH => ?_
      rotate_left
      ·intro w hSw; (try dsimp only at hSw); go_simp; try with_reducible rfl
      try simp only [Act.put, sI, s0, s1]
      refine tk 0 8 ⟨some 56, .pick (.tmp 51) (.tmp 55) (.const (.bool false)), 4, "read.go:56", #[⟨3, .data⟩, ⟨7, .data⟩, ⟨9, .gcOnly .lateStores⟩], none⟩ ?_ rfl rfl ?_ hH fun hH => ?_
      rotate_left
      ·intro w hSw; (try dsimp only at hSw); go_simp; try with_reducible rfl
      try simp only [Act.put, sI, s0, s1]
      have hzz : BoxS wd (W.heap.size + 1) 0 (.slice none 0 0) (.slice none 0 0) 0 0 := HZ3.o.only (Only.of_below (T := fun _ => False) (by rw [<- HR3.o]; exact HD.o.2.2)) (fun h => h);obtain ⟨u0, u1, u2, u3, u4, uf⟩ := hzz;have h7' := qdp wd (W.heap.size + 1) (.int .u8 x1) (.slice none 0 0) (.slice none 0 0) (.int .i64 n1) (.int .i64 n2);have hSTA := aI (HD.o.1.only h7' (fun e => by have := HSZ3.o; have := HS2.o.lt; omega)) (HD.o.2.1.only h7' (fun e => by have := HSZ3.o; have := HS2.o.lt; omega));refine qac (rs := [9]) (by kernel_rfl) (by simp) ?_;refine AllReadyL.cons (o := ⟨none, .store 26 (.tmp 2) (.tmp 48), 0, "read.go:56", #[⟨0, .data⟩, ⟨3, .chain⟩, ⟨0, .phase⟩, ⟨1, .textOnly .lateStores⟩, ⟨2, .textOnly .lateStores⟩, ⟨3, .textOnly .lateStores⟩, ⟨4, .textOnly .lateStores⟩, ⟨5, .textOnly .lateStores⟩, ⟨6, .textOnly .lateStoresUnsure⟩, ⟨7, .textOnly .lateStores⟩, ⟨8, .textOnly .lateStores⟩], none⟩) rfl (fun K hK => ?_) AllReadyL.nil;go_simp;refine hK.out _ _ (SL.cons (fun _ => trivial) (SL.cons (fun _ => hSTA) SL.nil)) (fun hH => ?_);clear hK K
      try simp only [Act.put, sI, s0, s1]
      refine qac (rs := [10]) (by kernel_rfl) (by simp) ?_;refine AllReadyL.cons (o := ⟨some 3, .assign (.tmp 56), 4, "read.go:56", #[⟨8, .data⟩, ⟨9, .chain⟩, ⟨0, .phase⟩, ⟨1, .phase⟩, ⟨2, .phase⟩, ⟨3, .phase⟩, ⟨4, .phase⟩, ⟨5, .phase⟩, ⟨6, .phase⟩, ⟨7, .phase⟩, ⟨8, .phase⟩, ⟨9, .phase⟩], none⟩) rfl (fun K hK => ?_) AllReadyL.nil;go_simp;refine hK.out _ _ (SL.cons (fun _ => trivial) (SL.cons (fun _ => hSTA) SL.nil)) (fun hH => ?_);clear hK K
      try simp only [Act.put, sI, s0, s1]
      refine qah (by kernel_rfl) ?_ _
      go_wp2_with fail
      have h7 := qdp wd (W.heap.size + 1) (.int .u8 x1) (.slice none 0 0) (.slice none 0 0) (.int .i64 n1) (.int .i64 n2);have hN := HSZ3.o;refine bodyPost_ret (v := .tuple #[.agg #[.int .u8 x1, (.slice none 0 0), (.slice none 0 0), .int .i64 n1, .int .i64 n2], .bool (decide (fl = 0))]) (by simp [results, Tryz.results49, go_sem, u0, u1, u2, u3, u4]) rfl ⟨⟨none, 0, none, 0, ?_, ?_, ?_⟩, ?_⟩
      ·simp [stV, HFL.o]
      ·exact OwnI.nil _ _ _
      ·exact OwnK.nil _ _
      ·have h8 : Below W.heap.size W wd := HB3.o.trans (HD.o.2.2.mono (by omega))
       exact h8.trans (h7.below (fun k e => by omega) h8.size)
     | false =>
      have HD := Zh (show BoxS wn2.drew (b9 + 1) x1 (.slice none 0 0) (.slice none 0 0) n1 n2 /\ RdB wn2.drew (b9 + 1 + 1) qn2 fl cn2 false /\ Below r w3 wn2.drew from ⟨HSS.o.1.later (qae _), HSS.o.2.1.later (qae _), HSS.o.2.2.trans ((qae _).mono (by rw [HR3.o]; exact HSS.o.2.2.size))⟩);refine qai [(1000, (fun _ => True : World -> Prop)), (1000, (fun w => BoxS w (b9 + 1) x1 (.slice none 0 0) (.slice none 0 0) n1 n2 /\ RdB w (b9 + 1 + 1) qn2 fl cn2 false : World -> Prop))] (by kernel_rfl) (SL.cons (fun _ => trivial) (SL.cons (fun _ => ⟨HD.o.1, HD.o.2.1⟩) SL.nil)) (fun hH => ?_);generalize wn2.drew = wd at *;refine tk 1 0 ⟨some 48, .load 26 (.tmp 8), 26, "read.go:56", #[], none⟩ ?_ rfl rfl ?_ hH fun hH => ?_
      rotate_left
      ·intro w hSw; (try dsimp only at hSw); obtain ⟨⟨z0, z1, z2, z3, z4, zf⟩, x0, x1', xf⟩ := hSw; go_simp; try with_reducible rfl
      try simp only [Act.put, sI, s0, s1]
      refine tk 0 1 ⟨some 49, .fieldAddr 114 (.tmp 9) 1, 0, "read.go:56", #[], none⟩ ?_ rfl rfl ?_ hH fun hH => ?_
      rotate_left
      ·intro w hSw; (try dsimp only at hSw); go_simp; try with_reducible rfl
      try simp only [Act.put, sI, s0, s1]
      refine tk 1 2 ⟨some 50, .load 4 (.tmp 49), 4, "read.go:56", #[⟨1, .data⟩], none⟩ ?_ rfl rfl ?_ hH fun hH => ?_
      rotate_left
      ·intro w hSw; (try dsimp only at hSw); obtain ⟨⟨z0, z1, z2, z3, z4, zf⟩, x0, x1', xf⟩ := hSw; go_simp; try with_reducible rfl
      try simp only [Act.put, sI, s0, s1]
      refine tk 0 3 ⟨some 51, .move (.tmp 50), 4, "read.go:56", #[⟨2, .data⟩], none⟩ ?_ rfl rfl ?_ hH fun hH => ?_
      rotate_left
      ·intro w hSw; (try dsimp only at hSw); go_simp; try with_reducible rfl
      try simp only [Act.put, sI, s0, s1]
      refine tu 0 4 ⟨some 52, .fieldAddr 114 (.tmp 9) 0, 0, "read.go:56", #[⟨3, .guard⟩], some (3, true)⟩ rfl rfl hH fun hH => ?_
      try simp only [Act.put, sI, s0, s1]
      refine tu 0 5 ⟨some 53, .load 33 (.tmp 52), 33, "read.go:56", #[⟨4, .data⟩, ⟨3, .guard⟩], some (3, true)⟩ rfl rfl hH fun hH => ?_
      try simp only [Act.put, sI, s0, s1]
      refine tu 0 6 ⟨some 54, .call ⟨.builtin .len, #[.tmp 53], #[33]⟩, 3, "read.go:56", #[⟨5, .data⟩, ⟨3, .guard⟩], some (3, true)⟩ rfl rfl hH fun hH => ?_
      try simp only [Act.put, sI, s0, s1]
      refine tu 0 7 ⟨some 55, .binOp .eql 3 (.tmp 54) (.const (.int .i64 0)) 3, 4, "read.go:56", #[⟨6, .data⟩, ⟨3, .guard⟩, ⟨9, .gcOnly .lateStores⟩], some (3, true)⟩ rfl rfl hH fun hH => ?_
      try simp only [Act.put, sI, s0, s1]
      refine tk 0 8 ⟨some 56, .pick (.tmp 51) (.tmp 55) (.const (.bool false)), 4, "read.go:56", #[⟨3, .data⟩, ⟨7, .data⟩, ⟨9, .gcOnly .lateStores⟩], none⟩ ?_ rfl rfl ?_ hH fun hH => ?_
      rotate_left
      ·intro w hSw; (try dsimp only at hSw); go_simp; try with_reducible rfl
      try simp only [Act.put, sI, s0, s1]
      have hzz : BoxS wd (W.heap.size + 1) 0 (.slice none 0 0) (.slice none 0 0) 0 0 := HZ3.o.only (Only.of_below (T := fun _ => False) (by rw [<- HR3.o]; exact HD.o.2.2)) (fun h => h);obtain ⟨u0, u1, u2, u3, u4, uf⟩ := hzz;have h7' := qdp wd (W.heap.size + 1) (.int .u8 x1) (.slice none 0 0) (.slice none 0 0) (.int .i64 n1) (.int .i64 n2);have hSTA := aI (HD.o.1.only h7' (fun e => by have := HSZ3.o; have := HS2.o.lt; omega)) (HD.o.2.1.only h7' (fun e => by have := HSZ3.o; have := HS2.o.lt; omega));refine qac (rs := [9]) (by kernel_rfl) (by simp) ?_;refine AllReadyL.cons (o := ⟨none, .store 26 (.tmp 2) (.tmp 48), 0, "read.go:56", #[⟨0, .data⟩, ⟨3, .chain⟩, ⟨0, .phase⟩, ⟨1, .textOnly .lateStores⟩, ⟨2, .textOnly .lateStores⟩, ⟨3, .textOnly .lateStores⟩, ⟨4, .textOnly .lateStores⟩, ⟨5, .textOnly .lateStores⟩, ⟨6, .textOnly .lateStoresUnsure⟩, ⟨7, .textOnly .lateStores⟩, ⟨8, .textOnly .lateStores⟩], none⟩) rfl (fun K hK => ?_) AllReadyL.nil;go_simp;refine hK.out _ _ (SL.cons (fun _ => trivial) (SL.cons (fun _ => hSTA) SL.nil)) (fun hH => ?_);clear hK K
      try simp only [Act.put, sI, s0, s1]
      refine qac (rs := [10]) (by kernel_rfl) (by simp) ?_;refine AllReadyL.cons (o := ⟨some 3, .assign (.tmp 56), 4, "read.go:56", #[⟨8, .data⟩, ⟨9, .chain⟩, ⟨0, .phase⟩, ⟨1, .phase⟩, ⟨2, .phase⟩, ⟨3, .phase⟩, ⟨4, .phase⟩, ⟨5, .phase⟩, ⟨6, .phase⟩, ⟨7, .phase⟩, ⟨8, .phase⟩, ⟨9, .phase⟩], none⟩) rfl (fun K hK => ?_) AllReadyL.nil;go_simp;refine hK.out _ _ (SL.cons (fun _ => trivial) (SL.cons (fun _ => hSTA) SL.nil)) (fun hH => ?_);clear hK K
      try simp only [Act.put, sI, s0, s1]
      refine qah (by kernel_rfl) ?_ _
      go_wp2_with fail
      have h7 := qdp wd (W.heap.size + 1) (.int .u8 x1) (.slice none 0 0) (.slice none 0 0) (.int .i64 n1) (.int .i64 n2);have hN := HSZ3.o;refine bodyPost_ret (v := .tuple #[.agg #[.int .u8 x1, (.slice none 0 0), (.slice none 0 0), .int .i64 n1, .int .i64 n2], .bool false]) (by simp [results, Tryz.results49, go_sem, u0, u1, u2, u3, u4]) rfl ⟨⟨none, 0, none, 0, ?_, ?_, ?_⟩, ?_⟩
      ·simp [stV]
      ·exact OwnI.nil _ _ _
      ·exact OwnK.nil _ _
      ·have h8 : Below W.heap.size W wd := HB3.o.trans (HD.o.2.2.mono (by omega))
       exact h8.trans (h7.below (fun k e => by omega) h8.size)
end Go.Proofs.YtookoagcmejkpaaGreatDoor
