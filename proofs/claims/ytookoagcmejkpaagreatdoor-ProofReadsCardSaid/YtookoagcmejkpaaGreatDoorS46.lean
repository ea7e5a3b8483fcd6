/- A step is read out of a tree: the program's. -/
import Derived.Test.YtookoagcmejkpaaGreatDoorS45
namespace Go.Proofs.YtookoagcmejkpaaGreatDoor
set_option maxRecDepth 100000
open Go Go.RowKit Go.Maps
structure FormS (W : World) (B : Nat) (h : ByteArray) (lits links a b : Bool) : Prop where
 c0 : W.cell? ⟨B, 0, none⟩ = some (.string h)
 c1 : W.cell? ⟨B, 1, none⟩ = some (.bool lits)
 c2 : W.cell? ⟨B, 2, none⟩ = some (.bool links)
 c3 : W.cell? ⟨B, 3, none⟩ = some (.bool a)
 c4 : W.cell? ⟨B, 4, none⟩ = some (.bool b)
theorem FormS.only {W W' : World} {B : Nat} {h : ByteArray} {lits links a b : Bool} {T : Nat -> Prop} (x : FormS W B h lits links a b) (ho : Only T W W') (hn : ¬ T B) : FormS W' B h lits links a b :=
 ⟨ho.cell x.c0 hn, ho.cell x.c1 hn, ho.cell x.c2 hn, ho.cell x.c3 hn, ho.cell x.c4 hn⟩
theorem BoxS.nx3 {w w' : World} {B Bt : Nat} {k x y n : Int} {v1 v2 : Value} (h : BoxS w B k v1 v2 x y) (c : NxC w w' Bt B 3 n) : BoxS w' B k v1 v2 n y :=
 ⟨c.cells 0 _ (by decide) h.c0, c.cells 1 _ (by decide) h.c1, c.cells 2 _ (by decide) h.c2, c.to, c.cells 4 _ (by decide) h.c4, fun o => by rw [c.fz]; exact h.fz o⟩
theorem BoxS.nx4 {w w' : World} {B Bt : Nat} {k x y n : Int} {v1 v2 : Value} (h : BoxS w B k v1 v2 x y) (c : NxC w w' Bt B 4 n) : BoxS w' B k v1 v2 x n :=
 ⟨c.cells 0 _ (by decide) h.c0, c.cells 1 _ (by decide) h.c1, c.cells 2 _ (by decide) h.c2, c.cells 3 _ (by decide) h.c3, c.to, fun o => by rw [c.fz]; exact h.fz o⟩
structure S49 (w3 : World) (r b9 : Nat) (h : ByteArray) (lits links a b : Bool) (w : World) (k : Int) (v1 v2 : Value) (m1 m2 : Int) (f : Fo) (o : Bool) (q : Option Addr) (c : Nat) : Prop where
 form : FormS w b9 h lits links a b
 box : BoxS w (b9 + 1) k v1 v2 m1 m2
 rd : RdB w (b9 + 1 + 1) q f.len c o
 fo : FoIn w (fun b => b < r) f q
 le : f.len <= c
 len : f.len <= 1000000000
 tx : TxOK f
 ln : LnOK f
 below : Below r w3 w
 lt : r <= b9
theorem S49.step {w3 : World} {r b9 : Nat} {h : ByteArray} {lits links a b : Bool} {w w' : World} {k : Int} {v1 v2 v1' v2' : Value} {m1 m2 m1' m2' : Int} {f f' : Fo} {o o' : Bool} {q q' : Option Addr} {c c' : Nat} {Bt ot : Nat} {n : Int}
  (s : S49 w3 r b9 h lits links a b w k v1 v2 m1 m2 f o q c) (hb : BoxS w' (b9 + 1) k v1' v2' m1' m2') (hr : RdB w' (b9 + 1 + 1) q' f'.len c' o') (hc : f'.len <= c') (hf : FoIn w' (fun b => b < r) f' q') (hn : NxC w w' (b9 + 1 + 1) Bt ot n) (hl : f'.len <= f.len) (ht : TxOK f') (hln : LnOK f') (hB : b9 < Bt) : S49 w3 r b9 h lits links a b w' k v1' v2' m1' m2' f' o' q' c' where
 form := s.form.only hn.only (fun e => by omega)
 box := hb
 rd := hr
 fo := hf
 le := hc
 len := Nat.le_trans hl s.len
 tx := ht
 ln := hln
 below := s.below.trans (hn.only.below (B := r) (fun k e => by have := s.lt; omega) (Nat.le_trans (Nat.le_trans s.lt (Nat.le_succ_of_le (Nat.le_succ _))) (Nat.le_of_lt s.rd.lt)))
 lt := s.lt
theorem nx_ln (has : Bool) (f : Fo) (ok : Bool) (h : LnOK f) : LnOK (nx has (f, ok)).2.1 := by
 unfold nx
 split
 ·cases f with
  | nil => trivial
  | cons l k s a x r => exact h.2.2
 ·exact h
theorem LnOK.hd {l : Bool} {x : Fo} (h : LnOK x) : LnOK (hd l x).2 := by
 cases x with
 | nil => trivial
 | cons l0 k s a y r =>
  simp only [Go.Proofs.YtookoagcmejkpaaGreatDoor.hd]
  split
  ·exact h.2.2
  ·trivial
set_option maxHeartbeats 6400000 in
theorem step49 (l : Bool) (k : Int) (s : ByteArray) (a0 : Int) (x : Fo) (q : Option Addr) (c : Nat) (F : Nat -> Prop) (W : World) (hq : FoIn W F x q) (hc : x.len <= c) (hl : x.len <= 1000000000) (hx : TxOK x) (hln : LnOK x) :
  Calls Tryz.prog 49 #[trV l k s a0 q x.len c] W fun e w' => (∃ p' c' q' d', e = .returned (.tuple #[stV (stepP l x).1 p' c' q' d', .bool (stepP l x).2]) /\ OwnI 44 w' (fun b => W.heap.size <= b) (.slice p' (stepP l x).1.lits.length c') (stepP l x).1.lits /\ OwnK w' (fun b => W.heap.size <= b) (.slice q' (stepP l x).1.links.length d') (stepP l x).1.links) /\ Below W.heap.size W w' := by
 obtain ⟨w2, hw2⟩ : ∃ w2, w2 = (W.alloc (.cells #[.bool l, .int .u8 k, .string s, .int .i64 a0, .slice q x.len c] 35)).alloc (.cells #[.int .u8 0, .slice none 0 0, .slice none 0 0, .int .i64 0, .int .i64 0] 26) := ⟨_, rfl⟩
 have hb2 : Below W.heap.size W w2 := by rw [hw2]; exact (below1 W _).alloc (by simp) _
 have hz2 : BoxS w2 (W.heap.size + 1) 0 (.slice none 0 0) (.slice none 0 0) 0 0 := by
  have h := boxS_new (W.alloc (.cells #[.bool l, .int .u8 k, .string s, .int .i64 a0, .slice q x.len c] 35)) 0 0 0 (.slice none 0 0) (.slice none 0 0)
  rw [hw2]; simpa using h
 have hs2 : w2.heap.size = W.heap.size + 2 := by rw [hw2]; simp
 have HP := Lib.hid (parted75 l k s a0 x q c w2 F (hq.later hb2) hc (by omega))
 have HS2 := Lib.hid (And.intro hb2 (And.intro hz2 hs2))
 have HW2 := Lib.hid hw2
 have HTX := Lib.hid (And.intro (TxOK.hd (l := l) hx) (LnOK.hd (l := l) hln))
 have HGL := Lib.hid (show (hd l x).2.len <= 1000000000 from by
  have e : (hd l x).2.len <= x.len := by
   cases x with
   | nil => exact Nat.le_refl _
   | cons l0 k0 s0 a0 y z =>
    simp only [hd]
    split
    ·simp [Fo.len]
    ·simp [Fo.len]
  omega)
 obtain ⟨R, hR⟩ : ∃ R, R = stepP l x := ⟨_, rfl⟩
 have HRR := Lib.hid hR
 rw [<- hR]
 obtain ⟨h, hh⟩ : ∃ h, h = (hd l x).1 := ⟨_, rfl⟩
 obtain ⟨g, hg⟩ : ∃ g, g = (hd l x).2 := ⟨_, rfl⟩
 have HH := Lib.hid hh
 have HG := Lib.hid hg
 rw [<- hh, <- hg] at HP
 rw [<- hg] at HTX HGL
 clear hq hc hl hx hln hw2 hb2 hz2 hs2 hR hh hg
 unfold trV at HP ⊢
 go_enter Tryz.func49, Tryz.ntmps49
 go_wp2_with fail
 rw [<- HW2.out]
 refine HP.out.mono ?_
 rintro e wp ⟨⟨q3, c3, rfl, hq3, hc3⟩, hbp⟩
 have HBP := Lib.hid (HS2.out.1.trans (hbp.mono HS2.out.1.size))
 have HZP := Lib.hid (HS2.out.2.1.later hbp)
 have HQP := Lib.hid (And.intro (hq3.mono (F' := fun b => b < wp.heap.size) (fun b _ hl => hl)) hc3)
 have HSP := Lib.hid (show W.heap.size + 2 <= wp.heap.size from by have := hbp.size; have := HS2.out.2.2; omega)
 obtain ⟨gl, hgl⟩ : ∃ gl, gl = g.len := ⟨_, rfl⟩
 have HGN := Lib.hid hgl
 rw [<- hgl]
 clear hq3 hc3 hbp HP HW2 HS2 hgl
 go_wp2_with fail
 refine (forms28 wp).mono ?_
 rintro e w3 ⟨m, rfl, hfm, hb3, hmm⟩
 have HF3 := Lib.hid hfm
 have HB3 := Lib.hid (HBP.out.trans (hb3.mono HBP.out.size))
 have HZ3 := Lib.hid (HZP.out.later hb3)
 have HSZ3 := Lib.hid (show W.heap.size + 2 <= w3.heap.size from by have := hb3.size; have := HSP.out; omega)
 have HQ3 := Lib.hid (show FoIn w3 (fun b => b < w3.heap.size) g q3 /\ g.len <= c3 from ⟨(HQP.out.1.later hb3).mono (fun b hb hl => hl), HQP.out.2⟩)
 clear hfm hb3 hmm HQP HZP HBP HSP
 obtain ⟨D, hd1, hd2, hd3, hd4, hd5⟩ := HF3.out.has
 have HD := Lib.hid (And.intro hd1 (And.intro hd4 hd5))
 clear hd1 hd2 hd3 hd4 hd5
 go_wp2_with (first | (at_range; refine wpList_range_own _ rfl _ 67 rfl 22 66 K22 Tryz.underlying67 heldR m 4 D rfl HD.out.1 ?_; intro w0 hrg0 hg0 hs0) | fail)
 go_frame
 have HB0 := Lib.hid (show Below w3.heap.size w3 w0 from (grown_only hg0).below (fun k e => by cases e) (Nat.le_refl _))
 have HG0 := Lib.hid hrg0
 obtain ⟨r, hr⟩ : ∃ r, r = w3.heap.size := ⟨_, rfl⟩
 have HR3 := Lib.hid hr
 rw [<- hr] at HG0 HSZ3 HB0 ⊢
 clear hrg0 hg0 hs0 hr
 go_loopw [6] (fun y wr => ∃ (left : Lit -> Bool) (cnt : Nat), Hid (wr.ranges Tryz.prog 22 heldR m r 4 D left cnt /\ Below r w3 wr /\ (∀ z, left z = true -> Maps.has D z = true) /\ (∀ z : Int, 1 <= z -> z <= 4 -> left (.int .u8 z) = false -> h ≠ stH z))) (fun _ wr => wr.rangeLeft m r)
 case atStart => exact ⟨_, _, Lib.hid ⟨HG0.out, HB0.out, fun z hz => hz, fun z h1 h7 hz => by
  obtain ⟨v, hv⟩ := stepV_in h1 h7
  rw [HD.out.2.1 (.int .u8 z) ⟨_, key22 z (by omega) (by omega)⟩, stepF_get, hv] at hz
  cases hz⟩⟩
 case round =>
  obtain ⟨left, cnt, HI⟩ := hrel
  go_wp2_with (first | (at_next; refine wpList_next_ranges _ rfl _ rfl 22 K22 heldR (Value.int .u8) id (fun key kl hkey => by obtain ⟨x, rfl, _⟩ := Maps.keyOf_int_inv Tryz.underlying22 hkey; exact ⟨x, rfl⟩) (fun v y _ => ⟨v, rfl⟩) m r 4 D left cnt rfl HI.out.1 ?_ ?_) | fail)
  ·intro hc0 hl0
   have hr0 : R = (⟨0, [], [], 0, 0⟩, false) := by
    rw [HRR.out]
    exact stepP_none (fun z h1 h7 => by rw [<- HH.out]; exact HI.out.2.2.2 z h1 h7 (hl0 _))
   subst hr0
   have HBE := Lib.hid (show Below r w3 wr from HI.out.2.1)
   have hz := HZ3.out.only (Only.of_below (T := fun _ => False) (by rw [<- HR3.out]; exact HBE.out)) (fun h => h)
   obtain ⟨z0, z1, z2, z3, z4, zf⟩ := hz
   clear hc0 hl0 HI
   go_wp2_with fail
   have h7 := only5 wr (W.heap.size + 1) (.int .u8 0) (.slice none 0 0) (.slice none 0 0) (.int .i64 0) (.int .i64 0)
   refine bodyPost_ret (v := .tuple #[.agg #[.int .u8 0, .slice none 0 0, .slice none 0 0, .int .i64 0, .int .i64 0], .bool false]) (by simp [results, Tryz.results49, go_sem, z0, z1, z2, z3, z4]) rfl ⟨⟨none, 0, none, 0, rfl, OwnI.nil _ _ _, OwnK.nil _ _⟩, ?_⟩
   have h8 : Below W.heap.size W wr := HB3.out.trans (HBE.out.mono (by have := HSZ3.out; omega))
   exact h8.trans (h7.below (fun k e => by omega) h8.size)
  ·intro x1 v1 kl yd yp w1 cnt1 hkey hlx hRv hat hrg1 hlt hg1 hs1 hen
   obtain ⟨_, e1, rfl, hwf⟩ := Maps.keyOf_int_inv Tryz.underlying22 hkey
   injection e1 with _ e1
   subst e1
   have hk255 : 0 <= x1 /\ x1 <= 255 := by
    simp [Lit.wf, IntKind.min, IntKind.max, IntKind.signed, IntKind.bits] at hwf
    exact hwf
   have hv1 : stepV x1 = some v1 := by
    have hhas := HI.out.2.2.1 _ hlx
    rw [HD.out.2.1 (.int .u8 x1) ⟨_, key22 x1 hk255.1 hk255.2⟩, stepF_get] at hhas
    cases hl : stepV x1 with
    | none => rw [hl] at hhas; cases hhas
    | some v =>
     have h1 := HD.out.2.2 (.int .u8 x1) v ⟨_, key22 x1 hk255.1 hk255.2⟩ (by rw [stepF_get]; exact hl) .nil
     rw [hat] at h1
     simp only [heldR] at hRv
     injection hRv with hRv
     injection hRv with hRv _
     rw [<- hRv] at h1
     injection h1 with h1
     rw [h1]
   obtain ⟨a, b, lits, links, rfl, hx1, hx7, hby⟩ := stepV_some hv1
   have HX1 := Lib.hid (And.intro hx1 hx7)
   have HBY := Lib.hid (hby l x)
   have HLO := Lib.hid (And.intro hrg1 (And.intro hlt (And.intro hlx hg1)))
   have HI1 := Lib.hid HI.out
   try simp only [id] at hen
   unfold fmV at hen ⊢
   clear hkey hRv hat hrg1 hlt hg1 hlx hwf hk255 hv1 hx1 hx7 hby HI
   have HW1B := Lib.hid (show Below r w3 w1 from HI1.out.2.1.trans ((grown_only HLO.out.2.2.2).below (B := r) (fun k e => by injection e with e; omega) (by rw [HR3.out]; exact HI1.out.2.1.size)))
   have HWS := Lib.hid (show w1.heap.size = wr.heap.size /\ r <= wr.heap.size from ⟨hs1, by rw [HR3.out]; exact HI1.out.2.1.size⟩)
   by_cases heq : h = stH x1
   case neg =>
    have h1 : ((stH x1).toList == h.toList) = false := by
     rw [beq_eq_false_iff_ne]
     exact fun e => heq (toList_byte e).symm
    have HNE := Lib.hid heq
    clear heq
    go_wp2_with fail
    obtain ⟨wn, hwn⟩ : ∃ wn, wn = w1.alloc (.cells #[.string (stH x1), .bool lits, .bool links, .bool a, .bool b, .bool false, .bool false, .bool false, .bool false] 66) := ⟨_, rfl⟩
    have HNEW := Lib.hid (show wn.ranges Tryz.prog 22 heldR m r 4 D (fun z => left z && !z.sameKey (.int .u8 x1)) cnt1 /\ Below r w3 wn /\ (∀ z, (left z && !z.sameKey (.int .u8 x1)) = true -> Maps.has D z = true) /\ (∀ z : Int, 1 <= z -> z <= 4 -> (left (.int .u8 z) && !(Lit.int .u8 z).sameKey (.int .u8 x1)) = false -> h ≠ stH z) from by
     refine ⟨by rw [hwn]; exact World.ranges.alloc HLO.out.1 _, ?_, fun z hz => HI1.out.2.2.1 z ?_, fun z z1 z7 hz => ?_⟩
     ·rw [hwn]
      exact HW1B.out.trans ((below1 w1 _).mono (by rw [HWS.out.1]; exact HWS.out.2))
     ·simp only [Bool.and_eq_true] at hz
      exact hz.1
     ·by_cases hzx : z = x1
      ·subst hzx; exact HNE.out
      ·have hs : (Lit.int .u8 z).sameKey (.int .u8 x1) = false := by
        simp [Lit.sameKey]; exact hzx
       rw [hs] at hz
       exact HI1.out.2.2.2 z z1 z7 (by simpa using hz))
    rw [<- hwn]
    clear hwn
    refine ⟨⟨_, cnt1, HNEW⟩, ?_⟩
    have e1 := HNEW.out.1.left_eq
    have e2 := HI1.out.1.left_eq
    rw [e1, e2]
    exact HLO.out.2.1
   case pos =>
    have h1 : ((stH x1).toList == h.toList) = true := by rw [heq]; simp
    have HEQ := Lib.hid heq
    clear heq
    obtain ⟨wb, hwb⟩ : ∃ wb, wb = ((w1.alloc (.cells #[.string (stH x1), .bool lits, .bool links, .bool a, .bool b, .bool false, .bool false, .bool false, .bool false] 66)).alloc (.cells #[.int .u8 x1, .slice none 0 0, .slice none 0 0, .int .i64 0, .int .i64 0] 26)).alloc (.cells #[.slice q3 gl c3, .bool true] 114) := ⟨_, rfl⟩
    have hbb : Below w1.heap.size w1 wb := by rw [hwb]; exact ((below1 w1 _).alloc (by simp) _).alloc (by simp; omega) _
    have hfm : FormS wb w1.heap.size (stH x1) lits links a b := by
     rw [hwb]
     exact ⟨by simp [go_sem], by simp [go_sem], by simp [go_sem], by simp [go_sem], by simp [go_sem]⟩
    have hbx : BoxS wb (w1.heap.size + 1) x1 (.slice none 0 0) (.slice none 0 0) 0 0 := by
     have hh := (boxS_new (w1.alloc (.cells #[.string (stH x1), .bool lits, .bool links, .bool a, .bool b, .bool false, .bool false, .bool false, .bool false] 66)) x1 0 0 (.slice none 0 0) (.slice none 0 0)).later (below1 _ (.cells #[.slice q3 gl c3, .bool true] 114))
     rw [hwb]; simpa using hh
    have hrd : RdB wb (w1.heap.size + 1 + 1) q3 gl c3 true := by
     rw [hwb]
     exact ⟨by simp [go_sem], by simp [go_sem], fun o => by simp [go_sem]⟩
    have h3b : Below r w3 wb := HW1B.out.trans (hbb.mono (by rw [HWS.out.1]; exact HWS.out.2))
    have HS := Lib.hid (show S49 w3 r w1.heap.size (stH x1) lits links a b wb x1 (.slice none 0 0) (.slice none 0 0) 0 0 g true q3 c3 from
     ⟨hfm, hbx, by rw [<- HGN.out]; exact hrd, by
      have hh := (HQ3.out.1.mono (F' := fun b => b < r) (fun b hb _ => by rw [HR3.out]; exact hb)).later (W' := wb) (by rw [<- HR3.out]; exact h3b)
      exact hh, HQ3.out.2, HGL.out, HTX.out.1, HTX.out.2, h3b, by rw [HWS.out.1]; exact HWS.out.2⟩)
    have HWB := Lib.hid hwb
    rw [HGN.out]
    rw [HGN.out] at HWB
    clear hwb hbb hfm hbx hrd h3b hs1 HLO
    obtain ⟨y0, y1, y2, y3, y4⟩ := HS.out.form
    rw [HWB.out] at y0 y1 y2 y3 y4
    go_wp2_with fail
    rw [<- HWB.out]
    clear y0 y1 y2 y3 y4 HWB h1
    generalize w1.heap.size = b9 at *
    obtain ⟨n1, f1, o1, e1⟩ : ∃ n f o, nx a (g, true) = (n, (f, o)) := ⟨_, _, _, rfl⟩
    have HC1 := Lib.hid (next76 a (b9 + 1 + 1) g q3 c3 true (fun b => b < r) (b9 + 1) 3 wb HS.out.fo HS.out.le (Nat.le_trans HS.out.len (by decide)) (fun b hb => by have := HS.out.lt; omega) HS.out.tx HS.out.rd HS.out.box.c3 (HS.out.box.fz 3) (by omega))
    have ht1 := nx_tx a g true HS.out.tx
    have hn1 := nx_ln a g true HS.out.ln
    have hl1 := nx_len a g true
    rw [e1] at HC1 ht1 hl1 hn1
    dsimp only at HC1 ht1 hl1 hn1
    have HE1 := Lib.hid e1
    have HT1 := Lib.hid (And.intro ht1 (And.intro hl1 hn1))
    clear e1 ht1 hl1 hn1
    refine HC1.out.mono ?_
    rintro e wn1 ⟨rfl, qn1, cn1, hrd, hle, hfo, hnx⟩
    have HS1 := Lib.hid (HS.out.step (v1' := .slice none 0 0) (v2' := .slice none 0 0) (m1' := n1) (m2' := 0) (BoxS.nx3 HS.out.box hnx) hrd hle hfo hnx HT1.out.2.1 HT1.out.1 HT1.out.2.2 (by omega))
    clear hrd hle hfo hnx HC1
    obtain ⟨y0, y1, y2, y3, y4⟩ := HS1.out.form
    go_wp2_with fail
    clear y0 y1 y2 y3 y4
    obtain ⟨n2, f2, o2, e2⟩ : ∃ n f o, nx b (f1, o1) = (n, (f, o)) := ⟨_, _, _, rfl⟩
    have HC2 := Lib.hid (next76 b (b9 + 1 + 1) f1 qn1 cn1 o1 (fun b => b < r) (b9 + 1) 4 wn1 HS1.out.fo HS1.out.le (Nat.le_trans HS1.out.len (by decide)) (fun b hb => by have := HS1.out.lt; omega) HS1.out.tx HS1.out.rd HS1.out.box.c4 (HS1.out.box.fz 4) (by omega))
    have ht2 := nx_tx b f1 o1 HS1.out.tx
    have hn2 := nx_ln b f1 o1 HS1.out.ln
    have hl2 := nx_len b f1 o1
    rw [e2] at HC2 ht2 hl2 hn2
    dsimp only at HC2 ht2 hl2 hn2
    have HE2 := Lib.hid e2
    have HT2 := Lib.hid (And.intro ht2 (And.intro hl2 hn2))
    clear e2 ht2 hl2 hn2
    refine HC2.out.mono ?_
    rintro e wn2 ⟨rfl, qn2, cn2, hrd, hle, hfo, hnx⟩
    have HS2 := Lib.hid (HS1.out.step (v1' := .slice none 0 0) (v2' := .slice none 0 0) (m1' := n1) (m2' := n2) (BoxS.nx4 HS1.out.box hnx) hrd hle hfo hnx HT2.out.2.1 HT2.out.1 HT2.out.2.2 (by omega))
    clear hrd hle hfo hnx HC2
    obtain ⟨y0, y1, y2, y3, y4⟩ := HS2.out.form
    have HRV := Lib.hid (show R = stBy x1 lits links a b g from by rw [HRR.out, HG.out]; exact HBY.out (by rw [<- HH.out]; exact HEQ.out))
    cases lits with
    | true =>
     have hrv := HRV.out
     simp only [stBy, HE1.out, HE2.out] at hrv
     simp only [if_true] at hrv
     subst hrv
     clear HRV HBY
     have HC6 := Lib.hid (rest77 (b9 + 1 + 1) f2 qn2 cn2 o2 (fun b => b < r) wn2 HS2.out.fo HS2.out.le HS2.out.len (fun b hb => by have := HS2.out.lt; omega) HS2.out.tx HS2.out.rd)
     go_wp2_with fail
     clear y0 y1 y2 y3 y4
     refine HC6.out.mono ?_
     rintro e wR ⟨⟨pR, cR, rfl, hoR⟩, hrdR, honR⟩
     obtain ⟨RL, hRL⟩ : ∃ RL, RL = (restN f2).1 := ⟨_, rfl⟩
     have HRL := Lib.hid hRL
     obtain ⟨RO, hRO⟩ : ∃ RO, RO = (o2 && (restN f2).2) := ⟨_, rfl⟩
     have HRO := Lib.hid hRO
     rw [<- hRO] at hrdR
     rw [<- hRL] at hoR ⊢
     have hbR := HS2.out.box.only honR (fun e => by omega)
     have hblR : Below r w3 wR := HS2.out.below.trans (honR.below (B := r) (fun k e => by have := HS2.out.lt; omega) (by rw [HR3.out]; exact HS2.out.below.size))
     have HOR := Lib.hid hoR
     have HBR := Lib.hid (And.intro hbR (And.intro hrdR hblR))
     obtain ⟨z0, z1, z2, z3, z4, zf⟩ := hbR
     have HNR := Lib.hid (show r <= wn2.heap.size from by rw [HR3.out]; exact HS2.out.below.size)
     clear hoR hrdR honR hblR hRL hRO HC6
     go_wp2_with fail
     obtain ⟨wS, hwS⟩ : ∃ w, w = wR.setCell ⟨b9 + 1, 1, none⟩ (.slice pR RL.length cR) := ⟨_, rfl⟩
     have hoS : Only (fun k => k = b9 + 1) wR wS := by rw [hwS]; exact Only.of_setCell wR ⟨b9 + 1, 1, none⟩ _
     have HSS := Lib.hid (show BoxS wS (b9 + 1) x1 (.slice pR RL.length cR) (.slice none 0 0) n1 n2 /\ RdB wS (b9 + 1 + 1) none 0 0 RO /\ Below r w3 wS from ⟨by rw [hwS]; exact HBR.out.1.set1 _, HBR.out.2.1.only hoS (fun e => by omega), HBR.out.2.2.trans (hoS.below (B := r) (fun k e => by have := HS2.out.lt; omega) (by rw [HR3.out]; exact HBR.out.2.2.size))⟩)
     have HOS := Lib.hid (show OwnI 44 wS (fun b => wn2.heap.size <= b) (.slice pR RL.length cR) RL from HOR.out.only hoS (fun b hb e => by have := HS2.out.rd.lt; omega))
     rw [<- hwS]
     clear hwS hoS z0 z1 z2 z3 z4 zf
     cases RO with
     | true =>
      have HD := Lib.hid (show BoxS wS.drew (b9 + 1) x1 (.slice pR RL.length cR) (.slice none 0 0) n1 n2 /\ RdB wS.drew (b9 + 1 + 1) none 0 0 true /\ Below r w3 wS.drew from ⟨HSS.out.1.later (below_drew _), HSS.out.2.1.later (below_drew _), HSS.out.2.2.trans ((below_drew _).mono (by rw [HR3.out]; exact HSS.out.2.2.size))⟩)
      have HOD := Lib.hid (show OwnI 44 wS.drew (fun b => wn2.heap.size <= b) (.slice pR RL.length cR) RL from HOS.out.later (below_drew _))
      refine wp_region_L [(1000, (fun _ => True : World -> Prop)), (1000, (fun w => BoxS w (b9 + 1) x1 (.slice pR RL.length cR) (.slice none 0 0) n1 n2 /\ RdB w (b9 + 1 + 1) none 0 0 true : World -> Prop))] (by kernel_rfl) (SL.cons (fun _ => trivial) (SL.cons (fun _ => ⟨HD.out.1, HD.out.2.1⟩) SL.nil)) (fun hH => ?_)
      generalize wS.drew = wd at *
      refine tk 1 0 ⟨some 48, .load 26 (.tmp 8), 26, "read.go:56", #[], none⟩ ?_ rfl rfl ?_ hH fun hH => ?_
      rotate_left
      ·intro w hSw; (try dsimp only at hSw); obtain ⟨⟨z0, z1, z2, z3, z4, zf⟩, x0, x1', xf⟩ := hSw; go_simp; try with_reducible rfl
      try simp only [Act.put, sI, s0, s1]
      refine tk 0 1 ⟨some 49, .fieldAddr 114 (.tmp 9) 1, 0, "read.go:56", #[], none⟩ ?_ rfl rfl ?_ hH fun hH => ?_
      rotate_left
      ·intro w hSw; (try dsimp only at hSw); go_simp; try with_reducible rfl
      try simp only [Act.put, sI, s0, s1]
      refine tk 1 2 ⟨some 50, .load 4 (.tmp 49), 4, "read.go:56", #[⟨1, .data⟩], none⟩ ?_ rfl rfl ?_ hH fun hH => ?_
      rotate_left
      ·intro w hSw; (try dsimp only at hSw); obtain ⟨⟨z0, z1, z2, z3, z4, zf⟩, x0, x1', xf⟩ := hSw; go_simp; try with_reducible rfl
      try simp only [Act.put, sI, s0, s1]
      refine tk 0 3 ⟨some 51, .move (.tmp 50), 4, "read.go:56", #[⟨2, .data⟩], none⟩ ?_ rfl rfl ?_ hH fun hH => ?_
      rotate_left
      ·intro w hSw; (try dsimp only at hSw); go_simp; try with_reducible rfl
      try simp only [Act.put, sI, s0, s1]
      refine tk 0 4 ⟨some 52, .fieldAddr 114 (.tmp 9) 0, 0, "read.go:56", #[⟨3, .guard⟩], some (3, true)⟩ ?_ rfl rfl ?_ hH fun hH => ?_
      rotate_left
      ·intro w hSw; (try dsimp only at hSw); go_simp; try with_reducible rfl
      try simp only [Act.put, sI, s0, s1]
      refine tk 1 5 ⟨some 53, .load 33 (.tmp 52), 33, "read.go:56", #[⟨4, .data⟩, ⟨3, .guard⟩], some (3, true)⟩ ?_ rfl rfl ?_ hH fun hH => ?_
      rotate_left
      ·intro w hSw; (try dsimp only at hSw); obtain ⟨⟨z0, z1, z2, z3, z4, zf⟩, x0, x1', xf⟩ := hSw; go_simp; try with_reducible rfl
      try simp only [Act.put, sI, s0, s1]
      refine tk 0 6 ⟨some 54, .call ⟨.builtin .len, #[.tmp 53], #[33]⟩, 3, "read.go:56", #[⟨5, .data⟩, ⟨3, .guard⟩], some (3, true)⟩ ?_ rfl rfl ?_ hH fun hH => ?_
      rotate_left
      ·intro w hSw; (try dsimp only at hSw); go_simp; try with_reducible rfl
      try simp only [Act.put, sI, s0, s1]
      refine tk 0 7 ⟨some 55, .binOp .eql 3 (.tmp 54) (.const (.int .i64 0)) 3, 4, "read.go:56", #[⟨6, .data⟩, ⟨3, .guard⟩, { on := 9, ground := Ground.gcOnly Departure.lateStores }], some (3, true)⟩ ?_ rfl rfl ?_ hH fun hH => ?_
      rotate_left
      ·intro w hSw; (try dsimp only at hSw); go_simp; try with_reducible rfl
      try simp only [Act.put, sI, s0, s1]
      refine tk 0 8 ⟨some 56, .pick (.tmp 51) (.tmp 55) (.const (.bool false)), 4, "read.go:56", #[⟨3, .data⟩, ⟨7, .data⟩, { on := 9, ground := Ground.gcOnly Departure.lateStores }], none⟩ ?_ rfl rfl ?_ hH fun hH => ?_
      rotate_left
      ·intro w hSw; (try dsimp only at hSw); go_simp; try with_reducible rfl
      try simp only [Act.put, sI, s0, s1]
      have hzz : BoxS wd (W.heap.size + 1) 0 (.slice none 0 0) (.slice none 0 0) 0 0 := HZ3.out.only (Only.of_below (T := fun _ => False) (by rw [<- HR3.out]; exact HD.out.2.2)) (fun h => h)
      obtain ⟨u0, u1, u2, u3, u4, uf⟩ := hzz
      have h7' := only5 wd (W.heap.size + 1) (.int .u8 x1) (.slice pR RL.length cR) (.slice none 0 0) (.int .i64 n1) (.int .i64 n2)
      have hSTA := And.intro (HD.out.1.only h7' (fun e => by have := HSZ3.out; have := HS2.out.lt; omega)) (HD.out.2.1.only h7' (fun e => by have := HSZ3.out; have := HS2.out.lt; omega))
      refine wpAnyL_ready (rs := [9]) (by kernel_rfl) (by simp) ?_
      refine AllReadyL.cons (o := ⟨none, .store 26 (.tmp 2) (.tmp 48), 0, "read.go:56", #[⟨0, .data⟩, ⟨3, .chain⟩, ⟨0, .phase⟩, { on := 1, ground := Ground.textOnly Departure.lateStores }, { on := 2, ground := Ground.textOnly Departure.lateStores }, { on := 3, ground := Ground.textOnly Departure.lateStores }, { on := 4, ground := Ground.textOnly Departure.lateStores }, { on := 5, ground := Ground.textOnly Departure.lateStores }, { on := 6, ground := Ground.textOnly Departure.lateStoresUnsure }, { on := 7, ground := Ground.textOnly Departure.lateStores }, { on := 8, ground := Ground.textOnly Departure.lateStores }], none⟩) rfl (fun K hK => ?_) AllReadyL.nil
      go_simp
      refine hK.out _ _ (SL.cons (fun _ => trivial) (SL.cons (fun _ => hSTA) SL.nil)) (fun hH => ?_)
      clear hK K
      try simp only [Act.put, sI, s0, s1]
      refine wpAnyL_ready (rs := [10]) (by kernel_rfl) (by simp) ?_
      refine AllReadyL.cons (o := ⟨some 3, .assign (.tmp 56), 4, "read.go:56", #[⟨8, .data⟩, ⟨9, .chain⟩, ⟨0, .phase⟩, ⟨1, .phase⟩, ⟨2, .phase⟩, ⟨3, .phase⟩, ⟨4, .phase⟩, ⟨5, .phase⟩, ⟨6, .phase⟩, ⟨7, .phase⟩, ⟨8, .phase⟩, ⟨9, .phase⟩], none⟩) rfl (fun K hK => ?_) AllReadyL.nil
      go_simp
      refine hK.out _ _ (SL.cons (fun _ => trivial) (SL.cons (fun _ => hSTA) SL.nil)) (fun hH => ?_)
      clear hK K
      try simp only [Act.put, sI, s0, s1]
      refine wpAnyL_done (by kernel_rfl) ?_ _
      go_wp2_with fail
      have h7 := only5 wd (W.heap.size + 1) (.int .u8 x1) (.slice pR RL.length cR) (.slice none 0 0) (.int .i64 n1) (.int .i64 n2)
      have hN := HSZ3.out
      refine bodyPost_ret (v := .tuple #[.agg #[.int .u8 x1, (.slice pR RL.length cR), (.slice none 0 0), .int .i64 n1, .int .i64 n2], .bool true]) (by simp [results, Tryz.results49, go_sem, u0, u1, u2, u3, u4]) rfl ⟨⟨pR, cR, none, 0, ?_, ?_, ?_⟩, ?_⟩
      ·rw [HRL.out] at *; simp [stV, <- HRO.out]
      ·rw [<- HRL.out]; exact (HOD.out.only h7 (fun b hb e => by have := HNR.out; omega)).mono (fun b hb _ => by have := HNR.out; omega)
      ·exact OwnK.nil _ _
      ·have h8 : Below W.heap.size W wd := HB3.out.trans (HD.out.2.2.mono (by omega))
       exact h8.trans (h7.below (fun k e => by omega) h8.size)
     | false =>
      have HD := Lib.hid (show BoxS wS.drew (b9 + 1) x1 (.slice pR RL.length cR) (.slice none 0 0) n1 n2 /\ RdB wS.drew (b9 + 1 + 1) none 0 0 false /\ Below r w3 wS.drew from ⟨HSS.out.1.later (below_drew _), HSS.out.2.1.later (below_drew _), HSS.out.2.2.trans ((below_drew _).mono (by rw [HR3.out]; exact HSS.out.2.2.size))⟩)
      have HOD := Lib.hid (show OwnI 44 wS.drew (fun b => wn2.heap.size <= b) (.slice pR RL.length cR) RL from HOS.out.later (below_drew _))
      refine wp_region_L [(1000, (fun _ => True : World -> Prop)), (1000, (fun w => BoxS w (b9 + 1) x1 (.slice pR RL.length cR) (.slice none 0 0) n1 n2 /\ RdB w (b9 + 1 + 1) none 0 0 false : World -> Prop))] (by kernel_rfl) (SL.cons (fun _ => trivial) (SL.cons (fun _ => ⟨HD.out.1, HD.out.2.1⟩) SL.nil)) (fun hH => ?_)
      generalize wS.drew = wd at *
      refine tk 1 0 ⟨some 48, .load 26 (.tmp 8), 26, "read.go:56", #[], none⟩ ?_ rfl rfl ?_ hH fun hH => ?_
      rotate_left
      ·intro w hSw; (try dsimp only at hSw); obtain ⟨⟨z0, z1, z2, z3, z4, zf⟩, x0, x1', xf⟩ := hSw; go_simp; try with_reducible rfl
      try simp only [Act.put, sI, s0, s1]
      refine tk 0 1 ⟨some 49, .fieldAddr 114 (.tmp 9) 1, 0, "read.go:56", #[], none⟩ ?_ rfl rfl ?_ hH fun hH => ?_
      rotate_left
      ·intro w hSw; (try dsimp only at hSw); go_simp; try with_reducible rfl
      try simp only [Act.put, sI, s0, s1]
      refine tk 1 2 ⟨some 50, .load 4 (.tmp 49), 4, "read.go:56", #[⟨1, .data⟩], none⟩ ?_ rfl rfl ?_ hH fun hH => ?_
      rotate_left
      ·intro w hSw; (try dsimp only at hSw); obtain ⟨⟨z0, z1, z2, z3, z4, zf⟩, x0, x1', xf⟩ := hSw; go_simp; try with_reducible rfl
      try simp only [Act.put, sI, s0, s1]
      refine tk 0 3 ⟨some 51, .move (.tmp 50), 4, "read.go:56", #[⟨2, .data⟩], none⟩ ?_ rfl rfl ?_ hH fun hH => ?_
      rotate_left
      ·intro w hSw; (try dsimp only at hSw); go_simp; try with_reducible rfl
      try simp only [Act.put, sI, s0, s1]
      refine tu 0 4 ⟨some 52, .fieldAddr 114 (.tmp 9) 0, 0, "read.go:56", #[⟨3, .guard⟩], some (3, true)⟩ rfl rfl hH fun hH => ?_
      try simp only [Act.put, sI, s0, s1]
      refine tu 0 5 ⟨some 53, .load 33 (.tmp 52), 33, "read.go:56", #[⟨4, .data⟩, ⟨3, .guard⟩], some (3, true)⟩ rfl rfl hH fun hH => ?_
      try simp only [Act.put, sI, s0, s1]
      refine tu 0 6 ⟨some 54, .call ⟨.builtin .len, #[.tmp 53], #[33]⟩, 3, "read.go:56", #[⟨5, .data⟩, ⟨3, .guard⟩], some (3, true)⟩ rfl rfl hH fun hH => ?_
      try simp only [Act.put, sI, s0, s1]
      refine tu 0 7 ⟨some 55, .binOp .eql 3 (.tmp 54) (.const (.int .i64 0)) 3, 4, "read.go:56", #[⟨6, .data⟩, ⟨3, .guard⟩, { on := 9, ground := Ground.gcOnly Departure.lateStores }], some (3, true)⟩ rfl rfl hH fun hH => ?_
      try simp only [Act.put, sI, s0, s1]
      refine tk 0 8 ⟨some 56, .pick (.tmp 51) (.tmp 55) (.const (.bool false)), 4, "read.go:56", #[⟨3, .data⟩, ⟨7, .data⟩, { on := 9, ground := Ground.gcOnly Departure.lateStores }], none⟩ ?_ rfl rfl ?_ hH fun hH => ?_
      rotate_left
      ·intro w hSw; (try dsimp only at hSw); go_simp; try with_reducible rfl
      try simp only [Act.put, sI, s0, s1]
      have hzz : BoxS wd (W.heap.size + 1) 0 (.slice none 0 0) (.slice none 0 0) 0 0 := HZ3.out.only (Only.of_below (T := fun _ => False) (by rw [<- HR3.out]; exact HD.out.2.2)) (fun h => h)
      obtain ⟨u0, u1, u2, u3, u4, uf⟩ := hzz
      have h7' := only5 wd (W.heap.size + 1) (.int .u8 x1) (.slice pR RL.length cR) (.slice none 0 0) (.int .i64 n1) (.int .i64 n2)
      have hSTA := And.intro (HD.out.1.only h7' (fun e => by have := HSZ3.out; have := HS2.out.lt; omega)) (HD.out.2.1.only h7' (fun e => by have := HSZ3.out; have := HS2.out.lt; omega))
      refine wpAnyL_ready (rs := [9]) (by kernel_rfl) (by simp) ?_
      refine AllReadyL.cons (o := ⟨none, .store 26 (.tmp 2) (.tmp 48), 0, "read.go:56", #[⟨0, .data⟩, ⟨3, .chain⟩, ⟨0, .phase⟩, { on := 1, ground := Ground.textOnly Departure.lateStores }, { on := 2, ground := Ground.textOnly Departure.lateStores }, { on := 3, ground := Ground.textOnly Departure.lateStores }, { on := 4, ground := Ground.textOnly Departure.lateStores }, { on := 5, ground := Ground.textOnly Departure.lateStores }, { on := 6, ground := Ground.textOnly Departure.lateStoresUnsure }, { on := 7, ground := Ground.textOnly Departure.lateStores }, { on := 8, ground := Ground.textOnly Departure.lateStores }], none⟩) rfl (fun K hK => ?_) AllReadyL.nil
      go_simp
      refine hK.out _ _ (SL.cons (fun _ => trivial) (SL.cons (fun _ => hSTA) SL.nil)) (fun hH => ?_)
      clear hK K
      try simp only [Act.put, sI, s0, s1]
      refine wpAnyL_ready (rs := [10]) (by kernel_rfl) (by simp) ?_
      refine AllReadyL.cons (o := ⟨some 3, .assign (.tmp 56), 4, "read.go:56", #[⟨8, .data⟩, ⟨9, .chain⟩, ⟨0, .phase⟩, ⟨1, .phase⟩, ⟨2, .phase⟩, ⟨3, .phase⟩, ⟨4, .phase⟩, ⟨5, .phase⟩, ⟨6, .phase⟩, ⟨7, .phase⟩, ⟨8, .phase⟩, ⟨9, .phase⟩], none⟩) rfl (fun K hK => ?_) AllReadyL.nil
      go_simp
      refine hK.out _ _ (SL.cons (fun _ => trivial) (SL.cons (fun _ => hSTA) SL.nil)) (fun hH => ?_)
      clear hK K
      try simp only [Act.put, sI, s0, s1]
      refine wpAnyL_done (by kernel_rfl) ?_ _
      go_wp2_with fail
      have h7 := only5 wd (W.heap.size + 1) (.int .u8 x1) (.slice pR RL.length cR) (.slice none 0 0) (.int .i64 n1) (.int .i64 n2)
      have hN := HSZ3.out
      refine bodyPost_ret (v := .tuple #[.agg #[.int .u8 x1, (.slice pR RL.length cR), (.slice none 0 0), .int .i64 n1, .int .i64 n2], .bool false]) (by simp [results, Tryz.results49, go_sem, u0, u1, u2, u3, u4]) rfl ⟨⟨pR, cR, none, 0, ?_, ?_, ?_⟩, ?_⟩
      ·rw [HRL.out] at *; simp [stV, <- HRO.out]
      ·rw [<- HRL.out]; exact (HOD.out.only h7 (fun b hb e => by have := HNR.out; omega)).mono (fun b hb _ => by have := HNR.out; omega)
      ·exact OwnK.nil _ _
      ·have h8 : Below W.heap.size W wd := HB3.out.trans (HD.out.2.2.mono (by omega))
       exact h8.trans (h7.below (fun k e => by omega) h8.size)
    | false =>
    cases links with
    | true =>
     have hrv := HRV.out
     simp only [stBy, HE1.out, HE2.out] at hrv
     simp only [if_true, Bool.false_eq_true, if_false] at hrv
     subst hrv
     clear HRV HBY
     have HC6 := Lib.hid (links78 (b9 + 1 + 1) f2 qn2 cn2 o2 (fun b => b < r) wn2 HS2.out.fo HS2.out.le HS2.out.len (fun b hb => by have := HS2.out.lt; omega) HS2.out.tx HS2.out.ln HS2.out.rd)
     go_wp2_with fail
     clear y0 y1 y2 y3 y4
     refine HC6.out.mono ?_
     rintro e wR ⟨⟨pR, cR, rfl, hoR⟩, hrdR, honR⟩
     obtain ⟨RL, hRL⟩ : ∃ RL, RL = (linksP f2).1 := ⟨_, rfl⟩
     have HRL := Lib.hid hRL
     obtain ⟨RO, hRO⟩ : ∃ RO, RO = (o2 && (linksP f2).2) := ⟨_, rfl⟩
     have HRO := Lib.hid hRO
     rw [<- hRO] at hrdR
     rw [<- hRL] at hoR ⊢
     have hbR := HS2.out.box.only honR (fun e => by omega)
     have hblR : Below r w3 wR := HS2.out.below.trans (honR.below (B := r) (fun k e => by have := HS2.out.lt; omega) (by rw [HR3.out]; exact HS2.out.below.size))
     have HOR := Lib.hid hoR
     have HBR := Lib.hid (And.intro hbR (And.intro hrdR hblR))
     obtain ⟨z0, z1, z2, z3, z4, zf⟩ := hbR
     have HNR := Lib.hid (show r <= wn2.heap.size from by rw [HR3.out]; exact HS2.out.below.size)
     clear hoR hrdR honR hblR hRL hRO HC6
     go_wp2_with fail
     obtain ⟨wS, hwS⟩ : ∃ w, w = wR.setCell ⟨b9 + 1, 2, none⟩ (.slice pR RL.length cR) := ⟨_, rfl⟩
     have hoS : Only (fun k => k = b9 + 1) wR wS := by rw [hwS]; exact Only.of_setCell wR ⟨b9 + 1, 2, none⟩ _
     have HSS := Lib.hid (show BoxS wS (b9 + 1) x1 (.slice none 0 0) (.slice pR RL.length cR) n1 n2 /\ RdB wS (b9 + 1 + 1) none 0 0 RO /\ Below r w3 wS from ⟨by rw [hwS]; exact HBR.out.1.set2 _, HBR.out.2.1.only hoS (fun e => by omega), HBR.out.2.2.trans (hoS.below (B := r) (fun k e => by have := HS2.out.lt; omega) (by rw [HR3.out]; exact HBR.out.2.2.size))⟩)
     have HOS := Lib.hid (show OwnK wS (fun b => wn2.heap.size <= b) (.slice pR RL.length cR) RL from HOR.out.only hoS (fun b hb e => by have := HS2.out.rd.lt; omega))
     rw [<- hwS]
     clear hwS hoS z0 z1 z2 z3 z4 zf
     cases RO with
     | true =>
      have HD := Lib.hid (show BoxS wS.drew (b9 + 1) x1 (.slice none 0 0) (.slice pR RL.length cR) n1 n2 /\ RdB wS.drew (b9 + 1 + 1) none 0 0 true /\ Below r w3 wS.drew from ⟨HSS.out.1.later (below_drew _), HSS.out.2.1.later (below_drew _), HSS.out.2.2.trans ((below_drew _).mono (by rw [HR3.out]; exact HSS.out.2.2.size))⟩)
      have HOD := Lib.hid (show OwnK wS.drew (fun b => wn2.heap.size <= b) (.slice pR RL.length cR) RL from HOS.out.later (below_drew _))
      refine wp_region_L [(1000, (fun _ => True : World -> Prop)), (1000, (fun w => BoxS w (b9 + 1) x1 (.slice none 0 0) (.slice pR RL.length cR) n1 n2 /\ RdB w (b9 + 1 + 1) none 0 0 true : World -> Prop))] (by kernel_rfl) (SL.cons (fun _ => trivial) (SL.cons (fun _ => ⟨HD.out.1, HD.out.2.1⟩) SL.nil)) (fun hH => ?_)
      generalize wS.drew = wd at *
      refine tk 1 0 ⟨some 48, .load 26 (.tmp 8), 26, "read.go:56", #[], none⟩ ?_ rfl rfl ?_ hH fun hH => ?_
      rotate_left
      ·intro w hSw; (try dsimp only at hSw); obtain ⟨⟨z0, z1, z2, z3, z4, zf⟩, x0, x1', xf⟩ := hSw; go_simp; try with_reducible rfl
      try simp only [Act.put, sI, s0, s1]
      refine tk 0 1 ⟨some 49, .fieldAddr 114 (.tmp 9) 1, 0, "read.go:56", #[], none⟩ ?_ rfl rfl ?_ hH fun hH => ?_
      rotate_left
      ·intro w hSw; (try dsimp only at hSw); go_simp; try with_reducible rfl
      try simp only [Act.put, sI, s0, s1]
      refine tk 1 2 ⟨some 50, .load 4 (.tmp 49), 4, "read.go:56", #[⟨1, .data⟩], none⟩ ?_ rfl rfl ?_ hH fun hH => ?_
      rotate_left
      ·intro w hSw; (try dsimp only at hSw); obtain ⟨⟨z0, z1, z2, z3, z4, zf⟩, x0, x1', xf⟩ := hSw; go_simp; try with_reducible rfl
      try simp only [Act.put, sI, s0, s1]
      refine tk 0 3 ⟨some 51, .move (.tmp 50), 4, "read.go:56", #[⟨2, .data⟩], none⟩ ?_ rfl rfl ?_ hH fun hH => ?_
      rotate_left
      ·intro w hSw; (try dsimp only at hSw); go_simp; try with_reducible rfl
      try simp only [Act.put, sI, s0, s1]
      refine tk 0 4 ⟨some 52, .fieldAddr 114 (.tmp 9) 0, 0, "read.go:56", #[⟨3, .guard⟩], some (3, true)⟩ ?_ rfl rfl ?_ hH fun hH => ?_
      rotate_left
      ·intro w hSw; (try dsimp only at hSw); go_simp; try with_reducible rfl
      try simp only [Act.put, sI, s0, s1]
      refine tk 1 5 ⟨some 53, .load 33 (.tmp 52), 33, "read.go:56", #[⟨4, .data⟩, ⟨3, .guard⟩], some (3, true)⟩ ?_ rfl rfl ?_ hH fun hH => ?_
      rotate_left
      ·intro w hSw; (try dsimp only at hSw); obtain ⟨⟨z0, z1, z2, z3, z4, zf⟩, x0, x1', xf⟩ := hSw; go_simp; try with_reducible rfl
      try simp only [Act.put, sI, s0, s1]
      refine tk 0 6 ⟨some 54, .call ⟨.builtin .len, #[.tmp 53], #[33]⟩, 3, "read.go:56", #[⟨5, .data⟩, ⟨3, .guard⟩], some (3, true)⟩ ?_ rfl rfl ?_ hH fun hH => ?_
      rotate_left
      ·intro w hSw; (try dsimp only at hSw); go_simp; try with_reducible rfl
      try simp only [Act.put, sI, s0, s1]
      refine tk 0 7 ⟨some 55, .binOp .eql 3 (.tmp 54) (.const (.int .i64 0)) 3, 4, "read.go:56", #[⟨6, .data⟩, ⟨3, .guard⟩, { on := 9, ground := Ground.gcOnly Departure.lateStores }], some (3, true)⟩ ?_ rfl rfl ?_ hH fun hH => ?_
      rotate_left
      ·intro w hSw; (try dsimp only at hSw); go_simp; try with_reducible rfl
      try simp only [Act.put, sI, s0, s1]
      refine tk 0 8 ⟨some 56, .pick (.tmp 51) (.tmp 55) (.const (.bool false)), 4, "read.go:56", #[⟨3, .data⟩, ⟨7, .data⟩, { on := 9, ground := Ground.gcOnly Departure.lateStores }], none⟩ ?_ rfl rfl ?_ hH fun hH => ?_
      rotate_left
      ·intro w hSw; (try dsimp only at hSw); go_simp; try with_reducible rfl
      try simp only [Act.put, sI, s0, s1]
      have hzz : BoxS wd (W.heap.size + 1) 0 (.slice none 0 0) (.slice none 0 0) 0 0 := HZ3.out.only (Only.of_below (T := fun _ => False) (by rw [<- HR3.out]; exact HD.out.2.2)) (fun h => h)
      obtain ⟨u0, u1, u2, u3, u4, uf⟩ := hzz
      have h7' := only5 wd (W.heap.size + 1) (.int .u8 x1) (.slice none 0 0) (.slice pR RL.length cR) (.int .i64 n1) (.int .i64 n2)
      have hSTA := And.intro (HD.out.1.only h7' (fun e => by have := HSZ3.out; have := HS2.out.lt; omega)) (HD.out.2.1.only h7' (fun e => by have := HSZ3.out; have := HS2.out.lt; omega))
      refine wpAnyL_ready (rs := [9]) (by kernel_rfl) (by simp) ?_
      refine AllReadyL.cons (o := ⟨none, .store 26 (.tmp 2) (.tmp 48), 0, "read.go:56", #[⟨0, .data⟩, ⟨3, .chain⟩, ⟨0, .phase⟩, { on := 1, ground := Ground.textOnly Departure.lateStores }, { on := 2, ground := Ground.textOnly Departure.lateStores }, { on := 3, ground := Ground.textOnly Departure.lateStores }, { on := 4, ground := Ground.textOnly Departure.lateStores }, { on := 5, ground := Ground.textOnly Departure.lateStores }, { on := 6, ground := Ground.textOnly Departure.lateStoresUnsure }, { on := 7, ground := Ground.textOnly Departure.lateStores }, { on := 8, ground := Ground.textOnly Departure.lateStores }], none⟩) rfl (fun K hK => ?_) AllReadyL.nil
      go_simp
      refine hK.out _ _ (SL.cons (fun _ => trivial) (SL.cons (fun _ => hSTA) SL.nil)) (fun hH => ?_)
      clear hK K
      try simp only [Act.put, sI, s0, s1]
      refine wpAnyL_ready (rs := [10]) (by kernel_rfl) (by simp) ?_
      refine AllReadyL.cons (o := ⟨some 3, .assign (.tmp 56), 4, "read.go:56", #[⟨8, .data⟩, ⟨9, .chain⟩, ⟨0, .phase⟩, ⟨1, .phase⟩, ⟨2, .phase⟩, ⟨3, .phase⟩, ⟨4, .phase⟩, ⟨5, .phase⟩, ⟨6, .phase⟩, ⟨7, .phase⟩, ⟨8, .phase⟩, ⟨9, .phase⟩], none⟩) rfl (fun K hK => ?_) AllReadyL.nil
      go_simp
      refine hK.out _ _ (SL.cons (fun _ => trivial) (SL.cons (fun _ => hSTA) SL.nil)) (fun hH => ?_)
      clear hK K
      try simp only [Act.put, sI, s0, s1]
      refine wpAnyL_done (by kernel_rfl) ?_ _
      go_wp2_with fail
      have h7 := only5 wd (W.heap.size + 1) (.int .u8 x1) (.slice none 0 0) (.slice pR RL.length cR) (.int .i64 n1) (.int .i64 n2)
      have hN := HSZ3.out
      refine bodyPost_ret (v := .tuple #[.agg #[.int .u8 x1, (.slice none 0 0), (.slice pR RL.length cR), .int .i64 n1, .int .i64 n2], .bool true]) (by simp [results, Tryz.results49, go_sem, u0, u1, u2, u3, u4]) rfl ⟨⟨none, 0, pR, cR, ?_, ?_, ?_⟩, ?_⟩
      ·rw [HRL.out] at *; simp [stV, <- HRO.out]
      ·exact OwnI.nil _ _ _
      ·rw [<- HRL.out]; exact (HOD.out.only h7 (fun b hb e => by have := HNR.out; omega)).mono (fun b hb _ => by have := HNR.out; omega)
      ·have h8 : Below W.heap.size W wd := HB3.out.trans (HD.out.2.2.mono (by omega))
       exact h8.trans (h7.below (fun k e => by omega) h8.size)
     | false =>
      have HD := Lib.hid (show BoxS wS.drew (b9 + 1) x1 (.slice none 0 0) (.slice pR RL.length cR) n1 n2 /\ RdB wS.drew (b9 + 1 + 1) none 0 0 false /\ Below r w3 wS.drew from ⟨HSS.out.1.later (below_drew _), HSS.out.2.1.later (below_drew _), HSS.out.2.2.trans ((below_drew _).mono (by rw [HR3.out]; exact HSS.out.2.2.size))⟩)
      have HOD := Lib.hid (show OwnK wS.drew (fun b => wn2.heap.size <= b) (.slice pR RL.length cR) RL from HOS.out.later (below_drew _))
      refine wp_region_L [(1000, (fun _ => True : World -> Prop)), (1000, (fun w => BoxS w (b9 + 1) x1 (.slice none 0 0) (.slice pR RL.length cR) n1 n2 /\ RdB w (b9 + 1 + 1) none 0 0 false : World -> Prop))] (by kernel_rfl) (SL.cons (fun _ => trivial) (SL.cons (fun _ => ⟨HD.out.1, HD.out.2.1⟩) SL.nil)) (fun hH => ?_)
      generalize wS.drew = wd at *
      refine tk 1 0 ⟨some 48, .load 26 (.tmp 8), 26, "read.go:56", #[], none⟩ ?_ rfl rfl ?_ hH fun hH => ?_
      rotate_left
      ·intro w hSw; (try dsimp only at hSw); obtain ⟨⟨z0, z1, z2, z3, z4, zf⟩, x0, x1', xf⟩ := hSw; go_simp; try with_reducible rfl
      try simp only [Act.put, sI, s0, s1]
      refine tk 0 1 ⟨some 49, .fieldAddr 114 (.tmp 9) 1, 0, "read.go:56", #[], none⟩ ?_ rfl rfl ?_ hH fun hH => ?_
      rotate_left
      ·intro w hSw; (try dsimp only at hSw); go_simp; try with_reducible rfl
      try simp only [Act.put, sI, s0, s1]
      refine tk 1 2 ⟨some 50, .load 4 (.tmp 49), 4, "read.go:56", #[⟨1, .data⟩], none⟩ ?_ rfl rfl ?_ hH fun hH => ?_
      rotate_left
      ·intro w hSw; (try dsimp only at hSw); obtain ⟨⟨z0, z1, z2, z3, z4, zf⟩, x0, x1', xf⟩ := hSw; go_simp; try with_reducible rfl
      try simp only [Act.put, sI, s0, s1]
      refine tk 0 3 ⟨some 51, .move (.tmp 50), 4, "read.go:56", #[⟨2, .data⟩], none⟩ ?_ rfl rfl ?_ hH fun hH => ?_
      rotate_left
      ·intro w hSw; (try dsimp only at hSw); go_simp; try with_reducible rfl
      try simp only [Act.put, sI, s0, s1]
      refine tu 0 4 ⟨some 52, .fieldAddr 114 (.tmp 9) 0, 0, "read.go:56", #[⟨3, .guard⟩], some (3, true)⟩ rfl rfl hH fun hH => ?_
      try simp only [Act.put, sI, s0, s1]
      refine tu 0 5 ⟨some 53, .load 33 (.tmp 52), 33, "read.go:56", #[⟨4, .data⟩, ⟨3, .guard⟩], some (3, true)⟩ rfl rfl hH fun hH => ?_
      try simp only [Act.put, sI, s0, s1]
      refine tu 0 6 ⟨some 54, .call ⟨.builtin .len, #[.tmp 53], #[33]⟩, 3, "read.go:56", #[⟨5, .data⟩, ⟨3, .guard⟩], some (3, true)⟩ rfl rfl hH fun hH => ?_
      try simp only [Act.put, sI, s0, s1]
      refine tu 0 7 ⟨some 55, .binOp .eql 3 (.tmp 54) (.const (.int .i64 0)) 3, 4, "read.go:56", #[⟨6, .data⟩, ⟨3, .guard⟩, { on := 9, ground := Ground.gcOnly Departure.lateStores }], some (3, true)⟩ rfl rfl hH fun hH => ?_
      try simp only [Act.put, sI, s0, s1]
      refine tk 0 8 ⟨some 56, .pick (.tmp 51) (.tmp 55) (.const (.bool false)), 4, "read.go:56", #[⟨3, .data⟩, ⟨7, .data⟩, { on := 9, ground := Ground.gcOnly Departure.lateStores }], none⟩ ?_ rfl rfl ?_ hH fun hH => ?_
      rotate_left
      ·intro w hSw; (try dsimp only at hSw); go_simp; try with_reducible rfl
      try simp only [Act.put, sI, s0, s1]
      have hzz : BoxS wd (W.heap.size + 1) 0 (.slice none 0 0) (.slice none 0 0) 0 0 := HZ3.out.only (Only.of_below (T := fun _ => False) (by rw [<- HR3.out]; exact HD.out.2.2)) (fun h => h)
      obtain ⟨u0, u1, u2, u3, u4, uf⟩ := hzz
      have h7' := only5 wd (W.heap.size + 1) (.int .u8 x1) (.slice none 0 0) (.slice pR RL.length cR) (.int .i64 n1) (.int .i64 n2)
      have hSTA := And.intro (HD.out.1.only h7' (fun e => by have := HSZ3.out; have := HS2.out.lt; omega)) (HD.out.2.1.only h7' (fun e => by have := HSZ3.out; have := HS2.out.lt; omega))
      refine wpAnyL_ready (rs := [9]) (by kernel_rfl) (by simp) ?_
      refine AllReadyL.cons (o := ⟨none, .store 26 (.tmp 2) (.tmp 48), 0, "read.go:56", #[⟨0, .data⟩, ⟨3, .chain⟩, ⟨0, .phase⟩, { on := 1, ground := Ground.textOnly Departure.lateStores }, { on := 2, ground := Ground.textOnly Departure.lateStores }, { on := 3, ground := Ground.textOnly Departure.lateStores }, { on := 4, ground := Ground.textOnly Departure.lateStores }, { on := 5, ground := Ground.textOnly Departure.lateStores }, { on := 6, ground := Ground.textOnly Departure.lateStoresUnsure }, { on := 7, ground := Ground.textOnly Departure.lateStores }, { on := 8, ground := Ground.textOnly Departure.lateStores }], none⟩) rfl (fun K hK => ?_) AllReadyL.nil
      go_simp
      refine hK.out _ _ (SL.cons (fun _ => trivial) (SL.cons (fun _ => hSTA) SL.nil)) (fun hH => ?_)
      clear hK K
      try simp only [Act.put, sI, s0, s1]
      refine wpAnyL_ready (rs := [10]) (by kernel_rfl) (by simp) ?_
      refine AllReadyL.cons (o := ⟨some 3, .assign (.tmp 56), 4, "read.go:56", #[⟨8, .data⟩, ⟨9, .chain⟩, ⟨0, .phase⟩, ⟨1, .phase⟩, ⟨2, .phase⟩, ⟨3, .phase⟩, ⟨4, .phase⟩, ⟨5, .phase⟩, ⟨6, .phase⟩, ⟨7, .phase⟩, ⟨8, .phase⟩, ⟨9, .phase⟩], none⟩) rfl (fun K hK => ?_) AllReadyL.nil
      go_simp
      refine hK.out _ _ (SL.cons (fun _ => trivial) (SL.cons (fun _ => hSTA) SL.nil)) (fun hH => ?_)
      clear hK K
      try simp only [Act.put, sI, s0, s1]
      refine wpAnyL_done (by kernel_rfl) ?_ _
      go_wp2_with fail
      have h7 := only5 wd (W.heap.size + 1) (.int .u8 x1) (.slice none 0 0) (.slice pR RL.length cR) (.int .i64 n1) (.int .i64 n2)
      have hN := HSZ3.out
      refine bodyPost_ret (v := .tuple #[.agg #[.int .u8 x1, (.slice none 0 0), (.slice pR RL.length cR), .int .i64 n1, .int .i64 n2], .bool false]) (by simp [results, Tryz.results49, go_sem, u0, u1, u2, u3, u4]) rfl ⟨⟨none, 0, pR, cR, ?_, ?_, ?_⟩, ?_⟩
      ·rw [HRL.out] at *; simp [stV, <- HRO.out]
      ·exact OwnI.nil _ _ _
      ·rw [<- HRL.out]; exact (HOD.out.only h7 (fun b hb e => by have := HNR.out; omega)).mono (fun b hb _ => by have := HNR.out; omega)
      ·have h8 : Below W.heap.size W wd := HB3.out.trans (HD.out.2.2.mono (by omega))
       exact h8.trans (h7.below (fun k e => by omega) h8.size)
    | false =>
     have hrv := HRV.out
     simp only [stBy, HE1.out, HE2.out] at hrv
     simp only [Bool.false_eq_true, if_false] at hrv
     subst hrv
     clear HRV HBY
     have HSS := Lib.hid (show BoxS wn2 (b9 + 1) x1 (.slice none 0 0) (.slice none 0 0) n1 n2 /\ RdB wn2 (b9 + 1 + 1) qn2 f2.len cn2 o2 /\ Below r w3 wn2 from ⟨HS2.out.box, HS2.out.rd, HS2.out.below⟩)
     obtain ⟨fl, hfl⟩ : ∃ fl, fl = f2.len := ⟨_, rfl⟩
     have HFL := Lib.hid hfl
     rw [<- hfl] at HSS
     have fl1 : (fl : Int) <= 1000000000 := by have := HS2.out.len; omega
     go_wp2_with fail
     clear y0 y1 y2 y3 y4
     clear hfl
     cases o2 with
     | true =>
      have hdec : ((fl : Int) == 0) = decide (fl = 0) := by
       by_cases h0 : fl = 0
       ·subst h0; rfl
       ·have : ((fl : Int) == 0) = false := by simp; omega
        rw [this]; simp [h0]
      have HD := Lib.hid (show BoxS wn2.drew (b9 + 1) x1 (.slice none 0 0) (.slice none 0 0) n1 n2 /\ RdB wn2.drew (b9 + 1 + 1) qn2 fl cn2 true /\ Below r w3 wn2.drew from ⟨HSS.out.1.later (below_drew _), HSS.out.2.1.later (below_drew _), HSS.out.2.2.trans ((below_drew _).mono (by rw [HR3.out]; exact HSS.out.2.2.size))⟩)
      refine wp_region_L [(1000, (fun _ => True : World -> Prop)), (1000, (fun w => BoxS w (b9 + 1) x1 (.slice none 0 0) (.slice none 0 0) n1 n2 /\ RdB w (b9 + 1 + 1) qn2 fl cn2 true : World -> Prop))] (by kernel_rfl) (SL.cons (fun _ => trivial) (SL.cons (fun _ => ⟨HD.out.1, HD.out.2.1⟩) SL.nil)) (fun hH => ?_)
      generalize wn2.drew = wd at *
      refine tk 1 0 ⟨some 48, .load 26 (.tmp 8), 26, "read.go:56", #[], none⟩ ?_ rfl rfl ?_ hH fun hH => ?_
      rotate_left
      ·intro w hSw; (try dsimp only at hSw); obtain ⟨⟨z0, z1, z2, z3, z4, zf⟩, x0, x1', xf⟩ := hSw; go_simp; try with_reducible rfl
      try simp only [Act.put, sI, s0, s1]
      refine tk 0 1 ⟨some 49, .fieldAddr 114 (.tmp 9) 1, 0, "read.go:56", #[], none⟩ ?_ rfl rfl ?_ hH fun hH => ?_
      rotate_left
      ·intro w hSw; (try dsimp only at hSw); go_simp; try with_reducible rfl
      try simp only [Act.put, sI, s0, s1]
      refine tk 1 2 ⟨some 50, .load 4 (.tmp 49), 4, "read.go:56", #[⟨1, .data⟩], none⟩ ?_ rfl rfl ?_ hH fun hH => ?_
      rotate_left
      ·intro w hSw; (try dsimp only at hSw); obtain ⟨⟨z0, z1, z2, z3, z4, zf⟩, x0, x1', xf⟩ := hSw; go_simp; try with_reducible rfl
      try simp only [Act.put, sI, s0, s1]
      refine tk 0 3 ⟨some 51, .move (.tmp 50), 4, "read.go:56", #[⟨2, .data⟩], none⟩ ?_ rfl rfl ?_ hH fun hH => ?_
      rotate_left
      ·intro w hSw; (try dsimp only at hSw); go_simp; try with_reducible rfl
      try simp only [Act.put, sI, s0, s1]
      refine tk 0 4 ⟨some 52, .fieldAddr 114 (.tmp 9) 0, 0, "read.go:56", #[⟨3, .guard⟩], some (3, true)⟩ ?_ rfl rfl ?_ hH fun hH => ?_
      rotate_left
      ·intro w hSw; (try dsimp only at hSw); go_simp; try with_reducible rfl
      try simp only [Act.put, sI, s0, s1]
      refine tk 1 5 ⟨some 53, .load 33 (.tmp 52), 33, "read.go:56", #[⟨4, .data⟩, ⟨3, .guard⟩], some (3, true)⟩ ?_ rfl rfl ?_ hH fun hH => ?_
      rotate_left
      ·intro w hSw; (try dsimp only at hSw); obtain ⟨⟨z0, z1, z2, z3, z4, zf⟩, x0, x1', xf⟩ := hSw; go_simp; try with_reducible rfl
      try simp only [Act.put, sI, s0, s1]
      refine tk 0 6 ⟨some 54, .call ⟨.builtin .len, #[.tmp 53], #[33]⟩, 3, "read.go:56", #[⟨5, .data⟩, ⟨3, .guard⟩], some (3, true)⟩ ?_ rfl rfl ?_ hH fun hH => ?_
      rotate_left
      ·intro w hSw; (try dsimp only at hSw); go_simp; try with_reducible rfl
      try simp only [Act.put, sI, s0, s1]
      refine tk 0 7 ⟨some 55, .binOp .eql 3 (.tmp 54) (.const (.int .i64 0)) 3, 4, "read.go:56", #[⟨6, .data⟩, ⟨3, .guard⟩, { on := 9, ground := Ground.gcOnly Departure.lateStores }], some (3, true)⟩ ?_ rfl rfl ?_ hH fun hH => ?_
      rotate_left
      ·intro w hSw; (try dsimp only at hSw); go_simp; try with_reducible rfl
      try simp only [Act.put, sI, s0, s1]
      refine tk 0 8 ⟨some 56, .pick (.tmp 51) (.tmp 55) (.const (.bool false)), 4, "read.go:56", #[⟨3, .data⟩, ⟨7, .data⟩, { on := 9, ground := Ground.gcOnly Departure.lateStores }], none⟩ ?_ rfl rfl ?_ hH fun hH => ?_
      rotate_left
      ·intro w hSw; (try dsimp only at hSw); go_simp; try with_reducible rfl
      try simp only [Act.put, sI, s0, s1]
      have hzz : BoxS wd (W.heap.size + 1) 0 (.slice none 0 0) (.slice none 0 0) 0 0 := HZ3.out.only (Only.of_below (T := fun _ => False) (by rw [<- HR3.out]; exact HD.out.2.2)) (fun h => h)
      obtain ⟨u0, u1, u2, u3, u4, uf⟩ := hzz
      have h7' := only5 wd (W.heap.size + 1) (.int .u8 x1) (.slice none 0 0) (.slice none 0 0) (.int .i64 n1) (.int .i64 n2)
      have hSTA := And.intro (HD.out.1.only h7' (fun e => by have := HSZ3.out; have := HS2.out.lt; omega)) (HD.out.2.1.only h7' (fun e => by have := HSZ3.out; have := HS2.out.lt; omega))
      refine wpAnyL_ready (rs := [9]) (by kernel_rfl) (by simp) ?_
      refine AllReadyL.cons (o := ⟨none, .store 26 (.tmp 2) (.tmp 48), 0, "read.go:56", #[⟨0, .data⟩, ⟨3, .chain⟩, ⟨0, .phase⟩, { on := 1, ground := Ground.textOnly Departure.lateStores }, { on := 2, ground := Ground.textOnly Departure.lateStores }, { on := 3, ground := Ground.textOnly Departure.lateStores }, { on := 4, ground := Ground.textOnly Departure.lateStores }, { on := 5, ground := Ground.textOnly Departure.lateStores }, { on := 6, ground := Ground.textOnly Departure.lateStoresUnsure }, { on := 7, ground := Ground.textOnly Departure.lateStores }, { on := 8, ground := Ground.textOnly Departure.lateStores }], none⟩) rfl (fun K hK => ?_) AllReadyL.nil
      go_simp
      refine hK.out _ _ (SL.cons (fun _ => trivial) (SL.cons (fun _ => hSTA) SL.nil)) (fun hH => ?_)
      clear hK K
      try simp only [Act.put, sI, s0, s1]
      refine wpAnyL_ready (rs := [10]) (by kernel_rfl) (by simp) ?_
      refine AllReadyL.cons (o := ⟨some 3, .assign (.tmp 56), 4, "read.go:56", #[⟨8, .data⟩, ⟨9, .chain⟩, ⟨0, .phase⟩, ⟨1, .phase⟩, ⟨2, .phase⟩, ⟨3, .phase⟩, ⟨4, .phase⟩, ⟨5, .phase⟩, ⟨6, .phase⟩, ⟨7, .phase⟩, ⟨8, .phase⟩, ⟨9, .phase⟩], none⟩) rfl (fun K hK => ?_) AllReadyL.nil
      go_simp
      refine hK.out _ _ (SL.cons (fun _ => trivial) (SL.cons (fun _ => hSTA) SL.nil)) (fun hH => ?_)
      clear hK K
      try simp only [Act.put, sI, s0, s1]
      refine wpAnyL_done (by kernel_rfl) ?_ _
      go_wp2_with fail
      have h7 := only5 wd (W.heap.size + 1) (.int .u8 x1) (.slice none 0 0) (.slice none 0 0) (.int .i64 n1) (.int .i64 n2)
      have hN := HSZ3.out
      refine bodyPost_ret (v := .tuple #[.agg #[.int .u8 x1, (.slice none 0 0), (.slice none 0 0), .int .i64 n1, .int .i64 n2], .bool (decide (fl = 0))]) (by simp [results, Tryz.results49, go_sem, u0, u1, u2, u3, u4]) rfl ⟨⟨none, 0, none, 0, ?_, ?_, ?_⟩, ?_⟩
      ·simp [stV, HFL.out]
      ·exact OwnI.nil _ _ _
      ·exact OwnK.nil _ _
      ·have h8 : Below W.heap.size W wd := HB3.out.trans (HD.out.2.2.mono (by omega))
       exact h8.trans (h7.below (fun k e => by omega) h8.size)
     | false =>
      have HD := Lib.hid (show BoxS wn2.drew (b9 + 1) x1 (.slice none 0 0) (.slice none 0 0) n1 n2 /\ RdB wn2.drew (b9 + 1 + 1) qn2 fl cn2 false /\ Below r w3 wn2.drew from ⟨HSS.out.1.later (below_drew _), HSS.out.2.1.later (below_drew _), HSS.out.2.2.trans ((below_drew _).mono (by rw [HR3.out]; exact HSS.out.2.2.size))⟩)
      refine wp_region_L [(1000, (fun _ => True : World -> Prop)), (1000, (fun w => BoxS w (b9 + 1) x1 (.slice none 0 0) (.slice none 0 0) n1 n2 /\ RdB w (b9 + 1 + 1) qn2 fl cn2 false : World -> Prop))] (by kernel_rfl) (SL.cons (fun _ => trivial) (SL.cons (fun _ => ⟨HD.out.1, HD.out.2.1⟩) SL.nil)) (fun hH => ?_)
      generalize wn2.drew = wd at *
      refine tk 1 0 ⟨some 48, .load 26 (.tmp 8), 26, "read.go:56", #[], none⟩ ?_ rfl rfl ?_ hH fun hH => ?_
      rotate_left
      ·intro w hSw; (try dsimp only at hSw); obtain ⟨⟨z0, z1, z2, z3, z4, zf⟩, x0, x1', xf⟩ := hSw; go_simp; try with_reducible rfl
      try simp only [Act.put, sI, s0, s1]
      refine tk 0 1 ⟨some 49, .fieldAddr 114 (.tmp 9) 1, 0, "read.go:56", #[], none⟩ ?_ rfl rfl ?_ hH fun hH => ?_
      rotate_left
      ·intro w hSw; (try dsimp only at hSw); go_simp; try with_reducible rfl
      try simp only [Act.put, sI, s0, s1]
      refine tk 1 2 ⟨some 50, .load 4 (.tmp 49), 4, "read.go:56", #[⟨1, .data⟩], none⟩ ?_ rfl rfl ?_ hH fun hH => ?_
      rotate_left
      ·intro w hSw; (try dsimp only at hSw); obtain ⟨⟨z0, z1, z2, z3, z4, zf⟩, x0, x1', xf⟩ := hSw; go_simp; try with_reducible rfl
      try simp only [Act.put, sI, s0, s1]
      refine tk 0 3 ⟨some 51, .move (.tmp 50), 4, "read.go:56", #[⟨2, .data⟩], none⟩ ?_ rfl rfl ?_ hH fun hH => ?_
      rotate_left
      ·intro w hSw; (try dsimp only at hSw); go_simp; try with_reducible rfl
      try simp only [Act.put, sI, s0, s1]
      refine tu 0 4 ⟨some 52, .fieldAddr 114 (.tmp 9) 0, 0, "read.go:56", #[⟨3, .guard⟩], some (3, true)⟩ rfl rfl hH fun hH => ?_
      try simp only [Act.put, sI, s0, s1]
      refine tu 0 5 ⟨some 53, .load 33 (.tmp 52), 33, "read.go:56", #[⟨4, .data⟩, ⟨3, .guard⟩], some (3, true)⟩ rfl rfl hH fun hH => ?_
      try simp only [Act.put, sI, s0, s1]
      refine tu 0 6 ⟨some 54, .call ⟨.builtin .len, #[.tmp 53], #[33]⟩, 3, "read.go:56", #[⟨5, .data⟩, ⟨3, .guard⟩], some (3, true)⟩ rfl rfl hH fun hH => ?_
      try simp only [Act.put, sI, s0, s1]
      refine tu 0 7 ⟨some 55, .binOp .eql 3 (.tmp 54) (.const (.int .i64 0)) 3, 4, "read.go:56", #[⟨6, .data⟩, ⟨3, .guard⟩, { on := 9, ground := Ground.gcOnly Departure.lateStores }], some (3, true)⟩ rfl rfl hH fun hH => ?_
      try simp only [Act.put, sI, s0, s1]
      refine tk 0 8 ⟨some 56, .pick (.tmp 51) (.tmp 55) (.const (.bool false)), 4, "read.go:56", #[⟨3, .data⟩, ⟨7, .data⟩, { on := 9, ground := Ground.gcOnly Departure.lateStores }], none⟩ ?_ rfl rfl ?_ hH fun hH => ?_
      rotate_left
      ·intro w hSw; (try dsimp only at hSw); go_simp; try with_reducible rfl
      try simp only [Act.put, sI, s0, s1]
      have hzz : BoxS wd (W.heap.size + 1) 0 (.slice none 0 0) (.slice none 0 0) 0 0 := HZ3.out.only (Only.of_below (T := fun _ => False) (by rw [<- HR3.out]; exact HD.out.2.2)) (fun h => h)
      obtain ⟨u0, u1, u2, u3, u4, uf⟩ := hzz
      have h7' := only5 wd (W.heap.size + 1) (.int .u8 x1) (.slice none 0 0) (.slice none 0 0) (.int .i64 n1) (.int .i64 n2)
      have hSTA := And.intro (HD.out.1.only h7' (fun e => by have := HSZ3.out; have := HS2.out.lt; omega)) (HD.out.2.1.only h7' (fun e => by have := HSZ3.out; have := HS2.out.lt; omega))
      refine wpAnyL_ready (rs := [9]) (by kernel_rfl) (by simp) ?_
      refine AllReadyL.cons (o := ⟨none, .store 26 (.tmp 2) (.tmp 48), 0, "read.go:56", #[⟨0, .data⟩, ⟨3, .chain⟩, ⟨0, .phase⟩, { on := 1, ground := Ground.textOnly Departure.lateStores }, { on := 2, ground := Ground.textOnly Departure.lateStores }, { on := 3, ground := Ground.textOnly Departure.lateStores }, { on := 4, ground := Ground.textOnly Departure.lateStores }, { on := 5, ground := Ground.textOnly Departure.lateStores }, { on := 6, ground := Ground.textOnly Departure.lateStoresUnsure }, { on := 7, ground := Ground.textOnly Departure.lateStores }, { on := 8, ground := Ground.textOnly Departure.lateStores }], none⟩) rfl (fun K hK => ?_) AllReadyL.nil
      go_simp
      refine hK.out _ _ (SL.cons (fun _ => trivial) (SL.cons (fun _ => hSTA) SL.nil)) (fun hH => ?_)
      clear hK K
      try simp only [Act.put, sI, s0, s1]
      refine wpAnyL_ready (rs := [10]) (by kernel_rfl) (by simp) ?_
      refine AllReadyL.cons (o := ⟨some 3, .assign (.tmp 56), 4, "read.go:56", #[⟨8, .data⟩, ⟨9, .chain⟩, ⟨0, .phase⟩, ⟨1, .phase⟩, ⟨2, .phase⟩, ⟨3, .phase⟩, ⟨4, .phase⟩, ⟨5, .phase⟩, ⟨6, .phase⟩, ⟨7, .phase⟩, ⟨8, .phase⟩, ⟨9, .phase⟩], none⟩) rfl (fun K hK => ?_) AllReadyL.nil
      go_simp
      refine hK.out _ _ (SL.cons (fun _ => trivial) (SL.cons (fun _ => hSTA) SL.nil)) (fun hH => ?_)
      clear hK K
      try simp only [Act.put, sI, s0, s1]
      refine wpAnyL_done (by kernel_rfl) ?_ _
      go_wp2_with fail
      have h7 := only5 wd (W.heap.size + 1) (.int .u8 x1) (.slice none 0 0) (.slice none 0 0) (.int .i64 n1) (.int .i64 n2)
      have hN := HSZ3.out
      refine bodyPost_ret (v := .tuple #[.agg #[.int .u8 x1, (.slice none 0 0), (.slice none 0 0), .int .i64 n1, .int .i64 n2], .bool false]) (by simp [results, Tryz.results49, go_sem, u0, u1, u2, u3, u4]) rfl ⟨⟨none, 0, none, 0, ?_, ?_, ?_⟩, ?_⟩
      ·simp [stV]
      ·exact OwnI.nil _ _ _
      ·exact OwnK.nil _ _
      ·have h8 : Below W.heap.size W wd := HB3.out.trans (HD.out.2.2.mono (by omega))
       exact h8.trans (h7.below (fun k e => by omega) h8.size)
end Go.Proofs.YtookoagcmejkpaaGreatDoor
