/- All that is left is read as links. -/
import Derived.Test.YtookoagcmejkpaaGreatDoorS44
namespace Go.Proofs.YtookoagcmejkpaaGreatDoor
set_option maxRecDepth 100000
open Go Go.RowKit Go.Maps
theorem linksP_len : ∀ f : Fo, (linksP f).1.length = f.len
 | .nil => rfl
 | .cons l k s a x r => by simp only [linksP, Fo.len, List.length_cons, linksP_len r]
theorem linksP_snoc (l : Bool) (k : Int) (s : ByteArray) (a : Int) (x : Fo) : ∀ f : Fo, linksP (f.snoc l k s a x) = ((linksP f).1 ++ [(linkP l x).1], (linksP f).2 && (linkP l x).2)
 | .nil => by simp [linksP, Fo.snoc]
 | .cons l0 k0 s0 a0 x0 r => by simp only [linksP, Fo.snoc, linksP_snoc l k s a x r, List.cons_append, Bool.and_assoc]
def LnOK : Fo -> Prop
 | .nil => True
 | .cons _ _ _ _ x r => x.len <= 1000000000 /\ LnOK x /\ LnOK r
set_option maxHeartbeats 3200000 in
theorem links78 (B : Nat) (f : Fo) (q : Option Addr) (c : Nat) (ok : Bool) (F : Nat -> Prop) (W : World) (hq : FoIn W F f q) (_hc : f.len <= c) (hm : f.len <= 1000000000) (hF : ∀ b, F b -> b ≠ B) (hx : TxOK f) (hln : LnOK f) (h : RdB W B q f.len c ok) :
  Calls Tryz.prog 78 #[.pointer (some ⟨B, 0, none⟩)] W fun e w' => (∃ p' c', e = .returned (.slice p' (linksP f).1.length c') /\ OwnK w' (fun b => W.heap.size <= b) (.slice p' (linksP f).1.length c') (linksP f).1) /\ RdB w' B none 0 0 (ok && (linksP f).2) /\ Only (fun k => k = B) W w' := by
 obtain ⟨n, hn⟩ : ∃ n, n = f.len := ⟨_, rfl⟩
 have HN := Lib.hid hn
 have hB : B < W.heap.size := h.lt
 rw [<- hn] at _hc hm h
 have n1 : (n : Int) <= 1000000000 := by omega
 obtain ⟨F1, hF1⟩ : ∃ F1 : Nat -> Prop, F1 = fun b => F b /\ b < W.heap.size := ⟨_, rfl⟩
 have hq1 : FoIn W F1 f q := by rw [hF1]; exact hq.mono (fun b hb hl => ⟨hb, hl⟩)
 have HF1 := Lib.hid (show ∀ b, F1 b -> F b /\ b < W.heap.size from fun b hb => by rw [hF1] at hb; exact hb)
 have HS0 := Lib.hid (And.intro hq1 (And.intro (show ∀ b, F1 b -> b ≠ B from fun b hb => hF b (HF1.out b hb).1) (And.intro hx (And.intro h (And.intro hB hln)))))
 clear hF1 hq1
 have HM := Lib.hid hm
 clear hq _hc hF hx hn hB hln
 go_enter Tryz.func78, Tryz.ntmps78
 go_wp2_with fail
 refine (forms31 W).mono ?_
 rintro e w1 ⟨m, rfl, hfm, hb1, hmm⟩
 have HB1 := Lib.hid hb1
 have HFM := Lib.hid (show FMap w1 61 m linkF 7 /\ W.heap.size <= m /\ m < w1.heap.size from ⟨hfm, hmm, hfm.lt⟩)
 have HRD1 := Lib.hid (h.later hb1)
 obtain ⟨y0, y1, yf⟩ := HRD1.out
 clear hfm hb1 hmm h
 go_wp2_with fail
 clear y0 y1 yf
 go_loopg [3, 15] n (fun gk s3 s13 wx => ∃ (k : Nat) (p3 : Option Addr) (c3 : Nat), k + gk = n /\ s3 = .slice p3 k c3 /\ s13 = .int .i64 (k : Int) /\ Hid (∃ (pre g : Fo) (b : Bool), f = pre.app g /\ pre.len = k /\ FoIn wx F1 g (pl q k) /\ TxOK g /\ LnOK g /\ OwnK wx (fun b => w1.heap.size <= b) (.slice p3 k c3) (linksP pre).1 /\ RdB wx B q n c b /\ b = (ok && (linksP pre).2) /\ Only (fun k => k = B) w1 wx))
 case atStart => exact ⟨0, none, 0, by omega, rfl, rfl, Lib.hid ⟨.nil, f, ok, rfl, rfl, pl_zero (HS0.out.1.later HB1.out), HS0.out.2.2.1, HS0.out.2.2.2.2.2, OwnK.nil _ _, HRD1.out, by simp [linksP], Only.refl _ _⟩⟩
 case round =>
  obtain ⟨k, p3, c3, hk, rfl, rfl, HR0⟩ := hrel
  obtain ⟨pre, g, b, hfg, hpl, hg, htx, hlo, hown, hrd, hb, ho⟩ := HR0.out
  clear HR0
  have k0 : (0 : Int) <= (k : Int) := Int.natCast_nonneg k
  have hlen : pre.len + g.len = n := by rw [HN.out, hfg, Fo.len_app]
  cases g with
  | nil =>
   have hkn : n = k := by simp [Fo.len] at hlen; omega
   obtain rfl : n = k := hkn
   rw [Fo.app_nil] at hfg
   subst hfg
   have HF := Lib.hid (And.intro hown (And.intro hrd ho))
   have HB := Lib.hid hb
   have hrn : (linksP f).1.length = n := by rw [linksP_len]; exact HN.out.symm
   have HRN := Lib.hid hrn
   obtain ⟨y0, y1, yf⟩ := hrd
   clear hk hpl hg htx hlo hown ho hlen hb hrn
   go_wp2_with fail
   have hBW := HS0.out.2.2.2.2.1
   have hbs := HB1.out.size
   refine bodyPost_ret (v := .slice p3 n c3) (by simp [results, Tryz.results78, go_sem]) rfl ⟨⟨p3, c3, by rw [HRN.out], ?_⟩, ?_, ((Only.of_below HB1.out).trans HF.out.2.2).trans ((Only.of_setCell _ _ _).mono (fun k _ e => e))⟩
   ·rw [HRN.out]
    exact (HF.out.1.only (Only.of_setCell _ _ _) (fun b hb e => by simp only at e; omega)).mono (fun b hb _ => Nat.le_trans hbs hb)
   ·rw [<- HB.out]; exact HF.out.2.1.set0
  | cons l1 k1 s1 a1 x1 r =>
   have hkn : k < n := by simp [Fo.len] at hlen; omega
   have k1' : (k : Int) < (n : Int) := Int.ofNat_lt.2 hkn
   obtain ⟨bq, oq, hqe⟩ : ∃ bq oq, q = some ⟨bq, oq, none⟩ := HS0.out.1.some (by rw [<- HN.out]; omega)
   subst hqe
   obtain ⟨_, c0, c1, c2, c3', ⟨q4, d4, c4, hl4, hm4, hq4⟩, hr⟩ := hg.head
   have HS := Lib.hid (step_ok hkn (show n <= 9223372036854775807 from by have := HM.out; omega))
   have HH := Lib.hid (And.intro hown (And.intro hrd (And.intro ho (And.intro hr (And.intro htx hlo)))))
   have HFG := Lib.hid (And.intro hfg (And.intro hpl (And.intro hb hk)))
   have HKN := Lib.hid hkn
   obtain ⟨w2, hw2⟩ : ∃ w2, w2 = wr.alloc (.cells #[.bool l1, .int .u8 k1, .string s1, .int .i64 a1, .slice q4 x1.len d4] 35) := ⟨_, rfl⟩
   have hb2 : Below wr.heap.size wr w2 := by rw [hw2]; exact below1 _ _
   have hfm2 : FMap w2 61 m linkF 7 := (HFM.out.1.only ho (fun e => by have := HFM.out.2.1; have := HS0.out.2.2.2.2.1; omega)).later hb2
   have HN7 := Lib.hid (link98 m l1 k1 s1 a1 x1 q4 d4 F1 w2 hfm2 (hq4.later hb2) hl4 hlo.1 htx.2.1)
   obtain ⟨v1, v2, hv⟩ : ∃ v1 v2, linkP l1 x1 = (v1, v2) := ⟨_, _, rfl⟩
   rw [hv] at HN7
   dsimp only at HN7
   have HV := Lib.hid hv
   have HW2 := Lib.hid hw2
   have HB2 := Lib.hid hb2
   unfold trV at HN7
   clear hk hfg hpl hg htx hlo hown hrd hb ho hlen hkn hl4 hm4 hq4 hr hb2 hw2 hv hfm2
   go_wp2_with fail
   rw [<- HW2.out]
   refine HN7.out.mono ?_
   rintro e w3 ⟨⟨pv, cv, rfl, hov⟩, hb3⟩
   have HB3 := Lib.hid (HB2.out.trans (hb3.mono HB2.out.size))
   have HRD := Lib.hid (HH.out.2.1.later (HB2.out.trans (hb3.mono HB2.out.size)))
   obtain ⟨y0, y1, yf⟩ := HRD.out
   have HOK := Lib.hid ((HH.out.1.mono (F' := fun b => w1.heap.size <= b /\ b < wr.heap.size) (fun b hb hl => ⟨hb, hl⟩)).later (HB2.out.trans (hb3.mono HB2.out.size)))
   have HOV := Lib.hid hov
   have hw2s : w2.heap.size = wr.heap.size + 1 := by rw [HW2.out]; simp
   have HSZ3 := Lib.hid (show wr.heap.size + 1 <= w3.heap.size /\ w2.heap.size = wr.heap.size + 1 from ⟨by have := hb3.size; omega, hw2s⟩)
   clear hb3 HN7 c0 c1 c2 c3' c4 hov hw2s
   obtain ⟨G, rfl⟩ : ∃ G, gk = G + 1 := ⟨gk - 1, by have := HFG.out.2.2.2; have := HKN.out; omega⟩
   unfold lkV
   cases b with
   | true =>
    obtain ⟨w4, hw4⟩ : ∃ w4, w4 = (w3.alloc (.cells #[.int .u8 v1.k, .int .i64 v1.lit, .int .i64 v1.a, .int .i64 v1.b, .int .i64 v1.i, .int .i64 v1.j, .slice pv v1.l.length cv] 64)).setCell ⟨B, 1, none⟩ (.bool v2) := ⟨_, rfl⟩
    have hbA : Below w3.heap.size w3 (w3.alloc (.cells #[.int .u8 v1.k, .int .i64 v1.lit, .int .i64 v1.a, .int .i64 v1.b, .int .i64 v1.i, .int .i64 v1.j, .slice pv v1.l.length cv] 64)) := below1 _ _
    have hoA : Only (fun k => k = B) (w3.alloc (.cells #[.int .u8 v1.k, .int .i64 v1.lit, .int .i64 v1.a, .int .i64 v1.b, .int .i64 v1.i, .int .i64 v1.j, .slice pv v1.l.length cv] 64)) w4 := by rw [hw4]; exact Only.of_setCell (w3.alloc (.cells #[.int .u8 v1.k, .int .i64 v1.lit, .int .i64 v1.a, .int .i64 v1.b, .int .i64 v1.i, .int .i64 v1.j, .slice pv v1.l.length cv] 64)) ⟨B, 1, none⟩ _
    obtain ⟨ya0, ya1, yaf⟩ := HRD.out.later hbA
    have hzb := (boxL_new w3 v1 (.slice pv v1.l.length cv)).only hoA (fun e => by have := HRD.out.lt; omega)
    rw [hw4] at hzb
    obtain ⟨zb0, zb1, zb2, zb3, zb4, zb5, zb6, zbf⟩ := hzb
    have HRD4 := Lib.hid (show RdB w4 B (some ⟨bq, oq, none⟩) n c v2 from by rw [hw4]; exact (HRD.out.later hbA).set1 _)
    have HO4 := Lib.hid (show Only (fun k => k = B) w3 w4 from (Only.of_below hbA).trans hoA)
    obtain ⟨w5, hw5⟩ : ∃ w5, w5 = w4.alloc (.cells #[.int .u8 v1.k, .int .i64 v1.lit, .int .i64 v1.a, .int .i64 v1.b, .int .i64 v1.i, .int .i64 v1.j, .slice pv v1.l.length cv] 64) := ⟨_, rfl⟩
    have HB5 := Lib.hid (show Below w4.heap.size w4 w5 from by rw [hw5]; exact below1 _ _)
    have hs4 : w4.heap.size = w3.heap.size + 1 := by rw [hw4]; simp
    have HL5 := Lib.hid (show LkAt w5 (w3.heap.size + 1) v1 pv cv from by
     have hh := boxL_new w4 v1 (.slice pv v1.l.length cv)
     rw [hs4] at hh
     rw [hw5]
     exact ⟨hh.c0, hh.c1, hh.c2, hh.c3, hh.c4, hh.c5, hh.c6⟩)
    have hBW := HS0.out.2.2.2.2.1
    have hb1s := HB1.out.size
    have hros := HH.out.2.2.1.size
    have HOK5 := Lib.hid ((HOK.out.only HO4.out (fun b hb e => by omega)).later HB5.out)
    have HSZ5 := Lib.hid (show w5.heap.size = w3.heap.size + 2 from by rw [hw5]; simp; omega)
    have HOV5 := Lib.hid ((HOV.out.only HO4.out (fun b hb e => by have := HSZ3.out.2; omega)).later HB5.out)
    have HW4 := Lib.hid hw4
    have HW5 := Lib.hid hw5
    obtain ⟨qi, ci, hvi, hci, hci2, hso, hib⟩ := HOV5.out.intsB
    injection hvi with hv1 hv2 hv3
    subst hv1 hv3
    have HIB := Lib.hid (And.intro hci (And.intro hci2 (And.intro hso hib)))
    have HFR := Lib.hid (show ∀ b, w2.heap.size <= b -> b < w5.heap.size -> w1.heap.size <= b /\ (Value.slice p3 k c3).ownBlock ≠ some b from fun b hb hl => ⟨by have := HSZ3.out.2; omega, fun e => by have := (HOK5.out.blk b e).1.2; have := HSZ3.out.2; omega⟩)
    have HPL := Lib.hid (show (linksP pre).1.length = k from by rw [linksP_len, HFG.out.2.1])
    clear hw4 hw5 hs4 hbA hoA hci hci2 hso hib hv2 hBW hb1s hros
    go_wp2_with (at_builtin; rw [<- HW4.out, <- HW5.out]; refine wpList_push_link (by rfl) _ _ (by rfl) (fun b => w1.heap.size <= b) (fun b => w2.heap.size <= b) (w3.heap.size + 1) (.slice p3 k c3) (linksP pre).1 v1 pv cv (by rfl) (by rfl) (HOK5.out.mono (fun b hb _ => hb.1)) HL5.out HIB.out.2.2.2 HIB.out.1 HIB.out.2.1 HIB.out.2.2.1 HFR.out ?_ ?_ ?_)
    case refine_1 => have := HSZ5.out; have := HSZ3.out; have := HH.out.2.2.1.size; omega
    case refine_2 => rw [HPL.out]; have := HKN.out; have := HM.out; omega
    intro p6 c6 w6 hown6 ho6
    rw [HPL.out] at hown6 ⊢
    have hoT : ∀ j, (Value.slice p3 k c3).ownBlock = some j -> w1.heap.size <= j := fun j e => (HOK5.out.blk j e).1.1
    have HFIN := Lib.hid (show ∃ (pre' g' : Fo) (b' : Bool), f = pre'.app g' /\ pre'.len = k + 1 /\ FoIn w6 F1 g' (pl (some ⟨bq, oq, none⟩) (k + 1)) /\ TxOK g' /\ LnOK g' /\ OwnK w6 (fun b => w1.heap.size <= b) (.slice p6 (k + 1) c6) (linksP pre').1 /\ RdB w6 B (some ⟨bq, oq, none⟩) n c b' /\ b' = (ok && (linksP pre').2) /\ Only (fun k => k = B) w1 w6 from by
     have hB := HS0.out.2.2.2.2.1
     have hb1s := HB1.out.size
     have hO : Only (fun k => k = B) w1 w6 := (((HH.out.2.2.1.trans (Only.of_below HB3.out)).trans HO4.out).trans (Only.of_below HB5.out)).transNew ho6 hoT
     refine ⟨pre.snoc l1 k1 s1 a1 x1, r, _, by rw [HFG.out.1, Fo.snoc_app], by rw [Fo.len_snoc, HFG.out.2.1], ?_, HH.out.2.2.2.2.1.2.2, HH.out.2.2.2.2.2.2.2, ?_, (HRD4.out.later HB5.out).only ho6 (fun e => by have := hoT _ e; omega), ?_, hO⟩
     ·have hr1 := HH.out.2.2.2.1.later HB3.out
      have hr2 := hr1.only HO4.out (fun b hb e => HS0.out.2.1 b hb e)
      have hr3 := hr2.later HB5.out
      exact hr3.only ho6 (fun b hb e => by have := hoT b e; have := (HF1.out b hb).2; omega)
     ·rw [linksP_snoc, HV.out]; exact hown6
     ·rw [linksP_snoc, HV.out, <- Bool.and_assoc, <- HFG.out.2.2.1]; simp)
    clear hown6 ho6 hoT y0 y1 yf ya0 ya1 yaf zb0 zb1 zb2 zb3 zb4 zb5 zb6 zbf
    go_wp2_with fail
    go_roundg G
    case measure => omega
    case rel => exact ⟨k + 1, p6, c6, by have := HFG.out.2.2.2; omega, rfl, by first | rfl | rw [HS.out.2.2], HFIN⟩
   | false =>
    obtain ⟨w4, hw4⟩ : ∃ w4, w4 = (w3.alloc (.cells #[.int .u8 v1.k, .int .i64 v1.lit, .int .i64 v1.a, .int .i64 v1.b, .int .i64 v1.i, .int .i64 v1.j, .slice pv v1.l.length cv] 64)).setCell ⟨B, 1, none⟩ (.bool false) := ⟨_, rfl⟩
    have hbA : Below w3.heap.size w3 (w3.alloc (.cells #[.int .u8 v1.k, .int .i64 v1.lit, .int .i64 v1.a, .int .i64 v1.b, .int .i64 v1.i, .int .i64 v1.j, .slice pv v1.l.length cv] 64)) := below1 _ _
    have hoA : Only (fun k => k = B) (w3.alloc (.cells #[.int .u8 v1.k, .int .i64 v1.lit, .int .i64 v1.a, .int .i64 v1.b, .int .i64 v1.i, .int .i64 v1.j, .slice pv v1.l.length cv] 64)) w4 := by rw [hw4]; exact Only.of_setCell (w3.alloc (.cells #[.int .u8 v1.k, .int .i64 v1.lit, .int .i64 v1.a, .int .i64 v1.b, .int .i64 v1.i, .int .i64 v1.j, .slice pv v1.l.length cv] 64)) ⟨B, 1, none⟩ _
    obtain ⟨ya0, ya1, yaf⟩ := HRD.out.later hbA
    have hzb := (boxL_new w3 v1 (.slice pv v1.l.length cv)).only hoA (fun e => by have := HRD.out.lt; omega)
    rw [hw4] at hzb
    obtain ⟨zb0, zb1, zb2, zb3, zb4, zb5, zb6, zbf⟩ := hzb
    have HRD4 := Lib.hid (show RdB w4 B (some ⟨bq, oq, none⟩) n c false from by rw [hw4]; exact (HRD.out.later hbA).set1 _)
    have HO4 := Lib.hid (show Only (fun k => k = B) w3 w4 from (Only.of_below hbA).trans hoA)
    obtain ⟨w5, hw5⟩ : ∃ w5, w5 = w4.alloc (.cells #[.int .u8 v1.k, .int .i64 v1.lit, .int .i64 v1.a, .int .i64 v1.b, .int .i64 v1.i, .int .i64 v1.j, .slice pv v1.l.length cv] 64) := ⟨_, rfl⟩
    have HB5 := Lib.hid (show Below w4.heap.size w4 w5 from by rw [hw5]; exact below1 _ _)
    have hs4 : w4.heap.size = w3.heap.size + 1 := by rw [hw4]; simp
    have HL5 := Lib.hid (show LkAt w5 (w3.heap.size + 1) v1 pv cv from by
     have hh := boxL_new w4 v1 (.slice pv v1.l.length cv)
     rw [hs4] at hh
     rw [hw5]
     exact ⟨hh.c0, hh.c1, hh.c2, hh.c3, hh.c4, hh.c5, hh.c6⟩)
    have hBW := HS0.out.2.2.2.2.1
    have hb1s := HB1.out.size
    have hros := HH.out.2.2.1.size
    have HOK5 := Lib.hid ((HOK.out.only HO4.out (fun b hb e => by omega)).later HB5.out)
    have HSZ5 := Lib.hid (show w5.heap.size = w3.heap.size + 2 from by rw [hw5]; simp; omega)
    have HOV5 := Lib.hid ((HOV.out.only HO4.out (fun b hb e => by have := HSZ3.out.2; omega)).later HB5.out)
    have HW4 := Lib.hid hw4
    have HW5 := Lib.hid hw5
    obtain ⟨qi, ci, hvi, hci, hci2, hso, hib⟩ := HOV5.out.intsB
    injection hvi with hv1 hv2 hv3
    subst hv1 hv3
    have HIB := Lib.hid (And.intro hci (And.intro hci2 (And.intro hso hib)))
    have HFR := Lib.hid (show ∀ b, w2.heap.size <= b -> b < w5.heap.size -> w1.heap.size <= b /\ (Value.slice p3 k c3).ownBlock ≠ some b from fun b hb hl => ⟨by have := HSZ3.out.2; omega, fun e => by have := (HOK5.out.blk b e).1.2; have := HSZ3.out.2; omega⟩)
    have HPL := Lib.hid (show (linksP pre).1.length = k from by rw [linksP_len, HFG.out.2.1])
    clear hw4 hw5 hs4 hbA hoA hci hci2 hso hib hv2 hBW hb1s hros
    go_wp2_with (at_builtin; rw [<- HW4.out, <- HW5.out]; refine wpList_push_link (by rfl) _ _ (by rfl) (fun b => w1.heap.size <= b) (fun b => w2.heap.size <= b) (w3.heap.size + 1) (.slice p3 k c3) (linksP pre).1 v1 pv cv (by rfl) (by rfl) (HOK5.out.mono (fun b hb _ => hb.1)) HL5.out HIB.out.2.2.2 HIB.out.1 HIB.out.2.1 HIB.out.2.2.1 HFR.out ?_ ?_ ?_)
    case refine_1 => have := HSZ5.out; have := HSZ3.out; have := HH.out.2.2.1.size; omega
    case refine_2 => rw [HPL.out]; have := HKN.out; have := HM.out; omega
    intro p6 c6 w6 hown6 ho6
    rw [HPL.out] at hown6 ⊢
    have hoT : ∀ j, (Value.slice p3 k c3).ownBlock = some j -> w1.heap.size <= j := fun j e => (HOK5.out.blk j e).1.1
    have HFIN := Lib.hid (show ∃ (pre' g' : Fo) (b' : Bool), f = pre'.app g' /\ pre'.len = k + 1 /\ FoIn w6 F1 g' (pl (some ⟨bq, oq, none⟩) (k + 1)) /\ TxOK g' /\ LnOK g' /\ OwnK w6 (fun b => w1.heap.size <= b) (.slice p6 (k + 1) c6) (linksP pre').1 /\ RdB w6 B (some ⟨bq, oq, none⟩) n c b' /\ b' = (ok && (linksP pre').2) /\ Only (fun k => k = B) w1 w6 from by
     have hB := HS0.out.2.2.2.2.1
     have hb1s := HB1.out.size
     have hO : Only (fun k => k = B) w1 w6 := (((HH.out.2.2.1.trans (Only.of_below HB3.out)).trans HO4.out).trans (Only.of_below HB5.out)).transNew ho6 hoT
     refine ⟨pre.snoc l1 k1 s1 a1 x1, r, _, by rw [HFG.out.1, Fo.snoc_app], by rw [Fo.len_snoc, HFG.out.2.1], ?_, HH.out.2.2.2.2.1.2.2, HH.out.2.2.2.2.2.2.2, ?_, (HRD4.out.later HB5.out).only ho6 (fun e => by have := hoT _ e; omega), ?_, hO⟩
     ·have hr1 := HH.out.2.2.2.1.later HB3.out
      have hr2 := hr1.only HO4.out (fun b hb e => HS0.out.2.1 b hb e)
      have hr3 := hr2.later HB5.out
      exact hr3.only ho6 (fun b hb e => by have := hoT b e; have := (HF1.out b hb).2; omega)
     ·rw [linksP_snoc, HV.out]; exact hown6
     ·rw [linksP_snoc, HV.out, <- Bool.and_assoc, <- HFG.out.2.2.1]; simp)
    clear hown6 ho6 hoT y0 y1 yf ya0 ya1 yaf zb0 zb1 zb2 zb3 zb4 zb5 zb6 zbf
    go_wp2_with fail
    go_roundg G
    case measure => omega
    case rel => exact ⟨k + 1, p6, c6, by have := HFG.out.2.2.2; omega, rfl, by first | rfl | rw [HS.out.2.2], HFIN⟩
end Go.Proofs.YtookoagcmejkpaaGreatDoor
