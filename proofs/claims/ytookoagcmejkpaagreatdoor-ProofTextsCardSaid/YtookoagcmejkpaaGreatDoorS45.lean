/- All that is left is read as links. -/
import Derived.Test.YtookoagcmejkpaaGreatDoorS44
set_option maxHeartbeats 3200000
namespace Go.Proofs.YtookoagcmejkpaaGreatDoor
set_option maxRecDepth 100000
open Go Go.RowKit Go.Maps
theorem qc0 : ∀ f : Fo, (qa6 f).1.length = f.len
 | .nil => rfl
 | .cons l k s a x r => by simp only [qa6, Fo.len, List.length_cons, qc0 r]
theorem qcj (l : Bool) (k : Int) (s : ByteArray) (a : Int) (x : Fo) : ∀ f : Fo, qa6 (f.snoc l k s a x) = ((qa6 f).1 ++ [(qbr l x).1], (qa6 f).2 && (qbr l x).2)
 | .nil => by simp [qa6, Fo.snoc]
 | .cons l0 k0 s0 a0 x0 r => by simp only [qa6, Fo.snoc, qcj l k s a x r, List.cons_append, Bool.and_assoc]
def LnOK : Fo -> Prop
 | .nil => True
 | .cons _ _ _ _ x r => x.len <= 1000000000 /\ LnOK x /\ LnOK r
theorem qrn (B : Nat) (f : Fo) (q : Option Addr) (c : Nat) (ok : Bool) (F : Nat -> Prop) (W : World) (hq : FoIn W F f q) (_hc : f.len <= c) (hm : f.len <= 1000000000) (hF : ∀ b, F b -> b ≠ B) (hx : TxOK f) (hln : LnOK f) (h : RdB W B q f.len c ok) :
  Calls Tryz.prog 78 #[.pointer (some ⟨B, 0, none⟩)] W fun e w' => (∃ p' c', e = .returned (.slice p' (qa6 f).1.length c') /\ OwnK w' (fun b => W.heap.size <= b) (.slice p' (qa6 f).1.length c') (qa6 f).1) /\ RdB w' B none 0 0 (ok && (qa6 f).2) /\ Only (fun k => k = B) W w' := by
 obtain ⟨n, hn⟩ : ∃ n, n = f.len := ⟨_, rfl⟩;have HN := Zh hn;have hB : B < W.heap.size := h.lt;rw [<- hn] at _hc hm h;have n1 : (n : Int) <= 1000000000 := by omega
 obtain ⟨F1, hF1⟩ : ∃ F1 : Nat -> Prop, F1 = fun b => F b /\ b < W.heap.size := ⟨_, rfl⟩
 have hq1 : FoIn W F1 f q := by rw [hF1]; exact hq.mono (fun b hb hl => ⟨hb, hl⟩)
 have HF1 := Zh (show ∀ b, F1 b -> F b /\ b < W.heap.size from fun b hb => by rw [hF1] at hb; exact hb);have HS0 := Zh (aI hq1 (aI (show ∀ b, F1 b -> b ≠ B from fun b hb => hF b (HF1.o b hb).1) (aI hx (aI h (aI hB hln)))));clear hF1 hq1;have HM := Zh hm;clear hq _hc hF hx hn hB hln;go_enter Tryz.func78, Tryz.ntmps78
 go_wp2_with fail
 refine (qf7 W).mono ?_;rintro e w1 ⟨m, rfl, hfm, hb1, hmm⟩;have HB1 := Zh hb1;have HFM := Zh (show FMap w1 61 m qdg 7 /\ W.heap.size <= m /\ m < w1.heap.size from ⟨hfm, hmm, hfm.lt⟩);have HRD1 := Zh (h.later hb1);obtain ⟨y0, y1, yf⟩ := HRD1.o;clear hfm hb1 hmm h
 go_wp2_with fail
 clear y0 y1 yf
 go_loopg [3, 15] n (fun gk s3 s13 wx => ∃ (k : Nat) (p3 : Option Addr) (c3 : Nat), k + gk = n /\ s3 = .slice p3 k c3 /\ s13 = .int .i64 (k : Int) /\ Hid (∃ (pre g : Fo) (b : Bool), f = pre.app g /\ pre.len = k /\ FoIn wx F1 g (pl q k) /\ TxOK g /\ LnOK g /\ OwnK wx (fun b => w1.heap.size <= b) (.slice p3 k c3) (qa6 pre).1 /\ RdB wx B q n c b /\ b = (ok && (qa6 pre).2) /\ Only (fun k => k = B) w1 wx))
 case atStart => exact ⟨0, none, 0, by omega, rfl, rfl, Zh ⟨.nil, f, ok, rfl, rfl, qcd (HS0.o.1.later HB1.o), HS0.o.2.2.1, HS0.o.2.2.2.2.2, OwnK.nil _ _, HRD1.o, by simp [qa6], Only.refl _ _⟩⟩
 case round =>
  obtain ⟨k, p3, c3, hk, rfl, rfl, HR0⟩ := hrel;obtain ⟨pre, g, b, hfg, hpl, hg, htx, hlo, hown, hrd, hb, ho⟩ := HR0.o;clear HR0;have k0 : (0 : Int) <= (k : Int) := Int.natCast_nonneg k;have hlen : pre.len + g.len = n := by rw [HN.o, hfg, Fo.len_app]
  cases g with
  | nil =>
   have hkn : n = k := by simp [Fo.len] at hlen; omega
   obtain rfl : n = k := hkn;rw [Fo.app_nil] at hfg;subst hfg;have HF := Zh (aI hown (aI hrd ho));have HB := Zh hb;have hrn : (qa6 f).1.length = n := by rw [qc0]; exact HN.o.symm
   have HRN := Zh hrn;obtain ⟨y0, y1, yf⟩ := hrd;clear hk hpl hg htx hlo hown ho hlen hb hrn
   go_wp2_with fail
   have hBW := HS0.o.2.2.2.2.1;have hbs := HB1.o.size;refine bodyPost_ret (v := .slice p3 n c3) (by simp [results, Tryz.results78, go_sem]) rfl ⟨⟨p3, c3, by rw [HRN.o], ?_⟩, ?_, ((Only.of_below HB1.o).trans HF.o.2.2).trans ((Only.of_setCell _ _ _).mono (fun k _ e => e))⟩
   ·rw [HRN.o]
    exact (HF.o.1.only (Only.of_setCell _ _ _) (fun b hb e => by simp only at e; omega)).mono (fun b hb _ => Nat.le_trans hbs hb)
   ·rw [<- HB.o]; exact HF.o.2.1.set0
  | cons l1 k1 s1 a1 x1 r =>
   have hkn : k < n := by simp [Fo.len] at hlen; omega
   have k1' : (k : Int) < (n : Int) := Int.ofNat_lt.2 hkn;obtain ⟨bq, oq, hqe⟩ : ∃ bq oq, q = some ⟨bq, oq, none⟩ := HS0.o.1.some (by rw [<- HN.o]; omega);subst hqe;obtain ⟨_, c0, c1, c2, c3', ⟨q4, d4, c4, hl4, hm4, hq4⟩, hr⟩ := hg.head;have HS := Zh (qax hkn (show n <= 9223372036854775807 from by have := HM.o; omega));have HH := Zh (aI hown (aI hrd (aI ho (aI hr (aI htx hlo)))));have HFG := Zh (aI hfg (aI hpl (aI hb hk)));have HKN := Zh hkn;obtain ⟨w2, hw2⟩ : ∃ w2, w2 = wr.alloc (.cells #[.bool l1, .int .u8 k1, .string s1, .int .i64 a1, .slice q4 x1.len d4] 35) := ⟨_, rfl⟩;have hb2 : Below wr.heap.size wr w2 := by rw [hw2]; exact qab _ _
   have hfm2 : FMap w2 61 m qdg 7 := (HFM.o.1.only ho (fun e => by have := HFM.o.2.1; have := HS0.o.2.2.2.2.1; omega)).later hb2;have HN7 := Zh (qtb m l1 k1 s1 a1 x1 q4 d4 F1 w2 hfm2 (hq4.later hb2) hl4 hlo.1 htx.2.1);obtain ⟨v1, v2, hv⟩ : ∃ v1 v2, qbr l1 x1 = (v1, v2) := ⟨_, _, rfl⟩;rw [hv] at HN7
   dsimp only at HN7
   have HV := Zh hv;have HW2 := Zh hw2;have HB2 := Zh hb2;unfold trV at HN7;clear hk hfg hpl hg htx hlo hown hrd hb ho hlen hkn hl4 hm4 hq4 hr hb2 hw2 hv hfm2
   go_wp2_with fail
   rw [<- HW2.o];refine HN7.o.mono ?_;rintro e w3 ⟨⟨pv, cv, rfl, hov⟩, hb3⟩;have HB3 := Zh (HB2.o.trans (hb3.mono HB2.o.size));have HRD := Zh (HH.o.2.1.later (HB2.o.trans (hb3.mono HB2.o.size)));obtain ⟨y0, y1, yf⟩ := HRD.o;have HOK := Zh ((HH.o.1.mono (F' := fun b => w1.heap.size <= b /\ b < wr.heap.size) (fun b hb hl => ⟨hb, hl⟩)).later (HB2.o.trans (hb3.mono HB2.o.size)));have HOV := Zh hov;have hw2s : w2.heap.size = wr.heap.size + 1 := by rw [HW2.o]; simp
   have HSZ3 := Zh (show wr.heap.size + 1 <= w3.heap.size /\ w2.heap.size = wr.heap.size + 1 from ⟨by have := hb3.size; omega, hw2s⟩);clear hb3 HN7 c0 c1 c2 c3' c4 hov hw2s;obtain ⟨G, rfl⟩ : ∃ G, gk = G + 1 := ⟨gk - 1, by have := HFG.o.2.2.2; have := HKN.o; omega⟩;unfold lkV
   cases b with
   | true =>
    obtain ⟨w4, hw4⟩ : ∃ w4, w4 = (w3.alloc (.cells #[.int .u8 v1.k, .int .i64 v1.lit, .int .i64 v1.a, .int .i64 v1.b, .int .i64 v1.i, .int .i64 v1.j, .slice pv v1.l.length cv] 64)).setCell ⟨B, 1, none⟩ (.bool v2) := ⟨_, rfl⟩;have hbA : Below w3.heap.size w3 (w3.alloc (.cells #[.int .u8 v1.k, .int .i64 v1.lit, .int .i64 v1.a, .int .i64 v1.b, .int .i64 v1.i, .int .i64 v1.j, .slice pv v1.l.length cv] 64)) := qab _ _;have hoA : Only (fun k => k = B) (w3.alloc (.cells #[.int .u8 v1.k, .int .i64 v1.lit, .int .i64 v1.a, .int .i64 v1.b, .int .i64 v1.i, .int .i64 v1.j, .slice pv v1.l.length cv] 64)) w4 := by rw [hw4]; exact Only.of_setCell (w3.alloc (.cells #[.int .u8 v1.k, .int .i64 v1.lit, .int .i64 v1.a, .int .i64 v1.b, .int .i64 v1.i, .int .i64 v1.j, .slice pv v1.l.length cv] 64)) ⟨B, 1, none⟩ _
    obtain ⟨ya0, ya1, yaf⟩ := HRD.o.later hbA;have hzb := (qea w3 v1 (.slice pv v1.l.length cv)).only hoA (fun e => by have := HRD.o.lt; omega);rw [hw4] at hzb;obtain ⟨zb0, zb1, zb2, zb3, zb4, zb5, zb6, zbf⟩ := hzb;have HRD4 := Zh (show RdB w4 B (some ⟨bq, oq, none⟩) n c v2 from by rw [hw4]; exact (HRD.o.later hbA).set1 _);have HO4 := Zh (show Only (fun k => k = B) w3 w4 from (Only.of_below hbA).trans hoA);obtain ⟨w5, hw5⟩ : ∃ w5, w5 = w4.alloc (.cells #[.int .u8 v1.k, .int .i64 v1.lit, .int .i64 v1.a, .int .i64 v1.b, .int .i64 v1.i, .int .i64 v1.j, .slice pv v1.l.length cv] 64) := ⟨_, rfl⟩;have HB5 := Zh (show Below w4.heap.size w4 w5 from by rw [hw5]; exact qab _ _);have hs4 : w4.heap.size = w3.heap.size + 1 := by rw [hw4]; simp
    have HL5 := Zh (show LkAt w5 (w3.heap.size + 1) v1 pv cv from by
     have hh := qea w4 v1 (.slice pv v1.l.length cv);rw [hs4] at hh;rw [hw5]
     exact ⟨hh.c0, hh.c1, hh.c2, hh.c3, hh.c4, hh.c5, hh.c6⟩)
    have hBW := HS0.o.2.2.2.2.1;have hb1s := HB1.o.size;have hros := HH.o.2.2.1.size;have HOK5 := Zh ((HOK.o.only HO4.o (fun b hb e => by omega)).later HB5.o);have HSZ5 := Zh (show w5.heap.size = w3.heap.size + 2 from by rw [hw5]; simp; omega);have HOV5 := Zh ((HOV.o.only HO4.o (fun b hb e => by have := HSZ3.o.2; omega)).later HB5.o);have HW4 := Zh hw4;have HW5 := Zh hw5;obtain ⟨qi, ci, hvi, hci, hci2, hso, hib⟩ := HOV5.o.intsB
    injection hvi with hv1 hv2 hv3
    subst hv1 hv3;have HIB := Zh (aI hci (aI hci2 (aI hso hib)));have HFR := Zh (show ∀ b, w2.heap.size <= b -> b < w5.heap.size -> w1.heap.size <= b /\ (Value.slice p3 k c3).ownBlock ≠ some b from fun b hb hl => ⟨by have := HSZ3.o.2; omega, fun e => by have := (HOK5.o.blk b e).1.2; have := HSZ3.o.2; omega⟩);have HPL := Zh (show (qa6 pre).1.length = k from by rw [qc0, HFG.o.2.1]);clear hw4 hw5 hs4 hbA hoA hci hci2 hso hib hv2 hBW hb1s hros
    go_wp2_with (at_builtin; rw [<- HW4.o, <- HW5.o]; refine qdl (by rfl) _ _ (by rfl) (fun b => w1.heap.size <= b) (fun b => w2.heap.size <= b) (w3.heap.size + 1) (.slice p3 k c3) (qa6 pre).1 v1 pv cv (by rfl) (by rfl) (HOK5.o.mono (fun b hb _ => hb.1)) HL5.o HIB.o.2.2.2 HIB.o.1 HIB.o.2.1 HIB.o.2.2.1 HFR.o ?_ ?_ ?_)
    case refine_1 => have := HSZ5.o; have := HSZ3.o; have := HH.o.2.2.1.size; omega
    case refine_2 => rw [HPL.o]; have := HKN.o; have := HM.o; omega
    intro p6 c6 w6 hown6 ho6;rw [HPL.o] at hown6 ⊢;have hoT : ∀ j, (Value.slice p3 k c3).ownBlock = some j -> w1.heap.size <= j := fun j e => (HOK5.o.blk j e).1.1
    have HFIN := Zh (show ∃ (pre' g' : Fo) (b' : Bool), f = pre'.app g' /\ pre'.len = k + 1 /\ FoIn w6 F1 g' (pl (some ⟨bq, oq, none⟩) (k + 1)) /\ TxOK g' /\ LnOK g' /\ OwnK w6 (fun b => w1.heap.size <= b) (.slice p6 (k + 1) c6) (qa6 pre').1 /\ RdB w6 B (some ⟨bq, oq, none⟩) n c b' /\ b' = (ok && (qa6 pre').2) /\ Only (fun k => k = B) w1 w6 from by
     have hB := HS0.o.2.2.2.2.1;have hb1s := HB1.o.size;have hO : Only (fun k => k = B) w1 w6 := (((HH.o.2.2.1.trans (Only.of_below HB3.o)).trans HO4.o).trans (Only.of_below HB5.o)).transNew ho6 hoT;refine ⟨pre.snoc l1 k1 s1 a1 x1, r, _, by rw [HFG.o.1, Fo.snoc_app], by rw [Fo.len_snoc, HFG.o.2.1], ?_, HH.o.2.2.2.2.1.2.2, HH.o.2.2.2.2.2.2.2, ?_, (HRD4.o.later HB5.o).only ho6 (fun e => by have := hoT _ e; omega), ?_, hO⟩
     ·have hr1 := HH.o.2.2.2.1.later HB3.o
      have hr2 := hr1.only HO4.o (fun b hb e => HS0.o.2.1 b hb e);have hr3 := hr2.later HB5.o;exact hr3.only ho6 (fun b hb e => by have := hoT b e; have := (HF1.o b hb).2; omega)
     ·rw [qcj, HV.o]; exact hown6
     ·rw [qcj, HV.o, <- Bool.and_assoc, <- HFG.o.2.2.1]; simp)
    clear hown6 ho6 hoT y0 y1 yf ya0 ya1 yaf zb0 zb1 zb2 zb3 zb4 zb5 zb6 zbf
    go_wp2_with fail
    go_roundg G
    case measure => omega
    case rel => exact ⟨k + 1, p6, c6, by have := HFG.o.2.2.2; omega, rfl, by first | rfl | rw [HS.o.2.2], HFIN⟩
   | false =>
    obtain ⟨w4, hw4⟩ : ∃ w4, w4 = (w3.alloc (.cells #[.int .u8 v1.k, .int .i64 v1.lit, .int .i64 v1.a, .int .i64 v1.b, .int .i64 v1.i, .int .i64 v1.j, .slice pv v1.l.length cv] 64)).setCell ⟨B, 1, none⟩ (.bool false) := ⟨_, rfl⟩;have hbA : Below w3.heap.size w3 (w3.alloc (.cells #[.int .u8 v1.k, .int .i64 v1.lit, .int .i64 v1.a, .int .i64 v1.b, .int .i64 v1.i, .int .i64 v1.j, .slice pv v1.l.length cv] 64)) := qab _ _;have hoA : Only (fun k => k = B) (w3.alloc (.cells #[.int .u8 v1.k, .int .i64 v1.lit, .int .i64 v1.a, .int .i64 v1.b, .int .i64 v1.i, .int .i64 v1.j, .slice pv v1.l.length cv] 64)) w4 := by rw [hw4]; exact Only.of_setCell (w3.alloc (.cells #[.int .u8 v1.k, .int .i64 v1.lit, .int .i64 v1.a, .int .i64 v1.b, .int .i64 v1.i, .int .i64 v1.j, .slice pv v1.l.length cv] 64)) ⟨B, 1, none⟩ _
    obtain ⟨ya0, ya1, yaf⟩ := HRD.o.later hbA;have hzb := (qea w3 v1 (.slice pv v1.l.length cv)).only hoA (fun e => by have := HRD.o.lt; omega);rw [hw4] at hzb;obtain ⟨zb0, zb1, zb2, zb3, zb4, zb5, zb6, zbf⟩ := hzb;have HRD4 := Zh (show RdB w4 B (some ⟨bq, oq, none⟩) n c false from by rw [hw4]; exact (HRD.o.later hbA).set1 _);have HO4 := Zh (show Only (fun k => k = B) w3 w4 from (Only.of_below hbA).trans hoA);obtain ⟨w5, hw5⟩ : ∃ w5, w5 = w4.alloc (.cells #[.int .u8 v1.k, .int .i64 v1.lit, .int .i64 v1.a, .int .i64 v1.b, .int .i64 v1.i, .int .i64 v1.j, .slice pv v1.l.length cv] 64) := ⟨_, rfl⟩;have HB5 := Zh (show Below w4.heap.size w4 w5 from by rw [hw5]; exact qab _ _);have hs4 : w4.heap.size = w3.heap.size + 1 := by rw [hw4]; simp
    have HL5 := Zh (show LkAt w5 (w3.heap.size + 1) v1 pv cv from by
     have hh := qea w4 v1 (.slice pv v1.l.length cv);rw [hs4] at hh;rw [hw5]
     exact ⟨hh.c0, hh.c1, hh.c2, hh.c3, hh.c4, hh.c5, hh.c6⟩)
    have hBW := HS0.o.2.2.2.2.1;have hb1s := HB1.o.size;have hros := HH.o.2.2.1.size;have HOK5 := Zh ((HOK.o.only HO4.o (fun b hb e => by omega)).later HB5.o);have HSZ5 := Zh (show w5.heap.size = w3.heap.size + 2 from by rw [hw5]; simp; omega);have HOV5 := Zh ((HOV.o.only HO4.o (fun b hb e => by have := HSZ3.o.2; omega)).later HB5.o);have HW4 := Zh hw4;have HW5 := Zh hw5;obtain ⟨qi, ci, hvi, hci, hci2, hso, hib⟩ := HOV5.o.intsB
    injection hvi with hv1 hv2 hv3
    subst hv1 hv3;have HIB := Zh (aI hci (aI hci2 (aI hso hib)));have HFR := Zh (show ∀ b, w2.heap.size <= b -> b < w5.heap.size -> w1.heap.size <= b /\ (Value.slice p3 k c3).ownBlock ≠ some b from fun b hb hl => ⟨by have := HSZ3.o.2; omega, fun e => by have := (HOK5.o.blk b e).1.2; have := HSZ3.o.2; omega⟩);have HPL := Zh (show (qa6 pre).1.length = k from by rw [qc0, HFG.o.2.1]);clear hw4 hw5 hs4 hbA hoA hci hci2 hso hib hv2 hBW hb1s hros
    go_wp2_with (at_builtin; rw [<- HW4.o, <- HW5.o]; refine qdl (by rfl) _ _ (by rfl) (fun b => w1.heap.size <= b) (fun b => w2.heap.size <= b) (w3.heap.size + 1) (.slice p3 k c3) (qa6 pre).1 v1 pv cv (by rfl) (by rfl) (HOK5.o.mono (fun b hb _ => hb.1)) HL5.o HIB.o.2.2.2 HIB.o.1 HIB.o.2.1 HIB.o.2.2.1 HFR.o ?_ ?_ ?_)
    case refine_1 => have := HSZ5.o; have := HSZ3.o; have := HH.o.2.2.1.size; omega
    case refine_2 => rw [HPL.o]; have := HKN.o; have := HM.o; omega
    intro p6 c6 w6 hown6 ho6;rw [HPL.o] at hown6 ⊢;have hoT : ∀ j, (Value.slice p3 k c3).ownBlock = some j -> w1.heap.size <= j := fun j e => (HOK5.o.blk j e).1.1
    have HFIN := Zh (show ∃ (pre' g' : Fo) (b' : Bool), f = pre'.app g' /\ pre'.len = k + 1 /\ FoIn w6 F1 g' (pl (some ⟨bq, oq, none⟩) (k + 1)) /\ TxOK g' /\ LnOK g' /\ OwnK w6 (fun b => w1.heap.size <= b) (.slice p6 (k + 1) c6) (qa6 pre').1 /\ RdB w6 B (some ⟨bq, oq, none⟩) n c b' /\ b' = (ok && (qa6 pre').2) /\ Only (fun k => k = B) w1 w6 from by
     have hB := HS0.o.2.2.2.2.1;have hb1s := HB1.o.size;have hO : Only (fun k => k = B) w1 w6 := (((HH.o.2.2.1.trans (Only.of_below HB3.o)).trans HO4.o).trans (Only.of_below HB5.o)).transNew ho6 hoT;refine ⟨pre.snoc l1 k1 s1 a1 x1, r, _, by rw [HFG.o.1, Fo.snoc_app], by rw [Fo.len_snoc, HFG.o.2.1], ?_, HH.o.2.2.2.2.1.2.2, HH.o.2.2.2.2.2.2.2, ?_, (HRD4.o.later HB5.o).only ho6 (fun e => by have := hoT _ e; omega), ?_, hO⟩
     ·have hr1 := HH.o.2.2.2.1.later HB3.o
      have hr2 := hr1.only HO4.o (fun b hb e => HS0.o.2.1 b hb e);have hr3 := hr2.later HB5.o;exact hr3.only ho6 (fun b hb e => by have := hoT b e; have := (HF1.o b hb).2; omega)
     ·rw [qcj, HV.o]; exact hown6
     ·rw [qcj, HV.o, <- Bool.and_assoc, <- HFG.o.2.2.1]; simp)
    clear hown6 ho6 hoT y0 y1 yf ya0 ya1 yaf zb0 zb1 zb2 zb3 zb4 zb5 zb6 zbf
    go_wp2_with fail
    go_roundg G
    case measure => omega
    case rel => exact ⟨k + 1, p6, c6, by have := HFG.o.2.2.2; omega, rfl, by first | rfl | rw [HS.o.2.2], HFIN⟩
end Go.Proofs.YtookoagcmejkpaaGreatDoor
