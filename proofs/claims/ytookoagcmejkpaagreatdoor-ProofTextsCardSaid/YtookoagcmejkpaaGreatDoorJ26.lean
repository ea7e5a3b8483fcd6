/- All that is left is read as numbers. What is needed to read a link: the forms' values, boxes that turn. -/
import Derived.Test.YtookoagcmejkpaaGreatDoorS41
import Derived.Test.YtookoagcmejkpaaGreatDoorJ16
set_option maxHeartbeats 3200000
namespace Go.Proofs.YtookoagcmejkpaaGreatDoor
set_option maxRecDepth 100000
open Go Go.RowKit
theorem qbi : ∀ f : Fo, (qa8 f).1.length = f.len
 | .nil => rfl
 | .cons l k s a x r => by simp only [qa8, Fo.len, List.length_cons, qbi r]
theorem qbp (l : Bool) (k : Int) (s : ByteArray) (a : Int) (x : Fo) : ∀ f : Fo, qa8 (f.snoc l k s a x) = ((qa8 f).1 ++ [(numP l k s x).1], (qa8 f).2 && (numP l k s x).2)
 | .nil => by simp [qa8, Fo.snoc]
 | .cons l0 k0 s0 a0 x0 r => by simp only [qa8, Fo.snoc, qbp l k s a x r, List.cons_append, Bool.and_assoc]
theorem qq8 (B : Nat) (f : Fo) (q : Option Addr) (c : Nat) (ok : Bool) (F : Nat -> Prop) (W : World) (hq : FoIn W F f q) (_hc : f.len <= c) (hm : f.len <= 1000000000) (hF : ∀ b, F b -> b ≠ B) (hx : TxOK f) (h : RdB W B q f.len c ok) :
  Calls Tryz.prog 112 #[.pointer (some ⟨B, 0, none⟩)] W fun e w' => (∃ p' c', e = .returned (.slice p' (qa8 f).1.length c') /\ OwnI 3 w' (fun b => W.heap.size <= b) (.slice p' (qa8 f).1.length c') (qa8 f).1) /\ RdB w' B none 0 0 (ok && (qa8 f).2) /\ Only (fun k => k = B) W w' := by
 obtain ⟨n, hn⟩ : ∃ n, n = f.len := ⟨_, rfl⟩;have HN := Zh hn;have hB : B < W.heap.size := h.lt;rw [<- hn] at hm h;have n1 : (n : Int) <= 1000000000 := by omega
 obtain ⟨F1, hF1⟩ : ∃ F1 : Nat -> Prop, F1 = fun b => F b /\ b < W.heap.size := ⟨_, rfl⟩
 have hq1 : FoIn W F1 f q := by rw [hF1]; exact hq.mono (fun b hb hl => ⟨hb, hl⟩)
 have HF1 := Zh (show ∀ b, F1 b -> F b /\ b < W.heap.size from fun b hb => by rw [hF1] at hb; exact hb);have HS0 := Zh (aI hq1 (aI (show ∀ b, F1 b -> b ≠ B from fun b hb => hF b (HF1.o b hb).1) (aI hx (aI h hB))));clear hF1 hq1;obtain ⟨y0, y1, yf⟩ := h;have HM := Zh hm;clear hq hF hx hn hB;go_enter Tryz.func112, Tryz.ntmps112
 go_wp2_with fail
 clear y0 y1 yf
 go_loopg [3, 13] n (fun gk s3 s13 wx => ∃ (k : Nat) (p3 : Option Addr) (c3 : Nat), k + gk = n /\ s3 = .slice p3 k c3 /\ s13 = .int .i64 (k : Int) /\ Hid (∃ (pre g : Fo) (b : Bool), f = pre.app g /\ pre.len = k /\ FoIn wx F1 g (pl q k) /\ TxOK g /\ OwnI 3 wx (fun b => W.heap.size <= b) (.slice p3 k c3) (qa8 pre).1 /\ RdB wx B q n c b /\ b = (ok && (qa8 pre).2) /\ Only (fun k => k = B) W wx))
 case atStart => exact ⟨0, none, 0, by omega, rfl, rfl, Zh ⟨.nil, f, ok, rfl, rfl, qcd HS0.o.1, HS0.o.2.2.1, OwnI.nil _ _ _, HS0.o.2.2.2.1, by simp [qa8], Only.refl _ _⟩⟩
 case round =>
  obtain ⟨k, p3, c3, hk, rfl, rfl, HR0⟩ := hrel;obtain ⟨pre, g, b, hfg, hpl, hg, htx, hown, hrd, hb, ho⟩ := HR0.o;clear HR0;have k0 : (0 : Int) <= (k : Int) := Int.natCast_nonneg k;have hlen : pre.len + g.len = n := by rw [HN.o, hfg, Fo.len_app]
  cases g with
  | nil =>
   have hkn : n = k := by simp [Fo.len] at hlen; omega
   obtain rfl : n = k := hkn;rw [Fo.app_nil] at hfg;subst hfg;have HF := Zh (aI hown (aI hrd ho));have HB := Zh hb;have hrn : (qa8 f).1.length = n := by rw [qbi]; exact HN.o.symm
   have HRN := Zh hrn;obtain ⟨y0, y1, yf⟩ := hrd;clear hk hpl hg htx hown ho hlen hb hrn
   go_wp2_with fail
   refine bodyPost_ret (v := .slice p3 n c3) (by simp [results, Tryz.results112, go_sem]) rfl ⟨⟨p3, c3, by rw [HRN.o], ?_⟩, ?_, HF.o.2.2.trans ((Only.of_setCell _ _ _).mono (fun k _ e => e))⟩
   ·rw [HRN.o]
    exact HF.o.1.only (Only.of_setCell _ _ _) (fun b hb e => by have := HS0.o.2.2.2.2; simp only at e; omega)
   ·rw [<- HB.o]; exact HF.o.2.1.set0
  | cons l1 k1 s1 a1 x1 r =>
   have hkn : k < n := by simp [Fo.len] at hlen; omega
   have k1' : (k : Int) < (n : Int) := Int.ofNat_lt.2 hkn;obtain ⟨bq, oq, hqe⟩ : ∃ bq oq, q = some ⟨bq, oq, none⟩ := HS0.o.1.some (by rw [<- HN.o]; omega);subst hqe;obtain ⟨_, c0, c1, c2, c3', ⟨q4, d4, c4, hl4, hm4, hq4⟩, hr⟩ := hg.head;have HS := Zh (qax hkn (show n <= 9223372036854775807 from by have := HM.o; omega));have HH := Zh (aI hown (aI hrd (aI ho (aI hr htx))));have HFG := Zh (aI hfg (aI hpl (aI hb hk)));have HKN := Zh hkn;obtain ⟨w2, hw2⟩ : ∃ w2, w2 = wr.alloc (.cells #[.bool l1, .int .u8 k1, .string s1, .int .i64 a1, .slice q4 x1.len d4] 35) := ⟨_, rfl⟩;have hb2 : Below wr.heap.size wr w2 := by rw [hw2]; exact qab _ _
   have HN7 := Zh (qfn l1 k1 s1 a1 x1 q4 d4 w2 F1 (hq4.later hb2) hl4 hm4 htx.1 htx.2.1);obtain ⟨v1, v2, hv⟩ : ∃ v1 v2, numP l1 k1 s1 x1 = (v1, v2) := ⟨_, _, rfl⟩;rw [hv] at HN7
   dsimp only at HN7
   have HV := Zh hv;have HW2 := Zh hw2;have HB2 := Zh hb2;unfold trV at HN7;clear hk hfg hpl hg htx hown hrd hb ho hlen hkn hl4 hm4 hq4 hr hb2 hw2 hv
   go_wp2_with fail
   rw [<- HW2.o];refine HN7.o.mono ?_;rintro e w3 ⟨rfl, hb3⟩;have HB3 := Zh (HB2.o.trans (hb3.mono HB2.o.size));have HRD := Zh (HH.o.2.1.later (HB2.o.trans (hb3.mono HB2.o.size)));obtain ⟨y0, y1, yf⟩ := HRD.o;have HOI := Zh (HH.o.1.later (HB2.o.trans (hb3.mono HB2.o.size)));clear hb3 HN7 HW2 c0 c1 c2 c3' c4;obtain ⟨G, rfl⟩ : ∃ G, gk = G + 1 := ⟨gk - 1, by have := HFG.o.2.2.2; have := HKN.o; omega⟩
   cases b with
   | true =>
    obtain ⟨w4, hw4⟩ : ∃ w4, w4 = w3.setCell ⟨B, 1, none⟩ (.bool v2) := ⟨_, rfl⟩;have HRD4 := Zh (show RdB w4 B (some ⟨bq, oq, none⟩) n c v2 from by rw [hw4]; exact HRD.o.set1 _);have HO4 := Zh (show Only (fun k => k = B) w3 w4 from by rw [hw4]; exact Only.of_setCell w3 ⟨B, 1, none⟩ _);obtain ⟨w5, hw5⟩ : ∃ w5, w5 = w4.alloc (.cells #[.int .i64 v1] 3) := ⟨_, rfl⟩;have HB5 := Zh (show Below w4.heap.size w4 w5 from by rw [hw5]; exact qab _ _);have hs4 : w4.heap.size = w3.heap.size := by rw [hw4]; simp
    have HI5 := Zh (show IntsIn w5 (some ⟨w3.heap.size, 0, none⟩) [v1] from by
     rw [hw5, <- hs4];intro t ht
     match t, ht with
     | 0, _ => exact ⟨_, 0, rfl, by simp [go_sem]⟩)
    have HOI5 := Zh (((HOI.o.only HO4.o (fun b hb e => by have := HS0.o.2.2.2.2; omega)).later HB5.o));have HSZ5 := Zh (show W.heap.size <= w5.heap.size from by have h1 := HH.o.2.2.1.size; have h2 := HB3.o.size; have h3 := HO4.o.size; have h4 := HB5.o.size; omega);have HW4 := Zh hw4;have HW5 := Zh hw5;clear hw4 hw5 hs4
    go_wp2_with (at_builtin; rw [<- HW4.o, <- HW5.o]; refine qbh qn9 (by rfl) _ _ (by rfl) (fun b => W.heap.size <= b) (.slice p3 k c3) (qa8 pre).1 (some ⟨w3.heap.size, 0, none⟩) 1 1 [v1] (by rfl) (by rfl) HOI5.o HI5.o rfl (fun h => by cases h) HSZ5.o (by rw [qbi, HFG.o.2.1]; have := HKN.o; have := HM.o; omega) (by simp) ?_)
    intro p6 c6 w6 hown6 ho6 _;have hl6 : (qa8 pre).1.length = k := by rw [qbi, HFG.o.2.1]
    rw [hl6] at hown6 ⊢;have hoT : ∀ j, (Value.slice p3 k c3).ownBlock = some j -> W.heap.size <= j := fun j e => (HOI.o.blk j e).1
    have HFIN := Zh (show ∃ (pre' g' : Fo) (b' : Bool), f = pre'.app g' /\ pre'.len = k + 1 /\ FoIn w6 F1 g' (pl (some ⟨bq, oq, none⟩) (k + 1)) /\ TxOK g' /\ OwnI 3 w6 (fun b => W.heap.size <= b) (.slice p6 (k + 1) c6) (qa8 pre').1 /\ RdB w6 B (some ⟨bq, oq, none⟩) n c b' /\ b' = (ok && (qa8 pre').2) /\ Only (fun k => k = B) W w6 from by
     have hB := HS0.o.2.2.2.2;have hO : Only (fun k => k = B) W w6 := (((HH.o.2.2.1.trans (Only.of_below HB3.o)).trans HO4.o).trans (Only.of_below HB5.o)).transNew ho6 hoT;refine ⟨pre.snoc l1 k1 s1 a1 x1, r, _, by rw [HFG.o.1, Fo.snoc_app], by rw [Fo.len_snoc, HFG.o.2.1], ?_, HH.o.2.2.2.2.2.2, ?_, (HRD4.o.later HB5.o).only ho6 (fun e => by have := hoT _ e; omega), ?_, hO⟩
     ·have hr1 := HH.o.2.2.2.1.later HB3.o
      have hr2 := hr1.only HO4.o (fun b hb e => HS0.o.2.1 b hb e);have hr3 := hr2.later HB5.o;exact hr3.only ho6 (fun b hb e => by have := hoT b e; have := (HF1.o b hb).2; omega)
     ·rw [qbp, HV.o]; exact hown6
     ·rw [qbp, HV.o, <- Bool.and_assoc, <- HFG.o.2.2.1]; simp)
    clear hown6 ho6 hl6 hoT y0 y1 yf
    go_wp2_with fail
    go_roundg G
    case measure => omega
    case rel => exact ⟨k + 1, p6, c6, by have := HFG.o.2.2.2; omega, rfl, by first | rfl | rw [HS.o.2.2], HFIN⟩
   | false =>
    obtain ⟨w4, hw4⟩ : ∃ w4, w4 = w3.setCell ⟨B, 1, none⟩ (.bool false) := ⟨_, rfl⟩;have HRD4 := Zh (show RdB w4 B (some ⟨bq, oq, none⟩) n c false from by rw [hw4]; exact HRD.o.set1 _);have HO4 := Zh (show Only (fun k => k = B) w3 w4 from by rw [hw4]; exact Only.of_setCell w3 ⟨B, 1, none⟩ _);obtain ⟨w5, hw5⟩ : ∃ w5, w5 = w4.alloc (.cells #[.int .i64 v1] 3) := ⟨_, rfl⟩;have HB5 := Zh (show Below w4.heap.size w4 w5 from by rw [hw5]; exact qab _ _);have hs4 : w4.heap.size = w3.heap.size := by rw [hw4]; simp
    have HI5 := Zh (show IntsIn w5 (some ⟨w3.heap.size, 0, none⟩) [v1] from by
     rw [hw5, <- hs4];intro t ht
     match t, ht with
     | 0, _ => exact ⟨_, 0, rfl, by simp [go_sem]⟩)
    have HOI5 := Zh (((HOI.o.only HO4.o (fun b hb e => by have := HS0.o.2.2.2.2; omega)).later HB5.o));have HSZ5 := Zh (show W.heap.size <= w5.heap.size from by have h1 := HH.o.2.2.1.size; have h2 := HB3.o.size; have h3 := HO4.o.size; have h4 := HB5.o.size; omega);have HW4 := Zh hw4;have HW5 := Zh hw5;clear hw4 hw5 hs4
    go_wp2_with (at_builtin; rw [<- HW4.o, <- HW5.o]; refine qbh qn9 (by rfl) _ _ (by rfl) (fun b => W.heap.size <= b) (.slice p3 k c3) (qa8 pre).1 (some ⟨w3.heap.size, 0, none⟩) 1 1 [v1] (by rfl) (by rfl) HOI5.o HI5.o rfl (fun h => by cases h) HSZ5.o (by rw [qbi, HFG.o.2.1]; have := HKN.o; have := HM.o; omega) (by simp) ?_)
    intro p6 c6 w6 hown6 ho6 _;have hl6 : (qa8 pre).1.length = k := by rw [qbi, HFG.o.2.1]
    rw [hl6] at hown6 ⊢;have hoT : ∀ j, (Value.slice p3 k c3).ownBlock = some j -> W.heap.size <= j := fun j e => (HOI.o.blk j e).1
    have HFIN := Zh (show ∃ (pre' g' : Fo) (b' : Bool), f = pre'.app g' /\ pre'.len = k + 1 /\ FoIn w6 F1 g' (pl (some ⟨bq, oq, none⟩) (k + 1)) /\ TxOK g' /\ OwnI 3 w6 (fun b => W.heap.size <= b) (.slice p6 (k + 1) c6) (qa8 pre').1 /\ RdB w6 B (some ⟨bq, oq, none⟩) n c b' /\ b' = (ok && (qa8 pre').2) /\ Only (fun k => k = B) W w6 from by
     have hB := HS0.o.2.2.2.2;have hO : Only (fun k => k = B) W w6 := (((HH.o.2.2.1.trans (Only.of_below HB3.o)).trans HO4.o).trans (Only.of_below HB5.o)).transNew ho6 hoT;refine ⟨pre.snoc l1 k1 s1 a1 x1, r, _, by rw [HFG.o.1, Fo.snoc_app], by rw [Fo.len_snoc, HFG.o.2.1], ?_, HH.o.2.2.2.2.2.2, ?_, (HRD4.o.later HB5.o).only ho6 (fun e => by have := hoT _ e; omega), ?_, hO⟩
     ·have hr1 := HH.o.2.2.2.1.later HB3.o
      have hr2 := hr1.only HO4.o (fun b hb e => HS0.o.2.1 b hb e);have hr3 := hr2.later HB5.o;exact hr3.only ho6 (fun b hb e => by have := hoT b e; have := (HF1.o b hb).2; omega)
     ·rw [qbp, HV.o]; exact hown6
     ·rw [qbp, HV.o, <- Bool.and_assoc, <- HFG.o.2.2.1]; simp)
    clear hown6 ho6 hl6 hoT y0 y1 yf
    go_wp2_with fail
    go_roundg G
    case measure => omega
    case rel => exact ⟨k + 1, p6, c6, by have := HFG.o.2.2.2; omega, rfl, by first | rfl | rw [HS.o.2.2], HFIN⟩
theorem qsl (B : Nat) (f : Fo) (q : Option Addr) (c : Nat) (ok : Bool) (F : Nat -> Prop) (W : World) (hq : FoIn W F f q) (_hc : f.len <= c) (hm : f.len <= 1000000000) (hF : ∀ b, F b -> b ≠ B) (hx : TxOK f) (h : RdB W B q f.len c ok) :
  Calls Tryz.prog 77 #[.pointer (some ⟨B, 0, none⟩)] W fun e w' => (∃ p' c', e = .returned (.slice p' (qa8 f).1.length c') /\ OwnI 44 w' (fun b => W.heap.size <= b) (.slice p' (qa8 f).1.length c') (qa8 f).1) /\ RdB w' B none 0 0 (ok && (qa8 f).2) /\ Only (fun k => k = B) W w' := by
 obtain ⟨n, hn⟩ : ∃ n, n = f.len := ⟨_, rfl⟩;have HN := Zh hn;have hB : B < W.heap.size := h.lt;rw [<- hn] at hm h;have n1 : (n : Int) <= 1000000000 := by omega
 obtain ⟨F1, hF1⟩ : ∃ F1 : Nat -> Prop, F1 = fun b => F b /\ b < W.heap.size := ⟨_, rfl⟩
 have hq1 : FoIn W F1 f q := by rw [hF1]; exact hq.mono (fun b hb hl => ⟨hb, hl⟩)
 have HF1 := Zh (show ∀ b, F1 b -> F b /\ b < W.heap.size from fun b hb => by rw [hF1] at hb; exact hb);have HS0 := Zh (aI hq1 (aI (show ∀ b, F1 b -> b ≠ B from fun b hb => hF b (HF1.o b hb).1) (aI hx (aI h hB))));clear hF1 hq1;obtain ⟨y0, y1, yf⟩ := h;have HM := Zh hm;clear hq hF hx hn hB;go_enter Tryz.func77, Tryz.ntmps77
 go_wp2_with fail
 clear y0 y1 yf
 go_loopg [3, 13] n (fun gk s3 s13 wx => ∃ (k : Nat) (p3 : Option Addr) (c3 : Nat), k + gk = n /\ s3 = .slice p3 k c3 /\ s13 = .int .i64 (k : Int) /\ Hid (∃ (pre g : Fo) (b : Bool), f = pre.app g /\ pre.len = k /\ FoIn wx F1 g (pl q k) /\ TxOK g /\ OwnI 44 wx (fun b => W.heap.size <= b) (.slice p3 k c3) (qa8 pre).1 /\ RdB wx B q n c b /\ b = (ok && (qa8 pre).2) /\ Only (fun k => k = B) W wx))
 case atStart => exact ⟨0, none, 0, by omega, rfl, rfl, Zh ⟨.nil, f, ok, rfl, rfl, qcd HS0.o.1, HS0.o.2.2.1, OwnI.nil _ _ _, HS0.o.2.2.2.1, by simp [qa8], Only.refl _ _⟩⟩
 case round =>
  obtain ⟨k, p3, c3, hk, rfl, rfl, HR0⟩ := hrel;obtain ⟨pre, g, b, hfg, hpl, hg, htx, hown, hrd, hb, ho⟩ := HR0.o;clear HR0;have k0 : (0 : Int) <= (k : Int) := Int.natCast_nonneg k;have hlen : pre.len + g.len = n := by rw [HN.o, hfg, Fo.len_app]
  cases g with
  | nil =>
   have hkn : n = k := by simp [Fo.len] at hlen; omega
   obtain rfl : n = k := hkn;rw [Fo.app_nil] at hfg;subst hfg;have HF := Zh (aI hown (aI hrd ho));have HB := Zh hb;have hrn : (qa8 f).1.length = n := by rw [qbi]; exact HN.o.symm
   have HRN := Zh hrn;obtain ⟨y0, y1, yf⟩ := hrd;clear hk hpl hg htx hown ho hlen hb hrn
   go_wp2_with fail
   refine bodyPost_ret (v := .slice p3 n c3) (by simp [results, Tryz.results77, go_sem]) rfl ⟨⟨p3, c3, by rw [HRN.o], ?_⟩, ?_, HF.o.2.2.trans ((Only.of_setCell _ _ _).mono (fun k _ e => e))⟩
   ·rw [HRN.o]
    exact HF.o.1.only (Only.of_setCell _ _ _) (fun b hb e => by have := HS0.o.2.2.2.2; simp only at e; omega)
   ·rw [<- HB.o]; exact HF.o.2.1.set0
  | cons l1 k1 s1 a1 x1 r =>
   have hkn : k < n := by simp [Fo.len] at hlen; omega
   have k1' : (k : Int) < (n : Int) := Int.ofNat_lt.2 hkn;obtain ⟨bq, oq, hqe⟩ : ∃ bq oq, q = some ⟨bq, oq, none⟩ := HS0.o.1.some (by rw [<- HN.o]; omega);subst hqe;obtain ⟨_, c0, c1, c2, c3', ⟨q4, d4, c4, hl4, hm4, hq4⟩, hr⟩ := hg.head;have HS := Zh (qax hkn (show n <= 9223372036854775807 from by have := HM.o; omega));have HH := Zh (aI hown (aI hrd (aI ho (aI hr htx))));have HFG := Zh (aI hfg (aI hpl (aI hb hk)));have HKN := Zh hkn;obtain ⟨w2, hw2⟩ : ∃ w2, w2 = wr.alloc (.cells #[.bool l1, .int .u8 k1, .string s1, .int .i64 a1, .slice q4 x1.len d4] 35) := ⟨_, rfl⟩;have hb2 : Below wr.heap.size wr w2 := by rw [hw2]; exact qab _ _
   have HN7 := Zh (qfn l1 k1 s1 a1 x1 q4 d4 w2 F1 (hq4.later hb2) hl4 hm4 htx.1 htx.2.1);obtain ⟨v1, v2, hv⟩ : ∃ v1 v2, numP l1 k1 s1 x1 = (v1, v2) := ⟨_, _, rfl⟩;rw [hv] at HN7
   dsimp only at HN7
   have HV := Zh hv;have HW2 := Zh hw2;have HB2 := Zh hb2;unfold trV at HN7;clear hk hfg hpl hg htx hown hrd hb ho hlen hkn hl4 hm4 hq4 hr hb2 hw2 hv
   go_wp2_with fail
   rw [<- HW2.o];refine HN7.o.mono ?_;rintro e w3 ⟨rfl, hb3⟩;have HB3 := Zh (HB2.o.trans (hb3.mono HB2.o.size));have HRD := Zh (HH.o.2.1.later (HB2.o.trans (hb3.mono HB2.o.size)));obtain ⟨y0, y1, yf⟩ := HRD.o;have HOI := Zh (HH.o.1.later (HB2.o.trans (hb3.mono HB2.o.size)));clear hb3 HN7 HW2 c0 c1 c2 c3' c4;obtain ⟨G, rfl⟩ : ∃ G, gk = G + 1 := ⟨gk - 1, by have := HFG.o.2.2.2; have := HKN.o; omega⟩
   cases b with
   | true =>
    obtain ⟨w4, hw4⟩ : ∃ w4, w4 = w3.setCell ⟨B, 1, none⟩ (.bool v2) := ⟨_, rfl⟩;have HRD4 := Zh (show RdB w4 B (some ⟨bq, oq, none⟩) n c v2 from by rw [hw4]; exact HRD.o.set1 _);have HO4 := Zh (show Only (fun k => k = B) w3 w4 from by rw [hw4]; exact Only.of_setCell w3 ⟨B, 1, none⟩ _);obtain ⟨w5, hw5⟩ : ∃ w5, w5 = w4.alloc (.cells #[.int .i64 v1] 44) := ⟨_, rfl⟩;have HB5 := Zh (show Below w4.heap.size w4 w5 from by rw [hw5]; exact qab _ _);have hs4 : w4.heap.size = w3.heap.size := by rw [hw4]; simp
    have HI5 := Zh (show IntsIn w5 (some ⟨w3.heap.size, 0, none⟩) [v1] from by
     rw [hw5, <- hs4];intro t ht
     match t, ht with
     | 0, _ => exact ⟨_, 0, rfl, by simp [go_sem]⟩)
    have HOI5 := Zh (((HOI.o.only HO4.o (fun b hb e => by have := HS0.o.2.2.2.2; omega)).later HB5.o));have HSZ5 := Zh (show W.heap.size <= w5.heap.size from by have h1 := HH.o.2.2.1.size; have h2 := HB3.o.size; have h3 := HO4.o.size; have h4 := HB5.o.size; omega);have HW4 := Zh hw4;have HW5 := Zh hw5;clear hw4 hw5 hs4
    go_wp2_with (at_builtin; rw [<- HW4.o, <- HW5.o]; refine qbh qqq (by rfl) _ _ (by rfl) (fun b => W.heap.size <= b) (.slice p3 k c3) (qa8 pre).1 (some ⟨w3.heap.size, 0, none⟩) 1 1 [v1] (by rfl) (by rfl) HOI5.o HI5.o rfl (fun h => by cases h) HSZ5.o (by rw [qbi, HFG.o.2.1]; have := HKN.o; have := HM.o; omega) (by simp) ?_)
    intro p6 c6 w6 hown6 ho6 _;have hl6 : (qa8 pre).1.length = k := by rw [qbi, HFG.o.2.1]
    rw [hl6] at hown6 ⊢;have hoT : ∀ j, (Value.slice p3 k c3).ownBlock = some j -> W.heap.size <= j := fun j e => (HOI.o.blk j e).1
    have HFIN := Zh (show ∃ (pre' g' : Fo) (b' : Bool), f = pre'.app g' /\ pre'.len = k + 1 /\ FoIn w6 F1 g' (pl (some ⟨bq, oq, none⟩) (k + 1)) /\ TxOK g' /\ OwnI 44 w6 (fun b => W.heap.size <= b) (.slice p6 (k + 1) c6) (qa8 pre').1 /\ RdB w6 B (some ⟨bq, oq, none⟩) n c b' /\ b' = (ok && (qa8 pre').2) /\ Only (fun k => k = B) W w6 from by
     have hB := HS0.o.2.2.2.2;have hO : Only (fun k => k = B) W w6 := (((HH.o.2.2.1.trans (Only.of_below HB3.o)).trans HO4.o).trans (Only.of_below HB5.o)).transNew ho6 hoT;refine ⟨pre.snoc l1 k1 s1 a1 x1, r, _, by rw [HFG.o.1, Fo.snoc_app], by rw [Fo.len_snoc, HFG.o.2.1], ?_, HH.o.2.2.2.2.2.2, ?_, (HRD4.o.later HB5.o).only ho6 (fun e => by have := hoT _ e; omega), ?_, hO⟩
     ·have hr1 := HH.o.2.2.2.1.later HB3.o
      have hr2 := hr1.only HO4.o (fun b hb e => HS0.o.2.1 b hb e);have hr3 := hr2.later HB5.o;exact hr3.only ho6 (fun b hb e => by have := hoT b e; have := (HF1.o b hb).2; omega)
     ·rw [qbp, HV.o]; exact hown6
     ·rw [qbp, HV.o, <- Bool.and_assoc, <- HFG.o.2.2.1]; simp)
    clear hown6 ho6 hl6 hoT y0 y1 yf
    go_wp2_with fail
    go_roundg G
    case measure => omega
    case rel => exact ⟨k + 1, p6, c6, by have := HFG.o.2.2.2; omega, rfl, by first | rfl | rw [HS.o.2.2], HFIN⟩
   | false =>
    obtain ⟨w4, hw4⟩ : ∃ w4, w4 = w3.setCell ⟨B, 1, none⟩ (.bool false) := ⟨_, rfl⟩;have HRD4 := Zh (show RdB w4 B (some ⟨bq, oq, none⟩) n c false from by rw [hw4]; exact HRD.o.set1 _);have HO4 := Zh (show Only (fun k => k = B) w3 w4 from by rw [hw4]; exact Only.of_setCell w3 ⟨B, 1, none⟩ _);obtain ⟨w5, hw5⟩ : ∃ w5, w5 = w4.alloc (.cells #[.int .i64 v1] 44) := ⟨_, rfl⟩;have HB5 := Zh (show Below w4.heap.size w4 w5 from by rw [hw5]; exact qab _ _);have hs4 : w4.heap.size = w3.heap.size := by rw [hw4]; simp
    have HI5 := Zh (show IntsIn w5 (some ⟨w3.heap.size, 0, none⟩) [v1] from by
     rw [hw5, <- hs4];intro t ht
     match t, ht with
     | 0, _ => exact ⟨_, 0, rfl, by simp [go_sem]⟩)
    have HOI5 := Zh (((HOI.o.only HO4.o (fun b hb e => by have := HS0.o.2.2.2.2; omega)).later HB5.o));have HSZ5 := Zh (show W.heap.size <= w5.heap.size from by have h1 := HH.o.2.2.1.size; have h2 := HB3.o.size; have h3 := HO4.o.size; have h4 := HB5.o.size; omega);have HW4 := Zh hw4;have HW5 := Zh hw5;clear hw4 hw5 hs4
    go_wp2_with (at_builtin; rw [<- HW4.o, <- HW5.o]; refine qbh qqq (by rfl) _ _ (by rfl) (fun b => W.heap.size <= b) (.slice p3 k c3) (qa8 pre).1 (some ⟨w3.heap.size, 0, none⟩) 1 1 [v1] (by rfl) (by rfl) HOI5.o HI5.o rfl (fun h => by cases h) HSZ5.o (by rw [qbi, HFG.o.2.1]; have := HKN.o; have := HM.o; omega) (by simp) ?_)
    intro p6 c6 w6 hown6 ho6 _;have hl6 : (qa8 pre).1.length = k := by rw [qbi, HFG.o.2.1]
    rw [hl6] at hown6 ⊢;have hoT : ∀ j, (Value.slice p3 k c3).ownBlock = some j -> W.heap.size <= j := fun j e => (HOI.o.blk j e).1
    have HFIN := Zh (show ∃ (pre' g' : Fo) (b' : Bool), f = pre'.app g' /\ pre'.len = k + 1 /\ FoIn w6 F1 g' (pl (some ⟨bq, oq, none⟩) (k + 1)) /\ TxOK g' /\ OwnI 44 w6 (fun b => W.heap.size <= b) (.slice p6 (k + 1) c6) (qa8 pre').1 /\ RdB w6 B (some ⟨bq, oq, none⟩) n c b' /\ b' = (ok && (qa8 pre').2) /\ Only (fun k => k = B) W w6 from by
     have hB := HS0.o.2.2.2.2;have hO : Only (fun k => k = B) W w6 := (((HH.o.2.2.1.trans (Only.of_below HB3.o)).trans HO4.o).trans (Only.of_below HB5.o)).transNew ho6 hoT;refine ⟨pre.snoc l1 k1 s1 a1 x1, r, _, by rw [HFG.o.1, Fo.snoc_app], by rw [Fo.len_snoc, HFG.o.2.1], ?_, HH.o.2.2.2.2.2.2, ?_, (HRD4.o.later HB5.o).only ho6 (fun e => by have := hoT _ e; omega), ?_, hO⟩
     ·have hr1 := HH.o.2.2.2.1.later HB3.o
      have hr2 := hr1.only HO4.o (fun b hb e => HS0.o.2.1 b hb e);have hr3 := hr2.later HB5.o;exact hr3.only ho6 (fun b hb e => by have := hoT b e; have := (HF1.o b hb).2; omega)
     ·rw [qbp, HV.o]; exact hown6
     ·rw [qbp, HV.o, <- Bool.and_assoc, <- HFG.o.2.2.1]; simp)
    clear hown6 ho6 hl6 hoT y0 y1 yf
    go_wp2_with fail
    go_roundg G
    case measure => omega
    case rel => exact ⟨k + 1, p6, c6, by have := HFG.o.2.2.2; omega, rfl, by first | rfl | rw [HS.o.2.2], HFIN⟩
end Go.Proofs.YtookoagcmejkpaaGreatDoor
namespace Go.Proofs.YtookoagcmejkpaaGreatDoor
open Go Go.RowKit Go.Maps
theorem qly {k : Int} {v : Value} (h : qfj k = some v) : ∃ a b lit i j list, v = fmV (lkH k) false false a b lit i j list /\ 1 <= k /\ k <= 7 /\ ∀ l x, (hd l x).1 = lkH k -> qbr l x = lkBy k lit a b i j list (hd l x).2 := by
 unfold qfj at h;have e0 : qcu ≠ qbw /\ qcs ≠ qbw /\ qcs ≠ qcu /\ qct ≠ qbw /\ qct ≠ qcu /\ qct ≠ qcs /\ qby ≠ qbw /\ qby ≠ qcu /\ qby ≠ qcs /\ qby ≠ qct /\ qa9 ≠ qbw /\ qa9 ≠ qcu /\ qa9 ≠ qcs /\ qa9 ≠ qct /\ qa9 ≠ qby /\ qbx ≠ qbw /\ qbx ≠ qcu /\ qbx ≠ qcs /\ qbx ≠ qct /\ qbx ≠ qby /\ qbx ≠ qa9 := by decide
 by_cases h1 : k = 1
 ·subst h1; rw [if_pos rfl] at h; injection h with h; subst h
  exact ⟨_, _, _, _, _, _, rfl, by decide, by decide, fun l x e => by simp only [qbr, e]; simp [lkH]⟩
 rw [if_neg h1] at h
 by_cases h2 : k = 2
 ·subst h2; rw [if_pos rfl] at h; injection h with h; subst h
  exact ⟨_, _, _, _, _, _, rfl, by decide, by decide, fun l x e => by simp only [qbr, e]; simp [lkH, e0]⟩
 rw [if_neg h2] at h
 by_cases h3 : k = 3
 ·subst h3; rw [if_pos rfl] at h; injection h with h; subst h
  exact ⟨_, _, _, _, _, _, rfl, by decide, by decide, fun l x e => by simp only [qbr, e]; simp [lkH, e0]⟩
 rw [if_neg h3] at h
 by_cases h4 : k = 4
 ·subst h4; rw [if_pos rfl] at h; injection h with h; subst h
  exact ⟨_, _, _, _, _, _, rfl, by decide, by decide, fun l x e => by simp only [qbr, e]; simp [lkH, e0]⟩
 rw [if_neg h4] at h
 by_cases h5 : k = 5
 ·subst h5; rw [if_pos rfl] at h; injection h with h; subst h
  exact ⟨_, _, _, _, _, _, rfl, by decide, by decide, fun l x e => by simp only [qbr, e]; simp [lkH, e0]⟩
 rw [if_neg h5] at h
 by_cases h6 : k = 6
 ·subst h6; rw [if_pos rfl] at h; injection h with h; subst h
  exact ⟨_, _, _, _, _, _, rfl, by decide, by decide, fun l x e => by simp only [qbr, e]; simp [lkH, e0]⟩
 rw [if_neg h6] at h
 by_cases h7 : k = 7
 ·subst h7; rw [if_pos rfl] at h; injection h with h; subst h
  exact ⟨_, _, _, _, _, _, rfl, by decide, by decide, fun l x e => by simp only [qbr, e]; simp [lkH, e0]⟩
 rw [if_neg h7] at h;cases h
theorem qpr {k : Int} (h0 : 1 <= k) (h7 : k <= 7) : ∃ v, qfj k = some v := by
 have : k = 1 \/ k = 2 \/ k = 3 \/ k = 4 \/ k = 5 \/ k = 6 \/ k = 7 := by omega
 rcases this with rfl | rfl | rfl | rfl | rfl | rfl | rfl <;> exact ⟨_, rfl⟩
theorem qlz {l : Bool} {x : Fo} (h : ∀ k : Int, 1 <= k -> k <= 7 -> (hd l x).1 ≠ lkH k) : qbr l x = (⟨0, 0, 0, 0, 0, 0, []⟩, false) := by
 have h1 := h 1 (by decide) (by decide);have h2 := h 2 (by decide) (by decide);have h3 := h 3 (by decide) (by decide);have h4 := h 4 (by decide) (by decide);have h5 := h 5 (by decide) (by decide);have h6 := h 6 (by decide) (by decide);have h7 := h 7 (by decide) (by decide);simp only [lkH] at h1 h2 h3 h4 h5 h6 h7;simp at h1 h2 h3 h4 h5 h6 h7;simp [qbr, h1, h2, h3, h4, h5, h6, h7]
theorem qlf {k : Int} {v : Value} (h : qem k = some v) : ∃ a b lits links, v = fmV (stH k) lits links a b false false false false /\ 1 <= k /\ k <= 4 /\ ∀ l x, (hd l x).1 = stH k -> qbo l x = stBy k lits links a b (hd l x).2 := by
 unfold qem at h;have e0 : qcp ≠ qb5 /\ qcq ≠ qb5 /\ qcq ≠ qcp /\ qew ≠ qb5 /\ qew ≠ qcp /\ qew ≠ qcq := by decide
 by_cases h1 : k = 1
 ·subst h1; rw [if_pos rfl] at h; injection h with h; subst h
  exact ⟨_, _, _, _, rfl, by decide, by decide, fun l x e => by simp only [qbo, e]; simp [stH]⟩
 rw [if_neg h1] at h
 by_cases h2 : k = 2
 ·subst h2; rw [if_pos rfl] at h; injection h with h; subst h
  exact ⟨_, _, _, _, rfl, by decide, by decide, fun l x e => by simp only [qbo, e]; simp [stH, e0]⟩
 rw [if_neg h2] at h
 by_cases h3 : k = 3
 ·subst h3; rw [if_pos rfl] at h; injection h with h; subst h
  exact ⟨_, _, _, _, rfl, by decide, by decide, fun l x e => by simp only [qbo, e]; simp [stH, e0]⟩
 rw [if_neg h3] at h
 by_cases h4 : k = 4
 ·subst h4; rw [if_pos rfl] at h; injection h with h; subst h
  exact ⟨_, _, _, _, rfl, by decide, by decide, fun l x e => by simp only [qbo, e]; simp [stH, e0]⟩
 rw [if_neg h4] at h;cases h
theorem qo7 {k : Int} (h0 : 1 <= k) (h7 : k <= 4) : ∃ v, qem k = some v := by
 have : k = 1 \/ k = 2 \/ k = 3 \/ k = 4 := by omega
 rcases this with rfl | rfl | rfl | rfl <;> exact ⟨_, rfl⟩
theorem qlh {l : Bool} {x : Fo} (h : ∀ k : Int, 1 <= k -> k <= 4 -> (hd l x).1 ≠ stH k) : qbo l x = (⟨0, [], [], 0, 0⟩, false) := by
 have h1 := h 1 (by decide) (by decide);have h2 := h 2 (by decide) (by decide);have h3 := h 3 (by decide) (by decide);have h4 := h 4 (by decide) (by decide);simp only [stH] at h1 h2 h3 h4;simp at h1 h2 h3 h4;simp [qbo, h1, h2, h3, h4]
section
variable {w w' : World} {B Bt : Nat} {y : Lk} {v : Value} {n : Int}
theorem BoxL.nx1 (h : BoxL w B y v) : BoxL (w.setCell ⟨B, 1, none⟩ (.int .i64 n)) B { y with lit := n } v := by
 have h1 := h.c1;have hf := h.fz 1;refine ⟨?_, by simp [go_sem, h1], ?_, ?_, ?_, ?_, ?_, fun o => by have := h.fz o; simp [go_sem, this]⟩
 ·rw [World.cell?_setCell_other _ _ _ _ (by intro e; cases e)]; exact h.c0
 ·rw [World.cell?_setCell_other _ _ _ _ (by intro e; cases e)]; exact h.c2
 ·rw [World.cell?_setCell_other _ _ _ _ (by intro e; cases e)]; exact h.c3
 ·rw [World.cell?_setCell_other _ _ _ _ (by intro e; cases e)]; exact h.c4
 ·rw [World.cell?_setCell_other _ _ _ _ (by intro e; cases e)]; exact h.c5
 ·rw [World.cell?_setCell_other _ _ _ _ (by intro e; cases e)]; exact h.c6
theorem BoxL.nx2 (h : BoxL w B y v) (c : NxC w w' Bt B 2 n) : BoxL w' B { y with a := n } v :=
 ⟨c.cells 0 _ (by decide) h.c0, c.cells 1 _ (by decide) h.c1, c.to, c.cells 3 _ (by decide) h.c3, c.cells 4 _ (by decide) h.c4, c.cells 5 _ (by decide) h.c5, c.cells 6 _ (by decide) h.c6, fun o => by rw [c.fz]; exact h.fz o⟩
theorem BoxL.nx3 (h : BoxL w B y v) (c : NxC w w' Bt B 3 n) : BoxL w' B { y with b := n } v :=
 ⟨c.cells 0 _ (by decide) h.c0, c.cells 1 _ (by decide) h.c1, c.cells 2 _ (by decide) h.c2, c.to, c.cells 4 _ (by decide) h.c4, c.cells 5 _ (by decide) h.c5, c.cells 6 _ (by decide) h.c6, fun o => by rw [c.fz]; exact h.fz o⟩
theorem BoxL.nx4 (h : BoxL w B y v) (c : NxC w w' Bt B 4 n) : BoxL w' B { y with i := n } v :=
 ⟨c.cells 0 _ (by decide) h.c0, c.cells 1 _ (by decide) h.c1, c.cells 2 _ (by decide) h.c2, c.cells 3 _ (by decide) h.c3, c.to, c.cells 5 _ (by decide) h.c5, c.cells 6 _ (by decide) h.c6, fun o => by rw [c.fz]; exact h.fz o⟩
theorem BoxL.nx5 (h : BoxL w B y v) (c : NxC w w' Bt B 5 n) : BoxL w' B { y with j := n } v :=
 ⟨c.cells 0 _ (by decide) h.c0, c.cells 1 _ (by decide) h.c1, c.cells 2 _ (by decide) h.c2, c.cells 3 _ (by decide) h.c3, c.cells 4 _ (by decide) h.c4, c.to, c.cells 6 _ (by decide) h.c6, fun o => by rw [c.fz]; exact h.fz o⟩
end
structure FormL (W : World) (B : Nat) (h : ByteArray) (a b lit i j list : Bool) : Prop where
 f : FormAt W B h a b lit i j
 c8 : W.cell? ⟨B, 8, none⟩ = some (.bool list)
theorem FormL.only {W W' : World} {B : Nat} {h : ByteArray} {a b lit i j list : Bool} {T : Nat -> Prop} (x : FormL W B h a b lit i j list) (ho : Only T W W') (hn : ¬ T B) : FormL W' B h a b lit i j list :=
 ⟨x.f.only ho hn, ho.cell x.c8 hn⟩
end Go.Proofs.YtookoagcmejkpaaGreatDoor
