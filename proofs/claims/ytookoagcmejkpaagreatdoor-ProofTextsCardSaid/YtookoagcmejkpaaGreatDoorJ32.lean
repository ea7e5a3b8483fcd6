/- The text of some steps: Text. The text of some steps, any: Text, the program's. The text of some steps: Text, the document's. Are steps that came and steps that were read alike? The document's SameAll -/
import Derived.Test.YtookoagcmejkpaaGreatDoorJ30
import Derived.Test.YtookoagcmejkpaaGreatDoorS58
import Derived.Test.YtookoagcmejkpaaGreatDoorJ4
import Derived.Test.YtookoagcmejkpaaGreatDoorJ24
import Derived.Test.YtookoagcmejkpaaGreatDoorS17
import Derived.Test.YtookoagcmejkpaaGreatDoorS6
import Derived.ProofKit
import Derived.Deep.Slices
import Derived.SizedLaws
import Derived.Deep.Matrix
import Derived.Below
import Derived.ChangeSlices
import Derived.Test.YtookoagcmejkpaaGreatDoorS18
import Derived.Test.YtookoagcmejkpaaGreatDoorJ3
set_option maxHeartbeats 6400000
namespace Go.Proofs.YtookoagcmejkpaaGreatDoor
open Go Go.RowKit Go.Maps
theorem qp1 {l : Bool} {k : Int} {s : ByteArray} {a : Int} {x r : Fo} (h : KdF (.cons l k s a x r)) : (Lx.textR l k s x = (Lx.txtT l k s x, 0) /\ s.size <= 65536 /\ Lx.szB 65536 x /\ x.size <= 1000) /\ KdF r := ⟨⟨h.1.1, h.1.2.1, h.1.2.2.1, h.1.2.2.2.1⟩, h.2⟩
theorem qka : ∀ f : Fo, f.len <= f.size
 | .nil => Nat.le_refl _
 | .cons l k s a x r => by
  have := qka r;simp only [Fo.len, Fo.size]; omega
theorem qkx : ∀ (l : List ByteArray) (B : Nat), (∀ s ∈ l, s.size <= B) -> (Lib.join (l.map (·.data.toList)) [32]).length <= l.length * (B + 1)
 | [], B, _ => by simp [Lib.join]
 | s :: r, B, h => by
  rw [List.map_cons, qev];have h1 : s.data.toList.length = s.size := Array.length_toList (xs := s.data);have h2 := h s (by simp)
  have h3 : ∀ (r : List ByteArray), (∀ s ∈ r, s.size <= B) -> (((r.map (·.data.toList)).map fun u => 32 :: u).flatten).length <= r.length * (B + 1) := by
   intro r
   induction r with
   | nil => intro _; simp
   | cons t u ih =>
    intro hr;have g1 : t.data.toList.length = t.size := Array.length_toList (xs := t.data);have g2 := hr t (by simp);have g3 := ih (fun s hs => hr s (by simp [hs]));simp only [List.map_cons, List.flatten_cons, List.length_append, List.length_cons, Nat.succ_mul];omega
  have h4 := h3 r (fun s hs => h s (by simp [hs]));simp only [List.length_append, List.length_cons, Nat.succ_mul];omega
set_option maxRecDepth 100000
def qff (W : World) (p0 : Option Addr) (l : List Stp) : Prop := ∀ i (hi : i < l.length), ∃ b off p c q d, p0 = some ⟨b, off, none⟩ /\ (W.cell? ⟨b, off + i * 5, none⟩ = some (.int .u8 l[i].k) /\ W.cell? ⟨b, off + i * 5 + 1, none⟩ = some (.slice p l[i].lits.length c) /\ W.cell? ⟨b, off + i * 5 + 2, none⟩ = some (.slice q l[i].links.length d) /\ W.cell? ⟨b, off + i * 5 + 3, none⟩ = some (.int .i64 l[i].a) /\ W.cell? ⟨b, off + i * 5 + 4, none⟩ = some (.int .i64 l[i].b)) /\ StArg W l[i] p c q d
def txR (l : List Stp) : Value := if l.all qau = true then .tuple #[.string (brkS (l.map stTx)), .int .i64 0] else .tuple #[.string ⟨#[]⟩, .int .i64 2]
theorem qmp (l : List Stp) (p0 : Option Addr) (c : Nat) (W : World) (hrow : qff W p0 l) (_hc : l.length <= c) (hl : l.length <= 1000) (htab : qb7 W) (hm : Lx.MaxAt W) :
  Calls Tryz.prog 24 #[.slice p0 l.length c] W fun e w' => e = .returned (txR l) /\ Below W.heap.size W w' := by
 obtain ⟨N, hN⟩ : ∃ N, N = l.length := ⟨_, rfl⟩;have HN := Zh hN;rw [<- hN] at _hc hl ⊢;have n1 : (N : Int) <= 1000 := by omega
 have HI := Zh (aI hrow (aI trivial (aI htab hm)));clear hrow htab hm hN _hc;go_enter Tryz.func24, Tryz.ntmps24
 go_wp2_with fail
 go_loopg [4, 16] N (fun gk s4 s16 wx => ∃ (m : Nat) (p4 : Option Addr) (c4 : Nat), m + gk = N /\ s4 = .slice p4 m c4 /\ s16 = .int .i64 (m : Int) /\ Hid (OwnS wx (fun b => W.heap.size <= b) (.slice p4 m c4) ((l.take m).map stTx) /\ Below W.heap.size W wx /\ (l.take m).all qau = true))
 case atStart => exact ⟨0, none, 0, by omega, rfl, rfl, Zh ⟨OwnS.nil _ _, Below.refl _ _, by simp⟩⟩
 case round =>
  obtain ⟨m, p4, c4, hk, rfl, rfl, HR0⟩ := hrel;have k0 : (0 : Int) <= (m : Int) := Int.natCast_nonneg m;have htl : ((l.take m).map stTx).length = m := by simp; have := HN.o; omega
  have HTL := Zh htl;clear htl
  by_cases hmn : m < N
  ·have k1' : (m : Int) < (N : Int) := Int.ofNat_lt.2 hmn
   have hml : m < l.length := by rw [<- HN.o]; exact hmn
   obtain ⟨bq, oq, p, c', q, d, hpe, ⟨c0, c1, c2, c3, c4'⟩, hsa⟩ := HI.o.1 m hml;subst hpe;obtain ⟨x, hx⟩ : ∃ x, x = l[m] := ⟨_, rfl⟩;have HXL := Zh (show x ∈ l /\ l.take (m + 1) = l.take m ++ [x] from ⟨hx ▸ List.getElem_mem hml, by rw [List.take_add_one, List.getElem?_eq_getElem hml, <- hx]; rfl⟩);have HAM := Zh HR0.o.2.2;have HTK := Zh (show (l.take (m + 1)).map stTx = (l.take m).map stTx ++ [stTx x] from by rw [List.take_add_one, List.getElem?_eq_getElem hml, <- hx]; simp);rw [<- hx] at c0 c1 c2 c3 c4' hsa
   replace c0 := qaa HR0.o.2.1 c0
   replace c1 := qaa HR0.o.2.1 c1
   replace c2 := qaa HR0.o.2.1 c2
   replace c3 := qaa HR0.o.2.1 c3
   replace c4' := qaa HR0.o.2.1 c4'
   have HS := Zh (qax hmn (show N <= 9223372036854775807 from by omega));obtain ⟨w2, hw2⟩ : ∃ w2, w2 = wr.alloc (.cells #[.int .u8 x.k, .slice p x.lits.length c', .slice q x.links.length d, .int .i64 x.a, .int .i64 x.b] 26) := ⟨_, rfl⟩;have HB2 := Zh (show Below wr.heap.size wr w2 from by rw [hw2]; exact qab _ _);have HBW2 := Zh (HR0.o.2.1.trans (HB2.o.mono HR0.o.2.1.size));have HSA := Zh (hsa.later HBW2.o);have HC := Zh (qqj x p c' q d w2 HSA.o.hk.1 HSA.o.hk.2 HSA.o.h1 HSA.o.h2 HSA.o.hkd HSA.o.n1 HSA.o.n2 (qak HI.o.2.2.1 HBW2.o));have HW2 := Zh hw2;obtain ⟨G, rfl⟩ : ∃ G, gk = G + 1 := ⟨gk - 1, by omega⟩;have HK := Zh (aI hk hmn);unfold stV at HC;clear hk hmn hml hx hw2 hsa
   go_wp2_with fail
   rw [<- HW2.o];refine HC.o.mono ?_;intro e w3 hrr;clear HC c0 c1 c2 c3 c4';rcases hrr with ⟨h0, rfl, hb3⟩ | ⟨hmx, q', c5, rfl, hfo, hlc, hb3⟩
   ·have HT0 := Zh (show txR l = .tuple #[.string ⟨#[]⟩, .int .i64 2] from by
     have : l.all qau = false := by
      rw [Bool.eq_false_iff];intro h;rw [List.all_eq_true.1 h x HXL.o.1] at h0; cases h0
     simp [txR, this])
    have HBZ := Zh (HR0.o.2.1.trans ((HB2.o.trans (hb3.mono HB2.o.size)).mono HR0.o.2.1.size));clear hb3 HR0;unfold trV
    go_wp2_with fail
    exact bodyPost_ret (v := .tuple #[.string ⟨#[]⟩, .int .i64 2]) (by simp [results, Tryz.results24, go_sem]) rfl ⟨by rw [HT0.o], HBZ.o.alloc HBZ.o.size _⟩
   have HMX := Zh hmx;clear hmx;obtain ⟨K, hK⟩ : ∃ K, K = (stX x).len := ⟨_, rfl⟩;have hsz := (qda x HMX.o).2.2;have hKm : K <= 2000000 := by have := qka (stX x); omega
   have HKK := Zh hK;have HKD := Zh (qda x HMX.o).2.1;rw [<- hK] at hlc ⊢;have K1 : (K : Int) <= 2000000 := by omega
   obtain ⟨F1, hF1⟩ : ∃ F1 : Nat -> Prop, F1 = fun b => w2.heap.size <= b /\ b < w3.heap.size := ⟨_, rfl⟩
   have HF1 := Zh (show ∀ b, F1 b -> b < w3.heap.size from fun b hb => by rw [hF1] at hb; exact hb.2);have HFO := Zh (show FoIn w3 F1 (stX x) q' from by rw [hF1]; exact hfo.mono (fun b hb hl => ⟨hb, hl⟩));have HB3 := Zh (HB2.o.trans (hb3.mono HB2.o.size));have HLC := Zh hlc;obtain ⟨w4, hw4⟩ : ∃ w4, w4 = w3.alloc (.cells #[.bool true, .int .u8 1, .string ⟨#[40]⟩, .int .i64 0, .slice q' K c5] 35) := ⟨_, rfl⟩;have HB4 := Zh (show Below w3.heap.size w3 w4 from by rw [hw4]; exact qab _ _);have HSZ4 := Zh (show w4.heap.size = w3.heap.size + 1 from by rw [hw4]; simp);have HO4 := Zh ((HR0.o.1.later HB3.o).later HB4.o);have HB04 := Zh (HR0.o.2.1.trans ((HB3.o.trans (HB4.o.mono HB3.o.size)).mono HR0.o.2.1.size));obtain ⟨y0, y1, y2, y3, y4, yf⟩ := qam w3 true 1 ⟨#[40]⟩ 0 (.slice q' K c5);have HW4 := Zh hw4;clear hK hsz hKm hlc hF1 hfo hb3 hw4 HR0;unfold trV
   go_wp2_with fail
   rw [<- HW4.o]
   go_loopg [9, 31] K (fun gk s9 s31 wx => ∃ (j : Nat) (p9 : Option Addr) (c9 : Nat), j + gk = K /\ s9 = .slice p9 j c9 /\ s31 = .int .i64 (j : Int) /\ Hid (∃ (pre f : Fo), stX x = pre.app f /\ pre.len = j /\ KdF f /\ FoIn wx F1 f (pl q' j) /\ OwnS wx (fun b => w4.heap.size <= b) (.slice p9 j c9) (kidS pre) /\ Below w4.heap.size w4 wx))
   case atStart => exact ⟨0, none, 0, by omega, rfl, rfl, Zh ⟨.nil, stX x, rfl, rfl, HKD.o, qcd (HFO.o.later HB4.o), OwnS.nil _ _, Below.refl _ _⟩⟩
   case round =>
    obtain ⟨j, p9, c9, hkj, rfl, rfl, HR1⟩ := hrel;obtain ⟨pre, f, hfg, hpl, hkd, hfi, hos, hbl⟩ := HR1.o;clear HR1;have j0 : (0 : Int) <= (j : Int) := Int.natCast_nonneg j;have hlen : pre.len + f.len = K := by rw [HKK.o, hfg, Fo.len_app]
    cases f with
    | nil =>
     have hlt : ¬ (j : Int) < (K : Int) := by simp [Fo.len] at hlen; omega
     rw [Fo.app_nil] at hfg;subst hfg;have hos2 : OwnS wr (fun b => w4.heap.size <= b) (.slice p9 j c9) (kidS (stX x)) := hos;have HB := Zh (qov (kidS (stX x)) (.slice p9 j c9) _ wr hos2 (by rw [qhl]; have := HKK.o; omega) (by have := (qh7 x HMX.o).2; omega));have HBL := Zh (HB04.o.trans (hbl.mono HB04.o.size));have HOR := Zh (HO4.o.later hbl);have HSX := Zh (show brkS (kidS (stX x)) = stTx x from rfl);obtain ⟨TM, hTM⟩ : ∃ t, t = (l.take m).map stTx := ⟨_, rfl⟩;rw [<- hTM] at HOR HTL HTK;obtain ⟨TN, hTN⟩ : ∃ t, t = (l.take (m + 1)).map stTx := ⟨_, rfl⟩;have HTN := Zh hTN;rw [<- hTN] at HTK;clear hTM hTN;have HBR := Zh (HB3.o.trans ((HB4.o.trans (hbl.mono HB4.o.size)).mono HB3.o.size));have HBK := Zh (show ∀ b, (Value.slice p4 m c4).ownBlock = some b -> W.heap.size <= b from fun b e => (HO4.o.blk b e).1);have HBW := Zh (show Below W.heap.size W wr from HBL.o);clear hkj hpl hkd hfi hos hos2 hbl hlen
     go_wp2_with fail
     refine HB.o.mono ?_;rintro e w5 ⟨rfl, hb5⟩;rw [HSX.o];obtain ⟨w7, hw7⟩ : ∃ w7, w7 = w5.alloc (.cells #[.string (stTx x)] 9) := ⟨_, rfl⟩;have HB5 := Zh hb5;have HB7 := Zh (show Below w5.heap.size w5 w7 from by rw [hw7]; exact qab _ _);have HX7 := Zh (show w7.cell? ⟨w5.heap.size, 0, none⟩ = some (.string (stTx x)) from by rw [hw7]; simp [go_sem]);have HOS7 := Zh (((HOR.o.later HB5.o)).later HB7.o);have HSZ := Zh (show W.heap.size <= w7.heap.size from Nat.le_trans HBW.o.size (Nat.le_trans HB5.o.size HB7.o.size));have HW7 := Zh hw7;clear hw7 hb5 HB
     go_wp2_with (at_builtin; rw [<- HW7.o]; refine qdr (by rfl) _ _ (by rfl) (fun b => W.heap.size <= b) w5.heap.size (.slice p4 m c4) TM (stTx x) (by rfl) (by rfl) HOS7.o HX7.o HSZ.o (by rw [HTL.o]; omega) ?_)
     intro p6 c6 w8 hown8 ho8;rw [HTL.o, <- HTK.o] at hown8;rw [HTL.o]
     have HFIN := Zh (show OwnS w8 (fun b => W.heap.size <= b) (.slice p6 (m + 1) c6) ((l.take (m + 1)).map stTx) /\ Below W.heap.size W w8 /\ (l.take (m + 1)).all qau = true from
      ⟨by rw [<- HTN.o]; exact hown8, (HBW.o.trans ((HB5.o.trans (HB7.o.mono HB5.o.size)).mono HBW.o.size)).trans (ho8.below (fun k e => HBK.o k e) (Nat.le_trans HBW.o.size (Nat.le_trans HB5.o.size HB7.o.size))), by rw [HXL.o.2, List.all_append, HAM.o]; simp [HMX.o]⟩)
     clear hown8 ho8
     go_wp2_with fail
     go_roundg G
     case measure => omega
     case rel => exact ⟨m + 1, p6, c6, by have := HK.o.1; omega, rfl, by first | rfl | rw [HS.o.2.2], HFIN⟩
    | cons l1 k1 s1 a1 x1 r =>
     have hkn : j < K := by simp [Fo.len] at hlen; omega
     have k1' : (j : Int) < (K : Int) := Int.ofNat_lt.2 hkn;obtain ⟨bq, oq, hqe⟩ : ∃ bq oq, q' = some ⟨bq, oq, none⟩ := HFO.o.some (by rw [<- HKK.o]; omega);subst hqe;obtain ⟨hFq, c0, c1, c2, c3, ⟨q4, d4, c4', hl4, hm4, hq4⟩, hr⟩ := hfi.head;obtain ⟨⟨ht, hs1, hz1, hx1⟩, hkr⟩ := qp1 hkd;have HS2 := Zh (qax hkn (show K <= 9223372036854775807 from by omega));obtain ⟨w5, hw5⟩ : ∃ w5, w5 = wr.alloc (.cells #[.bool l1, .int .u8 k1, .string s1, .int .i64 a1, .slice q4 x1.len d4] 35) := ⟨_, rfl⟩;have HB5 := Zh (show Below wr.heap.size wr w5 from by rw [hw5]; exact qab _ _);have HBW5 := Zh (HB04.o.trans ((hbl.trans (HB5.o.mono hbl.size)).mono HB04.o.size));have HC := Zh (Lx.text29 l1 k1 s1 a1 q4 d4 x1 w5 F1 (hq4.later HB5.o) hl4 hm4 hs1 hz1 (by omega) (HI.o.2.2.2.later HBW5.o));have HW5 := Zh hw5;have HG := Zh (aI hos (aI hbl (aI hr hkr)));have HFG := Zh (aI hfg (aI hpl (aI hkj hkn)));have HTX := Zh ht;obtain ⟨G', rfl⟩ : ∃ G', gk = G' + 1 := ⟨gk - 1, by omega⟩;unfold trV at HC;clear hkj hfg hpl hkd hfi hos hbl hlen hkn hl4 hm4 hq4 hr hFq ht hs1 hz1 hx1 hkr hw5
     go_wp2_with fail
     rw [<- HW5.o];refine HC.o.mono ?_;rintro e w6 ⟨X, er, rfl, hX, hb6⟩;rw [HTX.o] at hX
     injection hX with hX1 hX2
     subst hX2;clear HC c0 c1 c2 c3 c4';obtain ⟨w7, hw7⟩ : ∃ w7, w7 = w6.alloc (.cells #[.string X] 9) := ⟨_, rfl⟩;have HB6 := Zh (HB5.o.trans (hb6.mono HB5.o.size));have HB7 := Zh (show Below w6.heap.size w6 w7 from by rw [hw7]; exact qab _ _);have HX7 := Zh (show w7.cell? ⟨w6.heap.size, 0, none⟩ = some (.string X) from by rw [hw7]; simp [go_sem])
     have HXX := Zh (show kidS (pre.snoc l1 k1 s1 a1 x1) = kidS pre ++ [X] from by
      have e : X = ⟨(Lx.txtT l1 k1 s1 x1).toArray⟩ := by obtain ⟨⟨X⟩⟩ := X; simp at hX1; simp [hX1]
      rw [e, <- Fo.app_nil (pre.snoc l1 k1 s1 a1 x1), Fo.snoc_app, qkv]
      rfl)
     have HOS7 := Zh (((HG.o.1.later HB6.o)).later HB7.o);have HSZ := Zh (show w4.heap.size <= w7.heap.size from Nat.le_trans HG.o.2.1.size (Nat.le_trans HB6.o.size HB7.o.size));have HBK := Zh (show ∀ b, (Value.slice p9 j c9).ownBlock = some b -> w4.heap.size <= b from fun b e => (HG.o.1.blk b e).1);have HKL := Zh (show (kidS pre).length = j from by rw [qhl, HFG.o.2.1]);have HW7 := Zh hw7;clear hw7 hX1 hb6
     go_wp2_with (at_builtin; rw [<- HW7.o]; refine qdr (by rfl) _ _ (by rfl) (fun b => w4.heap.size <= b) w6.heap.size (.slice p9 j c9) (kidS pre) X (by rfl) (by rfl) HOS7.o HX7.o HSZ.o (by rw [HKL.o]; omega) ?_)
     intro p6 c6 w8 hown8 ho8;rw [HKL.o] at hown8 ⊢;have hO : Only (fun k => w4.heap.size <= k) wr w8 := ((Only.of_below HB6.o).trans (Only.of_below HB7.o)).trans (ho8.mono (fun b _ e => HBK.o b e))
     have HFIN := Zh (show ∃ (pre' f' : Fo), stX x = pre'.app f' /\ pre'.len = j + 1 /\ KdF f' /\ FoIn w8 F1 f' (pl (some ⟨bq, oq, none⟩) (j + 1)) /\ OwnS w8 (fun b => w4.heap.size <= b) (.slice p6 (j + 1) c6) (kidS pre') /\ Below w4.heap.size w4 w8 from
      ⟨pre.snoc l1 k1 s1 a1 x1, r, by rw [HFG.o.1, Fo.snoc_app], by rw [Fo.len_snoc, HFG.o.2.1], HG.o.2.2.2, HG.o.2.2.1.only hO (fun b hb e => by have := HF1.o b hb; have := HSZ4.o; omega), by rw [HXX.o]; exact hown8, HG.o.2.1.trans (hO.below (fun k e => e) HG.o.2.1.size)⟩)
     clear hown8 ho8 hO
     go_wp2_with fail
     go_roundg G'
     case measure => omega
     case rel => exact ⟨j + 1, p6, c6, by have := HFG.o.2.2.1; omega, rfl, by first | rfl | rw [HS2.o.2.2], HFIN⟩
  ·have hlt : ¬ (m : Int) < (N : Int) := by omega
   have hmN : m = l.length := by have := HN.o; omega
   subst hmN;have hall : l.all qau = true := by have := HR0.o.2.2; rwa [List.take_length] at this
   have HTR := Zh (show txR l = .tuple #[.string (brkS (l.map stTx)), .int .i64 0] from by simp [txR, hall]);have hos : OwnS wr (fun b => W.heap.size <= b) (.slice p4 l.length c4) (l.map stTx) := by have := HR0.o.1; rwa [List.take_length] at this
   have hms : ∀ s ∈ l.map stTx, s.size <= 100000000 := by
    intro s hs;obtain ⟨x, hx, rfl⟩ := List.mem_map.1 hs;exact (qh7 x (List.all_eq_true.1 hall x hx)).1
   have hj := qkx (l.map stTx) 100000000 hms;rw [List.length_map] at hj;have hll : l.length <= 1000 := by have := HN.o; omega
   have HB := Zh (qov (l.map stTx) (.slice p4 l.length c4) _ wr hos (by rw [List.length_map]; omega) (by omega));have HBW := Zh HR0.o.2.1;clear hos hms hj hll HR0 hall
   go_wp2_with fail
   refine HB.o.mono ?_;rintro e w5 ⟨rfl, hb5⟩;have HB5 := Zh (HBW.o.trans (hb5.mono HBW.o.size));clear hb5 HB
   go_wp2_with fail
   exact bodyPost_ret (v := .tuple #[.string (brkS (l.map stTx)), .int .i64 0]) (by simp [results, Tryz.results24, go_sem]) rfl ⟨by rw [HTR.o], HB5.o⟩
def FewS (x : Stp) : Prop := x.lits.length <= 200 /\ x.links.length <= 200
theorem qkz (x : Stp) (h : qau x = true) (hf : FewS x) : (stX x).size <= 20000 := by
 obtain ⟨k, lits, links, a, b⟩ := x;obtain ⟨m1, m2, m3, m4, m5, m6, m7⟩ := qbn h;have hk : ∀ y ∈ links, qaz y = true := fun y hy => List.all_eq_true.1 m6 y hy
 have g3 := (qf4 links hk).2.2;have h1 := qd6 lits;have h2 := qd6 [a, b];obtain ⟨f1, f2⟩ := hf;simp only [List.length_cons, List.length_nil] at h2;simp only at f1 f2
 have : (stK ⟨k, lits, links, a, b⟩).size <= 19000 := by
  simp only [stK]
  split
  ·omega
  ·split <;> omega
 simp only [stX, Fo.size];omega
theorem qqn (x : Stp) (m : Nat) : Lx.depF (stX x) m <= 2 := by
 have : Lx.depF (stK x) m <= 2 := by
  unfold stK
  split
  ·exact qjx _ _
  ·split
   ·exact Nat.le_trans (qe7 _ _) (by decide)
   ·exact Nat.le_trans (qe7 _ _) (by decide)
 rw [stX, qdi];simp only [Lx.depT, Bool.false_and, Bool.false_eq_true, if_false];omega
theorem qhp (x : Stp) (h : qau x = true) (hf : FewS x) : Lx.textR true 1 ⟨#[40]⟩ (stX x) = ((stTx x).data.toList, 0) /\ (stTx x).size <= 600000 := by
 have h1 := qkz x h hf;have hg := (qda x h).1;have h2 := qix (stX x) true hg;have h3 := qoe _ hg;have h4 := qqn x 200
 have hl : (stTx x).size = (Lx.txtT true 1 ⟨#[40]⟩ (stX x)).length := by
  rw [<- qeo];exact (Array.length_toList (xs := (stTx x).data)).symm
 have hl2 : (Lx.txtT true 1 ⟨#[40]⟩ (stX x)).length = (Lx.txtF true (stX x)).length + 2 := by simp [Lx.txtT]
 refine ⟨?_, by omega⟩;rw [qeo];unfold Lx.textR;have hT : Lx.okT true 1 ⟨#[40]⟩ (stX x) = true := by simp [Lx.okT, h3]
 have hD : Lx.depT true (stX x) 201 <= 3 := by simp [Lx.depT]; omega
 rw [if_neg (by rw [hT]; simp), if_neg (by omega), if_neg (by omega)]
theorem qn7 (L : List (List UInt8)) (t : List UInt8) : Lib.join (L ++ [t]) [32] = if L.length = 0 then t else Lib.join L [32] ++ 32 :: t := by
 cases L with
 | nil => simp [Lib.join, List.intercalate]
 | cons u us =>
  rw [List.cons_append, qev, qev];simp
def byT (l : List Stp) : List UInt8 := 40 :: Lib.join (l.map fun x => (stTx x).data.toList) [32]
theorem qk6 (l : List Stp) (x : Stp) : byT (l ++ [x]) = if l.length = 0 then byT l ++ (stTx x).data.toList else (byT l ++ [32]) ++ (stTx x).data.toList := by
 unfold byT;rw [List.map_append, List.map_cons, List.map_nil, qn7]
 cases l with
 | nil => simp [Lib.join, List.intercalate]
 | cons y r => simp
theorem qr6 (l : List Stp) : byT l ++ [41] = (brkS (l.map stTx)).data.toList := by
 simp [byT, brkS, brkL, List.map_map, Function.comp_def]
theorem qou (l : List Stp) (h : ∀ x ∈ l, (stTx x).size <= 600000) : (byT l).length <= 1 + l.length * 600001 := by
 have := qkx (l.map stTx) 600000 (fun s hs => by obtain ⟨x, hx, rfl⟩ := List.mem_map.1 hs; exact h x hx);rw [List.map_map, List.length_map] at this;simp only [byT, List.length_cons];simp only [Function.comp_def] at this;omega
theorem qsf (l : List Stp) (p0 : Option Addr) (c : Nat) (W : World) (hrow : qff W p0 l) (_hc : l.length <= c) (hl : l.length <= 60) (hfew : ∀ x ∈ l, qau x = true -> FewS x) :
  Calls Tryz.prog 25 #[.slice p0 l.length c] W fun e w' => e = .returned (txR l) /\ Below W.heap.size W w' := by
 obtain ⟨N, hN⟩ : ∃ N, N = l.length := ⟨_, rfl⟩;have HN := Zh hN;rw [<- hN] at _hc hl ⊢;have n1 : (N : Int) <= 60 := by omega
 have HI := Zh (aI hrow hfew);obtain ⟨i5, hi5, hz0, hz1, hz2⟩ := qiv;have HB0 := Zh (qab W (.cells #[.int .u8 40] 5))
 have HO0 := Zh (show (W.alloc (.cells #[.int .u8 40] 5)).ownsRow W.heap.size 5 1 (.slice (some ⟨W.heap.size, 0, none⟩) 1 1) (byT []).length ((byT []).map Lx.u8v) from
  ⟨rfl, .inr ⟨W.heap.size, 1, #[.int .u8 40], rfl, Nat.le_refl _, Array.getElem?_push_size, Nat.le_refl _, by decide, rfl, rfl⟩⟩)
 clear hrow hfew hN _hc;go_enter Tryz.func25, Tryz.ntmps25
 go_wp2_with fail
 go_loopg [4, 5] N (fun gk s4 s5 wx => ∃ (m : Nat) (p4 : Option Addr) (c4 : Nat) (n4 : Nat), m + gk = N /\ s4 = .slice p4 n4 c4 /\ s5 = .int .i64 (m : Int) /\ Hid (n4 = (byT (l.take m)).length /\ wx.ownsRow W.heap.size 5 1 (.slice p4 n4 c4) n4 ((byT (l.take m)).map Lx.u8v) /\ Below W.heap.size W wx /\ (l.take m).all qau = true))
 case atStart => exact ⟨0, some ⟨W.heap.size, 0, none⟩, 1, 1, by omega, rfl, rfl, Zh ⟨rfl, HO0.o, HB0.o, by simp⟩⟩
 case round =>
  obtain ⟨m, p4, c4, n4, hk, rfl, rfl, HR0⟩ := hrel;have k0 : (0 : Int) <= (m : Int) := Int.natCast_nonneg m
  by_cases hmn : m < N
  ·have k1' : (m : Int) < (N : Int) := Int.ofNat_lt.2 hmn
   have hml : m < l.length := by rw [<- HN.o]; exact hmn
   obtain ⟨bq, oq, p, c', q, d, hpe, ⟨c0, c1, c2, c3, c4'⟩, hsa⟩ := HI.o.1 m hml;subst hpe;have hfw := HI.o.2 _ (List.getElem_mem hml);obtain ⟨x, hx⟩ : ∃ x, x = l[m] := ⟨_, rfl⟩;have HXL := Zh (show x ∈ l /\ l.take (m + 1) = l.take m ++ [x] from ⟨hx ▸ List.getElem_mem hml, by rw [List.take_add_one, List.getElem?_eq_getElem hml, <- hx]; rfl⟩);rw [<- hx] at c0 c1 c2 c3 c4' hsa hfw;have HBW := Zh HR0.o.2.2.1;have HCC := Zh (aI c0 (aI c1 (aI c2 (aI c3 c4'))));have HSA := Zh hsa
   replace c0 := qaa HBW.o c0
   replace c1 := qaa HBW.o c1
   replace c2 := qaa HBW.o c2
   replace c3 := qaa HBW.o c3
   replace c4' := qaa HBW.o c4'
   have HS := Zh (qax hmn (show N <= 9223372036854775807 from by omega));have HSA0 := Zh (hsa.later HBW.o);obtain ⟨M, hM⟩ : ∃ M, M = qau x := ⟨_, rfl⟩;have HM := Zh hM;have HC := Zh (qs7 x.k x.a x.b p c' x.lits.length q d x.links.length x.lits x.links M wr rfl rfl HSA0.o.n1 HSA0.o.n2 HSA0.o.h1 HSA0.o.h2 HSA0.o.hkd hM);obtain ⟨G, rfl⟩ : ∃ G, gk = G + 1 := ⟨gk - 1, by omega⟩;have HK := Zh (aI hk hmn);have HFW := Zh hfw;clear hk hmn hml hx hsa hfw hM
   go_wp2_with fail
   refine HC.o.mono ?_;rintro e w3 ⟨rfl, hb3⟩;have HB3 := Zh hb3;clear HC c0 c1 c2 c3 c4' hb3
   cases M with
   | false =>
    have HT0 := Zh (show txR l = .tuple #[.string ⟨#[]⟩, .int .i64 2] from by
     have : l.all qau = false := by
      rw [Bool.eq_false_iff];intro h;have h0 := HM.o;rw [List.all_eq_true.1 h x HXL.o.1] at h0; cases h0
     simp [txR, this])
    have HBZ := Zh (HBW.o.trans (HB3.o.mono HBW.o.size))
    go_wp2_with fail
    exact bodyPost_ret (v := .tuple #[.string ⟨#[]⟩, .int .i64 2]) (by simp [results, Tryz.results25, go_sem]) rfl ⟨by rw [HT0.o], HBZ.o⟩
   | true =>
    have HMX := Zh (show qau x = true from HM.o.symm);have HFS := Zh (qkz x HMX.o (HFW.o HMX.o));have HTX := Zh (qhp x HMX.o (HFW.o HMX.o))
    have HNB := Zh (show n4 <= 60000000 from by
     have h1 := qou (l.take m) (fun y hy => by
      have hy2 := List.mem_of_mem_take hy;have hym := List.all_eq_true.1 HR0.o.2.2.2 y hy
      exact (qhp y hym (HI.o.2 y hy2 hym)).2)
     have h2 := HR0.o.1;have h3 : (l.take m).length <= 60 := by rw [List.length_take]; have := HN.o; omega
     have h4 : (l.take m).length * 600001 <= 60 * 600001 := Nat.mul_le_mul_right _ h3
     omega)
    have HOW := Zh (qal HR0.o.2.1 HB3.o);have htl : (l.take m).length = m := by rw [List.length_take]; have := HN.o; have := HK.o.2; omega
    by_cases hm0 : m = 0
    ·have hm1 : ¬ (0 : Int) < (m : Int) := by omega
     have HM0 := Zh (show (l.take m).length = 0 from by rw [htl]; exact hm0);have HBI := Zh (HBW.o.trans (HB3.o.mono HBW.o.size));have HN5 := Zh (show n4 = n4 from rfl);clear hm0 htl;have HSW := Zh (HSA.o.later HBI.o);have HC17 := Zh (qqi x p c' q d w3 HSW.o.h1 HSW.o.h2 HSW.o.h3 HMX.o)
     have HCW := Zh (show (w3).cell? ⟨bq, oq + m * 5, none⟩ = some (.int .u8 x.k) /\ (w3).cell? ⟨bq, oq + m * 5 + 1, none⟩ = some (.slice p x.lits.length c') /\ (w3).cell? ⟨bq, oq + m * 5 + 2, none⟩ = some (.slice q x.links.length d) /\ (w3).cell? ⟨bq, oq + m * 5 + 3, none⟩ = some (.int .i64 x.a) /\ (w3).cell? ⟨bq, oq + m * 5 + 4, none⟩ = some (.int .i64 x.b) from
      ⟨qaa HBI.o HCC.o.1, qaa HBI.o HCC.o.2.1, qaa HBI.o HCC.o.2.2.1, qaa HBI.o HCC.o.2.2.2.1, qaa HBI.o HCC.o.2.2.2.2⟩)
     obtain ⟨e0, e1, e2, e3, e4⟩ := HCW.o;unfold stV at HC17
     go_wp2_with fail
     refine HC17.o.mono ?_;rintro e w6 ⟨q6, c6, rfl, hl6, hm6, hq6, hb6⟩;have HB6 := Zh hb6;have HC59 := Zh (Lx.text30 true 1 ⟨#[40]⟩ 0 q6 c6 (stX x) w6 _ hq6 hl6 hm6 (by decide) (qod _ (qda x HMX.o).1) (Nat.le_trans HFS.o (by decide)));clear HC17 e0 e1 e2 e3 e4 hl6 hm6 hq6 hb6;unfold trV at HC59 ⊢
     go_wp2_with fail
     refine HC59.o.mono ?_;rintro e w7 ⟨X, er, rfl, hX, hb7⟩;rw [HTX.o.1] at hX
     injection hX with hX1 hX2
     subst hX2;have HXX := Zh (show X = stTx x from ByteArray.ext (Array.toList_inj.1 hX1));have HB7 := Zh (HB6.o.trans (hb7.mono HB6.o.size));have HO7 := Zh (qal HOW.o HB7.o);have hxs : X.size <= 600000 := by rw [HXX.o]; exact HTX.o.2
     have HSZ7 := Zh (show W.heap.size <= w7.heap.size from Nat.le_trans HBI.o.size HB7.o.size);clear HC59 hX1 hb7
     go_wp2_with (at_builtin; refine Lx.wpList_append_str rfl _ _ 57 9 rfl W.heap.size i5 Tryz.underlying57 Tryz.underlying9 hi5 hz0 hz1 hz2 (.slice p4 n4 c4) (n4) ((byT (l.take m)).map Lx.u8v) rfl HO7.o X rfl (by have := HNB.o; have := HN5.o; omega) HSZ7.o ?_)
     intro v8 w8 hrow8;obtain ⟨hown8, hon8, hbk8⟩ := hrow8;obtain ⟨p8, c8, hv8, _⟩ := qaq hown8;subst hv8
     have HFIN := Zh (show (n4) + X.data.toList.length = (byT (l.take (m + 1))).length /\ w8.ownsRow W.heap.size 5 1 (.slice p8 ((n4) + X.data.toList.length) c8) ((n4) + X.data.toList.length) ((byT (l.take (m + 1))).map Lx.u8v) /\ Below W.heap.size W w8 /\ (l.take (m + 1)).all qau = true from by
      have eD : byT (l.take (m + 1)) = byT (l.take m) ++ X.data.toList := by rw [HXL.o.2, qk6, HXX.o]; rw [if_pos HM0.o]
      refine ⟨?_, ?_, ?_, by rw [HXL.o.2, List.all_append, HR0.o.2.2.2]; simp [HMX.o]⟩
      ·rw [eD]; simp only [List.length_append]; have := HR0.o.1; have := HN5.o; omega
      ·rw [eD]; simpa only [List.map_append, List.append_assoc, List.map_cons, List.map_nil] using hown8
      ·exact (HBI.o.trans (HB7.o.mono HBI.o.size)).trans (hon8.below (fun k e => (qaw HO7.o e).1) (Nat.le_trans HBI.o.size HB7.o.size)))
     clear hown8 hon8 hbk8
     go_wp2_with fail
     go_roundg G
     case measure => omega
     case rel => exact ⟨m + 1, p8, c8, _, by have := HK.o.1; omega, rfl, by first | rfl | rw [HS.o.2.2], HFIN⟩
    ·have hm1 : (0 : Int) < (m : Int) := by omega
     have HM0 := Zh (show ¬ (l.take m).length = 0 from by rw [htl]; exact hm0);obtain ⟨w4, hw4⟩ : ∃ w4, w4 = w3.alloc (.cells #[.int .u8 32] 5) := ⟨_, rfl⟩;have HB4 := Zh (show Below w3.heap.size w3 w4 from by rw [hw4]; exact qab _ _);have HO4 := Zh (qal HOW.o HB4.o);have HX4 := Zh (show w4.cell? ⟨w3.heap.size, 0, none⟩ = some (Lx.u8v 32) from by rw [hw4]; simp [go_sem, Lx.u8v]);have HSZ4 := Zh (show W.heap.size <= w4.heap.size from Nat.le_trans HBW.o.size (Nat.le_trans HB3.o.size HB4.o.size));have HW4 := Zh hw4;clear hm0 htl hw4
     go_wp2_with (at_builtin; rw [<- HW4.o]; refine Lx.wpList_append_byte rfl _ _ 57 rfl W.heap.size i5 Tryz.underlying57 hi5 hz0 hz1 hz2 _ n4 ((byT (l.take m)).map Lx.u8v) rfl HO4.o ⟨w3.heap.size, 0, none⟩ 32 rfl (by rw [Lib.add_plain]; exact HX4.o) (by have := HNB.o; omega) HSZ4.o ?_)
     intro v5 w5 hrow5;obtain ⟨hown5, hon5, hbk5⟩ := hrow5;obtain ⟨p5, c5, hv5, _⟩ := qaq hown5;subst hv5;have HO5 := Zh hown5;have HB5x := Zh (show Only (fun k => W.heap.size <= k) wr w5 from ((Only.of_below HB3.o).mono (fun k _ e => Nat.le_trans HBW.o.size e)).trans (((Only.of_below HB4.o).mono (fun k _ e => Nat.le_trans HBW.o.size (Nat.le_trans HB3.o.size e))).trans (hon5.mono (fun k _ e => (qaw HO4.o e).1))));have HBI := Zh (HBW.o.trans (HB5x.o.below (fun k e => e) HBW.o.size));obtain ⟨n5, hn5⟩ : ∃ n5, n5 = n4 + ([32] : List UInt8).length := ⟨_, rfl⟩;rw [<- hn5] at HO5 ⊢;have HO6 := Zh (show w5.ownsRow W.heap.size 5 1 (.slice p5 n5 c5) n5 ((byT (l.take m) ++ [32]).map Lx.u8v) from by rw [List.map_append]; exact HO5.o);have HN5 := Zh (show n5 = n4 + 1 from hn5);clear hn5;clear hown5 hon5 hbk5;have HSW := Zh (HSA.o.later HBI.o);have HC17 := Zh (qqi x p c' q d w5 HSW.o.h1 HSW.o.h2 HSW.o.h3 HMX.o)
     have HCW := Zh (show (w5).cell? ⟨bq, oq + m * 5, none⟩ = some (.int .u8 x.k) /\ (w5).cell? ⟨bq, oq + m * 5 + 1, none⟩ = some (.slice p x.lits.length c') /\ (w5).cell? ⟨bq, oq + m * 5 + 2, none⟩ = some (.slice q x.links.length d) /\ (w5).cell? ⟨bq, oq + m * 5 + 3, none⟩ = some (.int .i64 x.a) /\ (w5).cell? ⟨bq, oq + m * 5 + 4, none⟩ = some (.int .i64 x.b) from
      ⟨qaa HBI.o HCC.o.1, qaa HBI.o HCC.o.2.1, qaa HBI.o HCC.o.2.2.1, qaa HBI.o HCC.o.2.2.2.1, qaa HBI.o HCC.o.2.2.2.2⟩)
     obtain ⟨e0, e1, e2, e3, e4⟩ := HCW.o;unfold stV at HC17
     go_wp2_with fail
     refine HC17.o.mono ?_;rintro e w6 ⟨q6, c6, rfl, hl6, hm6, hq6, hb6⟩;have HB6 := Zh hb6;have HC59 := Zh (Lx.text30 true 1 ⟨#[40]⟩ 0 q6 c6 (stX x) w6 _ hq6 hl6 hm6 (by decide) (qod _ (qda x HMX.o).1) (Nat.le_trans HFS.o (by decide)));clear HC17 e0 e1 e2 e3 e4 hl6 hm6 hq6 hb6;unfold trV at HC59 ⊢
     go_wp2_with fail
     refine HC59.o.mono ?_;rintro e w7 ⟨X, er, rfl, hX, hb7⟩;rw [HTX.o.1] at hX
     injection hX with hX1 hX2
     subst hX2;have HXX := Zh (show X = stTx x from ByteArray.ext (Array.toList_inj.1 hX1));have HB7 := Zh (HB6.o.trans (hb7.mono HB6.o.size));have HO7 := Zh (qal HO6.o HB7.o);have hxs : X.size <= 600000 := by rw [HXX.o]; exact HTX.o.2
     have HSZ7 := Zh (show W.heap.size <= w7.heap.size from Nat.le_trans HBI.o.size HB7.o.size);clear HC59 hX1 hb7
     go_wp2_with (at_builtin; refine Lx.wpList_append_str rfl _ _ 57 9 rfl W.heap.size i5 Tryz.underlying57 Tryz.underlying9 hi5 hz0 hz1 hz2 (.slice p5 n5 c5) (n5) ((byT (l.take m) ++ [32]).map Lx.u8v) rfl HO7.o X rfl (by have := HNB.o; have := HN5.o; omega) HSZ7.o ?_)
     intro v8 w8 hrow8;obtain ⟨hown8, hon8, hbk8⟩ := hrow8;obtain ⟨p8, c8, hv8, _⟩ := qaq hown8;subst hv8
     have HFIN := Zh (show (n5) + X.data.toList.length = (byT (l.take (m + 1))).length /\ w8.ownsRow W.heap.size 5 1 (.slice p8 ((n5) + X.data.toList.length) c8) ((n5) + X.data.toList.length) ((byT (l.take (m + 1))).map Lx.u8v) /\ Below W.heap.size W w8 /\ (l.take (m + 1)).all qau = true from by
      have eD : byT (l.take (m + 1)) = byT (l.take m) ++ [32] ++ X.data.toList := by rw [HXL.o.2, qk6, HXX.o]; rw [if_neg HM0.o]
      refine ⟨?_, ?_, ?_, by rw [HXL.o.2, List.all_append, HR0.o.2.2.2]; simp [HMX.o]⟩
      ·rw [eD]; simp only [List.length_append, List.length_cons, List.length_nil]; have := HR0.o.1; have := HN5.o; omega
      ·rw [eD]; simpa only [List.map_append, List.append_assoc, List.map_cons, List.map_nil] using hown8
      ·exact (HBI.o.trans (HB7.o.mono HBI.o.size)).trans (hon8.below (fun k e => (qaw HO7.o e).1) (Nat.le_trans HBI.o.size HB7.o.size)))
     clear hown8 hon8 hbk8
     go_wp2_with fail
     go_roundg G
     case measure => omega
     case rel => exact ⟨m + 1, p8, c8, _, by have := HK.o.1; omega, rfl, by first | rfl | rw [HS.o.2.2], HFIN⟩
  ·have hlt : ¬ (m : Int) < (N : Int) := by omega
   have hmN : m = l.length := by have := HN.o; omega
   subst hmN;rw [List.take_length] at HR0;have hall : l.all qau = true := HR0.o.2.2.2;have HTR := Zh (show txR l = .tuple #[.string (brkS (l.map stTx)), .int .i64 0] from by simp [txR, hall])
   have HNB := Zh (show n4 <= 60000000 from by
    have h1 := qou l (fun y hy => (qhp y (List.all_eq_true.1 hall y hy) (HI.o.2 y hy (List.all_eq_true.1 hall y hy))).2);have h2 := HR0.o.1;have h3 : l.length * 600001 <= 60 * 600001 := Nat.mul_le_mul_right _ (by have := HN.o; omega)
    omega)
   obtain ⟨w4, hw4⟩ : ∃ w4, w4 = wr.alloc (.cells #[.int .u8 41] 5) := ⟨_, rfl⟩;have HB4 := Zh (show Below wr.heap.size wr w4 from by rw [hw4]; exact qab _ _);have HO4 := Zh (qal HR0.o.2.1 HB4.o);have HX4 := Zh (show w4.cell? ⟨wr.heap.size, 0, none⟩ = some (Lx.u8v 41) from by rw [hw4]; simp [go_sem, Lx.u8v]);have HBW4 := Zh (HR0.o.2.2.1.trans (HB4.o.mono HR0.o.2.2.1.size));have HN4 := Zh HR0.o.1;have HW4 := Zh hw4;clear hw4 hall HR0
   go_wp2_with (at_builtin; rw [<- HW4.o]; refine Lx.wpList_append_byte rfl _ _ 57 rfl W.heap.size i5 Tryz.underlying57 hi5 hz0 hz1 hz2 _ n4 ((byT l).map Lx.u8v) rfl HO4.o ⟨wr.heap.size, 0, none⟩ 41 rfl (by rw [Lib.add_plain]; exact HX4.o) (by have := HNB.o; omega) HBW4.o.size ?_)
   intro v5 w5 hrow5;obtain ⟨hown5, hon5, hbk5⟩ := hrow5;have HB5 := Zh (HBW4.o.trans (hon5.below (fun k e => (qaw HO4.o e).1) HBW4.o.size));obtain ⟨p5, c5, hv5, _⟩ := qaq hown5;subst hv5;obtain ⟨n5, hn5⟩ : ∃ n5, n5 = n4 + ([41] : List UInt8).length := ⟨_, rfl⟩;rw [<- hn5] at hown5 ⊢
   have hcv : (convert 57 9 (.slice p5 n5 c5)).run Tryz.prog w5 = .ok (.string (brkS (l.map stTx))) w5 := by
    have hl5 : n5 = (byT l ++ [41]).length := by rw [List.length_append, <- HN4.o]; exact hn5
    have ho : w5.ownsRow W.heap.size 5 1 (.slice p5 n5 c5) (byT l ++ [41]).length ((byT l ++ [41]).map Lx.u8v) := by
     rw [<- hl5, List.map_append];exact hown5
    have h := Lx.own_conv w5 ho w5 (Below.refl _ _);rw [qr6] at h;exact h
   clear hown5 hon5 hbk5 hn5
   go_wp2_with fail
   exact bodyPost_ret (v := .tuple #[.string (brkS (l.map stTx)), .int .i64 0]) (by simp [results, Tryz.results25, go_sem]) rfl ⟨by rw [HTR.o], HB5.o⟩
theorem qlj (t u : List Stp) (p : Option Addr) (c : Nat) (p2 : Option Addr) (c2 : Nat) (F : Nat -> Prop) (W : World) (h1 : qff W p t) (h2 : OwnY W F (.slice p2 u.length c2) u) (hl : t.length <= 1000000000) (hl2 : u.length <= 1000000000)
  (ht : ∀ y ∈ t, y.lits.length <= 1000000000 /\ y.links.length <= 1000000000) (hu : ∀ y ∈ u, y.lits.length <= 1000000000 /\ y.links.length <= 1000000000) :
  Calls Tryz.prog 23 #[.slice p t.length c, .slice p2 u.length c2] W fun e w' => e = .returned (.bool (decide (t = u))) /\ Below W.heap.size W w' := by
 obtain ⟨n, hn⟩ : ∃ n, n = t.length := ⟨_, rfl⟩;obtain ⟨n2, hn2⟩ : ∃ n2, n2 = u.length := ⟨_, rfl⟩;have HN := Zh (aI hn hn2);obtain ⟨R, hR⟩ : ∃ R, R = decide (t = u) := ⟨_, rfl⟩;have HR := Zh hR;have HO := Zh (aI h1 (aI h2 (aI ht hu)));rw [<- hn] at hl ⊢;rw [<- hn2] at hl2 ⊢;rw [<- hR];have i1 : (n : Int) <= 1000000000 := by omega
 have i2 : (n2 : Int) <= 1000000000 := by omega
 clear h1 h2 ht hu hn hn2 hR
 by_cases hne : n = n2
 case neg =>
  have hr0 : R = false := by rw [HR.o]; exact decide_eq_false (fun e => hne (by rw [HN.o.1, HN.o.2, e]))
  subst hr0;have e1 : ((n : Int) == (n2 : Int)) = false := by simp; omega
  have e2 : ((n : Int) != (n2 : Int)) = true := by simp; omega
  clear hne;go_enter Tryz.func23, Tryz.ntmps23
  go_wp2_with fail
  exact bodyPost_ret (v := .bool false) (by simp [results, Tryz.results23, go_sem]) rfl ⟨rfl, Below.refl _ _⟩
 subst hne;have HL2 := Zh (show u.length = n from HN.o.2.symm);go_enter Tryz.func23, Tryz.ntmps23
 go_wp2_with fail
 go_loopg [5] n (fun gk s5 wx => ∃ (m : Nat), m + gk = n /\ s5 = .int .i64 (m : Int) /\ Hid (t.take m = u.take m /\ Below W.heap.size W wx))
 case atStart => exact ⟨0, by omega, rfl, Zh ⟨by simp, Below.refl _ _⟩⟩
 case round =>
  obtain ⟨m, hk, rfl, HR0⟩ := hrel;have k0 : (0 : Int) <= (m : Int) := Int.natCast_nonneg m
  by_cases hmn : m < n
  case neg =>
   have hlt : ¬ (m : Int) < (n : Int) := by omega
   have hr0 : R = true := by
    rw [HR.o];have h3 := HR0.o.1;rw [List.take_of_length_le (by rw [<- HN.o.1]; omega), List.take_of_length_le (by rw [HL2.o]; omega)] at h3;exact decide_eq_true h3
   subst hr0;have HB := Zh HR0.o.2;clear hmn hk HR0
   go_wp2_with fail
   exact bodyPost_ret (v := .bool true) (by simp [results, Tryz.results23, go_sem]) rfl ⟨rfl, HB.o⟩
  have k1 : (m : Int) < (n : Int) := Int.ofNat_lt.2 hmn;have HS := Zh (qax hmn (show n <= 9223372036854775807 from by omega));obtain ⟨_, _, e2, hg2⟩ := HO.o.2.1.shape
  injection e2 with e2 e2b e2c
  subst e2;clear e2b e2c;obtain ⟨g2, rfl⟩ := hg2 (by rw [HL2.o]; omega);have hm1 : m < t.length := by rw [<- HN.o.1]; exact hmn
  have hm2 : m < u.length := by rw [HL2.o]; exact hmn
  have hbd := HR0.o.2.trans ((qae wr).mono HR0.o.2.size);obtain ⟨bq, oq, pa, ca, qa, da, hpe, ⟨a0, a1, a2, a3, a4⟩, hsa⟩ := HO.o.1 m hm1;subst hpe
  replace a0 := qaa hbd a0
  replace a1 := qaa hbd a1
  replace a2 := qaa hbd a2
  replace a3 := qaa hbd a3
  replace a4 := qaa hbd a4
  have hsb := hsa.later hbd;obtain ⟨pb, cb, qb, db, b0, b1, b2, b3, b4, bi, bk⟩ := (HO.o.2.1.later hbd).at m hm2;obtain ⟨x, hx⟩ : ∃ x, x = t[m] := ⟨_, rfl⟩;obtain ⟨y, hy⟩ : ∃ y, y = u[m] := ⟨_, rfl⟩;rw [<- hx] at a0 a1 a2 a3 a4 hsb;rw [<- hy] at b0 b1 b2 b3 b4 bi bk;have HX := Zh (aI (HO.o.2.2.1 x (hx ▸ List.getElem_mem hm1)) (HO.o.2.2.2 y (hy ▸ List.getElem_mem hm2)));have hxi : IntsIn wr.drew pa x.lits := hsb.h1
  have hyi : IntsIn wr.drew pb y.lits := by
   obtain ⟨_, _, e, _, _, _, _, h, _⟩ := bi.intsIn
   injection e with e _ _
   subst e; exact h
  have hxk : LksIn wr.drew qa x.links := hsb.h2
  have hyk : LksIn wr.drew qb y.links := by
   obtain ⟨_, _, e, _, _, h, _⟩ := bk.lks
   injection e with e _ _
   subst e; exact h
  have HC := Zh (qh9 x pa ca qa da y pb cb qb db wr.drew hxi hxk hyi hyk (by have := HX.o; omega) (by have := HX.o; omega) (by have := HX.o; omega) (by have := HX.o; omega));have HAC := Zh (aI a0 (aI a1 (aI a2 (aI a3 a4))));have HBC := Zh (aI b0 (aI b1 (aI b2 (aI b3 b4))));have HXY := Zh (show t[m]? = some x /\ u[m]? = some y from ⟨by rw [List.getElem?_eq_getElem hm1, hx], by rw [List.getElem?_eq_getElem hm2, hy]⟩);obtain ⟨E, hE⟩ : ∃ E, E = decide (x = y) := ⟨_, rfl⟩;have HE := Zh hE;rw [<- hE] at HC;have HK := Zh (aI hk hmn);have HBD := Zh hbd;obtain ⟨G, rfl⟩ : ∃ G, gk = G + 1 := ⟨gk - 1, by omega⟩;unfold stV at HC;clear hxi hyi hxk hyk hE hsa hsb bi bk hx hy hk hmn hm1 hm2 hbd hg2 a0 a1 a2 a3 a4 b0 b1 b2 b3 b4
  go_wp2_with fail
  refine qai [(1000, (fun _ => True : World -> Prop)), (8, (fun w => (w.cell? ⟨bq, oq + m * 5, none⟩ = some (.int .u8 x.k) /\ w.cell? ⟨bq, oq + m * 5 + 1, none⟩ = some (.slice pa x.lits.length ca) /\ w.cell? ⟨bq, oq + m * 5 + 2, none⟩ = some (.slice qa x.links.length da) /\ w.cell? ⟨bq, oq + m * 5 + 3, none⟩ = some (.int .i64 x.a) /\ w.cell? ⟨bq, oq + m * 5 + 4, none⟩ = some (.int .i64 x.b)) /\ (w.cell? ⟨g2, m * 5, none⟩ = some (.int .u8 y.k) /\ w.cell? ⟨g2, m * 5 + 1, none⟩ = some (.slice pb y.lits.length cb) /\ w.cell? ⟨g2, m * 5 + 2, none⟩ = some (.slice qb y.links.length db) /\ w.cell? ⟨g2, m * 5 + 3, none⟩ = some (.int .i64 y.a) /\ w.cell? ⟨g2, m * 5 + 4, none⟩ = some (.int .i64 y.b)) : World -> Prop))] (by kernel_rfl) (SL.cons (fun _ => trivial) (SL.cons (fun _ => ⟨HAC.o, HBC.o⟩) SL.nil)) (fun hH => ?_);generalize wr.drew = wd at *;refine tk 0 0 ⟨some 17, .move (.tmp 0), 47, "ref.go:59", #[], none⟩ ?_ rfl rfl ?_ hH fun hH => ?_
  rotate_left
  ·intro w hSw; (try dsimp only at hSw); go_simp; try with_reducible rfl
  try simp only [Act.put, sI, s0, s1]
  refine tk 0 1 ⟨some 18, .move (.tmp 5), 3, "ref.go:59", #[], none⟩ ?_ rfl rfl ?_ hH fun hH => ?_
  rotate_left
  ·intro w hSw; (try dsimp only at hSw); go_simp; try with_reducible rfl
  try simp only [Act.put, sI, s0, s1]
  refine tk 0 2 ⟨some 19, .indexAddr 47 (.tmp 17) (.tmp 18), 0, "ref.go:59", #[⟨0, .data⟩, ⟨1, .data⟩], none⟩ ?_ rfl rfl ?_ hH fun hH => ?_
  rotate_left
  ·intro w hSw; (try dsimp only at hSw); go_simp; try with_reducible rfl
  try simp only [Act.put, sI, s0, s1]
  refine tk 1 3 ⟨some 20, .load 26 (.tmp 19), 26, "ref.go:59", #[⟨2, .data⟩], none⟩ ?_ rfl rfl ?_ hH fun hH => ?_
  rotate_left
  ·intro w hSw; (try dsimp only at hSw); obtain ⟨⟨a0, a1, a2, a3, a4⟩, b0, b1, b2, b3, b4⟩ := hSw; go_simp; try with_reducible rfl
  try simp only [Act.put, sI, s0, s1]
  refine tk 0 4 ⟨some 21, .move (.tmp 1), 47, "ref.go:59", #[], none⟩ ?_ rfl rfl ?_ hH fun hH => ?_
  rotate_left
  ·intro w hSw; (try dsimp only at hSw); go_simp; try with_reducible rfl
  try simp only [Act.put, sI, s0, s1]
  refine tk 0 5 ⟨some 22, .move (.tmp 5), 3, "ref.go:59", #[], none⟩ ?_ rfl rfl ?_ hH fun hH => ?_
  rotate_left
  ·intro w hSw; (try dsimp only at hSw); go_simp; try with_reducible rfl
  try simp only [Act.put, sI, s0, s1]
  refine tk 0 6 ⟨some 23, .indexAddr 47 (.tmp 21) (.tmp 22), 0, "ref.go:59", #[⟨4, .data⟩, ⟨5, .data⟩], none⟩ ?_ rfl rfl ?_ hH fun hH => ?_
  rotate_left
  ·intro w hSw; (try dsimp only at hSw); go_simp; try with_reducible rfl
  try simp only [Act.put, sI, s0, s1]
  refine tk 1 7 ⟨some 24, .load 26 (.tmp 23), 26, "ref.go:59", #[⟨6, .data⟩], none⟩ ?_ rfl rfl ?_ hH fun hH => ?_
  rotate_left
  ·intro w hSw; (try dsimp only at hSw); obtain ⟨⟨a0, a1, a2, a3, a4⟩, b0, b1, b2, b3, b4⟩ := hSw; go_simp; try with_reducible rfl
  try simp only [Act.put, sI, s0, s1]
  refine qac (rs := [8]) (by kernel_rfl) (by simp) ?_;refine AllReadyL.cons (o := ⟨some 25, .call ⟨.value (.func 14), #[.tmp 20, .tmp 24], #[26, 26]⟩, 4, "ref.go:59", #[⟨3, .data⟩, ⟨7, .data⟩], none⟩) rfl (fun K hK => ?_) AllReadyL.nil;go_simp;go_at_call 14;refine HC.o.mono ?_;rintro e w5 ⟨rfl, hb5⟩;have HB5 := Zh (HBD.o.trans (hb5.mono HBD.o.size));clear hb5 HC;refine hK.out _ _ (SL.cons (fun _ => trivial) (SL.cons (fun h => absurd h (by decide +kernel)) SL.nil)) (fun hH => ?_);clear hK K
  try simp only [Act.put, sI, s0, s1]
  refine tk 0 9 ⟨some 26, .unOp .not 4 (.tmp 25), 4, "ref.go:59", #[⟨8, .data⟩], none⟩ ?_ rfl rfl ?_ hH fun hH => ?_
  rotate_left
  ·intro w hSw; (try dsimp only at hSw); go_simp; try with_reducible rfl
  try simp only [Act.put, sI, s0, s1]
  refine qah (by kernel_rfl) ?_ _;clear hH
  cases E with
  | false =>
   have hr0 : R = false := by
    rw [HR.o];refine decide_eq_false (fun e => ?_);have h4 := HE.o;have h5 := HXY.o.1.symm.trans (e ▸ HXY.o.2)
    injection h5 with h5
    rw [h5] at h4;simp at h4
   subst hr0
   go_wp2_with fail
   exact bodyPost_ret (v := .bool false) (by simp [results, Tryz.results23, go_sem]) rfl ⟨rfl, HB5.o⟩
  | true =>
   have HT := Zh (show t.take (m + 1) = u.take (m + 1) from by
    have h4 := of_decide_eq_true HE.o.symm
    rw [List.take_add_one, List.take_add_one, HXY.o.1, HXY.o.2, HR0.o.1, h4])
   go_wp2_with fail
   go_roundg G
   case measure => omega
   case rel => exact ⟨m + 1, by have := HK.o.1; omega, by first | rfl | rw [HS.o.2.2], Zh ⟨HT.o, HB5.o⟩⟩
end Go.Proofs.YtookoagcmejkpaaGreatDoor
namespace Go.Proofs.YtookoagcmejkpaaGreatDoor
open Go Go.RowKit
def stsF : List Stp -> Fo
 | [] => .nil
 | x :: r => .cons true 1 ⟨#[40]⟩ 0 (stX x) (stsF r)
theorem qj8 : ∀ l : List Stp, kidS (stsF l) = l.map stTx
 | [] => rfl
 | x :: r => by
  simp only [stsF, kidS, List.map_cons, qj8 r, List.cons.injEq, and_true]
  apply ByteArray.ext
  apply Array.toList_inj.1
  rw [qeo]
theorem qq2 (l : List Stp) : Lx.txtT true 1 ⟨#[40]⟩ (stsF l) = (brkS (l.map stTx)).data.toList := by
 rw [<- qj8];simp [brkS, brkL, qf5, Lx.txtT]
theorem qqm : ∀ l : List Stp, (∀ x ∈ l, qau x = true) -> GdF (stsF l)
 | [], _ => trivial
 | x :: r, h => ⟨rfl, .inl ⟨rfl, rfl, rfl, (qda x (h x (by simp))).1⟩, qqm r (fun y hy => h y (by simp [hy]))⟩
theorem qmw : ∀ (l : List Stp) (m : Nat), Lx.depF (stsF l) m <= 3
 | [], _ => Nat.zero_le _
 | x :: r, m => by
  have ih := qmw r m;have h1 := qqn x (m - 1);rw [stsF, qdi];simp only [Lx.depT]
  split <;> omega
theorem qsg (l : List Stp) (h : ∀ x ∈ l, qau x = true) : Lx.okT true 1 ⟨#[40]⟩ (stsF l) = true /\ Lx.depT true (stsF l) 201 <= 200 := by
 refine ⟨by simp [Lx.okT, qoe _ (qqm l h)], ?_⟩;have := qmw l (201 - 1);simp only [Lx.depT]
 split <;> omega
theorem qmv : ∀ l : List Stp, (stsF l).len = l.length
 | [] => rfl
 | x :: r => by simp only [stsF, Fo.len, qmv r, List.length_cons]
theorem qmx : ∀ (l : List Stp) (g : Fo), (∀ x ∈ l, qau x = true) -> qbv (stsF l) g = true -> allT g = some l
 | [], .nil, _, _ => rfl
 | [], .cons _ _ _ _ _ _, _, h => by simp [stsF, qbv] at h
 | x :: r, .nil, _, h => by simp [stsF, qbv] at h
 | x :: r, .cons l k s a y g, hm, h => by
  simp only [stsF, qbv, Bool.and_eq_true] at h;have h1 : qfh l k s y = some x := (qpb _ _ _ _ _).2 ⟨hm x (by simp), by simp only [qdu, Bool.and_eq_true]; simp_all⟩;have h2 := qmx r g (fun z hz => hm z (by simp [hz])) (by simp_all);simp only [allT, h1, h2]
theorem qi8 : ∀ f g : Fo, qbv f g = true -> TxOK f -> TxOK g
 | .nil, .nil, _, _ => trivial
 | .nil, .cons _ _ _ _ _ _, h, _ => by simp [qbv] at h
 | .cons _ _ _ _ _ _, .nil, h, _ => by simp [qbv] at h
 | .cons l k s a x r, .cons l' k' s' a' x' r', h, ht => by
  simp only [qbv, Bool.and_eq_true, decide_eq_true_eq] at h;obtain ⟨⟨⟨⟨⟨_, _⟩, hs⟩, _⟩, hx⟩, hr⟩ := h;exact ⟨hs ▸ ht.1, qi8 x x' hx ht.2.1, qi8 r r' hr ht.2.2⟩
theorem qjn : ∀ f g : Fo, qbv f g = true -> LnOK f -> LnOK g
 | .nil, .nil, _, _ => trivial
 | .nil, .cons _ _ _ _ _ _, h, _ => by simp [qbv] at h
 | .cons _ _ _ _ _ _, .nil, h, _ => by simp [qbv] at h
 | .cons l k s a x r, .cons l' k' s' a' x' r', h, ht => by
  simp only [qbv, Bool.and_eq_true, decide_eq_true_eq] at h;obtain ⟨⟨⟨⟨⟨_, _⟩, _⟩, hl⟩, hx⟩, hr⟩ := h;exact ⟨hl ▸ ht.1, qjn x x' hx ht.2.1, qjn r r' hr ht.2.2⟩
theorem qql : ∀ l : List Stp, (∀ x ∈ l, qau x = true) -> TxOK (stsF l) /\ LnOK (stsF l)
 | [], _ => ⟨trivial, trivial⟩
 | x :: r, h => by
  have h1 := qsi x (h x (by simp));have h2 := qql r (fun y hy => h y (by simp [hy]));exact ⟨⟨by decide, h1.1, h2.1⟩, ⟨h1.2.2, h1.2.1, h2.2⟩⟩
theorem qmo (l : List Stp) (h : ∀ x ∈ l, qau x = true) : ∃ (L : List Lx.Tk) (p : Nat), Lx.Toks (brkS (l.map stTx)).data.toList 0 L p 0 /\ ∃ k s a g, Lx.NextO (L.map Lx.toA) 0 true k s a g ((L.map Lx.toA).length : Int) 0 ∧
  g.len = l.length /\ TxOK g /\ LnOK g /\ qlp true k s g = some l := by
 obtain ⟨ho, hd⟩ := qsg l h;obtain ⟨L, p, hT, k, s, a, g, hN, hS, hl⟩ := Lx.text_back (a := 0) ho hd true (.inl ⟨rfl, rfl⟩);rw [qq2] at hT;refine ⟨L, p, hT, k, s, a, g, hN, by rw [hl, qmv], ?_⟩;simp only [qdu, Bool.and_eq_true, decide_eq_true_eq] at hS;obtain ⟨⟨⟨⟨_, hk⟩, hs⟩, _⟩, hF⟩ := hS;have hx := qql l h;refine ⟨qi8 _ _ hF hx.1, qjn _ _ hF hx.2, ?_⟩;unfold qlp;rw [if_pos ⟨rfl, hk.symm, hs.symm⟩];exact qmx l g h hF
set_option maxRecDepth 100000
def kn0 : Stp := ⟨1, [-1, 2], [], 0, 0⟩
def kn1 : Stp := ⟨2, [], [⟨1, 1, 0, 0, 0, 0, []⟩, ⟨7, 0, 0, 0, 0, 0, []⟩], 0, 0⟩
def knS : ByteArray := ⟨#[40, 40, 99, 108, 97, 117, 115, 101, 32, 40, 45, 32, 49, 41, 32, 50, 41, 32, 40, 108, 105, 110, 107, 115, 32, 40, 103, 105, 118, 101, 110, 32, 49, 41, 32, 40, 99, 108, 97, 115, 104, 32, 48, 41, 41, 41]⟩
theorem qtd : [kn0, kn1].all qau = true := by decide +kernel
theorem qt4 : brkS ([kn0, kn1].map stTx) = knS := by kernel_rfl
structure KnW (w : World) (a b c : Nat) : Prop where
 h1 : w.heap[a]? = some (.cells #[.int .i64 (-1), .int .i64 2] 44)
 h2 : w.heap[b]? = some (.cells #[.int .u8 1, .int .i64 1, .int .i64 0, .int .i64 0, .int .i64 0, .int .i64 0, .slice none 0 0, .int .u8 7, .int .i64 0, .int .i64 0, .int .i64 0, .int .i64 0, .int .i64 0, .slice none 0 0] 64)
 h3 : w.heap[c]? = some (.cells #[.int .u8 1, .slice (some ⟨a, 0, none⟩) 2 2, .slice none 0 0, .int .i64 0, .int .i64 0, .int .u8 2, .slice none 0 0, .slice (some ⟨b, 0, none⟩) 2 2, .int .i64 0, .int .i64 0] 26)
theorem qe6 {w : World} {b : Nat} {cs : Array Value} {t : TypeId} {fr : Nat × Nat} (h : w.heap[b]? = some (.cells cs t fr)) (i : Nat) : w.cell? ⟨b, i, none⟩ = cs[i]? := by
 simp [World.cell?, h]
theorem qjt (W : World) (o1 o2 o3 : Obj) : (((W.alloc o1).alloc o2).alloc o3).heap[W.heap.size]? = some o1 /\ (((W.alloc o1).alloc o2).alloc o3).heap[W.heap.size + 1]? = some o2 /\ (((W.alloc o1).alloc o2).alloc o3).heap[W.heap.size + 1 + 1]? = some o3 := by
 have h2 := heap_alloc_new (W.alloc o1) o2;have h3 := heap_alloc_new ((W.alloc o1).alloc o2) o3;rw [World.size_alloc] at h2;rw [World.size_alloc, World.size_alloc] at h3;refine ⟨?_, ?_, h3⟩
 ·rw [heap_alloc_old _ _ (by rw [World.size_alloc, World.size_alloc]; omega), heap_alloc_old _ _ (by rw [World.size_alloc]; omega), heap_alloc_new]
 ·rw [heap_alloc_old _ _ (by rw [World.size_alloc, World.size_alloc]; omega), h2]
theorem qr8 (W : World) (o1 o2 o3 : Obj) : Below W.heap.size W (((W.alloc o1).alloc o2).alloc o3) :=
 ((qab _ _).alloc (by rw [World.size_alloc]; omega) _).alloc (by rw [World.size_alloc, World.size_alloc]; omega) _
theorem qjs {w : World} : IntsIn w none [] := fun i hi => absurd hi (Nat.not_lt_zero i)
theorem KnW.row {w : World} {a b c : Nat} (h : KnW w a b c) : qff w (some ⟨c, 0, none⟩) [kn0, kn1] := by
 have k0 : StArg w kn0 (some ⟨a, 0, none⟩) 2 none 0 := by
  refine ⟨fun i hi => ⟨a, 0, rfl, ?_⟩, (fun i hi => absurd hi (Nat.not_lt_zero i)), (fun i hi => absurd hi (Nat.not_lt_zero i)), (fun e => by cases e), by decide, (fun y hy => by cases hy), by decide, by decide⟩;rw [qe6 h.h1]
  match i, hi with
  | 0, _ => rfl
  | 1, _ => rfl
 have k1 : StArg w kn1 none 0 (some ⟨b, 0, none⟩) 2 := by
  refine ⟨qjs, fun i hi => ⟨b, 0, rfl, ?_⟩, fun i hi b' off e q n c' hc => ?_, (fun _ => rfl), by decide, (fun y hy => ?_), by decide, by decide⟩
  ·match i, hi with
   | 0, _ => simp only [qe6 h.h2]; exact ⟨rfl, rfl, rfl, rfl, rfl, rfl, none, 0, rfl, qjs, Nat.le_refl _, by decide⟩
   | 1, _ => simp only [qe6 h.h2]; exact ⟨rfl, rfl, rfl, rfl, rfl, rfl, none, 0, rfl, qjs, Nat.le_refl _, by decide⟩
  ·cases e
   rw [qe6 h.h2] at hc
   match i, hi with
   | 0, _ => cases hc; exact fun _ => rfl
   | 1, _ => cases hc; exact fun _ => rfl
  ·simp only [kn1, List.mem_cons, List.not_mem_nil, or_false] at hy
   rcases hy with rfl | rfl <;> decide
 intro i hi
 match i, hi with
 | 0, _ => exact ⟨c, 0, some ⟨a, 0, none⟩, 2, none, 0, rfl, by simp only [qe6 h.h3]; exact ⟨rfl, rfl, rfl, rfl, rfl⟩, k0⟩
 | 1, _ => exact ⟨c, 0, none, 0, some ⟨b, 0, none⟩, 2, rfl, by simp only [qe6 h.h3]; exact ⟨rfl, rfl, rfl, rfl, rfl⟩, k1⟩
theorem kn24 (w : World) (a b c : Nat) (h : KnW w a b c) (htab : qb7 w) (hm : Lx.MaxAt w) : Calls Tryz.prog 24 #[.slice (some ⟨c, 0, none⟩) 2 2] w fun e w' => e = .returned (.tuple #[.string knS, .int .i64 0]) /\ Below w.heap.size w w' := by
 refine (qmp [kn0, kn1] (some ⟨c, 0, none⟩) 2 w h.row (Nat.le_refl _) (by decide) htab hm).mono ?_;rintro e w' ⟨rfl, hb⟩;exact ⟨by unfold txR; rw [if_pos qtd, qt4], hb⟩
theorem qtc (W : World) (htab : qb7 W) (hm : Lx.MaxAt W) : Calls Tryz.prog 8 #[] W fun e w' => e = .returned (.bool true) /\ Below W.heap.size W w' := by
 have HT := Zh (aI htab hm);clear htab hm;go_enter Tryz.func8, Tryz.ntmps8
 go_wp2_with fail
 obtain ⟨we, hwe⟩ : ∃ we, we = ((W.alloc (.cells #[.int .i64 (-1), .int .i64 2] 44)).alloc (.cells #[.int .u8 1, .int .i64 1, .int .i64 0, .int .i64 0, .int .i64 0, .int .i64 0, .slice none 0 0, .int .u8 7, .int .i64 0, .int .i64 0, .int .i64 0, .int .i64 0, .int .i64 0, .slice none 0 0] 64)).alloc (.cells #[.int .u8 1, .slice (some ⟨W.heap.size, 0, none⟩) 2 2, .slice none 0 0, .int .i64 0, .int .i64 0, .int .u8 2, .slice none 0 0, .slice (some ⟨(W.heap.size + 1), 0, none⟩) 2 2, .int .i64 0, .int .i64 0] 26) := ⟨_, rfl⟩;have hbw : Below W.heap.size W we := by rw [hwe]; exact qr8 _ _ _ _
 have HBE := Zh hbw;have HK := Zh (kn24 we W.heap.size (W.heap.size + 1) (W.heap.size + 1 + 1) (by rw [hwe]; exact ⟨(qjt _ _ _ _).1, (qjt _ _ _ _).2.1, (qjt _ _ _ _).2.2⟩) (qak HT.o.1 hbw) (HT.o.2.later hbw));rw [<- hwe];clear hbw hwe;refine HK.o.mono ?_;rintro e w6 ⟨rfl, hb6⟩;have HB6 := Zh (HBE.o.trans (hb6.mono HBE.o.size));clear hb6
 go_wp2_with fail
 exact bodyPost_ret (v := .bool true) (by simp [results, Tryz.results8, go_sem]; decide +kernel) rfl ⟨rfl, HB6.o⟩
end Go.Proofs.YtookoagcmejkpaaGreatDoor
namespace Go.Proofs.YtookoagcmejkpaaGreatDoor
open Go Go.RowKit Go.WideShapes Go.ChangeShapes Go.WideElems Go.Deep
theorem qjz : Tryz.prog.cellsOf 3 = 1 := by kernel_rfl
theorem five {α : Type} {l : List α} (h : l.length = 5) : ∃ a b c d e, l = [a, b, c, d, e] := by
 match l, h with
 | [a, b, c, d, e], _ => exact ⟨a, b, c, d, e, rfl⟩
instance : Inhabited TkA := ⟨⟨0, ⟨#[]⟩, 0⟩⟩
instance : Inhabited Fo := ⟨.nil⟩
set_option maxRecDepth 100000
theorem qk4 : Tryz.prog.cellsOf 44 = 1 := by kernel_rfl
theorem qke {H : Type} {enc : TypeId × Value -> H} {W : World} {n t e : Nat} {y : Value} {x : DataW H × List MemPlace} (ht : Tryz.prog.underlying t = some (.slice e)) (he : Tryz.prog.underlying e = some (.int .i64)) (hce : Tryz.prog.cellsOf e = 1) (h : DataW.trod enc Tryz.prog W 0 (fun _ => true) true n t [y] = some x) :
  ∃ (q : Option Addr) (c : Nat) (l : List Int), y = .slice q l.length c /\ l.length <= c /\ c <= 9223372036854775807 /\ (q = none -> c = 0) /\ IntsIn W q l /\ (0 < c -> ∀ ad, q = some ad -> ad = ⟨ad.block, ad.off, none⟩) := by
 rcases open_ints ht he hce h with ⟨hcs, _⟩ | ⟨a', len', cap', zs, hcs, _, hl, hmx, hz, _, hcell, hwf⟩
 ·simp at hcs
  exact ⟨none, 0, [], hcs, Nat.le_refl _, by omega, fun _ => rfl, fun i hi => absurd hi (Nat.not_lt_zero i), fun h => by omega⟩
 ·simp at hcs
  simp only [if_true] at hz;have hml : maxLen = 9223372036854775807 := rfl;have hlen : (zs.take len').length = len' := by simp; omega
  have hspot : 0 < cap' -> a' = ⟨a'.block, a'.off, none⟩ := fun h => by
   obtain ⟨bk, off, spot⟩ := a';have : spot = none := by simpa [Addr.add] using World.cell?_spot (hcell 0 (by omega))
   subst this; rfl
  refine ⟨some a', cap', zs.take len', by rw [hlen]; exact hcs, by rw [hlen]; exact hl, by omega, (fun h => by cases h), fun i hi => ?_, fun h ad e => by cases e; exact hspot h⟩;rw [hlen] at hi;have hs := hspot (by omega);refine ⟨a'.block, a'.off, congrArg some hs, ?_⟩;have hc := hcell i (by omega);rw [hs, Lib.add_plain] at hc
  have e : (zs.take len')[i]'(by rw [hlen]; exact hi) = zs.getD i 0 := by
   rw [List.getElem_take];simp [List.getD, List.getElem?_eq_getElem (show i < zs.length by omega)]
  rw [e];exact hc
theorem qp8 : Tryz.prog.cellsOf 64 = 7 := by kernel_rfl
theorem qqa : Tryz.prog.cellsOf 61 = 1 := by kernel_rfl
theorem qp9 : Tryz.prog.cellsOf 62 = 1 := by kernel_rfl
theorem qqe : Tryz.prog.cellsOf 22 = 1 := by kernel_rfl
theorem qqd : Tryz.prog.cellsOf 23 = 1 := by kernel_rfl
theorem qqc : Tryz.prog.cellsOf 24 = 1 := by kernel_rfl
instance : Inhabited Lk := ⟨⟨0, 0, 0, 0, 0, 0, []⟩⟩
theorem qi0 {n : Int} (h : (Lit.int .u8 n).wf = true) : 0 <= n /\ n <= 255 := by
 have h1 : IntKind.u8.min <= n /\ n <= IntKind.u8.max := by simpa [Lit.wf] using h
 have a : IntKind.u8.min = 0 := by decide
 have b : IntKind.u8.max = 255 := by decide
 rw [a, b] at h1;exact h1
theorem qlo {H : Type} {enc : TypeId × Value -> H} {W : World} {n : Nat} {y : Value} {x : DataW H × List MemPlace} (h : DataW.trod enc Tryz.prog W 0 (fun _ => true) true n 24 [y] = some x) :
  ∃ (q : Option Addr) (c : Nat) (l : List Lk), y = .slice q l.length c /\ l.length <= c /\ c <= 9223372036854775807 /\ SlOK q c /\ LksIn W q l /\ LksOK W q l /\ KdL l /\ (0 < c -> ∀ ad, q = some ad -> ad = ⟨ad.block, ad.off, none⟩) := by
 rcases open_slice Tryz.underlying24 h with ⟨hcs, _⟩ | ⟨a', len, cap, mm, n', Dd, Pl, hcs, _, hl, hmx, hmm, hd, hx⟩
 ·simp at hcs
  exact ⟨none, 0, [], hcs, Nat.le_refl _, by omega, fun _ => rfl, (fun i hi => absurd hi (Nat.not_lt_zero i)), (fun i hi => absurd hi (Nat.not_lt_zero i)), (fun y hy => by cases hy), fun h => by omega⟩
 ·simp at hcs
  simp only [if_true] at hmm;have hml : maxLen = 9223372036854775807 := rfl
  have each : ∀ i, i < mm -> ∃ q : Lk × Option Addr × Nat, W.cell? (a'.add (i * 7)) = some (.int .u8 q.1.k) /\ W.cell? (a'.add (i * 7 + 1)) = some (.int .i64 q.1.lit) /\ W.cell? (a'.add (i * 7 + 2)) = some (.int .i64 q.1.a) /\ W.cell? (a'.add (i * 7 + 3)) = some (.int .i64 q.1.b) /\ W.cell? (a'.add (i * 7 + 4)) = some (.int .i64 q.1.i) /\ W.cell? (a'.add (i * 7 + 5)) = some (.int .i64 q.1.j) /\ W.cell? (a'.add (i * 7 + 6)) = some (.slice q.2.1 q.1.l.length q.2.2) ∧
    IntsIn W q.2.1 q.1.l /\ q.1.l.length <= q.2.2 /\ q.2.2 <= 9223372036854775807 /\ (0 <= q.1.k /\ q.1.k <= 255) /\ SlOK q.2.1 q.2.2 := by
   intro i hi;obtain ⟨cs', h1, h2⟩ := hx i hi;rw [qp8] at h1;obtain ⟨_, hlen, hcell⟩ := World.cells?_some h1;obtain ⟨xs, k, hk, hxy, _, hxl, hf⟩ := DataW.trod_struct Tryz.underlying64 h2
   match xs, hxl, cs', hlen with
   | [y0, y1, y2, y3, y4, y5, y6], _, [v0, v1, v2, v3, v4, v5, v6], _ =>
    have g0 := hf 0 _ rfl;have g1 := hf 1 _ rfl;have g2 := hf 2 _ rfl;have g3 := hf 3 _ rfl;have g4 := hf 4 _ rfl;have g5 := hf 5 _ rfl;have g6 := hf 6 _ rfl;simp [qqa, qk4, qjz, qp9] at g0 g1 g2 g3 g4 g5 g6;obtain ⟨k0, e0, _, w0⟩ := DataW.trod_int Tryz.underlying61 g0;obtain ⟨k1, e1, _, w1⟩ := DataW.trod_int Tryz.underlying44 g1;obtain ⟨k2, e2, _, w2⟩ := DataW.trod_int Tryz.underlying3 g2;obtain ⟨k3, e3, _, w3⟩ := DataW.trod_int Tryz.underlying3 g3;obtain ⟨k4, e4, _, w4⟩ := DataW.trod_int Tryz.underlying3 g4;obtain ⟨k5, e5, _, w5⟩ := DataW.trod_int Tryz.underlying3 g5;obtain ⟨q6, c6, l6, e6, r1, r2, r3, r4, _⟩ := qke Tryz.underlying62 Tryz.underlying3 qjz g6;cases e0;cases e1;cases e2;cases e3;cases e4;cases e5;subst e6;have c0 := hcell 0 (by omega);have c1 := hcell 1 (by omega);have c2 := hcell 2 (by omega);have c3 := hcell 3 (by omega);have c4 := hcell 4 (by omega);have c5 := hcell 5 (by omega);have c6' := hcell 6 (by omega);rw [add_add] at c0 c1 c2 c3 c4 c5 c6';exact ⟨(⟨k0, k1, k2, k3, k4, k5, l6⟩, q6, c6), by simpa using c0, by simpa using c1, by simpa using c2, by simpa using c3, by simpa using c4, by simpa using c5, by simpa using c6', r4, r1, r2, qi0 w0, r3⟩
  obtain ⟨q, hq⟩ := choose_lt each;have hll : ((List.range len).map fun i => (q i).1).length = len := by simp
  have hspot : 0 < cap -> a' = ⟨a'.block, a'.off, none⟩ := fun h => by
   obtain ⟨bk, off, spot⟩ := a';have : spot = none := by simpa [Addr.add] using World.cell?_spot (hq 0 (by omega)).1
   subst this; rfl
  refine ⟨some a', cap, (List.range len).map fun i => (q i).1, by rw [hll]; exact hcs, by rw [hll]; exact hl, by omega, (fun h => by cases h), fun i hi => ?_, fun i hi b off e q' n' c' hc => ?_, fun y hy => ?_, fun h ad e => by cases e; exact hspot h⟩
  ·rw [hll] at hi
   have hs := hspot (by omega);obtain ⟨c0, c1, c2, c3, c4, c5, c6, r1, r2, r3, _⟩ := hq i (by omega);rw [hs, Lib.add_plain] at c0 c1 c2 c3 c4 c5 c6;have e : ((List.range len).map fun i => (q i).1)[i]'(by rw [hll]; exact hi) = (q i).1 := by simp
   rw [e];exact ⟨a'.block, a'.off, congrArg some hs, c0, c1, c2, c3, c4, c5, (q i).2.1, (q i).2.2, c6, r1, r2, r3⟩
  ·rw [hll] at hi
   cases e;obtain ⟨_, _, _, _, _, _, c6, _, _, _, _, k3⟩ := hq i (by omega);rw [Lib.add_plain, <- Nat.add_assoc, hc] at c6
   injection c6 with c6; injection c6 with e1 e2 e3
   subst e1 e3;exact k3
  ·obtain ⟨i, hi, rfl⟩ := List.mem_map.1 hy
   have hi' := List.mem_range.1 hi;obtain ⟨_, _, _, _, _, _, _, _, _, _, k1, _⟩ := hq i (by omega);exact k1
theorem qqb : Tryz.prog.cellsOf 26 = 5 := by kernel_rfl
instance : Inhabited Stp := ⟨⟨0, [], [], 0, 0⟩⟩
theorem qle {H : Type} {enc : TypeId × Value -> H} {W : World} {n : Nat} {cs : List Value} {y : DataW H × List MemPlace} (hlen : cs.length = 5) (h : DataW.trod enc Tryz.prog W 0 (fun _ => true) true n 26 cs = some y) :
  ∃ (x : Stp) (p : Option Addr) (c : Nat) (q : Option Addr) (d : Nat), cs = [.int .u8 x.k, .slice p x.lits.length c, .slice q x.links.length d, .int .i64 x.a, .int .i64 x.b] /\ StArg W x p c q d := by
 obtain ⟨xs, k, hk, hxy, _, hxl, hf2⟩ := DataW.trod_struct Tryz.underlying26 h;obtain ⟨v0, v1, v2, v3, v4, rfl⟩ := five hlen;obtain ⟨y0, y1, y2, y3, y4, rfl⟩ := five hxl;have g0 := hf2 0 _ rfl;have g1 := hf2 1 _ rfl;have g2 := hf2 2 _ rfl;have g3 := hf2 3 _ rfl;have g4 := hf2 4 _ rfl;simp [qqe, qqd, qqc, qjz] at g0 g1 g2 g3 g4;obtain ⟨k0, e0, _, w0⟩ := DataW.trod_int Tryz.underlying22 g0;obtain ⟨q1, c1, l1, e1, a1, a2, a3, a4, a5⟩ := qke Tryz.underlying23 Tryz.underlying44 qk4 g1;obtain ⟨q2, c2, l2, e2, b1, b2, b3, b4, b5, b6, _⟩ := qlo g2;obtain ⟨k3, e3, _, w3⟩ := DataW.trod_int Tryz.underlying3 g3;obtain ⟨k4, e4, _, w4⟩ := DataW.trod_int Tryz.underlying3 g4;cases e0;cases e3;cases e4;subst e1;subst e2;exact ⟨⟨k0, l1, l2, k3, k4⟩, q1, c1, q2, c2, rfl, ⟨a4, b4, b5, a3, qi0 w0, b6, Nat.le_trans a1 a2, Nat.le_trans b1 b2⟩⟩
theorem qln {H : Type} {enc : TypeId × Value -> H} {W : World} {base : Nat} {v : Value} {d : DataW H} {p : List MemPlace} (hval : Value.okWide Tryz.prog W .any base 47 v) (h : DataW.Trod enc Tryz.prog W 0 (fun _ => true) true 47 v d p) :
  ∃ (q : Option Addr) (c : Nat) (l : List Stp), v = .slice q l.length c /\ l.length <= c /\ c <= 9223372036854775807 /\ qff W q l := by
 obtain ⟨fuel, hf⟩ := h;rcases open_slice Tryz.underlying47 hf with ⟨hcs, _⟩ | ⟨a', len, cap, mm, n', Dd, Pl, hcs, _, hl, hmx, hmm, hd, hx⟩
 ·have hv : v = .slice none 0 0 := by
   obtain ⟨a, b, c, rfl⟩ := okWide_slice Tryz.underlying47 hval
   simpa [Value.cells] using hcs
  exact ⟨none, 0, [], hv, Nat.le_refl _, by omega, fun i hi => absurd hi (Nat.not_lt_zero i)⟩
 ·have hv : v = .slice (some a') len cap := by
   obtain ⟨a, b, c, rfl⟩ := okWide_slice Tryz.underlying47 hval
   simpa [Value.cells] using hcs
  subst hv;simp only [if_true] at hmm;have hml : maxLen = 9223372036854775807 := rfl
  have each : ∀ i, i < mm -> ∃ q : Stp × (Option Addr × Nat) × (Option Addr × Nat), (W.cell? (a'.add (i * 5)) = some (.int .u8 q.1.k) /\ W.cell? (a'.add (i * 5 + 1)) = some (.slice q.2.1.1 q.1.lits.length q.2.1.2) /\ W.cell? (a'.add (i * 5 + 2)) = some (.slice q.2.2.1 q.1.links.length q.2.2.2) /\ W.cell? (a'.add (i * 5 + 3)) = some (.int .i64 q.1.a) /\ W.cell? (a'.add (i * 5 + 4)) = some (.int .i64 q.1.b)) ∧
    StArg W q.1 q.2.1.1 q.2.1.2 q.2.2.1 q.2.2.2 := by
   intro i hi;obtain ⟨cs', h1, h2⟩ := hx i hi;rw [qqb] at h1;obtain ⟨_, hlen, hcell⟩ := World.cells?_some h1;obtain ⟨x, p, c, q, d, rfl, hs⟩ := qle hlen h2;have c0 := hcell 0 (by omega);have c1 := hcell 1 (by omega);have c2 := hcell 2 (by omega);have c3 := hcell 3 (by omega);have c4 := hcell 4 (by omega);rw [add_add] at c0 c1 c2 c3 c4;exact ⟨(x, (p, c), (q, d)), ⟨by simpa using c0, by simpa using c1, by simpa using c2, by simpa using c3, by simpa using c4⟩, hs⟩
  obtain ⟨q, hq⟩ := choose_lt each;have hll : ((List.range len).map fun i => (q i).1).length = len := by simp
  have hspot : 0 < cap -> a' = ⟨a'.block, a'.off, none⟩ := fun h => by
   obtain ⟨bk, off, spot⟩ := a';have : spot = none := by simpa [Addr.add] using World.cell?_spot (hq 0 (by omega)).1.1
   subst this; rfl
  refine ⟨some a', cap, (List.range len).map fun i => (q i).1, by rw [hll], by rw [hll]; exact hl, by omega, fun i hi => ?_⟩;rw [hll] at hi;have hs := hspot (by omega);obtain ⟨⟨c0, c1, c2, c3, c4⟩, hst⟩ := hq i (by omega);rw [hs, Lib.add_plain] at c0 c1 c2 c3 c4;have e : ((List.range len).map fun i => (q i).1)[i]'(by rw [hll]; exact hi) = (q i).1 := by simp
  rw [e];exact ⟨a'.block, a'.off, _, _, _, _, congrArg some hs, ⟨c0, c1, c2, c3, c4⟩, hst⟩
end Go.Proofs.YtookoagcmejkpaaGreatDoor
namespace Go.Proofs.YtookoagcmejkpaaGreatDoor
set_option maxRecDepth 100000
open Go Go.RowKit Go.Maps
theorem qq0 {W : World} {p : Option Addr} {l : List Lx.Tk} (h : Lx.TksIn W p l) : TksA W p (l.map Lx.toA) := fun i hi => by
 have hi' : i < l.length := by simpa using hi
 obtain ⟨b, off, e, h1, h2, h3⟩ := h i hi';refine ⟨b, off, e, ?_, ?_, ?_⟩ <;> rw [List.getElem_map]
 ·exact h1
 ·exact h2
 ·exact h3
theorem qtm {x : Stp} (h : qed x = false) (hm : qau x = true) : FewS x := by
 obtain ⟨k, lits, links, a, b⟩ := x;obtain ⟨_, _, m3, m4, _⟩ := qbn hm;unfold qed at h;simp only [Bool.or_eq_false_iff, Bool.and_eq_false_iff, decide_eq_false_iff_not] at h;obtain ⟨⟨⟨⟨h1, h2⟩, _⟩, _⟩, _⟩ := h;exact ⟨by simp only; omega, by simp only; omega⟩
theorem qmc (l : List Stp) : ∃ (A : ByteArray) (E : Int), txR l = .tuple #[.string A, .int .i64 E] /\ (if l.all qau then A = brkS (l.map stTx) /\ E = 0 else E = 2) := by
 unfold txR;cases h : l.all qau
 ·exact ⟨_, _, by simp; exact ⟨rfl, rfl⟩, by simp⟩
 ·exact ⟨_, _, by simp; exact ⟨rfl, rfl⟩, by simp⟩
theorem law5 (l : List Stp) (p0 : Option Addr) (c : Nat) (W : World) (hrow : qff W p0 l) (hc : l.length <= c) (hn : l.length <= 9223372036854775807) (htab : qb7 W) (hK : qt9 W) (hm : Lx.MaxAt W) :
  Calls Tryz.prog 5 #[.slice p0 l.length c] W fun e w' => e = .returned (.bool true) /\ Below W.heap.size W w' := by
 obtain ⟨N, hN⟩ : ∃ N, N = l.length := ⟨_, rfl⟩;have HN := Zh hN;have HKW := Zh (hK W (Below.refl _ _))
 by_cases hbig : 60 < l.length
 ·rw [<- hN] at hn hbig ⊢
  have h1 : (60 : Int) < (N : Int) := by omega
  clear hrow hc hn htab hK hm hN hbig;go_enter Tryz.func5, Tryz.ntmps5
  go_wp2_with fail
  refine HKW.o.mono ?_;rintro e wz ⟨rfl, hbz⟩;have HBZ := Zh hbz;clear hbz
  go_wp2_with fail
  exact bodyPost_ret (v := .bool true) (by simp [results, Tryz.results5, go_sem]) rfl ⟨rfl, HBZ.o⟩
 have hl60 : l.length <= 60 := by omega
 have HI := Zh (aI hrow (aI htab (aI hK (aI hm (aI hc hl60)))));rw [<- hN] at hn hbig ⊢;have h1 : ¬ (60 : Int) < (N : Int) := by omega
 have n1 : (N : Int) <= 60 := by rw [<- hN] at hl60; omega
 clear hrow hc hn htab hK hm hN hbig hl60 HKW;go_enter Tryz.func5, Tryz.ntmps5
 go_wp2_with fail
 go_loopg [3, 4] N (fun gk s3 s4 wx => ∃ (m : Nat) (B : Bool), m + gk = N /\ s3 = .bool B /\ s4 = .int .i64 (m : Int) /\ Hid (B = (l.take m).all qau /\ (l.take m).all (fun x => !qed x) = true /\ Below W.heap.size W wx))
 case atStart => exact ⟨0, true, by omega, rfl, rfl, Zh ⟨by simp, by simp, Below.refl _ _⟩⟩
 case round =>
  obtain ⟨m, B, hk, rfl, rfl, HR0⟩ := hrel;have k0 : (0 : Int) <= (m : Int) := Int.natCast_nonneg m;have HBW := Zh HR0.o.2.2
  by_cases hmn : m < N
  ·have k1' : (m : Int) < (N : Int) := Int.ofNat_lt.2 hmn
   have hml : m < l.length := by rw [<- HN.o]; exact hmn
   obtain ⟨bq, oq, p, c', q, d, hpe, ⟨c0, c1, c2, c3, c4'⟩, hsa⟩ := HI.o.1 m hml;subst hpe;obtain ⟨x, hx⟩ : ∃ x, x = l[m] := ⟨_, rfl⟩;have HXL := Zh (show x ∈ l /\ l.take (m + 1) = l.take m ++ [x] from ⟨hx ▸ List.getElem_mem hml, by rw [List.take_add_one, List.getElem?_eq_getElem hml, <- hx]; rfl⟩);rw [<- hx] at c0 c1 c2 c3 c4' hsa;have HCC := Zh (aI c0 (aI c1 (aI c2 (aI c3 c4'))));have HSA := Zh hsa
   replace c0 := qaa HBW.o c0
   replace c1 := qaa HBW.o c1
   replace c2 := qaa HBW.o c2
   replace c3 := qaa HBW.o c3
   replace c4' := qaa HBW.o c4'
   have HS := Zh (qax hmn (show N <= 9223372036854775807 from by omega));have HSA0 := Zh (hsa.later HBW.o);have HC := Zh (qtl x.k x.a x.b p c' x.lits.length q d x.links.length x.lits x.links wr rfl rfl HSA0.o.n1 HSA0.o.n2 HSA0.o.h2);obtain ⟨GX, hGX⟩ : ∃ g, g = qed x := ⟨_, rfl⟩;have HGX := Zh hGX;rw [show qed ⟨x.k, x.lits, x.links, x.a, x.b⟩ = GX from hGX.symm] at HC;obtain ⟨G, rfl⟩ : ∃ G, gk = G + 1 := ⟨gk - 1, by omega⟩;have HK := Zh (aI hk hmn);clear hk hmn hml hx hsa hGX
   go_wp2_with fail
   refine HC.o.mono ?_;rintro e w3 ⟨rfl, hb3⟩;have HB3 := Zh (HBW.o.trans (hb3.mono HBW.o.size));clear HC c0 c1 c2 c3 c4' hb3
   cases GX with
   | true =>
    have HKK := Zh (HI.o.2.2.1 w3 HB3.o)
    go_wp2_with fail
    refine HKK.o.mono ?_;rintro e wz ⟨rfl, hbz⟩;have HBZ := Zh (HB3.o.trans (hbz.mono HB3.o.size));clear hbz
    go_wp2_with fail
    exact bodyPost_ret (v := .bool true) (by simp [results, Tryz.results5, go_sem]) rfl ⟨rfl, HBZ.o⟩
   | false =>
    cases B with
    | false =>
     have HFIN := Zh (show false = (l.take (m + 1)).all qau /\ (l.take (m + 1)).all (fun x => !qed x) = true /\ Below W.heap.size W w3 from
      ⟨by rw [HXL.o.2, List.all_append, <- HR0.o.1]; rfl, by rw [HXL.o.2, List.all_append, HR0.o.2.1]; simp [<- HGX.o], HB3.o⟩)
     go_wp2_with fail
     go_roundg G
     case measure => omega
     case rel => exact ⟨m + 1, false, by have := HK.o.1; omega, rfl, by first | rfl | rw [HS.o.2.2], HFIN⟩
    | true =>
     have HSA3 := Zh (HSA.o.later HB3.o);obtain ⟨M, hM⟩ : ∃ M, M = qau x := ⟨_, rfl⟩;have HM := Zh hM;have HC2 := Zh (qs7 x.k x.a x.b p c' x.lits.length q d x.links.length x.lits x.links M w3 rfl rfl HSA3.o.n1 HSA3.o.n2 HSA3.o.h1 HSA3.o.h2 HSA3.o.hkd hM);have d0 := qaa HB3.o HCC.o.1;have d1 := qaa HB3.o HCC.o.2.1;have d2 := qaa HB3.o HCC.o.2.2.1;have d3 := qaa HB3.o HCC.o.2.2.2.1;have d4 := qaa HB3.o HCC.o.2.2.2.2;clear hM
     go_wp2_with fail
     refine HC2.o.mono ?_;rintro e w4 ⟨rfl, hb4⟩;have HB4 := Zh (HB3.o.trans (hb4.mono HB3.o.size));clear HC2 d0 d1 d2 d3 d4 hb4
     have HFIN := Zh (show M = (l.take (m + 1)).all qau /\ (l.take (m + 1)).all (fun x => !qed x) = true /\ Below W.heap.size W w4 from
      ⟨by rw [HXL.o.2, List.all_append, <- HR0.o.1]; simp [HM.o], by rw [HXL.o.2, List.all_append, HR0.o.2.1]; simp [<- HGX.o], HB4.o⟩)
     go_wp2_with fail
     go_roundg G
     case measure => omega
     case rel => exact ⟨m + 1, M, by have := HK.o.1; omega, rfl, by first | rfl | rw [HS.o.2.2], HFIN⟩
  ·have hlt : ¬ (m : Int) < (N : Int) := by omega
   have hmN : m = l.length := by have := HN.o; omega
   subst hmN;rw [List.take_length] at HR0
   have hfew : ∀ x ∈ l, qau x = true -> FewS x := fun x hx hm => by
    have := List.all_eq_true.1 HR0.o.2.1 x hx;exact qtm (by simpa using this) hm
   have HF := Zh hfew
   have hrowL : ∀ {w : World}, Below W.heap.size W w -> qff w p0 l := fun hb i hi => by
    obtain ⟨b, off, p, c, q, d, e, ⟨a0, a1, a2, a3, a4⟩, hs⟩ := HI.o.1 i hi;exact ⟨b, off, p, c, q, d, e, ⟨qaa hb a0, qaa hb a1, qaa hb a2, qaa hb a3, qaa hb a4⟩, hs.later hb⟩
   have HRL := Zh (show ∀ w, Below W.heap.size W w -> qff w p0 l from fun w hb => hrowL hb);obtain ⟨A, E, hA, hAE⟩ := qmc l;have HAE := Zh hAE;have HB := Zh HR0.o.1;have HC24 := Zh (qmp l p0 c wr (HRL.o wr HBW.o) HI.o.2.2.2.2.1 (Nat.le_trans HI.o.2.2.2.2.2 (by decide)) (qak HI.o.2.1 HBW.o) (HI.o.2.2.2.1.later HBW.o));have HC25 := Zh (fun (w : World) (hb : Below W.heap.size W w) => qsf l p0 c w (HRL.o w hb) HI.o.2.2.2.2.1 HI.o.2.2.2.2.2 HF.o);rw [hA] at HC24 HC25;rw [<- HN.o] at HC24 HC25;clear hfew hrowL hA hAE hmn hk HR0
   go_wp2_with fail
   refine HC24.o.mono ?_;rintro e w3 ⟨rfl, hb3⟩;have HB3 := Zh (HBW.o.trans (hb3.mono HBW.o.size));clear HC24 hb3
   go_wp2_with fail
   refine (HC25.o w3 HB3.o).mono ?_;rintro e w4 ⟨rfl, hb4⟩;have HB4 := Zh (HB3.o.trans (hb4.mono HB3.o.size));clear HC25 hb4
   cases B with
   | false =>
    have hE : E = 2 := by have h := HAE.o; rw [<- HB.o] at h; simpa using h
    subst hE;have HKK := Zh (HI.o.2.2.1 w4 HB4.o)
    go_wp2_with fail
    refine HKK.o.mono ?_;rintro e wz ⟨rfl, hbz⟩;have HBZ := Zh (HB4.o.trans (hbz.mono HB4.o.size));clear hbz
    go_wp2_with fail
    exact bodyPost_ret (v := .bool true) (by simp [results, Tryz.results5, go_sem]) rfl ⟨rfl, HBZ.o⟩
   | true =>
    have hE : A = brkS (l.map stTx) /\ E = 0 := by have h := HAE.o; rw [<- HB.o] at h; simpa using h
    obtain ⟨hA, rfl⟩ := hE;have HA := Zh hA;clear hA
    by_cases hlong : (100000 : Int) < (A.size : Int)
    ·have HKK := Zh (HI.o.2.2.1 w4 HB4.o)
     go_wp2_with fail
     refine HKK.o.mono ?_;rintro e wz ⟨rfl, hbz⟩;have HBZ := Zh (HB4.o.trans (hbz.mono HB4.o.size));clear hbz
     go_wp2_with fail
     exact bodyPost_ret (v := .bool true) (by simp [results, Tryz.results5, go_sem]) rfl ⟨rfl, HBZ.o⟩
    ·obtain ⟨cap, w5, hcv, hcap, hb5, hby, hsz5⟩ := Lx.conv_bytes w4 A
     have HB5 := Zh (HB4.o.trans (hb5.mono HB4.o.size));have HBY := Zh (aI hby (aI hcap (show A.size <= 100000 from by omega)));have hmay : ∀ x ∈ l, qau x = true := List.all_eq_true.1 HB.o.symm;obtain ⟨L, pe, hT, k, s, a, g, hNx, hgl, hgt, hgn, hra⟩ := qmo l hmay;rw [<- HA.o] at hT;have hal : A.data.toList.length = A.size := Array.length_toList (xs := A.data)
     have hLl : (L.map Lx.toA).length <= 1048576 := by
      have h3 := Lx.toks_wt hT;have h4 := Lx.wtA_length (L.map Lx.toA);have h5 := HBY.o.2.2;omega
     have HLL := Zh hLl
     have HTK := Zh (show Calls Tryz.prog 26 #[.slice (some ⟨w4.heap.size, 0, none⟩) A.size cap] w5 fun e w' => ∃ (p' : Option Addr) (c' : Nat), e = .returned (.tuple #[.slice p' L.length c', .int .i64 (pe : Int), .int .i64 0]) /\ TksA w' p' (L.map Lx.toA) /\ L.length <= c' /\ Below w5.heap.size w5 w' from by
      have h := Lx.reftokens_any (some ⟨w4.heap.size, 0, none⟩) cap A.data.toList w5 HBY.o.1 (by rw [hal]; exact HBY.o.2.1) (by rw [hal]; have := HBY.o.2.2; omega);rw [hal] at h;refine h.mono ?_;rintro e w1 ⟨p1, c1, l1, a1, e1, rfl, htk, hown, hb1⟩;obtain ⟨rfl, rfl, rfl⟩ := htk.uniq hT
      exact ⟨p1, c1, rfl, qq0 (Lx.own_tks hown), qf1 hown, hb1⟩)
     have HNX := Zh (aI hNx (aI hgl (aI hgt (aI hgn hra))));obtain ⟨NL, hNL⟩ : ∃ n, n = L.length := ⟨_, rfl⟩;have HNL := Zh hNL;rw [<- hNL] at HTK;clear hby hcap hb5 hsz5 hmay hT hNx hgl hgt hgn hra hal hLl hNL
     go_wp2_with fail
     refine HTK.o.mono ?_;rintro e w6 ⟨p6, c6, rfl, htk, hcap6, hb6⟩;have HB6 := Zh (HB5.o.trans (hb6.mono HB5.o.size))
     have HNEX := Zh (show Calls Tryz.prog 27 #[.slice p6 NL c6, .int .i64 0] w6 fun e w' => ∃ (q : Option Addr) (c' : Nat), e = .returned (.tuple #[trV true k s a q g.len c', .int .i64 (NL : Int), .int .i64 0]) /\ g.len <= c' /\ FoIn w' (fun b => w6.heap.size <= b) g q /\ Below w6.heap.size w6 w' from by
      have h := Lx.next22 p6 c6 (L.map Lx.toA) 0 w6 htk (by rw [List.length_map, <- HNL.o]; exact hcap6) HLL.o;rw [List.length_map, <- HNL.o] at h;refine h.mono ?_;rintro e w1 ⟨q, c', b, k2, s2, a2, g2, n2, e2, rfl, h1, h2, h3, h4⟩;obtain ⟨rfl, rfl, rfl, rfl, rfl, rfl, rfl⟩ := Lx.NextO.uniq h4 HNX.o.1
      exact ⟨q, c', by rw [List.length_map, <- HNL.o], h1, h2, h3⟩)
     clear HTK htk hcap6 hb6;obtain ⟨KG, hKG⟩ : ∃ n, n = g.len := ⟨_, rfl⟩;have HKG := Zh hKG;rw [<- hKG] at HNEX;unfold trV at HNEX;clear hKG
     go_wp2_with fail
     refine HNEX.o.mono ?_;rintro e w7 ⟨q7, c7, rfl, hc7, hq7, hb7⟩;obtain ⟨w8, hw8⟩ : ∃ w8, w8 = w7.alloc (.cells #[.bool true, .int .u8 k, .string s, .int .i64 a, .slice q7 KG c7] 35) := ⟨_, rfl⟩;have HB8 := Zh (show Below w7.heap.size w7 w8 from by rw [hw8]; exact qab _ _);have HBW7 := Zh (HB6.o.trans (hb7.mono HB6.o.size));have HBW8 := Zh (HBW7.o.trans (HB8.o.mono HBW7.o.size));have HC21 := Zh (qm7 true k s a g q7 c7 _ w8 (hq7.later HB8.o) (by rw [<- HKG.o]; exact hc7) (by have := HNX.o.2.1; have := HI.o.2.2.2.2.2; omega) HNX.o.2.2.1 HNX.o.2.2.2.1 (qak HI.o.2.1 HBW8.o));rw [HNX.o.2.2.2.2, <- HKG.o] at HC21
     have HLT := Zh (show ∀ y ∈ l, y.lits.length <= 1000000000 /\ y.links.length <= 1000000000 from fun y hy => by
      have hm := List.all_eq_true.1 HB.o.symm y hy;obtain ⟨ky, lits, links, ay, by_⟩ := y;obtain ⟨_, _, m3, m4, _⟩ := qbn hm
      exact ⟨by simp only; omega, by simp only; omega⟩)
     obtain ⟨y0, y1, y2, y3, y4, yf⟩ := qam w7 true k s a (.slice q7 KG c7);have HW8 := Zh hw8;unfold trV at HC21;clear HNEX hc7 hq7 hb7 hw8
     go_wp2_with fail
     rw [<- HW8.o];refine HC21.o.mono ?_;rintro e w9 ⟨⟨pp, cc, rfl, hoy⟩, hb9⟩;have HBW9 := Zh (HBW8.o.trans (hb9.mono HBW8.o.size));have HC23 := Zh (qlj l l p0 c pp cc _ w9 (HRL.o w9 HBW9.o) hoy (by have := HI.o.2.2.2.2.2; omega) (by have := HI.o.2.2.2.2.2; omega) HLT.o HLT.o);rw [decide_eq_true (rfl : l = l), <- HN.o] at HC23;rw [<- HN.o];clear HC21 y0 y1 y2 y3 y4 yf hoy hb9
     go_wp2_with fail
     refine HC23.o.mono ?_;rintro e w10 ⟨rfl, hb10⟩;have HBW10 := Zh (HBW9.o.trans (hb10.mono HBW9.o.size));have HKK := Zh (HI.o.2.2.1 w10 HBW10.o);clear hb10 HC23
     go_wp2_with fail
     refine HKK.o.mono ?_;rintro e wz ⟨rfl, hbz⟩;have HBZ := Zh (HBW10.o.trans (hbz.mono HBW10.o.size));clear hbz
     go_wp2_with fail
     exact bodyPost_ret (v := .bool true) (by simp [results, Tryz.results5, go_sem]) rfl ⟨rfl, HBZ.o⟩
end Go.Proofs.YtookoagcmejkpaaGreatDoor
