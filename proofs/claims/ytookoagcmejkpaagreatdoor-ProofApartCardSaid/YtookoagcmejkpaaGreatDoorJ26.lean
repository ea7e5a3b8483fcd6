/- The text of some steps: Text. What the sixth law says: the walk of ProofApart. An argument that is a tree. Arguments that are rows of numbers, links, steps: the parts. Arguments that are rows of links -/
import Derived.Test.YtookoagcmejkpaaGreatDoorJ24
import Derived.Test.YtookoagcmejkpaaGreatDoorS58
import Derived.Test.YtookoagcmejkpaaGreatDoorXU9
import Derived.ProofKit
import Derived.Deep.Slices
import Derived.SizedLaws
import Derived.Deep.Matrix
import Derived.Below
import Derived.ChangeSlices
namespace Go.Proofs.YtookoagcmejkpaaGreatDoor
set_option maxRecDepth 100000
open Go Go.RowKit Go.Maps
def StRow (W : World) (g : Nat) (l : List Stp) : Prop := ∀ i (hi : i < l.length), ∃ p c q d, (W.cell? ⟨g, i * 5, none⟩ = some (.int .u8 l[i].k) ∧ W.cell? ⟨g, i * 5 + 1, none⟩ = some (.slice p l[i].lits.length c) ∧ W.cell? ⟨g, i * 5 + 2, none⟩ = some (.slice q l[i].links.length d) ∧ W.cell? ⟨g, i * 5 + 3, none⟩ = some (.int .i64 l[i].a) ∧ W.cell? ⟨g, i * 5 + 4, none⟩ = some (.int .i64 l[i].b)) ∧ StArg W l[i] p c q d
theorem kdF_head {l : Bool} {k : Int} {s : ByteArray} {a : Int} {x r : Fo} (h : KdF (.cons l k s a x r)) : (Lx.textR l k s x = (Lx.txtT l k s x, 0) ∧ s.size ≤ 65536 ∧ Lx.szB 65536 x ∧ x.size ≤ 1000) ∧ KdF r := ⟨⟨h.1.1, h.1.2.1, h.1.2.2.1, h.1.2.2.2.1⟩, h.2⟩
theorem size_len : ∀ f : Fo, f.len ≤ f.size
 | .nil => Nat.le_refl _
 | .cons l k s a x r => by
  have := size_len r
  simp only [Fo.len, Fo.size]; omega
theorem join_len : ∀ (l : List ByteArray) (B : Nat), (∀ s ∈ l, s.size ≤ B) → (Lib.join (l.map (·.data.toList)) [32]).length ≤ l.length * (B + 1)
 | [], B, _ => by simp [Lib.join]
 | s :: r, B, h => by
  rw [List.map_cons, join_cons]
  have h1 : s.data.toList.length = s.size := Array.length_toList (xs := s.data)
  have h2 := h s (by simp)
  have h3 : ∀ (r : List ByteArray), (∀ s ∈ r, s.size ≤ B) → (((r.map (·.data.toList)).map fun u => 32 :: u).flatten).length ≤ r.length * (B + 1) := by
   intro r
   induction r with
   | nil => intro _; simp
   | cons t u ih =>
    intro hr
    have g1 : t.data.toList.length = t.size := Array.length_toList (xs := t.data)
    have g2 := hr t (by simp)
    have g3 := ih (fun s hs => hr s (by simp [hs]))
    simp only [List.map_cons, List.flatten_cons, List.length_append, List.length_cons, Nat.succ_mul]
    omega
  have h4 := h3 r (fun s hs => h s (by simp [hs]))
  simp only [List.length_append, List.length_cons, Nat.succ_mul]
  omega
set_option maxHeartbeats 6400000 in
theorem text24 (l : List Stp) (g c : Nat) (W : World) (hrow : StRow W g l) (_hc : l.length ≤ c) (hl : l.length ≤ 1000) (hmay : ∀ x ∈ l, maySt x = true) (htab : PowTab W) (hm : Lx.MaxAt W) :
  Calls Tryz.prog 24 #[.slice (some ⟨g, 0, none⟩) l.length c] W fun e w' => e = .returned (.tuple #[.string (brkS (l.map stTx)), .int .i64 0]) ∧ Below W.heap.size W w' := by
 obtain ⟨N, hN⟩ : ∃ N, N = l.length := ⟨_, rfl⟩
 have HN := Lib.hid hN
 rw [← hN] at _hc hl ⊢
 have n1 : (N : Int) ≤ 1000 := by omega
 have HI := Lib.hid (And.intro hrow (And.intro hmay (And.intro htab hm)))
 clear hrow hmay htab hm hN _hc
 go_enter Tryz.func24, Tryz.ntmps24
 go_wp2_with fail
 go_loopg [4, 16] N (fun gk s4 s16 wx => ∃ (m : Nat) (p4 : Option Addr) (c4 : Nat), m + gk = N ∧ s4 = .slice p4 m c4 ∧ s16 = .int .i64 (m : Int) ∧ Hid (OwnS wx (fun b => W.heap.size ≤ b) (.slice p4 m c4) ((l.take m).map stTx) ∧ Below W.heap.size W wx))
 case atStart => exact ⟨0, none, 0, by omega, rfl, rfl, Lib.hid ⟨OwnS.nil _ _, Below.refl _ _⟩⟩
 case round =>
  obtain ⟨m, p4, c4, hk, rfl, rfl, HR0⟩ := hrel
  have k0 : (0 : Int) ≤ (m : Int) := Int.natCast_nonneg m
  have htl : ((l.take m).map stTx).length = m := by simp; have := HN.out; omega
  have HTL := Lib.hid htl
  clear htl
  by_cases hmn : m < N
  ·have k1' : (m : Int) < (N : Int) := Int.ofNat_lt.2 hmn
   have hml : m < l.length := by rw [← HN.out]; exact hmn
   obtain ⟨p, c', q, d, ⟨c0, c1, c2, c3, c4'⟩, hsa⟩ := HI.out.1 m hml
   have hmx : maySt l[m] = true := HI.out.2.1 _ (List.getElem_mem hml)
   obtain ⟨x, hx⟩ : ∃ x, x = l[m] := ⟨_, rfl⟩
   have HTK := Lib.hid (show (l.take (m + 1)).map stTx = (l.take m).map stTx ++ [stTx x] from by rw [List.take_add_one, List.getElem?_eq_getElem hml, ← hx]; simp)
   rw [← hx] at c0 c1 c2 c3 c4' hsa hmx
   replace c0 := cell_later HR0.out.2 c0
   replace c1 := cell_later HR0.out.2 c1
   replace c2 := cell_later HR0.out.2 c2
   replace c3 := cell_later HR0.out.2 c3
   replace c4' := cell_later HR0.out.2 c4'
   have HS := Lib.hid (step_ok hmn (show N ≤ 9223372036854775807 from by omega))
   obtain ⟨w2, hw2⟩ : ∃ w2, w2 = wr.alloc (.cells #[.int .u8 x.k, .slice p x.lits.length c', .slice q x.links.length d, .int .i64 x.a, .int .i64 x.b] 26) := ⟨_, rfl⟩
   have HB2 := Lib.hid (show Below wr.heap.size wr w2 from by rw [hw2]; exact below1 _ _)
   have HBW2 := Lib.hid (HR0.out.2.trans (HB2.out.mono HR0.out.2.size))
   have HSA := Lib.hid (hsa.later HBW2.out)
   have HC := Lib.hid (tree10 x p c' q d w2 HSA.out.hk.1 HSA.out.hk.2 HSA.out.h1 HSA.out.h2 HSA.out.hkd HSA.out.n1 HSA.out.n2 (tabIs_below HI.out.2.2.1 HBW2.out))
   have HW2 := Lib.hid hw2
   have HMX := Lib.hid hmx
   obtain ⟨G, rfl⟩ : ∃ G, gk = G + 1 := ⟨gk - 1, by omega⟩
   have HK := Lib.hid (And.intro hk hmn)
   unfold stV at HC
   clear hk hmn hml hx hw2 hmx hsa
   go_wp2_with fail
   rw [← HW2.out]
   refine HC.out.mono ?_
   intro e w3 hrr
   clear HC c0 c1 c2 c3 c4'
   rcases hrr with ⟨h0, _⟩ | ⟨_, q', c5, rfl, hfo, hlc, hb3⟩
   ·rw [HMX.out] at h0; cases h0
   obtain ⟨K, hK⟩ : ∃ K, K = (stX x).len := ⟨_, rfl⟩
   have hsz := (st_facts x HMX.out).2.2
   have hKm : K ≤ 2000000 := by have := size_len (stX x); omega
   have HKK := Lib.hid hK
   have HKD := Lib.hid (st_facts x HMX.out).2.1
   rw [← hK] at hlc ⊢
   have K1 : (K : Int) ≤ 2000000 := by omega
   obtain ⟨F1, hF1⟩ : ∃ F1 : Nat → Prop, F1 = fun b => w2.heap.size ≤ b ∧ b < w3.heap.size := ⟨_, rfl⟩
   have HF1 := Lib.hid (show ∀ b, F1 b → b < w3.heap.size from fun b hb => by rw [hF1] at hb; exact hb.2)
   have HFO := Lib.hid (show FoIn w3 F1 (stX x) q' from by rw [hF1]; exact hfo.mono (fun b hb hl => ⟨hb, hl⟩))
   have HB3 := Lib.hid (HB2.out.trans (hb3.mono HB2.out.size))
   have HLC := Lib.hid hlc
   obtain ⟨w4, hw4⟩ : ∃ w4, w4 = w3.alloc (.cells #[.bool true, .int .u8 1, .string ⟨#[40]⟩, .int .i64 0, .slice q' K c5] 35) := ⟨_, rfl⟩
   have HB4 := Lib.hid (show Below w3.heap.size w3 w4 from by rw [hw4]; exact below1 _ _)
   have HSZ4 := Lib.hid (show w4.heap.size = w3.heap.size + 1 from by rw [hw4]; simp)
   have HO4 := Lib.hid ((HR0.out.1.later HB3.out).later HB4.out)
   have HB04 := Lib.hid (HR0.out.2.trans ((HB3.out.trans (HB4.out.mono HB3.out.size)).mono HR0.out.2.size))
   obtain ⟨y0, y1, y2, y3, y4, yf⟩ := box_new w3 true 1 ⟨#[40]⟩ 0 (.slice q' K c5)
   have HW4 := Lib.hid hw4
   clear hK hsz hKm hlc hF1 hfo hb3 hw4 HR0
   unfold trV
   go_wp2_with fail
   rw [← HW4.out]
   go_loopg [9, 31] K (fun gk s9 s31 wx => ∃ (j : Nat) (p9 : Option Addr) (c9 : Nat), j + gk = K ∧ s9 = .slice p9 j c9 ∧ s31 = .int .i64 (j : Int) ∧ Hid (∃ (pre f : Fo), stX x = pre.app f ∧ pre.len = j ∧ KdF f ∧ FoIn wx F1 f (pl q' j) ∧ OwnS wx (fun b => w4.heap.size ≤ b) (.slice p9 j c9) (kidS pre) ∧ Below w4.heap.size w4 wx))
   case atStart => exact ⟨0, none, 0, by omega, rfl, rfl, Lib.hid ⟨.nil, stX x, rfl, rfl, HKD.out, pl_zero (HFO.out.later HB4.out), OwnS.nil _ _, Below.refl _ _⟩⟩
   case round =>
    obtain ⟨j, p9, c9, hkj, rfl, rfl, HR1⟩ := hrel
    obtain ⟨pre, f, hfg, hpl, hkd, hfi, hos, hbl⟩ := HR1.out
    clear HR1
    have j0 : (0 : Int) ≤ (j : Int) := Int.natCast_nonneg j
    have hlen : pre.len + f.len = K := by rw [HKK.out, hfg, Fo.len_app]
    cases f with
    | nil =>
     have hlt : ¬ (j : Int) < (K : Int) := by simp [Fo.len] at hlen; omega
     rw [Fo.app_nil] at hfg
     subst hfg
     have hos2 : OwnS wr (fun b => w4.heap.size ≤ b) (.slice p9 j c9) (kidS (stX x)) := hos
     have HB := Lib.hid (brack58 (kidS (stX x)) (.slice p9 j c9) _ wr hos2 (by rw [kidS_len]; have := HKK.out; omega) (by have := (stTx_size x HMX.out).2; omega))
     have HBL := Lib.hid (HB04.out.trans (hbl.mono HB04.out.size))
     have HOR := Lib.hid (HO4.out.later hbl)
     have HSX := Lib.hid (show brkS (kidS (stX x)) = stTx x from rfl)
     obtain ⟨TM, hTM⟩ : ∃ t, t = (l.take m).map stTx := ⟨_, rfl⟩
     rw [← hTM] at HOR HTL HTK
     obtain ⟨TN, hTN⟩ : ∃ t, t = (l.take (m + 1)).map stTx := ⟨_, rfl⟩
     have HTN := Lib.hid hTN
     rw [← hTN] at HTK
     clear hTM hTN
     have HBR := Lib.hid (HB3.out.trans ((HB4.out.trans (hbl.mono HB4.out.size)).mono HB3.out.size))
     have HBK := Lib.hid (show ∀ b, (Value.slice p4 m c4).ownBlock = some b → W.heap.size ≤ b from fun b e => (HO4.out.blk b e).1)
     have HBW := Lib.hid (show Below W.heap.size W wr from HBL.out)
     clear hkj hpl hkd hfi hos hos2 hbl hlen
     go_wp2_with fail
     refine HB.out.mono ?_
     rintro e w5 ⟨rfl, hb5⟩
     rw [HSX.out]
     obtain ⟨w7, hw7⟩ : ∃ w7, w7 = w5.alloc (.cells #[.string (stTx x)] 9) := ⟨_, rfl⟩
     have HB5 := Lib.hid hb5
     have HB7 := Lib.hid (show Below w5.heap.size w5 w7 from by rw [hw7]; exact below1 _ _)
     have HX7 := Lib.hid (show w7.cell? ⟨w5.heap.size, 0, none⟩ = some (.string (stTx x)) from by rw [hw7]; simp [go_sem])
     have HOS7 := Lib.hid (((HOR.out.later HB5.out)).later HB7.out)
     have HSZ := Lib.hid (show W.heap.size ≤ w7.heap.size from Nat.le_trans HBW.out.size (Nat.le_trans HB5.out.size HB7.out.size))
     have HW7 := Lib.hid hw7
     clear hw7 hb5 HB
     go_wp2_with (at_builtin; rw [← HW7.out]; refine wpList_push_str (by rfl) _ _ (by rfl) (fun b => W.heap.size ≤ b) w5.heap.size (.slice p4 m c4) TM (stTx x) (by rfl) (by rfl) HOS7.out HX7.out HSZ.out (by rw [HTL.out]; omega) ?_)
     intro p6 c6 w8 hown8 ho8
     rw [HTL.out, ← HTK.out] at hown8
     rw [HTL.out]
     have HFIN := Lib.hid (show OwnS w8 (fun b => W.heap.size ≤ b) (.slice p6 (m + 1) c6) ((l.take (m + 1)).map stTx) ∧ Below W.heap.size W w8 from
      ⟨by rw [← HTN.out]; exact hown8, (HBW.out.trans ((HB5.out.trans (HB7.out.mono HB5.out.size)).mono HBW.out.size)).trans (ho8.below (fun k e => HBK.out k e) (Nat.le_trans HBW.out.size (Nat.le_trans HB5.out.size HB7.out.size)))⟩)
     clear hown8 ho8
     go_wp2_with fail
     go_roundg G
     case measure => omega
     case rel => exact ⟨m + 1, p6, c6, by have := HK.out.1; omega, rfl, by first | rfl | rw [HS.out.2.2], HFIN⟩
    | cons l1 k1 s1 a1 x1 r =>
     have hkn : j < K := by simp [Fo.len] at hlen; omega
     have k1' : (j : Int) < (K : Int) := Int.ofNat_lt.2 hkn
     obtain ⟨bq, oq, hqe⟩ : ∃ bq oq, q' = some ⟨bq, oq, none⟩ := HFO.out.some (by rw [← HKK.out]; omega)
     subst hqe
     obtain ⟨hFq, c0, c1, c2, c3, ⟨q4, d4, c4', hl4, hm4, hq4⟩, hr⟩ := hfi.head
     obtain ⟨⟨ht, hs1, hz1, hx1⟩, hkr⟩ := kdF_head hkd
     have HS2 := Lib.hid (step_ok hkn (show K ≤ 9223372036854775807 from by omega))
     obtain ⟨w5, hw5⟩ : ∃ w5, w5 = wr.alloc (.cells #[.bool l1, .int .u8 k1, .string s1, .int .i64 a1, .slice q4 x1.len d4] 35) := ⟨_, rfl⟩
     have HB5 := Lib.hid (show Below wr.heap.size wr w5 from by rw [hw5]; exact below1 _ _)
     have HBW5 := Lib.hid (HB04.out.trans ((hbl.trans (HB5.out.mono hbl.size)).mono HB04.out.size))
     have HC := Lib.hid (Lx.text29 l1 k1 s1 a1 q4 d4 x1 w5 F1 (hq4.later HB5.out) hl4 hm4 hs1 hz1 (by omega) (HI.out.2.2.2.later HBW5.out))
     have HW5 := Lib.hid hw5
     have HG := Lib.hid (And.intro hos (And.intro hbl (And.intro hr hkr)))
     have HFG := Lib.hid (And.intro hfg (And.intro hpl (And.intro hkj hkn)))
     have HTX := Lib.hid ht
     obtain ⟨G', rfl⟩ : ∃ G', gk = G' + 1 := ⟨gk - 1, by omega⟩
     unfold trV at HC
     clear hkj hfg hpl hkd hfi hos hbl hlen hkn hl4 hm4 hq4 hr hFq ht hs1 hz1 hx1 hkr hw5
     go_wp2_with fail
     rw [← HW5.out]
     refine HC.out.mono ?_
     rintro e w6 ⟨X, er, rfl, hX, hb6⟩
     rw [HTX.out] at hX
     injection hX with hX1 hX2
     subst hX2
     clear HC c0 c1 c2 c3 c4'
     obtain ⟨w7, hw7⟩ : ∃ w7, w7 = w6.alloc (.cells #[.string X] 9) := ⟨_, rfl⟩
     have HB6 := Lib.hid (HB5.out.trans (hb6.mono HB5.out.size))
     have HB7 := Lib.hid (show Below w6.heap.size w6 w7 from by rw [hw7]; exact below1 _ _)
     have HX7 := Lib.hid (show w7.cell? ⟨w6.heap.size, 0, none⟩ = some (.string X) from by rw [hw7]; simp [go_sem])
     have HXX := Lib.hid (show kidS (pre.snoc l1 k1 s1 a1 x1) = kidS pre ++ [X] from by
      have e : X = ⟨(Lx.txtT l1 k1 s1 x1).toArray⟩ := by obtain ⟨⟨X⟩⟩ := X; simp at hX1; simp [hX1]
      rw [e, ← Fo.app_nil (pre.snoc l1 k1 s1 a1 x1), Fo.snoc_app, kidS_app]
      rfl)
     have HOS7 := Lib.hid (((HG.out.1.later HB6.out)).later HB7.out)
     have HSZ := Lib.hid (show w4.heap.size ≤ w7.heap.size from Nat.le_trans HG.out.2.1.size (Nat.le_trans HB6.out.size HB7.out.size))
     have HBK := Lib.hid (show ∀ b, (Value.slice p9 j c9).ownBlock = some b → w4.heap.size ≤ b from fun b e => (HG.out.1.blk b e).1)
     have HKL := Lib.hid (show (kidS pre).length = j from by rw [kidS_len, HFG.out.2.1])
     have HW7 := Lib.hid hw7
     clear hw7 hX1 hb6
     go_wp2_with (at_builtin; rw [← HW7.out]; refine wpList_push_str (by rfl) _ _ (by rfl) (fun b => w4.heap.size ≤ b) w6.heap.size (.slice p9 j c9) (kidS pre) X (by rfl) (by rfl) HOS7.out HX7.out HSZ.out (by rw [HKL.out]; omega) ?_)
     intro p6 c6 w8 hown8 ho8
     rw [HKL.out] at hown8 ⊢
     have hO : Only (fun k => w4.heap.size ≤ k) wr w8 := ((Only.of_below HB6.out).trans (Only.of_below HB7.out)).trans (ho8.mono (fun b _ e => HBK.out b e))
     have HFIN := Lib.hid (show ∃ (pre' f' : Fo), stX x = pre'.app f' ∧ pre'.len = j + 1 ∧ KdF f' ∧ FoIn w8 F1 f' (pl (some ⟨bq, oq, none⟩) (j + 1)) ∧ OwnS w8 (fun b => w4.heap.size ≤ b) (.slice p6 (j + 1) c6) (kidS pre') ∧ Below w4.heap.size w4 w8 from
      ⟨pre.snoc l1 k1 s1 a1 x1, r, by rw [HFG.out.1, Fo.snoc_app], by rw [Fo.len_snoc, HFG.out.2.1], HG.out.2.2.2, HG.out.2.2.1.only hO (fun b hb e => by have := HF1.out b hb; have := HSZ4.out; omega), by rw [HXX.out]; exact hown8, HG.out.2.1.trans (hO.below (fun k e => e) HG.out.2.1.size)⟩)
     clear hown8 ho8 hO
     go_wp2_with fail
     go_roundg G'
     case measure => omega
     case rel => exact ⟨j + 1, p6, c6, by have := HFG.out.2.2.1; omega, rfl, by first | rfl | rw [HS2.out.2.2], HFIN⟩
  ·have hlt : ¬ (m : Int) < (N : Int) := by omega
   have hmN : m = l.length := by have := HN.out; omega
   subst hmN
   have hos : OwnS wr (fun b => W.heap.size ≤ b) (.slice p4 l.length c4) (l.map stTx) := by have := HR0.out.1; rwa [List.take_length] at this
   have hms : ∀ s ∈ l.map stTx, s.size ≤ 100000000 := by
    intro s hs
    obtain ⟨x, hx, rfl⟩ := List.mem_map.1 hs
    exact (stTx_size x (HI.out.2.1 x hx)).1
   have hj := join_len (l.map stTx) 100000000 hms
   rw [List.length_map] at hj
   have hll : l.length ≤ 1000 := by have := HN.out; omega
   have HB := Lib.hid (brack58 (l.map stTx) (.slice p4 l.length c4) _ wr hos (by rw [List.length_map]; omega) (by omega))
   have HBW := Lib.hid HR0.out.2
   clear hos hms hj hll HR0
   go_wp2_with fail
   refine HB.out.mono ?_
   rintro e w5 ⟨rfl, hb5⟩
   have HB5 := Lib.hid (HBW.out.trans (hb5.mono HBW.out.size))
   clear hb5 HB
   go_wp2_with fail
   exact bodyPost_ret (v := .tuple #[.string (brkS (l.map stTx)), .int .i64 0]) (by simp [results, Tryz.results24, go_sem]) rfl ⟨rfl, HB5.out⟩
theorem row_one {W : World} {x : Stp} {p : Option Addr} {c : Nat} {q : Option Addr} {d : Nat} (h : StArg W x p c q d) : StRow (W.alloc (.cells #[.int .u8 x.k, .slice p x.lits.length c, .slice q x.links.length d, .int .i64 x.a, .int .i64 x.b] 26)) W.heap.size [x] := fun i hi => by
 obtain rfl : i = 0 := by simpa using hi
 exact ⟨p, c, q, d, ⟨by simp [go_sem], by simp [go_sem], by simp [go_sem], by simp [go_sem], by simp [go_sem]⟩, h.later (below1 _ _)⟩
theorem row_two {W : World} {x y : Stp} {p : Option Addr} {c : Nat} {q : Option Addr} {d : Nat} {p2 : Option Addr} {c2 : Nat} {q2 : Option Addr} {d2 : Nat} (h : StArg W x p c q d) (h2 : StArg W y p2 c2 q2 d2) : StRow (W.alloc (.cells #[.int .u8 x.k, .slice p x.lits.length c, .slice q x.links.length d, .int .i64 x.a, .int .i64 x.b, .int .u8 y.k, .slice p2 y.lits.length c2, .slice q2 y.links.length d2, .int .i64 y.a, .int .i64 y.b] 26)) W.heap.size [x, y] := fun i hi => by
 have : i = 0 ∨ i = 1 := by simp at hi; omega
 rcases this with rfl | rfl
 ·exact ⟨p, c, q, d, ⟨by simp [go_sem], by simp [go_sem], by simp [go_sem], by simp [go_sem], by simp [go_sem]⟩, h.later (below1 _ _)⟩
 ·exact ⟨p2, c2, q2, d2, ⟨by simp [go_sem], by simp [go_sem], by simp [go_sem], by simp [go_sem], by simp [go_sem]⟩, h2.later (below1 _ _)⟩
theorem treeR_all {W w' : World} {e : Ending} {x : Stp} {M : Bool} (hM : M = maySt x) (h : TreeR W w' e x) : ∃ (L : Bool) (Kk : Int) (S : ByteArray) (Qt : Option Addr) (Ft : Fo) (Ct : Nat) (E : Int), e = .returned (.tuple #[trV L Kk S 0 Qt Ft.len Ct, .int .i64 E]) ∧ FoIn w' (fun b => W.heap.size ≤ b) Ft Qt ∧ Ft.len ≤ Ct ∧ Below W.heap.size W w' ∧ (if M then L = true ∧ Kk = 1 ∧ S = ⟨#[40]⟩ ∧ Ft = stX x ∧ E = 0 else E = 2) := by
 rcases h with ⟨hm, he, hbe⟩ | ⟨hm, q5, c5, he, hq5, hc5, hbe⟩
 ·exact ⟨false, 0, ⟨#[]⟩, none, .nil, 0, 2, he, trivial, Nat.le_refl _, hbe, by rw [hM, hm]; simp⟩
 ·exact ⟨true, 1, ⟨#[40]⟩, q5, stX x, c5, 0, he, hq5, hc5, hbe, by rw [hM, hm]; simp⟩
theorem brk_size (l : List ByteArray) (hl : l.length ≤ 2) (h : ∀ s ∈ l, s.size ≤ 100000000) : (2 : Int) ≤ (brkS l).size ∧ ((brkS l).size : Int) ≤ 1000000000 := by
 have e : (brkS l).size = (Lib.join (l.map (·.data.toList)) [32]).length + 2 := by
  have e : (brkS l).size = (brkS l).data.toList.length := (Array.length_toList (xs := (brkS l).data)).symm
  rw [e]
  simp [brkS, brkL]
 have := join_len l 100000000 h
 have : l.length * (100000000 + 1) ≤ 2 * (100000000 + 1) := Nat.mul_le_mul_right _ hl
 omega
theorem sameT_st {x y : Stp} (hx : maySt x = true) (hy : maySt y = true) : sameT true 1 ⟨#[40]⟩ (stX x) true 1 ⟨#[40]⟩ (stX y) = decide (x = y) := by
 by_cases h : x = y
 ·subst h
  rw [sameT_refl]; simp
 ·rw [decide_eq_false h, Bool.eq_false_iff]
  intro hs
  have h1 := stepP_same x hx true 1 ⟨#[40]⟩ (stX y) hs
  rw [stepP_stX y hy] at h1
  injection h1 with h1 _
  exact h h1.symm
theorem brk_one (s : ByteArray) : (brkS [s]).data.toList = 40 :: (s.data.toList ++ [41]) := by simp [brkS, brkL, Lib.join, List.intercalate]
theorem apart_eq (s t : ByteArray) (n : Nat) (h : n + 1 = (brkS [s]).size) : (brkS [s]).extract 0 n ++ ⟨#[32]⟩ ++ (brkS [t]).extract 1 (brkS [t]).size = brkS [s, t] := by
 have ea := brk_one s
 have eb := brk_one t
 have ez : (brkS [s]).size = (brkS [s]).data.toList.length := (Array.length_toList (xs := (brkS [s]).data)).symm
 have ez2 : (brkS [t]).size = (brkS [t]).data.toList.length := (Array.length_toList (xs := (brkS [t]).data)).symm
 have ec : (brkS [s, t]).data.toList = 40 :: (s.data.toList ++ 32 :: (t.data.toList ++ [41])) := by simp [brkS, brkL, Lib.join, List.intercalate]
 rw [ez, ea] at h
 simp only [List.length_cons, List.length_append, List.length_nil] at h
 apply ByteArray.ext
 apply Array.toList_inj.1
 rw [ec, ByteArray.data_append, ByteArray.data_append, ByteArray.data_extract, ByteArray.data_extract]
 simp only [Array.toList_append, Array.toList_extract, List.extract_eq_take_drop, ea, eb, ez2]
 have hn : n = s.data.toList.length + 1 := by omega
 subst hn
 simp
 exact List.take_of_length_le (by have e : t.data.toList.length = t.size := Array.length_toList (xs := t.data); simp only [List.length_append, List.length_cons, List.length_nil]; omega)
theorem brk_eq {x y : Stp} (hx : maySt x = true) (hy : maySt y = true) : ((brkS [stTx x]).data.toList == (brkS [stTx y]).data.toList) = decide (x = y) := by
 by_cases h : x = y
 ·subst h; simp
 ·rw [decide_eq_false h, beq_eq_false_iff_ne]
  intro e1
  simp only [brk_one, List.cons.injEq, true_and] at e1
  have e2 := List.append_cancel_right e1
  have e3 : stTx x = stTx y := ByteArray.ext (Array.toList_inj.1 e2)
  have e4 := stTx_inj hx hy e3
  have e5 := stepP_stX x hx
  rw [e4, stepP_stX y hy] at e5
  injection e5 with e5 _
  exact h e5.symm
set_option maxHeartbeats 6400000 in
theorem law6 (x : Stp) (p : Option Addr) (c : Nat) (q : Option Addr) (d : Nat) (y : Stp) (p2 : Option Addr) (c2 : Nat) (q2 : Option Addr) (d2 : Nat) (W : World) (hx : StArg W x p c q d) (hy : StArg W y p2 c2 q2 d2) (htab : PowTab W) (hK : Known W) (hm : Lx.MaxAt W) :
  Calls Tryz.prog 6 #[stV x p c q d, stV y p2 c2 q2 d2] W fun e w' => e = .returned (.bool true) ∧ Below W.heap.size W w' := by
 obtain ⟨w1, hw1⟩ : ∃ w1, w1 = (W.alloc (.cells #[.int .u8 x.k, .slice p x.lits.length c, .slice q x.links.length d, .int .i64 x.a, .int .i64 x.b] 26)).alloc (.cells #[.int .u8 y.k, .slice p2 y.lits.length c2, .slice q2 y.links.length d2, .int .i64 y.a, .int .i64 y.b] 26) := ⟨_, rfl⟩
 have hb1 : Below W.heap.size W w1 := by rw [hw1]; exact (below1 W _).alloc (by simp) _
 have HB1 := Lib.hid hb1
 have HX1 := Lib.hid (show BoxS w1 W.heap.size x.k (.slice p x.lits.length c) (.slice q x.links.length d) x.a x.b ∧ BoxS w1 (W.heap.size + 1) y.k (.slice p2 y.lits.length c2) (.slice q2 y.links.length d2) y.a y.b from by
  have h1 := (boxS_new W x.k x.a x.b (.slice p x.lits.length c) (.slice q x.links.length d)).later (below1 _ (.cells #[.int .u8 y.k, .slice p2 y.lits.length c2, .slice q2 y.links.length d2, .int .i64 y.a, .int .i64 y.b] 26))
  have h2 := boxS_new (W.alloc (.cells #[.int .u8 x.k, .slice p x.lits.length c, .slice q x.links.length d, .int .i64 x.a, .int .i64 x.b] 26)) y.k y.a y.b (.slice p2 y.lits.length c2) (.slice q2 y.links.length d2)
  rw [hw1]
  exact ⟨h1, by simpa using h2⟩)
 have HA1 := Lib.hid (And.intro (hx.later hb1) (hy.later hb1))
 have HC1 := Lib.hid (great7 x.k x.a x.b p c x.lits.length q d x.links.length x.lits x.links w1 rfl rfl hx.n1 hx.n2 (hx.later hb1).h2)
 have HT := Lib.hid htab
 have HK := Lib.hid hK
 have HMA := Lib.hid hm
 have HW1 := Lib.hid hw1
 obtain ⟨GX, hGX⟩ : ∃ g, g = greatS x := ⟨_, rfl⟩
 obtain ⟨GY, hGY⟩ : ∃ g, g = greatS y := ⟨_, rfl⟩
 have HGX := Lib.hid hGX
 have HGY := Lib.hid hGY
 rw [show greatS ⟨x.k, x.lits, x.links, x.a, x.b⟩ = GX from hGX.symm] at HC1
 obtain ⟨⟨x0, x1, x2, x3, x4, xf⟩, y0, y1, y2, y3, y4, yf⟩ := HX1.out
 rw [hw1] at x0 x1 x2 x3 x4 xf y0 y1 y2 y3 y4 yf
 clear hx hy htab hK hm hb1 hw1 hGX hGY
 unfold stV
 go_enter Tryz.func6, Tryz.ntmps6
 go_wp2_with fail
 rw [← HW1.out]
 refine HC1.out.mono ?_
 rintro e wa ⟨rfl, hba⟩
 have HBA := Lib.hid (HB1.out.trans (hba.mono HB1.out.size))
 have HXA := Lib.hid (And.intro (HX1.out.1.later hba) (HX1.out.2.later hba))
 have HAA := Lib.hid (And.intro (HA1.out.1.later hba) (HA1.out.2.later hba))
 clear hba HC1 HW1 x0 x1 x2 x3 x4 xf y0 y1 y2 y3 y4 yf
 obtain ⟨⟨x0, x1, x2, x3, x4, xf⟩, y0, y1, y2, y3, y4, yf⟩ := HXA.out
 cases GX with
 | true =>
  have HKK := Lib.hid (HK.out wa HBA.out)
  go_wp2_with fail
  refine HKK.out.mono ?_
  rintro e wz ⟨rfl, hbz⟩
  have HBZ := Lib.hid (HBA.out.trans (hbz.mono HBA.out.size))
  clear hbz
  go_wp2_with fail
  exact bodyPost_ret (v := .bool true) (by simp [results, Tryz.results6, go_sem]) rfl ⟨rfl, HBZ.out⟩
 | false =>
 have HC2 := Lib.hid (great7 y.k y.a y.b p2 c2 y.lits.length q2 d2 y.links.length y.lits y.links wa rfl rfl HAA.out.2.n1 HAA.out.2.n2 HAA.out.2.h2)
 rw [show greatS ⟨y.k, y.lits, y.links, y.a, y.b⟩ = GY from HGY.out.symm] at HC2
 go_wp2_with fail
 refine HC2.out.mono ?_
 rintro e wb ⟨rfl, hbb⟩
 have HBB := Lib.hid (HBA.out.trans (hbb.mono HBA.out.size))
 have HXB := Lib.hid (And.intro (HXA.out.1.later hbb) (HXA.out.2.later hbb))
 have HAB := Lib.hid (And.intro (HAA.out.1.later hbb) (HAA.out.2.later hbb))
 clear hbb HC2 x0 x1 x2 x3 x4 xf y0 y1 y2 y3 y4 yf
 obtain ⟨⟨x0, x1, x2, x3, x4, xf⟩, y0, y1, y2, y3, y4, yf⟩ := HXB.out
 cases GY with
 | true =>
  have HKK := Lib.hid (HK.out wb HBB.out)
  go_wp2_with fail
  refine HKK.out.mono ?_
  rintro e wz ⟨rfl, hbz⟩
  have HBZ := Lib.hid (HBB.out.trans (hbz.mono HBB.out.size))
  clear hbz
  go_wp2_with fail
  exact bodyPost_ret (v := .bool true) (by simp [results, Tryz.results6, go_sem]) rfl ⟨rfl, HBZ.out⟩
 | false =>
 have HTR1 := Lib.hid (tree10 x p c q d wb HAB.out.1.hk.1 HAB.out.1.hk.2 HAB.out.1.h1 HAB.out.1.h2 HAB.out.1.hkd HAB.out.1.n1 HAB.out.1.n2 (tabIs_below HT.out HBB.out))
 obtain ⟨M1, hM1⟩ : ∃ M, M = maySt x := ⟨_, rfl⟩
 have HM1 := Lib.hid hM1
 clear hM1
 unfold stV at HTR1
 go_wp2_with fail
 refine HTR1.out.mono ?_
 intro e wc htr
 obtain ⟨L1, K1, S1, Q1, T1, C1, E1, rfl, hft, hct, hbe, hcase⟩ := treeR_all HM1.out htr
 obtain ⟨wd, hwf⟩ : ∃ w, w = wc.alloc (.cells #[.bool L1, .int .u8 K1, .string S1, .int .i64 0, .slice Q1 T1.len C1] 35) := ⟨_, rfl⟩
 have HBe1 := Lib.hid (show Below wc.heap.size wc wd from by rw [hwf]; exact below1 _ _)
 have HBf1 := Lib.hid (hbe.trans (HBe1.out.mono hbe.size))
 have HBwd := Lib.hid (HBB.out.trans (HBf1.out.mono HBB.out.size))
 have HT1 := Lib.hid (show BoxT wd wc.heap.size L1 K1 S1 0 (.slice Q1 T1.len C1) ∧ FoIn wd (fun b => wb.heap.size ≤ b) T1 Q1 ∧ T1.len ≤ C1 from ⟨by rw [hwf]; exact box_new _ _ _ _ _ _, hft.later HBe1.out, hct⟩)
 have HCS1 := Lib.hid hcase
 have HW1 := Lib.hid hwf
 have HXwd := Lib.hid (And.intro (HXB.out.1.later HBf1.out) (HXB.out.2.later HBf1.out))
 have HAwd := Lib.hid (And.intro (HAB.out.1.later HBf1.out) (HAB.out.2.later HBf1.out))
 clear hwf hft hct hbe hcase htr HTR1 x0 x1 x2 x3 x4 xf y0 y1 y2 y3 y4 yf
 obtain ⟨⟨x0, x1, x2, x3, x4, xf⟩, y0, y1, y2, y3, y4, yf⟩ := HXwd.out
 rw [HW1.out] at x0 x1 x2 x3 x4 xf y0 y1 y2 y3 y4 yf
 unfold trV
 have HTR2 := Lib.hid (tree10 y p2 c2 q2 d2 wd HAwd.out.2.hk.1 HAwd.out.2.hk.2 HAwd.out.2.h1 HAwd.out.2.h2 HAwd.out.2.hkd HAwd.out.2.n1 HAwd.out.2.n2 (tabIs_below HT.out HBwd.out))
 obtain ⟨M2, hM2⟩ : ∃ M, M = maySt y := ⟨_, rfl⟩
 have HM2 := Lib.hid hM2
 clear hM2
 unfold stV at HTR2
 go_wp2_with fail
 rw [← HW1.out]
 refine HTR2.out.mono ?_
 intro e we htr
 obtain ⟨L2, K2, S2, Q2, T2, C2, E2, rfl, hft, hct, hbe, hcase⟩ := treeR_all HM2.out htr
 obtain ⟨wf, hwf⟩ : ∃ w, w = we.alloc (.cells #[.bool L2, .int .u8 K2, .string S2, .int .i64 0, .slice Q2 T2.len C2] 35) := ⟨_, rfl⟩
 have HBe2 := Lib.hid (show Below we.heap.size we wf from by rw [hwf]; exact below1 _ _)
 have HBf2 := Lib.hid (hbe.trans (HBe2.out.mono hbe.size))
 have HBwf := Lib.hid (HBwd.out.trans (HBf2.out.mono HBwd.out.size))
 have HT2 := Lib.hid (show BoxT wf we.heap.size L2 K2 S2 0 (.slice Q2 T2.len C2) ∧ FoIn wf (fun b => wd.heap.size ≤ b) T2 Q2 ∧ T2.len ≤ C2 from ⟨by rw [hwf]; exact box_new _ _ _ _ _ _, hft.later HBe2.out, hct⟩)
 have HCS2 := Lib.hid hcase
 have HW2 := Lib.hid hwf
 have HXwf := Lib.hid (And.intro (HXwd.out.1.later HBf2.out) (HXwd.out.2.later HBf2.out))
 have HAwf := Lib.hid (And.intro (HAwd.out.1.later HBf2.out) (HAwd.out.2.later HBf2.out))
 have HT1f := Lib.hid (And.intro (HT1.out.1.later HBf2.out) (And.intro (HT1.out.2.1.later HBf2.out) HT1.out.2.2))
 clear hwf hft hct hbe hcase htr HTR2 x0 x1 x2 x3 x4 xf y0 y1 y2 y3 y4 yf
 obtain ⟨⟨x0, x1, x2, x3, x4, xf⟩, y0, y1, y2, y3, y4, yf⟩ := HXwf.out
 rw [HW2.out] at x0 x1 x2 x3 x4 xf y0 y1 y2 y3 y4 yf
 unfold trV
 cases M1 with
 | false =>
  have hc := HCS1.out
  simp only [Bool.false_eq_true, if_false] at hc
  subst hc
  clear HCS1
  have HKK := Lib.hid (HK.out wf HBwf.out)
  go_wp2_with fail
  rw [← HW2.out]
  refine HKK.out.mono ?_
  rintro e wz ⟨rfl, hbz⟩
  have HBZ := Lib.hid (HBwf.out.trans (hbz.mono HBwf.out.size))
  clear hbz
  go_wp2_with fail
  exact bodyPost_ret (v := .bool true) (by simp [results, Tryz.results6, go_sem]) rfl ⟨rfl, HBZ.out⟩
 | true =>
 have hc := HCS1.out
 simp only [if_true] at hc
 obtain ⟨rfl, rfl, rfl, rfl, rfl⟩ := hc
 clear HCS1
 cases M2 with
 | false =>
  have hc := HCS2.out
  simp only [Bool.false_eq_true, if_false] at hc
  subst hc
  clear HCS2
  have HKK := Lib.hid (HK.out wf HBwf.out)
  go_wp2_with fail
  rw [← HW2.out]
  refine HKK.out.mono ?_
  rintro e wz ⟨rfl, hbz⟩
  have HBZ := Lib.hid (HBwf.out.trans (hbz.mono HBwf.out.size))
  clear hbz
  go_wp2_with fail
  exact bodyPost_ret (v := .bool true) (by simp [results, Tryz.results6, go_sem]) rfl ⟨rfl, HBZ.out⟩
 | true =>
 have hc := HCS2.out
 simp only [if_true] at hc
 obtain ⟨rfl, rfl, rfl, rfl, rfl⟩ := hc
 clear HCS2
 have HMX := Lib.hid (show maySt x = true from HM1.out.symm)
 have HMY := Lib.hid (show maySt y = true from HM2.out.symm)
 obtain ⟨TA, hTA⟩ : ∃ t, t = brkS [stTx x] := ⟨_, rfl⟩
 obtain ⟨TB, hTB⟩ : ∃ t, t = brkS [stTx y] := ⟨_, rfl⟩
 obtain ⟨TC, hTC⟩ : ∃ t, t = brkS [stTx x, stTx y] := ⟨_, rfl⟩
 have HTA := Lib.hid hTA
 have HTB := Lib.hid hTB
 have HTC := Lib.hid hTC
 have hal := brk_size [stTx x] (by simp) (fun s hs => by simp at hs; rw [hs]; exact (stTx_size x HMX.out).1)
 have hbl := brk_size [stTx y] (by simp) (fun s hs => by simp at hs; rw [hs]; exact (stTx_size y HMY.out).1)
 have hcl := brk_size [stTx x, stTx y] (by simp) (fun s hs => by simp at hs; rcases hs with h | h; (rw [h]; exact (stTx_size x HMX.out).1); (rw [h]; exact (stTx_size y HMY.out).1))
 rw [← hTA] at hal
 rw [← hTB] at hbl
 rw [← hTC] at hcl
 obtain ⟨al1, al2⟩ := hal
 obtain ⟨bl1, bl2⟩ := hbl
 obtain ⟨cl1, cl2⟩ := hcl
 clear hTA hTB hTC
 have hz : we.heap.size + 1 = wf.heap.size := by rw [HW2.out]; simp
 obtain ⟨wg, hwn⟩ : ∃ w, w = wf.alloc (.cells #[.int .u8 x.k, .slice p x.lits.length c, .slice q x.links.length d, .int .i64 x.a, .int .i64 x.b] 26) := ⟨_, rfl⟩
 have HBn3 := Lib.hid (show Below wf.heap.size wf wg from by rw [hwn]; exact below1 _ _)
 have HBw3 := Lib.hid (HBwf.out.trans (HBn3.out.mono HBwf.out.size))
 have HTX3 := Lib.hid (show Calls Tryz.prog 24 #[.slice (some ⟨we.heap.size + 1, 0, none⟩) 1 1] wg fun e w' => e = .returned (.tuple #[.string TA, .int .i64 0]) ∧ Below wg.heap.size wg w' from by
  rw [HTA.out]
  exact text24 [x] (we.heap.size + 1) 1 wg (by rw [hz, hwn]; exact row_one HAwf.out.1) (Nat.le_refl _) (by simp) (by simp [HMX.out]) (tabIs_below HT.out HBw3.out) (HMA.out.later HBw3.out))
 have HW3 := Lib.hid hwn
 clear hwn hz
 go_wp2_with fail
 rw [← HW2.out]
 rw [← HW3.out]
 refine HTX3.out.mono ?_
 rintro e wh ⟨rfl, hbr⟩
 have HBr3 := Lib.hid (HBn3.out.trans (hbr.mono HBn3.out.size))
 have HBwh := Lib.hid (HBwf.out.trans (HBr3.out.mono HBwf.out.size))
 have HXwh := Lib.hid (And.intro (HXwf.out.1.later HBr3.out) (HXwf.out.2.later HBr3.out))
 have HAwh := Lib.hid (And.intro (HAwf.out.1.later HBr3.out) (HAwf.out.2.later HBr3.out))
 clear hbr HTX3 HW3 x0 x1 x2 x3 x4 xf y0 y1 y2 y3 y4 yf
 obtain ⟨⟨x0, x1, x2, x3, x4, xf⟩, y0, y1, y2, y3, y4, yf⟩ := HXwh.out
 obtain ⟨wi, hwn⟩ : ∃ w, w = wh.alloc (.cells #[.int .u8 y.k, .slice p2 y.lits.length c2, .slice q2 y.links.length d2, .int .i64 y.a, .int .i64 y.b] 26) := ⟨_, rfl⟩
 have HBn4 := Lib.hid (show Below wh.heap.size wh wi from by rw [hwn]; exact below1 _ _)
 have HBw4 := Lib.hid (HBwh.out.trans (HBn4.out.mono HBwh.out.size))
 have HTX4 := Lib.hid (show Calls Tryz.prog 24 #[.slice (some ⟨wh.heap.size, 0, none⟩) 1 1] wi fun e w' => e = .returned (.tuple #[.string TB, .int .i64 0]) ∧ Below wi.heap.size wi w' from by
  rw [HTB.out]
  exact text24 [y] (wh.heap.size) 1 wi (by rw [hwn]; exact row_one HAwh.out.2) (Nat.le_refl _) (by simp) (by simp [HMY.out]) (tabIs_below HT.out HBw4.out) (HMA.out.later HBw4.out))
 have HW4 := Lib.hid hwn
 clear hwn
 go_wp2_with fail
 rw [← HW4.out]
 refine HTX4.out.mono ?_
 rintro e wj ⟨rfl, hbr⟩
 have HBr4 := Lib.hid (HBn4.out.trans (hbr.mono HBn4.out.size))
 have HBwj := Lib.hid (HBwh.out.trans (HBr4.out.mono HBwh.out.size))
 have HXwj := Lib.hid (And.intro (HXwh.out.1.later HBr4.out) (HXwh.out.2.later HBr4.out))
 have HAwj := Lib.hid (And.intro (HAwh.out.1.later HBr4.out) (HAwh.out.2.later HBr4.out))
 clear hbr HTX4 HW4 x0 x1 x2 x3 x4 xf y0 y1 y2 y3 y4 yf
 obtain ⟨⟨x0, x1, x2, x3, x4, xf⟩, y0, y1, y2, y3, y4, yf⟩ := HXwj.out
 obtain ⟨wk, hwn⟩ : ∃ w, w = wj.alloc (.cells #[.int .u8 x.k, .slice p x.lits.length c, .slice q x.links.length d, .int .i64 x.a, .int .i64 x.b, .int .u8 y.k, .slice p2 y.lits.length c2, .slice q2 y.links.length d2, .int .i64 y.a, .int .i64 y.b] 26) := ⟨_, rfl⟩
 have HBn5 := Lib.hid (show Below wj.heap.size wj wk from by rw [hwn]; exact below1 _ _)
 have HBw5 := Lib.hid (HBwj.out.trans (HBn5.out.mono HBwj.out.size))
 have HTX5 := Lib.hid (show Calls Tryz.prog 24 #[.slice (some ⟨wj.heap.size, 0, none⟩) 2 2] wk fun e w' => e = .returned (.tuple #[.string TC, .int .i64 0]) ∧ Below wk.heap.size wk w' from by
  rw [HTC.out]
  exact text24 [x, y] (wj.heap.size) 2 wk (by rw [hwn]; exact row_two HAwj.out.1 HAwj.out.2) (Nat.le_refl _) (by simp) (by simp [HMX.out, HMY.out]) (tabIs_below HT.out HBw5.out) (HMA.out.later HBw5.out))
 have HW5 := Lib.hid hwn
 clear hwn
 go_wp2_with fail
 rw [← HW5.out]
 refine HTX5.out.mono ?_
 rintro e wl ⟨rfl, hbr⟩
 have HBr5 := Lib.hid (HBn5.out.trans (hbr.mono HBn5.out.size))
 have HBwl := Lib.hid (HBwj.out.trans (HBr5.out.mono HBwj.out.size))
 have HXwl := Lib.hid (And.intro (HXwj.out.1.later HBr5.out) (HXwj.out.2.later HBr5.out))
 have HAwl := Lib.hid (And.intro (HAwj.out.1.later HBr5.out) (HAwj.out.2.later HBr5.out))
 clear hbr HTX5 HW5 x0 x1 x2 x3 x4 xf y0 y1 y2 y3 y4 yf
 obtain ⟨⟨x0, x1, x2, x3, x4, xf⟩, y0, y1, y2, y3, y4, yf⟩ := HXwl.out
 have HBfl := Lib.hid (HBr3.out.trans ((HBr4.out.trans (HBr5.out.mono HBr4.out.size)).mono HBr3.out.size))
 have HL5 := Lib.hid (show ∀ w', Below wl.heap.size wl w' → (BoxS w' W.heap.size x.k (.slice p x.lits.length c) (.slice q x.links.length d) x.a x.b ∧ BoxS w' (W.heap.size + 1) y.k (.slice p2 y.lits.length c2) (.slice q2 y.links.length d2) y.a y.b ∧ BoxT w' wc.heap.size true 1 ⟨#[40]⟩ 0 (.slice Q1 (stX x).len C1) ∧ BoxT w' we.heap.size true 1 ⟨#[40]⟩ 0 (.slice Q2 (stX y).len C2)) ∧ StArg w' x p c q d ∧ StArg w' y p2 c2 q2 d2 ∧ FoIn w' (fun b => wb.heap.size ≤ b) (stX x) Q1 ∧ FoIn w' (fun b => wd.heap.size ≤ b) (stX y) Q2 from fun w' hb =>
  have hb2 := HBfl.out.trans (hb.mono HBfl.out.size)
  ⟨⟨HXwl.out.1.later hb, HXwl.out.2.later hb, HT1f.out.1.later hb2, HT2.out.1.later hb2⟩, HAwl.out.1.later hb, HAwl.out.2.later hb, HT1f.out.2.1.later hb2, HT2.out.2.1.later hb2⟩)
 obtain ⟨B, hB⟩ : ∃ B, B = decide (x = y) := ⟨_, rfl⟩
 have HBB2 := Lib.hid hB
 have HNX := Lib.hid (show (stX x).len ≤ 281474976710656 ∧ (stX y).len ≤ 281474976710656 from by
  have h1 := size_len (stX x)
  have h2 := size_len (stX y)
  have h3 := (st_facts x HMX.out).2.2
  have h4 := (st_facts y HMY.out).2.2
  omega)
 have HCT := Lib.hid (And.intro HT1f.out.2.2 HT2.out.2.2)
 have HC15 := Lib.hid (show ∀ w', Below wl.heap.size wl w' → Calls Tryz.prog 15 #[trV true 1 ⟨#[40]⟩ 0 Q1 (stX x).len C1, trV true 1 ⟨#[40]⟩ 0 Q2 (stX y).len C2] w' fun e w'' => e = .returned (.bool B) ∧ Below w'.heap.size w' w'' from fun w' hb => by
  have h := HL5.out w' hb
  have h2 := same23_any (stX x).size (stX x) (stX y) (Nat.le_refl _) true true 1 1 ⟨#[40]⟩ ⟨#[40]⟩ 0 0 Q1 Q2 C1 C2 w' _ _ h.2.2.2.1 h.2.2.2.2 HCT.out.1 HCT.out.2 HNX.out.1 HNX.out.2
  rw [sameT_st HMX.out HMY.out, ← HBB2.out] at h2
  exact h2)
 have HC13 := Lib.hid (show ∀ w', Below wl.heap.size wl w' → Calls Tryz.prog 13 #[stV x p c q d, stV y p2 c2 q2 d2] w' fun e w'' => e = .returned (.bool B) ∧ Below w'.heap.size w' w'' from fun w' hb => by
  have hA := (HL5.out w' hb).2
  exact HBB2.out ▸ same13 x p c q d y p2 c2 q2 d2 w' hA.1.h1 hA.1.h2 hA.2.1.h1 hA.2.1.h2 hA.1.n1 hA.1.n2 hA.2.1.n1 hA.2.1.n2)
 have HTAB := Lib.hid (show (TA.toList == TB.toList) = B from by rw [ByteArray.toList_eq, ByteArray.toList_eq, HTA.out, HTB.out, HBB2.out]; exact brk_eq HMX.out HMY.out)
 obtain ⟨n1, hn1⟩ : ∃ n : Nat, n + 1 = TA.size := ⟨TA.size - 1, by omega⟩
 have HWR := Lib.hid (show IntKind.i64.wrap ((TA.size : Int) - 1) = (n1 : Int) from by rw [show ((TA.size : Int) - 1) = (n1 : Int) by omega]; exact IntWalk.i64_in _ ⟨by omega, by omega⟩)
 have n1a : (0 : Int) ≤ (n1 : Int) := Int.natCast_nonneg _
 have n1b : (n1 : Int) ≤ (TA.size : Int) := by omega
 have n1c : n1 ≤ TA.size := by omega
 have b1a : (1 : Int) ≤ (TB.size : Int) := by omega
 have b1b : 1 ≤ TB.size := by omega
 have HN1 := Lib.hid hn1
 have HJ0 := Lib.hid (below_drew wl)
 clear hn1
 unfold stV at HC13
 unfold trV at HC15
 clear hB
 go_wp2_with fail
 refine wp_region_L [(1000, (fun _ => True : World → Prop)), (1000, (fun w => BoxS w W.heap.size x.k (.slice p x.lits.length c) (.slice q x.links.length d) x.a x.b ∧ BoxS w (W.heap.size + 1) y.k (.slice p2 y.lits.length c2) (.slice q2 y.links.length d2) y.a y.b ∧ BoxT w wc.heap.size true 1 ⟨#[40]⟩ 0 (.slice Q1 (stX x).len C1) ∧ BoxT w we.heap.size true 1 ⟨#[40]⟩ 0 (.slice Q2 (stX y).len C2) : World → Prop))] (by kernel_rfl) (SL.cons (fun _ => trivial) (SL.cons (fun _ => (HL5.out _ HJ0.out).1) SL.nil)) (fun hH => ?_)
 generalize wl.drew = wk0 at *
 refine tk 1 0 ⟨some 78, .load 35 (.tmp 5), 35, "law.go:108", #[], none⟩ ?_ rfl rfl ?_ hH fun hH => ?_
 rotate_left
 ·intro w hSw; (try dsimp only at hSw); obtain ⟨⟨x0, x1, x2, x3, x4, xf⟩, ⟨y0, y1, y2, y3, y4, yf⟩, ⟨t0, t1, t2, t3, t4, tf⟩, u0, u1, u2, u3, u4, uf⟩ := hSw; go_simp; try with_reducible rfl
 try simp only [Act.put, sI, s0, s1]
 refine tk 1 1 ⟨some 79, .load 35 (.tmp 7), 35, "law.go:108", #[], none⟩ ?_ rfl rfl ?_ hH fun hH => ?_
 rotate_left
 ·intro w hSw; (try dsimp only at hSw); obtain ⟨⟨x0, x1, x2, x3, x4, xf⟩, ⟨y0, y1, y2, y3, y4, yf⟩, ⟨t0, t1, t2, t3, t4, tf⟩, u0, u1, u2, u3, u4, uf⟩ := hSw; go_simp; try with_reducible rfl
 try simp only [Act.put, sI, s0, s1]
 refine tk 1 3 ⟨some 81, .load 26 (.tmp 2), 26, "law.go:108", #[], none⟩ ?_ rfl rfl ?_ hH fun hH => ?_
 rotate_left
 ·intro w hSw; (try dsimp only at hSw); obtain ⟨⟨x0, x1, x2, x3, x4, xf⟩, ⟨y0, y1, y2, y3, y4, yf⟩, ⟨t0, t1, t2, t3, t4, tf⟩, u0, u1, u2, u3, u4, uf⟩ := hSw; go_simp; try with_reducible rfl
 try simp only [Act.put, sI, s0, s1]
 refine tk 1 4 ⟨some 82, .load 26 (.tmp 3), 26, "law.go:108", #[], none⟩ ?_ rfl rfl ?_ hH fun hH => ?_
 rotate_left
 ·intro w hSw; (try dsimp only at hSw); obtain ⟨⟨x0, x1, x2, x3, x4, xf⟩, ⟨y0, y1, y2, y3, y4, yf⟩, ⟨t0, t1, t2, t3, t4, tf⟩, u0, u1, u2, u3, u4, uf⟩ := hSw; go_simp; try with_reducible rfl
 try simp only [Act.put, sI, s0, s1]
 refine wpAnyL_ready (rs := [2]) (by kernel_rfl) (by simp) ?_
 refine AllReadyL.cons (o := ⟨some 80, .call ⟨.value (.func 15), #[.tmp 78, .tmp 79], #[35, 35]⟩, 4, "law.go:108", #[⟨0, .data⟩, ⟨1, .data⟩], none⟩) rfl (fun K hK => ?_) AllReadyL.nil
 go_simp
 go_at_call 15
 refine (HC15.out wk0 HJ0.out).mono ?_
 rintro e wk1 ⟨rfl, hbk⟩
 have HJ1 := Lib.hid (HJ0.out.trans (hbk.mono HJ0.out.size))
 clear hbk
 refine hK.out _ _ (SL.cons (fun _ => trivial) (SL.cons (fun _ => (HL5.out _ HJ1.out).1) SL.nil)) (fun hH => ?_)
 clear hK K
 try simp only [Act.put, sI, s0, s1]
 refine wpAnyL_ready (rs := [5]) (by kernel_rfl) (by simp) ?_
 refine AllReadyL.cons (o := ⟨some 83, .call ⟨.value (.func 13), #[.tmp 81, .tmp 82], #[26, 26]⟩, 4, "law.go:108", #[⟨3, .data⟩, ⟨4, .data⟩, ⟨2, .chain⟩], none⟩) rfl (fun K hK => ?_) AllReadyL.nil
 go_simp
 go_at_call 13
 refine (HC13.out wk1 HJ1.out).mono ?_
 rintro e wk2 ⟨rfl, hbk⟩
 have HJ2 := Lib.hid (HJ1.out.trans (hbk.mono HJ1.out.size))
 clear hbk
 refine hK.out _ _ (SL.cons (fun _ => trivial) (SL.cons (fun _ => (HL5.out _ HJ2.out).1) SL.nil)) (fun hH => ?_)
 clear hK K
 try simp only [Act.put, sI, s0, s1]
 refine tk 0 6 ⟨some 84, .binOp .eql 4 (.tmp 80) (.tmp 83) 4, 4, "law.go:108", #[⟨2, .data⟩, ⟨5, .data⟩], none⟩ ?_ rfl rfl ?_ hH fun hH => ?_
 rotate_left
 ·intro w hSw; (try dsimp only at hSw); go_simp; try with_reducible rfl
 try simp only [Act.put, sI, s0, s1]
 refine tk 0 7 ⟨some 85, .move (.tmp 84), 4, "law.go:108", #[⟨6, .data⟩, ⟨5, .chain⟩], none⟩ ?_ rfl rfl ?_ hH fun hH => ?_
 rotate_left
 ·intro w hSw; (try dsimp only at hSw); go_simp; try with_reducible rfl
 try simp only [Act.put, sI, s0, s1]
 refine tk 0 8 ⟨some 86, .move (.tmp 9), 9, "law.go:108", #[⟨7, .guard⟩], some (7, true)⟩ ?_ rfl rfl ?_ hH fun hH => ?_
 rotate_left
 ·intro w hSw; (try dsimp only at hSw); go_simp; try with_reducible rfl
 try simp only [Act.put, sI, s0, s1]
 refine tk 0 9 ⟨some 87, .move (.tmp 11), 9, "law.go:108", #[⟨7, .guard⟩], some (7, true)⟩ ?_ rfl rfl ?_ hH fun hH => ?_
 rotate_left
 ·intro w hSw; (try dsimp only at hSw); go_simp; try with_reducible rfl
 try simp only [Act.put, sI, s0, s1]
 refine tk 0 10 ⟨some 88, .binOp .eql 9 (.tmp 86) (.tmp 87) 9, 4, "law.go:108", #[⟨8, .data⟩, ⟨9, .data⟩, ⟨7, .guard⟩], some (7, true)⟩ ?_ rfl rfl ?_ hH fun hH => ?_
 rotate_left
 ·intro w hSw; (try dsimp only at hSw); go_simp; try with_reducible rfl
 try simp only [Act.put, sI, s0, s1]
 rw [HTAB.out]
 refine tk 1 11 ⟨some 89, .load 26 (.tmp 2), 26, "law.go:108", #[⟨7, .guard⟩], some (7, true)⟩ ?_ rfl rfl ?_ hH fun hH => ?_
 rotate_left
 ·intro w hSw; (try dsimp only at hSw); obtain ⟨⟨x0, x1, x2, x3, x4, xf⟩, ⟨y0, y1, y2, y3, y4, yf⟩, ⟨t0, t1, t2, t3, t4, tf⟩, u0, u1, u2, u3, u4, uf⟩ := hSw; go_simp; try with_reducible rfl
 try simp only [Act.put, sI, s0, s1]
 refine tk 1 12 ⟨some 90, .load 26 (.tmp 3), 26, "law.go:108", #[⟨7, .guard⟩], some (7, true)⟩ ?_ rfl rfl ?_ hH fun hH => ?_
 rotate_left
 ·intro w hSw; (try dsimp only at hSw); obtain ⟨⟨x0, x1, x2, x3, x4, xf⟩, ⟨y0, y1, y2, y3, y4, yf⟩, ⟨t0, t1, t2, t3, t4, tf⟩, u0, u1, u2, u3, u4, uf⟩ := hSw; go_simp; try with_reducible rfl
 try simp only [Act.put, sI, s0, s1]
 refine wpAnyL_ready (rs := [13]) (by kernel_rfl) (by simp) ?_
 refine AllReadyL.cons (o := ⟨some 91, .call ⟨.value (.func 13), #[.tmp 89, .tmp 90], #[26, 26]⟩, 4, "law.go:108", #[⟨11, .data⟩, ⟨12, .data⟩, ⟨7, .chain⟩, ⟨7, .guard⟩], some (7, true)⟩) rfl (fun K hK => ?_) AllReadyL.nil
 go_simp
 go_at_call 13
 refine (HC13.out wk2 HJ2.out).mono ?_
 rintro e wk3 ⟨rfl, hbk⟩
 have HJ3 := Lib.hid (HJ2.out.trans (hbk.mono HJ2.out.size))
 clear hbk
 refine hK.out _ _ (SL.cons (fun _ => trivial) (SL.cons (fun _ => (HL5.out _ HJ3.out).1) SL.nil)) (fun hH => ?_)
 clear hK K
 try simp only [Act.put, sI, s0, s1]
 refine tk 0 14 ⟨some 92, .binOp .eql 4 (.tmp 88) (.tmp 91) 4, 4, "law.go:108", #[⟨10, .data⟩, ⟨13, .data⟩, ⟨7, .guard⟩], some (7, true)⟩ ?_ rfl rfl ?_ hH fun hH => ?_
 rotate_left
 ·intro w hSw; (try dsimp only at hSw); go_simp; try with_reducible rfl
 try simp only [Act.put, sI, s0, s1]
 refine tk 0 15 ⟨some 93, .pick (.tmp 85) (.tmp 92) (.const (.bool false)), 4, "law.go:108", #[⟨7, .data⟩, ⟨14, .data⟩], none⟩ ?_ rfl rfl ?_ hH fun hH => ?_
 rotate_left
 ·intro w hSw; (try dsimp only at hSw); go_simp; try with_reducible rfl
 try simp only [Act.put, sI, s0, s1]
 refine tk 0 16 ⟨some 94, .move (.tmp 93), 4, "law.go:108", #[⟨15, .data⟩, ⟨13, .chain⟩], none⟩ ?_ rfl rfl ?_ hH fun hH => ?_
 rotate_left
 ·intro w hSw; (try dsimp only at hSw); go_simp; try with_reducible rfl
 try simp only [Act.put, sI, s0, s1]
 refine tk 0 17 ⟨some 95, .move (.tmp 13), 9, "law.go:108", #[⟨16, .guard⟩], some (16, true)⟩ ?_ rfl rfl ?_ hH fun hH => ?_
 rotate_left
 ·intro w hSw; (try dsimp only at hSw); go_simp; try with_reducible rfl
 try simp only [Act.put, sI, s0, s1]
 refine tk 0 18 ⟨some 96, .move (.tmp 9), 9, "law.go:108", #[⟨16, .guard⟩], some (16, true)⟩ ?_ rfl rfl ?_ hH fun hH => ?_
 rotate_left
 ·intro w hSw; (try dsimp only at hSw); go_simp; try with_reducible rfl
 try simp only [Act.put, sI, s0, s1]
 refine tk 0 19 ⟨some 97, .move (.tmp 9), 9, "law.go:108", #[⟨16, .guard⟩], some (16, true)⟩ ?_ rfl rfl ?_ hH fun hH => ?_
 rotate_left
 ·intro w hSw; (try dsimp only at hSw); go_simp; try with_reducible rfl
 try simp only [Act.put, sI, s0, s1]
 refine tk 0 20 ⟨some 98, .call ⟨.builtin .len, #[.tmp 97], #[9]⟩, 3, "law.go:108", #[⟨19, .data⟩, ⟨16, .guard⟩], some (16, true)⟩ ?_ rfl rfl ?_ hH fun hH => ?_
 rotate_left
 ·intro w hSw; (try dsimp only at hSw); go_simp; try with_reducible rfl
 try simp only [Act.put, sI, s0, s1]
 refine tk 0 21 ⟨some 99, .binOp .sub 3 (.tmp 98) (.const (.int .i64 1)) 3, 3, "law.go:108", #[⟨20, .data⟩, ⟨16, .guard⟩], some (16, true)⟩ ?_ rfl rfl ?_ hH fun hH => ?_
 rotate_left
 ·intro w hSw; (try dsimp only at hSw); go_simp; try with_reducible rfl
 try simp only [Act.put, sI, s0, s1]
 rw [HWR.out]
 refine tk 0 22 ⟨some 100, .slice 9 (.tmp 96) none (some (.tmp 99)) none, 9, "law.go:108", #[⟨18, .data⟩, ⟨21, .data⟩, ⟨16, .guard⟩], some (16, true)⟩ ?_ rfl rfl ?_ hH fun hH => ?_
 rotate_left
 ·intro w hSw; (try dsimp only at hSw); go_simp; try with_reducible rfl
 try simp only [Act.put, sI, s0, s1]
 obtain ⟨PA, hPA⟩ : ∃ P, P = TA.extract 0 n1 := ⟨_, rfl⟩
 have zP : PA.size = n1 := by rw [hPA, ByteArray.size_extract]; omega
 have zP2 : PA.size ≤ 1000000000 := by omega
 have HPA := Lib.hid hPA
 rw [← hPA]
 clear hPA
 refine tk 0 23 ⟨some 101, .binOp .add 9 (.tmp 100) (.const (.string { data := #[32] })) 9, 9, "law.go:108", #[⟨22, .data⟩, ⟨16, .guard⟩], some (16, true)⟩ ?_ rfl rfl ?_ hH fun hH => ?_
 rotate_left
 ·intro w hSw
  (try dsimp only at hSw)
  go_simp; rw [if_neg (by omega)]
  try with_reducible rfl
 try simp only [Act.put, sI, s0, s1]
 have zQ : (PA ++ ⟨#[32]⟩ : ByteArray).size ≤ 1000000001 := by rw [ByteArray.size_append]; have e : (⟨#[32]⟩ : ByteArray).size = 1 := rfl; omega
 refine tk 0 24 ⟨some 102, .move (.tmp 11), 9, "law.go:108", #[⟨16, .guard⟩], some (16, true)⟩ ?_ rfl rfl ?_ hH fun hH => ?_
 rotate_left
 ·intro w hSw; (try dsimp only at hSw); go_simp; try with_reducible rfl
 try simp only [Act.put, sI, s0, s1]
 refine tk 0 25 ⟨some 103, .slice 9 (.tmp 102) (some (.const (.int .i64 1))) none none, 9, "law.go:108", #[⟨24, .data⟩, ⟨16, .guard⟩], some (16, true)⟩ ?_ rfl rfl ?_ hH fun hH => ?_
 rotate_left
 ·intro w hSw; (try dsimp only at hSw); go_simp; try with_reducible rfl
 try simp only [Act.put, sI, s0, s1]
 obtain ⟨RB, hRB⟩ : ∃ P, P = TB.extract 1 TB.size := ⟨_, rfl⟩
 have zR : RB.size + 1 = TB.size := by rw [hRB, ByteArray.size_extract]; omega
 have HZZ := Lib.hid (show PA ++ ⟨#[32]⟩ ++ RB = TC from by rw [HPA.out, hRB, HTC.out, HTB.out]; have h := HN1.out; rw [HTA.out] at h ⊢; exact apart_eq (stTx x) (stTx y) n1 h)
 rw [← hRB]
 clear hRB
 refine tk 0 26 ⟨some 104, .binOp .add 9 (.tmp 101) (.tmp 103) 9, 9, "law.go:108", #[⟨23, .data⟩, ⟨25, .data⟩, ⟨16, .guard⟩], some (16, true)⟩ ?_ rfl rfl ?_ hH fun hH => ?_
 rotate_left
 ·intro w hSw
  (try dsimp only at hSw)
  go_simp; rw [if_neg (by omega)]
  try with_reducible rfl
 try simp only [Act.put, sI, s0, s1]
 rw [HZZ.out]
 refine tk 0 27 ⟨some 105, .binOp .eql 9 (.tmp 95) (.tmp 104) 9, 4, "law.go:108", #[⟨17, .data⟩, ⟨26, .data⟩, ⟨16, .guard⟩], some (16, true)⟩ ?_ rfl rfl ?_ hH fun hH => ?_
 rotate_left
 ·intro w hSw; (try dsimp only at hSw); go_simp; try with_reducible rfl
 try simp only [Act.put, sI, s0, s1]
 refine tk 0 28 ⟨some 106, .pick (.tmp 94) (.tmp 105) (.const (.bool false)), 4, "law.go:108", #[⟨16, .data⟩, ⟨27, .data⟩], none⟩ ?_ rfl rfl ?_ hH fun hH => ?_
 rotate_left
 ·intro w hSw; (try dsimp only at hSw); go_simp; try with_reducible rfl
 try simp only [Act.put, sI, s0, s1]
 refine tk 0 29 ⟨some 107, .move (.tmp 106), 4, "law.go:108", #[⟨28, .data⟩, ⟨16, .chain⟩], none⟩ ?_ rfl rfl ?_ hH fun hH => ?_
 rotate_left
 ·intro w hSw; (try dsimp only at hSw); go_simp; try with_reducible rfl
 try simp only [Act.put, sI, s0, s1]
 refine wpAnyL_ready (rs := [30]) (by kernel_rfl) (by simp) ?_
 refine AllReadyL.cons (o := ⟨some 108, .call ⟨.value (.func 8), #[], #[]⟩, 4, "law.go:108", #[⟨29, .chain⟩, ⟨29, .guard⟩], some (29, true)⟩) rfl (fun K hK => ?_) AllReadyL.nil
 go_simp
 go_at_call 8
 have HBK := Lib.hid (HBwl.out.trans (HJ3.out.mono HBwl.out.size))
 refine (HK.out wk3 HBK.out).mono ?_
 rintro e wk4 ⟨rfl, hbk⟩
 have HJ4 := Lib.hid (HJ3.out.trans (hbk.mono HJ3.out.size))
 have HBZ := Lib.hid (HBK.out.trans (hbk.mono HBK.out.size))
 clear hbk
 refine hK.out _ _ (SL.cons (fun _ => trivial) (SL.cons (fun _ => (HL5.out _ HJ4.out).1) SL.nil)) (fun hH => ?_)
 clear hK K
 try simp only [Act.put, sI, s0, s1]
 refine tk 0 31 ⟨some 109, .pick (.tmp 107) (.tmp 108) (.const (.bool false)), 4, "law.go:108", #[⟨29, .data⟩, ⟨30, .data⟩], none⟩ ?_ rfl rfl ?_ hH fun hH => ?_
 rotate_left
 ·intro w hSw; (try dsimp only at hSw); go_simp; try with_reducible rfl
 try simp only [Act.put, sI, s0, s1]
 refine tk 0 32 ⟨some 4, .assign (.tmp 109), 4, "law.go:108", #[⟨31, .data⟩, ⟨30, .chain⟩, ⟨0, .phase⟩, ⟨1, .phase⟩, ⟨2, .phase⟩, ⟨3, .phase⟩, ⟨4, .phase⟩, ⟨5, .phase⟩, ⟨6, .phase⟩, ⟨7, .phase⟩, ⟨8, .phase⟩, ⟨9, .phase⟩, ⟨10, .phase⟩, ⟨11, .phase⟩, ⟨12, .phase⟩, ⟨13, .phase⟩, ⟨14, .phase⟩, ⟨15, .phase⟩, ⟨16, .phase⟩, ⟨17, .phase⟩, ⟨18, .phase⟩, ⟨19, .phase⟩, ⟨20, .phase⟩, ⟨21, .phase⟩, ⟨22, .phase⟩, ⟨23, .phase⟩, ⟨24, .phase⟩, ⟨25, .phase⟩, ⟨26, .phase⟩, ⟨27, .phase⟩, ⟨28, .phase⟩, ⟨29, .phase⟩, ⟨30, .phase⟩, ⟨31, .phase⟩], none⟩ ?_ rfl rfl ?_ hH fun hH => ?_
 rotate_left
 ·intro w hSw; (try dsimp only at hSw); go_simp; try with_reducible rfl
 try simp only [Act.put, sI, s0, s1]
 refine wpAnyL_done (by kernel_rfl) ?_ _
 clear hH
 go_wp2_with fail
 exact bodyPost_ret (v := .bool true) (by simp [results, Tryz.results6, go_sem]) rfl ⟨rfl, HBZ.out⟩
end Go.Proofs.YtookoagcmejkpaaGreatDoor
namespace Go.Proofs.YtookoagcmejkpaaGreatDoor
open Go Go.RowKit Go.WideShapes Go.ChangeShapes Go.WideElems Go.Deep
theorem cells3r : Tryz.prog.cellsOf 3 = 1 := by kernel_rfl
theorem five {α : Type} {l : List α} (h : l.length = 5) : ∃ a b c d e, l = [a, b, c, d, e] := by
 match l, h with
 | [a, b, c, d, e], _ => exact ⟨a, b, c, d, e, rfl⟩
instance : Inhabited Fo := ⟨.nil⟩
set_option maxRecDepth 100000
theorem cells44r : Tryz.prog.cellsOf 44 = 1 := by kernel_rfl
theorem read_row {H : Type} {enc : TypeId × Value → H} {W : World} {n t e : Nat} {y : Value} {x : DataW H × List MemPlace} (ht : Tryz.prog.underlying t = some (.slice e)) (he : Tryz.prog.underlying e = some (.int .i64)) (hce : Tryz.prog.cellsOf e = 1) (h : DataW.trod enc Tryz.prog W 0 (fun _ => true) true n t [y] = some x) :
  ∃ (q : Option Addr) (c : Nat) (l : List Int), y = .slice q l.length c ∧ l.length ≤ c ∧ c ≤ 9223372036854775807 ∧ (q = none → c = 0) ∧ IntsIn W q l ∧ (0 < c → ∀ ad, q = some ad → ad = ⟨ad.block, ad.off, none⟩) := by
 rcases open_ints ht he hce h with ⟨hcs, _⟩ | ⟨a', len', cap', zs, hcs, _, hl, hmx, hz, _, hcell, hwf⟩
 ·simp at hcs
  exact ⟨none, 0, [], hcs, Nat.le_refl _, by omega, fun _ => rfl, fun i hi => absurd hi (Nat.not_lt_zero i), fun h => by omega⟩
 ·simp at hcs
  simp only [if_true] at hz
  have hml : maxLen = 9223372036854775807 := rfl
  have hlen : (zs.take len').length = len' := by simp; omega
  have hspot : 0 < cap' → a' = ⟨a'.block, a'.off, none⟩ := fun h => by
   obtain ⟨bk, off, spot⟩ := a'
   have : spot = none := by simpa [Addr.add] using World.cell?_spot (hcell 0 (by omega))
   subst this; rfl
  refine ⟨some a', cap', zs.take len', by rw [hlen]; exact hcs, by rw [hlen]; exact hl, by omega, (fun h => by cases h), fun i hi => ?_, fun h ad e => by cases e; exact hspot h⟩
  rw [hlen] at hi
  have hs := hspot (by omega)
  refine ⟨a'.block, a'.off, congrArg some hs, ?_⟩
  have hc := hcell i (by omega)
  rw [hs, Lib.add_plain] at hc
  have e : (zs.take len')[i]'(by rw [hlen]; exact hi) = zs.getD i 0 := by
   rw [List.getElem_take]
   simp [List.getD, List.getElem?_eq_getElem (show i < zs.length by omega)]
  rw [e]
  exact hc
theorem cells64r : Tryz.prog.cellsOf 64 = 7 := by kernel_rfl
theorem cells61r : Tryz.prog.cellsOf 61 = 1 := by kernel_rfl
theorem cells62r : Tryz.prog.cellsOf 62 = 1 := by kernel_rfl
theorem cells22r : Tryz.prog.cellsOf 22 = 1 := by kernel_rfl
theorem cells23r : Tryz.prog.cellsOf 23 = 1 := by kernel_rfl
theorem cells24r : Tryz.prog.cellsOf 24 = 1 := by kernel_rfl
instance : Inhabited Lk := ⟨⟨0, 0, 0, 0, 0, 0, []⟩⟩
theorem bounds_u8 {n : Int} (h : (Lit.int .u8 n).wf = true) : 0 ≤ n ∧ n ≤ 255 := by
 have h1 : IntKind.u8.min ≤ n ∧ n ≤ IntKind.u8.max := by simpa [Lit.wf] using h
 have a : IntKind.u8.min = 0 := by decide
 have b : IntKind.u8.max = 255 := by decide
 rw [a, b] at h1
 exact h1
theorem read_links {H : Type} {enc : TypeId × Value → H} {W : World} {n : Nat} {y : Value} {x : DataW H × List MemPlace} (h : DataW.trod enc Tryz.prog W 0 (fun _ => true) true n 24 [y] = some x) :
  ∃ (q : Option Addr) (c : Nat) (l : List Lk), y = .slice q l.length c ∧ l.length ≤ c ∧ c ≤ 9223372036854775807 ∧ SlOK q c ∧ LksIn W q l ∧ LksOK W q l ∧ KdL l ∧ (0 < c → ∀ ad, q = some ad → ad = ⟨ad.block, ad.off, none⟩) := by
 rcases open_slice Tryz.underlying24 h with ⟨hcs, _⟩ | ⟨a', len, cap, mm, n', Dd, Pl, hcs, _, hl, hmx, hmm, hd, hx⟩
 ·simp at hcs
  exact ⟨none, 0, [], hcs, Nat.le_refl _, by omega, fun _ => rfl, (fun i hi => absurd hi (Nat.not_lt_zero i)), (fun i hi => absurd hi (Nat.not_lt_zero i)), (fun y hy => by cases hy), fun h => by omega⟩
 ·simp at hcs
  simp only [if_true] at hmm
  have hml : maxLen = 9223372036854775807 := rfl
  have each : ∀ i, i < mm → ∃ q : Lk × Option Addr × Nat, W.cell? (a'.add (i * 7)) = some (.int .u8 q.1.k) ∧ W.cell? (a'.add (i * 7 + 1)) = some (.int .i64 q.1.lit) ∧ W.cell? (a'.add (i * 7 + 2)) = some (.int .i64 q.1.a) ∧ W.cell? (a'.add (i * 7 + 3)) = some (.int .i64 q.1.b) ∧ W.cell? (a'.add (i * 7 + 4)) = some (.int .i64 q.1.i) ∧ W.cell? (a'.add (i * 7 + 5)) = some (.int .i64 q.1.j) ∧ W.cell? (a'.add (i * 7 + 6)) = some (.slice q.2.1 q.1.l.length q.2.2) ∧
    IntsIn W q.2.1 q.1.l ∧ q.1.l.length ≤ q.2.2 ∧ q.2.2 ≤ 9223372036854775807 ∧ (0 ≤ q.1.k ∧ q.1.k ≤ 255) ∧ SlOK q.2.1 q.2.2 := by
   intro i hi
   obtain ⟨cs', h1, h2⟩ := hx i hi
   rw [cells64r] at h1
   obtain ⟨_, hlen, hcell⟩ := World.cells?_some h1
   obtain ⟨xs, k, hk, hxy, _, hxl, hf⟩ := DataW.trod_struct Tryz.underlying64 h2
   match xs, hxl, cs', hlen with
   | [y0, y1, y2, y3, y4, y5, y6], _, [v0, v1, v2, v3, v4, v5, v6], _ =>
    have g0 := hf 0 _ rfl
    have g1 := hf 1 _ rfl
    have g2 := hf 2 _ rfl
    have g3 := hf 3 _ rfl
    have g4 := hf 4 _ rfl
    have g5 := hf 5 _ rfl
    have g6 := hf 6 _ rfl
    simp [cells61r, cells44r, cells3r, cells62r] at g0 g1 g2 g3 g4 g5 g6
    obtain ⟨k0, e0, _, w0⟩ := DataW.trod_int Tryz.underlying61 g0
    obtain ⟨k1, e1, _, w1⟩ := DataW.trod_int Tryz.underlying44 g1
    obtain ⟨k2, e2, _, w2⟩ := DataW.trod_int Tryz.underlying3 g2
    obtain ⟨k3, e3, _, w3⟩ := DataW.trod_int Tryz.underlying3 g3
    obtain ⟨k4, e4, _, w4⟩ := DataW.trod_int Tryz.underlying3 g4
    obtain ⟨k5, e5, _, w5⟩ := DataW.trod_int Tryz.underlying3 g5
    obtain ⟨q6, c6, l6, e6, r1, r2, r3, r4, _⟩ := read_row Tryz.underlying62 Tryz.underlying3 cells3r g6
    cases e0
    cases e1
    cases e2
    cases e3
    cases e4
    cases e5
    subst e6
    have c0 := hcell 0 (by omega)
    have c1 := hcell 1 (by omega)
    have c2 := hcell 2 (by omega)
    have c3 := hcell 3 (by omega)
    have c4 := hcell 4 (by omega)
    have c5 := hcell 5 (by omega)
    have c6' := hcell 6 (by omega)
    rw [add_add] at c0 c1 c2 c3 c4 c5 c6'
    exact ⟨(⟨k0, k1, k2, k3, k4, k5, l6⟩, q6, c6), by simpa using c0, by simpa using c1, by simpa using c2, by simpa using c3, by simpa using c4, by simpa using c5, by simpa using c6', r4, r1, r2, bounds_u8 w0, r3⟩
  obtain ⟨q, hq⟩ := choose_lt each
  have hll : ((List.range len).map fun i => (q i).1).length = len := by simp
  have hspot : 0 < cap → a' = ⟨a'.block, a'.off, none⟩ := fun h => by
   obtain ⟨bk, off, spot⟩ := a'
   have : spot = none := by simpa [Addr.add] using World.cell?_spot (hq 0 (by omega)).1
   subst this; rfl
  refine ⟨some a', cap, (List.range len).map fun i => (q i).1, by rw [hll]; exact hcs, by rw [hll]; exact hl, by omega, (fun h => by cases h), fun i hi => ?_, fun i hi b off e q' n' c' hc => ?_, fun y hy => ?_, fun h ad e => by cases e; exact hspot h⟩
  ·rw [hll] at hi
   have hs := hspot (by omega)
   obtain ⟨c0, c1, c2, c3, c4, c5, c6, r1, r2, r3, _⟩ := hq i (by omega)
   rw [hs, Lib.add_plain] at c0 c1 c2 c3 c4 c5 c6
   have e : ((List.range len).map fun i => (q i).1)[i]'(by rw [hll]; exact hi) = (q i).1 := by simp
   rw [e]
   exact ⟨a'.block, a'.off, congrArg some hs, c0, c1, c2, c3, c4, c5, (q i).2.1, (q i).2.2, c6, r1, r2, r3⟩
  ·rw [hll] at hi
   cases e
   obtain ⟨_, _, _, _, _, _, c6, _, _, _, _, k3⟩ := hq i (by omega)
   rw [Lib.add_plain, ← Nat.add_assoc, hc] at c6
   injection c6 with c6; injection c6 with e1 e2 e3
   subst e1 e3
   exact k3
  ·obtain ⟨i, hi, rfl⟩ := List.mem_map.1 hy
   have hi' := List.mem_range.1 hi
   obtain ⟨_, _, _, _, _, _, _, _, _, _, k1, _⟩ := hq i (by omega)
   exact k1
theorem cells26r : Tryz.prog.cellsOf 26 = 5 := by kernel_rfl
theorem read_step {H : Type} {enc : TypeId × Value → H} {W : World} {base : Nat} {v : Value} {d : DataW H} {p : List MemPlace} (hval : Value.okWide Tryz.prog W .any base 26 v) (h : DataW.Trod enc Tryz.prog W 0 (fun _ => true) true 26 v d p) :
  ∃ (x : Stp) (p : Option Addr) (c : Nat) (q : Option Addr) (d : Nat), v = stV x p c q d ∧ StArg W x p c q d := by
 obtain ⟨cs, rfl, hcs⟩ := okWide_struct Tryz.underlying26 hval
 rw [cells26r] at hcs
 obtain ⟨fuel, hf⟩ := h
 obtain ⟨cl⟩ := cs
 obtain ⟨v0, v1, v2, v3, v4, rfl⟩ := five (l := cl) (by simpa using hcs)
 obtain ⟨xs, k, hk, hxy, _, hxl, hf2⟩ := DataW.trod_struct Tryz.underlying26 hf
 obtain ⟨y0, y1, y2, y3, y4, rfl⟩ := five hxl
 have g0 := hf2 0 _ rfl
 have g1 := hf2 1 _ rfl
 have g2 := hf2 2 _ rfl
 have g3 := hf2 3 _ rfl
 have g4 := hf2 4 _ rfl
 simp [Value.cells, cells22r, cells23r, cells24r, cells3r] at g0 g1 g2 g3 g4
 obtain ⟨k0, e0, _, w0⟩ := DataW.trod_int Tryz.underlying22 g0
 obtain ⟨q1, c1, l1, e1, a1, a2, a3, a4, a5⟩ := read_row Tryz.underlying23 Tryz.underlying44 cells44r g1
 obtain ⟨q2, c2, l2, e2, b1, b2, b3, b4, b5, b6, _⟩ := read_links g2
 obtain ⟨k3, e3, _, w3⟩ := DataW.trod_int Tryz.underlying3 g3
 obtain ⟨k4, e4, _, w4⟩ := DataW.trod_int Tryz.underlying3 g4
 cases e0
 cases e3
 cases e4
 subst e1
 subst e2
 exact ⟨⟨k0, l1, l2, k3, k4⟩, q1, c1, q2, c2, rfl, ⟨a4, b4, b5, a3, bounds_u8 w0, b6, Nat.le_trans a1 a2, Nat.le_trans b1 b2⟩⟩
end Go.Proofs.YtookoagcmejkpaaGreatDoor
