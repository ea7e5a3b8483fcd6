/- Steps alike: both answers. -/
import Derived.Test.YtookoagcmejkpaaGreatDoorJ0
import Derived.Deep.RegionWith
set_option maxHeartbeats 1600000
namespace Go.Proofs.YtookoagcmejkpaaGreatDoor
set_option maxRecDepth 100000
open Go Go.RowKit
theorem qh9 (x : Stp) (p : Option Addr) (c : Nat) (q : Option Addr) (d : Nat) (y : Stp) (p2 : Option Addr) (c2 : Nat) (q2 : Option Addr) (d0 : Nat) (W : World) (h1 : IntsIn W p x.lits) (h2 : LksIn W q x.links) (h3 : IntsIn W p2 y.lits) (h4 : LksIn W q2 y.links)
  (n1 : x.lits.length <= 9223372036854775807) (n2 : x.links.length <= 9223372036854775807) (n3 : y.lits.length <= 9223372036854775807) (n4 : y.links.length <= 9223372036854775807) :
  Calls Tryz.prog 14 #[stV x p c q d, stV y p2 c2 q2 d0] W fun e w' => e = .returned (.bool (decide (x = y))) /\ Below W.heap.size W w' := by
 obtain ⟨k, lits, links, a, b⟩ := x;obtain ⟨k2, lits2, links2, a2, b2⟩ := y;simp only at h1 h2 h3 h4 n1 n2 n3 n4;simp only [stV]
 by_cases hk : k = k2
 case neg =>
  have e9 : (k == k2) = false := by simp [hk]
  have e10 : (k != k2) = true := by simp [hk]
  have hne : decide ((⟨k, lits, links, a, b⟩ : Stp) = ⟨k2, lits2, links2, a2, b2⟩) = false := decide_eq_false (fun e => hk (by injection e));rw [hne];clear h1 h2 h3 h4 hne;go_enter Tryz.func14, Tryz.ntmps14
  go_wp2_with fail
  exact bodyPost_ret (v := .bool false) (by simp [results, Tryz.results14, go_sem]) rfl ⟨rfl, by repeat (first | exact Below.refl _ _ | refine bdd ?_ | refine Below.alloc ?_ (by simp) _)⟩
 subst hk;have ek : (k == k) = true := by simp
 have HAL := Zh (fun (a b a2 b2 : Int) => show Below W.heap.size W ((W.alloc (.cells #[.int .u8 k, .slice p lits.length c, .slice q links.length d, .int .i64 a, .int .i64 b] 26)).alloc (.cells #[.int .u8 k, .slice p2 lits2.length c2, .slice q2 links2.length d0, .int .i64 a2, .int .i64 b2] 26)) from by repeat (first | exact Below.refl _ _ | refine bdd ?_ | refine Below.alloc ?_ (by simp) _))
 by_cases hlits : lits = lits2
 case neg =>
  have hne : decide ((⟨k, lits, links, a, b⟩ : Stp) = ⟨k, lits2, links2, a2, b2⟩) = false := decide_eq_false (fun e => hlits (by injection e));have hlv : decide (lits = lits2) = false := decide_eq_false hlits;rw [hne]
  have HCL := Zh (show Calls Tryz.prog 47 #[.slice p lits.length c, .slice p2 lits2.length c2] ((W.alloc (.cells #[.int .u8 k, .slice p lits.length c, .slice q links.length d, .int .i64 a, .int .i64 b] 26)).alloc (.cells #[.int .u8 k, .slice p2 lits2.length c2, .slice q2 links2.length d0, .int .i64 a2, .int .i64 b2] 26)) (fun e w' => e = .returned (.bool false) /\ ∃ nd, w' = ((W.alloc (.cells #[.int .u8 k, .slice p lits.length c, .slice q links.length d, .int .i64 a, .int .i64 b] 26)).alloc (.cells #[.int .u8 k, .slice p2 lits2.length c2, .slice q2 links2.length d0, .int .i64 a2, .int .i64 b2] 26)).drewN nd) from by
   have h := qkc p c lits.length lits p2 c2 lits2.length lits2 ((W.alloc (.cells #[.int .u8 k, .slice p lits.length c, .slice q links.length d, .int .i64 a, .int .i64 b] 26)).alloc (.cells #[.int .u8 k, .slice p2 lits2.length c2, .slice q2 links2.length d0, .int .i64 a2, .int .i64 b2] 26)) (h1.later (HAL.o a b a2 b2)) (h3.later (HAL.o a b a2 b2)) rfl rfl n1 n3;rw [hlv] at h
   exact h)
  clear h1 h2 h3 h4 hne hlv hlits;go_enter Tryz.func14, Tryz.ntmps14
  go_wp2_with fail
  refine HCL.o.mono ?_;rintro e w1 ⟨rfl, nd, rfl⟩
  go_wp2_with fail
  exact bodyPost_ret (v := .bool false) (by simp [results, Tryz.results14, go_sem]) rfl ⟨rfl, bdd (HAL.o a b a2 b2)⟩
 have hlv : decide (lits = lits2) = true := decide_eq_true hlits
 by_cases ha : a = a2
 case neg =>
  have e9 : (a == a2) = false := by simp [ha]
  have e10 : (a != a2) = true := by simp [ha]
  have hne : decide ((⟨k, lits, links, a, b⟩ : Stp) = ⟨k, lits2, links2, a2, b2⟩) = false := decide_eq_false (fun e => ha (by injection e));rw [hne]
  have HCL := Zh (show Calls Tryz.prog 47 #[.slice p lits.length c, .slice p2 lits2.length c2] ((W.alloc (.cells #[.int .u8 k, .slice p lits.length c, .slice q links.length d, .int .i64 a, .int .i64 b] 26)).alloc (.cells #[.int .u8 k, .slice p2 lits2.length c2, .slice q2 links2.length d0, .int .i64 a2, .int .i64 b2] 26)) (fun e w' => e = .returned (.bool true) /\ ∃ nd, w' = ((W.alloc (.cells #[.int .u8 k, .slice p lits.length c, .slice q links.length d, .int .i64 a, .int .i64 b] 26)).alloc (.cells #[.int .u8 k, .slice p2 lits2.length c2, .slice q2 links2.length d0, .int .i64 a2, .int .i64 b2] 26)).drewN nd) from by
   have h := qkc p c lits.length lits p2 c2 lits2.length lits2 ((W.alloc (.cells #[.int .u8 k, .slice p lits.length c, .slice q links.length d, .int .i64 a, .int .i64 b] 26)).alloc (.cells #[.int .u8 k, .slice p2 lits2.length c2, .slice q2 links2.length d0, .int .i64 a2, .int .i64 b2] 26)) (h1.later (HAL.o a b a2 b2)) (h3.later (HAL.o a b a2 b2)) rfl rfl n1 n3;rw [hlv] at h
   exact h)
  clear h1 h2 h3 h4 hne hlv hlits ha;go_enter Tryz.func14, Tryz.ntmps14
  go_wp2_with fail
  refine HCL.o.mono ?_;rintro e w1 ⟨rfl, nd, rfl⟩
  go_wp2_with fail
  exact bodyPost_ret (v := .bool false) (by simp [results, Tryz.results14, go_sem]) rfl ⟨rfl, bdd (HAL.o a b a2 b2)⟩
 subst ha;have ea : (a == a) = true := by simp
 by_cases hb : b = b2
 case neg =>
  have e9 : (b == b2) = false := by simp [hb]
  have e10 : (b != b2) = true := by simp [hb]
  have hne : decide ((⟨k, lits, links, a, b⟩ : Stp) = ⟨k, lits2, links2, a, b2⟩) = false := decide_eq_false (fun e => hb (by injection e));rw [hne]
  have HCL := Zh (show Calls Tryz.prog 47 #[.slice p lits.length c, .slice p2 lits2.length c2] ((W.alloc (.cells #[.int .u8 k, .slice p lits.length c, .slice q links.length d, .int .i64 a, .int .i64 b] 26)).alloc (.cells #[.int .u8 k, .slice p2 lits2.length c2, .slice q2 links2.length d0, .int .i64 a, .int .i64 b2] 26)) (fun e w' => e = .returned (.bool true) /\ ∃ nd, w' = ((W.alloc (.cells #[.int .u8 k, .slice p lits.length c, .slice q links.length d, .int .i64 a, .int .i64 b] 26)).alloc (.cells #[.int .u8 k, .slice p2 lits2.length c2, .slice q2 links2.length d0, .int .i64 a, .int .i64 b2] 26)).drewN nd) from by
   have h := qkc p c lits.length lits p2 c2 lits2.length lits2 ((W.alloc (.cells #[.int .u8 k, .slice p lits.length c, .slice q links.length d, .int .i64 a, .int .i64 b] 26)).alloc (.cells #[.int .u8 k, .slice p2 lits2.length c2, .slice q2 links2.length d0, .int .i64 a, .int .i64 b2] 26)) (h1.later (HAL.o a b a b2)) (h3.later (HAL.o a b a b2)) rfl rfl n1 n3;rw [hlv] at h
   exact h)
  clear h1 h2 h3 h4 hne hlv hlits hb;go_enter Tryz.func14, Tryz.ntmps14
  go_wp2_with fail
  refine HCL.o.mono ?_;rintro e w1 ⟨rfl, nd, rfl⟩
  go_wp2_with fail
  exact bodyPost_ret (v := .bool false) (by simp [results, Tryz.results14, go_sem]) rfl ⟨rfl, bdd (HAL.o a b a b2)⟩
 subst hb;have eb : (b == b) = true := by simp
 have HCL := Zh (show Calls Tryz.prog 47 #[.slice p lits.length c, .slice p2 lits2.length c2] ((W.alloc (.cells #[.int .u8 k, .slice p lits.length c, .slice q links.length d, .int .i64 a, .int .i64 b] 26)).alloc (.cells #[.int .u8 k, .slice p2 lits2.length c2, .slice q2 links2.length d0, .int .i64 a, .int .i64 b] 26)) (fun e w' => e = .returned (.bool true) /\ ∃ nd, w' = ((W.alloc (.cells #[.int .u8 k, .slice p lits.length c, .slice q links.length d, .int .i64 a, .int .i64 b] 26)).alloc (.cells #[.int .u8 k, .slice p2 lits2.length c2, .slice q2 links2.length d0, .int .i64 a, .int .i64 b] 26)).drewN nd) from by
  have h := qkc p c lits.length lits p2 c2 lits2.length lits2 ((W.alloc (.cells #[.int .u8 k, .slice p lits.length c, .slice q links.length d, .int .i64 a, .int .i64 b] 26)).alloc (.cells #[.int .u8 k, .slice p2 lits2.length c2, .slice q2 links2.length d0, .int .i64 a, .int .i64 b] 26)) (h1.later (HAL.o a b a b)) (h3.later (HAL.o a b a b)) rfl rfl n1 n3;rw [hlv] at h
  exact h)
 have hd : decide ((⟨k, lits, links, a, b⟩ : Stp) = ⟨k, lits2, links2, a, b⟩) = decide (links = links2) := by
  subst hlits
  by_cases h : links = links2
  ·subst h; simp
  ·rw [decide_eq_false h]; exact decide_eq_false (fun e => h (by injection e))
 rw [hd];clear hd hlv
 by_cases hnm : links.length = links2.length
 case neg =>
  have hne : decide (links = links2) = false := decide_eq_false (fun e => hnm (by rw [e]));have e9 : ((links.length : Int) == (links2.length : Int)) = false := by simp; omega
  have e10 : ((links.length : Int) != (links2.length : Int)) = true := by simp; omega
  rw [hne];clear h1 h2 h3 h4 hne hlits hnm;go_enter Tryz.func14, Tryz.ntmps14
  go_wp2_with fail
  refine HCL.o.mono ?_;rintro e w1 ⟨rfl, nd, rfl⟩
  go_wp2_with fail
  exact bodyPost_ret (v := .bool false) (by simp [results, Tryz.results14, go_sem]) rfl ⟨rfl, bdd (HAL.o a b a b)⟩
 have H1 := Zh h2;have H2 := Zh h4;obtain ⟨n, hl⟩ : ∃ n, n = links.length := ⟨_, rfl⟩;have HL := Zh hl;have hm : n = links2.length := by rw [hl, hnm]
 have HM := Zh hm;obtain ⟨b0, hb0⟩ : ∃ b0, b0 = decide (links = links2) := ⟨_, rfl⟩;have HB := Zh hb0;have HN2 := Zh n2;rw [<- hb0];rw [<- hnm, <- hl] at HCL HAL ⊢;have nn : (n : Int) <= 9223372036854775807 := by omega
 have hn : n <= 9223372036854775807 := by omega
 clear h1 h2 h3 h4 hb0 n2 n4 hlits hnm hl hm;obtain ⟨W2, hW2⟩ : ∃ W2, W2 = ((W.alloc (.cells #[.int .u8 k, .slice p lits.length c, .slice q n d, .int .i64 a, .int .i64 b] 26)).alloc (.cells #[.int .u8 k, .slice p2 lits2.length c2, .slice q2 n d0, .int .i64 a, .int .i64 b] 26)) := ⟨_, rfl⟩
 have HA1 := Zh (show (W2.cell? ⟨W.heap.size, 0, none⟩ = some (.int .u8 k) /\ W2.cell? ⟨W.heap.size, 1, none⟩ = some (.slice p lits.length c) /\ W2.cell? ⟨W.heap.size, 2, none⟩ = some (.slice q n d) /\ W2.cell? ⟨W.heap.size, 3, none⟩ = some (.int .i64 a) /\ W2.cell? ⟨W.heap.size, 4, none⟩ = some (.int .i64 b)) ∧
   (W2.cell? ⟨W.heap.size + 1, 0, none⟩ = some (.int .u8 k) /\ W2.cell? ⟨W.heap.size + 1, 1, none⟩ = some (.slice p2 lits2.length c2) /\ W2.cell? ⟨W.heap.size + 1, 2, none⟩ = some (.slice q2 n d0) /\ W2.cell? ⟨W.heap.size + 1, 3, none⟩ = some (.int .i64 a) /\ W2.cell? ⟨W.heap.size + 1, 4, none⟩ = some (.int .i64 b)) /\ Below W.heap.size W W2 from by
  rw [hW2];refine ⟨⟨qaa (qab _ _) (by simp), qaa (qab _ _) (by simp), qaa (qab _ _) (by simp), qaa (qab _ _) (by simp), qaa (qab _ _) (by simp)⟩, ?_, HAL.o a b a b⟩;rw [show W.heap.size + 1 = (W.alloc (.cells #[.int .u8 k, .slice p lits.length c, .slice q n d, .int .i64 a, .int .i64 b] 26)).heap.size from by simp]
  refine ⟨?_, ?_, ?_, ?_, ?_⟩ <;> simp)
 have HW2 := Zh hW2;go_enter Tryz.func14, Tryz.ntmps14
 go_wp2_with fail
 refine HCL.o.mono ?_;rintro e w1 ⟨rfl, nd, rfl⟩;rw [<- HW2.o];clear HCL HAL hW2;obtain ⟨⟨f0, f1, f2, f3, f4⟩, ⟨g0, g1, g2, g3, g4⟩, _hb⟩ := HA1.o;have hbd := qad W2 nd
 replace f0 := qaa hbd f0
 replace f1 := qaa hbd f1
 replace f2 := qaa hbd f2
 replace f3 := qaa hbd f3
 replace f4 := qaa hbd f4
 replace g0 := qaa hbd g0
 replace g1 := qaa hbd g1
 replace g2 := qaa hbd g2
 replace g3 := qaa hbd g3
 replace g4 := qaa hbd g4
 clear _hb hbd
 go_wp2_with fail
 clear f0 f1 f2 f3 f4 g0 g1 g2 g3 g4
 go_loopw [5] (fun x wr => ∃ k : Nat, k <= n /\ x = .int .i64 (k : Int) /\ Hid (links.take k = links2.take k /\ Below W2.heap.size W2 wr)) (fun x _ => n - (intOf x).toNat)
 case atStart => exact ⟨0, Nat.zero_le _, rfl, Zh ⟨by simp, qad W2 nd⟩⟩
 case round =>
  obtain ⟨k, hk, rfl, HT⟩ := hrel;have k0 : (0 : Int) <= (k : Int) := Int.natCast_nonneg k;have f2 := qaa HT.o.2 HA1.o.1.2.2.1;have g2 := qaa HT.o.2 HA1.o.2.1.2.2.1
  by_cases hlt : k < n
  ·have k1 : (k : Int) < (n : Int) := Int.ofNat_lt.2 hlt
   have hk1 : k < links.length := by rw [<- HL.o]; exact hlt
   have hk2 : k < links2.length := by rw [<- HM.o]; exact hlt
   obtain ⟨bb, off, rfl, c0, c1, c2, c3, c4, c5, q1, d1, c6, hi1, hd1, hd2⟩ := (H1.o.later (HA1.o.2.2.trans (HT.o.2.mono HA1.o.2.2.size))) k hk1;obtain ⟨bb2, off2, rfl, e0, e1, e2, e3, e4, e5, q2, d2, e6, hi2, hd3, hd4⟩ := (H2.o.later (HA1.o.2.2.trans (HT.o.2.mono HA1.o.2.2.size))) k hk2;have HS := Zh (qax hlt hn);obtain ⟨x, hx⟩ : ∃ x, x = links[k] := ⟨_, rfl⟩;obtain ⟨y, hy⟩ : ∃ y, y = links2[k] := ⟨_, rfl⟩;have HX := Zh (show links.take (k + 1) = links.take k ++ [x] from by rw [hx, List.take_add_one, List.getElem?_eq_getElem hk1]; rfl);have HY := Zh (show links2.take (k + 1) = links2.take k ++ [y] from by rw [hy, List.take_add_one, List.getElem?_eq_getElem hk2]; rfl);rw [<- hx] at c0 c1 c2 c3 c4 c5 c6 hi1 hd1;rw [<- hy] at e0 e1 e2 e3 e4 e5 e6 hi2 hd3;obtain ⟨b1', hb1⟩ : ∃ b1, b1 = decide (x = y) := ⟨_, rfl⟩;have HC := Zh (fun (w : World) (hb : Below wr.heap.size wr w) => qfe x q1 d1 y q2 d2 w (hi1.later hb) (hi2.later hb) (Nat.le_trans hd1 hd2) (Nat.le_trans hd3 hd4));rw [<- hb1] at HC;have HB1 := Zh hb1;simp only [lkV] at HC;clear hx hy hk1 hk2 hi1 hi2 hd1 hd2 hd3 hd4 hb1
   go_wp2_with fail
   go_region_held3 (fun w' => w'.cell? ⟨W.heap.size, 2, none⟩ = some (.slice (some ⟨bb, off, none⟩) n d) /\ w'.cell? ⟨W.heap.size + 1, 2, none⟩ = some (.slice (some ⟨bb2, off2, none⟩) n d0) /\ w'.cell? ⟨bb, off + k * 7, none⟩ = some (.int .u8 x.k) /\ w'.cell? ⟨bb, off + k * 7 + 1, none⟩ = some (.int .i64 x.lit) /\ w'.cell? ⟨bb, off + k * 7 + 2, none⟩ = some (.int .i64 x.a) /\ w'.cell? ⟨bb, off + k * 7 + 3, none⟩ = some (.int .i64 x.b) /\ w'.cell? ⟨bb, off + k * 7 + 4, none⟩ = some (.int .i64 x.i) /\ w'.cell? ⟨bb, off + k * 7 + 5, none⟩ = some (.int .i64 x.j) /\ w'.cell? ⟨bb, off + k * 7 + 6, none⟩ = some (.slice q1 x.l.length d1) /\ w'.cell? ⟨bb2, off2 + k * 7, none⟩ = some (.int .u8 y.k) /\ w'.cell? ⟨bb2, off2 + k * 7 + 1, none⟩ = some (.int .i64 y.lit) /\ w'.cell? ⟨bb2, off2 + k * 7 + 2, none⟩ = some (.int .i64 y.a) /\ w'.cell? ⟨bb2, off2 + k * 7 + 3, none⟩ = some (.int .i64 y.b) /\ w'.cell? ⟨bb2, off2 + k * 7 + 4, none⟩ = some (.int .i64 y.i) /\ w'.cell? ⟨bb2, off2 + k * 7 + 5, none⟩ = some (.int .i64 y.j) /\ w'.cell? ⟨bb2, off2 + k * 7 + 6, none⟩ = some (.slice q2 y.l.length d2)) (first | go_keep | exact ⟨qaa HK.o f2, qaa HK.o g2, qaa HK.o c0, qaa HK.o c1, qaa HK.o c2, qaa HK.o c3, qaa HK.o c4, qaa HK.o c5, qaa HK.o c6, qaa HK.o e0, qaa HK.o e1, qaa HK.o e2, qaa HK.o e3, qaa HK.o e4, qaa HK.o e5, qaa HK.o e6⟩) (first | (go_at_call 48; refine (HC.o _ ?_).mono ?_; exact qae _; rintro e w1 ⟨rfl, hb⟩; have HB2 := Zh (HT.o.2.trans ((qae wr).trans hb |>.mono HT.o.2.size)); have HK := Zh ((qae wr).trans (hb.mono (Nat.le_refl _))); clear hb))
   cases b1' with
   | true =>
    go_wp2_with fail
    refine ⟨⟨k + 1, HS.o.1, by first | rfl | rw [HS.o.2.2], Zh ⟨by rw [HX.o, HY.o, HT.o.1, of_decide_eq_true HB1.o.symm], HB2.o⟩⟩, ?_⟩
    first | rw [HS.o.2.2] | skip
    simp only [intOf, Int.toNat_natCast]
    exact HS.o.2.1
   | false =>
    go_wp2_with fail
    refine bodyPost_ret (v := .bool false) (by simp [results, Tryz.results14, go_sem]) rfl ⟨?_, HA1.o.2.2.trans (HB2.o.mono HA1.o.2.2.size)⟩
    have h9 : b0 = false := by
     rw [HB.o];refine decide_eq_false (fun e => of_decide_eq_false HB1.o.symm ?_);have h1 := HX.o;have h2 := HY.o;rw [e, h2, <- HT.o.1] at h1;rw [e] at h1;have := List.append_cancel_left h1
     simpa using this.symm
    rw [h9]
  ·obtain rfl : n = k := (Nat.le_antisymm hk (Nat.le_of_not_lt hlt)).symm
   clear hlt hk
   go_wp2_with fail
   refine bodyPost_ret (v := .bool true) (by simp [results, Tryz.results14, go_sem]) rfl ⟨?_, HA1.o.2.2.trans (HT.o.2.mono HA1.o.2.2.size)⟩;have h1 := HT.o.1;rw [List.take_of_length_le (by rw [<- HL.o]; exact Nat.le_refl _), List.take_of_length_le (by rw [<- HM.o]; exact Nat.le_refl _)] at h1;have h9 : b0 = true := by rw [HB.o]; exact decide_eq_true h1
   rw [h9]
end Go.Proofs.YtookoagcmejkpaaGreatDoor
