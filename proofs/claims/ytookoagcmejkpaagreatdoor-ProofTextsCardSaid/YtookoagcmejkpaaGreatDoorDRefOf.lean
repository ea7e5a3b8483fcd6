/- The document's rows of digits: of a small number. -/
import Derived.Test.YtookoagcmejkpaaGreatDoorDW4
set_option maxHeartbeats 2000000
namespace Go.Proofs.YtookoagcmejkpaaGreatDoor
set_option maxRecDepth 100000
open Go Go.RowKit Go.Sort
def qn (n : Int) : Nat -> Int
 | 0 => n
 | 1 => n.tdiv 65536
 | 2 => n.tdiv 4294967296
 | 3 => n.tdiv 281474976710656
 | _ => 0
def dn (n : Int) (k : Nat) : Int := if (qn n k).tmod 65536 < 0 then -((qn n k).tmod 65536) else (qn n k).tmod 65536
theorem qq1 (n d : Int) (hd : d = 65536 \/ d = 4294967296 \/ d = 281474976710656) (h0 : -9223372036854775808 <= n) (h1 : n <= 9223372036854775807) : (n.tdiv d).tdiv 65536 = if d = 281474976710656 then 0 else n.tdiv (d * 65536) := by
 rcases Int.lt_or_le n 0 with hn | hn
 ·obtain ⟨m, rfl⟩ : ∃ m : Int, n = -m := ⟨-n, by omega⟩
  have e1 : (-m).tdiv d = -(m / d) := by rw [Int.neg_tdiv, Int.tdiv_eq_ediv_of_nonneg (by omega)]
  have p1 : 0 <= m / d := by rcases hd with rfl | rfl | rfl <;> omega
  have e2 : (-(m / d)).tdiv 65536 = -(m / d / 65536) := by rw [Int.neg_tdiv, Int.tdiv_eq_ediv_of_nonneg p1]
  have e3 : (-m).tdiv (d * 65536) = -(m / (d * 65536)) := by rw [Int.neg_tdiv, Int.tdiv_eq_ediv_of_nonneg (by omega)]
  rw [e1, e2, e3];rcases hd with rfl | rfl | rfl
  ·rw [if_neg (by omega)]; omega
  ·rw [if_neg (by omega)]; omega
  ·rw [if_pos rfl]; omega
 ·have e1 : n.tdiv d = n / d := Int.tdiv_eq_ediv_of_nonneg hn
  have p1 : 0 <= n / d := by rcases hd with rfl | rfl | rfl <;> omega
  have e2 : (n / d).tdiv 65536 = n / d / 65536 := Int.tdiv_eq_ediv_of_nonneg p1;have e3 : n.tdiv (d * 65536) = n / (d * 65536) := Int.tdiv_eq_ediv_of_nonneg hn;rw [e1, e2, e3];rcases hd with rfl | rfl | rfl
  ·rw [if_neg (by omega)]; omega
  ·rw [if_neg (by omega)]; omega
  ·rw [if_pos rfl]; omega
theorem qne (n : Int) (h0 : -9223372036854775808 <= n) (h1 : n <= 9223372036854775807) (k : Nat) (hk : k < 4) : (qn n k).tdiv 65536 = qn n (k + 1) := by
 have hc : k = 0 \/ k = 1 \/ k = 2 \/ k = 3 := by omega
 rcases hc with rfl | rfl | rfl | rfl
 ·rfl
 ·have := qq1 n 65536 (by omega) h0 h1
  rw [if_neg (by omega)] at this; exact this
 ·have := qq1 n 4294967296 (by omega) h0 h1
  rw [if_neg (by omega)] at this; exact this
 ·have := qq1 n 281474976710656 (by omega) h0 h1
  rw [if_pos rfl] at this; exact this
theorem qe1 (n : Int) (h0 : -9223372036854775808 <= n) (h1 : n <= 9223372036854775807) (k : Nat) (hk : k < 4) (h : qn n k = 0) : qn n (k + 1) = 0 := by
 rw [<- qne n h0 h1 k hk, h]; rfl
theorem qcv (n : Int) (k : Nat) (h : qn n k = 0) : dn n k = 0 := by unfold dn; rw [h]; rfl
theorem qsr (n : Int) (k : Nat) : -65536 < (qn n k).tmod 65536 /\ (qn n k).tmod 65536 < 65536 := by
 have h1 := Int.tmod_lt_of_pos (qn n k) (show (0 : Int) < 65536 by omega);have h2 := Int.lt_tmod_of_pos (qn n k) (show (0 : Int) < 65536 by omega);omega
theorem qnf (n : Int) (h0 : -9223372036854775808 <= n) (h1 : n <= 9223372036854775807) (k : Nat) : -9223372036854775808 <= qn n k /\ qn n k <= 9223372036854775807 := by
 have hd : ∀ d : Int, 1 <= d -> -9223372036854775808 <= n.tdiv d /\ n.tdiv d <= 9223372036854775807 := by
  intro d hd;rcases Int.lt_or_le n 0 with hn | hn
  ·obtain ⟨m, rfl⟩ : ∃ m : Int, n = -m := ⟨-n, by omega⟩
   rw [Int.neg_tdiv, Int.tdiv_eq_ediv_of_nonneg (by omega)];have a := Int.ediv_nonneg (a := m) (b := d) (by omega) (by omega);have b := Int.ediv_le_self (a := m) d (by omega);omega
  ·rw [Int.tdiv_eq_ediv_of_nonneg hn]
   have a := Int.ediv_nonneg (a := n) (b := d) (by omega) (by omega);have b := Int.ediv_le_self (a := n) d (by omega);omega
 match k with
 | 0 => exact ⟨h0, h1⟩
 | 1 => exact hd _ (by omega)
 | 2 => exact hd _ (by omega)
 | 3 => exact hd _ (by omega)
 | k + 4 => exact ⟨by show (-9223372036854775808 : Int) <= 0; omega, by show (0 : Int) <= 9223372036854775807; omega⟩
def oc0 (n : Int) : Nat -> Array Value
 | 0 => #[.bool (decide (n < 0)), .int .i64 0, .int .i64 0, .int .i64 0, .int .i64 0, .int .i64 0, .int .i64 0, .int .i64 0, .int .i64 0, .int .i64 0, .int .i64 0]
 | 1 => #[.bool (decide (n < 0)), .int .i64 (dn n 0), .int .i64 0, .int .i64 0, .int .i64 0, .int .i64 0, .int .i64 0, .int .i64 0, .int .i64 0, .int .i64 0, .int .i64 0]
 | 2 => #[.bool (decide (n < 0)), .int .i64 (dn n 0), .int .i64 (dn n 1), .int .i64 0, .int .i64 0, .int .i64 0, .int .i64 0, .int .i64 0, .int .i64 0, .int .i64 0, .int .i64 0]
 | 3 => #[.bool (decide (n < 0)), .int .i64 (dn n 0), .int .i64 (dn n 1), .int .i64 (dn n 2), .int .i64 0, .int .i64 0, .int .i64 0, .int .i64 0, .int .i64 0, .int .i64 0, .int .i64 0]
 | _ => #[.bool (decide (n < 0)), .int .i64 (dn n 0), .int .i64 (dn n 1), .int .i64 (dn n 2), .int .i64 (dn n 3), .int .i64 0, .int .i64 0, .int .i64 0, .int .i64 0, .int .i64 0, .int .i64 0]
theorem qpn (n : Int) (h0 : -9223372036854775808 <= n) (h1 : n <= 9223372036854775807) (k : Nat) (hk : k <= 4) (h : qn n k = 0) : oc0 n k = oc0 n 4 := by
 have hc : k = 0 \/ k = 1 \/ k = 2 \/ k = 3 \/ k = 4 := by omega
 rcases hc with rfl | rfl | rfl | rfl | rfl
 ·have a1 := qe1 n h0 h1 0 (by omega) h
  have a2 := qe1 n h0 h1 1 (by omega) a1;have a3 := qe1 n h0 h1 2 (by omega) a2;simp only [oc0, qcv n 0 h, qcv n 1 a1, qcv n 2 a2, qcv n 3 a3]
 ·have a2 := qe1 n h0 h1 1 (by omega) h
  have a3 := qe1 n h0 h1 2 (by omega) a2;simp only [oc0, qcv n 1 h, qcv n 2 a2, qcv n 3 a3]
 ·have a3 := qe1 n h0 h1 2 (by omega) h
  simp only [oc0, qcv n 2 h, qcv n 3 a3]
 ·simp only [oc0, qcv n 3 h]
 ·rfl

theorem qs3 (n : Int) (h : (qn n 0).tmod 65536 < 0) : oc0 n 1 = #[.bool (decide (n < 0)), .int .i64 (-(qn n 0).tmod 65536), .int .i64 0, .int .i64 0, .int .i64 0, .int .i64 0, .int .i64 0, .int .i64 0, .int .i64 0, .int .i64 0, .int .i64 0] := by
 have e : dn n 0 = (-(qn n 0).tmod 65536) := by unfold dn; rw [if_pos h]
 simp only [oc0, e]
theorem qs0 (n : Int) (h : 0 <= (qn n 0).tmod 65536) : oc0 n 1 = #[.bool (decide (n < 0)), .int .i64 ((qn n 0).tmod 65536), .int .i64 0, .int .i64 0, .int .i64 0, .int .i64 0, .int .i64 0, .int .i64 0, .int .i64 0, .int .i64 0, .int .i64 0] := by
 have e : dn n 0 = ((qn n 0).tmod 65536) := by unfold dn; rw [if_neg (by omega)]
 simp only [oc0, e]
theorem qsz (n : Int) (h : (qn n 1).tmod 65536 < 0) : oc0 n 2 = #[.bool (decide (n < 0)), .int .i64 (dn n 0), .int .i64 (-(qn n 1).tmod 65536), .int .i64 0, .int .i64 0, .int .i64 0, .int .i64 0, .int .i64 0, .int .i64 0, .int .i64 0, .int .i64 0] := by
 have e : dn n 1 = (-(qn n 1).tmod 65536) := by unfold dn; rw [if_pos h]
 simp only [oc0, e]
theorem qsy (n : Int) (h : 0 <= (qn n 1).tmod 65536) : oc0 n 2 = #[.bool (decide (n < 0)), .int .i64 (dn n 0), .int .i64 ((qn n 1).tmod 65536), .int .i64 0, .int .i64 0, .int .i64 0, .int .i64 0, .int .i64 0, .int .i64 0, .int .i64 0, .int .i64 0] := by
 have e : dn n 1 = ((qn n 1).tmod 65536) := by unfold dn; rw [if_neg (by omega)]
 simp only [oc0, e]
theorem qsx (n : Int) (h : (qn n 2).tmod 65536 < 0) : oc0 n 3 = #[.bool (decide (n < 0)), .int .i64 (dn n 0), .int .i64 (dn n 1), .int .i64 (-(qn n 2).tmod 65536), .int .i64 0, .int .i64 0, .int .i64 0, .int .i64 0, .int .i64 0, .int .i64 0, .int .i64 0] := by
 have e : dn n 2 = (-(qn n 2).tmod 65536) := by unfold dn; rw [if_pos h]
 simp only [oc0, e]
theorem qsw (n : Int) (h : 0 <= (qn n 2).tmod 65536) : oc0 n 3 = #[.bool (decide (n < 0)), .int .i64 (dn n 0), .int .i64 (dn n 1), .int .i64 ((qn n 2).tmod 65536), .int .i64 0, .int .i64 0, .int .i64 0, .int .i64 0, .int .i64 0, .int .i64 0, .int .i64 0] := by
 have e : dn n 2 = ((qn n 2).tmod 65536) := by unfold dn; rw [if_neg (by omega)]
 simp only [oc0, e]
theorem qsv (n : Int) (h : (qn n 3).tmod 65536 < 0) : oc0 n 4 = #[.bool (decide (n < 0)), .int .i64 (dn n 0), .int .i64 (dn n 1), .int .i64 (dn n 2), .int .i64 (-(qn n 3).tmod 65536), .int .i64 0, .int .i64 0, .int .i64 0, .int .i64 0, .int .i64 0, .int .i64 0] := by
 have e : dn n 3 = (-(qn n 3).tmod 65536) := by unfold dn; rw [if_pos h]
 simp only [oc0, e]
theorem qsu (n : Int) (h : 0 <= (qn n 3).tmod 65536) : oc0 n 4 = #[.bool (decide (n < 0)), .int .i64 (dn n 0), .int .i64 (dn n 1), .int .i64 (dn n 2), .int .i64 ((qn n 3).tmod 65536), .int .i64 0, .int .i64 0, .int .i64 0, .int .i64 0, .int .i64 0, .int .i64 0] := by
 have e : dn n 3 = ((qn n 3).tmod 65536) := by unfold dn; rw [if_neg (by omega)]
 simp only [oc0, e]

theorem qsn (n : Int) (w : World) (h0 : -9223372036854775808 <= n) (h1 : n <= 9223372036854775807) :
  Calls Tryz.prog 80 #[.int .i64 n, .int .i64 0] w fun e w' => e = .returned (.agg (oc0 n 4)) /\ Below w.heap.size w w' := by
 go_enter Tryz.func80, Tryz.ntmps80
 go_wp2
 go_loopw [0, 6] (fun v i wr => ∃ k : Nat, k <= 4 /\ i = .int .i64 ((0 + k : Nat) : Int) /\ v = .int .i64 (qn n k) /\ wr = (w.alloc (.cells #[.bool false, .int .i64 0, .int .i64 0, .int .i64 0, .int .i64 0, .int .i64 0, .int .i64 0, .int .i64 0, .int .i64 0, .int .i64 0, .int .i64 0] 123)).alloc (.cells (oc0 n k) 123)) (fun _ i _ => 20 - (intOf i).toNat)
 case atStart => exact ⟨0, by omega, rfl, rfl, rfl⟩
 case round =>
  obtain ⟨k, hk, rfl, rfl, rfl⟩ := hrel
  by_cases hq : qn n k = 0
  ·have hq2 : (qn n k != 0) = false := by simp [hq]
   have hz := qpn n h0 h1 k hk hq;rw [hz];clear hz hq;have hlt : ((0 + k : Nat) : Int) < 10 := by omega
   unfold oc0
   go_wp2
   exact bodyPost_ret (v := .agg (oc0 n 4)) (by simp [results, Tryz.results80, go_sem, oc0]) rfl ⟨rfl, qtt _ _ _⟩
  ·have hq2 : (qn n k != 0) = true := by simp [hq]
   have hk4 : k ≠ 4 := by intro e; subst e; exact hq rfl
   have nx := qne n h0 h1 k (by omega);have rm := qsr n k;have bd := qnf n h0 h1 k;have hc : k = 0 \/ k = 1 \/ k = 2 \/ k = 3 := by omega
   clear hq hk hk4;rcases hc with rfl | rfl | rfl | rfl
   ·have bn := qnf n h0 h1 1
    clear h0 h1;unfold oc0
    go_wp2
    ·have hneg : (qn n 0).tmod 65536 < 0 := by assumption
     go_roundw
     case rel => exact ⟨1, by omega, rfl, rfl, congrArg (fun c => (w.alloc _).alloc (.cells c 123)) (qs3 n hneg).symm⟩
     case measure => simp [intOf]
    ·have hpos : 0 <= (qn n 0).tmod 65536 := by assumption
     go_roundw
     case rel => exact ⟨1, by omega, rfl, rfl, congrArg (fun c => (w.alloc _).alloc (.cells c 123)) (qs0 n hpos).symm⟩
     case measure => simp [intOf]
   ·have bn := qnf n h0 h1 2
    clear h0 h1;unfold oc0
    go_wp2
    ·have hneg : (qn n 1).tmod 65536 < 0 := by assumption
     go_roundw
     case rel => exact ⟨2, by omega, rfl, rfl, congrArg (fun c => (w.alloc _).alloc (.cells c 123)) (qsz n hneg).symm⟩
     case measure => simp [intOf]
    ·have hpos : 0 <= (qn n 1).tmod 65536 := by assumption
     go_roundw
     case rel => exact ⟨2, by omega, rfl, rfl, congrArg (fun c => (w.alloc _).alloc (.cells c 123)) (qsy n hpos).symm⟩
     case measure => simp [intOf]
   ·have bn := qnf n h0 h1 3
    clear h0 h1;unfold oc0
    go_wp2
    ·have hneg : (qn n 2).tmod 65536 < 0 := by assumption
     go_roundw
     case rel => exact ⟨3, by omega, rfl, rfl, congrArg (fun c => (w.alloc _).alloc (.cells c 123)) (qsx n hneg).symm⟩
     case measure => simp [intOf]
    ·have hpos : 0 <= (qn n 2).tmod 65536 := by assumption
     go_roundw
     case rel => exact ⟨3, by omega, rfl, rfl, congrArg (fun c => (w.alloc _).alloc (.cells c 123)) (qsw n hpos).symm⟩
     case measure => simp [intOf]
   ·have bn := qnf n h0 h1 4
    clear h0 h1;unfold oc0
    go_wp2
    ·have hneg : (qn n 3).tmod 65536 < 0 := by assumption
     go_roundw
     case rel => exact ⟨4, by omega, rfl, rfl, congrArg (fun c => (w.alloc _).alloc (.cells c 123)) (qsv n hneg).symm⟩
     case measure => simp [intOf]
    ·have hpos : 0 <= (qn n 3).tmod 65536 := by assumption
     go_roundw
     case rel => exact ⟨4, by omega, rfl, rfl, congrArg (fun c => (w.alloc _).alloc (.cells c 123)) (qsu n hpos).symm⟩
     case measure => simp [intOf]
end Go.Proofs.YtookoagcmejkpaaGreatDoor
