/- Whether a step is great. -/
import Derived.Test.YtookoagcmejkpaaGreatDoorS17
set_option maxHeartbeats 3200000
namespace Go.Proofs.YtookoagcmejkpaaGreatDoor
set_option maxRecDepth 100000
open Go Go.RowKit
def qed (x : Stp) : Bool := (decide (200 < x.lits.length) && decide (x.lits.length <= 5000)) || (decide (200 < x.links.length) && decide (x.links.length <= 20000)) || decide (10000 < x.lits.length) || decide (40000 < x.links.length) || x.links.any (fun l => decide (60 < l.l.length))
theorem qtl (k a b : Int) (p : Option Addr) (c n : Nat) (q : Option Addr) (d m : Nat) (xs : List Int) (ls : List Lk) (W : World) (hxl : xs.length = n) (hll : ls.length = m) (hn : n <= 9223372036854775807) (hm : m <= 9223372036854775807) (hls : LksIn W q ls) :
  Calls Tryz.prog 7 #[.agg #[.int .u8 k, .slice p n c, .slice q m d, .int .i64 a, .int .i64 b]] W fun e w' => e = .returned (.bool (qed ⟨k, xs, ls, a, b⟩)) /\ Below W.heap.size W w' := by
 obtain ⟨R, hR⟩ : ∃ R, R = qed ⟨k, xs, ls, a, b⟩ := ⟨_, rfl⟩;rw [<- hR];unfold qed at hR;simp only [hxl, hll] at hR;have HLL := Zh hll;have HL0 := Zh hls;have HB := Zh (qab W (.cells #[.int .u8 k, .slice p n c, .slice q m d, .int .i64 a, .int .i64 b] 26));have n0 : (0 : Int) <= (n : Int) := Int.natCast_nonneg _;have n9 : (n : Int) <= 9223372036854775807 := by omega
 have m0 : (0 : Int) <= (m : Int) := Int.natCast_nonneg _;have m9 : (m : Int) <= 9223372036854775807 := by omega
 obtain ⟨x1, hx1⟩ : ∃ x, x = decide (200 < n) := ⟨_, rfl⟩;obtain ⟨x2, hx2⟩ : ∃ x, x = decide (n <= 5000) := ⟨_, rfl⟩;obtain ⟨x3, hx3⟩ : ∃ x, x = decide (200 < m) := ⟨_, rfl⟩;obtain ⟨x4, hx4⟩ : ∃ x, x = decide (m <= 20000) := ⟨_, rfl⟩;obtain ⟨x5, hx5⟩ : ∃ x, x = decide (10000 < n) := ⟨_, rfl⟩;obtain ⟨x6, hx6⟩ : ∃ x, x = decide (40000 < m) := ⟨_, rfl⟩;rw [<- hx1, <- hx2, <- hx3, <- hx4, <- hx5, <- hx6] at hR;have i1 : decide (200 < (n : Int)) = x1 := by rw [hx1]; exact decide_eq_decide.2 (by omega)
 have i2 : decide ((n : Int) <= 5000) = x2 := by rw [hx2]; exact decide_eq_decide.2 (by omega)
 have i3 : decide (200 < (m : Int)) = x3 := by rw [hx3]; exact decide_eq_decide.2 (by omega)
 have i4 : decide ((m : Int) <= 20000) = x4 := by rw [hx4]; exact decide_eq_decide.2 (by omega)
 have i5 : decide (10000 < (n : Int)) = x5 := by rw [hx5]; exact decide_eq_decide.2 (by omega)
 have i6 : decide (40000 < (m : Int)) = x6 := by rw [hx6]; exact decide_eq_decide.2 (by omega)
 have HR := Zh hR;clear hR hxl hll hls hx1 hx2 hx3 hx4 hx5 hx6;go_enter Tryz.func7, Tryz.ntmps7
 cases x1 with
 | true =>
  cases x2 with
  | true =>
   go_wp2_with fail
   exact bodyPost_ret (v := .bool true) (by simp [results, Tryz.results7, go_sem]) rfl ⟨by rw [show R = true from by rw [HR.o]; simp], HB.o⟩
  | false =>
   cases x3 with
   | true =>
    cases x4 with
    | true =>
     go_wp2_with fail
     exact bodyPost_ret (v := .bool true) (by simp [results, Tryz.results7, go_sem]) rfl ⟨by rw [show R = true from by rw [HR.o]; simp], HB.o⟩
    | false =>
     cases x5 with
     | true =>
      go_wp2_with fail
      exact bodyPost_ret (v := .bool true) (by simp [results, Tryz.results7, go_sem]) rfl ⟨by rw [show R = true from by rw [HR.o]; simp], HB.o⟩
     | false =>
      cases x6 with
      | true =>
       go_wp2_with fail
       exact bodyPost_ret (v := .bool true) (by simp [results, Tryz.results7, go_sem]) rfl ⟨by rw [show R = true from by rw [HR.o]; simp], HB.o⟩
      | false =>
       go_wp2_with fail
       have HR2 := Zh (show R = ls.any (fun l => decide (60 < l.l.length)) from by rw [HR.o]; simp);obtain ⟨W2, hW2⟩ : ∃ W2, W2 = W.alloc (.cells #[.int .u8 k, .slice p n c, .slice q m d, .int .i64 a, .int .i64 b] 26) := ⟨_, rfl⟩;have HL2 := Zh (show LksIn W2 q ls from by rw [hW2]; exact HL0.o.later (qab _ _));have HB2 := Zh (show Below W.heap.size W W2 from by rw [hW2]; exact HB.o);have s2 : W2.cell? ⟨W.heap.size, 2, none⟩ = some (.slice q m d) := by rw [hW2]; simp
       rw [<- hW2];clear hW2 HB HR
       go_loopw [3] (fun x wr => ∃ t : Nat, t <= m /\ x = .int .i64 (t : Int) /\ Hid ((ls.take t).any (fun l => decide (60 < l.l.length)) = false) /\ wr = W2) (fun x _ => m - (intOf x).toNat)
       case atStart => exact ⟨0, Nat.zero_le _, rfl, Zh (by simp), rfl⟩
       case round =>
        obtain ⟨t, ht, rfl, HT, hw⟩ := hrel;rw [hw];clear hw;have k0 : (0 : Int) <= (t : Int) := Int.natCast_nonneg t
        by_cases hlt : t < m
        ·have k1 : (t : Int) < (m : Int) := Int.ofNat_lt.2 hlt
         have hkl : t < ls.length := by rw [HLL.o]; exact hlt
         obtain ⟨bq, oq, hqe, u0, u1, u2, u3, u4, u5, q1, d1, u6, hi1, hd1, hd2⟩ := HL2.o t hkl;subst hqe;have HS := Zh (qax hlt hm);obtain ⟨x, hx⟩ : ∃ x, x = ls[t] := ⟨_, rfl⟩;have HX := Zh (show ls.take (t + 1) = ls.take t ++ [x] from by rw [hx, List.take_add_one, List.getElem?_eq_getElem hkl]; rfl);have HM := Zh (show x ∈ ls from by rw [hx]; exact List.getElem_mem hkl);rw [<- hx] at u6;obtain ⟨b0, hb0⟩ : ∃ b0, b0 = decide (60 < x.l.length) := ⟨_, rfl⟩;have i7 : decide (60 < (x.l.length : Int)) = b0 := by rw [hb0]; exact decide_eq_decide.2 (by omega)
         have HB0 := Zh hb0;clear hx hkl hb0 u0 u1 u2 u3 u4 u5 hi1 hd1 hd2
         cases b0 with
         | true =>
          go_wp2_with fail
          exact bodyPost_ret (v := .bool true) (by simp [results, Tryz.results7, go_sem]) rfl ⟨by rw [show R = true from by rw [HR2.o]; exact List.any_eq_true.2 ⟨x, HM.o, HB0.o.symm⟩], HB2.o⟩
         | false =>
          go_wp2_with fail
          refine ⟨⟨t + 1, HS.o.1, by first | rfl | rw [HS.o.2.2], Zh (by rw [HX.o, List.any_append, HT.o]; simp [HB0.o.symm]), trivial⟩, ?_⟩
          first | rw [HS.o.2.2] | skip
          simp only [intOf, Int.toNat_natCast];exact HS.o.2.1
        ·obtain rfl : m = t := (Nat.le_antisymm ht (Nat.le_of_not_lt hlt)).symm
         have HALL := Zh (show ls.any (fun l => decide (60 < l.l.length)) = false from by have h1 := HT.o; rw [List.take_of_length_le (by rw [HLL.o]; exact Nat.le_refl _)] at h1; exact h1);clear hlt ht HT
         go_wp2_with fail
         exact bodyPost_ret (v := .bool false) (by simp [results, Tryz.results7, go_sem]) rfl ⟨by rw [show R = false from by rw [HR2.o]; exact HALL.o], HB2.o⟩
   | false =>
    cases x5 with
    | true =>
     go_wp2_with fail
     exact bodyPost_ret (v := .bool true) (by simp [results, Tryz.results7, go_sem]) rfl ⟨by rw [show R = true from by rw [HR.o]; simp], HB.o⟩
    | false =>
     cases x6 with
     | true =>
      go_wp2_with fail
      exact bodyPost_ret (v := .bool true) (by simp [results, Tryz.results7, go_sem]) rfl ⟨by rw [show R = true from by rw [HR.o]; simp], HB.o⟩
     | false =>
      go_wp2_with fail
      have HR2 := Zh (show R = ls.any (fun l => decide (60 < l.l.length)) from by rw [HR.o]; simp);obtain ⟨W2, hW2⟩ : ∃ W2, W2 = W.alloc (.cells #[.int .u8 k, .slice p n c, .slice q m d, .int .i64 a, .int .i64 b] 26) := ⟨_, rfl⟩;have HL2 := Zh (show LksIn W2 q ls from by rw [hW2]; exact HL0.o.later (qab _ _));have HB2 := Zh (show Below W.heap.size W W2 from by rw [hW2]; exact HB.o);have s2 : W2.cell? ⟨W.heap.size, 2, none⟩ = some (.slice q m d) := by rw [hW2]; simp
      rw [<- hW2];clear hW2 HB HR
      go_loopw [3] (fun x wr => ∃ t : Nat, t <= m /\ x = .int .i64 (t : Int) /\ Hid ((ls.take t).any (fun l => decide (60 < l.l.length)) = false) /\ wr = W2) (fun x _ => m - (intOf x).toNat)
      case atStart => exact ⟨0, Nat.zero_le _, rfl, Zh (by simp), rfl⟩
      case round =>
       obtain ⟨t, ht, rfl, HT, hw⟩ := hrel;rw [hw];clear hw;have k0 : (0 : Int) <= (t : Int) := Int.natCast_nonneg t
       by_cases hlt : t < m
       ·have k1 : (t : Int) < (m : Int) := Int.ofNat_lt.2 hlt
        have hkl : t < ls.length := by rw [HLL.o]; exact hlt
        obtain ⟨bq, oq, hqe, u0, u1, u2, u3, u4, u5, q1, d1, u6, hi1, hd1, hd2⟩ := HL2.o t hkl;subst hqe;have HS := Zh (qax hlt hm);obtain ⟨x, hx⟩ : ∃ x, x = ls[t] := ⟨_, rfl⟩;have HX := Zh (show ls.take (t + 1) = ls.take t ++ [x] from by rw [hx, List.take_add_one, List.getElem?_eq_getElem hkl]; rfl);have HM := Zh (show x ∈ ls from by rw [hx]; exact List.getElem_mem hkl);rw [<- hx] at u6;obtain ⟨b0, hb0⟩ : ∃ b0, b0 = decide (60 < x.l.length) := ⟨_, rfl⟩;have i7 : decide (60 < (x.l.length : Int)) = b0 := by rw [hb0]; exact decide_eq_decide.2 (by omega)
        have HB0 := Zh hb0;clear hx hkl hb0 u0 u1 u2 u3 u4 u5 hi1 hd1 hd2
        cases b0 with
        | true =>
         go_wp2_with fail
         exact bodyPost_ret (v := .bool true) (by simp [results, Tryz.results7, go_sem]) rfl ⟨by rw [show R = true from by rw [HR2.o]; exact List.any_eq_true.2 ⟨x, HM.o, HB0.o.symm⟩], HB2.o⟩
        | false =>
         go_wp2_with fail
         refine ⟨⟨t + 1, HS.o.1, by first | rfl | rw [HS.o.2.2], Zh (by rw [HX.o, List.any_append, HT.o]; simp [HB0.o.symm]), trivial⟩, ?_⟩
         first | rw [HS.o.2.2] | skip
         simp only [intOf, Int.toNat_natCast];exact HS.o.2.1
       ·obtain rfl : m = t := (Nat.le_antisymm ht (Nat.le_of_not_lt hlt)).symm
        have HALL := Zh (show ls.any (fun l => decide (60 < l.l.length)) = false from by have h1 := HT.o; rw [List.take_of_length_le (by rw [HLL.o]; exact Nat.le_refl _)] at h1; exact h1);clear hlt ht HT
        go_wp2_with fail
        exact bodyPost_ret (v := .bool false) (by simp [results, Tryz.results7, go_sem]) rfl ⟨by rw [show R = false from by rw [HR2.o]; exact HALL.o], HB2.o⟩
 | false =>
  cases x3 with
  | true =>
   cases x4 with
   | true =>
    go_wp2_with fail
    exact bodyPost_ret (v := .bool true) (by simp [results, Tryz.results7, go_sem]) rfl ⟨by rw [show R = true from by rw [HR.o]; simp], HB.o⟩
   | false =>
    cases x5 with
    | true =>
     go_wp2_with fail
     exact bodyPost_ret (v := .bool true) (by simp [results, Tryz.results7, go_sem]) rfl ⟨by rw [show R = true from by rw [HR.o]; simp], HB.o⟩
    | false =>
     cases x6 with
     | true =>
      go_wp2_with fail
      exact bodyPost_ret (v := .bool true) (by simp [results, Tryz.results7, go_sem]) rfl ⟨by rw [show R = true from by rw [HR.o]; simp], HB.o⟩
     | false =>
      go_wp2_with fail
      have HR2 := Zh (show R = ls.any (fun l => decide (60 < l.l.length)) from by rw [HR.o]; simp);obtain ⟨W2, hW2⟩ : ∃ W2, W2 = W.alloc (.cells #[.int .u8 k, .slice p n c, .slice q m d, .int .i64 a, .int .i64 b] 26) := ⟨_, rfl⟩;have HL2 := Zh (show LksIn W2 q ls from by rw [hW2]; exact HL0.o.later (qab _ _));have HB2 := Zh (show Below W.heap.size W W2 from by rw [hW2]; exact HB.o);have s2 : W2.cell? ⟨W.heap.size, 2, none⟩ = some (.slice q m d) := by rw [hW2]; simp
      rw [<- hW2];clear hW2 HB HR
      go_loopw [3] (fun x wr => ∃ t : Nat, t <= m /\ x = .int .i64 (t : Int) /\ Hid ((ls.take t).any (fun l => decide (60 < l.l.length)) = false) /\ wr = W2) (fun x _ => m - (intOf x).toNat)
      case atStart => exact ⟨0, Nat.zero_le _, rfl, Zh (by simp), rfl⟩
      case round =>
       obtain ⟨t, ht, rfl, HT, hw⟩ := hrel;rw [hw];clear hw;have k0 : (0 : Int) <= (t : Int) := Int.natCast_nonneg t
       by_cases hlt : t < m
       ·have k1 : (t : Int) < (m : Int) := Int.ofNat_lt.2 hlt
        have hkl : t < ls.length := by rw [HLL.o]; exact hlt
        obtain ⟨bq, oq, hqe, u0, u1, u2, u3, u4, u5, q1, d1, u6, hi1, hd1, hd2⟩ := HL2.o t hkl;subst hqe;have HS := Zh (qax hlt hm);obtain ⟨x, hx⟩ : ∃ x, x = ls[t] := ⟨_, rfl⟩;have HX := Zh (show ls.take (t + 1) = ls.take t ++ [x] from by rw [hx, List.take_add_one, List.getElem?_eq_getElem hkl]; rfl);have HM := Zh (show x ∈ ls from by rw [hx]; exact List.getElem_mem hkl);rw [<- hx] at u6;obtain ⟨b0, hb0⟩ : ∃ b0, b0 = decide (60 < x.l.length) := ⟨_, rfl⟩;have i7 : decide (60 < (x.l.length : Int)) = b0 := by rw [hb0]; exact decide_eq_decide.2 (by omega)
        have HB0 := Zh hb0;clear hx hkl hb0 u0 u1 u2 u3 u4 u5 hi1 hd1 hd2
        cases b0 with
        | true =>
         go_wp2_with fail
         exact bodyPost_ret (v := .bool true) (by simp [results, Tryz.results7, go_sem]) rfl ⟨by rw [show R = true from by rw [HR2.o]; exact List.any_eq_true.2 ⟨x, HM.o, HB0.o.symm⟩], HB2.o⟩
        | false =>
         go_wp2_with fail
         refine ⟨⟨t + 1, HS.o.1, by first | rfl | rw [HS.o.2.2], Zh (by rw [HX.o, List.any_append, HT.o]; simp [HB0.o.symm]), trivial⟩, ?_⟩
         first | rw [HS.o.2.2] | skip
         simp only [intOf, Int.toNat_natCast];exact HS.o.2.1
       ·obtain rfl : m = t := (Nat.le_antisymm ht (Nat.le_of_not_lt hlt)).symm
        have HALL := Zh (show ls.any (fun l => decide (60 < l.l.length)) = false from by have h1 := HT.o; rw [List.take_of_length_le (by rw [HLL.o]; exact Nat.le_refl _)] at h1; exact h1);clear hlt ht HT
        go_wp2_with fail
        exact bodyPost_ret (v := .bool false) (by simp [results, Tryz.results7, go_sem]) rfl ⟨by rw [show R = false from by rw [HR2.o]; exact HALL.o], HB2.o⟩
  | false =>
   cases x5 with
   | true =>
    go_wp2_with fail
    exact bodyPost_ret (v := .bool true) (by simp [results, Tryz.results7, go_sem]) rfl ⟨by rw [show R = true from by rw [HR.o]; simp], HB.o⟩
   | false =>
    cases x6 with
    | true =>
     go_wp2_with fail
     exact bodyPost_ret (v := .bool true) (by simp [results, Tryz.results7, go_sem]) rfl ⟨by rw [show R = true from by rw [HR.o]; simp], HB.o⟩
    | false =>
     go_wp2_with fail
     have HR2 := Zh (show R = ls.any (fun l => decide (60 < l.l.length)) from by rw [HR.o]; simp);obtain ⟨W2, hW2⟩ : ∃ W2, W2 = W.alloc (.cells #[.int .u8 k, .slice p n c, .slice q m d, .int .i64 a, .int .i64 b] 26) := ⟨_, rfl⟩;have HL2 := Zh (show LksIn W2 q ls from by rw [hW2]; exact HL0.o.later (qab _ _));have HB2 := Zh (show Below W.heap.size W W2 from by rw [hW2]; exact HB.o);have s2 : W2.cell? ⟨W.heap.size, 2, none⟩ = some (.slice q m d) := by rw [hW2]; simp
     rw [<- hW2];clear hW2 HB HR
     go_loopw [3] (fun x wr => ∃ t : Nat, t <= m /\ x = .int .i64 (t : Int) /\ Hid ((ls.take t).any (fun l => decide (60 < l.l.length)) = false) /\ wr = W2) (fun x _ => m - (intOf x).toNat)
     case atStart => exact ⟨0, Nat.zero_le _, rfl, Zh (by simp), rfl⟩
     case round =>
      obtain ⟨t, ht, rfl, HT, hw⟩ := hrel;rw [hw];clear hw;have k0 : (0 : Int) <= (t : Int) := Int.natCast_nonneg t
      by_cases hlt : t < m
      ·have k1 : (t : Int) < (m : Int) := Int.ofNat_lt.2 hlt
       have hkl : t < ls.length := by rw [HLL.o]; exact hlt
       obtain ⟨bq, oq, hqe, u0, u1, u2, u3, u4, u5, q1, d1, u6, hi1, hd1, hd2⟩ := HL2.o t hkl;subst hqe;have HS := Zh (qax hlt hm);obtain ⟨x, hx⟩ : ∃ x, x = ls[t] := ⟨_, rfl⟩;have HX := Zh (show ls.take (t + 1) = ls.take t ++ [x] from by rw [hx, List.take_add_one, List.getElem?_eq_getElem hkl]; rfl);have HM := Zh (show x ∈ ls from by rw [hx]; exact List.getElem_mem hkl);rw [<- hx] at u6;obtain ⟨b0, hb0⟩ : ∃ b0, b0 = decide (60 < x.l.length) := ⟨_, rfl⟩;have i7 : decide (60 < (x.l.length : Int)) = b0 := by rw [hb0]; exact decide_eq_decide.2 (by omega)
       have HB0 := Zh hb0;clear hx hkl hb0 u0 u1 u2 u3 u4 u5 hi1 hd1 hd2
       cases b0 with
       | true =>
        go_wp2_with fail
        exact bodyPost_ret (v := .bool true) (by simp [results, Tryz.results7, go_sem]) rfl ⟨by rw [show R = true from by rw [HR2.o]; exact List.any_eq_true.2 ⟨x, HM.o, HB0.o.symm⟩], HB2.o⟩
       | false =>
        go_wp2_with fail
        refine ⟨⟨t + 1, HS.o.1, by first | rfl | rw [HS.o.2.2], Zh (by rw [HX.o, List.any_append, HT.o]; simp [HB0.o.symm]), trivial⟩, ?_⟩
        first | rw [HS.o.2.2] | skip
        simp only [intOf, Int.toNat_natCast];exact HS.o.2.1
      ·obtain rfl : m = t := (Nat.le_antisymm ht (Nat.le_of_not_lt hlt)).symm
       have HALL := Zh (show ls.any (fun l => decide (60 < l.l.length)) = false from by have h1 := HT.o; rw [List.take_of_length_le (by rw [HLL.o]; exact Nat.le_refl _)] at h1; exact h1);clear hlt ht HT
       go_wp2_with fail
       exact bodyPost_ret (v := .bool false) (by simp [results, Tryz.results7, go_sem]) rfl ⟨by rw [show R = false from by rw [HR2.o]; exact HALL.o], HB2.o⟩
end Go.Proofs.YtookoagcmejkpaaGreatDoor
