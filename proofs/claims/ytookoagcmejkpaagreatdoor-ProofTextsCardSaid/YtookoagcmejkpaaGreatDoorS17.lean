/- Whether a step may be: the document's answer. -/
import Derived.Test.YtookoagcmejkpaaGreatDoorS15
import Derived.Test.YtookoagcmejkpaaGreatDoorJ12
import Derived.Test.YtookoagcmejkpaaGreatDoorS6
import Derived.Test.YtookoagcmejkpaaGreatDoorS10
set_option maxHeartbeats 3200000
namespace Go.Proofs.YtookoagcmejkpaaGreatDoor
set_option maxRecDepth 100000
open Go Go.RowKit
theorem qs7 (k a b : Int) (p : Option Addr) (c n : Nat) (q : Option Addr) (d m : Nat) (xs : List Int) (ls : List Lk) (R : Bool) (W : World) (hxl : xs.length = n) (hll : ls.length = m) (hn : n <= 9223372036854775807) (hm : m <= 9223372036854775807) (hxs : IntsIn W p xs) (hls : LksIn W q ls) (hkd : KdL ls) (hR : R = qau ⟨k, xs, ls, a, b⟩) :
  Calls Tryz.prog 12 #[.agg #[.int .u8 k, .slice p n c, .slice q m d, .int .i64 a, .int .i64 b]] W fun e w' => e = .returned (.bool R) /\ Below W.heap.size W w' := by
 have HR := Zh hR;have HF := Zh (fun h : R = true => qbn (hR.symm.trans h));have HL := Zh hxl;have HLL := Zh hll;have HX0 := Zh hxs;have HL0 := Zh hls;have HKD := Zh hkd;have HB := Zh (qab W (.cells #[.int .u8 k, .slice p n c, .slice q m d, .int .i64 a, .int .i64 b] 26));have HST := Zh (qg6 W k a b p c n q d m);have n0 : (0 : Int) <= (n : Int) := Int.natCast_nonneg _;have n9 : (n : Int) <= 9223372036854775807 := by omega
 have m0 : (0 : Int) <= (m : Int) := Int.natCast_nonneg _;have m9 : (m : Int) <= 9223372036854775807 := by omega
 clear hR hxl hll hxs hls hkd;have HC1 := Zh (fun w => qek a w);have HC2 := Zh (fun w => qek b w);obtain ⟨ba, hba⟩ : ∃ x, x = cntB a := ⟨_, rfl⟩;obtain ⟨bb, hbb⟩ : ∃ x, x = cntB b := ⟨_, rfl⟩;have HBA := Zh hba;have HBB := Zh hbb;rw [<- hba] at HC1;rw [<- hbb] at HC2;clear hba hbb;go_enter Tryz.func12, Tryz.ntmps12
 cases ba with
 | false =>
  go_wp2_with fail
  refine (HC1.o _).mono ?_;rintro e w1 ⟨rfl, hw⟩;rw [hw];clear hw
  go_wp2_with fail
  exact bodyPost_ret (v := .bool false) (by simp [results, Tryz.results12, go_sem]) rfl ⟨by rw [show R = false from qbt (fun h => (HF.o h).1) (by rw [<- HBA.o]; decide)], HB.o⟩
 | true =>
 cases bb with
 | false =>
  go_wp2_with fail
  refine (HC1.o _).mono ?_;rintro e w1 ⟨rfl, hw⟩;rw [hw];clear hw
  go_wp2_with fail
  refine (HC2.o _).mono ?_;rintro e w1 ⟨rfl, hw⟩;rw [hw];clear hw
  go_wp2_with fail
  exact bodyPost_ret (v := .bool false) (by simp [results, Tryz.results12, go_sem]) rfl ⟨by rw [show R = false from qbt (fun h => (HF.o h).2.1) (by rw [<- HBB.o]; decide)], HB.o⟩
 | true =>
 by_cases hn1 : 5000 < n
 case pos =>
  have hn2 : (5000 : Int) < (n : Int) := by omega
  have HN := Zh (show ¬ xs.length <= 5000 from by rw [HL.o]; omega);clear hn1
  go_wp2_with fail
  refine (HC1.o _).mono ?_;rintro e w1 ⟨rfl, hw⟩;rw [hw];clear hw
  go_wp2_with fail
  refine (HC2.o _).mono ?_;rintro e w1 ⟨rfl, hw⟩;rw [hw];clear hw
  go_wp2_with fail
  exact bodyPost_ret (v := .bool false) (by simp [results, Tryz.results12, go_sem]) rfl ⟨by rw [show R = false from qbt (fun h => (HF.o h).2.2.1) HN.o], HB.o⟩
 have hn2 : (n : Int) <= 5000 := by omega
 have Hn5 := Zh (show xs.length <= 5000 from by rw [HL.o]; omega);clear hn1
 by_cases hm1 : 20000 < m
 case pos =>
  have hm2 : (20000 : Int) < (m : Int) := by omega
  have HN := Zh (show ¬ ls.length <= 20000 from by rw [HLL.o]; omega);clear hm1
  go_wp2_with fail
  refine (HC1.o _).mono ?_;rintro e w1 ⟨rfl, hw⟩;rw [hw];clear hw
  go_wp2_with fail
  refine (HC2.o _).mono ?_;rintro e w1 ⟨rfl, hw⟩;rw [hw];clear hw
  go_wp2_with fail
  exact bodyPost_ret (v := .bool false) (by simp [results, Tryz.results12, go_sem]) rfl ⟨by rw [show R = false from qbt (fun h => (HF.o h).2.2.2.1) HN.o], HB.o⟩
 have hm2 : (m : Int) <= 20000 := by omega
 have Hm5 := Zh (show ls.length <= 20000 from by rw [HLL.o]; omega);clear hm1
 go_wp2_with fail
 refine (HC1.o _).mono ?_;rintro e w1 ⟨rfl, hw⟩;rw [hw];clear hw
 go_wp2_with fail
 refine (HC2.o _).mono ?_;rintro e w1 ⟨rfl, hw⟩;rw [hw];clear hw
 go_wp2_with fail
 obtain ⟨W2, hW2⟩ : ∃ W2, W2 = W.alloc (.cells #[.int .u8 k, .slice p n c, .slice q m d, .int .i64 a, .int .i64 b] 26) := ⟨_, rfl⟩;have HQ2 := Zh (show IntsIn W2 p xs from by rw [hW2]; exact HX0.o.later (qab _ _));have HL2 := Zh (show LksIn W2 q ls from by rw [hW2]; exact HL0.o.later (qab _ _));have HB2 := Zh (show Below W.heap.size W W2 from by rw [hW2]; exact HB.o);have HS2 := Zh (show StA W2 W.heap.size k a b p c n q d m from by rw [hW2]; exact HST.o);rw [<- hW2];clear hW2 HB HST;have s1 := HS2.o.c1;have s2 := HS2.o.c2
 go_loopw [3] (fun x wr => ∃ t : Nat, t <= n /\ x = .int .i64 (t : Int) /\ Hid ((xs.take t).all litB = true) /\ wr = W2) (fun x _ => n - (intOf x).toNat)
 case atStart => exact ⟨0, Nat.zero_le _, rfl, Zh (by simp), rfl⟩
 case round =>
  obtain ⟨t, ht, rfl, HT, hw⟩ := hrel;rw [hw];clear hw;have k0 : (0 : Int) <= (t : Int) := Int.natCast_nonneg t
  by_cases hlt : t < n
  ·have k1 : (t : Int) < (n : Int) := Int.ofNat_lt.2 hlt
   have hkl : t < xs.length := by rw [HL.o]; exact hlt
   obtain ⟨bq, oq, hqe, hc⟩ := HQ2.o t hkl;subst hqe;have HS := Zh (qax hlt hn);obtain ⟨x, hx⟩ : ∃ x, x = xs[t] := ⟨_, rfl⟩;have HX := Zh (show xs.take (t + 1) = xs.take t ++ [x] from by rw [hx, List.take_add_one, List.getElem?_eq_getElem hkl]; rfl);have HM := Zh (show x ∈ xs from by rw [hx]; exact List.getElem_mem hkl);rw [<- hx] at hc;clear hx hkl;have HFX := Zh (fun w => qrm x w);obtain ⟨b0, hb0⟩ : ∃ b0, b0 = litB x := ⟨_, rfl⟩;have HB0 := Zh hb0;rw [<- hb0] at HFX;clear hb0
   go_wp2_with fail
   refine (HFX.o _).mono ?_;rintro e w1 ⟨rfl, hw⟩;rw [hw];clear hw
   cases b0 with
   | false =>
    go_wp2_with fail
    exact bodyPost_ret (v := .bool false) (by simp [results, Tryz.results12, go_sem]) rfl ⟨by rw [show R = false from qbt (fun h => (HF.o h).2.2.2.2.1) (fun h => by have h1 := List.all_eq_true.1 h x HM.o; rw [<- HB0.o] at h1; exact absurd h1 (by decide))], HB2.o⟩
   | true =>
    go_wp2_with fail
    refine ⟨⟨t + 1, HS.o.1, by first | rfl | rw [HS.o.2.2], Zh (by rw [HX.o, List.all_append, HT.o]; simp [HB0.o.symm]), trivial⟩, ?_⟩
    first | rw [HS.o.2.2] | skip
    simp only [intOf, Int.toNat_natCast];exact HS.o.2.1
  ·obtain rfl : n = t := (Nat.le_antisymm ht (Nat.le_of_not_lt hlt)).symm
   have HALL := Zh (show xs.all litB = true from by have h1 := HT.o; rw [List.take_of_length_le (by rw [HL.o]; exact Nat.le_refl _)] at h1; exact h1);clear hlt ht HT
   go_wp2_with fail
   go_loopw [4] (fun x wr => ∃ t : Nat, t <= m /\ x = .int .i64 (t : Int) /\ Hid ((ls.take t).all qaz = true /\ Below W2.heap.size W2 wr)) (fun x _ => m - (intOf x).toNat)
   case atStart => exact ⟨0, Nat.zero_le _, rfl, Zh ⟨by simp, Below.refl _ _⟩⟩
   case round =>
    obtain ⟨t, ht, rfl, HT⟩ := hrel;have k0 : (0 : Int) <= (t : Int) := Int.natCast_nonneg t
    rename_i wr
    have hstr := HS2.o.later HT.o.2;obtain ⟨t0, t1, t2, t3, t4⟩ := hstr;clear s1 s2
    by_cases hlt : t < m
    ·have k1 : (t : Int) < (m : Int) := Int.ofNat_lt.2 hlt
     have hkl : t < ls.length := by rw [HLL.o]; exact hlt
     obtain ⟨bq, oq, hqe, u0, u1, u2, u3, u4, u5, q1, d1, u6, hi1, hd1, hd2⟩ := (HL2.o.later HT.o.2) t hkl;subst hqe;have HS := Zh (qax hlt hm);obtain ⟨x, hx⟩ : ∃ x, x = ls[t] := ⟨_, rfl⟩;have HX := Zh (show ls.take (t + 1) = ls.take t ++ [x] from by rw [hx, List.take_add_one, List.getElem?_eq_getElem hkl]; rfl);have HM := Zh (show x ∈ ls from by rw [hx]; exact List.getElem_mem hkl);rw [<- hx] at u0 u1 u2 u3 u4 u5 u6 hi1 hd1;clear hx hkl;have HFX := Zh (qnt x.k x.lit x.a x.b x.i x.j q1 d1 x.l.length x.l (qaz x) _ rfl (Nat.le_trans hd1 hd2) hi1 rfl);obtain ⟨b0, hb0⟩ : ∃ b0, b0 = qaz x := ⟨_, rfl⟩;have HB0 := Zh hb0;rw [<- hb0] at HFX;clear hb0 hi1 hd1 hd2
     go_wp2_with fail
     refine HFX.o.mono ?_;rintro e w1 ⟨rfl, hb⟩;have HB3 := Zh (HT.o.2.trans (hb.mono HT.o.2.size));clear hb
     cases b0 with
     | false =>
      go_wp2_with fail
      exact bodyPost_ret (v := .bool false) (by simp [results, Tryz.results12, go_sem]) rfl ⟨by rw [show R = false from qbt (fun h => (HF.o h).2.2.2.2.2.1) (fun h => by have h1 := List.all_eq_true.1 h x HM.o; rw [<- HB0.o] at h1; exact absurd h1 (by decide))], HB2.o.trans (HB3.o.mono HB2.o.size)⟩
     | true =>
      go_wp2_with fail
      refine ⟨⟨t + 1, HS.o.1, by first | rfl | rw [HS.o.2.2], Zh ⟨by rw [HX.o, List.all_append, HT.o.1]; simp [HB0.o.symm], HB3.o⟩⟩, ?_⟩
      first | rw [HS.o.2.2] | skip
      simp only [intOf, Int.toNat_natCast];exact HS.o.2.1
    ·obtain rfl : m = t := (Nat.le_antisymm ht (Nat.le_of_not_lt hlt)).symm
     have HALL2 := Zh (show ls.all qaz = true from by have h1 := HT.o.1; rw [List.take_of_length_le (by rw [HLL.o]; exact Nat.le_refl _)] at h1; exact h1);have HBW := Zh (HB2.o.trans (HT.o.2.mono HB2.o.size));clear hlt ht HT HB2 HQ2 HL2 HS2
     by_cases k1 : k = 1
     ·subst k1
      have h14 := fun w h1 h2 h3 h4 => qh9 ⟨1, xs, ls, a, b⟩ p c q d ⟨1, xs, [], 0, 0⟩ p c none 0 w h1 h2 h3 h4 (by rw [HL.o]; exact hn) (by rw [HLL.o]; exact hm) (by rw [HL.o]; exact hn) (Nat.zero_le _)
      simp only [stV, HL.o, HLL.o, List.length_nil] at h14;rw [qm1 1 a b xs ls (.inl rfl) Hn5.o HALL.o] at h14;rw [<- HR.o] at h14;have H14 := Zh h14;clear h14;have y00 := qaa (qab wr (.cells #[.int .u8 1, .slice none 0 0, .slice none 0 0, .int .i64 0, .int .i64 0] 26)) t0;have y01 := qaa (qab wr (.cells #[.int .u8 1, .slice none 0 0, .slice none 0 0, .int .i64 0, .int .i64 0] 26)) t1;have y02 := qaa (qab wr (.cells #[.int .u8 1, .slice none 0 0, .slice none 0 0, .int .i64 0, .int .i64 0] 26)) t2;have y03 := qaa (qab wr (.cells #[.int .u8 1, .slice none 0 0, .slice none 0 0, .int .i64 0, .int .i64 0] 26)) t3;have y04 := qaa (qab wr (.cells #[.int .u8 1, .slice none 0 0, .slice none 0 0, .int .i64 0, .int .i64 0] 26)) t4;have y10 := qaa (qab wr (.cells #[.int .u8 1, .slice p n c, .slice none 0 0, .int .i64 0, .int .i64 0] 26)) t0;have y11 := qaa (qab wr (.cells #[.int .u8 1, .slice p n c, .slice none 0 0, .int .i64 0, .int .i64 0] 26)) t1;have y12 := qaa (qab wr (.cells #[.int .u8 1, .slice p n c, .slice none 0 0, .int .i64 0, .int .i64 0] 26)) t2;have y13 := qaa (qab wr (.cells #[.int .u8 1, .slice p n c, .slice none 0 0, .int .i64 0, .int .i64 0] 26)) t3;have y14 := qaa (qab wr (.cells #[.int .u8 1, .slice p n c, .slice none 0 0, .int .i64 0, .int .i64 0] 26)) t4
      go_wp2_with fail
      have hbf := HBW.o.alloc HBW.o.size (.cells #[.int .u8 1, .slice p n c, .slice none 0 0, .int .i64 0, .int .i64 0] 26);refine (H14.o _ (HX0.o.later hbf) (HL0.o.later hbf) (HX0.o.later hbf) (fun i h => absurd h (Nat.not_lt_zero i))).mono ?_;rintro e w5 ⟨rfl, hb5⟩;have HB6 := Zh (hbf.trans (hb5.mono hbf.size));clear hb5 hbf
      go_wp2_with fail
      exact bodyPost_ret (v := .bool R) (by simp [results, Tryz.results12, go_sem]) rfl ⟨rfl, HB6.o⟩
     have e1 : (k == 1) = false := by simp [k1]
     by_cases k3 : k = 3
     ·subst k3
      have h14 := fun w h1 h2 h3 h4 => qh9 ⟨3, xs, ls, a, b⟩ p c q d ⟨3, xs, [], 0, 0⟩ p c none 0 w h1 h2 h3 h4 (by rw [HL.o]; exact hn) (by rw [HLL.o]; exact hm) (by rw [HL.o]; exact hn) (Nat.zero_le _)
      simp only [stV, HL.o, HLL.o, List.length_nil] at h14;rw [qm1 3 a b xs ls (.inr rfl) Hn5.o HALL.o] at h14;rw [<- HR.o] at h14;have H14 := Zh h14;clear h14;have y00 := qaa (qab wr (.cells #[.int .u8 3, .slice none 0 0, .slice none 0 0, .int .i64 0, .int .i64 0] 26)) t0;have y01 := qaa (qab wr (.cells #[.int .u8 3, .slice none 0 0, .slice none 0 0, .int .i64 0, .int .i64 0] 26)) t1;have y02 := qaa (qab wr (.cells #[.int .u8 3, .slice none 0 0, .slice none 0 0, .int .i64 0, .int .i64 0] 26)) t2;have y03 := qaa (qab wr (.cells #[.int .u8 3, .slice none 0 0, .slice none 0 0, .int .i64 0, .int .i64 0] 26)) t3;have y04 := qaa (qab wr (.cells #[.int .u8 3, .slice none 0 0, .slice none 0 0, .int .i64 0, .int .i64 0] 26)) t4;have y10 := qaa (qab wr (.cells #[.int .u8 3, .slice p n c, .slice none 0 0, .int .i64 0, .int .i64 0] 26)) t0;have y11 := qaa (qab wr (.cells #[.int .u8 3, .slice p n c, .slice none 0 0, .int .i64 0, .int .i64 0] 26)) t1;have y12 := qaa (qab wr (.cells #[.int .u8 3, .slice p n c, .slice none 0 0, .int .i64 0, .int .i64 0] 26)) t2;have y13 := qaa (qab wr (.cells #[.int .u8 3, .slice p n c, .slice none 0 0, .int .i64 0, .int .i64 0] 26)) t3;have y14 := qaa (qab wr (.cells #[.int .u8 3, .slice p n c, .slice none 0 0, .int .i64 0, .int .i64 0] 26)) t4
      go_wp2_with fail
      have hbf := HBW.o.alloc HBW.o.size (.cells #[.int .u8 3, .slice p n c, .slice none 0 0, .int .i64 0, .int .i64 0] 26);refine (H14.o _ (HX0.o.later hbf) (HL0.o.later hbf) (HX0.o.later hbf) (fun i h => absurd h (Nat.not_lt_zero i))).mono ?_;rintro e w5 ⟨rfl, hb5⟩;have HB6 := Zh (hbf.trans (hb5.mono hbf.size));clear hb5 hbf
      go_wp2_with fail
      exact bodyPost_ret (v := .bool R) (by simp [results, Tryz.results12, go_sem]) rfl ⟨rfl, HB6.o⟩
     have e3 : (k == 3) = false := by simp [k3]
     by_cases k2 : k = 2
     ·subst k2
      have h14 := fun w h1 h2 h3 h4 => qh9 ⟨2, xs, ls, a, b⟩ p c q d ⟨2, [], ls, 0, 0⟩ none 0 q d w h1 h2 h3 h4 (by rw [HL.o]; exact hn) (by rw [HLL.o]; exact hm) (Nat.zero_le _) (by rw [HLL.o]; exact hm)
      simp only [stV, HL.o, HLL.o, List.length_nil] at h14;rw [qo8 a b xs ls Hm5.o HALL2.o] at h14;rw [<- HR.o] at h14;have H14 := Zh h14;clear h14;have y00 := qaa (qab wr (.cells #[.int .u8 2, .slice none 0 0, .slice none 0 0, .int .i64 0, .int .i64 0] 26)) t0;have y01 := qaa (qab wr (.cells #[.int .u8 2, .slice none 0 0, .slice none 0 0, .int .i64 0, .int .i64 0] 26)) t1;have y02 := qaa (qab wr (.cells #[.int .u8 2, .slice none 0 0, .slice none 0 0, .int .i64 0, .int .i64 0] 26)) t2;have y03 := qaa (qab wr (.cells #[.int .u8 2, .slice none 0 0, .slice none 0 0, .int .i64 0, .int .i64 0] 26)) t3;have y04 := qaa (qab wr (.cells #[.int .u8 2, .slice none 0 0, .slice none 0 0, .int .i64 0, .int .i64 0] 26)) t4;have y10 := qaa (qab wr (.cells #[.int .u8 2, .slice none 0 0, .slice q m d, .int .i64 0, .int .i64 0] 26)) t0;have y11 := qaa (qab wr (.cells #[.int .u8 2, .slice none 0 0, .slice q m d, .int .i64 0, .int .i64 0] 26)) t1;have y12 := qaa (qab wr (.cells #[.int .u8 2, .slice none 0 0, .slice q m d, .int .i64 0, .int .i64 0] 26)) t2;have y13 := qaa (qab wr (.cells #[.int .u8 2, .slice none 0 0, .slice q m d, .int .i64 0, .int .i64 0] 26)) t3;have y14 := qaa (qab wr (.cells #[.int .u8 2, .slice none 0 0, .slice q m d, .int .i64 0, .int .i64 0] 26)) t4
      go_wp2_with fail
      have hbf := HBW.o.alloc HBW.o.size (.cells #[.int .u8 2, .slice none 0 0, .slice q m d, .int .i64 0, .int .i64 0] 26);refine (H14.o _ (HX0.o.later hbf) (HL0.o.later hbf) (IntsIn.nil _ _) (HL0.o.later hbf)).mono ?_;rintro e w5 ⟨rfl, hb5⟩;have HB6 := Zh (hbf.trans (hb5.mono hbf.size));clear hb5 hbf
      go_wp2_with fail
      exact bodyPost_ret (v := .bool R) (by simp [results, Tryz.results12, go_sem]) rfl ⟨rfl, HB6.o⟩
     have e2 : (k == 2) = false := by simp [k2]
     by_cases k4 : k = 4
     ·subst k4
      have h14 := fun w h1 h2 h3 h4 => qh9 ⟨4, xs, ls, a, b⟩ p c q d ⟨4, [], [], a, b⟩ none 0 none 0 w h1 h2 h3 h4 (by rw [HL.o]; exact hn) (by rw [HLL.o]; exact hm) (Nat.zero_le _) (Nat.zero_le _)
      simp only [stV, HL.o, HLL.o, List.length_nil] at h14;rw [qq5 a b xs ls HBA.o.symm HBB.o.symm] at h14;rw [<- HR.o] at h14;have H14 := Zh h14;clear h14;have y00 := qaa (qab wr (.cells #[.int .u8 4, .slice none 0 0, .slice none 0 0, .int .i64 0, .int .i64 0] 26)) t0;have y01 := qaa (qab wr (.cells #[.int .u8 4, .slice none 0 0, .slice none 0 0, .int .i64 0, .int .i64 0] 26)) t1;have y02 := qaa (qab wr (.cells #[.int .u8 4, .slice none 0 0, .slice none 0 0, .int .i64 0, .int .i64 0] 26)) t2;have y03 := qaa (qab wr (.cells #[.int .u8 4, .slice none 0 0, .slice none 0 0, .int .i64 0, .int .i64 0] 26)) t3;have y04 := qaa (qab wr (.cells #[.int .u8 4, .slice none 0 0, .slice none 0 0, .int .i64 0, .int .i64 0] 26)) t4;have y10 := qaa (qab wr (.cells #[.int .u8 4, .slice none 0 0, .slice none 0 0, .int .i64 a, .int .i64 0] 26)) t0;have y11 := qaa (qab wr (.cells #[.int .u8 4, .slice none 0 0, .slice none 0 0, .int .i64 a, .int .i64 0] 26)) t1;have y12 := qaa (qab wr (.cells #[.int .u8 4, .slice none 0 0, .slice none 0 0, .int .i64 a, .int .i64 0] 26)) t2;have y13 := qaa (qab wr (.cells #[.int .u8 4, .slice none 0 0, .slice none 0 0, .int .i64 a, .int .i64 0] 26)) t3;have y14 := qaa (qab wr (.cells #[.int .u8 4, .slice none 0 0, .slice none 0 0, .int .i64 a, .int .i64 0] 26)) t4;have y20 := qaa (qab wr (.cells #[.int .u8 4, .slice none 0 0, .slice none 0 0, .int .i64 a, .int .i64 b] 26)) t0;have y21 := qaa (qab wr (.cells #[.int .u8 4, .slice none 0 0, .slice none 0 0, .int .i64 a, .int .i64 b] 26)) t1;have y22 := qaa (qab wr (.cells #[.int .u8 4, .slice none 0 0, .slice none 0 0, .int .i64 a, .int .i64 b] 26)) t2;have y23 := qaa (qab wr (.cells #[.int .u8 4, .slice none 0 0, .slice none 0 0, .int .i64 a, .int .i64 b] 26)) t3;have y24 := qaa (qab wr (.cells #[.int .u8 4, .slice none 0 0, .slice none 0 0, .int .i64 a, .int .i64 b] 26)) t4
      go_wp2_with fail
      have hbf := HBW.o.alloc HBW.o.size (.cells #[.int .u8 4, .slice none 0 0, .slice none 0 0, .int .i64 a, .int .i64 b] 26);refine (H14.o _ (HX0.o.later hbf) (HL0.o.later hbf) (IntsIn.nil _ _) (fun i h => absurd h (Nat.not_lt_zero i))).mono ?_;rintro e w5 ⟨rfl, hb5⟩;have HB6 := Zh (hbf.trans (hb5.mono hbf.size));clear hb5 hbf
      go_wp2_with fail
      exact bodyPost_ret (v := .bool R) (by simp [results, Tryz.results12, go_sem]) rfl ⟨rfl, HB6.o⟩
     have e4 : (k == 4) = false := by simp [k4]
     have HK := Zh (show ¬ (k = 1 \/ k = 3 \/ k = 2 \/ k = 4) from by omega);clear k1 k3 k2 k4;have y00 := qaa (qab wr (.cells #[.int .u8 k, .slice none 0 0, .slice none 0 0, .int .i64 0, .int .i64 0] 26)) t0;have y01 := qaa (qab wr (.cells #[.int .u8 k, .slice none 0 0, .slice none 0 0, .int .i64 0, .int .i64 0] 26)) t1;have y02 := qaa (qab wr (.cells #[.int .u8 k, .slice none 0 0, .slice none 0 0, .int .i64 0, .int .i64 0] 26)) t2;have y03 := qaa (qab wr (.cells #[.int .u8 k, .slice none 0 0, .slice none 0 0, .int .i64 0, .int .i64 0] 26)) t3;have y04 := qaa (qab wr (.cells #[.int .u8 k, .slice none 0 0, .slice none 0 0, .int .i64 0, .int .i64 0] 26)) t4
     go_wp2_with fail
     exact bodyPost_ret (v := .bool false) (by simp [results, Tryz.results12, go_sem]) rfl ⟨by rw [show R = false from qbt (fun h => (HF.o h).2.2.2.2.2.2) HK.o], HBW.o.alloc HBW.o.size _⟩
end Go.Proofs.YtookoagcmejkpaaGreatDoor
