/- Whether a step may be: the document's answer. -/
import Derived.Test.YtookoagcmejkpaaGreatDoorS15
import Derived.Test.YtookoagcmejkpaaGreatDoorJ13
import Derived.Test.YtookoagcmejkpaaGreatDoorS6
import Derived.Test.YtookoagcmejkpaaGreatDoorS10
namespace Go.Proofs.YtookoagcmejkpaaGreatDoor
set_option maxRecDepth 100000
open Go Go.RowKit
set_option maxHeartbeats 3200000 in
theorem may12 (k a b : Int) (p : Option Addr) (c n : Nat) (q : Option Addr) (d m : Nat) (xs : List Int) (ls : List Lk) (R : Bool) (W : World) (hxl : xs.length = n) (hll : ls.length = m) (hn : n <= 9223372036854775807) (hm : m <= 9223372036854775807) (hxs : IntsIn W p xs) (hls : LksIn W q ls) (hkd : KdL ls) (hR : R = maySt ⟨k, xs, ls, a, b⟩) :
  Calls Tryz.prog 12 #[.agg #[.int .u8 k, .slice p n c, .slice q m d, .int .i64 a, .int .i64 b]] W fun e w' => e = .returned (.bool R) /\ Below W.heap.size W w' := by
 have HR := Lib.hid hR
 have HF := Lib.hid (fun h : R = true => maySt_facts (hR.symm.trans h))
 have HL := Lib.hid hxl
 have HLL := Lib.hid hll
 have HX0 := Lib.hid hxs
 have HL0 := Lib.hid hls
 have HKD := Lib.hid hkd
 have HB := Lib.hid (below1 W (.cells #[.int .u8 k, .slice p n c, .slice q m d, .int .i64 a, .int .i64 b] 26))
 have HST := Lib.hid (stA_new W k a b p c n q d m)
 have n0 : (0 : Int) <= (n : Int) := Int.natCast_nonneg _
 have n9 : (n : Int) <= 9223372036854775807 := by omega
 have m0 : (0 : Int) <= (m : Int) := Int.natCast_nonneg _
 have m9 : (m : Int) <= 9223372036854775807 := by omega
 clear hR hxl hll hxs hls hkd
 have HC1 := Lib.hid (fun w => count41 a w)
 have HC2 := Lib.hid (fun w => count41 b w)
 obtain ⟨ba, hba⟩ : ∃ x, x = cntB a := ⟨_, rfl⟩
 obtain ⟨bb, hbb⟩ : ∃ x, x = cntB b := ⟨_, rfl⟩
 have HBA := Lib.hid hba
 have HBB := Lib.hid hbb
 rw [<- hba] at HC1
 rw [<- hbb] at HC2
 clear hba hbb
 go_enter Tryz.func12, Tryz.ntmps12
 cases ba with
 | false =>
  go_wp2_with fail
  refine (HC1.out _).mono ?_
  rintro e w1 ⟨rfl, hw⟩
  rw [hw]
  clear hw
  go_wp2_with fail
  exact bodyPost_ret (v := .bool false) (by simp [results, Tryz.results12, go_sem]) rfl ⟨by rw [show R = false from notTrue (fun h => (HF.out h).1) (by rw [<- HBA.out]; decide)], HB.out⟩
 | true =>
 cases bb with
 | false =>
  go_wp2_with fail
  refine (HC1.out _).mono ?_
  rintro e w1 ⟨rfl, hw⟩
  rw [hw]
  clear hw
  go_wp2_with fail
  refine (HC2.out _).mono ?_
  rintro e w1 ⟨rfl, hw⟩
  rw [hw]
  clear hw
  go_wp2_with fail
  exact bodyPost_ret (v := .bool false) (by simp [results, Tryz.results12, go_sem]) rfl ⟨by rw [show R = false from notTrue (fun h => (HF.out h).2.1) (by rw [<- HBB.out]; decide)], HB.out⟩
 | true =>
 by_cases hn1 : 5000 < n
 case pos =>
  have hn2 : (5000 : Int) < (n : Int) := by omega
  have HN := Lib.hid (show ¬ xs.length <= 5000 from by rw [HL.out]; omega)
  clear hn1
  go_wp2_with fail
  refine (HC1.out _).mono ?_
  rintro e w1 ⟨rfl, hw⟩
  rw [hw]
  clear hw
  go_wp2_with fail
  refine (HC2.out _).mono ?_
  rintro e w1 ⟨rfl, hw⟩
  rw [hw]
  clear hw
  go_wp2_with fail
  exact bodyPost_ret (v := .bool false) (by simp [results, Tryz.results12, go_sem]) rfl ⟨by rw [show R = false from notTrue (fun h => (HF.out h).2.2.1) HN.out], HB.out⟩
 have hn2 : (n : Int) <= 5000 := by omega
 have Hn5 := Lib.hid (show xs.length <= 5000 from by rw [HL.out]; omega)
 clear hn1
 by_cases hm1 : 20000 < m
 case pos =>
  have hm2 : (20000 : Int) < (m : Int) := by omega
  have HN := Lib.hid (show ¬ ls.length <= 20000 from by rw [HLL.out]; omega)
  clear hm1
  go_wp2_with fail
  refine (HC1.out _).mono ?_
  rintro e w1 ⟨rfl, hw⟩
  rw [hw]
  clear hw
  go_wp2_with fail
  refine (HC2.out _).mono ?_
  rintro e w1 ⟨rfl, hw⟩
  rw [hw]
  clear hw
  go_wp2_with fail
  exact bodyPost_ret (v := .bool false) (by simp [results, Tryz.results12, go_sem]) rfl ⟨by rw [show R = false from notTrue (fun h => (HF.out h).2.2.2.1) HN.out], HB.out⟩
 have hm2 : (m : Int) <= 20000 := by omega
 have Hm5 := Lib.hid (show ls.length <= 20000 from by rw [HLL.out]; omega)
 clear hm1
 go_wp2_with fail
 refine (HC1.out _).mono ?_
 rintro e w1 ⟨rfl, hw⟩
 rw [hw]
 clear hw
 go_wp2_with fail
 refine (HC2.out _).mono ?_
 rintro e w1 ⟨rfl, hw⟩
 rw [hw]
 clear hw
 go_wp2_with fail
 obtain ⟨W2, hW2⟩ : ∃ W2, W2 = W.alloc (.cells #[.int .u8 k, .slice p n c, .slice q m d, .int .i64 a, .int .i64 b] 26) := ⟨_, rfl⟩
 have HQ2 := Lib.hid (show IntsIn W2 p xs from by rw [hW2]; exact HX0.out.later (below1 _ _))
 have HL2 := Lib.hid (show LksIn W2 q ls from by rw [hW2]; exact HL0.out.later (below1 _ _))
 have HB2 := Lib.hid (show Below W.heap.size W W2 from by rw [hW2]; exact HB.out)
 have HS2 := Lib.hid (show StA W2 W.heap.size k a b p c n q d m from by rw [hW2]; exact HST.out)
 rw [<- hW2]
 clear hW2 HB HST
 have s1 := HS2.out.c1
 have s2 := HS2.out.c2
 go_loopw [3] (fun x wr => ∃ t : Nat, t <= n /\ x = .int .i64 (t : Int) /\ Hid ((xs.take t).all litB = true) /\ wr = W2) (fun x _ => n - (intOf x).toNat)
 case atStart => exact ⟨0, Nat.zero_le _, rfl, Lib.hid (by simp), rfl⟩
 case round =>
  obtain ⟨t, ht, rfl, HT, hw⟩ := hrel
  rw [hw]
  clear hw
  have k0 : (0 : Int) <= (t : Int) := Int.natCast_nonneg t
  by_cases hlt : t < n
  ·have k1 : (t : Int) < (n : Int) := Int.ofNat_lt.2 hlt
   have hkl : t < xs.length := by rw [HL.out]; exact hlt
   obtain ⟨bq, oq, hqe, hc⟩ := HQ2.out t hkl
   subst hqe
   have HS := Lib.hid (step_ok hlt hn)
   obtain ⟨x, hx⟩ : ∃ x, x = xs[t] := ⟨_, rfl⟩
   have HX := Lib.hid (show xs.take (t + 1) = xs.take t ++ [x] from by rw [hx, List.take_add_one, List.getElem?_eq_getElem hkl]; rfl)
   have HM := Lib.hid (show x ∈ xs from by rw [hx]; exact List.getElem_mem hkl)
   rw [<- hx] at hc
   clear hx hkl
   have HFX := Lib.hid (fun w => lit42 x w)
   obtain ⟨b0, hb0⟩ : ∃ b0, b0 = litB x := ⟨_, rfl⟩
   have HB0 := Lib.hid hb0
   rw [<- hb0] at HFX
   clear hb0
   go_wp2_with fail
   refine (HFX.out _).mono ?_
   rintro e w1 ⟨rfl, hw⟩
   rw [hw]
   clear hw
   cases b0 with
   | false =>
    go_wp2_with fail
    exact bodyPost_ret (v := .bool false) (by simp [results, Tryz.results12, go_sem]) rfl ⟨by rw [show R = false from notTrue (fun h => (HF.out h).2.2.2.2.1) (fun h => by have h1 := List.all_eq_true.1 h x HM.out; rw [<- HB0.out] at h1; exact absurd h1 (by decide))], HB2.out⟩
   | true =>
    go_wp2_with fail
    refine ⟨⟨t + 1, HS.out.1, by first | rfl | rw [HS.out.2.2], Lib.hid (by rw [HX.out, List.all_append, HT.out]; simp [HB0.out.symm]), trivial⟩, ?_⟩
    first | rw [HS.out.2.2] | skip
    simp only [intOf, Int.toNat_natCast]
    exact HS.out.2.1
  ·obtain rfl : n = t := (Nat.le_antisymm ht (Nat.le_of_not_lt hlt)).symm
   have HALL := Lib.hid (show xs.all litB = true from by have h1 := HT.out; rw [List.take_of_length_le (by rw [HL.out]; exact Nat.le_refl _)] at h1; exact h1)
   clear hlt ht HT
   go_wp2_with fail
   go_loopw [4] (fun x wr => ∃ t : Nat, t <= m /\ x = .int .i64 (t : Int) /\ Hid ((ls.take t).all mayLk = true /\ Below W2.heap.size W2 wr)) (fun x _ => m - (intOf x).toNat)
   case atStart => exact ⟨0, Nat.zero_le _, rfl, Lib.hid ⟨by simp, Below.refl _ _⟩⟩
   case round =>
    obtain ⟨t, ht, rfl, HT⟩ := hrel
    have k0 : (0 : Int) <= (t : Int) := Int.natCast_nonneg t
    rename_i wr
    have hstr := HS2.out.later HT.out.2
    obtain ⟨t0, t1, t2, t3, t4⟩ := hstr
    clear s1 s2
    by_cases hlt : t < m
    ·have k1 : (t : Int) < (m : Int) := Int.ofNat_lt.2 hlt
     have hkl : t < ls.length := by rw [HLL.out]; exact hlt
     obtain ⟨bq, oq, hqe, u0, u1, u2, u3, u4, u5, q1, d1, u6, hi1, hd1, hd2⟩ := (HL2.out.later HT.out.2) t hkl
     subst hqe
     have HS := Lib.hid (step_ok hlt hm)
     obtain ⟨x, hx⟩ : ∃ x, x = ls[t] := ⟨_, rfl⟩
     have HX := Lib.hid (show ls.take (t + 1) = ls.take t ++ [x] from by rw [hx, List.take_add_one, List.getElem?_eq_getElem hkl]; rfl)
     have HM := Lib.hid (show x ∈ ls from by rw [hx]; exact List.getElem_mem hkl)
     rw [<- hx] at u0 u1 u2 u3 u4 u5 u6 hi1 hd1
     clear hx hkl
     have HFX := Lib.hid (mayLink43 x.k x.lit x.a x.b x.i x.j q1 d1 x.l.length x.l (mayLk x) _ rfl (Nat.le_trans hd1 hd2) hi1 rfl)
     obtain ⟨b0, hb0⟩ : ∃ b0, b0 = mayLk x := ⟨_, rfl⟩
     have HB0 := Lib.hid hb0
     rw [<- hb0] at HFX
     clear hb0 hi1 hd1 hd2
     go_wp2_with fail
     refine HFX.out.mono ?_
     rintro e w1 ⟨rfl, hb⟩
     have HB3 := Lib.hid (HT.out.2.trans (hb.mono HT.out.2.size))
     clear hb
     cases b0 with
     | false =>
      go_wp2_with fail
      exact bodyPost_ret (v := .bool false) (by simp [results, Tryz.results12, go_sem]) rfl ⟨by rw [show R = false from notTrue (fun h => (HF.out h).2.2.2.2.2.1) (fun h => by have h1 := List.all_eq_true.1 h x HM.out; rw [<- HB0.out] at h1; exact absurd h1 (by decide))], HB2.out.trans (HB3.out.mono HB2.out.size)⟩
     | true =>
      go_wp2_with fail
      refine ⟨⟨t + 1, HS.out.1, by first | rfl | rw [HS.out.2.2], Lib.hid ⟨by rw [HX.out, List.all_append, HT.out.1]; simp [HB0.out.symm], HB3.out⟩⟩, ?_⟩
      first | rw [HS.out.2.2] | skip
      simp only [intOf, Int.toNat_natCast]
      exact HS.out.2.1
    ·obtain rfl : m = t := (Nat.le_antisymm ht (Nat.le_of_not_lt hlt)).symm
     have HALL2 := Lib.hid (show ls.all mayLk = true from by have h1 := HT.out.1; rw [List.take_of_length_le (by rw [HLL.out]; exact Nat.le_refl _)] at h1; exact h1)
     have HBW := Lib.hid (HB2.out.trans (HT.out.2.mono HB2.out.size))
     clear hlt ht HT HB2 HQ2 HL2 HS2
     by_cases k1 : k = 1
     ·subst k1
      have h14 := fun w h1 h2 h3 h4 => same14 ⟨1, xs, ls, a, b⟩ p c q d ⟨1, xs, [], 0, 0⟩ p c none 0 w h1 h2 h3 h4 (by rw [HL.out]; exact hn) (by rw [HLL.out]; exact hm) (by rw [HL.out]; exact hn) (Nat.zero_le _)
      simp only [stV, HL.out, HLL.out, List.length_nil] at h14
      rw [st_lits 1 a b xs ls (.inl rfl) Hn5.out HALL.out] at h14
      rw [<- HR.out] at h14
      have H14 := Lib.hid h14
      clear h14
      have y00 := cell_later (below1 wr (.cells #[.int .u8 1, .slice none 0 0, .slice none 0 0, .int .i64 0, .int .i64 0] 26)) t0
      have y01 := cell_later (below1 wr (.cells #[.int .u8 1, .slice none 0 0, .slice none 0 0, .int .i64 0, .int .i64 0] 26)) t1
      have y02 := cell_later (below1 wr (.cells #[.int .u8 1, .slice none 0 0, .slice none 0 0, .int .i64 0, .int .i64 0] 26)) t2
      have y03 := cell_later (below1 wr (.cells #[.int .u8 1, .slice none 0 0, .slice none 0 0, .int .i64 0, .int .i64 0] 26)) t3
      have y04 := cell_later (below1 wr (.cells #[.int .u8 1, .slice none 0 0, .slice none 0 0, .int .i64 0, .int .i64 0] 26)) t4
      have y10 := cell_later (below1 wr (.cells #[.int .u8 1, .slice p n c, .slice none 0 0, .int .i64 0, .int .i64 0] 26)) t0
      have y11 := cell_later (below1 wr (.cells #[.int .u8 1, .slice p n c, .slice none 0 0, .int .i64 0, .int .i64 0] 26)) t1
      have y12 := cell_later (below1 wr (.cells #[.int .u8 1, .slice p n c, .slice none 0 0, .int .i64 0, .int .i64 0] 26)) t2
      have y13 := cell_later (below1 wr (.cells #[.int .u8 1, .slice p n c, .slice none 0 0, .int .i64 0, .int .i64 0] 26)) t3
      have y14 := cell_later (below1 wr (.cells #[.int .u8 1, .slice p n c, .slice none 0 0, .int .i64 0, .int .i64 0] 26)) t4
      go_wp2_with fail
      have hbf := HBW.out.alloc HBW.out.size (.cells #[.int .u8 1, .slice p n c, .slice none 0 0, .int .i64 0, .int .i64 0] 26)
      refine (H14.out _ (HX0.out.later hbf) (HL0.out.later hbf) (HX0.out.later hbf) (fun i h => absurd h (Nat.not_lt_zero i))).mono ?_
      rintro e w5 ⟨rfl, hb5⟩
      have HB6 := Lib.hid (hbf.trans (hb5.mono hbf.size))
      clear hb5 hbf
      go_wp2_with fail
      exact bodyPost_ret (v := .bool R) (by simp [results, Tryz.results12, go_sem]) rfl ⟨rfl, HB6.out⟩
     have e1 : (k == 1) = false := by simp [k1]
     by_cases k3 : k = 3
     ·subst k3
      have h14 := fun w h1 h2 h3 h4 => same14 ⟨3, xs, ls, a, b⟩ p c q d ⟨3, xs, [], 0, 0⟩ p c none 0 w h1 h2 h3 h4 (by rw [HL.out]; exact hn) (by rw [HLL.out]; exact hm) (by rw [HL.out]; exact hn) (Nat.zero_le _)
      simp only [stV, HL.out, HLL.out, List.length_nil] at h14
      rw [st_lits 3 a b xs ls (.inr rfl) Hn5.out HALL.out] at h14
      rw [<- HR.out] at h14
      have H14 := Lib.hid h14
      clear h14
      have y00 := cell_later (below1 wr (.cells #[.int .u8 3, .slice none 0 0, .slice none 0 0, .int .i64 0, .int .i64 0] 26)) t0
      have y01 := cell_later (below1 wr (.cells #[.int .u8 3, .slice none 0 0, .slice none 0 0, .int .i64 0, .int .i64 0] 26)) t1
      have y02 := cell_later (below1 wr (.cells #[.int .u8 3, .slice none 0 0, .slice none 0 0, .int .i64 0, .int .i64 0] 26)) t2
      have y03 := cell_later (below1 wr (.cells #[.int .u8 3, .slice none 0 0, .slice none 0 0, .int .i64 0, .int .i64 0] 26)) t3
      have y04 := cell_later (below1 wr (.cells #[.int .u8 3, .slice none 0 0, .slice none 0 0, .int .i64 0, .int .i64 0] 26)) t4
      have y10 := cell_later (below1 wr (.cells #[.int .u8 3, .slice p n c, .slice none 0 0, .int .i64 0, .int .i64 0] 26)) t0
      have y11 := cell_later (below1 wr (.cells #[.int .u8 3, .slice p n c, .slice none 0 0, .int .i64 0, .int .i64 0] 26)) t1
      have y12 := cell_later (below1 wr (.cells #[.int .u8 3, .slice p n c, .slice none 0 0, .int .i64 0, .int .i64 0] 26)) t2
      have y13 := cell_later (below1 wr (.cells #[.int .u8 3, .slice p n c, .slice none 0 0, .int .i64 0, .int .i64 0] 26)) t3
      have y14 := cell_later (below1 wr (.cells #[.int .u8 3, .slice p n c, .slice none 0 0, .int .i64 0, .int .i64 0] 26)) t4
      go_wp2_with fail
      have hbf := HBW.out.alloc HBW.out.size (.cells #[.int .u8 3, .slice p n c, .slice none 0 0, .int .i64 0, .int .i64 0] 26)
      refine (H14.out _ (HX0.out.later hbf) (HL0.out.later hbf) (HX0.out.later hbf) (fun i h => absurd h (Nat.not_lt_zero i))).mono ?_
      rintro e w5 ⟨rfl, hb5⟩
      have HB6 := Lib.hid (hbf.trans (hb5.mono hbf.size))
      clear hb5 hbf
      go_wp2_with fail
      exact bodyPost_ret (v := .bool R) (by simp [results, Tryz.results12, go_sem]) rfl ⟨rfl, HB6.out⟩
     have e3 : (k == 3) = false := by simp [k3]
     by_cases k2 : k = 2
     ·subst k2
      have h14 := fun w h1 h2 h3 h4 => same14 ⟨2, xs, ls, a, b⟩ p c q d ⟨2, [], ls, 0, 0⟩ none 0 q d w h1 h2 h3 h4 (by rw [HL.out]; exact hn) (by rw [HLL.out]; exact hm) (Nat.zero_le _) (by rw [HLL.out]; exact hm)
      simp only [stV, HL.out, HLL.out, List.length_nil] at h14
      rw [st_links a b xs ls Hm5.out HALL2.out] at h14
      rw [<- HR.out] at h14
      have H14 := Lib.hid h14
      clear h14
      have y00 := cell_later (below1 wr (.cells #[.int .u8 2, .slice none 0 0, .slice none 0 0, .int .i64 0, .int .i64 0] 26)) t0
      have y01 := cell_later (below1 wr (.cells #[.int .u8 2, .slice none 0 0, .slice none 0 0, .int .i64 0, .int .i64 0] 26)) t1
      have y02 := cell_later (below1 wr (.cells #[.int .u8 2, .slice none 0 0, .slice none 0 0, .int .i64 0, .int .i64 0] 26)) t2
      have y03 := cell_later (below1 wr (.cells #[.int .u8 2, .slice none 0 0, .slice none 0 0, .int .i64 0, .int .i64 0] 26)) t3
      have y04 := cell_later (below1 wr (.cells #[.int .u8 2, .slice none 0 0, .slice none 0 0, .int .i64 0, .int .i64 0] 26)) t4
      have y10 := cell_later (below1 wr (.cells #[.int .u8 2, .slice none 0 0, .slice q m d, .int .i64 0, .int .i64 0] 26)) t0
      have y11 := cell_later (below1 wr (.cells #[.int .u8 2, .slice none 0 0, .slice q m d, .int .i64 0, .int .i64 0] 26)) t1
      have y12 := cell_later (below1 wr (.cells #[.int .u8 2, .slice none 0 0, .slice q m d, .int .i64 0, .int .i64 0] 26)) t2
      have y13 := cell_later (below1 wr (.cells #[.int .u8 2, .slice none 0 0, .slice q m d, .int .i64 0, .int .i64 0] 26)) t3
      have y14 := cell_later (below1 wr (.cells #[.int .u8 2, .slice none 0 0, .slice q m d, .int .i64 0, .int .i64 0] 26)) t4
      go_wp2_with fail
      have hbf := HBW.out.alloc HBW.out.size (.cells #[.int .u8 2, .slice none 0 0, .slice q m d, .int .i64 0, .int .i64 0] 26)
      refine (H14.out _ (HX0.out.later hbf) (HL0.out.later hbf) (IntsIn.nil _ _) (HL0.out.later hbf)).mono ?_
      rintro e w5 ⟨rfl, hb5⟩
      have HB6 := Lib.hid (hbf.trans (hb5.mono hbf.size))
      clear hb5 hbf
      go_wp2_with fail
      exact bodyPost_ret (v := .bool R) (by simp [results, Tryz.results12, go_sem]) rfl ⟨rfl, HB6.out⟩
     have e2 : (k == 2) = false := by simp [k2]
     by_cases k4 : k = 4
     ·subst k4
      have h14 := fun w h1 h2 h3 h4 => same14 ⟨4, xs, ls, a, b⟩ p c q d ⟨4, [], [], a, b⟩ none 0 none 0 w h1 h2 h3 h4 (by rw [HL.out]; exact hn) (by rw [HLL.out]; exact hm) (Nat.zero_le _) (Nat.zero_le _)
      simp only [stV, HL.out, HLL.out, List.length_nil] at h14
      rw [st_pair a b xs ls HBA.out.symm HBB.out.symm] at h14
      rw [<- HR.out] at h14
      have H14 := Lib.hid h14
      clear h14
      have y00 := cell_later (below1 wr (.cells #[.int .u8 4, .slice none 0 0, .slice none 0 0, .int .i64 0, .int .i64 0] 26)) t0
      have y01 := cell_later (below1 wr (.cells #[.int .u8 4, .slice none 0 0, .slice none 0 0, .int .i64 0, .int .i64 0] 26)) t1
      have y02 := cell_later (below1 wr (.cells #[.int .u8 4, .slice none 0 0, .slice none 0 0, .int .i64 0, .int .i64 0] 26)) t2
      have y03 := cell_later (below1 wr (.cells #[.int .u8 4, .slice none 0 0, .slice none 0 0, .int .i64 0, .int .i64 0] 26)) t3
      have y04 := cell_later (below1 wr (.cells #[.int .u8 4, .slice none 0 0, .slice none 0 0, .int .i64 0, .int .i64 0] 26)) t4
      have y10 := cell_later (below1 wr (.cells #[.int .u8 4, .slice none 0 0, .slice none 0 0, .int .i64 a, .int .i64 0] 26)) t0
      have y11 := cell_later (below1 wr (.cells #[.int .u8 4, .slice none 0 0, .slice none 0 0, .int .i64 a, .int .i64 0] 26)) t1
      have y12 := cell_later (below1 wr (.cells #[.int .u8 4, .slice none 0 0, .slice none 0 0, .int .i64 a, .int .i64 0] 26)) t2
      have y13 := cell_later (below1 wr (.cells #[.int .u8 4, .slice none 0 0, .slice none 0 0, .int .i64 a, .int .i64 0] 26)) t3
      have y14 := cell_later (below1 wr (.cells #[.int .u8 4, .slice none 0 0, .slice none 0 0, .int .i64 a, .int .i64 0] 26)) t4
      have y20 := cell_later (below1 wr (.cells #[.int .u8 4, .slice none 0 0, .slice none 0 0, .int .i64 a, .int .i64 b] 26)) t0
      have y21 := cell_later (below1 wr (.cells #[.int .u8 4, .slice none 0 0, .slice none 0 0, .int .i64 a, .int .i64 b] 26)) t1
      have y22 := cell_later (below1 wr (.cells #[.int .u8 4, .slice none 0 0, .slice none 0 0, .int .i64 a, .int .i64 b] 26)) t2
      have y23 := cell_later (below1 wr (.cells #[.int .u8 4, .slice none 0 0, .slice none 0 0, .int .i64 a, .int .i64 b] 26)) t3
      have y24 := cell_later (below1 wr (.cells #[.int .u8 4, .slice none 0 0, .slice none 0 0, .int .i64 a, .int .i64 b] 26)) t4
      go_wp2_with fail
      have hbf := HBW.out.alloc HBW.out.size (.cells #[.int .u8 4, .slice none 0 0, .slice none 0 0, .int .i64 a, .int .i64 b] 26)
      refine (H14.out _ (HX0.out.later hbf) (HL0.out.later hbf) (IntsIn.nil _ _) (fun i h => absurd h (Nat.not_lt_zero i))).mono ?_
      rintro e w5 ⟨rfl, hb5⟩
      have HB6 := Lib.hid (hbf.trans (hb5.mono hbf.size))
      clear hb5 hbf
      go_wp2_with fail
      exact bodyPost_ret (v := .bool R) (by simp [results, Tryz.results12, go_sem]) rfl ⟨rfl, HB6.out⟩
     have e4 : (k == 4) = false := by simp [k4]
     have HK := Lib.hid (show ¬ (k = 1 \/ k = 3 \/ k = 2 \/ k = 4) from by omega)
     clear k1 k3 k2 k4
     have y00 := cell_later (below1 wr (.cells #[.int .u8 k, .slice none 0 0, .slice none 0 0, .int .i64 0, .int .i64 0] 26)) t0
     have y01 := cell_later (below1 wr (.cells #[.int .u8 k, .slice none 0 0, .slice none 0 0, .int .i64 0, .int .i64 0] 26)) t1
     have y02 := cell_later (below1 wr (.cells #[.int .u8 k, .slice none 0 0, .slice none 0 0, .int .i64 0, .int .i64 0] 26)) t2
     have y03 := cell_later (below1 wr (.cells #[.int .u8 k, .slice none 0 0, .slice none 0 0, .int .i64 0, .int .i64 0] 26)) t3
     have y04 := cell_later (below1 wr (.cells #[.int .u8 k, .slice none 0 0, .slice none 0 0, .int .i64 0, .int .i64 0] 26)) t4
     go_wp2_with fail
     exact bodyPost_ret (v := .bool false) (by simp [results, Tryz.results12, go_sem]) rfl ⟨by rw [show R = false from notTrue (fun h => (HF.out h).2.2.2.2.2.2) HK.out], HBW.out.alloc HBW.out.size _⟩
end Go.Proofs.YtookoagcmejkpaaGreatDoor
