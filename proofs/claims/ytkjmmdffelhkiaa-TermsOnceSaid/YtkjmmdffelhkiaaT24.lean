/- Stage 6: the document's Le. -/
import Derived.Test.YtkjmmdffelhkiaaT23
namespace Go.Proofs.Ytkjmmdffelhkiaa
open Go Go.RowKit Go.Maps

variable {W W' : World} {K : Nat → Nat} {base r : Nat} {N : List Nd} {e : Ending} {w' : World}
open Classical in
noncomputable def leU (x y d : Int) : Req := if x = y then .is (if 0 ≤ d then 0 else 1) else .mk (leN x y d none)
open Classical in
noncomputable def leT (x p e1 y q e2 n : Int) : Req := if e1 = 0 ∧ e2 = 0 then (if InB n ∧ InB (n - p + q) then leU x y (n - p + q) else .no 6) else .no 60
theorem four (n : Int) (h : InB n) : ∃ h4 l4 : Int, n.tdiv 4 = h4 ∧ n.tmod 4 = l4 ∧ n = 4 * h4 + l4 ∧ -3 ≤ l4 ∧ l4 ≤ 3 ∧ -1152921504606846976 ≤ h4 ∧ h4 ≤ 1152921504606846976 := by
  have h1 := Int.mul_tdiv_add_tmod n 4
  have h2 : -4 < n.tmod 4 := Int.lt_tmod_of_pos n (by omega)
  have h3 : n.tmod 4 < 4 := Int.tmod_lt_of_pos n (by omega)
  unfold InB at h
  exact ⟨_, _, rfl, rfl, by omega, by omega, by omega, by omega, by omega⟩
set_option maxRecDepth 100000 in
set_option maxHeartbeats 16000000 in
theorem rle_run (h : RefS W K base r N) (g : GoodN N) (hN : N.length ≤ 20000) (a b n : Int) (hn : I64 n) :
    Calls Try.prog 79 #[.pointer (some ⟨r, 0, none⟩), .int .i64 a, .int .i64 b, .int .i64 n] W (RunR N (leQ (view N) a b n) base r K W) := by
  have hb1 := below1 W (.cells #[.int .i64 a, .int .i64 b] 73)
  have HC := there_any (h.later hb1) hN (some ⟨W.heap.size, 0, none⟩) 2 2 (twoV a b) (two_ints W a b) (by omega)
  have H := Lib.hid h
  have HG := Lib.hid g
  have HB1 := Lib.hid hb1
  clear h g hb1
  go_enter Try.func79, Try.ntmps79
  go_wp2_with fail
  refine HC.mono ?_
  rintro e w2 ⟨b5, rfl, hb2, hcase⟩
  have HB2 := Lib.hid (HB1.out.trans (hb2.mono HB1.out.size))
  have HCC := Lib.hid hcase
  clear HC hb2 hcase HB1
  cases b5
  · go_wp2_with fail
    go_ret2
    exact (show leQ (view N) a b n = .no 7 from if_neg (fun h => absurd (HCC.out.2 (fun i _ => by
      unfold twoV
      split
      · exact h.1
      · exact h.2)) (by decide))) ▸ RunR.no H.out rfl HB2.out
  have HOK := Lib.hid (show (view N).ok a ∧ (view N).ok b from ⟨HCC.out.1 rfl 0 (by omega), HCC.out.1 rfl 1 (by omega)⟩)
  have HS1 := rsplit_any (H.out.later HB2.out) HG.out hN a
  clear HCC
  go_wp2_with fail
  refine HS1.mono ?_
  rintro e w3 ⟨x, p, e1, rfl, hb3, hsp1⟩
  have HB3 := Lib.hid (HB2.out.trans (hb3.mono HB2.out.size))
  have HP1 := Lib.hid (show (view N).sp a = (x, p, e1) from hsp1)
  clear HS1 hb3 hsp1 HB2
  have HS2 := rsplit_any (H.out.later HB3.out) HG.out hN b
  go_wp2_with fail
  refine HS2.mono ?_
  rintro e w4 ⟨y, q, e2, rfl, hb4, hsp2⟩
  have HB4 := Lib.hid (HB3.out.trans (hb4.mono HB3.out.size))
  have HP2 := Lib.hid (show (view N).sp b = (y, q, e2) from hsp2)
  clear HS2 hb4 hsp2 HB3
  have HL := Lib.hid (show leQ (view N) a b n = leT x p e1 y q e2 n by
    unfold leQ leT leU
    rw [HP1.out, HP2.out, if_pos HOK.out])
  by_cases he1 : e1 = 0
  rotate_left
  · have q1 : (e1 != 0) = true := by simpa using he1
    go_wp2_with fail
    go_ret2
    exact (show leQ (view N) a b n = .no 60 by rw [HL.out]; exact if_neg (fun h => he1 h.1)) ▸ RunR.no H.out rfl HB4.out
  subst he1
  by_cases he2 : e2 = 0
  rotate_left
  · have q1 : (e2 != 0) = true := by simpa using he2
    go_wp2_with fail
    go_ret2
    exact (show leQ (view N) a b n = .no 60 by rw [HL.out]; exact if_neg (fun h => he2 h.2)) ▸ RunR.no H.out rfl HB4.out
  subst he2
  have HPB := Lib.hid (spL_bounds HG.out HP1.out)
  have HQB := Lib.hid (spL_bounds HG.out HP2.out)
  have HC := bound_any n w4
  go_wp2_with fail
  refine HC.mono ?_
  rintro e w5 ⟨b1, rfl, hw, hcase⟩
  obtain rfl := hw.symm
  have HCC := Lib.hid hcase
  clear HC hcase hw
  cases b1
  · go_wp2_with fail
    go_ret2
    exact (show leQ (view N) a b n = .no 6 by rw [HL.out]; unfold leT; rw [if_pos ⟨rfl, rfl⟩, if_neg (fun h => absurd (HCC.out.2 h.1) (by decide))]) ▸ RunR.no H.out rfl HB4.out
  have HIN := Lib.hid (show InB n from HCC.out.1 rfl)
  clear HCC
  obtain ⟨n4, n1, en4, en1, en, bn1, bn2, bn3, bn4⟩ := four n HIN.out
  obtain ⟨p4, p1, ep4, ep1, ep, bp1, bp2, bp3, bp4⟩ := four p HPB.out
  obtain ⟨q4, q1, eq4, eq1, eq, bq1, bq2, bq3, bq4⟩ := four q HQB.out
  obtain ⟨d1, hd1⟩ : ∃ d1, d1 = n4 - p4 := ⟨_, rfl⟩
  obtain ⟨hi, hhi⟩ : ∃ hi, hi = d1 + q4 := ⟨_, rfl⟩
  obtain ⟨d2, hd2⟩ : ∃ d2, d2 = n1 - p1 := ⟨_, rfl⟩
  obtain ⟨lo, hlo⟩ : ∃ lo, lo = d2 + q1 := ⟨_, rfl⟩
  have v0 : wrap64 n4 = n4 := by rw [wrap64_eq]; omega
  have v0' : IntKind.i64.wrap n4 = n4 := by rw [IntKind.wrap_i64]; omega
  have v1 : wrap64 p4 = p4 := by rw [wrap64_eq]; omega
  have v1' : IntKind.i64.wrap p4 = p4 := by rw [IntKind.wrap_i64]; omega
  have v2 : wrap64 q4 = q4 := by rw [wrap64_eq]; omega
  have v2' : IntKind.i64.wrap q4 = q4 := by rw [IntKind.wrap_i64]; omega
  have v3 : wrap64 (n4 - p4) = d1 := by rw [wrap64_eq]; omega
  have v3' : IntKind.i64.wrap (n4 - p4) = d1 := by rw [IntKind.wrap_i64]; omega
  have v4 : wrap64 (d1 + q4) = hi := by rw [wrap64_eq]; omega
  have v4' : IntKind.i64.wrap (d1 + q4) = hi := by rw [IntKind.wrap_i64]; omega
  have v5 : wrap64 (n1 - p1) = d2 := by rw [wrap64_eq]; omega
  have v5' : IntKind.i64.wrap (n1 - p1) = d2 := by rw [IntKind.wrap_i64]; omega
  have v6 : wrap64 (d2 + q1) = lo := by rw [wrap64_eq]; omega
  have v6' : IntKind.i64.wrap (d2 + q1) = lo := by rw [IntKind.wrap_i64]; omega
  have v7 : wrap64 n1 = n1 := by rw [wrap64_eq]; omega
  have v7' : IntKind.i64.wrap n1 = n1 := by rw [IntKind.wrap_i64]; omega
  have v8 : wrap64 p1 = p1 := by rw [wrap64_eq]; omega
  have v8' : IntKind.i64.wrap p1 = p1 := by rw [IntKind.wrap_i64]; omega
  have v9 : wrap64 q1 = q1 := by rw [wrap64_eq]; omega
  have v9' : IntKind.i64.wrap q1 = q1 := by rw [IntKind.wrap_i64]; omega
  have HSUM := Lib.hid (show n - p + q = 4 * hi + lo ∧ -9 ≤ lo ∧ lo ≤ 9 by omega)
  clear en ep eq bn1 bn2 bn3 bn4 bp1 bp2 bp3 bp4 bq1 bq2 bq3 bq4 hd1 hhi hd2 hlo
  by_cases hl1 : hi < -1152921504606846980
  · have u0 : decide (hi < -1152921504606846980) = true := by simpa using hl1
    go_wp2_with fail
    go_ret2
    exact (show leQ (view N) a b n = .no 6 by rw [HL.out]; unfold leT; rw [if_pos ⟨rfl, rfl⟩, if_neg (fun h => by have := h.2; have := HSUM.out; unfold InB at *; omega)]) ▸ RunR.no H.out rfl HB4.out
  have u0 : decide (hi < -1152921504606846980) = false := by simpa using hl1
  by_cases hl2 : 1152921504606846980 < hi
  · have u1 : decide (1152921504606846980 < hi) = true := by simpa using hl2
    go_wp2_with fail
    go_ret2
    exact (show leQ (view N) a b n = .no 6 by rw [HL.out]; unfold leT; rw [if_pos ⟨rfl, rfl⟩, if_neg (fun h => by have := h.2; have := HSUM.out; unfold InB at *; omega)]) ▸ RunR.no H.out rfl HB4.out
  have u1 : decide (1152921504606846980 < hi) = false := by simpa using hl2
  obtain ⟨m4, hm4⟩ : ∃ m4, m4 = hi * 4 := ⟨_, rfl⟩
  obtain ⟨d, hd⟩ : ∃ d, d = m4 + lo := ⟨_, rfl⟩
  have w1 : wrap64 (hi * 4) = m4 := by rw [wrap64_eq]; omega
  have w1' : IntKind.i64.wrap (hi * 4) = m4 := by rw [IntKind.wrap_i64]; omega
  have w2 : wrap64 (m4 + lo) = d := by rw [wrap64_eq]; have := HSUM.out; omega
  have w2' : IntKind.i64.wrap (m4 + lo) = d := by rw [IntKind.wrap_i64]; have := HSUM.out; omega
  have HD := Lib.hid (show n - p + q = d by have := HSUM.out; omega)
  clear hm4 hd HSUM
  have HC := bound_any d w4
  go_wp2_with fail
  refine HC.mono ?_
  rintro e w5 ⟨b1, rfl, hw, hcase⟩
  obtain rfl := hw.symm
  have HCC := Lib.hid hcase
  clear HC hcase hw
  cases b1
  · go_wp2_with fail
    go_ret2
    exact (show leQ (view N) a b n = .no 6 by rw [HL.out]; unfold leT; rw [if_pos ⟨rfl, rfl⟩, if_neg (fun h => absurd (HCC.out.2 (by rw [← HD.out]; exact h.2)) (by decide))]) ▸ RunR.no H.out rfl HB4.out
  have HID := Lib.hid (show InB d from HCC.out.1 rfl)
  clear HCC
  have HL2 := Lib.hid (show leQ (view N) a b n = (leU x y d) by rw [HL.out]; unfold leT leU; rw [if_pos ⟨rfl, rfl⟩, HD.out, if_pos ⟨HIN.out, HID.out⟩])
  by_cases hxy : x = y
  · subst hxy
    have q1 : (x == x) = true := by simp
    by_cases hr0 : 0 ≤ d
    · have q2 : decide (0 ≤ d) = true := by simpa using hr0
      go_wp2_with fail
      go_ret2
      refine (show leQ (view N) a b n = .is 0 from ?_) ▸ RunR.is H.out rfl HB4.out
      rw [HL2.out]
      unfold leU
      rw [if_pos rfl, if_pos hr0]
    · have q2 : decide (0 ≤ d) = false := by simpa using hr0
      go_wp2_with fail
      go_ret2
      refine (show leQ (view N) a b n = .is 1 from ?_) ▸ RunR.is H.out rfl HB4.out
      rw [HL2.out]
      unfold leU
      rw [if_pos rfl, if_neg (by omega)]
  have q1 : (x == y) = false := by simpa using hxy
  have hbx := below1 w4 (.cells #[.int .i64 x, .int .i64 y] 73)
  have HB5 := Lib.hid (HB4.out.trans (hbx.mono HB4.out.size))
  have HPU := put_run (H.out.later HB5.out) HG.out hN (leN x y d (some ⟨w4.heap.size, 0, none⟩)) (two_ints w4 x y) (by show 2 ≤ _; omega) (fun e => by cases e)
  rw [show ndA (leN x y d (some ⟨w4.heap.size, 0, none⟩)) = .agg #[.int .u8 8, .int .i64 0, .int .i64 d, .int .i64 0, .slice (some ⟨w4.heap.size, 0, none⟩) 2 2] from rfl] at HPU
  clear hbx
  go_wp2_with fail
  refine HPU.mono ?_
  rintro e w5 hm
  have HMM := Lib.hid (hm.from HB5.out)
  obtain ⟨K', T', t', er', rfl, _⟩ := hm
  clear HPU
  go_wp2_with fail
  go_ret2
  refine (show leQ (view N) a b n = .mk (leN x y d none) from ?_) ▸ RunR.mk HMM.out
  rw [HL2.out]
  exact if_neg hxy
end Go.Proofs.Ytkjmmdffelhkiaa
