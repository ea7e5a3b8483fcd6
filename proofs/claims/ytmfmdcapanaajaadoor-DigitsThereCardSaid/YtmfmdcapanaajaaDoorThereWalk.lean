/- The walk of the law DigitsThere. -/
import Derived.Test.YtmfmdcapanaajaaDoorW5
namespace Go.Proofs.YtmfmdcapanaajaaDoor
open Go Go.RowKit Go.Sort

theorem itoa_len (n : Int) (h0 : -9223372036854775808 ≤ n) (h1 : n ≤ 9223372036854775807) : (Lib.itoa n).length ≤ 21 := by
  unfold Lib.itoa
  split
  · have := decLen n.natAbs (by omega); simp; omega
  · have := decLen n.toNat (by omega); omega

theorem ba_list (l : List UInt8) : (⟨l.toArray⟩ : ByteArray).data.toList = l := rfl

set_option maxRecDepth 100000 in
theorem there_small (n : Int) (s : ByteArray) (w : World) (h0 : -9223372036854775808 ≤ n) (h1 : n ≤ 9223372036854775807) (hs : s.size ≤ 1000) (htab : Lib.TabIs Tryd.prog w "internal/strconv.uint64pow10" .u64 Lib.pow10Tab) :
    Calls Tryd.prog 7 #[.int .i64 n, .string s] w fun e w' => e = .returned (.bool true) ∧ Below w.heap.size w w' := by
  by_cases hin : 0 ≤ n ∧ n ≤ 4611686018427387903
  · obtain ⟨i0, i1⟩ := hin
    by_cases hr : readE s.data.toList = 0
    · go_enter Tryd.func7, Tryd.ntmps7
      go_wp2_with fail
      refine (text_any _ _ (by omega) (by omega) htab).mono ?_
      rintro e w2 ⟨rfl, hb⟩
      have ht2 := tabIs_below htab hb
      go_wp2_with fail
      refine (read_any _ _ (by have := itoa_len n h0 h1; rw [← len_eq, ba_list]; omega)).mono ?_
      rintro e w3 ⟨rfl, rfl⟩
      rw [ba_list, (read_itoa_ok n i0 i1).1, (read_itoa_ok n i0 i1).2]
      go_wp2_with fail
      refine (read_any _ _ (by omega)).mono ?_
      rintro e w4 ⟨rfl, rfl⟩
      have hb2 := itoa_read _ hr
      rw [hr]
      go_wp2_with fail
      refine (text_any _ _ (by omega) (by omega) ht2).mono ?_
      rintro e w5 ⟨rfl, hb3⟩
      have ht3 := tabIs_below ht2 hb3
      rw [hb2.1, show (⟨s.data.toList.toArray⟩ : ByteArray) = s from rfl]
      go_wp2_with fail
      refine (known_any _ ht3).mono ?_
      rintro e w6 ⟨rfl, hb4⟩
      have hB := (hb.trans (hb3.mono hb.size)).trans (hb4.mono (hb.trans (hb3.mono hb.size)).size)
      clear hb hb3 hb4 hb2 hr
      go_wp2_with fail
      go_ret
      exact ⟨rfl, hB⟩
    · go_enter Tryd.func7, Tryd.ntmps7
      go_wp2_with fail
      refine (text_any _ _ (by omega) (by omega) htab).mono ?_
      rintro e w2 ⟨rfl, hb⟩
      have ht2 := tabIs_below htab hb
      go_wp2_with fail
      refine (read_any _ _ (by have := itoa_len n h0 h1; rw [← len_eq, ba_list]; omega)).mono ?_
      rintro e w3 ⟨rfl, rfl⟩
      rw [ba_list, (read_itoa_ok n i0 i1).1, (read_itoa_ok n i0 i1).2]
      go_wp2_with fail
      refine (read_any _ _ (by omega)).mono ?_
      rintro e w4 ⟨rfl, rfl⟩
      have hr' : (readE s.data.toList == 0) = false := by rw [beq_eq_false_iff_ne]; exact hr
      have hr2 : (readE s.data.toList != 0) = true := by simp [hr]
      clear hr
      generalize readE s.data.toList = E2 at *
      generalize readN s.data.toList = N2 at *
      go_wp2_with fail
      refine (known_any _ ht2).mono ?_
      rintro e w6 ⟨rfl, hb4⟩
      have hB := hb.trans (hb4.mono hb.size)
      clear hb hb4
      go_wp2_with fail
      go_ret
      exact ⟨rfl, hB⟩
  · have hx := read_itoa_bad n (by omega)
    have hx' : (readE (Lib.itoa n) == 0) = false := by rw [beq_eq_false_iff_ne]; exact hx
    clear hx
    have hg : n < 0 ∨ (0 ≤ n ∧ 4611686018427387903 < n) := by omega
    clear hin
    rcases hg with hg | ⟨hg, hg'⟩
    all_goals by_cases hr : readE s.data.toList = 0
    · go_enter Tryd.func7, Tryd.ntmps7
      go_wp2_with fail
      refine (text_any _ _ (by omega) (by omega) htab).mono ?_
      rintro e w2 ⟨rfl, hb⟩
      have ht2 := tabIs_below htab hb
      go_wp2_with fail
      refine (read_any _ _ (by have := itoa_len n h0 h1; rw [← len_eq, ba_list]; omega)).mono ?_
      rintro e w3 ⟨rfl, rfl⟩
      rw [ba_list]
      generalize readE (Lib.itoa n) = E at *
      generalize readN (Lib.itoa n) = N at *
      go_wp2_with fail
      refine (read_any _ _ (by omega)).mono ?_
      rintro e w4 ⟨rfl, rfl⟩
      have hb2 := itoa_read _ hr
      rw [hr]
      go_wp2_with fail
      refine (text_any _ _ (by omega) (by omega) ht2).mono ?_
      rintro e w5 ⟨rfl, hb3⟩
      have ht3 := tabIs_below ht2 hb3
      rw [hb2.1, show (⟨s.data.toList.toArray⟩ : ByteArray) = s from rfl]
      go_wp2_with fail
      refine (known_any _ ht3).mono ?_
      rintro e w6 ⟨rfl, hb4⟩
      have hB := (hb.trans (hb3.mono hb.size)).trans (hb4.mono (hb.trans (hb3.mono hb.size)).size)
      clear hb hb3 hb4 hb2 hr
      go_wp2_with fail
      go_ret
      exact ⟨rfl, hB⟩
    · go_enter Tryd.func7, Tryd.ntmps7
      go_wp2_with fail
      refine (text_any _ _ (by omega) (by omega) htab).mono ?_
      rintro e w2 ⟨rfl, hb⟩
      have ht2 := tabIs_below htab hb
      go_wp2_with fail
      refine (read_any _ _ (by have := itoa_len n h0 h1; rw [← len_eq, ba_list]; omega)).mono ?_
      rintro e w3 ⟨rfl, rfl⟩
      rw [ba_list]
      generalize readE (Lib.itoa n) = E at *
      generalize readN (Lib.itoa n) = N at *
      go_wp2_with fail
      refine (read_any _ _ (by omega)).mono ?_
      rintro e w4 ⟨rfl, rfl⟩
      have hr' : (readE s.data.toList == 0) = false := by rw [beq_eq_false_iff_ne]; exact hr
      have hr2 : (readE s.data.toList != 0) = true := by simp [hr]
      clear hr
      generalize readE s.data.toList = E2 at *
      generalize readN s.data.toList = N2 at *
      go_wp2_with fail
      refine (known_any _ ht2).mono ?_
      rintro e w6 ⟨rfl, hb4⟩
      have hB := hb.trans (hb4.mono hb.size)
      clear hb hb4
      go_wp2_with fail
      go_ret
      exact ⟨rfl, hB⟩
    · go_enter Tryd.func7, Tryd.ntmps7
      go_wp2_with fail
      refine (text_any _ _ (by omega) (by omega) htab).mono ?_
      rintro e w2 ⟨rfl, hb⟩
      have ht2 := tabIs_below htab hb
      go_wp2_with fail
      refine (read_any _ _ (by have := itoa_len n h0 h1; rw [← len_eq, ba_list]; omega)).mono ?_
      rintro e w3 ⟨rfl, rfl⟩
      rw [ba_list]
      generalize readE (Lib.itoa n) = E at *
      generalize readN (Lib.itoa n) = N at *
      go_wp2_with fail
      refine (read_any _ _ (by omega)).mono ?_
      rintro e w4 ⟨rfl, rfl⟩
      have hb2 := itoa_read _ hr
      rw [hr]
      go_wp2_with fail
      refine (text_any _ _ (by omega) (by omega) ht2).mono ?_
      rintro e w5 ⟨rfl, hb3⟩
      have ht3 := tabIs_below ht2 hb3
      rw [hb2.1, show (⟨s.data.toList.toArray⟩ : ByteArray) = s from rfl]
      go_wp2_with fail
      refine (known_any _ ht3).mono ?_
      rintro e w6 ⟨rfl, hb4⟩
      have hB := (hb.trans (hb3.mono hb.size)).trans (hb4.mono (hb.trans (hb3.mono hb.size)).size)
      clear hb hb3 hb4 hb2 hr
      go_wp2_with fail
      go_ret
      exact ⟨rfl, hB⟩
    · go_enter Tryd.func7, Tryd.ntmps7
      go_wp2_with fail
      refine (text_any _ _ (by omega) (by omega) htab).mono ?_
      rintro e w2 ⟨rfl, hb⟩
      have ht2 := tabIs_below htab hb
      go_wp2_with fail
      refine (read_any _ _ (by have := itoa_len n h0 h1; rw [← len_eq, ba_list]; omega)).mono ?_
      rintro e w3 ⟨rfl, rfl⟩
      rw [ba_list]
      generalize readE (Lib.itoa n) = E at *
      generalize readN (Lib.itoa n) = N at *
      go_wp2_with fail
      refine (read_any _ _ (by omega)).mono ?_
      rintro e w4 ⟨rfl, rfl⟩
      have hr' : (readE s.data.toList == 0) = false := by rw [beq_eq_false_iff_ne]; exact hr
      have hr2 : (readE s.data.toList != 0) = true := by simp [hr]
      clear hr
      generalize readE s.data.toList = E2 at *
      generalize readN s.data.toList = N2 at *
      go_wp2_with fail
      refine (known_any _ ht2).mono ?_
      rintro e w6 ⟨rfl, hb4⟩
      have hB := hb.trans (hb4.mono hb.size)
      clear hb hb4
      go_wp2_with fail
      go_ret
      exact ⟨rfl, hB⟩

set_option maxRecDepth 100000 in
theorem there_any (n : Int) (s : ByteArray) (w : World) (h0 : -9223372036854775808 ≤ n) (h1 : n ≤ 9223372036854775807) (hs : s.size ≤ 9223372036854775807) (htab : Lib.TabIs Tryd.prog w "internal/strconv.uint64pow10" .u64 Lib.pow10Tab) :
    Calls Tryd.prog 7 #[.int .i64 n, .string s] w fun e w' => e = .returned (.bool true) ∧ Below w.heap.size w w' := by
  by_cases hk : s.size ≤ 1000
  · exact there_small n s w h0 h1 hk htab
  · have hk' : 1000 < s.size := by omega
    clear hk
    go_enter Tryd.func7, Tryd.ntmps7
    go_wp2_with fail
    refine (known_any _ htab).mono ?_
    rintro e w6 ⟨rfl, hb4⟩
    go_wp2_with fail
    go_ret
    exact ⟨rfl, hb4⟩
end Go.Proofs.YtmfmdcapanaajaaDoor
