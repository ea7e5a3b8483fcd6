/- The walk of the law DigitsAdds. -/
import Derived.Test.YtmfmdcapanaajaaDoorW5
import Derived.Test.YtmfmdcapanaajaaDoorAdd
import Derived.Test.YtmfmdcapanaajaaDoorFits
namespace Go.Proofs.YtmfmdcapanaajaaDoor
open Go Go.RowKit Go.Sort
attribute [local irreducible] G X

theorem add_both (a b : Int) (w : World) (a0 : -9223372036854775808 ≤ a) (a1 : a ≤ 9223372036854775807) (b0 : -9223372036854775808 ≤ b) (b1 : b ≤ 9223372036854775807) :
    Calls Tryd.prog 9 #[.int .i64 a, .int .i64 b] w fun e w' => e = .returned (fitsV (a + b)) ∧ w' = w := by
  unfold fitsV
  split
  · exact add_fits a b w a0 a1 b0 b1 (by omega) (by omega)
  · exact add_not a b w a0 a1 b0 b1 (by omega)
theorem sub_both (a b : Int) (w : World) (a0 : -9223372036854775808 ≤ a) (a1 : a ≤ 9223372036854775807) (b0 : -9223372036854775808 ≤ b) (b1 : b ≤ 9223372036854775807) :
    Calls Tryd.prog 10 #[.int .i64 a, .int .i64 b] w fun e w' => e = .returned (fitsV (a - b)) ∧ w' = w := by
  unfold fitsV
  split
  · exact sub_fits a b w a0 a1 b0 b1 (by omega) (by omega)
  · exact sub_not a b w a0 a1 b0 b1 (by omega)
theorem fitsV_two (v : Int) : ∃ n : Int, ∃ m : Bool, fitsV v = .tuple #[.int .i64 n, .bool m] := by
  unfold fitsV
  split
  · exact ⟨_, _, rfl⟩
  · exact ⟨_, _, rfl⟩

set_option maxRecDepth 100000 in
set_option maxHeartbeats 4000000 in
theorem adds_any (a b : Int) (w : World) (a0 : -9223372036854775808 ≤ a) (a1 : a ≤ 9223372036854775807) (b0 : -9223372036854775808 ≤ b) (b1 : b ≤ 9223372036854775807) (htab : Lib.TabIs Tryd.prog w "internal/strconv.uint64pow10" .u64 Lib.pow10Tab) :
    Calls Tryd.prog 3 #[.int .i64 a, .int .i64 b] w fun e w' => e = .returned (.bool true) ∧ Below w.heap.size w w' := by
  have HA := fun W => add_both a b W a0 a1 b0 b1
  have HS := fun W => sub_both a b W a0 a1 b0 b1
  have HOa := fun W => of0_n a W a0 a1
  have HOb := fun W => of0_n b W b0 b1
  have HNb := fun W => neg_n b W (by omega) (by omega)
  have HPa := fun W => add_n a b W (by omega) (by omega) (by omega) (by omega)
  have HPn := fun W => add_n a (-b) W (by omega) (by omega) (by omega) (by omega)
  have HFa := fun W => fits_n (a + b) W (by omega) (by omega)
  have HFs := fun W => fits_n (a + -b) W (by omega) (by omega)
  rw [show a + -b = a - b by omega] at HFs HPn
  obtain ⟨n, m, hn⟩ := fitsV_two (a + b)
  obtain ⟨n', m', hn'⟩ := fitsV_two (a - b)
  rw [hn] at HA HFa
  rw [hn'] at HS HFs
  clear hn hn' a0 a1 b0 b1
  have en : (n == n) = true := by simp
  have en' : (n' == n') = true := by simp
  have em : (m == m) = true := by simp
  have em' : (m' == m') = true := by simp
  go_enter Tryd.func3, Tryd.ntmps3
  go_wp2_with fail
  refine (HA _).mono ?_
  rintro e w1 ⟨rfl, rfl⟩
  go_wp2_with fail
  refine (HS _).mono ?_
  rintro e w2 ⟨rfl, rfl⟩
  go_wp2_with fail
  refine (HOa _).mono ?_
  rintro e w3 ⟨rfl, hb⟩
  have ht := tabIs_below htab hb
  have hB := hb
  clear hb
  go_wp2_with fail
  refine (HOb _).mono ?_
  rintro e w4 ⟨rfl, hb⟩
  have ht := tabIs_below ht hb
  have hB := chainB' hB hb hB.size
  clear hb
  go_wp2_with fail
  refine (HPa _).mono ?_
  rintro e w5 ⟨rfl, hb⟩
  have ht := tabIs_below ht hb
  have hB := chainB' hB hb hB.size
  clear hb
  go_wp2_with fail
  refine (HFa _).mono ?_
  rintro e w6 ⟨rfl, hb⟩
  have ht := tabIs_below ht hb
  have hB := chainB' hB hb hB.size
  clear hb
  go_wp2_with fail
  refine (HOa _).mono ?_
  rintro e w7 ⟨rfl, hb⟩
  have ht := tabIs_below ht hb
  have hB := chainB' hB hb hB.size
  clear hb
  go_wp2_with fail
  refine (HOb _).mono ?_
  rintro e w8 ⟨rfl, hb⟩
  have ht := tabIs_below ht hb
  have hB := chainB' hB hb hB.size
  clear hb
  go_wp2_with fail
  refine (HNb _).mono ?_
  rintro e w9 ⟨rfl, hb⟩
  have ht := tabIs_below ht hb
  have hB := chainB' hB hb hB.size
  clear hb
  go_wp2_with fail
  refine (HPn _).mono ?_
  rintro e w10 ⟨rfl, hb⟩
  have ht := tabIs_below ht hb
  have hB := chainB' hB hb hB.size
  clear hb
  go_wp2_with fail
  refine (HFs _).mono ?_
  rintro e w11 ⟨rfl, hb⟩
  have ht := tabIs_below ht hb
  have hB := chainB' hB hb hB.size
  clear hb
  go_wp2_with fail
  refine (known_any _ ht).mono ?_
  rintro e w12 ⟨rfl, hb⟩
  have hB := chainB' hB hb hB.size
  clear hb
  go_wp2_with fail
  go_ret
  exact ⟨rfl, hB⟩
end Go.Proofs.YtmfmdcapanaajaaDoor
