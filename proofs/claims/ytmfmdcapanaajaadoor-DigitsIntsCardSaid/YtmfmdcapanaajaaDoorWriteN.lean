/- Write at any integer. -/
import Derived.Test.YtmfmdcapanaajaaDoorDecimal
import Derived.Test.YtmfmdcapanaajaaDoorW6
import Derived.Test.YtmfmdcapanaajaaDoorNeg
namespace Go.Proofs.YtmfmdcapanaajaaDoor
open Go Go.RowKit Go.Sort

def czA (h l : Int) : Int := (h * 4611686018427387904 % 18446744073709551616 + l % 18446744073709551616) / 18446744073709551616
def czB (h l : Int) : Int := (h / 4 % 18446744073709551616 + l / 9223372036854775808 % 18446744073709551616 + czA h l) / 18446744073709551616
theorem wz_lo (h l : Int) (w : World) :
    (callFunc 39 #[.int .u64 (IntKind.u64.wrap (IntKind.u64.wrap h * 4611686018427387904)), .int .u64 (IntKind.u64.wrap l), .int .u64 0]).run Tryd.prog w = .ok (.value (.tuple #[.int .u64 (loW (h * 4611686018427387904 + l)), .int .u64 (czA h l)])) w := by
  have hx : IntKind.u64.wrap (IntKind.u64.wrap h * 4611686018427387904) = h * 4611686018427387904 % 18446744073709551616 := by rw [wrap_u, wrap_u]; omega
  rw [hx, wrap_u l, add64 _ _ _ (by omega) (by omega) (by omega) (by omega)]
  have e1 : (h * 4611686018427387904 % 18446744073709551616 + l % 18446744073709551616 + 0) % 18446744073709551616 = loW (h * 4611686018427387904 + l) := by unfold loW; omega
  have e2 : (h * 4611686018427387904 % 18446744073709551616 + l % 18446744073709551616 + 0) / 18446744073709551616 = czA h l := by unfold czA; omega
  rw [e1, e2]
theorem wz_hi (h l : Int) (l0 : -9223372036854775808 ≤ l) (l1 : l ≤ 9223372036854775807) (w : World) :
    (callFunc 39 #[.int .u64 (IntKind.u64.wrap (h / 4)), .int .u64 (IntKind.u64.wrap (l / 9223372036854775808)), .int .u64 (czA h l)]).run Tryd.prog w = .ok (.value (.tuple #[.int .u64 (hiW (h * 4611686018427387904 + l)), .int .u64 (czB h l)])) w := by
  have hc : 0 ≤ czA h l ∧ czA h l ≤ 1 := by unfold czA; omega
  rw [wrap_u, wrap_u, add64 _ _ _ (by omega) (by omega) hc.1 hc.2]
  have k : (h * 4611686018427387904 + l) / 18446744073709551616 = h / 4 + l / 9223372036854775808 + czA h l := by
    unfold czA
    rw [show h * 4611686018427387904 % 18446744073709551616 = (h % 4) * 4611686018427387904 by omega, show l % 18446744073709551616 = l - l / 9223372036854775808 * 18446744073709551616 by omega]
    omega
  have e1 : (h / 4 % 18446744073709551616 + l / 9223372036854775808 % 18446744073709551616 + czA h l) % 18446744073709551616 = hiW (h * 4611686018427387904 + l) := by
    unfold hiW
    rw [k]
    omega
  have e2 : (h / 4 % 18446744073709551616 + l / 9223372036854775808 % 18446744073709551616 + czA h l) / 18446744073709551616 = czB h l := by unfold czB; omega
  rw [e1, e2]
theorem itoa_len (v : Int) (h0 : -170141183460469231731687303715884105728 < v) (h1 : v < 170141183460469231731687303715884105728) : (Lib.itoa v).length ≤ 41 := by
  unfold Lib.itoa
  split
  · have := ndig39 (-v) (by omega) (by omega)
    rw [List.length_cons, Lib.decDigits_length, show v.natAbs = (-v).toNat by omega]; omega
  · have := ndig39 v (by omega) (by omega)
    rw [Lib.decDigits_length]; omega

set_option maxRecDepth 100000 in
theorem writez_pos (hh l : Int) (w : World) (h0 : -9223372036854775808 ≤ hh) (h1 : hh ≤ 9223372036854775807) (l0 : -9223372036854775808 ≤ l) (l1 : l ≤ 9223372036854775807) (hv : 0 ≤ hh * 4611686018427387904 + l) (htab : Lib.TabIs Tryd.prog w "internal/strconv.uint64pow10" .u64 Lib.pow10Tab) :
    Calls Tryd.prog 28 #[.agg #[.int .i64 hh, .int .i64 l]] w fun e w' => e = .returned (.string ⟨(Lib.itoa (hh * 4611686018427387904 + l)).toArray⟩) ∧ Below w.heap.size w w' := by
  have A := fun W => wz_lo hh l W
  have B := fun W => wz_hi hh l l0 l1 W
  have t : 0 ≤ wrap64 (hiW (hh * 4611686018427387904 + l)) := by rw [wrap64_eq]; unfold hiW; omega
  have DN := fun W ht => decimal_n (hh * 4611686018427387904 + l) W hv (by omega) ht
  rw [show (hh * 4611686018427387904 + l) / 18446744073709551616 = hiW (hh * 4611686018427387904 + l) by unfold hiW; omega, show (hh * 4611686018427387904 + l) % 18446744073709551616 = loW (hh * 4611686018427387904 + l) from rfl] at DN
  have HV := Lib.hid hv
  clear hv
  go_enter Tryd.func28, Tryd.ntmps28
  go_wp2_with fail
  have hB : Below w.heap.size w (w.alloc (.cells #[.int .i64 hh, .int .i64 l] 40)) := (Below.refl _ _).alloc (Nat.le_refl _) _
  refine (DN _ (tabIs_below htab hB)).mono ?_
  rintro e w2 ⟨rfl, hb⟩
  have hB2 := hB.trans (hb.mono hB.size)
  clear hb hB
  go_wp2_with fail
  go_ret
  exact ⟨by unfold Lib.itoa; rw [if_neg (by have := HV.out; omega)]; rfl, hB2⟩

set_option maxRecDepth 100000 in
theorem writez_neg (hh l : Int) (w : World) (h0 : -9223372036854775808 ≤ hh) (h1 : hh ≤ 9223372036854775807) (l0 : -9223372036854775808 ≤ l) (l1 : l ≤ 9223372036854775807) (hv : hh * 4611686018427387904 + l < 0) (htab : Lib.TabIs Tryd.prog w "internal/strconv.uint64pow10" .u64 Lib.pow10Tab) :
    Calls Tryd.prog 28 #[.agg #[.int .i64 hh, .int .i64 l]] w fun e w' => e = .returned (.string ⟨(Lib.itoa (hh * 4611686018427387904 + l)).toArray⟩) ∧ Below w.heap.size w w' := by
  have A := fun W => wz_lo hh l W
  have B := fun W => wz_hi hh l l0 l1 W
  have C := fun W => ng_lo (hh * 4611686018427387904 + l) W
  have D := fun W => ng_hi (hh * 4611686018427387904 + l) W
  have t : wrap64 (hiW (hh * 4611686018427387904 + l)) < 0 := by rw [wrap64_eq]; unfold hiW; omega
  have DN := fun W ht => decimal_n (-(hh * 4611686018427387904 + l)) W (by omega) (by omega) ht
  rw [show (-(hh * 4611686018427387904 + l)) / 18446744073709551616 = hiW (-(hh * 4611686018427387904 + l)) by unfold hiW; omega, show (-(hh * 4611686018427387904 + l)) % 18446744073709551616 = loW (-(hh * 4611686018427387904 + l)) from rfl] at DN
  have hl := ndig39 (-(hh * 4611686018427387904 + l)) (by omega) (by omega)
  rw [← Lib.decDigits_length] at hl
  have HV := Lib.hid hv
  clear hv
  go_enter Tryd.func28, Tryd.ntmps28
  go_wp2_with fail
  have hB : Below w.heap.size w (w.alloc (.cells #[.int .i64 hh, .int .i64 l] 40)) := (Below.refl _ _).alloc (Nat.le_refl _) _
  refine (DN _ (tabIs_below htab hB)).mono ?_
  rintro e w2 ⟨rfl, hb⟩
  have hB2 := hB.trans (hb.mono hB.size)
  clear hb hB
  go_wp2_with fail
  go_ret
  refine ⟨?_, hB2⟩
  have e1 : Lib.itoa (hh * 4611686018427387904 + l) = 45 :: Lib.decDigits (-(hh * 4611686018427387904 + l)).toNat := by
    unfold Lib.itoa
    rw [if_pos HV.out, show (hh * 4611686018427387904 + l).natAbs = (-(hh * 4611686018427387904 + l)).toNat by have := HV.out; omega]
  rw [e1]
  exact congrArg (fun b => Ending.returned (Value.string b)) (ByteArray.ext (by simp))
theorem write_n (h l : Int) (w : World) (h0 : -9223372036854775808 ≤ h) (h1 : h ≤ 9223372036854775807) (l0 : -9223372036854775808 ≤ l) (l1 : l ≤ 9223372036854775807) (htab : Lib.TabIs Tryd.prog w "internal/strconv.uint64pow10" .u64 Lib.pow10Tab) :
    Calls Tryd.prog 28 #[.agg #[.int .i64 h, .int .i64 l]] w fun e w' => e = .returned (.string ⟨(Lib.itoa (h * 4611686018427387904 + l)).toArray⟩) ∧ Below w.heap.size w w' := by
  by_cases hv : h * 4611686018427387904 + l < 0
  · exact writez_neg h l w h0 h1 l0 l1 hv htab
  · exact writez_pos h l w h0 h1 l0 l1 (by omega) htab

set_option maxRecDepth 100000 in
theorem textz_n (w : World) :
    Calls Tryd.prog 19 #[.agg (longV false 0)] w fun e w' => e = .returned (.string ⟨#[48]⟩) ∧ Below w.heap.size w w' := by
  have HZ := fun W => zeroG_any 0 W (by omega) (by omega)
  rw [decide_eq_true (show (0 : Int) = 0 from rfl)] at HZ
  go_enter Tryd.func19, Tryd.ntmps19
  have HA0 := Lib.hid (rangeAt_new w (longV false 0) 27)
  have hB0 := (Below.refl w.heap.size w).alloc (Nat.le_refl _) (.cells (longV false 0) 27)
  go_wp2_with (first | (refine wpList_load_mid rfl 25 _ rfl w.heap.size 1 rfl (rowG 0).toList _ (by exact rangeAt_row HA0.out) Tryd.underlying25 rfl (by kernel_rfl) ?_))
  refine (HZ _).mono ?_
  rintro e w1 ⟨rfl, hb⟩
  have hB1 := chainB' hB0 hb hB0.size
  clear hb hB0 HA0
  go_wp2_with fail
  go_ret
  exact ⟨rfl, hB1⟩
/-- the text of a number of a sign and a row. -/
theorem text_all (v : Int) (w : World) (v0 : -1461501637330902918203684832716283019655932542976 < v) (v1 : v < 1461501637330902918203684832716283019655932542976) :
    Calls Tryd.prog 19 #[.agg (sV v)] w fun e w' => e = .returned (.string ⟨(Lib.itoa v).toArray⟩) ∧ Below w.heap.size w w' := by
  unfold sV
  by_cases hz : v = 0
  · subst hz
    refine (textz_n w).mono ?_
    rintro e w' ⟨rfl, hb⟩
    refine ⟨?_, hb⟩
    have : Lib.itoa 0 = [48] := by unfold Lib.itoa; rw [if_neg (by omega), show (0 : Int).toNat = 0 from rfl, Lib.decDigits_one (by omega)]; rfl
    rw [this]
  · refine (text_n (decide (v < 0)) (absZ v) w (by unfold absZ; split <;> omega) (by unfold absZ; split <;> omega)).mono ?_
    rintro e w' ⟨rfl, hb⟩
    refine ⟨?_, hb⟩
    unfold Lib.itoa
    by_cases hn : v < 0
    · rw [if_pos hn, decide_eq_true hn, show (absZ v).toNat = v.natAbs by unfold absZ; rw [if_pos hn]; omega]; simp
    · rw [if_neg hn, decide_eq_false hn, show (absZ v).toNat = v.toNat by unfold absZ; rw [if_neg hn]]; simp
end Go.Proofs.YtmfmdcapanaajaaDoor
