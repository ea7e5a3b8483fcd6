/- Write at any integer that is the sum of two small numbers. -/
import Derived.Test.YtmfmdcapanaajaaDoorDec
namespace Go.Proofs.YtmfmdcapanaajaaDoor
open Go Go.RowKit Go.Sort

def cyA (h l : Int) : Int := (h * 4611686018427387904 % 18446744073709551616 + l) / 18446744073709551616
def cyB (h l : Int) : Int := (h / 4 % 18446744073709551616 + cyA h l) / 18446744073709551616
theorem wr_lo (h l : Int) (_h0 : -4 ≤ h) (_h1 : h ≤ 3) (l0 : 0 ≤ l) (_l1 : l ≤ 4611686018427387903) (w : World) :
    (callFunc 39 #[.int .u64 (IntKind.u64.wrap (IntKind.u64.wrap h * 4611686018427387904)), .int .u64 l, .int .u64 0]).run Tryd.prog w = .ok (.value (.tuple #[.int .u64 (loW (h * 4611686018427387904 + l)), .int .u64 (cyA h l)])) w := by
  have hx : IntKind.u64.wrap (IntKind.u64.wrap h * 4611686018427387904) = h * 4611686018427387904 % 18446744073709551616 := by rw [wrap_u, wrap_u]; omega
  rw [hx, add64 _ _ _ (by omega) l0 (by omega) (by omega)]
  have e1 : (h * 4611686018427387904 % 18446744073709551616 + l + 0) % 18446744073709551616 = loW (h * 4611686018427387904 + l) := by unfold loW; omega
  have e2 : (h * 4611686018427387904 % 18446744073709551616 + l + 0) / 18446744073709551616 = cyA h l := by unfold cyA; omega
  rw [e1, e2]
theorem wr_hi (h l : Int) (_h0 : -4 ≤ h) (_h1 : h ≤ 3) (l0 : 0 ≤ l) (l1 : l ≤ 4611686018427387903) (w : World) :
    (callFunc 39 #[.int .u64 (IntKind.u64.wrap (h / 4)), .int .u64 (l / 9223372036854775808), .int .u64 (cyA h l)]).run Tryd.prog w = .ok (.value (.tuple #[.int .u64 (hiW (h * 4611686018427387904 + l)), .int .u64 (cyB h l)])) w := by
  have hc : 0 ≤ cyA h l ∧ cyA h l ≤ 1 := by unfold cyA; omega
  have hl : l / 9223372036854775808 = 0 := by omega
  rw [hl, wrap_u, add64 _ _ _ (by omega) (by omega) hc.1 hc.2]
  have e1 : (h / 4 % 18446744073709551616 + 0 + cyA h l) % 18446744073709551616 = hiW (h * 4611686018427387904 + l) := by
    unfold hiW cyA; omega
  have e2 : (h / 4 % 18446744073709551616 + 0 + cyA h l) / 18446744073709551616 = cyB h l := by unfold cyB; omega
  rw [e1, e2]

theorem u64_not (x : Int) (h0 : 0 ≤ x) (h1 : x ≤ 18446744073709551615) : bits .xor .u64 IntKind.u64.max x = 18446744073709551615 - x := by
  have key : (BitVec.ofInt 64 IntKind.u64.max ^^^ BitVec.ofInt 64 x).toNat = 18446744073709551615 - (x % 18446744073709551616).toNat := by
    rw [show (BitVec.ofInt 64 IntKind.u64.max) = BitVec.allOnes 64 by decide +kernel, BitVec.allOnes_xor, BitVec.toNat_not, BitVec.toNat_ofInt]
    omega
  show IntKind.u64.wrap ((BitVec.ofInt 64 IntKind.u64.max ^^^ BitVec.ofInt 64 x).toNat : Nat) = 18446744073709551615 - x
  rw [key, wrap_u]
  omega
def cyC (v : Int) : Int := (18446744073709551615 - loW v + 1) / 18446744073709551616
def cyD (v : Int) : Int := (18446744073709551615 - hiW v + cyC v) / 18446744073709551616
theorem ng_lo (v : Int) (w : World) :
    (callFunc 39 #[.int .u64 (bits .xor .u64 IntKind.u64.max (loW v)), .int .u64 1, .int .u64 0]).run Tryd.prog w = .ok (.value (.tuple #[.int .u64 (loW (-v)), .int .u64 (cyC v)])) w := by
  have hl := loW_bd v
  rw [u64_not _ hl.1 hl.2, add64 _ _ _ (by omega) (by omega) (by omega) (by omega)]
  have e1 : (18446744073709551615 - loW v + 1 + 0) % 18446744073709551616 = loW (-v) := by unfold loW; omega
  have e2 : (18446744073709551615 - loW v + 1 + 0) / 18446744073709551616 = cyC v := by unfold cyC; omega
  rw [e1, e2]
theorem ng_hi (v : Int) (w : World) :
    (callFunc 39 #[.int .u64 (bits .xor .u64 IntKind.u64.max (hiW v)), .int .u64 0, .int .u64 (cyC v)]).run Tryd.prog w = .ok (.value (.tuple #[.int .u64 (hiW (-v)), .int .u64 (cyD v)])) w := by
  have hl := hiW_bd v
  have h2 := loW_bd v
  have hc : 0 ≤ cyC v ∧ cyC v ≤ 1 := by unfold cyC; omega
  rw [u64_not _ hl.1 hl.2, add64 _ _ _ (by omega) (by omega) hc.1 hc.2]
  have e1 : (18446744073709551615 - hiW v + 0 + cyC v) % 18446744073709551616 = hiW (-v) := by
    have k : (-v) / 18446744073709551616 = -(v / 18446744073709551616) - 1 + cyC v := by unfold cyC loW; omega
    unfold hiW
    rw [k]
    generalize v / 18446744073709551616 = A
    generalize cyC v = C
    omega
  have e2 : (18446744073709551615 - hiW v + 0 + cyC v) / 18446744073709551616 = cyD v := by unfold cyD; omega
  rw [e1, e2]
/-- what is written of a number. -/
def wtext (v : Int) : List UInt8 := if v < 0 then 45 :: dtext (-v).toNat else dtext v.toNat
theorem dtext_len (n : Nat) (h : n ≤ 18446744073709551616) : (dtext n).length ≤ 20 := by
  unfold dtext
  by_cases h1 : n < 10000000000000000000
  · rw [if_pos h1]; have := decLen19 n h1; omega
  · rw [if_neg h1]
    have h2 := decLen19 (n - 10000000000000000000) (by omega)
    generalize Lib.decDigits (n - 10000000000000000000) = c at *
    unfold pad
    rw [List.length_cons, List.length_append, List.length_replicate]
    omega

set_option maxRecDepth 100000 in
theorem write_pos (hh l : Int) (w : World) (h0 : 0 ≤ hh) (h1 : hh ≤ 3) (l0 : 0 ≤ l) (l1 : l ≤ 4611686018427387903) (htab : Lib.TabIs Tryd.prog w "internal/strconv.uint64pow10" .u64 Lib.pow10Tab) :
    Calls Tryd.prog 28 #[.agg #[.int .i64 hh, .int .i64 l]] w fun e w' => e = .returned (.string ⟨(wtext (hh * 4611686018427387904 + l)).toArray⟩) ∧ Below w.heap.size w w' := by
  have A := fun W => wr_lo hh l (by omega) h1 l0 l1 W
  have B := fun W => wr_hi hh l (by omega) h1 l0 l1 W
  have t : 0 ≤ wrap64 (hiW (hh * 4611686018427387904 + l)) := by rw [wrap64_eq]; unfold hiW; omega
  have hv : ∃ n : Nat, hh * 4611686018427387904 + l = (n : Int) ∧ n ≤ 18446744073709551616 := ⟨(hh * 4611686018427387904 + l).toNat, by omega, by omega⟩
  obtain ⟨n, hn, hn2⟩ := hv
  have HN := Lib.hid hn
  clear h0 h1 hn
  go_enter Tryd.func28, Tryd.ntmps28
  go_wp2_with fail
  have hB : Below w.heap.size w (w.alloc (.cells #[.int .i64 hh, .int .i64 l] 40)) := (Below.refl _ _).alloc (Nat.le_refl _) _
  rw [HN.out]
  refine (decimal_any n _ hn2 (tabIs_below htab hB)).mono ?_
  rintro e w2 ⟨rfl, hb⟩
  have hB2 := hB.trans (hb.mono hB.size)
  clear hb hB
  go_wp2_with fail
  go_ret
  refine ⟨?_, hB2⟩
  have e1 : wtext (hh * 4611686018427387904 + l) = dtext n := by rw [HN.out]; unfold wtext; rw [if_neg (by omega)]; simp
  rw [e1]
  rfl

set_option maxRecDepth 100000 in
theorem write_neg (hh l : Int) (w : World) (h0 : -4 ≤ hh) (h1 : hh < 0) (l0 : 0 ≤ l) (l1 : l ≤ 4611686018427387903) (htab : Lib.TabIs Tryd.prog w "internal/strconv.uint64pow10" .u64 Lib.pow10Tab) :
    Calls Tryd.prog 28 #[.agg #[.int .i64 hh, .int .i64 l]] w fun e w' => e = .returned (.string ⟨(wtext (hh * 4611686018427387904 + l)).toArray⟩) ∧ Below w.heap.size w w' := by
  have A := fun W => wr_lo hh l h0 (by omega) l0 l1 W
  have B := fun W => wr_hi hh l h0 (by omega) l0 l1 W
  have C := fun W => ng_lo (hh * 4611686018427387904 + l) W
  have D := fun W => ng_hi (hh * 4611686018427387904 + l) W
  have t : wrap64 (hiW (hh * 4611686018427387904 + l)) < 0 := by rw [wrap64_eq]; unfold hiW; omega
  have hv : ∃ n : Nat, -(hh * 4611686018427387904 + l) = (n : Int) ∧ 1 ≤ n ∧ n ≤ 18446744073709551616 := ⟨(-(hh * 4611686018427387904 + l)).toNat, by omega, by omega, by omega⟩
  obtain ⟨n, hn, hn1, hn2⟩ := hv
  have HN := Lib.hid hn
  have hl := dtext_len n hn2
  clear h0 h1 hn
  go_enter Tryd.func28, Tryd.ntmps28
  go_wp2_with fail
  have hB : Below w.heap.size w (w.alloc (.cells #[.int .i64 hh, .int .i64 l] 40)) := (Below.refl _ _).alloc (Nat.le_refl _) _
  rw [HN.out]
  refine (decimal_any n _ hn2 (tabIs_below htab hB)).mono ?_
  rintro e w2 ⟨rfl, hb⟩
  have hB2 := hB.trans (hb.mono hB.size)
  clear hb hB
  go_wp2_with fail
  go_ret
  refine ⟨?_, hB2⟩
  have e1 : wtext (hh * 4611686018427387904 + l) = 45 :: dtext n := by unfold wtext; rw [if_pos (by have := HN.out; omega), HN.out]; simp
  rw [e1]
  exact congrArg (fun b => Ending.returned (Value.string b)) (ByteArray.ext (by simp))
theorem write_any (v : Int) (w : World) (h0 : -18446744073709551616 ≤ v) (h1 : v ≤ 18446744073709551615) (htab : Lib.TabIs Tryd.prog w "internal/strconv.uint64pow10" .u64 Lib.pow10Tab) :
    Calls Tryd.prog 28 #[.agg #[.int .i64 (v / 4611686018427387904), .int .i64 (v % 4611686018427387904)]] w fun e w' => e = .returned (.string ⟨(wtext v).toArray⟩) ∧ Below w.heap.size w w' := by
  have e : v / 4611686018427387904 * 4611686018427387904 + v % 4611686018427387904 = v := by omega
  by_cases hv : 0 ≤ v
  · have := write_pos (v / 4611686018427387904) (v % 4611686018427387904) w (by omega) (by omega) (by omega) (by omega) htab
    rw [e] at this; exact this
  · have := write_neg (v / 4611686018427387904) (v % 4611686018427387904) w (by omega) (by omega) (by omega) (by omega) htab
    rw [e] at this; exact this
theorem wtext_itoa (v : Int) (h0 : -9223372036854775808 ≤ v) (h1 : v ≤ 9223372036854775807) : wtext v = Lib.itoa v := by
  unfold wtext Lib.itoa dtext
  split
  · rw [if_pos (by omega), show (-v).toNat = v.natAbs by omega]
  · rw [if_pos (by omega)]
end Go.Proofs.YtmfmdcapanaajaaDoor
