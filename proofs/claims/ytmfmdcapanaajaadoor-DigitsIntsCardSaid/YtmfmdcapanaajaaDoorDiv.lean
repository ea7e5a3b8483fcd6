/- bits.Div64 by 10^19, and the decimal text of two words. -/
import Derived.Test.YtmfmdcapanaajaaDoorDecN
import Derived.Laws.Bits128
namespace Go.Proofs.YtmfmdcapanaajaaDoor
open Go Go.RowKit Go.Sort

theorem u64_or0 (x : Int) (h0 : 0 ≤ x) (h1 : x ≤ 18446744073709551615) : bits .or .u64 x 0 = x := by
  show IntKind.u64.wrap ((BitVec.ofInt 64 x ||| BitVec.ofInt 64 0).toNat : Nat) = x
  rw [show (BitVec.ofInt 64 0) = 0#64 from rfl, BitVec.or_zero, BitVec.toNat_ofInt, wrap_u]
  omega
theorem u64_and32 (x : Int) (h0 : 0 ≤ x) (h1 : x ≤ 18446744073709551615) : bits .and .u64 x 4294967295 = x % 4294967296 := by
  have key : (BitVec.ofInt 64 x &&& BitVec.ofInt 64 4294967295).toNat = (x % 4294967296).toNat := by
    rw [BitVec.toNat_and, BitVec.toNat_ofInt, show (BitVec.ofInt 64 4294967295).toNat = 2 ^ 32 - 1 by decide +kernel, Nat.and_two_pow_sub_one_eq_mod]
    omega
  show IntKind.u64.wrap ((BitVec.ofInt 64 x &&& BitVec.ofInt 64 4294967295).toNat : Nat) = _
  rw [key, wrap_u]
  omega
/-- the loop's state: a guess that is not too small. -/
def GS (u t a b : Int) : Prop := a * 2328306436 + b = u ∧ 0 ≤ b ∧ b < 4294967296 ∧ (u * 4294967296 + t) / 10000000000000000000 ≤ a ∧ a ≤ 4294967296 ∧ 0 ≤ t ∧ t < 4294967296 ∧ 0 ≤ u ∧ u < 10000000000000000000
theorem gs_start (u t : Int) (h0 : 0 ≤ u) (h1 : u < 10000000000000000000) (t0 : 0 ≤ t) (t1 : t < 4294967296) : GS u t (u / 2328306436) (u - u / 2328306436 * 2328306436) := by
  unfold GS; omega
theorem gs_end (u t a b : Int) (h : GS u t a b) (ha : a < 4294967296) (hc : a * 2313682944 ≤ b * 4294967296 + t) : a = (u * 4294967296 + t) / 10000000000000000000 := by
  unfold GS at h; omega
theorem gs_big (u t a b : Int) (h : GS u t a b) (hc : 4294967296 ≤ a ∨ b * 4294967296 + t < a * 2313682944) : (u * 4294967296 + t) / 10000000000000000000 ≤ a - 1 := by
  unfold GS at h; omega
theorem gs_next (u t a b : Int) (h : GS u t a b) (hc : 4294967296 ≤ a ∨ b * 4294967296 + t < a * 2313682944) (hb : b + 2328306436 < 4294967296) : GS u t (a - 1) (b + 2328306436) := by
  have := gs_big u t a b h hc
  unfold GS at h ⊢; omega
theorem gs_break (u t a b : Int) (h : GS u t a b) (hc : 4294967296 ≤ a ∨ b * 4294967296 + t < a * 2313682944) (hb : 4294967296 ≤ b + 2328306436) : a - 1 = (u * 4294967296 + t) / 10000000000000000000 := by
  have := gs_big u t a b h hc
  unfold GS at h; omega
end Go.Proofs.YtmfmdcapanaajaaDoor
