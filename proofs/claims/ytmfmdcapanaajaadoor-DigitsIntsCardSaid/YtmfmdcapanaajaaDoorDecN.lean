/- The decimal text of a number of up to 127 bits: chunks of 19 digits. -/
import Derived.Test.YtmfmdcapanaajaaDoorDec
namespace Go.Proofs.YtmfmdcapanaajaaDoor
open Go Go.RowKit Go.Sort

/-- k digits, noughts ahead. -/
def padK (k : Nat) (r : Nat) : List UInt8 := List.replicate (k - (Lib.decDigits r).length) 48 ++ Lib.decDigits r

theorem padK_succ (k r : Nat) (hk : 1 ≤ k) : padK (k + 1) r = padK k (r / 10) ++ [UInt8.ofNat (48 + r % 10)] := by
  unfold padK
  by_cases h : r < 10
  · rw [Lib.decDigits_one h, Lib.decDigits_one (show r / 10 < 10 by omega), show r / 10 = 0 by omega, show r % 10 = r by omega]
    obtain ⟨j, rfl⟩ : ∃ j, k = j + 1 := ⟨k - 1, by omega⟩
    simp only [List.length_cons, List.length_nil, Nat.add_sub_cancel, Nat.zero_add]
    rw [show (48 + 0 : Nat) = 48 from rfl, show UInt8.ofNat 48 = 48 from rfl, List.replicate_succ' (n := j)]
  · have e : Lib.decDigits r = Lib.decDigits (r / 10) ++ [UInt8.ofNat (48 + r % 10)] := by rw [Lib.decDigits, dif_neg h]
    rw [e]
    simp only [List.length_append, List.length_cons, List.length_nil, Nat.zero_add, Nat.add_sub_add_right, List.append_assoc]

theorem dec_pad : ∀ (k q r : Nat), 1 ≤ q → r < 10 ^ (k + 1) → Lib.decDigits (q * 10 ^ (k + 1) + r) = Lib.decDigits q ++ padK (k + 1) r := by
  intro k
  induction k with
  | zero =>
    intro q r hq hr
    have hr : r < 10 := by simpa using hr
    rw [show q * 10 ^ (0 + 1) + r = q * 10 + r by simp, Lib.decDigits, dif_neg (by omega), show (q * 10 + r) / 10 = q by omega, show (q * 10 + r) % 10 = r by omega]
    unfold padK
    rw [Lib.decDigits_one hr]
    simp
  | succ k ih =>
    intro q r hq hr
    have hp : 10 ^ (k + 1 + 1) = 10 * 10 ^ (k + 1) := by rw [Nat.pow_succ]; omega
    rw [hp] at hr ⊢
    have hpos : 1 ≤ 10 ^ (k + 1) := Nat.pos_of_ne_zero (by simp)
    generalize 10 ^ (k + 1) = T at *
    have e1 : q * (10 * T) = 10 * (q * T) := by rw [Nat.mul_left_comm]
    have hqT : 1 ≤ q * T := Nat.mul_pos hq hpos
    rw [Lib.decDigits, dif_neg (by omega), padK_succ (k + 1) r (by omega), ← List.append_assoc, ← ih q (r / 10) hq (by omega), e1, show (10 * (q * T) + r) / 10 = q * T + r / 10 by omega, show (10 * (q * T) + r) % 10 = r % 10 by omega]

theorem pad_padK (r : Nat) : pad (Lib.decDigits r) = padK 19 r := rfl

theorem dec_chunk (m : Nat) (h : 10000000000000000000 ≤ m) : Lib.decDigits m = Lib.decDigits (m / 10000000000000000000) ++ pad (Lib.decDigits (m % 10000000000000000000)) := by
  have := dec_pad 18 (m / 10000000000000000000) (m % 10000000000000000000) (by omega) (by rw [show (10 : Nat) ^ (18 + 1) = 10000000000000000000 from rfl]; omega)
  rw [show (10 : Nat) ^ (18 + 1) = 10000000000000000000 from rfl, show m / 10000000000000000000 * 10000000000000000000 + m % 10000000000000000000 = m by omega] at this
  rw [pad_padK, this]
end Go.Proofs.YtmfmdcapanaajaaDoor
