/- Bits of numbers: one set, one cleared. -/
import Derived.Test.YtiadnifbjdnflaaLawFol
namespace Go.Proofs.Ytiadnifbjdnflaa
open Go Go.RowKit

theorem bitB_nat (N : Nat) (a : Int) : bitB (N : Int) a = N.testBit (a.toNat - 1) := by
  unfold bitB
  rw [Nat.testBit_eq_decide_div_mod_eq, Bool.eq_iff_iff, beq_iff_eq, decide_eq_true_eq]
  have e : ((N : Int) / 2 ^ (a.toNat - 1)).tmod 2 = ((N / 2 ^ (a.toNat - 1) % 2 : Nat) : Int) := by
    rw [Int.tmod_eq_emod_of_nonneg (Int.ediv_nonneg (by omega) (Int.le_of_lt (Int.pow_pos (by omega))))]
    push_cast
    rfl
  rw [e]
  omega
theorem wrap_u64 (N : Nat) (h : N < 2 ^ 64) : IntKind.u64.wrap (N : Int) = N := by
  have h' : (N : Int) < 18446744073709551616 := by
    have : (2 : Nat) ^ 64 = 18446744073709551616 := by decide
    omega
  simp only [IntKind.wrap, IntKind.signed, IntKind.bits, Bool.false_and]
  rw [if_neg (by simp)]
  have e : (2 : Int) ^ 64 = 18446744073709551616 := by decide
  rw [e]
  omega
theorem bits_u64 (op : BinOp) (N s : Nat) (hN : N < 2 ^ 64) (hs : s < 64) (a b : BitVec 64) (ha : a = BitVec.ofNat 64 N) (hb : b = BitVec.ofNat 64 (2 ^ s)) :
    Go.bits op .u64 (N : Int) (IntKind.u64.wrap (2 ^ s)) = (((match op with | .and => a &&& b | .or => a ||| b | .xor => a ^^^ b | _ => a &&& ~~~b : BitVec 64).toNat : Nat) : Int) := by
  have h2 : (2 : Nat) ^ s < 2 ^ 64 := Nat.pow_lt_pow_right (by omega) hs
  have e2 : ((2 : Int) ^ s) = ((2 ^ s : Nat) : Int) := by push_cast; rfl
  rw [e2, wrap_u64 _ h2]
  unfold Go.bits
  subst ha hb
  show IntKind.u64.wrap _ = _
  have e3 : BitVec.ofInt 64 (N : Int) = BitVec.ofNat 64 N := BitVec.ofInt_natCast _ _
  have e4 : BitVec.ofInt 64 ((2 ^ s : Nat) : Int) = BitVec.ofNat 64 (2 ^ s) := BitVec.ofInt_natCast _ _
  simp only [IntKind.bits] at *
  rw [e3, e4]
  exact wrap_u64 _ (BitVec.isLt _)
theorem andNot_bit (N s : Nat) (hN : N < 2 ^ 64) (hs : s < 64) : ∃ R : Nat, R < 2 ^ 64 ∧ Go.bits .andNot .u64 (N : Int) (IntKind.u64.wrap (2 ^ s)) = (R : Int) ∧ ∀ i, R.testBit i = (N.testBit i && decide (i ≠ s)) := by
  refine ⟨_, BitVec.isLt _, bits_u64 .andNot N s hN hs _ _ rfl rfl, fun i => ?_⟩
  rw [BitVec.testBit_toNat]
  by_cases hi : i < 64
  · simp only [BitVec.getLsbD_and, BitVec.getLsbD_not, BitVec.getLsbD_ofNat, Nat.testBit_two_pow, hi, decide_true, Bool.true_and]
    congr 1
    rw [Bool.eq_iff_iff]
    simp
    omega
  · rw [BitVec.getLsbD_of_ge _ _ (by omega), Nat.testBit_lt_two_pow (Nat.lt_of_lt_of_le hN (Nat.pow_le_pow_right (by omega) (by omega)))]
    rfl
theorem or_bit (N s : Nat) (hN : N < 2 ^ 64) (hs : s < 64) : ∃ R : Nat, R < 2 ^ 64 ∧ Go.bits .or .u64 (N : Int) (IntKind.u64.wrap (2 ^ s)) = (R : Int) ∧ ∀ i, R.testBit i = (N.testBit i || decide (i = s)) := by
  refine ⟨_, BitVec.isLt _, bits_u64 .or N s hN hs _ _ rfl rfl, fun i => ?_⟩
  rw [BitVec.testBit_toNat]
  by_cases hi : i < 64
  · simp only [BitVec.getLsbD_or, BitVec.getLsbD_ofNat, Nat.testBit_two_pow, hi, decide_true, Bool.true_and]
    congr 1
    rw [Bool.eq_iff_iff]
    simp
    omega
  · rw [BitVec.getLsbD_of_ge _ _ (by omega), Nat.testBit_lt_two_pow (Nat.lt_of_lt_of_le hN (Nat.pow_le_pow_right (by omega) (by omega)))]
    have : i ≠ s := by omega
    simp [this]
/-- the bits stand against the first literals. -/
def Against (V : Nat → Int) (j N : Nat) : Prop := N < 2 ^ 64 ∧ ∀ t, t < j → N.testBit ((absI (V t)).toNat - 1) = decide (V t < 0) ∨ ∃ s, s < j ∧ V s = -V t
theorem Against.step {V : Nat → Int} {j N R : Nat} (h : Against V j N) (hR : R < 2 ^ 64) (h60 : ∀ t, t < j + 1 → Sixty (V t)) (hs : R.testBit ((absI (V j)).toNat - 1) = decide (V j < 0)) (ho : ∀ i, i ≠ (absI (V j)).toNat - 1 → R.testBit i = N.testBit i) : Against V (j + 1) R := by
  refine ⟨hR, fun t ht => ?_⟩
  by_cases htj : t < j
  · rcases h.2 t htj with h2 | ⟨s, hs', he⟩
    · by_cases e : (absI (V t)).toNat - 1 = (absI (V j)).toNat - 1
      · have a1 := h60 t ht
        have a2 := h60 j (by omega)
        unfold Sixty at a1 a2
        have key : V t = V j ∨ V j = -V t := by
          have b1 := absI_cases (V t)
          have b2 := absI_cases (V j)
          omega
        rcases key with k | k
        · rw [k]; exact .inl hs
        · exact .inr ⟨j, by omega, k⟩
      · rw [ho _ e]; exact .inl h2
    · exact .inr ⟨s, by omega, he⟩
  · obtain rfl : t = j := by omega
    exact .inl hs
theorem against_false {V : Nat → Int} {n N : Nat} (h : Against V n N) (h60 : ∀ t, t < n → Sixty (V t)) (hno : nothB n V = false) : holdB (N : Int) n V = false := by
  refine anyB_no fun t ht => ?_
  have a := h60 t ht
  unfold Sixty at a
  rcases h.2 t ht with h2 | ⟨s, hs, he⟩
  · unfold litB
    rw [bitB_nat, h2]
    by_cases hx : V t < 0
    · rw [decide_eq_true hx, decide_eq_false (show ¬ 0 < V t by omega)]; rfl
    · rw [decide_eq_false hx, decide_eq_true (show 0 < V t by omega)]; rfl
  · exfalso
    have : nothB n V = true := by
      refine (anyB_iff _ _).2 ⟨t, ht, ?_⟩
      unfold pred54
      have e : negI (V t) = -V t := by unfold negI; rw [if_neg (by omega)]
      rw [e, Bool.and_eq_true, bne_iff_ne]
      exact ⟨hasB_yes s hs he, by omega⟩
    rw [hno] at this
    cases this
theorem noth_true {V : Nat → Int} {n : Nat} (bits : Int) (h60 : ∀ t, t < n → Sixty (V t)) (h : nothB n V = true) : holdB bits n V = true := by
  obtain ⟨t, ht, hp⟩ := (anyB_iff _ _).1 h
  unfold pred54 at hp
  have a := h60 t ht
  unfold Sixty at a
  have e : negI (V t) = -V t := by unfold negI; rw [if_neg (by omega)]
  rw [e, Bool.and_eq_true, hasB_iff] at hp
  obtain ⟨⟨s, hs, he⟩, _⟩ := hp
  by_cases hl : litB bits (V t) = true
  · exact anyB_yes (f := fun i => litB bits (V i)) t ht hl
  · refine anyB_yes (f := fun i => litB bits (V i)) s hs ?_
    show litB bits (V s) = true
    rw [he]
    unfold litB at *
    rw [show absI (-V t) = absI (V t) by unfold absI; omega]
    by_cases hx : 0 < V t
    · rw [decide_eq_true hx] at hl
      rw [decide_eq_false (show ¬ 0 < -V t by omega)]
      simp at hl ⊢
      exact hl
    · rw [decide_eq_false hx] at hl
      rw [decide_eq_true (show 0 < -V t by omega)]
      simp at hl ⊢
      exact hl
end Go.Proofs.Ytiadnifbjdnflaa
