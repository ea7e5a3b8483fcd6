/- Plain mathematics of numerals: the number of a row of digits, and the numeral of a number. -/
import Derived.Lib.ItoaNum
namespace Go.Proofs.YtmfmdcapanaajaaDoor
open Go

def dval (l : List UInt8) : Nat := l.foldl (fun n c => n * 10 + (c.toNat - 48)) 0
theorem dval_snoc (l : List UInt8) (c : UInt8) : dval (l ++ [c]) = dval l * 10 + (c.toNat - 48) := by simp [dval]
def dig (c : UInt8) : Bool := decide (48 ≤ c.toNat) && decide (c.toNat ≤ 57)
def isNum (l : List UInt8) : Bool := !l.isEmpty && !(decide (l.head? = some 48) && decide (1 < l.length)) && l.all dig
def readE (l : List UInt8) : Int := if isNum l = true then (if dval l ≤ 4611686018427387903 then 0 else 6) else 5
def readN (l : List UInt8) : Int := if isNum l = true ∧ dval l ≤ 4611686018427387903 then dval l else 0

theorem dval_le_snoc (l : List UInt8) (c : UInt8) : dval l ≤ dval (l ++ [c]) := by rw [dval_snoc]; omega

/-- The numeral of a number is one, and its number is that. -/
theorem dec_all (u : Nat) : (Lib.decDigits u).all dig = true := by
  induction u using Nat.strongRecOn with
  | _ u ih =>
    rw [Lib.decDigits]
    split
    · rename_i h
      have : (48 + u) % 256 = 48 + u := Nat.mod_eq_of_lt (by omega)
      simp [dig, this]; omega
    · rename_i h
      have : (48 + u % 10) % 256 = 48 + u % 10 := Nat.mod_eq_of_lt (by omega)
      rw [List.all_append, ih (u / 10) (by omega)]
      simp [dig, this]; omega
theorem dec_ne (u : Nat) : Lib.decDigits u ≠ [] := by
  intro h
  have := Lib.decDigits_length u
  have := Lib.nDigits_pos u
  rw [h] at *
  simp at *
  omega
theorem dec_val (u : Nat) : dval (Lib.decDigits u) = u := by
  induction u using Nat.strongRecOn with
  | _ u ih =>
    rw [Lib.decDigits]
    split
    · rename_i h
      have : (48 + u) % 256 = 48 + u := Nat.mod_eq_of_lt (by omega)
      simp [dval, this]
    · rename_i h
      have : (48 + u % 10) % 256 = 48 + u % 10 := Nat.mod_eq_of_lt (by omega)
      rw [dval_snoc, ih (u / 10) (by omega)]
      simp [this]; omega
theorem head_app {m : List UInt8} (x : List UInt8) (h : m ≠ []) : (m ++ x).head? = m.head? := by
  cases m with
  | nil => exact absurd rfl h
  | cons a b => rfl
/-- no nought ahead, but of 0. -/
theorem dec_head (u : Nat) (h : 1 ≤ u) : (Lib.decDigits u).head? ≠ some 48 := by
  induction u using Nat.strongRecOn with
  | _ u ih =>
    rw [Lib.decDigits]
    split
    · rename_i h'
      have hm : (48 + u) % 256 = 48 + u := Nat.mod_eq_of_lt (by omega)
      simp only [List.head?_cons, ne_eq, Option.some.injEq]
      intro e
      have := congrArg UInt8.toNat e
      simp [hm] at this
      omega
    · rename_i h'
      rw [head_app _ (dec_ne _)]
      exact ih (u / 10) (by omega) (by omega)
theorem dec_isNum (u : Nat) : isNum (Lib.decDigits u) = true := by
  unfold isNum
  rw [dec_all]
  have h1 : (Lib.decDigits u).isEmpty = false := by simp [dec_ne]
  rw [h1]
  by_cases h : 1 ≤ u
  · simp [dec_head u h]
  · have : u = 0 := by omega
    subst this
    rw [Lib.decDigits]; simp
/-- A numeral is what its number's numeral is. -/
theorem num_back : ∀ (n : Nat) (l : List UInt8), l.length = n → isNum l = true → Lib.decDigits (dval l) = l := by
  intro n
  induction n with
  | zero => intro l hl h; have : l = [] := List.length_eq_zero_iff.1 hl; subst this; simp [isNum] at h
  | succ n ih =>
    intro l hl h
    have hne : l ≠ [] := by intro e; subst e; simp at hl
    obtain ⟨m, c, rfl⟩ : ∃ m c, l = m ++ [c] := ⟨l.dropLast, l.getLast hne, (List.dropLast_concat_getLast hne).symm⟩
    have hm : m.length = n := by simpa using hl
    unfold isNum at h
    simp only [Bool.and_eq_true, List.all_append] at h
    obtain ⟨⟨_, h1⟩, ha, hc⟩ := h
    have hc' : 48 ≤ c.toNat ∧ c.toNat ≤ 57 := by simpa [dig] using hc
    have ec : ∀ k : Nat, k = c.toNat - 48 → UInt8.ofNat (48 + k) = c := by
      intro k hk
      rw [show 48 + k = c.toNat by omega]
      exact UInt8.ofNat_toNat
    rw [dval_snoc]
    by_cases hm0 : m = []
    · subst hm0
      rw [Lib.decDigits, dif_pos (by simp [dval]; omega)]
      simp only [dval, List.foldl_nil, Nat.zero_mul, Nat.zero_add, List.nil_append]
      rw [ec _ rfl]
    · have hh : (m ++ [c]).head? = m.head? := head_app _ hm0
      have hlen : 1 < (m ++ [c]).length := by
        have : 0 < m.length := List.length_pos_iff.2 hm0
        simp; omega
      rw [hh] at h1
      have h2 : m.head? ≠ some 48 := by
        intro e
        rw [e, decide_eq_true hlen] at h1
        simp at h1
      have hmn : isNum m = true := by
        unfold isNum
        rw [ha]
        have : m.isEmpty = false := by simp [hm0]
        rw [this]
        simp [h2]
      have hb := ih m hm hmn
      have hpos : 1 ≤ dval m := by
        rcases Nat.eq_zero_or_pos (dval m) with e | e
        · exfalso
          rw [e] at hb
          rw [Lib.decDigits] at hb
          simp at hb
          apply h2
          rw [← hb]
          rfl
        · exact e
      rw [Lib.decDigits, dif_neg (by omega), show (dval m * 10 + (c.toNat - 48)) / 10 = dval m by omega, hb, show (dval m * 10 + (c.toNat - 48)) % 10 = c.toNat - 48 by omega, ec _ rfl]
/-- Negative numbers have texts that are no numerals. -/
theorem neg_not (l : List UInt8) : isNum (45 :: l) = false := by simp [isNum, dig]
theorem read_itoa_ok (n : Int) (h0 : 0 ≤ n) (h1 : n ≤ 4611686018427387903) : readE (Lib.itoa n) = 0 ∧ readN (Lib.itoa n) = n := by
  have e : Lib.itoa n = Lib.decDigits n.toNat := by unfold Lib.itoa; rw [if_neg (by omega)]
  unfold readE readN
  rw [e, dec_isNum, dec_val]
  simp; omega
theorem read_itoa_bad (n : Int) (h : n < 0 ∨ 4611686018427387903 < n) : readE (Lib.itoa n) ≠ 0 := by
  unfold readE
  by_cases hn : n < 0
  · have e : Lib.itoa n = 45 :: Lib.decDigits n.natAbs := by unfold Lib.itoa; rw [if_pos hn]
    rw [e, neg_not]; simp
  · have e : Lib.itoa n = Lib.decDigits n.toNat := by unfold Lib.itoa; rw [if_neg hn]
    rw [e, dec_isNum, dec_val]
    simp; omega
theorem itoa_read (l : List UInt8) (h : readE l = 0) : Lib.itoa (readN l) = l ∧ 0 ≤ readN l ∧ readN l ≤ 4611686018427387903 := by
  unfold readE at h
  by_cases h1 : isNum l = true
  · rw [if_pos h1] at h
    by_cases h2 : dval l ≤ 4611686018427387903
    · unfold readN
      rw [if_pos ⟨h1, h2⟩]
      refine ⟨?_, by omega, by omega⟩
      unfold Lib.itoa
      rw [if_neg (by omega)]
      simpa using num_back _ l rfl h1
    · rw [if_neg h2] at h; omega
  · rw [if_neg h1] at h; omega
theorem readE_cases (l : List UInt8) : (readE l = 0 ∨ readE l = 5 ∨ readE l = 6) := by
  unfold readE; split
  · split <;> simp
  · simp
end Go.Proofs.YtmfmdcapanaajaaDoor
