/- A small number as a sign and a row, also times 2^48. -/
import Derived.Test.YtmfmdcapanaajaaDoorLess
import Derived.Test.YtmfmdcapanaajaaDoorRefOf
namespace Go.Proofs.YtmfmdcapanaajaaDoor
open Go Go.RowKit Go.Sort

theorem dn_abs (n d : Int) (hd : 0 < d) : (if (n.tdiv d).tmod 65536 < 0 then -((n.tdiv d).tmod 65536) else (n.tdiv d).tmod 65536) = absZ n / d % 65536 := by
  unfold absZ
  by_cases hn : n < 0
  · rw [if_pos hn]
    obtain ⟨m, rfl⟩ : ∃ m : Int, n = -m := ⟨-n, by omega⟩
    have p1 : 0 ≤ m / d := Int.ediv_nonneg (by omega) (by omega)
    rw [Int.neg_tdiv, Int.tdiv_eq_ediv_of_nonneg (by omega), Int.neg_tmod, Int.tmod_eq_emod_of_nonneg p1]
    simp only [Int.neg_neg]
    split <;> omega
  · rw [if_neg hn]
    have p1 : 0 ≤ n / d := Int.ediv_nonneg (by omega) (by omega)
    rw [Int.tdiv_eq_ediv_of_nonneg (by omega), Int.tmod_eq_emod_of_nonneg p1]
    split <;> omega
theorem dn_G0 (n : Int) : dn n 0 = absZ n % 65536 := by
  have := dn_abs n 1 (by omega)
  rw [Int.tdiv_one, Int.ediv_one] at this
  exact this
theorem dn_G1 (n : Int) : dn n 1 = absZ n / 65536 % 65536 := dn_abs n 65536 (by omega)
theorem dn_G2 (n : Int) : dn n 2 = absZ n / 4294967296 % 65536 := dn_abs n 4294967296 (by omega)
theorem dn_G3 (n : Int) : dn n 3 = absZ n / 281474976710656 % 65536 := dn_abs n 281474976710656 (by omega)
theorem oc0_sV (n : Int) (h0 : -9223372036854775808 ≤ n) (h1 : n ≤ 9223372036854775807) : oc0 n 4 = sV n := by
  have a0 : 0 ≤ absZ n := by unfold absZ; split <;> omega
  have a1 : absZ n ≤ 9223372036854775808 := by unfold absZ; split <;> omega
  unfold sV oc0
  rw [dn_G0, dn_G1, dn_G2, dn_G3]
  generalize absZ n = a at *
  have e0 := X_zero a
  have e1 := X_succ a 0
  have e2 := X_succ a 1
  have e3 := X_succ a 2
  have e4 := X_succ a 3
  have e5 := X_succ a 4
  have e6 := X_succ a 5
  have e7 := X_succ a 6
  have e8 := X_succ a 7
  have e9 := X_succ a 8
  simp only [Nat.zero_add, Nat.reduceAdd] at *
  unfold longV
  rw [show G a 0 = a % 65536 by unfold G; omega, show G a 1 = a / 65536 % 65536 by unfold G; omega, show G a 2 = a / 4294967296 % 65536 by unfold G; omega, show G a 3 = a / 281474976710656 % 65536 by unfold G; omega,
    show G a 4 = 0 by unfold G; omega, show G a 5 = 0 by unfold G; omega, show G a 6 = 0 by unfold G; omega, show G a 7 = 0 by unfold G; omega, show G a 8 = 0 by unfold G; omega, show G a 9 = 0 by unfold G; omega]
theorem oc3_sV (n : Int) (h0 : -9223372036854775808 ≤ n) (h1 : n ≤ 9223372036854775807) : oc3 n 4 = sV (n * 281474976710656) := by
  have a0 : 0 ≤ absZ n := by unfold absZ; split <;> omega
  have a1 : absZ n ≤ 9223372036854775808 := by unfold absZ; split <;> omega
  have hd : decide (n * 281474976710656 < 0) = decide (n < 0) := by rw [decide_eq_decide]; omega
  have ha : absZ (n * 281474976710656) = absZ n * 281474976710656 := by unfold absZ; split <;> split <;> omega
  unfold sV oc3
  rw [dn_G0, dn_G1, dn_G2, dn_G3, hd, ha]
  generalize absZ n = a at *
  have e0 := X_zero (a * 281474976710656)
  have e1 := X_succ (a * 281474976710656) 0
  have e2 := X_succ (a * 281474976710656) 1
  have e3 := X_succ (a * 281474976710656) 2
  have e4 := X_succ (a * 281474976710656) 3
  have e5 := X_succ (a * 281474976710656) 4
  have e6 := X_succ (a * 281474976710656) 5
  have e7 := X_succ (a * 281474976710656) 6
  have e8 := X_succ (a * 281474976710656) 7
  have e9 := X_succ (a * 281474976710656) 8
  simp only [Nat.zero_add, Nat.reduceAdd] at *
  generalize hx : a * 281474976710656 = x at *
  unfold longV
  rw [show G x 0 = 0 by unfold G; omega, show G x 1 = 0 by unfold G; omega, show G x 2 = 0 by unfold G; omega, show G x 3 = a % 65536 by unfold G; omega, show G x 4 = a / 65536 % 65536 by unfold G; omega, show G x 5 = a / 4294967296 % 65536 by unfold G; omega, show G x 6 = a / 281474976710656 % 65536 by unfold G; omega,
    show G x 7 = 0 by unfold G; omega, show G x 8 = 0 by unfold G; omega, show G x 9 = 0 by unfold G; omega]
theorem of0_n (n : Int) (w : World) (h0 : -9223372036854775808 ≤ n) (h1 : n ≤ 9223372036854775807) :
    Calls Tryd.prog 13 #[.int .i64 n, .int .i64 0] w fun e w' => e = .returned (.agg (sV n)) ∧ Below w.heap.size w w' := by
  rw [← oc0_sV n h0 h1]
  exact refOf0 n w h0 h1
theorem of3_n (n : Int) (w : World) (h0 : -9223372036854775808 ≤ n) (h1 : n ≤ 9223372036854775807) :
    Calls Tryd.prog 13 #[.int .i64 n, .int .i64 3] w fun e w' => e = .returned (.agg (sV (n * 281474976710656))) ∧ Below w.heap.size w w' := by
  rw [← oc3_sV n h0 h1]
  exact refOf3 n w h0 h1
/-- twice it, again and again. -/
def dbl : Nat → Int → Int
  | 0, u => u
  | j + 1, u => dbl j u + dbl j u
theorem dbl_back (K u : Int) (h : -K ≤ u) (h' : u ≤ K) : ∀ (j k : Nat), -K < dbl (j + k) u → dbl (j + k) u < K → -K < dbl j u ∧ dbl j u < K := by
  intro j k
  induction k with
  | zero => exact fun a b => ⟨a, b⟩
  | succ k ih =>
    intro a b
    have e : dbl (j + (k + 1)) u = dbl (j + k) u + dbl (j + k) u := rfl
    rw [e] at a b
    exact ih (by omega) (by omega)
theorem dbl_14 (u : Int) : dbl 14 u = u * 16384 := by simp only [dbl]; omega
end Go.Proofs.YtmfmdcapanaajaaDoor
