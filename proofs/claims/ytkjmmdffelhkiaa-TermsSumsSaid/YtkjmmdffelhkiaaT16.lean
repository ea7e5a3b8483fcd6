/- TermsSums: sums of numbers, and its walk. -/
import Derived.Test.YtkjmmdffelhkiaaT15
namespace Go.Proofs.Ytkjmmdffelhkiaa
open Go Go.RowKit Go.Maps

def sumF (f : Nat → Int) : Nat → Int
  | 0 => 0
  | k + 1 => sumF f k + f k
theorem sumF_congr {f g : Nat → Int} : ∀ {n : Nat}, (∀ i, i < n → f i = g i) → sumF f n = sumF g n
  | 0, _ => rfl
  | n + 1, h => by
    show sumF f n + f n = sumF g n + g n
    rw [sumF_congr (n := n) (fun i hi => h i (by omega)), h n (by omega)]
theorem sumF_front (f : Nat → Int) : ∀ n, sumF f (n + 1) = f 0 + sumF (fun i => f (i + 1)) n
  | 0 => by simp [sumF]
  | n + 1 => by
    show sumF f (n + 1) + f (n + 1) = _
    rw [sumF_front f n]
    show _ = f 0 + (sumF (fun i => f (i + 1)) n + f (n + 1))
    omega
theorem sumF_shift (g : Nat → Int) (n : Nat) : sumF (fun j => g ((j + 1) % n)) n = sumF g n := by
  cases n with
  | zero => rfl
  | succ m =>
    show sumF (fun j => g ((j + 1) % (m + 1))) m + g ((m + 1) % (m + 1)) = _
    rw [Nat.mod_self, sumF_front g m, sumF_congr (g := fun i => g (i + 1)) (fun i hi => by rw [Nat.mod_eq_of_lt (by omega)])]
    omega
theorem sumF_turn (g : Nat → Int) (n : Nat) : ∀ r, sumF (fun j => g ((j + r) % n)) n = sumF g n
  | 0 => sumF_congr (fun i hi => by rw [Nat.add_zero, Nat.mod_eq_of_lt hi])
  | r + 1 => by
    rw [← sumF_turn g n r, ← sumF_shift (fun j => g ((j + r) % n)) n]
    refine sumF_congr (fun i _ => ?_)
    show g ((i + (r + 1)) % n) = g (((i + 1) % n + r) % n)
    rw [Nat.mod_add_mod, show i + (r + 1) = i + 1 + r by omega]
theorem sumF_bound {f : Nat → Int} {B : Int} : ∀ {n : Nat}, (∀ i, i < n → -B ≤ f i ∧ f i ≤ B) → -((n : Int) * B) ≤ sumF f n ∧ sumF f n ≤ (n : Int) * B
  | 0, _ => by simp [sumF]
  | n + 1, h => by
    have h1 := sumF_bound (n := n) (fun i hi => h i (by omega))
    have h2 := h n (by omega)
    show -(((n + 1 : Nat) : Int) * B) ≤ sumF f n + f n ∧ sumF f n + f n ≤ ((n + 1 : Nat) : Int) * B
    have : ((n + 1 : Nat) : Int) * B = (n : Int) * B + B := by rw [Int.natCast_add, Int.add_mul]; simp
    omega
def Tm58 (n : Nat) (V : Nat → Int) : Prop := n ≤ 8 ∧ ∀ i, i < n → -288230376151711744 ≤ V i ∧ V i ≤ 288230376151711744
theorem Tm58.sum {k : Nat} {V : Nat → Int} (h : ∀ i, i < k → -288230376151711744 ≤ V i ∧ V i ≤ 288230376151711744) (hk : k ≤ 8) : -2305843009213693952 ≤ sumF V k ∧ sumF V k ≤ 2305843009213693952 := by
  have := sumF_bound (f := V) (B := 288230376151711744) (n := k) h
  omega
end Go.Proofs.Ytkjmmdffelhkiaa
