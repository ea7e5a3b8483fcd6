/- Sums of edges turned round, and of edges joined. -/
import Derived.Test.YtiadnifbjdnflaaFlat
namespace Go.Proofs.Ytiadnifbjdnflaa
open Go Go.RowKit

theorem sumC_congr (C D : Nat → Int) : ∀ n, (∀ i, i < n → C i = D i) → sumC C n = sumC D n := by
  intro n
  induction n with
  | zero => intro _; rfl
  | succ n ih => intro h; simp only [sumC]; rw [ih (fun i hi => h i (by omega)), h n (by omega)]
theorem sumC_add (C : Nat → Int) (n : Nat) : ∀ k, sumC C (n + k) = sumC C n + sumC (fun i => C (n + i)) k := by
  intro k
  induction k with
  | zero => simp [sumC]
  | succ k ih => rw [← Nat.add_assoc]; simp only [sumC]; rw [ih]; omega
/-- one list behind another. -/
def cat (n : Nat) (F G : Nat → Int) : Nat → Int := fun i => if i < n then F i else G (i - n)
theorem sumC_cat (n m : Nat) (F G : Nat → Int) : sumC (cat n F G) (n + m) = sumC F n + sumC G m := by
  rw [sumC_add, sumC_congr (cat n F G) F n (fun i hi => if_pos hi), sumC_congr (fun i => cat n F G (n + i)) G m (fun i _ => by unfold cat; rw [if_neg (by omega), Nat.add_sub_cancel_left])]
/-- the list turned round. -/
def rot (m n : Nat) (F : Nat → Int) : Nat → Int := cat (m - n) (fun i => F (n + i)) F
theorem sumC_rot (m n : Nat) (F : Nat → Int) (h : n < m) : sumC (rot m n F) m = sumC F m := by
  have h1 := sumC_cat (m - n) n (fun i => F (n + i)) F
  rw [show m - n + n = m by omega] at h1
  have h2 := sumC_add F n (m - n)
  rw [show n + (m - n) = m by omega] at h2
  show sumC (cat (m - n) (fun i => F (n + i)) F) m = _
  rw [h1, h2]; omega
theorem prev_rot (m n i : Nat) (Y : Nat → Int) (h : n < m) (hi : i < m) : prevY (rot m n Y) m i = prevY Y m (if i < m - n then n + i else i - (m - n)) := by
  unfold prevY rot cat
  by_cases h0 : i = 0
  · subst h0
    rw [if_pos rfl, if_pos (show 0 < m - n by omega)]
    by_cases hn : n = 0
    · subst hn
      rw [if_pos (show m - 1 < m - 0 by omega), if_pos (show 0 + 0 = 0 by omega)]
      exact congrArg Y (by omega)
    · rw [if_neg (show ¬ m - 1 < m - n by omega), if_neg (show ¬ n + 0 = 0 by omega)]
      exact congrArg Y (by omega)
  · rw [if_neg h0]
    by_cases h1 : i < m - n
    · rw [if_pos (show i - 1 < m - n by omega), if_pos h1, if_neg (show ¬ n + i = 0 by omega)]
      exact congrArg Y (by omega)
    · rw [if_neg h1]
      by_cases h2 : i - (m - n) = 0
      · rw [if_pos (show i - 1 < m - n by omega), if_pos h2]
        exact congrArg Y (by omega)
      · rw [if_neg (show ¬ i - 1 < m - n by omega), if_neg h2]
        exact congrArg Y (by omega)
theorem cyc_rot (m n : Nat) (X Y : Nat → Int) (h : n < m) : Cyc m (rot m n X) (rot m n Y) ↔ Cyc m X Y := by
  have hx : ∀ i, rot m n X i = X (if i < m - n then n + i else i - (m - n)) := by
    intro i; unfold rot cat; by_cases h1 : i < m - n
    · rw [if_pos h1, if_pos h1]
    · rw [if_neg h1, if_neg h1]
  constructor
  · intro hc i hi
    by_cases h1 : n ≤ i
    · have := hc (i - n) (by omega)
      rw [prev_rot m n _ Y h (by omega), hx, if_pos (by omega), show n + (i - n) = i by omega] at this
      exact this
    · have := hc (i + (m - n)) (by omega)
      rw [prev_rot m n _ Y h (by omega), hx, if_neg (by omega), show i + (m - n) - (m - n) = i by omega] at this
      exact this
  · intro hc i hi
    rw [prev_rot m n i Y h hi, hx]
    exact hc _ (by split <;> omega)
theorem sumV_rot (m n : Nat) (X Y C : Nat → Int) (h : n < m) : sumV m (rot m n X) (rot m n Y) (rot m n C) = sumV m X Y C := by
  unfold sumV
  rw [sumC_rot m n C h]
  by_cases hc : Cyc m X Y
  · rw [if_pos hc, if_pos ((cyc_rot m n X Y h).2 hc)]
  · rw [if_neg hc, if_neg (fun h' => hc ((cyc_rot m n X Y h).1 h'))]
theorem cyc_cat (n m : Nat) (X Y X' Y' : Nat → Int) (hn : 1 ≤ n) (hm : 1 ≤ m) (h0 : X 0 = X' 0) (h1 : Cyc n X Y) (h2 : Cyc m X' Y') : Cyc (n + m) (cat n X X') (cat n Y Y') := by
  intro i hi
  unfold prevY cat
  by_cases hi0 : i = 0
  · subst hi0
    rw [if_pos rfl, if_neg (by omega), if_pos (by omega)]
    have := h2 0 (by omega)
    unfold prevY at this
    rw [if_pos rfl] at this
    rw [h0, ← this]
    exact congrArg Y' (by omega)
  · rw [if_neg hi0]
    by_cases hin : i < n
    · rw [if_pos (by omega), if_pos hin]
      have := h1 i hin
      unfold prevY at this
      rwa [if_neg hi0] at this
    · rw [if_neg hin]
      by_cases hie : i = n
      · subst hie
        rw [if_pos (by omega), Nat.sub_self, ← h0]
        have := h1 0 (by omega)
        unfold prevY at this
        rwa [if_pos rfl] at this
      · rw [if_neg (by omega)]
        have := h2 (i - n) (by omega)
        unfold prevY at this
        rw [if_neg (by omega)] at this
        rw [← this]
        exact congrArg Y' (by omega)
end Go.Proofs.Ytiadnifbjdnflaa
