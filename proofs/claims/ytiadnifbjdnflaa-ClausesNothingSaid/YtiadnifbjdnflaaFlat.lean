/- Edges as cells one behind the other. -/
import Derived.Test.YtiadnifbjdnflaaKn4
namespace Go.Proofs.Ytiadnifbjdnflaa
open Go Go.RowKit

/-- the cells of n edges. -/
def flatE (X Y C : Nat → Int) : Nat → List Value
  | 0 => []
  | n + 1 => flatE X Y C n ++ [.int .i64 (X n), .int .i64 (Y n), .int .i64 (C n)]
theorem flatE_len (X Y C : Nat → Int) : ∀ n, (flatE X Y C n).length = n * 3 := by
  intro n
  induction n with
  | zero => rfl
  | succ n ih => simp only [flatE, List.length_append, ih, List.length_cons, List.length_nil]; omega
theorem flatE_one (X Y C : Nat → Int) : ∀ n, ∀ u ∈ flatE X Y C n, u.oneCell' = true := by
  intro n
  induction n with
  | zero => intro u hu; cases hu
  | succ n ih =>
    intro u hu
    simp only [flatE, List.mem_append, List.mem_cons, List.not_mem_nil, or_false] at hu
    rcases hu with hu | rfl | rfl | rfl
    · exact ih u hu
    · rfl
    · rfl
    · rfl
theorem flatE_get (X Y C : Nat → Int) : ∀ n i, i < n → (flatE X Y C n)[i * 3]? = some (.int .i64 (X i)) ∧ (flatE X Y C n)[i * 3 + 1]? = some (.int .i64 (Y i)) ∧ (flatE X Y C n)[i * 3 + 2]? = some (.int .i64 (C i)) := by
  intro n
  induction n with
  | zero => intro i hi; omega
  | succ n ih =>
    intro i hi
    have hl := flatE_len X Y C n
    simp only [flatE]
    by_cases h : i < n
    · obtain ⟨h0, h1, h2⟩ := ih i h
      rw [List.getElem?_append_left (by omega), List.getElem?_append_left (by omega), List.getElem?_append_left (by omega)]
      exact ⟨h0, h1, h2⟩
    · obtain rfl : i = n := by omega
      rw [List.getElem?_append_right (by omega), List.getElem?_append_right (by omega), List.getElem?_append_right (by omega), hl]
      rw [show i * 3 - i * 3 = 0 by omega, show i * 3 + 1 - i * 3 = 1 by omega, show i * 3 + 2 - i * 3 = 2 by omega]
      exact ⟨rfl, rfl, rfl⟩
theorem flatE_cells {w : World} {b off n : Nat} {X Y C : Nat → Int} (h : EdgesAt w b off n X Y C) : ∀ (j : Nat) (u : Value), (flatE X Y C n)[j]? = some u → w.cell? ⟨b, off + j, none⟩ = some u := by
  intro j u hj
  have hlt := (List.getElem?_eq_some_iff.1 hj).1
  rw [flatE_len] at hlt
  have hi : j / 3 < n := by omega
  obtain ⟨g0, g1, g2⟩ := flatE_get X Y C n (j / 3) hi
  have hr : j % 3 = 0 ∨ j % 3 = 1 ∨ j % 3 = 2 := by omega
  rcases hr with hr | hr | hr
  · have e : j = j / 3 * 3 := by omega
    rw [← e] at g0
    rw [g0] at hj; cases hj
    have := h.k0 (j / 3) hi
    rwa [show off + j / 3 * 3 = off + j by omega] at this
  · have e : j = j / 3 * 3 + 1 := by omega
    rw [← e] at g1
    rw [g1] at hj; cases hj
    have := h.k1 (j / 3) hi
    rwa [show off + j / 3 * 3 + 1 = off + j by omega] at this
  · have e : j = j / 3 * 3 + 2 := by omega
    rw [← e] at g2
    rw [g2] at hj; cases hj
    have := h.k2 (j / 3) hi
    rwa [show off + j / 3 * 3 + 2 = off + j by omega] at this
theorem flatE_at {w : World} {b n : Nat} {X Y C : Nat → Int} (h : ∀ (j : Nat) (u : Value), (flatE X Y C n)[j]? = some u → w.cell? ⟨b, j, none⟩ = some u) : EdgesAt w b 0 n X Y C := by
  refine ⟨fun i hi => ?_, fun i hi => ?_, fun i hi => ?_⟩
  · rw [Nat.zero_add]; exact h _ _ (flatE_get X Y C n i hi).1
  · rw [Nat.zero_add]; exact h _ _ (flatE_get X Y C n i hi).2.1
  · rw [Nat.zero_add]; exact h _ _ (flatE_get X Y C n i hi).2.2
theorem flatE_app (X Y C X' Y' C' : Nat → Int) (n : Nat) : ∀ m, flatE X Y C n ++ flatE X' Y' C' m = flatE (fun i => if i < n then X i else X' (i - n)) (fun i => if i < n then Y i else Y' (i - n)) (fun i => if i < n then C i else C' (i - n)) (n + m) := by
  intro m
  induction m with
  | zero =>
    simp only [flatE, List.append_nil, Nat.add_zero]
    have : ∀ k, k ≤ n → flatE X Y C k = flatE (fun i => if i < n then X i else X' (i - n)) (fun i => if i < n then Y i else Y' (i - n)) (fun i => if i < n then C i else C' (i - n)) k := by
      intro k
      induction k with
      | zero => intro _; rfl
      | succ k ih =>
        intro hk
        simp only [flatE]
        rw [ih (by omega), if_pos (by omega), if_pos (by omega), if_pos (by omega)]
    exact this n (Nat.le_refl _)
  | succ m ih =>
    rw [show n + (m + 1) = (n + m) + 1 by omega]
    simp only [flatE]
    rw [← List.append_assoc, ih, if_neg (by omega), if_neg (by omega), if_neg (by omega), show n + m - n = m by omega]
end Go.Proofs.Ytiadnifbjdnflaa
