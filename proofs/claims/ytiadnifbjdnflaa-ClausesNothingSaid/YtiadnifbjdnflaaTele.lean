/- Where all edges of a closed row hold, the sum of the bounds is not below nothing. -/
import Derived.Test.YtiadnifbjdnflaaCheck
namespace Go.Proofs.Ytiadnifbjdnflaa
open Go Go.RowKit

theorem tele_up (n : Nat) (X Y C v : Nat → Int) (hc : Cyc n X Y) (v' : Int → Int) (hh : ∀ i, i < n → v' (X i) - v' (Y i) ≤ C i) : ∀ k, k + 1 ≤ n → v' (X 0) - v' (Y k) ≤ sumC C (k + 1) := by
  intro k
  induction k with
  | zero =>
    intro hk
    have := hh 0 (by omega)
    simp only [sumC]
    omega
  | succ k ih =>
    intro hk
    have h1 := ih (by omega)
    have h2 := hh (k + 1) (by omega)
    have h3 := hc (k + 1) (by omega)
    unfold prevY at h3
    rw [if_neg (by omega), Nat.add_sub_cancel] at h3
    rw [← h3] at h2
    rw [show sumC C (k + 1 + 1) = sumC C (k + 1) + C (k + 1) from rfl]
    omega
theorem tele (n : Nat) (X Y C : Nat → Int) (v : Int → Int) (h1 : 1 ≤ n) (hc : Cyc n X Y) (hh : ∀ i, i < n → v (X i) - v (Y i) ≤ C i) : 0 ≤ sumC C n := by
  have h := tele_up n X Y C (fun _ => 0) hc v hh (n - 1) (by omega)
  rw [Nat.sub_add_cancel h1] at h
  have h0 := hc 0 (by omega)
  unfold prevY at h0
  rw [if_pos rfl] at h0
  rw [h0] at h
  omega
theorem good_false (n : Nat) (A B C V : Nat → Int) (v : Int → Int) (hg : Good n A B C V) (hh : ∀ i, i < n → v (eX A B (V i)) - v (eX B A (V i)) ≤ eC C (V i)) : False := by
  unfold Good sumV at hg
  split at hg
  · simp at hg
  · split at hg
    · simp at hg
    · split at hg
      · rename_i h1 h2 h3
        have ht := tele n _ _ _ v (by omega) h3 hh
        rcases sgn_cases (sumC (fun i => eC C (V i)) n) with ⟨ha, he⟩ | ⟨ha, he⟩ | ⟨ha, he⟩
        · omega
        · rw [he] at hg; simp at hg
        · rw [he] at hg; simp at hg
      · simp at hg
end Go.Proofs.Ytiadnifbjdnflaa
