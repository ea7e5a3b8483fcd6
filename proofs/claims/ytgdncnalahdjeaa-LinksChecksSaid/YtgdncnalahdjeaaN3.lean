/- The reference's last link, in plain words. -/
import Derived.Test.YtgdncnalahdjeaaN1
import Derived.Test.YtgdncnalahdjeaaL13
namespace Go.Proofs.Ytgdncnalahdjeaa
open Go Go.RowKit

theorem okL_neg (m : Nat) (l : Int) : okL m (-l) = okL m l := by
  by_cases h : l ≠ 0 ∧ -1048576 ≤ l ∧ l ≤ 1048576 ∧ max l (-l) ≤ (m : Int)
  · have e1 : okL m l = true := by unfold okL absI; rw [decide_eq_true h.2.1, decide_eq_true h.2.2.1, decide_eq_true h.2.2.2]; simp [h.1]
    have e2 : okL m (-l) = true := by unfold okL absI; rw [decide_eq_true (show -1048576 ≤ -l by omega), decide_eq_true (show -l ≤ 1048576 by omega), decide_eq_true (show max (-l) (- -l) ≤ (m : Int) by omega)]; simp [h.1]
    rw [e1, e2]
  · have e : ∀ y : Int, ¬ (y ≠ 0 ∧ -1048576 ≤ y ∧ y ≤ 1048576 ∧ max y (-y) ≤ (m : Int)) → okL m y = false := fun y hy => by
      cases hc : okL m y with
      | false => rfl
      | true =>
        unfold okL absI at hc
        simp only [Bool.and_eq_true, decide_eq_true_eq, bne_iff_ne, ne_eq] at hc
        exact absurd ⟨hc.1.1.1, hc.1.1.2, hc.1.2, hc.2⟩ hy
    rw [e l h, e (-l) (by omega)]
/-- what the reference asks of a link that goes against a literal is what the checker asks. -/
theorem against_eq (m : Nat) (a : AD) (Tt x y : Int) (h : Tt < 0) :
    ((toldL m a (-Tt)).2 && a.K ((-Tt).natAbs - 1) == 1 && x == (toldL m a (-Tt)).1.1 && y == (toldL m a (-Tt)).1.2) = (okL m Tt && decide (Tt < 0) && a.K (Tt.natAbs - 1) == 1 && (x == a.A (Tt.natAbs - 1) && y == a.B (Tt.natAbs - 1))) := by
  unfold toldL
  rw [okL_neg, Int.natAbs_neg, decide_eq_true h]
  cases okL m Tt with
  | false => rfl
  | true =>
    simp only [if_true, Bool.true_and]
    by_cases hk : a.K (Tt.natAbs - 1) = 1
    · rw [if_pos hk, hk, decide_eq_true (show 0 < -Tt by omega)]
      simp
    · have q : (a.K (Tt.natAbs - 1) == 1) = false := by simpa using hk
      rw [if_neg hk, q]
      simp
/-- the reference says of the last link what the checker says. -/
theorem closeL_against (m : Nat) (a : AD) (ts : List (Int × Int)) (Tt I : Int) : closeL m a ts 6 Tt I = ((atL ts I).2 && decide (Tt < 0) && ((toldL m a (-Tt)).2 && a.K ((-Tt).natAbs - 1) == 1 && (atL ts I).1.1 == (toldL m a (-Tt)).1.1 && (atL ts I).1.2 == (toldL m a (-Tt)).1.2)) := by
  unfold closeL
  rw [if_neg (by decide), if_pos rfl]
  by_cases h : Tt < 0
  · rw [against_eq m a Tt _ _ h, decide_eq_true h]
    simp
  · rw [decide_eq_false h]
    simp
theorem closeL_clash (m : Nat) (a : AD) (ts : List (Int × Int)) (Tt I : Int) : closeL m a ts 7 Tt I = ((atL ts I).2 && ((atL ts I).1.1 == 0 && (atL ts I).1.2 == 1)) := by
  unfold closeL
  rw [if_pos rfl]
theorem closeL_else (m : Nat) (a : AD) (ts : List (Int × Int)) (K Tt I : Int) (h6 : K ≠ 6) (h7 : K ≠ 7) : closeL m a ts K Tt I = false := by
  unfold closeL
  rw [if_neg h7, if_neg h6]
  simp
/-- a number below another one, and what is told there. -/
theorem within_at (ts : List (Int × Int)) (I : Int) : isV ts.length I = (atL ts I).2 := by
  unfold isV atL
  by_cases h : 0 ≤ I ∧ I < (ts.length : Int)
  · rw [if_pos h, decide_eq_true h.1, decide_eq_true h.2]; rfl
  · rw [if_neg h]
    by_cases h0 : 0 ≤ I
    · rw [decide_eq_true h0, decide_eq_false (show ¬ I < (ts.length : Int) by omega)]; rfl
    · rw [decide_eq_false h0]; rfl
end Go.Proofs.Ytgdncnalahdjeaa
