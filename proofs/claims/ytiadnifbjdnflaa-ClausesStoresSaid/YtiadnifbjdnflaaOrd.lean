/- The order of literals is strict, weak and total. -/
import Derived.Test.YtiadnifbjdnflaaCmp
import Derived.Shelf.SlSortCmp.NoneTotal
namespace Go.Proofs.Ytiadnifbjdnflaa
open Go Go.RowKit Go.Proofs Go.Sort

/-- a literal. -/
abbrev LitT : Type := {x : Int // isLitB x = true}
instance : Inhabited LitT := ⟨⟨1, by decide⟩⟩
theorem LitT.bd (x : LitT) : x.1 ≠ 0 ∧ -1048576 ≤ x.1 ∧ x.1 ≤ 1048576 := by
  have h := x.2
  unfold isLitB at h
  simp only [Bool.and_eq_true, bne_iff_ne, decide_eq_true_eq] at h
  exact ⟨h.1.1, h.1.2, h.2⟩
def cfL (x y : LitT) : Int := cmpL x.1 y.1
/-- x before y. -/
theorem cmpL_neg (x y : Int) : cmpL x y < 0 ↔ absI x < absI y ∨ (absI x = absI y ∧ y < x) := by
  unfold cmpL cmpI
  split <;> split at * <;> (try split at *) <;> (try split) <;> (try split) <;> omega
theorem ltL (x y : LitT) : ltOf cfL x y = decide (absI x.1 < absI y.1 ∨ (absI x.1 = absI y.1 ∧ y.1 < x.1)) := by
  have h := cmpL_neg x.1 y.1
  unfold ltOf cfL
  by_cases h1 : cmpL x.1 y.1 < 0
  · rw [decide_eq_true (h.1 h1)]; simp [h1]
  · rw [decide_eq_false (fun h2 => h1 (h.2 h2))]; simp [h1]
theorem swoL : SWO (ltOf cfL) where
  irrefl x := by rw [ltL]; simp
  trans x y z h1 h2 := by
    rw [ltL] at *
    simp only [decide_eq_true_eq] at *
    omega
  ntrans x y z h1 h2 := by
    rw [ltL] at *
    simp only [decide_eq_false_iff_not] at *
    omega
theorem totL (x y : LitT) (h1 : ltOf cfL x y = false) (h2 : ltOf cfL y x = false) : x = y := by
  rw [ltL] at h1 h2
  simp only [decide_eq_false_iff_not] at h1 h2
  exact Subtype.ext (by omega)
end Go.Proofs.Ytiadnifbjdnflaa
