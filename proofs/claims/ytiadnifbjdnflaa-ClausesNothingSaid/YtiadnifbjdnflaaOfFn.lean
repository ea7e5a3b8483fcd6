/- What Of tells, as a function of the literal. -/
import Derived.Test.YtiadnifbjdnflaaNorm
import Derived.Test.YtiadnifbjdnflaaOfWalk
namespace Go.Proofs.Ytiadnifbjdnflaa
open Go Go.RowKit

/-- whether a literal is of an atom of differences. -/
def okA (n : Nat) (K : Nat → Int) (x : Int) : Prop := x ≠ 0 ∧ x ≤ (n : Int) ∧ -(n : Int) ≤ x ∧ K (x.natAbs - 1) = 2
def eX (A B : Nat → Int) (x : Int) : Int := if 0 < x then A (x.natAbs - 1) else B (x.natAbs - 1)
def eC (C : Nat → Int) (x : Int) : Int := if 0 < x then C (x.natAbs - 1) else -C (x.natAbs - 1) - 1
theorem of_ok (p : Option Addr) (n c : Nat) (x : Int) (K A B C : Nat → Int) (w : World) (hA : AtomsIn w p n K A B C) (hn : n ≤ 1000000) (hC : ∀ i, i < n → I64 (C i)) (h : okA n K x) :
    Calls Try.prog 41 #[.slice p n c, .int .i64 x] w fun e w' => e = .returned (.tuple #[.agg #[.int .i64 (eX A B x), .int .i64 (eX B A x), .int .i64 (eC C x)], .int .i64 0]) ∧ Below w.heap.size w w' := by
  obtain ⟨h0, h1, h2, hK⟩ := h
  obtain ⟨b, off, rfl, ha⟩ := hA (by omega)
  have hk : x.natAbs - 1 < n := by omega
  by_cases hp : 0 < x
  · have e : x = ((x.natAbs - 1 : Nat) : Int) + 1 := by omega
    have := of_pos b off n c (x.natAbs - 1) K A B C w ha hk hn hK
    rw [← e] at this
    unfold eX eC
    rw [if_pos hp, if_pos hp, if_pos hp]
    exact this
  · have e : x = -(((x.natAbs - 1 : Nat) : Int) + 1) := by omega
    have := of_neg b off n c (x.natAbs - 1) K A B C w ha hk hn hK (hC _ hk).1 (hC _ hk).2
    rw [← e] at this
    unfold eX eC
    rw [if_neg hp, if_neg hp, if_neg hp]
    exact this
theorem of_bad (p : Option Addr) (n c : Nat) (x : Int) (K A B C : Nat → Int) (w : World) (hA : AtomsIn w p n K A B C) (hn : n ≤ 1000000) (l0 : -9223372036854775808 ≤ x) (l1 : x ≤ 9223372036854775807) (h : ¬ okA n K x) :
    Calls Try.prog 41 #[.slice p n c, .int .i64 x] w fun e w' => e = .returned (.tuple #[.agg #[.int .i64 0, .int .i64 0, .int .i64 0], .int .i64 2]) ∧ Below w.heap.size w w' := by
  by_cases ho : x = 0 ∨ (n : Int) < x ∨ x < -(n : Int)
  · exact of_out p n c x w (by omega) l0 l1 ho
  · obtain ⟨b, off, rfl, ha⟩ := hA (by omega)
    exact of_kind b off n c (x.natAbs - 1) x K A B C w ha (by omega) (by omega) (fun hK => h ⟨by omega, by omega, by omega, hK⟩) (by omega)
theorem eC_bd (C : Nat → Int) (n : Nat) (K : Nat → Int) (x : Int) (hC : ∀ i, i < n → I64 (C i)) (h : okA n K x) : I64 (eC C x) := by
  obtain ⟨h0, h1, h2, hK⟩ := h
  have := hC (x.natAbs - 1) (by omega)
  unfold I64 at *
  unfold eC
  split <;> omega
end Go.Proofs.Ytiadnifbjdnflaa
