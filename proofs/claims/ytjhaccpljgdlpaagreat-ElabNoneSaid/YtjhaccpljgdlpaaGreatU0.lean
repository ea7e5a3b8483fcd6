/- Texts of trees, plain: what may be written, how it is written, how deep it is. -/
import Derived.Test.YtjhaccpljgdlpaaGreatT0
namespace Go.Proofs.YtjhaccpljgdlpaaGreat
open Go Go.RowKit

set_option maxRecDepth 100000 in
theorem fo_len_zero {x : Fo} (h : x.len = 0) : x = .nil := by
  cases x with
  | nil => rfl
  | cons => simp [Fo.len] at h
/-- all texts take at most so much. -/
def szB (B : Nat) : Fo → Prop
  | .nil => True
  | .cons _ _ s _ x r => s.size ≤ B ∧ szB B x ∧ szB B r
end Go.Proofs.YtjhaccpljgdlpaaGreat

