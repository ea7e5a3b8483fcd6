/- known(): a closed run. -/
import Derived.Test.YtdompkenblnjjaaGreatKit
import Derived.Test.YtdompkenblnjjaaGreatAb19
namespace Go.Proofs.YtdompkenblnjjaaGreat
open Go Go.RowKit

theorem known_true : Ab.topA Tryz.prog Ab.noHook 100000 300 5 [] = true := by kernel_rfl
theorem known_any (w : World) : Calls Tryz.prog 5 #[] w fun e w' => e = .returned (.bool true) ∧ Below w.heap.size w w' :=
  Ab.top_sound (by kernel_rfl) (Ab.named_of (by kernel_rfl)) Ab.noHooks known_true (xs := []) .nil w
end Go.Proofs.YtdompkenblnjjaaGreat
