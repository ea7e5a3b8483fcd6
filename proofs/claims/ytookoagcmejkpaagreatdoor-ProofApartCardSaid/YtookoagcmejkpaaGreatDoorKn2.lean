/- known(): a closed run, its joins and classes told ahead. -/
import Derived.Test.YtookoagcmejkpaaGreatDoorJ10
namespace Go.Proofs.YtookoagcmejkpaaGreatDoor
open Go Go.RowKit
theorem known_true : Ab.topS Tryz.prog Ab.noHook memoK 100000 300 8 [] = true := by kernel_rfl
theorem known_any (w : World) : Calls Tryz.prog 8 #[] w fun e w' => e = .returned (.bool true) ∧ Below w.heap.size w w' :=
 Ab.topS_sound (by kernel_rfl) (Ab.named_of (by kernel_rfl)) Ab.noHooks memoK_ok known_true (xs := []) .nil w
end Go.Proofs.YtookoagcmejkpaaGreatDoor
