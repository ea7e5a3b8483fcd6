/- Names that may be; copies. -/
import Derived.Test.YtkjmmdffelhkiaaS3
namespace Go.Proofs.Ytkjmmdffelhkiaa
open Go Go.RowKit Go.Maps

set_option maxRecDepth 100000 in
set_option maxHeartbeats 4000000 in
theorem builtIn_any (s : ByteArray) (w : World) : Calls Try.prog 90 #[.string s] w fun e w' => SomeB w e w' := by
  go_enter Try.func90, Try.ntmps90
  go_wp2
  all_goals (go_ret; exact ⟨_, rfl, rfl⟩)
set_option maxRecDepth 100000 in
set_option maxHeartbeats 4000000 in
theorem validName_any (s : ByteArray) (w : World) (hs : s.size ≤ maxLen) : Calls Try.prog 59 #[.string s] w fun e w' => SomeB w e w' := by
  unfold maxLen at hs
  by_cases h0 : s.size = 0
  · have hs : s = ⟨#[]⟩ := by
      apply ByteArray.ext
      exact Array.eq_empty_of_size_eq_zero h0
    subst hs
    go_enter Try.func59, Try.ntmps59
    go_wp2
    all_goals (go_ret; exact ⟨_, rfl, rfl⟩)
  · have hp : 0 < s.size := by omega
    go_enter Try.func59, Try.ntmps59
    go_wp2
    all_goals (go_ret; exact ⟨_, rfl, rfl⟩)
end Go.Proofs.Ytkjmmdffelhkiaa
