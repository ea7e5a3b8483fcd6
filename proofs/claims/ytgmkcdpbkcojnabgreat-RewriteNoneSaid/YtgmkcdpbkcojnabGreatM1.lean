/- Orders of the sort, part 1. -/
import Derived.Test.YtgmkcdpbkcojnabGreatM0
namespace Go.Proofs.YtgmkcdpbkcojnabGreat
open Go Go.RowKit
theorem part0 : sortedOf ((Ab.perms keys0).take 24) = true := by kernel_rfl
end Go.Proofs.YtgmkcdpbkcojnabGreat
