/- Orders of the sort, part 5. -/
import Derived.Test.YtgmkcdpbkcojnabGreatM0
namespace Go.Proofs.YtgmkcdpbkcojnabGreat
open Go Go.RowKit
theorem part4 : sortedOf ((Ab.perms keys0).drop 96) = true := by kernel_rfl
end Go.Proofs.YtgmkcdpbkcojnabGreat
