/- Orders of the sort, part 4. -/
import Derived.Test.YtgmkcdpbkcojnabGreatM0
namespace Go.Proofs.YtgmkcdpbkcojnabGreat
open Go Go.RowKit
theorem part3 : sortedOf (((Ab.perms keys0).drop 72).take 24) = true := by kernel_rfl
end Go.Proofs.YtgmkcdpbkcojnabGreat
