/- Orders of the sort, part 2. -/
import Derived.Test.YtgmkcdpbkcojnabGreatM0
namespace Go.Proofs.YtgmkcdpbkcojnabGreat
open Go Go.RowKit
theorem part1 : sortedOf (((Ab.perms keys0).drop 24).take 24) = true := by kernel_rfl
end Go.Proofs.YtgmkcdpbkcojnabGreat
