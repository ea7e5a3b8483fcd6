/- Orders of the sort, part 3. -/
import Derived.Test.YtgmkcdpbkcojnabGreatM0
namespace Go.Proofs.YtgmkcdpbkcojnabGreat
open Go Go.RowKit
theorem part2 : sortedOf (((Ab.perms keys0).drop 48).take 24) = true := by kernel_rfl
end Go.Proofs.YtgmkcdpbkcojnabGreat
