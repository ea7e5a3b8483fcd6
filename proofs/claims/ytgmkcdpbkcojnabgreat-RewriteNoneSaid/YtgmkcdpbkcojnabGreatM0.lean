/- The sort that known() asks for: its row's numbers, and what they are when sorted. -/
import Derived.Test.YtgmkcdpbkcojnabGreatKit
import Derived.Test.YtgmkcdpbkcojnabGreatAb20
namespace Go.Proofs.YtgmkcdpbkcojnabGreat
open Go Go.RowKit
def keys0 : List Ab.AV := [.flat (.int .i64 6), .flat (.int .i64 5), .flat (.int .i64 3), .flat (.int .i64 4), .flat (.int .i64 0)]
def sorted0 : List Ab.AV := [.flat (.int .i64 0), .flat (.int .i64 3), .flat (.int .i64 4), .flat (.int .i64 5), .flat (.int .i64 6)]
def slice0 : Ab.AV := .sl 478 0 5 5 false
noncomputable def sortedOf (ls : List (List Ab.AV)) : Bool := Ab.ordersB Tryz.prog 100000 300 33 slice0 478 490 22 (.tup []) sorted0 ls
end Go.Proofs.YtgmkcdpbkcojnabGreat
