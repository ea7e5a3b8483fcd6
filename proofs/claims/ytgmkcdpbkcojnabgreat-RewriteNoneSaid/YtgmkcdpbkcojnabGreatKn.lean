/- What is known of the packages: the closed run, its sort told ahead. -/
import Derived.Test.YtgmkcdpbkcojnabGreatM1
import Derived.Test.YtgmkcdpbkcojnabGreatM2
import Derived.Test.YtgmkcdpbkcojnabGreatM3
import Derived.Test.YtgmkcdpbkcojnabGreatM4
import Derived.Test.YtgmkcdpbkcojnabGreatM5
namespace Go.Proofs.YtgmkcdpbkcojnabGreat
open Go Go.RowKit
theorem sorts_all : Ab.orders (Ab.reqA Tryz.prog Ab.noHook 100000 300) 33 [slice0] 478 490 22 (Ab.perms keys0) = some (.tup [], sorted0) := by
  have hv : Ab.aSame (.tup []) (.tup []) = true := by kernel_rfl
  have hr : Ab.asSame sorted0 sorted0 = true := by kernel_rfl
  rw [Ab.five_parts (Ab.perms keys0)]
  exact Ab.orders_append hv hr (Ab.ordersB_spec part0) (Ab.orders_append hv hr (Ab.ordersB_spec part1) (Ab.orders_append hv hr (Ab.ordersB_spec part2) (Ab.orders_append hv hr (Ab.ordersB_spec part3) (Ab.ordersB_spec part4))))
noncomputable def memo0 : Ab.Memo := Ab.memoSort 33 slice0 478 490 22 keys0 (.tup []) sorted0
theorem memo_ok : Ab.MemoOk Tryz.prog memo0 := Ab.memoSort_ok (by kernel_rfl) (Ab.named_of (by kernel_rfl)) sorts_all
theorem known_true : Ab.topS Tryz.prog Ab.noHook memo0 100000 300 7 [] = true := by kernel_rfl
theorem known_any (w : World) : Calls Tryz.prog 7 #[] w fun e w' => e = .returned (.bool true) ∧ Below w.heap.size w w' :=
  Ab.topS_sound (by kernel_rfl) (Ab.named_of (by kernel_rfl)) Ab.noHooks memo_ok known_true (xs := []) .nil w
end Go.Proofs.YtgmkcdpbkcojnabGreat
