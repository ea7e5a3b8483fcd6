/- juristref18.Holds: does an edge hold by values? -/
import Derived.Test.YtiadnifbjdnflaaSum
import Derived.Deep.QuietTactic
import Derived.BigQuiet
namespace Go.Proofs.Ytiadnifbjdnflaa
open Go Go.RowKit

/-- numbers in memory. -/
def IntsAt (w : World) (b off n : Nat) (V : Nat → Int) : Prop := ∀ i, i < n → w.cell? ⟨b, off + i, none⟩ = some (.int .i64 (V i))
theorem IntsAt.later {W W' : World} {b off n : Nat} {V : Nat → Int} (h : IntsAt W b off n V) (hb : Below W.heap.size W W') : IntsAt W' b off n V := fun i hi => cell_later hb (h i hi)
theorem below_drewN (w : World) (n : Nat) : Below w.heap.size w (w.drewN n) := ⟨rfl, rfl, rfl, Nat.le_refl _, fun _ _ => rfl⟩

set_option maxRecDepth 100000 in
set_option maxHeartbeats 1000000 in
theorem holds_any (b off m cp xi yi : Nat) (c : Int) (V : Nat → Int) (w : World) (hV : IntsAt w b off m V) (hx : xi < m) (hy : yi < m) (hm : m ≤ 9223372036854775807) (d0 : -9223372036854775808 ≤ V xi - V yi) (d1 : V xi - V yi ≤ 9223372036854775807) :
    Calls Try.prog 47 #[.agg #[.int .i64 xi, .int .i64 yi, .int .i64 c], .slice (some ⟨b, off, none⟩) m cp] w fun e w' => e = .returned (.bool (decide (V xi - V yi ≤ c))) ∧ Below w.heap.size w w' := by
  have hv := hV.later (below1 w (.cells #[.int .i64 xi, .int .i64 yi, .int .i64 c] 56))
  have c0 := hv xi hx
  have c1 := hv yi hy
  have hB := below1 w (.cells #[.int .i64 xi, .int .i64 yi, .int .i64 c] 56)
  have hx1 : (xi : Int) < (m : Int) := by omega
  have hy1 : (yi : Int) < (m : Int) := by omega
  have hx0 : (0 : Int) ≤ (xi : Int) := by omega
  have hy0 : (0 : Int) ≤ (yi : Int) := by omega
  clear hV hv
  go_enter Try.func47, Try.ntmps47
  go_wp2
  go_quiet (fail)
  go_wp2
  go_ret
  exact ⟨rfl, hB.trans ((below_drewN _ _).mono hB.size)⟩
end Go.Proofs.Ytiadnifbjdnflaa
