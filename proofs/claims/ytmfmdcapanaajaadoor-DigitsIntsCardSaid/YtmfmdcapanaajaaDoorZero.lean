/- Is a row of digits 0? -/
import Derived.Test.YtmfmdcapanaajaaDoorW4
import Derived.Laws.StructEq
import Derived.Tactics
import Derived.Tactics2
namespace Go.Proofs.YtmfmdcapanaajaaDoor
open Go Go.RowKit Go.Sort

theorem arr_equalIn (c0 c1 c2 c3 c4 c5 c6 c7 c8 c9 : Int) (w : World) : (Op.equalIn 10000 25 (.agg #[.int .i64 c0, .int .i64 c1, .int .i64 c2, .int .i64 c3, .int .i64 c4, .int .i64 c5, .int .i64 c6, .int .i64 c7, .int .i64 c8, .int .i64 c9]) (.agg #[.int .i64 0, .int .i64 0, .int .i64 0, .int .i64 0, .int .i64 0, .int .i64 0, .int .i64 0, .int .i64 0, .int .i64 0, .int .i64 0])).run Tryd.prog w = .ok ((c0 == 0) && (c1 == 0) && (c2 == 0) && (c3 == 0) && (c4 == 0) && (c5 == 0) && (c6 == 0) && (c7 == 0) && (c8 == 0) && (c9 == 0)) w := by
  have u2 := Tryd.underlying2
  have a2 := Tryd.isAgg2
  have z2 := Tryd.sizeOf2
  rw [show (10000 : Nat) = 9999 + 1 from rfl, Op.equalIn]
  simp only [Sem.run_bind, run_underlying Tryd.underlying25, Result.andThen_ok]
  simp only [Std.Legacy.Range.forIn_eq_forIn_range', Std.Legacy.Range.size, Nat.sub_zero, Nat.add_sub_cancel, Nat.div_one, List.range'_succ, List.range'_zero, List.forIn_cons, List.forIn_nil]
  go_simp
  repeat' split
  all_goals simp_all
theorem arr_eql (c0 c1 c2 c3 c4 c5 c6 c7 c8 c9 : Int) (w : World) : (binOp .eql 25 (.agg #[.int .i64 c0, .int .i64 c1, .int .i64 c2, .int .i64 c3, .int .i64 c4, .int .i64 c5, .int .i64 c6, .int .i64 c7, .int .i64 c8, .int .i64 c9]) (.agg #[.int .i64 0, .int .i64 0, .int .i64 0, .int .i64 0, .int .i64 0, .int .i64 0, .int .i64 0, .int .i64 0, .int .i64 0, .int .i64 0])).run Tryd.prog w = .ok (.bool ((c0 == 0) && (c1 == 0) && (c2 == 0) && (c3 == 0) && (c4 == 0) && (c5 == 0) && (c6 == 0) && (c7 == 0) && (c8 == 0) && (c9 == 0))) w := by
  rw [run_eql_struct, arr_equalIn]; rfl
set_option maxRecDepth 100000 in
theorem zero_any (c0 c1 c2 c3 c4 c5 c6 c7 c8 c9 : Int) (w : World) :
    Calls Tryd.prog 33 #[.agg #[.int .i64 c0, .int .i64 c1, .int .i64 c2, .int .i64 c3, .int .i64 c4, .int .i64 c5, .int .i64 c6, .int .i64 c7, .int .i64 c8, .int .i64 c9]] w fun e w' => e = .returned (.bool ((c0 == 0) && (c1 == 0) && (c2 == 0) && (c3 == 0) && (c4 == 0) && (c5 == 0) && (c6 == 0) && (c7 == 0) && (c8 == 0) && (c9 == 0))) ∧ Below w.heap.size w w' := by
  have A := fun W => arr_eql c0 c1 c2 c3 c4 c5 c6 c7 c8 c9 W
  go_enter Tryd.func33, Tryd.ntmps33
  go_wp2
  go_ret
  exact ⟨rfl, (Below.refl _ _).alloc (Nat.le_refl _) _⟩
end Go.Proofs.YtmfmdcapanaajaaDoor
