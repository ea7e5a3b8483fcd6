/- Pairs of numbers held against each other. -/
import Derived.Test.YtgdncnalahdjeaaL3
import Derived.ChangeKeysEq
namespace Go.Proofs.Ytgdncnalahdjeaa
open Go Go.RowKit

theorem info3 : ∃ i0, Try.prog.info? 3 = some i0 := by
  have h : (Try.prog.info? 3).isSome = true := by kernel_rfl
  exact Option.isSome_iff_exists.1 h
theorem pair_equalIn (a b a' b' : Int) (w : World) : (Op.equalIn 10000 113 (.agg #[.int .i64 a, .int .i64 b]) (.agg #[.int .i64 a', .int .i64 b'])).run Try.prog w = .ok (a == a' && b == b') w := by
  have hu : Try.prog.underlying 113 = some (.array 2 3) := by kernel_rfl
  obtain ⟨i, hi⟩ := info3
  have hc : Try.prog.cellsOf 3 = 1 := by kernel_rfl
  have u3 := Try.underlying3
  have a3 := Try.isAgg3
  have z3 := Try.sizeOf3
  rw [show (10000 : Nat) = 9999 + 1 from rfl, Go.run_equalIn_array w 9999 _ _ hu hi]
  rw [hc, show List.range 2 = [0, 1] from rfl]
  simp only [Op.eqItems]
  go_simp
  by_cases h1 : a = a' <;> by_cases h2 : b = b' <;> simp [h1, h2]
theorem pair_eql (a b a' b' : Int) (w : World) : (binOp .eql 113 (.agg #[.int .i64 a, .int .i64 b]) (.agg #[.int .i64 a', .int .i64 b'])).run Try.prog w = .ok (.bool (a == a' && b == b')) w := by
  simp only [binOp, Op.equal, Op.maxDepth]
  go_simp
  rw [pair_equalIn]
  rfl
theorem pair_neq (a b a' b' : Int) (w : World) : (binOp .neq 113 (.agg #[.int .i64 a, .int .i64 b]) (.agg #[.int .i64 a', .int .i64 b'])).run Try.prog w = .ok (.bool (!(a == a' && b == b'))) w := by
  simp only [binOp, Op.equal, Op.maxDepth]
  go_simp
  rw [pair_equalIn]
  simp [Result.andThen]
end Go.Proofs.Ytgdncnalahdjeaa
