/- Without a store there are no values. -/
import Derived.Test.YtgmkcdpbkcojnacGreatDoorW2
namespace Go.Proofs.YtgmkcdpbkcojnacGreatDoor
open Go Go.RowKit Go.WideShapes Go.ChangeShapes Go.WideElems Go.Deep Go.Joins

def NilP (e : Ending) : Prop := ∃ s, e = .returned (.tuple #[.string s, .int .i64 1])
set_option maxRecDepth 100000 in
set_option maxHeartbeats 1600000 in
theorem value_nil (x0 x1 x2 x3 x4 : Value) (w : World) :
    Calls Tryz.prog 6 #[.pointer none, .agg #[x0, x1, x2, x3, x4]] w fun e w' => NilP e ∧ Below w.heap.size w w' := by
  go_enter Tryz.func6, Tryz.ntmps6
  go_wp2_with fail
  exact bodyPost_ret (v := .tuple #[.string ⟨#[]⟩, .int .i64 1]) (by simp [results, Tryz.results6, go_sem]) rfl ⟨⟨_, rfl⟩, below_alloc1 _ _⟩
set_option maxRecDepth 100000 in
set_option maxHeartbeats 1600000 in
theorem values_nil (w : World) :
    Calls Tryz.prog 7 #[.pointer none, .slice none 0 0, .slice none 0 0] w fun e w' => NilP e ∧ Below w.heap.size w w' := by
  go_enter Tryz.func7, Tryz.ntmps7
  go_wp2_with fail
  exact bodyPost_ret (v := .tuple #[.string ⟨#[]⟩, .int .i64 1]) (by simp [results, Tryz.results7, go_sem]) rfl ⟨⟨_, rfl⟩, Below.refl _ _⟩
set_option maxRecDepth 100000 in
set_option maxHeartbeats 1600000 in
theorem model_nil (x0 x1 : Value) (w : World) :
    Calls Tryz.prog 8 #[.pointer none, .agg #[x0, x1]] w fun e w' => NilP e ∧ Below w.heap.size w w' := by
  go_enter Tryz.func8, Tryz.ntmps8
  go_wp2_with fail
  exact bodyPost_ret (v := .tuple #[.string ⟨#[]⟩, .int .i64 1]) (by simp [results, Tryz.results8, go_sem]) rfl ⟨⟨_, rfl⟩, below_alloc1 _ _⟩
end Go.Proofs.YtgmkcdpbkcojnacGreatDoor
