/- A new table, a new store: some pointer. -/
import Derived.Test.YtjhaccpljgdlpaaGreatE2
namespace Go.Proofs.YtjhaccpljgdlpaaGreat
open Go Go.RowKit

noncomputable def newB (F : FuncId) : Bool :=
  match Ab.reqA Tryz.prog Ab.noHook 100000 300 (.enter F []) ⟨.lf, 0⟩ with
  | some (.ptr _ _, _) => true
  | _ => false
theorem new_any {F : FuncId} (h : newB F = true) (w : World) : Calls Tryz.prog F #[] w fun e w' => (∃ p, e = .returned (.pointer p)) ∧ Below w.heap.size w w' := by
  unfold newB at h
  split at h
  · rename_i n o A' hr
    have hs : Ab.Sim Tryz.prog (fun _ => none) (⟨.lf, 0⟩ : Ab.AW).live w := ⟨fun n ao h => by simp [Ab.AW.live, Ab.AW.get, Ab.Tr.get_lf] at h, fun n m a b l l' h => by simp [Ab.AW.live, Ab.AW.get, Ab.Tr.get_lf] at h⟩
    refine (Ab.req_sound (by kernel_rfl) (Ab.named_of (by kernel_rfl)) Ab.noHooks 100000 300 _ _ _ _ hr _ w hs (fun _ _ _ => rfl) [] .nil).mono ?_
    rintro e w' ⟨x, ρ', rfl, h1, h2, h3⟩
    cases h1 with
    | ptr o h1 =>
      exact ⟨⟨_, rfl⟩, h3.os, h3.tape, h3.output, h3.size, fun k hk => h3.keep k hk fun n ao l h => by simp [Ab.AW.live, Ab.AW.get, Ab.Tr.get_lf] at h⟩
  · cases h
theorem names6 : newB 6 = true := by kernel_rfl
theorem store7 : newB 7 = true := by kernel_rfl
end Go.Proofs.YtjhaccpljgdlpaaGreat
