/- The classes and known(): closed runs. -/
import Derived.Test.YtlifankiljbdjaaDoorJP
import Derived.Test.YtlifankiljbdjaaDoorJA3
import Derived.Test.YtlifankiljbdjaaDoorJW1
namespace Go.Proofs.YtlifankiljbdjaaDoor
open Go Go.RowKit

def clsV : List Value := (List.range 256).map fun n => Value.int .u8 (clB (UInt8.ofNat n) : Int)
noncomputable def classesB : Bool :=
  match Ab.reqA Tryd.prog Ab.noHook 100000 300 (.enter 34 []) ⟨.lf, 0⟩ with
  | some (.agg l, _) => Ab.asSame l (clsV.map Ab.AV.flat)
  | _ => false
theorem classes_true : classesB = true := by kernel_rfl
theorem flats_of {ρ : Ab.Rn} : ∀ {l : List Value} {xs : List Value}, Ab.VRs ρ (l.map Ab.AV.flat) xs → xs = l
  | [], _, h => by cases h; rfl
  | v :: l, _, h => by
    cases h with
    | cons h1 h2 => cases h1; rw [flats_of h2]
theorem classes_any (w : World) : Calls Tryd.prog 34 #[] w fun e w' => e = .returned (.agg clsV.toArray) ∧ Below w.heap.size w w' := by
  have h := classes_true
  unfold classesB at h
  split at h
  · rename_i l A' hr
    have hl := Ab.asSame_spec h
    subst hl
    have hs : Ab.Sim Tryd.prog (fun _ => none) (⟨.lf, 0⟩ : Ab.AW).live w := ⟨fun n ao h => by simp [Ab.AW.live, Ab.AW.get, Ab.Tr.get_lf] at h, fun n m a b l l' h => by simp [Ab.AW.live, Ab.AW.get, Ab.Tr.get_lf] at h⟩
    refine (Ab.req_sound (by kernel_rfl) (Ab.named_of (by kernel_rfl)) Ab.noHooks 100000 300 _ _ _ _ hr _ w hs (fun _ _ _ => rfl) [] .nil).mono ?_
    rintro e w' ⟨x, ρ', rfl, h1, h2, h3⟩
    cases h1 with
    | agg h1 =>
      rw [flats_of h1]
      exact ⟨rfl, h3.os, h3.tape, h3.output, h3.size, fun k hk => h3.keep k hk fun n ao l h => by simp [Ab.AW.live, Ab.AW.get, Ab.Tr.get_lf] at h⟩
  · cases h
end Go.Proofs.YtlifankiljbdjaaDoor
