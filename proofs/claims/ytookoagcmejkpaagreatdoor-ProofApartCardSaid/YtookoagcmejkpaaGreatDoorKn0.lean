/- The classes of bytes: a closed run. -/
import Derived.Test.YtookoagcmejkpaaGreatDoorJ3
import Derived.Test.YtookoagcmejkpaaGreatDoorJ4
namespace Go.Proofs.YtookoagcmejkpaaGreatDoor
open Go Go.RowKit
def clsN : List Int := [0,0,0,0,0,0,0,0,0,17,17,0,0,17,0,0,0,0,0,0,0,0,0,0,0,0,0,0,0,0,0,0,17,18,16,16,18,18,18,16,16,16,18,18,16,18,18,18,30,30,30,30,30,30,30,30,30,30,16,16,18,18,18,18,18,26,26,26,26,26,26,18,18,18,18,18,18,18,18,18,18,18,18,18,18,18,18,18,18,18,18,16,16,16,18,18,16,26,26,26,26,26,26,18,18,18,18,18,18,18,18,18,18,18,18,18,18,18,18,18,18,18,18,16,16,16,18,0,16,16,16,16,16,16,16,16,16,16,16,16,16,16,16,16,16,16,16,16,16,16,16,16,16,16,16,16,16,16,16,16,16,16,16,16,16,16,16,16,16,16,16,16,16,16,16,16,16,16,16,16,16,16,16,16,16,16,16,16,16,16,16,16,16,16,16,16,16,16,16,16,16,16,16,16,16,16,16,16,16,16,16,16,16,16,16,16,16,16,16,16,16,16,16,16,16,16,16,16,16,16,16,16,16,16,16,16,16,16,16,16,16,16,16,16,16,16,16,16,16,16,16,16,16,16,16,16]
def clsV : List Value := clsN.map fun n => Value.int .u8 n
noncomputable def classesB : Bool :=
 match Ab.reqA Tryz.prog Ab.noHook 100000 300 (.enter 121 []) ⟨.lf, 0⟩ with
 | some (.agg l, _) => Ab.asSame l (clsV.map Ab.AV.flat)
 | _ => false
theorem classes_true : classesB = true := by kernel_rfl
theorem flats_of {ρ : Ab.Rn} : ∀ {l : List Value} {xs : List Value}, Ab.VRs ρ (l.map Ab.AV.flat) xs → xs = l
 | [], _, h => by cases h; rfl
 | v :: l, _, h => by
  cases h with
  | cons h1 h2 => cases h1; rw [flats_of h2]
theorem flats_to {ρ : Ab.Rn} : ∀ (l : List Value), Ab.VRs ρ (l.map Ab.AV.flat) l
 | [] => .nil
 | v :: l => .cons (.flat v) (flats_to l)
theorem classes_any (w : World) : Calls Tryz.prog 121 #[] w fun e w' => e = .returned (.agg clsV.toArray) ∧ Below w.heap.size w w' := by
 have h := classes_true
 unfold classesB at h
 split at h
 ·rename_i l A' hr
  have hl := Ab.asSame_spec h
  subst hl
  have hs : Ab.Sim Tryz.prog (fun _ => none) (⟨.lf, 0⟩ : Ab.AW).live w := ⟨fun n ao h => by simp [Ab.AW.live, Ab.AW.get, Ab.Tr.get_lf] at h, fun n m a b l l' h => by simp [Ab.AW.live, Ab.AW.get, Ab.Tr.get_lf] at h⟩
  refine (Ab.req_sound (by kernel_rfl) (Ab.named_of (by kernel_rfl)) Ab.noHooks 100000 300 _ _ _ _ hr _ w hs (fun _ _ _ => rfl) [] .nil).mono ?_
  rintro e w' ⟨x, ρ', rfl, h1, h2, h3⟩
  cases h1 with
  | agg h1 =>
   rw [flats_of h1]
   exact ⟨rfl, h3.os, h3.tape, h3.output, h3.size, fun k hk => h3.keep k hk fun n ao l h => by simp [Ab.AW.live, Ab.AW.get, Ab.Tr.get_lf] at h⟩
 ·cases h
end Go.Proofs.YtookoagcmejkpaaGreatDoor
