/- TermsFull holds: for every number a store takes numerals until it is full, refuses one more, and tells again what is there. It has no condition. -/
import Derived.Test.YtkjmmdffelhkiaaKit
import Derived.Test.YtkjmmdffelhkiaaT14
import Derived.ChangeMaps5
namespace Go.Proofs.Ytkjmmdffelhkiaa
open Go Go.ChangeShapes Go.WideShapes Go.ChangeAt Go.WideMaps Go.WideElems Go.RowKit Go.Joins Go.ChangeMaps

set_option maxRecDepth 100000 in
theorem ctfull_lifted (os : Os) (started : os.Started) (H : Type) (enc : TypeId × Value → H) :
    ReturnsInHanded {} Try.checked os 11 .any (Rows.termsFullSpec.pre6 enc Try.prog Try.f11 Rows.termsFullRow.domain false) (Rows.termsFullSpec.post enc Try.prog Try.f11 false true false false) := by
  refine returnsInHanded_of_change (C := Try.checked) own started (by kernel_rfl) Try.func11
    (ChangeSpec.witness6 (enc := enc) (C := Try.checked) false ⟨#[], #[.int .i64 0], []⟩ 8 (by kernel_rfl) (by kernel_rfl) (by kernel_rfl) (by kernel_rfl)) ?_
  intro W base args ds gs before hval0 hW _ _
  obtain ⟨argl⟩ := args
  have hval : ∀ (j : Nat) t v, Try.f11.params[j]? = some t → (⟨argl⟩ : Array Value)[j]? = some v → Value.okWide Try.prog W .any base t v := hval0
  have hW' := hW
  obtain ⟨p, q, hA0, hV, rfl, hfz, hnd⟩ := hW
  have hA : DataW.TrodAll enc Try.prog W 0 (fun _ => true) true Try.f11.params.toList argl ds p := hA0
  rw [Try.params11] at hA hval
  have hA0 : DataW.TrodAll enc Try.prog W 0 (fun _ => true) true [2] argl ds p := hA
  obtain ⟨v0, vr0, d0, dr0, p0, pr0, rfl, rfl, rfl, h0, hA1⟩ := trodAll_cons hA0
  obtain ⟨rfl, rfl, rfl⟩ := trodAll_nil hA1
  obtain ⟨rfl, rfl⟩ := trodVars_none hV
  obtain ⟨x0, rfl, rfl, rfl, wx0⟩ := open_int Try.underlying2 (hval 0 2 v0 rfl rfl) h0
  simp only [List.append_nil] at hW' hA
  have hlt := fun x hx => hW'.lt x hx
  have hx0 := bounds_i64' wx0
  refine (full_any x0 W hx0).mono fun e W' ⟨he, hb⟩ => ?_
  subst he
  exact ⟨_, rfl, post_of_below (pa := _) (pv := []) hW' (fun _ _ _ => trodAll_mk1 (shut_bool Try.underlying4 _)) (fun sp hsp => trodAll_stays _ _ _ _ hA (by rw [show Try.f11.params.toList = [2] by rw [Try.params11]]; intro t ht; simp at ht; rcases ht with rfl <;> exact ⟨by kernel_rfl, by decide +kernel⟩) hb (fun x hx => absurd hx (by simp)) (fun x hx => absurd hx (by simp))) (fun _ _ => rfl) (by simp) hb (ok_one (by kernel_rfl) rfl (okWide_bool_mk Try.underlying4 _))⟩

theorem ctfull_holds : Rows.TermsFullSaid :=
  OpenClaim.holds_of_wide 11 Try.f11 rfl rfl rfl rfl rfl rfl rfl ⟨rfl, rfl, rfl, rfl, rfl⟩ rfl rfl rfl rfl rfl (by kernel_rfl) Try.func11 (by kernel_rfl)
    (of_decide_eq_true (by kernel_rfl)) (by unfold Func.isWrapper; first | (rw [if_pos (by decide +kernel)]; kernel_rfl) | (rw [if_neg (by decide +kernel)]; exact ⟨rfl, rfl⟩))
    (fun os started H enc _ => ctfull_lifted os started H enc)
end Go.Proofs.Ytkjmmdffelhkiaa
