/- RewriteNone holds: for every term the law returns true, and its argument reads as before. It has no condition. -/
import Derived.Test.YtgmkcdpbkcojnabGreatKn
namespace Go.Proofs.YtgmkcdpbkcojnabGreat
open Go Go.ChangeShapes Go.WideShapes Go.ChangeAt Go.WideMaps Go.WideElems Go.RowKit Go.Joins

theorem bounds_i64' {n : Int} (h : (Lit.int .i64 n).wf = true) : -9223372036854775808 ≤ n ∧ n ≤ 9223372036854775807 := by
  simpa [Lit.wf, IntKind.min, IntKind.max, IntKind.signed, IntKind.bits] using h
theorem at0 : Ab.topA Tryz.prog (Ab.hook 7) 100000 300 3 [.flat (.int .i64 0)] = true := by kernel_rfl
theorem at1 : Ab.topA Tryz.prog (Ab.hook 7) 100000 300 3 [.flat (.int .i64 1)] = true := by kernel_rfl
theorem at2 : Ab.topA Tryz.prog (Ab.hook 7) 100000 300 3 [.flat (.int .i64 2)] = true := by kernel_rfl
theorem atLow : Ab.topA Tryz.prog (Ab.hook 7) 100000 300 3 [.rng (-9223372036854775808) (-1)] = true := by kernel_rfl
theorem atHigh : Ab.topA Tryz.prog (Ab.hook 7) 100000 300 3 [.rng 3 9223372036854775807] = true := by kernel_rfl
theorem law_of {a : Ab.AV} {x : Int} (h : Ab.topA Tryz.prog (Ab.hook 7) 100000 300 3 [a] = true) (hx : Ab.VR (fun _ => none) a (.int .i64 x)) (w : World) :
    Calls Tryz.prog 3 #[.int .i64 x] w fun e w' => e = .returned (.bool true) ∧ Below w.heap.size w w' :=
  Ab.top_sound (by kernel_rfl) (Ab.named_of (by kernel_rfl)) (Ab.hooks_of known_any) h (xs := [.int .i64 x]) (.cons hx .nil) w
theorem law_any (x : Int) (hl : -9223372036854775808 ≤ x) (hh : x ≤ 9223372036854775807) (w : World) :
    Calls Tryz.prog 3 #[.int .i64 x] w fun e w' => e = .returned (.bool true) ∧ Below w.heap.size w w' := by
  have hc : x = 0 ∨ x = 1 ∨ x = 2 ∨ x ≤ -1 ∨ 3 ≤ x := by omega
  rcases hc with rfl | rfl | rfl | hc | hc
  · exact law_of at0 (.flat _) w
  · exact law_of at1 (.flat _) w
  · exact law_of at2 (.flat _) w
  · exact law_of atLow (.rng hl hc) w
  · exact law_of atHigh (.rng hc hh) w

set_option maxRecDepth 100000 in
theorem law_lifted (os : Os) (started : os.Started) (H : Type) (enc : TypeId × Value → H) :
    ReturnsInHanded {} Tryz.checked os 3 .any (Rows.rewriteNoneSpec.pre6 enc Tryz.prog Tryz.f3 Rows.rewriteNoneRow.domain false) (Rows.rewriteNoneSpec.post enc Tryz.prog Tryz.f3 false true false false) := by
  refine returnsInHanded_of_change (C := Tryz.checked) own started (by kernel_rfl) Tryz.func3
    (ChangeSpec.witness6 (enc := enc) (C := Tryz.checked) false ⟨#[], #[.int .i64 0], []⟩ 8 (by kernel_rfl) (by kernel_rfl) (by kernel_rfl) (by kernel_rfl)) ?_
  intro W base args ds gs before hval0 hW _ _
  obtain ⟨argl⟩ := args
  have hval : ∀ (j : Nat) t v, Tryz.f3.params[j]? = some t → (⟨argl⟩ : Array Value)[j]? = some v → Value.okWide Tryz.prog W .any base t v := hval0
  have hW' := hW
  obtain ⟨p, q, hA0, hV, rfl, hfz, hnd⟩ := hW
  have hA : DataW.TrodAll enc Tryz.prog W 0 (fun _ => true) true Tryz.f3.params.toList argl ds p := hA0
  rw [Tryz.params3] at hA hval
  have hA0 : DataW.TrodAll enc Tryz.prog W 0 (fun _ => true) true [22] argl ds p := hA
  obtain ⟨v0, vr0, d0, dr0, p0, pr0, rfl, rfl, rfl, h0, hA1⟩ := trodAll_cons hA0
  obtain ⟨rfl, rfl, rfl⟩ := trodAll_nil hA1
  obtain ⟨rfl, rfl⟩ := trodVars_none hV
  obtain ⟨x0, rfl, rfl, rfl, wx0⟩ := open_int Tryz.underlying22 (hval 0 22 v0 rfl rfl) h0
  simp only [List.append_nil] at hW' hA
  have hlt := fun x hx => hW'.lt x hx
  have hx0 := bounds_i64' wx0
  refine (law_any x0 hx0.1 hx0.2 W).mono fun e W' ⟨he, hb⟩ => ?_
  subst he
  exact ⟨_, rfl, post_of_below (pa := _) (pv := []) hW' (fun _ _ _ => trodAll_mk1 (shut_bool Tryz.underlying4 _)) (fun sp hsp => trodAll_stays _ _ _ _ hA (by rw [show Tryz.f3.params.toList = [22] by rw [Tryz.params3]]; intro t ht; simp at ht; rcases ht with rfl <;> exact ⟨by kernel_rfl, by decide +kernel⟩) hb (fun x hx => hlt x (by simp at hx)) (fun x hx => hsp x (by simp at hx))) (fun _ _ => rfl) (by simp) hb (ok_one (by kernel_rfl) rfl (okWide_bool_mk Tryz.underlying4 _))⟩

theorem law_holds : Rows.RewriteNoneSaid :=
  OpenClaim.holds_of_wide 3 Tryz.f3 rfl rfl rfl rfl rfl rfl rfl ⟨rfl, rfl, rfl, rfl, rfl⟩ rfl rfl rfl rfl rfl (by kernel_rfl) Tryz.func3 (by kernel_rfl)
    (of_decide_eq_true (by kernel_rfl)) (by unfold Func.isWrapper; first | (rw [if_pos (by decide +kernel)]; kernel_rfl) | (rw [if_neg (by decide +kernel)]; exact ⟨rfl, rfl⟩))
    (fun os started H enc _ => law_lifted os started H enc)
end Go.Proofs.YtgmkcdpbkcojnabGreat
