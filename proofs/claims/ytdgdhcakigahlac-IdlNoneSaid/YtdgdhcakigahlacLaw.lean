/- IdlNone holds: for all arguments the law returns true, and its arguments read as before. It has no condition. -/
import Derived.Test.YtdgdhcakigahlacKit
import Derived.Test.YtdgdhcakigahlacAb19
namespace Go.Proofs.Ytdgdhcakigahlac
open Go Go.ChangeShapes Go.WideShapes Go.ChangeAt Go.WideMaps Go.WideElems Go.RowKit Go.Joins

theorem arg_any {P : Program} {ρ : Ab.Rn} {w : World} {r : Reach} {base : Nat} {t : TypeId} {v : Value} (h : Value.okWide P w r base t v) (ha : Ab.isAggA P t = some false) : Ab.VR ρ .any v := by
  refine .any ?_
  unfold Value.okWide at h
  unfold Ab.isAggA at ha
  split at h <;> first | exact cell_one h | (rename_i e; simp [e] at ha)
theorem arg_agg {P : Program} {ρ : Ab.Rn} {w : World} {r : Reach} {base n : Nat} {t : TypeId} {v : Value} (h : Value.okWide P w r base t v) (ha : Ab.isAggA P t = some true) (hn : P.cellsOf t = n) : Ab.VR ρ (.agg (List.replicate n .any)) v := by
  have key : ∃ cs, v = .agg cs ∧ cs.size = P.cellsOf t ∧ Row.okWide P w r base t cs := by
    unfold Value.okWide at h
    unfold Ab.isAggA at ha
    split at h <;> first | exact h | (rename_i h1 h2; split at ha <;> first | (rename_i e; first | exact absurd e (h1 _) | exact absurd e (h2 _ _)) | cases ha)
  obtain ⟨cs, rfl, hs, ts, h1, h2, h3⟩ := key
  obtain ⟨l⟩ := cs
  have hl : l.length = n := by rw [← hn, ← hs]; rfl
  refine Ab.VR.agg (Ab.VRs.of_get (by rw [hl, List.length_replicate]) fun i a e => ?_)
  have hi : i < n := by have := (List.getElem?_eq_some_iff.1 e).1; simpa using this
  have ha' : a = .any := List.eq_of_mem_replicate (List.mem_of_getElem? e)
  subst ha'
  obtain ⟨u, _, h4⟩ := h3 i (l[i]'(by omega)) (by simp)
  exact ⟨l[i]'(by omega), List.getElem?_eq_getElem (by omega), .any (cell_one h4)⟩

theorem law_true : Ab.topA Try.prog Ab.noHook 100000 300 3 [.any, .agg (List.replicate 4 .any), .any] = true := by kernel_rfl
theorem law_any (vs : List Value) (hv : Ab.VRs (fun _ => none) [.any, .agg (List.replicate 4 .any), .any] vs) (w : World) : Calls Try.prog 3 vs.toArray w fun e w' => e = .returned (.bool true) ∧ Below w.heap.size w w' :=
  Ab.top_sound (by kernel_rfl) (Ab.named_of (by kernel_rfl)) Ab.noHooks law_true hv w

set_option maxRecDepth 100000 in
theorem law_lifted (os : Os) (started : os.Started) (H : Type) (enc : TypeId × Value → H) :
    ReturnsInHanded {} Try.checked os 3 .any (Rows.idlNoneSpec.pre6 enc Try.prog Try.f3 Rows.idlNoneRow.domain false) (Rows.idlNoneSpec.post enc Try.prog Try.f3 false true false false) := by
  refine returnsInHanded_of_change (C := Try.checked) own started (by kernel_rfl) Try.func3
    (ChangeSpec.witness6 (enc := enc) (C := Try.checked) false ⟨#[], #[.int .i64 0, .agg #[.int .u8 0, .int .i64 0, .int .i64 0, .int .i64 0], .int .i64 0], []⟩ 8 (by kernel_rfl) (by kernel_rfl) (by kernel_rfl) (by kernel_rfl)) ?_
  intro W base args ds gs before hval0 hW _ _
  obtain ⟨argl⟩ := args
  have hval : ∀ (j : Nat) t v, Try.f3.params[j]? = some t → (⟨argl⟩ : Array Value)[j]? = some v → Value.okWide Try.prog W .any base t v := hval0
  have hW' := hW
  obtain ⟨p, q, hA0, hV, rfl, hfz, hnd⟩ := hW
  have hA : DataW.TrodAll enc Try.prog W 0 (fun _ => true) true Try.f3.params.toList argl ds p := hA0
  rw [Try.params3] at hA hval
  have hA0 : DataW.TrodAll enc Try.prog W 0 (fun _ => true) true [22, 25, 3] argl ds p := hA
  obtain ⟨v0, vr0, d0, dr0, p0, pr0, rfl, rfl, rfl, h0, hA1⟩ := trodAll_cons hA0
  obtain ⟨v1, vr1, d1, dr1, p1, pr1, rfl, rfl, rfl, h1, hA2⟩ := trodAll_cons hA1
  obtain ⟨v2, vr2, d2, dr2, p2, pr2, rfl, rfl, rfl, h2, hA3⟩ := trodAll_cons hA2
  obtain ⟨rfl, rfl, rfl⟩ := trodAll_nil hA3
  obtain ⟨rfl, rfl⟩ := trodVars_none hV
  simp only [List.append_nil] at hW' hA
  have hlt := fun x hx => hW'.lt x hx
  refine (law_any [v0, v1, v2] (.cons (arg_any (hval 0 22 v0 rfl rfl) (by kernel_rfl)) (.cons (arg_agg (hval 1 25 v1 rfl rfl) (by kernel_rfl) (by kernel_rfl)) (.cons (arg_any (hval 2 3 v2 rfl rfl) (by kernel_rfl)) .nil))) W).mono fun e W' ⟨he, hb⟩ => ?_
  subst he
  exact ⟨_, rfl, post_of_below (pa := _) (pv := []) hW' (fun _ _ _ => trodAll_mk1 (shut_bool Try.underlying4 _)) (fun sp hsp => trodAll_stays _ _ _ _ hA (by rw [show Try.f3.params.toList = [22, 25, 3] by rw [Try.params3]]; intro t ht; simp at ht; rcases ht with rfl | rfl | rfl <;> exact ⟨by kernel_rfl, by decide +kernel⟩) hb (fun x hx => hlt x (by simpa using hx)) (fun x hx => hsp x (by simpa using hx))) (fun _ _ => rfl) (by simp) hb (ok_one (by kernel_rfl) rfl (okWide_bool_mk Try.underlying4 _))⟩

theorem law_holds : Rows.IdlNoneSaid :=
  OpenClaim.holds_of_wide 3 Try.f3 rfl rfl rfl rfl rfl rfl rfl ⟨rfl, rfl, rfl, rfl, rfl⟩ rfl rfl rfl rfl rfl (by kernel_rfl) Try.func3 (by kernel_rfl)
    (of_decide_eq_true (by kernel_rfl)) (by unfold Func.isWrapper; first | (rw [if_pos (by decide +kernel)]; kernel_rfl) | (rw [if_neg (by decide +kernel)]; exact ⟨rfl, rfl⟩))
    (fun os started H enc _ => law_lifted os started H enc)
end Go.Proofs.Ytdgdhcakigahlac
