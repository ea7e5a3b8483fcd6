/- LinksMore holds: for every certificate and further vertices and atoms the law returns true, and its arguments read as before. It has no condition. -/
import Derived.Test.YtgdncnalahdjeaaRead4
import Derived.Test.YtgdncnalahdjeaaL25
namespace Go.Proofs.Ytgdncnalahdjeaa
open Go Go.ChangeShapes Go.WideShapes Go.ChangeAt Go.WideMaps Go.WideElems Go.RowKit Go.Joins

set_option maxRecDepth 100000 in
theorem more_lifted (os : Os) (started : os.Started) (H : Type) (enc : TypeId × Value → H) :
    ReturnsInHanded {} Try.checked os 15 .any (Rows.linksMoreSpec.pre6 enc Try.prog Try.f15 Rows.linksMoreRow.domain false) (Rows.linksMoreSpec.post enc Try.prog Try.f15 false true false false) := by
  refine returnsInHanded_of_change (C := Try.checked) own started (by kernel_rfl) Try.func15
    (ChangeSpec.witness6 (enc := enc) (C := Try.checked) false ⟨#[], #[.slice none 0 0, .slice none 0 0, .slice none 0 0, .slice none 0 0, .slice none 0 0], []⟩ 8 (by kernel_rfl) (by kernel_rfl) (by kernel_rfl) (by kernel_rfl)) ?_
  intro W base args ds gs before hval0 hW _ _
  obtain ⟨argl⟩ := args
  have hval : ∀ (j : Nat) t v, Try.f15.params[j]? = some t → (⟨argl⟩ : Array Value)[j]? = some v → Value.okWide Try.prog W .any base t v := hval0
  have hW' := hW
  obtain ⟨p, q, hA0, hV, rfl, hfz, hnd⟩ := hW
  have hA : DataW.TrodAll enc Try.prog W 0 (fun _ => true) true Try.f15.params.toList argl ds p := hA0
  rw [Try.params15] at hA hval
  have hA0 : DataW.TrodAll enc Try.prog W 0 (fun _ => true) true [46, 46, 47, 47, 48] argl ds p := hA
  obtain ⟨v0, vr0, d0, dr0, p0, pr0, rfl, rfl, rfl, h0, hA1⟩ := trodAll_cons hA0
  obtain ⟨v1, vr1, d1, dr1, p1, pr1, rfl, rfl, rfl, h1, hA2⟩ := trodAll_cons hA1
  obtain ⟨v2, vr2, d2, dr2, p2, pr2, rfl, rfl, rfl, h2, hA3⟩ := trodAll_cons hA2
  obtain ⟨v3, vr3, d3, dr3, p3, pr3, rfl, rfl, rfl, h3, hA4⟩ := trodAll_cons hA3
  obtain ⟨v4, vr4, d4, dr4, p4, pr4, rfl, rfl, rfl, h4, hA5⟩ := trodAll_cons hA4
  obtain ⟨rfl, rfl, rfl⟩ := trodAll_nil hA5
  obtain ⟨rfl, rfl⟩ := trodVars_none hV
  obtain ⟨a0, m0, c0, rfl⟩ := okWide_slice Try.underlying46 (hval 0 46 v0 rfl rfl)
  obtain ⟨a1, m1, c1, rfl⟩ := okWide_slice Try.underlying46 (hval 1 46 v1 rfl rfl)
  obtain ⟨a2, m2, c2, rfl⟩ := okWide_slice Try.underlying47 (hval 2 47 v2 rfl rfl)
  obtain ⟨a3, m3, c3, rfl⟩ := okWide_slice Try.underlying47 (hval 3 47 v3 rfl rfl)
  obtain ⟨a4, m4, c4, rfl⟩ := okWide_slice Try.underlying48 (hval 4 48 v4 rfl rfl)
  simp only [List.append_nil] at hW' hA
  have hlt := fun x hx => hW'.lt x hx
  obtain ⟨hm0, hc0, hz0, D0, hD0⟩ := read_verts h0
  obtain ⟨hm1, hc1, hz1, D1, hD1⟩ := read_verts h1
  obtain ⟨hm2, hc2, hz2, D2, hD2⟩ := read_atoms h2
  obtain ⟨hm3, hc3, hz3, D3, hD3⟩ := read_atoms h3
  obtain ⟨hm4, hc4, hz4, D4, hT4, hD4⟩ := read_links h4
  refine (more_any m0 D0 m1 D1 m2 D2 m3 D3 D4 m4 a0 c0 a1 c1 a2 c2 a3 c3 a4 c4 W hD0 hD1 hD2 hD3 hD4 (by omega) (by omega) (by omega) (by omega) (by omega) (fun h => by have := hz0 h; omega) (fun h => by have := hz1 h; omega) (fun h => by have := hz2 h; omega) (fun h => by have := hz3 h; omega) hT4).mono fun e W' ⟨he, hb⟩ => ?_
  subst he
  exact ⟨_, rfl, post_of_below (pa := _) (pv := []) hW' (fun _ _ _ => trodAll_mk1 (shut_bool Try.underlying4 _)) (fun sp hsp => trodAll_stays _ _ _ _ hA (by rw [show Try.f15.params.toList = [46, 46, 47, 47, 48] by rw [Try.params15]]; intro t ht; simp at ht; rcases ht with rfl | rfl | rfl <;> exact ⟨by kernel_rfl, by decide +kernel⟩) hb (fun x hx => hlt x (by simpa using hx)) (fun x hx => hsp x (by simpa using hx))) (fun _ _ => rfl) (by simp) hb (ok_one (by kernel_rfl) rfl (okWide_bool_mk Try.underlying4 _))⟩

theorem more_holds : Rows.LinksMoreSaid :=
  OpenClaim.holds_of_wide 15 Try.f15 rfl rfl rfl rfl rfl rfl rfl ⟨rfl, rfl, rfl, rfl, rfl⟩ rfl rfl rfl rfl rfl (by kernel_rfl) Try.func15 (by kernel_rfl)
    (of_decide_eq_true (by kernel_rfl)) (by unfold Func.isWrapper; first | (rw [if_pos (by decide +kernel)]; kernel_rfl) | (rw [if_neg (by decide +kernel)]; exact ⟨rfl, rfl⟩))
    (fun os started H enc _ => more_lifted os started H enc)
end Go.Proofs.Ytgdncnalahdjeaa
