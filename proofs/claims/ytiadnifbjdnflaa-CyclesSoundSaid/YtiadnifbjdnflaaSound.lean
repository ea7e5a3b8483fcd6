/- CyclesSound holds: for every atoms, literals and values the law returns true, and its arguments read as before. It has no condition. -/
import Derived.Test.YtiadnifbjdnflaaRead2
import Derived.Test.YtiadnifbjdnflaaSoundWalk
namespace Go.Proofs.Ytiadnifbjdnflaa
open Go Go.ChangeShapes Go.WideShapes Go.ChangeAt Go.WideMaps Go.WideElems Go.RowKit Go.Joins

theorem cells2s : Try.prog.cellsOf 2 = 1 := by kernel_rfl
theorem sound_any (p : Option Addr) (nA cA : Nat) (K A B C : Nat → Int) (q : Option Addr) (n c : Nat) (V : Nat → Int) (r : Option Addr) (m cp : Nat) (Vv : Nat → Int) (w : World) (hA : AtomsIn w p nA K A B C) (hnA : nA ≤ 9223372036854775807) (hC : ∀ i, i < nA → I64 (C i)) (hV : LitsIn w q n V) (hn : n ≤ 9223372036854775807) (hI : ∀ i, i < n → I64 (V i)) (hW : LitsIn w r m Vv) (hm : m ≤ 9223372036854775807) :
    Calls Try.prog 13 #[.slice p nA cA, .slice q n c, .slice r m cp] w fun e w' => e = .returned (.bool true) ∧ Below w.heap.size w w' := by
  by_cases h : 1000 < nA ∨ (nA ≤ 1000 ∧ 300 < n) ∨ (nA ≤ 1000 ∧ n ≤ 300 ∧ 1000 < m)
  · exact sound_out p nA cA q n c r m cp w h hnA hn hm
  · exact sound_in p nA cA K A B C q n c V r m cp Vv w hA (by omega) hC hV (by omega) hI hW (by omega)
set_option maxRecDepth 100000 in
theorem sound_lifted (os : Os) (started : os.Started) (H : Type) (enc : TypeId × Value → H) :
    ReturnsInHanded {} Try.checked os 13 .any (Rows.cyclesSoundSpec.pre6 enc Try.prog Try.f13 Rows.cyclesSoundRow.domain false) (Rows.cyclesSoundSpec.post enc Try.prog Try.f13 false true false false) := by
  refine returnsInHanded_of_change (C := Try.checked) own started (by kernel_rfl) Try.func13
    (ChangeSpec.witness6 (enc := enc) (C := Try.checked) false ⟨#[], #[.slice none 0 0, .slice none 0 0, .slice none 0 0], []⟩ 8 (by kernel_rfl) (by kernel_rfl) (by kernel_rfl) (by kernel_rfl)) ?_
  intro W base args ds gs before hval0 hW _ _
  have hval : ∀ (j : Nat) t v, Try.f13.params[j]? = some t → args[j]? = some v → Value.okWide Try.prog W .any base t v := hval0
  have hW' := hW
  obtain ⟨p, q, hA0, hV, rfl, hfz, hnd⟩ := hW
  have hA : DataW.TrodAll enc Try.prog W 0 (fun _ => true) true Try.f13.params.toList args.toList ds p := hA0
  rw [Try.params13] at hA hval
  obtain ⟨v0, v1, v2, d0, d1, d2, p0, p1, p2, rfl, rfl, rfl, h0, h1, h2⟩ := trodAll_three hA
  obtain ⟨rfl, rfl⟩ := trodVars_none hV
  obtain ⟨a0, m0, c0, rfl⟩ := okWide_slice Try.underlying54 (hval 0 54 v0 rfl rfl)
  obtain ⟨a1, m1, c1, rfl⟩ := okWide_slice Try.underlying22 (hval 1 22 v1 rfl rfl)
  obtain ⟨a2, m2, c2, rfl⟩ := okWide_slice Try.underlying65 (hval 2 65 v2 rfl rfl)
  simp only [List.append_nil] at hW'
  have hlt := fun x hx => hW'.lt x hx
  obtain ⟨hm0, K, A, B, C, hC, hK⟩ := read_atoms h0
  obtain ⟨hm1, V, hI, hV1⟩ := read_nums Try.underlying22 Try.underlying30 cells30 h1
  obtain ⟨hm2, Vv, _, hV2⟩ := read_nums Try.underlying65 Try.underlying2 cells2s h2
  refine (sound_any a0 m0 c0 K A B C a1 m1 c1 V a2 m2 c2 Vv W hK hm0 hC hV1 hm1 hI hV2 hm2).mono fun e W' ⟨he, hb⟩ => ?_
  subst he
  exact ⟨_, rfl, post_of_below (pa := _) (pv := []) hW' (fun _ _ _ => trodAll_mk1 (shut_bool Try.underlying4 _)) (fun sp hsp => trodAll_stays _ _ _ _ hA (by rw [show Try.f13.params.toList = [54, 22, 65] by rw [Try.params13]]; intro t ht; simp at ht; rcases ht with rfl | rfl | rfl <;> exact ⟨by kernel_rfl, by decide +kernel⟩) hb (fun x hx => hlt x (by simpa using hx)) (fun x hx => hsp x (by simpa using hx))) (fun _ _ => rfl) (by simp) hb (ok_one (by kernel_rfl) rfl (okWide_bool_mk Try.underlying4 _))⟩

theorem sound_holds : Rows.CyclesSoundSaid :=
  OpenClaim.holds_of_wide 13 Try.f13 rfl rfl rfl rfl rfl rfl rfl ⟨rfl, rfl, rfl, rfl, rfl⟩ rfl rfl rfl rfl rfl (by kernel_rfl) Try.func13 (by kernel_rfl)
    (of_decide_eq_true (by kernel_rfl)) (by unfold Func.isWrapper; first | (rw [if_pos (by decide +kernel)]; kernel_rfl) | (rw [if_neg (by decide +kernel)]; exact ⟨rfl, rfl⟩))
    (fun os started H enc _ => sound_lifted os started H enc)
end Go.Proofs.Ytiadnifbjdnflaa
