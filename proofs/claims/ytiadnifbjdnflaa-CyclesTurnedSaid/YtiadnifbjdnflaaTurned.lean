/- CyclesTurned holds: for every atom and every numbers the law returns true, and its arguments read as before. It has no condition. -/
import Derived.Test.YtiadnifbjdnflaaKit
import Derived.Test.YtiadnifbjdnflaaKn4
import Derived.Test.YtiadnifbjdnflaaTurnedWalk
namespace Go.Proofs.Ytiadnifbjdnflaa
open Go Go.ChangeShapes Go.WideShapes Go.ChangeAt Go.WideMaps Go.WideElems Go.RowKit Go.Joins

theorem cells70 : Try.prog.cellsOf 70 = 4 := by kernel_rfl
theorem cells2 : Try.prog.cellsOf 2 = 1 := by kernel_rfl
theorem turned_any (k a b c : Int) (p : Option Addr) (m cp : Nat) (V : Nat → Int) (w : World) (hm : m ≤ 9223372036854775807)
    (hV : 0 < m → ∃ bk off, p = some ⟨bk, off, none⟩ ∧ IntsAt w bk off m V) :
    Calls Try.prog 14 #[.agg #[.int .u8 k, .int .i64 a, .int .i64 b, .int .i64 c], .slice p m cp] w fun e w' => e = .returned (.bool true) ∧ Below w.heap.size w w' := by
  by_cases h : k ≠ 2 ∨ a < 0 ∨ (m : Int) ≤ a ∨ b < 0 ∨ (m : Int) ≤ b ∨ 4611686018427387904 < c ∨ c < -4611686018427387904
  · exact turned_out k a b c p m cp w hm known_any h
  · obtain ⟨bk, off, rfl, hv⟩ := hV (by omega)
    obtain ⟨ai, rfl⟩ : ∃ ai : Nat, a = ai := ⟨a.toNat, by omega⟩
    obtain ⟨bi, rfl⟩ : ∃ bi : Nat, b = bi := ⟨b.toNat, by omega⟩
    obtain rfl : k = 2 := by omega
    exact turned_in ai bi c bk off m cp V w hv hm known_any (by omega) (by omega) (by omega) (by omega)

set_option maxRecDepth 100000 in
theorem turned_lifted (os : Os) (started : os.Started) (H : Type) (enc : TypeId × Value → H) :
    ReturnsInHanded {} Try.checked os 14 .any (Rows.cyclesTurnedSpec.pre6 enc Try.prog Try.f14 Rows.cyclesTurnedRow.domain false) (Rows.cyclesTurnedSpec.post enc Try.prog Try.f14 false true false false) := by
  refine returnsInHanded_of_change (C := Try.checked) own started (by kernel_rfl) Try.func14
    (ChangeSpec.witness6 (enc := enc) (C := Try.checked) false ⟨#[], #[.agg #[.int .u8 0, .int .i64 0, .int .i64 0, .int .i64 0], .slice none 0 0], []⟩ 8 (by kernel_rfl) (by kernel_rfl) (by kernel_rfl) (by kernel_rfl)) ?_
  intro W base args ds gs before hval0 hW _ _
  have hval : ∀ (j : Nat) t v, Try.f14.params[j]? = some t → args[j]? = some v → Value.okWide Try.prog W .any base t v := hval0
  have hW' := hW
  obtain ⟨p, q, hA0, hV, rfl, hfz, hnd⟩ := hW
  have hA : DataW.TrodAll enc Try.prog W 0 (fun _ => true) true Try.f14.params.toList args.toList ds p := hA0
  rw [Try.params14] at hA hval
  obtain ⟨v0, v1, d0, d1, p0, p1, rfl, rfl, rfl, h0, h1⟩ := trodAll_two hA
  obtain ⟨rfl, rfl⟩ := trodVars_none hV
  obtain ⟨x0, x1, x2, x3, y0, y1, y2, y3, n0, rfl, rfl, rfl, g0, g1, g2, g3⟩ := open_agg4 Try.underlying70 (by kernel_rfl) cells70 (hval 0 70 v0 rfl rfl) h0
  obtain ⟨k, e0, _, _⟩ := DataW.trod_int Try.underlying68 g0
  obtain ⟨a, e1, _, _⟩ := DataW.trod_int Try.underlying3 g1
  obtain ⟨b, e2, _, _⟩ := DataW.trod_int Try.underlying3 g2
  obtain ⟨c, e3, _, _⟩ := DataW.trod_int Try.underlying2 g3
  cases e0; cases e1; cases e2; cases e3
  obtain ⟨ad, m, cp, rfl⟩ := okWide_slice Try.underlying65 (hval 1 65 v1 rfl rfl)
  simp only [List.append_nil] at hW'
  have hlt := fun x hx => hW'.lt x hx
  have hm : m ≤ 9223372036854775807 ∧ ∃ V : Nat → Int, (0 < m → ∃ bk off, ad = some ⟨bk, off, none⟩ ∧ IntsAt W bk off m V) := by
    obtain ⟨fuel, hf⟩ := h1
    rcases open_ints Try.underlying65 Try.underlying2 cells2 hf with ⟨hcs, _⟩ | ⟨a', len', cap', zs, hcs, _, hl, hmx, hz, _, hcell, _⟩
    · simp [Value.cells] at hcs
      obtain ⟨rfl, rfl, rfl⟩ := hcs
      exact ⟨by omega, fun _ => 0, fun h => by omega⟩
    · simp [Value.cells] at hcs
      obtain ⟨rfl, rfl, rfl⟩ := hcs
      simp only [if_true] at hz
      have hml : maxLen = 9223372036854775807 := rfl
      refine ⟨by omega, fun i => zs.getD i 0, fun h => ?_⟩
      obtain ⟨bk, off, spot⟩ := a'
      have hspot : spot = none := by simpa [Addr.add] using World.cell?_spot (hcell 0 (by omega))
      subst hspot
      exact ⟨bk, off, rfl, fun i hi => by rw [← add_plain]; exact hcell i (by omega)⟩
  obtain ⟨hm, V, hV'⟩ := hm
  refine (turned_any k a b c ad m cp V W hm hV').mono fun e W' ⟨he, hb⟩ => ?_
  subst he
  exact ⟨_, rfl, post_of_below (pa := _) (pv := []) hW' (fun _ _ _ => trodAll_mk1 (shut_bool Try.underlying4 _)) (fun sp hsp => trodAll_stays _ _ _ _ hA (by rw [show Try.f14.params.toList = [70, 65] by rw [Try.params14]]; intro t ht; simp at ht; rcases ht with rfl | rfl <;> exact ⟨by kernel_rfl, by decide +kernel⟩) hb hlt hsp) (fun _ _ => rfl) (by simp) hb (ok_one (by kernel_rfl) rfl (okWide_bool_mk Try.underlying4 _))⟩

theorem turned_holds : Rows.CyclesTurnedSaid :=
  OpenClaim.holds_of_wide 14 Try.f14 rfl rfl rfl rfl rfl rfl rfl ⟨rfl, rfl, rfl, rfl, rfl⟩ rfl rfl rfl rfl rfl (by kernel_rfl) Try.func14 (by kernel_rfl)
    (of_decide_eq_true (by kernel_rfl)) (by unfold Func.isWrapper; first | (rw [if_pos (by decide +kernel)]; kernel_rfl) | (rw [if_neg (by decide +kernel)]; exact ⟨rfl, rfl⟩))
    (fun os started H enc _ => turned_lifted os started H enc)
end Go.Proofs.Ytiadnifbjdnflaa
