/- A base: visit where nothing is watched; propagate. -/
import Derived.Test.YtgdncnalahdjeaaU8
import Derived.Deep.LoopGhost
namespace Go.Proofs.Ytgdncnalahdjeaa
open Go Go.RowKit Go.Maps

set_option maxRecDepth 100000 in
set_option maxHeartbeats 1600000 in
theorem visit_none {F : Prop} {W : World} {K0 : Nat → Kd} {a m : Nat} {db cl : List (List Int)} {wt : Int → List Nat} {T P T0 gv : List Int} {nx : Nat} {br : Bool} {gone : Int} (h : BaseAt W K0 a m (fun _ => False) cl wt T T nx br) (hv : Vis F db cl wt T P T0 gv gone [] (wt gone)) (hli : isLitB gone = true) (hcl : db.length ≤ 1000000) (hL : wt gone = []) :
    Calls Try.prog 87 #[.pointer (some ⟨a, 0, none⟩), .int .i64 gone] W fun e w' => ∃ ok, e = .returned (.bool ok) ∧ ∃ K' cl' wt' T', VisEnd F W K0 db cl T P T0 gv gone a m nx br ok w' K' cl' wt' T' := by
  obtain ⟨g0_, g1_, g2_⟩ := litB_in hli
  have hkey := Lib.hid (key30 (show I64 gone from ⟨by omega, by omega⟩))
  obtain ⟨D, ⟨n0, hD0⟩, hk, hvv⟩ := h.mp.has
  have hT9 := ownsMap_tight hD0
  have hf9 := few_keys hk (hD0.tidy law30)
  obtain ⟨v, ev, hrv⟩ := hvv gone hli (fun h => h)
  have hro := hrv.own
  rw [hL] at hro
  simp only [List.map_nil, List.length_nil] at hro
  have hml : maxLen = 9223372036854775807 := rfl
  obtain ⟨v0, v2, v3, ob, _, _, _⟩ := h.ob
  have c1W := ob.c1
  have H := Lib.hid h
  have HV := Lib.hid hv
  have HM := Lib.hid hT9
  have HEV := Lib.hid ev
  have HF9 := Lib.hid hf9
  have HRO := Lib.hid hro
  have HTG := Lib.hid hrv.tg
  have HLI := Lib.hid hli
  have fin : ∀ (v9 : Value) (w9 : World), RowAt W K0 (.wat gone) 3 v9 [] → w9.ownsMap Try.prog 54 heldR m (Maps.size D + 1) (D.put (.int .i64 gone) (.held v9)) → W.grownBy w9 (some m) → ∃ ok, Ending.returned (.bool true) = .returned (.bool ok) ∧ ∃ K' cl' wt' T', VisEnd F W K0 db cl T P T0 gv gone a m nx br ok w9 K' cl' wt' T' := by
    intro v9 w9 hr9 hM9 hg9
    have hm : K0 m = .map := H.out.mp.tag
    have hmp := MapAt.put2 (hl' := fun _ => False) (ys := []) H.out.mp HLI.out (fun y _ => .inr (fun h => h)) (Only.refl _ W) (Ext.refl K0 _) hr9 ⟨_, HM.out⟩ ⟨_, hM9⟩ hg9
    have ho : Only (fun k => K0 k = .map ∨ K0 k = .wat gone) W w9 := (Only.of_grown hg9).mono (fun k _ e => by cases e; exact .inl hm)
    obtain ⟨h2, s2⟩ := H.out.inM ho (Ext.refl K0 _) (fun k hk => H.out.fr k (Nat.le_trans ho.size hk)) hmp
    have h3 := h2.holes (hl' := fun _ => False) (wt' := wt) (fun x _ => ⟨fun h => h, by
      by_cases e : x = gone
      · subst e; rw [upW_same, hL]
      · rw [upW_ne _ _ e]⟩)
    have hv2 := HV.out
    rw [hL] at hv2
    exact ⟨true, rfl, K0, cl, wt, T, h3, s2.no, Alk.refl _, ⟨[], by simp⟩, ⟨[], [], hv2, fun _ => rfl⟩, fun h => by cases h⟩
  have FIN := Lib.hid fin
  clear fin
  clear h hv hk hvv hrv ob ev hD0 hT9 hf9 hli
  rcases hro.2 with ⟨hn1, _⟩ | ⟨g, cap, cur, hn1, _⟩
  · subst hn1
    have hr9 : RowAt W K0 (.wat gone) 3 (.slice none 0 0) [] := ⟨by simpa using HRO.out, HTG.out⟩
    have HR9 := Lib.hid hr9
    clear hr9 hro
    go_enter Try.func87, Try.ntmps87
    go_wp2
    go_step3
    go_wp2_with (at_lookup; refine wpList_lookup_held rfl _ _ 68 rfl 54 55 law30 Try.underlying68 _ (zero55 _) m _ D rfl HM.out _ _ rfl hkey.out _ HEV.out ?_)
    go_step3
    go_wp2
    refine wp_loop_rounds 1 ?_
    rw [rounds_succ]
    go_wp2_with (at_mapUpdate; refine wpList_update_held rfl _ _ _ 68 rfl 54 55 law30 Try.underlying68 m _ D rfl HM.out (by have := HF9.out; omega) _ _ _ rfl rfl hkey.out ?_)
    intro w9 hM9 hg9
    have HC := Lib.hid (FIN.out _ w9 HR9.out hM9 hg9)
    clear hM9 hg9 c1W
    go_wp2
    rw [Exit.noGoto_ret]
    go_ret
    exact HC.out
  · subst hn1
    have hr9 : RowAt W K0 (.wat gone) 3 (.slice (some ⟨g, 0, none⟩) 0 cap) [] := ⟨by simpa using HRO.out, HTG.out⟩
    have HR9 := Lib.hid hr9
    clear hr9 hro
    have hcap := (own_caps HRO.out).2
    have ii0 : (0 : Int) ≤ (cap : Int) := by omega
    go_enter Try.func87, Try.ntmps87
    go_wp2
    go_step3
    go_wp2_with (at_lookup; refine wpList_lookup_held rfl _ _ 68 rfl 54 55 law30 Try.underlying68 _ (zero55 _) m _ D rfl HM.out _ _ rfl hkey.out _ HEV.out ?_)
    go_step3
    go_wp2
    refine wp_loop_rounds 1 ?_
    rw [rounds_succ]
    go_wp2_with (at_mapUpdate; refine wpList_update_held rfl _ _ _ 68 rfl 54 55 law30 Try.underlying68 m _ D rfl HM.out (by have := HF9.out; omega) _ _ _ rfl rfl hkey.out ?_)
    intro w9 hM9 hg9
    have HC := Lib.hid (FIN.out _ w9 HR9.out hM9 hg9)
    clear hM9 hg9 c1W
    go_wp2
    rw [Exit.noGoto_ret]
    go_ret
    exact HC.out
end Go.Proofs.Ytgdncnalahdjeaa
