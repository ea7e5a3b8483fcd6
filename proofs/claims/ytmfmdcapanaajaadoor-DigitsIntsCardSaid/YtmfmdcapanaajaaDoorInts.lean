/- DigitsInts holds: for any two integers of two words and any number the law returns true, and its arguments read as before. It holds under its row's listed tables, which the card ties to the program's text. -/
import Derived.Test.YtmfmdcapanaajaaDoorKit
import Derived.Test.YtmfmdcapanaajaaDoorIntsWalk
import Derived.Lib.SmallJoins
namespace Go.Proofs.YtmfmdcapanaajaaDoor
open Go Go.ChangeShapes Go.WideShapes Go.ChangeAt Go.WideMaps Go.WideElems Go.RowKit Go.Joins

theorem cells40 : Tryd.prog.cellsOf 40 = 2 := by kernel_rfl

set_option maxRecDepth 100000 in
theorem ints_lifted (os : Os) (started : os.Started) (H : Type) (enc : TypeId × Value → H) :
    ReturnsInHanded {} Tryd.checked os 5 .any (fun w args => (Rows.digitsIntsSpec.pre enc Tryd.prog Tryd.f5 [] false w args ∧ laidMetH Tryd.prog listed w) ∧ sizedMet enc Tryd.prog Tryd.f5 (OpenSpec.ofChange Rows.digitsIntsSpec) false w args)
      (Rows.digitsIntsSpec.post enc Tryd.prog Tryd.f5 false true false false) := by
  refine returnsInHanded_of_change_and (C := Tryd.checked) (X := fun w _ => laidMetH Tryd.prog listed w) (fun _ _ _ hh h => h.of_heap hh) own started (by kernel_rfl) Tryd.func5
    (ChangeSpec.witness_shaped (enc := enc) (C := Tryd.checked) (os := os) (X := fun w _ => laidMetH Tryd.prog listed w) false (World.doorLaid Tryd.prog 400 os) #[.agg #[.int .i64 0, .int .i64 0], .agg #[.int .i64 0, .int .i64 0], .int .i64 0] 8 rfl (World.shaped_of_RefB (by kernel_rfl) (by kernel_rfl)) (by kernel_rfl) (by kernel_rfl) (by kernel_rfl) (door_met os _)) ?_
  intro W base args ds gs before hval0 hW _ _ hL _
  have hval : ∀ (j : Nat) t v, Tryd.f5.params[j]? = some t → args[j]? = some v → Value.okWide Tryd.prog W .any base t v := hval0
  have hW' := hW
  obtain ⟨p, q, hA0, hV, rfl, hfz, hnd⟩ := hW
  have hA : DataW.TrodAll enc Tryd.prog W 0 (fun _ => true) true Tryd.f5.params.toList args.toList ds p := hA0
  rw [Tryd.params5] at hA hval
  obtain ⟨v0, v1, v2, d0, d1, d2, p0, p1, p2, rfl, rfl, rfl, h0, h1, h2⟩ := trodAll_three hA
  obtain ⟨rfl, rfl⟩ := trodVars_none hV
  obtain ⟨a0, a1, ya0, ya1, ma, rfl, rfl, rfl, ha0, ha1⟩ := open_agg2 Tryd.underlying40 (by kernel_rfl) cells40 (hval 0 40 v0 rfl rfl) h0
  obtain ⟨b0, b1, yb0, yb1, mb, rfl, rfl, rfl, hb0, hb1⟩ := open_agg2 Tryd.underlying40 (by kernel_rfl) cells40 (hval 1 40 v1 rfl rfl) h1
  obtain ⟨n, rfl, rfl, rfl, wn⟩ := open_int Tryd.underlying2 (hval 2 2 v2 rfl rfl) h2
  obtain ⟨ah, ea0, rfl, wa0⟩ := DataW.trod_int Tryd.underlying2 ha0
  obtain ⟨al, ea1, rfl, wa1⟩ := DataW.trod_int Tryd.underlying2 ha1
  obtain ⟨bh, eb0, rfl, wb0⟩ := DataW.trod_int Tryd.underlying2 hb0
  obtain ⟨bl, eb1, rfl, wb1⟩ := DataW.trod_int Tryd.underlying2 hb1
  cases ea0; cases ea1; cases eb0; cases eb1
  have htab := tab_of hL
  clear hA0 hval0
  simp only [List.append_nil] at hW'
  refine (ints_any ah al bh bl n W (bounds_i64 wa0).1 (bounds_i64 wa0).2 (bounds_i64 wa1).1 (bounds_i64 wa1).2 (bounds_i64 wb0).1 (bounds_i64 wb0).2 (bounds_i64 wb1).1 (bounds_i64 wb1).2 (bounds_i64 wn).1 (bounds_i64 wn).2 htab).mono fun e W' ⟨he, hb⟩ => ?_
  subst he
  have sh : ∀ (x y : Int) (wx : (Lit.int .i64 x).wf = true) (wy : (Lit.int .i64 y).wf = true) (sp : Nat → Bool), DataW.Trod enc Tryd.prog W' 0 sp true 40 (.agg #[.int .i64 x, .int .i64 y]) (.agg [.lit (.int .i64 x), .lit (.int .i64 y)]) [] := fun x y wx wy sp =>
    shut_agg2 (y0 := (.lit (.int .i64 x), [])) (y1 := (.lit (.int .i64 y), [])) Tryd.underlying40 (by kernel_rfl) cells40 ⟨1, by simp [DataW.trod, Tryd.underlying2, wx]⟩ ⟨1, by simp [DataW.trod, Tryd.underlying2, wy]⟩
  exact ⟨_, rfl, post_of_below (pa := []) (pv := []) hW' (fun _ _ _ => trodAll_mk1 (shut_bool Tryd.underlying4 _)) (fun sp _ => trodAll_mk3 (sh ah al wa0 wa1 sp) (sh bh bl wb0 wb1 sp) (shut_int Tryd.underlying2 wn)) (fun _ _ => rfl) rfl hb (ok_one (by kernel_rfl) rfl (okWide_bool_mk Tryd.underlying4 _))⟩

theorem ints_holds : Rows.DigitsIntsSaid :=
  OpenClaim.holds_of_wide 5 Tryd.f5 rfl rfl rfl rfl rfl rfl rfl ⟨rfl, rfl, rfl, rfl, rfl⟩ rfl rfl rfl rfl rfl (by kernel_rfl) Tryd.func5 (by kernel_rfl)
    (of_decide_eq_true (by kernel_rfl)) (by unfold Func.isWrapper; first | (rw [if_pos (by decide +kernel)]; kernel_rfl) | (rw [if_neg (by decide +kernel)]; exact ⟨rfl, rfl⟩))
    (fun os started H enc _ => ints_lifted os started H enc)

theorem ints_card : Rows.DigitsIntsCardSaid :=
  Claim7.holds_tied_plain_at .later [] [.data, .data, .data] true (true, "e8fe919c2de9e2caa74b3195a9f6178e36de646bb5a2baa0a19bd0ce1a0f843b") false
    ints_holds (fun _ h => by cases h) (by kernel_rfl) (fun _ h => by cases h) digitsInts_row_tie rfl ⟨rfl, rfl⟩ (by kernel_rfl) rfl
    (fun f fn hf hfn => by
      obtain rfl : f = 5 := Option.some.inj ((show Tryd.prog.funcNamed "jurist/juristlaw01.DigitsInts" = some 5 by kernel_rfl).symm.trans hf) |>.symm
      obtain rfl : fn = Tryd.f5 := (Option.some.inj (Tryd.func5.symm.trans hfn)).symm
      exact ⟨by kernel_rfl, fun j t ht => by
        rw [Tryd.params5] at ht
        have hm : t ∈ [40, 40, 2] := by simpa using Array.mem_of_getElem? ht
        have hall : ([40, 40, 2].all fun u => !Tryd.prog.wantsStandIn u) = true := by kernel_rfl
        exact (show Tryd.prog.wantsStandIn t = false by simpa using List.all_eq_true.1 hall t hm)⟩)
    (by kernel_rfl)
end Go.Proofs.YtmfmdcapanaajaaDoor
