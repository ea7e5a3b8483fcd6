/- ProofTexts holds: for any steps the law returns true, and its argument reads as before. It holds under its listed tables, which the card ties to the text of the program. -/
import Derived.Test.YtookoagcmejkpaaGreatDoorJ3
import Derived.Test.YtookoagcmejkpaaGreatDoorJ32
namespace Go.Proofs.YtookoagcmejkpaaGreatDoor
set_option maxRecDepth 100000
open Go Go.ChangeShapes Go.WideShapes Go.ChangeAt Go.WideMaps Go.WideElems Go.RowKit Go.Joins
theorem qjr (os : Os) (started : os.Started) (H : Type) (enc : TypeId × Value -> H) :
  ReturnsInHanded {} Tryz.checked os 5 .any (fun w args => (Rows.proofTextsSpec.pre enc Tryz.prog Tryz.f5 [] false w args /\ laidMetH Tryz.prog listed w) /\ sizedMet enc Tryz.prog Tryz.f5 (OpenSpec.ofChange Rows.proofTextsSpec) false w args)
   (Rows.proofTextsSpec.post enc Tryz.prog Tryz.f5 false true false false) := by
 refine qgj (C := Tryz.checked) (X := fun w _ => laidMetH Tryz.prog listed w) (fun _ _ _ hh h => h.of_heap hh) own started (by kernel_rfl) Tryz.func5
  (ChangeSpec.witness_shaped (enc := enc) (C := Tryz.checked) (os := os) (X := fun w _ => laidMetH Tryz.prog listed w) false (World.laidAll Tryz.prog os listed) #[.slice none 0 0] 8 (World.laidAll_os _ _ _)
   (World.shaped_of_ZipB (by kernel_rfl) (by kernel_rfl)) (by kernel_rfl) (by kernel_rfl) (by kernel_rfl)
   (by rw [MakeChecks.laidMetH_plain _ _ _ (by kernel_rfl)]; exact laidMet_laidAll _ (by kernel_rfl) (by kernel_rfl))) ?_
 intro W base args ds gs before hval0 hW hsz hsh hL;obtain ⟨argl⟩ := args;have hval : ∀ (j : Nat) t v, Tryz.f5.params[j]? = some t -> (⟨argl⟩ : Array Value)[j]? = some v -> Value.okWide Tryz.prog W .any base t v := hval0;have hW' := hW;obtain ⟨p, q, hA0, hV, rfl, hfz, hnd⟩ := hW;have hA : DataW.TrodAll enc Tryz.prog W 0 (fun _ => true) true Tryz.f5.params.toList argl ds p := hA0;rw [Tryz.params5] at hA hval hsz;have hA0 : DataW.TrodAll enc Tryz.prog W 0 (fun _ => true) true [47] argl ds p := hA;obtain ⟨v0, vr0, d0, dr0, p0, pr0, rfl, rfl, rfl, h0, hA1⟩ := trodAll_cons hA0;obtain ⟨rfl, rfl, rfl⟩ := trodAll_nil hA1;obtain ⟨rfl, rfl⟩ := trodVars_none hV;simp only [List.append_nil] at hW' hA;have hlt := fun x hx => hW'.lt x hx
 obtain ⟨q0, c0, l0, rfl, hc0, hn0, hr0⟩ := qln (hval 0 47 v0 rfl rfl) h0;refine (law5 l0 q0 c0 W hr0 hc0 (Nat.le_trans hc0 hn0) (qqk hL) (fun w hb => qtc w (qak (qqk hL) hb) ((qgq hsh).later hb)) (qgq hsh)).mono fun e W' ⟨he, hb⟩ => ?_
 subst he;exact ⟨_, rfl, qg9 (pa := _) (pv := []) hW' (fun _ _ _ => trodAll_mk1 (shut_bool Tryz.underlying4 _)) (fun sp hsp => qg2 _ _ _ _ hA (by rw [show Tryz.f5.params.toList = [47] by rw [Tryz.params5]]; intro t ht; simp at ht; subst ht; exact ⟨by kernel_rfl, by decide +kernel⟩) hb (fun x hx => hlt x (by simpa using hx)) (fun x hx => hsp x (by simpa using hx))) (fun _ _ => rfl) (by simp) hb (ok_one (by kernel_rfl) rfl (okWide_bool_mk Tryz.underlying4 _))⟩

theorem ql2 : Rows.ProofTextsSaid :=
 OpenClaim.holds_of_wide 5 Tryz.f5 rfl rfl rfl rfl rfl rfl rfl ⟨rfl, rfl, rfl, rfl, rfl⟩ rfl rfl rfl rfl rfl (by kernel_rfl) Tryz.func5 (by kernel_rfl)
  (of_decide_eq_true (by kernel_rfl)) (by unfold Func.isWrapper; first | (rw [if_pos (by decide +kernel)]; kernel_rfl) | (rw [if_neg (by decide +kernel)]; exact ⟨rfl, rfl⟩))
  (fun os started H enc _ => qjr os started H enc)

theorem card_holds5 : Rows.ProofTextsCardSaid :=
 Claim7.holds_tied_plain_at .later [] [.data, .data, .data, .data, .pinned] true (true, "af736217b01084e96bd2864c9f6aafc5db1bae3edeb485bc52cbdf7260eb6dfa") false
  ql2 (fun _ h => by cases h) (by kernel_rfl) (fun _ h => by cases h) proofTexts_row_tie rfl ⟨rfl, rfl⟩ (by kernel_rfl) rfl
  (fun f fn hf hfn => by
   obtain rfl : f = 5 := Option.some.inj ((show Tryz.prog.funcNamed "jurist/juristlaw15.ProofTexts" = some 5 by kernel_rfl).symm.trans hf) |>.symm
   obtain rfl : fn = Tryz.f5 := (Option.some.inj (Tryz.func5.symm.trans hfn)).symm
   exact ⟨by kernel_rfl, fun j t ht => by
    rw [Tryz.params5] at ht;have hm : t ∈ [47] := by simpa using Array.mem_of_getElem? ht
    have hall : ([47].all fun u => !Tryz.prog.wantsStandIn u) = true := by kernel_rfl
    exact (show Tryz.prog.wantsStandIn t = false by simpa using List.all_eq_true.1 hall t hm)⟩)
  (by kernel_rfl)
end Go.Proofs.YtookoagcmejkpaaGreatDoor
