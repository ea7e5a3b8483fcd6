/- ProofReads holds: for every tree the law returns true, and its argument reads as before. It holds under its listed tables, which the card ties to the text of the program. -/
import Derived.Test.YtookoagcmejkpaaGreatDoorJ3
import Derived.Test.YtookoagcmejkpaaGreatDoorJ33
import Derived.Test.YtookoagcmejkpaaGreatDoorKn2
namespace Go.Proofs.YtookoagcmejkpaaGreatDoor
set_option maxRecDepth 100000
open Go Go.ChangeShapes Go.WideShapes Go.ChangeAt Go.WideMaps Go.WideElems Go.RowKit Go.Joins
theorem law_lifted4 (os : Os) (started : os.Started) (H : Type) (enc : TypeId × Value -> H) :
  ReturnsInHanded {} Tryz.checked os 4 .any (fun w args => (Rows.proofReadsSpec.pre enc Tryz.prog Tryz.f4 [] false w args /\ laidMetH Tryz.prog listed w) /\ sizedMet enc Tryz.prog Tryz.f4 (OpenSpec.ofChange Rows.proofReadsSpec) false w args)
   (Rows.proofReadsSpec.post enc Tryz.prog Tryz.f4 false true false false) := by
 refine returnsInHanded_of_change_and (C := Tryz.checked) (X := fun w _ => laidMetH Tryz.prog listed w) (fun _ _ _ hh h => h.of_heap hh) own started (by kernel_rfl) Tryz.func4
  (ChangeSpec.witness_shaped (enc := enc) (C := Tryz.checked) (os := os) (X := fun w _ => laidMetH Tryz.prog listed w) false (World.laidAll Tryz.prog os listed) #[.agg #[.bool false, .int .u8 0, .string ByteArray.empty, .int .i64 0, .slice none 0 0]] 8 (World.laidAll_os _ _ _)
   (World.shaped_of_ZipB (by kernel_rfl) (by kernel_rfl)) (by kernel_rfl) (by kernel_rfl) (by kernel_rfl)
   (by rw [MakeChecks.laidMetH_plain _ _ _ (by kernel_rfl)]; exact laidMet_laidAll _ (by kernel_rfl) (by kernel_rfl))) ?_
 intro W base args ds gs before hval0 hW _ hsz hL _
 obtain ⟨argl⟩ := args
 have hval : ∀ (j : Nat) t v, Tryz.f4.params[j]? = some t -> (⟨argl⟩ : Array Value)[j]? = some v -> Value.okWide Tryz.prog W .any base t v := hval0
 have hW' := hW
 obtain ⟨p, q, hA0, hV, rfl, hfz, hnd⟩ := hW
 have hA : DataW.TrodAll enc Tryz.prog W 0 (fun _ => true) true Tryz.f4.params.toList argl ds p := hA0
 rw [Tryz.params4] at hA hval hsz
 have hA0 : DataW.TrodAll enc Tryz.prog W 0 (fun _ => true) true [35] argl ds p := hA
 obtain ⟨v0, vr0, d0, dr0, p0, pr0, rfl, rfl, rfl, h0, hA1⟩ := trodAll_cons hA0
 obtain ⟨rfl, rfl, rfl⟩ := trodAll_nil hA1
 obtain ⟨rfl, rfl⟩ := trodVars_none hV
 simp only [List.append_nil] at hW' hA
 have hlt := fun x hx => hW'.lt x hx
 have hw0 : ∀ n ∈ d0.weights Tryz.prog 35, n <= reachBytes := fun n hn => by
  have := List.all_eq_true.1 hsz _ (DataW.weights_mem_each (j := 0) (t := 35) (d := d0) rfl rfl n hn)
  simpa using this
 obtain ⟨l0, k0, s0, a0, q0, c0, x0, rfl, hc0, hn0, hs0, hx0, hz0⟩ := read_tree (hval 0 35 v0 rfl rfl) h0 hw0
 refine (law4 l0 k0 s0 a0 x0 q0 c0 _ W hx0 hc0 hn0 hs0 hz0 (tab_of hL) (fun w _ => known_any w)).mono fun e W' ⟨he, hb⟩ => ?_
 subst he
 exact ⟨_, rfl, post_of_below (pa := _) (pv := []) hW' (fun _ _ _ => trodAll_mk1 (shut_bool Tryz.underlying4 _)) (fun sp hsp => trodAll_stays _ _ _ _ hA (by rw [show Tryz.f4.params.toList = [35] by rw [Tryz.params4]]; intro t ht; simp at ht; subst ht; exact ⟨by kernel_rfl, by decide +kernel⟩) hb (fun x hx => hlt x (by simpa using hx)) (fun x hx => hsp x (by simpa using hx))) (fun _ _ => rfl) (by simp) hb (ok_one (by kernel_rfl) rfl (okWide_bool_mk Tryz.underlying4 _))⟩

theorem law_holds4 : Rows.ProofReadsSaid :=
 OpenClaim.holds_of_wide 4 Tryz.f4 rfl rfl rfl rfl rfl rfl rfl ⟨rfl, rfl, rfl, rfl, rfl⟩ rfl rfl rfl rfl rfl (by kernel_rfl) Tryz.func4 (by kernel_rfl)
  (of_decide_eq_true (by kernel_rfl)) (by unfold Func.isWrapper; first | (rw [if_pos (by decide +kernel)]; kernel_rfl) | (rw [if_neg (by decide +kernel)]; exact ⟨rfl, rfl⟩))
  (fun os started H enc _ => law_lifted4 os started H enc)

theorem card_holds4 : Rows.ProofReadsCardSaid :=
 Claim7.holds_tied_plain_at .later [] [.data, .data, .data, .data, .pinned] true (true, "af736217b01084e96bd2864c9f6aafc5db1bae3edeb485bc52cbdf7260eb6dfa") false
  law_holds4 (fun _ h => by cases h) (by kernel_rfl) (fun _ h => by cases h) proofReads_row_tie rfl ⟨rfl, rfl⟩ (by kernel_rfl) rfl
  (fun f fn hf hfn => by
   obtain rfl : f = 4 := Option.some.inj ((show Tryz.prog.funcNamed "jurist/juristlaw15.ProofReads" = some 4 by kernel_rfl).symm.trans hf) |>.symm
   obtain rfl : fn = Tryz.f4 := (Option.some.inj (Tryz.func4.symm.trans hfn)).symm
   exact ⟨by kernel_rfl, fun j t ht => by
    rw [Tryz.params4] at ht
    have hm : t ∈ [35] := by simpa using Array.mem_of_getElem? ht
    have hall : ([35].all fun u => !Tryz.prog.wantsStandIn u) = true := by kernel_rfl
    exact (show Tryz.prog.wantsStandIn t = false by simpa using List.all_eq_true.1 hall t hm)⟩)
  (by kernel_rfl)
end Go.Proofs.YtookoagcmejkpaaGreatDoor
