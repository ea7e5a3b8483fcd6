/- The store of clauses: made, counted, told. -/
import Derived.Test.YtiadnifbjdnflaaZ2
import Derived.Test.YtiadnifbjdnflaaNorm
namespace Go.Proofs.Ytiadnifbjdnflaa
open Go Go.RowKit Go.Maps

set_option maxRecDepth 100000 in
set_option maxHeartbeats 1600000 in
theorem new32 (W : World) : Calls Try.prog 32 #[] W fun e w' => ∃ O, e = .returned (.pointer (some ⟨O, 0, none⟩)) ∧ W.heap.size ≤ O ∧ (∃ K, StoC w' K O [] 0 ∧ (∀ b, K b ≠ 0 → W.heap.size ≤ b ∧ K b ≤ 4)) ∧ Below W.heap.size W w' := by
  have HM := Lib.hid (FMap.made W 9)
  have HB := Lib.hid (show Below W.heap.size W ((W.alloc (.map #[] 0)).alloc (.cells #[.slice none 0 0, .map (some W.heap.size), .int .i64 0] 46)) from (below1 W _).alloc (by simp) _)
  have HS := Lib.hid (show ∃ K, StoC ((W.alloc (.map #[] 0)).alloc (.cells #[.slice none 0 0, .map (some W.heap.size), .int .i64 0] 46)) K (W.heap.size + 1) [] 0 ∧ (∀ b, K b ≠ 0 → W.heap.size ≤ b ∧ K b ≤ 4) from by
    refine ⟨fun b => if b = W.heap.size + 1 then 1 else if b = W.heap.size then 2 else 0, ⟨fun k hk => ?_, by simp, ⟨.slice none 0 0, W.heap.size, 0, fun _ => none, by simp [go_sem], by simp [go_sem], by simp [go_sem], by simp, HM.out.later (below1 _ _), Nat.le_refl _, fun kl => rfl, Rows.nil _ _ _⟩, fun o => by simp [go_sem]⟩, fun b hb => ?_⟩
    · simp only [World.size_alloc] at hk
      show (if k = W.heap.size + 1 then 1 else if k = W.heap.size then 2 else 0) = 0
      rw [if_neg (by omega), if_neg (by omega)]
    · by_cases h1 : b = W.heap.size + 1
      · subst h1; exact ⟨by omega, by simp⟩
      · by_cases h2 : b = W.heap.size
        · subst h2; exact ⟨Nat.le_refl _, by simp⟩
        · simp [h1, h2] at hb)
  have hmm := @run_makeMap Try.prog
  go_enter Try.func32, Try.ntmps32
  go_wp2_with fail
  exact bodyPost_ret (v := .pointer (some ⟨W.heap.size + 1, 0, none⟩)) (by simp [results, Try.results32, go_sem]) rfl ⟨_, rfl, by omega, HS.out, HB.out⟩
section
variable {W : World} {K : Nat → Nat} {O : Nat} {cl : List (List Int)} {top : Int}
set_option maxRecDepth 100000 in
set_option maxHeartbeats 1600000 in
theorem len35 (h : StoC W K O cl top) : Calls Try.prog 35 #[.pointer (some ⟨O, 0, none⟩)] W fun e w' => e = .returned (.int .i64 (cl.length : Int)) ∧ w' = W := by
  obtain ⟨v0, m, nm, f, h0, h1, h2, h3, h4, h5, h6, h7⟩ := h.ob
  obtain ⟨p, z, rfl⟩ := h7.shape
  clear h7 h6 h5 h4 h h1 h2 h3
  go_enter Try.func35, Try.ntmps35
  go_wp2_with fail
  exact bodyPost_ret (v := .int .i64 (cl.length : Int)) (by simp [results, Try.results35, go_sem]) rfl ⟨rfl, rfl⟩
set_option maxRecDepth 100000 in
set_option maxHeartbeats 1600000 in
theorem atoms36 (h : StoC W K O cl top) : Calls Try.prog 36 #[.pointer (some ⟨O, 0, none⟩)] W fun e w' => e = .returned (.int .i64 top) ∧ w' = W := by
  obtain ⟨v0, m, nm, f, h0, h1, h2, h3, h4, h5, h6, h7⟩ := h.ob
  clear h7 h6 h5 h4 h h1 h0 h3
  go_enter Try.func36, Try.ntmps36
  go_wp2_with fail
  exact bodyPost_ret (v := .int .i64 top) (by simp [results, Try.results36, go_sem]) rfl ⟨rfl, rfl⟩
set_option maxRecDepth 100000 in
set_option maxHeartbeats 1600000 in
theorem has58 (h : StoC W K O cl top) (s : ByteArray) (hs : s.size ≤ 1000000) : Calls Try.prog 58 #[.pointer (some ⟨O, 0, none⟩), .string s] W fun e w' => e = .returned (.bool (idxOf cl (keyS s) 0).isSome) ∧ w' = W := by
  obtain ⟨v0, m, nm, f, h0, h1, h2, h3, h4, h5, h6, h7⟩ := h.ob
  have hlk := h4.look_ok K9 Try.underlying44 (z := .int .i64 0) (by kernel_rfl) (key9 s (by unfold maxLen; omega))
  rw [h6] at hlk
  obtain ⟨g, hg⟩ : ∃ g, g = idxOf cl (keyS s) 0 := ⟨_, rfl⟩
  rw [← hg] at hlk ⊢
  clear h7 h6 h5 h4 h h2 h0 h3 hg
  cases g with
  | none =>
    simp only [Option.isSome_none] at hlk ⊢
    go_enter Try.func58, Try.ntmps58
    go_wp2_with fail
    exact bodyPost_ret (v := .bool false) (by simp [results, Try.results58, go_sem]) rfl ⟨rfl, rfl⟩
  | some i =>
    simp only [Option.isSome_some] at hlk ⊢
    go_enter Try.func58, Try.ntmps58
    go_wp2_with fail
    exact bodyPost_ret (v := .bool true) (by simp [results, Try.results58, go_sem]) rfl ⟨rfl, rfl⟩
end
end Go.Proofs.Ytiadnifbjdnflaa
