/- The document's table: which names may be; any answer. -/
import Derived.Test.YtkjmmdffelhkiaaS16
namespace Go.Proofs.Ytkjmmdffelhkiaa
open Go Go.RowKit Go.Maps

set_option maxRecDepth 100000 in
set_option maxHeartbeats 1600000 in
theorem among_any (s t : ByteArray) (w : World) (ht : t.size ≤ 1000000) : Calls Try.prog 99 #[.string s, .string t] w fun e w' => SomeB w e w' := by
  go_enter Try.func99, Try.ntmps99
  go_wp2_with fail
  go_loop [5, 6] (fun f i => ∃ k g : Nat, k ≤ t.size + 1 ∧ g ≤ k ∧ f = .int .i64 g ∧ i = .int .i64 k) (fun _ i => (t.size + 1) - (intOf i).toNat)
  case atStart => exact ⟨0, 0, Nat.zero_le _, Nat.le_refl _, rfl, rfl⟩
  case round =>
    obtain ⟨k, g, hk, hg, rfl, rfl⟩ := hrel
    by_cases hlt : k ≤ t.size
    · have hk0 : (0 : Int) ≤ (k : Int) := by omega
      have hg0 : (0 : Int) ≤ (g : Int) := by omega
      have hgk : (g : Int) ≤ (k : Int) := by omega
      have hkt : (k : Int) ≤ (t.size : Int) := by omega
      by_cases he : k = t.size
      · have q1 : ((k : Int) == (t.size : Int)) = true := by simp; omega
        go_wp2_with fail
        all_goals first
          | (go_ret; exact ⟨_, rfl, rfl⟩)
          | (go_round
             case rel => exact ⟨k + 1, k + 1, by omega, Nat.le_refl _, by go_num, by go_num⟩
             case measure => simp [intOf]; omega)
      · have q1 : ((k : Int) == (t.size : Int)) = false := by simp; omega
        have hk1 : (k : Int) < (t.size : Int) := by omega
        have hkn : k < t.size := by omega
        go_wp2_with fail
        all_goals first
          | (go_ret; exact ⟨_, rfl, rfl⟩)
          | (go_round
             case rel => exact ⟨k + 1, k + 1, by omega, Nat.le_refl _, by go_num, by go_num⟩
             case measure => simp [intOf]; omega)
          | (go_round
             case rel => exact ⟨k + 1, g, by omega, by omega, rfl, by go_num⟩
             case measure => simp [intOf]; omega)
    · have hk1 : (t.size : Int) < (k : Int) := by omega
      go_wp2_with fail
      go_ret
      exact ⟨_, rfl, rfl⟩
set_option maxRecDepth 100000 in
set_option maxHeartbeats 4000000 in
theorem may_any (s : ByteArray) (b : Bool) (w : World) (hs : s.size ≤ 100000) : Calls Try.prog 86 #[.string s, .bool b] w fun e w' => SomeB w e w' := by
  by_cases h0 : s.size = 0
  · have hs : s = ⟨#[]⟩ := by
      apply ByteArray.ext
      exact Array.eq_empty_of_size_eq_zero h0
    subst hs
    go_enter Try.func86, Try.ntmps86
    go_wp2_with fail
    go_ret
    exact ⟨_, rfl, rfl⟩
  have hp : 0 < s.size := by omega
  have hA := fun t ht => among_any s t w ht
  by_cases h1 : 1000 < s.size
  · have q0 : ((s.size : Int) == 0) = false := by rw [beq_eq_false_iff_ne]; omega
    go_enter Try.func86, Try.ntmps86
    go_wp2_with fail
    go_ret
    exact ⟨_, rfl, rfl⟩
  have q0 : ((s.size : Int) == 0) = false := by rw [beq_eq_false_iff_ne]; omega
  go_enter Try.func86, Try.ntmps86
  go_wp2_with (refine (hA _ (by decide)).mono ?_; rintro e w' ⟨b1, rfl, rfl⟩)
  all_goals try (go_ret; exact ⟨_, rfl, rfl⟩)
  go_loop [5] (fun i => ∃ k : Nat, k ≤ s.size ∧ i = .int .i64 k) (fun i => s.size - (intOf i).toNat)
  case atStart => exact ⟨0, Nat.zero_le _, rfl⟩
  case round =>
    obtain ⟨k, hk, rfl⟩ := hrel
    by_cases hlt : k < s.size
    · have hk0 : (0 : Int) ≤ (k : Int) := by omega
      have hk1 : (k : Int) < (s.size : Int) := by omega
      go_wp2_with fail
      all_goals first
        | (go_ret; exact ⟨_, rfl, rfl⟩)
        | (go_round
           case rel => exact ⟨k + 1, by omega, by go_num⟩
           case measure => simp [intOf]; omega)
    · have hk1 : (s.size : Int) ≤ (k : Int) := by omega
      cases b
      all_goals
        go_wp2_with fail
        refine (hA _ (by decide)).mono ?_
        rintro e w2 ⟨b2, rfl, hw⟩
        obtain rfl := hw.symm
        go_wp2_with fail
        go_ret
        exact ⟨_, rfl, rfl⟩
end Go.Proofs.Ytkjmmdffelhkiaa
