/- The order of literals, as the program asks it. -/
import Derived.Test.YtiadnifbjdnflaaMay
namespace Go.Proofs.Ytiadnifbjdnflaa
open Go Go.RowKit

/-- cmp.Compare. -/
def cmpI (x y : Int) : Int := if x < y then -1 else if y < x then 1 else 0
def absI (x : Int) : Int := max x (-x)
theorem absI_cases (x : Int) : (0 ≤ x ∧ absI x = x) ∨ (x < 0 ∧ absI x = -x) := by unfold absI; omega
/-- atoms first, and of one atom the literal before its negation. -/
def cmpL (x y : Int) : Int := if cmpI (absI x) (absI y) = 0 then cmpI y x else cmpI (absI x) (absI y)
theorem cmpI_cases (x y : Int) : (x < y ∧ cmpI x y = -1) ∨ (x = y ∧ cmpI x y = 0) ∨ (y < x ∧ cmpI x y = 1) := by
  unfold cmpI
  rcases Int.lt_trichotomy x y with h | h | h
  · exact .inl ⟨h, if_pos h⟩
  · exact .inr (.inl ⟨h, by rw [if_neg (by omega), if_neg (by omega)]⟩)
  · exact .inr (.inr ⟨h, by rw [if_neg (by omega), if_pos h]⟩)
set_option maxRecDepth 100000 in
set_option maxHeartbeats 800000 in
theorem compare_any (x y : Int) (w : World) : Calls Try.prog 66 #[.int .i64 x, .int .i64 y] w fun e w' => e = .returned (.int .i64 (cmpI x y)) ∧ w' = w := by
  rcases cmpI_cases x y with ⟨h, hc⟩ | ⟨h, hc⟩ | ⟨h, hc⟩
  · have q1 : decide (x < y) = true := by rw [decide_eq_true_eq]; exact h
    rw [hc]
    clear hc
    go_enter Try.func66, Try.ntmps66
    go_wp2
    go_ret
    exact ⟨rfl, rfl⟩
  · subst h
    rw [hc]
    clear hc
    go_enter Try.func66, Try.ntmps66
    go_wp2
    go_ret
    exact ⟨rfl, rfl⟩
  · have q1 : decide (x < y) = false := by rw [decide_eq_false_iff_not]; omega
    have q2 : decide (y < x) = true := by rw [decide_eq_true_eq]; exact h
    rw [hc]
    clear hc
    go_enter Try.func66, Try.ntmps66
    go_wp2
    go_ret
    exact ⟨rfl, rfl⟩
set_option maxRecDepth 100000 in
set_option maxHeartbeats 800000 in
theorem or_any (b c : Nat) (x y : Int) (w : World) (h0 : w.cell? ⟨b, 0, none⟩ = some (.int .i64 x)) (h1 : w.cell? ⟨b, 1, none⟩ = some (.int .i64 y)) :
    Calls Try.prog 65 #[.slice (some ⟨b, 0, none⟩) 2 c] w fun e w' => e = .returned (.int .i64 (if x = 0 then y else x)) ∧ w' = w := by
  by_cases hx : x = 0
  · subst hx
    rw [if_pos rfl]
    by_cases hy : y = 0
    · subst hy
      go_enter Try.func65, Try.ntmps65
      go_wp2
      refine wp_loop_rounds 3 ?_
      rw [rounds_succ]
      go_wp2
      rw [rounds_succ]
      go_wp2
      rw [rounds_succ]
      go_wp2
      go_ret
      exact ⟨rfl, rfl⟩
    · have q1 : (y == 0) = false := by rw [beq_eq_false_iff_ne]; exact hy
      have q2 : (y != 0) = true := by simp [hy]
      go_enter Try.func65, Try.ntmps65
      go_wp2
      refine wp_loop_rounds 3 ?_
      rw [rounds_succ]
      go_wp2
      rw [rounds_succ]
      go_wp2
      go_ret
      exact ⟨rfl, rfl⟩
  · rw [if_neg hx]
    have q1 : (x == 0) = false := by rw [beq_eq_false_iff_ne]; exact hx
    have q2 : (x != 0) = true := by simp [hx]
    go_enter Try.func65, Try.ntmps65
    go_wp2
    refine wp_loop_rounds 3 ?_
    rw [rounds_succ]
    go_wp2
    go_ret
    exact ⟨rfl, rfl⟩
theorem or_new (x y : Int) (w : World) : Calls Try.prog 65 #[.slice (some ⟨w.heap.size, 0, none⟩) 2 2] (w.alloc (.cells #[.int .i64 x, .int .i64 y] 3)) fun e w' => e = .returned (.int .i64 (if x = 0 then y else x)) ∧ w' = w.alloc (.cells #[.int .i64 x, .int .i64 y] 3) :=
  or_any w.heap.size 2 x y _ (by simp [go_sem]) (by simp [go_sem])
set_option maxRecDepth 100000 in
set_option maxHeartbeats 800000 in
theorem cmp_any (x y : Int) (w : World) (x0 : -1048576 ≤ x) (x1 : x ≤ 1048576) (y0 : -1048576 ≤ y) (y1 : y ≤ 1048576) :
    Calls Try.prog 64 #[.int .i64 x, .int .i64 y] w fun e w' => e = .returned (.int .i64 (cmpL x y)) ∧ w' = w.alloc (.cells #[.int .i64 (cmpI (absI x) (absI y)), .int .i64 (cmpI y x)] 3) := by
  have H1 := compare_any (absI x) (absI y) w
  have H2 := compare_any y x w
  have H3 := or_new (cmpI (absI x) (absI y)) (cmpI y x) w
  have hr : (if cmpI (absI x) (absI y) = 0 then cmpI y x else cmpI (absI x) (absI y)) = cmpL x y := rfl
  rw [hr] at H3
  clear hr
  generalize cmpL x y = r at *
  have ea : ∀ z : Int, absI z = max z (-z) := fun z => rfl
  rw [ea x, ea y] at H1 H3 ⊢
  clear ea
  generalize cmpI (max x (-x)) (max y (-y)) = p at *
  generalize cmpI y x = q at *
  go_enter Try.func64, Try.ntmps64
  go_wp2_with fail
  refine H1.mono ?_
  rintro e w1 ⟨rfl, rfl⟩
  go_wp2_with fail
  refine H2.mono ?_
  rintro e w1 ⟨rfl, rfl⟩
  go_wp2_with fail
  refine H3.mono ?_
  rintro e w1 ⟨rfl, rfl⟩
  go_wp2_with fail
  go_ret
  exact ⟨rfl, rfl⟩
end Go.Proofs.Ytiadnifbjdnflaa
