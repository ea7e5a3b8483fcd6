/- Small functions of package sorts, and of the library. -/
import Derived.Test.YtkjmmdffelhkiaaS2
import Derived.Lib.Strings
import Derived.Lib.BufferWrite
import Derived.Lib.UnsafeStr
import Derived.Laws.MakeOwn
import Derived.Lib.SliceRun
namespace Go.Proofs.Ytkjmmdffelhkiaa
open Go Go.RowKit Go.Maps

def SomeB (w : World) (e : Ending) (w' : World) : Prop := ∃ b, e = .returned (.bool b) ∧ w' = w
theorem map_neq1 (m : Nat) (W : World) : (binOp .neq 56 (.map (some m)) (.map none)).run Try.prog W = .ok (.bool true) W := by kernel_rfl
theorem map_neq0 (W : World) : (binOp .neq 56 (.map none) (.map none)).run Try.prog W = .ok (.bool false) W := by kernel_rfl
set_option maxRecDepth 100000 in
theorem ready_at {W : World} {K : Nat → Nat} {base c : Nat} {T : Tab} (h : TabAt W K base c T) : Calls Try.prog 58 #[.pointer (some ⟨c, 0, none⟩)] W fun e w' => e = .returned (.bool true) ∧ w' = W := by
  obtain ⟨vs, m1, m2, ob, p⟩ := h.ob
  have x4 := ob.1 4 (by omega)
  rw [p.h4] at x4
  have q1 := map_neq1 m1
  clear h ob p
  go_enter Try.func58, Try.ntmps58
  go_wp2
  go_ret
  exact ⟨rfl, rfl⟩
theorem ready_nil (W : World) : Calls Try.prog 58 #[.pointer none] W fun e w' => e = .returned (.bool false) ∧ w' = W := by
  go_enter Try.func58, Try.ntmps58
  go_wp2
  go_ret
  exact ⟨rfl, rfl⟩
set_option maxRecDepth 100000 in
theorem ready_zero (W : World) (c : Nat) (x4 : W.cell? ⟨c, 4, none⟩ = some (.map none)) : Calls Try.prog 58 #[.pointer (some ⟨c, 0, none⟩)] W fun e w' => e = .returned (.bool false) ∧ w' = W := by
  have q1 := map_neq0
  go_enter Try.func58, Try.ntmps58
  go_wp2
  go_ret
  exact ⟨rfl, rfl⟩
theorem isnan103 (x : Int) (w : World) : Calls Try.prog 103 #[.int .i64 x] w fun e w' => e = .returned (.bool false) ∧ w' = w := by
  go_enter Try.func103, Try.ntmps103
  go_wp2
  go_ret
  exact ⟨by simp, rfl⟩
theorem isnan102 (x : Int) (w : World) : Calls Try.prog 102 #[.int .i64 x] w fun e w' => e = .returned (.bool false) ∧ w' = w := by
  go_enter Try.func102, Try.ntmps102
  go_wp2
  go_ret
  exact ⟨by simp, rfl⟩
theorem less101 (x y : Int) (w : World) : Calls Try.prog 101 #[.int .i64 x, .int .i64 y] w fun e w' => e = .returned (.bool (decide (x < y))) ∧ w' = w := by
  go_enter Try.func101, Try.ntmps101
  go_wp2_with (go_at_call 103; refine (isnan103 _ _).mono ?_; rintro e w' ⟨rfl, rfl⟩)
  go_ret
  exact ⟨rfl, rfl⟩
set_option maxRecDepth 100000 in
set_option maxHeartbeats 1600000 in
/-- whatever the row is: an answer. -/
theorem bsearch_any (p : Option Addr) (n c : Nat) (V : Nat → Int) (x : Int) (w : World) (hV : IntsIn w p n V) (hn : n ≤ 1000000) :
    Calls Try.prog 100 #[.slice p n c, .int .i64 x] w fun e w' => ∃ i b, e = .returned (.tuple #[.int .i64 i, .bool b]) ∧ w' = w := by
  have HV := Lib.hid hV
  clear hV
  go_enter Try.func100, Try.ntmps100
  go_wp2
  go_loopg [7, 8] n (fun g s7 s8 wr => ∃ lo hi : Nat, s7 = .int .i64 lo ∧ s8 = .int .i64 hi ∧ lo ≤ hi ∧ hi ≤ n ∧ hi - lo ≤ g ∧ wr = w)
  case atStart => exact ⟨0, n, rfl, rfl, Nat.zero_le _, Nat.le_refl _, by omega, rfl⟩
  case round =>
    obtain ⟨lo, hi, rfl, rfl, hlh, hin, hg, rfl⟩ := hrel
    by_cases hlt : lo < hi
    · obtain ⟨b, off, rfl, hc⟩ := HV.out (by omega)
      have cm := hc ((lo + hi) / 2) (by omega)
      clear hc
      generalize V ((lo + hi) / 2) = y at cm
      by_cases hyx : y < x
      · go_wp2_with (go_at_call 101; refine (less101 _ _ _).mono ?_; rintro e w' ⟨rfl, rfl⟩)
        go_roundg (hi - ((lo + hi) / 2 + 1))
        case measure => omega
        case rel => exact ⟨(lo + hi) / 2 + 1, hi, by rw [show ((lo : Int) + (hi : Int)) / 2 + 1 = (((lo + hi) / 2 + 1 : Nat) : Int) by omega], rfl, by omega, hin, Nat.le_refl _, rfl⟩
      · go_wp2_with (go_at_call 101; refine (less101 _ _ _).mono ?_; rintro e w' ⟨rfl, rfl⟩)
        go_roundg ((lo + hi) / 2 - lo)
        case measure => omega
        case rel => exact ⟨lo, (lo + hi) / 2, rfl, by rw [show ((lo : Int) + (hi : Int)) / 2 = (((lo + hi) / 2 : Nat) : Int) by omega], by omega, by omega, Nat.le_refl _, rfl⟩
    · have : hi = lo := by omega
      subst this
      by_cases hn : hi < n
      · obtain ⟨b, off, rfl, hc⟩ := HV.out (by omega)
        have cm := hc hi (by omega)
        clear hc
        generalize V hi = y at cm
        by_cases hyx : y = x
        · have q1 : (y == x) = true := by simpa using hyx
          clear hyx
          go_wp2_with fail
          go_ret2
          exact ⟨_, _, rfl, rfl⟩
        · have q1 : (y == x) = false := by simpa using hyx
          clear hyx
          go_wp2_with (go_at_call 102; refine (isnan102 _ _).mono ?_; rintro e w' ⟨rfl, rfl⟩)
          go_ret2
          exact ⟨_, _, rfl, rfl⟩
      · go_wp2_with fail
        go_ret2
        exact ⟨_, _, rfl, rfl⟩
end Go.Proofs.Ytkjmmdffelhkiaa
