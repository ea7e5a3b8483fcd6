/- The walk of the law ClausesNone. -/
import Derived.Test.YtiadnifbjdnflaaKnown14
namespace Go.Proofs.Ytiadnifbjdnflaa
open Go Go.RowKit

set_option maxRecDepth 100000 in
set_option maxHeartbeats 4000000 in
theorem none_any {w : World} (p : Option Addr) (n c : Nat) (V : Nat → Int) (hV : LitsIn w p n V) (hn : n ≤ 9223372036854775807) (hI : ∀ i, i < n → I64 (V i)) (hp : p = none → c = 0) (i : Int) (hi : -9223372036854775808 ≤ i ∧ i ≤ 9223372036854775807) (W : World) (hW : W = w := by rfl) :
    Calls Try.prog 6 #[.slice p n c, .int .i64 i] W fun e w' => e = .returned (.bool true) ∧ Below W.heap.size W w' := by
  subst hW
  clear hV hI hp
  by_cases h : 300 < n
  · go_enter Try.func6, Try.ntmps6
    go_wp2_with fail
    refine (known14_any _).mono ?_
    rintro e w1 ⟨rfl, hb⟩
    go_wp2_with fail
    go_ret
    exact ⟨rfl, hb⟩
  · have hn' : n ≤ 300 := by omega
    clear h
    have hB := (below1 W (.cells #[.slice none 0 0, .map none, .int .i64 0] 46)).trans ((below1 (W.alloc (.cells #[.slice none 0 0, .map none, .int .i64 0] 46)) (.cells #[.pointer none, .pointer (some ⟨W.heap.size, 0, none⟩)] 34)).mono (below1 W (.cells #[.slice none 0 0, .map none, .int .i64 0] 46)).size)
    have HB := Lib.hid hB
    clear hB
    have hk := fun W' => known14_any W'
    have HK := Lib.hid hk
    clear hk
    obtain ⟨i0, i1⟩ := hi
    have hmn : ∀ W', (binOp .eql 44 (.map none) (.map none)).run Try.prog W' = .ok (.bool true) W' := fun W' => by kernel_rfl
    by_cases h : i < 0
    · go_enter Try.func6, Try.ntmps6
      go_wp2_with fail
      refine wp_loop_rounds 3 ?_
      rw [rounds_succ]
      go_wp2
      rw [rounds_succ]
      go_wp2
      rw [rounds_succ]
      go_wp2_with fail
      refine (HK.out _).mono ?_
      rintro e w1 ⟨rfl, hb⟩
      have hbz := chain HB.out hb
      go_wp2_with fail
      go_ret
      exact ⟨rfl, hbz⟩
    · have h' : 0 ≤ i := by omega
      clear h
      go_enter Try.func6, Try.ntmps6
      go_wp2_with fail
      refine wp_loop_rounds 3 ?_
      rw [rounds_succ]
      go_wp2
      rw [rounds_succ]
      go_wp2
      rw [rounds_succ]
      go_wp2_with fail
      refine (HK.out _).mono ?_
      rintro e w1 ⟨rfl, hb⟩
      have hbz := chain HB.out hb
      go_wp2_with fail
      go_ret
      exact ⟨rfl, hbz⟩
end Go.Proofs.Ytiadnifbjdnflaa
