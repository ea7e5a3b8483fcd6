/- Stage 6: a store that is not there, or was not made. -/
import Derived.Test.YtkjmmdffelhkiaaS17
import Derived.OwnWalk
namespace Go.Proofs.Ytkjmmdffelhkiaa
open Go Go.RowKit Go.Maps

/-- no store. -/
def BadS (W : World) (s : Value) : Prop := s = .pointer none ∨ ∃ b, s = .pointer (some ⟨b, 0, none⟩) ∧ W.cell? ⟨b, 0, none⟩ = some (.slice none 0 0)
theorem BadS.later {W W' : World} {s : Value} (h : BadS W s) (hb : Below W.heap.size W W') : BadS W' s := by
  rcases h with h | ⟨b, h, hc⟩
  · exact .inl h
  · exact .inr ⟨b, h, cell_later hb hc⟩
set_option maxRecDepth 100000 in
theorem len_bad {W : World} {s : Value} (h : BadS W s) : Calls Try.prog 39 #[s] W fun e w' => e = .returned (.int .i64 0) ∧ w' = W := by
  rcases h with rfl | ⟨b, rfl, hc⟩
  all_goals
    go_enter Try.func39, Try.ntmps39
    go_wp2_with fail
    go_ret
    exact ⟨rfl, rfl⟩
set_option maxRecDepth 100000 in
theorem check_bad {W : World} {s : Value} (h : BadS W s) (p : Option Addr) (n z : Nat) : Calls Try.prog 70 #[s, .slice p n z] W fun e w' => e = .returned (.int .i64 1) ∧ w' = W := by
  have HL := len_bad h
  go_enter Try.func70, Try.ntmps70
  go_wp2_with fail
  refine HL.mono ?_
  rintro e w1 ⟨rfl, hw⟩
  obtain rfl := hw.symm
  clear HL
  go_wp2_with fail
  go_ret
  exact ⟨rfl, rfl⟩
set_option maxRecDepth 100000 in
theorem copy_bad {W : World} {s : Value} (h : BadS W s) : Calls Try.prog 34 #[s] W fun e w' => e = .returned (.pointer none) ∧ w' = W := by
  have HL := len_bad h
  go_enter Try.func34, Try.ntmps34
  go_wp2_with fail
  refine HL.mono ?_
  rintro e w1 ⟨rfl, hw⟩
  obtain rfl := hw.symm
  clear HL
  go_wp2_with fail
  go_ret
  exact ⟨rfl, rfl⟩

set_option maxRecDepth 100000 in
set_option maxHeartbeats 800000 in
theorem not_bad {W : World} {s : Value} (h : BadS W s) (a : Int) : Calls Try.prog 44 #[s, .int .i64 a] W fun e w' => e = .returned (.tuple #[.int .i64 0, .int .i64 1]) ∧ Below W.heap.size W w' := by
  have HB := Lib.hid (below1 W (.cells #[.int .i64 a] 73))
  have HC := check_bad (h.later (below1 W (.cells #[.int .i64 a] 73))) (some ⟨W.heap.size, 0, none⟩) 1 1
  clear h
  go_enter Try.func44, Try.ntmps44
  go_wp2_with fail
  refine HC.mono ?_
  rintro e w1 ⟨rfl, hw⟩
  obtain rfl := hw.symm
  clear HC
  go_wp2_with fail
  go_ret2
  exact ⟨rfl, HB.out⟩

set_option maxRecDepth 100000 in
set_option maxHeartbeats 800000 in
theorem eq_bad {W : World} {s : Value} (h : BadS W s) (a b : Int) : Calls Try.prog 47 #[s, .int .i64 a, .int .i64 b] W fun e w' => e = .returned (.tuple #[.int .i64 0, .int .i64 1]) ∧ Below W.heap.size W w' := by
  have HB := Lib.hid (below1 W (.cells #[.int .i64 a, .int .i64 b] 73))
  have HC := check_bad (h.later (below1 W (.cells #[.int .i64 a, .int .i64 b] 73))) (some ⟨W.heap.size, 0, none⟩) 2 2
  clear h
  go_enter Try.func47, Try.ntmps47
  go_wp2_with fail
  refine HC.mono ?_
  rintro e w1 ⟨rfl, hw⟩
  obtain rfl := hw.symm
  clear HC
  go_wp2_with fail
  go_ret2
  exact ⟨rfl, HB.out⟩

set_option maxRecDepth 100000 in
set_option maxHeartbeats 800000 in
theorem ite_bad {W : World} {s : Value} (h : BadS W s) (a b d : Int) : Calls Try.prog 48 #[s, .int .i64 a, .int .i64 b, .int .i64 d] W fun e w' => e = .returned (.tuple #[.int .i64 0, .int .i64 1]) ∧ Below W.heap.size W w' := by
  have HB := Lib.hid (below1 W (.cells #[.int .i64 a, .int .i64 b, .int .i64 d] 73))
  have HC := check_bad (h.later (below1 W (.cells #[.int .i64 a, .int .i64 b, .int .i64 d] 73))) (some ⟨W.heap.size, 0, none⟩) 3 3
  clear h
  go_enter Try.func48, Try.ntmps48
  go_wp2_with fail
  refine HC.mono ?_
  rintro e w1 ⟨rfl, hw⟩
  obtain rfl := hw.symm
  clear HC
  go_wp2_with fail
  go_ret2
  exact ⟨rfl, HB.out⟩

set_option maxRecDepth 100000 in
set_option maxHeartbeats 800000 in
theorem le_bad {W : World} {s : Value} (h : BadS W s) (a b d : Int) : Calls Try.prog 50 #[s, .int .i64 a, .int .i64 b, .int .i64 d] W fun e w' => e = .returned (.tuple #[.int .i64 0, .int .i64 1]) ∧ Below W.heap.size W w' := by
  have HB := Lib.hid (below1 W (.cells #[.int .i64 a, .int .i64 b] 73))
  have HC := check_bad (h.later (below1 W (.cells #[.int .i64 a, .int .i64 b] 73))) (some ⟨W.heap.size, 0, none⟩) 2 2
  clear h
  go_enter Try.func50, Try.ntmps50
  go_wp2_with fail
  refine HC.mono ?_
  rintro e w1 ⟨rfl, hw⟩
  obtain rfl := hw.symm
  clear HC
  go_wp2_with fail
  go_ret2
  exact ⟨rfl, HB.out⟩

set_option maxRecDepth 100000 in
set_option maxHeartbeats 800000 in
theorem split_bad {W : World} {s : Value} (h : BadS W s) (a : Int) : Calls Try.prog 43 #[s, .int .i64 a] W fun e w' => e = .returned (.tuple #[.int .i64 0, .int .i64 0, .int .i64 1]) ∧ Below W.heap.size W w' := by
  have HB := Lib.hid (below1 W (.cells #[.int .i64 a] 73))
  have HC := check_bad (h.later (below1 W (.cells #[.int .i64 a] 73))) (some ⟨W.heap.size, 0, none⟩) 1 1
  clear h
  go_enter Try.func43, Try.ntmps43
  go_wp2_with fail
  refine HC.mono ?_
  rintro e w1 ⟨rfl, hw⟩
  obtain rfl := hw.symm
  clear HC
  go_wp2_with fail
  go_ret3
  exact ⟨rfl, HB.out⟩

set_option maxRecDepth 100000 in
set_option maxHeartbeats 800000 in
theorem junction_bad {W : World} {s : Value} (h : BadS W s) (q a : Int) (p : Option Addr) (n z : Nat) : Calls Try.prog 85 #[s, .int .u8 q, .int .i64 a, .slice p n z] W fun e w' => e = .returned (.tuple #[.int .i64 0, .int .i64 1]) ∧ Below W.heap.size W w' := by
  have HC := check_bad h p n z
  clear h
  go_enter Try.func85, Try.ntmps85
  go_wp2_with fail
  refine HC.mono ?_
  rintro e w1 ⟨rfl, hw⟩
  obtain rfl := hw.symm
  clear HC
  go_wp2_with fail
  go_ret2
  exact ⟨rfl, Below.refl _ _⟩

set_option maxRecDepth 100000 in
set_option maxHeartbeats 800000 in
theorem and_bad {W : World} {s : Value} (h : BadS W s) (p : Option Addr) (n z : Nat) : Calls Try.prog 45 #[s, .slice p n z] W fun e w' => e = .returned (.tuple #[.int .i64 0, .int .i64 1]) ∧ Below W.heap.size W w' := by
  have HC := junction_bad h 10 0 p n z
  clear h
  go_enter Try.func45, Try.ntmps45
  go_wp2_with fail
  refine HC.mono ?_
  rintro e w1 ⟨rfl, hb⟩
  have HB := Lib.hid hb
  clear HC hb
  go_wp2_with fail
  go_ret2
  exact ⟨rfl, HB.out⟩

set_option maxRecDepth 100000 in
set_option maxHeartbeats 800000 in
theorem or_bad {W : World} {s : Value} (h : BadS W s) (p : Option Addr) (n z : Nat) : Calls Try.prog 46 #[s, .slice p n z] W fun e w' => e = .returned (.tuple #[.int .i64 0, .int .i64 1]) ∧ Below W.heap.size W w' := by
  have HC := junction_bad h 11 1 p n z
  clear h
  go_enter Try.func46, Try.ntmps46
  go_wp2_with fail
  refine HC.mono ?_
  rintro e w1 ⟨rfl, hb⟩
  have HB := Lib.hid hb
  clear HC hb
  go_wp2_with fail
  go_ret2
  exact ⟨rfl, HB.out⟩

set_option maxRecDepth 100000 in
set_option maxHeartbeats 800000 in
theorem app_bad {W : World} {s : Value} (h : BadS W s) (a b : Int) (p : Option Addr) (n z : Nat) : Calls Try.prog 35 #[s, .int .i64 a, .int .i64 b, .slice p n z] W fun e w' => e = .returned (.tuple #[.int .i64 0, .int .i64 1]) ∧ Below W.heap.size W w' := by
  have HC := check_bad h none 0 0
  clear h
  go_enter Try.func35, Try.ntmps35
  go_wp2_with fail
  refine HC.mono ?_
  rintro e w1 ⟨rfl, hw⟩
  obtain rfl := hw.symm
  clear HC
  go_wp2_with fail
  go_ret2
  exact ⟨rfl, Below.refl _ _⟩

set_option maxRecDepth 100000 in
set_option maxHeartbeats 800000 in
theorem num_bad {W : World} {s : Value} (h : BadS W s) (a : Int) : Calls Try.prog 49 #[s, .int .i64 a] W fun e w' => e = .returned (.tuple #[.int .i64 0, .int .i64 1]) ∧ Below W.heap.size W w' := by
  have HC := check_bad h none 0 0
  clear h
  go_enter Try.func49, Try.ntmps49
  go_wp2_with fail
  refine HC.mono ?_
  rintro e w1 ⟨rfl, hw⟩
  obtain rfl := hw.symm
  clear HC
  go_wp2_with fail
  go_ret2
  exact ⟨rfl, Below.refl _ _⟩

set_option maxRecDepth 100000 in
set_option maxHeartbeats 800000 in
theorem plus_bad {W : World} {s : Value} (h : BadS W s) (a b : Int) : Calls Try.prog 42 #[s, .int .i64 a, .int .i64 b] W fun e w' => e = .returned (.tuple #[.int .i64 0, .int .i64 1]) ∧ Below W.heap.size W w' := by
  have HC := split_bad h a
  clear h
  go_enter Try.func42, Try.ntmps42
  go_wp2_with fail
  refine HC.mono ?_
  rintro e w1 ⟨rfl, hb⟩
  have HB := Lib.hid hb
  clear HC hb
  go_wp2_with fail
  go_ret2
  exact ⟨rfl, HB.out⟩

set_option maxRecDepth 100000 in
set_option maxHeartbeats 800000 in
theorem node_bad {W : World} {s : Value} (h : BadS W s) (a : Int) : Calls Try.prog 40 #[s, .int .i64 a] W fun e w' => e = .returned (.tuple #[.agg #[.int .u8 0, .int .i64 0, .int .i64 0, .int .i64 0, .slice none 0 0], .int .i64 1]) ∧ Below W.heap.size W w' := by
  have HB := Lib.hid (chain (below1 W (.cells #[.int .u8 0, .int .i64 0, .int .i64 0, .int .i64 0, .slice none 0 0] 89)) (below1 (W.alloc (.cells #[.int .u8 0, .int .i64 0, .int .i64 0, .int .i64 0, .slice none 0 0] 89)) (.cells #[.int .i64 a] 73)))
  have HC := check_bad (h.later HB.out) (some ⟨W.heap.size + 1, 0, none⟩) 1 1
  have F := fun (i : Nat) (v : Value) (hv : (#[.int .u8 0, .int .i64 0, .int .i64 0, .int .i64 0, .slice none 0 0] : Array Value)[i]? = some v) => cell_later (below1 (W.alloc (.cells #[.int .u8 0, .int .i64 0, .int .i64 0, .int .i64 0, .slice none 0 0] 89)) (.cells #[.int .i64 a] 73)) (show (W.alloc (.cells #[.int .u8 0, .int .i64 0, .int .i64 0, .int .i64 0, .slice none 0 0] 89)).cell? ⟨W.heap.size, i, none⟩ = some v by simp [go_sem, hv])
  have d0 := F 0 _ rfl
  have d1 := F 1 _ rfl
  have d2 := F 2 _ rfl
  have d3 := F 3 _ rfl
  have d4 := F 4 _ rfl
  have G := fun (i : Nat) => show ((W.alloc (.cells #[.int .u8 0, .int .i64 0, .int .i64 0, .int .i64 0, .slice none 0 0] 89)).alloc (.cells #[.int .i64 a] 73)).frozen? ⟨W.heap.size, i, none⟩ = false by simp [go_sem]
  have g0 := G 0
  have g1 := G 1
  have g2 := G 2
  have g3 := G 3
  have g4 := G 4
  clear h F G
  go_enter Try.func40, Try.ntmps40
  go_wp2_with fail
  refine HC.mono ?_
  rintro e w1 ⟨rfl, hw⟩
  obtain rfl := hw.symm
  clear HC
  generalize (W.alloc (.cells #[.int .u8 0, .int .i64 0, .int .i64 0, .int .i64 0, .slice none 0 0] 89)).alloc (.cells #[.int .i64 a] 73) = w2 at *
  generalize hq : W.heap.size = q at *
  go_wp2_with fail
  refine bodyPost_ret (v := .tuple #[.agg #[.int .u8 0, .int .i64 0, .int .i64 0, .int .i64 0, .slice none 0 0], .int .i64 1]) (by simp [results, Try.results40, go_sem, d0, d1, d2, d3, d4]) rfl ⟨rfl, ?_⟩
  have hb := HB.out
  rw [hq]
  exact ((((hb.setCell (p := ⟨q, 0, none⟩) (Nat.le_refl q) _).setCell (p := ⟨q, 1, none⟩) (Nat.le_refl q) _).setCell (p := ⟨q, 2, none⟩) (Nat.le_refl q) _).setCell (p := ⟨q, 3, none⟩) (Nat.le_refl q) _).setCell (p := ⟨q, 4, none⟩) (Nat.le_refl q) _

end Go.Proofs.Ytkjmmdffelhkiaa
