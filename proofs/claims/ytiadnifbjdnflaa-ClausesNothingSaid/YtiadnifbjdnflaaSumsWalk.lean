/- The walk of the law CyclesSums. -/
import Derived.Test.YtiadnifbjdnflaaRefSum2
import Derived.Test.YtiadnifbjdnflaaOfWalk
import Derived.Deep.QuietTactic
import Derived.BigQuiet
namespace Go.Proofs.Ytiadnifbjdnflaa
open Go Go.RowKit

theorem agg3_unlike (x y z : Int) (w : World) : (binOp .neq 56 (.agg #[.int .i64 x, .int .i64 y, .int .i64 z]) (.agg #[.int .i64 x, .int .i64 y, .int .i64 z])).run Try.prog w = .ok (.bool false) w := by
  rw [run_neq_struct, agg3_equalIn]; simp [Result.andThen_ok]

set_option maxRecDepth 100000 in
set_option maxHeartbeats 800000 in
theorem sums_out (p : Option Addr) (n c : Nat) (w : World) (hn : n ≤ 9223372036854775807) (h : (300 < n ∧ n ≤ 5000) ∨ 6000 < n) :
    Calls Try.prog 11 #[.slice p n c] w fun e w' => e = .returned (.bool true) ∧ Below w.heap.size w w' := by
  have key : (300 < n ∧ n ≤ 5000) ∨ (300 < n ∧ 5000 < n ∧ 6000 < n) := by omega
  clear h
  rcases key with ⟨h, h2⟩ | ⟨h, h2, h3⟩
  all_goals
    go_enter Try.func11, Try.ntmps11
    go_wp2_with fail
    refine (known_any _).mono ?_
    rintro e w1 ⟨rfl, hb⟩
    go_wp2_with fail
    go_ret
    exact ⟨rfl, hb⟩

set_option maxRecDepth 100000 in
set_option maxHeartbeats 800000 in
theorem sums_in (b off n c : Nat) (X Y C : Nat → Int) (w : World) (hE : EdgesAt w b off n X Y C) (h0 : 1 ≤ n) (hn : (n ≤ 300 ∧ n ≤ 6000) ∨ (300 < n ∧ 5000 < n ∧ n ≤ 6000)) (hC : ∀ i, i < n → I64 (C i)) :
    Calls Try.prog 11 #[.slice (some ⟨b, off, none⟩) n c] w fun e w' => e = .returned (.bool true) ∧ Below w.heap.size w w' := by
  obtain ⟨i0, hi, hz0, hz1, hz2⟩ := info56
  have HE := Lib.hid hE
  have HC := Lib.hid hC
  have hneq := fun i W => agg3_unlike (X i) (Y i) (C i) W
  have HNQ := Lib.hid hneq
  clear hE hC hneq
  have hn2 : n ≤ 4611686018427387904 := by omega
  rcases hn with ⟨hn, hn4⟩ | ⟨hn, hn3, hn4⟩
  all_goals
    go_enter Try.func11, Try.ntmps11
    have hown0 : (w.alloc (.cells #[] 56)).ownsRow w.heap.size 56 3 (.slice (some ⟨w.heap.size, 0, none⟩) 0 0) 0 [] := World.ownsRow_made w #[] 0 (Nat.le_refl _) (by omega) (by simp)
    have hB3 := below1 w (.cells #[] 56)
    have HL := Lib.hid (HE.out.later hB3)
    have HB3 := Lib.hid hB3
    have hz3 := hB3.size
    have HO := Lib.hid hown0
    clear hB3 hown0
    go_wp2_with (at_builtin; refine wpList_append_own _ rfl _ _ 60 rfl w.heap.size 56 i0 (.agg #[.int .i64 0, .int .i64 0, .int .i64 0]) 3 24 Try.underlying60 hi hz0 hz1 hz2 rfl (by omega) _ 0 [] rfl HO.out ⟨b, off, none⟩ n c (flatE X Y C n) rfl (flatE_len _ _ _ _) ?qc2 (flatE_one _ _ _ _) ?qc4 ?qc5 ?qc6 ?_)
    case qc2 =>
      intro j u hj
      try rw [Lib.add_plain]
      exact flatE_cells HL.out j u hj
    case qc4 => have hml : maxLen = 9223372036854775807 := rfl; omega
    case qc5 => omega
    try (case qc6 => first | exact hz3 | (simp only [World.size_alloc] at hz3 ⊢; omega))
    intro v4 w4 hown hgrow hnil
    have hB4 : Below w.heap.size w w4 := (HB3.out).grown hgrow hz3 (fun k hk => (World.ownsRow.lt HO.out k hk).1)
    have hv4 : v4 ≠ .slice none 0 0 := by
      intro e
      first | exact hnil e | (have h := (hnil.1 e).1; cases h)
    try rw [Nat.zero_add] at hown
    try rw [List.nil_append] at hown
    obtain ⟨g, cg, rfl, _, hcells⟩ := own_cells hown hv4
    have HG4 := Lib.hid (flatE_at hcells)
    have HE4 := Lib.hid (HE.out.later hB4)
    have HB4 := Lib.hid hB4
    clear hown hgrow hnil HB3 HO HL hz3 hcells hB4 hv4 HE
    obtain ⟨s1, s2, hs⟩ := sumV_two n X Y C
    have H1 := sum_any g 0 n cg X Y C w4 HG4.out hn2 HC.out
    rw [hs] at H1
    have HS := Lib.hid hs
    clear hs
    go_wp2_with fail
    refine H1.mono ?_
    rintro e w5 ⟨rfl, hb5⟩
    have HG5 := Lib.hid (HG4.out.later hb5)
    have HE5 := Lib.hid (HE4.out.later hb5)
    have HB5 := Lib.hid (chain HB4.out hb5)
    clear hb5 HG4 HE4 HB4 H1
    have H2 := refsum_arg (some ⟨b, off, none⟩) n c X Y C w5 (fun _ => ⟨b, off, rfl, HE5.out⟩) hn2 HC.out
    rw [HS.out] at H2
    go_wp2_with fail
    refine H2.mono ?_
    rintro e w6 ⟨rfl, hb6⟩
    have HG6 := Lib.hid (HG5.out.later hb6)
    have HE6 := Lib.hid (HE5.out.later hb6)
    have HB6 := Lib.hid (chain HB5.out hb6)
    clear hb6 HG5 HE5 HB5 H2
    have k1 : (s1 == s1) = true := by simp
    have k2 : (s2 == s2) = true := by simp
    go_wp2_with fail
    go_loopw [38] (fun i wr => ∃ j : Nat, j ≤ n ∧ i = .int .i64 j ∧ EdgesAt wr g 0 n X Y C ∧ EdgesAt wr b off n X Y C ∧ Below w.heap.size w wr) (fun i _ => n - (intOf i).toNat)
    case atStart => exact ⟨0, by omega, rfl, HG6.out, HE6.out, HB6.out⟩
    case round =>
      obtain ⟨j, hj, rfl, hg, he, hb⟩ := hrel
      by_cases hlt : j < n
      · have e0 := hg.k0 j hlt
        have e1 := hg.k1 j hlt
        have e2 := hg.k2 j hlt
        have f0 := he.k0 j hlt
        have f1 := he.k1 j hlt
        have f2 := he.k2 j hlt
        have hnj := HNQ.out j
        have hj0 : (0 : Int) ≤ (j : Int) := by omega
        have hj1 : (j : Int) < (n : Int) := by omega
        have HG := Lib.hid hg
        have HE := Lib.hid he
        have HB := Lib.hid hb
        simp only [Nat.zero_add] at e0 e1 e2
        clear hg he hb HG6 HE6 HB6
        go_wp2_with fail
        go_quiet (fail)
        clear e0 e1 e2 f0 f1 f2
        go_wp2_with fail
        go_roundw
        case rel => exact ⟨j + 1, by omega, by go_num, HG.out.later (below_drewN _ _), HE.out.later (below_drewN _ _), chain HB.out (below_drewN _ _)⟩
        case measure => simp [intOf]; omega
      · obtain rfl : j = n := by omega
        clear HG6 HE6 HB6
        go_wp2_with fail
        refine (known_any _).mono ?_
        rintro e w9 ⟨rfl, hb9⟩
        go_wp2_with fail
        go_ret
        exact ⟨rfl, chain hb hb9⟩

set_option maxRecDepth 100000 in
set_option maxHeartbeats 800000 in
theorem sums_zero (p : Option Addr) (c : Nat) (w : World) : Calls Try.prog 11 #[.slice p 0 c] w fun e w' => e = .returned (.bool true) ∧ Below w.heap.size w w' := by
  obtain ⟨i0, hi, hz0, hz1, hz2⟩ := info56
  have hown0 : (w.alloc (.cells #[] 56)).ownsRow w.heap.size 56 3 (.slice (some ⟨w.heap.size, 0, none⟩) 0 0) 0 [] := World.ownsRow_made w #[] 0 (Nat.le_refl _) (by omega) (by simp)
  have hB3 := below1 w (.cells #[] 56)
  have HB3 := Lib.hid hB3
  have hz3 := hB3.size
  have HO := Lib.hid hown0
  clear hB3 hown0
  cases p with
  | none =>
    go_enter Try.func11, Try.ntmps11
    go_wp2_with fail
    refine (sum_long _ 0 _ _ (by omega) (.inr rfl)).mono ?_
    rintro e w5 ⟨rfl, rfl⟩
    go_wp2_with fail
    refine (refsum_long none 0 c _ (by omega) (.inr rfl)).mono ?_
    rintro e w6 ⟨rfl, hb6⟩
    have hB6 := chain HB3.out hb6
    clear hb6
    go_wp2_with fail
    refine wp_loop_rounds 1 ?_
    rw [rounds_succ]
    go_wp2_with fail
    refine (known_any _).mono ?_
    rintro e w9 ⟨rfl, hb9⟩
    go_wp2_with fail
    go_ret
    exact ⟨rfl, chain hB6 hb9⟩
  | some ad =>
    go_enter Try.func11, Try.ntmps11
    go_wp2_with (at_builtin; refine wpList_append_own _ rfl _ _ 60 rfl w.heap.size 56 i0 (.agg #[.int .i64 0, .int .i64 0, .int .i64 0]) 3 24 Try.underlying60 hi hz0 hz1 hz2 rfl (by omega) _ 0 [] rfl HO.out ad 0 c [] rfl rfl (fun j u hj => by simp at hj) (fun u hu => by simp at hu) ?qc4 ?qc5 ?qc6 ?_)
    case qc4 => have hml : maxLen = 9223372036854775807 := rfl; omega
    case qc5 => omega
    try (case qc6 => first | exact hz3 | (simp only [World.size_alloc] at hz3 ⊢; omega))
    intro v4 w4 hown hgrow hnil
    have hB4 : Below w.heap.size w w4 := (HB3.out).grown hgrow hz3 (fun k hk => (World.ownsRow.lt HO.out k hk).1)
    have hv4 : v4 ≠ .slice none 0 0 := by
      intro e
      first | exact hnil e | (have h := (hnil.1 e).1; cases h)
    try rw [Nat.zero_add] at hown
    try rw [List.nil_append] at hown
    obtain ⟨g, cg, rfl, _, hcells⟩ := own_cells hown hv4
    clear hown hgrow hnil hcells hv4
    have HB4 := Lib.hid hB4
    clear hB4
    go_wp2_with fail
    refine (sum_long _ 0 _ _ (by omega) (.inr rfl)).mono ?_
    rintro e w5 ⟨rfl, rfl⟩
    go_wp2_with fail
    refine (refsum_long (some ad) 0 c _ (by omega) (.inr rfl)).mono ?_
    rintro e w6 ⟨rfl, hb6⟩
    have hB6 := chain HB4.out hb6
    clear hb6
    go_wp2_with fail
    refine wp_loop_rounds 1 ?_
    rw [rounds_succ]
    go_wp2_with fail
    refine (known_any _).mono ?_
    rintro e w9 ⟨rfl, hb9⟩
    go_wp2_with fail
    go_ret
    exact ⟨rfl, chain hB6 hb9⟩
theorem sums_any (p : Option Addr) (n c : Nat) (X Y C : Nat → Int) (w : World) (hE : EdgesIn w p n X Y C) (hn : n ≤ 9223372036854775807) (hC : ∀ i, i < n → I64 (C i)) :
    Calls Try.prog 11 #[.slice p n c] w fun e w' => e = .returned (.bool true) ∧ Below w.heap.size w w' := by
  by_cases h : (300 < n ∧ n ≤ 5000) ∨ 6000 < n
  · exact sums_out p n c w hn h
  · by_cases h0 : n = 0
    · subst h0
      exact sums_zero p c w
    · obtain ⟨b, off, rfl, he⟩ := hE (by omega)
      exact sums_in b off n c X Y C w he (by omega) (by omega) hC
end Go.Proofs.Ytiadnifbjdnflaa
