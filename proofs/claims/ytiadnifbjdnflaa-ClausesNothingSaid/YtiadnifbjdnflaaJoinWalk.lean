/- The walk of the law CyclesJoin. -/
import Derived.Test.YtiadnifbjdnflaaScaleWalk
import Derived.Test.YtiadnifbjdnflaaRot
import Derived.Deep.QuietTactic
import Derived.BigQuiet
import Derived.OwnWalk
namespace Go.Proofs.Ytiadnifbjdnflaa
open Go Go.RowKit

theorem sgn_cases (a : Int) : (a < 0 ∧ sgn a = -1) ∨ (a = 0 ∧ sgn a = 0) ∨ (0 < a ∧ sgn a = 1) := by
  unfold sgn
  rcases Int.lt_trichotomy a 0 with h | h | h
  · exact Or.inl ⟨h, by rw [if_neg (by omega), if_pos h]⟩
  · exact Or.inr (Or.inl ⟨h, by rw [if_pos h]⟩)
  · exact Or.inr (Or.inr ⟨h, by rw [if_neg (by omega), if_neg (by omega)]⟩)
theorem sgn_three (a b : Int) : (sgn a = (-1) ∧ sgn b = (-1) ∧ sgn (a + b) = (-1)) ∨ (sgn a = (-1) ∧ sgn b = 0 ∧ sgn (a + b) = (-1)) ∨ (sgn a = (-1) ∧ sgn b = 1 ∧ sgn (a + b) = (-1)) ∨ (sgn a = (-1) ∧ sgn b = 1 ∧ sgn (a + b) = 0) ∨ (sgn a = (-1) ∧ sgn b = 1 ∧ sgn (a + b) = 1) ∨ (sgn a = 0 ∧ sgn b = (-1) ∧ sgn (a + b) = (-1)) ∨ (sgn a = 0 ∧ sgn b = 0 ∧ sgn (a + b) = 0) ∨ (sgn a = 0 ∧ sgn b = 1 ∧ sgn (a + b) = 1) ∨ (sgn a = 1 ∧ sgn b = (-1) ∧ sgn (a + b) = (-1)) ∨ (sgn a = 1 ∧ sgn b = (-1) ∧ sgn (a + b) = 0) ∨ (sgn a = 1 ∧ sgn b = (-1) ∧ sgn (a + b) = 1) ∨ (sgn a = 1 ∧ sgn b = 0 ∧ sgn (a + b) = 1) ∨ (sgn a = 1 ∧ sgn b = 1 ∧ sgn (a + b) = 1) := by
  rcases sgn_cases a with ⟨ha, ea⟩ | ⟨ha, ea⟩ | ⟨ha, ea⟩ <;> rcases sgn_cases b with ⟨hb, eb⟩ | ⟨hb, eb⟩ | ⟨hb, eb⟩ <;> rcases sgn_cases (a + b) with ⟨hc, ec⟩ | ⟨hc, ec⟩ | ⟨hc, ec⟩
  all_goals first
    | (exfalso; omega)
    | (rw [ea, eb, ec]; decide)
theorem join_fin (n m : Nat) (X Y C X' Y' C' : Nat → Int) (s1 s2 r1 r2 q1 q2 : Int) (hn0 : 1 ≤ n) (hn : n ≤ 300) (hm0 : 1 ≤ m) (hm : m ≤ 300) (hx : X 0 = X' 0)
    (hs : sumV n X Y C = .tuple #[.int .i64 s1, .int .i64 s2]) (hr : sumV m X' Y' C' = .tuple #[.int .i64 r1, .int .i64 r2]) (hq : sumV (n + m) (cat n X X') (cat n Y Y') (cat n C C') = .tuple #[.int .i64 q1, .int .i64 q2]) :
    s2 = 5 ∨ (s2 = 0 ∧ r2 = 5) ∨ (s2 = 0 ∧ r2 = 0 ∧ q2 = 0 ∧ ((s1 = (-1) ∧ r1 = (-1) ∧ q1 = (-1)) ∨ (s1 = (-1) ∧ r1 = 0 ∧ q1 = (-1)) ∨ (s1 = (-1) ∧ r1 = 1 ∧ q1 = (-1)) ∨ (s1 = (-1) ∧ r1 = 1 ∧ q1 = 0) ∨ (s1 = (-1) ∧ r1 = 1 ∧ q1 = 1) ∨ (s1 = 0 ∧ r1 = (-1) ∧ q1 = (-1)) ∨ (s1 = 0 ∧ r1 = 0 ∧ q1 = 0) ∨ (s1 = 0 ∧ r1 = 1 ∧ q1 = 1) ∨ (s1 = 1 ∧ r1 = (-1) ∧ q1 = (-1)) ∨ (s1 = 1 ∧ r1 = (-1) ∧ q1 = 0) ∨ (s1 = 1 ∧ r1 = (-1) ∧ q1 = 1) ∨ (s1 = 1 ∧ r1 = 0 ∧ q1 = 1) ∨ (s1 = 1 ∧ r1 = 1 ∧ q1 = 1))) := by
  unfold sumV at hs hr hq
  rw [if_neg (by omega), if_neg (by omega)] at hs hr hq
  by_cases h1 : Cyc n X Y
  · rw [if_pos h1] at hs
    by_cases h2 : Cyc m X' Y'
    · rw [if_pos h2] at hr
      rw [if_pos (cyc_cat n m X Y X' Y' hn0 hm0 hx h1 h2), sumC_cat] at hq
      simp only [Value.tuple.injEq, Array.mk.injEq, List.cons.injEq, Value.int.injEq, true_and, and_true] at hs hr hq
      obtain ⟨rfl, rfl⟩ := hs
      obtain ⟨rfl, rfl⟩ := hr
      obtain ⟨rfl, rfl⟩ := hq
      exact Or.inr (Or.inr ⟨rfl, rfl, rfl, sgn_three _ _⟩)
    · rw [if_neg h2] at hr
      simp only [Value.tuple.injEq, Array.mk.injEq, List.cons.injEq, Value.int.injEq, true_and, and_true] at hs hr
      exact Or.inr (Or.inl ⟨hs.2.symm, hr.2.symm⟩)
  · rw [if_neg h1] at hs
    simp only [Value.tuple.injEq, Array.mk.injEq, List.cons.injEq, Value.int.injEq, true_and, and_true] at hs
    exact Or.inl hs.2.symm

set_option maxRecDepth 100000 in
set_option maxHeartbeats 800000 in
theorem join_short (p q : Option Addr) (n m c d : Nat) (w : World) (hn : n ≤ 9223372036854775807) (hm : m ≤ 9223372036854775807) (h : n = 0 ∨ m = 0 ∨ 300 < n ∨ 300 < m) :
    Calls Try.prog 16 #[.slice p n c, .slice q m d] w fun e w' => e = .returned (.bool true) ∧ Below w.heap.size w w' := by
  have key : n = 0 ∨ (0 < n ∧ m = 0) ∨ (0 < n ∧ 0 < m ∧ 300 < n) ∨ (0 < n ∧ 0 < m ∧ n ≤ 300 ∧ 300 < m) := by omega
  clear h
  rcases key with rfl | ⟨h, rfl⟩ | ⟨h, h2, h3⟩ | ⟨h, h2, h3, h4⟩
  · go_enter Try.func16, Try.ntmps16
    go_wp2_with fail
    go_quiet (fail)
    go_wp2_with fail
    refine (known_any _).mono ?_
    rintro e w1 ⟨rfl, hb⟩
    go_wp2_with fail
    go_ret
    exact ⟨rfl, chain (below_drewN _ _) hb⟩
  · have g1 : ((n : Int) == 0) = false := by rw [beq_eq_false_iff_ne]; omega
    go_enter Try.func16, Try.ntmps16
    go_wp2_with fail
    go_quiet (fail)
    go_wp2_with fail
    refine (known_any _).mono ?_
    rintro e w1 ⟨rfl, hb⟩
    go_wp2_with fail
    go_ret
    exact ⟨rfl, chain (below_drewN _ _) hb⟩
  · have g1 : ((n : Int) == 0) = false := by rw [beq_eq_false_iff_ne]; omega
    have g2 : ((m : Int) == 0) = false := by rw [beq_eq_false_iff_ne]; omega
    have g3 : decide ((300 : Int) < (n : Int)) = true := by rw [decide_eq_true_eq]; omega
    go_enter Try.func16, Try.ntmps16
    go_wp2_with fail
    go_quiet (fail)
    go_wp2_with fail
    refine (known_any _).mono ?_
    rintro e w1 ⟨rfl, hb⟩
    go_wp2_with fail
    go_ret
    exact ⟨rfl, chain (below_drewN _ _) hb⟩
  · have g1 : ((n : Int) == 0) = false := by rw [beq_eq_false_iff_ne]; omega
    have g2 : ((m : Int) == 0) = false := by rw [beq_eq_false_iff_ne]; omega
    have g3 : decide ((300 : Int) < (n : Int)) = false := by rw [decide_eq_false_iff_not]; omega
    have g4 : decide ((300 : Int) < (m : Int)) = true := by rw [decide_eq_true_eq]; omega
    go_enter Try.func16, Try.ntmps16
    go_wp2_with fail
    go_quiet (fail)
    go_wp2_with fail
    refine (known_any _).mono ?_
    rintro e w1 ⟨rfl, hb⟩
    go_wp2_with fail
    go_ret
    exact ⟨rfl, chain (below_drewN _ _) hb⟩

set_option maxRecDepth 100000 in
set_option maxHeartbeats 800000 in
theorem join_apart (b off b' off' n m c d : Nat) (X Y C X' Y' C' : Nat → Int) (w : World) (hE : EdgesAt w b off n X Y C) (hE' : EdgesAt w b' off' m X' Y' C') (hn0 : 1 ≤ n) (hn : n ≤ 300) (hm0 : 1 ≤ m) (hm : m ≤ 300) (hx : X 0 ≠ X' 0) :
    Calls Try.prog 16 #[.slice (some ⟨b, off, none⟩) n c, .slice (some ⟨b', off', none⟩) m d] w fun e w' => e = .returned (.bool true) ∧ Below w.heap.size w w' := by
  have g1 : ((n : Int) == 0) = false := by rw [beq_eq_false_iff_ne]; omega
  have g2 : ((m : Int) == 0) = false := by rw [beq_eq_false_iff_ne]; omega
  have g3 : decide ((300 : Int) < (n : Int)) = false := by rw [decide_eq_false_iff_not]; omega
  have g4 : decide ((300 : Int) < (m : Int)) = false := by rw [decide_eq_false_iff_not]; omega
  have e0 := hE.k0 0 (by omega)
  have e1 := hE'.k0 0 (by omega)
  have g5 : (X 0 == X' 0) = false := by rw [beq_eq_false_iff_ne]; exact hx
  have g6 : (X 0 != X' 0) = true := by simp [hx]
  have n0 : (0 : Int) < (n : Int) := by omega
  have m0 : (0 : Int) < (m : Int) := by omega
  simp only [Nat.zero_mul, Nat.add_zero] at e0 e1
  clear hE hE' hx
  generalize X 0 = x0 at *
  generalize X' 0 = x1 at *
  go_enter Try.func16, Try.ntmps16
  go_wp2_with fail
  go_quiet (fail)
  go_wp2_with fail
  refine (known_any _).mono ?_
  rintro e w1 ⟨rfl, hb⟩
  go_wp2_with fail
  go_ret
  exact ⟨rfl, chain (below_drewN _ _) hb⟩

set_option maxRecDepth 100000 in
set_option maxHeartbeats 1600000 in
theorem join_in (b off b' off' n m c d : Nat) (X Y C X' Y' C' : Nat → Int) (w : World) (hE : EdgesAt w b off n X Y C) (hE' : EdgesAt w b' off' m X' Y' C') (hn0 : 1 ≤ n) (hn : n ≤ 300) (hm0 : 1 ≤ m) (hm : m ≤ 300) (hx : X 0 = X' 0) (hC : ∀ i, i < n → I64 (C i)) (hC' : ∀ i, i < m → I64 (C' i)) :
    Calls Try.prog 16 #[.slice (some ⟨b, off, none⟩) n c, .slice (some ⟨b', off', none⟩) m d] w fun e w' => e = .returned (.bool true) ∧ Below w.heap.size w w' := by
  have g1 : ((n : Int) == 0) = false := by rw [beq_eq_false_iff_ne]; omega
  have g2 : ((m : Int) == 0) = false := by rw [beq_eq_false_iff_ne]; omega
  have g3 : decide ((300 : Int) < (n : Int)) = false := by rw [decide_eq_false_iff_not]; omega
  have g4 : decide ((300 : Int) < (m : Int)) = false := by rw [decide_eq_false_iff_not]; omega
  have e0 := hE.k0 0 (by omega)
  have e1 := hE'.k0 0 (by omega)
  have g5 : (X 0 == X' 0) = true := by simp [hx]
  have g6 : (X 0 != X' 0) = false := by simp [hx]
  have n0 : (0 : Int) < (n : Int) := by omega
  have m0 : (0 : Int) < (m : Int) := by omega
  simp only [Nat.zero_mul, Nat.add_zero] at e0 e1
  obtain ⟨i0, hi, hz0, hz1, hz2⟩ := info56
  have HE := Lib.hid hE
  have HE' := Lib.hid hE'
  have HC := Lib.hid hC
  have HC' := Lib.hid hC'
  have HX := Lib.hid hx
  clear hE hE' hC hC' hx
  generalize hx0 : X 0 = x0 at *
  generalize hx1 : X' 0 = x1 at *
  have HX0 := Lib.hid hx0
  have HX1 := Lib.hid hx1
  clear hx0 hx1
  go_enter Try.func16, Try.ntmps16
  go_wp2_with fail
  go_quiet (fail)
  clear e0 e1 g1 g2 g3 g4 g5 g6
  go_wp2_with fail
  refine (sum_any b off n c X Y C _ (HE.out.later (below_drewN _ _)) (by omega) HC.out).mono ?_
  rintro e w1 ⟨rfl, hb1⟩
  have hB1 := chain (below_drewN w _) hb1
  clear hb1
  obtain ⟨s1, s2, hs⟩ := sumV_two n X Y C
  obtain ⟨r1, r2, hr⟩ := sumV_two m X' Y' C'
  rw [hs]
  go_wp2_with fail
  refine (sum_any b' off' m d X' Y' C' _ (HE'.out.later hB1) (by omega) HC'.out).mono ?_
  rintro e w2 ⟨rfl, hb2⟩
  have hB2 := chain hB1 hb2
  clear hb2 hB1
  rw [hr]
  have hown0 : (w2.alloc (.cells #[] 56)).ownsRow w.heap.size 56 3 (.slice (some ⟨w2.heap.size, 0, none⟩) 0 0) 0 [] := World.ownsRow_made w2 #[] 0 hB2.size (by omega) (by simp)
  have hB3 := hB2.alloc hB2.size (.cells #[] 56)
  have HL := Lib.hid (HE.out.later hB3)
  have HB3 := Lib.hid hB3
  have hz3 := hB3.size
  have HO := Lib.hid hown0
  clear hB2 hB3 hown0
  go_wp2_with (at_builtin; refine wpList_append_own _ rfl _ _ 60 rfl w.heap.size 56 i0 (.agg #[.int .i64 0, .int .i64 0, .int .i64 0]) 3 24 Try.underlying60 hi hz0 hz1 hz2 rfl (by omega) _ 0 [] rfl HO.out ⟨b, off, none⟩ n c (flatE X Y C n) rfl (flatE_len _ _ _ _) ?qc2 (flatE_one _ _ _ _) ?qc4 ?qc5 ?qc6 ?_)
  case qc2 =>
    intro j u hj
    rw [Lib.add_plain]
    exact flatE_cells HL.out j u hj
  case qc4 => have hml : maxLen = 9223372036854775807 := rfl; omega
  case qc5 => omega
  case qc6 => first | exact hz3 | (simp only [World.size_alloc] at hz3 ⊢; omega)
  intro v4 w4 hown hgrow hnil
  have hB4 : Below w.heap.size w w4 := (HB3.out).grown hgrow hz3 (fun k hk => (World.ownsRow.lt HO.out k hk).1)
  have hv4 : v4 ≠ .slice none 0 0 := by
    intro e
    first | exact hnil e | (have h := (hnil.1 e).1; cases h)
  try rw [Nat.zero_add] at hown
  try rw [List.nil_append] at hown
  have HO4 := Lib.hid hown
  have HL4 := Lib.hid (HE'.out.later hB4)
  have hz4 := hB4.size
  clear hown hgrow hnil HB3 HO HL hz3
  go_wp2_with (at_builtin; refine wpList_append_own _ rfl _ _ 60 rfl w.heap.size 56 i0 (.agg #[.int .i64 0, .int .i64 0, .int .i64 0]) 3 24 Try.underlying60 hi hz0 hz1 hz2 rfl (by omega) v4 n (flatE X Y C n) rfl HO4.out ⟨b', off', none⟩ m d (flatE X' Y' C' m) rfl (flatE_len _ _ _ _) ?qc2 (flatE_one _ _ _ _) ?qc4 ?qc5 ?qc6 ?_)
  case qc2 =>
    intro j u hj
    rw [Lib.add_plain]
    exact flatE_cells HL4.out j u hj
  case qc4 => have hml : maxLen = 9223372036854775807 := rfl; omega
  case qc5 => omega
  case qc6 => exact hz4
  intro v5 w5 hown hgrow hnil
  have hB5 : Below w.heap.size w w5 := hB4.grown hgrow hz4 (fun k hk => (World.ownsRow.lt HO4.out k hk).1)
  have hv5 : v5 ≠ .slice none 0 0 := by
    intro e
    first | exact hnil e | exact hv4 (hnil.1 e).1
  rw [flatE_app] at hown
  have hown5 : w5.ownsRow w.heap.size 56 3 v5 (n + m) (flatE (cat n X X') (cat n Y Y') (cat n C C') (n + m)) := hown
  have H3 := sum_own (cat n X X') (cat n Y Y') (cat n C C') hown5 (by omega) (fun i hi => by
    unfold cat
    split
    · exact HC.out i (by omega)
    · exact HC'.out (i - n) (by omega)) (fun _ => hv5)
  obtain ⟨q1, q2, hq⟩ := sumV_two (n + m) (cat n X X') (cat n Y Y') (cat n C C')
  have hfin := join_fin n m X Y C X' Y' C' s1 s2 r1 r2 q1 q2 hn0 hn hm0 hm (by rw [HX0.out, HX1.out]; exact HX.out) hs hr hq
  rw [hq] at H3
  have HF := Lib.hid hfin
  clear hown hgrow hnil hown5 hfin HO4 HL4 hz4 hB4 hs hr hq
  go_wp2_with fail
  refine H3.mono ?_
  rintro e w6 ⟨rfl, hb6⟩
  have hB6 := chain hB5 hb6
  clear hb6 hB5 H3
  rcases HF.out with rfl | ⟨rfl, rfl⟩ | ⟨rfl, rfl, rfl, h⟩
  · clear HF
    go_wp2_with fail
    refine (known_any _).mono ?_
    rintro e w9 ⟨rfl, hb9⟩
    go_wp2_with fail
    go_ret
    exact ⟨rfl, chain hB6 hb9⟩
  · clear HF
    go_wp2_with fail
    refine (known_any _).mono ?_
    rintro e w9 ⟨rfl, hb9⟩
    go_wp2_with fail
    go_ret
    exact ⟨rfl, chain hB6 hb9⟩
  · clear HF
    rcases h with ⟨rfl, rfl, rfl⟩ | ⟨rfl, rfl, rfl⟩ | ⟨rfl, rfl, rfl⟩ | ⟨rfl, rfl, rfl⟩ | ⟨rfl, rfl, rfl⟩ | ⟨rfl, rfl, rfl⟩ | ⟨rfl, rfl, rfl⟩ | ⟨rfl, rfl, rfl⟩ | ⟨rfl, rfl, rfl⟩ | ⟨rfl, rfl, rfl⟩ | ⟨rfl, rfl, rfl⟩ | ⟨rfl, rfl, rfl⟩ | ⟨rfl, rfl, rfl⟩
    all_goals
      go_wp2_with fail
      refine (known_any _).mono ?_
      rintro e w9 ⟨rfl, hb9⟩
      go_wp2_with fail
      go_ret
      exact ⟨rfl, chain hB6 hb9⟩
theorem join_any (p q : Option Addr) (n m c d : Nat) (X Y C X' Y' C' : Nat → Int) (w : World) (hE : EdgesIn w p n X Y C) (hE' : EdgesIn w q m X' Y' C') (hn : n ≤ 9223372036854775807) (hm : m ≤ 9223372036854775807) (hC : ∀ i, i < n → I64 (C i)) (hC' : ∀ i, i < m → I64 (C' i)) :
    Calls Try.prog 16 #[.slice p n c, .slice q m d] w fun e w' => e = .returned (.bool true) ∧ Below w.heap.size w w' := by
  by_cases h : n = 0 ∨ m = 0 ∨ 300 < n ∨ 300 < m
  · exact join_short p q n m c d w hn hm h
  · obtain ⟨b, off, rfl, he⟩ := hE (by omega)
    obtain ⟨b', off', rfl, he'⟩ := hE' (by omega)
    by_cases hx : X 0 = X' 0
    · exact join_in b off b' off' n m c d X Y C X' Y' C' w he he' (by omega) (by omega) (by omega) (by omega) hx hC hC'
    · exact join_apart b off b' off' n m c d X Y C X' Y' C' w he he' (by omega) (by omega) (by omega) (by omega) hx
end Go.Proofs.Ytiadnifbjdnflaa
