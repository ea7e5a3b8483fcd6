/- The walk of the law CyclesScale. -/
import Derived.Test.YtiadnifbjdnflaaFlat
namespace Go.Proofs.Ytiadnifbjdnflaa
open Go Go.RowKit

theorem sumC_scale (C : Nat → Int) (t : Int) : ∀ n, sumC (fun i => C i * t) n = sumC C n * t := by
  intro n
  induction n with
  | zero => simp [sumC]
  | succ n ih => simp only [sumC]; rw [ih, Int.add_mul]
theorem sgn_scale (s t : Int) (h : 1 ≤ t) : sgn (s * t) = sgn s := by
  unfold sgn
  rcases Int.lt_trichotomy s 0 with hs | hs | hs
  · have : s * t < 0 := Int.mul_neg_of_neg_of_pos hs (by omega)
    rw [if_neg (by omega), if_pos this, if_neg (by omega), if_pos hs]
  · subst hs; simp
  · have : 0 < s * t := Int.mul_pos hs (by omega)
    rw [if_neg (by omega), if_neg (by omega), if_neg (by omega), if_neg (by omega)]
theorem sumV_scale (n : Nat) (X Y C : Nat → Int) (t : Int) (h : 1 ≤ t) : sumV n X Y (fun i => C i * t) = sumV n X Y C := by
  unfold sumV
  rw [sumC_scale, sgn_scale _ _ h]
theorem mul_bd (c t : Int) (c0 : -1125899906842624 ≤ c) (c1 : c ≤ 1125899906842624) (t0 : 1 ≤ t) (t1 : t ≤ 1000) : -9223372036854775808 ≤ c * t ∧ c * t ≤ 9223372036854775807 := by
  have h1 : c * t ≤ 1125899906842624 * t := Int.mul_le_mul_of_nonneg_right c1 (by omega)
  have h2 : -1125899906842624 * t ≤ c * t := Int.mul_le_mul_of_nonneg_right c0 (by omega)
  omega
theorem sumV_two (n : Nat) (X Y C : Nat → Int) : ∃ a b : Int, sumV n X Y C = .tuple #[.int .i64 a, .int .i64 b] := by
  unfold sumV
  split
  · exact ⟨_, _, rfl⟩
  · split
    · exact ⟨_, _, rfl⟩
    · split
      · exact ⟨_, _, rfl⟩
      · exact ⟨_, _, rfl⟩
/-- Sum of a row of the call's own. -/
theorem sum_own {w : World} {base n : Nat} {v : Value} (X Y C : Nat → Int) (h : w.ownsRow base 56 3 v n (flatE X Y C n)) (hn : n ≤ 4611686018427387904) (hC : ∀ i, i < n → I64 (C i)) (hv : 1 ≤ n → v ≠ .slice none 0 0) :
    Calls Try.prog 43 #[v] w fun e w' => e = .returned (sumV n X Y C) ∧ Below w.heap.size w w' := by
  by_cases h0 : n = 0
  · subst h0
    rcases h.2 with ⟨rfl, _⟩ | ⟨g, cap, cur, rfl, _⟩
    · refine (sum_long none 0 0 w (by omega) (.inr rfl)).mono ?_
      rintro e w' ⟨rfl, rfl⟩
      exact ⟨rfl, Below.refl _ _⟩
    · refine (sum_long _ 0 cap w (by omega) (.inr rfl)).mono ?_
      rintro e w' ⟨rfl, rfl⟩
      exact ⟨rfl, Below.refl _ _⟩
  · obtain ⟨g, cg, rfl, _, hcells⟩ := own_cells h (hv (by omega))
    exact sum_any g 0 n cg X Y C w (flatE_at hcells) hn hC
/-- an argument that is a slice of edges, in a world. -/
def EdgesIn (W : World) (p : Option Addr) (n : Nat) (X Y C : Nat → Int) : Prop := 0 < n → ∃ b off, p = some ⟨b, off, none⟩ ∧ EdgesAt W b off n X Y C
theorem EdgesIn.later {W W' : World} {p : Option Addr} {n : Nat} {X Y C : Nat → Int} (h : EdgesIn W p n X Y C) (hb : Below W.heap.size W W') : EdgesIn W' p n X Y C := fun hn => by
  obtain ⟨b, off, e, ha⟩ := h hn
  exact ⟨b, off, e, ha.later hb⟩
theorem sum_arg (p : Option Addr) (n c : Nat) (X Y C : Nat → Int) (w : World) (hE : EdgesIn w p n X Y C) (hn : n ≤ 4611686018427387904) (hC : ∀ i, i < n → I64 (C i)) :
    Calls Try.prog 43 #[.slice p n c] w fun e w' => e = .returned (sumV n X Y C) ∧ Below w.heap.size w w' := by
  by_cases h0 : n = 0
  · subst h0
    refine (sum_long p 0 c w (by omega) (.inr rfl)).mono ?_
    rintro e w' ⟨rfl, rfl⟩
    exact ⟨rfl, Below.refl _ _⟩
  · obtain ⟨b, off, rfl, he⟩ := hE (by omega)
    exact sum_any b off n c X Y C w he hn hC

set_option maxRecDepth 100000 in
set_option maxHeartbeats 1000000 in
theorem scale_out (p : Option Addr) (n c : Nat) (t : Int) (w : World) (hn : n ≤ 9223372036854775807) (h : 300 < n ∨ t < 1 ∨ 1000 < t) :
    Calls Try.prog 17 #[.slice p n c, .int .i64 t] w fun e w' => e = .returned (.bool true) ∧ Below w.heap.size w w' := by
  have key : 300 < n ∨ (n ≤ 300 ∧ t < 1) ∨ (n ≤ 300 ∧ 1 ≤ t ∧ 1000 < t) := by omega
  clear h
  rcases key with h | ⟨h, h2⟩ | ⟨h, h2, h3⟩
  all_goals
    go_enter Try.func17, Try.ntmps17
    go_wp2_with fail
    refine (known_any _).mono ?_
    rintro e w1 ⟨rfl, hb⟩
    go_wp2_with fail
    go_ret
    exact ⟨rfl, hb⟩

set_option maxRecDepth 100000 in
set_option maxHeartbeats 800000 in
theorem scale_in (p : Option Addr) (n c : Nat) (t : Int) (X Y C : Nat → Int) (w : World) (hE : EdgesIn w p n X Y C) (hn : n ≤ 300) (t0 : 1 ≤ t) (t1 : t ≤ 1000) (hC : ∀ i, i < n → I64 (C i)) :
    Calls Try.prog 17 #[.slice p n c, .int .i64 t] w fun e w' => e = .returned (.bool true) ∧ Below w.heap.size w w' := by
  obtain ⟨i0, hi, hz0, hz1, hz2⟩ := info56
  have HE := Lib.hid hE
  have HC := Lib.hid hC
  clear hE hC
  go_enter Try.func17, Try.ntmps17
  go_wp2_with fail
  go_loopw [5, 26] (fun v i wr => ∃ (j : Nat) (vm : Value), vm = v ∧ j ≤ n ∧ i = .int .i64 j ∧ wr.ownsRow w.heap.size 56 3 vm j (flatE X Y (fun i => C i * t) j) ∧ (1 ≤ j → vm ≠ .slice none 0 0) ∧ (∀ i, i < j → -1125899906842624 ≤ C i ∧ C i ≤ 1125899906842624) ∧ Below w.heap.size w wr) (fun _ i _ => n - (intOf i).toNat)
  case atStart => exact ⟨0, _, rfl, by omega, rfl, ⟨by simp [flatE], .inl ⟨rfl, rfl⟩⟩, fun h => by omega, fun i hi => by omega, Below.refl _ _⟩
  case round =>
    obtain ⟨j, vm, rfl, hj, rfl, hown, hne, hall, hb⟩ := hrel
    have HOWN := Lib.hid hown
    have HNE := Lib.hid hne
    have HALL := Lib.hid hall
    have HB := Lib.hid hb
    clear hown hne hall hb
    by_cases hlt : j < n
    · obtain ⟨b, off, rfl, he⟩ := HE.out (by omega)
      have hee := (he.later HB.out).later (below1 _ (.cells #[.int .i64 0, .int .i64 0, .int .i64 0] 56))
      have he2 := he.later HB.out
      have e0 := he2.k0 j hlt
      have e1 := he2.k1 j hlt
      have e2 := he2.k2 j hlt
      have hj0 : (0 : Int) ≤ (j : Int) := by omega
      have hj1 : (j : Int) < (n : Int) := by omega
      clear he hee he2
      have key : 1125899906842624 < C j ∨ (C j ≤ 1125899906842624 ∧ C j < -1125899906842624) ∨ (C j ≤ 1125899906842624 ∧ -1125899906842624 ≤ C j) := by omega
      rcases key with h | ⟨h, h2⟩ | ⟨h, h2⟩
      · have hbb := (HB.out).alloc (HB.out).size (.cells #[.int .i64 (X j), .int .i64 (Y j), .int .i64 (C j)] 56)
        go_wp2_with fail
        refine (known_any _).mono ?_
        rintro e w1 ⟨rfl, hb⟩
        go_wp2_with fail
        go_ret
        exact ⟨rfl, chain hbb hb⟩
      · have hbb := (HB.out).alloc (HB.out).size (.cells #[.int .i64 (X j), .int .i64 (Y j), .int .i64 (C j)] 56)
        go_wp2_with fail
        refine (known_any _).mono ?_
        rintro e w1 ⟨rfl, hb⟩
        go_wp2_with fail
        go_ret
        exact ⟨rfl, chain hbb hb⟩
      · obtain ⟨m0, m1⟩ := mul_bd (C j) t h2 h t0 t1
        have HCJ := Lib.hid (And.intro h2 h)
        have hgo := own_later (own_later HOWN.out (below1 wr (.cells #[.int .i64 (X j), .int .i64 (Y j), .int .i64 (C j * t)] 56))) (below1 _ (.cells #[.int .i64 (X j), .int .i64 (Y j), .int .i64 (C j * t)] 56))
        have HGO := Lib.hid hgo
        have hsz := (HB.out).size
        have HB4 := Lib.hid (((HB.out).alloc (HB.out).size (.cells #[.int .i64 (X j), .int .i64 (Y j), .int .i64 (C j * t)] 56)).alloc (by rw [World.size_alloc]; omega) (.cells #[.int .i64 (X j), .int .i64 (Y j), .int .i64 (C j * t)] 56))
        clear hgo HOWN HB
        go_wp2_with (at_builtin; refine wpList_append_own _ rfl _ _ 60 rfl w.heap.size 56 i0 (.agg #[.int .i64 0, .int .i64 0, .int .i64 0]) 3 24 Try.underlying60 hi hz0 hz1 hz2 rfl (by omega) _ j (flatE X Y (fun i => C i * t) j) rfl ?qc0 _ 1 1 [.int .i64 (X j), .int .i64 (Y j), .int .i64 (C j * t)] rfl rfl ?qc2 ?qc3 ?qc4 ?qc5 ?qc6 ?_)
        case qc0 => exact HGO.out
        case qc2 =>
          intro jj u hjj
          rw [Lib.add_plain]
          match jj, hjj with
          | 0, hjj => cases hjj; simp [go_sem]
          | 1, hjj => cases hjj; simp [go_sem]
          | 2, hjj => cases hjj; simp [go_sem]
        case qc3 => intro u hu; simp at hu; rcases hu with rfl | rfl | rfl <;> rfl
        case qc4 => have hml : maxLen = 9223372036854775807 := rfl; omega
        case qc5 => omega
        case qc6 => simp; omega
        intro v' w2 hown hgrow hnil
        have hlt2 := (HGO.out).lt
        have hb2 : Below w.heap.size w w2 := (HB4.out).grown hgrow (by simp; omega) (fun k hk => (hlt2 k hk).1)
        have HOWN := Lib.hid hown
        have HB := Lib.hid hb2
        have hnil2 : v' ≠ .slice none 0 0 := by
          intro e
          exact hnil e
        clear hown hgrow hnil hlt2 HB4 HGO hb2
        go_wp2_with fail
        go_roundw
        case rel => exact ⟨j + 1, _, rfl, by omega, by go_num, HOWN.out, fun _ => hnil2, fun i hi => by
          by_cases hij : i < j
          · exact HALL.out i hij
          · obtain rfl : i = j := by omega
            exact HCJ.out, HB.out⟩
        case measure => simp [intOf]; omega
    · obtain rfl : j = n := by omega
      obtain ⟨s1, s2, hs⟩ := sumV_two j X Y C
      have H1 := sum_arg p j c X Y C wr (HE.out.later HB.out) (by omega) HC.out
      have H2 := fun (W : World) (hW : W.ownsRow w.heap.size 56 3 vm j (flatE X Y (fun i => C i * t) j)) => sum_own X Y (fun i => C i * t) hW (by omega) (fun i hi => by
        have := HALL.out i hi
        exact mul_bd (C i) t this.1 this.2 t0 t1) HNE.out
      rw [sumV_scale j X Y C t t0] at H2
      rw [hs] at H1 H2
      have g1 : (s1 == s1) = true := by simp
      have g2 : (s2 == s2) = true := by simp
      go_wp2_with fail
      refine H1.mono ?_
      rintro e w1 ⟨rfl, hb1⟩
      have hown1 := own_later HOWN.out hb1
      have hB1 := chain HB.out hb1
      clear hb1 H1
      go_wp2_with fail
      refine (H2 _ hown1).mono ?_
      rintro e w2 ⟨rfl, hb2⟩
      have hB2 := chain hB1 hb2
      clear hb2 hB1 hown1
      go_wp2_with fail
      refine (known_any _).mono ?_
      rintro e w3 ⟨rfl, hb3⟩
      go_wp2_with fail
      go_ret
      exact ⟨rfl, chain hB2 hb3⟩
theorem scale_any (p : Option Addr) (n c : Nat) (t : Int) (X Y C : Nat → Int) (w : World) (hE : EdgesIn w p n X Y C) (hn : n ≤ 9223372036854775807) (hC : ∀ i, i < n → I64 (C i)) :
    Calls Try.prog 17 #[.slice p n c, .int .i64 t] w fun e w' => e = .returned (.bool true) ∧ Below w.heap.size w w' := by
  by_cases h : 300 < n ∨ t < 1 ∨ 1000 < t
  · exact scale_out p n c t w hn h
  · exact scale_in p n c t X Y C w hE (by omega) (by omega) (by omega) hC
end Go.Proofs.Ytiadnifbjdnflaa
