/- juristref18.Sum: what Sum tells. -/
import Derived.Test.YtiadnifbjdnflaaRefSum
namespace Go.Proofs.Ytiadnifbjdnflaa
open Go Go.RowKit

set_option maxRecDepth 100000 in
set_option maxHeartbeats 800000 in
theorem refsum_long (p : Option Addr) (n c : Nat) (w : World) (hn : n ≤ 4611686018427387904) (h : 5000 < n ∨ n = 0) :
    Calls Try.prog 44 #[.slice p n c] w fun e w' => e = .returned (.tuple #[.int .i64 0, .int .i64 (if n = 0 then 5 else 3)]) ∧ Below w.heap.size w w' := by
  rcases h with h | rfl
  · rw [if_neg (by omega)]
    go_enter Try.func44, Try.ntmps44
    go_wp2
    go_ret2
    exact ⟨rfl, Below.refl _ _⟩
  · go_enter Try.func44, Try.ntmps44
    go_wp2_with fail
    refine wp_loop_rounds 1 ?_
    rw [rounds_succ]
    go_wp2_with fail
    go_ret2
    exact ⟨rfl, Below.refl _ _⟩

set_option maxRecDepth 100000 in
set_option maxHeartbeats 1600000 in
theorem refsum_in (b off n c : Nat) (X Y C : Nat → Int) (w : World) (hE : EdgesAt w b off n X Y C) (h0 : 1 ≤ n) (h1 : n ≤ 5000) (hC : ∀ i, i < n → I64 (C i)) :
    Calls Try.prog 44 #[.slice (some ⟨b, off, none⟩) n c] w fun e w' => e = .returned (sumV n X Y C) ∧ Below w.heap.size w w' := by
  obtain ⟨i0, hi, hz0, hz1, hz2⟩ := info2
  have HE := Lib.hid hE
  have HC := Lib.hid hC
  clear hE hC
  go_enter Try.func44, Try.ntmps44
  go_wp2_with fail
  go_loopw [4, 5] (fun v i wr => ∃ (j : Nat) (vm : Value), vm = v ∧ j ≤ n ∧ i = .int .i64 j ∧ wr.ownsRow w.heap.size 2 1 vm j (flatC C j) ∧ (1 ≤ j → vm ≠ .slice none 0 0) ∧ (∀ i, i < j → Y i = nextX X n i) ∧ Below w.heap.size w wr) (fun _ i _ => n - (intOf i).toNat)
  case atStart => exact ⟨0, _, rfl, by omega, rfl, ⟨by simp [flatC], .inl ⟨rfl, rfl⟩⟩, fun h => by omega, fun i hi => by omega, Below.refl _ _⟩
  case round =>
    obtain ⟨j, vm, rfl, hj, rfl, hown, hne, hall, hb⟩ := hrel
    have HOWN := Lib.hid hown
    have HNE := Lib.hid hne
    have HALL := Lib.hid hall
    have HB := Lib.hid hb
    clear hown hne hall hb
    have nn : (0 : Int) < (n : Int) := by omega
    by_cases hlt : j < n
    · have he := HE.out.later HB.out
      have ey := he.k1 j hlt
      have ec := he.k2 j hlt
      have ex00 := he.k0 0 (by omega)
      simp only [Nat.zero_mul, Nat.add_zero] at ex00
      have hj0 : (0 : Int) ≤ (j : Int) := by omega
      have hj1 : (j : Int) < (n : Int) := by omega
      have hbad : Y j ≠ nextX X n j → sumV n X Y C = .tuple #[.int .i64 0, .int .i64 5] := fun hne2 => by
        unfold sumV
        rw [if_neg (by omega), if_neg (by omega), if_neg (fun hc => hne2 ((cyc_next n X Y h0).1 hc j hlt))]
      have HBAD := Lib.hid hbad
      clear hbad
      have hown2 := own_later HOWN.out (below1 wr (.cells #[.int .i64 (C j)] 2))
      have hz := (HB.out).size
      have hb2 := (HB.out).alloc (HB.out).size (.cells #[.int .i64 (C j)] 2)
      have HO2 := Lib.hid hown2
      have HB2 := Lib.hid hb2
      clear hown2 hb2
      by_cases hn1 : j + 1 < n
      · have ex := he.k0 (j + 1) hn1
        have hjn : (j : Int) + 1 < (n : Int) := by omega
        have hj2 : (0 : Int) ≤ (j : Int) + 1 := by omega
        have hjt : ((j : Int) + 1).toNat = j + 1 := by omega
        have hnx : nextX X n j = X (j + 1) := if_pos hn1
        have HNX := Lib.hid hnx
        clear he hnx
        by_cases heq : Y j = X (j + 1)
        · have q1 : (Y j == X (j + 1)) = true := by simp [heq]
          have q2 : (Y j != X (j + 1)) = false := by simp [heq]
          have HEQ := Lib.hid heq
          clear heq
          generalize hyj : Y j = yj at *
          generalize hxj : X (j + 1) = xj at *
          have HYJ := Lib.hid hyj
          have HXJ := Lib.hid hxj
          clear hyj hxj
          go_wp2_with (at_builtin; refine wpList_append_own _ rfl _ _ 65 rfl w.heap.size 2 i0 (.int .i64 0) 1 8 Try.underlying65 hi hz0 hz1 hz2 rfl (by omega) _ j (flatC C j) rfl ?qc0 _ 1 1 [.int .i64 (C j)] rfl rfl ?qc2 ?qc3 ?qc4 ?qc5 ?qc6 ?_)
          case qc0 => exact HO2.out
          case qc2 =>
            intro jj u hjj
            rw [Lib.add_plain]
            match jj, hjj with
            | 0, hjj => cases hjj; simp [go_sem]
          case qc3 => intro u hu; simp at hu; subst hu; rfl
          case qc4 => have hml : maxLen = 9223372036854775807 := rfl; omega
          case qc5 => omega
          case qc6 => simp; omega
          intro v' w2 hown hgrow hnil
          have hb3 : Below w.heap.size w w2 := (HB2.out).grown hgrow (by simp; omega) (fun k hk => (World.ownsRow.lt HO2.out k hk).1)
          have HOWN2 := Lib.hid hown
          have HB3 := Lib.hid hb3
          have hnil2 : v' ≠ .slice none 0 0 := by
            intro e
            first | exact hnil e | (have h := (hnil.1 e).2; omega)
          clear hown hgrow hnil hb3
          go_wp2_with fail
          go_roundw
          case rel => exact ⟨j + 1, _, rfl, by omega, by go_num, HOWN2.out, fun _ => hnil2, fun i hi => by
            by_cases hij : i < j
            · exact HALL.out i hij
            · obtain rfl : i = j := by omega
              rw [HNX.out, HYJ.out]; exact HEQ.out, HB3.out⟩
          case measure => simp [intOf]; omega
        · have q1 : (Y j == X (j + 1)) = false := by simp [heq]
          have q2 : (Y j != X (j + 1)) = true := by simp [heq]
          have HV := Lib.hid (HBAD.out (by rw [HNX.out]; exact heq))
          clear heq
          generalize Y j = yj at *
          generalize X (j + 1) = xj at *
          go_wp2_with fail
          go_ret2
          exact ⟨by rw [HV.out]; rfl, HB.out⟩
      · have hjn : (n : Int) ≤ (j : Int) + 1 := by omega
        have hnx : nextX X n j = X 0 := if_neg hn1
        have HNX := Lib.hid hnx
        clear he hnx
        by_cases heq : Y j = X 0
        · have q1 : (Y j == X 0) = true := by simp [heq]
          have q2 : (Y j != X 0) = false := by simp [heq]
          have HEQ := Lib.hid heq
          clear heq
          generalize hyj : Y j = yj at *
          generalize hxj : X 0 = xj at *
          have HYJ := Lib.hid hyj
          have HXJ := Lib.hid hxj
          clear hyj hxj
          go_wp2_with (at_builtin; refine wpList_append_own _ rfl _ _ 65 rfl w.heap.size 2 i0 (.int .i64 0) 1 8 Try.underlying65 hi hz0 hz1 hz2 rfl (by omega) _ j (flatC C j) rfl ?qc0 _ 1 1 [.int .i64 (C j)] rfl rfl ?qc2 ?qc3 ?qc4 ?qc5 ?qc6 ?_)
          case qc0 => exact HO2.out
          case qc2 =>
            intro jj u hjj
            rw [Lib.add_plain]
            match jj, hjj with
            | 0, hjj => cases hjj; simp [go_sem]
          case qc3 => intro u hu; simp at hu; subst hu; rfl
          case qc4 => have hml : maxLen = 9223372036854775807 := rfl; omega
          case qc5 => omega
          case qc6 => simp; omega
          intro v' w2 hown hgrow hnil
          have hb3 : Below w.heap.size w w2 := (HB2.out).grown hgrow (by simp; omega) (fun k hk => (World.ownsRow.lt HO2.out k hk).1)
          have HOWN2 := Lib.hid hown
          have HB3 := Lib.hid hb3
          have hnil2 : v' ≠ .slice none 0 0 := by
            intro e
            first | exact hnil e | (have h := (hnil.1 e).2; omega)
          clear hown hgrow hnil hb3
          go_wp2_with fail
          go_roundw
          case rel => exact ⟨j + 1, _, rfl, by omega, by go_num, HOWN2.out, fun _ => hnil2, fun i hi => by
            by_cases hij : i < j
            · exact HALL.out i hij
            · obtain rfl : i = j := by omega
              rw [HNX.out, HYJ.out]; exact HEQ.out, HB3.out⟩
          case measure => simp [intOf]; omega
        · have q1 : (Y j == X 0) = false := by simp [heq]
          have q2 : (Y j != X 0) = true := by simp [heq]
          have HV := Lib.hid (HBAD.out (by rw [HNX.out]; exact heq))
          clear heq
          generalize Y j = yj at *
          generalize X 0 = xj at *
          go_wp2_with fail
          go_ret2
          exact ⟨by rw [HV.out]; rfl, HB.out⟩
    · obtain rfl : j = n := by omega
      have hv : sumV j X Y C = .tuple #[.int .i64 (sgn (sumC C j)), .int .i64 0] := by
        unfold sumV
        rw [if_neg (by omega), if_neg (by omega), if_pos ((cyc_next j X Y h0).2 HALL.out)]
      have HV := Lib.hid hv
      have hnz : ((j : Int) == 0) = false := by rw [beq_eq_false_iff_ne]; omega
      obtain ⟨g, cg, rfl, _, hcells⟩ := own_cells HOWN.out (HNE.out h0)
      have HSG := Lib.hid (sign_any g j cg C wr (fun i hi => hcells i _ (flatC_get C j i hi)) (by omega) HC.out)
      clear hv hcells
      go_wp2_with fail
      refine (HSG.out).mono ?_
      rintro e w1 ⟨rfl, rfl⟩
      go_wp2_with fail
      go_ret2
      exact ⟨by rw [HV.out]; rfl, HB.out⟩
theorem refsum_arg (p : Option Addr) (n c : Nat) (X Y C : Nat → Int) (w : World) (hE : EdgesIn w p n X Y C) (hn : n ≤ 4611686018427387904) (hC : ∀ i, i < n → I64 (C i)) :
    Calls Try.prog 44 #[.slice p n c] w fun e w' => e = .returned (sumV n X Y C) ∧ Below w.heap.size w w' := by
  by_cases h : 5000 < n ∨ n = 0
  · refine (refsum_long p n c w hn h).mono ?_
    rintro e w' ⟨rfl, hb⟩
    refine ⟨?_, hb⟩
    unfold sumV
    rcases h with h | rfl
    · rw [if_pos h, if_neg (by omega)]
    · rfl
  · obtain ⟨b, off, rfl, he⟩ := hE (by omega)
    exact refsum_in b off n c X Y C w he (by omega) (by omega) hC
end Go.Proofs.Ytiadnifbjdnflaa
