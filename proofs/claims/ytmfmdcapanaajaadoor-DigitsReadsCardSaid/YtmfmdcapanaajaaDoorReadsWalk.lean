/- The walk of the law DigitsReads. -/
import Derived.Test.YtmfmdcapanaajaaDoorW5
import Derived.Test.YtmfmdcapanaajaaDoorRefRead
import Derived.Test.YtmfmdcapanaajaaDoorRefOf
import Derived.Test.YtmfmdcapanaajaaDoorRefText
namespace Go.Proofs.YtmfmdcapanaajaaDoor
open Go Go.RowKit Go.Sort

theorem dn_abs (n : Int) (h0 : -9223372036854775808 ≤ n) (h1 : n ≤ 9223372036854775807) :
    dn n 0 = e0 n.natAbs ∧ dn n 1 = e1 n.natAbs ∧ dn n 2 = e2 n.natAbs ∧ dn n 3 = e3 n.natAbs := by
  rcases Int.lt_or_le n 0 with hn | hn
  · obtain ⟨m, rfl⟩ : ∃ m : Int, n = -m := ⟨-n, by omega⟩
    have ha : ((-m).natAbs : Int) = m := by omega
    rw [ha]
    have q : ∀ d : Int, (-m).tdiv d = -(m / d) := fun d => by rw [Int.neg_tdiv, Int.tdiv_eq_ediv_of_nonneg (by omega)]
    have r : ∀ x : Int, 0 ≤ x → (if (-x).tmod 65536 < 0 then -((-x).tmod 65536) else (-x).tmod 65536) = x % 65536 := fun x hx => by
      rw [Int.neg_tmod, Int.tmod_eq_emod_of_nonneg hx]; split <;> omega
    refine ⟨?_, ?_, ?_, ?_⟩
    · show (if (-m).tmod 65536 < 0 then -((-m).tmod 65536) else (-m).tmod 65536) = _
      rw [r m (by omega)]; rfl
    · show (if ((-m).tdiv 65536).tmod 65536 < 0 then -(((-m).tdiv 65536).tmod 65536) else ((-m).tdiv 65536).tmod 65536) = _
      rw [q, r _ (by omega)]; rfl
    · show (if ((-m).tdiv 4294967296).tmod 65536 < 0 then -(((-m).tdiv 4294967296).tmod 65536) else ((-m).tdiv 4294967296).tmod 65536) = _
      rw [q, r _ (by omega)]; rfl
    · show (if ((-m).tdiv 281474976710656).tmod 65536 < 0 then -(((-m).tdiv 281474976710656).tmod 65536) else ((-m).tdiv 281474976710656).tmod 65536) = _
      rw [q, r _ (by omega)]; unfold e3; omega
  · have ha : (n.natAbs : Int) = n := by omega
    rw [ha]
    have q : ∀ d : Int, n.tdiv d = n / d := fun d => Int.tdiv_eq_ediv_of_nonneg hn
    have r : ∀ x : Int, 0 ≤ x → (if x.tmod 65536 < 0 then -(x.tmod 65536) else x.tmod 65536) = x % 65536 := fun x hx => by
      rw [Int.tmod_eq_emod_of_nonneg hx]; split <;> omega
    refine ⟨?_, ?_, ?_, ?_⟩
    · show (if n.tmod 65536 < 0 then -(n.tmod 65536) else n.tmod 65536) = _
      rw [r n hn]; rfl
    · show (if (n.tdiv 65536).tmod 65536 < 0 then -((n.tdiv 65536).tmod 65536) else (n.tdiv 65536).tmod 65536) = _
      rw [q, r _ (by omega)]; rfl
    · show (if (n.tdiv 4294967296).tmod 65536 < 0 then -((n.tdiv 4294967296).tmod 65536) else (n.tdiv 4294967296).tmod 65536) = _
      rw [q, r _ (by omega)]; rfl
    · show (if (n.tdiv 281474976710656).tmod 65536 < 0 then -((n.tdiv 281474976710656).tmod 65536) else (n.tdiv 281474976710656).tmod 65536) = _
      rw [q, r _ (by omega)]; unfold e3; omega

set_option maxRecDepth 100000 in
theorem refText_zero (w : World) :
    Calls Tryd.prog 19 #[.agg #[.bool false, .int .i64 (e0 0), .int .i64 (e1 0), .int .i64 (e2 0), .int .i64 (e3 0), .int .i64 0, .int .i64 0, .int .i64 0, .int .i64 0, .int .i64 0, .int .i64 0]] w fun e w' => e = .returned (.string ⟨#[48]⟩) ∧ Below w.heap.size w w' := by
  have HZ := Lib.hid (show decide ((0 : Int) = 0) = true from rfl)
  go_enter Tryd.func19, Tryd.ntmps19
  go_wp2_with fail
  refine (zero_n 0 _ _ (by omega) (by omega) HZ.out).mono ?_
  rintro e w1 ⟨rfl, hb⟩
  have hB : Below w.heap.size w w1 := ((Below.refl _ _).alloc (Nat.le_refl _) _).trans (hb.mono (by simp only [World.size_alloc]; omega))
  go_wp2_with fail
  go_ret
  exact ⟨rfl, hB⟩

/-- the row of a small number, written: its numeral. -/
theorem refBoth (n : Int) (w : World) (h0 : -9223372036854775808 ≤ n) (h1 : n ≤ 9223372036854775807) :
    Calls Tryd.prog 19 #[.agg (oc0 n 4)] w fun e w' => e = .returned (.string ⟨(Lib.itoa n).toArray⟩) ∧ Below w.heap.size w w' := by
  obtain ⟨d0, d1, d2, d3⟩ := dn_abs n h0 h1
  have e : oc0 n 4 = #[.bool (decide (n < 0)), .int .i64 (e0 n.natAbs), .int .i64 (e1 n.natAbs), .int .i64 (e2 n.natAbs), .int .i64 (e3 n.natAbs), .int .i64 0, .int .i64 0, .int .i64 0, .int .i64 0, .int .i64 0, .int .i64 0] := by
    rw [← d0, ← d1, ← d2, ← d3]; rfl
  rw [e]
  by_cases hz : n = 0
  · subst hz
    refine (refText_zero w).mono ?_
    rintro e w' ⟨rfl, hb⟩
    refine ⟨?_, hb⟩
    have : Lib.itoa 0 = [48] := by unfold Lib.itoa; rw [if_neg (by omega), show (0 : Int).toNat = 0 from rfl, Lib.decDigits_one (by omega)]; rfl
    rw [this]
  · refine (refText_any (decide (n < 0)) n.natAbs w (by omega) (by omega) (by omega)).mono ?_
    rintro e w' ⟨rfl, hb⟩
    refine ⟨?_, hb⟩
    unfold Lib.itoa
    by_cases hn : n < 0
    · rw [if_pos hn, decide_eq_true hn]; simp
    · rw [if_neg hn, decide_eq_false hn, show ((n.natAbs : Int)).toNat = n.toNat by omega]; simp

set_option maxRecDepth 100000 in
theorem reads_any (s : ByteArray) (n : Int) (w : World) (h0 : -9223372036854775808 ≤ n) (h1 : n ≤ 9223372036854775807) (hs : s.size ≤ 9223372036854775807) (htab : Lib.TabIs Tryd.prog w "internal/strconv.uint64pow10" .u64 Lib.pow10Tab) :
    Calls Tryd.prog 4 #[.string s, .int .i64 n] w fun e w' => e = .returned (.bool true) ∧ Below w.heap.size w w' := by
  by_cases hk : s.size ≤ 1000
  · go_enter Tryd.func4, Tryd.ntmps4
    go_wp2_with fail
    refine (read_any s _ (by omega)).mono ?_
    rintro e w1 ⟨rfl, hw1⟩
    subst hw1
    generalize hE : readE s.data.toList = E at *
    generalize hN : readN s.data.toList = N at *
    have HE := Lib.hid hE
    have HN := Lib.hid hN
    clear hE hN
    go_wp2_with fail
    refine (refRead_any s _ (by omega)).mono ?_
    rintro e w2 ⟨rfl, hw2⟩
    subst hw2
    rw [HE.out, HN.out]
    have eE : (E == E) = true := by simp
    have eN : (N == N) = true := by simp
    go_wp2_with fail
    refine (text_any n _ h0 h1 htab).mono ?_
    rintro e w3 ⟨rfl, hb3⟩
    have ht3 := tabIs_below htab hb3
    go_wp2_with fail
    refine (refOf0 n _ h0 h1).mono ?_
    rintro e w4 ⟨rfl, hb4⟩
    have ht4 := tabIs_below ht3 hb4
    have hB4 := hb3.trans (hb4.mono hb3.size)
    clear hb3 hb4
    go_wp2_with fail
    refine (refBoth n _ h0 h1).mono ?_
    rintro e w5 ⟨rfl, hb5⟩
    have ht5 := tabIs_below ht4 hb5
    have hB5 := hB4.trans (hb5.mono hB4.size)
    clear hb5 hB4
    go_wp2_with fail
    refine (known_any _ ht5).mono ?_
    rintro e w6 ⟨rfl, hb6⟩
    have hB6 := hB5.trans (hb6.mono hB5.size)
    clear hb6 hB5
    go_wp2_with fail
    go_ret
    exact ⟨rfl, hB6⟩
  · have hk' : 1000 < s.size := by omega
    clear hk
    go_enter Tryd.func4, Tryd.ntmps4
    go_wp2_with fail
    refine (known_any _ htab).mono ?_
    rintro e w6 ⟨rfl, hb4⟩
    go_wp2_with fail
    go_ret
    exact ⟨rfl, hb4⟩
end Go.Proofs.YtmfmdcapanaajaaDoor
