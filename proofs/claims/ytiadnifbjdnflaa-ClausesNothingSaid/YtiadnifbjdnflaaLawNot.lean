/- The walk of the law ClausesNothing. -/
import Derived.Test.YtiadnifbjdnflaaBits
namespace Go.Proofs.Ytiadnifbjdnflaa
open Go Go.RowKit

set_option maxRecDepth 100000 in
set_option maxHeartbeats 800000 in
theorem nothing_out (p : Option Addr) (n c : Nat) (bits : Int) (w : World) (h : 300 < n) (h1 : n ≤ 9223372036854775807) :
    Calls Try.prog 9 #[.slice p n c, .int .u64 bits] w fun e w' => e = .returned (.bool true) ∧ Below w.heap.size w w' := by
  go_enter Try.func9, Try.ntmps9
  go_wp2_with fail
  refine (known14_any _).mono ?_
  rintro e w1 ⟨rfl, hb⟩
  go_wp2_with fail
  go_ret
  exact ⟨rfl, hb⟩
theorem nat_u64 (N : Nat) (h : N < 2 ^ 64) : (0 : Int) ≤ (N : Int) ∧ (N : Int) ≤ 18446744073709551615 := by
  have : (2 : Nat) ^ 64 = 18446744073709551616 := by decide
  omega
set_option maxRecDepth 100000 in
set_option maxHeartbeats 4000000 in
theorem nothing_in (p : Option Addr) (n c : Nat) (V : Nat → Int) (B0 : Nat) (w : World) (hV : LitsIn w p n V) (hn : n ≤ 300) (hI : ∀ i, i < n → I64 (V i)) (hB : B0 < 2 ^ 64) :
    Calls Try.prog 9 #[.slice p n c, .int .u64 (B0 : Int)] w fun e w' => e = .returned (.bool true) ∧ Below w.heap.size w w' := by
  have HV := Lib.hid hV
  have HI := Lib.hid hI
  have HN0 := Lib.hid hB
  have HU0 := Lib.hid (nat_u64 B0 hB)
  have HB := Lib.hid (Below.refl w.heap.size w)
  clear hV hI hB
  go_enter Try.func9, Try.ntmps9
  go_wp2_with fail
  go_loopw [5, 15] (fun a i wr => ∃ (j N : Nat), j ≤ n ∧ a = .int .u64 (N : Int) ∧ i = .int .i64 j ∧ Below w.heap.size w wr ∧ Against V j N ∧ ∀ t, t < j → Sixty (V t)) (fun _ i _ => n - (intOf i).toNat)
  case atStart => exact ⟨0, B0, by omega, rfl, rfl, HB.out, ⟨HN0.out, fun t ht => by omega⟩, fun t ht => by omega⟩
  case round =>
    obtain ⟨j, N, hj, rfl, rfl, hb, hag, h60⟩ := hrel
    have HB := Lib.hid hb
    have HA := Lib.hid hag
    have H6 := Lib.hid h60
    clear hb hag h60
    by_cases hlt : j < n
    · obtain ⟨b, off, rfl, hX⟩ := (HV.out.later HB.out) (by omega)
      have hj0 : (0 : Int) ≤ (j : Int) := by omega
      have hj1 : (j : Int) < (n : Int) := by omega
      have cv := hX j hlt
      clear hX
      have HS6 := Lib.hid (show Sixty (V j) → ∀ t, t < j + 1 → Sixty (V t) from fun h t ht => by
        by_cases htj : t < j
        · exact H6.out t htj
        · obtain rfl : t = j := by omega
          exact h)
      obtain ⟨x, hx⟩ : ∃ x, x = V j := ⟨_, rfl⟩
      rw [← hx] at cv
      have HX := Lib.hid hx
      clear hx
      have key : x = 0 ∨ (x ≠ 0 ∧ 60 < x) ∨ (x ≠ 0 ∧ x ≤ 60 ∧ x < -60) ∨ (x ≠ 0 ∧ x ≤ 60 ∧ -60 ≤ x ∧ 0 < x) ∨ (x ≠ 0 ∧ x ≤ 60 ∧ -60 ≤ x ∧ x < 0) := by omega
      rcases key with rfl | ⟨h, h'⟩ | ⟨h, h', h2⟩ | ⟨h, h', h2, h3⟩ | ⟨h, h', h2, h3⟩
      · go_wp2_with fail
        refine (known14_any _).mono ?_
        rintro e w5 ⟨rfl, hb⟩
        have hbz := chain HB.out hb
        clear hb
        go_wp2_with fail
        go_ret
        exact ⟨rfl, hbz⟩
      · have q1 : (x == 0) = false := by rw [beq_eq_false_iff_ne]; exact h
        clear h
        go_wp2_with fail
        refine (known14_any _).mono ?_
        rintro e w5 ⟨rfl, hb⟩
        have hbz := chain HB.out hb
        clear hb
        go_wp2_with fail
        go_ret
        exact ⟨rfl, hbz⟩
      · have q1 : (x == 0) = false := by rw [beq_eq_false_iff_ne]; exact h
        clear h
        go_wp2_with fail
        refine (known14_any _).mono ?_
        rintro e w5 ⟨rfl, hb⟩
        have hbz := chain HB.out hb
        clear hb
        go_wp2_with fail
        go_ret
        exact ⟨rfl, hbz⟩
      · have HSX := Lib.hid (show Sixty x from ⟨h, h2, h'⟩)
        obtain ⟨R, hR, hRe, hRb⟩ := andNot_bit N ((absI x).toNat - 1) HA.out.1 (by unfold absI; omega)
        have HR := Lib.hid hR
        have HRE := Lib.hid hRe
        have HRB := Lib.hid hRb
        clear hR hRe hRb
        have q1 : (x == 0) = false := by rw [beq_eq_false_iff_ne]; exact h
        clear h
        go_wp2_with fail
        go_quiet (fail)
        go_wp2
        go_roundw
        case rel => exact ⟨j + 1, R, by omega, congrArg (Value.int .u64) HRE.out, by go_num, HB.out.trans ((below_drewN _ _).mono HB.out.size), HA.out.step HR.out (HS6.out (HX.out ▸ HSX.out)) (by rw [← HX.out, HRB.out]; rw [decide_eq_false (show ¬ x < 0 by omega)]; simp) (fun i hi => by rw [← HX.out] at hi; rw [HRB.out]; simp [hi]), HS6.out (HX.out ▸ HSX.out)⟩
        case measure => simp [intOf]; omega
      · have HSX := Lib.hid (show Sixty x from ⟨h, h2, h'⟩)
        obtain ⟨R, hR, hRe, hRb⟩ := or_bit N ((absI x).toNat - 1) HA.out.1 (by unfold absI; omega)
        have HR := Lib.hid hR
        have HRE := Lib.hid hRe
        have HRB := Lib.hid hRb
        clear hR hRe hRb
        have q1 : (x == 0) = false := by rw [beq_eq_false_iff_ne]; exact h
        clear h
        go_wp2_with fail
        go_quiet (fail)
        go_wp2
        go_roundw
        case rel => exact ⟨j + 1, R, by omega, congrArg (Value.int .u64) HRE.out, by go_num, HB.out.trans ((below_drewN _ _).mono HB.out.size), HA.out.step HR.out (HS6.out (HX.out ▸ HSX.out)) (by rw [← HX.out, HRB.out]; rw [decide_eq_true (show x < 0 by have := HSX.out; unfold Sixty at this; omega)]; simp) (fun i hi => by rw [← HX.out] at hi; rw [HRB.out]; simp [hi]), HS6.out (HX.out ▸ HSX.out)⟩
        case measure => simp [intOf]; omega
    · obtain rfl : j = n := by omega
      have HNU := Lib.hid (nat_u64 N HA.out.1)
      cases hs : nothB j V with
      | true =>
        have hh := noth_true (B0 : Int) H6.out hs
        have HH := Lib.hid hh
        clear hh
        have HSY := Lib.hid hs
        clear hs
        have H1 := says_any p j c V _ (HV.out.later HB.out) (by omega) HI.out
        rw [HSY.out] at H1
        go_wp2_with fail
        refine (H1).mono ?_
        rintro e w1 ⟨rfl, hb⟩
        have HB := Lib.hid (chain HB.out hb)
        clear hb
        clear H1
        go_wp2_with fail
        refine (holds39_b p j c V _ _ true HH.out (HV.out.later HB.out) (by omega) H6.out HU0.out.1 HU0.out.2).mono ?_
        rintro e w2 ⟨rfl, hb⟩
        have HB := Lib.hid (chain HB.out hb)
        clear hb
        go_wp2_with fail
        refine (known14_any _).mono ?_
        rintro e w3 ⟨rfl, hb⟩
        have HB := Lib.hid (chain HB.out hb)
        clear hb
        have hbz := HB.out
        go_wp2_with fail
        go_ret
        exact ⟨rfl, hbz⟩
      | false =>
        have hh := against_false HA.out H6.out hs
        have HH := Lib.hid hh
        clear hh
        have HSY := Lib.hid hs
        clear hs
        have H1 := says_any p j c V _ (HV.out.later HB.out) (by omega) HI.out
        rw [HSY.out] at H1
        go_wp2_with fail
        refine (H1).mono ?_
        rintro e w1 ⟨rfl, hb⟩
        have HB := Lib.hid (chain HB.out hb)
        clear hb
        clear H1
        go_wp2_with fail
        refine (holds39_b p j c V _ _ false HH.out (HV.out.later HB.out) (by omega) H6.out HNU.out.1 HNU.out.2).mono ?_
        rintro e w2 ⟨rfl, hb⟩
        have HB := Lib.hid (chain HB.out hb)
        clear hb
        go_wp2_with fail
        refine (known14_any _).mono ?_
        rintro e w3 ⟨rfl, hb⟩
        have HB := Lib.hid (chain HB.out hb)
        clear hb
        have hbz := HB.out
        go_wp2_with fail
        go_ret
        exact ⟨rfl, hbz⟩
theorem nothing_any {w : World} (p : Option Addr) (n c : Nat) (V : Nat → Int) (hV : LitsIn w p n V) (hn : n ≤ 9223372036854775807) (hI : ∀ i, i < n → I64 (V i)) (hp : p = none → c = 0) (bits : Int) (hb : 0 ≤ bits ∧ bits ≤ 18446744073709551615) (W : World) (hW : W = w := by rfl) :
    Calls Try.prog 9 #[.slice p n c, .int .u64 bits] W fun e w' => e = .returned (.bool true) ∧ Below W.heap.size W w' := by
  subst hW
  by_cases h : 300 < n
  · exact nothing_out p n c bits W h hn
  · obtain ⟨B0, rfl⟩ : ∃ B0 : Nat, bits = B0 := ⟨bits.toNat, by omega⟩
    exact nothing_in p n c V B0 W hV (by omega) hI (by rw [show (2 : Nat) ^ 64 = 18446744073709551616 from by decide]; omega)
end Go.Proofs.Ytiadnifbjdnflaa
