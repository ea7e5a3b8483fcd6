/- RupSound's walk. -/
import Derived.Test.YtgdncnalahdjeaaU21
namespace Go.Proofs.Ytgdncnalahdjeaa
open Go Go.RowKit Go.Maps

theorem small_may {dbl : List (List Int)} (h : smallB dbl = true) (hl : ∀ c, c ∈ dbl → c.length ≤ 30) : allMay dbl = true := by
  refine List.all_eq_true.2 (fun c hc => (mayC_iff c).2 ⟨by have := hl c hc; omega, fun i hi => ?_⟩)
  obtain ⟨a, b, d⟩ := smC_fn (List.all_eq_true.1 h c hc) i hi
  unfold isLitB
  simp
  omega
theorem RowsIn.take {W : World} {p : Option Addr} {dbl : List (List Int)} (h : RowsIn W p dbl) (n : Nat) : RowsIn W p (dbl.take n) := fun hn => by
  rw [List.length_take] at hn
  obtain ⟨b, off, e, hc⟩ := h (by omega)
  refine ⟨b, off, e, fun i c hi => hc i c ?_⟩
  rw [List.getElem?_take] at hi
  split at hi
  · exact hi
  · cases hi
set_option maxRecDepth 100000 in
set_option maxHeartbeats 1600000 in
theorem sound_walk (p : Option Addr) (z n : Nat) (q : Option Addr) (zq m : Nat) (bits : Int) (w : World) (k : Nat)
    (hk : k ≤ m) (hm : m ≤ 60) (hz1 : m ≤ zq) (hz2 : zq ≤ 9223372036854775807)
    (L1 : Calls Try.prog 17 #[.slice p n z] w fun e w' => e = .returned (.bool false) ∧ w' = w)
    (L2 : Calls Try.prog 17 #[.slice q m zq] w fun e w' => e = .returned (.bool false) ∧ w' = w)
    (S1 : Calls Try.prog 29 #[.slice p n z] w fun e w' => e = .returned (.bool true) ∧ w' = w)
    (S2 : Calls Try.prog 29 #[.slice q m zq] w fun e w' => e = .returned (.bool true) ∧ w' = w)
    (H1 : Calls Try.prog 30 #[.slice p n z, .int .u64 bits] w fun e w' => e = .returned (.bool true) ∧ w' = w)
    (R1 : Calls Try.prog 27 #[.slice p n z, .slice q m zq] w fun e w' => ∃ k : Nat, e = .returned (.tuple #[.int .i64 (k : Int), .bool false, .int .i64 0]) ∧ k ≤ m ∧ Below w.heap.size w w' ∧ Calls Try.prog 30 #[.slice q k zq, .int .u64 bits] w' fun e w2 => e = .returned (.bool true) ∧ w2 = w') :
    Calls Try.prog 7 #[.slice p n z, .slice q m zq, .int .u64 bits] w fun e w' => e = .returned (.bool true) ∧ Below w.heap.size w w' := by
  have HK := Lib.hid known_any
  go_enter Try.func7, Try.ntmps7
  go_wp2_with fail
  refine L1.mono ?_
  rintro e w1 ⟨rfl, hw⟩
  obtain rfl := hw.symm
  clear L1
  go_wp2_with fail
  refine L2.mono ?_
  rintro e w1 ⟨rfl, hw⟩
  obtain rfl := hw.symm
  clear L2
  go_wp2_with fail
  refine S1.mono ?_
  rintro e w1 ⟨rfl, hw⟩
  obtain rfl := hw.symm
  clear S1
  go_wp2_with fail
  refine S2.mono ?_
  rintro e w1 ⟨rfl, hw⟩
  obtain rfl := hw.symm
  clear S2
  go_wp2_with fail
  refine H1.mono ?_
  rintro e w1 ⟨rfl, hw⟩
  obtain rfl := hw.symm
  clear H1
  go_wp2_with fail
  refine R1.mono ?_
  rintro e w2 ⟨k, rfl, hkm, hb2, HH⟩
  have HB2 := Lib.hid hb2
  clear R1 hb2
  have k0 : (0 : Int) ≤ (k : Int) := by omega
  have k1 : (k : Int) ≤ (m : Int) := by omega
  have k2 : (k : Int) ≤ (zq : Int) := by omega
  have k3 : ¬ ((m : Int) < (k : Int)) := by omega
  go_wp2_with fail
  refine HH.mono ?_
  rintro e w3 ⟨rfl, hw⟩
  obtain rfl := hw.symm
  clear HH
  go_wp2_with fail
  refine (HK.out _).mono ?_
  rintro e w4 ⟨rfl, hb4⟩
  have HB4 := Lib.hid (chain HB2.out hb4)
  clear hb4
  go_wp2_with fail
  go_ret
  exact ⟨rfl, HB4.out⟩
set_option maxRecDepth 100000 in
set_option maxHeartbeats 1600000 in
theorem sound_skip (p : Option Addr) (z n : Nat) (q : Option Addr) (zq m : Nat) (bits : Int) (w : World) (a1 a2 b1 b2 h1 : Bool) (hany : (a1 || a2 || !b1 || !b2 || !h1) = true)
    (L1 : Calls Try.prog 17 #[.slice p n z] w fun e w' => e = .returned (.bool a1) ∧ w' = w)
    (L2 : Calls Try.prog 17 #[.slice q m zq] w fun e w' => e = .returned (.bool a2) ∧ w' = w)
    (S1 : Calls Try.prog 29 #[.slice p n z] w fun e w' => e = .returned (.bool b1) ∧ w' = w)
    (S2 : Calls Try.prog 29 #[.slice q m zq] w fun e w' => e = .returned (.bool b2) ∧ w' = w)
    (H1 : b1 = true → Calls Try.prog 30 #[.slice p n z, .int .u64 bits] w fun e w' => e = .returned (.bool h1) ∧ w' = w) :
    Calls Try.prog 7 #[.slice p n z, .slice q m zq, .int .u64 bits] w fun e w' => e = .returned (.bool true) ∧ Below w.heap.size w w' := by
  have HK := Lib.hid known_any
  have fin : ∀ (w2 : World), w2 = w → Calls Try.prog 18 #[] w2 fun e w' => e = .returned (.bool true) ∧ Below w.heap.size w w' := fun w2 e => by rw [e]; exact known_any w
  clear HK
  cases a1 with
  | true =>
    clear H1 hany
    go_enter Try.func7, Try.ntmps7
    go_wp2_with fail
    refine L1.mono ?_
    rintro e w1 ⟨rfl, hw⟩
    obtain rfl := hw.symm
    clear L1
    go_wp2_with fail
    refine (fin _ rfl).mono ?_
    rintro e w4 ⟨rfl, hb4⟩
    have HB4 := Lib.hid hb4
    clear hb4
    go_wp2_with fail
    go_ret
    exact ⟨rfl, HB4.out⟩
  | false =>
  cases a2 with
  | true =>
    clear H1 hany
    go_enter Try.func7, Try.ntmps7
    go_wp2_with fail
    refine L1.mono ?_
    rintro e w1 ⟨rfl, hw⟩
    obtain rfl := hw.symm
    clear L1
    go_wp2_with fail
    refine L2.mono ?_
    rintro e w1 ⟨rfl, hw⟩
    obtain rfl := hw.symm
    clear L2
    go_wp2_with fail
    refine (fin _ rfl).mono ?_
    rintro e w4 ⟨rfl, hb4⟩
    have HB4 := Lib.hid hb4
    clear hb4
    go_wp2_with fail
    go_ret
    exact ⟨rfl, HB4.out⟩
  | false =>
  cases b1 with
  | false =>
    clear H1 hany
    go_enter Try.func7, Try.ntmps7
    go_wp2_with fail
    refine L1.mono ?_
    rintro e w1 ⟨rfl, hw⟩
    obtain rfl := hw.symm
    clear L1
    go_wp2_with fail
    refine L2.mono ?_
    rintro e w1 ⟨rfl, hw⟩
    obtain rfl := hw.symm
    clear L2
    go_wp2_with fail
    refine S1.mono ?_
    rintro e w1 ⟨rfl, hw⟩
    obtain rfl := hw.symm
    clear S1
    go_wp2_with fail
    refine (fin _ rfl).mono ?_
    rintro e w4 ⟨rfl, hb4⟩
    have HB4 := Lib.hid hb4
    clear hb4
    go_wp2_with fail
    go_ret
    exact ⟨rfl, HB4.out⟩
  | true =>
  cases b2 with
  | false =>
    clear H1 hany
    go_enter Try.func7, Try.ntmps7
    go_wp2_with fail
    refine L1.mono ?_
    rintro e w1 ⟨rfl, hw⟩
    obtain rfl := hw.symm
    clear L1
    go_wp2_with fail
    refine L2.mono ?_
    rintro e w1 ⟨rfl, hw⟩
    obtain rfl := hw.symm
    clear L2
    go_wp2_with fail
    refine S1.mono ?_
    rintro e w1 ⟨rfl, hw⟩
    obtain rfl := hw.symm
    clear S1
    go_wp2_with fail
    refine S2.mono ?_
    rintro e w1 ⟨rfl, hw⟩
    obtain rfl := hw.symm
    clear S2
    go_wp2_with fail
    refine (fin _ rfl).mono ?_
    rintro e w4 ⟨rfl, hb4⟩
    have HB4 := Lib.hid hb4
    clear hb4
    go_wp2_with fail
    go_ret
    exact ⟨rfl, HB4.out⟩
  | true =>
    have hh : h1 = false := by simpa using hany
    subst hh
    have H9 := H1 rfl
    clear hany H1
    go_enter Try.func7, Try.ntmps7
    go_wp2_with fail
    refine L1.mono ?_
    rintro e w1 ⟨rfl, hw⟩
    obtain rfl := hw.symm
    clear L1
    go_wp2_with fail
    refine L2.mono ?_
    rintro e w1 ⟨rfl, hw⟩
    obtain rfl := hw.symm
    clear L2
    go_wp2_with fail
    refine S1.mono ?_
    rintro e w1 ⟨rfl, hw⟩
    obtain rfl := hw.symm
    clear S1
    go_wp2_with fail
    refine S2.mono ?_
    rintro e w1 ⟨rfl, hw⟩
    obtain rfl := hw.symm
    clear S2
    go_wp2_with fail
    refine H9.mono ?_
    rintro e w1 ⟨rfl, hw⟩
    obtain rfl := hw.symm
    clear H9
    go_wp2_with fail
    refine (fin _ rfl).mono ?_
    rintro e w4 ⟨rfl, hb4⟩
    have HB4 := Lib.hid hb4
    clear hb4
    go_wp2_with fail
    go_ret
    exact ⟨rfl, HB4.out⟩
theorem sound_any (p : Option Addr) (z : Nat) (dbl : List (List Int)) (q : Option Addr) (zq : Nat) (row : List (List Int)) (bits : Int) (w : World) (hV : RowsIn w p dbl) (hn : dbl.length ≤ 9223372036854775807) (hf : Fit63 dbl) (hq : RowsIn w q row) (hn2 : row.length ≤ 9223372036854775807) (hf2 : Fit63 row) (hz1 : row.length ≤ zq) (hz2 : zq ≤ 9223372036854775807) (hb0 : 0 ≤ bits) (hb1 : bits ≤ 18446744073709551615) :
    Calls Try.prog 7 #[.slice p dbl.length z, .slice q row.length zq, .int .u64 bits] w fun e w' => e = .returned (.bool true) ∧ Below w.heap.size w w' := by
  have L1 := large_any p z dbl w hV hn hf
  have L2 := large_any q zq row w hq hn2 hf2
  have S1 := small_any p z dbl w hV hn hf
  have S2 := small_any q zq row w hq hn2 hf2
  have H1 : smallB dbl = true → _ := fun h => refHolds_at p z dbl bits w hV hn hf h hb0 hb1
  by_cases hbad : (largeB dbl || largeB row || !smallB dbl || !smallB row || !holD bits dbl) = true
  · exact sound_skip p z _ q zq _ bits w _ _ _ _ _ hbad L1 L2 S1 S2 H1
  · simp only [Bool.not_eq_true, Bool.or_eq_false_iff, Bool.not_eq_false'] at hbad
    obtain ⟨⟨⟨⟨e1, e2⟩, e3⟩, e4⟩, e5⟩ := hbad
    obtain ⟨m1, m2⟩ := largeB_no e1
    obtain ⟨m3, m4⟩ := largeB_no e2
    rw [e1] at L1
    rw [e2] at L2
    rw [e3] at S1
    rw [e4] at S2
    have H2 := H1 e3
    rw [e5] at H2
    refine sound_walk p z _ q zq _ bits w 0 (by omega) m3 hz1 hz2 L1 L2 S1 S2 H2 ?_
    refine (rupRow_yes p z dbl q zq row w hV (by omega) hf hq (by omega) hf2 (small_may e3 m2) (small_may e4 m4)).mono ?_
    rintro e w' ⟨n, r, rfl, ho, hb⟩
    obtain ⟨r1, r2⟩ := row_holds e3 e4 e5 ho
    subst r2
    refine ⟨n, rfl, ho.1, hb, ?_⟩
    have hlen : (row.take n).length = n := by rw [List.length_take]; have := ho.1; omega
    have := refHolds_at q zq (row.take n) bits w' ((hq.later hb).take n) (by rw [hlen]; have := ho.1; omega) (fun c hc => hf2 c (List.mem_of_mem_take hc)) (List.all_eq_true.2 (fun c hc => List.all_eq_true.1 e4 c (List.mem_of_mem_take hc))) hb0 hb1
    rw [hlen, r1] at this
    exact this
end Go.Proofs.Ytgdncnalahdjeaa
