/- The normal integer that a number is: out of range. -/
import Derived.Test.YtmfmdcapanaajaaDoorInt
namespace Go.Proofs.YtmfmdcapanaajaaDoor
open Go Go.RowKit Go.Sort
attribute [local go_sem ↓] Go.wp_at_zero Go.wp_at_succ
attribute [local irreducible] G X

set_option maxRecDepth 100000 in
set_option maxHeartbeats 4000000 in
theorem int_low (v : Int) (w : World) (v0 : -170141183460469231731687303715884105728 ≤ v) (v1 : v ≤ 170141183460469231731687303715884105728) (hv : v < (-42535295865117307932921825928971026432)) :
    Calls Tryd.prog 22 #[.agg (sV v)] w fun e w' => e = .returned (.agg #[.int .i64 (-9223372036854775808), .int .i64 0]) ∧ Below w.heap.size w w' := by
  have HN1 := fun W => number_n (-9223372036854775808) 0 W (by omega) (by omega) (by omega) (by omega)
  have HN2 := fun W => number_n 9223372036854775807 4611686018427387903 W (by omega) (by omega) (by omega) (by omega)
  rw [show (-9223372036854775808 : Int) * 4611686018427387904 + 0 = (-42535295865117307932921825928971026432) by decide] at HN1
  rw [show (9223372036854775807 : Int) * 4611686018427387904 + 4611686018427387903 = 42535295865117307932921825928971026431 by decide] at HN2
  have HV := Lib.hid (And.intro v0 (And.intro v1 hv))
  clear v0 v1 hv
  go_enter Tryd.func22, Tryd.ntmps22
  have hA0 := rangeAt_alloc2 w (sV v)
  have hR0 := there_alloc2 w (.cells (sV v) 27)
  have hB0 := below2 w (.cells (sV v) 27) (.cells #[.int .i64 0, .int .i64 0] 40)
  have HA0 := Lib.hid hA0
  have HR0 := Lib.hid hR0
  clear hA0 hR0
  go_wp2_with fail
  refine (HN1 _).mono ?_
  rintro e w1 ⟨rfl, hb1⟩
  have HA1 := Lib.hid (rangeAt_later HA0.out hb1)
  have HR1 := Lib.hid (there_later HR0.out (by omega) hb1)
  have hB1 := chainB' hB0 hb1 (by simp; omega)
  have hs1 : w.heap.size + 1 + 1 ≤ w1.heap.size := by have := hb1.size; simpa only [World.size_alloc] using this
  clear HA0 HR0 hB0 hb1 HN1
  go_wp2_with fail
  refine (HN2 _).mono ?_
  rintro e w2 ⟨rfl, hb2⟩
  have hA2 := rangeAt_later HA1.out hb2
  have hR2 := there_later HR1.out (by omega) hb2
  have hB2 := chainB' hB1 hb2 (by omega)
  have hs2 : w.heap.size + 1 + 1 ≤ w2.heap.size := by have := hb2.size; omega
  clear HA1 HR1 hB1 hb2 HN2 hs1
  obtain ⟨w3, hw3⟩ : ∃ w3, w3 = (((w2.alloc (.cells zeros11 27)).alloc (.cells zeros11 27)).setCells w2.heap.size 0 (sV (-42535295865117307932921825928971026432)).toList).setCells (w2.heap.size + 1) 0 (sV 42535295865117307932921825928971026431).toList := ⟨_, rfl⟩
  have tl0 : ((w2.alloc (.cells zeros11 27)).alloc (.cells zeros11 27)).there w2.heap.size 0 11 := World.there_alloc (there_new w2 zeros11 27) _
  have th0 : ((w2.alloc (.cells zeros11 27)).alloc (.cells zeros11 27)).there (w2.heap.size + 1) 0 11 := by
    have t := there_new (w2.alloc (.cells zeros11 27)) zeros11 27
    simp only [World.size_alloc] at t
    exact t
  have c1 : w3.rangeAt w.heap.size 0 (sV v).toList := by rw [hw3]; exact World.rangeAt_setCells_apart (World.rangeAt_setCells_apart (World.rangeAt_alloc (World.rangeAt_alloc hA2 _) _) _ _ _ (.inl (by omega))) _ _ _ (.inl (by omega))
  have c2 : w3.there (w.heap.size + 1) 0 2 := by rw [hw3]; exact World.there_setCells (World.there_setCells (World.there_alloc (World.there_alloc hR2 _) _) _ _ _) _ _ _
  have c3 : w3.rangeAt w2.heap.size 0 (sV (-42535295865117307932921825928971026432)).toList := by rw [hw3]; exact World.rangeAt_setCells_apart (World.rangeAt_setCells_same _ _ _ _ tl0) _ _ _ (.inl (by omega))
  have c4 : w3.rangeAt (w2.heap.size + 1) 0 (sV 42535295865117307932921825928971026431).toList := by rw [hw3]; exact World.rangeAt_setCells_same _ _ _ _ (World.there_setCells th0 _ _ _)
  have c5 : Below w.heap.size w w3 := by rw [hw3]; exact setCellsB (setCellsB ((hB2.alloc (by omega) _).alloc (by simp; omega) _) _ _ _ (by omega)) _ _ _ (by omega)
  have c6 : w2.heap.size + 1 + 1 ≤ w3.heap.size := by rw [hw3, sizeS, sizeS]; simp only [World.size_alloc]; omega
  have HT0 := Lib.hid tl0
  have HT1 := Lib.hid th0
  have HW3 := Lib.hid hw3
  have C1 := Lib.hid c1
  have C2 := Lib.hid c2
  have C3 := Lib.hid c3
  have C4 := Lib.hid c4
  have C5 := Lib.hid c5
  have C6 := Lib.hid c6
  clear hA2 hR2 hB2 tl0 th0 hw3 c1 c2 c3 c4 c5 c6
  go_wp2_with (first | (refine wpList_store_mid rfl 27 _ _ rfl w2.heap.size 0 (sV (-42535295865117307932921825928971026432)) rfl rfl (by exact HT0.out) (by kernel_rfl) (by exact longV_one _ _) ?_; refine wpList_store_mid rfl 27 _ _ rfl (w2.heap.size + 1) 0 (sV 42535295865117307932921825928971026431) rfl rfl (by exact World.there_setCells HT1.out _ _ _) (by kernel_rfl) (by exact longV_one _ _) ?_; rw [← HW3.out]) | (refine wpList_load_mid rfl 27 _ rfl w.heap.size 0 rfl (sV v).toList _ (by exact C1.out) Tryd.underlying27 rfl (by kernel_rfl) ?_) | (refine wpList_load_mid rfl 27 _ rfl w2.heap.size 0 rfl (sV (-42535295865117307932921825928971026432)).toList _ (by exact C3.out) Tryd.underlying27 rfl (by kernel_rfl) ?_))
  have HL1 := fun W => less_n27 v (-42535295865117307932921825928971026432) W (by have := HV.out; omega) (by have := HV.out; omega) (by omega) (by omega) (by have := HV.out; omega) (by have := HV.out; omega)
  rw [show decide (v + -(-42535295865117307932921825928971026432) < 0) = true by rw [decide_eq_true]; have := HV.out; omega] at HL1
  refine (HL1 _).mono ?_
  rintro e w4 ⟨rfl, hb4⟩
  have hR := there_later C2.out (by omega) hb4
  have hB := chainB' C5.out hb4 (by have := C6.out; omega)
  have ⟨u0, hu0⟩ := Option.isSome_iff_exists.1 (hR 0 (by omega)).1
  have ⟨u1, hu1⟩ := Option.isSome_iff_exists.1 (hR 1 (by omega)).1
  have fr0 := (hR 0 (by omega)).2
  have fr1 := (hR 1 (by omega)).2
  simp only [Nat.zero_add, Nat.add_zero] at hu0 hu1 fr0 fr1
  clear C1 C2 C3 C4 C5 C6 HT0 HT1 HW3 hb4 HL1 hR
  go_wp2_with fail
  refine bodyPost_ret (v := .agg #[.int .i64 (-9223372036854775808), .int .i64 0]) (by simp [results, Tryd.results22, go_sem, hu0, hu1]) rfl ⟨rfl, (hB.setCell (by simp <;> omega) _).setCell (by simp <;> omega) _⟩
set_option maxRecDepth 100000 in
set_option maxHeartbeats 4000000 in
theorem int_high (v : Int) (w : World) (v0 : -170141183460469231731687303715884105728 ≤ v) (v1 : v ≤ 170141183460469231731687303715884105728) (hv : 42535295865117307932921825928971026431 < v) :
    Calls Tryd.prog 22 #[.agg (sV v)] w fun e w' => e = .returned (.agg #[.int .i64 9223372036854775807, .int .i64 0]) ∧ Below w.heap.size w w' := by
  have HN1 := fun W => number_n (-9223372036854775808) 0 W (by omega) (by omega) (by omega) (by omega)
  have HN2 := fun W => number_n 9223372036854775807 4611686018427387903 W (by omega) (by omega) (by omega) (by omega)
  rw [show (-9223372036854775808 : Int) * 4611686018427387904 + 0 = (-42535295865117307932921825928971026432) by decide] at HN1
  rw [show (9223372036854775807 : Int) * 4611686018427387904 + 4611686018427387903 = 42535295865117307932921825928971026431 by decide] at HN2
  have HV := Lib.hid (And.intro v0 (And.intro v1 hv))
  clear v0 v1 hv
  go_enter Tryd.func22, Tryd.ntmps22
  have hA0 := rangeAt_alloc2 w (sV v)
  have hR0 := there_alloc2 w (.cells (sV v) 27)
  have hB0 := below2 w (.cells (sV v) 27) (.cells #[.int .i64 0, .int .i64 0] 40)
  have HA0 := Lib.hid hA0
  have HR0 := Lib.hid hR0
  clear hA0 hR0
  go_wp2_with fail
  refine (HN1 _).mono ?_
  rintro e w1 ⟨rfl, hb1⟩
  have HA1 := Lib.hid (rangeAt_later HA0.out hb1)
  have HR1 := Lib.hid (there_later HR0.out (by omega) hb1)
  have hB1 := chainB' hB0 hb1 (by simp; omega)
  have hs1 : w.heap.size + 1 + 1 ≤ w1.heap.size := by have := hb1.size; simpa only [World.size_alloc] using this
  clear HA0 HR0 hB0 hb1 HN1
  go_wp2_with fail
  refine (HN2 _).mono ?_
  rintro e w2 ⟨rfl, hb2⟩
  have hA2 := rangeAt_later HA1.out hb2
  have hR2 := there_later HR1.out (by omega) hb2
  have hB2 := chainB' hB1 hb2 (by omega)
  have hs2 : w.heap.size + 1 + 1 ≤ w2.heap.size := by have := hb2.size; omega
  clear HA1 HR1 hB1 hb2 HN2 hs1
  obtain ⟨w3, hw3⟩ : ∃ w3, w3 = (((w2.alloc (.cells zeros11 27)).alloc (.cells zeros11 27)).setCells w2.heap.size 0 (sV (-42535295865117307932921825928971026432)).toList).setCells (w2.heap.size + 1) 0 (sV 42535295865117307932921825928971026431).toList := ⟨_, rfl⟩
  have tl0 : ((w2.alloc (.cells zeros11 27)).alloc (.cells zeros11 27)).there w2.heap.size 0 11 := World.there_alloc (there_new w2 zeros11 27) _
  have th0 : ((w2.alloc (.cells zeros11 27)).alloc (.cells zeros11 27)).there (w2.heap.size + 1) 0 11 := by
    have t := there_new (w2.alloc (.cells zeros11 27)) zeros11 27
    simp only [World.size_alloc] at t
    exact t
  have c1 : w3.rangeAt w.heap.size 0 (sV v).toList := by rw [hw3]; exact World.rangeAt_setCells_apart (World.rangeAt_setCells_apart (World.rangeAt_alloc (World.rangeAt_alloc hA2 _) _) _ _ _ (.inl (by omega))) _ _ _ (.inl (by omega))
  have c2 : w3.there (w.heap.size + 1) 0 2 := by rw [hw3]; exact World.there_setCells (World.there_setCells (World.there_alloc (World.there_alloc hR2 _) _) _ _ _) _ _ _
  have c3 : w3.rangeAt w2.heap.size 0 (sV (-42535295865117307932921825928971026432)).toList := by rw [hw3]; exact World.rangeAt_setCells_apart (World.rangeAt_setCells_same _ _ _ _ tl0) _ _ _ (.inl (by omega))
  have c4 : w3.rangeAt (w2.heap.size + 1) 0 (sV 42535295865117307932921825928971026431).toList := by rw [hw3]; exact World.rangeAt_setCells_same _ _ _ _ (World.there_setCells th0 _ _ _)
  have c5 : Below w.heap.size w w3 := by rw [hw3]; exact setCellsB (setCellsB ((hB2.alloc (by omega) _).alloc (by simp; omega) _) _ _ _ (by omega)) _ _ _ (by omega)
  have c6 : w2.heap.size + 1 + 1 ≤ w3.heap.size := by rw [hw3, sizeS, sizeS]; simp only [World.size_alloc]; omega
  have HT0 := Lib.hid tl0
  have HT1 := Lib.hid th0
  have HW3 := Lib.hid hw3
  have C1 := Lib.hid c1
  have C2 := Lib.hid c2
  have C3 := Lib.hid c3
  have C4 := Lib.hid c4
  have C5 := Lib.hid c5
  have C6 := Lib.hid c6
  clear hA2 hR2 hB2 tl0 th0 hw3 c1 c2 c3 c4 c5 c6
  go_wp2_with (first | (refine wpList_store_mid rfl 27 _ _ rfl w2.heap.size 0 (sV (-42535295865117307932921825928971026432)) rfl rfl (by exact HT0.out) (by kernel_rfl) (by exact longV_one _ _) ?_; refine wpList_store_mid rfl 27 _ _ rfl (w2.heap.size + 1) 0 (sV 42535295865117307932921825928971026431) rfl rfl (by exact World.there_setCells HT1.out _ _ _) (by kernel_rfl) (by exact longV_one _ _) ?_; rw [← HW3.out]) | (refine wpList_load_mid rfl 27 _ rfl w.heap.size 0 rfl (sV v).toList _ (by exact C1.out) Tryd.underlying27 rfl (by kernel_rfl) ?_) | (refine wpList_load_mid rfl 27 _ rfl w2.heap.size 0 rfl (sV (-42535295865117307932921825928971026432)).toList _ (by exact C3.out) Tryd.underlying27 rfl (by kernel_rfl) ?_))
  have HL1 := fun W => less_n27 v (-42535295865117307932921825928971026432) W (by have := HV.out; omega) (by have := HV.out; omega) (by omega) (by omega) (by have := HV.out; omega) (by have := HV.out; omega)
  have HL2 := fun W => less_n27 42535295865117307932921825928971026431 v W (by omega) (by omega) (by have := HV.out; omega) (by have := HV.out; omega) (by have := HV.out; omega) (by have := HV.out; omega)
  rw [show decide (v + -(-42535295865117307932921825928971026432) < 0) = false by rw [decide_eq_false]; have := HV.out; omega] at HL1
  rw [show decide (42535295865117307932921825928971026431 + -v < 0) = true by rw [decide_eq_true]; have := HV.out; omega] at HL2
  refine (HL1 _).mono ?_
  rintro e w4 ⟨rfl, hb4⟩
  have D1 := Lib.hid (rangeAt_later C1.out hb4)
  have D2 := Lib.hid (there_later C2.out (by omega) hb4)
  have D4 := Lib.hid (rangeAt_later C4.out hb4)
  have D5 := Lib.hid (chainB' C5.out hb4 (by have := C6.out; omega))
  have D6 := Lib.hid (Nat.le_trans C6.out hb4.size)
  clear C1 C2 C3 C4 C5 C6 HT0 HT1 HW3 hb4 HL1
  go_wp2_with (first | (refine wpList_load_mid rfl 27 _ rfl w.heap.size 0 rfl (sV v).toList _ (by exact D1.out) Tryd.underlying27 rfl (by kernel_rfl) ?_) | (refine wpList_load_mid rfl 27 _ rfl (w2.heap.size + 1) 0 rfl (sV 42535295865117307932921825928971026431).toList _ (by exact D4.out) Tryd.underlying27 rfl (by kernel_rfl) ?_))
  refine (HL2 _).mono ?_
  rintro e w5 ⟨rfl, hb5⟩
  have hR := there_later D2.out (by omega) hb5
  have hB := chainB' D5.out hb5 (by have := D6.out; omega)
  have ⟨u0, hu0⟩ := Option.isSome_iff_exists.1 (hR 0 (by omega)).1
  have ⟨u1, hu1⟩ := Option.isSome_iff_exists.1 (hR 1 (by omega)).1
  have fr0 := (hR 0 (by omega)).2
  have fr1 := (hR 1 (by omega)).2
  simp only [Nat.zero_add, Nat.add_zero] at hu0 hu1 fr0 fr1
  clear D1 D2 D4 D5 D6 hb5 HL2 hR
  go_wp2_with fail
  refine bodyPost_ret (v := .agg #[.int .i64 9223372036854775807, .int .i64 0]) (by simp [results, Tryd.results22, go_sem, hu0, hu1]) rfl ⟨rfl, (hB.setCell (by simp <;> omega) _).setCell (by simp <;> omega) _⟩
/-- the normal integer of a number. -/
abbrev nV (v : Int) : Value := .agg #[.int .i64 (sH (v / 4611686018427387904)), .int .i64 (sL (v / 4611686018427387904) (v % 4611686018427387904))]
theorem int_all (v : Int) (w : World) (v0 : -170141183460469231731687303715884105728 ≤ v) (v1 : v ≤ 170141183460469231731687303715884105728) :
    Calls Tryd.prog 22 #[.agg (sV v)] w fun e w' => e = .returned (nV v) ∧ Below w.heap.size w w' := by
  by_cases h1 : v < (-42535295865117307932921825928971026432)
  · refine (int_low v w v0 v1 h1).mono ?_
    rintro e w' ⟨rfl, hb⟩
    exact ⟨by unfold nV sH sL; rw [if_pos (by omega), if_pos (by omega)], hb⟩
  · by_cases h2 : 42535295865117307932921825928971026431 < v
    · refine (int_high v w v0 v1 h2).mono ?_
      rintro e w' ⟨rfl, hb⟩
      exact ⟨by unfold nV sH sL; rw [if_neg (by omega), if_pos (by omega), if_neg (by omega), if_pos (by omega)], hb⟩
    · refine (int_n v w (by omega) (by omega)).mono ?_
      rintro e w' ⟨rfl, hb⟩
      exact ⟨by unfold nV sH sL; rw [if_neg (by omega), if_neg (by omega), if_neg (by omega), if_neg (by omega)], hb⟩
end Go.Proofs.YtmfmdcapanaajaaDoor
