/- The normal integer that a number is. -/
import Derived.Test.YtmfmdcapanaajaaDoorNumber
namespace Go.Proofs.YtmfmdcapanaajaaDoor
open Go Go.RowKit Go.Sort
attribute [local go_sem ↓] Go.wp_at_zero Go.wp_at_succ
attribute [local irreducible] G X

theorem tq (x : Int) : x = 2 * x.tdiv 2 + x.tmod 2 ∧ (0 ≤ x → 0 ≤ x.tmod 2 ∧ x.tmod 2 ≤ 1) ∧ (x < 0 → -1 ≤ x.tmod 2 ∧ x.tmod 2 ≤ 0) ∧ -1 ≤ x.tmod 2 := by
  rcases Int.lt_or_le x 0 with h | h
  · obtain ⟨m, rfl⟩ : ∃ m : Int, x = -m := ⟨-x, by omega⟩
    rw [Int.neg_tdiv, Int.neg_tmod, Int.tdiv_eq_ediv_of_nonneg (by omega), Int.tmod_eq_emod_of_nonneg (by omega)]
    omega
  · rw [Int.tdiv_eq_ediv_of_nonneg h, Int.tmod_eq_emod_of_nonneg h]
    omega
theorem lowG (x : Int) (h0 : 0 ≤ x) (h1 : x < 4611686018427387904) : ((G (absZ x) 3 * 65536 + G (absZ x) 2) * 65536 + G (absZ x) 1) * 65536 + G (absZ x) 0 = x := by
  have ha : absZ x = x := by unfold absZ; rw [if_neg (by omega)]
  rw [ha]
  have p0 := X_part x 0
  have p1 := X_part x 1
  have p2 := X_part x 2
  have p3 := X_part x 3
  have e1 := X_succ x 0
  have e2 := X_succ x 1
  have e3 := X_succ x 2
  have e4 := X_succ x 3
  rw [X_zero] at p0 e1
  simp only [Nat.zero_add, Nat.reduceAdd] at *
  omega
theorem lowW (x : Int) (h0 : 0 ≤ x) (h1 : x < 4611686018427387904) : wrap64 (wrap64 (((G (absZ x) 3 * 65536 + G (absZ x) 2) * 65536 + G (absZ x) 1) * 65536) + G (absZ x) 0) = ((G (absZ x) 3 * 65536 + G (absZ x) 2) * 65536 + G (absZ x) 1) * 65536 + G (absZ x) 0 := by
  have h := lowG x h0 h1
  have b0 := G_bd (absZ x) 0
  have b1 := G_bd (absZ x) 1
  have b2 := G_bd (absZ x) 2
  have b3 := G_bd (absZ x) 3
  rw [wrap64_eq, wrap64_eq]
  omega
theorem rangeAt_alloc2 (w : World) (cs : Array Value) : ((w.alloc (.cells cs 27)).alloc (.cells #[.int .i64 0, .int .i64 0] 40)).rangeAt w.heap.size 0 cs.toList := World.rangeAt_alloc (rangeAt_new w cs 27) _
theorem there_alloc2 (w : World) (o : Obj) : ((w.alloc o).alloc (.cells #[.int .i64 0, .int .i64 0] 40)).there (w.heap.size + 1) 0 2 := by
  have t := there_new (w.alloc o) #[.int .i64 0, .int .i64 0] 40
  simp only [World.size_alloc] at t
  exact t

set_option maxRecDepth 100000 in
set_option maxHeartbeats 4000000 in
theorem int_n (v : Int) (w : World) (v0 : (-42535295865117307932921825928971026432) ≤ v) (v1 : v ≤ 42535295865117307932921825928971026431) :
    Calls Tryd.prog 22 #[.agg (sV v)] w fun e w' => e = .returned (.agg #[.int .i64 (v / 4611686018427387904), .int .i64 (v % 4611686018427387904)]) ∧ Below w.heap.size w w' := by
  have HN1 := fun W => number_n (-9223372036854775808) 0 W (by omega) (by omega) (by omega) (by omega)
  have HN2 := fun W => number_n 9223372036854775807 4611686018427387903 W (by omega) (by omega) (by omega) (by omega)
  rw [show (-9223372036854775808 : Int) * 4611686018427387904 + 0 = (-42535295865117307932921825928971026432) by decide] at HN1
  rw [show (9223372036854775807 : Int) * 4611686018427387904 + 4611686018427387903 = 42535295865117307932921825928971026431 by decide] at HN2
  have HV := Lib.hid (And.intro v0 v1)
  clear v0 v1
  go_enter Tryd.func22, Tryd.ntmps22
  have hA0 := rangeAt_alloc2 w (sV v)
  have hR0 := there_alloc2 w (.cells (sV v) 27)
  have hB0 := below2 w (.cells (sV v) 27) (.cells #[.int .i64 0, .int .i64 0] 40)
  have HA0 := Lib.hid hA0
  have HR0 := Lib.hid hR0
  clear hA0 hR0
  go_wp2_with fail
  refine (HN1 _).mono ?_
  rintro e w1 ⟨rfl, hb1⟩
  have HA1 := Lib.hid (rangeAt_later HA0.out hb1)
  have HR1 := Lib.hid (there_later HR0.out (by omega) hb1)
  have hB1 := chainB' hB0 hb1 (by simp; omega)
  have hs1 : w.heap.size + 1 + 1 ≤ w1.heap.size := by have := hb1.size; simpa only [World.size_alloc] using this
  clear HA0 HR0 hB0 hb1 HN1
  go_wp2_with fail
  refine (HN2 _).mono ?_
  rintro e w2 ⟨rfl, hb2⟩
  have hA2 := rangeAt_later HA1.out hb2
  have hR2 := there_later HR1.out (by omega) hb2
  have hB2 := chainB' hB1 hb2 (by omega)
  have hs2 : w.heap.size + 1 + 1 ≤ w2.heap.size := by have := hb2.size; omega
  clear HA1 HR1 hB1 hb2 HN2 hs1
  obtain ⟨w3, hw3⟩ : ∃ w3, w3 = (((w2.alloc (.cells zeros11 27)).alloc (.cells zeros11 27)).setCells w2.heap.size 0 (sV (-42535295865117307932921825928971026432)).toList).setCells (w2.heap.size + 1) 0 (sV 42535295865117307932921825928971026431).toList := ⟨_, rfl⟩
  have tl0 : ((w2.alloc (.cells zeros11 27)).alloc (.cells zeros11 27)).there w2.heap.size 0 11 := World.there_alloc (there_new w2 zeros11 27) _
  have th0 : ((w2.alloc (.cells zeros11 27)).alloc (.cells zeros11 27)).there (w2.heap.size + 1) 0 11 := by
    have t := there_new (w2.alloc (.cells zeros11 27)) zeros11 27
    simp only [World.size_alloc] at t
    exact t
  have c1 : w3.rangeAt w.heap.size 0 (sV v).toList := by rw [hw3]; exact World.rangeAt_setCells_apart (World.rangeAt_setCells_apart (World.rangeAt_alloc (World.rangeAt_alloc hA2 _) _) _ _ _ (.inl (by omega))) _ _ _ (.inl (by omega))
  have c2 : w3.there (w.heap.size + 1) 0 2 := by rw [hw3]; exact World.there_setCells (World.there_setCells (World.there_alloc (World.there_alloc hR2 _) _) _ _ _) _ _ _
  have c3 : w3.rangeAt w2.heap.size 0 (sV (-42535295865117307932921825928971026432)).toList := by rw [hw3]; exact World.rangeAt_setCells_apart (World.rangeAt_setCells_same _ _ _ _ tl0) _ _ _ (.inl (by omega))
  have c4 : w3.rangeAt (w2.heap.size + 1) 0 (sV 42535295865117307932921825928971026431).toList := by rw [hw3]; exact World.rangeAt_setCells_same _ _ _ _ (World.there_setCells th0 _ _ _)
  have c5 : Below w.heap.size w w3 := by rw [hw3]; exact setCellsB (setCellsB ((hB2.alloc (by omega) _).alloc (by simp; omega) _) _ _ _ (by omega)) _ _ _ (by omega)
  have c6 : w2.heap.size + 1 + 1 ≤ w3.heap.size := by rw [hw3, sizeS, sizeS]; simp only [World.size_alloc]; omega
  have HT0 := Lib.hid tl0
  have HT1 := Lib.hid th0
  have HW3 := Lib.hid hw3
  have C1 := Lib.hid c1
  have C2 := Lib.hid c2
  have C3 := Lib.hid c3
  have C4 := Lib.hid c4
  have C5 := Lib.hid c5
  have C6 := Lib.hid c6
  clear hA2 hR2 hB2 tl0 th0 hw3 c1 c2 c3 c4 c5 c6
  go_wp2_with (first | (refine wpList_store_mid rfl 27 _ _ rfl w2.heap.size 0 (sV (-42535295865117307932921825928971026432)) rfl rfl (by exact HT0.out) (by kernel_rfl) (by exact longV_one _ _) ?_; refine wpList_store_mid rfl 27 _ _ rfl (w2.heap.size + 1) 0 (sV 42535295865117307932921825928971026431) rfl rfl (by exact World.there_setCells HT1.out _ _ _) (by kernel_rfl) (by exact longV_one _ _) ?_; rw [← HW3.out]) | (refine wpList_load_mid rfl 27 _ rfl w.heap.size 0 rfl (sV v).toList _ (by exact C1.out) Tryd.underlying27 rfl (by kernel_rfl) ?_) | (refine wpList_load_mid rfl 27 _ rfl w2.heap.size 0 rfl (sV (-42535295865117307932921825928971026432)).toList _ (by exact C3.out) Tryd.underlying27 rfl (by kernel_rfl) ?_))
  have HL1 := fun W => less_n27 v (-42535295865117307932921825928971026432) W (by have := HV.out; omega) (by have := HV.out; omega) (by omega) (by omega) (by have := HV.out; omega) (by have := HV.out; omega)
  have HL2 := fun W => less_n27 42535295865117307932921825928971026431 v W (by omega) (by omega) (by have := HV.out; omega) (by have := HV.out; omega) (by have := HV.out; omega) (by have := HV.out; omega)
  rw [show decide (v + -(-42535295865117307932921825928971026432) < 0) = false by rw [decide_eq_false]; have := HV.out; omega] at HL1
  rw [show decide (42535295865117307932921825928971026431 + -v < 0) = false by rw [decide_eq_false]; have := HV.out; omega] at HL2
  refine (HL1 _).mono ?_
  rintro e w4 ⟨rfl, hb4⟩
  have D1 := Lib.hid (rangeAt_later C1.out hb4)
  have D2 := Lib.hid (there_later C2.out (by omega) hb4)
  have D4 := Lib.hid (rangeAt_later C4.out hb4)
  have D5 := Lib.hid (chainB' C5.out hb4 (by have := C6.out; omega))
  have D6 := Lib.hid (Nat.le_trans C6.out hb4.size)
  clear C1 C2 C3 C4 C5 C6 HT0 HT1 HW3 hb4 HL1
  go_wp2_with (first | (refine wpList_load_mid rfl 27 _ rfl w.heap.size 0 rfl (sV v).toList _ (by exact D1.out) Tryd.underlying27 rfl (by kernel_rfl) ?_) | (refine wpList_load_mid rfl 27 _ rfl (w2.heap.size + 1) 0 rfl (sV 42535295865117307932921825928971026431).toList _ (by exact D4.out) Tryd.underlying27 rfl (by kernel_rfl) ?_))
  refine (HL2 _).mono ?_
  rintro e w5 ⟨rfl, hb5⟩
  have E1 := Lib.hid (rangeAt_later D1.out hb5)
  have E2 := Lib.hid (there_later D2.out (by omega) hb5)
  have E5 := Lib.hid (chainB' D5.out hb5 (by have := D6.out; omega))
  have E6 := Lib.hid (Nat.le_trans D6.out hb5.size)
  clear D1 D2 D4 D5 D6 hb5 HL2
  go_wp2_with fail
  go_loopw [5, 6] (fun a b wr => ∃ lo hi : Int, a = .int .i64 lo ∧ b = .int .i64 hi ∧ -9223372036854775808 ≤ lo ∧ lo ≤ hi ∧ hi ≤ 9223372036854775807 ∧ lo * 4611686018427387904 ≤ v ∧ v < (hi + 1) * 4611686018427387904 ∧ wr.rangeAt w.heap.size 0 (sV v).toList ∧ wr.there (w.heap.size + 1) 0 2 ∧ Below w.heap.size w wr ∧ w.heap.size + 1 + 1 ≤ wr.heap.size) (fun a b _ => (intOf b - intOf a).toNat)
  case atStart => exact ⟨_, _, rfl, rfl, by omega, by omega, by omega, by have := HV.out; omega, by have := HV.out; omega, E1.out, E2.out, E5.out, by have := E6.out; omega⟩
  case round =>
    obtain ⟨lo, hi, rfl, rfl, hlo, hle, hhi, hv0, hv1, g1, g2, g3, g4⟩ := hrel
    have G1 := Lib.hid g1
    have G2 := Lib.hid g2
    have G3 := Lib.hid g3
    have G4 := Lib.hid g4
    have HV0 := Lib.hid hv0
    have HV1 := Lib.hid hv1
    clear g1 g2 g3 g4 hv0 hv1 E1 E2 E5 E6 hs2
    by_cases hlt : lo < hi
    · have q1 := tq lo
      have q2 := tq hi
      have q3 := tq (lo.tmod 2 + hi.tmod 2 + 1)
      obtain ⟨a1, a2, a3, a4⟩ := q1
      obtain ⟨b1, b2, b3, b4⟩ := q2
      obtain ⟨c1, c2, c3, c4⟩ := q3
      have hm0 : lo < lo.tdiv 2 + hi.tdiv 2 + (lo.tmod 2 + hi.tmod 2 + 1).tdiv 2 := by omega
      have hm1 : lo.tdiv 2 + hi.tdiv 2 + (lo.tmod 2 + hi.tmod 2 + 1).tdiv 2 ≤ hi := by omega
      have k1 : -4611686018427387904 ≤ lo.tdiv 2 := by omega
      have k2 : lo.tdiv 2 ≤ 4611686018427387903 := by omega
      have k3 : -4611686018427387904 ≤ hi.tdiv 2 := by omega
      have k4 : hi.tdiv 2 ≤ 4611686018427387903 := by omega
      have k5 : -1 ≤ lo.tmod 2 := by omega
      have k6 : lo.tmod 2 ≤ 1 := by omega
      have k7 : -1 ≤ hi.tmod 2 := by omega
      have k8 : hi.tmod 2 ≤ 1 := by omega
      have k9 : -1 ≤ (lo.tmod 2 + hi.tmod 2 + 1).tdiv 2 := by omega
      have k10 : (lo.tmod 2 + hi.tmod 2 + 1).tdiv 2 ≤ 1 := by omega
      clear a1 a2 a3 a4 b1 b2 b3 b4 c1 c2 c3 c4
      obtain ⟨mid, hmid⟩ : ∃ mid, mid = lo.tdiv 2 + hi.tdiv 2 + (lo.tmod 2 + hi.tmod 2 + 1).tdiv 2 := ⟨_, rfl⟩
      have HMID := Lib.hid hmid
      have HMM := Lib.hid (show lo < mid ∧ mid ≤ hi by omega)
      clear hmid
      have HNM := fun W => number_n mid 0 W (by have := HMM.out; omega) (by have := HMM.out; omega) (by omega) (by omega)
      simp only [Int.add_zero] at HNM
      have HLM := fun W => less_n27 v (mid * 4611686018427387904) W (by have := HV.out; omega) (by have := HV.out; omega) (by have := HMM.out; omega) (by have := HMM.out; omega) (by have := HV.out; have := HMM.out; omega) (by have := HV.out; have := HMM.out; omega)
      by_cases hc : v + -(mid * 4611686018427387904) < 0
      · rw [decide_eq_true hc] at HLM
        have HCC := Lib.hid hc
        clear hc
        go_wp2_with fail
        rw [← HMID.out]
        have hS4 : (fun w' => w'.rangeAt w.heap.size 0 (sV v).toList ∧ w'.there (w.heap.size + 1) 0 2) wr.drew := ⟨(World.rangeAt_drew _ _ _ _).2 G1.out, (World.there_drew _ _ _ _).2 G2.out⟩
        have hB0 := (G3.out).drew
        have hs0 : w.heap.size + 1 + 1 ≤ wr.drew.heap.size := G4.out
        clear k1 k2 k3 k4 k5 k6 k7 k8 k9 k10 hm0 hm1
        refine wp_region_held_drew (S := (fun w' => w'.rangeAt w.heap.size 0 (sV v).toList ∧ w'.there (w.heap.size + 1) 0 2)) (by kernel_rfl) hS4 (fun hHeld => ?_)
        refine wpAnyH_take (i := 0) (oi := { dst := some 44, op := Op.load 27 (Operand.tmp 1), type := 27, pos := "ref.go:118", after := #[], guard := none }) (v := _) rfl (by kernel_rfl) (by kernel_rfl) (by kernel_rfl) (fun _ _ _ h => h) (yieldsIf_load_mid (by rfl) _ _ rfl _ _ rfl _ _ (fun w hSw => hSw.1) Tryd.underlying27 rfl (by kernel_rfl)) (by assumption) ?_
        try simp only [Act.put, List.setIfInBounds_toArray, List.set_cons_zero, List.set_cons_succ]
        refine wpAnyH_take (i := 1) (oi := { dst := some 45, op := Op.move (Operand.tmp 7), type := 2, pos := "ref.go:118", after := #[], guard := none }) (v := ?_) rfl (by kernel_rfl) (by kernel_rfl) (by kernel_rfl) (fun _ _ _ h => h) (Or.inl ⟨by rfl, ?_⟩) (by assumption) ?_
        rotate_left
        · intro w hSw
          (try dsimp only at hSw)
          go_simp
          try with_reducible rfl
        try simp only [Act.put, List.setIfInBounds_toArray, List.set_cons_zero, List.set_cons_succ]
        refine wpAnyH_take (i := 2) (oi := { dst := some 46, op := Op.build 40 #[(0, Operand.tmp 45)], type := 40, pos := "ref.go:118", after := #[{ on := 1, ground := Ground.data }], guard := none }) (v := ?_) rfl (by kernel_rfl) (by kernel_rfl) (by kernel_rfl) (fun _ _ _ h => h) (Or.inl ⟨by rfl, ?_⟩) (by assumption) ?_
        rotate_left
        · intro w hSw
          (try dsimp only at hSw)
          go_simp
          try with_reducible rfl
        try simp only [Act.put, List.setIfInBounds_toArray, List.set_cons_zero, List.set_cons_succ]
        refine wpAnyH_ready (rs := [3]) (by kernel_rfl) (by simp) ?_
        refine AllReadyH.cons (o := { dst := some 47, op := Op.call { callee := Callee.value (Operand.func 20), args := #[Operand.tmp 46], argTypes := #[40] }, type := 27, pos := "ref.go:118", after := #[{ on := 2, ground := Ground.data }], guard := none }) rfl (fun K hK => ?_) AllReadyH.nil
        go_simp
        go_at_call 20
        refine (HNM _).mono ?_
        rintro e w' ⟨rfl, hb⟩
        refine hK.out _ _ ?_ (fun hHeld => ?_)
        · exact ⟨rangeAt_later hHeld.1 hb, there_later hHeld.2 (by omega) hb⟩
        clear hK K
        try simp only [Act.put, List.setIfInBounds_toArray, List.set_cons_zero, List.set_cons_succ]
        have hB1 := chainB' hB0 hb (by omega)
        have hs1 := Nat.le_trans hs0 hb.size
        clear hb
        refine wpAnyH_ready (rs := [4]) (by kernel_rfl) (by simp) ?_
        refine AllReadyH.cons (o := { dst := some 48, op := Op.call { callee := Callee.value (Operand.func 27), args := #[Operand.tmp 44, Operand.tmp 47], argTypes := #[27, 27] }, type := 4, pos := "ref.go:118", after := #[{ on := 0, ground := Ground.data }, { on := 3, ground := Ground.data }, { on := 3, ground := Ground.chain }], guard := none }) rfl (fun K hK => ?_) AllReadyH.nil
        go_simp
        go_at_call 27
        refine (HLM _).mono ?_
        rintro e w' ⟨rfl, hb⟩
        refine hK.out _ _ ?_ (fun hHeld => ?_)
        · exact ⟨rangeAt_later hHeld.1 hb, there_later hHeld.2 (by omega) hb⟩
        clear hK K
        try simp only [Act.put, List.setIfInBounds_toArray, List.set_cons_zero, List.set_cons_succ]
        have hB2 := chainB' hB1 hb (by omega)
        have hs2 := Nat.le_trans hs1 hb.size
        clear hb
        refine wpAnyH_done (by kernel_rfl) ?_ _
        have m0 : -9223372036854775808 < mid := by have := HMM.out; omega
        have m1 : mid ≤ 9223372036854775807 := by have := HMM.out; omega
        go_wp2
        go_roundw
        case rel => exact ⟨lo, mid - 1, rfl, by go_num, by omega, by have := HMM.out; omega, by have := HMM.out; omega, HV0.out, by have := HCC.out; omega, hHeld.1, hHeld.2, hB2, hs2⟩
        case measure => have := HMM.out; simp [intOf]; omega
      · rw [decide_eq_false hc] at HLM
        have HCC := Lib.hid hc
        clear hc
        go_wp2_with fail
        rw [← HMID.out]
        have hS4 : (fun w' => w'.rangeAt w.heap.size 0 (sV v).toList ∧ w'.there (w.heap.size + 1) 0 2) wr.drew := ⟨(World.rangeAt_drew _ _ _ _).2 G1.out, (World.there_drew _ _ _ _).2 G2.out⟩
        have hB0 := (G3.out).drew
        have hs0 : w.heap.size + 1 + 1 ≤ wr.drew.heap.size := G4.out
        clear k1 k2 k3 k4 k5 k6 k7 k8 k9 k10 hm0 hm1
        refine wp_region_held_drew (S := (fun w' => w'.rangeAt w.heap.size 0 (sV v).toList ∧ w'.there (w.heap.size + 1) 0 2)) (by kernel_rfl) hS4 (fun hHeld => ?_)
        refine wpAnyH_take (i := 0) (oi := { dst := some 44, op := Op.load 27 (Operand.tmp 1), type := 27, pos := "ref.go:118", after := #[], guard := none }) (v := _) rfl (by kernel_rfl) (by kernel_rfl) (by kernel_rfl) (fun _ _ _ h => h) (yieldsIf_load_mid (by rfl) _ _ rfl _ _ rfl _ _ (fun w hSw => hSw.1) Tryd.underlying27 rfl (by kernel_rfl)) (by assumption) ?_
        try simp only [Act.put, List.setIfInBounds_toArray, List.set_cons_zero, List.set_cons_succ]
        refine wpAnyH_take (i := 1) (oi := { dst := some 45, op := Op.move (Operand.tmp 7), type := 2, pos := "ref.go:118", after := #[], guard := none }) (v := ?_) rfl (by kernel_rfl) (by kernel_rfl) (by kernel_rfl) (fun _ _ _ h => h) (Or.inl ⟨by rfl, ?_⟩) (by assumption) ?_
        rotate_left
        · intro w hSw
          (try dsimp only at hSw)
          go_simp
          try with_reducible rfl
        try simp only [Act.put, List.setIfInBounds_toArray, List.set_cons_zero, List.set_cons_succ]
        refine wpAnyH_take (i := 2) (oi := { dst := some 46, op := Op.build 40 #[(0, Operand.tmp 45)], type := 40, pos := "ref.go:118", after := #[{ on := 1, ground := Ground.data }], guard := none }) (v := ?_) rfl (by kernel_rfl) (by kernel_rfl) (by kernel_rfl) (fun _ _ _ h => h) (Or.inl ⟨by rfl, ?_⟩) (by assumption) ?_
        rotate_left
        · intro w hSw
          (try dsimp only at hSw)
          go_simp
          try with_reducible rfl
        try simp only [Act.put, List.setIfInBounds_toArray, List.set_cons_zero, List.set_cons_succ]
        refine wpAnyH_ready (rs := [3]) (by kernel_rfl) (by simp) ?_
        refine AllReadyH.cons (o := { dst := some 47, op := Op.call { callee := Callee.value (Operand.func 20), args := #[Operand.tmp 46], argTypes := #[40] }, type := 27, pos := "ref.go:118", after := #[{ on := 2, ground := Ground.data }], guard := none }) rfl (fun K hK => ?_) AllReadyH.nil
        go_simp
        go_at_call 20
        refine (HNM _).mono ?_
        rintro e w' ⟨rfl, hb⟩
        refine hK.out _ _ ?_ (fun hHeld => ?_)
        · exact ⟨rangeAt_later hHeld.1 hb, there_later hHeld.2 (by omega) hb⟩
        clear hK K
        try simp only [Act.put, List.setIfInBounds_toArray, List.set_cons_zero, List.set_cons_succ]
        have hB1 := chainB' hB0 hb (by omega)
        have hs1 := Nat.le_trans hs0 hb.size
        clear hb
        refine wpAnyH_ready (rs := [4]) (by kernel_rfl) (by simp) ?_
        refine AllReadyH.cons (o := { dst := some 48, op := Op.call { callee := Callee.value (Operand.func 27), args := #[Operand.tmp 44, Operand.tmp 47], argTypes := #[27, 27] }, type := 4, pos := "ref.go:118", after := #[{ on := 0, ground := Ground.data }, { on := 3, ground := Ground.data }, { on := 3, ground := Ground.chain }], guard := none }) rfl (fun K hK => ?_) AllReadyH.nil
        go_simp
        go_at_call 27
        refine (HLM _).mono ?_
        rintro e w' ⟨rfl, hb⟩
        refine hK.out _ _ ?_ (fun hHeld => ?_)
        · exact ⟨rangeAt_later hHeld.1 hb, there_later hHeld.2 (by omega) hb⟩
        clear hK K
        try simp only [Act.put, List.setIfInBounds_toArray, List.set_cons_zero, List.set_cons_succ]
        have hB2 := chainB' hB1 hb (by omega)
        have hs2 := Nat.le_trans hs1 hb.size
        clear hb
        refine wpAnyH_done (by kernel_rfl) ?_ _
        go_wp2
        go_roundw
        case rel => exact ⟨mid, hi, rfl, rfl, by have := HMM.out; omega, by have := HMM.out; omega, by omega, by have := HCC.out; omega, HV1.out, hHeld.1, hHeld.2, hB2, hs2⟩
        case measure => have := HMM.out; simp [intOf]; omega
    · have hh : lo = hi := by omega
      subst hh
      have HNM := fun W => number_n lo 0 W (by omega) (by omega) (by omega) (by omega)
      simp only [Int.add_zero] at HNM
      have HNG := fun W => neg_n (lo * 4611686018427387904) W (by omega) (by omega)
      have HAD := fun W => add_n v (-(lo * 4611686018427387904)) W (by have := HV.out; omega) (by have := HV.out; omega) (by omega) (by omega)
      obtain ⟨rest, hrest⟩ : ∃ rest, rest = v + -(lo * 4611686018427387904) := ⟨_, rfl⟩
      rw [← hrest] at HAD
      have HRE := Lib.hid (show 0 ≤ rest ∧ rest < 4611686018427387904 by have := HV0.out; have := HV1.out; omega)
      have HRV := Lib.hid (show v / 4611686018427387904 = lo ∧ v % 4611686018427387904 = rest by have := HV0.out; have := HV1.out; omega)
      have hS4 : (fun w' => w'.rangeAt w.heap.size 0 (sV v).toList ∧ w'.there (w.heap.size + 1) 0 2) wr.drew := ⟨(World.rangeAt_drew _ _ _ _).2 G1.out, (World.there_drew _ _ _ _).2 G2.out⟩
      have hB0 := (G3.out).drew
      have hs0 : w.heap.size + 1 + 1 ≤ wr.drew.heap.size := G4.out
      clear G1 G2 G3 G4 HV HV0 HV1 hrest
      go_wp2_with fail
      refine wp_region_held_drew (S := (fun w' => w'.rangeAt w.heap.size 0 (sV v).toList ∧ w'.there (w.heap.size + 1) 0 2)) (by kernel_rfl) hS4 (fun hHeld => ?_)
      generalize wr.drew = w6 at *
      refine wpAnyH_take (i := 0) (oi := { dst := some 52, op := Op.load 27 (Operand.tmp 1), type := 27, pos := "ref.go:124", after := #[], guard := none }) (v := _) rfl (by kernel_rfl) (by kernel_rfl) (by kernel_rfl) (fun _ _ _ h => h) (yieldsIf_load_mid (by rfl) _ _ rfl _ _ rfl _ _ (fun w hSw => hSw.1) Tryd.underlying27 rfl (by kernel_rfl)) (by assumption) ?_
      try simp only [Act.put, List.setIfInBounds_toArray, List.set_cons_zero, List.set_cons_succ]
      refine wpAnyH_take (i := 1) (oi := { dst := some 53, op := Op.move (Operand.tmp 5), type := 2, pos := "ref.go:124", after := #[], guard := none }) (v := ?_) rfl (by kernel_rfl) (by kernel_rfl) (by kernel_rfl) (fun _ _ _ h => h) (Or.inl ⟨by rfl, ?_⟩) (by assumption) ?_
      rotate_left
      · intro w hSw
        (try dsimp only at hSw)
        go_simp
        try with_reducible rfl
      try simp only [Act.put, List.setIfInBounds_toArray, List.set_cons_zero, List.set_cons_succ]
      refine wpAnyH_take (i := 2) (oi := { dst := some 54, op := Op.build 40 #[(0, Operand.tmp 53)], type := 40, pos := "ref.go:124", after := #[{ on := 1, ground := Ground.data }], guard := none }) (v := ?_) rfl (by kernel_rfl) (by kernel_rfl) (by kernel_rfl) (fun _ _ _ h => h) (Or.inl ⟨by rfl, ?_⟩) (by assumption) ?_
      rotate_left
      · intro w hSw
        (try dsimp only at hSw)
        go_simp
        try with_reducible rfl
      try simp only [Act.put, List.setIfInBounds_toArray, List.set_cons_zero, List.set_cons_succ]
      refine wpAnyH_ready (rs := [3, 6]) (by kernel_rfl) (by simp) ?_
      refine AllReadyH.cons (o := { dst := some 55, op := Op.call { callee := Callee.value (Operand.func 20), args := #[Operand.tmp 54], argTypes := #[40] }, type := 27, pos := "ref.go:124", after := #[{ on := 2, ground := Ground.data }], guard := none }) rfl (fun K hK => ?_) (AllReadyH.cons (o := { dst := some 8, op := Op.alloc 27, type := 0, pos := "ref.go:124", after := #[], guard := none }) rfl (fun K hK => ?_) AllReadyH.nil)
      · go_simp
        go_at_call 20
        refine (HNM _).mono ?_
        rintro e wc3 ⟨rfl, hb⟩
        refine hK.out _ _ ?_ (fun hHeld2 => ?_)
        · exact ⟨rangeAt_later hHeld.1 hb, there_later hHeld.2 (by omega) hb⟩
        clear hK K
        have hB3 := chainB' hB0 hb (by omega)
        have hs3 := hb.size
        clear hHeld hb
        have hHeld := hHeld2
        clear hHeld2
        try simp only [Act.put, List.setIfInBounds_toArray, List.set_cons_zero, List.set_cons_succ]
        refine wpAnyH_ready (rs := [4, 6]) (by kernel_rfl) (by simp) ?_
        refine AllReadyH.cons (o := { dst := some 56, op := Op.call { callee := Callee.value (Operand.func 14), args := #[Operand.tmp 55], argTypes := #[27] }, type := 27, pos := "ref.go:124", after := #[{ on := 3, ground := Ground.data }, { on := 3, ground := Ground.chain }], guard := none }) rfl (fun K hK => ?_) (AllReadyH.cons (o := { dst := some 8, op := Op.alloc 27, type := 0, pos := "ref.go:124", after := #[], guard := none }) rfl (fun K hK => ?_) AllReadyH.nil)
        · go_simp
          go_at_call 14
          refine (HNG _).mono ?_
          rintro e wc4 ⟨rfl, hb⟩
          refine hK.out _ _ ?_ (fun hHeld2 => ?_)
          · exact ⟨rangeAt_later hHeld.1 hb, there_later hHeld.2 (by omega) hb⟩
          clear hK K
          have hB4 := chainB' hB3 hb (by omega)
          have hs4 := hb.size
          clear hHeld hb
          have hHeld := hHeld2
          clear hHeld2
          try simp only [Act.put, List.setIfInBounds_toArray, List.set_cons_zero, List.set_cons_succ]
          refine wpAnyH_ready (rs := [5, 6]) (by kernel_rfl) (by simp) ?_
          refine AllReadyH.cons (o := { dst := some 57, op := Op.call { callee := Callee.value (Operand.func 12), args := #[Operand.tmp 52, Operand.tmp 56], argTypes := #[27, 27] }, type := 27, pos := "ref.go:124", after := #[{ on := 0, ground := Ground.data }, { on := 4, ground := Ground.data }, { on := 4, ground := Ground.chain }], guard := none }) rfl (fun K hK => ?_) (AllReadyH.cons (o := { dst := some 8, op := Op.alloc 27, type := 0, pos := "ref.go:124", after := #[], guard := none }) rfl (fun K hK => ?_) AllReadyH.nil)
          · go_simp
            go_at_call 12
            refine (HAD _).mono ?_
            rintro e wc5 ⟨rfl, hb⟩
            refine hK.out _ _ ?_ (fun hHeld2 => ?_)
            · exact ⟨rangeAt_later hHeld.1 hb, there_later hHeld.2 (by omega) hb⟩
            clear hK K
            have hB5 := chainB' hB4 hb (by omega)
            have hs5 := hb.size
            clear hHeld hb
            have hHeld := hHeld2
            clear hHeld2
            try simp only [Act.put, List.setIfInBounds_toArray, List.set_cons_zero, List.set_cons_succ]
            refine wpAnyH_ready (rs := [6]) (by kernel_rfl) (by simp) ?_
            refine AllReadyH.cons (o := { dst := some 8, op := Op.alloc 27, type := 0, pos := "ref.go:124", after := #[], guard := none }) rfl (fun K hK => ?_) AllReadyH.nil
            go_simp
            refine hK.out _ _ ?_ (fun hHeld2 => ?_)
            · exact ⟨World.rangeAt_alloc hHeld.1 _, World.there_alloc hHeld.2 _⟩
            clear hK K
            have hD : (wc5.alloc (.cells zeros11 27)).there wc5.heap.size 0 11 := there_new wc5 zeros11 27
            have hD0 : w.heap.size + 1 < wc5.heap.size := by omega
            have hBa := (hB5).alloc (by omega) (.cells zeros11 27)
            have hsa : wc5.heap.size + 1 ≤ (wc5.alloc (.cells zeros11 27)).heap.size := by rw [World.size_alloc]; exact Nat.le_refl _
            generalize wc5.alloc (.cells zeros11 27) = wb at *
            clear hHeld
            have hHeld := hHeld2
            clear hHeld2
            try simp only [Act.put, List.setIfInBounds_toArray, List.set_cons_zero, List.set_cons_succ]
            refine wpAnyH_ready (rs := [7]) (by kernel_rfl) (by simp) ?_
            refine AllReadyH.cons (o := { dst := none, op := Op.store 27 (Operand.tmp 8) (Operand.tmp 57), type := 0, pos := "ref.go:124", after := #[{ on := 6, ground := Ground.data }, { on := 5, ground := Ground.data }, { on := 5, ground := Ground.chain }, { on := 0, ground := Ground.phase }, { on := 1, ground := Ground.phase }, { on := 2, ground := Ground.phase }, { on := 3, ground := Ground.phase }, { on := 4, ground := Ground.phase }, { on := 5, ground := Ground.phase }, { on := 6, ground := Ground.phase }], guard := none }) rfl (fun K hK => ?_) AllReadyH.nil
            rw [if_pos (by rfl)]
            refine wp_store_mid 27 _ _ rfl wc5.heap.size 0 (sV rest) rfl rfl hD (by kernel_rfl) (longV_one _ _) ?_
            refine hK.out _ _ ?_ (fun hHeld2 => ?_)
            · exact ⟨World.rangeAt_setCells_apart hHeld.1 _ _ _ (.inl (by omega)), World.there_setCells hHeld.2 _ _ _⟩
            clear hK K
            try simp only [Act.put, List.setIfInBounds_toArray, List.set_cons_zero, List.set_cons_succ]
            refine wpAnyH_done (by kernel_rfl) ?_ _
            have hRz := hHeld2.2
            have hdz := World.rangeAt_setCells_same wb wc5.heap.size 0 (sV rest).toList hD
            have hBz := setCellsB hBa wc5.heap.size 0 (sV rest).toList (by omega)
            clear hHeld2
            generalize wb.setCells wc5.heap.size 0 (sV rest).toList = wz at *
            have d0 := hdz 1 _ rfl
            have d1 := hdz 2 _ rfl
            have d2 := hdz 3 _ rfl
            have d3 := hdz 4 _ rfl
            clear hD hdz hHeld
            have ⟨u0, hu0⟩ := Option.isSome_iff_exists.1 (hRz 0 (by omega)).1
            have ⟨u1, hu1⟩ := Option.isSome_iff_exists.1 (hRz 1 (by omega)).1
            have fr0 := (hRz 0 (by omega)).2
            have fr1 := (hRz 1 (by omega)).2
            simp only [Nat.zero_add, Nat.add_zero] at hu0 hu1 fr0 fr1
            obtain ⟨g0a, g0b⟩ := G_bd (absZ rest) 0
            obtain ⟨g1a, g1b⟩ := G_bd (absZ rest) 1
            obtain ⟨g2a, g2b⟩ := G_bd (absZ rest) 2
            obtain ⟨g3a, g3b⟩ := G_bd (absZ rest) 3
            go_wp2_with fail
            refine wp_loop_rounds 5 ?_
            rw [rounds_succ]
            go_wp2_with fail
            rw [rounds_succ]
            go_wp2_with fail
            rw [rounds_succ]
            go_wp2_with fail
            rw [rounds_succ]
            go_wp2_with fail
            rw [rounds_succ]
            go_wp2_with fail
            refine bodyPost_ret (v := .agg #[.int .i64 lo, .int .i64 (((G (absZ rest) 3 * 65536 + G (absZ rest) 2) * 65536 + G (absZ rest) 1) * 65536 + G (absZ rest) 0)]) (by simp [results, Tryd.results22, go_sem, hu0, hu1]; exact lowW rest HRE.out.1 HRE.out.2) rfl ⟨?_, (hBz.setCell (by simp <;> omega) _).setCell (by simp <;> omega) _⟩
            rw [lowG rest HRE.out.1 HRE.out.2, HRV.out.1, HRV.out.2]
          · go_simp
            refine hK.out _ _ ?_ (fun hHeld2 => ?_)
            · exact ⟨World.rangeAt_alloc hHeld.1 _, World.there_alloc hHeld.2 _⟩
            clear hK K
            have hD : (wc4.alloc (.cells zeros11 27)).there wc4.heap.size 0 11 := there_new wc4 zeros11 27
            have hD0 : w.heap.size + 1 < wc4.heap.size := by omega
            have hBa := (hB4).alloc (by omega) (.cells zeros11 27)
            have hsa : wc4.heap.size + 1 ≤ (wc4.alloc (.cells zeros11 27)).heap.size := by rw [World.size_alloc]; exact Nat.le_refl _
            generalize wc4.alloc (.cells zeros11 27) = wb at *
            clear hHeld
            have hHeld := hHeld2
            clear hHeld2
            try simp only [Act.put, List.setIfInBounds_toArray, List.set_cons_zero, List.set_cons_succ]
            refine wpAnyH_ready (rs := [5]) (by kernel_rfl) (by simp) ?_
            refine AllReadyH.cons (o := { dst := some 57, op := Op.call { callee := Callee.value (Operand.func 12), args := #[Operand.tmp 52, Operand.tmp 56], argTypes := #[27, 27] }, type := 27, pos := "ref.go:124", after := #[{ on := 0, ground := Ground.data }, { on := 4, ground := Ground.data }, { on := 4, ground := Ground.chain }], guard := none }) rfl (fun K hK => ?_) AllReadyH.nil
            go_simp
            go_at_call 12
            refine (HAD _).mono ?_
            rintro e wc5 ⟨rfl, hb⟩
            refine hK.out _ _ ?_ (fun hHeld2 => ?_)
            · exact ⟨rangeAt_later hHeld.1 hb, there_later hHeld.2 (by omega) hb⟩
            clear hK K
            have hB5 := chainB' hBa hb (by omega)
            have hs5 := hb.size
            have hD := there_later hD (by omega) hb
            clear hHeld hb
            have hHeld := hHeld2
            clear hHeld2
            try simp only [Act.put, List.setIfInBounds_toArray, List.set_cons_zero, List.set_cons_succ]
            refine wpAnyH_ready (rs := [7]) (by kernel_rfl) (by simp) ?_
            refine AllReadyH.cons (o := { dst := none, op := Op.store 27 (Operand.tmp 8) (Operand.tmp 57), type := 0, pos := "ref.go:124", after := #[{ on := 6, ground := Ground.data }, { on := 5, ground := Ground.data }, { on := 5, ground := Ground.chain }, { on := 0, ground := Ground.phase }, { on := 1, ground := Ground.phase }, { on := 2, ground := Ground.phase }, { on := 3, ground := Ground.phase }, { on := 4, ground := Ground.phase }, { on := 5, ground := Ground.phase }, { on := 6, ground := Ground.phase }], guard := none }) rfl (fun K hK => ?_) AllReadyH.nil
            rw [if_pos (by rfl)]
            refine wp_store_mid 27 _ _ rfl wc4.heap.size 0 (sV rest) rfl rfl hD (by kernel_rfl) (longV_one _ _) ?_
            refine hK.out _ _ ?_ (fun hHeld2 => ?_)
            · exact ⟨World.rangeAt_setCells_apart hHeld.1 _ _ _ (.inl (by omega)), World.there_setCells hHeld.2 _ _ _⟩
            clear hK K
            try simp only [Act.put, List.setIfInBounds_toArray, List.set_cons_zero, List.set_cons_succ]
            refine wpAnyH_done (by kernel_rfl) ?_ _
            have hRz := hHeld2.2
            have hdz := World.rangeAt_setCells_same wc5 wc4.heap.size 0 (sV rest).toList hD
            have hBz := setCellsB hB5 wc4.heap.size 0 (sV rest).toList (by omega)
            clear hHeld2
            generalize wc5.setCells wc4.heap.size 0 (sV rest).toList = wz at *
            have d0 := hdz 1 _ rfl
            have d1 := hdz 2 _ rfl
            have d2 := hdz 3 _ rfl
            have d3 := hdz 4 _ rfl
            clear hD hdz hHeld
            have ⟨u0, hu0⟩ := Option.isSome_iff_exists.1 (hRz 0 (by omega)).1
            have ⟨u1, hu1⟩ := Option.isSome_iff_exists.1 (hRz 1 (by omega)).1
            have fr0 := (hRz 0 (by omega)).2
            have fr1 := (hRz 1 (by omega)).2
            simp only [Nat.zero_add, Nat.add_zero] at hu0 hu1 fr0 fr1
            obtain ⟨g0a, g0b⟩ := G_bd (absZ rest) 0
            obtain ⟨g1a, g1b⟩ := G_bd (absZ rest) 1
            obtain ⟨g2a, g2b⟩ := G_bd (absZ rest) 2
            obtain ⟨g3a, g3b⟩ := G_bd (absZ rest) 3
            go_wp2_with fail
            refine wp_loop_rounds 5 ?_
            rw [rounds_succ]
            go_wp2_with fail
            rw [rounds_succ]
            go_wp2_with fail
            rw [rounds_succ]
            go_wp2_with fail
            rw [rounds_succ]
            go_wp2_with fail
            rw [rounds_succ]
            go_wp2_with fail
            refine bodyPost_ret (v := .agg #[.int .i64 lo, .int .i64 (((G (absZ rest) 3 * 65536 + G (absZ rest) 2) * 65536 + G (absZ rest) 1) * 65536 + G (absZ rest) 0)]) (by simp [results, Tryd.results22, go_sem, hu0, hu1]; exact lowW rest HRE.out.1 HRE.out.2) rfl ⟨?_, (hBz.setCell (by simp <;> omega) _).setCell (by simp <;> omega) _⟩
            rw [lowG rest HRE.out.1 HRE.out.2, HRV.out.1, HRV.out.2]
        · go_simp
          refine hK.out _ _ ?_ (fun hHeld2 => ?_)
          · exact ⟨World.rangeAt_alloc hHeld.1 _, World.there_alloc hHeld.2 _⟩
          clear hK K
          have hD : (wc3.alloc (.cells zeros11 27)).there wc3.heap.size 0 11 := there_new wc3 zeros11 27
          have hD0 : w.heap.size + 1 < wc3.heap.size := by omega
          have hBa := (hB3).alloc (by omega) (.cells zeros11 27)
          have hsa : wc3.heap.size + 1 ≤ (wc3.alloc (.cells zeros11 27)).heap.size := by rw [World.size_alloc]; exact Nat.le_refl _
          generalize wc3.alloc (.cells zeros11 27) = wb at *
          clear hHeld
          have hHeld := hHeld2
          clear hHeld2
          try simp only [Act.put, List.setIfInBounds_toArray, List.set_cons_zero, List.set_cons_succ]
          refine wpAnyH_ready (rs := [4]) (by kernel_rfl) (by simp) ?_
          refine AllReadyH.cons (o := { dst := some 56, op := Op.call { callee := Callee.value (Operand.func 14), args := #[Operand.tmp 55], argTypes := #[27] }, type := 27, pos := "ref.go:124", after := #[{ on := 3, ground := Ground.data }, { on := 3, ground := Ground.chain }], guard := none }) rfl (fun K hK => ?_) AllReadyH.nil
          go_simp
          go_at_call 14
          refine (HNG _).mono ?_
          rintro e wc4 ⟨rfl, hb⟩
          refine hK.out _ _ ?_ (fun hHeld2 => ?_)
          · exact ⟨rangeAt_later hHeld.1 hb, there_later hHeld.2 (by omega) hb⟩
          clear hK K
          have hB4 := chainB' hBa hb (by omega)
          have hs4 := hb.size
          have hD := there_later hD (by omega) hb
          clear hHeld hb
          have hHeld := hHeld2
          clear hHeld2
          try simp only [Act.put, List.setIfInBounds_toArray, List.set_cons_zero, List.set_cons_succ]
          refine wpAnyH_ready (rs := [5]) (by kernel_rfl) (by simp) ?_
          refine AllReadyH.cons (o := { dst := some 57, op := Op.call { callee := Callee.value (Operand.func 12), args := #[Operand.tmp 52, Operand.tmp 56], argTypes := #[27, 27] }, type := 27, pos := "ref.go:124", after := #[{ on := 0, ground := Ground.data }, { on := 4, ground := Ground.data }, { on := 4, ground := Ground.chain }], guard := none }) rfl (fun K hK => ?_) AllReadyH.nil
          go_simp
          go_at_call 12
          refine (HAD _).mono ?_
          rintro e wc5 ⟨rfl, hb⟩
          refine hK.out _ _ ?_ (fun hHeld2 => ?_)
          · exact ⟨rangeAt_later hHeld.1 hb, there_later hHeld.2 (by omega) hb⟩
          clear hK K
          have hB5 := chainB' hB4 hb (by omega)
          have hs5 := hb.size
          have hD := there_later hD (by omega) hb
          clear hHeld hb
          have hHeld := hHeld2
          clear hHeld2
          try simp only [Act.put, List.setIfInBounds_toArray, List.set_cons_zero, List.set_cons_succ]
          refine wpAnyH_ready (rs := [7]) (by kernel_rfl) (by simp) ?_
          refine AllReadyH.cons (o := { dst := none, op := Op.store 27 (Operand.tmp 8) (Operand.tmp 57), type := 0, pos := "ref.go:124", after := #[{ on := 6, ground := Ground.data }, { on := 5, ground := Ground.data }, { on := 5, ground := Ground.chain }, { on := 0, ground := Ground.phase }, { on := 1, ground := Ground.phase }, { on := 2, ground := Ground.phase }, { on := 3, ground := Ground.phase }, { on := 4, ground := Ground.phase }, { on := 5, ground := Ground.phase }, { on := 6, ground := Ground.phase }], guard := none }) rfl (fun K hK => ?_) AllReadyH.nil
          rw [if_pos (by rfl)]
          refine wp_store_mid 27 _ _ rfl wc3.heap.size 0 (sV rest) rfl rfl hD (by kernel_rfl) (longV_one _ _) ?_
          refine hK.out _ _ ?_ (fun hHeld2 => ?_)
          · exact ⟨World.rangeAt_setCells_apart hHeld.1 _ _ _ (.inl (by omega)), World.there_setCells hHeld.2 _ _ _⟩
          clear hK K
          try simp only [Act.put, List.setIfInBounds_toArray, List.set_cons_zero, List.set_cons_succ]
          refine wpAnyH_done (by kernel_rfl) ?_ _
          have hRz := hHeld2.2
          have hdz := World.rangeAt_setCells_same wc5 wc3.heap.size 0 (sV rest).toList hD
          have hBz := setCellsB hB5 wc3.heap.size 0 (sV rest).toList (by omega)
          clear hHeld2
          generalize wc5.setCells wc3.heap.size 0 (sV rest).toList = wz at *
          have d0 := hdz 1 _ rfl
          have d1 := hdz 2 _ rfl
          have d2 := hdz 3 _ rfl
          have d3 := hdz 4 _ rfl
          clear hD hdz hHeld
          have ⟨u0, hu0⟩ := Option.isSome_iff_exists.1 (hRz 0 (by omega)).1
          have ⟨u1, hu1⟩ := Option.isSome_iff_exists.1 (hRz 1 (by omega)).1
          have fr0 := (hRz 0 (by omega)).2
          have fr1 := (hRz 1 (by omega)).2
          simp only [Nat.zero_add, Nat.add_zero] at hu0 hu1 fr0 fr1
          obtain ⟨g0a, g0b⟩ := G_bd (absZ rest) 0
          obtain ⟨g1a, g1b⟩ := G_bd (absZ rest) 1
          obtain ⟨g2a, g2b⟩ := G_bd (absZ rest) 2
          obtain ⟨g3a, g3b⟩ := G_bd (absZ rest) 3
          go_wp2_with fail
          refine wp_loop_rounds 5 ?_
          rw [rounds_succ]
          go_wp2_with fail
          rw [rounds_succ]
          go_wp2_with fail
          rw [rounds_succ]
          go_wp2_with fail
          rw [rounds_succ]
          go_wp2_with fail
          rw [rounds_succ]
          go_wp2_with fail
          refine bodyPost_ret (v := .agg #[.int .i64 lo, .int .i64 (((G (absZ rest) 3 * 65536 + G (absZ rest) 2) * 65536 + G (absZ rest) 1) * 65536 + G (absZ rest) 0)]) (by simp [results, Tryd.results22, go_sem, hu0, hu1]; exact lowW rest HRE.out.1 HRE.out.2) rfl ⟨?_, (hBz.setCell (by simp <;> omega) _).setCell (by simp <;> omega) _⟩
          rw [lowG rest HRE.out.1 HRE.out.2, HRV.out.1, HRV.out.2]
      · go_simp
        refine hK.out _ _ ?_ (fun hHeld2 => ?_)
        · exact ⟨World.rangeAt_alloc hHeld.1 _, World.there_alloc hHeld.2 _⟩
        clear hK K
        have hD : (w6.alloc (.cells zeros11 27)).there w6.heap.size 0 11 := there_new w6 zeros11 27
        have hD0 : w.heap.size + 1 < w6.heap.size := by omega
        have hBa := (hB0).alloc (by omega) (.cells zeros11 27)
        have hsa : w6.heap.size + 1 ≤ (w6.alloc (.cells zeros11 27)).heap.size := by rw [World.size_alloc]; exact Nat.le_refl _
        generalize w6.alloc (.cells zeros11 27) = wb at *
        clear hHeld
        have hHeld := hHeld2
        clear hHeld2
        try simp only [Act.put, List.setIfInBounds_toArray, List.set_cons_zero, List.set_cons_succ]
        refine wpAnyH_ready (rs := [3]) (by kernel_rfl) (by simp) ?_
        refine AllReadyH.cons (o := { dst := some 55, op := Op.call { callee := Callee.value (Operand.func 20), args := #[Operand.tmp 54], argTypes := #[40] }, type := 27, pos := "ref.go:124", after := #[{ on := 2, ground := Ground.data }], guard := none }) rfl (fun K hK => ?_) AllReadyH.nil
        go_simp
        go_at_call 20
        refine (HNM _).mono ?_
        rintro e wc3 ⟨rfl, hb⟩
        refine hK.out _ _ ?_ (fun hHeld2 => ?_)
        · exact ⟨rangeAt_later hHeld.1 hb, there_later hHeld.2 (by omega) hb⟩
        clear hK K
        have hB3 := chainB' hBa hb (by omega)
        have hs3 := hb.size
        have hD := there_later hD (by omega) hb
        clear hHeld hb
        have hHeld := hHeld2
        clear hHeld2
        try simp only [Act.put, List.setIfInBounds_toArray, List.set_cons_zero, List.set_cons_succ]
        refine wpAnyH_ready (rs := [4]) (by kernel_rfl) (by simp) ?_
        refine AllReadyH.cons (o := { dst := some 56, op := Op.call { callee := Callee.value (Operand.func 14), args := #[Operand.tmp 55], argTypes := #[27] }, type := 27, pos := "ref.go:124", after := #[{ on := 3, ground := Ground.data }, { on := 3, ground := Ground.chain }], guard := none }) rfl (fun K hK => ?_) AllReadyH.nil
        go_simp
        go_at_call 14
        refine (HNG _).mono ?_
        rintro e wc4 ⟨rfl, hb⟩
        refine hK.out _ _ ?_ (fun hHeld2 => ?_)
        · exact ⟨rangeAt_later hHeld.1 hb, there_later hHeld.2 (by omega) hb⟩
        clear hK K
        have hB4 := chainB' hB3 hb (by omega)
        have hs4 := hb.size
        have hD := there_later hD (by omega) hb
        clear hHeld hb
        have hHeld := hHeld2
        clear hHeld2
        try simp only [Act.put, List.setIfInBounds_toArray, List.set_cons_zero, List.set_cons_succ]
        refine wpAnyH_ready (rs := [5]) (by kernel_rfl) (by simp) ?_
        refine AllReadyH.cons (o := { dst := some 57, op := Op.call { callee := Callee.value (Operand.func 12), args := #[Operand.tmp 52, Operand.tmp 56], argTypes := #[27, 27] }, type := 27, pos := "ref.go:124", after := #[{ on := 0, ground := Ground.data }, { on := 4, ground := Ground.data }, { on := 4, ground := Ground.chain }], guard := none }) rfl (fun K hK => ?_) AllReadyH.nil
        go_simp
        go_at_call 12
        refine (HAD _).mono ?_
        rintro e wc5 ⟨rfl, hb⟩
        refine hK.out _ _ ?_ (fun hHeld2 => ?_)
        · exact ⟨rangeAt_later hHeld.1 hb, there_later hHeld.2 (by omega) hb⟩
        clear hK K
        have hB5 := chainB' hB4 hb (by omega)
        have hs5 := hb.size
        have hD := there_later hD (by omega) hb
        clear hHeld hb
        have hHeld := hHeld2
        clear hHeld2
        try simp only [Act.put, List.setIfInBounds_toArray, List.set_cons_zero, List.set_cons_succ]
        refine wpAnyH_ready (rs := [7]) (by kernel_rfl) (by simp) ?_
        refine AllReadyH.cons (o := { dst := none, op := Op.store 27 (Operand.tmp 8) (Operand.tmp 57), type := 0, pos := "ref.go:124", after := #[{ on := 6, ground := Ground.data }, { on := 5, ground := Ground.data }, { on := 5, ground := Ground.chain }, { on := 0, ground := Ground.phase }, { on := 1, ground := Ground.phase }, { on := 2, ground := Ground.phase }, { on := 3, ground := Ground.phase }, { on := 4, ground := Ground.phase }, { on := 5, ground := Ground.phase }, { on := 6, ground := Ground.phase }], guard := none }) rfl (fun K hK => ?_) AllReadyH.nil
        rw [if_pos (by rfl)]
        refine wp_store_mid 27 _ _ rfl w6.heap.size 0 (sV rest) rfl rfl hD (by kernel_rfl) (longV_one _ _) ?_
        refine hK.out _ _ ?_ (fun hHeld2 => ?_)
        · exact ⟨World.rangeAt_setCells_apart hHeld.1 _ _ _ (.inl (by omega)), World.there_setCells hHeld.2 _ _ _⟩
        clear hK K
        try simp only [Act.put, List.setIfInBounds_toArray, List.set_cons_zero, List.set_cons_succ]
        refine wpAnyH_done (by kernel_rfl) ?_ _
        have hRz := hHeld2.2
        have hdz := World.rangeAt_setCells_same wc5 w6.heap.size 0 (sV rest).toList hD
        have hBz := setCellsB hB5 w6.heap.size 0 (sV rest).toList (by omega)
        clear hHeld2
        generalize wc5.setCells w6.heap.size 0 (sV rest).toList = wz at *
        have d0 := hdz 1 _ rfl
        have d1 := hdz 2 _ rfl
        have d2 := hdz 3 _ rfl
        have d3 := hdz 4 _ rfl
        clear hD hdz hHeld
        have ⟨u0, hu0⟩ := Option.isSome_iff_exists.1 (hRz 0 (by omega)).1
        have ⟨u1, hu1⟩ := Option.isSome_iff_exists.1 (hRz 1 (by omega)).1
        have fr0 := (hRz 0 (by omega)).2
        have fr1 := (hRz 1 (by omega)).2
        simp only [Nat.zero_add, Nat.add_zero] at hu0 hu1 fr0 fr1
        obtain ⟨g0a, g0b⟩ := G_bd (absZ rest) 0
        obtain ⟨g1a, g1b⟩ := G_bd (absZ rest) 1
        obtain ⟨g2a, g2b⟩ := G_bd (absZ rest) 2
        obtain ⟨g3a, g3b⟩ := G_bd (absZ rest) 3
        go_wp2_with fail
        refine wp_loop_rounds 5 ?_
        rw [rounds_succ]
        go_wp2_with fail
        rw [rounds_succ]
        go_wp2_with fail
        rw [rounds_succ]
        go_wp2_with fail
        rw [rounds_succ]
        go_wp2_with fail
        rw [rounds_succ]
        go_wp2_with fail
        refine bodyPost_ret (v := .agg #[.int .i64 lo, .int .i64 (((G (absZ rest) 3 * 65536 + G (absZ rest) 2) * 65536 + G (absZ rest) 1) * 65536 + G (absZ rest) 0)]) (by simp [results, Tryd.results22, go_sem, hu0, hu1]; exact lowW rest HRE.out.1 HRE.out.2) rfl ⟨?_, (hBz.setCell (by simp <;> omega) _).setCell (by simp <;> omega) _⟩
        rw [lowG rest HRE.out.1 HRE.out.2, HRV.out.1, HRV.out.2]
end Go.Proofs.YtmfmdcapanaajaaDoor
