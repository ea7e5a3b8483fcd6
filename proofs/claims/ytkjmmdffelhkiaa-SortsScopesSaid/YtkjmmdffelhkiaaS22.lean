/- The document's table: functions. -/
import Derived.Test.YtkjmmdffelhkiaaS21
namespace Go.Proofs.Ytkjmmdffelhkiaa
open Go Go.RowKit Go.Maps

variable {W : World} {K : Nat → Nat} {base c r : Nat} {T : Tab}
set_option maxRecDepth 100000 in
set_option maxHeartbeats 8000000 in
theorem refFun_any (hT : TabAt W K base c T) (h : RefAt W K r) (x : Info) (hx : IntsIn W x.P x.L x.V) (hs : x.N.size ≤ 100000) (hL : x.L ≤ 100000) (hZ : x.P = none → x.L = 0 ∧ x.C = 0) (hR : I64 x.R) (hV : ∀ k, k < x.L → I64 (x.V k)) :
    Calls Try.prog 53 #[.pointer (some ⟨r, 0, none⟩), infoA x] W (RDecl T base c r K W) := by
  obtain ⟨N, P, L, C, V, R, D⟩ := x
  simp only at hx hs hL hZ hR hV
  have hb1 := below1 W (.cells #[.string N, .slice P L C, .int .i64 R, .bool D] 35)
  have bx0 : (W.alloc (.cells #[.string N, .slice P L C, .int .i64 R, .bool D] 35)).cell? ⟨W.heap.size, 0, none⟩ = some (.string N) := by simp [go_sem]
  have bx1 : (W.alloc (.cells #[.string N, .slice P L C, .int .i64 R, .bool D] 35)).cell? ⟨W.heap.size, 1, none⟩ = some (.slice P L C) := by simp [go_sem]
  have bx2 : (W.alloc (.cells #[.string N, .slice P L C, .int .i64 R, .bool D] 35)).cell? ⟨W.heap.size, 2, none⟩ = some (.int .i64 R) := by simp [go_sem]
  have bx3 : (W.alloc (.cells #[.string N, .slice P L C, .int .i64 R, .bool D] 35)).cell? ⟨W.heap.size, 3, none⟩ = some (.bool D) := by simp [go_sem]
  have hkb : K W.heap.size = 0 := hT.fr _ (Nat.le_refl _)
  have hT1 := hT.later hb1
  have h1 := h.later hb1
  have HM := fun w => may_any N false w hs
  have HS := fun x hx => stands_any h1 x hx
  obtain ⟨p, z, es, a1, b1, c1⟩ := h1.row2
  obtain ⟨i0, hi, hz0, hz1, hz2⟩ := info140
  have HT1 := Lib.hid hT1
  have H1 := Lib.hid h1
  have HX1 := Lib.hid (hx.later hb1)
  have HB1 := Lib.hid (StepR.below (K := K) hb1)
  have HR1 := Lib.hid b1
  have HV := Lib.hid hV
  have HRR := Lib.hid hR
  have HZ := Lib.hid hZ
  clear hT h hx hb1 hT1 h1 b1 hV hR hZ
  unfold infoA
  go_enter Try.func53, Try.ntmps53
  go_wp2_with fail
  generalize W.alloc (.cells #[.string N, .slice P L C, .int .i64 R, .bool D] 35) = w1 at *
  generalize W.heap.size = bb at *
  refine (HM _).mono ?_
  rintro e w2 ⟨b, rfl, hw⟩
  obtain rfl := hw.symm
  clear HM
  cases b
  · go_wp2_with fail
    go_ret2
    exact ⟨K, _, _, rfl, HT1.out, H1.out, HB1.out⟩
  by_cases h20 : 20 < L
  · go_wp2_with fail
    go_ret2
    exact ⟨K, _, _, rfl, HT1.out, H1.out, HB1.out⟩
  go_wp2_with fail
  go_loop [6] (fun i => ∃ k : Nat, k ≤ L ∧ i = .int .i64 k) (fun i => L - (intOf i).toNat)
  case atStart => exact ⟨0, Nat.zero_le _, rfl⟩
  case round =>
    obtain ⟨k, hk, rfl⟩ := hrel
    by_cases hlt : k < L
    · obtain ⟨b, off, rfl, ha⟩ := HX1.out (by omega)
      have hc := ha k hlt
      have hv := HV.out k hlt
      have hk0 : (0 : Int) ≤ (k : Int) := by omega
      have hk1 : (k : Int) < (L : Int) := by omega
      clear ha
      have HS1 := HS _ hv
      generalize V k = x at hc HS1
      clear hv
      go_wp2_with fail
      refine HS1.mono ?_
      rintro e w2 ⟨b3, rfl, hw⟩
      obtain rfl := hw.symm
      cases b3
      · go_wp2_with fail
        go_ret2
        exact ⟨K, _, _, rfl, HT1.out, H1.out, HB1.out⟩
      · go_wp2_with fail
        go_round
        case rel => exact ⟨k + 1, by omega, by go_num⟩
        case measure => simp [intOf]; omega
    · obtain rfl : k = L := by omega
      have HS1 := HS _ HRR.out
      go_wp2_with fail
      refine HS1.mono ?_
      rintro e w2 ⟨b3, rfl, hw⟩
      obtain rfl := hw.symm
      cases b3
      · go_wp2_with fail
        go_ret2
        exact ⟨K, _, _, rfl, HT1.out, H1.out, HB1.out⟩
      clear HS HS1
      go_wp2_with fail
      have hD : Below w1.heap.size w1 w1.drew := (Below.refl _ _).drew
      replace a1 := cell_later hD a1
      replace bx0 := cell_later hD bx0
      replace bx1 := cell_later hD bx1
      replace bx2 := cell_later hD bx2
      replace bx3 := cell_later hD bx3
      have HT2 := Lib.hid (HT1.out.later hD)
      have H2 := Lib.hid (H1.out.later hD)
      have HX2 := Lib.hid (HX1.out.later hD)
      have HB2 := Lib.hid (HB1.out.trans (StepR.below hD))
      have HR2 := Lib.hid (HR1.out.only (Only.of_below (T := fun _ => False) hD) (Ext.refl _ _) (fun _ _ h => h))
      clear hD HT1 H1 HX1 HB1 HR1
      refine wp_region_L [(1000, (fun _ => True : World → Prop)), (1000, (fun w => w.cell? ⟨r, 1, none⟩ = some (.slice p es.length z) : World → Prop)), (1000, (fun w => w.cell? ⟨bb, 0, none⟩ = some (.string N) : World → Prop))] (by kernel_rfl) (SL.cons (fun _ => trivial) (SL.cons (fun _ => a1) (SL.cons (fun _ => bx0) SL.nil))) (fun hHeld => ?_)
      generalize w1.drew = w2 at *
      have HF := find_any p z es N w2 HR2.out c1
      refine wpAnyL_take 0 _ _ (i := 0) (oi := { dst := some 37, op := Op.move (Operand.tmp 0), type := 27, pos := "ref.go:100", after := #[], guard := none }) (v := ?_) rfl (by kernel_rfl) (by kernel_rfl) (by kernel_rfl) (fun _ _ _ h => h) rfl (by kernel_rfl) (by kernel_rfl) (by kernel_rfl) (Or.inl ⟨by rfl, ?_⟩) hHeld (fun hHeld => ?_)
      rotate_left
      · intro w hSw
        (try dsimp only at hSw)
        go_simp
        try with_reducible rfl
      try simp only [Act.put, List.setIfInBounds_toArray, List.set_cons_zero, List.set_cons_succ]
      refine wpAnyL_take 0 _ _ (i := 1) (oi := { dst := some 38, op := Op.nilCheck (Operand.tmp 37), type := 0, pos := "ref.go:100", after := #[{ on := 0, ground := Ground.data }], guard := none }) (v := ?_) rfl (by kernel_rfl) (by kernel_rfl) (by kernel_rfl) (fun _ _ _ h => h) rfl (by kernel_rfl) (by kernel_rfl) (by kernel_rfl) (Or.inl ⟨by rfl, ?_⟩) hHeld (fun hHeld => ?_)
      rotate_left
      · intro w hSw
        (try dsimp only at hSw)
        go_simp
        try with_reducible rfl
      try simp only [Act.put, List.setIfInBounds_toArray, List.set_cons_zero, List.set_cons_succ]
      refine wpAnyL_take 0 _ _ (i := 2) (oi := { dst := some 39, op := Op.fieldAddr 30 (Operand.tmp 38) 1, type := 0, pos := "ref.go:100", after := #[{ on := 1, ground := Ground.data }], guard := none }) (v := ?_) rfl (by kernel_rfl) (by kernel_rfl) (by kernel_rfl) (fun _ _ _ h => h) rfl (by kernel_rfl) (by kernel_rfl) (by kernel_rfl) (Or.inl ⟨by rfl, ?_⟩) hHeld (fun hHeld => ?_)
      rotate_left
      · intro w hSw
        (try dsimp only at hSw)
        go_simp
        try with_reducible rfl
      try simp only [Act.put, List.setIfInBounds_toArray, List.set_cons_zero, List.set_cons_succ]
      refine wpAnyL_take 1 _ _ (i := 3) (oi := { dst := some 40, op := Op.load 28 (Operand.tmp 39), type := 28, pos := "ref.go:100", after := #[{ on := 2, ground := Ground.data }], guard := none }) (v := ?_) rfl (by kernel_rfl) (by kernel_rfl) (by kernel_rfl) (fun _ _ _ h => h) rfl (by kernel_rfl) (by kernel_rfl) (by kernel_rfl) (Or.inl ⟨by rfl, ?_⟩) hHeld (fun hHeld => ?_)
      rotate_left
      · intro w hSw
        (try dsimp only at hSw)
        go_simp
        try with_reducible rfl
      try simp only [Act.put, List.setIfInBounds_toArray, List.set_cons_zero, List.set_cons_succ]
      refine wpAnyL_take 0 _ _ (i := 4) (oi := { dst := some 41, op := Op.fieldAddr 35 (Operand.tmp 3) 0, type := 0, pos := "ref.go:100", after := #[], guard := none }) (v := ?_) rfl (by kernel_rfl) (by kernel_rfl) (by kernel_rfl) (fun _ _ _ h => h) rfl (by kernel_rfl) (by kernel_rfl) (by kernel_rfl) (Or.inl ⟨by rfl, ?_⟩) hHeld (fun hHeld => ?_)
      rotate_left
      · intro w hSw
        (try dsimp only at hSw)
        go_simp
        try with_reducible rfl
      try simp only [Act.put, List.setIfInBounds_toArray, List.set_cons_zero, List.set_cons_succ]
      refine wpAnyL_take 2 _ _ (i := 5) (oi := { dst := some 42, op := Op.load 9 (Operand.tmp 41), type := 9, pos := "ref.go:100", after := #[{ on := 4, ground := Ground.data }], guard := none }) (v := ?_) rfl (by kernel_rfl) (by kernel_rfl) (by kernel_rfl) (fun _ _ _ h => h) rfl (by kernel_rfl) (by kernel_rfl) (by kernel_rfl) (Or.inl ⟨by rfl, ?_⟩) hHeld (fun hHeld => ?_)
      rotate_left
      · intro w hSw
        (try dsimp only at hSw)
        go_simp
        try with_reducible rfl
      try simp only [Act.put, List.setIfInBounds_toArray, List.set_cons_zero, List.set_cons_succ]
      refine wpAnyL_ready (rs := [6]) (by kernel_rfl) (by simp) ?_
      refine AllReadyL.cons (o := { dst := some 43, op := Op.call { callee := Callee.value (Operand.func 87), args := #[Operand.tmp 40, Operand.tmp 42], argTypes := #[28, 9] }, type := 3, pos := "ref.go:100", after := #[{ on := 3, ground := Ground.data }, { on := 5, ground := Ground.data }], guard := none }) rfl (fun K hK => ?_) AllReadyL.nil
      go_simp
      go_at_call 87
      refine HF.mono ?_
      rintro e w' ⟨i, hi1, hi2, rfl, hw⟩
      obtain rfl := hw.symm
      refine hK.out _ _ (SL.cons (fun _ => trivial) (SL.cons (fun _ => a1) (SL.cons (fun _ => bx0) SL.nil))) (fun hHeld => ?_)
      clear hK K
      try simp only [Act.put, List.setIfInBounds_toArray, List.set_cons_zero, List.set_cons_succ]
      have HI := Lib.hid (And.intro hi1 hi2)
      clear hi1 hi2 HF
      by_cases h3 : 0 ≤ i
      · have q3 : decide (0 ≤ i) = true := by rw [decide_eq_true_eq]; exact h3
        refine wpAnyL_take 0 _ _ (i := 7) (oi := { dst := some 44, op := Op.binOp BinOp.geq 3 (Operand.tmp 43) (Operand.const (Value.int IntKind.i64 0)) 3, type := 4, pos := "ref.go:100", after := #[{ on := 6, ground := Ground.data }], guard := none }) (v := ?_) rfl (by kernel_rfl) (by kernel_rfl) (by kernel_rfl) (fun _ _ _ h => h) rfl (by kernel_rfl) (by kernel_rfl) (by kernel_rfl) (Or.inl ⟨by rfl, ?_⟩) hHeld (fun hHeld => ?_)
        rotate_left
        · intro w hSw
          (try dsimp only at hSw)
          go_simp
          try with_reducible rfl
        try simp only [Act.put, List.setIfInBounds_toArray, List.set_cons_zero, List.set_cons_succ]
        refine wpAnyL_take 0 _ _ (i := 8) (oi := { dst := some 36, op := Op.assign (Operand.tmp 44), type := 4, pos := "ref.go:100", after := #[{ on := 7, ground := Ground.data }, { on := 6, ground := Ground.chain }], guard := none }) (v := ?_) rfl (by kernel_rfl) (by kernel_rfl) (by kernel_rfl) (fun _ _ _ h => h) rfl (by kernel_rfl) (by kernel_rfl) (by kernel_rfl) (Or.inl ⟨by rfl, ?_⟩) hHeld (fun hHeld => ?_)
        rotate_left
        · intro w hSw
          (try dsimp only at hSw)
          go_simp
          try with_reducible rfl
        try simp only [Act.put, List.setIfInBounds_toArray, List.set_cons_zero, List.set_cons_succ]
        refine wpAnyL_done (by kernel_rfl) ?_ _
        clear hHeld
        go_wp2_with fail
        go_ret2
        exact ⟨K, _, _, rfl, HT2.out, H2.out, HB2.out⟩
      have q3 : decide (0 ≤ i) = false := by rw [decide_eq_false_iff_not]; exact h3
      refine wpAnyL_take 0 _ _ (i := 7) (oi := { dst := some 44, op := Op.binOp BinOp.geq 3 (Operand.tmp 43) (Operand.const (Value.int IntKind.i64 0)) 3, type := 4, pos := "ref.go:100", after := #[{ on := 6, ground := Ground.data }], guard := none }) (v := ?_) rfl (by kernel_rfl) (by kernel_rfl) (by kernel_rfl) (fun _ _ _ h => h) rfl (by kernel_rfl) (by kernel_rfl) (by kernel_rfl) (Or.inl ⟨by rfl, ?_⟩) hHeld (fun hHeld => ?_)
      rotate_left
      · intro w hSw
        (try dsimp only at hSw)
        go_simp
        try with_reducible rfl
      try simp only [Act.put, List.setIfInBounds_toArray, List.set_cons_zero, List.set_cons_succ]
      refine wpAnyL_take 0 _ _ (i := 8) (oi := { dst := some 36, op := Op.assign (Operand.tmp 44), type := 4, pos := "ref.go:100", after := #[{ on := 7, ground := Ground.data }, { on := 6, ground := Ground.chain }], guard := none }) (v := ?_) rfl (by kernel_rfl) (by kernel_rfl) (by kernel_rfl) (fun _ _ _ h => h) rfl (by kernel_rfl) (by kernel_rfl) (by kernel_rfl) (Or.inl ⟨by rfl, ?_⟩) hHeld (fun hHeld => ?_)
      rotate_left
      · intro w hSw
        (try dsimp only at hSw)
        go_simp
        try with_reducible rfl
      try simp only [Act.put, List.setIfInBounds_toArray, List.set_cons_zero, List.set_cons_succ]
      refine wpAnyL_done (by kernel_rfl) ?_ _
      clear hHeld
      by_cases h4 : 2000 ≤ es.length
      · go_wp2_with fail
        go_ret2
        exact ⟨K, _, _, rfl, HT2.out, H2.out, HB2.out⟩
      go_wp2_with fail
      have hD : Below w2.heap.size w2 w2.drew := (Below.refl _ _).drew
      replace a1 := cell_later hD a1
      replace bx0 := cell_later hD bx0
      replace bx1 := cell_later hD bx1
      replace bx2 := cell_later hD bx2
      replace bx3 := cell_later hD bx3
      have HT3 := Lib.hid (HT2.out.later hD)
      have H3 := Lib.hid (H2.out.later hD)
      have HX3 := Lib.hid (HX2.out.later hD)
      have HB3 := Lib.hid (HB2.out.trans (StepR.below hD))
      have HR3 := Lib.hid (HR2.out.only (Only.of_below (T := fun _ => False) hD) (Ext.refl _ _) (fun _ _ h => h))
      obtain ⟨d, d1, d2, d3⟩ := H3.out.dp
      clear hD HT2 H2 HX2 HB2 HR2
      refine wp_region_L [(1000, (fun _ => True : World → Prop)), (16, (fun w => w.cell? ⟨r, 1, none⟩ = some (.slice p es.length z) : World → Prop)), (1000, (fun w => w.cell? ⟨bb, 0, none⟩ = some (.string N) ∧ w.cell? ⟨bb, 1, none⟩ = some (.slice P k C) ∧ w.cell? ⟨bb, 2, none⟩ = some (.int .i64 R) ∧ w.cell? ⟨bb, 3, none⟩ = some (.bool D) : World → Prop)), (1000, (fun w => w.cell? ⟨r, 2, none⟩ = some (.int .i64 d) : World → Prop))] (by kernel_rfl) (SL.cons (fun _ => trivial) (SL.cons (fun _ => a1) (SL.cons (fun _ => ⟨bx0, bx1, bx2, bx3⟩) (SL.cons (fun _ => d3) SL.nil)))) (fun hHeld => ?_)
      generalize w2.drew = w3 at *
      have HC := copied_any ⟨N, P, k, C, V, R, D⟩ w3 HX3.out hL HZ.out
      unfold infoA at HC
      simp only at HC
      refine wpAnyL_take 0 _ _ (i := 0) (oi := { dst := some 52, op := Op.move (Operand.tmp 0), type := 27, pos := "ref.go:105", after := #[], guard := none }) (v := ?_) rfl (by kernel_rfl) (by kernel_rfl) (by kernel_rfl) (fun _ _ _ h => h) rfl (by kernel_rfl) (by kernel_rfl) (by kernel_rfl) (Or.inl ⟨by rfl, ?_⟩) hHeld (fun hHeld => ?_)
      rotate_left
      · intro w hSw
        (try dsimp only at hSw)
        go_simp
        try with_reducible rfl
      try simp only [Act.put, List.setIfInBounds_toArray, List.set_cons_zero, List.set_cons_succ]
      refine wpAnyL_take 0 _ _ (i := 1) (oi := { dst := some 53, op := Op.move (Operand.tmp 0), type := 27, pos := "ref.go:105", after := #[], guard := none }) (v := ?_) rfl (by kernel_rfl) (by kernel_rfl) (by kernel_rfl) (fun _ _ _ h => h) rfl (by kernel_rfl) (by kernel_rfl) (by kernel_rfl) (Or.inl ⟨by rfl, ?_⟩) hHeld (fun hHeld => ?_)
      rotate_left
      · intro w hSw
        (try dsimp only at hSw)
        go_simp
        try with_reducible rfl
      try simp only [Act.put, List.setIfInBounds_toArray, List.set_cons_zero, List.set_cons_succ]
      refine wpAnyL_take 0 _ _ (i := 2) (oi := { dst := some 54, op := Op.nilCheck (Operand.tmp 53), type := 0, pos := "ref.go:105", after := #[{ on := 1, ground := Ground.data }], guard := none }) (v := ?_) rfl (by kernel_rfl) (by kernel_rfl) (by kernel_rfl) (fun _ _ _ h => h) rfl (by kernel_rfl) (by kernel_rfl) (by kernel_rfl) (Or.inl ⟨by rfl, ?_⟩) hHeld (fun hHeld => ?_)
      rotate_left
      · intro w hSw
        (try dsimp only at hSw)
        go_simp
        try with_reducible rfl
      try simp only [Act.put, List.setIfInBounds_toArray, List.set_cons_zero, List.set_cons_succ]
      refine wpAnyL_take 0 _ _ (i := 3) (oi := { dst := some 55, op := Op.fieldAddr 30 (Operand.tmp 54) 1, type := 0, pos := "ref.go:105", after := #[{ on := 2, ground := Ground.data }], guard := none }) (v := ?_) rfl (by kernel_rfl) (by kernel_rfl) (by kernel_rfl) (fun _ _ _ h => h) rfl (by kernel_rfl) (by kernel_rfl) (by kernel_rfl) (Or.inl ⟨by rfl, ?_⟩) hHeld (fun hHeld => ?_)
      rotate_left
      · intro w hSw
        (try dsimp only at hSw)
        go_simp
        try with_reducible rfl
      try simp only [Act.put, List.setIfInBounds_toArray, List.set_cons_zero, List.set_cons_succ]
      refine wpAnyL_take 1 _ _ (i := 4) (oi := { dst := some 56, op := Op.load 28 (Operand.tmp 55), type := 28, pos := "ref.go:105", after := #[{ on := 3, ground := Ground.data }], guard := none }) (v := ?_) rfl (by kernel_rfl) (by kernel_rfl) (by kernel_rfl) (fun _ _ _ h => h) rfl (by kernel_rfl) (by kernel_rfl) (by kernel_rfl) (Or.inl ⟨by rfl, ?_⟩) hHeld (fun hHeld => ?_)
      rotate_left
      · intro w hSw
        (try dsimp only at hSw)
        go_simp
        try with_reducible rfl
      try simp only [Act.put, List.setIfInBounds_toArray, List.set_cons_zero, List.set_cons_succ]
      refine wpAnyL_take 2 _ _ (i := 5) (oi := { dst := some 57, op := Op.load 35 (Operand.tmp 3), type := 35, pos := "ref.go:105", after := #[], guard := none }) (v := ?_) rfl (by kernel_rfl) (by kernel_rfl) (by kernel_rfl) (fun _ _ _ h => h) rfl (by kernel_rfl) (by kernel_rfl) (by kernel_rfl) (Or.inl ⟨by rfl, ?_⟩) hHeld (fun hHeld => ?_)
      rotate_left
      · intro w hSw
        (try dsimp only at hSw)
        obtain ⟨g0, g1, g2, g3⟩ := hSw
        go_simp
        try with_reducible rfl
      try simp only [Act.put, List.setIfInBounds_toArray, List.set_cons_zero, List.set_cons_succ]
      refine wpAnyL_take 0 _ _ (i := 7) (oi := { dst := some 59, op := Op.move (Operand.tmp 0), type := 27, pos := "ref.go:105", after := #[], guard := none }) (v := ?_) rfl (by kernel_rfl) (by kernel_rfl) (by kernel_rfl) (fun _ _ _ h => h) rfl (by kernel_rfl) (by kernel_rfl) (by kernel_rfl) (Or.inl ⟨by rfl, ?_⟩) hHeld (fun hHeld => ?_)
      rotate_left
      · intro w hSw
        (try dsimp only at hSw)
        go_simp
        try with_reducible rfl
      try simp only [Act.put, List.setIfInBounds_toArray, List.set_cons_zero, List.set_cons_succ]
      refine wpAnyL_take 0 _ _ (i := 8) (oi := { dst := some 60, op := Op.nilCheck (Operand.tmp 59), type := 0, pos := "ref.go:105", after := #[{ on := 7, ground := Ground.data }], guard := none }) (v := ?_) rfl (by kernel_rfl) (by kernel_rfl) (by kernel_rfl) (fun _ _ _ h => h) rfl (by kernel_rfl) (by kernel_rfl) (by kernel_rfl) (Or.inl ⟨by rfl, ?_⟩) hHeld (fun hHeld => ?_)
      rotate_left
      · intro w hSw
        (try dsimp only at hSw)
        go_simp
        try with_reducible rfl
      try simp only [Act.put, List.setIfInBounds_toArray, List.set_cons_zero, List.set_cons_succ]
      refine wpAnyL_take 0 _ _ (i := 9) (oi := { dst := some 61, op := Op.fieldAddr 30 (Operand.tmp 60) 2, type := 0, pos := "ref.go:105", after := #[{ on := 8, ground := Ground.data }], guard := none }) (v := ?_) rfl (by kernel_rfl) (by kernel_rfl) (by kernel_rfl) (fun _ _ _ h => h) rfl (by kernel_rfl) (by kernel_rfl) (by kernel_rfl) (Or.inl ⟨by rfl, ?_⟩) hHeld (fun hHeld => ?_)
      rotate_left
      · intro w hSw
        (try dsimp only at hSw)
        go_simp
        try with_reducible rfl
      try simp only [Act.put, List.setIfInBounds_toArray, List.set_cons_zero, List.set_cons_succ]
      refine wpAnyL_take 3 _ _ (i := 10) (oi := { dst := some 62, op := Op.load 3 (Operand.tmp 61), type := 3, pos := "ref.go:105", after := #[{ on := 9, ground := Ground.data }], guard := none }) (v := ?_) rfl (by kernel_rfl) (by kernel_rfl) (by kernel_rfl) (fun _ _ _ h => h) rfl (by kernel_rfl) (by kernel_rfl) (by kernel_rfl) (Or.inl ⟨by rfl, ?_⟩) hHeld (fun hHeld => ?_)
      rotate_left
      · intro w hSw
        (try dsimp only at hSw)
        go_simp
        try with_reducible rfl
      try simp only [Act.put, List.setIfInBounds_toArray, List.set_cons_zero, List.set_cons_succ]
      refine wpAnyL_ready (rs := [6]) (by kernel_rfl) (by simp) ?_
      refine AllReadyL.cons (o := { dst := some 58, op := Op.call { callee := Callee.value (Operand.func 52), args := #[Operand.tmp 57], argTypes := #[35] }, type := 35, pos := "ref.go:105", after := #[{ on := 5, ground := Ground.data }], guard := none }) rfl (fun K hK => ?_) AllReadyL.nil
      go_simp
      go_at_call 52
      refine HC.mono ?_
      rintro e w4 ⟨P4, C4, rfl, hI4, hb4, h94, _⟩
      have H4 := Lib.hid (H3.out.later hb4)
      have HT4 := Lib.hid (HT3.out.later hb4)
      have HB4 := Lib.hid (HB3.out.trans (StepR.below hb4))
      have HR4 := Lib.hid (HR3.out.only (Only.of_below (T := fun _ => False) hb4) (Ext.refl _ _) (fun _ _ h => h))
      replace a1 := cell_later hb4 a1
      replace bx0 := cell_later hb4 bx0
      replace bx1 := cell_later hb4 bx1
      replace bx2 := cell_later hb4 bx2
      replace bx3 := cell_later hb4 bx3
      replace d3 := cell_later hb4 d3
      clear hI4 hb4 h94 HC H3 HT3 HB3 HR3
      refine hK.out _ _ (SL.cons (fun _ => trivial) (SL.cons (fun _ => a1) (SL.cons (fun _ => ⟨bx0, bx1, bx2, bx3⟩) (SL.cons (fun _ => d3) SL.nil)))) (fun hHeld => ?_)
      clear hK K
      try simp only [Act.put, List.setIfInBounds_toArray, List.set_cons_zero, List.set_cons_succ]
      refine wpAnyL_take 0 _ _ (i := 11) (oi := { dst := some 63, op := Op.build 140 #[(0, Operand.tmp 58), (1, Operand.tmp 62), (2, Operand.const (Value.bool true))], type := 140, pos := "ref.go:105", after := #[{ on := 6, ground := Ground.data }, { on := 10, ground := Ground.data }], guard := none }) (v := ?_) rfl (by kernel_rfl) (by kernel_rfl) (by kernel_rfl) (fun _ _ _ h => h) rfl (by kernel_rfl) (by kernel_rfl) (by kernel_rfl) (Or.inl ⟨by rfl, ?_⟩) hHeld (fun hHeld => ?_)
      rotate_left
      · intro w hSw
        (try dsimp only at hSw)
        go_simp
        try with_reducible rfl
      try simp only [Act.put, List.setIfInBounds_toArray, List.set_cons_zero, List.set_cons_succ]
      refine wpAnyL_ready (rs := [12]) (by kernel_rfl) (by simp) ?_
      refine AllReadyL.cons (o := { dst := some 64, op := Op.buildSlice 28 1 #[(0, Operand.tmp 63)], type := 28, pos := "ref.go:105", after := #[{ on := 11, ground := Ground.data }], guard := none }) rfl (fun K hK => ?_) AllReadyL.nil
      go_simp
      refine hK.out _ _ (SL.cons (fun _ => trivial) (SL.cons (fun _ => cell_later (below1 w4 _) a1) (SL.cons (fun _ => ⟨cell_later (below1 w4 _) bx0, cell_later (below1 w4 _) bx1, cell_later (below1 w4 _) bx2, cell_later (below1 w4 _) bx3⟩) (SL.cons (fun _ => cell_later (below1 w4 _) d3) SL.nil)))) (fun hHeld => ?_)
      clear hK K
      try simp only [Act.put, List.setIfInBounds_toArray, List.set_cons_zero, List.set_cons_succ]
      have hb7 := below1 w4 (.cells #[.string N, .slice P4 k C4, .int .i64 R, .bool D, .int .i64 d, .bool true] 140)
      have H7 := Lib.hid (H4.out.later hb7)
      have HT7 := Lib.hid (HT4.out.later hb7)
      have HB7 := Lib.hid (HB4.out.trans (StepR.below hb7))
      have HR7 := Lib.hid (HR4.out.only (Only.of_below (T := fun _ => False) hb7) (Ext.refl _ _) (fun _ _ h => h))
      replace a1 := cell_later hb7 a1
      replace bx0 := cell_later hb7 bx0
      replace bx1 := cell_later hb7 bx1
      replace bx2 := cell_later hb7 bx2
      replace bx3 := cell_later hb7 bx3
      replace d3 := cell_later hb7 d3
      have n0 : (w4.alloc (.cells #[.string N, .slice P4 k C4, .int .i64 R, .bool D, .int .i64 d, .bool true] 140)).cell? ⟨w4.heap.size, 0, none⟩ = some (.string N) := by simp [go_sem]
      have n1 : (w4.alloc (.cells #[.string N, .slice P4 k C4, .int .i64 R, .bool D, .int .i64 d, .bool true] 140)).cell? ⟨w4.heap.size, 1, none⟩ = some (.slice P4 k C4) := by simp [go_sem]
      have n2 : (w4.alloc (.cells #[.string N, .slice P4 k C4, .int .i64 R, .bool D, .int .i64 d, .bool true] 140)).cell? ⟨w4.heap.size, 2, none⟩ = some (.int .i64 R) := by simp [go_sem]
      have n3 : (w4.alloc (.cells #[.string N, .slice P4 k C4, .int .i64 R, .bool D, .int .i64 d, .bool true] 140)).cell? ⟨w4.heap.size, 3, none⟩ = some (.bool D) := by simp [go_sem]
      have n4 : (w4.alloc (.cells #[.string N, .slice P4 k C4, .int .i64 R, .bool D, .int .i64 d, .bool true] 140)).cell? ⟨w4.heap.size, 4, none⟩ = some (.int .i64 d) := by simp [go_sem]
      have n5 : (w4.alloc (.cells #[.string N, .slice P4 k C4, .int .i64 R, .bool D, .int .i64 d, .bool true] 140)).cell? ⟨w4.heap.size, 5, none⟩ = some (.bool true) := by simp [go_sem]
      clear hb7 hHeld
      refine wpAnyL_ready (rs := [13]) (by kernel_rfl) (by simp) ?_
      refine AllReadyL.cons (o := { dst := some 65, op := Op.call { callee := Callee.builtin Builtin.append, args := #[Operand.tmp 56, Operand.tmp 64], argTypes := #[28, 28] }, type := 28, pos := "ref.go:105", after := #[{ on := 4, ground := Ground.data }, { on := 12, ground := Ground.data }, { on := 6, ground := Ground.chain }], guard := none }) rfl (fun K hK => ?_) AllReadyL.nil
      rw [if_pos (by rfl)]
      refine wp_append_own_at _ _ 28 (by rfl) 0 140 i0 (.agg #[.string ⟨#[]⟩, .slice none 0 0, .int .i64 0, .bool false, .int .i64 0, .bool false]) 6 72 Try.underlying28 hi hz0 hz1 hz2 rfl (by omega) _ es.length (flatE es) (by rfl) HR7.out.own ⟨w4.heap.size, 0, none⟩ 1 1 (entV ⟨N, P4, k, C4, R, D, d, true⟩) (by rfl) (by rfl) ?_ ?_ ?_ ?_ ?_ ?_
      · intro jj u hjj
        rw [Lib.add_plain]
        match jj, hjj with
        | 0, hjj => cases hjj; exact n0
        | 1, hjj => cases hjj; exact n1
        | 2, hjj => cases hjj; exact n2
        | 3, hjj => cases hjj; exact n3
        | 4, hjj => cases hjj; exact n4
        | 5, hjj => cases hjj; exact n5
      · intro u hu; simp [entV] at hu; rcases hu with rfl | rfl | rfl | rfl | rfl | rfl <;> rfl
      · have hml : maxLen = 9223372036854775807 := rfl; omega
      · omega
      · exact Nat.zero_le _
      intro v8 w8 hown hgrow hnil_ hloc
      obtain ⟨p8, c8, hv⟩ := own_shape hown
      subst hv
      clear hnil_
      obtain ⟨K8, hT8, hR8, hS8, x8, f8, hk8⟩ := H7.out.push1 HT7.out a1 es HR7.out ⟨N, P4, k, C4, R, D, d, true⟩ (by omega) hown hgrow (by simpa using hloc)
      have HT8 := Lib.hid hT8
      have HR8 := Lib.hid hR8
      have HS8 := Lib.hid (HB7.out.trans hS8)
      have y3 := hk8 _ _ d3 (by have := H7.out.kr; simp only; omega)
      replace bx0 := hk8 _ _ bx0 (by simp only; omega)
      replace bx1 := hk8 _ _ bx1 (by simp only; omega)
      replace bx2 := hk8 _ _ bx2 (by simp only; omega)
      replace bx3 := hk8 _ _ bx3 (by simp only; omega)
      have hrb : r ≠ bb := fun e => by have := H7.out.kr; rw [e] at this; omega
      clear hown hgrow hloc hT8 hR8 hS8 hk8 n0 n1 n2 n3 n4 n5
      refine hK.out _ _ (SL.cons (fun _ => trivial) (SL.cons (fun _ => x8) (SL.cons (fun _ => ⟨bx0, bx1, bx2, bx3⟩) (SL.cons (fun _ => y3) SL.nil)))) (fun hHeld => ?_)
      clear hK K
      try simp only [Act.put, List.setIfInBounds_toArray, List.set_cons_zero, List.set_cons_succ]
      refine wpAnyL_take 0 _ _ (i := 14) (oi := { dst := some 66, op := Op.nilCheck (Operand.tmp 52), type := 0, pos := "ref.go:105", after := #[{ on := 0, ground := Ground.data }, { on := 0, ground := Ground.phase }, { on := 1, ground := Ground.phase }, { on := 2, ground := Ground.phase }, { on := 3, ground := Ground.phase }, { on := 4, ground := Ground.phase }, { on := 5, ground := Ground.phase }, { on := 6, ground := Ground.phase }, { on := 7, ground := Ground.phase }, { on := 8, ground := Ground.phase }, { on := 9, ground := Ground.phase }, { on := 10, ground := Ground.phase }, { on := 11, ground := Ground.phase }, { on := 12, ground := Ground.phase }, { on := 13, ground := Ground.phase }], guard := none }) (v := ?_) rfl (by kernel_rfl) (by kernel_rfl) (by kernel_rfl) (fun _ _ _ h => h) rfl (by kernel_rfl) (by kernel_rfl) (by kernel_rfl) (Or.inl ⟨by rfl, ?_⟩) hHeld (fun hHeld => ?_)
      rotate_left
      · intro w hSw
        (try dsimp only at hSw)
        go_simp
        try with_reducible rfl
      try simp only [Act.put, List.setIfInBounds_toArray, List.set_cons_zero, List.set_cons_succ]
      refine wpAnyL_take 0 _ _ (i := 15) (oi := { dst := some 67, op := Op.fieldAddr 30 (Operand.tmp 66) 1, type := 0, pos := "ref.go:105", after := #[{ on := 14, ground := Ground.data }, { on := 0, ground := Ground.phase }, { on := 1, ground := Ground.phase }, { on := 2, ground := Ground.phase }, { on := 3, ground := Ground.phase }, { on := 4, ground := Ground.phase }, { on := 5, ground := Ground.phase }, { on := 6, ground := Ground.phase }, { on := 7, ground := Ground.phase }, { on := 8, ground := Ground.phase }, { on := 9, ground := Ground.phase }, { on := 10, ground := Ground.phase }, { on := 11, ground := Ground.phase }, { on := 12, ground := Ground.phase }, { on := 13, ground := Ground.phase }], guard := none }) (v := ?_) rfl (by kernel_rfl) (by kernel_rfl) (by kernel_rfl) (fun _ _ _ h => h) rfl (by kernel_rfl) (by kernel_rfl) (by kernel_rfl) (Or.inl ⟨by rfl, ?_⟩) hHeld (fun hHeld => ?_)
      rotate_left
      · intro w hSw
        (try dsimp only at hSw)
        go_simp
        try with_reducible rfl
      try simp only [Act.put, List.setIfInBounds_toArray, List.set_cons_zero, List.set_cons_succ]
      have u0 : (w8.setCell ⟨r, 1, none⟩ (.slice p8 (es.length + 1) c8)).cell? ⟨bb, 0, none⟩ = some (.string N) := by rw [World.cell?_setCell_other _ _ _ _ (by intro e; cases e <;> exact hrb rfl)]; exact bx0
      have u1 : (w8.setCell ⟨r, 1, none⟩ (.slice p8 (es.length + 1) c8)).cell? ⟨bb, 1, none⟩ = some (.slice P k C) := by rw [World.cell?_setCell_other _ _ _ _ (by intro e; cases e <;> exact hrb rfl)]; exact bx1
      have u2 : (w8.setCell ⟨r, 1, none⟩ (.slice p8 (es.length + 1) c8)).cell? ⟨bb, 2, none⟩ = some (.int .i64 R) := by rw [World.cell?_setCell_other _ _ _ _ (by intro e; cases e <;> exact hrb rfl)]; exact bx2
      have u3 : (w8.setCell ⟨r, 1, none⟩ (.slice p8 (es.length + 1) c8)).cell? ⟨bb, 3, none⟩ = some (.bool D) := by rw [World.cell?_setCell_other _ _ _ _ (by intro e; cases e <;> exact hrb rfl)]; exact bx3
      refine wpAnyL_ready (rs := [16]) (by kernel_rfl) (by simp) ?_
      refine AllReadyL.cons (o := { dst := none, op := Op.store 28 (Operand.tmp 67) (Operand.tmp 65), type := 0, pos := "ref.go:105", after := #[{ on := 15, ground := Ground.data }, { on := 13, ground := Ground.data }, { on := 13, ground := Ground.chain }, { on := 0, ground := Ground.phase }, { on := 1, ground := Ground.phase }, { on := 2, ground := Ground.phase }, { on := 3, ground := Ground.phase }, { on := 4, ground := Ground.phase }, { on := 5, ground := Ground.phase }, { on := 6, ground := Ground.phase }, { on := 7, ground := Ground.phase }, { on := 8, ground := Ground.phase }, { on := 9, ground := Ground.phase }, { on := 10, ground := Ground.phase }, { on := 11, ground := Ground.phase }, { on := 12, ground := Ground.phase }, { on := 13, ground := Ground.phase }], guard := none }) rfl (fun K hK => ?_) AllReadyL.nil
      go_simp
      refine hK.out _ _ (SL.cons (fun _ => trivial) (SL.cons (fun h => absurd h (by decide +kernel)) (SL.cons (fun _ => ⟨u0, u1, u2, u3⟩) (SL.cons (fun _ => by rw [World.cell?_setCell_other _ _ _ _ (by intro e; cases e)]; exact y3) SL.nil)))) (fun hHeld => ?_)
      clear hK K
      try simp only [Act.put, List.setIfInBounds_toArray, List.set_cons_zero, List.set_cons_succ]
      refine wpAnyL_done (by kernel_rfl) ?_ _
      have x9 : (w8.setCell ⟨r, 1, none⟩ (.slice p8 (es.length + 1) c8)).cell? ⟨r, 1, none⟩ = some (.slice p8 (es.length + 1) c8) := World.cell?_setCell_same _ _ _ x8
      generalize w8.setCell ⟨r, 1, none⟩ (.slice p8 (es.length + 1) c8) = w9 at *
      clear x8 f8 hHeld y3 u0 u1 u2 u3 bx0 bx1 bx2 bx3
      go_wp2_with fail
      go_ret2
      exact ⟨K8, _, _, rfl, HT8.out, HR8.out, HS8.out⟩
end Go.Proofs.Ytkjmmdffelhkiaa
