/- SortsScopes: its walk. -/
import Derived.Test.YtkjmmdffelhkiaaS27
namespace Go.Proofs.Ytkjmmdffelhkiaa
open Go Go.RowKit Go.Maps

set_option maxRecDepth 100000 in
set_option maxHeartbeats 16000000 in
theorem scopes_any (p1 : Option Addr) (n1 z1 : Nat) (d1 : OD) (p2 : Option Addr) (n2 z2 : Nat) (d2 : OD) (W : World) (h1 : OpsIn W p1 n1 d1) (hn1 : n1 ≤ 9223372036854775807) (h2 : OpsIn W p2 n2 d2) (hn2 : n2 ≤ 9223372036854775807) :
    Calls Try.prog 3 #[.slice p1 n1 z1, .slice p2 n2 z2] W fun e w' => e = .returned (.bool true) ∧ Below W.heap.size W w' := by
  have HA := tame_any p1 n1 z1 d1 60 W h1 hn1 (by omega) (by omega)
  have HB := tame_any p2 n2 z2 d2 60 W h2 hn2 (by omega) (by omega)
  have H1 := Lib.hid h1
  have H2 := Lib.hid h2
  clear h1 h2
  go_enter Try.func3, Try.ntmps3
  go_wp2_with fail
  refine HA.mono ?_
  rintro e w1 ⟨b, rfl, hw, ht1⟩
  obtain rfl := hw.symm
  clear HA
  cases b
  · clear ht1 HB
    go_wp2_with fail
    refine (known_any _).mono ?_
    rintro e w2 ⟨rfl, hb⟩
    go_wp2_with fail
    go_ret
    exact ⟨rfl, hb⟩
  have HM1 := Lib.hid (ht1 rfl)
  clear ht1
  go_wp2_with fail
  refine HB.mono ?_
  rintro e w1 ⟨b, rfl, hw, ht2⟩
  obtain rfl := hw.symm
  clear HB
  cases b
  · clear ht2
    go_wp2_with fail
    refine (known_any _).mono ?_
    rintro e w2 ⟨rfl, hb⟩
    go_wp2_with fail
    go_ret
    exact ⟨rfl, hb⟩
  have HM2 := Lib.hid (ht2 rfl)
  have hn60 : n1 ≤ 60 := by have := HM1.out.1; omega
  have hm60 : n2 ≤ 60 := by have := HM2.out.1; omega
  clear ht2
  go_wp2_with fail
  refine (new_any _).mono ?_
  rintro e w2 ⟨c, K1, rfl, ht, hcc, hb1⟩
  obtain ⟨K2, hlr⟩ := ref_new ht good0 hb1
  have HR0 := Lib.hid hlr
  clear ht hb1 hcc hlr
  go_upto_region 5 with (fail)
  generalize w2.alloc (.cells #[.slice none 0 0, .slice none 0 0, .int .i64 0] 30) = w3 at *
  generalize w2.heap.size = r at *
  go_wp2_with fail
  go_loopw [7] (fun i wr => ∃ (k : Nat) (K : Nat → Nat) (T : Tab), k ≤ n1 ∧ i = .int .i64 k ∧ LR W wr K c r T) (fun i _ => n1 - (intOf i).toNat)
  case atStart => exact ⟨0, _, _, Nat.zero_le _, rfl, HR0.out⟩
  case round =>
    obtain ⟨k, K, T, hk, rfl, hr⟩ := hrel
    clear HR0
    by_cases hlt : k < n1
    · have hop := H1.out.later hr.b
      obtain ⟨b, off, rfl, ha⟩ := hop.at_ (by omega)
      obtain ⟨_, _, hZ, _, hN64, hR64, hV64⟩ := H1.out.args k hlt
      obtain ⟨hS, hL⟩ := HM1.out.2 k hlt
      have hI := Lib.hid (show ∀ w', Below W.heap.size W w' → IntsIn w' (d1.F k).P (d1.F k).L (d1.F k).V from fun w' hb => (H1.out.args k hlt).1.later hb)
      have c0 := ha.k k hlt
      have c1 := ha.nn k hlt
      have c2 := ha.s k hlt
      have c3 := ha.p k hlt
      have c4 := ha.r k hlt
      have c5 := ha.dd k hlt
      have hk0 : (0 : Int) ≤ (k : Int) := by omega
      have hk1 : (k : Int) < (n1 : Int) := by omega
      obtain ⟨x, hx⟩ : ∃ x, x = d1.F k := ⟨_, rfl⟩
      rw [← hx] at hZ hR64 hV64 hS hL hI c2 c3 c4 c5
      generalize d1.K k = kd at *
      generalize d1.N k = kn at *
      clear ha hop hx
      obtain ⟨N, P, L, C, V, R, D⟩ := x
      simp only at hI hZ hR64 hV64 hS hL c2 c3 c4 c5
      have HD := (do_any hr.tab hr.good hr.rf kd kn ⟨N, P, L, C, V, R, D⟩ hN64 (fun w' hb => hI.out w' (hr.b.trans hb)) (by simp only; omega) (by simp only; omega) hZ hR64 hV64).mono fun e w' h => h.below hr
      unfold opA at HD
      simp only at HD
      clear hr hI hZ hN64 hR64 hV64
      go_wp2_with fail
      refine HD.mono ?_
      rintro e w4 ⟨b4, K4, T4, rfl, hr4, _, _⟩
      have HR4 := Lib.hid hr4
      clear hr4 HD
      go_wp2_with fail
      go_roundw
      case rel => exact ⟨k + 1, _, _, by omega, by go_num, HR4.out⟩
      case measure => simp [intOf]; omega
    · obtain rfl : k = n1 := by omega
      obtain ⟨T0, hT0⟩ : ∃ T0, T0 = T := ⟨_, rfl⟩
      rw [← hT0] at hr
      clear hT0
      have HA := sorts_any hr.tab hr.good
      have HR1 := Lib.hid hr
      clear hr hlt hk
      go_wp2_with fail
      refine HA.mono ?_
      rintro e w4 ⟨v8, rfl, ho, hb⟩
      obtain ⟨p8, c8, rfl⟩ := own_shape ho
      have HA2 := funs_any (HR1.out.tab.later hb) HR1.out.good
      have HR8 := Lib.hid (And.intro (HR1.out.later hb) (row_fresh HR1.out.tab ho))
      clear ho hb HA
      go_wp2_with fail
      refine HA2.mono ?_
      rintro e w5 ⟨v9, rfl, ho, hb⟩
      obtain ⟨p9, c9, rfl⟩ := own_shape ho
      have HS := Lib.hid (show LS W w5 K c r T0 T0 _ _ from ⟨HR8.out.1.later hb, row_step HR8.out.2 (StepX.below hb), row_fresh HR8.out.1.tab ho⟩)
      clear ho hb HA2
      have HA3 := level_any HS.out.lr.tab
      go_wp2_with fail
      refine HA3.mono ?_
      rintro e w6 ⟨rfl, hw⟩
      obtain rfl := hw.symm
      have HA4 := push_any HS.out.lr.tab HS.out.lr.good
      clear HA3 hw
      go_wp2_with fail
      refine HA4.mono ?_
      rintro e w7 ⟨K7, T7, er, rfl, ht, hg, hst, hp⟩
      clear HA4
      rcases hp with ⟨her, hT, h200⟩ | ⟨rfl, h200, hT⟩
      · have q1 : (er != 0) = true := by simpa using her
        have q2 : ((T0.scopes.length : Int) == 200) = true := by have := HS.out.lr.good.b3; rw [beq_iff_eq]; omega
        have HB := Lib.hid (HS.out.lr.b.trans (hst.toBelow HS.out.lr.tab))
        clear ht hg hst hT her
        go_wp2_with fail
        refine (known_any _).mono ?_
        rintro e w8 ⟨rfl, hb⟩
        have HB2 := Lib.hid (HB.out.trans (hb.mono HB.out.size))
        clear hb
        go_wp2_with fail
        go_ret
        exact ⟨rfl, HB2.out⟩
      have HS7 := Lib.hid (HS.out.step (HS.out.lr.stepT ht hg hst) hst.x)
      have HU7 := Lib.hid (show Under T0 T7 by rw [hT]; exact Under.start T0)
      have hb30 : T0.scopes.length ≤ 200 := HS.out.lr.good.b3
      clear ht hg hst hT
      go_wp2_with fail
      go_loopw [11] (fun i wr => ∃ (k : Nat) (K : Nat → Nat) (T : Tab), k ≤ n2 ∧ i = .int .i64 k ∧ LS W wr K c r T0 T (.slice p8 T0.sorts.length c8) (.slice p9 T0.funs.length c9) ∧ Under T0 T) (fun i _ => n2 - (intOf i).toNat)
      case atStart => exact ⟨0, _, _, Nat.zero_le _, rfl, HS7.out, HU7.out⟩
      case round =>
        obtain ⟨k, K, T, hk, rfl, hs, hu⟩ := hrel
        clear HS7 HU7
        by_cases hlt : k < n2
        · have hr := hs.lr
          have hop := H2.out.later hr.b
          obtain ⟨b, off, rfl, ha⟩ := hop.at_ (by omega)
          obtain ⟨_, _, hZ, _, hN64, hR64, hV64⟩ := H2.out.args k hlt
          obtain ⟨hS, hL⟩ := HM2.out.2 k hlt
          have hI := Lib.hid (show ∀ w', Below W.heap.size W w' → IntsIn w' (d2.F k).P (d2.F k).L (d2.F k).V from fun w' hb => (H2.out.args k hlt).1.later hb)
          have c0 := ha.k k hlt
          have c1 := ha.nn k hlt
          have c2 := ha.s k hlt
          have c3 := ha.p k hlt
          have c4 := ha.r k hlt
          have c5 := ha.dd k hlt
          have hk0 : (0 : Int) ≤ (k : Int) := by omega
          have hk1 : (k : Int) < (n2 : Int) := by omega
          obtain ⟨x, hx⟩ : ∃ x, x = d2.F k := ⟨_, rfl⟩
          rw [← hx] at hZ hR64 hV64 hS hL hI c2 c3 c4 c5
          generalize d2.K k = kd at *
          generalize d2.N k = kn at *
          clear ha hop hx
          obtain ⟨N, P, L, C, V, R, D⟩ := x
          simp only at hI hZ hR64 hV64 hS hL c2 c3 c4 c5
          have hb3 := hr.good.b3
          have hD := (Below.refl wr.heap.size wr).drew
          replace c0 := cell_later hD c0
          replace c1 := cell_later hD c1
          have c2' := cell_later hD c2
          have c3' := cell_later hD c3
          have c4' := cell_later hD c4
          have c5' := cell_later hD c5
          have hs' := hs.later hD
          have HI := Lib.hid (show ∀ w', Below W.heap.size W w' → IntsIn w' P L V from fun w' hb => hI.out w' hb)
          have HS := Lib.hid hs'
          have HU := Lib.hid hu
          have HZ := Lib.hid hZ
          have HN64 := Lib.hid hN64
          have HR64 := Lib.hid hR64
          have HV64 := Lib.hid hV64
          clear hs hs' hu hr hI hZ hN64 hR64 hV64 hD c2 c3 c4 c5
          go_wp2_with fail
          by_cases hkd : kd = 3
          · subst hkd
            have hlen : T0.scopes.length < T.scopes.length := (List.getElem?_eq_some_iff.1 HU.out.sl).1
            have e1 : IntKind.i64.wrap ((T.scopes.length : Int) - (T0.scopes.length : Int)) = (T.scopes.length : Int) - (T0.scopes.length : Int) := by rw [IntKind.wrap_i64]; omega
            have e2 : IntKind.i64.wrap ((T.scopes.length : Int) - (T0.scopes.length : Int) - 1) = (T.scopes.length : Int) - (T0.scopes.length : Int) - 1 := by rw [IntKind.wrap_i64]; omega
            by_cases hle : kn ≤ (T.scopes.length : Int) - (T0.scopes.length : Int) - 1
            · refine wp_region_L [(1000, (fun _ => True : World → Prop)), (1000, (fun w => w.cell? ⟨b, off + k * 6, none⟩ = some (.int .i64 3) : World → Prop)), (1000, (fun w => w.cell? ⟨b, off + k * 6 + 1, none⟩ = some (.int .i64 kn) : World → Prop))] (by kernel_rfl) (SL.cons (fun _ => trivial) (SL.cons (fun _ => c0) (SL.cons (fun _ => c1) SL.nil))) (fun hHeld => ?_)
              generalize wr.drew = w8 at *
              refine wpAnyL_take 0 _ _ (i := 0) (oi := { dst := some 69, op := Op.move (Operand.tmp 1), type := 22, pos := "law.go:135", after := #[], guard := none }) (v := ?_) rfl (by kernel_rfl) (by kernel_rfl) (by kernel_rfl) (fun _ _ _ h => h) rfl (by kernel_rfl) (by kernel_rfl) (by kernel_rfl) (Or.inl ⟨by rfl, ?_⟩) hHeld (fun hHeld => ?_)
              rotate_left
              · intro w hSw
                (try dsimp only at hSw)
                go_simp
                try with_reducible rfl
              try simp only [Act.put, List.setIfInBounds_toArray, List.set_cons_zero, List.set_cons_succ]
              refine wpAnyL_take 0 _ _ (i := 1) (oi := { dst := some 70, op := Op.move (Operand.tmp 11), type := 3, pos := "law.go:135", after := #[], guard := none }) (v := ?_) rfl (by kernel_rfl) (by kernel_rfl) (by kernel_rfl) (fun _ _ _ h => h) rfl (by kernel_rfl) (by kernel_rfl) (by kernel_rfl) (Or.inl ⟨by rfl, ?_⟩) hHeld (fun hHeld => ?_)
              rotate_left
              · intro w hSw
                (try dsimp only at hSw)
                go_simp
                try with_reducible rfl
              try simp only [Act.put, List.setIfInBounds_toArray, List.set_cons_zero, List.set_cons_succ]
              refine wpAnyL_take 0 _ _ (i := 2) (oi := { dst := some 71, op := Op.indexAddr 22 (Operand.tmp 69) (Operand.tmp 70), type := 0, pos := "law.go:135", after := #[{ on := 0, ground := Ground.data }, { on := 1, ground := Ground.data }], guard := none }) (v := ?_) rfl (by kernel_rfl) (by kernel_rfl) (by kernel_rfl) (fun _ _ _ h => h) rfl (by kernel_rfl) (by kernel_rfl) (by kernel_rfl) (Or.inl ⟨by rfl, ?_⟩) hHeld (fun hHeld => ?_)
              rotate_left
              · intro w hSw
                (try dsimp only at hSw)
                go_simp
                try with_reducible rfl
              try simp only [Act.put, List.setIfInBounds_toArray, List.set_cons_zero, List.set_cons_succ]
              refine wpAnyL_take 0 _ _ (i := 3) (oi := { dst := some 72, op := Op.fieldAddr 37 (Operand.tmp 71) 0, type := 0, pos := "law.go:135", after := #[{ on := 2, ground := Ground.data }], guard := none }) (v := ?_) rfl (by kernel_rfl) (by kernel_rfl) (by kernel_rfl) (fun _ _ _ h => h) rfl (by kernel_rfl) (by kernel_rfl) (by kernel_rfl) (Or.inl ⟨by rfl, ?_⟩) hHeld (fun hHeld => ?_)
              rotate_left
              · intro w hSw
                (try dsimp only at hSw)
                go_simp
                try with_reducible rfl
              try simp only [Act.put, List.setIfInBounds_toArray, List.set_cons_zero, List.set_cons_succ]
              refine wpAnyL_take 1 _ _ (i := 4) (oi := { dst := some 73, op := Op.load 3 (Operand.tmp 72), type := 3, pos := "law.go:135", after := #[{ on := 3, ground := Ground.data }], guard := none }) (v := ?_) rfl (by kernel_rfl) (by kernel_rfl) (by kernel_rfl) (fun _ _ _ h => h) rfl (by kernel_rfl) (by kernel_rfl) (by kernel_rfl) (Or.inl ⟨by rfl, ?_⟩) hHeld (fun hHeld => ?_)
              rotate_left
              · intro w hSw
                (try dsimp only at hSw)
                go_simp
                try with_reducible rfl
              try simp only [Act.put, List.setIfInBounds_toArray, List.set_cons_zero, List.set_cons_succ]
              refine wpAnyL_take 0 _ _ (i := 5) (oi := { dst := some 74, op := Op.binOp BinOp.neq 3 (Operand.tmp 73) (Operand.const (Value.int IntKind.i64 3)) 3, type := 4, pos := "law.go:135", after := #[{ on := 4, ground := Ground.data }], guard := none }) (v := ?_) rfl (by kernel_rfl) (by kernel_rfl) (by kernel_rfl) (fun _ _ _ h => h) rfl (by kernel_rfl) (by kernel_rfl) (by kernel_rfl) (Or.inl ⟨by rfl, ?_⟩) hHeld (fun hHeld => ?_)
              rotate_left
              · intro w hSw
                (try dsimp only at hSw)
                go_simp
                try with_reducible rfl
              try simp only [Act.put, List.setIfInBounds_toArray, List.set_cons_zero, List.set_cons_succ]
              refine wpAnyL_take 0 _ _ (i := 6) (oi := { dst := some 75, op := Op.move (Operand.tmp 74), type := 4, pos := "law.go:135", after := #[{ on := 5, ground := Ground.data }], guard := none }) (v := ?_) rfl (by kernel_rfl) (by kernel_rfl) (by kernel_rfl) (fun _ _ _ h => h) rfl (by kernel_rfl) (by kernel_rfl) (by kernel_rfl) (Or.inl ⟨by rfl, ?_⟩) hHeld (fun hHeld => ?_)
              rotate_left
              · intro w hSw
                (try dsimp only at hSw)
                go_simp
                try with_reducible rfl
              try simp only [Act.put, List.setIfInBounds_toArray, List.set_cons_zero, List.set_cons_succ]
              refine wpAnyL_take 0 _ _ (i := 7) (oi := { dst := some 76, op := Op.move (Operand.tmp 1), type := 22, pos := "law.go:135", after := #[{ on := 6, ground := Ground.guard }], guard := some (6, false) }) (v := ?_) rfl (by kernel_rfl) (by kernel_rfl) (by kernel_rfl) (fun _ _ _ h => h) rfl (by kernel_rfl) (by kernel_rfl) (by kernel_rfl) (Or.inl ⟨by rfl, ?_⟩) hHeld (fun hHeld => ?_)
              rotate_left
              · intro w hSw
                (try dsimp only at hSw)
                go_simp
                try with_reducible rfl
              try simp only [Act.put, List.setIfInBounds_toArray, List.set_cons_zero, List.set_cons_succ]
              refine wpAnyL_take 0 _ _ (i := 8) (oi := { dst := some 77, op := Op.move (Operand.tmp 11), type := 3, pos := "law.go:135", after := #[{ on := 6, ground := Ground.guard }], guard := some (6, false) }) (v := ?_) rfl (by kernel_rfl) (by kernel_rfl) (by kernel_rfl) (fun _ _ _ h => h) rfl (by kernel_rfl) (by kernel_rfl) (by kernel_rfl) (Or.inl ⟨by rfl, ?_⟩) hHeld (fun hHeld => ?_)
              rotate_left
              · intro w hSw
                (try dsimp only at hSw)
                go_simp
                try with_reducible rfl
              try simp only [Act.put, List.setIfInBounds_toArray, List.set_cons_zero, List.set_cons_succ]
              refine wpAnyL_take 0 _ _ (i := 9) (oi := { dst := some 78, op := Op.indexAddr 22 (Operand.tmp 76) (Operand.tmp 77), type := 0, pos := "law.go:135", after := #[{ on := 7, ground := Ground.data }, { on := 8, ground := Ground.data }, { on := 6, ground := Ground.guard }], guard := some (6, false) }) (v := ?_) rfl (by kernel_rfl) (by kernel_rfl) (by kernel_rfl) (fun _ _ _ h => h) rfl (by kernel_rfl) (by kernel_rfl) (by kernel_rfl) (Or.inl ⟨by rfl, ?_⟩) hHeld (fun hHeld => ?_)
              rotate_left
              · intro w hSw
                (try dsimp only at hSw)
                go_simp
                try with_reducible rfl
              try simp only [Act.put, List.setIfInBounds_toArray, List.set_cons_zero, List.set_cons_succ]
              refine wpAnyL_take 0 _ _ (i := 10) (oi := { dst := some 79, op := Op.fieldAddr 37 (Operand.tmp 78) 1, type := 0, pos := "law.go:135", after := #[{ on := 9, ground := Ground.data }, { on := 6, ground := Ground.guard }], guard := some (6, false) }) (v := ?_) rfl (by kernel_rfl) (by kernel_rfl) (by kernel_rfl) (fun _ _ _ h => h) rfl (by kernel_rfl) (by kernel_rfl) (by kernel_rfl) (Or.inl ⟨by rfl, ?_⟩) hHeld (fun hHeld => ?_)
              rotate_left
              · intro w hSw
                (try dsimp only at hSw)
                go_simp
                try with_reducible rfl
              try simp only [Act.put, List.setIfInBounds_toArray, List.set_cons_zero, List.set_cons_succ]
              refine wpAnyL_take 2 _ _ (i := 11) (oi := { dst := some 80, op := Op.load 3 (Operand.tmp 79), type := 3, pos := "law.go:135", after := #[{ on := 10, ground := Ground.data }, { on := 6, ground := Ground.guard }], guard := some (6, false) }) (v := ?_) rfl (by kernel_rfl) (by kernel_rfl) (by kernel_rfl) (fun _ _ _ h => h) rfl (by kernel_rfl) (by kernel_rfl) (by kernel_rfl) (Or.inl ⟨by rfl, ?_⟩) hHeld (fun hHeld => ?_)
              rotate_left
              · intro w hSw
                (try dsimp only at hSw)
                go_simp
                try with_reducible rfl
              try simp only [Act.put, List.setIfInBounds_toArray, List.set_cons_zero, List.set_cons_succ]
              refine wpAnyL_take 0 _ _ (i := 12) (oi := { dst := some 81, op := Op.move (Operand.tmp 5), type := 25, pos := "law.go:135", after := #[{ on := 6, ground := Ground.guard }], guard := some (6, false) }) (v := ?_) rfl (by kernel_rfl) (by kernel_rfl) (by kernel_rfl) (fun _ _ _ h => h) rfl (by kernel_rfl) (by kernel_rfl) (by kernel_rfl) (Or.inl ⟨by rfl, ?_⟩) hHeld (fun hHeld => ?_)
              rotate_left
              · intro w hSw
                (try dsimp only at hSw)
                go_simp
                try with_reducible rfl
              try simp only [Act.put, List.setIfInBounds_toArray, List.set_cons_zero, List.set_cons_succ]
              refine wpAnyL_take 0 _ _ (i := 14) (oi := { dst := some 83, op := Op.move (Operand.tmp 10), type := 3, pos := "law.go:135", after := #[{ on := 6, ground := Ground.guard }], guard := some (6, false) }) (v := ?_) rfl (by kernel_rfl) (by kernel_rfl) (by kernel_rfl) (fun _ _ _ h => h) rfl (by kernel_rfl) (by kernel_rfl) (by kernel_rfl) (Or.inl ⟨by rfl, ?_⟩) hHeld (fun hHeld => ?_)
              rotate_left
              · intro w hSw
                (try dsimp only at hSw)
                go_simp
                try with_reducible rfl
              try simp only [Act.put, List.setIfInBounds_toArray, List.set_cons_zero, List.set_cons_succ]
              have HL := level_any HS.out.lr.tab
              refine wpAnyL_ready (rs := [13]) (by kernel_rfl) (by simp) ?_
              refine AllReadyL.cons (o := { dst := some 82, op := Op.call { callee := Callee.value (Operand.func 18), args := #[Operand.tmp 81], argTypes := #[25] }, type := 3, pos := "law.go:135", after := #[{ on := 12, ground := Ground.data }, { on := 6, ground := Ground.chain }, { on := 6, ground := Ground.guard }], guard := some (6, false) }) rfl (fun KK hK => ?_) AllReadyL.nil
              go_simp
              go_at_call 18
              refine HL.mono ?_
              rintro e w9 ⟨rfl, hw⟩
              obtain rfl := hw.symm
              clear HL
              refine hK.out _ _ (SL.cons (fun _ => trivial) (SL.cons (fun _ => c0) (SL.cons (fun _ => c1) SL.nil))) (fun hHeld => ?_)
              clear hK KK
              try simp only [Act.put, List.setIfInBounds_toArray, List.set_cons_zero, List.set_cons_succ]
              refine wpAnyL_take 0 _ _ (i := 15) (oi := { dst := some 84, op := Op.binOp BinOp.sub 3 (Operand.tmp 82) (Operand.tmp 83) 3, type := 3, pos := "law.go:135", after := #[{ on := 13, ground := Ground.data }, { on := 14, ground := Ground.data }, { on := 6, ground := Ground.guard }], guard := some (6, false) }) (v := ?_) rfl (by kernel_rfl) (by kernel_rfl) (by kernel_rfl) (fun _ _ _ h => h) rfl (by kernel_rfl) (by kernel_rfl) (by kernel_rfl) (Or.inl ⟨by rfl, ?_⟩) hHeld (fun hHeld => ?_)
              rotate_left
              · intro w hSw
                (try dsimp only at hSw)
                go_simp
                try with_reducible rfl
              try simp only [Act.put, List.setIfInBounds_toArray, List.set_cons_zero, List.set_cons_succ]
              refine wpAnyL_take 0 _ _ (i := 16) (oi := { dst := some 85, op := Op.binOp BinOp.sub 3 (Operand.tmp 84) (Operand.const (Value.int IntKind.i64 1)) 3, type := 3, pos := "law.go:135", after := #[{ on := 15, ground := Ground.data }, { on := 6, ground := Ground.guard }], guard := some (6, false) }) (v := ?_) rfl (by kernel_rfl) (by kernel_rfl) (by kernel_rfl) (fun _ _ _ h => h) rfl (by kernel_rfl) (by kernel_rfl) (by kernel_rfl) (Or.inl ⟨by rfl, ?_⟩) hHeld (fun hHeld => ?_)
              rotate_left
              · intro w hSw
                (try dsimp only at hSw)
                go_simp
                try with_reducible rfl
              try simp only [Act.put, List.setIfInBounds_toArray, List.set_cons_zero, List.set_cons_succ]
              refine wpAnyL_take 0 _ _ (i := 17) (oi := { dst := some 86, op := Op.binOp BinOp.leq 3 (Operand.tmp 80) (Operand.tmp 85) 3, type := 4, pos := "law.go:135", after := #[{ on := 11, ground := Ground.data }, { on := 16, ground := Ground.data }, { on := 6, ground := Ground.guard }], guard := some (6, false) }) (v := ?_) rfl (by kernel_rfl) (by kernel_rfl) (by kernel_rfl) (fun _ _ _ h => h) rfl (by kernel_rfl) (by kernel_rfl) (by kernel_rfl) (Or.inl ⟨by rfl, ?_⟩) hHeld (fun hHeld => ?_)
              rotate_left
              · intro w hSw
                (try dsimp only at hSw)
                go_simp
                try with_reducible rfl
              try simp only [Act.put, List.setIfInBounds_toArray, List.set_cons_zero, List.set_cons_succ]
              refine wpAnyL_take 0 _ _ (i := 18) (oi := { dst := some 87, op := Op.pick (Operand.tmp 75) (Operand.const (Value.bool true)) (Operand.tmp 86), type := 4, pos := "law.go:135", after := #[{ on := 6, ground := Ground.data }, { on := 17, ground := Ground.data }], guard := none }) (v := ?_) rfl (by kernel_rfl) (by kernel_rfl) (by kernel_rfl) (fun _ _ _ h => h) rfl (by kernel_rfl) (by kernel_rfl) (by kernel_rfl) (Or.inl ⟨by rfl, ?_⟩) hHeld (fun hHeld => ?_)
              rotate_left
              · intro w hSw
                (try dsimp only at hSw)
                go_simp
                try with_reducible rfl
              try simp only [Act.put, List.setIfInBounds_toArray, List.set_cons_zero, List.set_cons_succ]
              refine wpAnyL_done (by kernel_rfl) ?_ _
              clear hHeld
              have HD := (do_any HS.out.lr.tab HS.out.lr.good HS.out.lr.rf 3 kn ⟨N, P, L, C, V, R, D⟩ HN64.out (fun w' hb => HI.out w' (HS.out.lr.b.trans hb)) (by simp only; omega) (by simp only; omega) HZ.out HR64.out HV64.out).mono fun e w' h => h.below HS.out.lr
              unfold opA at HD
              simp only at HD
              go_wp2_with fail
              refine HD.mono ?_
              rintro e w9 ⟨b9, K9, T9, rfl, hl9, hx9, hrel9⟩
              have HS9 := Lib.hid (HS.out.step hl9 hx9)
              have HU9 := Lib.hid (HU.out.rel HS.out.lr.good hrel9 (fun _ => hle))
              clear HD hl9 hx9 hrel9
              go_wp2_with fail
              go_roundw
              case rel => exact ⟨k + 1, _, _, by omega, by go_num, HS9.out, HU9.out⟩
              case measure => simp [intOf]; omega
            · refine wp_region_L [(1000, (fun _ => True : World → Prop)), (1000, (fun w => w.cell? ⟨b, off + k * 6, none⟩ = some (.int .i64 3) : World → Prop)), (1000, (fun w => w.cell? ⟨b, off + k * 6 + 1, none⟩ = some (.int .i64 kn) : World → Prop))] (by kernel_rfl) (SL.cons (fun _ => trivial) (SL.cons (fun _ => c0) (SL.cons (fun _ => c1) SL.nil))) (fun hHeld => ?_)
              generalize wr.drew = w8 at *
              refine wpAnyL_take 0 _ _ (i := 0) (oi := { dst := some 69, op := Op.move (Operand.tmp 1), type := 22, pos := "law.go:135", after := #[], guard := none }) (v := ?_) rfl (by kernel_rfl) (by kernel_rfl) (by kernel_rfl) (fun _ _ _ h => h) rfl (by kernel_rfl) (by kernel_rfl) (by kernel_rfl) (Or.inl ⟨by rfl, ?_⟩) hHeld (fun hHeld => ?_)
              rotate_left
              · intro w hSw
                (try dsimp only at hSw)
                go_simp
                try with_reducible rfl
              try simp only [Act.put, List.setIfInBounds_toArray, List.set_cons_zero, List.set_cons_succ]
              refine wpAnyL_take 0 _ _ (i := 1) (oi := { dst := some 70, op := Op.move (Operand.tmp 11), type := 3, pos := "law.go:135", after := #[], guard := none }) (v := ?_) rfl (by kernel_rfl) (by kernel_rfl) (by kernel_rfl) (fun _ _ _ h => h) rfl (by kernel_rfl) (by kernel_rfl) (by kernel_rfl) (Or.inl ⟨by rfl, ?_⟩) hHeld (fun hHeld => ?_)
              rotate_left
              · intro w hSw
                (try dsimp only at hSw)
                go_simp
                try with_reducible rfl
              try simp only [Act.put, List.setIfInBounds_toArray, List.set_cons_zero, List.set_cons_succ]
              refine wpAnyL_take 0 _ _ (i := 2) (oi := { dst := some 71, op := Op.indexAddr 22 (Operand.tmp 69) (Operand.tmp 70), type := 0, pos := "law.go:135", after := #[{ on := 0, ground := Ground.data }, { on := 1, ground := Ground.data }], guard := none }) (v := ?_) rfl (by kernel_rfl) (by kernel_rfl) (by kernel_rfl) (fun _ _ _ h => h) rfl (by kernel_rfl) (by kernel_rfl) (by kernel_rfl) (Or.inl ⟨by rfl, ?_⟩) hHeld (fun hHeld => ?_)
              rotate_left
              · intro w hSw
                (try dsimp only at hSw)
                go_simp
                try with_reducible rfl
              try simp only [Act.put, List.setIfInBounds_toArray, List.set_cons_zero, List.set_cons_succ]
              refine wpAnyL_take 0 _ _ (i := 3) (oi := { dst := some 72, op := Op.fieldAddr 37 (Operand.tmp 71) 0, type := 0, pos := "law.go:135", after := #[{ on := 2, ground := Ground.data }], guard := none }) (v := ?_) rfl (by kernel_rfl) (by kernel_rfl) (by kernel_rfl) (fun _ _ _ h => h) rfl (by kernel_rfl) (by kernel_rfl) (by kernel_rfl) (Or.inl ⟨by rfl, ?_⟩) hHeld (fun hHeld => ?_)
              rotate_left
              · intro w hSw
                (try dsimp only at hSw)
                go_simp
                try with_reducible rfl
              try simp only [Act.put, List.setIfInBounds_toArray, List.set_cons_zero, List.set_cons_succ]
              refine wpAnyL_take 1 _ _ (i := 4) (oi := { dst := some 73, op := Op.load 3 (Operand.tmp 72), type := 3, pos := "law.go:135", after := #[{ on := 3, ground := Ground.data }], guard := none }) (v := ?_) rfl (by kernel_rfl) (by kernel_rfl) (by kernel_rfl) (fun _ _ _ h => h) rfl (by kernel_rfl) (by kernel_rfl) (by kernel_rfl) (Or.inl ⟨by rfl, ?_⟩) hHeld (fun hHeld => ?_)
              rotate_left
              · intro w hSw
                (try dsimp only at hSw)
                go_simp
                try with_reducible rfl
              try simp only [Act.put, List.setIfInBounds_toArray, List.set_cons_zero, List.set_cons_succ]
              refine wpAnyL_take 0 _ _ (i := 5) (oi := { dst := some 74, op := Op.binOp BinOp.neq 3 (Operand.tmp 73) (Operand.const (Value.int IntKind.i64 3)) 3, type := 4, pos := "law.go:135", after := #[{ on := 4, ground := Ground.data }], guard := none }) (v := ?_) rfl (by kernel_rfl) (by kernel_rfl) (by kernel_rfl) (fun _ _ _ h => h) rfl (by kernel_rfl) (by kernel_rfl) (by kernel_rfl) (Or.inl ⟨by rfl, ?_⟩) hHeld (fun hHeld => ?_)
              rotate_left
              · intro w hSw
                (try dsimp only at hSw)
                go_simp
                try with_reducible rfl
              try simp only [Act.put, List.setIfInBounds_toArray, List.set_cons_zero, List.set_cons_succ]
              refine wpAnyL_take 0 _ _ (i := 6) (oi := { dst := some 75, op := Op.move (Operand.tmp 74), type := 4, pos := "law.go:135", after := #[{ on := 5, ground := Ground.data }], guard := none }) (v := ?_) rfl (by kernel_rfl) (by kernel_rfl) (by kernel_rfl) (fun _ _ _ h => h) rfl (by kernel_rfl) (by kernel_rfl) (by kernel_rfl) (Or.inl ⟨by rfl, ?_⟩) hHeld (fun hHeld => ?_)
              rotate_left
              · intro w hSw
                (try dsimp only at hSw)
                go_simp
                try with_reducible rfl
              try simp only [Act.put, List.setIfInBounds_toArray, List.set_cons_zero, List.set_cons_succ]
              refine wpAnyL_take 0 _ _ (i := 7) (oi := { dst := some 76, op := Op.move (Operand.tmp 1), type := 22, pos := "law.go:135", after := #[{ on := 6, ground := Ground.guard }], guard := some (6, false) }) (v := ?_) rfl (by kernel_rfl) (by kernel_rfl) (by kernel_rfl) (fun _ _ _ h => h) rfl (by kernel_rfl) (by kernel_rfl) (by kernel_rfl) (Or.inl ⟨by rfl, ?_⟩) hHeld (fun hHeld => ?_)
              rotate_left
              · intro w hSw
                (try dsimp only at hSw)
                go_simp
                try with_reducible rfl
              try simp only [Act.put, List.setIfInBounds_toArray, List.set_cons_zero, List.set_cons_succ]
              refine wpAnyL_take 0 _ _ (i := 8) (oi := { dst := some 77, op := Op.move (Operand.tmp 11), type := 3, pos := "law.go:135", after := #[{ on := 6, ground := Ground.guard }], guard := some (6, false) }) (v := ?_) rfl (by kernel_rfl) (by kernel_rfl) (by kernel_rfl) (fun _ _ _ h => h) rfl (by kernel_rfl) (by kernel_rfl) (by kernel_rfl) (Or.inl ⟨by rfl, ?_⟩) hHeld (fun hHeld => ?_)
              rotate_left
              · intro w hSw
                (try dsimp only at hSw)
                go_simp
                try with_reducible rfl
              try simp only [Act.put, List.setIfInBounds_toArray, List.set_cons_zero, List.set_cons_succ]
              refine wpAnyL_take 0 _ _ (i := 9) (oi := { dst := some 78, op := Op.indexAddr 22 (Operand.tmp 76) (Operand.tmp 77), type := 0, pos := "law.go:135", after := #[{ on := 7, ground := Ground.data }, { on := 8, ground := Ground.data }, { on := 6, ground := Ground.guard }], guard := some (6, false) }) (v := ?_) rfl (by kernel_rfl) (by kernel_rfl) (by kernel_rfl) (fun _ _ _ h => h) rfl (by kernel_rfl) (by kernel_rfl) (by kernel_rfl) (Or.inl ⟨by rfl, ?_⟩) hHeld (fun hHeld => ?_)
              rotate_left
              · intro w hSw
                (try dsimp only at hSw)
                go_simp
                try with_reducible rfl
              try simp only [Act.put, List.setIfInBounds_toArray, List.set_cons_zero, List.set_cons_succ]
              refine wpAnyL_take 0 _ _ (i := 10) (oi := { dst := some 79, op := Op.fieldAddr 37 (Operand.tmp 78) 1, type := 0, pos := "law.go:135", after := #[{ on := 9, ground := Ground.data }, { on := 6, ground := Ground.guard }], guard := some (6, false) }) (v := ?_) rfl (by kernel_rfl) (by kernel_rfl) (by kernel_rfl) (fun _ _ _ h => h) rfl (by kernel_rfl) (by kernel_rfl) (by kernel_rfl) (Or.inl ⟨by rfl, ?_⟩) hHeld (fun hHeld => ?_)
              rotate_left
              · intro w hSw
                (try dsimp only at hSw)
                go_simp
                try with_reducible rfl
              try simp only [Act.put, List.setIfInBounds_toArray, List.set_cons_zero, List.set_cons_succ]
              refine wpAnyL_take 2 _ _ (i := 11) (oi := { dst := some 80, op := Op.load 3 (Operand.tmp 79), type := 3, pos := "law.go:135", after := #[{ on := 10, ground := Ground.data }, { on := 6, ground := Ground.guard }], guard := some (6, false) }) (v := ?_) rfl (by kernel_rfl) (by kernel_rfl) (by kernel_rfl) (fun _ _ _ h => h) rfl (by kernel_rfl) (by kernel_rfl) (by kernel_rfl) (Or.inl ⟨by rfl, ?_⟩) hHeld (fun hHeld => ?_)
              rotate_left
              · intro w hSw
                (try dsimp only at hSw)
                go_simp
                try with_reducible rfl
              try simp only [Act.put, List.setIfInBounds_toArray, List.set_cons_zero, List.set_cons_succ]
              refine wpAnyL_take 0 _ _ (i := 12) (oi := { dst := some 81, op := Op.move (Operand.tmp 5), type := 25, pos := "law.go:135", after := #[{ on := 6, ground := Ground.guard }], guard := some (6, false) }) (v := ?_) rfl (by kernel_rfl) (by kernel_rfl) (by kernel_rfl) (fun _ _ _ h => h) rfl (by kernel_rfl) (by kernel_rfl) (by kernel_rfl) (Or.inl ⟨by rfl, ?_⟩) hHeld (fun hHeld => ?_)
              rotate_left
              · intro w hSw
                (try dsimp only at hSw)
                go_simp
                try with_reducible rfl
              try simp only [Act.put, List.setIfInBounds_toArray, List.set_cons_zero, List.set_cons_succ]
              refine wpAnyL_take 0 _ _ (i := 14) (oi := { dst := some 83, op := Op.move (Operand.tmp 10), type := 3, pos := "law.go:135", after := #[{ on := 6, ground := Ground.guard }], guard := some (6, false) }) (v := ?_) rfl (by kernel_rfl) (by kernel_rfl) (by kernel_rfl) (fun _ _ _ h => h) rfl (by kernel_rfl) (by kernel_rfl) (by kernel_rfl) (Or.inl ⟨by rfl, ?_⟩) hHeld (fun hHeld => ?_)
              rotate_left
              · intro w hSw
                (try dsimp only at hSw)
                go_simp
                try with_reducible rfl
              try simp only [Act.put, List.setIfInBounds_toArray, List.set_cons_zero, List.set_cons_succ]
              have HL := level_any HS.out.lr.tab
              refine wpAnyL_ready (rs := [13]) (by kernel_rfl) (by simp) ?_
              refine AllReadyL.cons (o := { dst := some 82, op := Op.call { callee := Callee.value (Operand.func 18), args := #[Operand.tmp 81], argTypes := #[25] }, type := 3, pos := "law.go:135", after := #[{ on := 12, ground := Ground.data }, { on := 6, ground := Ground.chain }, { on := 6, ground := Ground.guard }], guard := some (6, false) }) rfl (fun KK hK => ?_) AllReadyL.nil
              go_simp
              go_at_call 18
              refine HL.mono ?_
              rintro e w9 ⟨rfl, hw⟩
              obtain rfl := hw.symm
              clear HL
              refine hK.out _ _ (SL.cons (fun _ => trivial) (SL.cons (fun _ => c0) (SL.cons (fun _ => c1) SL.nil))) (fun hHeld => ?_)
              clear hK KK
              try simp only [Act.put, List.setIfInBounds_toArray, List.set_cons_zero, List.set_cons_succ]
              refine wpAnyL_take 0 _ _ (i := 15) (oi := { dst := some 84, op := Op.binOp BinOp.sub 3 (Operand.tmp 82) (Operand.tmp 83) 3, type := 3, pos := "law.go:135", after := #[{ on := 13, ground := Ground.data }, { on := 14, ground := Ground.data }, { on := 6, ground := Ground.guard }], guard := some (6, false) }) (v := ?_) rfl (by kernel_rfl) (by kernel_rfl) (by kernel_rfl) (fun _ _ _ h => h) rfl (by kernel_rfl) (by kernel_rfl) (by kernel_rfl) (Or.inl ⟨by rfl, ?_⟩) hHeld (fun hHeld => ?_)
              rotate_left
              · intro w hSw
                (try dsimp only at hSw)
                go_simp
                try with_reducible rfl
              try simp only [Act.put, List.setIfInBounds_toArray, List.set_cons_zero, List.set_cons_succ]
              refine wpAnyL_take 0 _ _ (i := 16) (oi := { dst := some 85, op := Op.binOp BinOp.sub 3 (Operand.tmp 84) (Operand.const (Value.int IntKind.i64 1)) 3, type := 3, pos := "law.go:135", after := #[{ on := 15, ground := Ground.data }, { on := 6, ground := Ground.guard }], guard := some (6, false) }) (v := ?_) rfl (by kernel_rfl) (by kernel_rfl) (by kernel_rfl) (fun _ _ _ h => h) rfl (by kernel_rfl) (by kernel_rfl) (by kernel_rfl) (Or.inl ⟨by rfl, ?_⟩) hHeld (fun hHeld => ?_)
              rotate_left
              · intro w hSw
                (try dsimp only at hSw)
                go_simp
                try with_reducible rfl
              try simp only [Act.put, List.setIfInBounds_toArray, List.set_cons_zero, List.set_cons_succ]
              refine wpAnyL_take 0 _ _ (i := 17) (oi := { dst := some 86, op := Op.binOp BinOp.leq 3 (Operand.tmp 80) (Operand.tmp 85) 3, type := 4, pos := "law.go:135", after := #[{ on := 11, ground := Ground.data }, { on := 16, ground := Ground.data }, { on := 6, ground := Ground.guard }], guard := some (6, false) }) (v := ?_) rfl (by kernel_rfl) (by kernel_rfl) (by kernel_rfl) (fun _ _ _ h => h) rfl (by kernel_rfl) (by kernel_rfl) (by kernel_rfl) (Or.inl ⟨by rfl, ?_⟩) hHeld (fun hHeld => ?_)
              rotate_left
              · intro w hSw
                (try dsimp only at hSw)
                go_simp
                try with_reducible rfl
              try simp only [Act.put, List.setIfInBounds_toArray, List.set_cons_zero, List.set_cons_succ]
              refine wpAnyL_take 0 _ _ (i := 18) (oi := { dst := some 87, op := Op.pick (Operand.tmp 75) (Operand.const (Value.bool true)) (Operand.tmp 86), type := 4, pos := "law.go:135", after := #[{ on := 6, ground := Ground.data }, { on := 17, ground := Ground.data }], guard := none }) (v := ?_) rfl (by kernel_rfl) (by kernel_rfl) (by kernel_rfl) (fun _ _ _ h => h) rfl (by kernel_rfl) (by kernel_rfl) (by kernel_rfl) (Or.inl ⟨by rfl, ?_⟩) hHeld (fun hHeld => ?_)
              rotate_left
              · intro w hSw
                (try dsimp only at hSw)
                go_simp
                try with_reducible rfl
              try simp only [Act.put, List.setIfInBounds_toArray, List.set_cons_zero, List.set_cons_succ]
              refine wpAnyL_done (by kernel_rfl) ?_ _
              clear hHeld
              go_wp2_with fail
              go_roundw
              case rel => exact ⟨k + 1, _, _, by omega, by go_num, HS.out, HU.out⟩
              case measure => simp [intOf]; omega
          · have q3 : (kd != 3) = true := by simpa using hkd
            refine wp_region_L [(1000, (fun _ => True : World → Prop)), (1000, (fun w => w.cell? ⟨b, off + k * 6, none⟩ = some (.int .i64 kd) : World → Prop)), (1000, (fun w => w.cell? ⟨b, off + k * 6 + 1, none⟩ = some (.int .i64 kn) : World → Prop))] (by kernel_rfl) (SL.cons (fun _ => trivial) (SL.cons (fun _ => c0) (SL.cons (fun _ => c1) SL.nil))) (fun hHeld => ?_)
            generalize wr.drew = w8 at *
            refine wpAnyL_take 0 _ _ (i := 0) (oi := { dst := some 69, op := Op.move (Operand.tmp 1), type := 22, pos := "law.go:135", after := #[], guard := none }) (v := ?_) rfl (by kernel_rfl) (by kernel_rfl) (by kernel_rfl) (fun _ _ _ h => h) rfl (by kernel_rfl) (by kernel_rfl) (by kernel_rfl) (Or.inl ⟨by rfl, ?_⟩) hHeld (fun hHeld => ?_)
            rotate_left
            · intro w hSw
              (try dsimp only at hSw)
              go_simp
              try with_reducible rfl
            try simp only [Act.put, List.setIfInBounds_toArray, List.set_cons_zero, List.set_cons_succ]
            refine wpAnyL_take 0 _ _ (i := 1) (oi := { dst := some 70, op := Op.move (Operand.tmp 11), type := 3, pos := "law.go:135", after := #[], guard := none }) (v := ?_) rfl (by kernel_rfl) (by kernel_rfl) (by kernel_rfl) (fun _ _ _ h => h) rfl (by kernel_rfl) (by kernel_rfl) (by kernel_rfl) (Or.inl ⟨by rfl, ?_⟩) hHeld (fun hHeld => ?_)
            rotate_left
            · intro w hSw
              (try dsimp only at hSw)
              go_simp
              try with_reducible rfl
            try simp only [Act.put, List.setIfInBounds_toArray, List.set_cons_zero, List.set_cons_succ]
            refine wpAnyL_take 0 _ _ (i := 2) (oi := { dst := some 71, op := Op.indexAddr 22 (Operand.tmp 69) (Operand.tmp 70), type := 0, pos := "law.go:135", after := #[{ on := 0, ground := Ground.data }, { on := 1, ground := Ground.data }], guard := none }) (v := ?_) rfl (by kernel_rfl) (by kernel_rfl) (by kernel_rfl) (fun _ _ _ h => h) rfl (by kernel_rfl) (by kernel_rfl) (by kernel_rfl) (Or.inl ⟨by rfl, ?_⟩) hHeld (fun hHeld => ?_)
            rotate_left
            · intro w hSw
              (try dsimp only at hSw)
              go_simp
              try with_reducible rfl
            try simp only [Act.put, List.setIfInBounds_toArray, List.set_cons_zero, List.set_cons_succ]
            refine wpAnyL_take 0 _ _ (i := 3) (oi := { dst := some 72, op := Op.fieldAddr 37 (Operand.tmp 71) 0, type := 0, pos := "law.go:135", after := #[{ on := 2, ground := Ground.data }], guard := none }) (v := ?_) rfl (by kernel_rfl) (by kernel_rfl) (by kernel_rfl) (fun _ _ _ h => h) rfl (by kernel_rfl) (by kernel_rfl) (by kernel_rfl) (Or.inl ⟨by rfl, ?_⟩) hHeld (fun hHeld => ?_)
            rotate_left
            · intro w hSw
              (try dsimp only at hSw)
              go_simp
              try with_reducible rfl
            try simp only [Act.put, List.setIfInBounds_toArray, List.set_cons_zero, List.set_cons_succ]
            refine wpAnyL_take 1 _ _ (i := 4) (oi := { dst := some 73, op := Op.load 3 (Operand.tmp 72), type := 3, pos := "law.go:135", after := #[{ on := 3, ground := Ground.data }], guard := none }) (v := ?_) rfl (by kernel_rfl) (by kernel_rfl) (by kernel_rfl) (fun _ _ _ h => h) rfl (by kernel_rfl) (by kernel_rfl) (by kernel_rfl) (Or.inl ⟨by rfl, ?_⟩) hHeld (fun hHeld => ?_)
            rotate_left
            · intro w hSw
              (try dsimp only at hSw)
              go_simp
              try with_reducible rfl
            try simp only [Act.put, List.setIfInBounds_toArray, List.set_cons_zero, List.set_cons_succ]
            refine wpAnyL_take 0 _ _ (i := 5) (oi := { dst := some 74, op := Op.binOp BinOp.neq 3 (Operand.tmp 73) (Operand.const (Value.int IntKind.i64 3)) 3, type := 4, pos := "law.go:135", after := #[{ on := 4, ground := Ground.data }], guard := none }) (v := ?_) rfl (by kernel_rfl) (by kernel_rfl) (by kernel_rfl) (fun _ _ _ h => h) rfl (by kernel_rfl) (by kernel_rfl) (by kernel_rfl) (Or.inl ⟨by rfl, ?_⟩) hHeld (fun hHeld => ?_)
            rotate_left
            · intro w hSw
              (try dsimp only at hSw)
              go_simp
              try with_reducible rfl
            try simp only [Act.put, List.setIfInBounds_toArray, List.set_cons_zero, List.set_cons_succ]
            refine wpAnyL_take 0 _ _ (i := 6) (oi := { dst := some 75, op := Op.move (Operand.tmp 74), type := 4, pos := "law.go:135", after := #[{ on := 5, ground := Ground.data }], guard := none }) (v := ?_) rfl (by kernel_rfl) (by kernel_rfl) (by kernel_rfl) (fun _ _ _ h => h) rfl (by kernel_rfl) (by kernel_rfl) (by kernel_rfl) (Or.inl ⟨by rfl, ?_⟩) hHeld (fun hHeld => ?_)
            rotate_left
            · intro w hSw
              (try dsimp only at hSw)
              go_simp
              try with_reducible rfl
            try simp only [Act.put, List.setIfInBounds_toArray, List.set_cons_zero, List.set_cons_succ]
            refine wpAnyL_take 0 _ _ (i := 7) (oi := { dst := some 76, op := Op.move (Operand.tmp 1), type := 22, pos := "law.go:135", after := #[{ on := 6, ground := Ground.guard }], guard := some (6, false) }) (v := undef) rfl (by kernel_rfl) (by kernel_rfl) (by kernel_rfl) (fun _ _ _ h => h) rfl (by kernel_rfl) (by kernel_rfl) (by kernel_rfl) (Or.inr ⟨by rfl, rfl⟩) hHeld (fun hHeld => ?_)
            try simp only [Act.put, List.setIfInBounds_toArray, List.set_cons_zero, List.set_cons_succ]
            refine wpAnyL_take 0 _ _ (i := 8) (oi := { dst := some 77, op := Op.move (Operand.tmp 11), type := 3, pos := "law.go:135", after := #[{ on := 6, ground := Ground.guard }], guard := some (6, false) }) (v := undef) rfl (by kernel_rfl) (by kernel_rfl) (by kernel_rfl) (fun _ _ _ h => h) rfl (by kernel_rfl) (by kernel_rfl) (by kernel_rfl) (Or.inr ⟨by rfl, rfl⟩) hHeld (fun hHeld => ?_)
            try simp only [Act.put, List.setIfInBounds_toArray, List.set_cons_zero, List.set_cons_succ]
            refine wpAnyL_take 0 _ _ (i := 9) (oi := { dst := some 78, op := Op.indexAddr 22 (Operand.tmp 76) (Operand.tmp 77), type := 0, pos := "law.go:135", after := #[{ on := 7, ground := Ground.data }, { on := 8, ground := Ground.data }, { on := 6, ground := Ground.guard }], guard := some (6, false) }) (v := undef) rfl (by kernel_rfl) (by kernel_rfl) (by kernel_rfl) (fun _ _ _ h => h) rfl (by kernel_rfl) (by kernel_rfl) (by kernel_rfl) (Or.inr ⟨by rfl, rfl⟩) hHeld (fun hHeld => ?_)
            try simp only [Act.put, List.setIfInBounds_toArray, List.set_cons_zero, List.set_cons_succ]
            refine wpAnyL_take 0 _ _ (i := 10) (oi := { dst := some 79, op := Op.fieldAddr 37 (Operand.tmp 78) 1, type := 0, pos := "law.go:135", after := #[{ on := 9, ground := Ground.data }, { on := 6, ground := Ground.guard }], guard := some (6, false) }) (v := undef) rfl (by kernel_rfl) (by kernel_rfl) (by kernel_rfl) (fun _ _ _ h => h) rfl (by kernel_rfl) (by kernel_rfl) (by kernel_rfl) (Or.inr ⟨by rfl, rfl⟩) hHeld (fun hHeld => ?_)
            try simp only [Act.put, List.setIfInBounds_toArray, List.set_cons_zero, List.set_cons_succ]
            refine wpAnyL_take 0 _ _ (i := 11) (oi := { dst := some 80, op := Op.load 3 (Operand.tmp 79), type := 3, pos := "law.go:135", after := #[{ on := 10, ground := Ground.data }, { on := 6, ground := Ground.guard }], guard := some (6, false) }) (v := undef) rfl (by kernel_rfl) (by kernel_rfl) (by kernel_rfl) (fun _ _ _ h => h) rfl (by kernel_rfl) (by kernel_rfl) (by kernel_rfl) (Or.inr ⟨by rfl, rfl⟩) hHeld (fun hHeld => ?_)
            try simp only [Act.put, List.setIfInBounds_toArray, List.set_cons_zero, List.set_cons_succ]
            refine wpAnyL_take 0 _ _ (i := 12) (oi := { dst := some 81, op := Op.move (Operand.tmp 5), type := 25, pos := "law.go:135", after := #[{ on := 6, ground := Ground.guard }], guard := some (6, false) }) (v := undef) rfl (by kernel_rfl) (by kernel_rfl) (by kernel_rfl) (fun _ _ _ h => h) rfl (by kernel_rfl) (by kernel_rfl) (by kernel_rfl) (Or.inr ⟨by rfl, rfl⟩) hHeld (fun hHeld => ?_)
            try simp only [Act.put, List.setIfInBounds_toArray, List.set_cons_zero, List.set_cons_succ]
            refine wpAnyL_take 0 _ _ (i := 13) (oi := { dst := some 82, op := Op.call { callee := Callee.value (Operand.func 18), args := #[Operand.tmp 81], argTypes := #[25] }, type := 3, pos := "law.go:135", after := #[{ on := 12, ground := Ground.data }, { on := 6, ground := Ground.chain }, { on := 6, ground := Ground.guard }], guard := some (6, false) }) (v := undef) rfl (by kernel_rfl) (by kernel_rfl) (by kernel_rfl) (fun _ _ _ h => h) rfl (by kernel_rfl) (by kernel_rfl) (by kernel_rfl) (Or.inr ⟨by rfl, rfl⟩) hHeld (fun hHeld => ?_)
            try simp only [Act.put, List.setIfInBounds_toArray, List.set_cons_zero, List.set_cons_succ]
            refine wpAnyL_take 0 _ _ (i := 14) (oi := { dst := some 83, op := Op.move (Operand.tmp 10), type := 3, pos := "law.go:135", after := #[{ on := 6, ground := Ground.guard }], guard := some (6, false) }) (v := undef) rfl (by kernel_rfl) (by kernel_rfl) (by kernel_rfl) (fun _ _ _ h => h) rfl (by kernel_rfl) (by kernel_rfl) (by kernel_rfl) (Or.inr ⟨by rfl, rfl⟩) hHeld (fun hHeld => ?_)
            try simp only [Act.put, List.setIfInBounds_toArray, List.set_cons_zero, List.set_cons_succ]
            refine wpAnyL_take 0 _ _ (i := 15) (oi := { dst := some 84, op := Op.binOp BinOp.sub 3 (Operand.tmp 82) (Operand.tmp 83) 3, type := 3, pos := "law.go:135", after := #[{ on := 13, ground := Ground.data }, { on := 14, ground := Ground.data }, { on := 6, ground := Ground.guard }], guard := some (6, false) }) (v := undef) rfl (by kernel_rfl) (by kernel_rfl) (by kernel_rfl) (fun _ _ _ h => h) rfl (by kernel_rfl) (by kernel_rfl) (by kernel_rfl) (Or.inr ⟨by rfl, rfl⟩) hHeld (fun hHeld => ?_)
            try simp only [Act.put, List.setIfInBounds_toArray, List.set_cons_zero, List.set_cons_succ]
            refine wpAnyL_take 0 _ _ (i := 16) (oi := { dst := some 85, op := Op.binOp BinOp.sub 3 (Operand.tmp 84) (Operand.const (Value.int IntKind.i64 1)) 3, type := 3, pos := "law.go:135", after := #[{ on := 15, ground := Ground.data }, { on := 6, ground := Ground.guard }], guard := some (6, false) }) (v := undef) rfl (by kernel_rfl) (by kernel_rfl) (by kernel_rfl) (fun _ _ _ h => h) rfl (by kernel_rfl) (by kernel_rfl) (by kernel_rfl) (Or.inr ⟨by rfl, rfl⟩) hHeld (fun hHeld => ?_)
            try simp only [Act.put, List.setIfInBounds_toArray, List.set_cons_zero, List.set_cons_succ]
            refine wpAnyL_take 0 _ _ (i := 17) (oi := { dst := some 86, op := Op.binOp BinOp.leq 3 (Operand.tmp 80) (Operand.tmp 85) 3, type := 4, pos := "law.go:135", after := #[{ on := 11, ground := Ground.data }, { on := 16, ground := Ground.data }, { on := 6, ground := Ground.guard }], guard := some (6, false) }) (v := undef) rfl (by kernel_rfl) (by kernel_rfl) (by kernel_rfl) (fun _ _ _ h => h) rfl (by kernel_rfl) (by kernel_rfl) (by kernel_rfl) (Or.inr ⟨by rfl, rfl⟩) hHeld (fun hHeld => ?_)
            try simp only [Act.put, List.setIfInBounds_toArray, List.set_cons_zero, List.set_cons_succ]
            refine wpAnyL_take 0 _ _ (i := 18) (oi := { dst := some 87, op := Op.pick (Operand.tmp 75) (Operand.const (Value.bool true)) (Operand.tmp 86), type := 4, pos := "law.go:135", after := #[{ on := 6, ground := Ground.data }, { on := 17, ground := Ground.data }], guard := none }) (v := ?_) rfl (by kernel_rfl) (by kernel_rfl) (by kernel_rfl) (fun _ _ _ h => h) rfl (by kernel_rfl) (by kernel_rfl) (by kernel_rfl) (Or.inl ⟨by rfl, ?_⟩) hHeld (fun hHeld => ?_)
            rotate_left
            · intro w hSw
              (try dsimp only at hSw)
              go_simp
              try with_reducible rfl
            try simp only [Act.put, List.setIfInBounds_toArray, List.set_cons_zero, List.set_cons_succ]
            refine wpAnyL_done (by kernel_rfl) ?_ _
            clear hHeld
            have HD := (do_any HS.out.lr.tab HS.out.lr.good HS.out.lr.rf kd kn ⟨N, P, L, C, V, R, D⟩ HN64.out (fun w' hb => HI.out w' (HS.out.lr.b.trans hb)) (by simp only; omega) (by simp only; omega) HZ.out HR64.out HV64.out).mono fun e w' h => h.below HS.out.lr
            unfold opA at HD
            simp only at HD
            go_wp2_with fail
            refine HD.mono ?_
            rintro e w9 ⟨b9, K9, T9, rfl, hl9, hx9, hrel9⟩
            have HS9 := Lib.hid (HS.out.step hl9 hx9)
            have HU9 := Lib.hid (HU.out.rel HS.out.lr.good hrel9 (fun h => absurd h hkd))
            clear HD hl9 hx9 hrel9
            go_wp2_with fail
            go_roundw
            case rel => exact ⟨k + 1, _, _, by omega, by go_num, HS9.out, HU9.out⟩
            case measure => simp [intOf]; omega
        · obtain rfl : k = n2 := by omega
          have hb3 := hs.lr.good.b3
          have hlen : T0.scopes.length < T.scopes.length := (List.getElem?_eq_some_iff.1 hu.sl).1
          have HA := level_any hs.lr.tab
          have HS := Lib.hid hs
          have HU := Lib.hid hu
          clear hs hu hlt hk
          go_wp2_with fail
          refine HA.mono ?_
          rintro e w9 ⟨rfl, hw⟩
          obtain rfl := hw.symm
          have HP := pop_any HS.out.lr.tab HS.out.lr.good ((T.scopes.length : Int) - (T0.scopes.length : Int)) ⟨by omega, by omega⟩
          clear HA hw
          go_wp2_with fail
          refine HP.mono ?_
          rintro e w10 ⟨T1, er, rfl, ht, hg, hst, hp⟩
          obtain ⟨rfl, e1, e2, e3⟩ := popped HU.out rfl hp
          have HS1 := Lib.hid ((HS.out.step (HS.out.lr.stepT ht hg hst) hst.x).shut e1 e2)
          have HG := Lib.hid hg
          have q8 : ((T1.sorts.length : Int) != (T0.sorts.length : Int)) = false := by rw [e1]; simp
          have q9 : ((T1.funs.length : Int) != (T0.funs.length : Int)) = false := by rw [e2]; simp
          have q10 : ((T1.scopes.length : Int) != (T0.scopes.length : Int)) = false := by rw [e3]; simp
          clear HP hp ht hg hst HU
          have HA := sorts_any HS1.out.lr.tab HG.out
          go_wp2_with fail
          refine HA.mono ?_
          rintro e w11 ⟨v12, rfl, ho, hb⟩
          obtain ⟨p12, c12, rfl⟩ := own_shape ho
          have HA2 := funs_any (HS1.out.lr.tab.later hb) HG.out
          have HR12 := Lib.hid (And.intro (HS1.out.later hb) (row_fresh HS1.out.lr.tab ho))
          clear ho hb HA
          go_wp2_with fail
          refine HA2.mono ?_
          rintro e w12 ⟨v13, rfl, ho, hb⟩
          obtain ⟨p13, c13, rfl⟩ := own_shape ho
          have HL3 := Lib.hid (show L3 W w12 K c r T1 (.slice p8 T0.sorts.length c8) (.slice p9 T0.funs.length c9) (.slice p12 T1.sorts.length c12) (.slice p13 T1.funs.length c13) from
            ⟨HR12.out.1.later hb, (HR12.out.1.later hb).lr, row_step HR12.out.2 (StepX.below hb), row_fresh HR12.out.1.lr.tab ho⟩)
          have HA3 := level_any HL3.out.s.lr.tab
          clear ho hb HA2
          go_wp2_with fail
          refine HA3.mono ?_
          rintro e w13 ⟨rfl, hw⟩
          obtain rfl := hw.symm
          clear HA3 hw HR12 HS1 HS
          have HN8 := Lib.hid (show T0.sorts.length = T1.sorts.length by rw [e1])
          have HN9 := Lib.hid (show T0.funs.length = T1.funs.length by rw [e2])
          have hb8 : T0.sorts.length ≤ 2000 := by have := HG.out.b1; have := HG.out.b4; have := HN8.out; omega
          have hb9 : T0.funs.length ≤ 2000 := by have := HG.out.b2; have := HG.out.b5; have := HN9.out; omega
          go_wp2_with fail
          go_loopw [14] (fun i wr => ∃ (k : Nat), k ≤ T0.sorts.length ∧ i = .int .i64 k ∧ L3 W wr K c r T1 (.slice p8 T0.sorts.length c8) (.slice p9 T0.funs.length c9) (.slice p12 T1.sorts.length c12) (.slice p13 T1.funs.length c13)) (fun i _ => T0.sorts.length - (intOf i).toNat)
          case atStart => exact ⟨0, Nat.zero_le _, rfl, HL3.out⟩
          case round =>
            obtain ⟨k, hk, rfl, hl⟩ := hrel
            clear HL3
            by_cases hlt : k < T0.sorts.length
            · obtain ⟨j, hj⟩ : ∃ j, T1.sorts[k]? = some j := ⟨_, List.getElem?_eq_getElem (by have := HN8.out; omega)⟩
              obtain ⟨s, hs1, hs2, hs3⟩ := HG.out.g1 j (List.mem_of_getElem? hj)
              have hss := HG.out.b8 s (List.mem_of_getElem? hs1)
              obtain ⟨g8, z8, e8⟩ := own_some hl.s.r8.own (by have := HN8.out; omega)
              injection e8 with e8 en8 ec8
              subst e8 ec8
              clear en8
              obtain ⟨g12, z12, e12⟩ := own_some hl.a.r8.own (by have := HN8.out; omega)
              injection e12 with e12 en12 ec12
              subst e12 ec12
              have d8 := (own_cell (HN8.out ▸ hl.s.r8.own) k (sV j) (by rw [List.getElem?_map, hj]; rfl)).1
              have d12 := (own_cell hl.a.r8.own k (sV j) (by rw [List.getElem?_map, hj]; rfl)).1
              unfold sV at d8 d12
              have hk0 : (0 : Int) ≤ (k : Int) := by omega
              have hk1 : (k : Int) < (T0.sorts.length : Int) := by omega
              have hk2 : (k : Int) < (T1.sorts.length : Int) := by have := HN8.out; omega
              have HN := sortName_any hl.s.lr.tab HG.out j s hs1
              have HSO := sort_any hl.s.lr.tab s hss
              have HL := Lib.hid (hl.later (Below.refl wr.heap.size wr).drew)
              have hD := (Below.refl wr.heap.size wr).drew
              have HD8 := Lib.hid (cell_later hD d8)
              have HD12 := Lib.hid (cell_later hD d12)
              clear hl hD
              go_wp2_with fail
              refine HN.mono ?_
              rintro e w14 ⟨rfl, hw⟩
              obtain rfl := hw.symm
              clear HN hw
              go_wp2_with fail
              refine HSO.mono ?_
              rintro e w15 ⟨v, er, rfl, hw, h2⟩
              obtain rfl := hw.symm
              obtain ⟨rfl, rfl⟩ := (h2 hs3).1 _ hs2
              clear HSO hw h2
              unfold sV
              go_wp2_with fail
              refine wp_region_L [(1000, (fun _ => True : World → Prop)), (1000, (fun w => w.cell? ⟨g12, k, none⟩ = some (.int .i64 (2 + (j : Int))) : World → Prop)), (1000, (fun w => w.cell? ⟨g8, k, none⟩ = some (.int .i64 (2 + (j : Int))) : World → Prop))] (by kernel_rfl) (SL.cons (fun _ => trivial) (SL.cons (fun _ => HD12.out) (SL.cons (fun _ => HD8.out) SL.nil))) (fun hHeld => ?_)
              clear d8 d12 HD8 HD12
              generalize wr.drew = w8 at *
              refine wpAnyL_take 0 _ _ (i := 0) (oi := { dst := some 145, op := Op.move (Operand.tmp 12), type := 32, pos := "law.go:149", after := #[], guard := none }) (v := ?_) rfl (by kernel_rfl) (by kernel_rfl) (by kernel_rfl) (fun _ _ _ h => h) rfl (by kernel_rfl) (by kernel_rfl) (by kernel_rfl) (Or.inl ⟨by rfl, ?_⟩) hHeld (fun hHeld => ?_)
              rotate_left
              · intro w hSw
                (try dsimp only at hSw)
                go_simp
                try with_reducible rfl
              try simp only [Act.put, List.setIfInBounds_toArray, List.set_cons_zero, List.set_cons_succ]
              refine wpAnyL_take 0 _ _ (i := 1) (oi := { dst := some 146, op := Op.move (Operand.tmp 14), type := 3, pos := "law.go:149", after := #[], guard := none }) (v := ?_) rfl (by kernel_rfl) (by kernel_rfl) (by kernel_rfl) (fun _ _ _ h => h) rfl (by kernel_rfl) (by kernel_rfl) (by kernel_rfl) (Or.inl ⟨by rfl, ?_⟩) hHeld (fun hHeld => ?_)
              rotate_left
              · intro w hSw
                (try dsimp only at hSw)
                go_simp
                try with_reducible rfl
              try simp only [Act.put, List.setIfInBounds_toArray, List.set_cons_zero, List.set_cons_succ]
              refine wpAnyL_take 0 _ _ (i := 2) (oi := { dst := some 147, op := Op.indexAddr 32 (Operand.tmp 145) (Operand.tmp 146), type := 0, pos := "law.go:149", after := #[{ on := 0, ground := Ground.data }, { on := 1, ground := Ground.data }], guard := none }) (v := ?_) rfl (by kernel_rfl) (by kernel_rfl) (by kernel_rfl) (fun _ _ _ h => h) rfl (by kernel_rfl) (by kernel_rfl) (by kernel_rfl) (Or.inl ⟨by rfl, ?_⟩) hHeld (fun hHeld => ?_)
              rotate_left
              · intro w hSw
                (try dsimp only at hSw)
                go_simp
                try with_reducible rfl
              try simp only [Act.put, List.setIfInBounds_toArray, List.set_cons_zero, List.set_cons_succ]
              refine wpAnyL_take 1 _ _ (i := 3) (oi := { dst := some 148, op := Op.load 33 (Operand.tmp 147), type := 33, pos := "law.go:149", after := #[{ on := 2, ground := Ground.data }], guard := none }) (v := ?_) rfl (by kernel_rfl) (by kernel_rfl) (by kernel_rfl) (fun _ _ _ h => h) rfl (by kernel_rfl) (by kernel_rfl) (by kernel_rfl) (Or.inl ⟨by rfl, ?_⟩) hHeld (fun hHeld => ?_)
              rotate_left
              · intro w hSw
                (try dsimp only at hSw)
                go_simp
                try with_reducible rfl
              try simp only [Act.put, List.setIfInBounds_toArray, List.set_cons_zero, List.set_cons_succ]
              refine wpAnyL_take 0 _ _ (i := 4) (oi := { dst := some 149, op := Op.move (Operand.tmp 8), type := 32, pos := "law.go:149", after := #[], guard := none }) (v := ?_) rfl (by kernel_rfl) (by kernel_rfl) (by kernel_rfl) (fun _ _ _ h => h) rfl (by kernel_rfl) (by kernel_rfl) (by kernel_rfl) (Or.inl ⟨by rfl, ?_⟩) hHeld (fun hHeld => ?_)
              rotate_left
              · intro w hSw
                (try dsimp only at hSw)
                go_simp
                try with_reducible rfl
              try simp only [Act.put, List.setIfInBounds_toArray, List.set_cons_zero, List.set_cons_succ]
              refine wpAnyL_take 0 _ _ (i := 5) (oi := { dst := some 150, op := Op.move (Operand.tmp 14), type := 3, pos := "law.go:149", after := #[], guard := none }) (v := ?_) rfl (by kernel_rfl) (by kernel_rfl) (by kernel_rfl) (fun _ _ _ h => h) rfl (by kernel_rfl) (by kernel_rfl) (by kernel_rfl) (Or.inl ⟨by rfl, ?_⟩) hHeld (fun hHeld => ?_)
              rotate_left
              · intro w hSw
                (try dsimp only at hSw)
                go_simp
                try with_reducible rfl
              try simp only [Act.put, List.setIfInBounds_toArray, List.set_cons_zero, List.set_cons_succ]
              refine wpAnyL_take 0 _ _ (i := 6) (oi := { dst := some 151, op := Op.indexAddr 32 (Operand.tmp 149) (Operand.tmp 150), type := 0, pos := "law.go:149", after := #[{ on := 4, ground := Ground.data }, { on := 5, ground := Ground.data }], guard := none }) (v := ?_) rfl (by kernel_rfl) (by kernel_rfl) (by kernel_rfl) (fun _ _ _ h => h) rfl (by kernel_rfl) (by kernel_rfl) (by kernel_rfl) (Or.inl ⟨by rfl, ?_⟩) hHeld (fun hHeld => ?_)
              rotate_left
              · intro w hSw
                (try dsimp only at hSw)
                go_simp
                try with_reducible rfl
              try simp only [Act.put, List.setIfInBounds_toArray, List.set_cons_zero, List.set_cons_succ]
              refine wpAnyL_take 2 _ _ (i := 7) (oi := { dst := some 152, op := Op.load 33 (Operand.tmp 151), type := 33, pos := "law.go:149", after := #[{ on := 6, ground := Ground.data }], guard := none }) (v := ?_) rfl (by kernel_rfl) (by kernel_rfl) (by kernel_rfl) (fun _ _ _ h => h) rfl (by kernel_rfl) (by kernel_rfl) (by kernel_rfl) (Or.inl ⟨by rfl, ?_⟩) hHeld (fun hHeld => ?_)
              rotate_left
              · intro w hSw
                (try dsimp only at hSw)
                go_simp
                try with_reducible rfl
              try simp only [Act.put, List.setIfInBounds_toArray, List.set_cons_zero, List.set_cons_succ]
              refine wpAnyL_take 0 _ _ (i := 8) (oi := { dst := some 153, op := Op.binOp BinOp.neq 33 (Operand.tmp 148) (Operand.tmp 152) 33, type := 4, pos := "law.go:149", after := #[{ on := 3, ground := Ground.data }, { on := 7, ground := Ground.data }], guard := none }) (v := ?_) rfl (by kernel_rfl) (by kernel_rfl) (by kernel_rfl) (fun _ _ _ h => h) rfl (by kernel_rfl) (by kernel_rfl) (by kernel_rfl) (Or.inl ⟨by rfl, ?_⟩) hHeld (fun hHeld => ?_)
              rotate_left
              · intro w hSw
                (try dsimp only at hSw)
                go_simp
                try with_reducible rfl
              try simp only [Act.put, List.setIfInBounds_toArray, List.set_cons_zero, List.set_cons_succ]
              refine wpAnyL_take 0 _ _ (i := 9) (oi := { dst := some 154, op := Op.move (Operand.tmp 153), type := 4, pos := "law.go:149", after := #[{ on := 8, ground := Ground.data }], guard := none }) (v := ?_) rfl (by kernel_rfl) (by kernel_rfl) (by kernel_rfl) (fun _ _ _ h => h) rfl (by kernel_rfl) (by kernel_rfl) (by kernel_rfl) (Or.inl ⟨by rfl, ?_⟩) hHeld (fun hHeld => ?_)
              rotate_left
              · intro w hSw
                (try dsimp only at hSw)
                go_simp
                try with_reducible rfl
              try simp only [Act.put, List.setIfInBounds_toArray, List.set_cons_zero, List.set_cons_succ]
              refine wpAnyL_take 0 _ _ (i := 10) (oi := { dst := some 155, op := Op.move (Operand.tmp 16), type := 42, pos := "law.go:149", after := #[{ on := 9, ground := Ground.guard }], guard := some (9, false) }) (v := ?_) rfl (by kernel_rfl) (by kernel_rfl) (by kernel_rfl) (fun _ _ _ h => h) rfl (by kernel_rfl) (by kernel_rfl) (by kernel_rfl) (Or.inl ⟨by rfl, ?_⟩) hHeld (fun hHeld => ?_)
              rotate_left
              · intro w hSw
                (try dsimp only at hSw)
                go_simp
                try with_reducible rfl
              try simp only [Act.put, List.setIfInBounds_toArray, List.set_cons_zero, List.set_cons_succ]
              refine wpAnyL_take 0 _ _ (i := 11) (oi := { dst := some 156, op := Op.binOp BinOp.neq 42 (Operand.tmp 155) (Operand.const (Value.int IntKind.i64 0)) 42, type := 4, pos := "law.go:149", after := #[{ on := 10, ground := Ground.data }, { on := 9, ground := Ground.guard }], guard := some (9, false) }) (v := ?_) rfl (by kernel_rfl) (by kernel_rfl) (by kernel_rfl) (fun _ _ _ h => h) rfl (by kernel_rfl) (by kernel_rfl) (by kernel_rfl) (Or.inl ⟨by rfl, ?_⟩) hHeld (fun hHeld => ?_)
              rotate_left
              · intro w hSw
                (try dsimp only at hSw)
                go_simp
                try with_reducible rfl
              try simp only [Act.put, List.setIfInBounds_toArray, List.set_cons_zero, List.set_cons_succ]
              refine wpAnyL_take 0 _ _ (i := 12) (oi := { dst := some 157, op := Op.pick (Operand.tmp 154) (Operand.const (Value.bool true)) (Operand.tmp 156), type := 4, pos := "law.go:149", after := #[{ on := 9, ground := Ground.data }, { on := 11, ground := Ground.data }], guard := none }) (v := ?_) rfl (by kernel_rfl) (by kernel_rfl) (by kernel_rfl) (fun _ _ _ h => h) rfl (by kernel_rfl) (by kernel_rfl) (by kernel_rfl) (Or.inl ⟨by rfl, ?_⟩) hHeld (fun hHeld => ?_)
              rotate_left
              · intro w hSw
                (try dsimp only at hSw)
                go_simp
                try with_reducible rfl
              try simp only [Act.put, List.setIfInBounds_toArray, List.set_cons_zero, List.set_cons_succ]
              refine wpAnyL_take 0 _ _ (i := 13) (oi := { dst := some 158, op := Op.move (Operand.tmp 157), type := 4, pos := "law.go:149", after := #[{ on := 12, ground := Ground.data }, { on := 9, ground := Ground.chain }], guard := none }) (v := ?_) rfl (by kernel_rfl) (by kernel_rfl) (by kernel_rfl) (fun _ _ _ h => h) rfl (by kernel_rfl) (by kernel_rfl) (by kernel_rfl) (Or.inl ⟨by rfl, ?_⟩) hHeld (fun hHeld => ?_)
              rotate_left
              · intro w hSw
                (try dsimp only at hSw)
                go_simp
                try with_reducible rfl
              try simp only [Act.put, List.setIfInBounds_toArray, List.set_cons_zero, List.set_cons_succ]
              refine wpAnyL_take 0 _ _ (i := 14) (oi := { dst := some 159, op := Op.move (Operand.tmp 18), type := 42, pos := "law.go:149", after := #[{ on := 13, ground := Ground.guard }], guard := some (13, false) }) (v := ?_) rfl (by kernel_rfl) (by kernel_rfl) (by kernel_rfl) (fun _ _ _ h => h) rfl (by kernel_rfl) (by kernel_rfl) (by kernel_rfl) (Or.inl ⟨by rfl, ?_⟩) hHeld (fun hHeld => ?_)
              rotate_left
              · intro w hSw
                (try dsimp only at hSw)
                go_simp
                try with_reducible rfl
              try simp only [Act.put, List.setIfInBounds_toArray, List.set_cons_zero, List.set_cons_succ]
              refine wpAnyL_take 0 _ _ (i := 15) (oi := { dst := some 160, op := Op.binOp BinOp.neq 42 (Operand.tmp 159) (Operand.const (Value.int IntKind.i64 0)) 42, type := 4, pos := "law.go:149", after := #[{ on := 14, ground := Ground.data }, { on := 13, ground := Ground.guard }], guard := some (13, false) }) (v := ?_) rfl (by kernel_rfl) (by kernel_rfl) (by kernel_rfl) (fun _ _ _ h => h) rfl (by kernel_rfl) (by kernel_rfl) (by kernel_rfl) (Or.inl ⟨by rfl, ?_⟩) hHeld (fun hHeld => ?_)
              rotate_left
              · intro w hSw
                (try dsimp only at hSw)
                go_simp
                try with_reducible rfl
              try simp only [Act.put, List.setIfInBounds_toArray, List.set_cons_zero, List.set_cons_succ]
              refine wpAnyL_take 0 _ _ (i := 16) (oi := { dst := some 161, op := Op.pick (Operand.tmp 158) (Operand.const (Value.bool true)) (Operand.tmp 160), type := 4, pos := "law.go:149", after := #[{ on := 13, ground := Ground.data }, { on := 15, ground := Ground.data }], guard := none }) (v := ?_) rfl (by kernel_rfl) (by kernel_rfl) (by kernel_rfl) (fun _ _ _ h => h) rfl (by kernel_rfl) (by kernel_rfl) (by kernel_rfl) (Or.inl ⟨by rfl, ?_⟩) hHeld (fun hHeld => ?_)
              rotate_left
              · intro w hSw
                (try dsimp only at hSw)
                go_simp
                try with_reducible rfl
              try simp only [Act.put, List.setIfInBounds_toArray, List.set_cons_zero, List.set_cons_succ]
              refine wpAnyL_take 0 _ _ (i := 17) (oi := { dst := some 162, op := Op.move (Operand.tmp 161), type := 4, pos := "law.go:149", after := #[{ on := 16, ground := Ground.data }, { on := 13, ground := Ground.chain }], guard := none }) (v := ?_) rfl (by kernel_rfl) (by kernel_rfl) (by kernel_rfl) (fun _ _ _ h => h) rfl (by kernel_rfl) (by kernel_rfl) (by kernel_rfl) (Or.inl ⟨by rfl, ?_⟩) hHeld (fun hHeld => ?_)
              rotate_left
              · intro w hSw
                (try dsimp only at hSw)
                go_simp
                try with_reducible rfl
              try simp only [Act.put, List.setIfInBounds_toArray, List.set_cons_zero, List.set_cons_succ]
              refine wpAnyL_take 0 _ _ (i := 18) (oi := { dst := some 163, op := Op.move (Operand.tmp 17), type := 33, pos := "law.go:149", after := #[{ on := 17, ground := Ground.guard }], guard := some (17, false) }) (v := ?_) rfl (by kernel_rfl) (by kernel_rfl) (by kernel_rfl) (fun _ _ _ h => h) rfl (by kernel_rfl) (by kernel_rfl) (by kernel_rfl) (Or.inl ⟨by rfl, ?_⟩) hHeld (fun hHeld => ?_)
              rotate_left
              · intro w hSw
                (try dsimp only at hSw)
                go_simp
                try with_reducible rfl
              try simp only [Act.put, List.setIfInBounds_toArray, List.set_cons_zero, List.set_cons_succ]
              refine wpAnyL_take 0 _ _ (i := 19) (oi := { dst := some 164, op := Op.move (Operand.tmp 8), type := 32, pos := "law.go:149", after := #[{ on := 17, ground := Ground.guard }], guard := some (17, false) }) (v := ?_) rfl (by kernel_rfl) (by kernel_rfl) (by kernel_rfl) (fun _ _ _ h => h) rfl (by kernel_rfl) (by kernel_rfl) (by kernel_rfl) (Or.inl ⟨by rfl, ?_⟩) hHeld (fun hHeld => ?_)
              rotate_left
              · intro w hSw
                (try dsimp only at hSw)
                go_simp
                try with_reducible rfl
              try simp only [Act.put, List.setIfInBounds_toArray, List.set_cons_zero, List.set_cons_succ]
              refine wpAnyL_take 0 _ _ (i := 20) (oi := { dst := some 165, op := Op.move (Operand.tmp 14), type := 3, pos := "law.go:149", after := #[{ on := 17, ground := Ground.guard }], guard := some (17, false) }) (v := ?_) rfl (by kernel_rfl) (by kernel_rfl) (by kernel_rfl) (fun _ _ _ h => h) rfl (by kernel_rfl) (by kernel_rfl) (by kernel_rfl) (Or.inl ⟨by rfl, ?_⟩) hHeld (fun hHeld => ?_)
              rotate_left
              · intro w hSw
                (try dsimp only at hSw)
                go_simp
                try with_reducible rfl
              try simp only [Act.put, List.setIfInBounds_toArray, List.set_cons_zero, List.set_cons_succ]
              refine wpAnyL_take 0 _ _ (i := 21) (oi := { dst := some 166, op := Op.indexAddr 32 (Operand.tmp 164) (Operand.tmp 165), type := 0, pos := "law.go:149", after := #[{ on := 19, ground := Ground.data }, { on := 20, ground := Ground.data }, { on := 17, ground := Ground.guard }], guard := some (17, false) }) (v := ?_) rfl (by kernel_rfl) (by kernel_rfl) (by kernel_rfl) (fun _ _ _ h => h) rfl (by kernel_rfl) (by kernel_rfl) (by kernel_rfl) (Or.inl ⟨by rfl, ?_⟩) hHeld (fun hHeld => ?_)
              rotate_left
              · intro w hSw
                (try dsimp only at hSw)
                go_simp
                try with_reducible rfl
              try simp only [Act.put, List.setIfInBounds_toArray, List.set_cons_zero, List.set_cons_succ]
              refine wpAnyL_take 2 _ _ (i := 22) (oi := { dst := some 167, op := Op.load 33 (Operand.tmp 166), type := 33, pos := "law.go:149", after := #[{ on := 21, ground := Ground.data }, { on := 17, ground := Ground.guard }], guard := some (17, false) }) (v := ?_) rfl (by kernel_rfl) (by kernel_rfl) (by kernel_rfl) (fun _ _ _ h => h) rfl (by kernel_rfl) (by kernel_rfl) (by kernel_rfl) (Or.inl ⟨by rfl, ?_⟩) hHeld (fun hHeld => ?_)
              rotate_left
              · intro w hSw
                (try dsimp only at hSw)
                go_simp
                try with_reducible rfl
              try simp only [Act.put, List.setIfInBounds_toArray, List.set_cons_zero, List.set_cons_succ]
              refine wpAnyL_take 0 _ _ (i := 23) (oi := { dst := some 168, op := Op.binOp BinOp.neq 33 (Operand.tmp 163) (Operand.tmp 167) 33, type := 4, pos := "law.go:149", after := #[{ on := 18, ground := Ground.data }, { on := 22, ground := Ground.data }, { on := 17, ground := Ground.guard }], guard := some (17, false) }) (v := ?_) rfl (by kernel_rfl) (by kernel_rfl) (by kernel_rfl) (fun _ _ _ h => h) rfl (by kernel_rfl) (by kernel_rfl) (by kernel_rfl) (Or.inl ⟨by rfl, ?_⟩) hHeld (fun hHeld => ?_)
              rotate_left
              · intro w hSw
                (try dsimp only at hSw)
                go_simp
                try with_reducible rfl
              try simp only [Act.put, List.setIfInBounds_toArray, List.set_cons_zero, List.set_cons_succ]
              refine wpAnyL_take 0 _ _ (i := 24) (oi := { dst := some 169, op := Op.pick (Operand.tmp 162) (Operand.const (Value.bool true)) (Operand.tmp 168), type := 4, pos := "law.go:149", after := #[{ on := 17, ground := Ground.data }, { on := 23, ground := Ground.data }], guard := none }) (v := ?_) rfl (by kernel_rfl) (by kernel_rfl) (by kernel_rfl) (fun _ _ _ h => h) rfl (by kernel_rfl) (by kernel_rfl) (by kernel_rfl) (Or.inl ⟨by rfl, ?_⟩) hHeld (fun hHeld => ?_)
              rotate_left
              · intro w hSw
                (try dsimp only at hSw)
                go_simp
                try with_reducible rfl
              try simp only [Act.put, List.setIfInBounds_toArray, List.set_cons_zero, List.set_cons_succ]
              refine wpAnyL_done (by kernel_rfl) ?_ _
              clear hHeld
              go_wp2_with fail
              go_roundw
              case rel => exact ⟨k + 1, by omega, by go_num, HL.out⟩
              case measure => simp [intOf]; omega
            · have HL3 := Lib.hid hl
              obtain hke : k = T0.sorts.length := by omega
              subst hke
              clear hl hlt hk
              go_wp2_with fail
              go_loopw [19] (fun i wr => ∃ (k : Nat), k ≤ T0.funs.length ∧ i = .int .i64 k ∧ L3 W wr K c r T1 (.slice p8 T0.sorts.length c8) (.slice p9 T0.funs.length c9) (.slice p12 T1.sorts.length c12) (.slice p13 T1.funs.length c13)) (fun i _ => T0.funs.length - (intOf i).toNat)
              case atStart => exact ⟨0, Nat.zero_le _, rfl, HL3.out⟩
              case round =>
                obtain ⟨k, hk, rfl, hl⟩ := hrel
                clear HL3
                by_cases hlt : k < T0.funs.length
                · obtain ⟨j, hj⟩ : ∃ j, T1.funs[k]? = some j := ⟨_, List.getElem?_eq_getElem (by have := HN9.out; omega)⟩
                  obtain ⟨x, hs1, hs2⟩ := HG.out.g3 j (List.mem_of_getElem? hj)
                  have hss := HG.out.b9 x (List.mem_of_getElem? hs1)
                  obtain ⟨g9, z9, e9⟩ := own_some hl.s.r9.own (by have := HN9.out; omega)
                  injection e9 with e9 en9 ec9
                  subst e9 ec9
                  clear en9
                  obtain ⟨g13, z13, e13⟩ := own_some hl.a.r9.own (by have := HN9.out; omega)
                  injection e13 with e13 en13 ec13
                  subst e13 ec13
                  have d9 := (own_cell (HN9.out ▸ hl.s.r9.own) k (nV j) (by rw [List.getElem?_map, hj]; rfl)).1
                  have d13 := (own_cell hl.a.r9.own k (nV j) (by rw [List.getElem?_map, hj]; rfl)).1
                  unfold nV at d9 d13
                  have hk0 : (0 : Int) ≤ (k : Int) := by omega
                  have hk1 : (k : Int) < (T0.funs.length : Int) := by omega
                  have hk2 : (k : Int) < (T1.funs.length : Int) := by have := HN9.out; omega
                  have HN := info_any hl.s.lr.tab HG.out j x hs1
                  have HL0 := Lib.hid hl
                  clear hl hs1
                  obtain ⟨xN, xP, xL, xC, xV, xR, xD⟩ := x
                  simp only at hss hs2
                  unfold infoA at HN
                  simp only at HN
                  go_wp2_with fail
                  refine HN.mono ?_
                  rintro e w14 ⟨P4, C4, rfl, _, hb4, _⟩
                  clear HN
                  have hbx := below1 w14 (.cells #[.string xN, .slice P4 xL C4, .int .i64 xR, .bool xD] 35)
                  have hb5 := chain hb4 hbx
                  have y0 : (w14.alloc (.cells #[.string xN, .slice P4 xL C4, .int .i64 xR, .bool xD] 35)).cell? ⟨w14.heap.size, 0, none⟩ = some (.string xN) := by simp [go_sem]
                  replace d9 := cell_later hb5 d9
                  replace d13 := cell_later hb5 d13
                  have HL := Lib.hid (HL0.out.later hb5)
                  have HSO := fun_any HL.out.s.lr.tab xN hss
                  clear hb4 hbx hb5 HL0
                  go_upto_region 33 with (fail)
                  generalize w14.alloc (.cells #[.string xN, .slice P4 xL C4, .int .i64 xR, .bool xD] 35) = w15 at *
                  generalize w14.heap.size = b15 at *
                  go_wp2_with fail
                  refine HSO.mono ?_
                  rintro e w16 ⟨v, er, rfl, hw, h2, _⟩
                  obtain rfl := hw.symm
                  obtain ⟨rfl, rfl⟩ := h2 _ hs2
                  have hD := (Below.refl w15.heap.size w15).drew
                  have HL5 := Lib.hid (HL.out.later hD)
                  have HD9 := Lib.hid (cell_later hD d9)
                  have HD13 := Lib.hid (cell_later hD d13)
                  clear HSO hw h2 hD HL
                  unfold nV
                  go_wp2_with fail
                  refine wp_region_L [(1000, (fun _ => True : World → Prop)), (1000, (fun w => w.cell? ⟨g13, k, none⟩ = some (.int .i64 (j : Int)) : World → Prop)), (1000, (fun w => w.cell? ⟨g9, k, none⟩ = some (.int .i64 (j : Int)) : World → Prop))] (by kernel_rfl) (SL.cons (fun _ => trivial) (SL.cons (fun _ => HD13.out) (SL.cons (fun _ => HD9.out) SL.nil))) (fun hHeld => ?_)
                  clear d9 d13 HD9 HD13 y0
                  generalize w15.drew = w8 at *
                  refine wpAnyL_take 0 _ _ (i := 0) (oi := { dst := some 192, op := Op.move (Operand.tmp 13), type := 39, pos := "law.go:156", after := #[], guard := none }) (v := ?_) rfl (by kernel_rfl) (by kernel_rfl) (by kernel_rfl) (fun _ _ _ h => h) rfl (by kernel_rfl) (by kernel_rfl) (by kernel_rfl) (Or.inl ⟨by rfl, ?_⟩) hHeld (fun hHeld => ?_)
                  rotate_left
                  · intro w hSw
                    (try dsimp only at hSw)
                    go_simp
                    try with_reducible rfl
                  try simp only [Act.put, List.setIfInBounds_toArray, List.set_cons_zero, List.set_cons_succ]
                  refine wpAnyL_take 0 _ _ (i := 1) (oi := { dst := some 193, op := Op.move (Operand.tmp 19), type := 3, pos := "law.go:156", after := #[], guard := none }) (v := ?_) rfl (by kernel_rfl) (by kernel_rfl) (by kernel_rfl) (fun _ _ _ h => h) rfl (by kernel_rfl) (by kernel_rfl) (by kernel_rfl) (Or.inl ⟨by rfl, ?_⟩) hHeld (fun hHeld => ?_)
                  rotate_left
                  · intro w hSw
                    (try dsimp only at hSw)
                    go_simp
                    try with_reducible rfl
                  try simp only [Act.put, List.setIfInBounds_toArray, List.set_cons_zero, List.set_cons_succ]
                  refine wpAnyL_take 0 _ _ (i := 2) (oi := { dst := some 194, op := Op.indexAddr 39 (Operand.tmp 192) (Operand.tmp 193), type := 0, pos := "law.go:156", after := #[{ on := 0, ground := Ground.data }, { on := 1, ground := Ground.data }], guard := none }) (v := ?_) rfl (by kernel_rfl) (by kernel_rfl) (by kernel_rfl) (fun _ _ _ h => h) rfl (by kernel_rfl) (by kernel_rfl) (by kernel_rfl) (Or.inl ⟨by rfl, ?_⟩) hHeld (fun hHeld => ?_)
                  rotate_left
                  · intro w hSw
                    (try dsimp only at hSw)
                    go_simp
                    try with_reducible rfl
                  try simp only [Act.put, List.setIfInBounds_toArray, List.set_cons_zero, List.set_cons_succ]
                  refine wpAnyL_take 1 _ _ (i := 3) (oi := { dst := some 195, op := Op.load 3 (Operand.tmp 194), type := 3, pos := "law.go:156", after := #[{ on := 2, ground := Ground.data }], guard := none }) (v := ?_) rfl (by kernel_rfl) (by kernel_rfl) (by kernel_rfl) (fun _ _ _ h => h) rfl (by kernel_rfl) (by kernel_rfl) (by kernel_rfl) (Or.inl ⟨by rfl, ?_⟩) hHeld (fun hHeld => ?_)
                  rotate_left
                  · intro w hSw
                    (try dsimp only at hSw)
                    go_simp
                    try with_reducible rfl
                  try simp only [Act.put, List.setIfInBounds_toArray, List.set_cons_zero, List.set_cons_succ]
                  refine wpAnyL_take 0 _ _ (i := 4) (oi := { dst := some 196, op := Op.move (Operand.tmp 9), type := 39, pos := "law.go:156", after := #[], guard := none }) (v := ?_) rfl (by kernel_rfl) (by kernel_rfl) (by kernel_rfl) (fun _ _ _ h => h) rfl (by kernel_rfl) (by kernel_rfl) (by kernel_rfl) (Or.inl ⟨by rfl, ?_⟩) hHeld (fun hHeld => ?_)
                  rotate_left
                  · intro w hSw
                    (try dsimp only at hSw)
                    go_simp
                    try with_reducible rfl
                  try simp only [Act.put, List.setIfInBounds_toArray, List.set_cons_zero, List.set_cons_succ]
                  refine wpAnyL_take 0 _ _ (i := 5) (oi := { dst := some 197, op := Op.move (Operand.tmp 19), type := 3, pos := "law.go:156", after := #[], guard := none }) (v := ?_) rfl (by kernel_rfl) (by kernel_rfl) (by kernel_rfl) (fun _ _ _ h => h) rfl (by kernel_rfl) (by kernel_rfl) (by kernel_rfl) (Or.inl ⟨by rfl, ?_⟩) hHeld (fun hHeld => ?_)
                  rotate_left
                  · intro w hSw
                    (try dsimp only at hSw)
                    go_simp
                    try with_reducible rfl
                  try simp only [Act.put, List.setIfInBounds_toArray, List.set_cons_zero, List.set_cons_succ]
                  refine wpAnyL_take 0 _ _ (i := 6) (oi := { dst := some 198, op := Op.indexAddr 39 (Operand.tmp 196) (Operand.tmp 197), type := 0, pos := "law.go:156", after := #[{ on := 4, ground := Ground.data }, { on := 5, ground := Ground.data }], guard := none }) (v := ?_) rfl (by kernel_rfl) (by kernel_rfl) (by kernel_rfl) (fun _ _ _ h => h) rfl (by kernel_rfl) (by kernel_rfl) (by kernel_rfl) (Or.inl ⟨by rfl, ?_⟩) hHeld (fun hHeld => ?_)
                  rotate_left
                  · intro w hSw
                    (try dsimp only at hSw)
                    go_simp
                    try with_reducible rfl
                  try simp only [Act.put, List.setIfInBounds_toArray, List.set_cons_zero, List.set_cons_succ]
                  refine wpAnyL_take 2 _ _ (i := 7) (oi := { dst := some 199, op := Op.load 3 (Operand.tmp 198), type := 3, pos := "law.go:156", after := #[{ on := 6, ground := Ground.data }], guard := none }) (v := ?_) rfl (by kernel_rfl) (by kernel_rfl) (by kernel_rfl) (fun _ _ _ h => h) rfl (by kernel_rfl) (by kernel_rfl) (by kernel_rfl) (Or.inl ⟨by rfl, ?_⟩) hHeld (fun hHeld => ?_)
                  rotate_left
                  · intro w hSw
                    (try dsimp only at hSw)
                    go_simp
                    try with_reducible rfl
                  try simp only [Act.put, List.setIfInBounds_toArray, List.set_cons_zero, List.set_cons_succ]
                  refine wpAnyL_take 0 _ _ (i := 8) (oi := { dst := some 200, op := Op.binOp BinOp.neq 3 (Operand.tmp 195) (Operand.tmp 199) 3, type := 4, pos := "law.go:156", after := #[{ on := 3, ground := Ground.data }, { on := 7, ground := Ground.data }], guard := none }) (v := ?_) rfl (by kernel_rfl) (by kernel_rfl) (by kernel_rfl) (fun _ _ _ h => h) rfl (by kernel_rfl) (by kernel_rfl) (by kernel_rfl) (Or.inl ⟨by rfl, ?_⟩) hHeld (fun hHeld => ?_)
                  rotate_left
                  · intro w hSw
                    (try dsimp only at hSw)
                    go_simp
                    try with_reducible rfl
                  try simp only [Act.put, List.setIfInBounds_toArray, List.set_cons_zero, List.set_cons_succ]
                  refine wpAnyL_take 0 _ _ (i := 9) (oi := { dst := some 201, op := Op.move (Operand.tmp 200), type := 4, pos := "law.go:156", after := #[{ on := 8, ground := Ground.data }], guard := none }) (v := ?_) rfl (by kernel_rfl) (by kernel_rfl) (by kernel_rfl) (fun _ _ _ h => h) rfl (by kernel_rfl) (by kernel_rfl) (by kernel_rfl) (Or.inl ⟨by rfl, ?_⟩) hHeld (fun hHeld => ?_)
                  rotate_left
                  · intro w hSw
                    (try dsimp only at hSw)
                    go_simp
                    try with_reducible rfl
                  try simp only [Act.put, List.setIfInBounds_toArray, List.set_cons_zero, List.set_cons_succ]
                  refine wpAnyL_take 0 _ _ (i := 10) (oi := { dst := some 202, op := Op.move (Operand.tmp 21), type := 42, pos := "law.go:156", after := #[{ on := 9, ground := Ground.guard }], guard := some (9, false) }) (v := ?_) rfl (by kernel_rfl) (by kernel_rfl) (by kernel_rfl) (fun _ _ _ h => h) rfl (by kernel_rfl) (by kernel_rfl) (by kernel_rfl) (Or.inl ⟨by rfl, ?_⟩) hHeld (fun hHeld => ?_)
                  rotate_left
                  · intro w hSw
                    (try dsimp only at hSw)
                    go_simp
                    try with_reducible rfl
                  try simp only [Act.put, List.setIfInBounds_toArray, List.set_cons_zero, List.set_cons_succ]
                  refine wpAnyL_take 0 _ _ (i := 11) (oi := { dst := some 203, op := Op.binOp BinOp.neq 42 (Operand.tmp 202) (Operand.const (Value.int IntKind.i64 0)) 42, type := 4, pos := "law.go:156", after := #[{ on := 10, ground := Ground.data }, { on := 9, ground := Ground.guard }], guard := some (9, false) }) (v := ?_) rfl (by kernel_rfl) (by kernel_rfl) (by kernel_rfl) (fun _ _ _ h => h) rfl (by kernel_rfl) (by kernel_rfl) (by kernel_rfl) (Or.inl ⟨by rfl, ?_⟩) hHeld (fun hHeld => ?_)
                  rotate_left
                  · intro w hSw
                    (try dsimp only at hSw)
                    go_simp
                    try with_reducible rfl
                  try simp only [Act.put, List.setIfInBounds_toArray, List.set_cons_zero, List.set_cons_succ]
                  refine wpAnyL_take 0 _ _ (i := 12) (oi := { dst := some 204, op := Op.pick (Operand.tmp 201) (Operand.const (Value.bool true)) (Operand.tmp 203), type := 4, pos := "law.go:156", after := #[{ on := 9, ground := Ground.data }, { on := 11, ground := Ground.data }], guard := none }) (v := ?_) rfl (by kernel_rfl) (by kernel_rfl) (by kernel_rfl) (fun _ _ _ h => h) rfl (by kernel_rfl) (by kernel_rfl) (by kernel_rfl) (Or.inl ⟨by rfl, ?_⟩) hHeld (fun hHeld => ?_)
                  rotate_left
                  · intro w hSw
                    (try dsimp only at hSw)
                    go_simp
                    try with_reducible rfl
                  try simp only [Act.put, List.setIfInBounds_toArray, List.set_cons_zero, List.set_cons_succ]
                  refine wpAnyL_take 0 _ _ (i := 13) (oi := { dst := some 205, op := Op.move (Operand.tmp 204), type := 4, pos := "law.go:156", after := #[{ on := 12, ground := Ground.data }, { on := 9, ground := Ground.chain }], guard := none }) (v := ?_) rfl (by kernel_rfl) (by kernel_rfl) (by kernel_rfl) (fun _ _ _ h => h) rfl (by kernel_rfl) (by kernel_rfl) (by kernel_rfl) (Or.inl ⟨by rfl, ?_⟩) hHeld (fun hHeld => ?_)
                  rotate_left
                  · intro w hSw
                    (try dsimp only at hSw)
                    go_simp
                    try with_reducible rfl
                  try simp only [Act.put, List.setIfInBounds_toArray, List.set_cons_zero, List.set_cons_succ]
                  refine wpAnyL_take 0 _ _ (i := 14) (oi := { dst := some 206, op := Op.move (Operand.tmp 23), type := 42, pos := "law.go:156", after := #[{ on := 13, ground := Ground.guard }], guard := some (13, false) }) (v := ?_) rfl (by kernel_rfl) (by kernel_rfl) (by kernel_rfl) (fun _ _ _ h => h) rfl (by kernel_rfl) (by kernel_rfl) (by kernel_rfl) (Or.inl ⟨by rfl, ?_⟩) hHeld (fun hHeld => ?_)
                  rotate_left
                  · intro w hSw
                    (try dsimp only at hSw)
                    go_simp
                    try with_reducible rfl
                  try simp only [Act.put, List.setIfInBounds_toArray, List.set_cons_zero, List.set_cons_succ]
                  refine wpAnyL_take 0 _ _ (i := 15) (oi := { dst := some 207, op := Op.binOp BinOp.neq 42 (Operand.tmp 206) (Operand.const (Value.int IntKind.i64 0)) 42, type := 4, pos := "law.go:156", after := #[{ on := 14, ground := Ground.data }, { on := 13, ground := Ground.guard }], guard := some (13, false) }) (v := ?_) rfl (by kernel_rfl) (by kernel_rfl) (by kernel_rfl) (fun _ _ _ h => h) rfl (by kernel_rfl) (by kernel_rfl) (by kernel_rfl) (Or.inl ⟨by rfl, ?_⟩) hHeld (fun hHeld => ?_)
                  rotate_left
                  · intro w hSw
                    (try dsimp only at hSw)
                    go_simp
                    try with_reducible rfl
                  try simp only [Act.put, List.setIfInBounds_toArray, List.set_cons_zero, List.set_cons_succ]
                  refine wpAnyL_take 0 _ _ (i := 16) (oi := { dst := some 208, op := Op.pick (Operand.tmp 205) (Operand.const (Value.bool true)) (Operand.tmp 207), type := 4, pos := "law.go:156", after := #[{ on := 13, ground := Ground.data }, { on := 15, ground := Ground.data }], guard := none }) (v := ?_) rfl (by kernel_rfl) (by kernel_rfl) (by kernel_rfl) (fun _ _ _ h => h) rfl (by kernel_rfl) (by kernel_rfl) (by kernel_rfl) (Or.inl ⟨by rfl, ?_⟩) hHeld (fun hHeld => ?_)
                  rotate_left
                  · intro w hSw
                    (try dsimp only at hSw)
                    go_simp
                    try with_reducible rfl
                  try simp only [Act.put, List.setIfInBounds_toArray, List.set_cons_zero, List.set_cons_succ]
                  refine wpAnyL_take 0 _ _ (i := 17) (oi := { dst := some 209, op := Op.move (Operand.tmp 208), type := 4, pos := "law.go:156", after := #[{ on := 16, ground := Ground.data }, { on := 13, ground := Ground.chain }], guard := none }) (v := ?_) rfl (by kernel_rfl) (by kernel_rfl) (by kernel_rfl) (fun _ _ _ h => h) rfl (by kernel_rfl) (by kernel_rfl) (by kernel_rfl) (Or.inl ⟨by rfl, ?_⟩) hHeld (fun hHeld => ?_)
                  rotate_left
                  · intro w hSw
                    (try dsimp only at hSw)
                    go_simp
                    try with_reducible rfl
                  try simp only [Act.put, List.setIfInBounds_toArray, List.set_cons_zero, List.set_cons_succ]
                  refine wpAnyL_take 0 _ _ (i := 18) (oi := { dst := some 210, op := Op.move (Operand.tmp 22), type := 3, pos := "law.go:156", after := #[{ on := 17, ground := Ground.guard }], guard := some (17, false) }) (v := ?_) rfl (by kernel_rfl) (by kernel_rfl) (by kernel_rfl) (fun _ _ _ h => h) rfl (by kernel_rfl) (by kernel_rfl) (by kernel_rfl) (Or.inl ⟨by rfl, ?_⟩) hHeld (fun hHeld => ?_)
                  rotate_left
                  · intro w hSw
                    (try dsimp only at hSw)
                    go_simp
                    try with_reducible rfl
                  try simp only [Act.put, List.setIfInBounds_toArray, List.set_cons_zero, List.set_cons_succ]
                  refine wpAnyL_take 0 _ _ (i := 19) (oi := { dst := some 211, op := Op.move (Operand.tmp 9), type := 39, pos := "law.go:156", after := #[{ on := 17, ground := Ground.guard }], guard := some (17, false) }) (v := ?_) rfl (by kernel_rfl) (by kernel_rfl) (by kernel_rfl) (fun _ _ _ h => h) rfl (by kernel_rfl) (by kernel_rfl) (by kernel_rfl) (Or.inl ⟨by rfl, ?_⟩) hHeld (fun hHeld => ?_)
                  rotate_left
                  · intro w hSw
                    (try dsimp only at hSw)
                    go_simp
                    try with_reducible rfl
                  try simp only [Act.put, List.setIfInBounds_toArray, List.set_cons_zero, List.set_cons_succ]
                  refine wpAnyL_take 0 _ _ (i := 20) (oi := { dst := some 212, op := Op.move (Operand.tmp 19), type := 3, pos := "law.go:156", after := #[{ on := 17, ground := Ground.guard }], guard := some (17, false) }) (v := ?_) rfl (by kernel_rfl) (by kernel_rfl) (by kernel_rfl) (fun _ _ _ h => h) rfl (by kernel_rfl) (by kernel_rfl) (by kernel_rfl) (Or.inl ⟨by rfl, ?_⟩) hHeld (fun hHeld => ?_)
                  rotate_left
                  · intro w hSw
                    (try dsimp only at hSw)
                    go_simp
                    try with_reducible rfl
                  try simp only [Act.put, List.setIfInBounds_toArray, List.set_cons_zero, List.set_cons_succ]
                  refine wpAnyL_take 0 _ _ (i := 21) (oi := { dst := some 213, op := Op.indexAddr 39 (Operand.tmp 211) (Operand.tmp 212), type := 0, pos := "law.go:156", after := #[{ on := 19, ground := Ground.data }, { on := 20, ground := Ground.data }, { on := 17, ground := Ground.guard }], guard := some (17, false) }) (v := ?_) rfl (by kernel_rfl) (by kernel_rfl) (by kernel_rfl) (fun _ _ _ h => h) rfl (by kernel_rfl) (by kernel_rfl) (by kernel_rfl) (Or.inl ⟨by rfl, ?_⟩) hHeld (fun hHeld => ?_)
                  rotate_left
                  · intro w hSw
                    (try dsimp only at hSw)
                    go_simp
                    try with_reducible rfl
                  try simp only [Act.put, List.setIfInBounds_toArray, List.set_cons_zero, List.set_cons_succ]
                  refine wpAnyL_take 2 _ _ (i := 22) (oi := { dst := some 214, op := Op.load 3 (Operand.tmp 213), type := 3, pos := "law.go:156", after := #[{ on := 21, ground := Ground.data }, { on := 17, ground := Ground.guard }], guard := some (17, false) }) (v := ?_) rfl (by kernel_rfl) (by kernel_rfl) (by kernel_rfl) (fun _ _ _ h => h) rfl (by kernel_rfl) (by kernel_rfl) (by kernel_rfl) (Or.inl ⟨by rfl, ?_⟩) hHeld (fun hHeld => ?_)
                  rotate_left
                  · intro w hSw
                    (try dsimp only at hSw)
                    go_simp
                    try with_reducible rfl
                  try simp only [Act.put, List.setIfInBounds_toArray, List.set_cons_zero, List.set_cons_succ]
                  refine wpAnyL_take 0 _ _ (i := 23) (oi := { dst := some 215, op := Op.binOp BinOp.neq 3 (Operand.tmp 210) (Operand.tmp 214) 3, type := 4, pos := "law.go:156", after := #[{ on := 18, ground := Ground.data }, { on := 22, ground := Ground.data }, { on := 17, ground := Ground.guard }], guard := some (17, false) }) (v := ?_) rfl (by kernel_rfl) (by kernel_rfl) (by kernel_rfl) (fun _ _ _ h => h) rfl (by kernel_rfl) (by kernel_rfl) (by kernel_rfl) (Or.inl ⟨by rfl, ?_⟩) hHeld (fun hHeld => ?_)
                  rotate_left
                  · intro w hSw
                    (try dsimp only at hSw)
                    go_simp
                    try with_reducible rfl
                  try simp only [Act.put, List.setIfInBounds_toArray, List.set_cons_zero, List.set_cons_succ]
                  refine wpAnyL_take 0 _ _ (i := 24) (oi := { dst := some 216, op := Op.pick (Operand.tmp 209) (Operand.const (Value.bool true)) (Operand.tmp 215), type := 4, pos := "law.go:156", after := #[{ on := 17, ground := Ground.data }, { on := 23, ground := Ground.data }], guard := none }) (v := ?_) rfl (by kernel_rfl) (by kernel_rfl) (by kernel_rfl) (fun _ _ _ h => h) rfl (by kernel_rfl) (by kernel_rfl) (by kernel_rfl) (Or.inl ⟨by rfl, ?_⟩) hHeld (fun hHeld => ?_)
                  rotate_left
                  · intro w hSw
                    (try dsimp only at hSw)
                    go_simp
                    try with_reducible rfl
                  try simp only [Act.put, List.setIfInBounds_toArray, List.set_cons_zero, List.set_cons_succ]
                  refine wpAnyL_done (by kernel_rfl) ?_ _
                  clear hHeld
                  go_wp2_with fail
                  go_roundw
                  case rel => exact ⟨k + 1, by omega, by go_num, HL5.out⟩
                  case measure => simp [intOf]; omega
                · have HB := Lib.hid hl.s.lr.b
                  obtain hke : k = T0.funs.length := by omega
                  subst hke
                  clear hl hlt hk
                  go_wp2_with fail
                  refine (known_any _).mono ?_
                  rintro e w17 ⟨rfl, hb⟩
                  have HB2 := Lib.hid (HB.out.trans (hb.mono HB.out.size))
                  clear hb
                  go_wp2_with fail
                  go_ret
                  exact ⟨rfl, HB2.out⟩
end Go.Proofs.Ytkjmmdffelhkiaa
