/- The walk of the law CyclesTurned. -/
import Derived.Test.YtiadnifbjdnflaaTurnedOut
namespace Go.Proofs.Ytiadnifbjdnflaa
open Go Go.RowKit

set_option maxRecDepth 100000 in
set_option maxHeartbeats 4000000 in
theorem turned_in (ai bi : Nat) (c : Int) (bk off m cp : Nat) (V : Nat → Int) (w : World) (hV : IntsAt w bk off m V) (hm : m ≤ 9223372036854775807) (HKN : ∀ W, Calls Try.prog 40 #[] W fun e w' => e = .returned (.bool true) ∧ Below W.heap.size W w')
    (ha : ai < m) (hb : bi < m) (c0 : -4611686018427387904 ≤ c) (c1 : c ≤ 4611686018427387904) :
    Calls Try.prog 14 #[.agg #[.int .u8 2, .int .i64 ai, .int .i64 bi, .int .i64 c], .slice (some ⟨bk, off, none⟩) m cp] w fun e w' => e = .returned (.bool true) ∧ Below w.heap.size w w' := by
  have hB := below1 w (.cells #[.int .u8 2, .int .i64 ai, .int .i64 bi, .int .i64 c] 70)
  have hV0 := hV.later hB
  have ha0 : (0 : Int) ≤ (ai : Int) := by omega
  have ha1 : (ai : Int) < (m : Int) := by omega
  have hb0 : (0 : Int) ≤ (bi : Int) := by omega
  have hb1 : (bi : Int) < (m : Int) := by omega
  have HV := Lib.hid hV0
  clear hV hV0
  go_enter Try.func14, Try.ntmps14
  go_wp2_with fail
  generalize hW0 : (w.alloc (.cells #[.int .u8 2, .int .i64 ai, .int .i64 bi, .int .i64 c] 70)) = w0 at *
  have hx0 : w0.rangeAt w.heap.size 0 (#[.int .u8 2, .int .i64 ai, .int .i64 bi, .int .i64 c] : Array Value).toList := by rw [← hW0]; exact rangeAt_new w _ _
  have HX := Lib.hid hx0
  clear hW0 hx0
  go_loopw [50] (fun i wr => ∃ j : Nat, j ≤ m ∧ i = .int .i64 j ∧ w0 = wr ∧ ∀ t, t < j → -2305843009213693952 ≤ V t ∧ V t ≤ 2305843009213693952) (fun i _ => m - (intOf i).toNat)
  case atStart => exact ⟨0, by omega, rfl, rfl, fun t ht => by omega⟩
  case round =>
    obtain ⟨j, hj, rfl, rfl, hall⟩ := hrel
    have HALL := Lib.hid hall
    clear hall
    by_cases hlt : j < m
    · have hj0 : (0 : Int) ≤ (j : Int) := by omega
      have hj1 : (j : Int) < (m : Int) := by omega
      have cv := HV.out j hlt
      have key : (2305843009213693952 < V j) ∨ (V j ≤ 2305843009213693952 ∧ V j < -2305843009213693952) ∨ (V j ≤ 2305843009213693952 ∧ -2305843009213693952 ≤ V j) := by omega
      rcases key with h | ⟨h, h2⟩ | ⟨h, h2⟩
      · go_wp2_with fail
        refine (HKN _).mono ?_
        rintro e w1 ⟨rfl, hb⟩
        go_wp2_with fail
        go_ret
        exact ⟨rfl, hB.trans (hb.mono hB.size)⟩
      · go_wp2_with fail
        refine (HKN _).mono ?_
        rintro e w1 ⟨rfl, hb⟩
        go_wp2_with fail
        go_ret
        exact ⟨rfl, hB.trans (hb.mono hB.size)⟩
      · have HH := Lib.hid (And.intro h2 h)
        go_wp2_with fail
        go_roundw
        case rel => exact ⟨_, _, _, ⟨j + 1, by omega, by go_num, fun t ht => by
          by_cases htj : t < j
          · exact HALL.out t htj
          · obtain rfl : t = j := by omega
            exact HH.out⟩, rfl, rfl, rfl⟩
        case measure => simp [intOf]; omega
    · obtain rfl : j = m := by omega
      have va := HALL.out ai ha
      have vb := HALL.out bi hb
      go_wp2_with (first | (refine wpList_load_mid rfl 70 _ rfl w.heap.size 0 rfl (#[.int .u8 2, .int .i64 ai, .int .i64 bi, .int .i64 c] : Array Value).toList _ (by exact HX.out) Try.underlying70 rfl (by kernel_rfl) ?_))
      refine (of_one ai bi c w0).mono ?_
      rintro e w1 ⟨rfl, hb1⟩
      have HX1 := Lib.hid (rangeAt_later HX.out ((below1 w0 _).trans (hb1.mono (below1 w0 _).size)))
      have HV1 := Lib.hid ((HV.out).later ((below1 w0 _).trans (hb1.mono (below1 w0 _).size)))
      have hB1 := chain (chain hB (below1 w0 _)) hb1
      clear hb1 HX HV
      have hy := rangeAt_new w1 #[.int .i64 ai, .int .i64 bi, .int .i64 c] 56
      have HX2 := Lib.hid (rangeAt_later HX1.out (below1 w1 (.cells #[.int .i64 ai, .int .i64 bi, .int .i64 c] 56)))
      have HV2 := Lib.hid ((HV1.out).later (below1 w1 (.cells #[.int .i64 ai, .int .i64 bi, .int .i64 c] 56)))
      have hB2 := chain hB1 (below1 w1 (.cells #[.int .i64 ai, .int .i64 bi, .int .i64 c] 56))
      have HY := Lib.hid hy
      have HB2 := Lib.hid hB2
      clear hy HX1 HV1 hB2 hB1
      go_wp2_with (first | (refine wpList_load_mid rfl 70 _ rfl w.heap.size 0 rfl (#[.int .u8 2, .int .i64 ai, .int .i64 bi, .int .i64 c] : Array Value).toList _ (by exact HX2.out) Try.underlying70 rfl (by kernel_rfl) ?_))
      have hsz2 : (w1.alloc (.cells #[.int .i64 ai, .int .i64 bi, .int .i64 c] 56)).heap.size = w1.heap.size + 1 := World.size_alloc _ _
      generalize w1.alloc (.cells #[.int .i64 ai, .int .i64 bi, .int .i64 c] 56) = w2 at *
      rw [← hsz2]
      generalize w1.heap.size = D1 at *
      have hB2 := HB2.out
      refine (of_mone ai bi c w2 c0 c1).mono ?_
      rintro e w3 ⟨rfl, hb1⟩
      have HY3 := Lib.hid (rangeAt_later HY.out ((below1 w2 _).trans (hb1.mono (below1 w2 _).size)))
      have HV3 := Lib.hid ((HV2.out).later ((below1 w2 _).trans (hb1.mono (below1 w2 _).size)))
      have hB3 := chain (chain hB2 (below1 w2 _)) hb1
      clear hb1 HX2 HV2 HY
      have hy := rangeAt_new w3 #[.int .i64 bi, .int .i64 ai, .int .i64 (-c - 1)] 56
      have HY4 := Lib.hid (rangeAt_later HY3.out (below1 w3 (.cells #[.int .i64 bi, .int .i64 ai, .int .i64 (-c - 1)] 56)))
      have HV4 := Lib.hid ((HV3.out).later (below1 w3 (.cells #[.int .i64 bi, .int .i64 ai, .int .i64 (-c - 1)] 56)))
      have HB4 := Lib.hid (chain hB3 (below1 w3 (.cells #[.int .i64 bi, .int .i64 ai, .int .i64 (-c - 1)] 56)))
      have HZ := Lib.hid hy
      clear hy HY3 HV3 hB3
      have hx1 := fun W hV => holds_any bk off j cp ai bi c V W hV ha hb hm (by omega) (by omega)
      have hx2 := fun W hV => holds_any bk off j cp bi ai (-c - 1) V W hV hb ha hm (by omega) (by omega)
      have hneq : ∀ W, (binOp .neq 4 (.bool (decide (V ai - V bi ≤ c))) (.bool (decide (V bi - V ai ≤ -c - 1)))).run Try.prog W = .ok (.bool true) W := by
        intro W
        by_cases h : V ai - V bi ≤ c
        · rw [decide_eq_true h, decide_eq_false (show ¬ (V bi - V ai ≤ -c - 1) by omega)]; kernel_rfl
        · rw [decide_eq_false h, decide_eq_true (show V bi - V ai ≤ -c - 1 by omega)]; kernel_rfl
      go_wp2_with fail
      generalize w3.alloc (.cells #[.int .i64 bi, .int .i64 ai, .int .i64 (-c - 1)] 56) = w4 at *
      generalize w3.heap.size = D2 at *
      have hS4 : (fun w' : World => w'.rangeAt D1 0 (#[.int .i64 ai, .int .i64 bi, .int .i64 c] : Array Value).toList ∧ w'.rangeAt D2 0 (#[.int .i64 bi, .int .i64 ai, .int .i64 (-c - 1)] : Array Value).toList ∧ IntsAt w' bk off j V) w4.drew := ⟨(World.rangeAt_drew _ _ _ _).2 HY4.out, (World.rangeAt_drew _ _ _ _).2 HZ.out, fun i hi => by rw [World.cell?_drew]; exact HV4.out i hi⟩
      have hB4 := (HB4.out).drew
      clear HY4 HZ HV4 HB4
      refine wp_region_held_drew (S := (fun w' : World => w'.rangeAt D1 0 (#[.int .i64 ai, .int .i64 bi, .int .i64 c] : Array Value).toList ∧ w'.rangeAt D2 0 (#[.int .i64 bi, .int .i64 ai, .int .i64 (-c - 1)] : Array Value).toList ∧ IntsAt w' bk off j V)) (by kernel_rfl) hS4 (fun hHeld => ?_)
      refine wpAnyH_take (i := 0) (oi := { dst := some 79, op := Op.move (Operand.tmp 7), type := 25, pos := "outright.go:48", after := #[], guard := none }) (v := ?_) rfl (by kernel_rfl) (by kernel_rfl) (by kernel_rfl) (fun _ _ _ h => h) (Or.inl ⟨by rfl, ?_⟩) (by assumption) ?_
      rotate_left
      · intro w hSw
        (try dsimp only at hSw)
        go_simp
        try with_reducible rfl
      try simp only [Act.put, List.setIfInBounds_toArray, List.set_cons_zero, List.set_cons_succ]
      refine wpAnyH_take (i := 1) (oi := { dst := some 80, op := Op.binOp BinOp.eql 25 (Operand.tmp 79) (Operand.const (Value.int IntKind.i64 0)) 25, type := 4, pos := "outright.go:48", after := #[{ on := 0, ground := Ground.data }], guard := none }) (v := ?_) rfl (by kernel_rfl) (by kernel_rfl) (by kernel_rfl) (fun _ _ _ h => h) (Or.inl ⟨by rfl, ?_⟩) (by assumption) ?_
      rotate_left
      · intro w hSw
        (try dsimp only at hSw)
        go_simp
        try with_reducible rfl
      try simp only [Act.put, List.setIfInBounds_toArray, List.set_cons_zero, List.set_cons_succ]
      refine wpAnyH_take (i := 2) (oi := { dst := some 81, op := Op.move (Operand.tmp 80), type := 4, pos := "outright.go:48", after := #[{ on := 1, ground := Ground.data }], guard := none }) (v := ?_) rfl (by kernel_rfl) (by kernel_rfl) (by kernel_rfl) (fun _ _ _ h => h) (Or.inl ⟨by rfl, ?_⟩) (by assumption) ?_
      rotate_left
      · intro w hSw
        (try dsimp only at hSw)
        go_simp
        try with_reducible rfl
      try simp only [Act.put, List.setIfInBounds_toArray, List.set_cons_zero, List.set_cons_succ]
      refine wpAnyH_take (i := 3) (oi := { dst := some 82, op := Op.move (Operand.tmp 9), type := 25, pos := "outright.go:48", after := #[{ on := 2, ground := Ground.guard }], guard := some (2, true) }) (v := ?_) rfl (by kernel_rfl) (by kernel_rfl) (by kernel_rfl) (fun _ _ _ h => h) (Or.inl ⟨by rfl, ?_⟩) (by assumption) ?_
      rotate_left
      · intro w hSw
        (try dsimp only at hSw)
        go_simp
        try with_reducible rfl
      try simp only [Act.put, List.setIfInBounds_toArray, List.set_cons_zero, List.set_cons_succ]
      refine wpAnyH_take (i := 4) (oi := { dst := some 83, op := Op.binOp BinOp.eql 25 (Operand.tmp 82) (Operand.const (Value.int IntKind.i64 0)) 25, type := 4, pos := "outright.go:48", after := #[{ on := 3, ground := Ground.data }, { on := 2, ground := Ground.guard }], guard := some (2, true) }) (v := ?_) rfl (by kernel_rfl) (by kernel_rfl) (by kernel_rfl) (fun _ _ _ h => h) (Or.inl ⟨by rfl, ?_⟩) (by assumption) ?_
      rotate_left
      · intro w hSw
        (try dsimp only at hSw)
        go_simp
        try with_reducible rfl
      try simp only [Act.put, List.setIfInBounds_toArray, List.set_cons_zero, List.set_cons_succ]
      refine wpAnyH_take (i := 5) (oi := { dst := some 84, op := Op.pick (Operand.tmp 81) (Operand.tmp 83) (Operand.const (Value.bool false)), type := 4, pos := "outright.go:48", after := #[{ on := 2, ground := Ground.data }, { on := 4, ground := Ground.data }], guard := none }) (v := ?_) rfl (by kernel_rfl) (by kernel_rfl) (by kernel_rfl) (fun _ _ _ h => h) (Or.inl ⟨by rfl, ?_⟩) (by assumption) ?_
      rotate_left
      · intro w hSw
        (try dsimp only at hSw)
        go_simp
        try with_reducible rfl
      try simp only [Act.put, List.setIfInBounds_toArray, List.set_cons_zero, List.set_cons_succ]
      refine wpAnyH_take (i := 6) (oi := { dst := some 85, op := Op.move (Operand.tmp 84), type := 4, pos := "outright.go:48", after := #[{ on := 5, ground := Ground.data }, { on := 2, ground := Ground.chain }], guard := none }) (v := ?_) rfl (by kernel_rfl) (by kernel_rfl) (by kernel_rfl) (fun _ _ _ h => h) (Or.inl ⟨by rfl, ?_⟩) (by assumption) ?_
      rotate_left
      · intro w hSw
        (try dsimp only at hSw)
        go_simp
        try with_reducible rfl
      try simp only [Act.put, List.setIfInBounds_toArray, List.set_cons_zero, List.set_cons_succ]
      refine wpAnyH_take (i := 7) (oi := { dst := some 86, op := Op.load 56 (Operand.tmp 6), type := 56, pos := "outright.go:48", after := #[{ on := 6, ground := Ground.guard }], guard := some (6, true) }) (v := _) rfl (by kernel_rfl) (by kernel_rfl) (by kernel_rfl) (fun _ _ _ h => h) (yieldsIf_load_mid (by rfl) _ _ rfl _ _ rfl _ _ (fun w hSw => hSw.1) Try.underlying56 rfl (by kernel_rfl)) (by assumption) ?_
      try simp only [Act.put, List.setIfInBounds_toArray, List.set_cons_zero, List.set_cons_succ]
      refine wpAnyH_take (i := 8) (oi := { dst := some 87, op := Op.move (Operand.tmp 1), type := 65, pos := "outright.go:48", after := #[{ on := 6, ground := Ground.guard }], guard := some (6, true) }) (v := ?_) rfl (by kernel_rfl) (by kernel_rfl) (by kernel_rfl) (fun _ _ _ h => h) (Or.inl ⟨by rfl, ?_⟩) (by assumption) ?_
      rotate_left
      · intro w hSw
        (try dsimp only at hSw)
        go_simp
        try with_reducible rfl
      try simp only [Act.put, List.setIfInBounds_toArray, List.set_cons_zero, List.set_cons_succ]
      refine wpAnyH_take (i := 10) (oi := { dst := some 89, op := Op.load 56 (Operand.tmp 8), type := 56, pos := "outright.go:48", after := #[{ on := 6, ground := Ground.guard }], guard := some (6, true) }) (v := _) rfl (by kernel_rfl) (by kernel_rfl) (by kernel_rfl) (fun _ _ _ h => h) (yieldsIf_load_mid (by rfl) _ _ rfl _ _ rfl _ _ (fun w hSw => hSw.2.1) Try.underlying56 rfl (by kernel_rfl)) (by assumption) ?_
      try simp only [Act.put, List.setIfInBounds_toArray, List.set_cons_zero, List.set_cons_succ]
      refine wpAnyH_take (i := 11) (oi := { dst := some 90, op := Op.move (Operand.tmp 1), type := 65, pos := "outright.go:48", after := #[{ on := 6, ground := Ground.guard }], guard := some (6, true) }) (v := ?_) rfl (by kernel_rfl) (by kernel_rfl) (by kernel_rfl) (fun _ _ _ h => h) (Or.inl ⟨by rfl, ?_⟩) (by assumption) ?_
      rotate_left
      · intro w hSw
        (try dsimp only at hSw)
        go_simp
        try with_reducible rfl
      try simp only [Act.put, List.setIfInBounds_toArray, List.set_cons_zero, List.set_cons_succ]
      refine wpAnyH_ready (rs := [9]) (by kernel_rfl) (by simp) ?_
      refine AllReadyH.cons (o := { dst := some 88, op := Op.call { callee := Callee.value (Operand.func 47), args := #[Operand.tmp 86, Operand.tmp 87], argTypes := #[56, 65] }, type := 4, pos := "outright.go:48", after := #[{ on := 7, ground := Ground.data }, { on := 8, ground := Ground.data }, { on := 6, ground := Ground.chain }, { on := 6, ground := Ground.guard }], guard := some (6, true) }) rfl (fun K hK => ?_) AllReadyH.nil
      go_simp
      go_at_call 47
      refine (hx1 _ hHeld.2.2).mono ?_
      rintro e w' ⟨rfl, hb⟩
      refine hK.out _ _ ?_ (fun hHeld => ?_)
      · exact ⟨rangeAt_later hHeld.1 hb, rangeAt_later hHeld.2.1 hb, hHeld.2.2.later hb⟩
      clear hK K
      try simp only [Act.put, List.setIfInBounds_toArray, List.set_cons_zero, List.set_cons_succ]
      have hB5 := chain hB4 hb
      clear hb
      refine wpAnyH_ready (rs := [12]) (by kernel_rfl) (by simp) ?_
      refine AllReadyH.cons (o := { dst := some 91, op := Op.call { callee := Callee.value (Operand.func 47), args := #[Operand.tmp 89, Operand.tmp 90], argTypes := #[56, 65] }, type := 4, pos := "outright.go:48", after := #[{ on := 10, ground := Ground.data }, { on := 11, ground := Ground.data }, { on := 9, ground := Ground.chain }, { on := 6, ground := Ground.guard }], guard := some (6, true) }) rfl (fun K hK => ?_) AllReadyH.nil
      go_simp
      go_at_call 47
      refine (hx2 _ hHeld.2.2).mono ?_
      rintro e w' ⟨rfl, hb⟩
      refine hK.out _ _ ?_ (fun hHeld => ?_)
      · exact ⟨rangeAt_later hHeld.1 hb, rangeAt_later hHeld.2.1 hb, hHeld.2.2.later hb⟩
      clear hK K
      try simp only [Act.put, List.setIfInBounds_toArray, List.set_cons_zero, List.set_cons_succ]
      have hB6 := chain hB5 hb
      clear hb
      refine wpAnyH_take (i := 13) (oi := { dst := some 92, op := Op.binOp BinOp.neq 4 (Operand.tmp 88) (Operand.tmp 91) 4, type := 4, pos := "outright.go:48", after := #[{ on := 9, ground := Ground.data }, { on := 12, ground := Ground.data }, { on := 6, ground := Ground.guard }], guard := some (6, true) }) (v := .bool true) rfl (by kernel_rfl) (by kernel_rfl) (by kernel_rfl) (fun _ _ _ h => h) (Or.inl ⟨by rfl, ?_⟩) (by assumption) ?_
      · intro w hSw
        (try dsimp only at hSw)
        have hneq2 := hneq w
        go_simp
        try with_reducible rfl
      try simp only [Act.put, List.setIfInBounds_toArray, List.set_cons_zero, List.set_cons_succ]
      refine wpAnyH_take (i := 14) (oi := { dst := some 93, op := Op.pick (Operand.tmp 85) (Operand.tmp 92) (Operand.const (Value.bool false)), type := 4, pos := "outright.go:48", after := #[{ on := 6, ground := Ground.data }, { on := 13, ground := Ground.data }], guard := none }) (v := ?_) rfl (by kernel_rfl) (by kernel_rfl) (by kernel_rfl) (fun _ _ _ h => h) (Or.inl ⟨by rfl, ?_⟩) (by assumption) ?_
      rotate_left
      · intro w hSw
        (try dsimp only at hSw)
        go_simp
        try with_reducible rfl
      try simp only [Act.put, List.setIfInBounds_toArray, List.set_cons_zero, List.set_cons_succ]
      refine wpAnyH_take (i := 15) (oi := { dst := some 94, op := Op.move (Operand.tmp 93), type := 4, pos := "outright.go:48", after := #[{ on := 14, ground := Ground.data }, { on := 12, ground := Ground.chain }], guard := none }) (v := ?_) rfl (by kernel_rfl) (by kernel_rfl) (by kernel_rfl) (fun _ _ _ h => h) (Or.inl ⟨by rfl, ?_⟩) (by assumption) ?_
      rotate_left
      · intro w hSw
        (try dsimp only at hSw)
        go_simp
        try with_reducible rfl
      try simp only [Act.put, List.setIfInBounds_toArray, List.set_cons_zero, List.set_cons_succ]
      refine wpAnyH_ready (rs := [16]) (by kernel_rfl) (by simp) ?_
      refine AllReadyH.cons (o := { dst := some 95, op := Op.call { callee := Callee.value (Operand.func 40), args := #[], argTypes := #[] }, type := 4, pos := "outright.go:48", after := #[{ on := 15, ground := Ground.chain }, { on := 15, ground := Ground.guard }], guard := some (15, true) }) rfl (fun K hK => ?_) AllReadyH.nil
      go_simp
      go_at_call 40
      refine (HKN _).mono ?_
      rintro e w' ⟨rfl, hb⟩
      refine hK.out _ _ ?_ (fun hHeld => ?_)
      · exact ⟨rangeAt_later hHeld.1 hb, rangeAt_later hHeld.2.1 hb, hHeld.2.2.later hb⟩
      clear hK K
      try simp only [Act.put, List.setIfInBounds_toArray, List.set_cons_zero, List.set_cons_succ]
      have hB7 := chain hB6 hb
      clear hb
      refine wpAnyH_take (i := 17) (oi := { dst := some 96, op := Op.pick (Operand.tmp 94) (Operand.tmp 95) (Operand.const (Value.bool false)), type := 4, pos := "outright.go:48", after := #[{ on := 15, ground := Ground.data }, { on := 16, ground := Ground.data }], guard := none }) (v := ?_) rfl (by kernel_rfl) (by kernel_rfl) (by kernel_rfl) (fun _ _ _ h => h) (Or.inl ⟨by rfl, ?_⟩) (by assumption) ?_
      rotate_left
      · intro w hSw
        (try dsimp only at hSw)
        go_simp
        try with_reducible rfl
      try simp only [Act.put, List.setIfInBounds_toArray, List.set_cons_zero, List.set_cons_succ]
      refine wpAnyH_take (i := 18) (oi := { dst := some 4, op := Op.assign (Operand.tmp 96), type := 4, pos := "outright.go:48", after := #[{ on := 17, ground := Ground.data }, { on := 16, ground := Ground.chain }, { on := 0, ground := Ground.phase }, { on := 1, ground := Ground.phase }, { on := 2, ground := Ground.phase }, { on := 3, ground := Ground.phase }, { on := 4, ground := Ground.phase }, { on := 5, ground := Ground.phase }, { on := 6, ground := Ground.phase }, { on := 7, ground := Ground.phase }, { on := 8, ground := Ground.phase }, { on := 9, ground := Ground.phase }, { on := 10, ground := Ground.phase }, { on := 11, ground := Ground.phase }, { on := 12, ground := Ground.phase }, { on := 13, ground := Ground.phase }, { on := 14, ground := Ground.phase }, { on := 15, ground := Ground.phase }, { on := 16, ground := Ground.phase }, { on := 17, ground := Ground.phase }], guard := none }) (v := ?_) rfl (by kernel_rfl) (by kernel_rfl) (by kernel_rfl) (fun _ _ _ h => h) (Or.inl ⟨by rfl, ?_⟩) (by assumption) ?_
      rotate_left
      · intro w hSw
        (try dsimp only at hSw)
        go_simp
        try with_reducible rfl
      try simp only [Act.put, List.setIfInBounds_toArray, List.set_cons_zero, List.set_cons_succ]
      refine wpAnyH_done (by kernel_rfl) ?_ _
      go_wp2
      go_ret
      exact ⟨rfl, hB7⟩
end Go.Proofs.Ytiadnifbjdnflaa
