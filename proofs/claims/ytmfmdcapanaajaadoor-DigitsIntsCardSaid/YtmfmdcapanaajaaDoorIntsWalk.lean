/- The walk of the law DigitsInts. -/
import Derived.Test.YtmfmdcapanaajaaDoorWriteN
import Derived.Test.YtmfmdcapanaajaaDoorIntAll
import Derived.Test.YtmfmdcapanaajaaDoorW5
import Derived.Test.YtmfmdcapanaajaaDoorEq
namespace Go.Proofs.YtmfmdcapanaajaaDoor
open Go Go.RowKit Go.Sort
attribute [local go_sem ↓] Go.wp_at_zero Go.wp_at_succ
attribute [local irreducible] G X

theorem neq_same (x y : Int) (w : World) : (binOp .neq 40 (.agg #[.int .i64 x, .int .i64 y]) (.agg #[.int .i64 x, .int .i64 y])).run Tryd.prog w = .ok (.bool false) w := by
  rw [run_neq_struct, agg_equalIn]; simp [Result.andThen_ok]

set_option maxRecDepth 100000 in
set_option maxHeartbeats 16000000 in
theorem ints_any (ah al bh bl n : Int) (w : World) (ah0 : -9223372036854775808 ≤ ah) (ah1 : ah ≤ 9223372036854775807) (al0 : -9223372036854775808 ≤ al) (al1 : al ≤ 9223372036854775807) (bh0 : -9223372036854775808 ≤ bh) (bh1 : bh ≤ 9223372036854775807) (bl0 : -9223372036854775808 ≤ bl) (bl1 : bl ≤ 9223372036854775807) (n0 : -9223372036854775808 ≤ n) (n1 : n ≤ 9223372036854775807) (htab : Lib.TabIs Tryd.prog w "internal/strconv.uint64pow10" .u64 Lib.pow10Tab) :
    Calls Tryd.prog 5 #[.agg #[.int .i64 ah, .int .i64 al], .agg #[.int .i64 bh, .int .i64 bl], .int .i64 n] w fun e w' => e = .returned (.bool true) ∧ Below w.heap.size w w' := by
  have HNA := fun W => number_n ah al W ah0 ah1 al0 al1
  have HNB := fun W => number_n bh bl W bh0 bh1 bl0 bl1
  have HOF := fun W => of_any n W n0 n1
  have HON := fun W => of0_n n W n0 n1
  have HIN := fun W => int_n n W (by omega) (by omega)
  have HNO := fun W => normal_any ah al W ah0 ah1 al0 al1
  have HIA := fun W => int_all (ah * 4611686018427387904 + al) W (by omega) (by omega)
  have HPL := fun W => plus_any ah al bh bl W ah0 ah1 al0 al1 bh0 bh1 bl0 bl1
  have HAD := fun W => add_n (ah * 4611686018427387904 + al) (bh * 4611686018427387904 + bl) W (by omega) (by omega) (by omega) (by omega)
  have HIP := fun W => int_all (ah * 4611686018427387904 + al + (bh * 4611686018427387904 + bl)) W (by omega) (by omega)
  have HMI := fun W => Minus_any ah al bh bl W ah0 ah1 al0 al1 bh0 bh1 bl0 bl1
  have HNG := fun W => neg_n (bh * 4611686018427387904 + bl) W (by omega) (by omega)
  have HAM := fun W => add_n (ah * 4611686018427387904 + al) (-(bh * 4611686018427387904 + bl)) W (by omega) (by omega) (by omega) (by omega)
  have HIM := fun W => int_all (ah * 4611686018427387904 + al - (bh * 4611686018427387904 + bl)) W (by omega) (by omega)
  have HLE := fun W => less_any ah al bh bl W ah0 ah1 al0 al1 bh0 bh1 bl0 bl1
  have HLR := fun W => less_n27 (ah * 4611686018427387904 + al) (bh * 4611686018427387904 + bl) W (by omega) (by omega) (by omega) (by omega) (by omega) (by omega)
  have HWR := fun W ht => write_n ah al W ah0 ah1 al0 al1 ht
  have HTX := fun W => text_all (ah * 4611686018427387904 + al) W (by omega) (by omega)
  rw [show ah * 4611686018427387904 + al + -(bh * 4611686018427387904 + bl) = ah * 4611686018427387904 + al - (bh * 4611686018427387904 + bl) by omega] at HAM
  rw [show decide (ah * 4611686018427387904 + al + -(bh * 4611686018427387904 + bl) < 0) = decide (ah * 4611686018427387904 + al < bh * 4611686018427387904 + bl) by rw [decide_eq_decide]; omega] at HLR
  unfold nV at HIA HIP HIM
  generalize n / 4611686018427387904 = p1 at *
  generalize n % 4611686018427387904 = q1 at *
  generalize sH ((ah * 4611686018427387904 + al) / 4611686018427387904) = p2 at *
  generalize sL ((ah * 4611686018427387904 + al) / 4611686018427387904) ((ah * 4611686018427387904 + al) % 4611686018427387904) = q2 at *
  generalize sH ((ah * 4611686018427387904 + al + (bh * 4611686018427387904 + bl)) / 4611686018427387904) = p3 at *
  generalize sL ((ah * 4611686018427387904 + al + (bh * 4611686018427387904 + bl)) / 4611686018427387904) ((ah * 4611686018427387904 + al + (bh * 4611686018427387904 + bl)) % 4611686018427387904) = q3 at *
  generalize sH ((ah * 4611686018427387904 + al - (bh * 4611686018427387904 + bl)) / 4611686018427387904) = p4 at *
  generalize sL ((ah * 4611686018427387904 + al - (bh * 4611686018427387904 + bl)) / 4611686018427387904) ((ah * 4611686018427387904 + al - (bh * 4611686018427387904 + bl)) % 4611686018427387904) = q4 at *
  generalize decide (ah * 4611686018427387904 + al < bh * 4611686018427387904 + bl) = r at *
  generalize Lib.itoa (ah * 4611686018427387904 + al) = tx at *
  generalize ah * 4611686018427387904 + al + (bh * 4611686018427387904 + bl) = vp at *
  generalize ah * 4611686018427387904 + al - (bh * 4611686018427387904 + bl) = vm at *
  generalize ah * 4611686018427387904 + al = va at *
  generalize bh * 4611686018427387904 + bl = vb at *
  have E1 := fun W => neq_same p1 q1 W
  have E2 := fun W => neq_same p2 q2 W
  have E3 := fun W => neq_same p3 q3 W
  have E4 := fun W => neq_same p4 q4 W
  have HTAB := Lib.hid htab
  clear htab
  go_enter Tryd.func5, Tryd.ntmps5
  have hA0 := World.rangeAt_alloc (rangeAt_new w (#[.int .i64 ah, .int .i64 al] : Array Value) 40) (.cells (#[.int .i64 bh, .int .i64 bl] : Array Value) 40)
  have hA1 := rangeAt_new (w.alloc (.cells (#[.int .i64 ah, .int .i64 al] : Array Value) 40)) (#[.int .i64 bh, .int .i64 bl] : Array Value) 40
  simp only [World.size_alloc] at hA1
  have hB := (below2 w (.cells (#[.int .i64 ah, .int .i64 al] : Array Value) 40) (.cells (#[.int .i64 bh, .int .i64 bl] : Array Value) 40)).drew
  have hs := sizeA2 w (.cells (#[.int .i64 ah, .int .i64 al] : Array Value) 40) (.cells (#[.int .i64 bh, .int .i64 bl] : Array Value) 40)
  have hS4 : (fun w' => w'.rangeAt w.heap.size 0 (#[.int .i64 ah, .int .i64 al] : Array Value).toList ∧ w'.rangeAt (w.heap.size + 1) 0 (#[.int .i64 bh, .int .i64 bl] : Array Value).toList) ((w.alloc (.cells (#[.int .i64 ah, .int .i64 al] : Array Value) 40)).alloc (.cells (#[.int .i64 bh, .int .i64 bl] : Array Value) 40)).drew := ⟨(World.rangeAt_drew _ _ _ _).2 hA0, (World.rangeAt_drew _ _ _ _).2 hA1⟩
  clear hA0 hA1
  go_wp2
  generalize ((w.alloc (.cells (#[.int .i64 ah, .int .i64 al] : Array Value) 40)).alloc (.cells (#[.int .i64 bh, .int .i64 bl] : Array Value) 40)) = w4 at *
  rename_i K aK
  have HK : ∀ (D1 D2 : Nat) (W : World), (fun w' : World => w'.rangeAt w.heap.size 0 (#[.int .i64 ah, .int .i64 al] : Array Value).toList ∧ w'.rangeAt (w.heap.size + 1) 0 (#[.int .i64 bh, .int .i64 bl] : Array Value).toList ∧ w'.rangeAt D1 0 (sV va).toList ∧ w'.rangeAt D2 0 (sV vb).toList) W → Below w.heap.size w W → K { tmps := (Value.agg (#[.int .i64 ah, .int .i64 al] : Array Value) :: Value.agg (#[.int .i64 bh, .int .i64 bl] : Array Value) :: Value.int .i64 n :: Value.pointer (some ⟨w.heap.size, 0, none⟩) :: Value.pointer (some ⟨w.heap.size + 1, 0, none⟩) :: undef :: Value.bool false :: Value.pointer (some ⟨D1, 0, none⟩) :: Value.pointer (some ⟨D2, 0, none⟩) :: Value.agg (#[.int .i64 ah, .int .i64 al] : Array Value) :: Value.agg (sV va) :: Value.agg (#[.int .i64 bh, .int .i64 bl] : Array Value) :: Value.agg (sV vb) :: undef :: undef :: undef :: undef :: undef :: undef :: undef :: undef :: undef :: undef :: undef :: undef :: undef :: undef :: undef :: undef :: undef :: undef :: undef :: undef :: undef :: undef :: undef :: undef :: undef :: undef :: undef :: undef :: undef :: undef :: undef :: undef :: undef :: undef :: undef :: undef :: undef :: undef :: undef :: undef :: undef :: undef :: undef :: undef :: undef :: undef :: undef :: undef :: undef :: undef :: undef :: []).toArray, defers := [] } W := by
    intro D1 D2 W hS hB2
    clear hS4 hB hs HNA HNB
    have HS := Lib.hid hS
    have HB2 := Lib.hid hB2
    clear hS hB2
    refine aK _ _ ?_
    clear aK
    have hS5 : (fun w' : World => w'.rangeAt w.heap.size 0 (#[.int .i64 ah, .int .i64 al] : Array Value).toList ∧ w'.rangeAt (w.heap.size + 1) 0 (#[.int .i64 bh, .int .i64 bl] : Array Value).toList ∧ w'.rangeAt D1 0 (sV va).toList ∧ w'.rangeAt D2 0 (sV vb).toList) W.drew := ⟨(World.rangeAt_drew _ _ _ _).2 HS.out.1, (World.rangeAt_drew _ _ _ _).2 HS.out.2.1, (World.rangeAt_drew _ _ _ _).2 HS.out.2.2.1, (World.rangeAt_drew _ _ _ _).2 HS.out.2.2.2⟩
    have hB3 := (HB2.out).drew
    go_wp2
    refine wp_region_held_drew (S := (fun w' : World => w'.rangeAt w.heap.size 0 (#[.int .i64 ah, .int .i64 al] : Array Value).toList ∧ w'.rangeAt (w.heap.size + 1) 0 (#[.int .i64 bh, .int .i64 bl] : Array Value).toList ∧ w'.rangeAt D1 0 (sV va).toList ∧ w'.rangeAt D2 0 (sV vb).toList)) (by kernel_rfl) hS5 (fun hHeld => ?_)
    generalize W.drew = w6 at *
    refine wpAnyH_take (i := 0) (oi := { dst := some 13, op := Op.move (Operand.tmp 2), type := 2, pos := "law.go:38", after := #[], guard := none }) (v := ?_) rfl (by kernel_rfl) (by kernel_rfl) (by kernel_rfl) (fun _ _ _ h => h) (Or.inl ⟨by rfl, ?_⟩) (by assumption) ?_
    rotate_left
    · intro w hSw
      (try dsimp only at hSw)
      go_simp
      try with_reducible rfl
    try simp only [Act.put, List.setIfInBounds_toArray, List.set_cons_zero, List.set_cons_succ]
    refine wpAnyH_take (i := 2) (oi := { dst := some 15, op := Op.move (Operand.tmp 2), type := 2, pos := "law.go:38", after := #[], guard := none }) (v := ?_) rfl (by kernel_rfl) (by kernel_rfl) (by kernel_rfl) (fun _ _ _ h => h) (Or.inl ⟨by rfl, ?_⟩) (by assumption) ?_
    rotate_left
    · intro w hSw
      (try dsimp only at hSw)
      go_simp
      try with_reducible rfl
    try simp only [Act.put, List.setIfInBounds_toArray, List.set_cons_zero, List.set_cons_succ]
    refine wpAnyH_ready (rs := [1]) (by kernel_rfl) (by simp) ?_
    refine AllReadyH.cons (o := { dst := some 14, op := Op.call { callee := Callee.value (Operand.func 21), args := #[Operand.tmp 13], argTypes := #[2] }, type := 40, pos := "law.go:38", after := #[{ on := 0, ground := Ground.data }], guard := none }) rfl (fun K hK => ?_) AllReadyH.nil
    go_simp
    go_at_call 21
    refine (HOF _).mono ?_
    rintro e w' ⟨rfl, hb⟩
    refine hK.out _ _ ?_ (fun hHeld => ?_)
    · exact ⟨rangeAt_later hHeld.1 hb, rangeAt_later hHeld.2.1 hb, rangeAt_later hHeld.2.2.1 hb, rangeAt_later hHeld.2.2.2 hb⟩
    clear hK K
    try simp only [Act.put, List.setIfInBounds_toArray, List.set_cons_zero, List.set_cons_succ]
    have hC1 := chainB' hB3 hb hB3.size
    clear hb
    refine wpAnyH_ready (rs := [3]) (by kernel_rfl) (by simp) ?_
    refine AllReadyH.cons (o := { dst := some 16, op := Op.call { callee := Callee.value (Operand.func 13), args := #[Operand.tmp 15, Operand.const (Value.int IntKind.i64 0)], argTypes := #[2, 3] }, type := 27, pos := "law.go:38", after := #[{ on := 2, ground := Ground.data }, { on := 1, ground := Ground.chain }], guard := none }) rfl (fun K hK => ?_) AllReadyH.nil
    go_simp
    go_at_call 13
    refine (HON _).mono ?_
    rintro e w' ⟨rfl, hb⟩
    refine hK.out _ _ ?_ (fun hHeld => ?_)
    · exact ⟨rangeAt_later hHeld.1 hb, rangeAt_later hHeld.2.1 hb, rangeAt_later hHeld.2.2.1 hb, rangeAt_later hHeld.2.2.2 hb⟩
    clear hK K
    try simp only [Act.put, List.setIfInBounds_toArray, List.set_cons_zero, List.set_cons_succ]
    have hC2 := chainB' hC1 hb hC1.size
    clear hb
    refine wpAnyH_ready (rs := [4]) (by kernel_rfl) (by simp) ?_
    refine AllReadyH.cons (o := { dst := some 17, op := Op.call { callee := Callee.value (Operand.func 22), args := #[Operand.tmp 16], argTypes := #[27] }, type := 40, pos := "law.go:38", after := #[{ on := 3, ground := Ground.data }, { on := 3, ground := Ground.chain }], guard := none }) rfl (fun K hK => ?_) AllReadyH.nil
    go_simp
    go_at_call 22
    refine (HIN _).mono ?_
    rintro e w' ⟨rfl, hb⟩
    refine hK.out _ _ ?_ (fun hHeld => ?_)
    · exact ⟨rangeAt_later hHeld.1 hb, rangeAt_later hHeld.2.1 hb, rangeAt_later hHeld.2.2.1 hb, rangeAt_later hHeld.2.2.2 hb⟩
    clear hK K
    try simp only [Act.put, List.setIfInBounds_toArray, List.set_cons_zero, List.set_cons_succ]
    have hC3 := chainB' hC2 hb hC2.size
    clear hb
    refine wpAnyH_take (i := 5) (oi := { dst := some 18, op := Op.binOp BinOp.neq 40 (Operand.tmp 14) (Operand.tmp 17) 40, type := 4, pos := "law.go:38", after := #[{ on := 1, ground := Ground.data }, { on := 4, ground := Ground.data }], guard := none }) (v := .bool false) rfl (by kernel_rfl) (by kernel_rfl) (by kernel_rfl) (fun _ _ _ h => h) (Or.inl ⟨by rfl, ?_⟩) (by assumption) ?_
    · intro w hSw
      (try dsimp only at hSw)
      have hneq := E1 w
      go_simp
      try with_reducible rfl
    try simp only [Act.put, List.setIfInBounds_toArray, List.set_cons_zero, List.set_cons_succ]
    refine wpAnyH_take (i := 6) (oi := { dst := some 19, op := Op.move (Operand.tmp 18), type := 4, pos := "law.go:38", after := #[{ on := 5, ground := Ground.data }, { on := 4, ground := Ground.chain }], guard := none }) (v := ?_) rfl (by kernel_rfl) (by kernel_rfl) (by kernel_rfl) (fun _ _ _ h => h) (Or.inl ⟨by rfl, ?_⟩) (by assumption) ?_
    rotate_left
    · intro w hSw
      (try dsimp only at hSw)
      go_simp
      try with_reducible rfl
    try simp only [Act.put, List.setIfInBounds_toArray, List.set_cons_zero, List.set_cons_succ]
    refine wpAnyH_take (i := 7) (oi := { dst := some 20, op := Op.load 40 (Operand.tmp 3), type := 40, pos := "law.go:38", after := #[{ on := 6, ground := Ground.guard }], guard := some (6, false) }) (v := _) rfl (by kernel_rfl) (by kernel_rfl) (by kernel_rfl) (fun _ _ _ h => h) (yieldsIf_load_mid (by rfl) _ _ rfl _ _ rfl _ _ (fun w hSw => hSw.1) Tryd.underlying40 rfl (by kernel_rfl)) (by assumption) ?_
    try simp only [Act.put, List.setIfInBounds_toArray, List.set_cons_zero, List.set_cons_succ]
    refine wpAnyH_take (i := 9) (oi := { dst := some 22, op := Op.load 27 (Operand.tmp 7), type := 27, pos := "law.go:38", after := #[{ on := 6, ground := Ground.guard }], guard := some (6, false) }) (v := _) rfl (by kernel_rfl) (by kernel_rfl) (by kernel_rfl) (fun _ _ _ h => h) (yieldsIf_load_mid (by rfl) _ _ rfl _ _ rfl _ _ (fun w hSw => hSw.2.2.1) Tryd.underlying27 rfl (by kernel_rfl)) (by assumption) ?_
    try simp only [Act.put, List.setIfInBounds_toArray, List.set_cons_zero, List.set_cons_succ]
    refine wpAnyH_ready (rs := [8]) (by kernel_rfl) (by simp) ?_
    refine AllReadyH.cons (o := { dst := some 21, op := Op.call { callee := Callee.value (Operand.func 23), args := #[Operand.tmp 20], argTypes := #[40] }, type := 40, pos := "law.go:38", after := #[{ on := 7, ground := Ground.data }, { on := 6, ground := Ground.chain }, { on := 6, ground := Ground.guard }], guard := some (6, false) }) rfl (fun K hK => ?_) AllReadyH.nil
    go_simp
    go_at_call 23
    refine (HNO _).mono ?_
    rintro e w' ⟨rfl, hb⟩
    refine hK.out _ _ ?_ (fun hHeld => ?_)
    · exact ⟨rangeAt_later hHeld.1 hb, rangeAt_later hHeld.2.1 hb, rangeAt_later hHeld.2.2.1 hb, rangeAt_later hHeld.2.2.2 hb⟩
    clear hK K
    try simp only [Act.put, List.setIfInBounds_toArray, List.set_cons_zero, List.set_cons_succ]
    have hC4 := chainB' hC3 hb hC3.size
    clear hb
    refine wpAnyH_ready (rs := [10]) (by kernel_rfl) (by simp) ?_
    refine AllReadyH.cons (o := { dst := some 23, op := Op.call { callee := Callee.value (Operand.func 22), args := #[Operand.tmp 22], argTypes := #[27] }, type := 40, pos := "law.go:38", after := #[{ on := 9, ground := Ground.data }, { on := 8, ground := Ground.chain }, { on := 6, ground := Ground.guard }], guard := some (6, false) }) rfl (fun K hK => ?_) AllReadyH.nil
    go_simp
    go_at_call 22
    refine (HIA _).mono ?_
    rintro e w' ⟨rfl, hb⟩
    refine hK.out _ _ ?_ (fun hHeld => ?_)
    · exact ⟨rangeAt_later hHeld.1 hb, rangeAt_later hHeld.2.1 hb, rangeAt_later hHeld.2.2.1 hb, rangeAt_later hHeld.2.2.2 hb⟩
    clear hK K
    try simp only [Act.put, List.setIfInBounds_toArray, List.set_cons_zero, List.set_cons_succ]
    have hC5 := chainB' hC4 hb hC4.size
    clear hb
    refine wpAnyH_take (i := 11) (oi := { dst := some 24, op := Op.binOp BinOp.neq 40 (Operand.tmp 21) (Operand.tmp 23) 40, type := 4, pos := "law.go:38", after := #[{ on := 8, ground := Ground.data }, { on := 10, ground := Ground.data }, { on := 6, ground := Ground.guard }], guard := some (6, false) }) (v := .bool false) rfl (by kernel_rfl) (by kernel_rfl) (by kernel_rfl) (fun _ _ _ h => h) (Or.inl ⟨by rfl, ?_⟩) (by assumption) ?_
    · intro w hSw
      (try dsimp only at hSw)
      have hneq := E2 w
      go_simp
      try with_reducible rfl
    try simp only [Act.put, List.setIfInBounds_toArray, List.set_cons_zero, List.set_cons_succ]
    refine wpAnyH_take (i := 12) (oi := { dst := some 25, op := Op.pick (Operand.tmp 19) (Operand.const (Value.bool true)) (Operand.tmp 24), type := 4, pos := "law.go:38", after := #[{ on := 6, ground := Ground.data }, { on := 11, ground := Ground.data }], guard := none }) (v := ?_) rfl (by kernel_rfl) (by kernel_rfl) (by kernel_rfl) (fun _ _ _ h => h) (Or.inl ⟨by rfl, ?_⟩) (by assumption) ?_
    rotate_left
    · intro w hSw
      (try dsimp only at hSw)
      go_simp
      try with_reducible rfl
    try simp only [Act.put, List.setIfInBounds_toArray, List.set_cons_zero, List.set_cons_succ]
    refine wpAnyH_take (i := 13) (oi := { dst := some 26, op := Op.move (Operand.tmp 25), type := 4, pos := "law.go:38", after := #[{ on := 12, ground := Ground.data }, { on := 10, ground := Ground.chain }], guard := none }) (v := ?_) rfl (by kernel_rfl) (by kernel_rfl) (by kernel_rfl) (fun _ _ _ h => h) (Or.inl ⟨by rfl, ?_⟩) (by assumption) ?_
    rotate_left
    · intro w hSw
      (try dsimp only at hSw)
      go_simp
      try with_reducible rfl
    try simp only [Act.put, List.setIfInBounds_toArray, List.set_cons_zero, List.set_cons_succ]
    refine wpAnyH_take (i := 14) (oi := { dst := some 27, op := Op.load 40 (Operand.tmp 3), type := 40, pos := "law.go:38", after := #[{ on := 13, ground := Ground.guard }], guard := some (13, false) }) (v := _) rfl (by kernel_rfl) (by kernel_rfl) (by kernel_rfl) (fun _ _ _ h => h) (yieldsIf_load_mid (by rfl) _ _ rfl _ _ rfl _ _ (fun w hSw => hSw.1) Tryd.underlying40 rfl (by kernel_rfl)) (by assumption) ?_
    try simp only [Act.put, List.setIfInBounds_toArray, List.set_cons_zero, List.set_cons_succ]
    refine wpAnyH_take (i := 15) (oi := { dst := some 28, op := Op.load 40 (Operand.tmp 4), type := 40, pos := "law.go:38", after := #[{ on := 13, ground := Ground.guard }], guard := some (13, false) }) (v := _) rfl (by kernel_rfl) (by kernel_rfl) (by kernel_rfl) (fun _ _ _ h => h) (yieldsIf_load_mid (by rfl) _ _ rfl _ _ rfl _ _ (fun w hSw => hSw.2.1) Tryd.underlying40 rfl (by kernel_rfl)) (by assumption) ?_
    try simp only [Act.put, List.setIfInBounds_toArray, List.set_cons_zero, List.set_cons_succ]
    refine wpAnyH_take (i := 17) (oi := { dst := some 30, op := Op.load 27 (Operand.tmp 7), type := 27, pos := "law.go:38", after := #[{ on := 13, ground := Ground.guard }], guard := some (13, false) }) (v := _) rfl (by kernel_rfl) (by kernel_rfl) (by kernel_rfl) (fun _ _ _ h => h) (yieldsIf_load_mid (by rfl) _ _ rfl _ _ rfl _ _ (fun w hSw => hSw.2.2.1) Tryd.underlying27 rfl (by kernel_rfl)) (by assumption) ?_
    try simp only [Act.put, List.setIfInBounds_toArray, List.set_cons_zero, List.set_cons_succ]
    refine wpAnyH_take (i := 18) (oi := { dst := some 31, op := Op.load 27 (Operand.tmp 8), type := 27, pos := "law.go:38", after := #[{ on := 13, ground := Ground.guard }], guard := some (13, false) }) (v := _) rfl (by kernel_rfl) (by kernel_rfl) (by kernel_rfl) (fun _ _ _ h => h) (yieldsIf_load_mid (by rfl) _ _ rfl _ _ rfl _ _ (fun w hSw => hSw.2.2.2) Tryd.underlying27 rfl (by kernel_rfl)) (by assumption) ?_
    try simp only [Act.put, List.setIfInBounds_toArray, List.set_cons_zero, List.set_cons_succ]
    refine wpAnyH_ready (rs := [16]) (by kernel_rfl) (by simp) ?_
    refine AllReadyH.cons (o := { dst := some 29, op := Op.call { callee := Callee.value (Operand.func 24), args := #[Operand.tmp 27, Operand.tmp 28], argTypes := #[40, 40] }, type := 40, pos := "law.go:38", after := #[{ on := 14, ground := Ground.data }, { on := 15, ground := Ground.data }, { on := 13, ground := Ground.chain }, { on := 13, ground := Ground.guard }], guard := some (13, false) }) rfl (fun K hK => ?_) AllReadyH.nil
    go_simp
    go_at_call 24
    refine (HPL _).mono ?_
    rintro e w' ⟨rfl, hb⟩
    refine hK.out _ _ ?_ (fun hHeld => ?_)
    · exact ⟨rangeAt_later hHeld.1 hb, rangeAt_later hHeld.2.1 hb, rangeAt_later hHeld.2.2.1 hb, rangeAt_later hHeld.2.2.2 hb⟩
    clear hK K
    try simp only [Act.put, List.setIfInBounds_toArray, List.set_cons_zero, List.set_cons_succ]
    have hC6 := chainB' hC5 hb hC5.size
    clear hb
    refine wpAnyH_ready (rs := [19]) (by kernel_rfl) (by simp) ?_
    refine AllReadyH.cons (o := { dst := some 32, op := Op.call { callee := Callee.value (Operand.func 12), args := #[Operand.tmp 30, Operand.tmp 31], argTypes := #[27, 27] }, type := 27, pos := "law.go:38", after := #[{ on := 17, ground := Ground.data }, { on := 18, ground := Ground.data }, { on := 16, ground := Ground.chain }, { on := 13, ground := Ground.guard }], guard := some (13, false) }) rfl (fun K hK => ?_) AllReadyH.nil
    go_simp
    go_at_call 12
    refine (HAD _).mono ?_
    rintro e w' ⟨rfl, hb⟩
    refine hK.out _ _ ?_ (fun hHeld => ?_)
    · exact ⟨rangeAt_later hHeld.1 hb, rangeAt_later hHeld.2.1 hb, rangeAt_later hHeld.2.2.1 hb, rangeAt_later hHeld.2.2.2 hb⟩
    clear hK K
    try simp only [Act.put, List.setIfInBounds_toArray, List.set_cons_zero, List.set_cons_succ]
    have hC7 := chainB' hC6 hb hC6.size
    clear hb
    refine wpAnyH_ready (rs := [20]) (by kernel_rfl) (by simp) ?_
    refine AllReadyH.cons (o := { dst := some 33, op := Op.call { callee := Callee.value (Operand.func 22), args := #[Operand.tmp 32], argTypes := #[27] }, type := 40, pos := "law.go:38", after := #[{ on := 19, ground := Ground.data }, { on := 19, ground := Ground.chain }, { on := 13, ground := Ground.guard }], guard := some (13, false) }) rfl (fun K hK => ?_) AllReadyH.nil
    go_simp
    go_at_call 22
    refine (HIP _).mono ?_
    rintro e w' ⟨rfl, hb⟩
    refine hK.out _ _ ?_ (fun hHeld => ?_)
    · exact ⟨rangeAt_later hHeld.1 hb, rangeAt_later hHeld.2.1 hb, rangeAt_later hHeld.2.2.1 hb, rangeAt_later hHeld.2.2.2 hb⟩
    clear hK K
    try simp only [Act.put, List.setIfInBounds_toArray, List.set_cons_zero, List.set_cons_succ]
    have hC8 := chainB' hC7 hb hC7.size
    clear hb
    refine wpAnyH_take (i := 21) (oi := { dst := some 34, op := Op.binOp BinOp.neq 40 (Operand.tmp 29) (Operand.tmp 33) 40, type := 4, pos := "law.go:38", after := #[{ on := 16, ground := Ground.data }, { on := 20, ground := Ground.data }, { on := 13, ground := Ground.guard }], guard := some (13, false) }) (v := .bool false) rfl (by kernel_rfl) (by kernel_rfl) (by kernel_rfl) (fun _ _ _ h => h) (Or.inl ⟨by rfl, ?_⟩) (by assumption) ?_
    · intro w hSw
      (try dsimp only at hSw)
      have hneq := E3 w
      go_simp
      try with_reducible rfl
    try simp only [Act.put, List.setIfInBounds_toArray, List.set_cons_zero, List.set_cons_succ]
    refine wpAnyH_take (i := 22) (oi := { dst := some 35, op := Op.pick (Operand.tmp 26) (Operand.const (Value.bool true)) (Operand.tmp 34), type := 4, pos := "law.go:38", after := #[{ on := 13, ground := Ground.data }, { on := 21, ground := Ground.data }], guard := none }) (v := ?_) rfl (by kernel_rfl) (by kernel_rfl) (by kernel_rfl) (fun _ _ _ h => h) (Or.inl ⟨by rfl, ?_⟩) (by assumption) ?_
    rotate_left
    · intro w hSw
      (try dsimp only at hSw)
      go_simp
      try with_reducible rfl
    try simp only [Act.put, List.setIfInBounds_toArray, List.set_cons_zero, List.set_cons_succ]
    refine wpAnyH_take (i := 23) (oi := { dst := some 36, op := Op.move (Operand.tmp 35), type := 4, pos := "law.go:38", after := #[{ on := 22, ground := Ground.data }, { on := 20, ground := Ground.chain }], guard := none }) (v := ?_) rfl (by kernel_rfl) (by kernel_rfl) (by kernel_rfl) (fun _ _ _ h => h) (Or.inl ⟨by rfl, ?_⟩) (by assumption) ?_
    rotate_left
    · intro w hSw
      (try dsimp only at hSw)
      go_simp
      try with_reducible rfl
    try simp only [Act.put, List.setIfInBounds_toArray, List.set_cons_zero, List.set_cons_succ]
    refine wpAnyH_take (i := 24) (oi := { dst := some 37, op := Op.load 40 (Operand.tmp 3), type := 40, pos := "law.go:38", after := #[{ on := 23, ground := Ground.guard }], guard := some (23, false) }) (v := _) rfl (by kernel_rfl) (by kernel_rfl) (by kernel_rfl) (fun _ _ _ h => h) (yieldsIf_load_mid (by rfl) _ _ rfl _ _ rfl _ _ (fun w hSw => hSw.1) Tryd.underlying40 rfl (by kernel_rfl)) (by assumption) ?_
    try simp only [Act.put, List.setIfInBounds_toArray, List.set_cons_zero, List.set_cons_succ]
    refine wpAnyH_take (i := 25) (oi := { dst := some 38, op := Op.load 40 (Operand.tmp 4), type := 40, pos := "law.go:38", after := #[{ on := 23, ground := Ground.guard }], guard := some (23, false) }) (v := _) rfl (by kernel_rfl) (by kernel_rfl) (by kernel_rfl) (fun _ _ _ h => h) (yieldsIf_load_mid (by rfl) _ _ rfl _ _ rfl _ _ (fun w hSw => hSw.2.1) Tryd.underlying40 rfl (by kernel_rfl)) (by assumption) ?_
    try simp only [Act.put, List.setIfInBounds_toArray, List.set_cons_zero, List.set_cons_succ]
    refine wpAnyH_take (i := 27) (oi := { dst := some 40, op := Op.load 27 (Operand.tmp 7), type := 27, pos := "law.go:38", after := #[{ on := 23, ground := Ground.guard }], guard := some (23, false) }) (v := _) rfl (by kernel_rfl) (by kernel_rfl) (by kernel_rfl) (fun _ _ _ h => h) (yieldsIf_load_mid (by rfl) _ _ rfl _ _ rfl _ _ (fun w hSw => hSw.2.2.1) Tryd.underlying27 rfl (by kernel_rfl)) (by assumption) ?_
    try simp only [Act.put, List.setIfInBounds_toArray, List.set_cons_zero, List.set_cons_succ]
    refine wpAnyH_take (i := 28) (oi := { dst := some 41, op := Op.load 27 (Operand.tmp 8), type := 27, pos := "law.go:38", after := #[{ on := 23, ground := Ground.guard }], guard := some (23, false) }) (v := _) rfl (by kernel_rfl) (by kernel_rfl) (by kernel_rfl) (fun _ _ _ h => h) (yieldsIf_load_mid (by rfl) _ _ rfl _ _ rfl _ _ (fun w hSw => hSw.2.2.2) Tryd.underlying27 rfl (by kernel_rfl)) (by assumption) ?_
    try simp only [Act.put, List.setIfInBounds_toArray, List.set_cons_zero, List.set_cons_succ]
    refine wpAnyH_ready (rs := [26]) (by kernel_rfl) (by simp) ?_
    refine AllReadyH.cons (o := { dst := some 39, op := Op.call { callee := Callee.value (Operand.func 25), args := #[Operand.tmp 37, Operand.tmp 38], argTypes := #[40, 40] }, type := 40, pos := "law.go:38", after := #[{ on := 24, ground := Ground.data }, { on := 25, ground := Ground.data }, { on := 23, ground := Ground.chain }, { on := 23, ground := Ground.guard }], guard := some (23, false) }) rfl (fun K hK => ?_) AllReadyH.nil
    go_simp
    go_at_call 25
    refine (HMI _).mono ?_
    rintro e w' ⟨rfl, hb⟩
    refine hK.out _ _ ?_ (fun hHeld => ?_)
    · exact ⟨rangeAt_later hHeld.1 hb, rangeAt_later hHeld.2.1 hb, rangeAt_later hHeld.2.2.1 hb, rangeAt_later hHeld.2.2.2 hb⟩
    clear hK K
    try simp only [Act.put, List.setIfInBounds_toArray, List.set_cons_zero, List.set_cons_succ]
    have hC9 := chainB' hC8 hb hC8.size
    clear hb
    refine wpAnyH_ready (rs := [29]) (by kernel_rfl) (by simp) ?_
    refine AllReadyH.cons (o := { dst := some 42, op := Op.call { callee := Callee.value (Operand.func 14), args := #[Operand.tmp 41], argTypes := #[27] }, type := 27, pos := "law.go:38", after := #[{ on := 28, ground := Ground.data }, { on := 26, ground := Ground.chain }, { on := 23, ground := Ground.guard }], guard := some (23, false) }) rfl (fun K hK => ?_) AllReadyH.nil
    go_simp
    go_at_call 14
    refine (HNG _).mono ?_
    rintro e w' ⟨rfl, hb⟩
    refine hK.out _ _ ?_ (fun hHeld => ?_)
    · exact ⟨rangeAt_later hHeld.1 hb, rangeAt_later hHeld.2.1 hb, rangeAt_later hHeld.2.2.1 hb, rangeAt_later hHeld.2.2.2 hb⟩
    clear hK K
    try simp only [Act.put, List.setIfInBounds_toArray, List.set_cons_zero, List.set_cons_succ]
    have hC10 := chainB' hC9 hb hC9.size
    clear hb
    refine wpAnyH_ready (rs := [30]) (by kernel_rfl) (by simp) ?_
    refine AllReadyH.cons (o := { dst := some 43, op := Op.call { callee := Callee.value (Operand.func 12), args := #[Operand.tmp 40, Operand.tmp 42], argTypes := #[27, 27] }, type := 27, pos := "law.go:38", after := #[{ on := 27, ground := Ground.data }, { on := 29, ground := Ground.data }, { on := 29, ground := Ground.chain }, { on := 23, ground := Ground.guard }], guard := some (23, false) }) rfl (fun K hK => ?_) AllReadyH.nil
    go_simp
    go_at_call 12
    refine (HAM _).mono ?_
    rintro e w' ⟨rfl, hb⟩
    refine hK.out _ _ ?_ (fun hHeld => ?_)
    · exact ⟨rangeAt_later hHeld.1 hb, rangeAt_later hHeld.2.1 hb, rangeAt_later hHeld.2.2.1 hb, rangeAt_later hHeld.2.2.2 hb⟩
    clear hK K
    try simp only [Act.put, List.setIfInBounds_toArray, List.set_cons_zero, List.set_cons_succ]
    have hC11 := chainB' hC10 hb hC10.size
    clear hb
    refine wpAnyH_ready (rs := [31]) (by kernel_rfl) (by simp) ?_
    refine AllReadyH.cons (o := { dst := some 44, op := Op.call { callee := Callee.value (Operand.func 22), args := #[Operand.tmp 43], argTypes := #[27] }, type := 40, pos := "law.go:38", after := #[{ on := 30, ground := Ground.data }, { on := 30, ground := Ground.chain }, { on := 23, ground := Ground.guard }], guard := some (23, false) }) rfl (fun K hK => ?_) AllReadyH.nil
    go_simp
    go_at_call 22
    refine (HIM _).mono ?_
    rintro e w' ⟨rfl, hb⟩
    refine hK.out _ _ ?_ (fun hHeld => ?_)
    · exact ⟨rangeAt_later hHeld.1 hb, rangeAt_later hHeld.2.1 hb, rangeAt_later hHeld.2.2.1 hb, rangeAt_later hHeld.2.2.2 hb⟩
    clear hK K
    try simp only [Act.put, List.setIfInBounds_toArray, List.set_cons_zero, List.set_cons_succ]
    have hC12 := chainB' hC11 hb hC11.size
    clear hb
    refine wpAnyH_take (i := 32) (oi := { dst := some 45, op := Op.binOp BinOp.neq 40 (Operand.tmp 39) (Operand.tmp 44) 40, type := 4, pos := "law.go:38", after := #[{ on := 26, ground := Ground.data }, { on := 31, ground := Ground.data }, { on := 23, ground := Ground.guard }], guard := some (23, false) }) (v := .bool false) rfl (by kernel_rfl) (by kernel_rfl) (by kernel_rfl) (fun _ _ _ h => h) (Or.inl ⟨by rfl, ?_⟩) (by assumption) ?_
    · intro w hSw
      (try dsimp only at hSw)
      have hneq := E4 w
      go_simp
      try with_reducible rfl
    try simp only [Act.put, List.setIfInBounds_toArray, List.set_cons_zero, List.set_cons_succ]
    refine wpAnyH_take (i := 33) (oi := { dst := some 46, op := Op.pick (Operand.tmp 36) (Operand.const (Value.bool true)) (Operand.tmp 45), type := 4, pos := "law.go:38", after := #[{ on := 23, ground := Ground.data }, { on := 32, ground := Ground.data }], guard := none }) (v := ?_) rfl (by kernel_rfl) (by kernel_rfl) (by kernel_rfl) (fun _ _ _ h => h) (Or.inl ⟨by rfl, ?_⟩) (by assumption) ?_
    rotate_left
    · intro w hSw
      (try dsimp only at hSw)
      go_simp
      try with_reducible rfl
    try simp only [Act.put, List.setIfInBounds_toArray, List.set_cons_zero, List.set_cons_succ]
    refine wpAnyH_done (by kernel_rfl) ?_ _
    have hS6 := hHeld
    clear HOF HON HIN HNO HIA HPL HAD HIP HMI HNG HAM HIM E1 E2 E3 E4 hHeld
    have EB : ∀ W, (binOp .eql 4 (.bool r) (.bool r)).run Tryd.prog W = .ok (.bool true) W := fun W => by cases r <;> kernel_rfl
    have ES : ∀ W, (binOp .eql 9 (.string ⟨tx.toArray⟩) (.string ⟨tx.toArray⟩)).run Tryd.prog W = .ok (.bool true) W := fun W => by go_simp
    have hBn := (hC12).drew
    have hS7 : ∀ W' : World, (fun w' : World => w'.rangeAt w.heap.size 0 (#[.int .i64 ah, .int .i64 al] : Array Value).toList ∧ w'.rangeAt (w.heap.size + 1) 0 (#[.int .i64 bh, .int .i64 bl] : Array Value).toList ∧ w'.rangeAt D1 0 (sV va).toList ∧ w'.rangeAt D2 0 (sV vb).toList) W' → (fun w' : World => w'.rangeAt w.heap.size 0 (#[.int .i64 ah, .int .i64 al] : Array Value).toList ∧ w'.rangeAt (w.heap.size + 1) 0 (#[.int .i64 bh, .int .i64 bl] : Array Value).toList ∧ w'.rangeAt D1 0 (sV va).toList ∧ w'.rangeAt D2 0 (sV vb).toList) W'.drew := fun W' h => ⟨(World.rangeAt_drew _ _ _ _).2 h.1, (World.rangeAt_drew _ _ _ _).2 h.2.1, (World.rangeAt_drew _ _ _ _).2 h.2.2.1, (World.rangeAt_drew _ _ _ _).2 h.2.2.2⟩
    have hS8 := hS7 _ hS6
    clear hS7 hS6
    go_wp2
    refine wp_region_held_drew (S := (fun w' : World => w'.rangeAt w.heap.size 0 (#[.int .i64 ah, .int .i64 al] : Array Value).toList ∧ w'.rangeAt (w.heap.size + 1) 0 (#[.int .i64 bh, .int .i64 bl] : Array Value).toList ∧ w'.rangeAt D1 0 (sV va).toList ∧ w'.rangeAt D2 0 (sV vb).toList)) (by kernel_rfl) hS8 (fun hHeld => ?_)
    refine wpAnyH_take (i := 0) (oi := { dst := some 47, op := Op.load 40 (Operand.tmp 3), type := 40, pos := "law.go:41", after := #[], guard := none }) (v := _) rfl (by kernel_rfl) (by kernel_rfl) (by kernel_rfl) (fun _ _ _ h => h) (yieldsIf_load_mid (by rfl) _ _ rfl _ _ rfl _ _ (fun w hSw => hSw.1) Tryd.underlying40 rfl (by kernel_rfl)) (by assumption) ?_
    try simp only [Act.put, List.setIfInBounds_toArray, List.set_cons_zero, List.set_cons_succ]
    refine wpAnyH_take (i := 1) (oi := { dst := some 48, op := Op.load 40 (Operand.tmp 4), type := 40, pos := "law.go:41", after := #[], guard := none }) (v := _) rfl (by kernel_rfl) (by kernel_rfl) (by kernel_rfl) (fun _ _ _ h => h) (yieldsIf_load_mid (by rfl) _ _ rfl _ _ rfl _ _ (fun w hSw => hSw.2.1) Tryd.underlying40 rfl (by kernel_rfl)) (by assumption) ?_
    try simp only [Act.put, List.setIfInBounds_toArray, List.set_cons_zero, List.set_cons_succ]
    refine wpAnyH_take (i := 3) (oi := { dst := some 50, op := Op.load 27 (Operand.tmp 7), type := 27, pos := "law.go:41", after := #[], guard := none }) (v := _) rfl (by kernel_rfl) (by kernel_rfl) (by kernel_rfl) (fun _ _ _ h => h) (yieldsIf_load_mid (by rfl) _ _ rfl _ _ rfl _ _ (fun w hSw => hSw.2.2.1) Tryd.underlying27 rfl (by kernel_rfl)) (by assumption) ?_
    try simp only [Act.put, List.setIfInBounds_toArray, List.set_cons_zero, List.set_cons_succ]
    refine wpAnyH_take (i := 4) (oi := { dst := some 51, op := Op.load 27 (Operand.tmp 8), type := 27, pos := "law.go:41", after := #[], guard := none }) (v := _) rfl (by kernel_rfl) (by kernel_rfl) (by kernel_rfl) (fun _ _ _ h => h) (yieldsIf_load_mid (by rfl) _ _ rfl _ _ rfl _ _ (fun w hSw => hSw.2.2.2) Tryd.underlying27 rfl (by kernel_rfl)) (by assumption) ?_
    try simp only [Act.put, List.setIfInBounds_toArray, List.set_cons_zero, List.set_cons_succ]
    refine wpAnyH_ready (rs := [2]) (by kernel_rfl) (by simp) ?_
    refine AllReadyH.cons (o := { dst := some 49, op := Op.call { callee := Callee.value (Operand.func 26), args := #[Operand.tmp 47, Operand.tmp 48], argTypes := #[40, 40] }, type := 4, pos := "law.go:41", after := #[{ on := 0, ground := Ground.data }, { on := 1, ground := Ground.data }], guard := none }) rfl (fun K hK => ?_) AllReadyH.nil
    go_simp
    go_at_call 26
    refine (HLE _).mono ?_
    rintro e w' ⟨rfl, hb⟩
    refine hK.out _ _ ?_ (fun hHeld => ?_)
    · exact ⟨rangeAt_later hHeld.1 hb, rangeAt_later hHeld.2.1 hb, rangeAt_later hHeld.2.2.1 hb, rangeAt_later hHeld.2.2.2 hb⟩
    clear hK K
    try simp only [Act.put, List.setIfInBounds_toArray, List.set_cons_zero, List.set_cons_succ]
    have hE1 := chainB' hBn hb hBn.size
    clear hb
    refine wpAnyH_ready (rs := [5]) (by kernel_rfl) (by simp) ?_
    refine AllReadyH.cons (o := { dst := some 52, op := Op.call { callee := Callee.value (Operand.func 27), args := #[Operand.tmp 50, Operand.tmp 51], argTypes := #[27, 27] }, type := 4, pos := "law.go:41", after := #[{ on := 3, ground := Ground.data }, { on := 4, ground := Ground.data }, { on := 2, ground := Ground.chain }], guard := none }) rfl (fun K hK => ?_) AllReadyH.nil
    go_simp
    go_at_call 27
    refine (HLR _).mono ?_
    rintro e w' ⟨rfl, hb⟩
    refine hK.out _ _ ?_ (fun hHeld => ?_)
    · exact ⟨rangeAt_later hHeld.1 hb, rangeAt_later hHeld.2.1 hb, rangeAt_later hHeld.2.2.1 hb, rangeAt_later hHeld.2.2.2 hb⟩
    clear hK K
    try simp only [Act.put, List.setIfInBounds_toArray, List.set_cons_zero, List.set_cons_succ]
    have hE2 := chainB' hE1 hb hE1.size
    clear hb
    refine wpAnyH_take (i := 6) (oi := { dst := some 53, op := Op.binOp BinOp.eql 4 (Operand.tmp 49) (Operand.tmp 52) 4, type := 4, pos := "law.go:41", after := #[{ on := 2, ground := Ground.data }, { on := 5, ground := Ground.data }], guard := none }) (v := .bool true) rfl (by kernel_rfl) (by kernel_rfl) (by kernel_rfl) (fun _ _ _ h => h) (Or.inl ⟨by rfl, ?_⟩) (by assumption) ?_
    · intro w hSw
      (try dsimp only at hSw)
      have hneq := EB w
      go_simp
      try with_reducible rfl
    try simp only [Act.put, List.setIfInBounds_toArray, List.set_cons_zero, List.set_cons_succ]
    refine wpAnyH_take (i := 7) (oi := { dst := some 54, op := Op.move (Operand.tmp 53), type := 4, pos := "law.go:41", after := #[{ on := 6, ground := Ground.data }, { on := 5, ground := Ground.chain }], guard := none }) (v := ?_) rfl (by kernel_rfl) (by kernel_rfl) (by kernel_rfl) (fun _ _ _ h => h) (Or.inl ⟨by rfl, ?_⟩) (by assumption) ?_
    rotate_left
    · intro w hSw
      (try dsimp only at hSw)
      go_simp
      try with_reducible rfl
    try simp only [Act.put, List.setIfInBounds_toArray, List.set_cons_zero, List.set_cons_succ]
    refine wpAnyH_take (i := 8) (oi := { dst := some 55, op := Op.load 40 (Operand.tmp 3), type := 40, pos := "law.go:41", after := #[{ on := 7, ground := Ground.guard }], guard := some (7, true) }) (v := _) rfl (by kernel_rfl) (by kernel_rfl) (by kernel_rfl) (fun _ _ _ h => h) (yieldsIf_load_mid (by rfl) _ _ rfl _ _ rfl _ _ (fun w hSw => hSw.1) Tryd.underlying40 rfl (by kernel_rfl)) (by assumption) ?_
    try simp only [Act.put, List.setIfInBounds_toArray, List.set_cons_zero, List.set_cons_succ]
    refine wpAnyH_take (i := 10) (oi := { dst := some 57, op := Op.load 27 (Operand.tmp 7), type := 27, pos := "law.go:41", after := #[{ on := 7, ground := Ground.guard }], guard := some (7, true) }) (v := _) rfl (by kernel_rfl) (by kernel_rfl) (by kernel_rfl) (fun _ _ _ h => h) (yieldsIf_load_mid (by rfl) _ _ rfl _ _ rfl _ _ (fun w hSw => hSw.2.2.1) Tryd.underlying27 rfl (by kernel_rfl)) (by assumption) ?_
    try simp only [Act.put, List.setIfInBounds_toArray, List.set_cons_zero, List.set_cons_succ]
    refine wpAnyH_ready (rs := [9]) (by kernel_rfl) (by simp) ?_
    refine AllReadyH.cons (o := { dst := some 56, op := Op.call { callee := Callee.value (Operand.func 28), args := #[Operand.tmp 55], argTypes := #[40] }, type := 9, pos := "law.go:41", after := #[{ on := 8, ground := Ground.data }, { on := 7, ground := Ground.chain }, { on := 7, ground := Ground.guard }], guard := some (7, true) }) rfl (fun K hK => ?_) AllReadyH.nil
    go_simp
    go_at_call 28
    refine (HWR _ (tabIs_below HTAB.out hE2)).mono ?_
    rintro e w' ⟨rfl, hb⟩
    refine hK.out _ _ ?_ (fun hHeld => ?_)
    · exact ⟨rangeAt_later hHeld.1 hb, rangeAt_later hHeld.2.1 hb, rangeAt_later hHeld.2.2.1 hb, rangeAt_later hHeld.2.2.2 hb⟩
    clear hK K
    try simp only [Act.put, List.setIfInBounds_toArray, List.set_cons_zero, List.set_cons_succ]
    have hE3 := chainB' hE2 hb hE2.size
    clear hb
    refine wpAnyH_ready (rs := [11]) (by kernel_rfl) (by simp) ?_
    refine AllReadyH.cons (o := { dst := some 58, op := Op.call { callee := Callee.value (Operand.func 19), args := #[Operand.tmp 57], argTypes := #[27] }, type := 9, pos := "law.go:41", after := #[{ on := 10, ground := Ground.data }, { on := 9, ground := Ground.chain }, { on := 7, ground := Ground.guard }], guard := some (7, true) }) rfl (fun K hK => ?_) AllReadyH.nil
    go_simp
    go_at_call 19
    refine (HTX _).mono ?_
    rintro e w' ⟨rfl, hb⟩
    refine hK.out _ _ ?_ (fun hHeld => ?_)
    · exact ⟨rangeAt_later hHeld.1 hb, rangeAt_later hHeld.2.1 hb, rangeAt_later hHeld.2.2.1 hb, rangeAt_later hHeld.2.2.2 hb⟩
    clear hK K
    try simp only [Act.put, List.setIfInBounds_toArray, List.set_cons_zero, List.set_cons_succ]
    have hE4 := chainB' hE3 hb hE3.size
    clear hb
    refine wpAnyH_take (i := 12) (oi := { dst := some 59, op := Op.binOp BinOp.eql 9 (Operand.tmp 56) (Operand.tmp 58) 9, type := 4, pos := "law.go:41", after := #[{ on := 9, ground := Ground.data }, { on := 11, ground := Ground.data }, { on := 7, ground := Ground.guard }], guard := some (7, true) }) (v := .bool true) rfl (by kernel_rfl) (by kernel_rfl) (by kernel_rfl) (fun _ _ _ h => h) (Or.inl ⟨by rfl, ?_⟩) (by assumption) ?_
    · intro w hSw
      (try dsimp only at hSw)
      have hneq := ES w
      go_simp
      try with_reducible rfl
    try simp only [Act.put, List.setIfInBounds_toArray, List.set_cons_zero, List.set_cons_succ]
    refine wpAnyH_take (i := 13) (oi := { dst := some 60, op := Op.pick (Operand.tmp 54) (Operand.tmp 59) (Operand.const (Value.bool false)), type := 4, pos := "law.go:41", after := #[{ on := 7, ground := Ground.data }, { on := 12, ground := Ground.data }], guard := none }) (v := ?_) rfl (by kernel_rfl) (by kernel_rfl) (by kernel_rfl) (fun _ _ _ h => h) (Or.inl ⟨by rfl, ?_⟩) (by assumption) ?_
    rotate_left
    · intro w hSw
      (try dsimp only at hSw)
      go_simp
      try with_reducible rfl
    try simp only [Act.put, List.setIfInBounds_toArray, List.set_cons_zero, List.set_cons_succ]
    refine wpAnyH_take (i := 14) (oi := { dst := some 61, op := Op.move (Operand.tmp 60), type := 4, pos := "law.go:41", after := #[{ on := 13, ground := Ground.data }, { on := 11, ground := Ground.chain }], guard := none }) (v := ?_) rfl (by kernel_rfl) (by kernel_rfl) (by kernel_rfl) (fun _ _ _ h => h) (Or.inl ⟨by rfl, ?_⟩) (by assumption) ?_
    rotate_left
    · intro w hSw
      (try dsimp only at hSw)
      go_simp
      try with_reducible rfl
    try simp only [Act.put, List.setIfInBounds_toArray, List.set_cons_zero, List.set_cons_succ]
    refine wpAnyH_ready (rs := [15]) (by kernel_rfl) (by simp) ?_
    refine AllReadyH.cons (o := { dst := some 62, op := Op.call { callee := Callee.value (Operand.func 15), args := #[], argTypes := #[] }, type := 4, pos := "law.go:41", after := #[{ on := 14, ground := Ground.chain }, { on := 14, ground := Ground.guard }], guard := some (14, true) }) rfl (fun K hK => ?_) AllReadyH.nil
    go_simp
    go_at_call 15
    refine (known_any _ (tabIs_below HTAB.out hE4)).mono ?_
    rintro e w' ⟨rfl, hb⟩
    refine hK.out _ _ ?_ (fun hHeld => ?_)
    · exact ⟨rangeAt_later hHeld.1 hb, rangeAt_later hHeld.2.1 hb, rangeAt_later hHeld.2.2.1 hb, rangeAt_later hHeld.2.2.2 hb⟩
    clear hK K
    try simp only [Act.put, List.setIfInBounds_toArray, List.set_cons_zero, List.set_cons_succ]
    have hE5 := chainB' hE4 hb hE4.size
    clear hb
    refine wpAnyH_take (i := 16) (oi := { dst := some 63, op := Op.pick (Operand.tmp 61) (Operand.tmp 62) (Operand.const (Value.bool false)), type := 4, pos := "law.go:41", after := #[{ on := 14, ground := Ground.data }, { on := 15, ground := Ground.data }], guard := none }) (v := ?_) rfl (by kernel_rfl) (by kernel_rfl) (by kernel_rfl) (fun _ _ _ h => h) (Or.inl ⟨by rfl, ?_⟩) (by assumption) ?_
    rotate_left
    · intro w hSw
      (try dsimp only at hSw)
      go_simp
      try with_reducible rfl
    try simp only [Act.put, List.setIfInBounds_toArray, List.set_cons_zero, List.set_cons_succ]
    refine wpAnyH_take (i := 17) (oi := { dst := some 6, op := Op.assign (Operand.tmp 63), type := 4, pos := "law.go:41", after := #[{ on := 16, ground := Ground.data }, { on := 15, ground := Ground.chain }, { on := 0, ground := Ground.phase }, { on := 1, ground := Ground.phase }, { on := 2, ground := Ground.phase }, { on := 3, ground := Ground.phase }, { on := 4, ground := Ground.phase }, { on := 5, ground := Ground.phase }, { on := 6, ground := Ground.phase }, { on := 7, ground := Ground.phase }, { on := 8, ground := Ground.phase }, { on := 9, ground := Ground.phase }, { on := 10, ground := Ground.phase }, { on := 11, ground := Ground.phase }, { on := 12, ground := Ground.phase }, { on := 13, ground := Ground.phase }, { on := 14, ground := Ground.phase }, { on := 15, ground := Ground.phase }, { on := 16, ground := Ground.phase }], guard := none }) (v := ?_) rfl (by kernel_rfl) (by kernel_rfl) (by kernel_rfl) (fun _ _ _ h => h) (Or.inl ⟨by rfl, ?_⟩) (by assumption) ?_
    rotate_left
    · intro w hSw
      (try dsimp only at hSw)
      go_simp
      try with_reducible rfl
    try simp only [Act.put, List.setIfInBounds_toArray, List.set_cons_zero, List.set_cons_succ]
    refine wpAnyH_done (by kernel_rfl) ?_ _
    go_wp2
    go_ret
    exact ⟨rfl, hE5⟩
  refine wp_region_held_drew (S := (fun w' => w'.rangeAt w.heap.size 0 (#[.int .i64 ah, .int .i64 al] : Array Value).toList ∧ w'.rangeAt (w.heap.size + 1) 0 (#[.int .i64 bh, .int .i64 bl] : Array Value).toList)) (by kernel_rfl) hS4 (fun hHeld => ?_)
  generalize w4.drew = w5 at *
  refine wpAnyH_take (i := 0) (oi := { dst := some 9, op := Op.load 40 (Operand.tmp 3), type := 40, pos := "law.go:37", after := #[], guard := none }) (v := _) rfl (by kernel_rfl) (by kernel_rfl) (by kernel_rfl) (fun _ _ _ h => h) (yieldsIf_load_mid (by rfl) _ _ rfl _ _ rfl _ _ (fun w hSw => hSw.1) Tryd.underlying40 rfl (by kernel_rfl)) (by assumption) ?_
  try simp only [Act.put, List.setIfInBounds_toArray, List.set_cons_zero, List.set_cons_succ]
  refine wpAnyH_take (i := 2) (oi := { dst := some 11, op := Op.load 40 (Operand.tmp 4), type := 40, pos := "law.go:37", after := #[], guard := none }) (v := _) rfl (by kernel_rfl) (by kernel_rfl) (by kernel_rfl) (fun _ _ _ h => h) (yieldsIf_load_mid (by rfl) _ _ rfl _ _ rfl _ _ (fun w hSw => hSw.2) Tryd.underlying40 rfl (by kernel_rfl)) (by assumption) ?_
  try simp only [Act.put, List.setIfInBounds_toArray, List.set_cons_zero, List.set_cons_succ]
  clear hS4
  have hs2 : w.heap.size + 1 < w5.heap.size := by omega
  clear hs
  refine wpAnyH_ready (rs := [1, 4, 5]) (by kernel_rfl) (by simp) ?_
  refine AllReadyH.cons (o := { dst := some 10, op := Op.call { callee := Callee.value (Operand.func 20), args := #[Operand.tmp 9], argTypes := #[40] }, type := 27, pos := "law.go:37", after := #[{ on := 0, ground := Ground.data }], guard := none }) rfl (fun K hK => ?_) (AllReadyH.cons (o := { dst := some 7, op := Op.alloc 27, type := 0, pos := "law.go:37", after := #[], guard := none }) rfl (fun K hK => ?_) (AllReadyH.cons (o := { dst := some 8, op := Op.alloc 27, type := 0, pos := "law.go:37", after := #[], guard := none }) rfl (fun K hK => ?_) AllReadyH.nil))
  · go_simp
    go_at_call 20
    refine (HNA _).mono ?_
    rintro e wc1 ⟨rfl, hb⟩
    refine hK.out _ _ ?_ (fun hHeld2 => ?_)
    · exact ⟨rangeAt_later hHeld.1 hb, rangeAt_later hHeld.2 hb⟩
    clear hK K
    have hBc1 := chainB' hB hb hB.size
    have hsz1 := hb.size
    clear hHeld hb
    have hHeld := hHeld2
    clear hHeld2
    try simp only [Act.put, List.setIfInBounds_toArray, List.set_cons_zero, List.set_cons_succ]
    refine wpAnyH_ready (rs := [3, 4, 5]) (by kernel_rfl) (by simp) ?_
    refine AllReadyH.cons (o := { dst := some 12, op := Op.call { callee := Callee.value (Operand.func 20), args := #[Operand.tmp 11], argTypes := #[40] }, type := 27, pos := "law.go:37", after := #[{ on := 2, ground := Ground.data }, { on := 1, ground := Ground.chain }], guard := none }) rfl (fun K hK => ?_) (AllReadyH.cons (o := { dst := some 7, op := Op.alloc 27, type := 0, pos := "law.go:37", after := #[], guard := none }) rfl (fun K hK => ?_) (AllReadyH.cons (o := { dst := some 8, op := Op.alloc 27, type := 0, pos := "law.go:37", after := #[], guard := none }) rfl (fun K hK => ?_) AllReadyH.nil))
    · go_simp
      go_at_call 20
      refine (HNB _).mono ?_
      rintro e wc3 ⟨rfl, hb⟩
      refine hK.out _ _ ?_ (fun hHeld2 => ?_)
      · exact ⟨rangeAt_later hHeld.1 hb, rangeAt_later hHeld.2 hb⟩
      clear hK K
      have hBc3 := chainB' hBc1 hb hBc1.size
      have hsz3 := hb.size
      clear hHeld hb
      have hHeld := hHeld2
      clear hHeld2
      try simp only [Act.put, List.setIfInBounds_toArray, List.set_cons_zero, List.set_cons_succ]
      refine wpAnyH_ready (rs := [4, 5]) (by kernel_rfl) (by simp) ?_
      refine AllReadyH.cons (o := { dst := some 7, op := Op.alloc 27, type := 0, pos := "law.go:37", after := #[], guard := none }) rfl (fun K hK => ?_) (AllReadyH.cons (o := { dst := some 8, op := Op.alloc 27, type := 0, pos := "law.go:37", after := #[], guard := none }) rfl (fun K hK => ?_) AllReadyH.nil)
      · go_simp
        refine hK.out _ _ ?_ (fun hHeld2 => ?_)
        · exact ⟨World.rangeAt_alloc hHeld.1 _, World.rangeAt_alloc hHeld.2 _⟩
        clear hK K
        have hD4 : (wc3.alloc (.cells zeros11 27)).there wc3.heap.size 0 11 := there_new wc3 zeros11 27
        have hl4 : wc3.heap.size < (wc3.alloc (.cells zeros11 27)).heap.size := by rw [World.size_alloc]; exact Nat.lt_succ_self _
        have hm4 : w.heap.size + 1 < wc3.heap.size := by omega
        have hBa4 := (hBc3).alloc (by omega) (.cells zeros11 27)
        generalize wc3.alloc (.cells zeros11 27) = wa4 at *
        generalize wc3.heap.size = D4 at *
        clear hHeld
        have hHeld := hHeld2
        clear hHeld2
        try simp only [Act.put, List.setIfInBounds_toArray, List.set_cons_zero, List.set_cons_succ]
        refine wpAnyH_ready (rs := [5]) (by kernel_rfl) (by simp) ?_
        refine AllReadyH.cons (o := { dst := some 8, op := Op.alloc 27, type := 0, pos := "law.go:37", after := #[], guard := none }) rfl (fun K hK => ?_) AllReadyH.nil
        go_simp
        refine hK.out _ _ ?_ (fun hHeld2 => ?_)
        · exact ⟨World.rangeAt_alloc hHeld.1 _, World.rangeAt_alloc hHeld.2 _⟩
        clear hK K
        have hD5 : (wa4.alloc (.cells zeros11 27)).there wa4.heap.size 0 11 := there_new wa4 zeros11 27
        have hl5 : wa4.heap.size < (wa4.alloc (.cells zeros11 27)).heap.size := by rw [World.size_alloc]; exact Nat.lt_succ_self _
        have hm5 : w.heap.size + 1 < wa4.heap.size := by omega
        have hBa5 := (hBa4).alloc (by omega) (.cells zeros11 27)
        replace hD4 := World.there_alloc hD4 (.cells zeros11 27)
        have hn4 : D4 < wa4.heap.size := by omega
        replace hl4 : D4 < (wa4.alloc (.cells zeros11 27)).heap.size := Nat.lt_trans hn4 hl5
        generalize wa4.alloc (.cells zeros11 27) = wa5 at *
        generalize wa4.heap.size = D5 at *
        clear hHeld
        have hHeld := hHeld2
        clear hHeld2
        try simp only [Act.put, List.setIfInBounds_toArray, List.set_cons_zero, List.set_cons_succ]
        have hne : D4 ≠ D5 := by omega
        refine wpAnyH_ready (rs := [6]) (by kernel_rfl) (by simp) ?_
        refine AllReadyH.cons (o := { dst := none, op := Op.store 27 (Operand.tmp 7) (Operand.tmp 10), type := 0, pos := "law.go:37", after := #[{ on := 4, ground := Ground.data }, { on := 1, ground := Ground.data }, { on := 3, ground := Ground.chain }, { on := 0, ground := Ground.phase }, { on := 1, ground := Ground.phase }, { on := 2, ground := Ground.textOnly Departure.lateStores }, { on := 3, ground := Ground.textOnly Departure.lateStoresUnsure }, { on := 4, ground := Ground.phase }, { on := 5, ground := Ground.phase }], guard := none }) rfl (fun K hK => ?_) AllReadyH.nil
        rw [if_pos (by rfl)]
        refine wp_store_mid 27 _ _ rfl D4 0 (sV va) rfl rfl hD4 (by kernel_rfl) (longV_one _ _) ?_
        refine hK.out _ _ ?_ (fun hHeld2 => ?_)
        · exact ⟨World.rangeAt_setCells_apart hHeld.1 _ _ _ (.inl (by omega)), World.rangeAt_setCells_apart hHeld.2 _ _ _ (.inl (by omega))⟩
        clear hK K hHeld
        try simp only [Act.put, List.setIfInBounds_toArray, List.set_cons_zero, List.set_cons_succ]
        have hg4 := World.rangeAt_setCells_same wa5 D4 0 (sV va).toList hD4
        have hD5b := World.there_setCells hD5 D4 0 (sV va).toList
        have hBy := setCellsB hBa5 D4 0 (sV va).toList (by omega)
        generalize wa5.setCells D4 0 (sV va).toList = wy at *
        refine wpAnyH_ready (rs := [7]) (by kernel_rfl) (by simp) ?_
        refine AllReadyH.cons (o := { dst := none, op := Op.store 27 (Operand.tmp 8) (Operand.tmp 12), type := 0, pos := "law.go:37", after := #[{ on := 5, ground := Ground.data }, { on := 3, ground := Ground.data }, { on := 6, ground := Ground.chain }, { on := 0, ground := Ground.phase }, { on := 1, ground := Ground.phase }, { on := 2, ground := Ground.phase }, { on := 3, ground := Ground.phase }, { on := 4, ground := Ground.phase }, { on := 5, ground := Ground.phase }, { on := 6, ground := Ground.phase }], guard := none }) rfl (fun K hK => ?_) AllReadyH.nil
        rw [if_pos (by rfl)]
        refine wp_store_mid 27 _ _ rfl D5 0 (sV vb) rfl rfl hD5b (by kernel_rfl) (longV_one _ _) ?_
        refine hK.out _ _ ?_ (fun hHeld3 => ?_)
        · exact ⟨World.rangeAt_setCells_apart hHeld2.1 _ _ _ (.inl (by omega)), World.rangeAt_setCells_apart hHeld2.2 _ _ _ (.inl (by omega))⟩
        clear hK K hHeld2
        try simp only [Act.put, List.setIfInBounds_toArray, List.set_cons_zero, List.set_cons_succ]
        have hg4b := World.rangeAt_setCells_apart hg4 D5 0 (sV vb).toList (.inl hne)
        have hg5 := World.rangeAt_setCells_same wy D5 0 (sV vb).toList hD5b
        have hBz := setCellsB hBy D5 0 (sV vb).toList (by omega)
        generalize wy.setCells D5 0 (sV vb).toList = wz at *
        refine wpAnyH_done (by kernel_rfl) ?_ _
        exact HK D4 D5 wz ⟨hHeld3.1, hHeld3.2, hg4b, hg5⟩ hBz
      · go_simp
        refine hK.out _ _ ?_ (fun hHeld2 => ?_)
        · exact ⟨World.rangeAt_alloc hHeld.1 _, World.rangeAt_alloc hHeld.2 _⟩
        clear hK K
        have hD5 : (wc3.alloc (.cells zeros11 27)).there wc3.heap.size 0 11 := there_new wc3 zeros11 27
        have hl5 : wc3.heap.size < (wc3.alloc (.cells zeros11 27)).heap.size := by rw [World.size_alloc]; exact Nat.lt_succ_self _
        have hm5 : w.heap.size + 1 < wc3.heap.size := by omega
        have hBa5 := (hBc3).alloc (by omega) (.cells zeros11 27)
        generalize wc3.alloc (.cells zeros11 27) = wa5 at *
        generalize wc3.heap.size = D5 at *
        clear hHeld
        have hHeld := hHeld2
        clear hHeld2
        try simp only [Act.put, List.setIfInBounds_toArray, List.set_cons_zero, List.set_cons_succ]
        refine wpAnyH_ready (rs := [4]) (by kernel_rfl) (by simp) ?_
        refine AllReadyH.cons (o := { dst := some 7, op := Op.alloc 27, type := 0, pos := "law.go:37", after := #[], guard := none }) rfl (fun K hK => ?_) AllReadyH.nil
        go_simp
        refine hK.out _ _ ?_ (fun hHeld2 => ?_)
        · exact ⟨World.rangeAt_alloc hHeld.1 _, World.rangeAt_alloc hHeld.2 _⟩
        clear hK K
        have hD4 : (wa5.alloc (.cells zeros11 27)).there wa5.heap.size 0 11 := there_new wa5 zeros11 27
        have hl4 : wa5.heap.size < (wa5.alloc (.cells zeros11 27)).heap.size := by rw [World.size_alloc]; exact Nat.lt_succ_self _
        have hm4 : w.heap.size + 1 < wa5.heap.size := by omega
        have hBa4 := (hBa5).alloc (by omega) (.cells zeros11 27)
        replace hD5 := World.there_alloc hD5 (.cells zeros11 27)
        have hn5 : D5 < wa5.heap.size := by omega
        replace hl5 : D5 < (wa5.alloc (.cells zeros11 27)).heap.size := Nat.lt_trans hn5 hl4
        generalize wa5.alloc (.cells zeros11 27) = wa4 at *
        generalize wa5.heap.size = D4 at *
        clear hHeld
        have hHeld := hHeld2
        clear hHeld2
        try simp only [Act.put, List.setIfInBounds_toArray, List.set_cons_zero, List.set_cons_succ]
        have hne : D4 ≠ D5 := by omega
        refine wpAnyH_ready (rs := [6]) (by kernel_rfl) (by simp) ?_
        refine AllReadyH.cons (o := { dst := none, op := Op.store 27 (Operand.tmp 7) (Operand.tmp 10), type := 0, pos := "law.go:37", after := #[{ on := 4, ground := Ground.data }, { on := 1, ground := Ground.data }, { on := 3, ground := Ground.chain }, { on := 0, ground := Ground.phase }, { on := 1, ground := Ground.phase }, { on := 2, ground := Ground.textOnly Departure.lateStores }, { on := 3, ground := Ground.textOnly Departure.lateStoresUnsure }, { on := 4, ground := Ground.phase }, { on := 5, ground := Ground.phase }], guard := none }) rfl (fun K hK => ?_) AllReadyH.nil
        rw [if_pos (by rfl)]
        refine wp_store_mid 27 _ _ rfl D4 0 (sV va) rfl rfl hD4 (by kernel_rfl) (longV_one _ _) ?_
        refine hK.out _ _ ?_ (fun hHeld2 => ?_)
        · exact ⟨World.rangeAt_setCells_apart hHeld.1 _ _ _ (.inl (by omega)), World.rangeAt_setCells_apart hHeld.2 _ _ _ (.inl (by omega))⟩
        clear hK K hHeld
        try simp only [Act.put, List.setIfInBounds_toArray, List.set_cons_zero, List.set_cons_succ]
        have hg4 := World.rangeAt_setCells_same wa4 D4 0 (sV va).toList hD4
        have hD5b := World.there_setCells hD5 D4 0 (sV va).toList
        have hBy := setCellsB hBa4 D4 0 (sV va).toList (by omega)
        generalize wa4.setCells D4 0 (sV va).toList = wy at *
        refine wpAnyH_ready (rs := [7]) (by kernel_rfl) (by simp) ?_
        refine AllReadyH.cons (o := { dst := none, op := Op.store 27 (Operand.tmp 8) (Operand.tmp 12), type := 0, pos := "law.go:37", after := #[{ on := 5, ground := Ground.data }, { on := 3, ground := Ground.data }, { on := 6, ground := Ground.chain }, { on := 0, ground := Ground.phase }, { on := 1, ground := Ground.phase }, { on := 2, ground := Ground.phase }, { on := 3, ground := Ground.phase }, { on := 4, ground := Ground.phase }, { on := 5, ground := Ground.phase }, { on := 6, ground := Ground.phase }], guard := none }) rfl (fun K hK => ?_) AllReadyH.nil
        rw [if_pos (by rfl)]
        refine wp_store_mid 27 _ _ rfl D5 0 (sV vb) rfl rfl hD5b (by kernel_rfl) (longV_one _ _) ?_
        refine hK.out _ _ ?_ (fun hHeld3 => ?_)
        · exact ⟨World.rangeAt_setCells_apart hHeld2.1 _ _ _ (.inl (by omega)), World.rangeAt_setCells_apart hHeld2.2 _ _ _ (.inl (by omega))⟩
        clear hK K hHeld2
        try simp only [Act.put, List.setIfInBounds_toArray, List.set_cons_zero, List.set_cons_succ]
        have hg4b := World.rangeAt_setCells_apart hg4 D5 0 (sV vb).toList (.inl hne)
        have hg5 := World.rangeAt_setCells_same wy D5 0 (sV vb).toList hD5b
        have hBz := setCellsB hBy D5 0 (sV vb).toList (by omega)
        generalize wy.setCells D5 0 (sV vb).toList = wz at *
        refine wpAnyH_done (by kernel_rfl) ?_ _
        exact HK D4 D5 wz ⟨hHeld3.1, hHeld3.2, hg4b, hg5⟩ hBz
    · go_simp
      refine hK.out _ _ ?_ (fun hHeld2 => ?_)
      · exact ⟨World.rangeAt_alloc hHeld.1 _, World.rangeAt_alloc hHeld.2 _⟩
      clear hK K
      have hD4 : (wc1.alloc (.cells zeros11 27)).there wc1.heap.size 0 11 := there_new wc1 zeros11 27
      have hl4 : wc1.heap.size < (wc1.alloc (.cells zeros11 27)).heap.size := by rw [World.size_alloc]; exact Nat.lt_succ_self _
      have hm4 : w.heap.size + 1 < wc1.heap.size := by omega
      have hBa4 := (hBc1).alloc (by omega) (.cells zeros11 27)
      generalize wc1.alloc (.cells zeros11 27) = wa4 at *
      generalize wc1.heap.size = D4 at *
      clear hHeld
      have hHeld := hHeld2
      clear hHeld2
      try simp only [Act.put, List.setIfInBounds_toArray, List.set_cons_zero, List.set_cons_succ]
      refine wpAnyH_ready (rs := [3, 5]) (by kernel_rfl) (by simp) ?_
      refine AllReadyH.cons (o := { dst := some 12, op := Op.call { callee := Callee.value (Operand.func 20), args := #[Operand.tmp 11], argTypes := #[40] }, type := 27, pos := "law.go:37", after := #[{ on := 2, ground := Ground.data }, { on := 1, ground := Ground.chain }], guard := none }) rfl (fun K hK => ?_) (AllReadyH.cons (o := { dst := some 8, op := Op.alloc 27, type := 0, pos := "law.go:37", after := #[], guard := none }) rfl (fun K hK => ?_) AllReadyH.nil)
      · go_simp
        go_at_call 20
        refine (HNB _).mono ?_
        rintro e wc3 ⟨rfl, hb⟩
        refine hK.out _ _ ?_ (fun hHeld2 => ?_)
        · exact ⟨rangeAt_later hHeld.1 hb, rangeAt_later hHeld.2 hb⟩
        clear hK K
        have hBc3 := chainB' hBa4 hb hBa4.size
        have hsz3 := hb.size
        replace hD4 := there_later hD4 (by omega) hb
        replace hl4 := Nat.lt_of_lt_of_le hl4 hb.size
        clear hHeld hb
        have hHeld := hHeld2
        clear hHeld2
        try simp only [Act.put, List.setIfInBounds_toArray, List.set_cons_zero, List.set_cons_succ]
        refine wpAnyH_ready (rs := [5]) (by kernel_rfl) (by simp) ?_
        refine AllReadyH.cons (o := { dst := some 8, op := Op.alloc 27, type := 0, pos := "law.go:37", after := #[], guard := none }) rfl (fun K hK => ?_) AllReadyH.nil
        go_simp
        refine hK.out _ _ ?_ (fun hHeld2 => ?_)
        · exact ⟨World.rangeAt_alloc hHeld.1 _, World.rangeAt_alloc hHeld.2 _⟩
        clear hK K
        have hD5 : (wc3.alloc (.cells zeros11 27)).there wc3.heap.size 0 11 := there_new wc3 zeros11 27
        have hl5 : wc3.heap.size < (wc3.alloc (.cells zeros11 27)).heap.size := by rw [World.size_alloc]; exact Nat.lt_succ_self _
        have hm5 : w.heap.size + 1 < wc3.heap.size := by omega
        have hBa5 := (hBc3).alloc (by omega) (.cells zeros11 27)
        replace hD4 := World.there_alloc hD4 (.cells zeros11 27)
        have hn4 : D4 < wc3.heap.size := by omega
        replace hl4 : D4 < (wc3.alloc (.cells zeros11 27)).heap.size := Nat.lt_trans hn4 hl5
        generalize wc3.alloc (.cells zeros11 27) = wa5 at *
        generalize wc3.heap.size = D5 at *
        clear hHeld
        have hHeld := hHeld2
        clear hHeld2
        try simp only [Act.put, List.setIfInBounds_toArray, List.set_cons_zero, List.set_cons_succ]
        have hne : D4 ≠ D5 := by omega
        refine wpAnyH_ready (rs := [6]) (by kernel_rfl) (by simp) ?_
        refine AllReadyH.cons (o := { dst := none, op := Op.store 27 (Operand.tmp 7) (Operand.tmp 10), type := 0, pos := "law.go:37", after := #[{ on := 4, ground := Ground.data }, { on := 1, ground := Ground.data }, { on := 3, ground := Ground.chain }, { on := 0, ground := Ground.phase }, { on := 1, ground := Ground.phase }, { on := 2, ground := Ground.textOnly Departure.lateStores }, { on := 3, ground := Ground.textOnly Departure.lateStoresUnsure }, { on := 4, ground := Ground.phase }, { on := 5, ground := Ground.phase }], guard := none }) rfl (fun K hK => ?_) AllReadyH.nil
        rw [if_pos (by rfl)]
        refine wp_store_mid 27 _ _ rfl D4 0 (sV va) rfl rfl hD4 (by kernel_rfl) (longV_one _ _) ?_
        refine hK.out _ _ ?_ (fun hHeld2 => ?_)
        · exact ⟨World.rangeAt_setCells_apart hHeld.1 _ _ _ (.inl (by omega)), World.rangeAt_setCells_apart hHeld.2 _ _ _ (.inl (by omega))⟩
        clear hK K hHeld
        try simp only [Act.put, List.setIfInBounds_toArray, List.set_cons_zero, List.set_cons_succ]
        have hg4 := World.rangeAt_setCells_same wa5 D4 0 (sV va).toList hD4
        have hD5b := World.there_setCells hD5 D4 0 (sV va).toList
        have hBy := setCellsB hBa5 D4 0 (sV va).toList (by omega)
        generalize wa5.setCells D4 0 (sV va).toList = wy at *
        refine wpAnyH_ready (rs := [7]) (by kernel_rfl) (by simp) ?_
        refine AllReadyH.cons (o := { dst := none, op := Op.store 27 (Operand.tmp 8) (Operand.tmp 12), type := 0, pos := "law.go:37", after := #[{ on := 5, ground := Ground.data }, { on := 3, ground := Ground.data }, { on := 6, ground := Ground.chain }, { on := 0, ground := Ground.phase }, { on := 1, ground := Ground.phase }, { on := 2, ground := Ground.phase }, { on := 3, ground := Ground.phase }, { on := 4, ground := Ground.phase }, { on := 5, ground := Ground.phase }, { on := 6, ground := Ground.phase }], guard := none }) rfl (fun K hK => ?_) AllReadyH.nil
        rw [if_pos (by rfl)]
        refine wp_store_mid 27 _ _ rfl D5 0 (sV vb) rfl rfl hD5b (by kernel_rfl) (longV_one _ _) ?_
        refine hK.out _ _ ?_ (fun hHeld3 => ?_)
        · exact ⟨World.rangeAt_setCells_apart hHeld2.1 _ _ _ (.inl (by omega)), World.rangeAt_setCells_apart hHeld2.2 _ _ _ (.inl (by omega))⟩
        clear hK K hHeld2
        try simp only [Act.put, List.setIfInBounds_toArray, List.set_cons_zero, List.set_cons_succ]
        have hg4b := World.rangeAt_setCells_apart hg4 D5 0 (sV vb).toList (.inl hne)
        have hg5 := World.rangeAt_setCells_same wy D5 0 (sV vb).toList hD5b
        have hBz := setCellsB hBy D5 0 (sV vb).toList (by omega)
        generalize wy.setCells D5 0 (sV vb).toList = wz at *
        refine wpAnyH_done (by kernel_rfl) ?_ _
        exact HK D4 D5 wz ⟨hHeld3.1, hHeld3.2, hg4b, hg5⟩ hBz
      · go_simp
        refine hK.out _ _ ?_ (fun hHeld2 => ?_)
        · exact ⟨World.rangeAt_alloc hHeld.1 _, World.rangeAt_alloc hHeld.2 _⟩
        clear hK K
        have hD5 : (wa4.alloc (.cells zeros11 27)).there wa4.heap.size 0 11 := there_new wa4 zeros11 27
        have hl5 : wa4.heap.size < (wa4.alloc (.cells zeros11 27)).heap.size := by rw [World.size_alloc]; exact Nat.lt_succ_self _
        have hm5 : w.heap.size + 1 < wa4.heap.size := by omega
        have hBa5 := (hBa4).alloc (by omega) (.cells zeros11 27)
        replace hD4 := World.there_alloc hD4 (.cells zeros11 27)
        have hn4 : D4 < wa4.heap.size := by omega
        replace hl4 : D4 < (wa4.alloc (.cells zeros11 27)).heap.size := Nat.lt_trans hn4 hl5
        generalize wa4.alloc (.cells zeros11 27) = wa5 at *
        generalize wa4.heap.size = D5 at *
        clear hHeld
        have hHeld := hHeld2
        clear hHeld2
        try simp only [Act.put, List.setIfInBounds_toArray, List.set_cons_zero, List.set_cons_succ]
        refine wpAnyH_ready (rs := [3]) (by kernel_rfl) (by simp) ?_
        refine AllReadyH.cons (o := { dst := some 12, op := Op.call { callee := Callee.value (Operand.func 20), args := #[Operand.tmp 11], argTypes := #[40] }, type := 27, pos := "law.go:37", after := #[{ on := 2, ground := Ground.data }, { on := 1, ground := Ground.chain }], guard := none }) rfl (fun K hK => ?_) AllReadyH.nil
        go_simp
        go_at_call 20
        refine (HNB _).mono ?_
        rintro e wc3 ⟨rfl, hb⟩
        refine hK.out _ _ ?_ (fun hHeld2 => ?_)
        · exact ⟨rangeAt_later hHeld.1 hb, rangeAt_later hHeld.2 hb⟩
        clear hK K
        have hBc3 := chainB' hBa5 hb hBa5.size
        have hsz3 := hb.size
        replace hD4 := there_later hD4 (by omega) hb
        replace hl4 := Nat.lt_of_lt_of_le hl4 hb.size
        replace hD5 := there_later hD5 (by omega) hb
        replace hl5 := Nat.lt_of_lt_of_le hl5 hb.size
        clear hHeld hb
        have hHeld := hHeld2
        clear hHeld2
        try simp only [Act.put, List.setIfInBounds_toArray, List.set_cons_zero, List.set_cons_succ]
        have hne : D4 ≠ D5 := by omega
        refine wpAnyH_ready (rs := [6]) (by kernel_rfl) (by simp) ?_
        refine AllReadyH.cons (o := { dst := none, op := Op.store 27 (Operand.tmp 7) (Operand.tmp 10), type := 0, pos := "law.go:37", after := #[{ on := 4, ground := Ground.data }, { on := 1, ground := Ground.data }, { on := 3, ground := Ground.chain }, { on := 0, ground := Ground.phase }, { on := 1, ground := Ground.phase }, { on := 2, ground := Ground.textOnly Departure.lateStores }, { on := 3, ground := Ground.textOnly Departure.lateStoresUnsure }, { on := 4, ground := Ground.phase }, { on := 5, ground := Ground.phase }], guard := none }) rfl (fun K hK => ?_) AllReadyH.nil
        rw [if_pos (by rfl)]
        refine wp_store_mid 27 _ _ rfl D4 0 (sV va) rfl rfl hD4 (by kernel_rfl) (longV_one _ _) ?_
        refine hK.out _ _ ?_ (fun hHeld2 => ?_)
        · exact ⟨World.rangeAt_setCells_apart hHeld.1 _ _ _ (.inl (by omega)), World.rangeAt_setCells_apart hHeld.2 _ _ _ (.inl (by omega))⟩
        clear hK K hHeld
        try simp only [Act.put, List.setIfInBounds_toArray, List.set_cons_zero, List.set_cons_succ]
        have hg4 := World.rangeAt_setCells_same wc3 D4 0 (sV va).toList hD4
        have hD5b := World.there_setCells hD5 D4 0 (sV va).toList
        have hBy := setCellsB hBc3 D4 0 (sV va).toList (by omega)
        generalize wc3.setCells D4 0 (sV va).toList = wy at *
        refine wpAnyH_ready (rs := [7]) (by kernel_rfl) (by simp) ?_
        refine AllReadyH.cons (o := { dst := none, op := Op.store 27 (Operand.tmp 8) (Operand.tmp 12), type := 0, pos := "law.go:37", after := #[{ on := 5, ground := Ground.data }, { on := 3, ground := Ground.data }, { on := 6, ground := Ground.chain }, { on := 0, ground := Ground.phase }, { on := 1, ground := Ground.phase }, { on := 2, ground := Ground.phase }, { on := 3, ground := Ground.phase }, { on := 4, ground := Ground.phase }, { on := 5, ground := Ground.phase }, { on := 6, ground := Ground.phase }], guard := none }) rfl (fun K hK => ?_) AllReadyH.nil
        rw [if_pos (by rfl)]
        refine wp_store_mid 27 _ _ rfl D5 0 (sV vb) rfl rfl hD5b (by kernel_rfl) (longV_one _ _) ?_
        refine hK.out _ _ ?_ (fun hHeld3 => ?_)
        · exact ⟨World.rangeAt_setCells_apart hHeld2.1 _ _ _ (.inl (by omega)), World.rangeAt_setCells_apart hHeld2.2 _ _ _ (.inl (by omega))⟩
        clear hK K hHeld2
        try simp only [Act.put, List.setIfInBounds_toArray, List.set_cons_zero, List.set_cons_succ]
        have hg4b := World.rangeAt_setCells_apart hg4 D5 0 (sV vb).toList (.inl hne)
        have hg5 := World.rangeAt_setCells_same wy D5 0 (sV vb).toList hD5b
        have hBz := setCellsB hBy D5 0 (sV vb).toList (by omega)
        generalize wy.setCells D5 0 (sV vb).toList = wz at *
        refine wpAnyH_done (by kernel_rfl) ?_ _
        exact HK D4 D5 wz ⟨hHeld3.1, hHeld3.2, hg4b, hg5⟩ hBz
    · go_simp
      refine hK.out _ _ ?_ (fun hHeld2 => ?_)
      · exact ⟨World.rangeAt_alloc hHeld.1 _, World.rangeAt_alloc hHeld.2 _⟩
      clear hK K
      have hD5 : (wc1.alloc (.cells zeros11 27)).there wc1.heap.size 0 11 := there_new wc1 zeros11 27
      have hl5 : wc1.heap.size < (wc1.alloc (.cells zeros11 27)).heap.size := by rw [World.size_alloc]; exact Nat.lt_succ_self _
      have hm5 : w.heap.size + 1 < wc1.heap.size := by omega
      have hBa5 := (hBc1).alloc (by omega) (.cells zeros11 27)
      generalize wc1.alloc (.cells zeros11 27) = wa5 at *
      generalize wc1.heap.size = D5 at *
      clear hHeld
      have hHeld := hHeld2
      clear hHeld2
      try simp only [Act.put, List.setIfInBounds_toArray, List.set_cons_zero, List.set_cons_succ]
      refine wpAnyH_ready (rs := [3, 4]) (by kernel_rfl) (by simp) ?_
      refine AllReadyH.cons (o := { dst := some 12, op := Op.call { callee := Callee.value (Operand.func 20), args := #[Operand.tmp 11], argTypes := #[40] }, type := 27, pos := "law.go:37", after := #[{ on := 2, ground := Ground.data }, { on := 1, ground := Ground.chain }], guard := none }) rfl (fun K hK => ?_) (AllReadyH.cons (o := { dst := some 7, op := Op.alloc 27, type := 0, pos := "law.go:37", after := #[], guard := none }) rfl (fun K hK => ?_) AllReadyH.nil)
      · go_simp
        go_at_call 20
        refine (HNB _).mono ?_
        rintro e wc3 ⟨rfl, hb⟩
        refine hK.out _ _ ?_ (fun hHeld2 => ?_)
        · exact ⟨rangeAt_later hHeld.1 hb, rangeAt_later hHeld.2 hb⟩
        clear hK K
        have hBc3 := chainB' hBa5 hb hBa5.size
        have hsz3 := hb.size
        replace hD5 := there_later hD5 (by omega) hb
        replace hl5 := Nat.lt_of_lt_of_le hl5 hb.size
        clear hHeld hb
        have hHeld := hHeld2
        clear hHeld2
        try simp only [Act.put, List.setIfInBounds_toArray, List.set_cons_zero, List.set_cons_succ]
        refine wpAnyH_ready (rs := [4]) (by kernel_rfl) (by simp) ?_
        refine AllReadyH.cons (o := { dst := some 7, op := Op.alloc 27, type := 0, pos := "law.go:37", after := #[], guard := none }) rfl (fun K hK => ?_) AllReadyH.nil
        go_simp
        refine hK.out _ _ ?_ (fun hHeld2 => ?_)
        · exact ⟨World.rangeAt_alloc hHeld.1 _, World.rangeAt_alloc hHeld.2 _⟩
        clear hK K
        have hD4 : (wc3.alloc (.cells zeros11 27)).there wc3.heap.size 0 11 := there_new wc3 zeros11 27
        have hl4 : wc3.heap.size < (wc3.alloc (.cells zeros11 27)).heap.size := by rw [World.size_alloc]; exact Nat.lt_succ_self _
        have hm4 : w.heap.size + 1 < wc3.heap.size := by omega
        have hBa4 := (hBc3).alloc (by omega) (.cells zeros11 27)
        replace hD5 := World.there_alloc hD5 (.cells zeros11 27)
        have hn5 : D5 < wc3.heap.size := by omega
        replace hl5 : D5 < (wc3.alloc (.cells zeros11 27)).heap.size := Nat.lt_trans hn5 hl4
        generalize wc3.alloc (.cells zeros11 27) = wa4 at *
        generalize wc3.heap.size = D4 at *
        clear hHeld
        have hHeld := hHeld2
        clear hHeld2
        try simp only [Act.put, List.setIfInBounds_toArray, List.set_cons_zero, List.set_cons_succ]
        have hne : D4 ≠ D5 := by omega
        refine wpAnyH_ready (rs := [6]) (by kernel_rfl) (by simp) ?_
        refine AllReadyH.cons (o := { dst := none, op := Op.store 27 (Operand.tmp 7) (Operand.tmp 10), type := 0, pos := "law.go:37", after := #[{ on := 4, ground := Ground.data }, { on := 1, ground := Ground.data }, { on := 3, ground := Ground.chain }, { on := 0, ground := Ground.phase }, { on := 1, ground := Ground.phase }, { on := 2, ground := Ground.textOnly Departure.lateStores }, { on := 3, ground := Ground.textOnly Departure.lateStoresUnsure }, { on := 4, ground := Ground.phase }, { on := 5, ground := Ground.phase }], guard := none }) rfl (fun K hK => ?_) AllReadyH.nil
        rw [if_pos (by rfl)]
        refine wp_store_mid 27 _ _ rfl D4 0 (sV va) rfl rfl hD4 (by kernel_rfl) (longV_one _ _) ?_
        refine hK.out _ _ ?_ (fun hHeld2 => ?_)
        · exact ⟨World.rangeAt_setCells_apart hHeld.1 _ _ _ (.inl (by omega)), World.rangeAt_setCells_apart hHeld.2 _ _ _ (.inl (by omega))⟩
        clear hK K hHeld
        try simp only [Act.put, List.setIfInBounds_toArray, List.set_cons_zero, List.set_cons_succ]
        have hg4 := World.rangeAt_setCells_same wa4 D4 0 (sV va).toList hD4
        have hD5b := World.there_setCells hD5 D4 0 (sV va).toList
        have hBy := setCellsB hBa4 D4 0 (sV va).toList (by omega)
        generalize wa4.setCells D4 0 (sV va).toList = wy at *
        refine wpAnyH_ready (rs := [7]) (by kernel_rfl) (by simp) ?_
        refine AllReadyH.cons (o := { dst := none, op := Op.store 27 (Operand.tmp 8) (Operand.tmp 12), type := 0, pos := "law.go:37", after := #[{ on := 5, ground := Ground.data }, { on := 3, ground := Ground.data }, { on := 6, ground := Ground.chain }, { on := 0, ground := Ground.phase }, { on := 1, ground := Ground.phase }, { on := 2, ground := Ground.phase }, { on := 3, ground := Ground.phase }, { on := 4, ground := Ground.phase }, { on := 5, ground := Ground.phase }, { on := 6, ground := Ground.phase }], guard := none }) rfl (fun K hK => ?_) AllReadyH.nil
        rw [if_pos (by rfl)]
        refine wp_store_mid 27 _ _ rfl D5 0 (sV vb) rfl rfl hD5b (by kernel_rfl) (longV_one _ _) ?_
        refine hK.out _ _ ?_ (fun hHeld3 => ?_)
        · exact ⟨World.rangeAt_setCells_apart hHeld2.1 _ _ _ (.inl (by omega)), World.rangeAt_setCells_apart hHeld2.2 _ _ _ (.inl (by omega))⟩
        clear hK K hHeld2
        try simp only [Act.put, List.setIfInBounds_toArray, List.set_cons_zero, List.set_cons_succ]
        have hg4b := World.rangeAt_setCells_apart hg4 D5 0 (sV vb).toList (.inl hne)
        have hg5 := World.rangeAt_setCells_same wy D5 0 (sV vb).toList hD5b
        have hBz := setCellsB hBy D5 0 (sV vb).toList (by omega)
        generalize wy.setCells D5 0 (sV vb).toList = wz at *
        refine wpAnyH_done (by kernel_rfl) ?_ _
        exact HK D4 D5 wz ⟨hHeld3.1, hHeld3.2, hg4b, hg5⟩ hBz
      · go_simp
        refine hK.out _ _ ?_ (fun hHeld2 => ?_)
        · exact ⟨World.rangeAt_alloc hHeld.1 _, World.rangeAt_alloc hHeld.2 _⟩
        clear hK K
        have hD4 : (wa5.alloc (.cells zeros11 27)).there wa5.heap.size 0 11 := there_new wa5 zeros11 27
        have hl4 : wa5.heap.size < (wa5.alloc (.cells zeros11 27)).heap.size := by rw [World.size_alloc]; exact Nat.lt_succ_self _
        have hm4 : w.heap.size + 1 < wa5.heap.size := by omega
        have hBa4 := (hBa5).alloc (by omega) (.cells zeros11 27)
        replace hD5 := World.there_alloc hD5 (.cells zeros11 27)
        have hn5 : D5 < wa5.heap.size := by omega
        replace hl5 : D5 < (wa5.alloc (.cells zeros11 27)).heap.size := Nat.lt_trans hn5 hl4
        generalize wa5.alloc (.cells zeros11 27) = wa4 at *
        generalize wa5.heap.size = D4 at *
        clear hHeld
        have hHeld := hHeld2
        clear hHeld2
        try simp only [Act.put, List.setIfInBounds_toArray, List.set_cons_zero, List.set_cons_succ]
        refine wpAnyH_ready (rs := [3]) (by kernel_rfl) (by simp) ?_
        refine AllReadyH.cons (o := { dst := some 12, op := Op.call { callee := Callee.value (Operand.func 20), args := #[Operand.tmp 11], argTypes := #[40] }, type := 27, pos := "law.go:37", after := #[{ on := 2, ground := Ground.data }, { on := 1, ground := Ground.chain }], guard := none }) rfl (fun K hK => ?_) AllReadyH.nil
        go_simp
        go_at_call 20
        refine (HNB _).mono ?_
        rintro e wc3 ⟨rfl, hb⟩
        refine hK.out _ _ ?_ (fun hHeld2 => ?_)
        · exact ⟨rangeAt_later hHeld.1 hb, rangeAt_later hHeld.2 hb⟩
        clear hK K
        have hBc3 := chainB' hBa4 hb hBa4.size
        have hsz3 := hb.size
        replace hD5 := there_later hD5 (by omega) hb
        replace hl5 := Nat.lt_of_lt_of_le hl5 hb.size
        replace hD4 := there_later hD4 (by omega) hb
        replace hl4 := Nat.lt_of_lt_of_le hl4 hb.size
        clear hHeld hb
        have hHeld := hHeld2
        clear hHeld2
        try simp only [Act.put, List.setIfInBounds_toArray, List.set_cons_zero, List.set_cons_succ]
        have hne : D4 ≠ D5 := by omega
        refine wpAnyH_ready (rs := [6]) (by kernel_rfl) (by simp) ?_
        refine AllReadyH.cons (o := { dst := none, op := Op.store 27 (Operand.tmp 7) (Operand.tmp 10), type := 0, pos := "law.go:37", after := #[{ on := 4, ground := Ground.data }, { on := 1, ground := Ground.data }, { on := 3, ground := Ground.chain }, { on := 0, ground := Ground.phase }, { on := 1, ground := Ground.phase }, { on := 2, ground := Ground.textOnly Departure.lateStores }, { on := 3, ground := Ground.textOnly Departure.lateStoresUnsure }, { on := 4, ground := Ground.phase }, { on := 5, ground := Ground.phase }], guard := none }) rfl (fun K hK => ?_) AllReadyH.nil
        rw [if_pos (by rfl)]
        refine wp_store_mid 27 _ _ rfl D4 0 (sV va) rfl rfl hD4 (by kernel_rfl) (longV_one _ _) ?_
        refine hK.out _ _ ?_ (fun hHeld2 => ?_)
        · exact ⟨World.rangeAt_setCells_apart hHeld.1 _ _ _ (.inl (by omega)), World.rangeAt_setCells_apart hHeld.2 _ _ _ (.inl (by omega))⟩
        clear hK K hHeld
        try simp only [Act.put, List.setIfInBounds_toArray, List.set_cons_zero, List.set_cons_succ]
        have hg4 := World.rangeAt_setCells_same wc3 D4 0 (sV va).toList hD4
        have hD5b := World.there_setCells hD5 D4 0 (sV va).toList
        have hBy := setCellsB hBc3 D4 0 (sV va).toList (by omega)
        generalize wc3.setCells D4 0 (sV va).toList = wy at *
        refine wpAnyH_ready (rs := [7]) (by kernel_rfl) (by simp) ?_
        refine AllReadyH.cons (o := { dst := none, op := Op.store 27 (Operand.tmp 8) (Operand.tmp 12), type := 0, pos := "law.go:37", after := #[{ on := 5, ground := Ground.data }, { on := 3, ground := Ground.data }, { on := 6, ground := Ground.chain }, { on := 0, ground := Ground.phase }, { on := 1, ground := Ground.phase }, { on := 2, ground := Ground.phase }, { on := 3, ground := Ground.phase }, { on := 4, ground := Ground.phase }, { on := 5, ground := Ground.phase }, { on := 6, ground := Ground.phase }], guard := none }) rfl (fun K hK => ?_) AllReadyH.nil
        rw [if_pos (by rfl)]
        refine wp_store_mid 27 _ _ rfl D5 0 (sV vb) rfl rfl hD5b (by kernel_rfl) (longV_one _ _) ?_
        refine hK.out _ _ ?_ (fun hHeld3 => ?_)
        · exact ⟨World.rangeAt_setCells_apart hHeld2.1 _ _ _ (.inl (by omega)), World.rangeAt_setCells_apart hHeld2.2 _ _ _ (.inl (by omega))⟩
        clear hK K hHeld2
        try simp only [Act.put, List.setIfInBounds_toArray, List.set_cons_zero, List.set_cons_succ]
        have hg4b := World.rangeAt_setCells_apart hg4 D5 0 (sV vb).toList (.inl hne)
        have hg5 := World.rangeAt_setCells_same wy D5 0 (sV vb).toList hD5b
        have hBz := setCellsB hBy D5 0 (sV vb).toList (by omega)
        generalize wy.setCells D5 0 (sV vb).toList = wz at *
        refine wpAnyH_done (by kernel_rfl) ?_ _
        exact HK D4 D5 wz ⟨hHeld3.1, hHeld3.2, hg4b, hg5⟩ hBz
  · go_simp
    refine hK.out _ _ ?_ (fun hHeld2 => ?_)
    · exact ⟨World.rangeAt_alloc hHeld.1 _, World.rangeAt_alloc hHeld.2 _⟩
    clear hK K
    have hD4 : (w5.alloc (.cells zeros11 27)).there w5.heap.size 0 11 := there_new w5 zeros11 27
    have hl4 : w5.heap.size < (w5.alloc (.cells zeros11 27)).heap.size := by rw [World.size_alloc]; exact Nat.lt_succ_self _
    have hm4 : w.heap.size + 1 < w5.heap.size := by omega
    have hBa4 := (hB).alloc (by omega) (.cells zeros11 27)
    generalize w5.alloc (.cells zeros11 27) = wa4 at *
    generalize w5.heap.size = D4 at *
    clear hHeld
    have hHeld := hHeld2
    clear hHeld2
    try simp only [Act.put, List.setIfInBounds_toArray, List.set_cons_zero, List.set_cons_succ]
    refine wpAnyH_ready (rs := [1, 5]) (by kernel_rfl) (by simp) ?_
    refine AllReadyH.cons (o := { dst := some 10, op := Op.call { callee := Callee.value (Operand.func 20), args := #[Operand.tmp 9], argTypes := #[40] }, type := 27, pos := "law.go:37", after := #[{ on := 0, ground := Ground.data }], guard := none }) rfl (fun K hK => ?_) (AllReadyH.cons (o := { dst := some 8, op := Op.alloc 27, type := 0, pos := "law.go:37", after := #[], guard := none }) rfl (fun K hK => ?_) AllReadyH.nil)
    · go_simp
      go_at_call 20
      refine (HNA _).mono ?_
      rintro e wc1 ⟨rfl, hb⟩
      refine hK.out _ _ ?_ (fun hHeld2 => ?_)
      · exact ⟨rangeAt_later hHeld.1 hb, rangeAt_later hHeld.2 hb⟩
      clear hK K
      have hBc1 := chainB' hBa4 hb hBa4.size
      have hsz1 := hb.size
      replace hD4 := there_later hD4 (by omega) hb
      replace hl4 := Nat.lt_of_lt_of_le hl4 hb.size
      clear hHeld hb
      have hHeld := hHeld2
      clear hHeld2
      try simp only [Act.put, List.setIfInBounds_toArray, List.set_cons_zero, List.set_cons_succ]
      refine wpAnyH_ready (rs := [3, 5]) (by kernel_rfl) (by simp) ?_
      refine AllReadyH.cons (o := { dst := some 12, op := Op.call { callee := Callee.value (Operand.func 20), args := #[Operand.tmp 11], argTypes := #[40] }, type := 27, pos := "law.go:37", after := #[{ on := 2, ground := Ground.data }, { on := 1, ground := Ground.chain }], guard := none }) rfl (fun K hK => ?_) (AllReadyH.cons (o := { dst := some 8, op := Op.alloc 27, type := 0, pos := "law.go:37", after := #[], guard := none }) rfl (fun K hK => ?_) AllReadyH.nil)
      · go_simp
        go_at_call 20
        refine (HNB _).mono ?_
        rintro e wc3 ⟨rfl, hb⟩
        refine hK.out _ _ ?_ (fun hHeld2 => ?_)
        · exact ⟨rangeAt_later hHeld.1 hb, rangeAt_later hHeld.2 hb⟩
        clear hK K
        have hBc3 := chainB' hBc1 hb hBc1.size
        have hsz3 := hb.size
        replace hD4 := there_later hD4 (by omega) hb
        replace hl4 := Nat.lt_of_lt_of_le hl4 hb.size
        clear hHeld hb
        have hHeld := hHeld2
        clear hHeld2
        try simp only [Act.put, List.setIfInBounds_toArray, List.set_cons_zero, List.set_cons_succ]
        refine wpAnyH_ready (rs := [5]) (by kernel_rfl) (by simp) ?_
        refine AllReadyH.cons (o := { dst := some 8, op := Op.alloc 27, type := 0, pos := "law.go:37", after := #[], guard := none }) rfl (fun K hK => ?_) AllReadyH.nil
        go_simp
        refine hK.out _ _ ?_ (fun hHeld2 => ?_)
        · exact ⟨World.rangeAt_alloc hHeld.1 _, World.rangeAt_alloc hHeld.2 _⟩
        clear hK K
        have hD5 : (wc3.alloc (.cells zeros11 27)).there wc3.heap.size 0 11 := there_new wc3 zeros11 27
        have hl5 : wc3.heap.size < (wc3.alloc (.cells zeros11 27)).heap.size := by rw [World.size_alloc]; exact Nat.lt_succ_self _
        have hm5 : w.heap.size + 1 < wc3.heap.size := by omega
        have hBa5 := (hBc3).alloc (by omega) (.cells zeros11 27)
        replace hD4 := World.there_alloc hD4 (.cells zeros11 27)
        have hn4 : D4 < wc3.heap.size := by omega
        replace hl4 : D4 < (wc3.alloc (.cells zeros11 27)).heap.size := Nat.lt_trans hn4 hl5
        generalize wc3.alloc (.cells zeros11 27) = wa5 at *
        generalize wc3.heap.size = D5 at *
        clear hHeld
        have hHeld := hHeld2
        clear hHeld2
        try simp only [Act.put, List.setIfInBounds_toArray, List.set_cons_zero, List.set_cons_succ]
        have hne : D4 ≠ D5 := by omega
        refine wpAnyH_ready (rs := [6]) (by kernel_rfl) (by simp) ?_
        refine AllReadyH.cons (o := { dst := none, op := Op.store 27 (Operand.tmp 7) (Operand.tmp 10), type := 0, pos := "law.go:37", after := #[{ on := 4, ground := Ground.data }, { on := 1, ground := Ground.data }, { on := 3, ground := Ground.chain }, { on := 0, ground := Ground.phase }, { on := 1, ground := Ground.phase }, { on := 2, ground := Ground.textOnly Departure.lateStores }, { on := 3, ground := Ground.textOnly Departure.lateStoresUnsure }, { on := 4, ground := Ground.phase }, { on := 5, ground := Ground.phase }], guard := none }) rfl (fun K hK => ?_) AllReadyH.nil
        rw [if_pos (by rfl)]
        refine wp_store_mid 27 _ _ rfl D4 0 (sV va) rfl rfl hD4 (by kernel_rfl) (longV_one _ _) ?_
        refine hK.out _ _ ?_ (fun hHeld2 => ?_)
        · exact ⟨World.rangeAt_setCells_apart hHeld.1 _ _ _ (.inl (by omega)), World.rangeAt_setCells_apart hHeld.2 _ _ _ (.inl (by omega))⟩
        clear hK K hHeld
        try simp only [Act.put, List.setIfInBounds_toArray, List.set_cons_zero, List.set_cons_succ]
        have hg4 := World.rangeAt_setCells_same wa5 D4 0 (sV va).toList hD4
        have hD5b := World.there_setCells hD5 D4 0 (sV va).toList
        have hBy := setCellsB hBa5 D4 0 (sV va).toList (by omega)
        generalize wa5.setCells D4 0 (sV va).toList = wy at *
        refine wpAnyH_ready (rs := [7]) (by kernel_rfl) (by simp) ?_
        refine AllReadyH.cons (o := { dst := none, op := Op.store 27 (Operand.tmp 8) (Operand.tmp 12), type := 0, pos := "law.go:37", after := #[{ on := 5, ground := Ground.data }, { on := 3, ground := Ground.data }, { on := 6, ground := Ground.chain }, { on := 0, ground := Ground.phase }, { on := 1, ground := Ground.phase }, { on := 2, ground := Ground.phase }, { on := 3, ground := Ground.phase }, { on := 4, ground := Ground.phase }, { on := 5, ground := Ground.phase }, { on := 6, ground := Ground.phase }], guard := none }) rfl (fun K hK => ?_) AllReadyH.nil
        rw [if_pos (by rfl)]
        refine wp_store_mid 27 _ _ rfl D5 0 (sV vb) rfl rfl hD5b (by kernel_rfl) (longV_one _ _) ?_
        refine hK.out _ _ ?_ (fun hHeld3 => ?_)
        · exact ⟨World.rangeAt_setCells_apart hHeld2.1 _ _ _ (.inl (by omega)), World.rangeAt_setCells_apart hHeld2.2 _ _ _ (.inl (by omega))⟩
        clear hK K hHeld2
        try simp only [Act.put, List.setIfInBounds_toArray, List.set_cons_zero, List.set_cons_succ]
        have hg4b := World.rangeAt_setCells_apart hg4 D5 0 (sV vb).toList (.inl hne)
        have hg5 := World.rangeAt_setCells_same wy D5 0 (sV vb).toList hD5b
        have hBz := setCellsB hBy D5 0 (sV vb).toList (by omega)
        generalize wy.setCells D5 0 (sV vb).toList = wz at *
        refine wpAnyH_done (by kernel_rfl) ?_ _
        exact HK D4 D5 wz ⟨hHeld3.1, hHeld3.2, hg4b, hg5⟩ hBz
      · go_simp
        refine hK.out _ _ ?_ (fun hHeld2 => ?_)
        · exact ⟨World.rangeAt_alloc hHeld.1 _, World.rangeAt_alloc hHeld.2 _⟩
        clear hK K
        have hD5 : (wc1.alloc (.cells zeros11 27)).there wc1.heap.size 0 11 := there_new wc1 zeros11 27
        have hl5 : wc1.heap.size < (wc1.alloc (.cells zeros11 27)).heap.size := by rw [World.size_alloc]; exact Nat.lt_succ_self _
        have hm5 : w.heap.size + 1 < wc1.heap.size := by omega
        have hBa5 := (hBc1).alloc (by omega) (.cells zeros11 27)
        replace hD4 := World.there_alloc hD4 (.cells zeros11 27)
        have hn4 : D4 < wc1.heap.size := by omega
        replace hl4 : D4 < (wc1.alloc (.cells zeros11 27)).heap.size := Nat.lt_trans hn4 hl5
        generalize wc1.alloc (.cells zeros11 27) = wa5 at *
        generalize wc1.heap.size = D5 at *
        clear hHeld
        have hHeld := hHeld2
        clear hHeld2
        try simp only [Act.put, List.setIfInBounds_toArray, List.set_cons_zero, List.set_cons_succ]
        refine wpAnyH_ready (rs := [3]) (by kernel_rfl) (by simp) ?_
        refine AllReadyH.cons (o := { dst := some 12, op := Op.call { callee := Callee.value (Operand.func 20), args := #[Operand.tmp 11], argTypes := #[40] }, type := 27, pos := "law.go:37", after := #[{ on := 2, ground := Ground.data }, { on := 1, ground := Ground.chain }], guard := none }) rfl (fun K hK => ?_) AllReadyH.nil
        go_simp
        go_at_call 20
        refine (HNB _).mono ?_
        rintro e wc3 ⟨rfl, hb⟩
        refine hK.out _ _ ?_ (fun hHeld2 => ?_)
        · exact ⟨rangeAt_later hHeld.1 hb, rangeAt_later hHeld.2 hb⟩
        clear hK K
        have hBc3 := chainB' hBa5 hb hBa5.size
        have hsz3 := hb.size
        replace hD4 := there_later hD4 (by omega) hb
        replace hl4 := Nat.lt_of_lt_of_le hl4 hb.size
        replace hD5 := there_later hD5 (by omega) hb
        replace hl5 := Nat.lt_of_lt_of_le hl5 hb.size
        clear hHeld hb
        have hHeld := hHeld2
        clear hHeld2
        try simp only [Act.put, List.setIfInBounds_toArray, List.set_cons_zero, List.set_cons_succ]
        have hne : D4 ≠ D5 := by omega
        refine wpAnyH_ready (rs := [6]) (by kernel_rfl) (by simp) ?_
        refine AllReadyH.cons (o := { dst := none, op := Op.store 27 (Operand.tmp 7) (Operand.tmp 10), type := 0, pos := "law.go:37", after := #[{ on := 4, ground := Ground.data }, { on := 1, ground := Ground.data }, { on := 3, ground := Ground.chain }, { on := 0, ground := Ground.phase }, { on := 1, ground := Ground.phase }, { on := 2, ground := Ground.textOnly Departure.lateStores }, { on := 3, ground := Ground.textOnly Departure.lateStoresUnsure }, { on := 4, ground := Ground.phase }, { on := 5, ground := Ground.phase }], guard := none }) rfl (fun K hK => ?_) AllReadyH.nil
        rw [if_pos (by rfl)]
        refine wp_store_mid 27 _ _ rfl D4 0 (sV va) rfl rfl hD4 (by kernel_rfl) (longV_one _ _) ?_
        refine hK.out _ _ ?_ (fun hHeld2 => ?_)
        · exact ⟨World.rangeAt_setCells_apart hHeld.1 _ _ _ (.inl (by omega)), World.rangeAt_setCells_apart hHeld.2 _ _ _ (.inl (by omega))⟩
        clear hK K hHeld
        try simp only [Act.put, List.setIfInBounds_toArray, List.set_cons_zero, List.set_cons_succ]
        have hg4 := World.rangeAt_setCells_same wc3 D4 0 (sV va).toList hD4
        have hD5b := World.there_setCells hD5 D4 0 (sV va).toList
        have hBy := setCellsB hBc3 D4 0 (sV va).toList (by omega)
        generalize wc3.setCells D4 0 (sV va).toList = wy at *
        refine wpAnyH_ready (rs := [7]) (by kernel_rfl) (by simp) ?_
        refine AllReadyH.cons (o := { dst := none, op := Op.store 27 (Operand.tmp 8) (Operand.tmp 12), type := 0, pos := "law.go:37", after := #[{ on := 5, ground := Ground.data }, { on := 3, ground := Ground.data }, { on := 6, ground := Ground.chain }, { on := 0, ground := Ground.phase }, { on := 1, ground := Ground.phase }, { on := 2, ground := Ground.phase }, { on := 3, ground := Ground.phase }, { on := 4, ground := Ground.phase }, { on := 5, ground := Ground.phase }, { on := 6, ground := Ground.phase }], guard := none }) rfl (fun K hK => ?_) AllReadyH.nil
        rw [if_pos (by rfl)]
        refine wp_store_mid 27 _ _ rfl D5 0 (sV vb) rfl rfl hD5b (by kernel_rfl) (longV_one _ _) ?_
        refine hK.out _ _ ?_ (fun hHeld3 => ?_)
        · exact ⟨World.rangeAt_setCells_apart hHeld2.1 _ _ _ (.inl (by omega)), World.rangeAt_setCells_apart hHeld2.2 _ _ _ (.inl (by omega))⟩
        clear hK K hHeld2
        try simp only [Act.put, List.setIfInBounds_toArray, List.set_cons_zero, List.set_cons_succ]
        have hg4b := World.rangeAt_setCells_apart hg4 D5 0 (sV vb).toList (.inl hne)
        have hg5 := World.rangeAt_setCells_same wy D5 0 (sV vb).toList hD5b
        have hBz := setCellsB hBy D5 0 (sV vb).toList (by omega)
        generalize wy.setCells D5 0 (sV vb).toList = wz at *
        refine wpAnyH_done (by kernel_rfl) ?_ _
        exact HK D4 D5 wz ⟨hHeld3.1, hHeld3.2, hg4b, hg5⟩ hBz
    · go_simp
      refine hK.out _ _ ?_ (fun hHeld2 => ?_)
      · exact ⟨World.rangeAt_alloc hHeld.1 _, World.rangeAt_alloc hHeld.2 _⟩
      clear hK K
      have hD5 : (wa4.alloc (.cells zeros11 27)).there wa4.heap.size 0 11 := there_new wa4 zeros11 27
      have hl5 : wa4.heap.size < (wa4.alloc (.cells zeros11 27)).heap.size := by rw [World.size_alloc]; exact Nat.lt_succ_self _
      have hm5 : w.heap.size + 1 < wa4.heap.size := by omega
      have hBa5 := (hBa4).alloc (by omega) (.cells zeros11 27)
      replace hD4 := World.there_alloc hD4 (.cells zeros11 27)
      have hn4 : D4 < wa4.heap.size := by omega
      replace hl4 : D4 < (wa4.alloc (.cells zeros11 27)).heap.size := Nat.lt_trans hn4 hl5
      generalize wa4.alloc (.cells zeros11 27) = wa5 at *
      generalize wa4.heap.size = D5 at *
      clear hHeld
      have hHeld := hHeld2
      clear hHeld2
      try simp only [Act.put, List.setIfInBounds_toArray, List.set_cons_zero, List.set_cons_succ]
      refine wpAnyH_ready (rs := [1]) (by kernel_rfl) (by simp) ?_
      refine AllReadyH.cons (o := { dst := some 10, op := Op.call { callee := Callee.value (Operand.func 20), args := #[Operand.tmp 9], argTypes := #[40] }, type := 27, pos := "law.go:37", after := #[{ on := 0, ground := Ground.data }], guard := none }) rfl (fun K hK => ?_) AllReadyH.nil
      go_simp
      go_at_call 20
      refine (HNA _).mono ?_
      rintro e wc1 ⟨rfl, hb⟩
      refine hK.out _ _ ?_ (fun hHeld2 => ?_)
      · exact ⟨rangeAt_later hHeld.1 hb, rangeAt_later hHeld.2 hb⟩
      clear hK K
      have hBc1 := chainB' hBa5 hb hBa5.size
      have hsz1 := hb.size
      replace hD4 := there_later hD4 (by omega) hb
      replace hl4 := Nat.lt_of_lt_of_le hl4 hb.size
      replace hD5 := there_later hD5 (by omega) hb
      replace hl5 := Nat.lt_of_lt_of_le hl5 hb.size
      clear hHeld hb
      have hHeld := hHeld2
      clear hHeld2
      try simp only [Act.put, List.setIfInBounds_toArray, List.set_cons_zero, List.set_cons_succ]
      refine wpAnyH_ready (rs := [3]) (by kernel_rfl) (by simp) ?_
      refine AllReadyH.cons (o := { dst := some 12, op := Op.call { callee := Callee.value (Operand.func 20), args := #[Operand.tmp 11], argTypes := #[40] }, type := 27, pos := "law.go:37", after := #[{ on := 2, ground := Ground.data }, { on := 1, ground := Ground.chain }], guard := none }) rfl (fun K hK => ?_) AllReadyH.nil
      go_simp
      go_at_call 20
      refine (HNB _).mono ?_
      rintro e wc3 ⟨rfl, hb⟩
      refine hK.out _ _ ?_ (fun hHeld2 => ?_)
      · exact ⟨rangeAt_later hHeld.1 hb, rangeAt_later hHeld.2 hb⟩
      clear hK K
      have hBc3 := chainB' hBc1 hb hBc1.size
      have hsz3 := hb.size
      replace hD4 := there_later hD4 (by omega) hb
      replace hl4 := Nat.lt_of_lt_of_le hl4 hb.size
      replace hD5 := there_later hD5 (by omega) hb
      replace hl5 := Nat.lt_of_lt_of_le hl5 hb.size
      clear hHeld hb
      have hHeld := hHeld2
      clear hHeld2
      try simp only [Act.put, List.setIfInBounds_toArray, List.set_cons_zero, List.set_cons_succ]
      have hne : D4 ≠ D5 := by omega
      refine wpAnyH_ready (rs := [6]) (by kernel_rfl) (by simp) ?_
      refine AllReadyH.cons (o := { dst := none, op := Op.store 27 (Operand.tmp 7) (Operand.tmp 10), type := 0, pos := "law.go:37", after := #[{ on := 4, ground := Ground.data }, { on := 1, ground := Ground.data }, { on := 3, ground := Ground.chain }, { on := 0, ground := Ground.phase }, { on := 1, ground := Ground.phase }, { on := 2, ground := Ground.textOnly Departure.lateStores }, { on := 3, ground := Ground.textOnly Departure.lateStoresUnsure }, { on := 4, ground := Ground.phase }, { on := 5, ground := Ground.phase }], guard := none }) rfl (fun K hK => ?_) AllReadyH.nil
      rw [if_pos (by rfl)]
      refine wp_store_mid 27 _ _ rfl D4 0 (sV va) rfl rfl hD4 (by kernel_rfl) (longV_one _ _) ?_
      refine hK.out _ _ ?_ (fun hHeld2 => ?_)
      · exact ⟨World.rangeAt_setCells_apart hHeld.1 _ _ _ (.inl (by omega)), World.rangeAt_setCells_apart hHeld.2 _ _ _ (.inl (by omega))⟩
      clear hK K hHeld
      try simp only [Act.put, List.setIfInBounds_toArray, List.set_cons_zero, List.set_cons_succ]
      have hg4 := World.rangeAt_setCells_same wc3 D4 0 (sV va).toList hD4
      have hD5b := World.there_setCells hD5 D4 0 (sV va).toList
      have hBy := setCellsB hBc3 D4 0 (sV va).toList (by omega)
      generalize wc3.setCells D4 0 (sV va).toList = wy at *
      refine wpAnyH_ready (rs := [7]) (by kernel_rfl) (by simp) ?_
      refine AllReadyH.cons (o := { dst := none, op := Op.store 27 (Operand.tmp 8) (Operand.tmp 12), type := 0, pos := "law.go:37", after := #[{ on := 5, ground := Ground.data }, { on := 3, ground := Ground.data }, { on := 6, ground := Ground.chain }, { on := 0, ground := Ground.phase }, { on := 1, ground := Ground.phase }, { on := 2, ground := Ground.phase }, { on := 3, ground := Ground.phase }, { on := 4, ground := Ground.phase }, { on := 5, ground := Ground.phase }, { on := 6, ground := Ground.phase }], guard := none }) rfl (fun K hK => ?_) AllReadyH.nil
      rw [if_pos (by rfl)]
      refine wp_store_mid 27 _ _ rfl D5 0 (sV vb) rfl rfl hD5b (by kernel_rfl) (longV_one _ _) ?_
      refine hK.out _ _ ?_ (fun hHeld3 => ?_)
      · exact ⟨World.rangeAt_setCells_apart hHeld2.1 _ _ _ (.inl (by omega)), World.rangeAt_setCells_apart hHeld2.2 _ _ _ (.inl (by omega))⟩
      clear hK K hHeld2
      try simp only [Act.put, List.setIfInBounds_toArray, List.set_cons_zero, List.set_cons_succ]
      have hg4b := World.rangeAt_setCells_apart hg4 D5 0 (sV vb).toList (.inl hne)
      have hg5 := World.rangeAt_setCells_same wy D5 0 (sV vb).toList hD5b
      have hBz := setCellsB hBy D5 0 (sV vb).toList (by omega)
      generalize wy.setCells D5 0 (sV vb).toList = wz at *
      refine wpAnyH_done (by kernel_rfl) ?_ _
      exact HK D4 D5 wz ⟨hHeld3.1, hHeld3.2, hg4b, hg5⟩ hBz
  · go_simp
    refine hK.out _ _ ?_ (fun hHeld2 => ?_)
    · exact ⟨World.rangeAt_alloc hHeld.1 _, World.rangeAt_alloc hHeld.2 _⟩
    clear hK K
    have hD5 : (w5.alloc (.cells zeros11 27)).there w5.heap.size 0 11 := there_new w5 zeros11 27
    have hl5 : w5.heap.size < (w5.alloc (.cells zeros11 27)).heap.size := by rw [World.size_alloc]; exact Nat.lt_succ_self _
    have hm5 : w.heap.size + 1 < w5.heap.size := by omega
    have hBa5 := (hB).alloc (by omega) (.cells zeros11 27)
    generalize w5.alloc (.cells zeros11 27) = wa5 at *
    generalize w5.heap.size = D5 at *
    clear hHeld
    have hHeld := hHeld2
    clear hHeld2
    try simp only [Act.put, List.setIfInBounds_toArray, List.set_cons_zero, List.set_cons_succ]
    refine wpAnyH_ready (rs := [1, 4]) (by kernel_rfl) (by simp) ?_
    refine AllReadyH.cons (o := { dst := some 10, op := Op.call { callee := Callee.value (Operand.func 20), args := #[Operand.tmp 9], argTypes := #[40] }, type := 27, pos := "law.go:37", after := #[{ on := 0, ground := Ground.data }], guard := none }) rfl (fun K hK => ?_) (AllReadyH.cons (o := { dst := some 7, op := Op.alloc 27, type := 0, pos := "law.go:37", after := #[], guard := none }) rfl (fun K hK => ?_) AllReadyH.nil)
    · go_simp
      go_at_call 20
      refine (HNA _).mono ?_
      rintro e wc1 ⟨rfl, hb⟩
      refine hK.out _ _ ?_ (fun hHeld2 => ?_)
      · exact ⟨rangeAt_later hHeld.1 hb, rangeAt_later hHeld.2 hb⟩
      clear hK K
      have hBc1 := chainB' hBa5 hb hBa5.size
      have hsz1 := hb.size
      replace hD5 := there_later hD5 (by omega) hb
      replace hl5 := Nat.lt_of_lt_of_le hl5 hb.size
      clear hHeld hb
      have hHeld := hHeld2
      clear hHeld2
      try simp only [Act.put, List.setIfInBounds_toArray, List.set_cons_zero, List.set_cons_succ]
      refine wpAnyH_ready (rs := [3, 4]) (by kernel_rfl) (by simp) ?_
      refine AllReadyH.cons (o := { dst := some 12, op := Op.call { callee := Callee.value (Operand.func 20), args := #[Operand.tmp 11], argTypes := #[40] }, type := 27, pos := "law.go:37", after := #[{ on := 2, ground := Ground.data }, { on := 1, ground := Ground.chain }], guard := none }) rfl (fun K hK => ?_) (AllReadyH.cons (o := { dst := some 7, op := Op.alloc 27, type := 0, pos := "law.go:37", after := #[], guard := none }) rfl (fun K hK => ?_) AllReadyH.nil)
      · go_simp
        go_at_call 20
        refine (HNB _).mono ?_
        rintro e wc3 ⟨rfl, hb⟩
        refine hK.out _ _ ?_ (fun hHeld2 => ?_)
        · exact ⟨rangeAt_later hHeld.1 hb, rangeAt_later hHeld.2 hb⟩
        clear hK K
        have hBc3 := chainB' hBc1 hb hBc1.size
        have hsz3 := hb.size
        replace hD5 := there_later hD5 (by omega) hb
        replace hl5 := Nat.lt_of_lt_of_le hl5 hb.size
        clear hHeld hb
        have hHeld := hHeld2
        clear hHeld2
        try simp only [Act.put, List.setIfInBounds_toArray, List.set_cons_zero, List.set_cons_succ]
        refine wpAnyH_ready (rs := [4]) (by kernel_rfl) (by simp) ?_
        refine AllReadyH.cons (o := { dst := some 7, op := Op.alloc 27, type := 0, pos := "law.go:37", after := #[], guard := none }) rfl (fun K hK => ?_) AllReadyH.nil
        go_simp
        refine hK.out _ _ ?_ (fun hHeld2 => ?_)
        · exact ⟨World.rangeAt_alloc hHeld.1 _, World.rangeAt_alloc hHeld.2 _⟩
        clear hK K
        have hD4 : (wc3.alloc (.cells zeros11 27)).there wc3.heap.size 0 11 := there_new wc3 zeros11 27
        have hl4 : wc3.heap.size < (wc3.alloc (.cells zeros11 27)).heap.size := by rw [World.size_alloc]; exact Nat.lt_succ_self _
        have hm4 : w.heap.size + 1 < wc3.heap.size := by omega
        have hBa4 := (hBc3).alloc (by omega) (.cells zeros11 27)
        replace hD5 := World.there_alloc hD5 (.cells zeros11 27)
        have hn5 : D5 < wc3.heap.size := by omega
        replace hl5 : D5 < (wc3.alloc (.cells zeros11 27)).heap.size := Nat.lt_trans hn5 hl4
        generalize wc3.alloc (.cells zeros11 27) = wa4 at *
        generalize wc3.heap.size = D4 at *
        clear hHeld
        have hHeld := hHeld2
        clear hHeld2
        try simp only [Act.put, List.setIfInBounds_toArray, List.set_cons_zero, List.set_cons_succ]
        have hne : D4 ≠ D5 := by omega
        refine wpAnyH_ready (rs := [6]) (by kernel_rfl) (by simp) ?_
        refine AllReadyH.cons (o := { dst := none, op := Op.store 27 (Operand.tmp 7) (Operand.tmp 10), type := 0, pos := "law.go:37", after := #[{ on := 4, ground := Ground.data }, { on := 1, ground := Ground.data }, { on := 3, ground := Ground.chain }, { on := 0, ground := Ground.phase }, { on := 1, ground := Ground.phase }, { on := 2, ground := Ground.textOnly Departure.lateStores }, { on := 3, ground := Ground.textOnly Departure.lateStoresUnsure }, { on := 4, ground := Ground.phase }, { on := 5, ground := Ground.phase }], guard := none }) rfl (fun K hK => ?_) AllReadyH.nil
        rw [if_pos (by rfl)]
        refine wp_store_mid 27 _ _ rfl D4 0 (sV va) rfl rfl hD4 (by kernel_rfl) (longV_one _ _) ?_
        refine hK.out _ _ ?_ (fun hHeld2 => ?_)
        · exact ⟨World.rangeAt_setCells_apart hHeld.1 _ _ _ (.inl (by omega)), World.rangeAt_setCells_apart hHeld.2 _ _ _ (.inl (by omega))⟩
        clear hK K hHeld
        try simp only [Act.put, List.setIfInBounds_toArray, List.set_cons_zero, List.set_cons_succ]
        have hg4 := World.rangeAt_setCells_same wa4 D4 0 (sV va).toList hD4
        have hD5b := World.there_setCells hD5 D4 0 (sV va).toList
        have hBy := setCellsB hBa4 D4 0 (sV va).toList (by omega)
        generalize wa4.setCells D4 0 (sV va).toList = wy at *
        refine wpAnyH_ready (rs := [7]) (by kernel_rfl) (by simp) ?_
        refine AllReadyH.cons (o := { dst := none, op := Op.store 27 (Operand.tmp 8) (Operand.tmp 12), type := 0, pos := "law.go:37", after := #[{ on := 5, ground := Ground.data }, { on := 3, ground := Ground.data }, { on := 6, ground := Ground.chain }, { on := 0, ground := Ground.phase }, { on := 1, ground := Ground.phase }, { on := 2, ground := Ground.phase }, { on := 3, ground := Ground.phase }, { on := 4, ground := Ground.phase }, { on := 5, ground := Ground.phase }, { on := 6, ground := Ground.phase }], guard := none }) rfl (fun K hK => ?_) AllReadyH.nil
        rw [if_pos (by rfl)]
        refine wp_store_mid 27 _ _ rfl D5 0 (sV vb) rfl rfl hD5b (by kernel_rfl) (longV_one _ _) ?_
        refine hK.out _ _ ?_ (fun hHeld3 => ?_)
        · exact ⟨World.rangeAt_setCells_apart hHeld2.1 _ _ _ (.inl (by omega)), World.rangeAt_setCells_apart hHeld2.2 _ _ _ (.inl (by omega))⟩
        clear hK K hHeld2
        try simp only [Act.put, List.setIfInBounds_toArray, List.set_cons_zero, List.set_cons_succ]
        have hg4b := World.rangeAt_setCells_apart hg4 D5 0 (sV vb).toList (.inl hne)
        have hg5 := World.rangeAt_setCells_same wy D5 0 (sV vb).toList hD5b
        have hBz := setCellsB hBy D5 0 (sV vb).toList (by omega)
        generalize wy.setCells D5 0 (sV vb).toList = wz at *
        refine wpAnyH_done (by kernel_rfl) ?_ _
        exact HK D4 D5 wz ⟨hHeld3.1, hHeld3.2, hg4b, hg5⟩ hBz
      · go_simp
        refine hK.out _ _ ?_ (fun hHeld2 => ?_)
        · exact ⟨World.rangeAt_alloc hHeld.1 _, World.rangeAt_alloc hHeld.2 _⟩
        clear hK K
        have hD4 : (wc1.alloc (.cells zeros11 27)).there wc1.heap.size 0 11 := there_new wc1 zeros11 27
        have hl4 : wc1.heap.size < (wc1.alloc (.cells zeros11 27)).heap.size := by rw [World.size_alloc]; exact Nat.lt_succ_self _
        have hm4 : w.heap.size + 1 < wc1.heap.size := by omega
        have hBa4 := (hBc1).alloc (by omega) (.cells zeros11 27)
        replace hD5 := World.there_alloc hD5 (.cells zeros11 27)
        have hn5 : D5 < wc1.heap.size := by omega
        replace hl5 : D5 < (wc1.alloc (.cells zeros11 27)).heap.size := Nat.lt_trans hn5 hl4
        generalize wc1.alloc (.cells zeros11 27) = wa4 at *
        generalize wc1.heap.size = D4 at *
        clear hHeld
        have hHeld := hHeld2
        clear hHeld2
        try simp only [Act.put, List.setIfInBounds_toArray, List.set_cons_zero, List.set_cons_succ]
        refine wpAnyH_ready (rs := [3]) (by kernel_rfl) (by simp) ?_
        refine AllReadyH.cons (o := { dst := some 12, op := Op.call { callee := Callee.value (Operand.func 20), args := #[Operand.tmp 11], argTypes := #[40] }, type := 27, pos := "law.go:37", after := #[{ on := 2, ground := Ground.data }, { on := 1, ground := Ground.chain }], guard := none }) rfl (fun K hK => ?_) AllReadyH.nil
        go_simp
        go_at_call 20
        refine (HNB _).mono ?_
        rintro e wc3 ⟨rfl, hb⟩
        refine hK.out _ _ ?_ (fun hHeld2 => ?_)
        · exact ⟨rangeAt_later hHeld.1 hb, rangeAt_later hHeld.2 hb⟩
        clear hK K
        have hBc3 := chainB' hBa4 hb hBa4.size
        have hsz3 := hb.size
        replace hD5 := there_later hD5 (by omega) hb
        replace hl5 := Nat.lt_of_lt_of_le hl5 hb.size
        replace hD4 := there_later hD4 (by omega) hb
        replace hl4 := Nat.lt_of_lt_of_le hl4 hb.size
        clear hHeld hb
        have hHeld := hHeld2
        clear hHeld2
        try simp only [Act.put, List.setIfInBounds_toArray, List.set_cons_zero, List.set_cons_succ]
        have hne : D4 ≠ D5 := by omega
        refine wpAnyH_ready (rs := [6]) (by kernel_rfl) (by simp) ?_
        refine AllReadyH.cons (o := { dst := none, op := Op.store 27 (Operand.tmp 7) (Operand.tmp 10), type := 0, pos := "law.go:37", after := #[{ on := 4, ground := Ground.data }, { on := 1, ground := Ground.data }, { on := 3, ground := Ground.chain }, { on := 0, ground := Ground.phase }, { on := 1, ground := Ground.phase }, { on := 2, ground := Ground.textOnly Departure.lateStores }, { on := 3, ground := Ground.textOnly Departure.lateStoresUnsure }, { on := 4, ground := Ground.phase }, { on := 5, ground := Ground.phase }], guard := none }) rfl (fun K hK => ?_) AllReadyH.nil
        rw [if_pos (by rfl)]
        refine wp_store_mid 27 _ _ rfl D4 0 (sV va) rfl rfl hD4 (by kernel_rfl) (longV_one _ _) ?_
        refine hK.out _ _ ?_ (fun hHeld2 => ?_)
        · exact ⟨World.rangeAt_setCells_apart hHeld.1 _ _ _ (.inl (by omega)), World.rangeAt_setCells_apart hHeld.2 _ _ _ (.inl (by omega))⟩
        clear hK K hHeld
        try simp only [Act.put, List.setIfInBounds_toArray, List.set_cons_zero, List.set_cons_succ]
        have hg4 := World.rangeAt_setCells_same wc3 D4 0 (sV va).toList hD4
        have hD5b := World.there_setCells hD5 D4 0 (sV va).toList
        have hBy := setCellsB hBc3 D4 0 (sV va).toList (by omega)
        generalize wc3.setCells D4 0 (sV va).toList = wy at *
        refine wpAnyH_ready (rs := [7]) (by kernel_rfl) (by simp) ?_
        refine AllReadyH.cons (o := { dst := none, op := Op.store 27 (Operand.tmp 8) (Operand.tmp 12), type := 0, pos := "law.go:37", after := #[{ on := 5, ground := Ground.data }, { on := 3, ground := Ground.data }, { on := 6, ground := Ground.chain }, { on := 0, ground := Ground.phase }, { on := 1, ground := Ground.phase }, { on := 2, ground := Ground.phase }, { on := 3, ground := Ground.phase }, { on := 4, ground := Ground.phase }, { on := 5, ground := Ground.phase }, { on := 6, ground := Ground.phase }], guard := none }) rfl (fun K hK => ?_) AllReadyH.nil
        rw [if_pos (by rfl)]
        refine wp_store_mid 27 _ _ rfl D5 0 (sV vb) rfl rfl hD5b (by kernel_rfl) (longV_one _ _) ?_
        refine hK.out _ _ ?_ (fun hHeld3 => ?_)
        · exact ⟨World.rangeAt_setCells_apart hHeld2.1 _ _ _ (.inl (by omega)), World.rangeAt_setCells_apart hHeld2.2 _ _ _ (.inl (by omega))⟩
        clear hK K hHeld2
        try simp only [Act.put, List.setIfInBounds_toArray, List.set_cons_zero, List.set_cons_succ]
        have hg4b := World.rangeAt_setCells_apart hg4 D5 0 (sV vb).toList (.inl hne)
        have hg5 := World.rangeAt_setCells_same wy D5 0 (sV vb).toList hD5b
        have hBz := setCellsB hBy D5 0 (sV vb).toList (by omega)
        generalize wy.setCells D5 0 (sV vb).toList = wz at *
        refine wpAnyH_done (by kernel_rfl) ?_ _
        exact HK D4 D5 wz ⟨hHeld3.1, hHeld3.2, hg4b, hg5⟩ hBz
    · go_simp
      refine hK.out _ _ ?_ (fun hHeld2 => ?_)
      · exact ⟨World.rangeAt_alloc hHeld.1 _, World.rangeAt_alloc hHeld.2 _⟩
      clear hK K
      have hD4 : (wa5.alloc (.cells zeros11 27)).there wa5.heap.size 0 11 := there_new wa5 zeros11 27
      have hl4 : wa5.heap.size < (wa5.alloc (.cells zeros11 27)).heap.size := by rw [World.size_alloc]; exact Nat.lt_succ_self _
      have hm4 : w.heap.size + 1 < wa5.heap.size := by omega
      have hBa4 := (hBa5).alloc (by omega) (.cells zeros11 27)
      replace hD5 := World.there_alloc hD5 (.cells zeros11 27)
      have hn5 : D5 < wa5.heap.size := by omega
      replace hl5 : D5 < (wa5.alloc (.cells zeros11 27)).heap.size := Nat.lt_trans hn5 hl4
      generalize wa5.alloc (.cells zeros11 27) = wa4 at *
      generalize wa5.heap.size = D4 at *
      clear hHeld
      have hHeld := hHeld2
      clear hHeld2
      try simp only [Act.put, List.setIfInBounds_toArray, List.set_cons_zero, List.set_cons_succ]
      refine wpAnyH_ready (rs := [1]) (by kernel_rfl) (by simp) ?_
      refine AllReadyH.cons (o := { dst := some 10, op := Op.call { callee := Callee.value (Operand.func 20), args := #[Operand.tmp 9], argTypes := #[40] }, type := 27, pos := "law.go:37", after := #[{ on := 0, ground := Ground.data }], guard := none }) rfl (fun K hK => ?_) AllReadyH.nil
      go_simp
      go_at_call 20
      refine (HNA _).mono ?_
      rintro e wc1 ⟨rfl, hb⟩
      refine hK.out _ _ ?_ (fun hHeld2 => ?_)
      · exact ⟨rangeAt_later hHeld.1 hb, rangeAt_later hHeld.2 hb⟩
      clear hK K
      have hBc1 := chainB' hBa4 hb hBa4.size
      have hsz1 := hb.size
      replace hD5 := there_later hD5 (by omega) hb
      replace hl5 := Nat.lt_of_lt_of_le hl5 hb.size
      replace hD4 := there_later hD4 (by omega) hb
      replace hl4 := Nat.lt_of_lt_of_le hl4 hb.size
      clear hHeld hb
      have hHeld := hHeld2
      clear hHeld2
      try simp only [Act.put, List.setIfInBounds_toArray, List.set_cons_zero, List.set_cons_succ]
      refine wpAnyH_ready (rs := [3]) (by kernel_rfl) (by simp) ?_
      refine AllReadyH.cons (o := { dst := some 12, op := Op.call { callee := Callee.value (Operand.func 20), args := #[Operand.tmp 11], argTypes := #[40] }, type := 27, pos := "law.go:37", after := #[{ on := 2, ground := Ground.data }, { on := 1, ground := Ground.chain }], guard := none }) rfl (fun K hK => ?_) AllReadyH.nil
      go_simp
      go_at_call 20
      refine (HNB _).mono ?_
      rintro e wc3 ⟨rfl, hb⟩
      refine hK.out _ _ ?_ (fun hHeld2 => ?_)
      · exact ⟨rangeAt_later hHeld.1 hb, rangeAt_later hHeld.2 hb⟩
      clear hK K
      have hBc3 := chainB' hBc1 hb hBc1.size
      have hsz3 := hb.size
      replace hD5 := there_later hD5 (by omega) hb
      replace hl5 := Nat.lt_of_lt_of_le hl5 hb.size
      replace hD4 := there_later hD4 (by omega) hb
      replace hl4 := Nat.lt_of_lt_of_le hl4 hb.size
      clear hHeld hb
      have hHeld := hHeld2
      clear hHeld2
      try simp only [Act.put, List.setIfInBounds_toArray, List.set_cons_zero, List.set_cons_succ]
      have hne : D4 ≠ D5 := by omega
      refine wpAnyH_ready (rs := [6]) (by kernel_rfl) (by simp) ?_
      refine AllReadyH.cons (o := { dst := none, op := Op.store 27 (Operand.tmp 7) (Operand.tmp 10), type := 0, pos := "law.go:37", after := #[{ on := 4, ground := Ground.data }, { on := 1, ground := Ground.data }, { on := 3, ground := Ground.chain }, { on := 0, ground := Ground.phase }, { on := 1, ground := Ground.phase }, { on := 2, ground := Ground.textOnly Departure.lateStores }, { on := 3, ground := Ground.textOnly Departure.lateStoresUnsure }, { on := 4, ground := Ground.phase }, { on := 5, ground := Ground.phase }], guard := none }) rfl (fun K hK => ?_) AllReadyH.nil
      rw [if_pos (by rfl)]
      refine wp_store_mid 27 _ _ rfl D4 0 (sV va) rfl rfl hD4 (by kernel_rfl) (longV_one _ _) ?_
      refine hK.out _ _ ?_ (fun hHeld2 => ?_)
      · exact ⟨World.rangeAt_setCells_apart hHeld.1 _ _ _ (.inl (by omega)), World.rangeAt_setCells_apart hHeld.2 _ _ _ (.inl (by omega))⟩
      clear hK K hHeld
      try simp only [Act.put, List.setIfInBounds_toArray, List.set_cons_zero, List.set_cons_succ]
      have hg4 := World.rangeAt_setCells_same wc3 D4 0 (sV va).toList hD4
      have hD5b := World.there_setCells hD5 D4 0 (sV va).toList
      have hBy := setCellsB hBc3 D4 0 (sV va).toList (by omega)
      generalize wc3.setCells D4 0 (sV va).toList = wy at *
      refine wpAnyH_ready (rs := [7]) (by kernel_rfl) (by simp) ?_
      refine AllReadyH.cons (o := { dst := none, op := Op.store 27 (Operand.tmp 8) (Operand.tmp 12), type := 0, pos := "law.go:37", after := #[{ on := 5, ground := Ground.data }, { on := 3, ground := Ground.data }, { on := 6, ground := Ground.chain }, { on := 0, ground := Ground.phase }, { on := 1, ground := Ground.phase }, { on := 2, ground := Ground.phase }, { on := 3, ground := Ground.phase }, { on := 4, ground := Ground.phase }, { on := 5, ground := Ground.phase }, { on := 6, ground := Ground.phase }], guard := none }) rfl (fun K hK => ?_) AllReadyH.nil
      rw [if_pos (by rfl)]
      refine wp_store_mid 27 _ _ rfl D5 0 (sV vb) rfl rfl hD5b (by kernel_rfl) (longV_one _ _) ?_
      refine hK.out _ _ ?_ (fun hHeld3 => ?_)
      · exact ⟨World.rangeAt_setCells_apart hHeld2.1 _ _ _ (.inl (by omega)), World.rangeAt_setCells_apart hHeld2.2 _ _ _ (.inl (by omega))⟩
      clear hK K hHeld2
      try simp only [Act.put, List.setIfInBounds_toArray, List.set_cons_zero, List.set_cons_succ]
      have hg4b := World.rangeAt_setCells_apart hg4 D5 0 (sV vb).toList (.inl hne)
      have hg5 := World.rangeAt_setCells_same wy D5 0 (sV vb).toList hD5b
      have hBz := setCellsB hBy D5 0 (sV vb).toList (by omega)
      generalize wy.setCells D5 0 (sV vb).toList = wz at *
      refine wpAnyH_done (by kernel_rfl) ?_ _
      exact HK D4 D5 wz ⟨hHeld3.1, hHeld3.2, hg4b, hg5⟩ hBz
end Go.Proofs.YtmfmdcapanaajaaDoor
