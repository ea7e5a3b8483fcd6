/- TermsOnce: its walk. -/
import Derived.Test.YtkjmmdffelhkiaaT35
import Derived.Test.YtkjmmdffelhkiaaT27
namespace Go.Proofs.Ytkjmmdffelhkiaa
open Go Go.RowKit Go.Maps

variable {W W' W1 : World} {K K' J : Nat → Nat} {base c r : Nat} {T : Sto} {N : List Nd} {e : Ending} {w' : World}
theorem info76 : ∃ i0, Try.prog.info? 76 = some i0 ∧ i0.zero = some (.agg #[.int .i64 0, .int .i64 0, .int .i64 0, .int .i64 0, .slice none 0 0, .int .i64 0, .int .i64 0, .int .i64 0, .bool false]) ∧ i0.size = 9 ∧ i0.bytes = 88 := info_of (by kernel_rfl)
theorem noMine (W : World) (K : Nat → Nat) (base : Nat) : Mine W (fun _ => 0) K base [] [] (.slice none 0 0) (.slice none 0 0) :=
  ⟨fun _ _ => rfl, fun _ _ => rfl, fun k h => absurd rfl h, ⟨⟨rfl, .inl ⟨rfl, rfl⟩⟩, fun k hk => by cases hk⟩, ⟨⟨rfl, .inl ⟨rfl, rfl⟩⟩, fun k hk => by cases hk⟩, fun j o h => by simp at h⟩
/-- what stands behind each round. -/
structure Rnd (W0 wr : World) (c r : Nat) (J K : Nat → Nat) (T : Sto) (N : List Nd) (xs : List Int) (cl : List OpV) (vx vc : Value) : Prop where
  two : Two wr K W0.heap.size c r T N
  mine : Mine wr J K W0.heap.size xs cl vx vc
  kept : Kept T.nodes xs cl
  b : Below W0.heap.size W0 wr
theorem own_op {w : World} {b n z : Nat} {p : Option Addr} {cl : List OpV} (h : w.ownsRow b 76 9 (.slice p n z) n (flatO cl)) {i : Nat} {o : OpV} (hi : cl[i]? = some o) : ∃ g, p = some ⟨g, 0, none⟩ ∧ MAt w g (i * 9) o := by
  have hn : 0 < n := by
    have h0 := h.1
    rw [flatO_len] at h0
    have := (List.getElem?_eq_some_iff.1 hi).1
    omega
  obtain ⟨g, c, e⟩ := own_some h hn
  cases e
  obtain ⟨g', c', e, _, hc⟩ := own_cells h (by simp)
  cases e
  have f := fun j (hj : j < 9) (u : Value) (hu : (mV o)[j]? = some u) => hc (i * 9 + j) u (by rw [flatO_get cl i o hi j hj]; exact hu)
  exact ⟨g, rfl, by simpa using f 0 (by omega) _ rfl, f 1 (by omega) _ rfl, f 2 (by omega) _ rfl, f 3 (by omega) _ rfl, f 4 (by omega) _ rfl, f 5 (by omega) _ rfl, f 6 (by omega) _ rfl, f 7 (by omega) _ rfl, f 8 (by omega) _ rfl⟩
set_option maxRecDepth 100000 in
set_option maxHeartbeats 64000000 in
theorem once_any (p : Option Addr) (n z : Nat) (D : Nat → OpV) (W : World) (h : MOps W p n D) (hn : n ≤ 9223372036854775807) :
    Calls Try.prog 7 #[.slice p n z] W fun e w' => e = .returned (.bool true) ∧ Below W.heap.size W w' := by
  have HT := tameM_any p n z D 100 W h hn (by omega) (by omega)
  have H := Lib.hid h
  clear h
  obtain ⟨i89, hi89, hz890, hz891, hz892⟩ := info89
  obtain ⟨i76, hi76, hz760, hz761, hz762⟩ := info76
  obtain ⟨i73, hi73, hz730, hz731, hz732⟩ := info73
  go_enter Try.func7, Try.ntmps7
  go_wp2_with fail
  refine HT.mono ?_
  rintro e w1 ⟨b, rfl, hw, htm⟩
  obtain rfl := hw.symm
  have HTM := Lib.hid htm
  clear HT hw htm
  cases b
  · go_wp2_with fail
    refine (knownS_any _).mono ?_
    rintro e w6 ⟨rfl, hb⟩
    have HB6 := Lib.hid hb
    clear hb
    go_wp2_with fail
    go_ret
    exact ⟨rfl, HB6.out⟩
  have hn100 : n ≤ 100 := by have := (HTM.out rfl).1; omega
  have HL := Lib.hid (HTM.out rfl).2
  clear HTM
  have HN := newS_any W
  go_wp2_with fail
  refine HN.mono ?_
  rintro e w1 ⟨c, K1, T1, rfl, st1, g1, f1, hb1⟩
  have HR := refNew_any w1 st1 g1 f1
  have HB1 := Lib.hid hb1
  clear HN st1 g1 f1 hb1
  go_wp2_with fail
  refine HR.mono ?_
  rintro e w2 ⟨K2, r, rfl, tw, hb2⟩
  have HR0 := Lib.hid (show Rnd W w2 c r (fun _ => 0) K2 T1 _ [] [] (.slice none 0 0) (.slice none 0 0) from ⟨tw, noMine _ _ _, ⟨rfl, fun j o t h => by simp at h⟩, HB1.out.trans (hb2.mono HB1.out.size)⟩)
  clear HR tw hb2 HB1
  go_wp2_with fail
  go_loopw [5, 6, 7] (fun v5 v6 i wr => ∃ (k m : Nat) (J K : Nat → Nat) (T : Sto) (N : List Nd) (xs : List Int) (cl : List OpV) (px : Option Addr) (zx : Nat) (pc : Option Addr) (zc : Nat), k ≤ n ∧ m ≤ k ∧ v5 = .slice px m zx ∧ v6 = .slice pc m zc ∧ i = .int .i64 k ∧ cl.length = m ∧ Rnd W wr c r J K T N xs cl (.slice px m zx) (.slice pc m zc)) (fun _ _ i _ => n - (intOf i).toNat)
  case atStart => exact ⟨0, 0, _, K2, T1, _, [], [], none, 0, none, 0, Nat.zero_le _, Nat.le_refl _, rfl, rfl, rfl, rfl, HR0.out⟩
  case round =>
    obtain ⟨k, mm, J, K, T, N, xs, cl, px, zx, pc, zc, hk, hmk, rfl, rfl, rfl, hcl, hrnd⟩ := hrel
    clear HR0
    have HR := Lib.hid hrnd
    have HCL := Lib.hid hcl
    clear hrnd hcl
    by_cases hlt : k < n
    · obtain ⟨b, off, rfl, ha⟩ := (H.out.later HR.out.b).at_ (by omega)
      obtain ⟨a0, a1_, a2, a3, a4, a5, a6, a7, a8⟩ := ha k hlt
      obtain ⟨hx, hoi⟩ := (H.out.later HR.out.b).args k hlt
      have HOK := Lib.hid (hoi.ok (HL.out k hlt))
      have HX := Lib.hid hx
      have hk0 : (0 : Int) ≤ (k : Int) := by omega
      have hk1 : (k : Int) < (n : Int) := by omega
      have hNN := HR.out.two.lN
      have hLL := HOK.out.L
      obtain ⟨p0, z0, y0, o0_⟩ := HR.out.two.rf.row0
      clear ha hx hoi o0_
      generalize D k = o at *
      have hb1 := below1 wr (.cells #[.int .i64 o.k, .int .i64 o.a, .int .i64 o.b, .int .i64 o.c, .slice o.P o.L o.C, .int .i64 o.f, .int .i64 o.s, .int .i64 o.n, .bool o.m] 76)
      have hbx := BoxC.made wr o
      have HB1 := Lib.hid hb1
      obtain ⟨kd, A, B, C, P, L, Cp, V, F, S, M, Md⟩ := o
      simp only at a0 a1_ a2 a3 a4 a5 a6 a7 a8 hb1 hbx HB1 HX hLL
      have a4' := cell_later hb1 a4
      have a8' := cell_later hb1 a8
      have y0' := cell_later hb1 y0
      have HX1 := Lib.hid (HX.out.later hb1)
      have HAT := Lib.hid a8
      have HXN0 := Lib.hid (show ∀ ad, P = some ad → 0 < L → ad.block < wr.heap.size from fun ad e hL => by
        obtain ⟨b', off', e', ha'⟩ := HX.out hL
        rw [e] at e'
        cases e'
        exact World.block_lt_of_cell? _ _ (ha' 0 hL))
      have HWS := Lib.hid (show wr.heap.size = wr.heap.size from rfl)
      clear hb1
      go_upto_region 11 with (fail)
      generalize hw1 : wr.alloc (.cells #[.int .i64 kd, .int .i64 A, .int .i64 B, .int .i64 C, .slice P L Cp, .int .i64 F, .int .i64 S, .int .i64 M, .bool Md] 76) = w1 at *
      generalize hb8 : wr.heap.size = b8 at *
      clear hw1 a0 a1_ a2 a3 a4 a5 a6 a7 a8 y0 HWS HX
      have HE8 := Lib.hid hb8
      clear hb8
      go_wp2_with fail
      have hD : Below w1.heap.size w1 w1.drew := (Below.refl _ _).drew
      have hlt1 := hbx.lt
      have a4 := cell_later hD a4'
      have a8 := cell_later hD a8'
      have HX2 := Lib.hid (HX1.out.later hD)
      have HBX := Lib.hid (hbx.later hD)
      have HB2 := Lib.hid (show Below b8 wr w1.drew from HB1.out.trans (hD.mono (Nat.le_of_lt hlt1)))
      clear hD hbx hlt1 a4' a8' y0' HB1 HX1
      have k0 := HBX.out.c0
      have k1 := HBX.out.c1
      have k2 := HBX.out.c2
      have k3 := HBX.out.c3
      have k4 := HBX.out.c4
      have k5 := HBX.out.c5
      have k6 := HBX.out.c6
      have k7 := HBX.out.c7
      have k8 := HBX.out.c8
      have f1 := HBX.out.fz 1
      have f2 := HBX.out.fz 2
      have f3 := HBX.out.fz 3
      refine wp_region_L [(1000, (fun _ => True : World → Prop)), (19, (fun w => w.cell? ⟨b8, 1, none⟩ = some (.int .i64 A) : World → Prop)), (21, (fun w => w.cell? ⟨b8, 2, none⟩ = some (.int .i64 B) : World → Prop)), (23, (fun w => w.cell? ⟨b8, 3, none⟩ = some (.int .i64 C) : World → Prop)), (1000, (fun w => w.cell? ⟨b8, 8, none⟩ = some (.bool Md) : World → Prop))] (by kernel_rfl) (SL.cons (fun _ => trivial) (SL.cons (fun _ => k1) (SL.cons (fun _ => k2) (SL.cons (fun _ => k3) (SL.cons (fun _ => k8) SL.nil))))) (fun hHeld => ?_)
      generalize w1.drew = w2 at *
      refine wpAnyL_take 0 _ _ (i := 0) (oi := { dst := some 46, op := Op.fieldAddr 76 (Operand.tmp 8) 1, type := 0, pos := "law.go:151", after := #[], guard := none }) (v := ?_) rfl (by kernel_rfl) (by kernel_rfl) (by kernel_rfl) (fun _ _ _ h => h) rfl (by kernel_rfl) (by kernel_rfl) (by kernel_rfl) (Or.inl ⟨by rfl, ?_⟩) hHeld (fun hHeld => ?_)
      rotate_left
      · intro w hSw
        (try dsimp only at hSw)
        go_simp
        try with_reducible rfl
      try simp only [Act.put, List.setIfInBounds_toArray, List.set_cons_zero, List.set_cons_succ]
      refine wpAnyL_take 0 _ _ (i := 2) (oi := { dst := some 48, op := Op.move (Operand.tmp 9), type := 3, pos := "law.go:151", after := #[], guard := none }) (v := ?_) rfl (by kernel_rfl) (by kernel_rfl) (by kernel_rfl) (fun _ _ _ h => h) rfl (by kernel_rfl) (by kernel_rfl) (by kernel_rfl) (Or.inl ⟨by rfl, ?_⟩) hHeld (fun hHeld => ?_)
      rotate_left
      · intro w hSw
        (try dsimp only at hSw)
        go_simp
        try with_reducible rfl
      try simp only [Act.put, List.setIfInBounds_toArray, List.set_cons_zero, List.set_cons_succ]
      refine wpAnyL_take 0 _ _ (i := 3) (oi := { dst := some 49, op := Op.fieldAddr 76 (Operand.tmp 8) 8, type := 0, pos := "law.go:151", after := #[], guard := none }) (v := ?_) rfl (by kernel_rfl) (by kernel_rfl) (by kernel_rfl) (fun _ _ _ h => h) rfl (by kernel_rfl) (by kernel_rfl) (by kernel_rfl) (Or.inl ⟨by rfl, ?_⟩) hHeld (fun hHeld => ?_)
      rotate_left
      · intro w hSw
        (try dsimp only at hSw)
        go_simp
        try with_reducible rfl
      try simp only [Act.put, List.setIfInBounds_toArray, List.set_cons_zero, List.set_cons_succ]
      refine wpAnyL_take 0 _ _ (i := 6) (oi := { dst := some 52, op := Op.fieldAddr 76 (Operand.tmp 8) 2, type := 0, pos := "law.go:151", after := #[], guard := none }) (v := ?_) rfl (by kernel_rfl) (by kernel_rfl) (by kernel_rfl) (fun _ _ _ h => h) rfl (by kernel_rfl) (by kernel_rfl) (by kernel_rfl) (Or.inl ⟨by rfl, ?_⟩) hHeld (fun hHeld => ?_)
      rotate_left
      · intro w hSw
        (try dsimp only at hSw)
        go_simp
        try with_reducible rfl
      try simp only [Act.put, List.setIfInBounds_toArray, List.set_cons_zero, List.set_cons_succ]
      refine wpAnyL_take 0 _ _ (i := 8) (oi := { dst := some 54, op := Op.move (Operand.tmp 9), type := 3, pos := "law.go:151", after := #[], guard := none }) (v := ?_) rfl (by kernel_rfl) (by kernel_rfl) (by kernel_rfl) (fun _ _ _ h => h) rfl (by kernel_rfl) (by kernel_rfl) (by kernel_rfl) (Or.inl ⟨by rfl, ?_⟩) hHeld (fun hHeld => ?_)
      rotate_left
      · intro w hSw
        (try dsimp only at hSw)
        go_simp
        try with_reducible rfl
      try simp only [Act.put, List.setIfInBounds_toArray, List.set_cons_zero, List.set_cons_succ]
      refine wpAnyL_take 0 _ _ (i := 9) (oi := { dst := some 55, op := Op.fieldAddr 76 (Operand.tmp 8) 8, type := 0, pos := "law.go:151", after := #[], guard := none }) (v := ?_) rfl (by kernel_rfl) (by kernel_rfl) (by kernel_rfl) (fun _ _ _ h => h) rfl (by kernel_rfl) (by kernel_rfl) (by kernel_rfl) (Or.inl ⟨by rfl, ?_⟩) hHeld (fun hHeld => ?_)
      rotate_left
      · intro w hSw
        (try dsimp only at hSw)
        go_simp
        try with_reducible rfl
      try simp only [Act.put, List.setIfInBounds_toArray, List.set_cons_zero, List.set_cons_succ]
      refine wpAnyL_take 0 _ _ (i := 12) (oi := { dst := some 58, op := Op.fieldAddr 76 (Operand.tmp 8) 3, type := 0, pos := "law.go:151", after := #[], guard := none }) (v := ?_) rfl (by kernel_rfl) (by kernel_rfl) (by kernel_rfl) (fun _ _ _ h => h) rfl (by kernel_rfl) (by kernel_rfl) (by kernel_rfl) (Or.inl ⟨by rfl, ?_⟩) hHeld (fun hHeld => ?_)
      rotate_left
      · intro w hSw
        (try dsimp only at hSw)
        go_simp
        try with_reducible rfl
      try simp only [Act.put, List.setIfInBounds_toArray, List.set_cons_zero, List.set_cons_succ]
      refine wpAnyL_take 0 _ _ (i := 14) (oi := { dst := some 60, op := Op.move (Operand.tmp 9), type := 3, pos := "law.go:151", after := #[], guard := none }) (v := ?_) rfl (by kernel_rfl) (by kernel_rfl) (by kernel_rfl) (fun _ _ _ h => h) rfl (by kernel_rfl) (by kernel_rfl) (by kernel_rfl) (Or.inl ⟨by rfl, ?_⟩) hHeld (fun hHeld => ?_)
      rotate_left
      · intro w hSw
        (try dsimp only at hSw)
        go_simp
        try with_reducible rfl
      try simp only [Act.put, List.setIfInBounds_toArray, List.set_cons_zero, List.set_cons_succ]
      refine wpAnyL_take 0 _ _ (i := 15) (oi := { dst := some 61, op := Op.fieldAddr 76 (Operand.tmp 8) 8, type := 0, pos := "law.go:151", after := #[], guard := none }) (v := ?_) rfl (by kernel_rfl) (by kernel_rfl) (by kernel_rfl) (fun _ _ _ h => h) rfl (by kernel_rfl) (by kernel_rfl) (by kernel_rfl) (Or.inl ⟨by rfl, ?_⟩) hHeld (fun hHeld => ?_)
      rotate_left
      · intro w hSw
        (try dsimp only at hSw)
        go_simp
        try with_reducible rfl
      try simp only [Act.put, List.setIfInBounds_toArray, List.set_cons_zero, List.set_cons_succ]
      refine wpAnyL_take 1 _ _ (i := 1) (oi := { dst := some 47, op := Op.load 73 (Operand.tmp 46), type := 73, pos := "law.go:151", after := #[{ on := 0, ground := Ground.data }], guard := none }) (v := ?_) rfl (by kernel_rfl) (by kernel_rfl) (by kernel_rfl) (fun _ _ _ h => h) rfl (by kernel_rfl) (by kernel_rfl) (by kernel_rfl) (Or.inl ⟨by rfl, ?_⟩) hHeld (fun hHeld => ?_)
      rotate_left
      · intro w hSw
        (try dsimp only at hSw)
        go_simp
        try with_reducible rfl
      try simp only [Act.put, List.setIfInBounds_toArray, List.set_cons_zero, List.set_cons_succ]
      refine wpAnyL_take 4 _ _ (i := 4) (oi := { dst := some 50, op := Op.load 4 (Operand.tmp 49), type := 4, pos := "law.go:151", after := #[{ on := 3, ground := Ground.data }], guard := none }) (v := ?_) rfl (by kernel_rfl) (by kernel_rfl) (by kernel_rfl) (fun _ _ _ h => h) rfl (by kernel_rfl) (by kernel_rfl) (by kernel_rfl) (Or.inl ⟨by rfl, ?_⟩) hHeld (fun hHeld => ?_)
      rotate_left
      · intro w hSw
        (try dsimp only at hSw)
        go_simp
        try with_reducible rfl
      try simp only [Act.put, List.setIfInBounds_toArray, List.set_cons_zero, List.set_cons_succ]
      refine wpAnyL_take 2 _ _ (i := 7) (oi := { dst := some 53, op := Op.load 73 (Operand.tmp 52), type := 73, pos := "law.go:151", after := #[{ on := 6, ground := Ground.data }], guard := none }) (v := ?_) rfl (by kernel_rfl) (by kernel_rfl) (by kernel_rfl) (fun _ _ _ h => h) rfl (by kernel_rfl) (by kernel_rfl) (by kernel_rfl) (Or.inl ⟨by rfl, ?_⟩) hHeld (fun hHeld => ?_)
      rotate_left
      · intro w hSw
        (try dsimp only at hSw)
        go_simp
        try with_reducible rfl
      try simp only [Act.put, List.setIfInBounds_toArray, List.set_cons_zero, List.set_cons_succ]
      refine wpAnyL_take 4 _ _ (i := 10) (oi := { dst := some 56, op := Op.load 4 (Operand.tmp 55), type := 4, pos := "law.go:151", after := #[{ on := 9, ground := Ground.data }], guard := none }) (v := ?_) rfl (by kernel_rfl) (by kernel_rfl) (by kernel_rfl) (fun _ _ _ h => h) rfl (by kernel_rfl) (by kernel_rfl) (by kernel_rfl) (Or.inl ⟨by rfl, ?_⟩) hHeld (fun hHeld => ?_)
      rotate_left
      · intro w hSw
        (try dsimp only at hSw)
        go_simp
        try with_reducible rfl
      try simp only [Act.put, List.setIfInBounds_toArray, List.set_cons_zero, List.set_cons_succ]
      refine wpAnyL_take 3 _ _ (i := 13) (oi := { dst := some 59, op := Op.load 73 (Operand.tmp 58), type := 73, pos := "law.go:151", after := #[{ on := 12, ground := Ground.data }], guard := none }) (v := ?_) rfl (by kernel_rfl) (by kernel_rfl) (by kernel_rfl) (fun _ _ _ h => h) rfl (by kernel_rfl) (by kernel_rfl) (by kernel_rfl) (Or.inl ⟨by rfl, ?_⟩) hHeld (fun hHeld => ?_)
      rotate_left
      · intro w hSw
        (try dsimp only at hSw)
        go_simp
        try with_reducible rfl
      try simp only [Act.put, List.setIfInBounds_toArray, List.set_cons_zero, List.set_cons_succ]
      refine wpAnyL_take 4 _ _ (i := 16) (oi := { dst := some 62, op := Op.load 4 (Operand.tmp 61), type := 4, pos := "law.go:151", after := #[{ on := 15, ground := Ground.data }], guard := none }) (v := ?_) rfl (by kernel_rfl) (by kernel_rfl) (by kernel_rfl) (fun _ _ _ h => h) rfl (by kernel_rfl) (by kernel_rfl) (by kernel_rfl) (Or.inl ⟨by rfl, ?_⟩) hHeld (fun hHeld => ?_)
      rotate_left
      · intro w hSw
        (try dsimp only at hSw)
        go_simp
        try with_reducible rfl
      try simp only [Act.put, List.setIfInBounds_toArray, List.set_cons_zero, List.set_cons_succ]
      refine wpAnyL_ready (rs := [5]) (by kernel_rfl) (by simp) ?_
      refine AllReadyL.cons (o := { dst := some 51, op := Op.call { callee := Callee.value (Operand.func 38), args := #[Operand.tmp 47, Operand.tmp 48, Operand.tmp 50], argTypes := #[73, 3, 4] }, type := 73, pos := "law.go:151", after := #[{ on := 1, ground := Ground.data }, { on := 2, ground := Ground.data }, { on := 4, ground := Ground.data }], guard := none }) rfl (fun K hK => ?_) AllReadyL.nil
      go_simp
      go_at_call 38
      refine (near_any A N.length Md hNN _).mono ?_
      rintro e w9 ⟨rfl, hw⟩
      obtain rfl := hw.symm
      refine hK.out _ _ (SL.cons (fun _ => trivial) (SL.cons (fun _ => k1) (SL.cons (fun _ => k2) (SL.cons (fun _ => k3) (SL.cons (fun _ => k8) SL.nil))))) (fun hHeld => ?_)
      clear hK K
      try simp only [Act.put, List.setIfInBounds_toArray, List.set_cons_zero, List.set_cons_succ]
      refine wpAnyL_take 0 _ _ (i := 18) (oi := { dst := some 64, op := Op.fieldAddr 76 (Operand.tmp 8) 1, type := 0, pos := "law.go:151", after := #[{ on := 0, ground := Ground.phase }, { on := 1, ground := Ground.phase }, { on := 2, ground := Ground.phase }, { on := 3, ground := Ground.phase }, { on := 4, ground := Ground.phase }, { on := 5, ground := Ground.phase }, { on := 6, ground := Ground.phase }, { on := 7, ground := Ground.phase }, { on := 8, ground := Ground.textOnly Departure.lateStores }, { on := 9, ground := Ground.phase }, { on := 10, ground := Ground.phase }, { on := 11, ground := Ground.textOnly Departure.lateStoresUnsure }, { on := 12, ground := Ground.phase }, { on := 13, ground := Ground.phase }, { on := 14, ground := Ground.textOnly Departure.lateStores }, { on := 15, ground := Ground.phase }, { on := 16, ground := Ground.phase }, { on := 17, ground := Ground.textOnly Departure.lateStoresUnsure }], guard := none }) (v := ?_) rfl (by kernel_rfl) (by kernel_rfl) (by kernel_rfl) (fun _ _ _ h => h) rfl (by kernel_rfl) (by kernel_rfl) (by kernel_rfl) (Or.inl ⟨by rfl, ?_⟩) hHeld (fun hHeld => ?_)
      rotate_left
      · intro w hSw
        (try dsimp only at hSw)
        go_simp
        try with_reducible rfl
      try simp only [Act.put, List.setIfInBounds_toArray, List.set_cons_zero, List.set_cons_succ]
      refine wpAnyL_ready (rs := [11]) (by kernel_rfl) (by simp) ?_
      refine AllReadyL.cons (o := { dst := some 57, op := Op.call { callee := Callee.value (Operand.func 38), args := #[Operand.tmp 53, Operand.tmp 54, Operand.tmp 56], argTypes := #[73, 3, 4] }, type := 73, pos := "law.go:151", after := #[{ on := 7, ground := Ground.data }, { on := 8, ground := Ground.data }, { on := 10, ground := Ground.data }, { on := 5, ground := Ground.chain }], guard := none }) rfl (fun K hK => ?_) AllReadyL.nil
      go_simp
      go_at_call 38
      refine (near_any B N.length Md hNN _).mono ?_
      rintro e w9 ⟨rfl, hw⟩
      obtain rfl := hw.symm
      refine hK.out _ _ (SL.cons (fun _ => trivial) (SL.cons (fun _ => k1) (SL.cons (fun _ => k2) (SL.cons (fun _ => k3) (SL.cons (fun _ => k8) SL.nil))))) (fun hHeld => ?_)
      clear hK K
      try simp only [Act.put, List.setIfInBounds_toArray, List.set_cons_zero, List.set_cons_succ]
      refine wpAnyL_ready (rs := [17]) (by kernel_rfl) (by simp) ?_
      refine AllReadyL.cons (o := { dst := some 63, op := Op.call { callee := Callee.value (Operand.func 38), args := #[Operand.tmp 59, Operand.tmp 60, Operand.tmp 62], argTypes := #[73, 3, 4] }, type := 73, pos := "law.go:151", after := #[{ on := 13, ground := Ground.data }, { on := 14, ground := Ground.data }, { on := 16, ground := Ground.data }, { on := 11, ground := Ground.chain }], guard := none }) rfl (fun K hK => ?_) AllReadyL.nil
      go_simp
      go_at_call 38
      refine (near_any C N.length Md hNN _).mono ?_
      rintro e w9 ⟨rfl, hw⟩
      obtain rfl := hw.symm
      refine hK.out _ _ (SL.cons (fun _ => trivial) (SL.cons (fun _ => k1) (SL.cons (fun _ => k2) (SL.cons (fun _ => k3) (SL.cons (fun _ => k8) SL.nil))))) (fun hHeld => ?_)
      clear hK K
      try simp only [Act.put, List.setIfInBounds_toArray, List.set_cons_zero, List.set_cons_succ]
      have HBA := Lib.hid (HBX.out.setA (nearV A N.length Md))
      have HBB := Lib.hid (HBA.out.setB (nearV B N.length Md))
      have HBC := Lib.hid (HBB.out.setC (nearV C N.length Md))
      have HB3 := Lib.hid (((HB2.out.setCell (p := ⟨b8, 1, none⟩) (Nat.le_refl b8) (.int .i64 (nearV A N.length Md))).setCell (p := ⟨b8, 2, none⟩) (Nat.le_refl b8) (.int .i64 (nearV B N.length Md))).setCell (p := ⟨b8, 3, none⟩) (Nat.le_refl b8) (.int .i64 (nearV C N.length Md)))
      have hoc : ∀ (i : Nat) (u : Value) (w : World), Only (fun t => t = b8) w (w.setCell ⟨b8, i, none⟩ u) := fun i u w => Only.of_setCell w ⟨b8, i, none⟩ u
      have hbl8 : b < b8 := by have h1 : b < wr.heap.size := World.block_lt_of_cell? _ _ HAT.out; have := HE8.out; omega
      have hne : b ≠ b8 := by omega
      have a4_ := (hoc 3 (.int .i64 (nearV C N.length Md)) _).cell ((hoc 2 (.int .i64 (nearV B N.length Md)) _).cell ((hoc 1 (.int .i64 (nearV A N.length Md)) _).cell a4 hne) hne) hne
      have a8_ := (hoc 3 (.int .i64 (nearV C N.length Md)) _).cell ((hoc 2 (.int .i64 (nearV B N.length Md)) _).cell ((hoc 1 (.int .i64 (nearV A N.length Md)) _).cell a8 hne) hne) hne
      have HXN := Lib.hid (show ∀ ad, P = some ad → 0 < L → ¬ ad.block = b8 from fun ad e hL => by have := HXN0.out ad e hL; omega)
      have HX3 := Lib.hid (ints_only0 (ints_only0 (ints_only0 HX2.out (hoc 1 (.int .i64 (nearV A N.length Md)) _) HXN.out) (hoc 2 (.int .i64 (nearV B N.length Md)) _) HXN.out) (hoc 3 (.int .i64 (nearV C N.length Md)) _) HXN.out)
      refine wpAnyL_ready (rs := [19]) (by kernel_rfl) (by simp) ?_
      refine AllReadyL.cons (o := { dst := none, op := Op.store 73 (Operand.tmp 64) (Operand.tmp 51), type := 0, pos := "law.go:151", after := #[{ on := 18, ground := Ground.data }, { on := 5, ground := Ground.data }, { on := 17, ground := Ground.chain }, { on := 0, ground := Ground.phase }, { on := 1, ground := Ground.phase }, { on := 2, ground := Ground.phase }, { on := 3, ground := Ground.phase }, { on := 4, ground := Ground.phase }, { on := 5, ground := Ground.phase }, { on := 6, ground := Ground.phase }, { on := 7, ground := Ground.phase }, { on := 8, ground := Ground.textOnly Departure.lateStores }, { on := 9, ground := Ground.phase }, { on := 10, ground := Ground.phase }, { on := 11, ground := Ground.textOnly Departure.lateStoresUnsure }, { on := 12, ground := Ground.phase }, { on := 13, ground := Ground.phase }, { on := 14, ground := Ground.textOnly Departure.lateStores }, { on := 15, ground := Ground.phase }, { on := 16, ground := Ground.phase }, { on := 17, ground := Ground.textOnly Departure.lateStoresUnsure }], guard := none }) rfl (fun K hK => ?_) AllReadyL.nil
      go_simp
      refine hK.out _ _ (SL.cons (fun _ => trivial) (SL.cons (fun h => absurd h (by decide +kernel)) (SL.cons (fun _ => HBA.out.c2) (SL.cons (fun _ => HBA.out.c3) (SL.cons (fun _ => HBA.out.c8) SL.nil))))) (fun hHeld => ?_)
      clear hK K
      try simp only [Act.put, List.setIfInBounds_toArray, List.set_cons_zero, List.set_cons_succ]
      have f2 := HBA.out.fz 2
      refine wpAnyL_take 0 _ _ (i := 20) (oi := { dst := some 65, op := Op.fieldAddr 76 (Operand.tmp 8) 2, type := 0, pos := "law.go:151", after := #[{ on := 0, ground := Ground.phase }, { on := 1, ground := Ground.phase }, { on := 2, ground := Ground.phase }, { on := 3, ground := Ground.phase }, { on := 4, ground := Ground.phase }, { on := 5, ground := Ground.phase }, { on := 6, ground := Ground.phase }, { on := 7, ground := Ground.phase }, { on := 8, ground := Ground.phase }, { on := 9, ground := Ground.phase }, { on := 10, ground := Ground.phase }, { on := 11, ground := Ground.phase }, { on := 12, ground := Ground.phase }, { on := 13, ground := Ground.phase }, { on := 14, ground := Ground.textOnly Departure.lateStores }, { on := 15, ground := Ground.phase }, { on := 16, ground := Ground.phase }, { on := 17, ground := Ground.textOnly Departure.lateStoresUnsure }, { on := 18, ground := Ground.phase }, { on := 19, ground := Ground.phase }], guard := none }) (v := ?_) rfl (by kernel_rfl) (by kernel_rfl) (by kernel_rfl) (fun _ _ _ h => h) rfl (by kernel_rfl) (by kernel_rfl) (by kernel_rfl) (Or.inl ⟨by rfl, ?_⟩) hHeld (fun hHeld => ?_)
      rotate_left
      · intro w hSw
        (try dsimp only at hSw)
        go_simp
        try with_reducible rfl
      try simp only [Act.put, List.setIfInBounds_toArray, List.set_cons_zero, List.set_cons_succ]
      refine wpAnyL_ready (rs := [21]) (by kernel_rfl) (by simp) ?_
      refine AllReadyL.cons (o := { dst := none, op := Op.store 73 (Operand.tmp 65) (Operand.tmp 57), type := 0, pos := "law.go:151", after := #[{ on := 20, ground := Ground.data }, { on := 11, ground := Ground.data }, { on := 19, ground := Ground.chain }, { on := 0, ground := Ground.phase }, { on := 1, ground := Ground.phase }, { on := 2, ground := Ground.phase }, { on := 3, ground := Ground.phase }, { on := 4, ground := Ground.phase }, { on := 5, ground := Ground.phase }, { on := 6, ground := Ground.phase }, { on := 7, ground := Ground.phase }, { on := 8, ground := Ground.phase }, { on := 9, ground := Ground.phase }, { on := 10, ground := Ground.phase }, { on := 11, ground := Ground.phase }, { on := 12, ground := Ground.phase }, { on := 13, ground := Ground.phase }, { on := 14, ground := Ground.textOnly Departure.lateStores }, { on := 15, ground := Ground.phase }, { on := 16, ground := Ground.phase }, { on := 17, ground := Ground.textOnly Departure.lateStoresUnsure }, { on := 18, ground := Ground.phase }, { on := 19, ground := Ground.phase }], guard := none }) rfl (fun K hK => ?_) AllReadyL.nil
      go_simp
      refine hK.out _ _ (SL.cons (fun _ => trivial) (SL.cons (fun h => absurd h (by decide +kernel)) (SL.cons (fun h => absurd h (by decide +kernel)) (SL.cons (fun _ => HBB.out.c3) (SL.cons (fun _ => HBB.out.c8) SL.nil))))) (fun hHeld => ?_)
      clear hK K
      try simp only [Act.put, List.setIfInBounds_toArray, List.set_cons_zero, List.set_cons_succ]
      have f3 := HBB.out.fz 3
      refine wpAnyL_take 0 _ _ (i := 22) (oi := { dst := some 66, op := Op.fieldAddr 76 (Operand.tmp 8) 3, type := 0, pos := "law.go:151", after := #[{ on := 0, ground := Ground.phase }, { on := 1, ground := Ground.phase }, { on := 2, ground := Ground.phase }, { on := 3, ground := Ground.phase }, { on := 4, ground := Ground.phase }, { on := 5, ground := Ground.phase }, { on := 6, ground := Ground.phase }, { on := 7, ground := Ground.phase }, { on := 8, ground := Ground.phase }, { on := 9, ground := Ground.phase }, { on := 10, ground := Ground.phase }, { on := 11, ground := Ground.phase }, { on := 12, ground := Ground.phase }, { on := 13, ground := Ground.phase }, { on := 14, ground := Ground.phase }, { on := 15, ground := Ground.phase }, { on := 16, ground := Ground.phase }, { on := 17, ground := Ground.phase }, { on := 18, ground := Ground.phase }, { on := 19, ground := Ground.phase }, { on := 20, ground := Ground.phase }, { on := 21, ground := Ground.phase }], guard := none }) (v := ?_) rfl (by kernel_rfl) (by kernel_rfl) (by kernel_rfl) (fun _ _ _ h => h) rfl (by kernel_rfl) (by kernel_rfl) (by kernel_rfl) (Or.inl ⟨by rfl, ?_⟩) hHeld (fun hHeld => ?_)
      rotate_left
      · intro w hSw
        (try dsimp only at hSw)
        go_simp
        try with_reducible rfl
      try simp only [Act.put, List.setIfInBounds_toArray, List.set_cons_zero, List.set_cons_succ]
      refine wpAnyL_ready (rs := [23]) (by kernel_rfl) (by simp) ?_
      refine AllReadyL.cons (o := { dst := none, op := Op.store 73 (Operand.tmp 66) (Operand.tmp 63), type := 0, pos := "law.go:151", after := #[{ on := 22, ground := Ground.data }, { on := 17, ground := Ground.data }, { on := 21, ground := Ground.chain }, { on := 0, ground := Ground.phase }, { on := 1, ground := Ground.phase }, { on := 2, ground := Ground.phase }, { on := 3, ground := Ground.phase }, { on := 4, ground := Ground.phase }, { on := 5, ground := Ground.phase }, { on := 6, ground := Ground.phase }, { on := 7, ground := Ground.phase }, { on := 8, ground := Ground.phase }, { on := 9, ground := Ground.phase }, { on := 10, ground := Ground.phase }, { on := 11, ground := Ground.phase }, { on := 12, ground := Ground.phase }, { on := 13, ground := Ground.phase }, { on := 14, ground := Ground.phase }, { on := 15, ground := Ground.phase }, { on := 16, ground := Ground.phase }, { on := 17, ground := Ground.phase }, { on := 18, ground := Ground.phase }, { on := 19, ground := Ground.phase }, { on := 20, ground := Ground.phase }, { on := 21, ground := Ground.phase }], guard := none }) rfl (fun K hK => ?_) AllReadyL.nil
      go_simp
      refine hK.out _ _ (SL.cons (fun _ => trivial) (SL.cons (fun h => absurd h (by decide +kernel)) (SL.cons (fun h => absurd h (by decide +kernel)) (SL.cons (fun h => absurd h (by decide +kernel)) (SL.cons (fun _ => HBC.out.c8) SL.nil))))) (fun hHeld => ?_)
      clear hK K
      try simp only [Act.put, List.setIfInBounds_toArray, List.set_cons_zero, List.set_cons_succ]
      refine wpAnyL_done (by kernel_rfl) ?_ _
      clear hHeld f1 f2 f3 k0 k1 k2 k3 k4 k5 k6 k7 k8 a4 a8 HBX HBA HBB HX2 HB2
      generalize ((w2.setCell ⟨b8, 1, none⟩ (.int .i64 (nearV A N.length Md))).setCell ⟨b8, 2, none⟩ (.int .i64 (nearV B N.length Md))).setCell ⟨b8, 3, none⟩ (.int .i64 (nearV C N.length Md)) = w3 at *
      have I1 := Lib.hid (near_i64 (n := N.length) (m := Md) HOK.out.a hNN)
      have I2 := Lib.hid (near_i64 (n := N.length) (m := Md) HOK.out.b hNN)
      have I3 := Lib.hid (near_i64 (n := N.length) (m := Md) HOK.out.c hNN)
      obtain ⟨a1, ha1⟩ : ∃ x, x = nearV A N.length Md := ⟨_, rfl⟩
      obtain ⟨b1, hb1⟩ : ∃ x, x = nearV B N.length Md := ⟨_, rfl⟩
      obtain ⟨c1, hc1⟩ : ∃ x, x = nearV C N.length Md := ⟨_, rfl⟩
      simp only at I1 I2 I3
      rw [← ha1, ← hb1, ← hc1] at HBC
      rw [← ha1] at I1
      rw [← hb1] at I2
      rw [← hc1] at I3
      rw [← ha1, ← hb1, ← hc1]
      clear ha1 hb1 hc1
      obtain ⟨U, hU⟩ : ∃ U : Nat → Int, U = fun i => nearV (V i) N.length Md := ⟨_, rfl⟩
      have HUI := Lib.hid (show ∀ i, i < L → nearV (V i) N.length Md = U i from fun i _ => by rw [hU])
      have IU := Lib.hid (show ∀ i, i < L → I64 (U i) from fun i hi => by rw [hU]; exact near_i64 (HOK.out.V i hi) hNN)
      clear hU
      have HBL := Lib.hid (HBC.out.setL none 0 0)
      have f4 := HBC.out.fz 4
      have k4 := HBC.out.c4
      simp only at k4
      have a4 := (hoc 4 (.slice none 0 0) w3).cell a4_ hne
      have a8 := (hoc 4 (.slice none 0 0) w3).cell a8_ hne
      have HX4 := Lib.hid (ints_only0 HX3.out (hoc 4 (.slice none 0 0) w3) HXN.out)
      have HB4 := Lib.hid (HB3.out.setCell (p := ⟨b8, 4, none⟩) (Nat.le_refl b8) (.slice none 0 0))
      clear a4_ a8_ HX3 HB3 HBC
      go_wp2_with fail
      generalize w3.setCell ⟨b8, 4, none⟩ (.slice none 0 0) = w4 at *
      clear k4 f4
      have h84 := HBL.out.lt
      obtain ⟨ws, hws⟩ : ∃ w, w = wr := ⟨_, rfl⟩
      subst hws
      go_loopw [10] (fun i wr => ∃ (k2 : Nat) (p : Option Addr) (z1 : Nat), k2 ≤ L ∧ i = .int .i64 k2 ∧ Below b8 w4 wr ∧ BoxC wr b8 ⟨kd, a1, b1, c1, p, k2, z1, U, F, S, M, Md⟩ ∧ wr.ownsRow w4.heap.size 73 1 (.slice p k2 z1) k2 (rowV k2 U) ∧ wr.cell? ⟨b, off + k * 9 + 4, none⟩ = some (.slice P L Cp) ∧ wr.cell? ⟨b, off + k * 9 + 8, none⟩ = some (.bool Md) ∧ IntsIn wr P L V) (fun i _ => L - (intOf i).toNat)
      case atStart => exact ⟨0, none, 0, Nat.zero_le _, rfl, Below.refl _ _, HBL.out.vals, ⟨by simp [rowV], .inl ⟨rfl, rfl⟩⟩, a4, a8, HX4.out⟩
      case round =>
        obtain ⟨k2, p, z1, hk2, rfl, hbr, hbox, hown, a4, a8, hxi⟩ := hrel
        have HBR := Lib.hid hbr
        have HBO := Lib.hid hbox
        have HOW := Lib.hid hown
        have HXI := Lib.hid hxi
        have hbrs := hbr.size
        have h48 : w4.heap.size ≤ wr.heap.size := hbr.size
        have k4 := hbox.c4
        simp only at k4
        clear hbr hbox hown hxi HBL HX4
        by_cases hlt2 : k2 < L
        · obtain ⟨bp, op, hP, hap⟩ := HXI.out (by omega)
          have ck := hap k2 hlt2
          have hbp := HXN0.out _ hP (by omega)
          simp only at hbp
          have hk20 : (0 : Int) ≤ (k2 : Int) := by omega
          have hk21 : (k2 : Int) < (L : Int) := by omega
          have HN1 := near_any (V k2) N.length Md hNN
          rw [HUI.out k2 hlt2] at HN1
          have HSN := Lib.hid (rowV_snoc k2 U)
          clear hap
          have HPP := Lib.hid hP
          rw [hP] at a4
          clear hP
          obtain ⟨vk, hvk⟩ : ∃ x, x = V k2 := ⟨_, rfl⟩
          rw [← hvk] at ck HN1
          obtain ⟨uk, huk⟩ : ∃ x, x = U k2 := ⟨_, rfl⟩
          rw [← huk] at HN1 HSN
          clear huk hvk
          go_wp2_with fail
          have hD : Below wr.heap.size wr wr.drew := (Below.refl _ _).drew
          replace ck := cell_later hD ck
          replace a4 := cell_later hD a4
          replace a8 := cell_later hD a8
          replace k4 := cell_later hD k4
          have HBD := Lib.hid (HBR.out.trans (hD.mono (by omega)))
          have HOD := Lib.hid (own_later HOW.out hD)
          have HXD := Lib.hid (HXI.out.later hD)
          have HBOD := Lib.hid (HBO.out.later hD)
          clear hD HBR HOW HXI HBO
          refine wp_region_L [(1000, (fun _ => True : World → Prop)), (20, (fun w => w.cell? ⟨b8, 4, none⟩ = some (.slice p k2 z1) : World → Prop)), (1000, (fun w => w.cell? ⟨b, off + k * 9 + 4, none⟩ = some (.slice (some ⟨bp, op, none⟩) L Cp) : World → Prop)), (1000, (fun w => w.cell? ⟨b, off + k * 9 + 8, none⟩ = some (.bool Md) : World → Prop)), (1000, (fun w => w.cell? ⟨bp, op + k2, none⟩ = some (.int .i64 vk) : World → Prop))] (by kernel_rfl) (SL.cons (fun _ => trivial) (SL.cons (fun _ => k4) (SL.cons (fun _ => a4) (SL.cons (fun _ => a8) (SL.cons (fun _ => ck) SL.nil))))) (fun hHeld => ?_)
          generalize wr.drew = w5 at *
          refine wpAnyL_take 0 _ _ (i := 0) (oi := { dst := some 78, op := Op.fieldAddr 76 (Operand.tmp 8) 4, type := 0, pos := "law.go:154", after := #[], guard := none }) (v := ?_) rfl (by kernel_rfl) (by kernel_rfl) (by kernel_rfl) (fun _ _ _ h => h) rfl (by kernel_rfl) (by kernel_rfl) (by kernel_rfl) (Or.inl ⟨by rfl, ?_⟩) hHeld (fun hHeld => ?_)
          rotate_left
          · intro w hSw
            (try dsimp only at hSw)
            go_simp
            try with_reducible rfl
          try simp only [Act.put, List.setIfInBounds_toArray, List.set_cons_zero, List.set_cons_succ]
          refine wpAnyL_take 0 _ _ (i := 2) (oi := { dst := some 80, op := Op.move (Operand.tmp 0), type := 67, pos := "law.go:154", after := #[], guard := none }) (v := ?_) rfl (by kernel_rfl) (by kernel_rfl) (by kernel_rfl) (fun _ _ _ h => h) rfl (by kernel_rfl) (by kernel_rfl) (by kernel_rfl) (Or.inl ⟨by rfl, ?_⟩) hHeld (fun hHeld => ?_)
          rotate_left
          · intro w hSw
            (try dsimp only at hSw)
            go_simp
            try with_reducible rfl
          try simp only [Act.put, List.setIfInBounds_toArray, List.set_cons_zero, List.set_cons_succ]
          refine wpAnyL_take 0 _ _ (i := 3) (oi := { dst := some 81, op := Op.move (Operand.tmp 7), type := 3, pos := "law.go:154", after := #[], guard := none }) (v := ?_) rfl (by kernel_rfl) (by kernel_rfl) (by kernel_rfl) (fun _ _ _ h => h) rfl (by kernel_rfl) (by kernel_rfl) (by kernel_rfl) (Or.inl ⟨by rfl, ?_⟩) hHeld (fun hHeld => ?_)
          rotate_left
          · intro w hSw
            (try dsimp only at hSw)
            go_simp
            try with_reducible rfl
          try simp only [Act.put, List.setIfInBounds_toArray, List.set_cons_zero, List.set_cons_succ]
          refine wpAnyL_take 0 _ _ (i := 4) (oi := { dst := some 82, op := Op.indexAddr 67 (Operand.tmp 80) (Operand.tmp 81), type := 0, pos := "law.go:154", after := #[{ on := 2, ground := Ground.data }, { on := 3, ground := Ground.data }], guard := none }) (v := ?_) rfl (by kernel_rfl) (by kernel_rfl) (by kernel_rfl) (fun _ _ _ h => h) rfl (by kernel_rfl) (by kernel_rfl) (by kernel_rfl) (Or.inl ⟨by rfl, ?_⟩) hHeld (fun hHeld => ?_)
          rotate_left
          · intro w hSw
            (try dsimp only at hSw)
            go_simp
            try with_reducible rfl
          try simp only [Act.put, List.setIfInBounds_toArray, List.set_cons_zero, List.set_cons_succ]
          refine wpAnyL_take 0 _ _ (i := 5) (oi := { dst := some 83, op := Op.fieldAddr 76 (Operand.tmp 82) 4, type := 0, pos := "law.go:154", after := #[{ on := 4, ground := Ground.data }], guard := none }) (v := ?_) rfl (by kernel_rfl) (by kernel_rfl) (by kernel_rfl) (fun _ _ _ h => h) rfl (by kernel_rfl) (by kernel_rfl) (by kernel_rfl) (Or.inl ⟨by rfl, ?_⟩) hHeld (fun hHeld => ?_)
          rotate_left
          · intro w hSw
            (try dsimp only at hSw)
            go_simp
            try with_reducible rfl
          try simp only [Act.put, List.setIfInBounds_toArray, List.set_cons_zero, List.set_cons_succ]
          refine wpAnyL_take 0 _ _ (i := 7) (oi := { dst := some 85, op := Op.move (Operand.tmp 10), type := 3, pos := "law.go:154", after := #[], guard := none }) (v := ?_) rfl (by kernel_rfl) (by kernel_rfl) (by kernel_rfl) (fun _ _ _ h => h) rfl (by kernel_rfl) (by kernel_rfl) (by kernel_rfl) (Or.inl ⟨by rfl, ?_⟩) hHeld (fun hHeld => ?_)
          rotate_left
          · intro w hSw
            (try dsimp only at hSw)
            go_simp
            try with_reducible rfl
          try simp only [Act.put, List.setIfInBounds_toArray, List.set_cons_zero, List.set_cons_succ]
          refine wpAnyL_take 0 _ _ (i := 10) (oi := { dst := some 88, op := Op.move (Operand.tmp 9), type := 3, pos := "law.go:154", after := #[], guard := none }) (v := ?_) rfl (by kernel_rfl) (by kernel_rfl) (by kernel_rfl) (fun _ _ _ h => h) rfl (by kernel_rfl) (by kernel_rfl) (by kernel_rfl) (Or.inl ⟨by rfl, ?_⟩) hHeld (fun hHeld => ?_)
          rotate_left
          · intro w hSw
            (try dsimp only at hSw)
            go_simp
            try with_reducible rfl
          try simp only [Act.put, List.setIfInBounds_toArray, List.set_cons_zero, List.set_cons_succ]
          refine wpAnyL_take 0 _ _ (i := 11) (oi := { dst := some 89, op := Op.move (Operand.tmp 0), type := 67, pos := "law.go:154", after := #[], guard := none }) (v := ?_) rfl (by kernel_rfl) (by kernel_rfl) (by kernel_rfl) (fun _ _ _ h => h) rfl (by kernel_rfl) (by kernel_rfl) (by kernel_rfl) (Or.inl ⟨by rfl, ?_⟩) hHeld (fun hHeld => ?_)
          rotate_left
          · intro w hSw
            (try dsimp only at hSw)
            go_simp
            try with_reducible rfl
          try simp only [Act.put, List.setIfInBounds_toArray, List.set_cons_zero, List.set_cons_succ]
          refine wpAnyL_take 0 _ _ (i := 12) (oi := { dst := some 90, op := Op.move (Operand.tmp 7), type := 3, pos := "law.go:154", after := #[], guard := none }) (v := ?_) rfl (by kernel_rfl) (by kernel_rfl) (by kernel_rfl) (fun _ _ _ h => h) rfl (by kernel_rfl) (by kernel_rfl) (by kernel_rfl) (Or.inl ⟨by rfl, ?_⟩) hHeld (fun hHeld => ?_)
          rotate_left
          · intro w hSw
            (try dsimp only at hSw)
            go_simp
            try with_reducible rfl
          try simp only [Act.put, List.setIfInBounds_toArray, List.set_cons_zero, List.set_cons_succ]
          refine wpAnyL_take 0 _ _ (i := 13) (oi := { dst := some 91, op := Op.indexAddr 67 (Operand.tmp 89) (Operand.tmp 90), type := 0, pos := "law.go:154", after := #[{ on := 11, ground := Ground.data }, { on := 12, ground := Ground.data }], guard := none }) (v := ?_) rfl (by kernel_rfl) (by kernel_rfl) (by kernel_rfl) (fun _ _ _ h => h) rfl (by kernel_rfl) (by kernel_rfl) (by kernel_rfl) (Or.inl ⟨by rfl, ?_⟩) hHeld (fun hHeld => ?_)
          rotate_left
          · intro w hSw
            (try dsimp only at hSw)
            go_simp
            try with_reducible rfl
          try simp only [Act.put, List.setIfInBounds_toArray, List.set_cons_zero, List.set_cons_succ]
          refine wpAnyL_take 0 _ _ (i := 14) (oi := { dst := some 92, op := Op.fieldAddr 76 (Operand.tmp 91) 8, type := 0, pos := "law.go:154", after := #[{ on := 13, ground := Ground.data }], guard := none }) (v := ?_) rfl (by kernel_rfl) (by kernel_rfl) (by kernel_rfl) (fun _ _ _ h => h) rfl (by kernel_rfl) (by kernel_rfl) (by kernel_rfl) (Or.inl ⟨by rfl, ?_⟩) hHeld (fun hHeld => ?_)
          rotate_left
          · intro w hSw
            (try dsimp only at hSw)
            go_simp
            try with_reducible rfl
          try simp only [Act.put, List.setIfInBounds_toArray, List.set_cons_zero, List.set_cons_succ]
          refine wpAnyL_take 1 _ _ (i := 1) (oi := { dst := some 79, op := Op.load 74 (Operand.tmp 78), type := 74, pos := "law.go:154", after := #[{ on := 0, ground := Ground.data }], guard := none }) (v := ?_) rfl (by kernel_rfl) (by kernel_rfl) (by kernel_rfl) (fun _ _ _ h => h) rfl (by kernel_rfl) (by kernel_rfl) (by kernel_rfl) (Or.inl ⟨by rfl, ?_⟩) hHeld (fun hHeld => ?_)
          rotate_left
          · intro w hSw
            (try dsimp only at hSw)
            go_simp
            try with_reducible rfl
          try simp only [Act.put, List.setIfInBounds_toArray, List.set_cons_zero, List.set_cons_succ]
          refine wpAnyL_take 2 _ _ (i := 6) (oi := { dst := some 84, op := Op.load 74 (Operand.tmp 83), type := 74, pos := "law.go:154", after := #[{ on := 5, ground := Ground.data }], guard := none }) (v := ?_) rfl (by kernel_rfl) (by kernel_rfl) (by kernel_rfl) (fun _ _ _ h => h) rfl (by kernel_rfl) (by kernel_rfl) (by kernel_rfl) (Or.inl ⟨by rfl, ?_⟩) hHeld (fun hHeld => ?_)
          rotate_left
          · intro w hSw
            (try dsimp only at hSw)
            go_simp
            try with_reducible rfl
          try simp only [Act.put, List.setIfInBounds_toArray, List.set_cons_zero, List.set_cons_succ]
          refine wpAnyL_take 3 _ _ (i := 15) (oi := { dst := some 93, op := Op.load 4 (Operand.tmp 92), type := 4, pos := "law.go:154", after := #[{ on := 14, ground := Ground.data }], guard := none }) (v := ?_) rfl (by kernel_rfl) (by kernel_rfl) (by kernel_rfl) (fun _ _ _ h => h) rfl (by kernel_rfl) (by kernel_rfl) (by kernel_rfl) (Or.inl ⟨by rfl, ?_⟩) hHeld (fun hHeld => ?_)
          rotate_left
          · intro w hSw
            (try dsimp only at hSw)
            go_simp
            try with_reducible rfl
          try simp only [Act.put, List.setIfInBounds_toArray, List.set_cons_zero, List.set_cons_succ]
          refine wpAnyL_take 0 _ _ (i := 8) (oi := { dst := some 86, op := Op.indexAddr 74 (Operand.tmp 84) (Operand.tmp 85), type := 0, pos := "law.go:154", after := #[{ on := 6, ground := Ground.data }, { on := 7, ground := Ground.data }], guard := none }) (v := ?_) rfl (by kernel_rfl) (by kernel_rfl) (by kernel_rfl) (fun _ _ _ h => h) rfl (by kernel_rfl) (by kernel_rfl) (by kernel_rfl) (Or.inl ⟨by rfl, ?_⟩) hHeld (fun hHeld => ?_)
          rotate_left
          · intro w hSw
            (try dsimp only at hSw)
            go_simp
            try with_reducible rfl
          try simp only [Act.put, List.setIfInBounds_toArray, List.set_cons_zero, List.set_cons_succ]
          refine wpAnyL_take 4 _ _ (i := 9) (oi := { dst := some 87, op := Op.load 73 (Operand.tmp 86), type := 73, pos := "law.go:154", after := #[{ on := 8, ground := Ground.data }], guard := none }) (v := ?_) rfl (by kernel_rfl) (by kernel_rfl) (by kernel_rfl) (fun _ _ _ h => h) rfl (by kernel_rfl) (by kernel_rfl) (by kernel_rfl) (Or.inl ⟨by rfl, ?_⟩) hHeld (fun hHeld => ?_)
          rotate_left
          · intro w hSw
            (try dsimp only at hSw)
            go_simp
            try with_reducible rfl
          try simp only [Act.put, List.setIfInBounds_toArray, List.set_cons_zero, List.set_cons_succ]
          refine wpAnyL_ready (rs := [16]) (by kernel_rfl) (by simp) ?_
          refine AllReadyL.cons (o := { dst := some 94, op := Op.call { callee := Callee.value (Operand.func 38), args := #[Operand.tmp 87, Operand.tmp 88, Operand.tmp 93], argTypes := #[73, 3, 4] }, type := 73, pos := "law.go:154", after := #[{ on := 9, ground := Ground.data }, { on := 10, ground := Ground.data }, { on := 15, ground := Ground.data }], guard := none }) rfl (fun K hK => ?_) AllReadyL.nil
          go_simp
          go_at_call 38
          refine (HN1 _).mono ?_
          rintro e w9 ⟨rfl, hw⟩
          obtain rfl := hw.symm
          refine hK.out _ _ (SL.cons (fun _ => trivial) (SL.cons (fun _ => k4) (SL.cons (fun _ => a4) (SL.cons (fun _ => a8) (SL.cons (fun _ => ck) SL.nil))))) (fun hHeld => ?_)
          clear hK K
          try simp only [Act.put, List.setIfInBounds_toArray, List.set_cons_zero, List.set_cons_succ]
          refine wpAnyL_ready (rs := [17]) (by kernel_rfl) (by simp) ?_
          refine AllReadyL.cons (o := { dst := some 95, op := Op.buildSlice 74 1 #[(0, Operand.tmp 94)], type := 74, pos := "law.go:154", after := #[{ on := 16, ground := Ground.data }], guard := none }) rfl (fun K hK => ?_) AllReadyL.nil
          go_simp
          refine hK.out _ _ (SL.cons (fun _ => trivial) (SL.cons (fun _ => cell_later (below1 w5 _) k4) (SL.cons (fun _ => cell_later (below1 w5 _) a4) (SL.cons (fun _ => cell_later (below1 w5 _) a8) (SL.cons (fun _ => cell_later (below1 w5 _) ck) SL.nil))))) (fun hHeld => ?_)
          clear hK K
          try simp only [Act.put, List.setIfInBounds_toArray, List.set_cons_zero, List.set_cons_succ]
          have hb8 := below1 w5 (.cells #[.int .i64 uk] 73)
          replace k4 := cell_later hb8 k4
          replace a4 := cell_later hb8 a4
          replace a8 := cell_later hb8 a8
          replace ck := cell_later hb8 ck
          have hb5s : b8 ≤ w5.heap.size := Nat.le_of_lt HBOD.out.lt
          have HB8 := Lib.hid (HBD.out.trans (hb8.mono hb5s))
          have HO8 := Lib.hid (own_later HOD.out hb8)
          have HBO8 := Lib.hid (HBOD.out.later hb8)
          have HX8 := Lib.hid (HXD.out.later hb8)
          have n0 : (w5.alloc (.cells #[.int .i64 uk] 73)).cell? ⟨w5.heap.size, 0, none⟩ = some (.int .i64 uk) := by simp [go_sem]
          have hbs4 : w4.heap.size ≤ (w5.alloc (.cells #[.int .i64 uk] 73)).heap.size := HB8.out.size
          clear hb8 hHeld HBD HOD HBOD HXD
          refine wpAnyL_ready (rs := [18]) (by kernel_rfl) (by simp) ?_
          refine AllReadyL.cons (o := { dst := some 96, op := Op.call { callee := Callee.builtin Builtin.append, args := #[Operand.tmp 79, Operand.tmp 95], argTypes := #[74, 74] }, type := 74, pos := "law.go:154", after := #[{ on := 1, ground := Ground.data }, { on := 17, ground := Ground.data }, { on := 16, ground := Ground.chain }], guard := none }) rfl (fun KK hK => ?_) AllReadyL.nil
          rw [if_pos (by rfl)]
          refine wp_append_own_at _ _ 74 (by rfl) w4.heap.size 73 i73 (.int .i64 0) 1 8 Try.underlying74 hi73 hz730 hz731 hz732 rfl (by omega) _ k2 (rowV k2 U) (by rfl) HO8.out ⟨w5.heap.size, 0, none⟩ 1 1 [.int .i64 uk] (by rfl) (by rfl) ?_ ?_ ?_ ?_ ?_ ?_
          · intro jj u hjj
            rw [Lib.add_plain]
            match jj, hjj with
            | 0, hjj => cases hjj; exact n0
          · intro u hu; simp at hu; subst hu; rfl
          · have hml : maxLen = 9223372036854775807 := rfl; omega
          · omega
          · exact hbs4
          intro v9 w9 hown hgrow hnil_ hloc
          obtain ⟨p9, c9, hv⟩ := own_shape hown
          subst hv
          clear hnil_ hloc
          rw [HSN.out] at hown
          have hbg : Below w4.heap.size (w5.alloc (.cells #[.int .i64 uk] 73)) w9 := (Below.refl _ _).grown hgrow hbs4 (fun k hk => (own_lt HO8.out hk).1)
          have HB9 := Lib.hid (HB8.out.trans (hbg.mono (Nat.le_of_lt h84)))
          have HO9 := Lib.hid hown
          have HBO9 := Lib.hid (HBO8.out.only (Only.of_grown hgrow) (fun e => by have := (own_lt HO8.out e).1; omega))
          have HX9 := Lib.hid (ints_keep HX8.out hbg (fun ad e hL => by have := HXN0.out ad e hL; omega))
          replace k4 := HBO9.out.c4
          simp only at k4
          replace a4 := keepc hbg a4 (by show b < w4.heap.size; omega)
          replace a8 := keepc hbg a8 (by show b < w4.heap.size; omega)
          replace ck := keepc hbg ck (by show bp < w4.heap.size; omega)
          clear hown hgrow hbg n0 HB8 HO8 HBO8 HX8
          refine hK.out _ _ (SL.cons (fun _ => trivial) (SL.cons (fun _ => k4) (SL.cons (fun _ => a4) (SL.cons (fun _ => a8) (SL.cons (fun _ => ck) SL.nil))))) (fun hHeld => ?_)
          clear hK KK
          try simp only [Act.put, List.setIfInBounds_toArray, List.set_cons_zero, List.set_cons_succ]
          refine wpAnyL_take 0 _ _ (i := 19) (oi := { dst := some 97, op := Op.fieldAddr 76 (Operand.tmp 8) 4, type := 0, pos := "law.go:154", after := #[{ on := 0, ground := Ground.phase }, { on := 1, ground := Ground.phase }, { on := 2, ground := Ground.phase }, { on := 3, ground := Ground.phase }, { on := 4, ground := Ground.phase }, { on := 5, ground := Ground.phase }, { on := 6, ground := Ground.phase }, { on := 7, ground := Ground.phase }, { on := 8, ground := Ground.phase }, { on := 9, ground := Ground.phase }, { on := 10, ground := Ground.phase }, { on := 11, ground := Ground.phase }, { on := 12, ground := Ground.phase }, { on := 13, ground := Ground.phase }, { on := 14, ground := Ground.phase }, { on := 15, ground := Ground.phase }, { on := 16, ground := Ground.phase }, { on := 17, ground := Ground.phase }, { on := 18, ground := Ground.phase }], guard := none }) (v := ?_) rfl (by kernel_rfl) (by kernel_rfl) (by kernel_rfl) (fun _ _ _ h => h) rfl (by kernel_rfl) (by kernel_rfl) (by kernel_rfl) (Or.inl ⟨by rfl, ?_⟩) hHeld (fun hHeld => ?_)
          rotate_left
          · intro w hSw
            (try dsimp only at hSw)
            go_simp
            try with_reducible rfl
          try simp only [Act.put, List.setIfInBounds_toArray, List.set_cons_zero, List.set_cons_succ]
          have f4 := HBO9.out.fz 4
          have HBL := Lib.hid (HBO9.out.setL p9 (k2 + 1) c9)
          have hneb : b ≠ b8 := by omega
          have hnbp : bp ≠ b8 := by omega
          have a4_ := (hoc 4 (.slice p9 (k2 + 1) c9) w9).cell a4 hneb
          have a8_ := (hoc 4 (.slice p9 (k2 + 1) c9) w9).cell a8 hneb
          have ck_ := (hoc 4 (.slice p9 (k2 + 1) c9) w9).cell ck hnbp
          have HX10 := Lib.hid (ints_only0 HX9.out (hoc 4 (.slice p9 (k2 + 1) c9) w9) HXN.out)
          have HB10 := Lib.hid (HB9.out.setCell (p := ⟨b8, 4, none⟩) (Nat.le_refl b8) (.slice p9 (k2 + 1) c9))
          have HO10 := Lib.hid (own_setFar' (i := 4) (u := .slice p9 (k2 + 1) c9) HO9.out h84)
          refine wpAnyL_ready (rs := [20]) (by kernel_rfl) (by simp) ?_
          refine AllReadyL.cons (o := { dst := none, op := Op.store 74 (Operand.tmp 97) (Operand.tmp 96), type := 0, pos := "law.go:154", after := #[{ on := 19, ground := Ground.data }, { on := 18, ground := Ground.data }, { on := 18, ground := Ground.chain }, { on := 0, ground := Ground.phase }, { on := 1, ground := Ground.phase }, { on := 2, ground := Ground.phase }, { on := 3, ground := Ground.phase }, { on := 4, ground := Ground.phase }, { on := 5, ground := Ground.phase }, { on := 6, ground := Ground.phase }, { on := 7, ground := Ground.phase }, { on := 8, ground := Ground.phase }, { on := 9, ground := Ground.phase }, { on := 10, ground := Ground.phase }, { on := 11, ground := Ground.phase }, { on := 12, ground := Ground.phase }, { on := 13, ground := Ground.phase }, { on := 14, ground := Ground.phase }, { on := 15, ground := Ground.phase }, { on := 16, ground := Ground.phase }, { on := 17, ground := Ground.phase }, { on := 18, ground := Ground.phase }], guard := none }) rfl (fun K hK => ?_) AllReadyL.nil
          go_simp
          refine hK.out _ _ (SL.cons (fun _ => trivial) (SL.cons (fun h => absurd h (by decide +kernel)) (SL.cons (fun _ => a4_) (SL.cons (fun _ => a8_) (SL.cons (fun _ => ck_) SL.nil))))) (fun hHeld => ?_)
          clear hK K
          try simp only [Act.put, List.setIfInBounds_toArray, List.set_cons_zero, List.set_cons_succ]
          refine wpAnyL_done (by kernel_rfl) ?_ _
          clear hHeld f4 k4 a4 a8 ck ck_ HBO9 HX9 HB9 HO9
          have HA4 := Lib.hid (show (w9.setCell ⟨b8, 4, none⟩ (.slice p9 (k2 + 1) c9)).cell? ⟨b, off + k * 9 + 4, none⟩ = some (.slice P L Cp) by rw [HPP.out]; exact a4_)
          clear a4_
          go_wp2_with fail
          go_roundw
          case rel => exact ⟨k2 + 1, p9, c9, by omega, by go_num, HB10.out, HBL.out, HO10.out, HA4.out, a8_, HX10.out⟩
          case measure => simp [intOf]; omega
        · obtain rfl : k2 = L := by omega
          have HBM := Lib.hid (HBO.out.setM false)
          have f8 := HBO.out.fz 8
          have k8 := HBO.out.c8
          have HB6 := Lib.hid (show Below ws.heap.size ws (wr.setCell ⟨b8, 8, none⟩ (.bool false)) by rw [HE8.out]; exact (HB4.out.trans HBR.out).setCell (p := ⟨b8, 8, none⟩) (Nat.le_refl b8) _)
          have HO6 := Lib.hid (own_setFar' (i := 8) (u := .bool false) HOW.out h84)
          have HB4S := Lib.hid (show ws.heap.size ≤ w4.heap.size from HB4.out.size)
          clear HBR HBO HOW HXI k4
          simp only at k8
          go_upto_region 18 with (fail)
          simp only at HBM
          go_upto_region 19 with (fail)
          generalize wr.setCell ⟨b8, 8, none⟩ (.bool false) = w6 at *
          clear f8 k8 a4 a8
          have k0 := HBM.out.c0
          have k1 := HBM.out.c1
          have k2_ := HBM.out.c2
          have k3 := HBM.out.c3
          have k4 := HBM.out.c4
          have k5 := HBM.out.c5
          have k6 := HBM.out.c6
          have k7 := HBM.out.c7
          have k8 := HBM.out.c8
          simp only at k0 k1 k2_ k3 k4 k5 k6 k7 k8
          have HM := made_any (HR.out.two.later HB6.out) ⟨kd, a1, b1, c1, p, k2, z1, U, F, S, M, false⟩ ⟨HOK.out.k, I1.out, I2.out, I3.out, hLL, IU.out, HOK.out.f, HOK.out.s, HOK.out.n⟩ (own_ints HO6.out)
          unfold mA at HM
          obtain ⟨J6, hm6, _, ht6⟩ := HR.out.mine.args HR.out.two.st.fr HR.out.b.size HB6.out HB4S.out HO6.out
          have HM6 := Lib.hid hm6
          have HT6 := Lib.hid ht6
          clear hm6 ht6
          simp only at HM
          go_wp2_with fail
          refine HM.mono ?_
          rintro e w7 ⟨K7, T7, N7, t, er, rfl, tw7, z7, ans7⟩
          have hKn : ∀ kq, ws.heap.size ≤ kq → K kq = 0 := HR.out.two.st.fr
          have HQ7 := Lib.hid (show Rnd W w7 c r J6 K7 T7 N7 xs cl (.slice px mm zx) (.slice pc mm zc) from ⟨tw7, HM6.out.stepZ z7, HR.out.kept.after ans7, HR.out.b.trans ((HB6.out.mono HR.out.b.size).trans (z7.toBelow (HR.out.two.later HB6.out)))⟩)
          have HBX7 := Lib.hid (HBM.out.only z7.only (fun e => e (hKn b8 (by rw [HE8.out]; exact Nat.le_refl _))))
          have HI7 := Lib.hid (ints_only (own_ints HO6.out) z7.only (fun ad e h => h (hKn ad.block (by have := (own_lt HO6.out (k := ad.block) (by rw [e]; rfl)).1; have := HB4S.out; omega))))
          have HPL := Lib.hid (show ∀ ad, p = some ad → ws.heap.size ≤ ad.block from fun ad e => by have := (own_lt HO6.out (k := ad.block) (by rw [e]; rfl)).1; have := HB4S.out; omega)
          have HANS := Lib.hid (show er = 0 → KnownO T7.nodes (clS ⟨kd, a1, b1, c1, p, k2, z1, U, F, S, M, false⟩) t from fun e => by
            subst e
            have h := ans7
            rw [clOf_plain _ _ rfl] at h
            exact h.knownO)
          have HKN := Lib.hid hKn
          clear HM tw7 z7 ans7 hKn HM6 HBM k0 k1 k2_ k3 k4 k5 k6 k7 k8
          by_cases her : er = 0
          rotate_left
          · have u0 : (er == 0) = false := by simpa using her
            go_wp2_with fail
            go_roundw
            case rel => exact ⟨k + 1, mm, J6, K7, T7, N7, xs, cl, px, zx, pc, zc, by omega, by omega, rfl, rfl, by go_num, HCL.out, HQ7.out⟩
            case measure => simp [intOf]; omega
          subst her
          have k0 := HBX7.out.c0
          simp only at k0
          by_cases hkd : 0 ≤ kd
          rotate_left
          · have u1 : decide (0 ≤ kd) = false := by simpa using hkd
            go_wp2_with fail
            go_roundw
            case rel => exact ⟨k + 1, mm, J6, K7, T7, N7, xs, cl, px, zx, pc, zc, by omega, by omega, rfl, rfl, by go_num, HCL.out, HQ7.out⟩
            case measure => simp [intOf]; omega
          have u1 : decide (0 ≤ kd) = true := by simpa using hkd
          by_cases hkd8 : kd ≤ 8
          rotate_left
          · have u2 : decide (kd ≤ 8) = false := by simpa using hkd8
            go_wp2_with fail
            go_roundw
            case rel => exact ⟨k + 1, mm, J6, K7, T7, N7, xs, cl, px, zx, pc, zc, by omega, by omega, rfl, rfl, by go_num, HCL.out, HQ7.out⟩
            case measure => simp [intOf]; omega
          have u2 : decide (kd ≤ 8) = true := by simpa using hkd8
          go_upto_region 23 with (fail)
          clear k0
          have hxl : xs.length = mm := HQ7.out.kept.1.trans HCL.out
          have hbA := below1 w7 (.cells #[.int .i64 t] 73)
          have HMA := Lib.hid (HQ7.out.mine.later hbA)
          have HTA := Lib.hid (HQ7.out.two.later hbA)
          have HBXA := Lib.hid (HBX7.out.later hbA)
          have HIA := Lib.hid (HI7.out.later hbA)
          have HBBA := Lib.hid (HQ7.out.b.trans (hbA.mono HQ7.out.b.size))
          have HXR := Lib.hid (show (w7.alloc (.cells #[.int .i64 t] 73)).ownsRow 0 73 1 (.slice px mm zx) mm (xs.map (Value.int .i64)) by have := HMA.out.rx.own; rw [hxl] at this; exact this)
          have n0 : (w7.alloc (.cells #[.int .i64 t] 73)).cell? ⟨w7.heap.size, 0, none⟩ = some (.int .i64 t) := by simp [go_sem]
          have HXLT := Lib.hid (show ∀ g, (Value.slice px mm zx).ownBlock = some g → g < ws.heap.size from fun g e => (own_lt HR.out.mine.rx.own e).2)
          have HCLT := Lib.hid (show ∀ g, (Value.slice pc mm zc).ownBlock = some g → g < ws.heap.size from fun g e => (own_lt HR.out.mine.rc.own e).2)
          have HXL := Lib.hid hxl
          clear hbA hxl
          go_wp2_with (at_builtin; refine wpList_append_own_at _ rfl _ _ 74 rfl 0 73 i73 (.int .i64 0) 1 8 Try.underlying74 hi73 hz730 hz731 hz732 rfl (by omega) _ mm (xs.map (Value.int .i64)) rfl HXR.out ⟨w7.heap.size, 0, none⟩ 1 1 [.int .i64 t] rfl rfl ?qc1 ?qc2 ?qc3 ?qc4 ?qc5 ?_)
          case qc1 =>
            intro jj u hjj
            rw [Lib.add_plain]
            match jj, hjj with
            | 0, hjj => cases hjj; exact n0
          case qc2 => intro u hu; simp at hu; subst hu; rfl
          case qc3 => have hml : maxLen = 9223372036854775807 := rfl; omega
          case qc4 => omega
          case qc5 => exact Nat.zero_le _
          intro v9 w9 hown hgrow hnil_ hloc
          obtain ⟨p9, c9, hv⟩ := own_shape hown
          subst hv
          obtain ⟨J9, hm9, ho9, hx9⟩ := HMA.out.pushx (t := t) HTA.out.st.fr HBBA.out.size (by rw [HXL.out]; exact hown) hgrow (by simpa using hloc)
          have HT9 := Lib.hid (HTA.out.mine HMA.out (by decide) ho9)
          have HBX9 := Lib.hid (HBXA.out.only (Only.of_grown hgrow) (fun e => by have := HXLT.out _ e; have := HE8.out; omega))
          have HI9 := Lib.hid (ints_only HIA.out (Only.of_grown hgrow) (fun ad e e2 => by have := HXLT.out _ e2; have := HPL.out _ e; omega))
          have HT69 := Lib.hid (args_ext HMA.out.fr hx9 (by decide) HT6.out)
          have HM9 := Lib.hid hm9
          have HB9 := Lib.hid (HBBA.out.grown hgrow HBBA.out.size (fun g e => by
            rcases Nat.lt_or_ge g W.heap.size with h1 | h1
            · have h2 := HMA.out.rx.tg g e
              rw [HMA.out.lo g h1] at h2
              exact absurd h2 (by decide)
            · exact h1))
          clear hm9 ho9 hx9 hown hgrow hnil_ hloc n0 HMA HTA HBXA HIA HBBA HXR
          have g0 := HBX9.out.c0
          have g1 := HBX9.out.c1
          have g2 := HBX9.out.c2
          have g3 := HBX9.out.c3
          have g4 := HBX9.out.c4
          have g5 := HBX9.out.c5
          have g6 := HBX9.out.c6
          have g7 := HBX9.out.c7
          have g8 := HBX9.out.c8
          simp only at g0 g1 g2 g3 g4 g5 g6 g7 g8
          go_upto_region 24 with (fail)
          have hbB := below1 w9 (.cells #[.int .i64 kd, .int .i64 a1, .int .i64 b1, .int .i64 c1, .slice p k2 z1, .int .i64 F, .int .i64 S, .int .i64 M, .bool false] 76)
          have HMB := Lib.hid (HM9.out.later hbB)
          have HTB := Lib.hid (HT9.out.later hbB)
          have HIB := Lib.hid (HI9.out.later hbB)
          have HBBB := Lib.hid (HB9.out.trans (hbB.mono HB9.out.size))
          have HCR := Lib.hid (show (w9.alloc (.cells #[.int .i64 kd, .int .i64 a1, .int .i64 b1, .int .i64 c1, .slice p k2 z1, .int .i64 F, .int .i64 S, .int .i64 M, .bool false] 76)).ownsRow 0 76 9 (.slice pc mm zc) mm (flatO cl) by have := HMB.out.rc.own; rw [HCL.out] at this; exact this)
          have m0 : (w9.alloc (.cells #[.int .i64 kd, .int .i64 a1, .int .i64 b1, .int .i64 c1, .slice p k2 z1, .int .i64 F, .int .i64 S, .int .i64 M, .bool false] 76)).cell? ⟨w9.heap.size, 0, none⟩ = some (.int .i64 kd) := by simp [go_sem]
          have m1 : (w9.alloc (.cells #[.int .i64 kd, .int .i64 a1, .int .i64 b1, .int .i64 c1, .slice p k2 z1, .int .i64 F, .int .i64 S, .int .i64 M, .bool false] 76)).cell? ⟨w9.heap.size, 1, none⟩ = some (.int .i64 a1) := by simp [go_sem]
          have m2 : (w9.alloc (.cells #[.int .i64 kd, .int .i64 a1, .int .i64 b1, .int .i64 c1, .slice p k2 z1, .int .i64 F, .int .i64 S, .int .i64 M, .bool false] 76)).cell? ⟨w9.heap.size, 2, none⟩ = some (.int .i64 b1) := by simp [go_sem]
          have m3 : (w9.alloc (.cells #[.int .i64 kd, .int .i64 a1, .int .i64 b1, .int .i64 c1, .slice p k2 z1, .int .i64 F, .int .i64 S, .int .i64 M, .bool false] 76)).cell? ⟨w9.heap.size, 3, none⟩ = some (.int .i64 c1) := by simp [go_sem]
          have m4 : (w9.alloc (.cells #[.int .i64 kd, .int .i64 a1, .int .i64 b1, .int .i64 c1, .slice p k2 z1, .int .i64 F, .int .i64 S, .int .i64 M, .bool false] 76)).cell? ⟨w9.heap.size, 4, none⟩ = some (.slice p k2 z1) := by simp [go_sem]
          have m5 : (w9.alloc (.cells #[.int .i64 kd, .int .i64 a1, .int .i64 b1, .int .i64 c1, .slice p k2 z1, .int .i64 F, .int .i64 S, .int .i64 M, .bool false] 76)).cell? ⟨w9.heap.size, 5, none⟩ = some (.int .i64 F) := by simp [go_sem]
          have m6 : (w9.alloc (.cells #[.int .i64 kd, .int .i64 a1, .int .i64 b1, .int .i64 c1, .slice p k2 z1, .int .i64 F, .int .i64 S, .int .i64 M, .bool false] 76)).cell? ⟨w9.heap.size, 6, none⟩ = some (.int .i64 S) := by simp [go_sem]
          have m7 : (w9.alloc (.cells #[.int .i64 kd, .int .i64 a1, .int .i64 b1, .int .i64 c1, .slice p k2 z1, .int .i64 F, .int .i64 S, .int .i64 M, .bool false] 76)).cell? ⟨w9.heap.size, 7, none⟩ = some (.int .i64 M) := by simp [go_sem]
          have m8 : (w9.alloc (.cells #[.int .i64 kd, .int .i64 a1, .int .i64 b1, .int .i64 c1, .slice p k2 z1, .int .i64 F, .int .i64 S, .int .i64 M, .bool false] 76)).cell? ⟨w9.heap.size, 8, none⟩ = some (.bool false) := by simp [go_sem]
          clear hbB
          go_wp2_with (at_builtin; refine wpList_append_own_at _ rfl _ _ 67 rfl 0 76 i76 (.agg #[.int .i64 0, .int .i64 0, .int .i64 0, .int .i64 0, .slice none 0 0, .int .i64 0, .int .i64 0, .int .i64 0, .bool false]) 9 88 Try.underlying67 hi76 hz760 hz761 hz762 rfl (by omega) _ mm (flatO cl) rfl HCR.out ⟨w9.heap.size, 0, none⟩ 1 1 (mV ⟨kd, a1, b1, c1, p, k2, z1, U, F, S, M, false⟩) rfl rfl ?qc1 (mV_one _) ?qc3 ?qc4 ?qc5 ?_)
          case qc1 =>
            intro jj u hjj
            rw [Lib.add_plain]
            match jj, hjj with
            | 0, hjj => cases hjj; exact m0
            | 1, hjj => cases hjj; exact m1
            | 2, hjj => cases hjj; exact m2
            | 3, hjj => cases hjj; exact m3
            | 4, hjj => cases hjj; exact m4
            | 5, hjj => cases hjj; exact m5
            | 6, hjj => cases hjj; exact m6
            | 7, hjj => cases hjj; exact m7
            | 8, hjj => cases hjj; exact m8
          case qc3 => have hml : maxLen = 9223372036854775807 := rfl; omega
          case qc4 => omega
          case qc5 => exact Nat.zero_le _
          intro v10 w10 hown hgrow hnil_ hloc
          obtain ⟨p10, c10, hv⟩ := own_shape hown
          subst hv
          obtain ⟨J10, hm10, ho10⟩ := HMB.out.pushc (o := ⟨kd, a1, b1, c1, p, k2, z1, U, F, S, M, false⟩) HTB.out.st.fr HBBB.out.size HIB.out HT69.out (by rw [HCL.out]; exact hown) hgrow (by simpa using hloc)
          have HQ10 := Lib.hid (show Rnd W w10 c r J10 K7 T7 N7 (xs ++ [t]) (cl ++ [⟨kd, a1, b1, c1, p, k2, z1, U, F, S, M, false⟩]) (.slice p9 (mm + 1) c9) (.slice p10 (mm + 1) c10) from ⟨HTB.out.mine HMB.out (by decide) ho10, hm10, HQ7.out.kept.snoc ⟨HOK.out.k, I1.out, I2.out, I3.out, hLL, IU.out, HOK.out.f, HOK.out.s, HOK.out.n⟩ rfl (HANS.out (by simp)), HBBB.out.grown hgrow HBBB.out.size (fun g e => by
            rcases Nat.lt_or_ge g W.heap.size with h1 | h1
            · have h2 := HMB.out.rc.tg g e
              rw [HMB.out.lo g h1] at h2
              exact absurd h2 (by decide)
            · exact h1)⟩)
          clear hm10 ho10 hown hgrow hnil_ hloc HMB HTB HIB HBBB HCR m0 m1 m2 m3 m4 m5 m6 m7 m8
          go_wp2_with fail
          go_roundw
          case rel => exact ⟨k + 1, mm + 1, J10, K7, T7, N7, xs ++ [t], cl ++ [⟨kd, a1, b1, c1, p, k2, z1, U, F, S, M, false⟩], p9, c9, p10, c10, by omega, by omega, rfl, rfl, by go_num, by rw [List.length_append, HCL.out]; rfl, HQ10.out⟩
          case measure => simp [intOf]; omega
    · obtain rfl : k = n := by omega
      have HL2 := len_any HR.out.two.st
      obtain ⟨l, hl⟩ : ∃ l, l = T.nodes.length := ⟨_, rfl⟩
      have hl20 : l ≤ 20000 := by rw [hl]; exact HR.out.two.g.b0
      have hl3 : 3 ≤ l := by rw [hl]; exact HR.out.two.l3
      rw [← hl] at HL2
      have HLE := Lib.hid hl
      have hmm : mm ≤ 100 := by omega
      clear hl HL
      go_wp2_with fail
      refine HL2.mono ?_
      rintro e w3 ⟨rfl, hw⟩
      obtain rfl := hw.symm
      clear HL2 hw
      go_wp2_with fail
      go_loopw [15] (fun i wr => ∃ (k2 : Nat) (K2 : Nat → Nat) (T2 : Sto) (N2 : List Nd), k2 ≤ mm ∧ i = .int .i64 k2 ∧ T2.nodes.length = l ∧ Rnd W wr c r J K2 T2 N2 xs cl (.slice px mm zx) (.slice pc mm zc)) (fun i _ => mm - (intOf i).toNat)
      case atStart => exact ⟨0, K, T, N, Nat.zero_le _, rfl, HLE.out.symm, HR.out⟩
      case round =>
        obtain ⟨k2, K2, T2, N2, hk2, rfl, hl2, hrnd⟩ := hrel
        clear HR HLE
        have HR := Lib.hid hrnd
        have HLE := Lib.hid hl2
        have HXL := Lib.hid (show xs.length = mm from hrnd.kept.1.trans HCL.out)
        clear hrnd hl2
        by_cases hlt2 : k2 < mm
        · obtain ⟨o, ho⟩ : ∃ o, cl[k2]? = some o := ⟨_, List.getElem?_eq_getElem (by rw [HCL.out]; exact hlt2)⟩
          obtain ⟨t, ht⟩ : ∃ t, xs[k2]? = some t := ⟨_, List.getElem?_eq_getElem (by rw [HXL.out]; exact hlt2)⟩
          obtain ⟨hok, hmf, hkn⟩ := HR.out.kept.2 k2 o t ho ht
          have hrc := HR.out.mine.rc.own
          rw [HCL.out] at hrc
          obtain ⟨gc, hgc, hma⟩ := own_op hrc ho
          subst hgc
          obtain ⟨a0, a1, a2, a3, a4, a5, a6, a7, a8⟩ := hma
          have HM := made_any HR.out.two o hok (HR.out.mine.ar k2 o ho).1
          have HKN := Lib.hid hkn
          have HMF := Lib.hid hmf
          have HT := Lib.hid ht
          have hk0 : (0 : Int) ≤ (k2 : Int) := by omega
          have hk1 : (k2 : Int) < (mm : Int) := by omega
          clear hok hmf hkn hrc ho ht
          unfold mA at HM
          go_wp2_with fail
          refine HM.mono ?_
          rintro e w4 ⟨K3, T3, N3, t3, er3, rfl, tw3, z3, ans3⟩
          rw [clOf_plain _ _ HMF.out] at ans3
          obtain ⟨e1, e2, e3⟩ := HKN.out.told HR.out.two.g.uniqL ans3
          subst e1
          subst e2
          have hm3 := HR.out.mine.stepZ z3
          have hrx := hm3.rx.own
          rw [HXL.out] at hrx
          obtain ⟨gx, zx2, hgx⟩ := own_some hrx (by omega)
          cases hgx
          obtain ⟨cx, _⟩ := own_cell hrx k2 (.int .i64 t3) (by rw [List.getElem?_map, HT.out]; rfl)
          have HQ := Lib.hid (show Rnd W w4 c r J K3 T3 N3 xs cl (.slice (some ⟨gx, 0, none⟩) mm zx) (.slice (some ⟨gc, 0, none⟩) mm zc) from ⟨tw3, hm3, by rw [e3]; exact HR.out.kept, HR.out.b.trans (z3.toBelow HR.out.two)⟩)
          have HQL := Lib.hid (show T3.nodes.length = l by rw [e3]; exact HLE.out)
          have u1 : (t3 != t3) = false := by simp
          clear tw3 z3 ans3 HM hm3 hrx e3 a0 a1 a2 a3 a4 a5 a6 a7 a8
          go_wp2_with fail
          go_roundw
          case rel => exact ⟨k2 + 1, K3, T3, N3, by omega, by go_num, HQL.out, HQ.out⟩
          case measure => simp [intOf]; omega
        · obtain rfl : k2 = mm := by omega
          have HL2 := len_any HR.out.two.st
          rw [HLE.out] at HL2
          have u1 : ((l : Int) != (l : Int)) = false := by simp
          have HST := Lib.hid HR.out.two.st
          have HG := Lib.hid HR.out.two.g
          have HB := Lib.hid HR.out.b
          clear HR
          go_wp2_with fail
          refine HL2.mono ?_
          rintro e w3 ⟨rfl, hw⟩
          obtain rfl := hw.symm
          clear HL2 hw
          go_wp2_with fail
          clear u1
          go_loopw [19, 20] (fun v i wr => ∃ (i0 : Nat) (J : Nat → Nat) (zs : List Nd) (pa : Option Addr) (za : Nat), i0 ≤ l ∧ v = .slice pa i0 za ∧ i = .int .i64 i0 ∧ zs.length = i0 ∧ StoAt wr K2 W.heap.size c T2 ∧ AllR wr J K2 W.heap.size zs (.slice pa i0 za) ∧ AllOk T2.nodes zs ∧ Below W.heap.size W wr) (fun _ i _ => l - (intOf i).toNat)
          case atStart => exact ⟨0, _, [], none, 0, Nat.zero_le _, rfl, rfl, rfl, HST.out, noAll _ _ _, fun j z h => by simp at h, HB.out⟩
          case round =>
            obtain ⟨i0, J, zs, pa, za, hi0, rfl, rfl, hzl, hst, hall, hok, hbw⟩ := hrel
            have HZL := Lib.hid hzl
            have HSQ := Lib.hid hst
            have HAL := Lib.hid hall
            have HOK := Lib.hid hok
            have HBQ := Lib.hid hbw
            clear hzl hst hall hok hbw HST HB
            by_cases hlt3 : i0 < l
            · have hk0 : (0 : Int) ≤ (i0 : Int) := by omega
              have hk1 : (i0 : Int) < (l : Int) := by omega
              have HND := node_any HSQ.out HG.out (by rw [HLE.out]; omega) (i0 : Int)
              go_wp2_with fail
              refine HND.mono ?_
              rintro e w4 hnp
              obtain ⟨x, P5, C5, hin, hx, rfl, hown, hb4⟩ := hnp.resolve_right (fun h => h.1 ⟨hk0, by rw [HLE.out]; exact hk1⟩)
              rw [Int.toNat_natCast] at hx
              have HX := Lib.hid hx
              have hxo := HG.out.gn i0 x hx
              have HXO := Lib.hid hxo
              obtain ⟨J4, hal4, hi4, ht4⟩ := HAL.out.args HSQ.out.fr HBQ.out.size hb4 hown
              have HA4 := Lib.hid hal4
              have HI4 := Lib.hid hi4
              have HT4 := Lib.hid ht4
              have HB4 := Lib.hid (HBQ.out.trans (hb4.mono HBQ.out.size))
              have HS4 := Lib.hid (HSQ.out.later hb4)
              have hL := hxo.L
              clear HND hnp hin hx hown hb4 hxo hal4 hi4 ht4 HAL HBQ HSQ
              obtain ⟨q, f, m, s, Px, L, Cx, V⟩ := x
              simp only at hL HI4
              unfold ndP
              simp only
              have hb5 := below1 w4 (.cells #[.int .u8 q, .int .i64 f, .int .i64 m, .int .i64 s, .slice P5 L C5] 89)
              have x0 : (w4.alloc (.cells #[.int .u8 q, .int .i64 f, .int .i64 m, .int .i64 s, .slice P5 L C5] 89)).cell? ⟨w4.heap.size, 0, none⟩ = some (.int .u8 q) := by simp [go_sem]
              have x1 : (w4.alloc (.cells #[.int .u8 q, .int .i64 f, .int .i64 m, .int .i64 s, .slice P5 L C5] 89)).cell? ⟨w4.heap.size, 1, none⟩ = some (.int .i64 f) := by simp [go_sem]
              have x2 : (w4.alloc (.cells #[.int .u8 q, .int .i64 f, .int .i64 m, .int .i64 s, .slice P5 L C5] 89)).cell? ⟨w4.heap.size, 2, none⟩ = some (.int .i64 m) := by simp [go_sem]
              have x3 : (w4.alloc (.cells #[.int .u8 q, .int .i64 f, .int .i64 m, .int .i64 s, .slice P5 L C5] 89)).cell? ⟨w4.heap.size, 3, none⟩ = some (.int .i64 s) := by simp [go_sem]
              have x4 : (w4.alloc (.cells #[.int .u8 q, .int .i64 f, .int .i64 m, .int .i64 s, .slice P5 L C5] 89)).cell? ⟨w4.heap.size, 4, none⟩ = some (.slice P5 L C5) := by simp [go_sem]
              have HI5 := Lib.hid (HI4.out.later hb5)
              have HS5 := Lib.hid (HS4.out.later hb5)
              have HA5 := Lib.hid (HA4.out.later hb5)
              have HB5 := Lib.hid (HB4.out.trans (hb5.mono HB4.out.size))
              clear hb5 HI4 HS4 HA4 HB4
              go_upto_region 39 with (fail)
              generalize w4.alloc (.cells #[.int .u8 q, .int .i64 f, .int .i64 m, .int .i64 s, .slice P5 L C5] 89) = w5 at *
              generalize w4.heap.size = b21 at *
              go_wp2_with fail
              go_loop [23] (fun i => ∃ k2 : Nat, k2 ≤ L ∧ i = .int .i64 k2) (fun i => L - (intOf i).toNat)
              case atStart => exact ⟨0, Nat.zero_le _, rfl⟩
              case round =>
                obtain ⟨k2, hk2, rfl⟩ := hrel
                by_cases hlt4 : k2 < L
                · obtain ⟨bp, op, rfl, hap⟩ := HI5.out (by omega)
                  have ck := hap k2 hlt4
                  have hvk := HXO.out.V k2 hlt4
                  simp only at hvk
                  have hj0 : (0 : Int) ≤ (k2 : Int) := by omega
                  have hj1 : (k2 : Int) < (L : Int) := by omega
                  clear hap
                  generalize V k2 = v at *
                  have u1 : decide ((i0 : Int) ≤ v) = false := by rw [decide_eq_false_iff_not]; omega
                  have u2 : decide (v < 0) = false := by rw [decide_eq_false_iff_not]; omega
                  go_wp2_with fail
                  go_round
                  case rel => exact ⟨k2 + 1, by omega, by go_num⟩
                  case measure => simp [intOf]; omega
                · obtain rfl : k2 = L := by omega
                  go_wp2_with fail
                  go_loopw [24] (fun i wr => ∃ k3 : Nat, k3 ≤ i0 ∧ i = .int .i64 k3 ∧ Below w5.heap.size w5 wr) (fun i _ => i0 - (intOf i).toNat)
                  case atStart => exact ⟨0, Nat.zero_le _, rfl, Below.refl _ _⟩
                  case round =>
                    obtain ⟨k3, hk3, rfl, hbr⟩ := hrel
                    have HBR := Lib.hid hbr
                    have hbrs := hbr.size
                    replace x0 := cell_later hbr x0
                    replace x1 := cell_later hbr x1
                    replace x2 := cell_later hbr x2
                    replace x3 := cell_later hbr x3
                    replace x4 := cell_later hbr x4
                    clear hbr
                    by_cases hlt5 : k3 < i0
                    · obtain ⟨z, hz⟩ : ∃ z, zs[k3]? = some z := ⟨_, List.getElem?_eq_getElem (by rw [HZL.out]; exact hlt5)⟩
                      have HA6 := Lib.hid (HA5.out.later HBR.out)
                      have hra := HA6.out.ra.own
                      rw [HZL.out] at hra
                      obtain ⟨ga, hga, d0, d1, d2, d3, d4⟩ := own_ndx hra hz
                      obtain ⟨y, hy, hsy⟩ := HOK.out k3 z hz
                      have hzL : z.L ≤ 2000 := by rw [hsy.L]; exact (HG.out.gn k3 y hy).L
                      have HIZ := Lib.hid (HA6.out.ar k3 z hz).1
                      have HIX := Lib.hid (HI5.out.later HBR.out)
                      have HNO := Lib.hid (show ¬ SameN ⟨q, f, m, s, P5, k2, C5, V⟩ z from fun h => by
                        have h1 : SameN ⟨q, f, m, s, Px, k2, Cx, V⟩ y := ⟨h.q.trans hsy.q, h.f.trans hsy.f, h.n.trans hsy.n, h.s.trans hsy.s, h.L.trans hsy.L, fun i hi => (h.V i hi).trans (hsy.V i (by rw [← h.L]; exact hi))⟩
                        have := HG.out.uniq HX.out hy h1
                        omega)
                      subst hga
                      have hj0 : (0 : Int) ≤ (k3 : Int) := by omega
                      have hj1 : (k3 : Int) < (i0 : Int) := by omega
                      clear hz hra hy hsy
                      obtain ⟨zq, zf, zm, zs_, zP, zL, zC, zV⟩ := z
                      simp only at d0 d1 d2 d3 d4 hzL
                      go_wp2_with fail
                      have hD : Below wr.heap.size wr wr.drew := (Below.refl _ _).drew
                      replace x0 := cell_later hD x0
                      replace x1 := cell_later hD x1
                      replace x2 := cell_later hD x2
                      replace x3 := cell_later hD x3
                      replace x4 := cell_later hD x4
                      replace d0 := cell_later hD d0
                      replace d1 := cell_later hD d1
                      replace d2 := cell_later hD d2
                      replace d3 := cell_later hD d3
                      replace d4 := cell_later hD d4
                      have HBD := Lib.hid (HBR.out.trans (hD.mono hbrs))
                      have HSM := same_any ⟨q, f, m, s, P5, k2, C5, V⟩ ⟨zq, zf, zm, zs_, zP, zL, zC, zV⟩ wr.drew (HIX.out.later hD) (HIZ.out.later hD) (by show k2 ≤ _; omega) (by show zL ≤ _; omega)
                      rw [ndA_mk, ndA_mk] at HSM
                      clear hD HBR HIX HIZ HA6
                      refine wp_region_L [(1000, (fun _ => True : World → Prop)), (1000, (fun w => w.cell? ⟨b21, 0, none⟩ = some (.int .u8 q) ∧ w.cell? ⟨b21, 1, none⟩ = some (.int .i64 f) ∧ w.cell? ⟨b21, 2, none⟩ = some (.int .i64 m) ∧ w.cell? ⟨b21, 3, none⟩ = some (.int .i64 s) ∧ w.cell? ⟨b21, 4, none⟩ = some (.slice P5 k2 C5) : World → Prop)), (1000, (fun w => w.cell? ⟨ga, k3 * 5, none⟩ = some (.int .u8 zq) ∧ w.cell? ⟨ga, k3 * 5 + 1, none⟩ = some (.int .i64 zf) ∧ w.cell? ⟨ga, k3 * 5 + 2, none⟩ = some (.int .i64 zm) ∧ w.cell? ⟨ga, k3 * 5 + 3, none⟩ = some (.int .i64 zs_) ∧ w.cell? ⟨ga, k3 * 5 + 4, none⟩ = some (.slice zP zL zC) : World → Prop))] (by kernel_rfl) (SL.cons (fun _ => trivial) (SL.cons (fun _ => ⟨x0, x1, x2, x3, x4⟩) (SL.cons (fun _ => ⟨d0, d1, d2, d3, d4⟩) SL.nil))) (fun hHeld => ?_)
                      generalize wr.drew = w6 at *
                      refine wpAnyL_take 1 _ _ (i := 0) (oi := { dst := some 206, op := Op.load 89 (Operand.tmp 21), type := 89, pos := "law.go:188", after := #[], guard := none }) (v := ?_) rfl (by kernel_rfl) (by kernel_rfl) (by kernel_rfl) (fun _ _ _ h => h) rfl (by kernel_rfl) (by kernel_rfl) (by kernel_rfl) (Or.inl ⟨by rfl, ?_⟩) hHeld (fun hHeld => ?_)
                      rotate_left
                      · intro w hSw
                        (try dsimp only at hSw)
                        obtain ⟨g0, g1, g2, g3, g4⟩ := hSw
                        go_simp
                        try with_reducible rfl
                      try simp only [Act.put, List.setIfInBounds_toArray, List.set_cons_zero, List.set_cons_succ]
                      refine wpAnyL_take 0 _ _ (i := 1) (oi := { dst := some 207, op := Op.move (Operand.tmp 19), type := 83, pos := "law.go:188", after := #[], guard := none }) (v := ?_) rfl (by kernel_rfl) (by kernel_rfl) (by kernel_rfl) (fun _ _ _ h => h) rfl (by kernel_rfl) (by kernel_rfl) (by kernel_rfl) (Or.inl ⟨by rfl, ?_⟩) hHeld (fun hHeld => ?_)
                      rotate_left
                      · intro w hSw
                        (try dsimp only at hSw)
                        go_simp
                        try with_reducible rfl
                      try simp only [Act.put, List.setIfInBounds_toArray, List.set_cons_zero, List.set_cons_succ]
                      refine wpAnyL_take 0 _ _ (i := 2) (oi := { dst := some 208, op := Op.move (Operand.tmp 24), type := 3, pos := "law.go:188", after := #[], guard := none }) (v := ?_) rfl (by kernel_rfl) (by kernel_rfl) (by kernel_rfl) (fun _ _ _ h => h) rfl (by kernel_rfl) (by kernel_rfl) (by kernel_rfl) (Or.inl ⟨by rfl, ?_⟩) hHeld (fun hHeld => ?_)
                      rotate_left
                      · intro w hSw
                        (try dsimp only at hSw)
                        go_simp
                        try with_reducible rfl
                      try simp only [Act.put, List.setIfInBounds_toArray, List.set_cons_zero, List.set_cons_succ]
                      refine wpAnyL_take 0 _ _ (i := 3) (oi := { dst := some 209, op := Op.indexAddr 83 (Operand.tmp 207) (Operand.tmp 208), type := 0, pos := "law.go:188", after := #[{ on := 1, ground := Ground.data }, { on := 2, ground := Ground.data }], guard := none }) (v := ?_) rfl (by kernel_rfl) (by kernel_rfl) (by kernel_rfl) (fun _ _ _ h => h) rfl (by kernel_rfl) (by kernel_rfl) (by kernel_rfl) (Or.inl ⟨by rfl, ?_⟩) hHeld (fun hHeld => ?_)
                      rotate_left
                      · intro w hSw
                        (try dsimp only at hSw)
                        go_simp
                        try with_reducible rfl
                      try simp only [Act.put, List.setIfInBounds_toArray, List.set_cons_zero, List.set_cons_succ]
                      refine wpAnyL_take 2 _ _ (i := 4) (oi := { dst := some 210, op := Op.load 89 (Operand.tmp 209), type := 89, pos := "law.go:188", after := #[{ on := 3, ground := Ground.data }], guard := none }) (v := ?_) rfl (by kernel_rfl) (by kernel_rfl) (by kernel_rfl) (fun _ _ _ h => h) rfl (by kernel_rfl) (by kernel_rfl) (by kernel_rfl) (Or.inl ⟨by rfl, ?_⟩) hHeld (fun hHeld => ?_)
                      rotate_left
                      · intro w hSw
                        (try dsimp only at hSw)
                        obtain ⟨g0, g1, g2, g3, g4⟩ := hSw
                        go_simp
                        try with_reducible rfl
                      try simp only [Act.put, List.setIfInBounds_toArray, List.set_cons_zero, List.set_cons_succ]
                      refine wpAnyL_ready (rs := [5]) (by kernel_rfl) (by simp) ?_
                      refine AllReadyL.cons (o := { dst := some 211, op := Op.call { callee := Callee.value (Operand.func 41), args := #[Operand.tmp 206, Operand.tmp 210], argTypes := #[89, 89] }, type := 4, pos := "law.go:188", after := #[{ on := 0, ground := Ground.data }, { on := 4, ground := Ground.data }], guard := none }) rfl (fun KK hK => ?_) AllReadyL.nil
                      go_simp
                      go_at_call 41
                      refine HSM.mono ?_
                      rintro e w7 ⟨bb, rfl, hb7, hbb⟩
                      have hbf : bb = false := by
                        cases bb
                        · rfl
                        · exact absurd (hbb.1 rfl) HNO.out
                      subst hbf
                      have HB7 := Lib.hid (HBD.out.trans (hb7.mono HBD.out.size))
                      replace x0 := cell_later hb7 x0
                      replace x1 := cell_later hb7 x1
                      replace x2 := cell_later hb7 x2
                      replace x3 := cell_later hb7 x3
                      replace x4 := cell_later hb7 x4
                      replace d0 := cell_later hb7 d0
                      replace d1 := cell_later hb7 d1
                      replace d2 := cell_later hb7 d2
                      replace d3 := cell_later hb7 d3
                      replace d4 := cell_later hb7 d4
                      clear hb7 hbb HSM HBD
                      refine hK.out _ _ (SL.cons (fun _ => trivial) (SL.cons (fun _ => ⟨x0, x1, x2, x3, x4⟩) (SL.cons (fun _ => ⟨d0, d1, d2, d3, d4⟩) SL.nil))) (fun hHeld => ?_)
                      clear hK KK
                      try simp only [Act.put, List.setIfInBounds_toArray, List.set_cons_zero, List.set_cons_succ]
                      refine wpAnyL_done (by kernel_rfl) ?_ _
                      clear hHeld
                      go_wp2_with fail
                      go_roundw
                      case rel => exact ⟨k3 + 1, by omega, by go_num, HB7.out⟩
                      case measure => simp [intOf]; omega
                    · obtain rfl : k3 = i0 := by omega
                      have hb8 := below1 wr (.cells #[.int .u8 q, .int .i64 f, .int .i64 m, .int .i64 s, .slice P5 k2 C5] 89)
                      have HB6 := Lib.hid (HB5.out.trans (HBR.out.mono HB5.out.size))
                      have HA8 := Lib.hid ((HA5.out.later HBR.out).later hb8)
                      have HS8 := Lib.hid ((HS5.out.later HBR.out).later hb8)
                      have HI8 := Lib.hid ((HI5.out.later HBR.out).later hb8)
                      have HB8 := Lib.hid (HB6.out.trans (hb8.mono HB6.out.size))
                      have n0 : (wr.alloc (.cells #[.int .u8 q, .int .i64 f, .int .i64 m, .int .i64 s, .slice P5 k2 C5] 89)).cell? ⟨wr.heap.size, 0, none⟩ = some (.int .u8 q) := by simp [go_sem]
                      have n1 : (wr.alloc (.cells #[.int .u8 q, .int .i64 f, .int .i64 m, .int .i64 s, .slice P5 k2 C5] 89)).cell? ⟨wr.heap.size, 1, none⟩ = some (.int .i64 f) := by simp [go_sem]
                      have n2 : (wr.alloc (.cells #[.int .u8 q, .int .i64 f, .int .i64 m, .int .i64 s, .slice P5 k2 C5] 89)).cell? ⟨wr.heap.size, 2, none⟩ = some (.int .i64 m) := by simp [go_sem]
                      have n3 : (wr.alloc (.cells #[.int .u8 q, .int .i64 f, .int .i64 m, .int .i64 s, .slice P5 k2 C5] 89)).cell? ⟨wr.heap.size, 3, none⟩ = some (.int .i64 s) := by simp [go_sem]
                      have n4 : (wr.alloc (.cells #[.int .u8 q, .int .i64 f, .int .i64 m, .int .i64 s, .slice P5 k2 C5] 89)).cell? ⟨wr.heap.size, 4, none⟩ = some (.slice P5 k2 C5) := by simp [go_sem]
                      have HO8 := Lib.hid (show (wr.alloc (.cells #[.int .u8 q, .int .i64 f, .int .i64 m, .int .i64 s, .slice P5 k2 C5] 89)).ownsRow 0 89 5 (.slice pa k3 za) k3 (flatN zs) by have := HA8.out.ra.own; rw [HZL.out] at this; exact this)
                      clear hb8 HB6 HBR HA5 HS5 HI5
                      go_wp2_with (at_builtin; refine wpList_append_own_at _ rfl _ _ 83 rfl 0 89 i89 (.agg #[.int .u8 0, .int .i64 0, .int .i64 0, .int .i64 0, .slice none 0 0]) 5 56 Try.underlying83 hi89 hz890 hz891 hz892 rfl (by omega) _ k3 (flatN zs) rfl HO8.out ⟨wr.heap.size, 0, none⟩ 1 1 (ndV ⟨q, f, m, s, P5, k2, C5, V⟩) rfl rfl ?qc1 ?qc2 ?qc3 ?qc4 ?qc5 ?_)
                      case qc1 =>
                        intro jj u hjj
                        rw [Lib.add_plain]
                        match jj, hjj with
                        | 0, hjj => cases hjj; exact n0
                        | 1, hjj => cases hjj; exact n1
                        | 2, hjj => cases hjj; exact n2
                        | 3, hjj => cases hjj; exact n3
                        | 4, hjj => cases hjj; exact n4
                      case qc2 => intro u hu; simp [ndV] at hu; rcases hu with rfl | rfl | rfl | rfl | rfl <;> rfl
                      case qc3 => have hml : maxLen = 9223372036854775807 := rfl; omega
                      case qc4 => omega
                      case qc5 => exact Nat.zero_le _
                      intro v9 w9 hown hgrow hnil_ hloc
                      obtain ⟨p9, c9, hv⟩ := own_shape hown
                      subst hv
                      obtain ⟨J9, ha9, ho9⟩ := HA8.out.push (x := ⟨q, f, m, s, P5, k2, C5, V⟩) HS8.out.fr HB8.out.size HI8.out HT4.out (by rw [HZL.out]; exact hown) hgrow (by simpa using hloc)
                      have HA9 := Lib.hid ha9
                      have HS9 := Lib.hid (HS8.out.only ho9 (fun kq h1 _ h2 => h1 (HA8.out.sep kq (by rw [h2]; decide))))
                      have HB9 := Lib.hid (HB8.out.grown hgrow HB8.out.size (fun g e => by
                        rcases Nat.lt_or_ge g W.heap.size with h1 | h1
                        · have h2 := HA8.out.ra.tg g e
                          rw [HA8.out.lo g h1] at h2
                          exact absurd h2 (by decide)
                        · exact h1))
                      have HOK9 := Lib.hid (HOK.out.snoc (x := ⟨q, f, m, s, Px, k2, Cx, V⟩) (z := ⟨q, f, m, s, P5, k2, C5, V⟩) (by rw [HZL.out]; exact HX.out) ⟨rfl, rfl, rfl, rfl, rfl, fun _ _ => rfl⟩)
                      clear ha9 ho9 hown hgrow hnil_ hloc n0 n1 n2 n3 n4 x0 x1 x2 x3 x4 HA8 HS8 HI8 HB8 HO8
                      go_wp2_with fail
                      go_roundw
                      case rel => exact ⟨k3 + 1, J9, zs ++ [⟨q, f, m, s, P5, k2, C5, V⟩], p9, c9, by omega, rfl, by go_num, by rw [List.length_append, HZL.out]; rfl, HS9.out, HA9.out, HOK9.out, HB9.out⟩
                      case measure => simp [intOf]; omega
            · obtain rfl : i0 = l := by omega
              have HB9 := Lib.hid HBQ.out
              go_wp2_with fail
              refine (knownS_any _).mono ?_
              rintro e w6 ⟨rfl, hb⟩
              have HB6 := Lib.hid (HB9.out.trans (hb.mono HB9.out.size))
              clear hb
              go_wp2_with fail
              go_ret
              exact ⟨rfl, HB6.out⟩
end Go.Proofs.Ytkjmmdffelhkiaa
