/- The document's text of a tree: write, Text. -/
import Derived.Test.YtlifankiljbdjaaDoorU15
import Derived.Test.YtlifankiljbdjaaDoorJU1
import Derived.Test.YtlifankiljbdjaaDoorJT1
import Derived.Deep.RegionHeld3
namespace Go.Proofs.YtlifankiljbdjaaDoor
open Go Go.RowKit

/-- what is written behind a row of bytes, and whether it is one. -/
def WroteE (B : Nat) (W : World) (v : Value) (N : Nat) (xs : List Value) (ok : Bool) (D : List UInt8) (e : Ending) (w' : World) : Prop :=
  ∃ v', e = .returned (.tuple #[v', .bool ok]) ∧ (ok = true → RowS B W v N xs w' v' D) ∧ Only (fun k => v.ownBlock = some k) W w'
def Write3 (n : Nat) : Prop := ∀ (x : Fo), x.size ≤ n → szB 65536 x → ∀ (l : Bool) (k : Int) (s : ByteArray) (a : Int) (q : Option Addr) (c : Nat) (W : World) (F : Nat → Prop) (B N : Nat) (v : Value) (xs : List Value), s.size ≤ 65536 → FoIn W F x q → (∀ b, F b → b < B) → x.len ≤ c → x.len ≤ 281474976710656 →
  W.ownsRow B 5 1 v N xs → B ≤ W.heap.size → N + (txtT l k s x).length ≤ 1099511627776 →
  Calls Tryd.prog 53 #[v, trV l k s a q x.len c] W (WroteE B W v N xs (okT l k s x) (txtT l k s x))
set_option maxRecDepth 100000 in
set_option maxHeartbeats 3200000 in
theorem write53_leaf (k : Int) (s : ByteArray) (a : Int) (q : Option Addr) (n c : Nat) (W : World) (B N : Nat) (v : Value) (xs : List Value) (hs : s.size ≤ 65536) (hn : n ≤ 281474976710656) (ho : W.ownsRow B 5 1 v N xs) (hB : B ≤ W.heap.size) (hN : N ≤ 1099511627776) :
    Calls Tryd.prog 53 #[v, trV false k s a q n c] W (WroteE B W v N xs (decide (n = 0) && readB k s) (rendL k.toNat s.data.toList)) := by
  obtain ⟨i5, hi5, hz0, hz1, hz2⟩ := info5
  obtain ⟨O, hO⟩ : ∃ O, O = decide (n = 0) := ⟨_, rfl⟩
  have e0 : ((n : Int) == 0) = O := by rw [hO]; by_cases h : n = 0 <;> simp [h]
  rw [← hO]
  clear hO
  have hp := token72 k s a (W.alloc (.cells #[.bool false, .int .u8 k, .string s, .int .i64 a, .slice q n c] 41)) hs
  have HP := Lib.hid hp
  have HO := Lib.hid ho
  have HBB := Lib.hid (And.intro hB hN)
  have n1 : (n : Int) ≤ 281474976710656 := by omega
  have hc4 : ∀ w', Below (W.alloc (.cells #[.bool false, .int .u8 k, .string s, .int .i64 a, .slice q n c] 41)).heap.size (W.alloc (.cells #[.bool false, .int .u8 k, .string s, .int .i64 a, .slice q n c] 41)) w' → w'.cell? ⟨W.heap.size, 4, none⟩ = some (.slice q n c) := fun w' h => cell_later h (by simp [go_sem])
  have HC4 := Lib.hid hc4
  have HNE := Lib.hid (show v.ownBlock ≠ some W.heap.size from fun e => by have := (own_lt ho e).2; omega)
  have hw1 := below1 W (.cells #[.bool false, .int .u8 k, .string s, .int .i64 a, .slice q n c] 41)
  have HW1 := Lib.hid hw1
  clear hp ho hB hN hc4 hw1
  unfold trV
  go_enter Tryd.func53, Tryd.ntmps53
  go_wp2_with fail
  refine HP.out.mono ?_
  rintro e w1 ⟨X, b, rfl, hb, hX, hXs, hbw⟩
  have HX := Lib.hid (And.intro hb hX)
  have HB1 := Lib.hid (HW1.out.trans (hbw.mono HW1.out.size))
  have HC := Lib.hid (HC4.out w1.drew (hbw.trans ((below_drew w1).mono hbw.size)))
  clear hb hX hbw HP HW1 HC4
  go_wp2_with fail
  have HB1D := Lib.hid (show Below W.heap.size W w1.drew from HB1.out.trans ((below_drew w1).mono HB1.out.size))
  have HO2 := Lib.hid (own_later HO.out HB1D.out)
  cases b with
  | true =>
    refine wp_region_L [(1000, (fun _ => True : World → Prop)), (11, ((fun w => w.cell? ⟨W.heap.size, 4, none⟩ = some (.slice q n c)) : World → Prop))] (by kernel_rfl) (SL.cons (fun _ => trivial) (SL.cons (fun _ => HC.out) SL.nil)) (fun hHeld => ?_)
    refine wpAnyL_take 0 _ _ (i := 0) (oi := { dst := some 20, op := Op.move (Operand.tmp 0), type := 22, pos := "ref.go:177", after := #[], guard := none }) (v := ?_) rfl (by kernel_rfl) (by kernel_rfl) (by kernel_rfl) (fun _ _ _ h => h) rfl (by kernel_rfl) (by kernel_rfl) (by kernel_rfl) (Or.inl ⟨by rfl, ?_⟩) hHeld (fun hHeld => ?_)
    rotate_left
    · intro w hSw
      (try dsimp only at hSw)
      go_simp
      try with_reducible rfl
    try simp only [Act.put, List.setIfInBounds_toArray, List.set_cons_zero, List.set_cons_succ]
    refine wpAnyL_take 0 _ _ (i := 1) (oi := { dst := some 21, op := Op.move (Operand.tmp 6), type := 9, pos := "ref.go:177", after := #[], guard := none }) (v := ?_) rfl (by kernel_rfl) (by kernel_rfl) (by kernel_rfl) (fun _ _ _ h => h) rfl (by kernel_rfl) (by kernel_rfl) (by kernel_rfl) (Or.inl ⟨by rfl, ?_⟩) hHeld (fun hHeld => ?_)
    rotate_left
    · intro w hSw
      (try dsimp only at hSw)
      go_simp
      try with_reducible rfl
    try simp only [Act.put, List.setIfInBounds_toArray, List.set_cons_zero, List.set_cons_succ]
    refine wpAnyL_take 0 _ _ (i := 3) (oi := { dst := some 23, op := Op.move (Operand.tmp 7), type := 4, pos := "ref.go:177", after := #[], guard := none }) (v := ?_) rfl (by kernel_rfl) (by kernel_rfl) (by kernel_rfl) (fun _ _ _ h => h) rfl (by kernel_rfl) (by kernel_rfl) (by kernel_rfl) (Or.inl ⟨by rfl, ?_⟩) hHeld (fun hHeld => ?_)
    rotate_left
    · intro w hSw
      (try dsimp only at hSw)
      go_simp
      try with_reducible rfl
    try simp only [Act.put, List.setIfInBounds_toArray, List.set_cons_zero, List.set_cons_succ]
    refine wpAnyL_ready (rs := [2]) (by kernel_rfl) (by simp) ?_
    refine AllReadyL.cons (o := { dst := some 22, op := Op.call { callee := Callee.builtin Builtin.append, args := #[Operand.tmp 20, Operand.tmp 21], argTypes := #[22, 9] }, type := 22, pos := "ref.go:177", after := #[{ on := 0, ground := Ground.data }, { on := 1, ground := Ground.data }], guard := none }) rfl (fun K hK => ?_) AllReadyL.nil
    refine wp_append_str _ _ 22 9 rfl B i5 Tryd.underlying22 Tryd.underlying9 hi5 hz0 hz1 hz2 v N xs (by rfl) HO2.out X (by rfl) (by have := HBB.out.2; omega) (Nat.le_trans HBB.out.1 HB1D.out.size) ?_
    intro v' w2 hR
    have hs3 := hR.cell HC.out HNE.out
    have HR := Lib.hid hR
    clear hR
    refine hK.out _ _ (SL.cons (fun _ => trivial) (SL.cons (fun _ => hs3) SL.nil)) (fun hHeld => ?_)
    clear hK K
    try simp only [Act.put, List.setIfInBounds_toArray, List.set_cons_zero, List.set_cons_succ]
    refine wpAnyL_take 0 _ _ (i := 4) (oi := { dst := some 24, op := Op.move (Operand.tmp 23), type := 4, pos := "ref.go:177", after := #[{ on := 3, ground := Ground.data }, { on := 2, ground := Ground.chain }], guard := none }) (v := ?_) rfl (by kernel_rfl) (by kernel_rfl) (by kernel_rfl) (fun _ _ _ h => h) rfl (by kernel_rfl) (by kernel_rfl) (by kernel_rfl) (Or.inl ⟨by rfl, ?_⟩) hHeld (fun hHeld => ?_)
    rotate_left
    · intro w hSw
      (try dsimp only at hSw)
      go_simp
      try with_reducible rfl
    try simp only [Act.put, List.setIfInBounds_toArray, List.set_cons_zero, List.set_cons_succ]
    refine wpAnyL_take 0 _ _ (i := 5) (oi := { dst := some 25, op := Op.fieldAddr 41 (Operand.tmp 3) 2, type := 0, pos := "ref.go:177", after := #[{ on := 4, ground := Ground.guard }], guard := some (4, true) }) (v := ?_) rfl (by kernel_rfl) (by kernel_rfl) (by kernel_rfl) (fun _ _ _ h => h) rfl (by kernel_rfl) (by kernel_rfl) (by kernel_rfl) (Or.inl ⟨by rfl, ?_⟩) hHeld (fun hHeld => ?_)
    rotate_left
    · intro w hSw
      (try dsimp only at hSw)
      go_simp
      try with_reducible rfl
    try simp only [Act.put, List.setIfInBounds_toArray, List.set_cons_zero, List.set_cons_succ]
    refine wpAnyL_take 1 _ _ (i := 6) (oi := { dst := some 26, op := Op.load 39 (Operand.tmp 25), type := 39, pos := "ref.go:177", after := #[{ on := 5, ground := Ground.data }, { on := 4, ground := Ground.guard }], guard := some (4, true) }) (v := ?_) rfl (by kernel_rfl) (by kernel_rfl) (by kernel_rfl) (fun _ _ _ h => h) rfl (by kernel_rfl) (by kernel_rfl) (by kernel_rfl) (Or.inl ⟨by rfl, ?_⟩) hHeld (fun hHeld => ?_)
    rotate_left
    · intro w hSw
      (try dsimp only at hSw)
      go_simp
      try with_reducible rfl
    try simp only [Act.put, List.setIfInBounds_toArray, List.set_cons_zero, List.set_cons_succ]
    refine wpAnyL_take 0 _ _ (i := 7) (oi := { dst := some 27, op := Op.call { callee := Callee.builtin Builtin.len, args := #[Operand.tmp 26], argTypes := #[39] }, type := 3, pos := "ref.go:177", after := #[{ on := 6, ground := Ground.data }, { on := 4, ground := Ground.guard }], guard := some (4, true) }) (v := ?_) rfl (by kernel_rfl) (by kernel_rfl) (by kernel_rfl) (fun _ _ _ h => h) rfl (by kernel_rfl) (by kernel_rfl) (by kernel_rfl) (Or.inl ⟨by rfl, ?_⟩) hHeld (fun hHeld => ?_)
    rotate_left
    · intro w hSw
      (try dsimp only at hSw)
      go_simp
      try with_reducible rfl
    try simp only [Act.put, List.setIfInBounds_toArray, List.set_cons_zero, List.set_cons_succ]
    refine wpAnyL_take 0 _ _ (i := 8) (oi := { dst := some 28, op := Op.binOp BinOp.eql 3 (Operand.tmp 27) (Operand.const (Value.int IntKind.i64 0)) 3, type := 4, pos := "ref.go:177", after := #[{ on := 7, ground := Ground.data }, { on := 4, ground := Ground.guard }, { on := 10, ground := Ground.gcOnly Departure.lateStores }], guard := some (4, true) }) (v := ?_) rfl (by kernel_rfl) (by kernel_rfl) (by kernel_rfl) (fun _ _ _ h => h) rfl (by kernel_rfl) (by kernel_rfl) (by kernel_rfl) (Or.inl ⟨by rfl, ?_⟩) hHeld (fun hHeld => ?_)
    rotate_left
    · intro w hSw
      (try dsimp only at hSw)
      go_simp
      try with_reducible rfl
    try simp only [Act.put, List.setIfInBounds_toArray, List.set_cons_zero, List.set_cons_succ]
    refine wpAnyL_take 0 _ _ (i := 9) (oi := { dst := some 29, op := Op.pick (Operand.tmp 24) (Operand.tmp 28) (Operand.const (Value.bool false)), type := 4, pos := "ref.go:177", after := #[{ on := 4, ground := Ground.data }, { on := 8, ground := Ground.data }, { on := 10, ground := Ground.gcOnly Departure.lateStores }], guard := none }) (v := ?_) rfl (by kernel_rfl) (by kernel_rfl) (by kernel_rfl) (fun _ _ _ h => h) rfl (by kernel_rfl) (by kernel_rfl) (by kernel_rfl) (Or.inl ⟨by rfl, ?_⟩) hHeld (fun hHeld => ?_)
    rotate_left
    · intro w hSw
      (try dsimp only at hSw)
      go_simp
      try with_reducible rfl
    try simp only [Act.put, List.setIfInBounds_toArray, List.set_cons_zero, List.set_cons_succ]
    refine wpAnyL_take 0 _ _ (i := 10) (oi := { dst := some 4, op := Op.assign (Operand.tmp 22), type := 22, pos := "ref.go:177", after := #[{ on := 2, ground := Ground.data }, { on := 4, ground := Ground.chain }, { on := 0, ground := Ground.phase }, { on := 1, ground := Ground.phase }, { on := 2, ground := Ground.phase }, { on := 3, ground := Ground.textOnly Departure.lateStores }, { on := 4, ground := Ground.textOnly Departure.lateStores }, { on := 5, ground := Ground.textOnly Departure.lateStores }, { on := 6, ground := Ground.textOnly Departure.lateStores }, { on := 7, ground := Ground.textOnly Departure.lateStoresUnsure }, { on := 8, ground := Ground.textOnly Departure.lateStores }, { on := 9, ground := Ground.textOnly Departure.lateStores }], guard := none }) (v := ?_) rfl (by kernel_rfl) (by kernel_rfl) (by kernel_rfl) (fun _ _ _ h => h) rfl (by kernel_rfl) (by kernel_rfl) (by kernel_rfl) (Or.inl ⟨by rfl, ?_⟩) hHeld (fun hHeld => ?_)
    rotate_left
    · intro w hSw
      (try dsimp only at hSw)
      go_simp
      try with_reducible rfl
    try simp only [Act.put, List.setIfInBounds_toArray, List.set_cons_zero, List.set_cons_succ]
    refine wpAnyL_ready (rs := [11]) (by kernel_rfl) (by simp) ?_
    refine AllReadyL.cons (o := { dst := some 5, op := Op.assign (Operand.tmp 29), type := 4, pos := "ref.go:177", after := #[{ on := 9, ground := Ground.data }, { on := 10, ground := Ground.chain }, { on := 0, ground := Ground.phase }, { on := 1, ground := Ground.phase }, { on := 2, ground := Ground.phase }, { on := 3, ground := Ground.phase }, { on := 4, ground := Ground.phase }, { on := 5, ground := Ground.phase }, { on := 6, ground := Ground.phase }, { on := 7, ground := Ground.phase }, { on := 8, ground := Ground.phase }, { on := 9, ground := Ground.phase }, { on := 10, ground := Ground.phase }], guard := none }) rfl (fun K hK => ?_) AllReadyL.nil
    go_simp
    refine hK.out _ _ (SL.cons (fun _ => trivial) (SL.cons (fun h => absurd h (by decide +kernel)) SL.nil)) (fun hHeld => ?_)
    clear hK K
    try simp only [Act.put, List.setIfInBounds_toArray, List.set_cons_zero, List.set_cons_succ]
    refine wpAnyL_done (by kernel_rfl) ?_ _
    go_wp2_with fail
    go_ret2
    refine ⟨v', (by rw [← HX.out.1, Bool.and_true] <;> rfl), fun _ => ?_, (HR.out.from_ HB1D.out).2.1⟩
    have h1 := HR.out.from_ HB1D.out
    rw [HX.out.2 (by simp)] at h1
    exact h1
  | false =>
    refine wp_region_L [(1000, (fun _ => True : World → Prop)), (11, ((fun w => w.cell? ⟨W.heap.size, 4, none⟩ = some (.slice q n c)) : World → Prop))] (by kernel_rfl) (SL.cons (fun _ => trivial) (SL.cons (fun _ => HC.out) SL.nil)) (fun hHeld => ?_)
    refine wpAnyL_take 0 _ _ (i := 0) (oi := { dst := some 20, op := Op.move (Operand.tmp 0), type := 22, pos := "ref.go:177", after := #[], guard := none }) (v := ?_) rfl (by kernel_rfl) (by kernel_rfl) (by kernel_rfl) (fun _ _ _ h => h) rfl (by kernel_rfl) (by kernel_rfl) (by kernel_rfl) (Or.inl ⟨by rfl, ?_⟩) hHeld (fun hHeld => ?_)
    rotate_left
    · intro w hSw
      (try dsimp only at hSw)
      go_simp
      try with_reducible rfl
    try simp only [Act.put, List.setIfInBounds_toArray, List.set_cons_zero, List.set_cons_succ]
    refine wpAnyL_take 0 _ _ (i := 1) (oi := { dst := some 21, op := Op.move (Operand.tmp 6), type := 9, pos := "ref.go:177", after := #[], guard := none }) (v := ?_) rfl (by kernel_rfl) (by kernel_rfl) (by kernel_rfl) (fun _ _ _ h => h) rfl (by kernel_rfl) (by kernel_rfl) (by kernel_rfl) (Or.inl ⟨by rfl, ?_⟩) hHeld (fun hHeld => ?_)
    rotate_left
    · intro w hSw
      (try dsimp only at hSw)
      go_simp
      try with_reducible rfl
    try simp only [Act.put, List.setIfInBounds_toArray, List.set_cons_zero, List.set_cons_succ]
    refine wpAnyL_take 0 _ _ (i := 3) (oi := { dst := some 23, op := Op.move (Operand.tmp 7), type := 4, pos := "ref.go:177", after := #[], guard := none }) (v := ?_) rfl (by kernel_rfl) (by kernel_rfl) (by kernel_rfl) (fun _ _ _ h => h) rfl (by kernel_rfl) (by kernel_rfl) (by kernel_rfl) (Or.inl ⟨by rfl, ?_⟩) hHeld (fun hHeld => ?_)
    rotate_left
    · intro w hSw
      (try dsimp only at hSw)
      go_simp
      try with_reducible rfl
    try simp only [Act.put, List.setIfInBounds_toArray, List.set_cons_zero, List.set_cons_succ]
    refine wpAnyL_ready (rs := [2]) (by kernel_rfl) (by simp) ?_
    refine AllReadyL.cons (o := { dst := some 22, op := Op.call { callee := Callee.builtin Builtin.append, args := #[Operand.tmp 20, Operand.tmp 21], argTypes := #[22, 9] }, type := 22, pos := "ref.go:177", after := #[{ on := 0, ground := Ground.data }, { on := 1, ground := Ground.data }], guard := none }) rfl (fun K hK => ?_) AllReadyL.nil
    refine wp_append_str _ _ 22 9 rfl B i5 Tryd.underlying22 Tryd.underlying9 hi5 hz0 hz1 hz2 v N xs (by rfl) HO2.out X (by rfl) (by have := HBB.out.2; omega) (Nat.le_trans HBB.out.1 HB1D.out.size) ?_
    intro v' w2 hR
    have hs3 := hR.cell HC.out HNE.out
    have HR := Lib.hid hR
    clear hR
    refine hK.out _ _ (SL.cons (fun _ => trivial) (SL.cons (fun _ => hs3) SL.nil)) (fun hHeld => ?_)
    clear hK K
    try simp only [Act.put, List.setIfInBounds_toArray, List.set_cons_zero, List.set_cons_succ]
    refine wpAnyL_take 0 _ _ (i := 4) (oi := { dst := some 24, op := Op.move (Operand.tmp 23), type := 4, pos := "ref.go:177", after := #[{ on := 3, ground := Ground.data }, { on := 2, ground := Ground.chain }], guard := none }) (v := ?_) rfl (by kernel_rfl) (by kernel_rfl) (by kernel_rfl) (fun _ _ _ h => h) rfl (by kernel_rfl) (by kernel_rfl) (by kernel_rfl) (Or.inl ⟨by rfl, ?_⟩) hHeld (fun hHeld => ?_)
    rotate_left
    · intro w hSw
      (try dsimp only at hSw)
      go_simp
      try with_reducible rfl
    try simp only [Act.put, List.setIfInBounds_toArray, List.set_cons_zero, List.set_cons_succ]
    refine wpAnyL_take 0 _ _ (i := 5) (oi := { dst := some 25, op := Op.fieldAddr 41 (Operand.tmp 3) 2, type := 0, pos := "ref.go:177", after := #[{ on := 4, ground := Ground.guard }], guard := some (4, true) }) (v := undef) rfl (by kernel_rfl) (by kernel_rfl) (by kernel_rfl) (fun _ _ _ h => h) rfl (by kernel_rfl) (by kernel_rfl) (by kernel_rfl) (Or.inr ⟨by rfl, rfl⟩) hHeld (fun hHeld => ?_)
    try simp only [Act.put, List.setIfInBounds_toArray, List.set_cons_zero, List.set_cons_succ]
    refine wpAnyL_take 0 _ _ (i := 6) (oi := { dst := some 26, op := Op.load 39 (Operand.tmp 25), type := 39, pos := "ref.go:177", after := #[{ on := 5, ground := Ground.data }, { on := 4, ground := Ground.guard }], guard := some (4, true) }) (v := undef) rfl (by kernel_rfl) (by kernel_rfl) (by kernel_rfl) (fun _ _ _ h => h) rfl (by kernel_rfl) (by kernel_rfl) (by kernel_rfl) (Or.inr ⟨by rfl, rfl⟩) hHeld (fun hHeld => ?_)
    try simp only [Act.put, List.setIfInBounds_toArray, List.set_cons_zero, List.set_cons_succ]
    refine wpAnyL_take 0 _ _ (i := 7) (oi := { dst := some 27, op := Op.call { callee := Callee.builtin Builtin.len, args := #[Operand.tmp 26], argTypes := #[39] }, type := 3, pos := "ref.go:177", after := #[{ on := 6, ground := Ground.data }, { on := 4, ground := Ground.guard }], guard := some (4, true) }) (v := undef) rfl (by kernel_rfl) (by kernel_rfl) (by kernel_rfl) (fun _ _ _ h => h) rfl (by kernel_rfl) (by kernel_rfl) (by kernel_rfl) (Or.inr ⟨by rfl, rfl⟩) hHeld (fun hHeld => ?_)
    try simp only [Act.put, List.setIfInBounds_toArray, List.set_cons_zero, List.set_cons_succ]
    refine wpAnyL_take 0 _ _ (i := 8) (oi := { dst := some 28, op := Op.binOp BinOp.eql 3 (Operand.tmp 27) (Operand.const (Value.int IntKind.i64 0)) 3, type := 4, pos := "ref.go:177", after := #[{ on := 7, ground := Ground.data }, { on := 4, ground := Ground.guard }, { on := 10, ground := Ground.gcOnly Departure.lateStores }], guard := some (4, true) }) (v := undef) rfl (by kernel_rfl) (by kernel_rfl) (by kernel_rfl) (fun _ _ _ h => h) rfl (by kernel_rfl) (by kernel_rfl) (by kernel_rfl) (Or.inr ⟨by rfl, rfl⟩) hHeld (fun hHeld => ?_)
    try simp only [Act.put, List.setIfInBounds_toArray, List.set_cons_zero, List.set_cons_succ]
    refine wpAnyL_take 0 _ _ (i := 9) (oi := { dst := some 29, op := Op.pick (Operand.tmp 24) (Operand.tmp 28) (Operand.const (Value.bool false)), type := 4, pos := "ref.go:177", after := #[{ on := 4, ground := Ground.data }, { on := 8, ground := Ground.data }, { on := 10, ground := Ground.gcOnly Departure.lateStores }], guard := none }) (v := ?_) rfl (by kernel_rfl) (by kernel_rfl) (by kernel_rfl) (fun _ _ _ h => h) rfl (by kernel_rfl) (by kernel_rfl) (by kernel_rfl) (Or.inl ⟨by rfl, ?_⟩) hHeld (fun hHeld => ?_)
    rotate_left
    · intro w hSw
      (try dsimp only at hSw)
      go_simp
      try with_reducible rfl
    try simp only [Act.put, List.setIfInBounds_toArray, List.set_cons_zero, List.set_cons_succ]
    refine wpAnyL_take 0 _ _ (i := 10) (oi := { dst := some 4, op := Op.assign (Operand.tmp 22), type := 22, pos := "ref.go:177", after := #[{ on := 2, ground := Ground.data }, { on := 4, ground := Ground.chain }, { on := 0, ground := Ground.phase }, { on := 1, ground := Ground.phase }, { on := 2, ground := Ground.phase }, { on := 3, ground := Ground.textOnly Departure.lateStores }, { on := 4, ground := Ground.textOnly Departure.lateStores }, { on := 5, ground := Ground.textOnly Departure.lateStores }, { on := 6, ground := Ground.textOnly Departure.lateStores }, { on := 7, ground := Ground.textOnly Departure.lateStoresUnsure }, { on := 8, ground := Ground.textOnly Departure.lateStores }, { on := 9, ground := Ground.textOnly Departure.lateStores }], guard := none }) (v := ?_) rfl (by kernel_rfl) (by kernel_rfl) (by kernel_rfl) (fun _ _ _ h => h) rfl (by kernel_rfl) (by kernel_rfl) (by kernel_rfl) (Or.inl ⟨by rfl, ?_⟩) hHeld (fun hHeld => ?_)
    rotate_left
    · intro w hSw
      (try dsimp only at hSw)
      go_simp
      try with_reducible rfl
    try simp only [Act.put, List.setIfInBounds_toArray, List.set_cons_zero, List.set_cons_succ]
    refine wpAnyL_ready (rs := [11]) (by kernel_rfl) (by simp) ?_
    refine AllReadyL.cons (o := { dst := some 5, op := Op.assign (Operand.tmp 29), type := 4, pos := "ref.go:177", after := #[{ on := 9, ground := Ground.data }, { on := 10, ground := Ground.chain }, { on := 0, ground := Ground.phase }, { on := 1, ground := Ground.phase }, { on := 2, ground := Ground.phase }, { on := 3, ground := Ground.phase }, { on := 4, ground := Ground.phase }, { on := 5, ground := Ground.phase }, { on := 6, ground := Ground.phase }, { on := 7, ground := Ground.phase }, { on := 8, ground := Ground.phase }, { on := 9, ground := Ground.phase }, { on := 10, ground := Ground.phase }], guard := none }) rfl (fun K hK => ?_) AllReadyL.nil
    go_simp
    refine hK.out _ _ (SL.cons (fun _ => trivial) (SL.cons (fun h => absurd h (by decide +kernel)) SL.nil)) (fun hHeld => ?_)
    clear hK K
    try simp only [Act.put, List.setIfInBounds_toArray, List.set_cons_zero, List.set_cons_succ]
    refine wpAnyL_done (by kernel_rfl) ?_ _
    go_wp2_with fail
    go_ret2
    exact ⟨v', (by rw [← HX.out.1, Bool.and_false] <;> rfl), (fun h => by rw [← HX.out.1, Bool.and_false] at h; cases h), (HR.out.from_ HB1D.out).2.1⟩
theorem RowS.only2 {B : Nat} {W w1 w2 : World} {v v1 : Value} {N : Nat} {xs : List Value} {D : List UInt8} (h : RowS B W v N xs w1 v1 D) (k : Only (fun j => v1.ownBlock = some j) w1 w2) : Only (fun j => v.ownBlock = some j) W w2 := h.2.1.trans2 k (fun j e => h.2.2 j e)
set_option maxRecDepth 100000 in
set_option maxHeartbeats 6400000 in
theorem write53_step (n : Nat) (ih : ∀ m, m < n → Write3 m) : Write3 n := by
  intro x hsz hzb l k s a q c W F B N v xs hs hx hF hc hn ho hB hN
  cases l with
  | false =>
    have h := write53_leaf k s a q x.len c W B N v xs hs hn ho hB (by omega)
    simpa [txtT, okT] using h
  | true =>
  obtain ⟨i5, hi5, hz0, hz1, hz2⟩ := info5
  have htt : txtT true k s x = 40 :: (txtF true x ++ [41]) := by simp [txtT]
  rw [htt] at hN ⊢
  clear htt
  have hok : okT true k s x = ((decide (k = 1) && decide (s = ⟨#[40]⟩)) && okF x) := by simp [okT]
  rw [hok]
  clear hok
  obtain ⟨T, hT⟩ : ∃ T, T = 40 :: txtF true x := ⟨_, rfl⟩
  have hT2 : 40 :: (txtF true x ++ [41]) = T ++ [41] := by rw [hT]; rfl
  rw [hT2] at hN ⊢
  obtain ⟨L, hL⟩ : ∃ L, L = T.length := ⟨_, rfl⟩
  have hNL : N + L + 1 ≤ 1099511627776 := by simp only [List.length_append, List.length_cons, List.length_nil] at hN; omega
  obtain ⟨M, hM⟩ : ∃ M, M = x.len := ⟨_, rfl⟩
  rw [← hM] at hc hn ⊢
  obtain ⟨OK, hOK⟩ : ∃ OK, OK = okF x := ⟨_, rfl⟩
  rw [← hOK]
  have i1 : (M : Int) ≤ 281474976710656 := by omega
  have HX := Lib.hid (And.intro hx hF)
  have HI := Lib.hid (show (M = x.len ∧ x.size ≤ n ∧ T = 40 :: txtF true x ∧ L = T.length ∧ szB 65536 x) from ⟨hM, hsz, hT, hL, hzb⟩)
  have HOK := Lib.hid hOK
  have HO := Lib.hid ho
  have IH := Lib.hid ih
  have HNL := Lib.hid hNL
  have HBB := Lib.hid hB
  clear hx hF hM hsz hT hL hzb ho ih hT2 hN hNL hB hOK
  unfold trV
  by_cases h1 : k = 1
  case neg =>
    have e1 : (k == 1) = false := by simpa using h1
    have e2 : (k != 1) = true := by simpa using h1
    rw [show (decide (k = 1) && decide (s = ⟨#[40]⟩) && OK) = false by simp [h1]]
    go_enter Tryd.func53, Tryd.ntmps53
    go_wp2_with fail
    go_ret2
    exact ⟨v, rfl, (fun h => by cases h), Only.of_below (below1 W _)⟩
  subst h1
  by_cases h2 : s = ⟨#[40]⟩
  case neg =>
    have h5 : ¬ s.toList = [40] := fun e => h2 (toList_byte (by rw [e, toList_data]))
    have h6 : (s.toList == [40]) = false := by simpa using h5
    rw [show (decide ((1 : Int) = 1) && decide (s = ⟨#[40]⟩) && OK) = false by simp [h2]]
    go_enter Tryd.func53, Tryd.ntmps53
    go_wp2_with fail
    go_ret2
    exact ⟨v, rfl, (fun h => by cases h), Only.of_below (below1 W _)⟩
  subst h2
  rw [show (decide ((1 : Int) = 1) && decide ((⟨#[40]⟩ : ByteArray) = ⟨#[40]⟩) && OK) = OK by simp]
  obtain ⟨W1, hW1⟩ : ∃ W1, W1 = W.alloc (.cells #[.bool true, .int .u8 1, .string ⟨#[40]⟩, .int .i64 a, .slice q M c] 41) := ⟨_, rfl⟩
  have HB1 := Lib.hid (show Below W.heap.size W W1 by rw [hW1]; exact below1 _ _)
  have hs1 : W1.heap.size = W.heap.size + 1 := by rw [hW1]; simp
  have HS1 := Lib.hid hs1
  have y4 : W1.cell? ⟨W.heap.size, 4, none⟩ = some (.slice q M c) := by rw [hW1]; simp [go_sem]
  have HO1 := Lib.hid (own_later HO.out HB1.out)
  have HO1b := Lib.hid (own_later HO1.out (below1 W1 (.cells #[.int .u8 40] 5)))
  clear hs1
  have hz4' := fun (w2 : World) (v1 : Value) (hR1 : RowS B (W1.alloc (.cells #[.int .u8 40] 5)) v N xs w2 v1 [40]) => hR1.cell (b := W.heap.size) (o := 4) (cell_later (below1 W1 (.cells #[.int .u8 40] 5)) y4) (fun e => by have := (own_lt HO.out e).2; omega)
  have HZ4 := Lib.hid hz4'
  clear hz4'
  subst hW1
  go_enter Tryd.func53, Tryd.ntmps53
  go_wp2_with (at_builtin; refine wpList_append_byte rfl _ _ 22 rfl B i5 Tryd.underlying22 hi5 hz0 hz1 hz2 v N xs rfl HO1b.out ⟨W.heap.size + 1, 0, none⟩ 40 rfl ?b0 ?b1 ?b2 ?_)
  case b0 => simp [go_sem, u8v, Addr.add]
  case b1 => have := HNL.out; omega
  case b2 => have := HBB.out; simp; omega
  intro v1 w2 hR1
  have hz4 := HZ4.out w2 v1 hR1
  obtain ⟨V, hV, hRV, hVB⟩ : ∃ V : World, V.heap.size = W.heap.size + 1 ∧ RowS B V v N xs w2 v1 [40] ∧ Below W.heap.size W V := ⟨_, HS1.out, hR1.from_ (below1 _ _), HB1.out⟩
  have HV := Lib.hid (And.intro hV hVB)
  have HR1 := Lib.hid hRV
  clear hR1 y4 HZ4 hV hRV hVB
  go_wp2_with fail
  go_loopg [0, 8, 9, 10] M (fun gk s0 s8 s9 s10 wx => ∃ (i : Nat) (f : Fo) (vv : Value), i + gk = M ∧ s8 = .int .i64 (i : Int) ∧ vv = s0 ∧ Hid (∃ D : List UInt8, f.len = gk ∧ RowS B V v N xs wx vv D ∧ D ++ txtF (decide (i = 0)) f = T ∧ f.size ≤ x.size ∧ szB 65536 f ∧ FoIn wx F f (pl q i) ∧ wx.cell? ⟨W.heap.size, 4, none⟩ = some (.slice q M c) ∧ OK = okF f))
  case atStart =>
    refine ⟨0, x, _, by omega, rfl, rfl, Lib.hid ⟨[40], HI.out.1.symm, HR1.out, HI.out.2.2.1.symm, Nat.le_refl _, HI.out.2.2.2.2, pl_zero ((HR1.out.from_ HV.out.2).foIn HO.out HX.out.2 HX.out.1), hz4, HOK.out⟩⟩
  case round =>
    obtain ⟨i, f, vv, hk, rfl, rfl, HK⟩ := hrel
    have HG := Lib.hid hk
    have hi2 : i ≤ M := by omega
    clear hk hz4
    obtain ⟨wA, hwA⟩ : ∃ w, w = wr := ⟨_, rfl⟩
    subst hwA
    have i2 : (i : Int) ≤ (M : Int) := by omega
    obtain ⟨D, hf, hR, hD, hfs, hfz, hfx, hz4, hOK⟩ := HK.out
    have HRW := Lib.hid (hR.from_ HV.out.2)
    have hDl : D.length ≤ L := by rw [HI.out.2.2.2.1, ← hD]; simp
    have HHR := Lib.hid hR
    have hoA : wA.ownsRow B 5 1 vv (N + D.length) (xs ++ D.map u8v) := hR.1
    have HOA := Lib.hid hoA
    have hBA : B ≤ wA.heap.size := Nat.le_trans HBB.out HRW.out.size
    have HBA := Lib.hid hBA
    have hne : vv.ownBlock ≠ some W.heap.size := fun e => by
      rcases hR.2.2 _ e with e2 | e2
      · have := (own_lt HO.out e2).2; omega
      · have := HV.out.1; omega
    have HNE := Lib.hid hne
    have HZ := Lib.hid hz4
    clear hR hoA hBA HK hne
    by_cases hlt : i < M
    · obtain ⟨G, rfl⟩ : ∃ G, gk = G + 1 := ⟨gk - 1, by have := HG.out; omega⟩
      have i0 : (0 : Int) ≤ (i : Int) := by omega
      have i3 : (i : Int) < (M : Int) := by omega
      obtain ⟨b, off, rfl⟩ : ∃ b off, q = some ⟨b, off, none⟩ := HX.out.1.some (by rw [← HI.out.1]; omega)
      cases f with
      | nil => simp [Fo.len] at hf
      | cons l1 k1 s1 a1 x1 r1 =>
        obtain ⟨hbF, e0, e1, e2, e3, ⟨q3, cc3, e4, hc3, hm3, hx3⟩, hr3⟩ := hfx.head
        have hDT : D ++ ((if decide (i = 0) = true then [] else [32]) ++ (txtT l1 k1 s1 x1 ++ txtF false r1)) = T := hD
        have HDT := Lib.hid hDT
        have hok2 : OK = (okT l1 k1 s1 x1 && okF r1) := hOK
        obtain ⟨hz1', hz2', hz3'⟩ := hfz
        have HC := Lib.hid (fun (w' : World) (v' : Value) (N' : Nat) (xs' : List Value) (h1 : FoIn w' F x1 q3) (h3 : w'.ownsRow B 5 1 v' N' xs') (h4 : B ≤ w'.heap.size) (h5 : N' + (txtT l1 k1 s1 x1).length ≤ 1099511627776) => IH.out x1.size (by have := HI.out.2.1; simp only [Fo.size] at hfs; omega) x1 (Nat.le_refl _) hz2' l1 k1 s1 a1 q3 cc3 w' F B N' v' xs' hz1' h1 HX.out.2 hc3 hm3 h3 h4 h5)
        have HS := Lib.hid (show (r1.len = G ∧ r1.size ≤ x.size ∧ szB 65536 r1) from ⟨by simpa [Fo.len] using hf, by simp only [Fo.size] at hfs; omega, hz3'⟩)
        have HXX := Lib.hid (And.intro hx3 hr3)
        obtain ⟨n3, hn3⟩ : ∃ n3, n3 = x1.len := ⟨_, rfl⟩
        rw [← hn3] at HC e4
        obtain ⟨o1, ho1⟩ : ∃ o1, o1 = okT l1 k1 s1 x1 := ⟨_, rfl⟩
        rw [← ho1] at HC hok2
        have HOK2 := Lib.hid hok2
        have HBF := Lib.hid (HX.out.2 b hbF)
        clear hn3 hf hD hDT hfs hz1' hz2' hz3' hfx hx3 hr3 hc3 hm3 ho1 hok2 hOK hbF
        unfold trV at HC
        by_cases hi0 : i = 0
        · subst hi0
          simp only [Nat.zero_mul, Nat.add_zero] at e0 e1 e2 e3 e4
          have hT3 : D ++ (txtT l1 k1 s1 x1 ++ txtF false r1) = T := by have := HDT.out; simpa using this
          have HT3 := Lib.hid hT3
          have HLT := Lib.hid (show D.length + (txtT l1 k1 s1 x1).length ≤ L by rw [HI.out.2.2.2.1, ← hT3]; simp)
          have hC2 := HC.out wA vv (N + D.length) (xs ++ D.map u8v) HXX.out.1 HOA.out HBA.out (by have := HLT.out; have := HNL.out; omega)
          have HC2 := Lib.hid hC2
          clear hT3 hC2 HDT HC
          go_wp2_with fail
          refine HC2.out.mono ?_
          rintro e w4 ⟨v3, rfl, hR3, hon⟩
          have HON := Lib.hid (HRW.out.only2 hon)
          cases o1 with
          | false =>
            clear hR3 hon
            go_wp2_with fail
            go_ret2
            exact ⟨vv, (by rw [HOK2.out] <;> rfl), (fun h => by rw [HOK2.out] at h; cases h), HON.out⟩
          | true =>
            have hR3 := hR3 rfl
            have HR4 := Lib.hid (HHR.out.trans hR3)
            have HFX := Lib.hid (hR3.foIn HOA.out HX.out.2 HXX.out.2)
            have HZ4 := Lib.hid (hR3.cell HZ.out HNE.out)
            clear hR3 hon
            go_wp2_with fail
            go_roundg G
            case measure => omega
            case rel =>
              refine ⟨1, r1, _, by have := HG.out; omega, by simp, rfl, Lib.hid ⟨D ++ txtT l1 k1 s1 x1, HS.out.1, HR4.out, ?_, HS.out.2.1, HS.out.2.2, HFX.out, HZ4.out, by rw [HOK2.out]; simp⟩⟩
              rw [List.append_assoc]; exact HT3.out
        · have hi4 : (0 : Int) < (i : Int) := by omega
          have hi5' : 0 < i := by omega
          have hT3 : D ++ ([32] ++ (txtT l1 k1 s1 x1 ++ txtF false r1)) = T := by have := HDT.out; rw [if_neg (by simpa using hi0)] at this; exact this
          have HT3 := Lib.hid hT3
          have HLT := Lib.hid (show D.length + 1 + (txtT l1 k1 s1 x1).length ≤ L by rw [HI.out.2.2.2.1, ← hT3]; simp; omega)
          clear hT3 HDT
          have HO3 := Lib.hid (own_later HOA.out (below1 wA (.cells #[.int .u8 32] 5)))
          have hkk := fun (v2 : Value) (w3 : World) (hR2 : RowS B (wA.alloc (.cells #[.int .u8 32] 5)) vv (N + D.length) (xs ++ D.map u8v) w3 v2 [32]) => (show (w3.cell? ⟨b, off + i * 5, none⟩ = some (.bool l1) ∧ w3.cell? ⟨b, off + i * 5 + 1, none⟩ = some (.int .u8 k1) ∧ w3.cell? ⟨b, off + i * 5 + 2, none⟩ = some (.string s1) ∧ w3.cell? ⟨b, off + i * 5 + 3, none⟩ = some (.int .i64 a1) ∧ w3.cell? ⟨b, off + i * 5 + 4, none⟩ = some (.slice q3 n3 cc3)) ∧ RowS B wA vv (N + D.length) (xs ++ D.map u8v) w3 v2 [32] from
            have hR := hR2.from_ (below1 wA _)
            have hne : vv.ownBlock ≠ some b := fun e => by have h1 := (own_lt HOA.out e).1; have h2 := HBF.out; omega
            ⟨⟨hR.cell e0 hne, hR.cell e1 hne, hR.cell e2 hne, hR.cell e3 hne, hR.cell e4 hne⟩, hR⟩)
          have HKK := Lib.hid hkk
          clear hkk e0 e1 e2 e3 e4
          go_wp2_with (at_builtin; refine wpList_append_byte rfl _ _ 22 rfl B i5 Tryd.underlying22 hi5 hz0 hz1 hz2 vv (N + D.length) (xs ++ D.map u8v) rfl HO3.out ⟨wA.heap.size, 0, none⟩ 32 rfl ?c0 ?c1 ?c2 ?_)
          case c0 => simp [go_sem, u8v, Addr.add]
          case c1 => have := HNL.out; omega
          case c2 => have := HBA.out; simp; omega
          intro v2 w3 hR2
          obtain ⟨⟨k0, k1', k2, k3, k4⟩, hR2b⟩ := HKK.out v2 w3 hR2
          have HR2 := Lib.hid hR2b
          have hz5 := hR2b.cell HZ.out HNE.out
          have hne2 : v2.ownBlock ≠ some W.heap.size := fun e => by
            rcases hR2b.2.2 _ e with e2 | e2
            · exact HNE.out e2
            · have h1 := HHR.out.size; have := HV.out.1; omega
          have HNE2 := Lib.hid hne2
          have HZ5 := Lib.hid hz5
          have hC2 := HC.out w3 v2 (N + D.length + 1) (xs ++ D.map u8v ++ [u8v 32]) (hR2b.foIn HOA.out HX.out.2 HXX.out.1) hR2b.1 (Nat.le_trans HBA.out hR2b.size) (by have := HLT.out; have := HNL.out; omega)
          have HC2 := Lib.hid hC2
          clear hR2 hR2b hC2 HC HO3 HKK hne2 hz4
          go_wp2_with fail
          refine HC2.out.mono ?_
          rintro e w4 ⟨v3, rfl, hR3, hon⟩
          have HON := Lib.hid ((HRW.out.trans HR2.out).only2 hon)
          cases o1 with
          | false =>
            clear hR3 hon
            go_wp2_with fail
            go_ret2
            exact ⟨v2, (by rw [HOK2.out] <;> rfl), (fun h => by rw [HOK2.out] at h; cases h), HON.out⟩
          | true =>
            have hR3 := hR3 rfl
            have hR5 := HR2.out.trans hR3
            have HR4 := Lib.hid (HHR.out.trans hR5)
            have HFX := Lib.hid (hR5.foIn HOA.out HX.out.2 HXX.out.2)
            have HZ4 := Lib.hid (hR3.cell HZ5.out HNE2.out)
            clear hR3 hR5 hon
            go_wp2_with fail
            go_roundg G
            case measure => omega
            case rel =>
              obtain ⟨i', hi'⟩ : ∃ i', i' = i + 1 := ⟨_, rfl⟩
              refine ⟨i', r1, _, by have := HG.out; omega, by rw [hi']; go_num, rfl, Lib.hid ⟨D ++ ([32] ++ txtT l1 k1 s1 x1), HS.out.1, HR4.out, ?_, HS.out.2.1, HS.out.2.2, by rw [hi']; exact HFX.out, HZ4.out, by rw [HOK2.out]; simp⟩⟩
              have h1 := HT3.out
              rw [show decide (i' = 0) = false by simp; omega]
              simpa [List.append_assoc] using h1
    · obtain rfl : i = M := by omega
      obtain rfl : gk = 0 := by have := HG.out; omega
      have hDT : D = T := by
        cases f with
        | cons => simp [Fo.len] at hf
        | nil => simpa [txtF] using hD
      have hO1 : OK = true := by
        cases f with
        | cons => simp [Fo.len] at hf
        | nil => exact hOK
      subst hDT
      have HO4 := Lib.hid (own_later HOA.out (below1 wA (.cells #[.int .u8 41] 5)))
      have HO1 := Lib.hid hO1
      clear hf hD hfs hfz hfx hOK hO1
      go_wp2_with (at_builtin; refine wpList_append_byte rfl _ _ 22 rfl B i5 Tryd.underlying22 hi5 hz0 hz1 hz2 vv (N + D.length) (xs ++ D.map u8v) rfl HO4.out ⟨wA.heap.size, 0, none⟩ 41 rfl ?d0 ?d1 ?d2 ?_)
      case d0 => simp [go_sem, u8v, Addr.add]
      case d1 => have := HNL.out; omega
      case d2 => have := HBA.out; simp; omega
      intro v2 w3 hR2
      have HR2 := Lib.hid (HRW.out.trans (hR2.from_ (below1 wA _)))
      clear hR2
      go_wp2_with fail
      go_ret2
      exact ⟨v2, (by rw [HO1.out] <;> rfl), (fun _ => HR2.out), HR2.out.2.1⟩
theorem write53 (n : Nat) : Write3 n := Nat.strongRecOn n fun n ih => write53_step n ih
end Go.Proofs.YtlifankiljbdjaaDoor
