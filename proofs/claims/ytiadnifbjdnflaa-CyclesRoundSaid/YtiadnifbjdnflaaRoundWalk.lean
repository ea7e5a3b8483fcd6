/- The walk of the law CyclesRound. -/
import Derived.Test.YtiadnifbjdnflaaScaleWalk
import Derived.Test.YtiadnifbjdnflaaRot
import Derived.Deep.RegionHeld3
import Derived.Deep.DrawnRows
namespace Go.Proofs.Ytiadnifbjdnflaa
open Go Go.RowKit

set_option maxRecDepth 100000 in
set_option maxHeartbeats 800000 in
theorem round_out (p : Option Addr) (n c : Nat) (t : Int) (w : World) (hn : n ≤ 9223372036854775807) (h : n = 0 ∨ 300 < n) :
    Calls Try.prog 15 #[.slice p n c, .int .i64 t] w fun e w' => e = .returned (.bool true) ∧ Below w.heap.size w w' := by
  rcases h with rfl | h
  all_goals
    go_enter Try.func15, Try.ntmps15
    go_wp2_with fail
    refine (known_any _).mono ?_
    rintro e w1 ⟨rfl, hb⟩
    go_wp2_with fail
    go_ret
    exact ⟨rfl, hb⟩

set_option maxRecDepth 100000 in
set_option maxHeartbeats 800000 in
theorem round_in (b off m c : Nat) (t : Int) (X Y C : Nat → Int) (w : World) (hE : EdgesAt w b off m X Y C) (hm0 : 1 ≤ m) (hm : m ≤ 300) (hmc : m ≤ c) (t0 : -9223372036854775808 ≤ t) (t1 : t ≤ 9223372036854775807) (hC : ∀ i, i < m → I64 (C i)) :
    Calls Try.prog 15 #[.slice (some ⟨b, off, none⟩) m c, .int .i64 t] w fun e w' => e = .returned (.bool true) ∧ Below w.heap.size w w' := by
  obtain ⟨i0, hi, hz0, hz1, hz2⟩ := info56
  obtain ⟨s1, s2, hs⟩ := sumV_two m X Y C
  have H1 := sum_any b off m c X Y C w hE (by omega) hC
  rw [hs] at H1
  have hmz : ((m : Int) == 0) = false := by rw [beq_eq_false_iff_ne]; omega
  obtain ⟨k, hk⟩ : ∃ k : Nat, (k : Int) = t % 18446744073709551616 % (m : Int) := ⟨(t % 18446744073709551616 % (m : Int)).toNat, by
    have := Int.emod_nonneg (t % 18446744073709551616) (show (m : Int) ≠ 0 by omega); omega⟩
  have hkm : k < m := by
    have := Int.emod_lt_of_pos (t % 18446744073709551616) (show (0 : Int) < (m : Int) by omega); omega
  have hkw : (IntKind.u64.wrap t).tmod (m : Int) = (k : Int) := by
    rw [wrap_u, Int.tmod_eq_emod_of_nonneg (by omega), hk]
  have HE := Lib.hid hE
  have HE0 := Lib.hid hE
  have HC := Lib.hid hC
  clear hE hk hC
  go_enter Try.func15, Try.ntmps15
  go_wp2_with fail
  refine H1.mono ?_
  rintro e w1 ⟨rfl, hb1⟩
  have HE1 := Lib.hid (HE.out.later hb1)
  have HB1 := Lib.hid hb1
  clear HE hb1 H1
  go_wp2_with fail
  have hS4 : (fun w' : World => EdgesAt w' b off m X Y C) w1.drew := ⟨fun i hi => by rw [World.cell?_drew]; exact HE1.out.k0 i hi, fun i hi => by rw [World.cell?_drew]; exact HE1.out.k1 i hi, fun i hi => by rw [World.cell?_drew]; exact HE1.out.k2 i hi⟩
  have hB4 := (HB1.out).drew
  have hk0 : (0 : Int) ≤ (k : Int) := by omega
  have hk1 : (k : Int) ≤ (m : Int) := by omega
  have hk2 : k ≤ m := by omega
  have hk3 : k ≤ c := by omega
  have hck : ¬ c = k := by omega
  have hml : maxLen = 9223372036854775807 := rfl
  clear HE1 HB1
  refine wp_region_held_drew (S := (fun w' : World => EdgesAt w' b off m X Y C)) (by kernel_rfl) hS4 (fun hHeld => ?_)
  generalize w1.drew = w2 at *
  refine wpAnyH_take (i := 1) (oi := { dst := some 33, op := Op.move (Operand.tmp 0), type := 60, pos := "outright.go:58", after := #[], guard := none }) (v := ?_) rfl (by kernel_rfl) (by kernel_rfl) (by kernel_rfl) (fun _ _ _ h => h) (Or.inl ⟨by rfl, ?_⟩) (by assumption) ?_
  rotate_left
  · intro w hSw
    (try dsimp only at hSw)
    go_simp
    try with_reducible rfl
  try simp only [Act.put, List.setIfInBounds_toArray, List.set_cons_zero, List.set_cons_succ]
  refine wpAnyH_take (i := 2) (oi := { dst := some 34, op := Op.move (Operand.tmp 5), type := 3, pos := "outright.go:58", after := #[], guard := none }) (v := ?_) rfl (by kernel_rfl) (by kernel_rfl) (by kernel_rfl) (fun _ _ _ h => h) (Or.inl ⟨by rfl, ?_⟩) (by assumption) ?_
  rotate_left
  · intro w hSw
    (try dsimp only at hSw)
    go_simp
    try with_reducible rfl
  try simp only [Act.put, List.setIfInBounds_toArray, List.set_cons_zero, List.set_cons_succ]
  refine wpAnyH_take (i := 3) (oi := { dst := some 35, op := Op.slice 60 (Operand.tmp 33) (some (Operand.tmp 34)) none none, type := 60, pos := "outright.go:58", after := #[{ on := 1, ground := Ground.data }, { on := 2, ground := Ground.data }], guard := none }) (v := .slice (some ⟨b, off + k * 3, none⟩) (m - k) (c - k)) rfl (by kernel_rfl) (by kernel_rfl) (by kernel_rfl) (fun _ _ _ h => h) (Or.inl ⟨by rfl, ?_⟩) (by assumption) ?_
  · intro w hSw
    (try dsimp only at hSw)
    go_simp
    first | done | (simp only [if_neg hck]; done) | (simp [hck]; done)
  try simp only [Act.put, List.setIfInBounds_toArray, List.set_cons_zero, List.set_cons_succ]
  refine wpAnyH_take (i := 5) (oi := { dst := some 37, op := Op.move (Operand.tmp 0), type := 60, pos := "outright.go:58", after := #[], guard := none }) (v := ?_) rfl (by kernel_rfl) (by kernel_rfl) (by kernel_rfl) (fun _ _ _ h => h) (Or.inl ⟨by rfl, ?_⟩) (by assumption) ?_
  rotate_left
  · intro w hSw
    (try dsimp only at hSw)
    go_simp
    try with_reducible rfl
  try simp only [Act.put, List.setIfInBounds_toArray, List.set_cons_zero, List.set_cons_succ]
  refine wpAnyH_take (i := 6) (oi := { dst := some 38, op := Op.move (Operand.tmp 5), type := 3, pos := "outright.go:58", after := #[], guard := none }) (v := ?_) rfl (by kernel_rfl) (by kernel_rfl) (by kernel_rfl) (fun _ _ _ h => h) (Or.inl ⟨by rfl, ?_⟩) (by assumption) ?_
  rotate_left
  · intro w hSw
    (try dsimp only at hSw)
    go_simp
    try with_reducible rfl
  try simp only [Act.put, List.setIfInBounds_toArray, List.set_cons_zero, List.set_cons_succ]
  refine wpAnyH_take (i := 7) (oi := { dst := some 39, op := Op.slice 60 (Operand.tmp 37) none (some (Operand.tmp 38)) none, type := 60, pos := "outright.go:58", after := #[{ on := 5, ground := Ground.data }, { on := 6, ground := Ground.data }], guard := none }) (v := ?_) rfl (by kernel_rfl) (by kernel_rfl) (by kernel_rfl) (fun _ _ _ h => h) (Or.inl ⟨by rfl, ?_⟩) (by assumption) ?_
  rotate_left
  · intro w hSw
    (try dsimp only at hSw)
    go_simp
    try with_reducible rfl
  try simp only [Act.put, List.setIfInBounds_toArray, List.set_cons_zero, List.set_cons_succ]
  refine wpAnyH_ready (rs := [0]) (by kernel_rfl) (by simp) ?_
  refine AllReadyH.cons (o := { dst := some 32, op := Op.buildSlice 60 0 #[], type := 60, pos := "outright.go:58", after := #[], guard := none }) rfl (fun K hK => ?_) AllReadyH.nil
  go_simp
  refine hK.out _ _ ?_ (fun hHeld => ?_)
  · exact hHeld.later (below1 _ _)
  clear hK K
  try simp only [Act.put, List.setIfInBounds_toArray, List.set_cons_zero, List.set_cons_succ]
  have hown0 : (w2.alloc (.cells #[] 56)).ownsRow w.heap.size 56 3 (.slice (some ⟨w2.heap.size, 0, none⟩) 0 0) 0 [] := World.ownsRow_made w2 #[] 0 hB4.size (by omega) (by simp)
  have hB5 := hB4.alloc hB4.size (.cells #[] 56)
  have hEs : EdgesAt (w2.alloc (.cells #[] 56)) b (off + k * 3) (m - k) (fun i => X (k + i)) (fun i => Y (k + i)) (fun i => C (k + i)) := ⟨fun i hi => by have := (HE0.out.later hB5).k0 (k + i) (by omega); rwa [show off + (k + i) * 3 = off + k * 3 + i * 3 by omega] at this, fun i hi => by have := (HE0.out.later hB5).k1 (k + i) (by omega); rwa [show off + (k + i) * 3 = off + k * 3 + i * 3 by omega] at this, fun i hi => by have := (HE0.out.later hB5).k2 (k + i) (by omega); rwa [show off + (k + i) * 3 = off + k * 3 + i * 3 by omega] at this⟩
  refine wpAnyH_ready (rs := [4]) (by kernel_rfl) (by simp) ?_
  refine AllReadyH.cons (o := { dst := some 36, op := Op.call { callee := Callee.builtin Builtin.append, args := #[Operand.tmp 32, Operand.tmp 35], argTypes := #[60, 60] }, type := 60, pos := "outright.go:58", after := #[{ on := 0, ground := Ground.data }, { on := 3, ground := Ground.data }], guard := none }) rfl (fun K hK => ?_) AllReadyH.nil
  rw [if_pos (by rfl)]
  refine wp_append_own _ _ _ 60 rfl w.heap.size 56 i0 (.agg #[.int .i64 0, .int .i64 0, .int .i64 0]) 3 24 Try.underlying60 hi hz0 hz1 hz2 rfl (by omega) _ 0 [] rfl hown0 ⟨b, off + k * 3, none⟩ (m - k) (c - k) (flatE (fun i => X (k + i)) (fun i => Y (k + i)) (fun i => C (k + i)) (m - k)) rfl (flatE_len _ _ _ _) ?_ (flatE_one _ _ _ _) (by omega) (by omega) ?_ ?_
  · intro j u hj
    rw [Lib.add_plain]
    exact flatE_cells hEs j u hj
  · have := hB5.size; omega
  intro v4 w4 hown hgrow hnil
  have hB6 : Below w.heap.size w w4 := hB5.grown hgrow (by have := hB5.size; omega) (fun k hk => (World.ownsRow.lt hown0 k hk).1)
  refine hK.out _ _ ?_ (fun hHeld => ?_)
  · exact HE0.out.later hB6
  clear hK K
  try simp only [Act.put, List.setIfInBounds_toArray, List.set_cons_zero, List.set_cons_succ]
  rw [Nat.zero_add, List.nil_append] at hown
  have hown4 := hown
  have hv4 : v4 ≠ .slice none 0 0 := by intro e; have h := (hnil.1 e).1; cases h
  clear hown hgrow hnil hEs hown0 hB5
  have hEk : EdgesAt w4 b off k X Y C := ⟨fun i hi => (HE0.out.later hB6).k0 i (by omega), fun i hi => (HE0.out.later hB6).k1 i (by omega), fun i hi => (HE0.out.later hB6).k2 i (by omega)⟩
  refine wpAnyH_ready (rs := [8]) (by kernel_rfl) (by simp) ?_
  refine AllReadyH.cons (o := { dst := some 40, op := Op.call { callee := Callee.builtin Builtin.append, args := #[Operand.tmp 36, Operand.tmp 39], argTypes := #[60, 60] }, type := 60, pos := "outright.go:58", after := #[{ on := 4, ground := Ground.data }, { on := 7, ground := Ground.data }, { on := 4, ground := Ground.chain }], guard := none }) rfl (fun K hK => ?_) AllReadyH.nil
  rw [if_pos (by rfl)]
  refine wp_append_own _ _ _ 60 rfl w.heap.size 56 i0 (.agg #[.int .i64 0, .int .i64 0, .int .i64 0]) 3 24 Try.underlying60 hi hz0 hz1 hz2 rfl (by omega) v4 (m - k) (flatE (fun i => X (k + i)) (fun i => Y (k + i)) (fun i => C (k + i)) (m - k)) rfl hown4 ⟨b, off, none⟩ k c (flatE X Y C k) rfl (flatE_len _ _ _ _) ?_ (flatE_one _ _ _ _) (by omega) (by omega) ?_ ?_
  · intro j u hj
    rw [Lib.add_plain]
    exact flatE_cells hEk j u hj
  · have := hB6.size; omega
  intro v8 w8 hown hgrow hnil
  have hB7 : Below w.heap.size w w8 := hB6.grown hgrow (by have := hB6.size; omega) (fun k hk => (World.ownsRow.lt hown4 k hk).1)
  refine hK.out _ _ ?_ (fun hHeld => ?_)
  · exact HE0.out.later hB7
  clear hK K
  try simp only [Act.put, List.setIfInBounds_toArray, List.set_cons_zero, List.set_cons_succ]
  rw [flatE_app, show m - k + k = m by omega] at hown
  have hown8 : w8.ownsRow w.heap.size 56 3 v8 m (flatE (rot m k X) (rot m k Y) (rot m k C) m) := hown
  have hv8 : v8 ≠ .slice none 0 0 := by intro e; exact hv4 (hnil.1 e).1
  clear hown hgrow hnil hEk hown4 hB6
  have H2 := sum_own (rot m k X) (rot m k Y) (rot m k C) hown8 (by omega) (fun i hi => by unfold rot cat; split <;> exact HC.out _ (by omega)) (fun _ => hv8)
  rw [sumV_rot m k X Y C hkm, hs] at H2
  refine wpAnyH_ready (rs := [9]) (by kernel_rfl) (by simp) ?_
  refine AllReadyH.cons (o := { dst := some 41, op := Op.call { callee := Callee.value (Operand.func 43), args := #[Operand.tmp 40], argTypes := #[60] }, type := 36, pos := "outright.go:58", after := #[{ on := 8, ground := Ground.data }, { on := 8, ground := Ground.chain }], guard := none }) rfl (fun K hK => ?_) AllReadyH.nil
  go_simp
  go_at_call 43
  refine H2.mono ?_
  rintro e w9 ⟨rfl, hb⟩
  have hB9 := chain hB7 hb
  refine hK.out _ _ ?_ (fun hHeld => ?_)
  · exact HE0.out.later hB9
  clear hK K
  try simp only [Act.put, List.setIfInBounds_toArray, List.set_cons_zero, List.set_cons_succ]
  refine wpAnyH_take (i := 10) (oi := { dst := some 31, op := Op.move (Operand.tmp 41), type := 36, pos := "outright.go:58", after := #[{ on := 9, ground := Ground.data }], guard := none }) (v := ?_) rfl (by kernel_rfl) (by kernel_rfl) (by kernel_rfl) (fun _ _ _ h => h) (Or.inl ⟨by rfl, ?_⟩) (by assumption) ?_
  rotate_left
  · intro w hSw
    (try dsimp only at hSw)
    go_simp
    try with_reducible rfl
  try simp only [Act.put, List.setIfInBounds_toArray, List.set_cons_zero, List.set_cons_succ]
  refine wpAnyH_take (i := 11) (oi := { dst := some 42, op := Op.extract (Operand.tmp 31) 0, type := 3, pos := "outright.go:58", after := #[{ on := 10, ground := Ground.data }], guard := none }) (v := ?_) rfl (by kernel_rfl) (by kernel_rfl) (by kernel_rfl) (fun _ _ _ h => h) (Or.inl ⟨by rfl, ?_⟩) (by assumption) ?_
  rotate_left
  · intro w hSw
    (try dsimp only at hSw)
    go_simp
    try with_reducible rfl
  try simp only [Act.put, List.setIfInBounds_toArray, List.set_cons_zero, List.set_cons_succ]
  refine wpAnyH_take (i := 12) (oi := { dst := some 43, op := Op.extract (Operand.tmp 31) 1, type := 25, pos := "outright.go:58", after := #[{ on := 10, ground := Ground.data }, { on := 13, ground := Ground.gcOnly Departure.lateStores }], guard := none }) (v := ?_) rfl (by kernel_rfl) (by kernel_rfl) (by kernel_rfl) (fun _ _ _ h => h) (Or.inl ⟨by rfl, ?_⟩) (by assumption) ?_
  rotate_left
  · intro w hSw
    (try dsimp only at hSw)
    go_simp
    try with_reducible rfl
  try simp only [Act.put, List.setIfInBounds_toArray, List.set_cons_zero, List.set_cons_succ]
  refine wpAnyH_take (i := 13) (oi := { dst := some 8, op := Op.assign (Operand.tmp 42), type := 3, pos := "outright.go:58", after := #[{ on := 11, ground := Ground.data }, { on := 9, ground := Ground.chain }, { on := 0, ground := Ground.phase }, { on := 1, ground := Ground.phase }, { on := 2, ground := Ground.phase }, { on := 3, ground := Ground.phase }, { on := 4, ground := Ground.phase }, { on := 5, ground := Ground.phase }, { on := 6, ground := Ground.phase }, { on := 7, ground := Ground.phase }, { on := 8, ground := Ground.phase }, { on := 9, ground := Ground.phase }, { on := 10, ground := Ground.phase }, { on := 11, ground := Ground.phase }, { on := 12, ground := Ground.textOnly Departure.lateStores }], guard := none }) (v := ?_) rfl (by kernel_rfl) (by kernel_rfl) (by kernel_rfl) (fun _ _ _ h => h) (Or.inl ⟨by rfl, ?_⟩) (by assumption) ?_
  rotate_left
  · intro w hSw
    (try dsimp only at hSw)
    go_simp
    try with_reducible rfl
  try simp only [Act.put, List.setIfInBounds_toArray, List.set_cons_zero, List.set_cons_succ]
  refine wpAnyH_take (i := 14) (oi := { dst := some 9, op := Op.assign (Operand.tmp 43), type := 25, pos := "outright.go:58", after := #[{ on := 12, ground := Ground.data }, { on := 13, ground := Ground.chain }, { on := 0, ground := Ground.phase }, { on := 1, ground := Ground.phase }, { on := 2, ground := Ground.phase }, { on := 3, ground := Ground.phase }, { on := 4, ground := Ground.phase }, { on := 5, ground := Ground.phase }, { on := 6, ground := Ground.phase }, { on := 7, ground := Ground.phase }, { on := 8, ground := Ground.phase }, { on := 9, ground := Ground.phase }, { on := 10, ground := Ground.phase }, { on := 11, ground := Ground.phase }, { on := 12, ground := Ground.phase }, { on := 13, ground := Ground.phase }], guard := none }) (v := ?_) rfl (by kernel_rfl) (by kernel_rfl) (by kernel_rfl) (fun _ _ _ h => h) (Or.inl ⟨by rfl, ?_⟩) (by assumption) ?_
  rotate_left
  · intro w hSw
    (try dsimp only at hSw)
    go_simp
    try with_reducible rfl
  try simp only [Act.put, List.setIfInBounds_toArray, List.set_cons_zero, List.set_cons_succ]
  refine wpAnyH_done (by kernel_rfl) ?_ _
  have g1 : (s1 == s1) = true := by simp
  have g2 : (s2 == s2) = true := by simp
  clear hHeld H2
  go_wp2_with fail
  refine (known_any _).mono ?_
  rintro e w3 ⟨rfl, hb3⟩
  go_wp2_with fail
  go_ret
  exact ⟨rfl, chain hB9 hb3⟩
end Go.Proofs.Ytiadnifbjdnflaa
