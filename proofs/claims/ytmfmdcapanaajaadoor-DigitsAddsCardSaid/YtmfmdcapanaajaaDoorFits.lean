/- Is a number an int64's? -/
import Derived.Test.YtmfmdcapanaajaaDoorInt
namespace Go.Proofs.YtmfmdcapanaajaaDoor
open Go Go.RowKit Go.Sort
attribute [local go_sem ↓] Go.wp_at_zero Go.wp_at_succ
attribute [local irreducible] G X

/-- what fits tells. -/
def fitsV (v : Int) : Value := if -9223372036854775808 ≤ v ∧ v ≤ 9223372036854775807 then .tuple #[.int .i64 v, .bool true] else .tuple #[.int .i64 0, .bool false]

set_option maxRecDepth 100000 in
set_option maxHeartbeats 4000000 in
theorem fits_n (v : Int) (w : World) (v0 : (-42535295865117307932921825928971026432) ≤ v) (v1 : v ≤ 42535295865117307932921825928971026431) :
    Calls Tryd.prog 11 #[.agg (sV v)] w fun e w' => e = .returned (fitsV v) ∧ Below w.heap.size w w' := by
  have HI1 := fun W => int_n v W v0 v1
  have HNM := fun W => number_n (v / 4611686018427387904) (v % 4611686018427387904) W (by omega) (by omega) (by omega) (by omega)
  have HSM := fun W => same_n v v W (by omega) (by omega) (by omega) (by omega) (by omega) (by omega)
  rw [show v / 4611686018427387904 * 4611686018427387904 + v % 4611686018427387904 = v by omega] at HNM
  rw [show decide (absZ (v + -v) = 0) = true by rw [show v + -v = 0 by omega]; rfl] at HSM
  obtain ⟨h, hh⟩ : ∃ h, h = v / 4611686018427387904 := ⟨_, rfl⟩
  obtain ⟨l, hl⟩ : ∃ l, l = v % 4611686018427387904 := ⟨_, rfl⟩
  rw [← hh, ← hl] at HI1 HNM
  have HF : (h < -2 ∧ fitsV v = .tuple #[.int .i64 0, .bool false]) ∨ (1 < h ∧ fitsV v = .tuple #[.int .i64 0, .bool false]) ∨ (-2 ≤ h ∧ h ≤ 1 ∧ 0 ≤ l ∧ l < 4611686018427387904 ∧ h * 4611686018427387904 + l = v ∧ -9223372036854775808 ≤ v ∧ v ≤ 9223372036854775807 ∧ fitsV v = .tuple #[.int .i64 v, .bool true]) := by
    unfold fitsV
    by_cases c1 : h < -2
    · exact Or.inl ⟨c1, if_neg (by omega)⟩
    · by_cases c2 : 1 < h
      · exact Or.inr (Or.inl ⟨c2, if_neg (by omega)⟩)
      · exact Or.inr (Or.inr ⟨by omega, by omega, by omega, by omega, by omega, by omega, by omega, if_pos (by omega)⟩)
  have HHF := Lib.hid HF
  clear v0 v1 hh hl HF
  generalize hFV : fitsV v = FV at *
  clear hFV
  go_enter Tryd.func11, Tryd.ntmps11
  have hA0 := rangeAt_new w (sV v) 27
  have hB0 := ((Below.refl w.heap.size w).alloc (Nat.le_refl _) (.cells (sV v) 27))
  have hs0 : w.heap.size + 1 ≤ (w.alloc (.cells (sV v) 27)).heap.size := by rw [World.size_alloc]; omega
  have HA0 := Lib.hid hA0
  clear hA0
  go_wp2_with (first | (refine wpList_load_mid rfl 27 _ rfl w.heap.size 0 rfl (sV v).toList _ (by exact HA0.out) Tryd.underlying27 rfl (by kernel_rfl) ?_))
  refine (HI1 _).mono ?_
  rintro e w1 ⟨rfl, hb⟩
  have HA1 := Lib.hid (rangeAt_later HA0.out hb)
  have hB1 := chainB' hB0 hb (by omega)
  have hs1 := Nat.le_trans hs0 hb.size
  clear HA0 hB0 hs0 hb
  have c1 : (w1.alloc (.cells (#[.int .i64 h, .int .i64 l] : Array Value) 40)).rangeAt w.heap.size 0 (sV v).toList := World.rangeAt_alloc HA1.out _
  have c2 : (w1.alloc (.cells (#[.int .i64 h, .int .i64 l] : Array Value) 40)).rangeAt w1.heap.size 0 (#[.int .i64 h, .int .i64 l] : Array Value).toList := rangeAt_new w1 _ _
  have c3 : Below w.heap.size w (w1.alloc (.cells (#[.int .i64 h, .int .i64 l] : Array Value) 40)) := hB1.alloc (by omega) _
  have c4 : w1.heap.size + 1 ≤ (w1.alloc (.cells (#[.int .i64 h, .int .i64 l] : Array Value) 40)).heap.size := by rw [World.size_alloc]; omega
  have C1 := Lib.hid c1
  have C2 := Lib.hid c2
  have C3 := Lib.hid c3
  clear c1 c2 c3 HA1 hB1
  have hS4 : (fun w' => w'.rangeAt w.heap.size 0 (sV v).toList ∧ w'.rangeAt w1.heap.size 0 (#[.int .i64 h, .int .i64 l] : Array Value).toList) (w1.alloc (.cells (#[.int .i64 h, .int .i64 l] : Array Value) 40)).drew := ⟨(World.rangeAt_drew _ _ _ _).2 C1.out, (World.rangeAt_drew _ _ _ _).2 C2.out⟩
  have hB4 := (C3.out).drew
  have hs4 : w1.heap.size + 1 ≤ (w1.alloc (.cells (#[.int .i64 h, .int .i64 l] : Array Value) 40)).drew.heap.size := c4
  clear C1 C2 C3 c4
  go_wp2_with fail
  generalize (w1.alloc (.cells (#[.int .i64 h, .int .i64 l] : Array Value) 40)) = w2 at *
  refine wp_region_held_drew (S := (fun w' => w'.rangeAt w.heap.size 0 (sV v).toList ∧ w'.rangeAt w1.heap.size 0 (#[.int .i64 h, .int .i64 l] : Array Value).toList)) (by kernel_rfl) hS4 (fun hHeld => ?_)
  generalize w2.drew = w6 at *
  refine wpAnyH_take (i := 0) (oi := { dst := some 8, op := Op.load 40 (Operand.tmp 4), type := 40, pos := "ref.go:179", after := #[], guard := none }) (v := _) rfl (by kernel_rfl) (by kernel_rfl) (by kernel_rfl) (fun _ _ _ h => h) (yieldsIf_load_mid (by rfl) _ _ rfl _ _ rfl _ _ (fun w hSw => hSw.2) Tryd.underlying40 rfl (by kernel_rfl)) (by assumption) ?_
  try simp only [Act.put, List.setIfInBounds_toArray, List.set_cons_zero, List.set_cons_succ]
  refine wpAnyH_take (i := 2) (oi := { dst := some 10, op := Op.load 27 (Operand.tmp 1), type := 27, pos := "ref.go:179", after := #[], guard := none }) (v := _) rfl (by kernel_rfl) (by kernel_rfl) (by kernel_rfl) (fun _ _ _ h => h) (yieldsIf_load_mid (by rfl) _ _ rfl _ _ rfl _ _ (fun w hSw => hSw.1) Tryd.underlying27 rfl (by kernel_rfl)) (by assumption) ?_
  try simp only [Act.put, List.setIfInBounds_toArray, List.set_cons_zero, List.set_cons_succ]
  refine wpAnyH_ready (rs := [1]) (by kernel_rfl) (by simp) ?_
  refine AllReadyH.cons (o := { dst := some 9, op := Op.call { callee := Callee.value (Operand.func 20), args := #[Operand.tmp 8], argTypes := #[40] }, type := 27, pos := "ref.go:179", after := #[{ on := 0, ground := Ground.data }], guard := none }) rfl (fun K hK => ?_) AllReadyH.nil
  go_simp
  go_at_call 20
  refine (HNM _).mono ?_
  rintro e w' ⟨rfl, hb⟩
  refine hK.out _ _ ?_ (fun hHeld => ?_)
  · exact ⟨rangeAt_later hHeld.1 hb, rangeAt_later hHeld.2 hb⟩
  clear hK K
  try simp only [Act.put, List.setIfInBounds_toArray, List.set_cons_zero, List.set_cons_succ]
  have hB5 := chainB' hB4 hb (by omega)
  have hs5 := Nat.le_trans hs4 hb.size
  clear hb
  refine wpAnyH_ready (rs := [3]) (by kernel_rfl) (by simp) ?_
  refine AllReadyH.cons (o := { dst := some 11, op := Op.call { callee := Callee.value (Operand.func 29), args := #[Operand.tmp 9, Operand.tmp 10], argTypes := #[27, 27] }, type := 4, pos := "ref.go:179", after := #[{ on := 1, ground := Ground.data }, { on := 2, ground := Ground.data }, { on := 1, ground := Ground.chain }], guard := none }) rfl (fun K hK => ?_) AllReadyH.nil
  go_simp
  go_at_call 29
  refine (HSM _).mono ?_
  rintro e w' ⟨rfl, hb⟩
  refine hK.out _ _ ?_ (fun hHeld => ?_)
  · exact ⟨rangeAt_later hHeld.1 hb, rangeAt_later hHeld.2 hb⟩
  clear hK K
  try simp only [Act.put, List.setIfInBounds_toArray, List.set_cons_zero, List.set_cons_succ]
  have hB6 := chainB' hB5 hb (by omega)
  clear hb
  refine wpAnyH_take (i := 4) (oi := { dst := some 12, op := Op.unOp UnOp.not 4 (Operand.tmp 11), type := 4, pos := "ref.go:179", after := #[{ on := 3, ground := Ground.data }], guard := none }) (v := ?_) rfl (by kernel_rfl) (by kernel_rfl) (by kernel_rfl) (fun _ _ _ h => h) (Or.inl ⟨by rfl, ?_⟩) (by assumption) ?_
  rotate_left
  · intro w hSw
    (try dsimp only at hSw)
    go_simp
    try with_reducible rfl
  try simp only [Act.put, List.setIfInBounds_toArray, List.set_cons_zero, List.set_cons_succ]
  refine wpAnyH_take (i := 5) (oi := { dst := some 7, op := Op.assign (Operand.tmp 12), type := 4, pos := "ref.go:179", after := #[{ on := 4, ground := Ground.data }, { on := 3, ground := Ground.chain }], guard := none }) (v := ?_) rfl (by kernel_rfl) (by kernel_rfl) (by kernel_rfl) (fun _ _ _ h => h) (Or.inl ⟨by rfl, ?_⟩) (by assumption) ?_
  rotate_left
  · intro w hSw
    (try dsimp only at hSw)
    go_simp
    try with_reducible rfl
  try simp only [Act.put, List.setIfInBounds_toArray, List.set_cons_zero, List.set_cons_succ]
  refine wpAnyH_done (by kernel_rfl) ?_ _
  have hc0 := hHeld.2 0 _ rfl
  have hc1 := hHeld.2 1 _ rfl
  simp only [Nat.zero_add, Nat.add_zero] at hc0 hc1
  clear hHeld
  generalize w1.heap.size = D at *
  rcases HHF.out with ⟨c1, rfl⟩ | ⟨c1, rfl⟩ | ⟨c1, c2, c3, c4, c5, c6, c7, rfl⟩
  · go_wp2_with fail
    go_ret2
    exact ⟨rfl, hB6⟩
  · have c2 : -2 ≤ h := by omega
    go_wp2_with fail
    go_ret2
    exact ⟨rfl, hB6⟩
  · go_wp2_with fail
    go_ret2
    exact ⟨by rw [← c5]; rfl, hB6⟩
end Go.Proofs.YtmfmdcapanaajaaDoor
