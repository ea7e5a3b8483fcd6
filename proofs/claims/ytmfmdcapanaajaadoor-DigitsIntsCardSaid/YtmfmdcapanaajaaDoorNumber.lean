/- The number of an integer of two words. -/
import Derived.Test.YtmfmdcapanaajaaDoorOfN
import Derived.LoopTactic
namespace Go.Proofs.YtmfmdcapanaajaaDoor
open Go Go.RowKit Go.Sort
attribute [local go_sem ↓] Go.wp_at_zero Go.wp_at_succ
attribute [local irreducible] G X

set_option maxRecDepth 100000 in
set_option maxHeartbeats 4000000 in
theorem number_n (h l : Int) (w : World) (h0 : -9223372036854775808 ≤ h) (h1 : h ≤ 9223372036854775807) (l0 : -9223372036854775808 ≤ l) (l1 : l ≤ 9223372036854775807) :
    Calls Tryd.prog 20 #[.agg #[.int .i64 h, .int .i64 l]] w fun e w' => e = .returned (.agg (sV (h * 4611686018427387904 + l))) ∧ Below w.heap.size w w' := by
  have HO := fun W => of3_n h W h0 h1
  have HL := fun W => of0_n l W l0 l1
  have hbd : ∀ j : Nat, j ≤ 14 → -1461501637330902918203684832716283019655932542976 < dbl j (h * 281474976710656) ∧ dbl j (h * 281474976710656) < 1461501637330902918203684832716283019655932542976 := by
    intro j hj
    obtain ⟨k, hk⟩ : ∃ k, j + k = 14 := ⟨14 - j, by omega⟩
    have := dbl_14 (h * 281474976710656)
    exact dbl_back 1461501637330902918203684832716283019655932542976 (h * 281474976710656) (by omega) (by omega) j k (by rw [hk, this]; omega) (by rw [hk, this]; omega)
  have HD := fun (j : Nat) (hj : j ≤ 14) W => double_n (dbl j (h * 281474976710656)) W (hbd j hj).1 (hbd j hj).2
  have HT := fun W => add_n (h * 4611686018427387904) l W (by omega) (by omega) (by omega) (by omega)
  have h14 : dbl 14 (h * 281474976710656) = h * 4611686018427387904 := by rw [dbl_14]; omega
  have H14 := Lib.hid h14
  generalize h * 281474976710656 = u at *
  generalize h * 4611686018427387904 = t at *
  have HDD := Lib.hid HD
  clear h0 h1 l0 l1 hbd h14 HD
  go_enter Tryd.func20, Tryd.ntmps20
  have hB := below2 w (.cells #[.int .i64 h, .int .i64 l] 40) (.cells zeros11 27)
  have hR : ((w.alloc (.cells #[.int .i64 h, .int .i64 l] 40)).alloc (.cells zeros11 27)).there (w.heap.size + 1) 0 11 := by
    have t := there_new (w.alloc (.cells #[.int .i64 h, .int .i64 l] 40)) zeros11 27
    simp only [World.size_alloc] at t
    exact t
  have hL : ((w.alloc (.cells #[.int .i64 h, .int .i64 l] 40)).alloc (.cells zeros11 27)).rangeAt w.heap.size 1 [.int .i64 l] := rangeAt_part (World.rangeAt_alloc (rangeAt_new w #[.int .i64 h, .int .i64 l] 40) (.cells zeros11 27)) 1
  have HR := Lib.hid hR
  have HL0 := Lib.hid hL
  clear hR hL
  go_wp2_with fail
  refine (HO _).mono ?_
  rintro e w1 ⟨rfl, hb⟩
  have hR1 := Lib.hid (there_later HR.out (by omega) hb)
  have hL1 := Lib.hid (rangeAt_later HL0.out hb)
  have hB1 := Lib.hid (chainB' hB hb (by simp; omega))
  have hs1 : w.heap.size + 1 + 1 ≤ w1.heap.size := by have := hb.size; simpa only [World.size_alloc] using this
  clear HR HL0 hB hb
  go_wp2_with (first | (refine wpList_store_mid rfl 27 _ _ rfl w1.heap.size 0 (sV u) rfl rfl (by exact there_new w1 zeros11 27) (by kernel_rfl) (by exact longV_one _ _) ?_))
  go_loopw [4] (fun i wr => ∃ j : Nat, j ≤ 14 ∧ i = .int .i64 j ∧ wr.rangeAt w1.heap.size 0 (sV (dbl j u)).toList ∧ wr.there w1.heap.size 0 11 ∧ wr.there (w.heap.size + 1) 0 11 ∧ wr.rangeAt w.heap.size 1 [.int .i64 l] ∧ Below w.heap.size w wr ∧ w1.heap.size + 1 ≤ wr.heap.size) (fun i _ => 14 - (intOf i).toNat)
  case atStart => exact ⟨0, by omega, rfl, World.rangeAt_setCells_same _ _ _ _ (there_new w1 zeros11 27), World.there_setCells (there_new w1 zeros11 27) _ _ _, World.there_setCells (World.there_alloc hR1.out _) _ _ _, World.rangeAt_setCells_apart (World.rangeAt_alloc hL1.out _) _ _ _ (.inl (by omega)), setCellsB (hB1.out.alloc (by omega) _) _ _ _ (by omega), by rw [sizeS]; simp⟩
  case round =>
    obtain ⟨j, hj, rfl, hH, hHt, hRt, hl, hb, hsz⟩ := hrel
    have HH := Lib.hid hH
    have HHt := Lib.hid hHt
    have HRt := Lib.hid hRt
    have Hl := Lib.hid hl
    have HB := Lib.hid hb
    have HS := Lib.hid hsz
    clear hH hHt hRt hl hb hsz hR1 hL1 hB1
    by_cases hlt : j < 14
    · have hj0 : (0 : Int) ≤ (j : Int) := by omega
      have hj1 : (j : Int) < 14 := by omega
      go_wp2_with (first | (refine wpList_load_mid rfl 27 _ rfl w1.heap.size 0 rfl (sV (dbl j u)).toList _ (by exact HH.out) Tryd.underlying27 rfl (by kernel_rfl) ?_))
      refine (HDD.out j hj _).mono ?_
      rintro e w2 ⟨rfl, hb2⟩
      have hH2 := Lib.hid (there_later HHt.out (by omega) hb2)
      have hR2 := Lib.hid (there_later HRt.out (by omega) hb2)
      have hL2 := Lib.hid (rangeAt_later Hl.out hb2)
      have hB2 := Lib.hid (chainB' HB.out hb2 (by have := HS.out; omega))
      have hs2 := Lib.hid (Nat.le_trans HS.out hb2.size)
      obtain ⟨w3, hw3⟩ : ∃ w3, w3 = w2.setCells w1.heap.size 0 (sV (dbl j u + dbl j u)).toList := ⟨_, rfl⟩
      have c1 : w3.rangeAt w1.heap.size 0 (sV (dbl (j + 1) u)).toList := by rw [hw3]; exact World.rangeAt_setCells_same _ _ _ _ hH2.out
      have c2 : w3.there w1.heap.size 0 11 := by rw [hw3]; exact World.there_setCells hH2.out _ _ _
      have c3 : w3.there (w.heap.size + 1) 0 11 := by rw [hw3]; exact World.there_setCells hR2.out _ _ _
      have c4 : w3.rangeAt w.heap.size 1 [.int .i64 l] := by rw [hw3]; exact World.rangeAt_setCells_apart hL2.out _ _ _ (.inl (by omega))
      have c5 : Below w.heap.size w w3 := by rw [hw3]; exact setCellsB hB2.out _ _ _ (by omega)
      have c6 : w1.heap.size + 1 ≤ w3.heap.size := by rw [hw3, sizeS]; exact hs2.out
      have HC1 := Lib.hid c1
      have HC2 := Lib.hid c2
      have HC3 := Lib.hid c3
      have HC4 := Lib.hid c4
      have HC5 := Lib.hid c5
      have HC6 := Lib.hid c6
      have HW3 := Lib.hid hw3
      clear HH HHt HRt Hl HB HS hb2 c1 c2 c3 c4 c5 c6 hw3
      go_wp2_with (first | (refine wpList_store_mid rfl 27 _ _ rfl w1.heap.size 0 (sV (dbl j u + dbl j u)) rfl rfl (by exact hH2.out) (by kernel_rfl) (by exact longV_one _ _) ?_; rw [← HW3.out]))
      go_roundw
      case rel => exact ⟨j + 1, by omega, rfl, HC1.out, HC2.out, HC3.out, HC4.out, HC5.out, HC6.out⟩
      case measure => simp [intOf]; omega
    · have hj14 : j = 14 := by omega
      subst hj14
      have hS4 : (fun w' => w'.rangeAt w1.heap.size 0 (sV t).toList ∧ w'.there (w.heap.size + 1) 0 11 ∧ w'.rangeAt w.heap.size 1 [.int .i64 l]) wr.drew := ⟨(World.rangeAt_drew _ _ _ _).2 (by rw [← H14.out]; exact HH.out), (World.there_drew _ _ _ _).2 HRt.out, (World.rangeAt_drew _ _ _ _).2 Hl.out⟩
      have hB4 := (HB.out).drew
      have hs4 : w1.heap.size + 1 ≤ wr.drew.heap.size := HS.out
      clear HH HHt HRt Hl HB HS HDD H14
      go_wp2_with fail
      refine wp_region_held_drew (S := (fun w' => w'.rangeAt w1.heap.size 0 (sV t).toList ∧ w'.there (w.heap.size + 1) 0 11 ∧ w'.rangeAt w.heap.size 1 [.int .i64 l])) (by kernel_rfl) hS4 (fun hHeld => ?_)
      refine wpAnyH_take (i := 0) (oi := { dst := some 14, op := Op.load 27 (Operand.tmp 3), type := 27, pos := "ref.go:90", after := #[], guard := none }) (v := _) rfl (by kernel_rfl) (by kernel_rfl) (by kernel_rfl) (fun _ _ _ h => h) (yieldsIf_load_mid (by rfl) _ _ rfl _ _ rfl _ _ (fun w hSw => hSw.1) Tryd.underlying27 rfl (by kernel_rfl)) (by assumption) ?_
      try simp only [Act.put, List.setIfInBounds_toArray, List.set_cons_zero, List.set_cons_succ]
      refine wpAnyH_take (i := 1) (oi := { dst := some 15, op := Op.fieldAddr 40 (Operand.tmp 1) 1, type := 0, pos := "ref.go:90", after := #[], guard := none }) (v := ?_) rfl (by kernel_rfl) (by kernel_rfl) (by kernel_rfl) (fun _ _ _ h => h) (Or.inl ⟨by rfl, ?_⟩) (by assumption) ?_
      rotate_left
      · intro w hSw
        (try dsimp only at hSw)
        go_simp
        try with_reducible rfl
      try simp only [Act.put, List.setIfInBounds_toArray, List.set_cons_zero, List.set_cons_succ]
      refine wpAnyH_take (i := 2) (oi := { dst := some 16, op := Op.load 2 (Operand.tmp 15), type := 2, pos := "ref.go:90", after := #[{ on := 1, ground := Ground.data }], guard := none }) (v := ?_) rfl (by kernel_rfl) (by kernel_rfl) (by kernel_rfl) (fun _ _ _ h => h) (Or.inl ⟨by rfl, ?_⟩) (by assumption) ?_
      rotate_left
      · intro w hSw
        have hcell := hSw.2.2 0 _ rfl
        go_simp
        try with_reducible rfl
      try simp only [Act.put, List.setIfInBounds_toArray, List.set_cons_zero, List.set_cons_succ]
      refine wpAnyH_ready (rs := [3]) (by kernel_rfl) (by simp) ?_
      refine AllReadyH.cons (o := { dst := some 17, op := Op.call { callee := Callee.value (Operand.func 13), args := #[Operand.tmp 16, Operand.const (Value.int IntKind.i64 0)], argTypes := #[2, 3] }, type := 27, pos := "ref.go:90", after := #[{ on := 2, ground := Ground.data }], guard := none }) rfl (fun K hK => ?_) AllReadyH.nil
      go_simp
      go_at_call 13
      refine (HL _).mono ?_
      rintro e w' ⟨rfl, hb⟩
      refine hK.out _ _ ?_ (fun hHeld => ?_)
      · exact ⟨rangeAt_later hHeld.1 hb, there_later hHeld.2.1 (by omega) hb, rangeAt_later hHeld.2.2 hb⟩
      clear hK K
      try simp only [Act.put, List.setIfInBounds_toArray, List.set_cons_zero, List.set_cons_succ]
      have hB5 := chainB' hB4 hb (by omega)
      have hs5 := hb.size
      clear hb
      refine wpAnyH_ready (rs := [4]) (by kernel_rfl) (by simp) ?_
      refine AllReadyH.cons (o := { dst := some 18, op := Op.call { callee := Callee.value (Operand.func 12), args := #[Operand.tmp 14, Operand.tmp 17], argTypes := #[27, 27] }, type := 27, pos := "ref.go:90", after := #[{ on := 0, ground := Ground.data }, { on := 3, ground := Ground.data }, { on := 3, ground := Ground.chain }], guard := none }) rfl (fun K hK => ?_) AllReadyH.nil
      go_simp
      go_at_call 12
      refine (HT _).mono ?_
      rintro e w' ⟨rfl, hb⟩
      refine hK.out _ _ ?_ (fun hHeld => ?_)
      · exact ⟨rangeAt_later hHeld.1 hb, there_later hHeld.2.1 (by omega) hb, rangeAt_later hHeld.2.2 hb⟩
      clear hK K
      try simp only [Act.put, List.setIfInBounds_toArray, List.set_cons_zero, List.set_cons_succ]
      have hB6 := chainB' hB5 hb (by omega)
      clear hb
      have hHeld0 := hHeld
      refine wpAnyH_ready (rs := [5]) (by kernel_rfl) (by simp) ?_
      refine AllReadyH.cons (o := { dst := none, op := Op.store 27 (Operand.tmp 2) (Operand.tmp 18), type := 0, pos := "ref.go:90", after := #[{ on := 4, ground := Ground.data }, { on := 4, ground := Ground.chain }, { on := 0, ground := Ground.phase }, { on := 1, ground := Ground.phase }, { on := 2, ground := Ground.phase }, { on := 3, ground := Ground.phase }, { on := 4, ground := Ground.phase }], guard := none }) rfl (fun K hK => ?_) AllReadyH.nil
      rw [if_pos (by rfl)]
      refine wp_store_mid 27 _ _ rfl (w.heap.size + 1) 0 (sV (t + l)) rfl rfl hHeld.2.1 (by kernel_rfl) (longV_one _ _) ?_
      refine hK.out _ _ ?_ (fun hHeld => ?_)
      · exact ⟨World.rangeAt_setCells_apart hHeld.1 _ _ _ (.inl (by omega)), World.there_setCells hHeld.2.1 _ _ _, World.rangeAt_setCells_apart hHeld.2.2 _ _ _ (.inl (by omega))⟩
      clear hK K
      try simp only [Act.put, List.setIfInBounds_toArray, List.set_cons_zero, List.set_cons_succ]
      refine wpAnyH_done (by kernel_rfl) ?_ _
      go_wp2
      refine bodyPost_ret (v := .agg (sV (t + l))) ?_ ?_ ?_
      · exact results_cell_mid Tryd.results20 _ _ (w.heap.size + 1) 0 (sV (t + l)).toList _ (by rfl) (World.rangeAt_setCells_same _ _ _ _ hHeld0.2.1) Tryd.underlying27 rfl (by kernel_rfl)
      · rfl
      · exact ⟨rfl, setCellsB hB6 _ _ _ (by omega)⟩
end Go.Proofs.YtmfmdcapanaajaaDoor
