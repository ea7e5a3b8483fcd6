/- Numbers of a sign and a row of ten digits: twice it, less, the same. -/
import Derived.Test.YtmfmdcapanaajaaDoorNeg
namespace Go.Proofs.YtmfmdcapanaajaaDoor
open Go Go.RowKit Go.Sort
attribute [local go_sem ↓] Go.wp_at_zero Go.wp_at_succ

set_option maxRecDepth 100000 in
set_option maxHeartbeats 4000000 in
theorem double_n (v : Int) (w : World) (v0 : -1461501637330902918203684832716283019655932542976 < v) (v1 : v < 1461501637330902918203684832716283019655932542976) :
    Calls Tryd.prog 35 #[.agg (sV v)] w fun e w' => e = .returned (.agg (sV (v + v))) ∧ Below w.heap.size w w' := by
  have HC := fun W => add_n v v W v0 v1 v0 v1
  clear v0 v1
  go_enter Tryd.func35, Tryd.ntmps35
  have hS := start2 w (decide (v < 0)) (absZ v)
  have hB := below2 w (.cells (sV v) 27) (.cells zeros11 27)
  have HS := Lib.hid hS
  clear hS
  go_wp2_with (first | (refine wpList_load_mid rfl 27 _ rfl w.heap.size 0 rfl (sV v).toList _ (by exact HS.out.1) Tryd.underlying27 rfl (by kernel_rfl) ?_))
  refine (HC _).mono ?_
  rintro e w1 ⟨rfl, hb⟩
  have hR := there_later HS.out.2 (by omega) hb
  have hB1 := chainB' hB hb (by simp; omega)
  clear hB hb
  have HR := Lib.hid hR
  have HB1 := Lib.hid hB1
  clear hR hB1
  go_wp2_with (first | (refine wpList_store_mid rfl 27 _ _ rfl (w.heap.size + 1) 0 (sV (v + v)) rfl rfl (by exact HR.out) (by kernel_rfl) (by exact longV_one _ _) ?_))
  refine bodyPost_ret (v := .agg (sV (v + v))) ?_ ?_ ?_
  · exact results_cell_mid Tryd.results35 _ _ (w.heap.size + 1) 0 (sV (v + v)).toList _ (by rfl) (World.rangeAt_setCells_same _ _ _ _ HR.out) Tryd.underlying27 rfl (by kernel_rfl)
  · rfl
  · exact ⟨rfl, setCellsB HB1.out _ _ _ (by omega)⟩
theorem start2b (w : World) (m n : Bool) (x y : Int) :
    ((w.alloc (.cells (longV m x) 27)).alloc (.cells (longV n y) 27)).rangeAt w.heap.size 0 (longV m x).toList ∧ ((w.alloc (.cells (longV m x) 27)).alloc (.cells (longV n y) 27)).rangeAt (w.heap.size + 1) 0 (longV n y).toList := by
  have s1 := rangeAt_new w (longV m x) 27
  have s3 := rangeAt_new (w.alloc (.cells (longV m x) 27)) (longV n y) 27
  simp only [World.size_alloc] at s3
  exact ⟨World.rangeAt_alloc s1 _, s3⟩
theorem field_D (m : Bool) (x : Int) (w : World) : (Instr.field 27 (.agg (longV m x)) 1).run Tryd.prog w = .ok (.agg (rowG x)) w := by
  kernel_rfl
set_option maxRecDepth 100000 in
set_option maxHeartbeats 4000000 in
theorem same_n (x y : Int) (w : World) (x0 : -1461501637330902918203684832716283019655932542976 < x) (x1 : x < 1461501637330902918203684832716283019655932542976) (y0 : -1461501637330902918203684832716283019655932542976 < y) (y1 : y < 1461501637330902918203684832716283019655932542976) (d0 : -1461501637330902918203684832716283019655932542976 < x - y) (d1 : x - y < 1461501637330902918203684832716283019655932542976) :
    Calls Tryd.prog 29 #[.agg (sV x), .agg (sV y)] w fun e w' => e = .returned (.bool (decide (absZ (x + -y) = 0))) ∧ Below w.heap.size w w' := by
  have HN := fun W => neg_n y W y0 y1
  have HA := fun W => add_n x (-y) W x0 x1 (by omega) (by omega)
  have HZ := fun W => zeroG_any (absZ (x + -y)) W (by unfold absZ; split <;> omega) (by unfold absZ; split <;> omega)
  clear x0 x1 y0 y1 d0 d1
  go_enter Tryd.func29, Tryd.ntmps29
  have hS := start2b w (decide (x < 0)) (decide (y < 0)) (absZ x) (absZ y)
  have hB := (below2 w (.cells (sV x) 27) (.cells (sV y) 27)).drew
  have hs := sizeA2 w (.cells (sV x) 27) (.cells (sV y) 27)
  have hS4 : (fun w' => w'.rangeAt w.heap.size 0 (sV x).toList ∧ w'.rangeAt (w.heap.size + 1) 0 (sV y).toList) ((w.alloc (.cells (sV x) 27)).alloc (.cells (sV y) 27)).drew := ⟨(World.rangeAt_drew _ _ _ _).2 hS.1, (World.rangeAt_drew _ _ _ _).2 hS.2⟩
  clear hS
  go_wp2
  generalize ((w.alloc (.cells (sV x) 27)).alloc (.cells (sV y) 27)) = w4 at *
  refine wp_region_held_drew (S := (fun w' => w'.rangeAt w.heap.size 0 (sV x).toList ∧ w'.rangeAt (w.heap.size + 1) 0 (sV y).toList)) (by kernel_rfl) hS4 (fun hHeld => ?_)
  refine wpAnyH_take (i := 0) (oi := { dst := some 5, op := Op.load 27 (Operand.tmp 2), type := 27, pos := "ref.go:100", after := #[], guard := none }) (v := _) rfl (by kernel_rfl) (by kernel_rfl) (by kernel_rfl) (fun _ _ _ h => h) (yieldsIf_load_mid (by rfl) _ _ rfl _ _ rfl _ _ (fun w hSw => hSw.1) Tryd.underlying27 rfl (by kernel_rfl)) (by assumption) ?_
  try simp only [Act.put, List.setIfInBounds_toArray, List.set_cons_zero, List.set_cons_succ]
  refine wpAnyH_take (i := 1) (oi := { dst := some 6, op := Op.load 27 (Operand.tmp 3), type := 27, pos := "ref.go:100", after := #[], guard := none }) (v := _) rfl (by kernel_rfl) (by kernel_rfl) (by kernel_rfl) (fun _ _ _ h => h) (yieldsIf_load_mid (by rfl) _ _ rfl _ _ rfl _ _ (fun w hSw => hSw.2) Tryd.underlying27 rfl (by kernel_rfl)) (by assumption) ?_
  try simp only [Act.put, List.setIfInBounds_toArray, List.set_cons_zero, List.set_cons_succ]
  refine wpAnyH_ready (rs := [2]) (by kernel_rfl) (by simp) ?_
  refine AllReadyH.cons (o := { dst := some 7, op := Op.call { callee := Callee.value (Operand.func 14), args := #[Operand.tmp 6], argTypes := #[27] }, type := 27, pos := "ref.go:100", after := #[{ on := 1, ground := Ground.data }], guard := none }) rfl (fun K hK => ?_) AllReadyH.nil
  go_simp
  go_at_call 14
  refine (HN _).mono ?_
  rintro e w' ⟨rfl, hb⟩
  refine hK.out _ _ ?_ (fun hHeld => ?_)
  · exact ⟨rangeAt_later hHeld.1 hb, rangeAt_later hHeld.2 hb⟩
  clear hK K
  try simp only [Act.put, List.setIfInBounds_toArray, List.set_cons_zero, List.set_cons_succ]
  have hB1 := chainB' hB hb (by omega)
  have hs1 := hb.size
  clear hb
  refine wpAnyH_ready (rs := [3]) (by kernel_rfl) (by simp) ?_
  refine AllReadyH.cons (o := { dst := some 8, op := Op.call { callee := Callee.value (Operand.func 12), args := #[Operand.tmp 5, Operand.tmp 7], argTypes := #[27, 27] }, type := 27, pos := "ref.go:100", after := #[{ on := 0, ground := Ground.data }, { on := 2, ground := Ground.data }, { on := 2, ground := Ground.chain }], guard := none }) rfl (fun K hK => ?_) AllReadyH.nil
  go_simp
  go_at_call 12
  refine (HA _).mono ?_
  rintro e w' ⟨rfl, hb⟩
  refine hK.out _ _ ?_ (fun hHeld => ?_)
  · exact ⟨rangeAt_later hHeld.1 hb, rangeAt_later hHeld.2 hb⟩
  clear hK K
  try simp only [Act.put, List.setIfInBounds_toArray, List.set_cons_zero, List.set_cons_succ]
  have hB2 := chainB' hB1 hb (by omega)
  have hs2 := hb.size
  clear hb
  refine wpAnyH_take (i := 4) (oi := { dst := some 9, op := Op.field 27 (Operand.tmp 8) 1, type := 25, pos := "ref.go:100", after := #[{ on := 3, ground := Ground.data }], guard := none }) (v := .agg (rowG (absZ (x + -y)))) rfl (by kernel_rfl) (by kernel_rfl) (by kernel_rfl) (fun _ _ _ h => h) (Or.inl ⟨by rfl, ?_⟩) (by assumption) ?_
  · intro w hSw
    have hfield := field_D (decide (x + -y < 0)) (absZ (x + -y)) w
    go_simp
    first | done | simp only [hfield, Result.andThen_ok]
  try simp only [Act.put, List.setIfInBounds_toArray, List.set_cons_zero, List.set_cons_succ]
  refine wpAnyH_ready (rs := [5]) (by kernel_rfl) (by simp) ?_
  refine AllReadyH.cons (o := { dst := some 10, op := Op.call { callee := Callee.value (Operand.func 33), args := #[Operand.tmp 9], argTypes := #[25] }, type := 4, pos := "ref.go:100", after := #[{ on := 4, ground := Ground.data }, { on := 3, ground := Ground.chain }], guard := none }) rfl (fun K hK => ?_) AllReadyH.nil
  go_simp
  go_at_call 33
  refine (HZ _).mono ?_
  rintro e w' ⟨rfl, hb⟩
  refine hK.out _ _ ?_ (fun hHeld => ?_)
  · exact ⟨rangeAt_later hHeld.1 hb, rangeAt_later hHeld.2 hb⟩
  clear hK K
  try simp only [Act.put, List.setIfInBounds_toArray, List.set_cons_zero, List.set_cons_succ]
  have hB3 := chainB' hB2 hb (by omega)
  clear hb
  refine wpAnyH_take (i := 6) (oi := { dst := some 4, op := Op.assign (Operand.tmp 10), type := 4, pos := "ref.go:100", after := #[{ on := 5, ground := Ground.data }, { on := 5, ground := Ground.chain }, { on := 0, ground := Ground.phase }, { on := 1, ground := Ground.phase }, { on := 2, ground := Ground.phase }, { on := 3, ground := Ground.phase }, { on := 4, ground := Ground.phase }, { on := 5, ground := Ground.phase }], guard := none }) (v := ?_) rfl (by kernel_rfl) (by kernel_rfl) (by kernel_rfl) (fun _ _ _ h => h) (Or.inl ⟨by rfl, ?_⟩) (by assumption) ?_
  rotate_left
  · intro w hSw
    (try dsimp only at hSw)
    go_simp
    try with_reducible rfl
  try simp only [Act.put, List.setIfInBounds_toArray, List.set_cons_zero, List.set_cons_succ]
  refine wpAnyH_done (by kernel_rfl) ?_ _
  go_wp2
  go_ret
  exact ⟨rfl, hB3⟩
set_option maxRecDepth 100000 in
set_option maxHeartbeats 4000000 in
theorem less_n27 (x y : Int) (w : World) (x0 : -1461501637330902918203684832716283019655932542976 < x) (x1 : x < 1461501637330902918203684832716283019655932542976) (y0 : -1461501637330902918203684832716283019655932542976 < y) (y1 : y < 1461501637330902918203684832716283019655932542976) (d0 : -1461501637330902918203684832716283019655932542976 < x - y) (d1 : x - y < 1461501637330902918203684832716283019655932542976) :
    Calls Tryd.prog 27 #[.agg (sV x), .agg (sV y)] w fun e w' => e = .returned (.bool (decide (x + -y < 0))) ∧ Below w.heap.size w w' := by
  have HN := fun W => neg_n y W y0 y1
  have HA := fun W => add_n x (-y) W x0 x1 (by omega) (by omega)
  have HZ := fun W => zeroG_any (absZ (x + -y)) W (by unfold absZ; split <;> omega) (by unfold absZ; split <;> omega)
  clear x0 x1 y0 y1 d0 d1
  go_enter Tryd.func27, Tryd.ntmps27
  have hS := start2b w (decide (x < 0)) (decide (y < 0)) (absZ x) (absZ y)
  have hB := (below2 w (.cells (sV x) 27) (.cells (sV y) 27)).drew
  have hs := sizeA2 w (.cells (sV x) 27) (.cells (sV y) 27)
  have hS4 : (fun w' => w'.rangeAt w.heap.size 0 (sV x).toList ∧ w'.rangeAt (w.heap.size + 1) 0 (sV y).toList) ((w.alloc (.cells (sV x) 27)).alloc (.cells (sV y) 27)).drew := ⟨(World.rangeAt_drew _ _ _ _).2 hS.1, (World.rangeAt_drew _ _ _ _).2 hS.2⟩
  clear hS
  go_wp2
  generalize ((w.alloc (.cells (sV x) 27)).alloc (.cells (sV y) 27)) = w4 at *
  refine wp_region_held_drew (S := (fun w' => w'.rangeAt w.heap.size 0 (sV x).toList ∧ w'.rangeAt (w.heap.size + 1) 0 (sV y).toList)) (by kernel_rfl) hS4 (fun hHeld => ?_)
  generalize w4.drew = w5 at *
  refine wpAnyH_take (i := 0) (oi := { dst := some 6, op := Op.load 27 (Operand.tmp 2), type := 27, pos := "ref.go:95", after := #[], guard := none }) (v := _) rfl (by kernel_rfl) (by kernel_rfl) (by kernel_rfl) (fun _ _ _ h => h) (yieldsIf_load_mid (by rfl) _ _ rfl _ _ rfl _ _ (fun w hSw => hSw.1) Tryd.underlying27 rfl (by kernel_rfl)) (by assumption) ?_
  try simp only [Act.put, List.setIfInBounds_toArray, List.set_cons_zero, List.set_cons_succ]
  refine wpAnyH_take (i := 1) (oi := { dst := some 7, op := Op.load 27 (Operand.tmp 3), type := 27, pos := "ref.go:95", after := #[], guard := none }) (v := _) rfl (by kernel_rfl) (by kernel_rfl) (by kernel_rfl) (fun _ _ _ h => h) (yieldsIf_load_mid (by rfl) _ _ rfl _ _ rfl _ _ (fun w hSw => hSw.2) Tryd.underlying27 rfl (by kernel_rfl)) (by assumption) ?_
  try simp only [Act.put, List.setIfInBounds_toArray, List.set_cons_zero, List.set_cons_succ]
  refine wpAnyH_ready (rs := [2, 4]) (by kernel_rfl) (by simp) ?_
  refine AllReadyH.cons (o := { dst := some 8, op := Op.call { callee := Callee.value (Operand.func 14), args := #[Operand.tmp 7], argTypes := #[27] }, type := 27, pos := "ref.go:95", after := #[{ on := 1, ground := Ground.data }], guard := none }) rfl (fun K hK => ?_) (AllReadyH.cons (o := { dst := some 5, op := Op.alloc 27, type := 0, pos := "ref.go:95", after := #[], guard := none }) rfl (fun K hK => ?_) AllReadyH.nil)
  · go_simp
    go_at_call 14
    refine (HN _).mono ?_
    rintro e wc2 ⟨rfl, hb⟩
    refine hK.out _ _ ?_ (fun hHeld2 => ?_)
    · exact ⟨rangeAt_later hHeld.1 hb, rangeAt_later hHeld.2 hb⟩
    clear hK K
    have hB2 := chainB' hB hb (by omega)
    have hs2 := hb.size
    clear hHeld hb
    have hHeld := hHeld2
    clear hHeld2
    try simp only [Act.put, List.setIfInBounds_toArray, List.set_cons_zero, List.set_cons_succ]
    refine wpAnyH_ready (rs := [3, 4]) (by kernel_rfl) (by simp) ?_
    refine AllReadyH.cons (o := { dst := some 9, op := Op.call { callee := Callee.value (Operand.func 12), args := #[Operand.tmp 6, Operand.tmp 8], argTypes := #[27, 27] }, type := 27, pos := "ref.go:95", after := #[{ on := 0, ground := Ground.data }, { on := 2, ground := Ground.data }, { on := 2, ground := Ground.chain }], guard := none }) rfl (fun K hK => ?_) (AllReadyH.cons (o := { dst := some 5, op := Op.alloc 27, type := 0, pos := "ref.go:95", after := #[], guard := none }) rfl (fun K hK => ?_) AllReadyH.nil)
    · go_simp
      go_at_call 12
      refine (HA _).mono ?_
      rintro e wc3 ⟨rfl, hb⟩
      refine hK.out _ _ ?_ (fun hHeld2 => ?_)
      · exact ⟨rangeAt_later hHeld.1 hb, rangeAt_later hHeld.2 hb⟩
      clear hK K
      have hB3 := chainB' hB2 hb (by omega)
      have hs3 := hb.size
      clear hHeld hb
      have hHeld := hHeld2
      clear hHeld2
      try simp only [Act.put, List.setIfInBounds_toArray, List.set_cons_zero, List.set_cons_succ]
      refine wpAnyH_ready (rs := [4]) (by kernel_rfl) (by simp) ?_
      refine AllReadyH.cons (o := { dst := some 5, op := Op.alloc 27, type := 0, pos := "ref.go:95", after := #[], guard := none }) rfl (fun K hK => ?_) AllReadyH.nil
      go_simp
      refine hK.out _ _ ?_ (fun hHeld2 => ?_)
      · exact ⟨World.rangeAt_alloc hHeld.1 _, World.rangeAt_alloc hHeld.2 _⟩
      clear hK K
      have hD : (wc3.alloc (.cells zeros11 27)).there wc3.heap.size 0 11 := there_new wc3 zeros11 27
      have hD0 : w.heap.size + 1 < wc3.heap.size := by first | omega | (rw [show wc3.heap.size = w.heap.size + 1 + 1 by exact hs]; omega)
      have hBa := (hB3).alloc (by omega) (.cells zeros11 27)
      have hsa := World.size_alloc wc3 (.cells zeros11 27)
      skip
      obtain ⟨wa, hwa⟩ : ∃ wa, wa = wc3.alloc (.cells zeros11 27) := ⟨_, rfl⟩
      generalize wc3.alloc (.cells zeros11 27) = wb at *
      clear hHeld hwa
      have hHeld := hHeld2
      clear hHeld2
      try simp only [Act.put, List.setIfInBounds_toArray, List.set_cons_zero, List.set_cons_succ]
      refine wpAnyH_ready (rs := [5]) (by kernel_rfl) (by simp) ?_
      refine AllReadyH.cons (o := { dst := none, op := Op.store 27 (Operand.tmp 5) (Operand.tmp 9), type := 0, pos := "ref.go:95", after := #[{ on := 4, ground := Ground.data }, { on := 3, ground := Ground.data }, { on := 3, ground := Ground.chain }, { on := 0, ground := Ground.phase }, { on := 1, ground := Ground.phase }, { on := 2, ground := Ground.phase }, { on := 3, ground := Ground.phase }, { on := 4, ground := Ground.phase }], guard := none }) rfl (fun K hK => ?_) AllReadyH.nil
      rw [if_pos (by rfl)]
      refine wp_store_mid 27 _ _ rfl wc3.heap.size 0 (sV (x + -y)) rfl rfl hD (by kernel_rfl) (longV_one _ _) ?_
      refine hK.out _ _ ?_ (fun hHeld2 => ?_)
      · exact ⟨World.rangeAt_setCells_apart hHeld.1 _ _ _ (.inl (by omega)), World.rangeAt_setCells_apart hHeld.2 _ _ _ (.inl (by omega))⟩
      clear hK K hHeld2
      try simp only [Act.put, List.setIfInBounds_toArray, List.set_cons_zero, List.set_cons_succ]
      refine wpAnyH_done (by kernel_rfl) ?_ _
      have hcell : (wb.setCells wc3.heap.size 0 (sV (x + -y)).toList).cell? ⟨wc3.heap.size, 0, none⟩ = some (.bool (decide (x + -y < 0))) := World.rangeAt_setCells_same wb _ _ (sV (x + -y)).toList hD 0 _ rfl
      have hBz := setCellsB hBa wc3.heap.size 0 (sV (x + -y)).toList (by omega)
      generalize wb.setCells wc3.heap.size 0 (sV (x + -y)).toList = wz at *
      clear hD
      go_wp2
      go_ret
      exact ⟨rfl, hBz⟩
    · go_simp
      refine hK.out _ _ ?_ (fun hHeld2 => ?_)
      · exact ⟨World.rangeAt_alloc hHeld.1 _, World.rangeAt_alloc hHeld.2 _⟩
      clear hK K
      have hD : (wc2.alloc (.cells zeros11 27)).there wc2.heap.size 0 11 := there_new wc2 zeros11 27
      have hD0 : w.heap.size + 1 < wc2.heap.size := by first | omega | (rw [show wc2.heap.size = w.heap.size + 1 + 1 by exact hs]; omega)
      have hBa := (hB2).alloc (by omega) (.cells zeros11 27)
      have hsa := World.size_alloc wc2 (.cells zeros11 27)
      skip
      obtain ⟨wa, hwa⟩ : ∃ wa, wa = wc2.alloc (.cells zeros11 27) := ⟨_, rfl⟩
      generalize wc2.alloc (.cells zeros11 27) = wb at *
      clear hHeld hwa
      have hHeld := hHeld2
      clear hHeld2
      try simp only [Act.put, List.setIfInBounds_toArray, List.set_cons_zero, List.set_cons_succ]
      refine wpAnyH_ready (rs := [3]) (by kernel_rfl) (by simp) ?_
      refine AllReadyH.cons (o := { dst := some 9, op := Op.call { callee := Callee.value (Operand.func 12), args := #[Operand.tmp 6, Operand.tmp 8], argTypes := #[27, 27] }, type := 27, pos := "ref.go:95", after := #[{ on := 0, ground := Ground.data }, { on := 2, ground := Ground.data }, { on := 2, ground := Ground.chain }], guard := none }) rfl (fun K hK => ?_) AllReadyH.nil
      go_simp
      go_at_call 12
      refine (HA _).mono ?_
      rintro e wc3 ⟨rfl, hb⟩
      refine hK.out _ _ ?_ (fun hHeld2 => ?_)
      · exact ⟨rangeAt_later hHeld.1 hb, rangeAt_later hHeld.2 hb⟩
      clear hK K
      have hB3 := chainB' hBa hb (by omega)
      have hs3 := hb.size
      have hD := there_later hD (by omega) hb
      clear hHeld hb
      have hHeld := hHeld2
      clear hHeld2
      try simp only [Act.put, List.setIfInBounds_toArray, List.set_cons_zero, List.set_cons_succ]
      refine wpAnyH_ready (rs := [5]) (by kernel_rfl) (by simp) ?_
      refine AllReadyH.cons (o := { dst := none, op := Op.store 27 (Operand.tmp 5) (Operand.tmp 9), type := 0, pos := "ref.go:95", after := #[{ on := 4, ground := Ground.data }, { on := 3, ground := Ground.data }, { on := 3, ground := Ground.chain }, { on := 0, ground := Ground.phase }, { on := 1, ground := Ground.phase }, { on := 2, ground := Ground.phase }, { on := 3, ground := Ground.phase }, { on := 4, ground := Ground.phase }], guard := none }) rfl (fun K hK => ?_) AllReadyH.nil
      rw [if_pos (by rfl)]
      refine wp_store_mid 27 _ _ rfl wc2.heap.size 0 (sV (x + -y)) rfl rfl hD (by kernel_rfl) (longV_one _ _) ?_
      refine hK.out _ _ ?_ (fun hHeld2 => ?_)
      · exact ⟨World.rangeAt_setCells_apart hHeld.1 _ _ _ (.inl (by omega)), World.rangeAt_setCells_apart hHeld.2 _ _ _ (.inl (by omega))⟩
      clear hK K hHeld2
      try simp only [Act.put, List.setIfInBounds_toArray, List.set_cons_zero, List.set_cons_succ]
      refine wpAnyH_done (by kernel_rfl) ?_ _
      have hcell : (wc3.setCells wc2.heap.size 0 (sV (x + -y)).toList).cell? ⟨wc2.heap.size, 0, none⟩ = some (.bool (decide (x + -y < 0))) := World.rangeAt_setCells_same wc3 _ _ (sV (x + -y)).toList hD 0 _ rfl
      have hBz := setCellsB hB3 wc2.heap.size 0 (sV (x + -y)).toList (by omega)
      generalize wc3.setCells wc2.heap.size 0 (sV (x + -y)).toList = wz at *
      clear hD
      go_wp2
      go_ret
      exact ⟨rfl, hBz⟩
  · go_simp
    refine hK.out _ _ ?_ (fun hHeld2 => ?_)
    · exact ⟨World.rangeAt_alloc hHeld.1 _, World.rangeAt_alloc hHeld.2 _⟩
    clear hK K
    have hD : (w5.alloc (.cells zeros11 27)).there (w.heap.size + 1 + 1) 0 11 := hs ▸ there_new w5 zeros11 27
    have hD0 : w.heap.size + 1 < w5.heap.size := by first | omega | (rw [show w5.heap.size = w.heap.size + 1 + 1 by exact hs]; omega)
    have hBa := (hB).alloc (by omega) (.cells zeros11 27)
    have hsa := World.size_alloc w5 (.cells zeros11 27)
    skip
    obtain ⟨wa, hwa⟩ : ∃ wa, wa = w5.alloc (.cells zeros11 27) := ⟨_, rfl⟩
    generalize w5.alloc (.cells zeros11 27) = wb at *
    clear hHeld hwa
    have hHeld := hHeld2
    clear hHeld2
    try simp only [Act.put, List.setIfInBounds_toArray, List.set_cons_zero, List.set_cons_succ]
    refine wpAnyH_ready (rs := [2]) (by kernel_rfl) (by simp) ?_
    refine AllReadyH.cons (o := { dst := some 8, op := Op.call { callee := Callee.value (Operand.func 14), args := #[Operand.tmp 7], argTypes := #[27] }, type := 27, pos := "ref.go:95", after := #[{ on := 1, ground := Ground.data }], guard := none }) rfl (fun K hK => ?_) AllReadyH.nil
    go_simp
    go_at_call 14
    refine (HN _).mono ?_
    rintro e wc2 ⟨rfl, hb⟩
    refine hK.out _ _ ?_ (fun hHeld2 => ?_)
    · exact ⟨rangeAt_later hHeld.1 hb, rangeAt_later hHeld.2 hb⟩
    clear hK K
    have hB2 := chainB' hBa hb (by omega)
    have hs2 := hb.size
    have hD := there_later hD (by omega) hb
    clear hHeld hb
    have hHeld := hHeld2
    clear hHeld2
    try simp only [Act.put, List.setIfInBounds_toArray, List.set_cons_zero, List.set_cons_succ]
    refine wpAnyH_ready (rs := [3]) (by kernel_rfl) (by simp) ?_
    refine AllReadyH.cons (o := { dst := some 9, op := Op.call { callee := Callee.value (Operand.func 12), args := #[Operand.tmp 6, Operand.tmp 8], argTypes := #[27, 27] }, type := 27, pos := "ref.go:95", after := #[{ on := 0, ground := Ground.data }, { on := 2, ground := Ground.data }, { on := 2, ground := Ground.chain }], guard := none }) rfl (fun K hK => ?_) AllReadyH.nil
    go_simp
    go_at_call 12
    refine (HA _).mono ?_
    rintro e wc3 ⟨rfl, hb⟩
    refine hK.out _ _ ?_ (fun hHeld2 => ?_)
    · exact ⟨rangeAt_later hHeld.1 hb, rangeAt_later hHeld.2 hb⟩
    clear hK K
    have hB3 := chainB' hB2 hb (by omega)
    have hs3 := hb.size
    have hD := there_later hD (by omega) hb
    clear hHeld hb
    have hHeld := hHeld2
    clear hHeld2
    try simp only [Act.put, List.setIfInBounds_toArray, List.set_cons_zero, List.set_cons_succ]
    refine wpAnyH_ready (rs := [5]) (by kernel_rfl) (by simp) ?_
    refine AllReadyH.cons (o := { dst := none, op := Op.store 27 (Operand.tmp 5) (Operand.tmp 9), type := 0, pos := "ref.go:95", after := #[{ on := 4, ground := Ground.data }, { on := 3, ground := Ground.data }, { on := 3, ground := Ground.chain }, { on := 0, ground := Ground.phase }, { on := 1, ground := Ground.phase }, { on := 2, ground := Ground.phase }, { on := 3, ground := Ground.phase }, { on := 4, ground := Ground.phase }], guard := none }) rfl (fun K hK => ?_) AllReadyH.nil
    rw [if_pos (by rfl)]
    refine wp_store_mid 27 _ _ rfl (w.heap.size + 1 + 1) 0 (sV (x + -y)) rfl rfl hD (by kernel_rfl) (longV_one _ _) ?_
    refine hK.out _ _ ?_ (fun hHeld2 => ?_)
    · exact ⟨World.rangeAt_setCells_apart hHeld.1 _ _ _ (.inl (by omega)), World.rangeAt_setCells_apart hHeld.2 _ _ _ (.inl (by omega))⟩
    clear hK K hHeld2
    try simp only [Act.put, List.setIfInBounds_toArray, List.set_cons_zero, List.set_cons_succ]
    refine wpAnyH_done (by kernel_rfl) ?_ _
    have hcell : (wc3.setCells (w.heap.size + 1 + 1) 0 (sV (x + -y)).toList).cell? ⟨(w.heap.size + 1 + 1), 0, none⟩ = some (.bool (decide (x + -y < 0))) := World.rangeAt_setCells_same wc3 _ _ (sV (x + -y)).toList hD 0 _ rfl
    have hBz := setCellsB hB3 (w.heap.size + 1 + 1) 0 (sV (x + -y)).toList (by omega)
    generalize wc3.setCells (w.heap.size + 1 + 1) 0 (sV (x + -y)).toList = wz at *
    clear hD
    go_wp2
    go_ret
    exact ⟨rfl, hBz⟩
end Go.Proofs.YtmfmdcapanaajaaDoor
