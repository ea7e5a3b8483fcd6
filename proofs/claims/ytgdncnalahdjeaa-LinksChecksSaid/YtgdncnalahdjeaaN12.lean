/- LinksChecks: the law's walk. -/
import Derived.Test.YtgdncnalahdjeaaN11
import Derived.Test.YtgdncnalahdjeaaN2
namespace Go.Proofs.Ytgdncnalahdjeaa
open Go Go.RowKit

theorem largeB_lens {n : Nat} {d : VD} {m N : Nat} {ld : LD} (h : largeB n d m N ld = false) : ∀ i, i < N → ld.L i ≤ 30 := by
  unfold largeB at h
  simp only [Bool.or_eq_false_iff] at h
  intro i hi
  by_cases hc : ld.L i ≤ 30
  · exact hc
  · have := anyB_yes (f := fun i => decide (30 < ld.L i)) i hi (by simp; omega)
    rw [h.2] at this
    cases this
set_option maxRecDepth 100000 in
set_option maxHeartbeats 4000000 in
theorem checks_any (n : Nat) (d : VD) (m : Nat) (a : AD) (ld : LD) (N : Nat) (p : Option Addr) (cv : Nat) (q : Option Addr) (ca : Nat) (s : Option Addr) (cs : Nat) (w : World) (hd : VertsIn w p n d) (ha : AtomsIn w q m a) (hl : LinksIn w s N ld) (hn : n ≤ 9223372036854775807) (hm : m ≤ 9223372036854775807) (hN : N ≤ 9223372036854775807) (hT : ∀ i, i < N → -9223372036854775808 ≤ ld.T i ∧ ld.T i ≤ 9223372036854775807) :
    Calls Try.prog 12 #[.slice p n cv, .slice q m ca, .slice s N cs] w fun e w' => e = .returned (.bool true) ∧ Below w.heap.size w w' := by
  have HK := Lib.hid (fun W => known_any W)
  have H1 := large_any n d m N ld p cv q ca s cs w hd hl hn hm hN
  have HD := Lib.hid hd
  have HA := Lib.hid ha
  have HL := Lib.hid hl
  have HT := Lib.hid hT
  clear hd ha hl hT
  obtain ⟨lb, hlb⟩ : ∃ lb, largeB n d m N ld = lb := ⟨_, rfl⟩
  rw [hlb] at H1
  go_enter Try.func12, Try.ntmps12
  go_wp2_with fail
  refine H1.mono ?_
  rintro e w1 ⟨rfl, hb1⟩
  have HB1 := Lib.hid hb1
  clear hb1 H1
  cases lb with
  | true =>
    clear hlb
    go_wp2_with fail
    refine (HK.out _).mono ?_
    rintro e w2 ⟨rfl, hb2⟩
    have HBK := Lib.hid (chain HB1.out hb2)
    clear hb2
    go_wp2_with fail
    go_ret
    exact ⟨rfl, HBK.out⟩
  | false =>
  have hsz := largeB_no hlb
  have HLL := Lib.hid (largeB_lens hlb)
  clear hlb
  obtain ⟨k, Z, er, hk5, hC1, hC2⟩ := links_fixed n d m a ld N hn (by omega) (by omega) HLL.out HT.out
  have H2 := copyLinks_any s N cs ld w1 (HL.out.later HB1.out) (by omega) HLL.out
  have HC1 := Lib.hid hC1
  have HC2 := Lib.hid hC2
  have hN3 : (N : Int) ≤ 300 := by omega
  clear hC1 hC2
  go_wp2_with fail
  refine H2.mono ?_
  rintro e w2 ⟨⟨s', cs', ld2, rfl, hS, hl2⟩, hb2⟩
  have HB2 := Lib.hid (chain HB1.out hb2)
  have HS := Lib.hid hS
  have HL2 := Lib.hid hl2
  have H3 := HC1.out ld2 hS p cv q ca s' cs' w2 (HD.out.later HB2.out) (HA.out.later HB2.out) hl2
  clear hb2 hS hl2 H2 HB1 HC1
  go_wp2_with fail
  refine H3.mono ?_
  rintro e w3 ⟨⟨r1, c1, rfl, hL1⟩, hb3⟩
  have HB3 := Lib.hid (chain HB2.out hb3)
  have HL23 := Lib.hid (HL2.out.later hb3)
  have HR1 := Lib.hid hL1
  have H4 := HC2.out p cv q ca s cs w3 (HD.out.later HB3.out) (HA.out.later HB3.out) (HL.out.later HB3.out)
  clear hb3 hL1 H3 HC2 HL2 HB2
  go_wp2_with fail
  refine H4.mono ?_
  rintro e w4 ⟨⟨r2, c2, rfl, hL2⟩, hb4⟩
  have HB4 := Lib.hid (chain HB3.out hb4)
  have HL24 := Lib.hid (HL23.out.later hb4)
  have HR2 := Lib.hid (And.intro (HR1.out.later hb4) hL2)
  clear hb4 hL2 H4 HL23 HR1 HB3
  go_wp2_with fail
  go_loopw [38] (fun i wr => ∃ j : Nat, j ≤ N ∧ i = .int .i64 j ∧ Below w4.heap.size w4 wr) (fun i _ => N - (intOf i).toNat)
  case atStart => exact ⟨0, by omega, rfl, Below.refl _ _⟩
  case round =>
    obtain ⟨j, hj, rfl, hb⟩ := hrel
    obtain ⟨wo, rfl⟩ : ∃ wo : World, wo = wr := ⟨_, rfl⟩
    have HB := Lib.hid hb
    have HBO := Lib.hid (chain HB4.out hb)
    clear hb
    by_cases hlt : j < N
    · have hj1 : (j : Int) < (N : Int) := by omega
      have hj2 : (0 : Int) ≤ (j : Int) := by omega
      obtain ⟨b2, off2, rfl, hlk2⟩ := (HL24.out.later HB.out) (by omega)
      obtain ⟨b, off, rfl, hlk⟩ := (HL.out.later HBO.out) (by omega)
      have a0 := hlk2.k j hlt
      have a1 := hlk2.t j hlt
      have a2 := hlk2.a j hlt
      have a3 := hlk2.bb j hlt
      have a4 := hlk2.i j hlt
      have a5 := hlk2.j j hlt
      have a6 := hlk2.p j hlt
      rw [HS.out.k j hlt] at a0
      rw [HS.out.t j hlt] at a1
      rw [HS.out.a j hlt] at a2
      rw [HS.out.bb j hlt] at a3
      rw [HS.out.i j hlt] at a4
      rw [HS.out.jj j hlt] at a5
      rw [HS.out.l j hlt] at a6
      have b0 := hlk.k j hlt
      have b1 := hlk.t j hlt
      have b2' := hlk.a j hlt
      have b3 := hlk.bb j hlt
      have b4 := hlk.i j hlt
      have b5 := hlk.j j hlt
      have b6 := hlk.p j hlt
      have hL30 : (ld.L j : Int) ≤ 30 := by have := HLL.out j hlt; omega
      obtain ⟨P2, hP2⟩ : ∃ x, x = ld2.P j := ⟨_, rfl⟩
      obtain ⟨C2, hC2⟩ : ∃ x, x = ld2.C j := ⟨_, rfl⟩
      rw [← hP2, ← hC2] at a6
      clear hlk hlk2 hP2 hC2
      go_upto_region 9 with (fail)
      go_cut [13, 14] from 41 to 48 (fun s13 s14 wx => ∃ F G : Nat, s13 = .pointer (some ⟨F, 0, none⟩) ∧ s14 = .pointer (some ⟨G, 0, none⟩) ∧ (wx.cell? ⟨F, 0, none⟩ = some (.int .u8 (ld.K j)) ∧ wx.cell? ⟨F, 1, none⟩ = some (.int .i64 (ld.T j)) ∧ wx.cell? ⟨F, 2, none⟩ = some (.int .i64 (ld.A j)) ∧ wx.cell? ⟨F, 3, none⟩ = some (.int .i64 (ld.B j)) ∧ wx.cell? ⟨F, 4, none⟩ = some (.int .i64 (ld.I j)) ∧ wx.cell? ⟨F, 5, none⟩ = some (.int .i64 (ld.J j)) ∧ wx.cell? ⟨F, 6, none⟩ = some (.slice P2 (ld.L j) C2)) ∧ (wx.cell? ⟨G, 0, none⟩ = some (.int .u8 (ld.K j)) ∧ wx.cell? ⟨G, 1, none⟩ = some (.int .i64 (ld.T j)) ∧ wx.cell? ⟨G, 2, none⟩ = some (.int .i64 (ld.A j)) ∧ wx.cell? ⟨G, 3, none⟩ = some (.int .i64 (ld.B j)) ∧ wx.cell? ⟨G, 4, none⟩ = some (.int .i64 (ld.I j)) ∧ wx.cell? ⟨G, 5, none⟩ = some (.int .i64 (ld.J j)) ∧ wx.cell? ⟨G, 6, none⟩ = some (.slice (ld.P j) (ld.L j) (ld.C j))) ∧ Below wo.heap.size wo wx)
      case first =>
        refine wp_region_held_drew (S := (fun w' => Below wo.heap.size wo w')) (by kernel_rfl) ((Below.refl _ _).drew) (fun hHeld => ?_)
        refine wpAnyH_take (i := 0) (oi := { dst := some 41, op := Op.move (Operand.tmp 7), type := 48, pos := "law.go:52", after := #[], guard := none }) (v := ?_) rfl (by kernel_rfl) (by kernel_rfl) (by kernel_rfl) (fun _ _ _ h => h) (Or.inl ⟨by rfl, ?_⟩) (by assumption) ?_
        rotate_left
        · intro w hSw
          (try dsimp only at hSw)
          go_simp
          try with_reducible rfl
        try simp only [Act.put, List.setIfInBounds_toArray, List.set_cons_zero, List.set_cons_succ]
        refine wpAnyH_take (i := 1) (oi := { dst := some 42, op := Op.move (Operand.tmp 12), type := 3, pos := "law.go:52", after := #[], guard := none }) (v := ?_) rfl (by kernel_rfl) (by kernel_rfl) (by kernel_rfl) (fun _ _ _ h => h) (Or.inl ⟨by rfl, ?_⟩) (by assumption) ?_
        rotate_left
        · intro w hSw
          (try dsimp only at hSw)
          go_simp
          try with_reducible rfl
        try simp only [Act.put, List.setIfInBounds_toArray, List.set_cons_zero, List.set_cons_succ]
        refine wpAnyH_take (i := 2) (oi := { dst := some 43, op := Op.indexAddr 48 (Operand.tmp 41) (Operand.tmp 42), type := 0, pos := "law.go:52", after := #[{ on := 0, ground := Ground.data }, { on := 1, ground := Ground.data }], guard := none }) (v := ?_) rfl (by kernel_rfl) (by kernel_rfl) (by kernel_rfl) (fun _ _ _ h => h) (Or.inl ⟨by rfl, ?_⟩) (by assumption) ?_
        rotate_left
        · intro w hSw
          (try dsimp only at hSw)
          go_simp
          try with_reducible rfl
        try simp only [Act.put, List.setIfInBounds_toArray, List.set_cons_zero, List.set_cons_succ]
        refine wpAnyH_take (i := 3) (oi := { dst := some 44, op := Op.load 57 (Operand.tmp 43), type := 57, pos := "law.go:52", after := #[{ on := 2, ground := Ground.data }], guard := none }) (v := ?_) rfl (by kernel_rfl) (by kernel_rfl) (by kernel_rfl) (fun _ _ _ h => h) (Or.inl ⟨by rfl, ?_⟩) (by assumption) ?_
        rotate_left
        · intro w hSw
          have hcell0 := cell_later hSw a0
          have hcell1 := cell_later hSw a1
          have hcell2 := cell_later hSw a2
          have hcell3 := cell_later hSw a3
          have hcell4 := cell_later hSw a4
          have hcell5 := cell_later hSw a5
          have hcell6 := cell_later hSw a6
          clear hSw
          go_simp
          try with_reducible rfl
        try simp only [Act.put, List.setIfInBounds_toArray, List.set_cons_zero, List.set_cons_succ]
        refine wpAnyH_take (i := 4) (oi := { dst := some 45, op := Op.move (Operand.tmp 2), type := 48, pos := "law.go:52", after := #[{ on := 10, ground := Ground.gcOnly Departure.lateStores }], guard := none }) (v := ?_) rfl (by kernel_rfl) (by kernel_rfl) (by kernel_rfl) (fun _ _ _ h => h) (Or.inl ⟨by rfl, ?_⟩) (by assumption) ?_
        rotate_left
        · intro w hSw
          (try dsimp only at hSw)
          go_simp
          try with_reducible rfl
        try simp only [Act.put, List.setIfInBounds_toArray, List.set_cons_zero, List.set_cons_succ]
        refine wpAnyH_take (i := 5) (oi := { dst := some 46, op := Op.move (Operand.tmp 12), type := 3, pos := "law.go:52", after := #[{ on := 10, ground := Ground.gcOnly Departure.lateStores }], guard := none }) (v := ?_) rfl (by kernel_rfl) (by kernel_rfl) (by kernel_rfl) (fun _ _ _ h => h) (Or.inl ⟨by rfl, ?_⟩) (by assumption) ?_
        rotate_left
        · intro w hSw
          (try dsimp only at hSw)
          go_simp
          try with_reducible rfl
        try simp only [Act.put, List.setIfInBounds_toArray, List.set_cons_zero, List.set_cons_succ]
        refine wpAnyH_take (i := 6) (oi := { dst := some 47, op := Op.indexAddr 48 (Operand.tmp 45) (Operand.tmp 46), type := 0, pos := "law.go:52", after := #[{ on := 4, ground := Ground.data }, { on := 5, ground := Ground.data }, { on := 10, ground := Ground.gcOnly Departure.lateStores }], guard := none }) (v := ?_) rfl (by kernel_rfl) (by kernel_rfl) (by kernel_rfl) (fun _ _ _ h => h) (Or.inl ⟨by rfl, ?_⟩) (by assumption) ?_
        rotate_left
        · intro w hSw
          (try dsimp only at hSw)
          go_simp
          try with_reducible rfl
        try simp only [Act.put, List.setIfInBounds_toArray, List.set_cons_zero, List.set_cons_succ]
        refine wpAnyH_take (i := 7) (oi := { dst := some 48, op := Op.load 57 (Operand.tmp 47), type := 57, pos := "law.go:52", after := #[{ on := 6, ground := Ground.data }, { on := 10, ground := Ground.gcOnly Departure.lateStores }], guard := none }) (v := ?_) rfl (by kernel_rfl) (by kernel_rfl) (by kernel_rfl) (fun _ _ _ h => h) (Or.inl ⟨by rfl, ?_⟩) (by assumption) ?_
        rotate_left
        · intro w hSw
          have hcell0 := cell_later hSw b0
          have hcell1 := cell_later hSw b1
          have hcell2 := cell_later hSw b2'
          have hcell3 := cell_later hSw b3
          have hcell4 := cell_later hSw b4
          have hcell5 := cell_later hSw b5
          have hcell6 := cell_later hSw b6
          clear hSw
          go_simp
          try with_reducible rfl
        try simp only [Act.put, List.setIfInBounds_toArray, List.set_cons_zero, List.set_cons_succ]
        have hD := (Below.refl wo.heap.size wo).drew
        have hsz : wo.drew.heap.size = wo.heap.size := rfl
        obtain ⟨w2x, hw2⟩ : ∃ w, w = wo.drew := ⟨_, rfl⟩
        rw [← hw2] at hD hsz hHeld ⊢
        clear hw2
        refine wpAnyH_ready (rs := [8, 9]) (by kernel_rfl) (by simp) ?_
        refine AllReadyH.cons (o := { dst := some 13, op := Op.alloc 57, type := 0, pos := "law.go:52", after := #[], guard := none }) rfl (fun K hK => ?_) (AllReadyH.cons (o := { dst := some 14, op := Op.alloc 57, type := 0, pos := "law.go:52", after := #[], guard := none }) rfl (fun K hK => ?_) AllReadyH.nil)
        · go_simp
          refine hK.out _ _ ?_ (fun hHeld2 => ?_)
          · exact hD.alloc (by omega) _
          clear hK K hHeld
          try simp only [Act.put, List.setIfInBounds_toArray, List.set_cons_zero, List.set_cons_succ]
          have hD2 := hD.alloc (by omega) (.cells #[.int .u8 0, .int .i64 0, .int .i64 0, .int .i64 0, .int .i64 0, .int .i64 0, .slice none 0 0] 57)
          refine wpAnyH_ready (rs := [9]) (by kernel_rfl) (by simp) ?_
          refine AllReadyH.cons (o := { dst := some 14, op := Op.alloc 57, type := 0, pos := "law.go:52", after := #[], guard := none }) rfl (fun K hK => ?_) AllReadyH.nil
          go_simp
          refine hK.out _ _ ?_ (fun hHeld3 => ?_)
          · exact hD2.alloc (by simp; omega) _
          clear hK K hHeld2
          try simp only [Act.put, List.setIfInBounds_toArray, List.set_cons_zero, List.set_cons_succ]
          have hD3 := hD2.alloc (by simp; omega) (.cells #[.int .u8 0, .int .i64 0, .int .i64 0, .int .i64 0, .int .i64 0, .int .i64 0, .slice none 0 0] 57)
          refine wpAnyH_ready (rs := [10]) (by kernel_rfl) (by simp) ?_
          refine AllReadyH.cons (o := { dst := none, op := Op.store 57 (Operand.tmp 13) (Operand.tmp 44), type := 0, pos := "law.go:52", after := #[{ on := 8, ground := Ground.data }, { on := 3, ground := Ground.data }, { on := 0, ground := Ground.phase }, { on := 1, ground := Ground.phase }, { on := 2, ground := Ground.phase }, { on := 3, ground := Ground.phase }, { on := 4, ground := Ground.textOnly Departure.lateStores }, { on := 5, ground := Ground.textOnly Departure.lateStores }, { on := 6, ground := Ground.textOnly Departure.lateStores }, { on := 7, ground := Ground.textOnly Departure.lateStores }, { on := 8, ground := Ground.phase }, { on := 9, ground := Ground.phase }], guard := none }) rfl (fun K hK => ?_) AllReadyH.nil
          go_simp
          refine hK.out _ _ ?_ (fun hHeld4 => ?_)
          · exact (hD.alloc (by omega) _).alloc (by simp; omega) _
          clear hK K hHeld3
          try simp only [Act.put, List.setIfInBounds_toArray, List.set_cons_zero, List.set_cons_succ]
          refine wpAnyH_ready (rs := [11]) (by kernel_rfl) (by simp) ?_
          refine AllReadyH.cons (o := { dst := none, op := Op.store 57 (Operand.tmp 14) (Operand.tmp 48), type := 0, pos := "law.go:52", after := #[{ on := 9, ground := Ground.data }, { on := 7, ground := Ground.data }, { on := 10, ground := Ground.chain }, { on := 0, ground := Ground.phase }, { on := 1, ground := Ground.phase }, { on := 2, ground := Ground.phase }, { on := 3, ground := Ground.phase }, { on := 4, ground := Ground.phase }, { on := 5, ground := Ground.phase }, { on := 6, ground := Ground.phase }, { on := 7, ground := Ground.phase }, { on := 8, ground := Ground.phase }, { on := 9, ground := Ground.phase }, { on := 10, ground := Ground.phase }], guard := none }) rfl (fun K hK => ?_) AllReadyH.nil
          go_simp
          refine hK.out _ _ ?_ (fun hHeld5 => ?_)
          · exact (hD.alloc (by omega) _).alloc (by simp; omega) _
          clear hK K hHeld4
          try simp only [Act.put, List.setIfInBounds_toArray, List.set_cons_zero, List.set_cons_succ]
          refine wpAnyH_done (by kernel_rfl) ?_ _
          go_wp2_with fail
          go_meet
          exact ⟨_, _, rfl, rfl, ⟨by simp [go_sem, hsz], by simp [go_sem, hsz], by simp [go_sem, hsz], by simp [go_sem, hsz], by simp [go_sem, hsz], by simp [go_sem, hsz], by simp [go_sem, hsz]⟩, ⟨by simp [go_sem, hsz], by simp [go_sem, hsz], by simp [go_sem, hsz], by simp [go_sem, hsz], by simp [go_sem, hsz], by simp [go_sem, hsz], by simp [go_sem, hsz]⟩, hHeld5⟩
        · go_simp
          refine hK.out _ _ ?_ (fun hHeld2 => ?_)
          · exact hD.alloc (by omega) _
          clear hK K hHeld
          try simp only [Act.put, List.setIfInBounds_toArray, List.set_cons_zero, List.set_cons_succ]
          have hD2 := hD.alloc (by omega) (.cells #[.int .u8 0, .int .i64 0, .int .i64 0, .int .i64 0, .int .i64 0, .int .i64 0, .slice none 0 0] 57)
          refine wpAnyH_ready (rs := [8]) (by kernel_rfl) (by simp) ?_
          refine AllReadyH.cons (o := { dst := some 13, op := Op.alloc 57, type := 0, pos := "law.go:52", after := #[], guard := none }) rfl (fun K hK => ?_) AllReadyH.nil
          go_simp
          refine hK.out _ _ ?_ (fun hHeld3 => ?_)
          · exact hD2.alloc (by simp; omega) _
          clear hK K hHeld2
          try simp only [Act.put, List.setIfInBounds_toArray, List.set_cons_zero, List.set_cons_succ]
          have hD3 := hD2.alloc (by simp; omega) (.cells #[.int .u8 0, .int .i64 0, .int .i64 0, .int .i64 0, .int .i64 0, .int .i64 0, .slice none 0 0] 57)
          refine wpAnyH_ready (rs := [10]) (by kernel_rfl) (by simp) ?_
          refine AllReadyH.cons (o := { dst := none, op := Op.store 57 (Operand.tmp 13) (Operand.tmp 44), type := 0, pos := "law.go:52", after := #[{ on := 8, ground := Ground.data }, { on := 3, ground := Ground.data }, { on := 0, ground := Ground.phase }, { on := 1, ground := Ground.phase }, { on := 2, ground := Ground.phase }, { on := 3, ground := Ground.phase }, { on := 4, ground := Ground.textOnly Departure.lateStores }, { on := 5, ground := Ground.textOnly Departure.lateStores }, { on := 6, ground := Ground.textOnly Departure.lateStores }, { on := 7, ground := Ground.textOnly Departure.lateStores }, { on := 8, ground := Ground.phase }, { on := 9, ground := Ground.phase }], guard := none }) rfl (fun K hK => ?_) AllReadyH.nil
          go_simp
          refine hK.out _ _ ?_ (fun hHeld4 => ?_)
          · exact (hD.alloc (by omega) _).alloc (by simp; omega) _
          clear hK K hHeld3
          try simp only [Act.put, List.setIfInBounds_toArray, List.set_cons_zero, List.set_cons_succ]
          refine wpAnyH_ready (rs := [11]) (by kernel_rfl) (by simp) ?_
          refine AllReadyH.cons (o := { dst := none, op := Op.store 57 (Operand.tmp 14) (Operand.tmp 48), type := 0, pos := "law.go:52", after := #[{ on := 9, ground := Ground.data }, { on := 7, ground := Ground.data }, { on := 10, ground := Ground.chain }, { on := 0, ground := Ground.phase }, { on := 1, ground := Ground.phase }, { on := 2, ground := Ground.phase }, { on := 3, ground := Ground.phase }, { on := 4, ground := Ground.phase }, { on := 5, ground := Ground.phase }, { on := 6, ground := Ground.phase }, { on := 7, ground := Ground.phase }, { on := 8, ground := Ground.phase }, { on := 9, ground := Ground.phase }, { on := 10, ground := Ground.phase }], guard := none }) rfl (fun K hK => ?_) AllReadyH.nil
          go_simp
          refine hK.out _ _ ?_ (fun hHeld5 => ?_)
          · exact (hD.alloc (by omega) _).alloc (by simp; omega) _
          clear hK K hHeld4
          try simp only [Act.put, List.setIfInBounds_toArray, List.set_cons_zero, List.set_cons_succ]
          refine wpAnyH_done (by kernel_rfl) ?_ _
          go_wp2_with fail
          go_meet
          exact ⟨_, _, rfl, rfl, ⟨by simp [go_sem, hsz], by simp [go_sem, hsz], by simp [go_sem, hsz], by simp [go_sem, hsz], by simp [go_sem, hsz], by simp [go_sem, hsz], by simp [go_sem, hsz]⟩, ⟨by simp [go_sem, hsz], by simp [go_sem, hsz], by simp [go_sem, hsz], by simp [go_sem, hsz], by simp [go_sem, hsz], by simp [go_sem, hsz], by simp [go_sem, hsz]⟩, hHeld5⟩
      case rest =>
      obtain ⟨F, G, rfl, rfl, ⟨x0, x1, x2, x3, x4, x5, x6⟩, ⟨y0, y1, y2, y3, y4, y5, y6⟩, hb⟩ := hcut
      have HBN := Lib.hid (HB.out.trans (hb.mono HB.out.size))
      clear hb a0 a1 a2 a3 a4 a5 a6 b0 b1 b2' b3 b4 b5 b6
      go_wp2_with fail
      go_roundw
      case rel => exact ⟨j + 1, by omega, by go_num, HBN.out⟩
      case measure => simp [intOf]; omega
    · obtain rfl : j = N := by omega
      have HM1 := linksMay_any p n cv d q m ca a wo (HD.out.later HBO.out) hn (HA.out.later HBO.out) hm
      obtain ⟨g, hg⟩ : ∃ g, mayB n d m a = g := ⟨_, rfl⟩
      rw [hg] at HM1
      have HG := Lib.hid hg
      clear hg hlt
      go_wp2_with fail
      refine HM1.mono ?_
      rintro e w5 ⟨rfl, hb5⟩
      have HB5 := Lib.hid (chain HBO.out hb5)
      have HR5 := Lib.hid (And.intro ((HR2.out.1.later HB.out).later hb5) ((HR2.out.2.later HB.out).later hb5))
      have HM2 := refMay17_any p n cv d q m ca a w5 (HD.out.later HB5.out) hn (HA.out.later HB5.out) hm
      rw [HG.out] at HM2
      have hq := fun W => eql_self g W
      clear hb5 HM1
      go_wp2_with fail
      refine HM2.mono ?_
      rintro e w6 ⟨rfl, hw⟩
      obtain rfl := hw.symm
      clear hw
      have H23 := alike_any r1 k c1 Z r2 k c2 Z w5 HR5.out.1 (by omega) HR5.out.2 (by omega)
      rw [alikeB_yes rfl (fun _ _ => rfl)] at H23
      go_wp2_with fail
      refine H23.mono ?_
      rintro e w7 ⟨rfl, hb7⟩
      have HB7 := Lib.hid (chain HB5.out hb7)
      clear hb7 H23 HM2
      go_wp2_with fail
      refine (HK.out _).mono ?_
      rintro e w8 ⟨rfl, hb8⟩
      have HB8 := Lib.hid (chain HB7.out hb8)
      clear hb8
      go_wp2_with fail
      go_ret
      exact ⟨rfl, HB8.out⟩
end Go.Proofs.Ytgdncnalahdjeaa
