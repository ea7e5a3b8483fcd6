/- The checker: does a function's value follow? -/
import Derived.Test.YtgdncnalahdjeaaPair
import Derived.Deep.DeepCutAuto
import Derived.Deep.RegionHeld3
import Derived.RegionTactic
namespace Go.Proofs.Ytgdncnalahdjeaa
open Go Go.RowKit

def linkV (K T A B I J : Int) (P : Option Addr) (L C : Nat) : Value := .agg #[.int .u8 K, .int .i64 T, .int .i64 A, .int .i64 B, .int .i64 I, .int .i64 J, .slice P L C]
def appB (n : Nat) (d : VD) (ts : List (Int × Int)) (A B : Int) (L : Nat) (V : Nat → Int) : Bool :=
  isV n A && isV n B && decide (0 ≤ d.F A.toNat) && d.F A.toNat == d.F B.toNat && decide (d.L A.toNat = d.L B.toNat) && decide (L = d.L A.toNat) && !anyB L (fun k => !(atL ts (V k) == ((d.V A.toNat k, d.V B.toNat k), true)))
set_option maxRecDepth 100000 in
set_option maxHeartbeats 2000000 in
theorem applies_in (c : Nat) (T M : Option Nat) (p : Option Addr) (n cv : Nat) (d : VD) (q : Option Addr) (m ca : Nat) (ts : List (Int × Int)) (ls : List Int) (K Tt I J : Int) (ai bi : Nat) (P : Option Addr) (L C : Nat) (V : Nat → Int) (w : World) (h : CheckerAt w c T M p n cv q m ca ts ls) (hd : VertsIn w p n d) (hn : n ≤ 20000) (hl : ts.length ≤ 1000000) (hV : LitsIn w P L V) (hL : L ≤ 9223372036854775807) (hA : ai < n) (hB : bi < n) :
    Calls Try.prog 105 #[.pointer (some ⟨c, 0, none⟩), linkV K Tt ai bi I J P L C] w fun e w' => e = .returned (.bool (appB n d ts ai bi L V)) ∧ Below w.heap.size w w' := by
  unfold linkV
  have hB0 := below1 w (.cells #[.int .u8 K, .int .i64 Tt, .int .i64 ai, .int .i64 bi, .int .i64 I, .int .i64 J, .slice P L C] 57)
  have h1 := h.later hB0
  have c0 := h1.c0
  obtain ⟨b, off, rfl, hv⟩ := hd (by omega)
  have hv1 := hv.later hB0
  have a0 := hv1.f ai hA
  have a1 := hv1.p ai hA
  obtain ⟨_, a2, rfl⟩ := hv1.s ai hA
  have a3 := hv1.x ai hA
  have a4 := hv1.o ai hA
  have b0 := hv1.f bi hB
  have b1 := hv1.p bi hB
  obtain ⟨_, b2, rfl⟩ := hv1.s bi hB
  have b3 := hv1.x bi hB
  have b4 := hv1.o bi hB
  have ia : isV n (ai : Int) = true := by rw [isV_iff]; omega
  have ib : isV n (bi : Int) = true := by rw [isV_iff]; omega
  have HAPP := Lib.hid (show appB n d ts ai bi L V = (decide (0 ≤ d.F ai) && d.F ai == d.F bi && decide (d.L ai = d.L bi) && decide (L = d.L ai) && !anyB L (fun k => !(atL ts (V k) == ((d.V ai k, d.V bi k), true)))) from by unfold appB; rw [ia, ib]; simp only [Int.toNat_natCast, Bool.true_and])
  have ha0 : (0 : Int) ≤ (ai : Int) := by omega
  have ha1 : (ai : Int) < (n : Int) := by omega
  have hb0 : (0 : Int) ≤ (bi : Int) := by omega
  have hb1 : (bi : Int) < (n : Int) := by omega
  have H := Lib.hid h
  have HD := Lib.hid hv
  have HV := Lib.hid hV
  have HB0 := Lib.hid hB0
  clear h h1 hd hv hv1 hV hB0
  go_enter Try.func105, Try.ntmps105
  go_wp2
  go_quiet ((go_at_call 65; exact Calls.quiet_of_same (isVertex_any _ _ _ _ _)))
  go_upto_region 3 with fail
  go_cut [5, 6] (fun s5 s6 wx => ∃ D5 D6 : Nat, s5 = .pointer (some ⟨D5, 0, none⟩) ∧ s6 = .pointer (some ⟨D6, 0, none⟩) ∧ wx.cell? ⟨D5, 0, none⟩ = some (.int .i64 (d.F ai)) ∧ wx.cell? ⟨D5, 1, none⟩ = some (.slice (d.P ai) (d.L ai) (d.C ai)) ∧ wx.cell? ⟨D6, 0, none⟩ = some (.int .i64 (d.F bi)) ∧ wx.cell? ⟨D6, 1, none⟩ = some (.slice (d.P bi) (d.L bi) (d.C bi)) ∧ wx.cell? ⟨w.heap.size, 6, none⟩ = some (.slice P L C) ∧ Below w.heap.size w wx)
  case first =>
    have e2 : ((w.alloc (.cells #[.int .u8 K, .int .i64 Tt, .int .i64 ai, .int .i64 bi, .int .i64 I, .int .i64 J, .slice P L C] 57))).cell? ⟨w.heap.size, 2, none⟩ = some (.int .i64 ai) := by simp [go_sem]
    have e3 : ((w.alloc (.cells #[.int .u8 K, .int .i64 Tt, .int .i64 ai, .int .i64 bi, .int .i64 I, .int .i64 J, .slice P L C] 57))).cell? ⟨w.heap.size, 3, none⟩ = some (.int .i64 bi) := by simp [go_sem]
    have e6 : ((w.alloc (.cells #[.int .u8 K, .int .i64 Tt, .int .i64 ai, .int .i64 bi, .int .i64 I, .int .i64 J, .slice P L C] 57))).cell? ⟨w.heap.size, 6, none⟩ = some (.slice P L C) := by simp [go_sem]
    generalize (w.alloc (.cells #[.int .u8 K, .int .i64 Tt, .int .i64 ai, .int .i64 bi, .int .i64 I, .int .i64 J, .slice P L C] 57)) = w0 at *
    have hq := below_drewN w0 nq
    replace c0 := cell_later hq c0
    replace a0 := cell_later hq a0
    replace a1 := cell_later hq a1
    replace a2 := cell_later hq a2
    replace a3 := cell_later hq a3
    replace a4 := cell_later hq a4
    replace b0 := cell_later hq b0
    replace b1 := cell_later hq b1
    replace b2 := cell_later hq b2
    replace b3 := cell_later hq b3
    replace b4 := cell_later hq b4
    replace e2 := cell_later hq e2
    replace e3 := cell_later hq e3
    replace e6 := cell_later hq e6
    have HB1 := Lib.hid (chain HB0.out hq)
    clear hq
    generalize w0.drewN nq = w1 at *
    refine wp_region_held_drew (S := (fun w' => Below w1.heap.size w1 w')) (by kernel_rfl) ((Below.refl _ _).drew) (fun hHeld => ?_)
    refine wpAnyH_take (i := 0) (oi := { dst := some 29, op := Op.move (Operand.tmp 0), type := 111, pos := "links.go:163", after := #[], guard := none }) (v := ?_) rfl (by kernel_rfl) (by kernel_rfl) (by kernel_rfl) (fun _ _ _ h => h) (Or.inl ⟨by rfl, ?_⟩) (by assumption) ?_
    rotate_left
    · intro w hSw
      (try dsimp only at hSw)
      go_simp
      try with_reducible rfl
    try simp only [Act.put, List.setIfInBounds_toArray, List.set_cons_zero, List.set_cons_succ]
    refine wpAnyH_take (i := 1) (oi := { dst := some 30, op := Op.nilCheck (Operand.tmp 29), type := 0, pos := "links.go:163", after := #[{ on := 0, ground := Ground.data }], guard := none }) (v := ?_) rfl (by kernel_rfl) (by kernel_rfl) (by kernel_rfl) (fun _ _ _ h => h) (Or.inl ⟨by rfl, ?_⟩) (by assumption) ?_
    rotate_left
    · intro w hSw
      (try dsimp only at hSw)
      go_simp
      try with_reducible rfl
    try simp only [Act.put, List.setIfInBounds_toArray, List.set_cons_zero, List.set_cons_succ]
    refine wpAnyH_take (i := 2) (oi := { dst := some 31, op := Op.fieldAddr 89 (Operand.tmp 30) 0, type := 0, pos := "links.go:163", after := #[{ on := 1, ground := Ground.data }], guard := none }) (v := ?_) rfl (by kernel_rfl) (by kernel_rfl) (by kernel_rfl) (fun _ _ _ h => h) (Or.inl ⟨by rfl, ?_⟩) (by assumption) ?_
    rotate_left
    · intro w hSw
      (try dsimp only at hSw)
      go_simp
      try with_reducible rfl
    try simp only [Act.put, List.setIfInBounds_toArray, List.set_cons_zero, List.set_cons_succ]
    refine wpAnyH_take (i := 3) (oi := { dst := some 32, op := Op.load 46 (Operand.tmp 31), type := 46, pos := "links.go:163", after := #[{ on := 2, ground := Ground.data }], guard := none }) (v := ?_) rfl (by kernel_rfl) (by kernel_rfl) (by kernel_rfl) (fun _ _ _ h => h) (Or.inl ⟨by rfl, ?_⟩) (by assumption) ?_
    rotate_left
    · intro w hSw
      have hcell0 := cell_later hSw c0
      clear hSw
      go_simp
      try with_reducible rfl
    try simp only [Act.put, List.setIfInBounds_toArray, List.set_cons_zero, List.set_cons_succ]
    refine wpAnyH_take (i := 4) (oi := { dst := some 33, op := Op.fieldAddr 57 (Operand.tmp 3) 2, type := 0, pos := "links.go:163", after := #[], guard := none }) (v := ?_) rfl (by kernel_rfl) (by kernel_rfl) (by kernel_rfl) (fun _ _ _ h => h) (Or.inl ⟨by rfl, ?_⟩) (by assumption) ?_
    rotate_left
    · intro w hSw
      (try dsimp only at hSw)
      go_simp
      try with_reducible rfl
    try simp only [Act.put, List.setIfInBounds_toArray, List.set_cons_zero, List.set_cons_succ]
    refine wpAnyH_take (i := 5) (oi := { dst := some 34, op := Op.load 3 (Operand.tmp 33), type := 3, pos := "links.go:163", after := #[{ on := 4, ground := Ground.data }], guard := none }) (v := ?_) rfl (by kernel_rfl) (by kernel_rfl) (by kernel_rfl) (fun _ _ _ h => h) (Or.inl ⟨by rfl, ?_⟩) (by assumption) ?_
    rotate_left
    · intro w hSw
      have hcell0 := cell_later hSw e2
      clear hSw
      go_simp
      try with_reducible rfl
    try simp only [Act.put, List.setIfInBounds_toArray, List.set_cons_zero, List.set_cons_succ]
    refine wpAnyH_take (i := 6) (oi := { dst := some 35, op := Op.indexAddr 46 (Operand.tmp 32) (Operand.tmp 34), type := 0, pos := "links.go:163", after := #[{ on := 3, ground := Ground.data }, { on := 5, ground := Ground.data }], guard := none }) (v := ?_) rfl (by kernel_rfl) (by kernel_rfl) (by kernel_rfl) (fun _ _ _ h => h) (Or.inl ⟨by rfl, ?_⟩) (by assumption) ?_
    rotate_left
    · intro w hSw
      (try dsimp only at hSw)
      go_simp
      try with_reducible rfl
    try simp only [Act.put, List.setIfInBounds_toArray, List.set_cons_zero, List.set_cons_succ]
    refine wpAnyH_take (i := 7) (oi := { dst := some 36, op := Op.load 84 (Operand.tmp 35), type := 84, pos := "links.go:163", after := #[{ on := 6, ground := Ground.data }], guard := none }) (v := ?_) rfl (by kernel_rfl) (by kernel_rfl) (by kernel_rfl) (fun _ _ _ h => h) (Or.inl ⟨by rfl, ?_⟩) (by assumption) ?_
    rotate_left
    · intro w hSw
      have hcell0 := cell_later hSw a0
      have hcell1 := cell_later hSw a1
      have hcell2 := cell_later hSw a2
      have hcell3 := cell_later hSw a3
      have hcell4 := cell_later hSw a4
      clear hSw
      go_simp
      try with_reducible rfl
    try simp only [Act.put, List.setIfInBounds_toArray, List.set_cons_zero, List.set_cons_succ]
    refine wpAnyH_take (i := 8) (oi := { dst := some 37, op := Op.move (Operand.tmp 0), type := 111, pos := "links.go:163", after := #[{ on := 18, ground := Ground.gcOnly Departure.lateStores }], guard := none }) (v := ?_) rfl (by kernel_rfl) (by kernel_rfl) (by kernel_rfl) (fun _ _ _ h => h) (Or.inl ⟨by rfl, ?_⟩) (by assumption) ?_
    rotate_left
    · intro w hSw
      (try dsimp only at hSw)
      go_simp
      try with_reducible rfl
    try simp only [Act.put, List.setIfInBounds_toArray, List.set_cons_zero, List.set_cons_succ]
    refine wpAnyH_take (i := 9) (oi := { dst := some 38, op := Op.nilCheck (Operand.tmp 37), type := 0, pos := "links.go:163", after := #[{ on := 8, ground := Ground.data }, { on := 18, ground := Ground.gcOnly Departure.lateStores }], guard := none }) (v := ?_) rfl (by kernel_rfl) (by kernel_rfl) (by kernel_rfl) (fun _ _ _ h => h) (Or.inl ⟨by rfl, ?_⟩) (by assumption) ?_
    rotate_left
    · intro w hSw
      (try dsimp only at hSw)
      go_simp
      try with_reducible rfl
    try simp only [Act.put, List.setIfInBounds_toArray, List.set_cons_zero, List.set_cons_succ]
    refine wpAnyH_take (i := 10) (oi := { dst := some 39, op := Op.fieldAddr 89 (Operand.tmp 38) 0, type := 0, pos := "links.go:163", after := #[{ on := 9, ground := Ground.data }, { on := 18, ground := Ground.gcOnly Departure.lateStores }], guard := none }) (v := ?_) rfl (by kernel_rfl) (by kernel_rfl) (by kernel_rfl) (fun _ _ _ h => h) (Or.inl ⟨by rfl, ?_⟩) (by assumption) ?_
    rotate_left
    · intro w hSw
      (try dsimp only at hSw)
      go_simp
      try with_reducible rfl
    try simp only [Act.put, List.setIfInBounds_toArray, List.set_cons_zero, List.set_cons_succ]
    refine wpAnyH_take (i := 11) (oi := { dst := some 40, op := Op.load 46 (Operand.tmp 39), type := 46, pos := "links.go:163", after := #[{ on := 10, ground := Ground.data }, { on := 18, ground := Ground.gcOnly Departure.lateStores }], guard := none }) (v := ?_) rfl (by kernel_rfl) (by kernel_rfl) (by kernel_rfl) (fun _ _ _ h => h) (Or.inl ⟨by rfl, ?_⟩) (by assumption) ?_
    rotate_left
    · intro w hSw
      have hcell0 := cell_later hSw c0
      clear hSw
      go_simp
      try with_reducible rfl
    try simp only [Act.put, List.setIfInBounds_toArray, List.set_cons_zero, List.set_cons_succ]
    refine wpAnyH_take (i := 12) (oi := { dst := some 41, op := Op.fieldAddr 57 (Operand.tmp 3) 3, type := 0, pos := "links.go:163", after := #[{ on := 18, ground := Ground.gcOnly Departure.lateStores }], guard := none }) (v := ?_) rfl (by kernel_rfl) (by kernel_rfl) (by kernel_rfl) (fun _ _ _ h => h) (Or.inl ⟨by rfl, ?_⟩) (by assumption) ?_
    rotate_left
    · intro w hSw
      (try dsimp only at hSw)
      go_simp
      try with_reducible rfl
    try simp only [Act.put, List.setIfInBounds_toArray, List.set_cons_zero, List.set_cons_succ]
    refine wpAnyH_take (i := 13) (oi := { dst := some 42, op := Op.load 3 (Operand.tmp 41), type := 3, pos := "links.go:163", after := #[{ on := 12, ground := Ground.data }, { on := 18, ground := Ground.gcOnly Departure.lateStores }], guard := none }) (v := ?_) rfl (by kernel_rfl) (by kernel_rfl) (by kernel_rfl) (fun _ _ _ h => h) (Or.inl ⟨by rfl, ?_⟩) (by assumption) ?_
    rotate_left
    · intro w hSw
      have hcell0 := cell_later hSw e3
      clear hSw
      go_simp
      try with_reducible rfl
    try simp only [Act.put, List.setIfInBounds_toArray, List.set_cons_zero, List.set_cons_succ]
    refine wpAnyH_take (i := 14) (oi := { dst := some 43, op := Op.indexAddr 46 (Operand.tmp 40) (Operand.tmp 42), type := 0, pos := "links.go:163", after := #[{ on := 11, ground := Ground.data }, { on := 13, ground := Ground.data }, { on := 18, ground := Ground.gcOnly Departure.lateStores }], guard := none }) (v := ?_) rfl (by kernel_rfl) (by kernel_rfl) (by kernel_rfl) (fun _ _ _ h => h) (Or.inl ⟨by rfl, ?_⟩) (by assumption) ?_
    rotate_left
    · intro w hSw
      (try dsimp only at hSw)
      go_simp
      try with_reducible rfl
    try simp only [Act.put, List.setIfInBounds_toArray, List.set_cons_zero, List.set_cons_succ]
    refine wpAnyH_take (i := 15) (oi := { dst := some 44, op := Op.load 84 (Operand.tmp 43), type := 84, pos := "links.go:163", after := #[{ on := 14, ground := Ground.data }, { on := 18, ground := Ground.gcOnly Departure.lateStores }], guard := none }) (v := ?_) rfl (by kernel_rfl) (by kernel_rfl) (by kernel_rfl) (fun _ _ _ h => h) (Or.inl ⟨by rfl, ?_⟩) (by assumption) ?_
    rotate_left
    · intro w hSw
      have hcell0 := cell_later hSw b0
      have hcell1 := cell_later hSw b1
      have hcell2 := cell_later hSw b2
      have hcell3 := cell_later hSw b3
      have hcell4 := cell_later hSw b4
      clear hSw
      go_simp
      try with_reducible rfl
    try simp only [Act.put, List.setIfInBounds_toArray, List.set_cons_zero, List.set_cons_succ]
    have hD := (Below.refl w1.heap.size w1).drew
    have hsz : w1.drew.heap.size = w1.heap.size := rfl
    generalize w1.drew = w2 at *
    refine wpAnyH_ready (rs := [16, 17]) (by kernel_rfl) (by simp) ?_
    refine AllReadyH.cons (o := { dst := some 5, op := Op.alloc 84, type := 0, pos := "links.go:163", after := #[], guard := none }) rfl (fun K hK => ?_) (AllReadyH.cons (o := { dst := some 6, op := Op.alloc 84, type := 0, pos := "links.go:163", after := #[], guard := none }) rfl (fun K hK => ?_) AllReadyH.nil)
    · go_simp
      refine hK.out _ _ ?_ (fun hHeld2 => ?_)
      · exact hD.alloc (by omega) _
      clear hK K hHeld
      try simp only [Act.put, List.setIfInBounds_toArray, List.set_cons_zero, List.set_cons_succ]
      have hD2 := hD.alloc (by omega) (.cells #[.int .i64 0, .slice none 0 0, .int .i64 0, .int .i64 0, .int .i64 0] 84)
      refine wpAnyH_ready (rs := [17]) (by kernel_rfl) (by simp) ?_
      refine AllReadyH.cons (o := { dst := some 6, op := Op.alloc 84, type := 0, pos := "links.go:163", after := #[], guard := none }) rfl (fun K hK => ?_) AllReadyH.nil
      go_simp
      refine hK.out _ _ ?_ (fun hHeld3 => ?_)
      · exact hD2.alloc (by simp; omega) _
      clear hK K hHeld2
      try simp only [Act.put, List.setIfInBounds_toArray, List.set_cons_zero, List.set_cons_succ]
      have hD3 := hD2.alloc (by simp; omega) (.cells #[.int .i64 0, .slice none 0 0, .int .i64 0, .int .i64 0, .int .i64 0] 84)
      refine wpAnyH_ready (rs := [18]) (by kernel_rfl) (by simp) ?_
      refine AllReadyH.cons (o := { dst := none, op := Op.store 84 (Operand.tmp 5) (Operand.tmp 36), type := 0, pos := "links.go:163", after := #[{ on := 16, ground := Ground.data }, { on := 7, ground := Ground.data }, { on := 0, ground := Ground.phase }, { on := 1, ground := Ground.phase }, { on := 2, ground := Ground.phase }, { on := 3, ground := Ground.phase }, { on := 4, ground := Ground.phase }, { on := 5, ground := Ground.phase }, { on := 6, ground := Ground.phase }, { on := 7, ground := Ground.phase }, { on := 8, ground := Ground.textOnly Departure.lateStores }, { on := 9, ground := Ground.textOnly Departure.lateStores }, { on := 10, ground := Ground.textOnly Departure.lateStores }, { on := 11, ground := Ground.textOnly Departure.lateStores }, { on := 12, ground := Ground.textOnly Departure.lateStores }, { on := 13, ground := Ground.textOnly Departure.lateStores }, { on := 14, ground := Ground.textOnly Departure.lateStores }, { on := 15, ground := Ground.textOnly Departure.lateStores }, { on := 16, ground := Ground.phase }, { on := 17, ground := Ground.phase }], guard := none }) rfl (fun K hK => ?_) AllReadyH.nil
      go_simp
      refine hK.out _ _ ?_ (fun hHeld4 => ?_)
      · exact (hD.alloc (by omega) _).alloc (by simp; omega) _
      clear hK K hHeld3
      try simp only [Act.put, List.setIfInBounds_toArray, List.set_cons_zero, List.set_cons_succ]
      refine wpAnyH_ready (rs := [19]) (by kernel_rfl) (by simp) ?_
      refine AllReadyH.cons (o := { dst := none, op := Op.store 84 (Operand.tmp 6) (Operand.tmp 44), type := 0, pos := "links.go:163", after := #[{ on := 17, ground := Ground.data }, { on := 15, ground := Ground.data }, { on := 18, ground := Ground.chain }, { on := 0, ground := Ground.phase }, { on := 1, ground := Ground.phase }, { on := 2, ground := Ground.phase }, { on := 3, ground := Ground.phase }, { on := 4, ground := Ground.phase }, { on := 5, ground := Ground.phase }, { on := 6, ground := Ground.phase }, { on := 7, ground := Ground.phase }, { on := 8, ground := Ground.phase }, { on := 9, ground := Ground.phase }, { on := 10, ground := Ground.phase }, { on := 11, ground := Ground.phase }, { on := 12, ground := Ground.phase }, { on := 13, ground := Ground.phase }, { on := 14, ground := Ground.phase }, { on := 15, ground := Ground.phase }, { on := 16, ground := Ground.phase }, { on := 17, ground := Ground.phase }, { on := 18, ground := Ground.phase }], guard := none }) rfl (fun K hK => ?_) AllReadyH.nil
      go_simp
      refine hK.out _ _ ?_ (fun hHeld5 => ?_)
      · exact (hD.alloc (by omega) _).alloc (by simp; omega) _
      clear hK K hHeld4
      try simp only [Act.put, List.setIfInBounds_toArray, List.set_cons_zero, List.set_cons_succ]
      have hfin := HB1.out.trans (hHeld5.mono HB1.out.size)
      have e6' := cell_later hHeld5 e6
      refine wpAnyH_done (by kernel_rfl) ?_ _
      go_wp2_with fail
      go_meet
      exact ⟨_, _, rfl, rfl, by simp [go_sem, hsz], by simp [go_sem, hsz], by simp [go_sem, hsz], by simp [go_sem, hsz], e6', hfin⟩
    · go_simp
      refine hK.out _ _ ?_ (fun hHeld2 => ?_)
      · exact hD.alloc (by omega) _
      clear hK K hHeld
      try simp only [Act.put, List.setIfInBounds_toArray, List.set_cons_zero, List.set_cons_succ]
      have hD2 := hD.alloc (by omega) (.cells #[.int .i64 0, .slice none 0 0, .int .i64 0, .int .i64 0, .int .i64 0] 84)
      refine wpAnyH_ready (rs := [16]) (by kernel_rfl) (by simp) ?_
      refine AllReadyH.cons (o := { dst := some 5, op := Op.alloc 84, type := 0, pos := "links.go:163", after := #[], guard := none }) rfl (fun K hK => ?_) AllReadyH.nil
      go_simp
      refine hK.out _ _ ?_ (fun hHeld3 => ?_)
      · exact hD2.alloc (by simp; omega) _
      clear hK K hHeld2
      try simp only [Act.put, List.setIfInBounds_toArray, List.set_cons_zero, List.set_cons_succ]
      have hD3 := hD2.alloc (by simp; omega) (.cells #[.int .i64 0, .slice none 0 0, .int .i64 0, .int .i64 0, .int .i64 0] 84)
      refine wpAnyH_ready (rs := [18]) (by kernel_rfl) (by simp) ?_
      refine AllReadyH.cons (o := { dst := none, op := Op.store 84 (Operand.tmp 5) (Operand.tmp 36), type := 0, pos := "links.go:163", after := #[{ on := 16, ground := Ground.data }, { on := 7, ground := Ground.data }, { on := 0, ground := Ground.phase }, { on := 1, ground := Ground.phase }, { on := 2, ground := Ground.phase }, { on := 3, ground := Ground.phase }, { on := 4, ground := Ground.phase }, { on := 5, ground := Ground.phase }, { on := 6, ground := Ground.phase }, { on := 7, ground := Ground.phase }, { on := 8, ground := Ground.textOnly Departure.lateStores }, { on := 9, ground := Ground.textOnly Departure.lateStores }, { on := 10, ground := Ground.textOnly Departure.lateStores }, { on := 11, ground := Ground.textOnly Departure.lateStores }, { on := 12, ground := Ground.textOnly Departure.lateStores }, { on := 13, ground := Ground.textOnly Departure.lateStores }, { on := 14, ground := Ground.textOnly Departure.lateStores }, { on := 15, ground := Ground.textOnly Departure.lateStores }, { on := 16, ground := Ground.phase }, { on := 17, ground := Ground.phase }], guard := none }) rfl (fun K hK => ?_) AllReadyH.nil
      go_simp
      refine hK.out _ _ ?_ (fun hHeld4 => ?_)
      · exact (hD.alloc (by omega) _).alloc (by simp; omega) _
      clear hK K hHeld3
      try simp only [Act.put, List.setIfInBounds_toArray, List.set_cons_zero, List.set_cons_succ]
      refine wpAnyH_ready (rs := [19]) (by kernel_rfl) (by simp) ?_
      refine AllReadyH.cons (o := { dst := none, op := Op.store 84 (Operand.tmp 6) (Operand.tmp 44), type := 0, pos := "links.go:163", after := #[{ on := 17, ground := Ground.data }, { on := 15, ground := Ground.data }, { on := 18, ground := Ground.chain }, { on := 0, ground := Ground.phase }, { on := 1, ground := Ground.phase }, { on := 2, ground := Ground.phase }, { on := 3, ground := Ground.phase }, { on := 4, ground := Ground.phase }, { on := 5, ground := Ground.phase }, { on := 6, ground := Ground.phase }, { on := 7, ground := Ground.phase }, { on := 8, ground := Ground.phase }, { on := 9, ground := Ground.phase }, { on := 10, ground := Ground.phase }, { on := 11, ground := Ground.phase }, { on := 12, ground := Ground.phase }, { on := 13, ground := Ground.phase }, { on := 14, ground := Ground.phase }, { on := 15, ground := Ground.phase }, { on := 16, ground := Ground.phase }, { on := 17, ground := Ground.phase }, { on := 18, ground := Ground.phase }], guard := none }) rfl (fun K hK => ?_) AllReadyH.nil
      go_simp
      refine hK.out _ _ ?_ (fun hHeld5 => ?_)
      · exact (hD.alloc (by omega) _).alloc (by simp; omega) _
      clear hK K hHeld4
      try simp only [Act.put, List.setIfInBounds_toArray, List.set_cons_zero, List.set_cons_succ]
      have hfin := HB1.out.trans (hHeld5.mono HB1.out.size)
      have e6' := cell_later hHeld5 e6
      refine wpAnyH_done (by kernel_rfl) ?_ _
      go_wp2_with fail
      go_meet
      exact ⟨_, _, rfl, rfl, by simp [go_sem, hsz], by simp [go_sem, hsz], by simp [go_sem, hsz], by simp [go_sem, hsz], e6', hfin⟩
  case rest =>
    obtain ⟨D5, D6, rfl, rfl, x0, x1, y0, y1, z6, hb⟩ := hcut
    have HVA := Lib.hid ((HD.out.v ai hA).1)
    have HVB := Lib.hid ((HD.out.v bi hB).1)
    have HLA := Lib.hid ((HD.out.v ai hA).2)
    have HLB := Lib.hid ((HD.out.v bi hB).2)
    have HB := Lib.hid hb
    clear hb c0 a0 a1 a2 a3 a4 b0 b1 b2 b3 b4 ia ib ha0 ha1 hb0 hb1
    obtain ⟨g, hgA⟩ : ∃ g, g = appB n d ts ai bi L V := ⟨_, rfl⟩
    have HGA := Lib.hid hgA
    rw [← hgA] at HAPP
    clear hgA
    obtain ⟨fa, hfa⟩ : ∃ fa, fa = d.F ai := ⟨_, rfl⟩
    obtain ⟨fb, hfb⟩ : ∃ fb, fb = d.F bi := ⟨_, rfl⟩
    obtain ⟨La, hLa⟩ : ∃ La, La = d.L ai := ⟨_, rfl⟩
    obtain ⟨Lb, hLb⟩ : ∃ Lb, Lb = d.L bi := ⟨_, rfl⟩
    obtain ⟨Pa, hPa⟩ : ∃ Pa, Pa = d.P ai := ⟨_, rfl⟩
    obtain ⟨Pb, hPb⟩ : ∃ Pb, Pb = d.P bi := ⟨_, rfl⟩
    obtain ⟨Ca, hCa⟩ : ∃ Ca, Ca = d.C ai := ⟨_, rfl⟩
    obtain ⟨Cb, hCb⟩ : ∃ Cb, Cb = d.C bi := ⟨_, rfl⟩
    rw [← hfa] at x0
    rw [← hfb] at y0
    rw [← hPa, ← hLa, ← hCa] at x1
    rw [← hPb, ← hLb, ← hCb] at y1
    have HG := Lib.hid (show g = (decide (0 ≤ fa) && fa == fb && decide (La = Lb) && decide (L = La) && !anyB L (fun k => !(atL ts (V k) == ((d.V ai k, d.V bi k), true)))) from by rw [hfa, hfb, hLa, hLb]; exact HAPP.out)
    have HVA := Lib.hid (show LitsIn w Pa La (d.V ai) from by rw [hPa, hLa]; exact HVA.out)
    have HVB := Lib.hid (show LitsIn w Pb Lb (d.V bi) from by rw [hPb, hLb]; exact HVB.out)
    have hLam : La ≤ 9223372036854775807 := by rw [hLa]; exact HLA.out
    have hLbm : Lb ≤ 9223372036854775807 := by rw [hLb]; exact HLB.out
    clear hfa hfb hLa hLb hPa hPb hCa hCb HAPP
    have key : fa < 0 ∨ (0 ≤ fa ∧ fa ≠ fb) ∨ (0 ≤ fa ∧ fa = fb ∧ La ≠ Lb) ∨ (0 ≤ fa ∧ fa = fb ∧ La = Lb ∧ L ≠ La) ∨ (0 ≤ fa ∧ fa = fb ∧ La = Lb ∧ L = La) := by omega
    rcases key with k1 | ⟨k1, k2⟩ | ⟨k1, k2, k3⟩ | ⟨k1, k2, k3, k4⟩ | ⟨k1, k2, k3, k4⟩
    · have hg : g = false := by rw [HG.out, decide_eq_false (show ¬ 0 ≤ fa by omega)]; rfl
      subst hg
      clear HG
      have hbz := HB.out
      go_wp2_with fail
      go_ret
      exact ⟨by rw [← HGA.out]; rfl, hbz⟩
    · have hg : g = false := by rw [HG.out, show (fa == fb) = false by simpa using k2]; simp
      subst hg
      clear HG
      have q1 : (fa == fb) = false := by simpa using k2
      have q2 : (fa != fb) = true := by simpa using k2
      clear k2
      have hbz := HB.out
      go_wp2_with fail
      go_ret
      exact ⟨by rw [← HGA.out]; rfl, hbz⟩
    · have hg : g = false := by rw [HG.out, decide_eq_false k3]; simp
      subst hg
      clear HG
      subst k2
      have q1 : ((La : Int) == (Lb : Int)) = false := by rw [beq_eq_false_iff_ne]; omega
      have q2 : ((La : Int) != (Lb : Int)) = true := by rw [bne_iff_ne]; omega
      clear k3
      have hbz := HB.out
      go_wp2_with fail
      go_ret
      exact ⟨by rw [← HGA.out]; rfl, hbz⟩
    · have hg : g = false := by rw [HG.out, decide_eq_false k4]; simp
      subst hg
      clear HG
      subst k2
      subst k3
      have q1 : ((L : Int) == (La : Int)) = false := by rw [beq_eq_false_iff_ne]; omega
      have q2 : ((L : Int) != (La : Int)) = true := by rw [bne_iff_ne]; omega
      clear k4
      have hbz := HB.out
      go_wp2_with fail
      go_ret
      exact ⟨by rw [← HGA.out]; rfl, hbz⟩
    · subst k2
      subst k3
      subst k4
      have HG2 := Lib.hid (show g = !anyB L (fun k => !(atL ts (V k) == ((d.V ai k, d.V bi k), true))) from by rw [HG.out, decide_eq_true k1]; simp)
      clear HG
      have HX := Lib.hid (And.intro x1 y1)
      go_wp2_with fail
      go_loopw [76] (fun i wr => ∃ k : Nat, k ≤ L ∧ i = .int .i64 k ∧ Below wc.heap.size wc wr ∧ ∀ t, t < k → atL ts (V t) = ((d.V ai t, d.V bi t), true)) (fun i _ => L - (intOf i).toNat)
      case atStart => exact ⟨0, by omega, rfl, Below.refl _ _, fun t ht => by omega⟩
      case round =>
        obtain ⟨k, hk, rfl, hb, hin⟩ := hrel
        have HIN := Lib.hid hin
        have HB2 := Lib.hid hb
        clear hin hb
        by_cases hlt : k < L
        · have hk0 : (0 : Int) ≤ (k : Int) := by omega
          have hk1 : (k : Int) < (L : Int) := by omega
          obtain ⟨bv, ov, rfl, hv⟩ := HV.out (by omega)
          obtain ⟨bA, oA, rfl, hvA⟩ := HVA.out (by omega)
          obtain ⟨bB, oB, rfl, hvB⟩ := HVB.out (by omega)
          have hBr := HB.out.trans (HB2.out.mono HB.out.size)
          have cv := (hv.later hBr) k hlt
          have HCA := Lib.hid ((hvA.later hBr) k hlt)
          have HCB := Lib.hid ((hvB.later hBr) k hlt)
          have x1 := cell_later HB2.out HX.out.1
          have y1 := cell_later HB2.out HX.out.2
          have H1 := at_any c T M _ n _ q m ca ts ls (V k) wr (H.out.later hBr) hl
          have HNEW := Lib.hid (show atL ts (V k) = ((d.V ai k, d.V bi k), true) → ∀ t, t < k + 1 → atL ts (V t) = ((d.V ai t, d.V bi t), true) from fun h t ht => by
            by_cases htk : t < k
            · exact HIN.out t htk
            · obtain rfl : t = k := by omega
              exact h)
          have HNO := Lib.hid (show atL ts (V k) ≠ ((d.V ai k, d.V bi k), true) → g = false from fun h => by rw [HG2.out, anyB_yes (f := fun k => !(atL ts (V k) == ((d.V ai k, d.V bi k), true))) k hlt (by simpa using h)]; rfl)
          have HBR := Lib.hid hBr
          clear hv hvA hvB hBr
          generalize atL ts (V k) = r at *
          obtain ⟨⟨rx, ry⟩, rb⟩ := r
          generalize V k = vk at *
          obtain ⟨va, hva⟩ : ∃ va, va = d.V ai k := ⟨_, rfl⟩
          obtain ⟨vb, hvb⟩ : ∃ vb, vb = d.V bi k := ⟨_, rfl⟩
          have HCA := Lib.hid (by rw [hva]; exact HCA.out : wr.cell? ⟨bA, oA + k, none⟩ = some (.int .i64 va))
          have HCB := Lib.hid (by rw [hvb]; exact HCB.out : wr.cell? ⟨bB, oB + k, none⟩ = some (.int .i64 vb))
          have HNEW := Lib.hid (by rw [hva, hvb]; exact HNEW.out : ((rx, ry), rb) = ((va, vb), true) → ∀ t, t < k + 1 → atL ts (V t) = ((d.V ai t, d.V bi t), true))
          have HNO := Lib.hid (by rw [hva, hvb]; exact HNO.out : ((rx, ry), rb) ≠ ((va, vb), true) → g = false)
          clear hva hvb
          have key : rb = false ∨ (rb = true ∧ ¬ (rx = va ∧ ry = vb)) ∨ (rb = true ∧ rx = va ∧ ry = vb) := by cases rb <;> by_cases e1 : rx = va <;> by_cases e2 : ry = vb <;> simp [e1, e2]
          rcases key with rfl | ⟨rfl, e⟩ | ⟨rfl, rfl, rfl⟩
          · have hg : g = false := HNO.out (by simp)
            subst hg
            clear HNEW HNO HG2
            go_wp2_with fail
            refine H1.mono ?_
            rintro e1 w3 ⟨rfl, hb3⟩
            have hb4 := chain hb3 (below1 w3 (.cells #[.int .i64 rx, .int .i64 ry] 113))
            have x1 := cell_later hb4 x1
            have y1 := cell_later hb4 y1
            have ca' := cell_later hb4 HCA.out
            have cb' := cell_later hb4 HCB.out
            have hz0 : (w3.alloc (.cells #[.int .i64 rx, .int .i64 ry] 113)).cell? ⟨w3.heap.size, 0, none⟩ = some (.int .i64 rx) := by simp [go_sem]
            have hz1 : (w3.alloc (.cells #[.int .i64 rx, .int .i64 ry] 113)).cell? ⟨w3.heap.size, 1, none⟩ = some (.int .i64 ry) := by simp [go_sem]
            have HB5 := Lib.hid (HB2.out.trans (hb4.mono HB2.out.size))
            clear hb3 hb4 H1
            go_wp2_with fail
            go_quiet (fail)
            go_wp2_with fail
            go_ret
            exact ⟨by rw [← HGA.out]; rfl, HB.out.trans ((HB5.out.trans ((below_drewN _ _).mono HB5.out.size)).mono HB.out.size)⟩
          · have hg : g = false := HNO.out (by simpa using e)
            subst hg
            clear HNEW HNO HG2
            have hpe := fun W => pair_neq rx ry va vb W
            rw [show (rx == va && ry == vb) = false by rw [Bool.eq_false_iff]; simpa using e] at hpe
            simp only [Bool.not_false] at hpe
            clear e
            go_wp2_with fail
            refine H1.mono ?_
            rintro e1 w3 ⟨rfl, hb3⟩
            have hb4 := chain hb3 (below1 w3 (.cells #[.int .i64 rx, .int .i64 ry] 113))
            have x1 := cell_later hb4 x1
            have y1 := cell_later hb4 y1
            have ca' := cell_later hb4 HCA.out
            have cb' := cell_later hb4 HCB.out
            have hz0 : (w3.alloc (.cells #[.int .i64 rx, .int .i64 ry] 113)).cell? ⟨w3.heap.size, 0, none⟩ = some (.int .i64 rx) := by simp [go_sem]
            have hz1 : (w3.alloc (.cells #[.int .i64 rx, .int .i64 ry] 113)).cell? ⟨w3.heap.size, 1, none⟩ = some (.int .i64 ry) := by simp [go_sem]
            have HB5 := Lib.hid (HB2.out.trans (hb4.mono HB2.out.size))
            clear hb3 hb4 H1
            go_wp2_with fail
            go_quiet (fail)
            go_wp2_with fail
            go_ret
            exact ⟨by rw [← HGA.out]; rfl, HB.out.trans ((HB5.out.trans ((below_drewN _ _).mono HB5.out.size)).mono HB.out.size)⟩
          · have HN := Lib.hid (HNEW.out rfl)
            clear HNEW HNO
            have hpe := fun W => pair_neq rx ry rx ry W
            simp only [beq_self_eq_true, Bool.and_self, Bool.not_true] at hpe
            go_wp2_with fail
            refine H1.mono ?_
            rintro e1 w3 ⟨rfl, hb3⟩
            have hb4 := chain hb3 (below1 w3 (.cells #[.int .i64 rx, .int .i64 ry] 113))
            have x1 := cell_later hb4 x1
            have y1 := cell_later hb4 y1
            have ca' := cell_later hb4 HCA.out
            have cb' := cell_later hb4 HCB.out
            have hz0 : (w3.alloc (.cells #[.int .i64 rx, .int .i64 ry] 113)).cell? ⟨w3.heap.size, 0, none⟩ = some (.int .i64 rx) := by simp [go_sem]
            have hz1 : (w3.alloc (.cells #[.int .i64 rx, .int .i64 ry] 113)).cell? ⟨w3.heap.size, 1, none⟩ = some (.int .i64 ry) := by simp [go_sem]
            have HB5 := Lib.hid (HB2.out.trans (hb4.mono HB2.out.size))
            clear hb3 hb4 H1
            go_wp2_with fail
            go_quiet (fail)
            go_wp2_with fail
            go_roundw
            case rel => exact ⟨k + 1, by omega, by go_num, HB5.out.trans ((below_drewN _ _).mono HB5.out.size), HN.out⟩
            case measure => simp [intOf]; omega
        · obtain rfl : k = L := by omega
          have hg : g = true := by rw [HG2.out, anyB_no (fun i hi => by rw [HIN.out i hi]; simp)]; rfl
          subst hg
          have hbz := HB.out.trans (HB2.out.mono HB.out.size)
          clear HG2
          go_wp2_with fail
          go_ret
          exact ⟨by rw [← HGA.out]; rfl, hbz⟩
end Go.Proofs.Ytgdncnalahdjeaa
