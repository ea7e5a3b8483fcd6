/- The checker: a link that is given. -/
import Derived.Test.YtgdncnalahdjeaaL9
namespace Go.Proofs.Ytgdncnalahdjeaa
open Go Go.RowKit

theorem CheckerAt.far {W : World} {c : Nat} {T M : Option Nat} {p : Option Addr} {n cv : Nat} {q : Option Addr} {m ca : Nat} {ts : List (Int × Int)} {ls : List Int} (h : CheckerAt W c T M p n cv q m ca ts ls) (a : Addr) (u : Value) (ha : a.block ≠ c) (hT : T ≠ some a.block) (hM : M ≠ some a.block) : CheckerAt (W.setCell a u) c T M p n cv q m ca ts ls := by
  obtain ⟨r, z, a1, a2, a3⟩ := h.c2
  obtain ⟨r2, z2, b1, b2, b3⟩ := h.c3
  have far : ∀ (x : Addr) (v : Value), x.block = c → W.cell? x = some v → (W.setCell a u).cell? x = some v := fun x v hx hv => set_cell_far hv (fun e => ha (by rw [e]; exact hx))
  refine ⟨far _ _ rfl h.c0, far _ _ rfl h.c1, ⟨r, z, far _ _ rfl a1, a2, ?_⟩, ⟨r2, z2, far _ _ rfl b1, b2, ?_⟩, ?_, ?_, h.ne⟩
  · exact own_blockE a3 (fun k hk hl => Below.heap_setCell _ _ _ _ (fun e => hT (by rw [← a2, hk, e])))
  · exact own_blockE b3 (fun k hk hl => Below.heap_setCell _ _ _ _ (fun e => hM (by rw [← b2, hk, e])))
  · rw [World.frozen?_setCell]; exact h.f2
  · rw [World.frozen?_setCell]; exact h.f3
set_option maxRecDepth 100000 in
set_option maxHeartbeats 3000000 in
theorem concl_given (c : Nat) (T M : Option Nat) (p : Option Addr) (n cv : Nat) (q : Option Addr) (m ca : Nat) (ts : List (Int × Int)) (ls : List Int) (Tt A B I J : Int) (P : Option Addr) (L C : Nat) (w : World) (h : CheckerAt w c T M p n cv q m ca ts ls) (_hl : ts.length ≤ 1000000) (a : AD) (ha : ∀ W, Below c w W → AtomsIn W q m a) (hm : m ≤ 1000000) (l0 : -9223372036854775808 ≤ Tt) (l1 : Tt ≤ 9223372036854775807) (hll : ls.length ≤ 1000000) :
    Calls Try.prog 84 #[.pointer (some ⟨c, 0, none⟩), linkV 1 Tt A B I J P L C] w fun e w' => e = .returned (.tuple #[.agg #[.int .i64 (toldL m a Tt).1.1, .int .i64 (toldL m a Tt).1.2], .bool (toldL m a Tt).2]) ∧ (∃ M', CheckerAt w' c T M' p n cv q m ca ts (ls ++ [Tt])) ∧ Below c w w' := by
  obtain ⟨tx, ty, tb, htt⟩ : ∃ tx ty tb, toldL m a Tt = ((tx, ty), tb) := ⟨_, _, _, rfl⟩
  rw [htt]
  unfold linkV
  obtain ⟨i0, hi, hz0, hz1, hz2⟩ := info54
  have hB0 := (below1 w (.cells #[.int .u8 1, .int .i64 Tt, .int .i64 A, .int .i64 B, .int .i64 I, .int .i64 J, .slice P L C] 57)).trans ((below1 _ (.cells #[.int .i64 0, .int .i64 0] 113)).mono (below1 w (.cells #[.int .u8 1, .int .i64 Tt, .int .i64 A, .int .i64 B, .int .i64 I, .int .i64 J, .slice P L C] 57)).size)
  have h1 := h.later hB0
  have hbl := h.blocks
  have h1c := h.lt
  have HAT := Lib.hid ha
  have HB0 := Lib.hid hB0
  have HBL := Lib.hid hbl
  clear h hB0 ha hbl
  have hcl : c < w.heap.size := h1c
  have z2 : ((w.alloc (.cells #[.int .u8 1, .int .i64 Tt, .int .i64 A, .int .i64 B, .int .i64 I, .int .i64 J, .slice P L C] 57)).alloc (.cells #[.int .i64 0, .int .i64 0] 113)).cell? ⟨w.heap.size, 2, none⟩ = some (.int .i64 A) := by simp [go_sem]
  have z3 : ((w.alloc (.cells #[.int .u8 1, .int .i64 Tt, .int .i64 A, .int .i64 B, .int .i64 I, .int .i64 J, .slice P L C] 57)).alloc (.cells #[.int .i64 0, .int .i64 0] 113)).cell? ⟨w.heap.size, 3, none⟩ = some (.int .i64 B) := by simp [go_sem]
  have x0 : ((w.alloc (.cells #[.int .u8 1, .int .i64 Tt, .int .i64 A, .int .i64 B, .int .i64 I, .int .i64 J, .slice P L C] 57)).alloc (.cells #[.int .i64 0, .int .i64 0] 113)).cell? ⟨w.heap.size + 1, 0, none⟩ = some (.int .i64 0) := by simp [go_sem]
  have x1 : ((w.alloc (.cells #[.int .u8 1, .int .i64 Tt, .int .i64 A, .int .i64 B, .int .i64 I, .int .i64 J, .slice P L C] 57)).alloc (.cells #[.int .i64 0, .int .i64 0] 113)).cell? ⟨w.heap.size + 1, 1, none⟩ = some (.int .i64 0) := by simp [go_sem]
  have f0 : ((w.alloc (.cells #[.int .u8 1, .int .i64 Tt, .int .i64 A, .int .i64 B, .int .i64 I, .int .i64 J, .slice P L C] 57)).alloc (.cells #[.int .i64 0, .int .i64 0] 113)).frozen? ⟨w.heap.size + 1, 0, none⟩ = false := by simp [go_sem]
  have f1 : ((w.alloc (.cells #[.int .u8 1, .int .i64 Tt, .int .i64 A, .int .i64 B, .int .i64 I, .int .i64 J, .slice P L C] 57)).alloc (.cells #[.int .i64 0, .int .i64 0] 113)).frozen? ⟨w.heap.size + 1, 1, none⟩ = false := by simp [go_sem]
  have hzz : w.heap.size + 1 < ((w.alloc (.cells #[.int .u8 1, .int .i64 Tt, .int .i64 A, .int .i64 B, .int .i64 I, .int .i64 J, .slice P L C] 57)).alloc (.cells #[.int .i64 0, .int .i64 0] 113)).heap.size := by simp
  have y0 := h1.c0
  have X0 := Lib.hid x0
  have X1 := Lib.hid x1
  have F0 := Lib.hid f0
  have F1 := Lib.hid f1
  have Z2 := Lib.hid z2
  have Z3 := Lib.hid z3
  have Y0 := Lib.hid y0
  have HZZ := Lib.hid hzz
  clear z2 z3 x0 x1 f0 f1 y0 hzz
  have z1 : ((w.alloc (.cells #[.int .u8 1, .int .i64 Tt, .int .i64 A, .int .i64 B, .int .i64 I, .int .i64 J, .slice P L C] 57)).alloc (.cells #[.int .i64 0, .int .i64 0] 113)).cell? ⟨w.heap.size, 1, none⟩ = some (.int .i64 Tt) := by simp [go_sem]
  have Z1 := Lib.hid z1
  clear z1
  have H1 := Lib.hid h1
  clear h1
  go_enter Try.func84, Try.ntmps84
  go_wp2_with fail
  generalize ((w.alloc (.cells #[.int .u8 1, .int .i64 Tt, .int .i64 A, .int .i64 B, .int .i64 I, .int .i64 J, .slice P L C] 57)).alloc (.cells #[.int .i64 0, .int .i64 0] 113)) = w1 at *
  refine wp_region_held_drew (S := (fun w' : World => w'.cell? ⟨w.heap.size, 1, none⟩ = some (.int .i64 Tt))) (by kernel_rfl) (by rw [World.cell?_drew]; exact Z1.out) (fun hHeld => ?_)
  replace Z1 := Lib.hid (show w1.drew.cell? ⟨w.heap.size, 1, none⟩ = some (.int .i64 Tt) by rw [World.cell?_drew]; exact Z1.out)
  replace H1 := Lib.hid (show CheckerAt w1.drew c T M p n cv q m ca ts ls from H1.out.later ((Below.refl _ _).drew))
  replace X0 := Lib.hid (show w1.drew.cell? ⟨w.heap.size + 1, 0, none⟩ = some (.int .i64 0) by rw [World.cell?_drew]; exact X0.out)
  replace X1 := Lib.hid (show w1.drew.cell? ⟨w.heap.size + 1, 1, none⟩ = some (.int .i64 0) by rw [World.cell?_drew]; exact X1.out)
  replace F0 := Lib.hid (show w1.drew.frozen? ⟨w.heap.size + 1, 0, none⟩ = false from F0.out)
  replace F1 := Lib.hid (show w1.drew.frozen? ⟨w.heap.size + 1, 1, none⟩ = false from F1.out)
  replace HB0 := Lib.hid (HB0.out.drew)
  replace HZZ := Lib.hid (show w.heap.size + 1 < w1.drew.heap.size from HZZ.out)
  generalize w1.drew = w2 at *
  refine wpAnyH_take (i := 0) (oi := { dst := some 16, op := Op.move (Operand.tmp 0), type := 111, pos := "links.go:126", after := #[], guard := none }) (v := ?_) rfl (by kernel_rfl) (by kernel_rfl) (by kernel_rfl) (fun _ _ _ h => h) (Or.inl ⟨by rfl, ?_⟩) (by assumption) ?_
  rotate_left
  · intro w hSw
    (try dsimp only at hSw)
    go_simp
    try with_reducible rfl
  try simp only [Act.put, List.setIfInBounds_toArray, List.set_cons_zero, List.set_cons_succ]
  refine wpAnyH_take (i := 1) (oi := { dst := some 17, op := Op.move (Operand.tmp 0), type := 111, pos := "links.go:126", after := #[], guard := none }) (v := ?_) rfl (by kernel_rfl) (by kernel_rfl) (by kernel_rfl) (fun _ _ _ h => h) (Or.inl ⟨by rfl, ?_⟩) (by assumption) ?_
  rotate_left
  · intro w hSw
    (try dsimp only at hSw)
    go_simp
    try with_reducible rfl
  try simp only [Act.put, List.setIfInBounds_toArray, List.set_cons_zero, List.set_cons_succ]
  refine wpAnyH_take (i := 2) (oi := { dst := some 18, op := Op.nilCheck (Operand.tmp 17), type := 0, pos := "links.go:126", after := #[{ on := 1, ground := Ground.data }], guard := none }) (v := ?_) rfl (by kernel_rfl) (by kernel_rfl) (by kernel_rfl) (fun _ _ _ h => h) (Or.inl ⟨by rfl, ?_⟩) (by assumption) ?_
  rotate_left
  · intro w hSw
    (try dsimp only at hSw)
    go_simp
    try with_reducible rfl
  try simp only [Act.put, List.setIfInBounds_toArray, List.set_cons_zero, List.set_cons_succ]
  refine wpAnyH_take (i := 3) (oi := { dst := some 19, op := Op.fieldAddr 89 (Operand.tmp 18) 3, type := 0, pos := "links.go:126", after := #[{ on := 2, ground := Ground.data }], guard := none }) (v := ?_) rfl (by kernel_rfl) (by kernel_rfl) (by kernel_rfl) (fun _ _ _ h => h) (Or.inl ⟨by rfl, ?_⟩) (by assumption) ?_
  rotate_left
  · intro w hSw
    (try dsimp only at hSw)
    go_simp
    try with_reducible rfl
  try simp only [Act.put, List.setIfInBounds_toArray, List.set_cons_zero, List.set_cons_succ]
  refine wpAnyH_take (i := 5) (oi := { dst := some 21, op := Op.fieldAddr 57 (Operand.tmp 3) 1, type := 0, pos := "links.go:126", after := #[], guard := none }) (v := ?_) rfl (by kernel_rfl) (by kernel_rfl) (by kernel_rfl) (fun _ _ _ h => h) (Or.inl ⟨by rfl, ?_⟩) (by assumption) ?_
  rotate_left
  · intro w hSw
    (try dsimp only at hSw)
    go_simp
    try with_reducible rfl
  try simp only [Act.put, List.setIfInBounds_toArray, List.set_cons_zero, List.set_cons_succ]
  refine wpAnyH_take (i := 6) (oi := { dst := some 22, op := Op.load 54 (Operand.tmp 21), type := 54, pos := "links.go:126", after := #[{ on := 5, ground := Ground.data }], guard := none }) (v := ?_) rfl (by kernel_rfl) (by kernel_rfl) (by kernel_rfl) (fun _ _ _ h => h) (Or.inl ⟨by rfl, ?_⟩) (by assumption) ?_
  rotate_left
  · intro w hSw
    have hcell := hSw
    go_simp
    try with_reducible rfl
  try simp only [Act.put, List.setIfInBounds_toArray, List.set_cons_zero, List.set_cons_succ]
  obtain ⟨rv, zv, cc3, eM, own3⟩ := H1.out.c3
  have hz7 := HZZ.out
  refine wpAnyH_ready (rs := [4, 7]) (by kernel_rfl) (by simp) ?_
  refine AllReadyH.cons (o := { dst := some 20, op := Op.load 23 (Operand.tmp 19), type := 23, pos := "links.go:126", after := #[{ on := 3, ground := Ground.data }], guard := none }) rfl (fun K hK => ?_) (AllReadyH.cons (o := { dst := some 23, op := Op.buildSlice 23 1 #[(0, Operand.tmp 22)], type := 23, pos := "links.go:126", after := #[{ on := 6, ground := Ground.data }], guard := none }) rfl (fun K hK => ?_) AllReadyH.nil)
  · go_simp
    refine hK.out _ _ ?_ (fun hHeld2 => ?_)
    · exact Z1.out
    clear hK K hHeld
    try simp only [Act.put, List.setIfInBounds_toArray, List.set_cons_zero, List.set_cons_succ]
    refine wpAnyH_ready (rs := [7]) (by kernel_rfl) (by simp) ?_
    refine AllReadyH.cons (o := { dst := some 23, op := Op.buildSlice 23 1 #[(0, Operand.tmp 22)], type := 23, pos := "links.go:126", after := #[{ on := 6, ground := Ground.data }], guard := none }) rfl (fun K hK => ?_) AllReadyH.nil
    go_simp
    refine hK.out _ _ ?_ (fun hHeld => ?_)
    · exact cell_later (below1 w2 _) Z1.out
    clear hK K hHeld2
    try simp only [Act.put, List.setIfInBounds_toArray, List.set_cons_zero, List.set_cons_succ]
    have own4 := own_later own3 (below1 w2 (.cells #[.int .i64 Tt] 54))
    have cc4 := cell_later (below1 w2 (.cells #[.int .i64 Tt] 54)) cc3
    have hnew : (w2.alloc (.cells #[.int .i64 Tt] 54)).cell? ⟨w2.heap.size, 0, none⟩ = some (.int .i64 Tt) := by simp [go_sem]
    have HC4 := Lib.hid (H1.out.later (below1 w2 (.cells #[.int .i64 Tt] 54)))
    have hs4 : (w2.alloc (.cells #[.int .i64 Tt] 54)).heap.size = w2.heap.size + 1 := World.size_alloc _ _
    have f3 := HC4.out.f3
    have hlt4 := HC4.out.lt
    have HB4 := Lib.hid (HB0.out.trans ((below1 w2 (.cells #[.int .i64 Tt] 54)).mono HB0.out.size))
    have X4 := Lib.hid (And.intro (cell_later (below1 w2 (.cells #[.int .i64 Tt] 54)) X0.out) (cell_later (below1 w2 (.cells #[.int .i64 Tt] 54)) X1.out))
    have F4 := Lib.hid (And.intro (((below1 w2 (.cells #[.int .i64 Tt] 54)).frozen HZZ.out).trans F0.out) (((below1 w2 (.cells #[.int .i64 Tt] 54)).frozen HZZ.out).trans F1.out))
    have Z4 := Lib.hid (cell_later (below1 w2 (.cells #[.int .i64 Tt] 54)) Z1.out)
    generalize hD : w2.heap.size = D at *
    generalize w2.alloc (.cells #[.int .i64 Tt] 54) = w4 at *
    refine wpAnyH_ready (rs := [8]) (by kernel_rfl) (by simp) ?_
    refine AllReadyH.cons (o := { dst := some 24, op := Op.call { callee := Callee.builtin Builtin.append, args := #[Operand.tmp 20, Operand.tmp 23], argTypes := #[23, 23] }, type := 23, pos := "links.go:126", after := #[{ on := 4, ground := Ground.data }, { on := 7, ground := Ground.data }], guard := none }) rfl (fun K hK => ?_) AllReadyH.nil
    rw [if_pos (by rfl)]
    refine wp_append_own_at _ _ 23 rfl (c + 1) 54 i0 (.int .i64 0) 1 8 Try.underlying23 hi hz0 hz1 hz2 rfl (by omega) _ ls.length (ls.map (Value.int .i64)) rfl own4 ⟨D, 0, none⟩ 1 1 [.int .i64 Tt] rfl rfl ?_ ?_ ?_ ?_ ?_ ?_
    · intro jj u hjj
      rw [Lib.add_plain]
      match jj, hjj with
      | 0, hjj => cases hjj; simpa using hnew
    · intro u hu; simp at hu; rcases hu with rfl; rfl
    · have hml : maxLen = 9223372036854775807 := rfl; omega
    · omega
    · omega
    intro v' w5 hown hgrow hnil hloc
    obtain ⟨r', z', hv'⟩ := own_shape hown
    subst hv'
    have hgM : w4.grownBy w5 M := by rw [← eM]; exact hgrow
    have hMc : M ≠ some c := fun e => by have := (HBL.out.2 c e).1; omega
    have hM0 : ∀ k, w.heap.size ≤ k → M ≠ some k := fun k hk e => by have := (HBL.out.2 k e).2; omega
    have hown' : w5.ownsRow (c + 1) 54 1 (.slice r' (ls ++ [Tt]).length z') (ls ++ [Tt]).length ((ls ++ [Tt]).map (Value.int .i64)) := by simpa using hown
    have hloc2 : (Value.slice r' (ls.length + 1) z').ownBlock = (Value.slice rv ls.length zv).ownBlock ∨ (Value.slice r' (ls.length + 1) z').ownBlock = some w4.heap.size := hloc
    have hlen : (ls ++ [Tt]).length = ls.length + 1 := by simp
    have hloc' : (Value.slice r' (ls ++ [Tt]).length z').ownBlock = M ∨ (Value.slice r' (ls ++ [Tt]).length z').ownBlock = some w4.heap.size := by rw [← eM, hlen]; exact hloc2
    have hP := HC4.out.push3 hgM hown' hloc'
    rw [hlen] at hP hloc'
    have HP := Lib.hid hP
    have hMn : (Value.slice r' (ls.length + 1) z').ownBlock ≠ some (w.heap.size + 1) := by
      intro e
      rcases hloc' with e1 | e1
      · rw [e1] at e; have := (HBL.out.2 _ e).2; omega
      · rw [e1] at e; simp at e; omega
    have HMN := Lib.hid hMn
    clear hP hMn hlen hloc2 hloc' hown'
    have cc5 := grown_cell hgM cc4 hMc
    have f5 := (grown_frozen hgM hlt4 hMc (a := ⟨c, 3, none⟩)).trans f3
    have X5 := Lib.hid (And.intro (grown_cell hgM X4.out.1 (hM0 _ (by show w.heap.size ≤ w.heap.size + 1; omega))) (grown_cell hgM X4.out.2 (hM0 _ (by show w.heap.size ≤ w.heap.size + 1; omega))))
    have F5 := Lib.hid (And.intro ((grown_frozen hgM (a := ⟨w.heap.size + 1, 0, none⟩) (by show w.heap.size + 1 < _; omega) (hM0 _ (by show w.heap.size ≤ w.heap.size + 1; omega))).trans F4.out.1) ((grown_frozen hgM (a := ⟨w.heap.size + 1, 1, none⟩) (by show w.heap.size + 1 < _; omega) (hM0 _ (by show w.heap.size ≤ w.heap.size + 1; omega))).trans F4.out.2))
    have Z5 := Lib.hid (grown_cell hgM Z4.out (hM0 _ (Nat.le_refl _)))
    have HB5 := Lib.hid (((HB4.out.mono (Nat.le_of_lt h1c)).grown hgM (by omega) (fun k hk => Nat.le_of_lt (HBL.out.2 k hk).1)).setCell (p := ⟨c, 3, none⟩) (Nat.le_refl c) (.slice r' (ls.length + 1) z'))
    have hs5 := hgM.size
    refine hK.out _ _ ?_ (fun hHeld3 => ?_)
    · exact Z5.out
    clear hK K hHeld hown hgrow hnil hloc
    try simp only [Act.put, List.setIfInBounds_toArray, List.set_cons_zero, List.set_cons_succ]
    refine wpAnyH_ready (rs := [9]) (by kernel_rfl) (by simp) ?_
    refine AllReadyH.cons (o := { dst := some 25, op := Op.nilCheck (Operand.tmp 16), type := 0, pos := "links.go:126", after := #[{ on := 0, ground := Ground.data }, { on := 0, ground := Ground.phase }, { on := 1, ground := Ground.phase }, { on := 2, ground := Ground.phase }, { on := 3, ground := Ground.phase }, { on := 4, ground := Ground.phase }, { on := 5, ground := Ground.phase }, { on := 6, ground := Ground.phase }, { on := 7, ground := Ground.phase }, { on := 8, ground := Ground.phase }], guard := none }) rfl (fun K hK => ?_) AllReadyH.nil
    go_simp
    refine hK.out _ _ ?_ (fun _ => ?_)
    · exact Z5.out
    clear hK K
    try simp only [Act.put, List.setIfInBounds_toArray, List.set_cons_zero, List.set_cons_succ]
    refine wpAnyH_ready (rs := [10]) (by kernel_rfl) (by simp) ?_
    refine AllReadyH.cons (o := { dst := some 26, op := Op.fieldAddr 89 (Operand.tmp 25) 3, type := 0, pos := "links.go:126", after := #[{ on := 9, ground := Ground.data }, { on := 0, ground := Ground.phase }, { on := 1, ground := Ground.phase }, { on := 2, ground := Ground.phase }, { on := 3, ground := Ground.phase }, { on := 4, ground := Ground.phase }, { on := 5, ground := Ground.phase }, { on := 6, ground := Ground.phase }, { on := 7, ground := Ground.phase }, { on := 8, ground := Ground.phase }], guard := none }) rfl (fun K hK => ?_) AllReadyH.nil
    go_simp
    refine hK.out _ _ ?_ (fun _ => ?_)
    · exact Z5.out
    clear hK K
    try simp only [Act.put, List.setIfInBounds_toArray, List.set_cons_zero, List.set_cons_succ]
    refine wpAnyH_ready (rs := [11]) (by kernel_rfl) (by simp) ?_
    refine AllReadyH.cons (o := { dst := none, op := Op.store 23 (Operand.tmp 26) (Operand.tmp 24), type := 0, pos := "links.go:126", after := #[{ on := 10, ground := Ground.data }, { on := 8, ground := Ground.data }, { on := 8, ground := Ground.chain }, { on := 0, ground := Ground.phase }, { on := 1, ground := Ground.phase }, { on := 2, ground := Ground.phase }, { on := 3, ground := Ground.phase }, { on := 4, ground := Ground.phase }, { on := 5, ground := Ground.phase }, { on := 6, ground := Ground.phase }, { on := 7, ground := Ground.phase }, { on := 8, ground := Ground.phase }], guard := none }) rfl (fun K hK => ?_) AllReadyH.nil
    go_simp
    refine hK.out _ _ ?_ (fun hHeld4 => ?_)
    · exact set_cell_far Z5.out (by simp <;> omega)
    clear hK K hHeld3
    try simp only [Act.put, List.setIfInBounds_toArray, List.set_cons_zero, List.set_cons_succ]
    refine wpAnyH_done (by kernel_rfl) ?_ _
    have Z6 := Lib.hid (hHeld4)
    have x6 := set_cell_far (u := .slice r' (ls.length + 1) z') (p := ⟨c, 3, none⟩) X5.out.1 (by simp <;> omega)
    have x7 := set_cell_far (u := .slice r' (ls.length + 1) z') (p := ⟨c, 3, none⟩) X5.out.2 (by simp <;> omega)
    have X6 := Lib.hid (And.intro x6 x7)
    have F6 := Lib.hid (show (w5.setCell ⟨c, 3, none⟩ (.slice r' (ls.length + 1) z')).frozen? ⟨w.heap.size + 1, 0, none⟩ = false ∧ (w5.setCell ⟨c, 3, none⟩ (.slice r' (ls.length + 1) z')).frozen? ⟨w.heap.size + 1, 1, none⟩ = false from ⟨by rw [World.frozen?_setCell]; exact F5.out.1, by rw [World.frozen?_setCell]; exact F5.out.2⟩)
    have hs6 : (w5.setCell ⟨c, 3, none⟩ (.slice r' (ls.length + 1) z')).heap.size = w5.heap.size := World.size_setCell _ _ _
    clear x6 x7 hHeld4 cc5 f5 cc4 own4 hnew f3 cc3 own3 eM
    generalize (Value.slice r' (ls.length + 1) z').ownBlock = M' at *
    generalize (w5.setCell ⟨c, 3, none⟩ (.slice r' (ls.length + 1) z')) = w6 at *
    have z6 := Z6.out
    have H9 := given_any c T M' p n cv q m ca a ts (ls ++ [Tt]) Tt w6 HP.out (HAT.out _ HB5.out) hm l0 l1
    rw [htt] at H9
    go_wp2_with fail
    refine H9.mono ?_
    rintro e9 w9 ⟨rfl, hb9⟩
    have x0 := cell_later hb9 X6.out.1
    have x1 := cell_later hb9 X6.out.2
    have g0 := (hb9.frozen (p := ⟨w.heap.size + 1, 0, none⟩) (by show w.heap.size + 1 < _; omega)).trans F6.out.1
    have g1 := (hb9.frozen (p := ⟨w.heap.size + 1, 1, none⟩) (by show w.heap.size + 1 < _; omega)).trans F6.out.2
    have hzz : w.heap.size + 1 < w9.heap.size := by have := hb9.size; omega
    have HP9 := Lib.hid (HP.out.later hb9)
    have HB9 := Lib.hid (HB5.out.trans (hb9.mono (by have := hb9.size; omega)))
    clear hb9 H9 z6
    go_wp2_with fail
    refine bodyPost_ret (v := .tuple #[.agg #[.int .i64 tx, .int .i64 ty], .bool tb]) (by simp [results, Try.results84, go_sem, x0, x1]) rfl ⟨rfl, ⟨M', ?_⟩, ?_⟩
    · exact (HP9.out.far ⟨w.heap.size + 1, 0, none⟩ _ (by show w.heap.size + 1 ≠ c; omega) (fun e => by have h9 : w.heap.size + 1 < w.heap.size := (HBL.out.1 _ e).2; exact absurd h9 (by omega)) HMN.out).far ⟨w.heap.size + 1, 1, none⟩ _ (by show w.heap.size + 1 ≠ c; omega) (fun e => by have h9 : w.heap.size + 1 < w.heap.size := (HBL.out.1 _ e).2; exact absurd h9 (by omega)) HMN.out
    · exact (HB9.out.setCell (p := ⟨w.heap.size + 1, 0, none⟩) (by show c ≤ w.heap.size + 1; omega) _).setCell (p := ⟨w.heap.size + 1, 1, none⟩) (by show c ≤ w.heap.size + 1; omega) _
  · go_simp
    refine hK.out _ _ ?_ (fun hHeld2 => ?_)
    · exact cell_later (below1 w2 _) Z1.out
    clear hK K hHeld
    try simp only [Act.put, List.setIfInBounds_toArray, List.set_cons_zero, List.set_cons_succ]
    have cc4 := cell_later (below1 w2 (.cells #[.int .i64 Tt] 54)) cc3
    refine wpAnyH_ready (rs := [4]) (by kernel_rfl) (by simp) ?_
    refine AllReadyH.cons (o := { dst := some 20, op := Op.load 23 (Operand.tmp 19), type := 23, pos := "links.go:126", after := #[{ on := 3, ground := Ground.data }], guard := none }) rfl (fun K hK => ?_) AllReadyH.nil
    go_simp
    refine hK.out _ _ ?_ (fun hHeld => ?_)
    · exact cell_later (below1 w2 _) Z1.out
    clear hK K hHeld2 cc4
    try simp only [Act.put, List.setIfInBounds_toArray, List.set_cons_zero, List.set_cons_succ]
    have own4 := own_later own3 (below1 w2 (.cells #[.int .i64 Tt] 54))
    have cc4 := cell_later (below1 w2 (.cells #[.int .i64 Tt] 54)) cc3
    have hnew : (w2.alloc (.cells #[.int .i64 Tt] 54)).cell? ⟨w2.heap.size, 0, none⟩ = some (.int .i64 Tt) := by simp [go_sem]
    have HC4 := Lib.hid (H1.out.later (below1 w2 (.cells #[.int .i64 Tt] 54)))
    have hs4 : (w2.alloc (.cells #[.int .i64 Tt] 54)).heap.size = w2.heap.size + 1 := World.size_alloc _ _
    have f3 := HC4.out.f3
    have hlt4 := HC4.out.lt
    have HB4 := Lib.hid (HB0.out.trans ((below1 w2 (.cells #[.int .i64 Tt] 54)).mono HB0.out.size))
    have X4 := Lib.hid (And.intro (cell_later (below1 w2 (.cells #[.int .i64 Tt] 54)) X0.out) (cell_later (below1 w2 (.cells #[.int .i64 Tt] 54)) X1.out))
    have F4 := Lib.hid (And.intro (((below1 w2 (.cells #[.int .i64 Tt] 54)).frozen HZZ.out).trans F0.out) (((below1 w2 (.cells #[.int .i64 Tt] 54)).frozen HZZ.out).trans F1.out))
    have Z4 := Lib.hid (cell_later (below1 w2 (.cells #[.int .i64 Tt] 54)) Z1.out)
    generalize hD : w2.heap.size = D at *
    generalize w2.alloc (.cells #[.int .i64 Tt] 54) = w4 at *
    refine wpAnyH_ready (rs := [8]) (by kernel_rfl) (by simp) ?_
    refine AllReadyH.cons (o := { dst := some 24, op := Op.call { callee := Callee.builtin Builtin.append, args := #[Operand.tmp 20, Operand.tmp 23], argTypes := #[23, 23] }, type := 23, pos := "links.go:126", after := #[{ on := 4, ground := Ground.data }, { on := 7, ground := Ground.data }], guard := none }) rfl (fun K hK => ?_) AllReadyH.nil
    rw [if_pos (by rfl)]
    refine wp_append_own_at _ _ 23 rfl (c + 1) 54 i0 (.int .i64 0) 1 8 Try.underlying23 hi hz0 hz1 hz2 rfl (by omega) _ ls.length (ls.map (Value.int .i64)) rfl own4 ⟨D, 0, none⟩ 1 1 [.int .i64 Tt] rfl rfl ?_ ?_ ?_ ?_ ?_ ?_
    · intro jj u hjj
      rw [Lib.add_plain]
      match jj, hjj with
      | 0, hjj => cases hjj; simpa using hnew
    · intro u hu; simp at hu; rcases hu with rfl; rfl
    · have hml : maxLen = 9223372036854775807 := rfl; omega
    · omega
    · omega
    intro v' w5 hown hgrow hnil hloc
    obtain ⟨r', z', hv'⟩ := own_shape hown
    subst hv'
    have hgM : w4.grownBy w5 M := by rw [← eM]; exact hgrow
    have hMc : M ≠ some c := fun e => by have := (HBL.out.2 c e).1; omega
    have hM0 : ∀ k, w.heap.size ≤ k → M ≠ some k := fun k hk e => by have := (HBL.out.2 k e).2; omega
    have hown' : w5.ownsRow (c + 1) 54 1 (.slice r' (ls ++ [Tt]).length z') (ls ++ [Tt]).length ((ls ++ [Tt]).map (Value.int .i64)) := by simpa using hown
    have hloc2 : (Value.slice r' (ls.length + 1) z').ownBlock = (Value.slice rv ls.length zv).ownBlock ∨ (Value.slice r' (ls.length + 1) z').ownBlock = some w4.heap.size := hloc
    have hlen : (ls ++ [Tt]).length = ls.length + 1 := by simp
    have hloc' : (Value.slice r' (ls ++ [Tt]).length z').ownBlock = M ∨ (Value.slice r' (ls ++ [Tt]).length z').ownBlock = some w4.heap.size := by rw [← eM, hlen]; exact hloc2
    have hP := HC4.out.push3 hgM hown' hloc'
    rw [hlen] at hP hloc'
    have HP := Lib.hid hP
    have hMn : (Value.slice r' (ls.length + 1) z').ownBlock ≠ some (w.heap.size + 1) := by
      intro e
      rcases hloc' with e1 | e1
      · rw [e1] at e; have := (HBL.out.2 _ e).2; omega
      · rw [e1] at e; simp at e; omega
    have HMN := Lib.hid hMn
    clear hP hMn hlen hloc2 hloc' hown'
    have cc5 := grown_cell hgM cc4 hMc
    have f5 := (grown_frozen hgM hlt4 hMc (a := ⟨c, 3, none⟩)).trans f3
    have X5 := Lib.hid (And.intro (grown_cell hgM X4.out.1 (hM0 _ (by show w.heap.size ≤ w.heap.size + 1; omega))) (grown_cell hgM X4.out.2 (hM0 _ (by show w.heap.size ≤ w.heap.size + 1; omega))))
    have F5 := Lib.hid (And.intro ((grown_frozen hgM (a := ⟨w.heap.size + 1, 0, none⟩) (by show w.heap.size + 1 < _; omega) (hM0 _ (by show w.heap.size ≤ w.heap.size + 1; omega))).trans F4.out.1) ((grown_frozen hgM (a := ⟨w.heap.size + 1, 1, none⟩) (by show w.heap.size + 1 < _; omega) (hM0 _ (by show w.heap.size ≤ w.heap.size + 1; omega))).trans F4.out.2))
    have Z5 := Lib.hid (grown_cell hgM Z4.out (hM0 _ (Nat.le_refl _)))
    have HB5 := Lib.hid (((HB4.out.mono (Nat.le_of_lt h1c)).grown hgM (by omega) (fun k hk => Nat.le_of_lt (HBL.out.2 k hk).1)).setCell (p := ⟨c, 3, none⟩) (Nat.le_refl c) (.slice r' (ls.length + 1) z'))
    have hs5 := hgM.size
    refine hK.out _ _ ?_ (fun hHeld3 => ?_)
    · exact Z5.out
    clear hK K hHeld hown hgrow hnil hloc
    try simp only [Act.put, List.setIfInBounds_toArray, List.set_cons_zero, List.set_cons_succ]
    refine wpAnyH_ready (rs := [9]) (by kernel_rfl) (by simp) ?_
    refine AllReadyH.cons (o := { dst := some 25, op := Op.nilCheck (Operand.tmp 16), type := 0, pos := "links.go:126", after := #[{ on := 0, ground := Ground.data }, { on := 0, ground := Ground.phase }, { on := 1, ground := Ground.phase }, { on := 2, ground := Ground.phase }, { on := 3, ground := Ground.phase }, { on := 4, ground := Ground.phase }, { on := 5, ground := Ground.phase }, { on := 6, ground := Ground.phase }, { on := 7, ground := Ground.phase }, { on := 8, ground := Ground.phase }], guard := none }) rfl (fun K hK => ?_) AllReadyH.nil
    go_simp
    refine hK.out _ _ ?_ (fun _ => ?_)
    · exact Z5.out
    clear hK K
    try simp only [Act.put, List.setIfInBounds_toArray, List.set_cons_zero, List.set_cons_succ]
    refine wpAnyH_ready (rs := [10]) (by kernel_rfl) (by simp) ?_
    refine AllReadyH.cons (o := { dst := some 26, op := Op.fieldAddr 89 (Operand.tmp 25) 3, type := 0, pos := "links.go:126", after := #[{ on := 9, ground := Ground.data }, { on := 0, ground := Ground.phase }, { on := 1, ground := Ground.phase }, { on := 2, ground := Ground.phase }, { on := 3, ground := Ground.phase }, { on := 4, ground := Ground.phase }, { on := 5, ground := Ground.phase }, { on := 6, ground := Ground.phase }, { on := 7, ground := Ground.phase }, { on := 8, ground := Ground.phase }], guard := none }) rfl (fun K hK => ?_) AllReadyH.nil
    go_simp
    refine hK.out _ _ ?_ (fun _ => ?_)
    · exact Z5.out
    clear hK K
    try simp only [Act.put, List.setIfInBounds_toArray, List.set_cons_zero, List.set_cons_succ]
    refine wpAnyH_ready (rs := [11]) (by kernel_rfl) (by simp) ?_
    refine AllReadyH.cons (o := { dst := none, op := Op.store 23 (Operand.tmp 26) (Operand.tmp 24), type := 0, pos := "links.go:126", after := #[{ on := 10, ground := Ground.data }, { on := 8, ground := Ground.data }, { on := 8, ground := Ground.chain }, { on := 0, ground := Ground.phase }, { on := 1, ground := Ground.phase }, { on := 2, ground := Ground.phase }, { on := 3, ground := Ground.phase }, { on := 4, ground := Ground.phase }, { on := 5, ground := Ground.phase }, { on := 6, ground := Ground.phase }, { on := 7, ground := Ground.phase }, { on := 8, ground := Ground.phase }], guard := none }) rfl (fun K hK => ?_) AllReadyH.nil
    go_simp
    refine hK.out _ _ ?_ (fun hHeld4 => ?_)
    · exact set_cell_far Z5.out (by simp <;> omega)
    clear hK K hHeld3
    try simp only [Act.put, List.setIfInBounds_toArray, List.set_cons_zero, List.set_cons_succ]
    refine wpAnyH_done (by kernel_rfl) ?_ _
    have Z6 := Lib.hid (hHeld4)
    have x6 := set_cell_far (u := .slice r' (ls.length + 1) z') (p := ⟨c, 3, none⟩) X5.out.1 (by simp <;> omega)
    have x7 := set_cell_far (u := .slice r' (ls.length + 1) z') (p := ⟨c, 3, none⟩) X5.out.2 (by simp <;> omega)
    have X6 := Lib.hid (And.intro x6 x7)
    have F6 := Lib.hid (show (w5.setCell ⟨c, 3, none⟩ (.slice r' (ls.length + 1) z')).frozen? ⟨w.heap.size + 1, 0, none⟩ = false ∧ (w5.setCell ⟨c, 3, none⟩ (.slice r' (ls.length + 1) z')).frozen? ⟨w.heap.size + 1, 1, none⟩ = false from ⟨by rw [World.frozen?_setCell]; exact F5.out.1, by rw [World.frozen?_setCell]; exact F5.out.2⟩)
    have hs6 : (w5.setCell ⟨c, 3, none⟩ (.slice r' (ls.length + 1) z')).heap.size = w5.heap.size := World.size_setCell _ _ _
    clear x6 x7 hHeld4 cc5 f5 cc4 own4 hnew f3 cc3 own3 eM
    generalize (Value.slice r' (ls.length + 1) z').ownBlock = M' at *
    generalize (w5.setCell ⟨c, 3, none⟩ (.slice r' (ls.length + 1) z')) = w6 at *
    have z6 := Z6.out
    have H9 := given_any c T M' p n cv q m ca a ts (ls ++ [Tt]) Tt w6 HP.out (HAT.out _ HB5.out) hm l0 l1
    rw [htt] at H9
    go_wp2_with fail
    refine H9.mono ?_
    rintro e9 w9 ⟨rfl, hb9⟩
    have x0 := cell_later hb9 X6.out.1
    have x1 := cell_later hb9 X6.out.2
    have g0 := (hb9.frozen (p := ⟨w.heap.size + 1, 0, none⟩) (by show w.heap.size + 1 < _; omega)).trans F6.out.1
    have g1 := (hb9.frozen (p := ⟨w.heap.size + 1, 1, none⟩) (by show w.heap.size + 1 < _; omega)).trans F6.out.2
    have hzz : w.heap.size + 1 < w9.heap.size := by have := hb9.size; omega
    have HP9 := Lib.hid (HP.out.later hb9)
    have HB9 := Lib.hid (HB5.out.trans (hb9.mono (by have := hb9.size; omega)))
    clear hb9 H9 z6
    go_wp2_with fail
    refine bodyPost_ret (v := .tuple #[.agg #[.int .i64 tx, .int .i64 ty], .bool tb]) (by simp [results, Try.results84, go_sem, x0, x1]) rfl ⟨rfl, ⟨M', ?_⟩, ?_⟩
    · exact (HP9.out.far ⟨w.heap.size + 1, 0, none⟩ _ (by show w.heap.size + 1 ≠ c; omega) (fun e => by have h9 : w.heap.size + 1 < w.heap.size := (HBL.out.1 _ e).2; exact absurd h9 (by omega)) HMN.out).far ⟨w.heap.size + 1, 1, none⟩ _ (by show w.heap.size + 1 ≠ c; omega) (fun e => by have h9 : w.heap.size + 1 < w.heap.size := (HBL.out.1 _ e).2; exact absurd h9 (by omega)) HMN.out
    · exact (HB9.out.setCell (p := ⟨w.heap.size + 1, 0, none⟩) (by show c ≤ w.heap.size + 1; omega) _).setCell (p := ⟨w.heap.size + 1, 1, none⟩) (by show c ≤ w.heap.size + 1; omega) _
end Go.Proofs.Ytgdncnalahdjeaa
