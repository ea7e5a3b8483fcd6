/- The checker: the link that closes against an atom. -/
import Derived.Test.YtgdncnalahdjeaaL13
namespace Go.Proofs.Ytgdncnalahdjeaa
open Go Go.RowKit

/-- what lies in blocks apart. -/
structure KeptC (B D F : Nat) (Tt rx ry ak aa ab : Int) (W : World) : Prop where
  b1 : W.cell? ⟨B, 1, none⟩ = some (.int .i64 Tt)
  d0 : W.cell? ⟨D, 0, none⟩ = some (.int .i64 rx)
  d1 : W.cell? ⟨D, 1, none⟩ = some (.int .i64 ry)
  f0 : W.cell? ⟨F, 0, none⟩ = some (.int .u8 ak)
  f1 : W.cell? ⟨F, 1, none⟩ = some (.int .i64 aa)
  f2 : W.cell? ⟨F, 2, none⟩ = some (.int .i64 ab)
section
variable {B D F : Nat} {Tt rx ry ak aa ab : Int} {W W' : World}
theorem KeptC.later (h : KeptC B D F Tt rx ry ak aa ab W) (hb : Below W.heap.size W W') : KeptC B D F Tt rx ry ak aa ab W' :=
  ⟨cell_later hb h.b1, cell_later hb h.d0, cell_later hb h.d1, cell_later hb h.f0, cell_later hb h.f1, cell_later hb h.f2⟩
theorem KeptC.grown (h : KeptC B D F Tt rx ry ak aa ab W) {row : Option Nat} (hg : W.grownBy W' row) (n1 : row ≠ some B) (n2 : row ≠ some D) (n3 : row ≠ some F) : KeptC B D F Tt rx ry ak aa ab W' :=
  ⟨grown_cell hg h.b1 n1, grown_cell hg h.d0 n2, grown_cell hg h.d1 n2, grown_cell hg h.f0 n3, grown_cell hg h.f1 n3, grown_cell hg h.f2 n3⟩
theorem KeptC.set (h : KeptC B D F Tt rx ry ak aa ab W) {p : Addr} {v : Value} (n1 : p.block ≠ B) (n2 : p.block ≠ D) (n3 : p.block ≠ F) : KeptC B D F Tt rx ry ak aa ab (W.setCell p v) :=
  ⟨set_cell_far h.b1 (fun e => n1 (by rw [e])), set_cell_far h.d0 (fun e => n2 (by rw [e])), set_cell_far h.d1 (fun e => n2 (by rw [e])), set_cell_far h.f0 (fun e => n3 (by rw [e])), set_cell_far h.f1 (fun e => n3 (by rw [e])), set_cell_far h.f2 (fun e => n3 (by rw [e]))⟩
end
theorem atom_cells (m : Nat) (a : AD) (l : Int) : ∃ ak aa ab ac, (if okL m l then atomV a l else atom0) = .agg #[.int .u8 ak, .int .i64 aa, .int .i64 ab, .int .i64 ac] ∧ (okL m l = true → ak = a.K (l.natAbs - 1) ∧ aa = a.A (l.natAbs - 1) ∧ ab = a.B (l.natAbs - 1)) := by
  cases h : okL m l with
  | false => exact ⟨0, 0, 0, 0, rfl, fun e => by cases e⟩
  | true => exact ⟨_, _, _, _, rfl, fun _ => ⟨rfl, rfl, rfl⟩⟩
set_option maxRecDepth 100000 in
set_option maxHeartbeats 4000000 in
theorem closes_against (c : Nat) (T M : Option Nat) (p : Option Addr) (n cv : Nat) (q : Option Addr) (m ca : Nat) (ts : List (Int × Int)) (ls : List Int) (Tt A B I J : Int) (P : Option Addr) (L C : Nat) (w : World) (h : CheckerAt w c T M p n cv q m ca ts ls) (hl : ts.length ≤ 1000000) (hll : ls.length ≤ 1000000) (a : AD) (ha : ∀ W, Below c w W → AtomsIn W q m a) (hm : m ≤ 1000000) (l0 : -9223372036854775808 ≤ Tt) (l1 : Tt ≤ 9223372036854775807) (hr : (atL ts I).2 = true) :
    Calls Try.prog 60 #[.pointer (some ⟨c, 0, none⟩), linkV 6 Tt A B I J P L C] w fun e w' => e = .returned (.bool ((okL m Tt && decide (Tt < 0) && a.K (Tt.natAbs - 1) == 1) && ((atL ts I).1.1 == a.A (Tt.natAbs - 1) && (atL ts I).1.2 == a.B (Tt.natAbs - 1)))) ∧ (∃ M', CheckerAt w' c T M' p n cv q m ca ts (ls ++ [Tt])) ∧ Below c w w' := by
  obtain ⟨i0, hi, hz0, hz1, hz2⟩ := info54
  unfold linkV
  have hB0 := below1 w (.cells #[.int .u8 6, .int .i64 Tt, .int .i64 A, .int .i64 B, .int .i64 I, .int .i64 J, .slice P L C] 57)
  have h1 := h.later hB0
  have H2 := at_any c T M p n cv q m ca ts ls I _ h1 hl
  obtain ⟨rx, ry, rb, hrr⟩ : ∃ rx ry rb, atL ts I = ((rx, ry), rb) := ⟨_, _, _, rfl⟩
  rw [hrr] at H2 hr ⊢
  dsimp only at H2 hr ⊢
  subst hr
  clear hrr
  obtain ⟨ak, aa, ab, ac, hva, hke⟩ := atom_cells m a Tt
  obtain ⟨ok, hok⟩ : ∃ ok, okL m Tt = ok := ⟨_, rfl⟩
  rw [hok] at hke ⊢
  have z0 : (w.alloc (.cells #[.int .u8 6, .int .i64 Tt, .int .i64 A, .int .i64 B, .int .i64 I, .int .i64 J, .slice P L C] 57)).cell? ⟨w.heap.size, 0, none⟩ = some (.int .u8 6) := by simp [go_sem]
  have z1 : (w.alloc (.cells #[.int .u8 6, .int .i64 Tt, .int .i64 A, .int .i64 B, .int .i64 I, .int .i64 J, .slice P L C] 57)).cell? ⟨w.heap.size, 1, none⟩ = some (.int .i64 Tt) := by simp [go_sem]
  have Z0 := Lib.hid z0
  have Z1 := Lib.hid z1
  clear z0 z1
  have hbl := h.blocks
  have h1c := h.lt
  have HBL := Lib.hid hbl
  have HAT := Lib.hid ha
  have HKE := Lib.hid hke
  have hs1 : (w.alloc (.cells #[.int .u8 6, .int .i64 Tt, .int .i64 A, .int .i64 B, .int .i64 I, .int .i64 J, .slice P L C] 57)).heap.size = w.heap.size + 1 := World.size_alloc _ _
  have HB0 := Lib.hid hB0
  have H1 := Lib.hid h1
  clear h hB0 h1 hbl ha hke
  go_enter Try.func60, Try.ntmps60
  go_wp2_with fail
  refine H2.mono ?_
  rintro e1 w3 ⟨rfl, hb⟩
  have hb3 := chain hb (below1 w3 (.cells #[.int .i64 rx, .int .i64 ry] 113))
  have z0 := cell_later hb3 Z0.out
  have z1 := cell_later hb3 Z1.out
  have h4 := H1.out.later hb3
  have hB4 := HB0.out.trans (hb3.mono HB0.out.size)
  have H3 := atom83_any c T M p n cv q m ca a ts ls Tt _ h4 (HAT.out _ (hB4.mono (Nat.le_of_lt h1c))) hm l0 l1
  rw [hva] at H3
  rw [hok] at H3
  have d0 : (w3.alloc (.cells #[.int .i64 rx, .int .i64 ry] 113)).cell? ⟨w3.heap.size, 0, none⟩ = some (.int .i64 rx) := by simp [go_sem]
  have d1 : (w3.alloc (.cells #[.int .i64 rx, .int .i64 ry] 113)).cell? ⟨w3.heap.size, 1, none⟩ = some (.int .i64 ry) := by simp [go_sem]
  have hs3 := hb.size
  have hs31 : (w3.alloc (.cells #[.int .i64 rx, .int .i64 ry] 113)).heap.size = w3.heap.size + 1 := World.size_alloc _ _
  have D0 := Lib.hid d0
  have D1 := Lib.hid d1
  have H4 := Lib.hid h4
  have HB4 := Lib.hid hB4
  replace Z1 := Lib.hid z1
  clear hb hb3 d0 d1 h4 hB4 H2 H1
  go_wp2_with fail
  refine H3.mono ?_
  rintro e4 w4 ⟨rfl, hb⟩
  have hb3 := chain hb (below1 w4 (.cells #[.int .u8 ak, .int .i64 aa, .int .i64 ab, .int .i64 ac] 99))
  have h5 := H4.out.later hb3
  have hB5 := HB4.out.trans (hb3.mono HB4.out.size)
  have f0 : (w4.alloc (.cells #[.int .u8 ak, .int .i64 aa, .int .i64 ab, .int .i64 ac] 99)).cell? ⟨w4.heap.size, 0, none⟩ = some (.int .u8 ak) := by simp [go_sem]
  have f1 : (w4.alloc (.cells #[.int .u8 ak, .int .i64 aa, .int .i64 ab, .int .i64 ac] 99)).cell? ⟨w4.heap.size, 1, none⟩ = some (.int .i64 aa) := by simp [go_sem]
  have f2 : (w4.alloc (.cells #[.int .u8 ak, .int .i64 aa, .int .i64 ab, .int .i64 ac] 99)).cell? ⟨w4.heap.size, 2, none⟩ = some (.int .i64 ab) := by simp [go_sem]
  have hs4 := hb.size
  have KC := Lib.hid (KeptC.mk (cell_later hb3 Z1.out) (cell_later hb3 D0.out) (cell_later hb3 D1.out) f0 f1 f2 : KeptC w.heap.size w3.heap.size w4.heap.size Tt rx ry ak aa ab (w4.alloc (.cells #[.int .u8 ak, .int .i64 aa, .int .i64 ab, .int .i64 ac] 99)))
  have H5 := Lib.hid h5
  have HB5 := Lib.hid hB5
  clear hb hb3 h5 hB5 f0 f1 f2 D0 D1 H4 HB4 Z1 H3 z0 z1
  go_wp2_with fail
  have hFD : w.heap.size < w3.heap.size ∧ w3.heap.size < w4.heap.size := by omega
  generalize hD : w3.heap.size = D at *
  generalize hF : w4.heap.size = F at *
  generalize hBB : w.heap.size = BB at *
  generalize (w4.alloc (.cells #[.int .u8 ak, .int .i64 aa, .int .i64 ab, .int .i64 ac] 99)) = w1 at *
  refine wp_region_held_drew (S := (fun w' : World => KeptC BB D F Tt rx ry ak aa ab w')) (by kernel_rfl) (KC.out.later ((Below.refl _ _).drew)) (fun hHeld => ?_)
  replace KC := Lib.hid (show KeptC BB D F Tt rx ry ak aa ab w1.drew from KC.out.later ((Below.refl _ _).drew))
  replace H5 := Lib.hid (show CheckerAt w1.drew c T M p n cv q m ca ts ls from H5.out.later ((Below.refl _ _).drew))
  replace HB5 := Lib.hid (HB5.out.drew)
  generalize w1.drew = w2 at *
  refine wpAnyH_take (i := 0) (oi := { dst := some 34, op := Op.move (Operand.tmp 0), type := 111, pos := "links.go:110", after := #[], guard := none }) (v := ?_) rfl (by kernel_rfl) (by kernel_rfl) (by kernel_rfl) (fun _ _ _ h => h) (Or.inl ⟨by rfl, ?_⟩) (by assumption) ?_
  rotate_left
  · intro w hSw
    (try dsimp only at hSw)
    go_simp
    try with_reducible rfl
  try simp only [Act.put, List.setIfInBounds_toArray, List.set_cons_zero, List.set_cons_succ]
  refine wpAnyH_take (i := 1) (oi := { dst := some 35, op := Op.move (Operand.tmp 0), type := 111, pos := "links.go:110", after := #[], guard := none }) (v := ?_) rfl (by kernel_rfl) (by kernel_rfl) (by kernel_rfl) (fun _ _ _ h => h) (Or.inl ⟨by rfl, ?_⟩) (by assumption) ?_
  rotate_left
  · intro w hSw
    (try dsimp only at hSw)
    go_simp
    try with_reducible rfl
  try simp only [Act.put, List.setIfInBounds_toArray, List.set_cons_zero, List.set_cons_succ]
  refine wpAnyH_take (i := 2) (oi := { dst := some 36, op := Op.nilCheck (Operand.tmp 35), type := 0, pos := "links.go:110", after := #[{ on := 1, ground := Ground.data }], guard := none }) (v := ?_) rfl (by kernel_rfl) (by kernel_rfl) (by kernel_rfl) (fun _ _ _ h => h) (Or.inl ⟨by rfl, ?_⟩) (by assumption) ?_
  rotate_left
  · intro w hSw
    (try dsimp only at hSw)
    go_simp
    try with_reducible rfl
  try simp only [Act.put, List.setIfInBounds_toArray, List.set_cons_zero, List.set_cons_succ]
  refine wpAnyH_take (i := 3) (oi := { dst := some 37, op := Op.fieldAddr 89 (Operand.tmp 36) 3, type := 0, pos := "links.go:110", after := #[{ on := 2, ground := Ground.data }], guard := none }) (v := ?_) rfl (by kernel_rfl) (by kernel_rfl) (by kernel_rfl) (fun _ _ _ h => h) (Or.inl ⟨by rfl, ?_⟩) (by assumption) ?_
  rotate_left
  · intro w hSw
    (try dsimp only at hSw)
    go_simp
    try with_reducible rfl
  try simp only [Act.put, List.setIfInBounds_toArray, List.set_cons_zero, List.set_cons_succ]
  refine wpAnyH_take (i := 5) (oi := { dst := some 39, op := Op.fieldAddr 57 (Operand.tmp 3) 1, type := 0, pos := "links.go:110", after := #[], guard := none }) (v := ?_) rfl (by kernel_rfl) (by kernel_rfl) (by kernel_rfl) (fun _ _ _ h => h) (Or.inl ⟨by rfl, ?_⟩) (by assumption) ?_
  rotate_left
  · intro w hSw
    (try dsimp only at hSw)
    go_simp
    try with_reducible rfl
  try simp only [Act.put, List.setIfInBounds_toArray, List.set_cons_zero, List.set_cons_succ]
  refine wpAnyH_take (i := 6) (oi := { dst := some 40, op := Op.load 54 (Operand.tmp 39), type := 54, pos := "links.go:110", after := #[{ on := 5, ground := Ground.data }], guard := none }) (v := ?_) rfl (by kernel_rfl) (by kernel_rfl) (by kernel_rfl) (fun _ _ _ h => h) (Or.inl ⟨by rfl, ?_⟩) (by assumption) ?_
  rotate_left
  · intro w hSw
    have hcell := hSw.b1
    go_simp
    try with_reducible rfl
  try simp only [Act.put, List.setIfInBounds_toArray, List.set_cons_zero, List.set_cons_succ]
  obtain ⟨rv, zv, cc3, eM, own3⟩ := H5.out.c3
  refine wpAnyH_ready (rs := [4, 7]) (by kernel_rfl) (by simp) ?_
  refine AllReadyH.cons (o := { dst := some 38, op := Op.load 23 (Operand.tmp 37), type := 23, pos := "links.go:110", after := #[{ on := 3, ground := Ground.data }], guard := none }) rfl (fun K hK => ?_) (AllReadyH.cons (o := { dst := some 41, op := Op.buildSlice 23 1 #[(0, Operand.tmp 40)], type := 23, pos := "links.go:110", after := #[{ on := 6, ground := Ground.data }], guard := none }) rfl (fun K hK => ?_) AllReadyH.nil)
  · go_simp
    refine hK.out _ _ ?_ (fun hHeld2 => ?_)
    · exact KC.out
    clear hK K hHeld
    try simp only [Act.put, List.setIfInBounds_toArray, List.set_cons_zero, List.set_cons_succ]
    refine wpAnyH_ready (rs := [7]) (by kernel_rfl) (by simp) ?_
    refine AllReadyH.cons (o := { dst := some 41, op := Op.buildSlice 23 1 #[(0, Operand.tmp 40)], type := 23, pos := "links.go:110", after := #[{ on := 6, ground := Ground.data }], guard := none }) rfl (fun K hK => ?_) AllReadyH.nil
    go_simp
    refine hK.out _ _ ?_ (fun hHeld => ?_)
    · exact KC.out.later (below1 w2 _)
    clear hK K hHeld2
    try simp only [Act.put, List.setIfInBounds_toArray, List.set_cons_zero, List.set_cons_succ]
    have own4 := own_later own3 (below1 w2 (.cells #[.int .i64 Tt] 54))
    have hnew : (w2.alloc (.cells #[.int .i64 Tt] 54)).cell? ⟨w2.heap.size, 0, none⟩ = some (.int .i64 Tt) := by simp [go_sem]
    have HC4 := Lib.hid (H5.out.later (below1 w2 (.cells #[.int .i64 Tt] 54)))
    have hs5 : (w2.alloc (.cells #[.int .i64 Tt] 54)).heap.size = w2.heap.size + 1 := World.size_alloc _ _
    have hsF : F < w2.heap.size := World.block_lt_of_cell? _ _ KC.out.f0
    have HB4 := Lib.hid ((HB5.out.mono (by omega : c ≤ BB)).trans ((below1 w2 (.cells #[.int .i64 Tt] 54)).mono (by omega : c ≤ w2.heap.size)))
    have KC4 := Lib.hid (KC.out.later (below1 w2 (.cells #[.int .i64 Tt] 54)))
    generalize hE : w2.heap.size = E at *
    generalize w2.alloc (.cells #[.int .i64 Tt] 54) = w4' at *
    refine wpAnyH_ready (rs := [8]) (by kernel_rfl) (by simp) ?_
    refine AllReadyH.cons (o := { dst := some 42, op := Op.call { callee := Callee.builtin Builtin.append, args := #[Operand.tmp 38, Operand.tmp 41], argTypes := #[23, 23] }, type := 23, pos := "links.go:110", after := #[{ on := 4, ground := Ground.data }, { on := 7, ground := Ground.data }], guard := none }) rfl (fun K hK => ?_) AllReadyH.nil
    rw [if_pos (by rfl)]
    refine wp_append_own_at _ _ 23 rfl (c + 1) 54 i0 (.int .i64 0) 1 8 Try.underlying23 hi hz0 hz1 hz2 rfl (by omega) _ ls.length (ls.map (Value.int .i64)) rfl own4 ⟨E, 0, none⟩ 1 1 [.int .i64 Tt] rfl rfl ?_ ?_ ?_ ?_ ?_ ?_
    · intro jj u hjj
      rw [Lib.add_plain]
      match jj, hjj with
      | 0, hjj => cases hjj; simpa using hnew
    · intro u hu; simp at hu; rcases hu with rfl; rfl
    · have hml : maxLen = 9223372036854775807 := rfl; omega
    · omega
    · omega
    intro v' w5 hown hgrow hnil hloc
    obtain ⟨r', z', hv'⟩ := own_shape hown
    subst hv'
    have hgM : w4'.grownBy w5 M := by rw [← eM]; exact hgrow
    have hM1 : ∀ k, BB ≤ k → M ≠ some k := fun k hk e => by have := (HBL.out.2 k e).2; omega
    have hMc : M ≠ some c := fun e => by have := (HBL.out.2 c e).1; omega
    have hown' : w5.ownsRow (c + 1) 54 1 (.slice r' (ls ++ [Tt]).length z') (ls ++ [Tt]).length ((ls ++ [Tt]).map (Value.int .i64)) := by simpa using hown
    have hloc2 : (Value.slice r' (ls.length + 1) z').ownBlock = (Value.slice rv ls.length zv).ownBlock ∨ (Value.slice r' (ls.length + 1) z').ownBlock = some w4'.heap.size := hloc
    have hlen : (ls ++ [Tt]).length = ls.length + 1 := by simp
    have hloc' : (Value.slice r' (ls ++ [Tt]).length z').ownBlock = M ∨ (Value.slice r' (ls ++ [Tt]).length z').ownBlock = some w4'.heap.size := by rw [← eM, hlen]; exact hloc2
    have hP := HC4.out.push3 hgM hown' hloc'
    rw [hlen] at hP
    have HP := Lib.hid hP
    have f5 := (grown_frozen hgM HC4.out.lt hMc (a := ⟨c, 3, none⟩)).trans HC4.out.f3
    have cc5 : ∃ vv, w5.cell? ⟨c, 3, none⟩ = some vv := by obtain ⟨r9, z9, q9, _⟩ := HC4.out.c3; exact ⟨_, grown_cell hgM q9 hMc⟩
    obtain ⟨vv, cc5⟩ := cc5
    have KC5 := Lib.hid (KC4.out.grown hgM (hM1 _ (by omega)) (hM1 _ (by omega)) (hM1 _ (by omega)))
    have HB6 := Lib.hid ((HB4.out.grown hgM (by omega) (fun k hk => Nat.le_of_lt (HBL.out.2 k hk).1)).setCell (p := ⟨c, 3, none⟩) (Nat.le_refl c) (.slice r' (ls.length + 1) z'))
    have KC6 := Lib.hid (KC5.out.set (p := ⟨c, 3, none⟩) (v := .slice r' (ls.length + 1) z') (by show c ≠ BB; omega) (by show c ≠ D; omega) (by show c ≠ F; omega))
    clear hP hlen hloc2 hloc' hown'
    refine hK.out _ _ ?_ (fun hHeld3 => ?_)
    · exact KC5.out
    clear hK K hHeld hown hgrow hnil hloc
    try simp only [Act.put, List.setIfInBounds_toArray, List.set_cons_zero, List.set_cons_succ]
    refine wpAnyH_ready (rs := [9]) (by kernel_rfl) (by simp) ?_
    refine AllReadyH.cons (o := { dst := some 43, op := Op.nilCheck (Operand.tmp 34), type := 0, pos := "links.go:110", after := #[{ on := 0, ground := Ground.data }, { on := 0, ground := Ground.phase }, { on := 1, ground := Ground.phase }, { on := 2, ground := Ground.phase }, { on := 3, ground := Ground.phase }, { on := 4, ground := Ground.phase }, { on := 5, ground := Ground.phase }, { on := 6, ground := Ground.phase }, { on := 7, ground := Ground.phase }, { on := 8, ground := Ground.phase }], guard := none }) rfl (fun K hK => ?_) AllReadyH.nil
    go_simp
    refine hK.out _ _ ?_ (fun _ => ?_)
    · exact KC5.out
    clear hK K
    try simp only [Act.put, List.setIfInBounds_toArray, List.set_cons_zero, List.set_cons_succ]
    refine wpAnyH_ready (rs := [10]) (by kernel_rfl) (by simp) ?_
    refine AllReadyH.cons (o := { dst := some 44, op := Op.fieldAddr 89 (Operand.tmp 43) 3, type := 0, pos := "links.go:110", after := #[{ on := 9, ground := Ground.data }, { on := 0, ground := Ground.phase }, { on := 1, ground := Ground.phase }, { on := 2, ground := Ground.phase }, { on := 3, ground := Ground.phase }, { on := 4, ground := Ground.phase }, { on := 5, ground := Ground.phase }, { on := 6, ground := Ground.phase }, { on := 7, ground := Ground.phase }, { on := 8, ground := Ground.phase }], guard := none }) rfl (fun K hK => ?_) AllReadyH.nil
    go_simp
    refine hK.out _ _ ?_ (fun _ => ?_)
    · exact KC5.out
    clear hK K
    try simp only [Act.put, List.setIfInBounds_toArray, List.set_cons_zero, List.set_cons_succ]
    refine wpAnyH_ready (rs := [11]) (by kernel_rfl) (by simp) ?_
    refine AllReadyH.cons (o := { dst := none, op := Op.store 23 (Operand.tmp 44) (Operand.tmp 42), type := 0, pos := "links.go:110", after := #[{ on := 10, ground := Ground.data }, { on := 8, ground := Ground.data }, { on := 8, ground := Ground.chain }, { on := 0, ground := Ground.phase }, { on := 1, ground := Ground.phase }, { on := 2, ground := Ground.phase }, { on := 3, ground := Ground.phase }, { on := 4, ground := Ground.phase }, { on := 5, ground := Ground.phase }, { on := 6, ground := Ground.phase }, { on := 7, ground := Ground.phase }, { on := 8, ground := Ground.phase }], guard := none }) rfl (fun K hK => ?_) AllReadyH.nil
    go_simp
    refine hK.out _ _ ?_ (fun hHeld4 => ?_)
    · exact KC6.out
    clear hK K hHeld3
    try simp only [Act.put, List.setIfInBounds_toArray, List.set_cons_zero, List.set_cons_succ]
    refine wpAnyH_done (by kernel_rfl) ?_ _
    generalize (w5.setCell ⟨c, 3, none⟩ (.slice r' (ls.length + 1) z')) = w6 at *
    clear hHeld4 cc5 f5 own4
    obtain ⟨b1, d0, d1, f0, f1, f2⟩ := KC6.out
    clear KC6 KC5 KC4 KC HC4 HB4 cc3 own3 eM H5 hnew HB5
    cases ok
    · go_wp2_with fail
      exact bodyPost_ret (v := .bool false) (by simp [results, Try.results60, go_sem]) rfl ⟨rfl, ⟨_, HP.out⟩, HB6.out⟩
    obtain ⟨rfl, rfl, rfl⟩ := HKE.out rfl
    clear HKE
    by_cases hn : Tt < 0
    rotate_left
    · have q0 := decide_eq_false hn
      have hn9 := Lib.hid hn
      clear hn
      go_wp2_with fail
      exact bodyPost_ret (v := .bool false) (by simp [results, Try.results60, go_sem]) rfl ⟨by simp [], ⟨_, HP.out⟩, HB6.out⟩
    have q0 := decide_eq_true hn
    by_cases hk : a.K (Tt.natAbs - 1) = 1
    rotate_left
    · have q1 : (a.K (Tt.natAbs - 1) == 1) = false := by simpa using hk
      go_wp2_with fail
      exact bodyPost_ret (v := .bool false) (by simp [results, Try.results60, go_sem]) rfl ⟨by simp [q1], ⟨_, HP.out⟩, HB6.out⟩
    have q1 : (a.K (Tt.natAbs - 1) == 1) = true := by simpa using hk
    have hpe := fun W => pair_eql rx ry (a.A (Tt.natAbs - 1)) (a.B (Tt.natAbs - 1)) W
    go_wp2_with fail
    exact bodyPost_ret (v := .bool (rx == a.A (Tt.natAbs - 1) && ry == a.B (Tt.natAbs - 1))) (by simp [results, Try.results60, go_sem]) rfl ⟨by simp [q0, q1], ⟨_, HP.out⟩, HB6.out⟩
  · go_simp
    refine hK.out _ _ ?_ (fun hHeld2 => ?_)
    · exact KC.out.later (below1 w2 _)
    clear hK K hHeld
    try simp only [Act.put, List.setIfInBounds_toArray, List.set_cons_zero, List.set_cons_succ]
    have cc4 := cell_later (below1 w2 (.cells #[.int .i64 Tt] 54)) cc3
    refine wpAnyH_ready (rs := [4]) (by kernel_rfl) (by simp) ?_
    refine AllReadyH.cons (o := { dst := some 38, op := Op.load 23 (Operand.tmp 37), type := 23, pos := "links.go:110", after := #[{ on := 3, ground := Ground.data }], guard := none }) rfl (fun K hK => ?_) AllReadyH.nil
    go_simp
    refine hK.out _ _ ?_ (fun hHeld => ?_)
    · exact KC.out.later (below1 w2 _)
    clear hK K hHeld2 cc4
    try simp only [Act.put, List.setIfInBounds_toArray, List.set_cons_zero, List.set_cons_succ]
    have own4 := own_later own3 (below1 w2 (.cells #[.int .i64 Tt] 54))
    have hnew : (w2.alloc (.cells #[.int .i64 Tt] 54)).cell? ⟨w2.heap.size, 0, none⟩ = some (.int .i64 Tt) := by simp [go_sem]
    have HC4 := Lib.hid (H5.out.later (below1 w2 (.cells #[.int .i64 Tt] 54)))
    have hs5 : (w2.alloc (.cells #[.int .i64 Tt] 54)).heap.size = w2.heap.size + 1 := World.size_alloc _ _
    have hsF : F < w2.heap.size := World.block_lt_of_cell? _ _ KC.out.f0
    have HB4 := Lib.hid ((HB5.out.mono (by omega : c ≤ BB)).trans ((below1 w2 (.cells #[.int .i64 Tt] 54)).mono (by omega : c ≤ w2.heap.size)))
    have KC4 := Lib.hid (KC.out.later (below1 w2 (.cells #[.int .i64 Tt] 54)))
    generalize hE : w2.heap.size = E at *
    generalize w2.alloc (.cells #[.int .i64 Tt] 54) = w4' at *
    refine wpAnyH_ready (rs := [8]) (by kernel_rfl) (by simp) ?_
    refine AllReadyH.cons (o := { dst := some 42, op := Op.call { callee := Callee.builtin Builtin.append, args := #[Operand.tmp 38, Operand.tmp 41], argTypes := #[23, 23] }, type := 23, pos := "links.go:110", after := #[{ on := 4, ground := Ground.data }, { on := 7, ground := Ground.data }], guard := none }) rfl (fun K hK => ?_) AllReadyH.nil
    rw [if_pos (by rfl)]
    refine wp_append_own_at _ _ 23 rfl (c + 1) 54 i0 (.int .i64 0) 1 8 Try.underlying23 hi hz0 hz1 hz2 rfl (by omega) _ ls.length (ls.map (Value.int .i64)) rfl own4 ⟨E, 0, none⟩ 1 1 [.int .i64 Tt] rfl rfl ?_ ?_ ?_ ?_ ?_ ?_
    · intro jj u hjj
      rw [Lib.add_plain]
      match jj, hjj with
      | 0, hjj => cases hjj; simpa using hnew
    · intro u hu; simp at hu; rcases hu with rfl; rfl
    · have hml : maxLen = 9223372036854775807 := rfl; omega
    · omega
    · omega
    intro v' w5 hown hgrow hnil hloc
    obtain ⟨r', z', hv'⟩ := own_shape hown
    subst hv'
    have hgM : w4'.grownBy w5 M := by rw [← eM]; exact hgrow
    have hM1 : ∀ k, BB ≤ k → M ≠ some k := fun k hk e => by have := (HBL.out.2 k e).2; omega
    have hMc : M ≠ some c := fun e => by have := (HBL.out.2 c e).1; omega
    have hown' : w5.ownsRow (c + 1) 54 1 (.slice r' (ls ++ [Tt]).length z') (ls ++ [Tt]).length ((ls ++ [Tt]).map (Value.int .i64)) := by simpa using hown
    have hloc2 : (Value.slice r' (ls.length + 1) z').ownBlock = (Value.slice rv ls.length zv).ownBlock ∨ (Value.slice r' (ls.length + 1) z').ownBlock = some w4'.heap.size := hloc
    have hlen : (ls ++ [Tt]).length = ls.length + 1 := by simp
    have hloc' : (Value.slice r' (ls ++ [Tt]).length z').ownBlock = M ∨ (Value.slice r' (ls ++ [Tt]).length z').ownBlock = some w4'.heap.size := by rw [← eM, hlen]; exact hloc2
    have hP := HC4.out.push3 hgM hown' hloc'
    rw [hlen] at hP
    have HP := Lib.hid hP
    have f5 := (grown_frozen hgM HC4.out.lt hMc (a := ⟨c, 3, none⟩)).trans HC4.out.f3
    have cc5 : ∃ vv, w5.cell? ⟨c, 3, none⟩ = some vv := by obtain ⟨r9, z9, q9, _⟩ := HC4.out.c3; exact ⟨_, grown_cell hgM q9 hMc⟩
    obtain ⟨vv, cc5⟩ := cc5
    have KC5 := Lib.hid (KC4.out.grown hgM (hM1 _ (by omega)) (hM1 _ (by omega)) (hM1 _ (by omega)))
    have HB6 := Lib.hid ((HB4.out.grown hgM (by omega) (fun k hk => Nat.le_of_lt (HBL.out.2 k hk).1)).setCell (p := ⟨c, 3, none⟩) (Nat.le_refl c) (.slice r' (ls.length + 1) z'))
    have KC6 := Lib.hid (KC5.out.set (p := ⟨c, 3, none⟩) (v := .slice r' (ls.length + 1) z') (by show c ≠ BB; omega) (by show c ≠ D; omega) (by show c ≠ F; omega))
    clear hP hlen hloc2 hloc' hown'
    refine hK.out _ _ ?_ (fun hHeld3 => ?_)
    · exact KC5.out
    clear hK K hHeld hown hgrow hnil hloc
    try simp only [Act.put, List.setIfInBounds_toArray, List.set_cons_zero, List.set_cons_succ]
    refine wpAnyH_ready (rs := [9]) (by kernel_rfl) (by simp) ?_
    refine AllReadyH.cons (o := { dst := some 43, op := Op.nilCheck (Operand.tmp 34), type := 0, pos := "links.go:110", after := #[{ on := 0, ground := Ground.data }, { on := 0, ground := Ground.phase }, { on := 1, ground := Ground.phase }, { on := 2, ground := Ground.phase }, { on := 3, ground := Ground.phase }, { on := 4, ground := Ground.phase }, { on := 5, ground := Ground.phase }, { on := 6, ground := Ground.phase }, { on := 7, ground := Ground.phase }, { on := 8, ground := Ground.phase }], guard := none }) rfl (fun K hK => ?_) AllReadyH.nil
    go_simp
    refine hK.out _ _ ?_ (fun _ => ?_)
    · exact KC5.out
    clear hK K
    try simp only [Act.put, List.setIfInBounds_toArray, List.set_cons_zero, List.set_cons_succ]
    refine wpAnyH_ready (rs := [10]) (by kernel_rfl) (by simp) ?_
    refine AllReadyH.cons (o := { dst := some 44, op := Op.fieldAddr 89 (Operand.tmp 43) 3, type := 0, pos := "links.go:110", after := #[{ on := 9, ground := Ground.data }, { on := 0, ground := Ground.phase }, { on := 1, ground := Ground.phase }, { on := 2, ground := Ground.phase }, { on := 3, ground := Ground.phase }, { on := 4, ground := Ground.phase }, { on := 5, ground := Ground.phase }, { on := 6, ground := Ground.phase }, { on := 7, ground := Ground.phase }, { on := 8, ground := Ground.phase }], guard := none }) rfl (fun K hK => ?_) AllReadyH.nil
    go_simp
    refine hK.out _ _ ?_ (fun _ => ?_)
    · exact KC5.out
    clear hK K
    try simp only [Act.put, List.setIfInBounds_toArray, List.set_cons_zero, List.set_cons_succ]
    refine wpAnyH_ready (rs := [11]) (by kernel_rfl) (by simp) ?_
    refine AllReadyH.cons (o := { dst := none, op := Op.store 23 (Operand.tmp 44) (Operand.tmp 42), type := 0, pos := "links.go:110", after := #[{ on := 10, ground := Ground.data }, { on := 8, ground := Ground.data }, { on := 8, ground := Ground.chain }, { on := 0, ground := Ground.phase }, { on := 1, ground := Ground.phase }, { on := 2, ground := Ground.phase }, { on := 3, ground := Ground.phase }, { on := 4, ground := Ground.phase }, { on := 5, ground := Ground.phase }, { on := 6, ground := Ground.phase }, { on := 7, ground := Ground.phase }, { on := 8, ground := Ground.phase }], guard := none }) rfl (fun K hK => ?_) AllReadyH.nil
    go_simp
    refine hK.out _ _ ?_ (fun hHeld4 => ?_)
    · exact KC6.out
    clear hK K hHeld3
    try simp only [Act.put, List.setIfInBounds_toArray, List.set_cons_zero, List.set_cons_succ]
    refine wpAnyH_done (by kernel_rfl) ?_ _
    generalize (w5.setCell ⟨c, 3, none⟩ (.slice r' (ls.length + 1) z')) = w6 at *
    clear hHeld4 cc5 f5 own4
    obtain ⟨b1, d0, d1, f0, f1, f2⟩ := KC6.out
    clear KC6 KC5 KC4 KC HC4 HB4 cc3 own3 eM H5 hnew HB5
    cases ok
    · go_wp2_with fail
      exact bodyPost_ret (v := .bool false) (by simp [results, Try.results60, go_sem]) rfl ⟨rfl, ⟨_, HP.out⟩, HB6.out⟩
    obtain ⟨rfl, rfl, rfl⟩ := HKE.out rfl
    clear HKE
    by_cases hn : Tt < 0
    rotate_left
    · have q0 := decide_eq_false hn
      have hn9 := Lib.hid hn
      clear hn
      go_wp2_with fail
      exact bodyPost_ret (v := .bool false) (by simp [results, Try.results60, go_sem]) rfl ⟨by simp [], ⟨_, HP.out⟩, HB6.out⟩
    have q0 := decide_eq_true hn
    by_cases hk : a.K (Tt.natAbs - 1) = 1
    rotate_left
    · have q1 : (a.K (Tt.natAbs - 1) == 1) = false := by simpa using hk
      go_wp2_with fail
      exact bodyPost_ret (v := .bool false) (by simp [results, Try.results60, go_sem]) rfl ⟨by simp [q1], ⟨_, HP.out⟩, HB6.out⟩
    have q1 : (a.K (Tt.natAbs - 1) == 1) = true := by simpa using hk
    have hpe := fun W => pair_eql rx ry (a.A (Tt.natAbs - 1)) (a.B (Tt.natAbs - 1)) W
    go_wp2_with fail
    exact bodyPost_ret (v := .bool (rx == a.A (Tt.natAbs - 1) && ry == a.B (Tt.natAbs - 1))) (by simp [results, Try.results60, go_sem]) rfl ⟨by simp [q0, q1], ⟨_, HP.out⟩, HB6.out⟩
end Go.Proofs.Ytgdncnalahdjeaa
