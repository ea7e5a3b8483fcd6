/- The checker: a link put behind the others. -/
import Derived.Test.YtgdncnalahdjeaaL11
namespace Go.Proofs.Ytgdncnalahdjeaa
open Go Go.RowKit

set_option maxRecDepth 100000 in
set_option maxHeartbeats 3000000 in
theorem concludes_any (c : Nat) (T M : Option Nat) (p : Option Addr) (n cv : Nat) (q : Option Addr) (m ca : Nat) (ts : List (Int × Int)) (ls : List Int) (K Tt A B I J : Int) (P : Option Addr) (L C : Nat) (w : World) (h : CheckerAt w c T M p n cv q m ca ts ls) (hl : ts.length ≤ 1000000) (hll : ls.length ≤ 1000000) (w0 : World) (hw : Below w0.heap.size w0 w) (d : VD) (a : AD) (g : Given w0 c p n d q m a) (V : Nat → Int) (hV : LitsIn w0 P L V) (hL : L ≤ 9223372036854775807) (l0 : -9223372036854775808 ≤ Tt) (l1 : Tt ≤ 9223372036854775807) :
    Calls Try.prog 61 #[.pointer (some ⟨c, 0, none⟩), linkV K Tt A B I J P L C] w fun e w' => e = .returned (.bool (conclL n d m a ts K Tt A B I J L V).2) ∧ (∃ T' M', CheckerAt w' c T' M' p n cv q m ca (ts ++ [(conclL n d m a ts K Tt A B I J L V).1]) (litsT K Tt ls)) ∧ Below c w w' := by
  obtain ⟨i0, hi, hz0, hz1, hz2⟩ := info113
  obtain ⟨tx, ty, tb, htt⟩ : ∃ tx ty tb, conclL n d m a ts K Tt A B I J L V = ((tx, ty), tb) := ⟨_, _, _, rfl⟩
  have hB0 := below1 w (.cells #[.int .u8 K, .int .i64 Tt, .int .i64 A, .int .i64 B, .int .i64 I, .int .i64 J, .slice P L C] 57)
  have H1 := concl_any c T M p n cv q m ca ts ls K Tt A B I J P L C _ (h.later hB0) hl hll w0 (chain hw hB0) d a g V hV hL l0 l1
  rw [htt] at H1
  rw [htt]
  clear htt
  unfold linkV
  unfold linkV at H1
  dsimp only at H1
  have h1c := h.lt
  have HB0 := Lib.hid hB0
  clear h hB0 hw hV g
  generalize litsT K Tt ls = ls1 at *
  go_enter Try.func61, Try.ntmps61
  go_wp2_with fail
  refine H1.mono ?_
  rintro e1 w3 ⟨rfl, ⟨M1, h3⟩, hb⟩
  skip
  have h4 := h3.later (below1 w3 (.cells #[.int .i64 tx, .int .i64 ty] 113))
  have hbl := h3.blocks
  have hs3 := hb.size
  have hs1 : (w.alloc (.cells #[.int .u8 K, .int .i64 Tt, .int .i64 A, .int .i64 B, .int .i64 I, .int .i64 J, .slice P L C] 57)).heap.size = w.heap.size + 1 := World.size_alloc _ _
  have d0 : (w3.alloc (.cells #[.int .i64 tx, .int .i64 ty] 113)).cell? ⟨w3.heap.size, 0, none⟩ = some (.int .i64 tx) := by simp [go_sem]
  have d1 : (w3.alloc (.cells #[.int .i64 tx, .int .i64 ty] 113)).cell? ⟨w3.heap.size, 1, none⟩ = some (.int .i64 ty) := by simp [go_sem]
  have hbb := ((HB0.out.mono (Nat.le_of_lt h1c)).trans hb).trans ((below1 w3 (.cells #[.int .i64 tx, .int .i64 ty] 113)).mono (Nat.le_of_lt h3.lt))
  have D0 := Lib.hid d0
  have D1 := Lib.hid d1
  have H4 := Lib.hid h4
  have HBL := Lib.hid hbl
  have HBB := Lib.hid hbb
  have hcD : c < w3.heap.size := by omega
  clear d0 d1 h4 h3 hbl hbb hb HB0 H1 hs1 hs3
  go_wp2_with fail
  generalize hD : w3.heap.size = D at *
  generalize (w3.alloc (.cells #[.int .i64 tx, .int .i64 ty] 113)) = w1 at *
  refine wp_region_held_drew (S := (fun w' : World => w'.cell? ⟨D, 0, none⟩ = some (.int .i64 tx) ∧ w'.cell? ⟨D, 1, none⟩ = some (.int .i64 ty))) (by kernel_rfl) ⟨by rw [World.cell?_drew]; exact D0.out, by rw [World.cell?_drew]; exact D1.out⟩ (fun hHeld => ?_)
  replace D0 := Lib.hid (show w1.drew.cell? ⟨D, 0, none⟩ = some (.int .i64 tx) by rw [World.cell?_drew]; exact D0.out)
  replace D1 := Lib.hid (show w1.drew.cell? ⟨D, 1, none⟩ = some (.int .i64 ty) by rw [World.cell?_drew]; exact D1.out)
  replace H4 := Lib.hid (show CheckerAt w1.drew c T M1 p n cv q m ca ts ls1 from H4.out.later ((Below.refl _ _).drew))
  replace HBB := Lib.hid (HBB.out.drew)
  generalize w1.drew = w2 at *
  refine wpAnyH_take (i := 0) (oi := { dst := some 13, op := Op.move (Operand.tmp 0), type := 111, pos := "links.go:119", after := #[], guard := none }) (v := ?_) rfl (by kernel_rfl) (by kernel_rfl) (by kernel_rfl) (fun _ _ _ h => h) (Or.inl ⟨by rfl, ?_⟩) (by assumption) ?_
  rotate_left
  · intro w hSw
    (try dsimp only at hSw)
    go_simp
    try with_reducible rfl
  try simp only [Act.put, List.setIfInBounds_toArray, List.set_cons_zero, List.set_cons_succ]
  refine wpAnyH_take (i := 1) (oi := { dst := some 14, op := Op.move (Operand.tmp 0), type := 111, pos := "links.go:119", after := #[], guard := none }) (v := ?_) rfl (by kernel_rfl) (by kernel_rfl) (by kernel_rfl) (fun _ _ _ h => h) (Or.inl ⟨by rfl, ?_⟩) (by assumption) ?_
  rotate_left
  · intro w hSw
    (try dsimp only at hSw)
    go_simp
    try with_reducible rfl
  try simp only [Act.put, List.setIfInBounds_toArray, List.set_cons_zero, List.set_cons_succ]
  refine wpAnyH_take (i := 2) (oi := { dst := some 15, op := Op.nilCheck (Operand.tmp 14), type := 0, pos := "links.go:119", after := #[{ on := 1, ground := Ground.data }], guard := none }) (v := ?_) rfl (by kernel_rfl) (by kernel_rfl) (by kernel_rfl) (fun _ _ _ h => h) (Or.inl ⟨by rfl, ?_⟩) (by assumption) ?_
  rotate_left
  · intro w hSw
    (try dsimp only at hSw)
    go_simp
    try with_reducible rfl
  try simp only [Act.put, List.setIfInBounds_toArray, List.set_cons_zero, List.set_cons_succ]
  refine wpAnyH_take (i := 3) (oi := { dst := some 16, op := Op.fieldAddr 89 (Operand.tmp 15) 2, type := 0, pos := "links.go:119", after := #[{ on := 2, ground := Ground.data }], guard := none }) (v := ?_) rfl (by kernel_rfl) (by kernel_rfl) (by kernel_rfl) (fun _ _ _ h => h) (Or.inl ⟨by rfl, ?_⟩) (by assumption) ?_
  rotate_left
  · intro w hSw
    (try dsimp only at hSw)
    go_simp
    try with_reducible rfl
  try simp only [Act.put, List.setIfInBounds_toArray, List.set_cons_zero, List.set_cons_succ]
  refine wpAnyH_take (i := 5) (oi := { dst := some 18, op := Op.load 113 (Operand.tmp 5), type := 113, pos := "links.go:119", after := #[], guard := none }) (v := ?_) rfl (by kernel_rfl) (by kernel_rfl) (by kernel_rfl) (fun _ _ _ h => h) (Or.inl ⟨by rfl, ?_⟩) (by assumption) ?_
  rotate_left
  · intro w hSw
    obtain ⟨hc0, hc1⟩ := hSw
    go_simp
    try with_reducible rfl
  try simp only [Act.put, List.setIfInBounds_toArray, List.set_cons_zero, List.set_cons_succ]
  obtain ⟨rv, zv, cc2, eT, own2⟩ := H4.out.c2
  refine wpAnyH_ready (rs := [4, 6]) (by kernel_rfl) (by simp) ?_
  refine AllReadyH.cons (o := { dst := some 17, op := Op.load 87 (Operand.tmp 16), type := 87, pos := "links.go:119", after := #[{ on := 3, ground := Ground.data }], guard := none }) rfl (fun K hK => ?_) (AllReadyH.cons (o := { dst := some 19, op := Op.buildSlice 87 1 #[(0, Operand.tmp 18)], type := 87, pos := "links.go:119", after := #[{ on := 5, ground := Ground.data }], guard := none }) rfl (fun K hK => ?_) AllReadyH.nil)
  · go_simp
    refine hK.out _ _ ?_ (fun hHeld2 => ?_)
    · exact ⟨D0.out, D1.out⟩
    clear hK K hHeld
    try simp only [Act.put, List.setIfInBounds_toArray, List.set_cons_zero, List.set_cons_succ]
    refine wpAnyH_ready (rs := [6]) (by kernel_rfl) (by simp) ?_
    refine AllReadyH.cons (o := { dst := some 19, op := Op.buildSlice 87 1 #[(0, Operand.tmp 18)], type := 87, pos := "links.go:119", after := #[{ on := 5, ground := Ground.data }], guard := none }) rfl (fun K hK => ?_) AllReadyH.nil
    go_simp
    refine hK.out _ _ ?_ (fun hHeld => ?_)
    · exact ⟨cell_later (below1 w2 _) D0.out, cell_later (below1 w2 _) D1.out⟩
    clear hK K hHeld2
    try simp only [Act.put, List.setIfInBounds_toArray, List.set_cons_zero, List.set_cons_succ]
    have own4 := own_later own2 (below1 w2 (.cells #[.int .i64 tx, .int .i64 ty] 113))
    have hn0 : (w2.alloc (.cells #[.int .i64 tx, .int .i64 ty] 113)).cell? ⟨w2.heap.size, 0, none⟩ = some (.int .i64 tx) := by simp [go_sem]
    have hn1 : (w2.alloc (.cells #[.int .i64 tx, .int .i64 ty] 113)).cell? ⟨w2.heap.size, 1, none⟩ = some (.int .i64 ty) := by simp [go_sem]
    have HC4 := Lib.hid (H4.out.later (below1 w2 (.cells #[.int .i64 tx, .int .i64 ty] 113)))
    have hs4 : (w2.alloc (.cells #[.int .i64 tx, .int .i64 ty] 113)).heap.size = w2.heap.size + 1 := World.size_alloc _ _
    have hsD : D < w2.heap.size := World.block_lt_of_cell? _ _ D0.out
    have HB4 := Lib.hid (HBB.out.trans ((below1 w2 (.cells #[.int .i64 tx, .int .i64 ty] 113)).mono (by omega : c ≤ w2.heap.size)))
    have D04 := Lib.hid (cell_later (below1 w2 (.cells #[.int .i64 tx, .int .i64 ty] 113)) D0.out)
    have D14 := Lib.hid (cell_later (below1 w2 (.cells #[.int .i64 tx, .int .i64 ty] 113)) D1.out)
    generalize hE : w2.heap.size = E at *
    generalize w2.alloc (.cells #[.int .i64 tx, .int .i64 ty] 113) = w4 at *
    refine wpAnyH_ready (rs := [7]) (by kernel_rfl) (by simp) ?_
    refine AllReadyH.cons (o := { dst := some 20, op := Op.call { callee := Callee.builtin Builtin.append, args := #[Operand.tmp 17, Operand.tmp 19], argTypes := #[87, 87] }, type := 87, pos := "links.go:119", after := #[{ on := 4, ground := Ground.data }, { on := 6, ground := Ground.data }], guard := none }) rfl (fun K hK => ?_) AllReadyH.nil
    rw [if_pos (by rfl)]
    refine wp_append_own_at _ _ 87 rfl (c + 1) 113 i0 (.agg #[.int .i64 0, .int .i64 0]) 2 16 Try.underlying87 hi hz0 hz1 hz2 rfl (by omega) _ ts.length (flat2 ts) rfl own4 ⟨E, 0, none⟩ 1 1 [.int .i64 tx, .int .i64 ty] rfl rfl ?_ ?_ ?_ ?_ ?_ ?_
    · intro jj u hjj
      rw [Lib.add_plain]
      match jj, hjj with
      | 0, hjj => cases hjj; simpa using hn0
      | 1, hjj => cases hjj; simpa using hn1
    · intro u hu; simp at hu; rcases hu with rfl | rfl <;> rfl
    · have hml : maxLen = 9223372036854775807 := rfl; omega
    · omega
    · omega
    intro v' w5 hown hgrow hnil hloc
    obtain ⟨r', z', hv'⟩ := own_shape hown
    subst hv'
    have hgT : w4.grownBy w5 T := by rw [← eT]; exact hgrow
    have hTD : T ≠ some D := fun e => by have := (HBL.out.1 D e).2; omega
    have hTc : T ≠ some c := fun e => by have := (HBL.out.1 c e).1; omega
    have hown' : w5.ownsRow (c + 1) 113 2 (.slice r' (ts ++ [(tx, ty)]).length z') (ts ++ [(tx, ty)]).length (flat2 (ts ++ [(tx, ty)])) := by rw [flat2_app]; simpa using hown
    have hloc2 : (Value.slice r' (ts.length + 1) z').ownBlock = (Value.slice rv ts.length zv).ownBlock ∨ (Value.slice r' (ts.length + 1) z').ownBlock = some w4.heap.size := hloc
    have hlen : (ts ++ [(tx, ty)]).length = ts.length + 1 := by simp
    have hloc' : (Value.slice r' (ts ++ [(tx, ty)]).length z').ownBlock = T ∨ (Value.slice r' (ts ++ [(tx, ty)]).length z').ownBlock = some w4.heap.size := by rw [← eT, hlen]; exact hloc2
    have hP := HC4.out.push2 hgT hown' hloc'
    rw [hlen] at hP
    have HP := Lib.hid hP
    have f5 := (grown_frozen hgT HC4.out.lt hTc (a := ⟨c, 2, none⟩)).trans HC4.out.f2
    have cc5 : ∃ vv, w5.cell? ⟨c, 2, none⟩ = some vv := by obtain ⟨r9, z9, q9, _⟩ := HC4.out.c2; exact ⟨_, grown_cell hgT q9 hTc⟩
    obtain ⟨vv, cc5⟩ := cc5
    have D05 := Lib.hid (grown_cell hgT D04.out hTD)
    have D15 := Lib.hid (grown_cell hgT D14.out hTD)
    have HB5 := Lib.hid ((HB4.out.grown hgT (by omega) (fun k hk => Nat.le_of_lt (HBL.out.1 k hk).1)).setCell (p := ⟨c, 2, none⟩) (Nat.le_refl c) (.slice r' (ts.length + 1) z'))
    clear hP hlen hloc2 hloc' hown'
    refine hK.out _ _ ?_ (fun hHeld3 => ?_)
    · exact ⟨D05.out, D15.out⟩
    clear hK K hHeld hown hgrow hnil hloc
    try simp only [Act.put, List.setIfInBounds_toArray, List.set_cons_zero, List.set_cons_succ]
    refine wpAnyH_ready (rs := [8]) (by kernel_rfl) (by simp) ?_
    refine AllReadyH.cons (o := { dst := some 21, op := Op.nilCheck (Operand.tmp 13), type := 0, pos := "links.go:119", after := #[{ on := 0, ground := Ground.data }, { on := 0, ground := Ground.phase }, { on := 1, ground := Ground.phase }, { on := 2, ground := Ground.phase }, { on := 3, ground := Ground.phase }, { on := 4, ground := Ground.phase }, { on := 5, ground := Ground.phase }, { on := 6, ground := Ground.phase }, { on := 7, ground := Ground.phase }], guard := none }) rfl (fun K hK => ?_) AllReadyH.nil
    go_simp
    refine hK.out _ _ ?_ (fun _ => ?_)
    · exact ⟨D05.out, D15.out⟩
    clear hK K
    try simp only [Act.put, List.setIfInBounds_toArray, List.set_cons_zero, List.set_cons_succ]
    refine wpAnyH_ready (rs := [9]) (by kernel_rfl) (by simp) ?_
    refine AllReadyH.cons (o := { dst := some 22, op := Op.fieldAddr 89 (Operand.tmp 21) 2, type := 0, pos := "links.go:119", after := #[{ on := 8, ground := Ground.data }, { on := 0, ground := Ground.phase }, { on := 1, ground := Ground.phase }, { on := 2, ground := Ground.phase }, { on := 3, ground := Ground.phase }, { on := 4, ground := Ground.phase }, { on := 5, ground := Ground.phase }, { on := 6, ground := Ground.phase }, { on := 7, ground := Ground.phase }], guard := none }) rfl (fun K hK => ?_) AllReadyH.nil
    go_simp
    refine hK.out _ _ ?_ (fun _ => ?_)
    · exact ⟨D05.out, D15.out⟩
    clear hK K
    try simp only [Act.put, List.setIfInBounds_toArray, List.set_cons_zero, List.set_cons_succ]
    refine wpAnyH_ready (rs := [10]) (by kernel_rfl) (by simp) ?_
    refine AllReadyH.cons (o := { dst := none, op := Op.store 87 (Operand.tmp 22) (Operand.tmp 20), type := 0, pos := "links.go:119", after := #[{ on := 9, ground := Ground.data }, { on := 7, ground := Ground.data }, { on := 7, ground := Ground.chain }, { on := 0, ground := Ground.phase }, { on := 1, ground := Ground.phase }, { on := 2, ground := Ground.phase }, { on := 3, ground := Ground.phase }, { on := 4, ground := Ground.phase }, { on := 5, ground := Ground.phase }, { on := 6, ground := Ground.phase }, { on := 7, ground := Ground.phase }], guard := none }) rfl (fun K hK => ?_) AllReadyH.nil
    go_simp
    refine hK.out _ _ ?_ (fun hHeld4 => ?_)
    · exact ⟨set_cell_far D05.out (by simp <;> omega), set_cell_far D15.out (by simp <;> omega)⟩
    clear hK K hHeld3
    try simp only [Act.put, List.setIfInBounds_toArray, List.set_cons_zero, List.set_cons_succ]
    refine wpAnyH_done (by kernel_rfl) ?_ _
    generalize (w5.setCell ⟨c, 2, none⟩ (.slice r' (ts.length + 1) z')) = w6 at *
    clear hHeld4 cc5 f5 own4
    go_wp2_with fail
    exact bodyPost_ret (v := .bool tb) (by simp [results, Try.results61, go_sem]) rfl ⟨rfl, ⟨_, M1, HP.out⟩, HB5.out⟩
  · go_simp
    refine hK.out _ _ ?_ (fun hHeld2 => ?_)
    · exact ⟨cell_later (below1 w2 _) D0.out, cell_later (below1 w2 _) D1.out⟩
    clear hK K hHeld
    try simp only [Act.put, List.setIfInBounds_toArray, List.set_cons_zero, List.set_cons_succ]
    have cc4 := cell_later (below1 w2 (.cells #[.int .i64 tx, .int .i64 ty] 113)) cc2
    refine wpAnyH_ready (rs := [4]) (by kernel_rfl) (by simp) ?_
    refine AllReadyH.cons (o := { dst := some 17, op := Op.load 87 (Operand.tmp 16), type := 87, pos := "links.go:119", after := #[{ on := 3, ground := Ground.data }], guard := none }) rfl (fun K hK => ?_) AllReadyH.nil
    go_simp
    refine hK.out _ _ ?_ (fun hHeld => ?_)
    · exact ⟨cell_later (below1 w2 _) D0.out, cell_later (below1 w2 _) D1.out⟩
    clear hK K hHeld2 cc4
    try simp only [Act.put, List.setIfInBounds_toArray, List.set_cons_zero, List.set_cons_succ]
    have own4 := own_later own2 (below1 w2 (.cells #[.int .i64 tx, .int .i64 ty] 113))
    have hn0 : (w2.alloc (.cells #[.int .i64 tx, .int .i64 ty] 113)).cell? ⟨w2.heap.size, 0, none⟩ = some (.int .i64 tx) := by simp [go_sem]
    have hn1 : (w2.alloc (.cells #[.int .i64 tx, .int .i64 ty] 113)).cell? ⟨w2.heap.size, 1, none⟩ = some (.int .i64 ty) := by simp [go_sem]
    have HC4 := Lib.hid (H4.out.later (below1 w2 (.cells #[.int .i64 tx, .int .i64 ty] 113)))
    have hs4 : (w2.alloc (.cells #[.int .i64 tx, .int .i64 ty] 113)).heap.size = w2.heap.size + 1 := World.size_alloc _ _
    have hsD : D < w2.heap.size := World.block_lt_of_cell? _ _ D0.out
    have HB4 := Lib.hid (HBB.out.trans ((below1 w2 (.cells #[.int .i64 tx, .int .i64 ty] 113)).mono (by omega : c ≤ w2.heap.size)))
    have D04 := Lib.hid (cell_later (below1 w2 (.cells #[.int .i64 tx, .int .i64 ty] 113)) D0.out)
    have D14 := Lib.hid (cell_later (below1 w2 (.cells #[.int .i64 tx, .int .i64 ty] 113)) D1.out)
    generalize hE : w2.heap.size = E at *
    generalize w2.alloc (.cells #[.int .i64 tx, .int .i64 ty] 113) = w4 at *
    refine wpAnyH_ready (rs := [7]) (by kernel_rfl) (by simp) ?_
    refine AllReadyH.cons (o := { dst := some 20, op := Op.call { callee := Callee.builtin Builtin.append, args := #[Operand.tmp 17, Operand.tmp 19], argTypes := #[87, 87] }, type := 87, pos := "links.go:119", after := #[{ on := 4, ground := Ground.data }, { on := 6, ground := Ground.data }], guard := none }) rfl (fun K hK => ?_) AllReadyH.nil
    rw [if_pos (by rfl)]
    refine wp_append_own_at _ _ 87 rfl (c + 1) 113 i0 (.agg #[.int .i64 0, .int .i64 0]) 2 16 Try.underlying87 hi hz0 hz1 hz2 rfl (by omega) _ ts.length (flat2 ts) rfl own4 ⟨E, 0, none⟩ 1 1 [.int .i64 tx, .int .i64 ty] rfl rfl ?_ ?_ ?_ ?_ ?_ ?_
    · intro jj u hjj
      rw [Lib.add_plain]
      match jj, hjj with
      | 0, hjj => cases hjj; simpa using hn0
      | 1, hjj => cases hjj; simpa using hn1
    · intro u hu; simp at hu; rcases hu with rfl | rfl <;> rfl
    · have hml : maxLen = 9223372036854775807 := rfl; omega
    · omega
    · omega
    intro v' w5 hown hgrow hnil hloc
    obtain ⟨r', z', hv'⟩ := own_shape hown
    subst hv'
    have hgT : w4.grownBy w5 T := by rw [← eT]; exact hgrow
    have hTD : T ≠ some D := fun e => by have := (HBL.out.1 D e).2; omega
    have hTc : T ≠ some c := fun e => by have := (HBL.out.1 c e).1; omega
    have hown' : w5.ownsRow (c + 1) 113 2 (.slice r' (ts ++ [(tx, ty)]).length z') (ts ++ [(tx, ty)]).length (flat2 (ts ++ [(tx, ty)])) := by rw [flat2_app]; simpa using hown
    have hloc2 : (Value.slice r' (ts.length + 1) z').ownBlock = (Value.slice rv ts.length zv).ownBlock ∨ (Value.slice r' (ts.length + 1) z').ownBlock = some w4.heap.size := hloc
    have hlen : (ts ++ [(tx, ty)]).length = ts.length + 1 := by simp
    have hloc' : (Value.slice r' (ts ++ [(tx, ty)]).length z').ownBlock = T ∨ (Value.slice r' (ts ++ [(tx, ty)]).length z').ownBlock = some w4.heap.size := by rw [← eT, hlen]; exact hloc2
    have hP := HC4.out.push2 hgT hown' hloc'
    rw [hlen] at hP
    have HP := Lib.hid hP
    have f5 := (grown_frozen hgT HC4.out.lt hTc (a := ⟨c, 2, none⟩)).trans HC4.out.f2
    have cc5 : ∃ vv, w5.cell? ⟨c, 2, none⟩ = some vv := by obtain ⟨r9, z9, q9, _⟩ := HC4.out.c2; exact ⟨_, grown_cell hgT q9 hTc⟩
    obtain ⟨vv, cc5⟩ := cc5
    have D05 := Lib.hid (grown_cell hgT D04.out hTD)
    have D15 := Lib.hid (grown_cell hgT D14.out hTD)
    have HB5 := Lib.hid ((HB4.out.grown hgT (by omega) (fun k hk => Nat.le_of_lt (HBL.out.1 k hk).1)).setCell (p := ⟨c, 2, none⟩) (Nat.le_refl c) (.slice r' (ts.length + 1) z'))
    clear hP hlen hloc2 hloc' hown'
    refine hK.out _ _ ?_ (fun hHeld3 => ?_)
    · exact ⟨D05.out, D15.out⟩
    clear hK K hHeld hown hgrow hnil hloc
    try simp only [Act.put, List.setIfInBounds_toArray, List.set_cons_zero, List.set_cons_succ]
    refine wpAnyH_ready (rs := [8]) (by kernel_rfl) (by simp) ?_
    refine AllReadyH.cons (o := { dst := some 21, op := Op.nilCheck (Operand.tmp 13), type := 0, pos := "links.go:119", after := #[{ on := 0, ground := Ground.data }, { on := 0, ground := Ground.phase }, { on := 1, ground := Ground.phase }, { on := 2, ground := Ground.phase }, { on := 3, ground := Ground.phase }, { on := 4, ground := Ground.phase }, { on := 5, ground := Ground.phase }, { on := 6, ground := Ground.phase }, { on := 7, ground := Ground.phase }], guard := none }) rfl (fun K hK => ?_) AllReadyH.nil
    go_simp
    refine hK.out _ _ ?_ (fun _ => ?_)
    · exact ⟨D05.out, D15.out⟩
    clear hK K
    try simp only [Act.put, List.setIfInBounds_toArray, List.set_cons_zero, List.set_cons_succ]
    refine wpAnyH_ready (rs := [9]) (by kernel_rfl) (by simp) ?_
    refine AllReadyH.cons (o := { dst := some 22, op := Op.fieldAddr 89 (Operand.tmp 21) 2, type := 0, pos := "links.go:119", after := #[{ on := 8, ground := Ground.data }, { on := 0, ground := Ground.phase }, { on := 1, ground := Ground.phase }, { on := 2, ground := Ground.phase }, { on := 3, ground := Ground.phase }, { on := 4, ground := Ground.phase }, { on := 5, ground := Ground.phase }, { on := 6, ground := Ground.phase }, { on := 7, ground := Ground.phase }], guard := none }) rfl (fun K hK => ?_) AllReadyH.nil
    go_simp
    refine hK.out _ _ ?_ (fun _ => ?_)
    · exact ⟨D05.out, D15.out⟩
    clear hK K
    try simp only [Act.put, List.setIfInBounds_toArray, List.set_cons_zero, List.set_cons_succ]
    refine wpAnyH_ready (rs := [10]) (by kernel_rfl) (by simp) ?_
    refine AllReadyH.cons (o := { dst := none, op := Op.store 87 (Operand.tmp 22) (Operand.tmp 20), type := 0, pos := "links.go:119", after := #[{ on := 9, ground := Ground.data }, { on := 7, ground := Ground.data }, { on := 7, ground := Ground.chain }, { on := 0, ground := Ground.phase }, { on := 1, ground := Ground.phase }, { on := 2, ground := Ground.phase }, { on := 3, ground := Ground.phase }, { on := 4, ground := Ground.phase }, { on := 5, ground := Ground.phase }, { on := 6, ground := Ground.phase }, { on := 7, ground := Ground.phase }], guard := none }) rfl (fun K hK => ?_) AllReadyH.nil
    go_simp
    refine hK.out _ _ ?_ (fun hHeld4 => ?_)
    · exact ⟨set_cell_far D05.out (by simp <;> omega), set_cell_far D15.out (by simp <;> omega)⟩
    clear hK K hHeld3
    try simp only [Act.put, List.setIfInBounds_toArray, List.set_cons_zero, List.set_cons_succ]
    refine wpAnyH_done (by kernel_rfl) ?_ _
    generalize (w5.setCell ⟨c, 2, none⟩ (.slice r' (ts.length + 1) z')) = w6 at *
    clear hHeld4 cc5 f5 own4
    go_wp2_with fail
    exact bodyPost_ret (v := .bool tb) (by simp [results, Try.results61, go_sem]) rfl ⟨rfl, ⟨_, M1, HP.out⟩, HB5.out⟩
end Go.Proofs.Ytgdncnalahdjeaa
