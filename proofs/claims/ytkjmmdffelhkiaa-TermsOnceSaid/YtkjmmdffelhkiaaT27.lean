/- Stage 6: Node, of both. -/
import Derived.Test.YtkjmmdffelhkiaaT25
namespace Go.Proofs.Ytkjmmdffelhkiaa
open Go Go.RowKit Go.Maps

variable {W W' : World} {K K' : Nat → Nat} {base c r : Nat} {T : Sto} {N : List Nd} {e : Ending} {w' : World}
def ndP (x : Nd) (P : Option Addr) (C : Nat) : Value := .agg #[.int .u8 x.q, .int .i64 x.f, .int .i64 x.n, .int .i64 x.s, .slice P x.L C]
def nd0 : Value := .agg #[.int .u8 0, .int .i64 0, .int .i64 0, .int .i64 0, .slice none 0 0]
def NodeP (N : List Nd) (t : Int) (W : World) (e : Ending) (w' : World) : Prop :=
  (∃ x P C, InL N t ∧ N[t.toNat]? = some x ∧ e = .returned (.tuple #[ndP x P C, .int .i64 0]) ∧ w'.ownsRow W.heap.size 73 1 (.slice P x.L C) x.L (rowV x.L x.V) ∧ Below W.heap.size W w') ∨
  (¬ InL N t ∧ e = .returned (.tuple #[nd0, .int .i64 7]) ∧ Below W.heap.size W w')
theorem own_setFar {w : World} {base n b i : Nat} {e : TypeId} {sz : Nat} {v u : Value} {xs : List Value} (h : w.ownsRow base e sz v n xs) (hb : b < base) : (w.setCell ⟨b, i, none⟩ u).ownsRow base e sz v n xs :=
  own_only h (Only.of_setCell w ⟨b, i, none⟩ u) (fun k hk e => by have := (own_lt h hk).1; have e2 : k = b := e; omega)
theorem info73 : ∃ i0, Try.prog.info? 73 = some i0 ∧ i0.zero = some (.int .i64 0) ∧ i0.size = 1 ∧ i0.bytes = 8 := info_of (by kernel_rfl)
set_option maxRecDepth 100000 in
set_option maxHeartbeats 8000000 in
theorem node_any (h : StoAt W K base c T) (g : GoodS T) (h0 : 0 < T.nodes.length) (t : Int) : Calls Try.prog 40 #[.pointer (some ⟨c, 0, none⟩), .int .i64 t] W (NodeP T.nodes t W) := by
  have hb0 := chain (below1 W (.cells #[.int .u8 0, .int .i64 0, .int .i64 0, .int .i64 0, .slice none 0 0] 89)) (below1 (W.alloc (.cells #[.int .u8 0, .int .i64 0, .int .i64 0, .int .i64 0, .slice none 0 0] 89)) (.cells #[.int .i64 t] 73))
  have H1 := Lib.hid (h.later hb0)
  have HG := Lib.hid g
  have hb9 := g.b0
  have HI1 := one_ints (W.alloc (.cells #[.int .u8 0, .int .i64 0, .int .i64 0, .int .i64 0, .slice none 0 0] 89)) t
  rw [show (W.alloc (.cells #[.int .u8 0, .int .i64 0, .int .i64 0, .int .i64 0, .slice none 0 0] 89)).heap.size = W.heap.size + 1 by simp] at HI1
  have HC := check_any H1.out g h0 _ 1 1 (fun _ => t) HI1 (by omega)
  clear h g
  have F := fun (i : Nat) (v : Value) (hv : (#[.int .u8 0, .int .i64 0, .int .i64 0, .int .i64 0, .slice none 0 0] : Array Value)[i]? = some v) => cell_later (below1 (W.alloc (.cells #[.int .u8 0, .int .i64 0, .int .i64 0, .int .i64 0, .slice none 0 0] 89)) (.cells #[.int .i64 t] 73)) (show (W.alloc (.cells #[.int .u8 0, .int .i64 0, .int .i64 0, .int .i64 0, .slice none 0 0] 89)).cell? ⟨W.heap.size, i, none⟩ = some v by simp [go_sem, hv])
  have d0 := F 0 _ rfl
  have d1 := F 1 _ rfl
  have d2 := F 2 _ rfl
  have d3 := F 3 _ rfl
  have d4 := F 4 _ rfl
  have G := fun (i : Nat) => show ((W.alloc (.cells #[.int .u8 0, .int .i64 0, .int .i64 0, .int .i64 0, .slice none 0 0] 89)).alloc (.cells #[.int .i64 t] 73)).frozen? ⟨W.heap.size, i, none⟩ = false by simp [go_sem]
  have g0 := G 0
  have g1 := G 1
  have g2 := G 2
  have g3 := G 3
  have g4 := G 4
  have HB0 := Lib.hid hb0
  clear F G hb0 HI1
  go_enter Try.func40, Try.ntmps40
  go_wp2_with fail
  generalize (W.alloc (.cells #[.int .u8 0, .int .i64 0, .int .i64 0, .int .i64 0, .slice none 0 0] 89)).alloc (.cells #[.int .i64 t] 73) = w1 at *
  generalize hq : W.heap.size = b0 at *
  have HQ := Lib.hid hq
  clear hq
  refine HC.mono ?_
  rintro e w2 ⟨er, rfl, hw, hcase⟩
  obtain rfl := hw.symm
  clear HC hw
  have HB2 := Lib.hid HB0.out
  clear HB0
  rcases hcase with ⟨rfl, hin⟩ | ⟨rfl, i, hi, hn⟩
  rotate_left
  · go_wp2_with fail
    refine bodyPost_ret (v := .tuple #[nd0, .int .i64 7]) (by simp [results, Try.results40, go_sem, nd0, d0, d1, d2, d3, d4]) rfl (.inr ⟨hn, rfl, ?_⟩)
    have hb := HB2.out
    rw [HQ.out]
    exact ((((hb.setCell (p := ⟨b0, 0, none⟩) (Nat.le_refl b0) _).setCell (p := ⟨b0, 1, none⟩) (Nat.le_refl b0) _).setCell (p := ⟨b0, 2, none⟩) (Nat.le_refl b0) _).setCell (p := ⟨b0, 3, none⟩) (Nat.le_refl b0) _).setCell (p := ⟨b0, 4, none⟩) (Nat.le_refl b0) _
  have hin0 : InL T.nodes t := hin 0 (by omega)
  clear hin
  obtain ⟨k, x, rfl, hk, hx⟩ := inS_get hin0
  have HIN := Lib.hid hin0
  have HX := Lib.hid hx
  have HLL := Lib.hid ((HG.out.gn) k x hx)
  obtain ⟨gg, z, y0, hgk, y1, y2, y3, y4, y5⟩ := H1.out.cells hx
  have hA := (H1.out.nargs hx).ints
  clear hgk
  generalize hww : w1 = w2 at *
  clear hww
  have hk0 : (0 : Int) ≤ (k : Int) := by omega
  have hk1 : (k : Int) < (T.nodes.length : Int) := by omega
  have HA := Lib.hid hA
  have hL := HLL.out.L
  clear hx hin0 hA
  obtain ⟨q, f, n, s, P, L, C, V⟩ := x
  simp only at y1 y2 y3 y4 y5 hL
  have hb2 := below1 w2 (.cells #[.int .u8 q, .int .i64 f, .int .i64 n, .int .i64 s, .slice P L C] 89)
  have HB3 := Lib.hid (HB2.out.trans (hb2.mono (by have := HB2.out.size; have := HQ.out; omega)))
  have k0 : (w2.alloc (.cells #[.int .u8 q, .int .i64 f, .int .i64 n, .int .i64 s, .slice P L C] 89)).cell? ⟨w2.heap.size, 0, none⟩ = some (.int .u8 q) := by simp [go_sem]
  have k1 : (w2.alloc (.cells #[.int .u8 q, .int .i64 f, .int .i64 n, .int .i64 s, .slice P L C] 89)).cell? ⟨w2.heap.size, 1, none⟩ = some (.int .i64 f) := by simp [go_sem]
  have k2 : (w2.alloc (.cells #[.int .u8 q, .int .i64 f, .int .i64 n, .int .i64 s, .slice P L C] 89)).cell? ⟨w2.heap.size, 2, none⟩ = some (.int .i64 n) := by simp [go_sem]
  have k3 : (w2.alloc (.cells #[.int .u8 q, .int .i64 f, .int .i64 n, .int .i64 s, .slice P L C] 89)).cell? ⟨w2.heap.size, 3, none⟩ = some (.int .i64 s) := by simp [go_sem]
  have k4 : (w2.alloc (.cells #[.int .u8 q, .int .i64 f, .int .i64 n, .int .i64 s, .slice P L C] 89)).cell? ⟨w2.heap.size, 4, none⟩ = some (.slice P L C) := by simp [go_sem]
  have kf : (w2.alloc (.cells #[.int .u8 q, .int .i64 f, .int .i64 n, .int .i64 s, .slice P L C] 89)).frozen? ⟨w2.heap.size, 4, none⟩ = false := by simp [go_sem]
  have ltb : b0 < w2.heap.size := World.block_lt_of_cell? _ _ d0
  replace d0 := cell_later hb2 d0
  replace d1 := cell_later hb2 d1
  replace d2 := cell_later hb2 d2
  replace d3 := cell_later hb2 d3
  replace d4 := cell_later hb2 d4
  replace g0 : (w2.alloc (.cells #[.int .u8 q, .int .i64 f, .int .i64 n, .int .i64 s, .slice P L C] 89)).frozen? ⟨b0, 0, none⟩ = false := by rw [hb2.frozen ltb]; exact g0
  replace g1 : (w2.alloc (.cells #[.int .u8 q, .int .i64 f, .int .i64 n, .int .i64 s, .slice P L C] 89)).frozen? ⟨b0, 1, none⟩ = false := by rw [hb2.frozen ltb]; exact g1
  replace g2 : (w2.alloc (.cells #[.int .u8 q, .int .i64 f, .int .i64 n, .int .i64 s, .slice P L C] 89)).frozen? ⟨b0, 2, none⟩ = false := by rw [hb2.frozen ltb]; exact g2
  replace g3 : (w2.alloc (.cells #[.int .u8 q, .int .i64 f, .int .i64 n, .int .i64 s, .slice P L C] 89)).frozen? ⟨b0, 3, none⟩ = false := by rw [hb2.frozen ltb]; exact g3
  replace g4 : (w2.alloc (.cells #[.int .u8 q, .int .i64 f, .int .i64 n, .int .i64 s, .slice P L C] 89)).frozen? ⟨b0, 4, none⟩ = false := by rw [hb2.frozen ltb]; exact g4
  have HA3 := Lib.hid (HA.out.later hb2)
  have hkb : b0 < w2.heap.size := ltb
  have lt3 : w2.heap.size < (w2.alloc (.cells #[.int .u8 q, .int .i64 f, .int .i64 n, .int .i64 s, .slice P L C] 89)).heap.size := by simp
  clear hb2 ltb
  go_upto_region 5 with (fail)
  generalize w2.alloc (.cells #[.int .u8 q, .int .i64 f, .int .i64 n, .int .i64 s, .slice P L C] 89) = w3 at *
  generalize w2.heap.size = kb at *
  clear y0 y1 y2 y3 y4 y5
  have HCL := clone_any82 P L C V w3 HA3.out (by omega)
  go_wp2_with fail
  refine HCL.mono ?_
  rintro e w5 ⟨v5, rfl, hown5, hb5⟩
  obtain ⟨p5, c5, hv5, _⟩ := own_shp hown5
  subst hv5
  have HB5 := Lib.hid hb5
  clear HCL hb5
  have hb5 := HB5.out
  have HO5 := Lib.hid hown5
  have HB6 := Lib.hid (HB3.out.trans (hb5.mono (by have := HB3.out.size; have := HQ.out; omega)))
  replace d0 := keepc hb5 d0 (by show b0 < w3.heap.size; omega)
  replace d1 := keepc hb5 d1 (by show b0 < w3.heap.size; omega)
  replace d2 := keepc hb5 d2 (by show b0 < w3.heap.size; omega)
  replace d3 := keepc hb5 d3 (by show b0 < w3.heap.size; omega)
  replace d4 := keepc hb5 d4 (by show b0 < w3.heap.size; omega)
  replace k0 := keepc hb5 k0 lt3
  replace k1 := keepc hb5 k1 lt3
  replace k2 := keepc hb5 k2 lt3
  replace k3 := keepc hb5 k3 lt3
  replace k4 := keepc hb5 k4 lt3
  replace g0 : w5.frozen? ⟨b0, 0, none⟩ = false := by rw [hb5.frozen (by show b0 < w3.heap.size; omega)]; exact g0
  replace g1 : w5.frozen? ⟨b0, 1, none⟩ = false := by rw [hb5.frozen (by show b0 < w3.heap.size; omega)]; exact g1
  replace g2 : w5.frozen? ⟨b0, 2, none⟩ = false := by rw [hb5.frozen (by show b0 < w3.heap.size; omega)]; exact g2
  replace g3 : w5.frozen? ⟨b0, 3, none⟩ = false := by rw [hb5.frozen (by show b0 < w3.heap.size; omega)]; exact g3
  replace g4 : w5.frozen? ⟨b0, 4, none⟩ = false := by rw [hb5.frozen (by show b0 < w3.heap.size; omega)]; exact g4
  replace kf : w5.frozen? ⟨kb, 4, none⟩ = false := by rw [hb5.frozen lt3]; exact kf
  have z0 : (w5.setCell ⟨kb, 4, none⟩ (.slice p5 L c5)).cell? ⟨kb, 0, none⟩ = some (.int .u8 q) := by rw [World.cell?_setCell_other _ _ _ _ (by intro e; cases e)]; exact k0
  have z1 : (w5.setCell ⟨kb, 4, none⟩ (.slice p5 L c5)).cell? ⟨kb, 1, none⟩ = some (.int .i64 f) := by rw [World.cell?_setCell_other _ _ _ _ (by intro e; cases e)]; exact k1
  have z2 : (w5.setCell ⟨kb, 4, none⟩ (.slice p5 L c5)).cell? ⟨kb, 2, none⟩ = some (.int .i64 n) := by rw [World.cell?_setCell_other _ _ _ _ (by intro e; cases e)]; exact k2
  have z3 : (w5.setCell ⟨kb, 4, none⟩ (.slice p5 L c5)).cell? ⟨kb, 3, none⟩ = some (.int .i64 s) := by rw [World.cell?_setCell_other _ _ _ _ (by intro e; cases e)]; exact k3
  have z4 : (w5.setCell ⟨kb, 4, none⟩ (.slice p5 L c5)).cell? ⟨kb, 4, none⟩ = some (.slice p5 L c5) := World.cell?_setCell_same _ _ _ k4
  replace d0 : (w5.setCell ⟨kb, 4, none⟩ (.slice p5 L c5)).cell? ⟨b0, 0, none⟩ = some (.int .u8 0) := by rw [World.cell?_setCell_other _ _ _ _ (by intro e; cases e <;> omega)]; exact d0
  replace d1 : (w5.setCell ⟨kb, 4, none⟩ (.slice p5 L c5)).cell? ⟨b0, 1, none⟩ = some (.int .i64 0) := by rw [World.cell?_setCell_other _ _ _ _ (by intro e; cases e <;> omega)]; exact d1
  replace d2 : (w5.setCell ⟨kb, 4, none⟩ (.slice p5 L c5)).cell? ⟨b0, 2, none⟩ = some (.int .i64 0) := by rw [World.cell?_setCell_other _ _ _ _ (by intro e; cases e <;> omega)]; exact d2
  replace d3 : (w5.setCell ⟨kb, 4, none⟩ (.slice p5 L c5)).cell? ⟨b0, 3, none⟩ = some (.int .i64 0) := by rw [World.cell?_setCell_other _ _ _ _ (by intro e; cases e <;> omega)]; exact d3
  replace d4 : (w5.setCell ⟨kb, 4, none⟩ (.slice p5 L c5)).cell? ⟨b0, 4, none⟩ = some (.slice none 0 0) := by rw [World.cell?_setCell_other _ _ _ _ (by intro e; cases e <;> omega)]; exact d4
  replace g0 : (w5.setCell ⟨kb, 4, none⟩ (.slice p5 L c5)).frozen? ⟨b0, 0, none⟩ = false := by rw [World.frozen?_setCell]; exact g0
  replace g1 : (w5.setCell ⟨kb, 4, none⟩ (.slice p5 L c5)).frozen? ⟨b0, 1, none⟩ = false := by rw [World.frozen?_setCell]; exact g1
  replace g2 : (w5.setCell ⟨kb, 4, none⟩ (.slice p5 L c5)).frozen? ⟨b0, 2, none⟩ = false := by rw [World.frozen?_setCell]; exact g2
  replace g3 : (w5.setCell ⟨kb, 4, none⟩ (.slice p5 L c5)).frozen? ⟨b0, 3, none⟩ = false := by rw [World.frozen?_setCell]; exact g3
  replace g4 : (w5.setCell ⟨kb, 4, none⟩ (.slice p5 L c5)).frozen? ⟨b0, 4, none⟩ = false := by rw [World.frozen?_setCell]; exact g4
  have HO6 := Lib.hid (show (w5.setCell ⟨kb, 4, none⟩ (.slice p5 L c5)).ownsRow w3.heap.size 73 1 (.slice p5 L c5) L (rowV L V) from own_setFar HO5.out lt3)
  have HB7 := Lib.hid (show Below b0 W (w5.setCell ⟨kb, 4, none⟩ (.slice p5 L c5)) from HB6.out.setCell (p := ⟨kb, 4, none⟩) (Nat.le_of_lt hkb) _)
  have HBS := Lib.hid (show b0 ≤ w3.heap.size by omega)
  have HBL := Lib.hid (show b0 < w3.heap.size by omega)
  clear hb5 hown5
  go_upto_region 6 with (fail)
  generalize (w5.setCell ⟨kb, 4, none⟩ (.slice p5 L c5)) = w6 at *
  clear k0 k1 k2 k3 k4 kf HB5
  go_wp2_with fail
  refine bodyPost_ret (v := .tuple #[.agg #[.int .u8 q, .int .i64 f, .int .i64 n, .int .i64 s, .slice p5 L c5], .int .i64 0]) (by simp [results, Try.results40, go_sem, d0, d1, d2, d3, d4]) rfl (.inl ⟨_, p5, c5, HIN.out, HX.out, rfl, ?_, ?_⟩)
  · rw [HQ.out]
    exact own_base (own_setFar (own_setFar (own_setFar (own_setFar (own_setFar HO6.out HBL.out) HBL.out) HBL.out) HBL.out) HBL.out) (fun k hk => by
      have h1 := (own_lt HO6.out hk).1
      have := HBS.out
      omega)
  · rw [HQ.out]
    have hb := HB7.out
    exact ((((hb.setCell (p := ⟨b0, 0, none⟩) (Nat.le_refl b0) _).setCell (p := ⟨b0, 1, none⟩) (Nat.le_refl b0) _).setCell (p := ⟨b0, 2, none⟩) (Nat.le_refl b0) _).setCell (p := ⟨b0, 3, none⟩) (Nat.le_refl b0) _).setCell (p := ⟨b0, 4, none⟩) (Nat.le_refl b0) _
set_option maxRecDepth 100000 in
set_option maxHeartbeats 8000000 in
theorem rnode_any (h : RefS W K base r N) (g : GoodN N) (hN : N.length ≤ 20000) (t : Int) : Calls Try.prog 80 #[.pointer (some ⟨r, 0, none⟩), .int .i64 t] W (NodeP N t W) := by
  have hb0 := chain (below1 W (.cells #[.int .u8 0, .int .i64 0, .int .i64 0, .int .i64 0, .slice none 0 0] 89)) (below1 (W.alloc (.cells #[.int .u8 0, .int .i64 0, .int .i64 0, .int .i64 0, .slice none 0 0] 89)) (.cells #[.int .i64 t] 73))
  have H1 := Lib.hid (h.later hb0)
  have HG := Lib.hid g
  obtain ⟨i73, hi73, hz730, hz731, hz732⟩ := info73
  have HI1 := one_ints (W.alloc (.cells #[.int .u8 0, .int .i64 0, .int .i64 0, .int .i64 0, .slice none 0 0] 89)) t
  rw [show (W.alloc (.cells #[.int .u8 0, .int .i64 0, .int .i64 0, .int .i64 0, .slice none 0 0] 89)).heap.size = W.heap.size + 1 by simp] at HI1
  have HC := there_any H1.out hN _ 1 1 (fun _ => t) HI1 (by omega)
  clear h g
  have F := fun (i : Nat) (v : Value) (hv : (#[.int .u8 0, .int .i64 0, .int .i64 0, .int .i64 0, .slice none 0 0] : Array Value)[i]? = some v) => cell_later (below1 (W.alloc (.cells #[.int .u8 0, .int .i64 0, .int .i64 0, .int .i64 0, .slice none 0 0] 89)) (.cells #[.int .i64 t] 73)) (show (W.alloc (.cells #[.int .u8 0, .int .i64 0, .int .i64 0, .int .i64 0, .slice none 0 0] 89)).cell? ⟨W.heap.size, i, none⟩ = some v by simp [go_sem, hv])
  have d0 := F 0 _ rfl
  have d1 := F 1 _ rfl
  have d2 := F 2 _ rfl
  have d3 := F 3 _ rfl
  have d4 := F 4 _ rfl
  have G := fun (i : Nat) => show ((W.alloc (.cells #[.int .u8 0, .int .i64 0, .int .i64 0, .int .i64 0, .slice none 0 0] 89)).alloc (.cells #[.int .i64 t] 73)).frozen? ⟨W.heap.size, i, none⟩ = false by simp [go_sem]
  have g0 := G 0
  have g1 := G 1
  have g2 := G 2
  have g3 := G 3
  have g4 := G 4
  have HB0 := Lib.hid hb0
  clear F G hb0 HI1
  go_enter Try.func80, Try.ntmps80
  go_wp2_with fail
  generalize (W.alloc (.cells #[.int .u8 0, .int .i64 0, .int .i64 0, .int .i64 0, .slice none 0 0] 89)).alloc (.cells #[.int .i64 t] 73) = w1 at *
  generalize hq : W.heap.size = b0 at *
  have HQ := Lib.hid hq
  clear hq
  refine HC.mono ?_
  rintro e w2 ⟨b, rfl, hb2, hcase⟩
  have HB2 := Lib.hid (HB0.out.trans (hb2.mono (by have := HB0.out.size; have := HQ.out; omega)))
  have H2 := Lib.hid (H1.out.later hb2)
  have HCC := Lib.hid hcase
  have lt1 : b0 < w1.heap.size := World.block_lt_of_cell? _ _ d0
  replace d0 := cell_later hb2 d0
  replace d1 := cell_later hb2 d1
  replace d2 := cell_later hb2 d2
  replace d3 := cell_later hb2 d3
  replace d4 := cell_later hb2 d4
  replace g0 : w2.frozen? ⟨b0, 0, none⟩ = false := by rw [hb2.frozen lt1]; exact g0
  replace g1 : w2.frozen? ⟨b0, 1, none⟩ = false := by rw [hb2.frozen lt1]; exact g1
  replace g2 : w2.frozen? ⟨b0, 2, none⟩ = false := by rw [hb2.frozen lt1]; exact g2
  replace g3 : w2.frozen? ⟨b0, 3, none⟩ = false := by rw [hb2.frozen lt1]; exact g3
  replace g4 : w2.frozen? ⟨b0, 4, none⟩ = false := by rw [hb2.frozen lt1]; exact g4
  clear HC hb2 hcase HB0 H1 lt1
  cases b
  · go_wp2_with fail
    refine bodyPost_ret (v := .tuple #[nd0, .int .i64 7]) (by simp [results, Try.results80, go_sem, nd0, d0, d1, d2, d3, d4]) rfl (.inr ⟨fun h => absurd (HCC.out.2 (fun _ _ => h)) (by decide), rfl, ?_⟩)
    have hb := HB2.out
    rw [HQ.out]
    exact ((((hb.setCell (p := ⟨b0, 0, none⟩) (Nat.le_refl b0) _).setCell (p := ⟨b0, 1, none⟩) (Nat.le_refl b0) _).setCell (p := ⟨b0, 2, none⟩) (Nat.le_refl b0) _).setCell (p := ⟨b0, 3, none⟩) (Nat.le_refl b0) _).setCell (p := ⟨b0, 4, none⟩) (Nat.le_refl b0) _
  have hin0 : InL N t := HCC.out.1 rfl 0 (by omega)
  obtain ⟨k, x, rfl, hk, hx⟩ := inS_get hin0
  have HIN := Lib.hid hin0
  have HX := Lib.hid hx
  have HLL := Lib.hid ((HG.out) k x hx)
  obtain ⟨gg, z, y0, hgk, y1, y2, y3, y4, y5⟩ := H2.out.cells hx
  have hA := (H2.out.ar k x hx).1
  have HZN := Lib.hid (H2.out.z k x hx)
  clear hgk
  have hk0 : (0 : Int) ≤ (k : Int) := by omega
  have hk1 : (k : Int) < (N.length : Int) := by omega
  have HA := Lib.hid hA
  have hL := HLL.out.L
  clear hx hin0 hA
  obtain ⟨q, f, n, s, P, L, C, V⟩ := x
  simp only at y1 y2 y3 y4 y5 hL
  have hb2 := below1 w2 (.cells #[.int .u8 q, .int .i64 f, .int .i64 n, .int .i64 s, .slice P L C] 89)
  have HB3 := Lib.hid (HB2.out.trans (hb2.mono (by have := HB2.out.size; have := HQ.out; omega)))
  have k0 : (w2.alloc (.cells #[.int .u8 q, .int .i64 f, .int .i64 n, .int .i64 s, .slice P L C] 89)).cell? ⟨w2.heap.size, 0, none⟩ = some (.int .u8 q) := by simp [go_sem]
  have k1 : (w2.alloc (.cells #[.int .u8 q, .int .i64 f, .int .i64 n, .int .i64 s, .slice P L C] 89)).cell? ⟨w2.heap.size, 1, none⟩ = some (.int .i64 f) := by simp [go_sem]
  have k2 : (w2.alloc (.cells #[.int .u8 q, .int .i64 f, .int .i64 n, .int .i64 s, .slice P L C] 89)).cell? ⟨w2.heap.size, 2, none⟩ = some (.int .i64 n) := by simp [go_sem]
  have k3 : (w2.alloc (.cells #[.int .u8 q, .int .i64 f, .int .i64 n, .int .i64 s, .slice P L C] 89)).cell? ⟨w2.heap.size, 3, none⟩ = some (.int .i64 s) := by simp [go_sem]
  have k4 : (w2.alloc (.cells #[.int .u8 q, .int .i64 f, .int .i64 n, .int .i64 s, .slice P L C] 89)).cell? ⟨w2.heap.size, 4, none⟩ = some (.slice P L C) := by simp [go_sem]
  have kf : (w2.alloc (.cells #[.int .u8 q, .int .i64 f, .int .i64 n, .int .i64 s, .slice P L C] 89)).frozen? ⟨w2.heap.size, 4, none⟩ = false := by simp [go_sem]
  have ltb : b0 < w2.heap.size := World.block_lt_of_cell? _ _ d0
  replace d0 := cell_later hb2 d0
  replace d1 := cell_later hb2 d1
  replace d2 := cell_later hb2 d2
  replace d3 := cell_later hb2 d3
  replace d4 := cell_later hb2 d4
  replace g0 : (w2.alloc (.cells #[.int .u8 q, .int .i64 f, .int .i64 n, .int .i64 s, .slice P L C] 89)).frozen? ⟨b0, 0, none⟩ = false := by rw [hb2.frozen ltb]; exact g0
  replace g1 : (w2.alloc (.cells #[.int .u8 q, .int .i64 f, .int .i64 n, .int .i64 s, .slice P L C] 89)).frozen? ⟨b0, 1, none⟩ = false := by rw [hb2.frozen ltb]; exact g1
  replace g2 : (w2.alloc (.cells #[.int .u8 q, .int .i64 f, .int .i64 n, .int .i64 s, .slice P L C] 89)).frozen? ⟨b0, 2, none⟩ = false := by rw [hb2.frozen ltb]; exact g2
  replace g3 : (w2.alloc (.cells #[.int .u8 q, .int .i64 f, .int .i64 n, .int .i64 s, .slice P L C] 89)).frozen? ⟨b0, 3, none⟩ = false := by rw [hb2.frozen ltb]; exact g3
  replace g4 : (w2.alloc (.cells #[.int .u8 q, .int .i64 f, .int .i64 n, .int .i64 s, .slice P L C] 89)).frozen? ⟨b0, 4, none⟩ = false := by rw [hb2.frozen ltb]; exact g4
  have HA3 := Lib.hid (HA.out.later hb2)
  have hkb : b0 < w2.heap.size := ltb
  have lt3 : w2.heap.size < (w2.alloc (.cells #[.int .u8 q, .int .i64 f, .int .i64 n, .int .i64 s, .slice P L C] 89)).heap.size := by simp
  clear hb2 ltb
  go_upto_region 4 with (fail)
  generalize w2.alloc (.cells #[.int .u8 q, .int .i64 f, .int .i64 n, .int .i64 s, .slice P L C] 89) = w3 at *
  generalize w2.heap.size = kb at *
  clear y0 y1 y2 y3 y4 y5
  have hx0 := below1 w3 (.cells #[] 73)
  have HXA := Lib.hid (HA3.out.later hx0)
  have HBA := Lib.hid hx0
  have lt4 : kb < (w3.alloc (.cells #[] 73)).heap.size := by simp; omega
  have kk0 := cell_later hx0 k0
  have kk1 := cell_later hx0 k1
  have kk2 := cell_later hx0 k2
  have kk3 := cell_later hx0 k3
  have kk4 := cell_later hx0 k4
  have kkf : (w3.alloc (.cells #[] 73)).frozen? ⟨kb, 4, none⟩ = false := by rw [hx0.frozen lt3]; exact kf
  clear hx0
  go_wp2_with (at_builtin; refine wpList_append_any rfl _ _ 74 rfl w3.heap.size 73 i73 (.int .i64 0) 1 8 Try.underlying74 hi73 hz730 hz731 hz732 rfl (by omega) _ _ _ rfl (World.ownsRow_made w3 #[] 0 (Nat.le_refl _) (Nat.zero_le _) (by simp)) P L C (rowV L V) rfl HZN.out ?qc2 (ints_cells HXA.out) ?qc3 ?qc4 ?qc5 ?qc6 ?_)
  case qc2 => rw [rowV_len]; omega
  case qc3 => intro u hu; obtain ⟨x, _, rfl⟩ := List.mem_map.1 hu; rfl
  case qc4 => have hml : maxLen = 9223372036854775807 := rfl; omega
  case qc5 => omega
  case qc6 => simp
  intro v5 w5 hown5 hb5
  (try simp only [Nat.zero_add, List.nil_append] at hown5)
  obtain ⟨p5, c5, hv5, _⟩ := own_shp hown5
  subst hv5
  have HB5 := Lib.hid (HBA.out.trans hb5)
  clear hb5 kk0 kk1 kk2 kk3 kk4 kkf lt4
  have hb5 := HB5.out
  have HO5 := Lib.hid hown5
  have HB6 := Lib.hid (HB3.out.trans (hb5.mono (by have := HB3.out.size; have := HQ.out; omega)))
  replace d0 := keepc hb5 d0 (by show b0 < w3.heap.size; omega)
  replace d1 := keepc hb5 d1 (by show b0 < w3.heap.size; omega)
  replace d2 := keepc hb5 d2 (by show b0 < w3.heap.size; omega)
  replace d3 := keepc hb5 d3 (by show b0 < w3.heap.size; omega)
  replace d4 := keepc hb5 d4 (by show b0 < w3.heap.size; omega)
  replace k0 := keepc hb5 k0 lt3
  replace k1 := keepc hb5 k1 lt3
  replace k2 := keepc hb5 k2 lt3
  replace k3 := keepc hb5 k3 lt3
  replace k4 := keepc hb5 k4 lt3
  replace g0 : w5.frozen? ⟨b0, 0, none⟩ = false := by rw [hb5.frozen (by show b0 < w3.heap.size; omega)]; exact g0
  replace g1 : w5.frozen? ⟨b0, 1, none⟩ = false := by rw [hb5.frozen (by show b0 < w3.heap.size; omega)]; exact g1
  replace g2 : w5.frozen? ⟨b0, 2, none⟩ = false := by rw [hb5.frozen (by show b0 < w3.heap.size; omega)]; exact g2
  replace g3 : w5.frozen? ⟨b0, 3, none⟩ = false := by rw [hb5.frozen (by show b0 < w3.heap.size; omega)]; exact g3
  replace g4 : w5.frozen? ⟨b0, 4, none⟩ = false := by rw [hb5.frozen (by show b0 < w3.heap.size; omega)]; exact g4
  replace kf : w5.frozen? ⟨kb, 4, none⟩ = false := by rw [hb5.frozen lt3]; exact kf
  have z0 : (w5.setCell ⟨kb, 4, none⟩ (.slice p5 L c5)).cell? ⟨kb, 0, none⟩ = some (.int .u8 q) := by rw [World.cell?_setCell_other _ _ _ _ (by intro e; cases e)]; exact k0
  have z1 : (w5.setCell ⟨kb, 4, none⟩ (.slice p5 L c5)).cell? ⟨kb, 1, none⟩ = some (.int .i64 f) := by rw [World.cell?_setCell_other _ _ _ _ (by intro e; cases e)]; exact k1
  have z2 : (w5.setCell ⟨kb, 4, none⟩ (.slice p5 L c5)).cell? ⟨kb, 2, none⟩ = some (.int .i64 n) := by rw [World.cell?_setCell_other _ _ _ _ (by intro e; cases e)]; exact k2
  have z3 : (w5.setCell ⟨kb, 4, none⟩ (.slice p5 L c5)).cell? ⟨kb, 3, none⟩ = some (.int .i64 s) := by rw [World.cell?_setCell_other _ _ _ _ (by intro e; cases e)]; exact k3
  have z4 : (w5.setCell ⟨kb, 4, none⟩ (.slice p5 L c5)).cell? ⟨kb, 4, none⟩ = some (.slice p5 L c5) := World.cell?_setCell_same _ _ _ k4
  replace d0 : (w5.setCell ⟨kb, 4, none⟩ (.slice p5 L c5)).cell? ⟨b0, 0, none⟩ = some (.int .u8 0) := by rw [World.cell?_setCell_other _ _ _ _ (by intro e; cases e <;> omega)]; exact d0
  replace d1 : (w5.setCell ⟨kb, 4, none⟩ (.slice p5 L c5)).cell? ⟨b0, 1, none⟩ = some (.int .i64 0) := by rw [World.cell?_setCell_other _ _ _ _ (by intro e; cases e <;> omega)]; exact d1
  replace d2 : (w5.setCell ⟨kb, 4, none⟩ (.slice p5 L c5)).cell? ⟨b0, 2, none⟩ = some (.int .i64 0) := by rw [World.cell?_setCell_other _ _ _ _ (by intro e; cases e <;> omega)]; exact d2
  replace d3 : (w5.setCell ⟨kb, 4, none⟩ (.slice p5 L c5)).cell? ⟨b0, 3, none⟩ = some (.int .i64 0) := by rw [World.cell?_setCell_other _ _ _ _ (by intro e; cases e <;> omega)]; exact d3
  replace d4 : (w5.setCell ⟨kb, 4, none⟩ (.slice p5 L c5)).cell? ⟨b0, 4, none⟩ = some (.slice none 0 0) := by rw [World.cell?_setCell_other _ _ _ _ (by intro e; cases e <;> omega)]; exact d4
  replace g0 : (w5.setCell ⟨kb, 4, none⟩ (.slice p5 L c5)).frozen? ⟨b0, 0, none⟩ = false := by rw [World.frozen?_setCell]; exact g0
  replace g1 : (w5.setCell ⟨kb, 4, none⟩ (.slice p5 L c5)).frozen? ⟨b0, 1, none⟩ = false := by rw [World.frozen?_setCell]; exact g1
  replace g2 : (w5.setCell ⟨kb, 4, none⟩ (.slice p5 L c5)).frozen? ⟨b0, 2, none⟩ = false := by rw [World.frozen?_setCell]; exact g2
  replace g3 : (w5.setCell ⟨kb, 4, none⟩ (.slice p5 L c5)).frozen? ⟨b0, 3, none⟩ = false := by rw [World.frozen?_setCell]; exact g3
  replace g4 : (w5.setCell ⟨kb, 4, none⟩ (.slice p5 L c5)).frozen? ⟨b0, 4, none⟩ = false := by rw [World.frozen?_setCell]; exact g4
  have HO6 := Lib.hid (show (w5.setCell ⟨kb, 4, none⟩ (.slice p5 L c5)).ownsRow w3.heap.size 73 1 (.slice p5 L c5) L (rowV L V) from own_setFar HO5.out lt3)
  have HB7 := Lib.hid (show Below b0 W (w5.setCell ⟨kb, 4, none⟩ (.slice p5 L c5)) from HB6.out.setCell (p := ⟨kb, 4, none⟩) (Nat.le_of_lt hkb) _)
  have HBS := Lib.hid (show b0 ≤ w3.heap.size by omega)
  have HBL := Lib.hid (show b0 < w3.heap.size by omega)
  clear hb5 hown5
  go_upto_region 5 with (fail)
  generalize (w5.setCell ⟨kb, 4, none⟩ (.slice p5 L c5)) = w6 at *
  clear k0 k1 k2 k3 k4 kf HB5
  go_wp2_with fail
  refine bodyPost_ret (v := .tuple #[.agg #[.int .u8 q, .int .i64 f, .int .i64 n, .int .i64 s, .slice p5 L c5], .int .i64 0]) (by simp [results, Try.results80, go_sem, d0, d1, d2, d3, d4]) rfl (.inl ⟨_, p5, c5, HIN.out, HX.out, rfl, ?_, ?_⟩)
  · rw [HQ.out]
    exact own_base (own_setFar (own_setFar (own_setFar (own_setFar (own_setFar HO6.out HBL.out) HBL.out) HBL.out) HBL.out) HBL.out) (fun k hk => by
      have h1 := (own_lt HO6.out hk).1
      have := HBS.out
      omega)
  · rw [HQ.out]
    have hb := HB7.out
    exact ((((hb.setCell (p := ⟨b0, 0, none⟩) (Nat.le_refl b0) _).setCell (p := ⟨b0, 1, none⟩) (Nat.le_refl b0) _).setCell (p := ⟨b0, 2, none⟩) (Nat.le_refl b0) _).setCell (p := ⟨b0, 3, none⟩) (Nat.le_refl b0) _).setCell (p := ⟨b0, 4, none⟩) (Nat.le_refl b0) _
end Go.Proofs.Ytkjmmdffelhkiaa
