/- A heap: swap. -/
import Derived.Test.YtpnchmelaonfiaaH2
import Derived.IntWalk
namespace Go.Proofs.Ytpnchmelaonfiaa
open Go Go.RowKit

variable {W : World} {a bw bp base n : Nat} {R : Option Nat} {len : Nat} {Wt : Nat → Int} {P O : Nat → Nat}
theorem ints_set {W : World} {b n : Nat} {F : Nat → Nat} (h : ∀ i, i < n → W.cell? ⟨b, i, none⟩ = some (.int .i64 (F i : Int)) ∧ W.frozen? ⟨b, i, none⟩ = false) (j v : Nat) : ∀ i, i < n → (W.setCell ⟨b, j, none⟩ (.int .i64 (v : Int))).cell? ⟨b, i, none⟩ = some (.int .i64 ((up1 F j v i : Nat) : Int)) ∧ (W.setCell ⟨b, j, none⟩ (.int .i64 (v : Int))).frozen? ⟨b, i, none⟩ = false := by
  intro i hi
  refine ⟨?_, by rw [World.frozen?_setCell]; exact (h i hi).2⟩
  by_cases e : i = j
  · subst e
    rw [World.cell?_setCell_same _ _ _ (h i hi).1, up1_same]
  · rw [World.cell?_setCell_other _ _ _ _ (by intro e'; cases e'; exact e rfl), up1_ne F v e]
    exact (h i hi).1
/-- the order turns. -/
theorem HeapAt.reorder {W' : World} {g len' c : Nat} {O' : Nat → Nat} (h : HeapAt W a bw bp base n R len Wt P O) (hR : R = some g) (hg : base ≤ g) (ho : Only (fun k => k = g) W W') (hc : W'.cell? ⟨a, 2, none⟩ = some (.slice (some ⟨g, 0, none⟩) len' c)) (own : W'.ownsRow base 3 1 (.slice (some ⟨g, 0, none⟩) len' c) len' (rowN len' O')) : HeapAt W' a bw bp base n R len' Wt P O' := by
  have na : ¬ a = g := by have := h.la; omega
  have nw : ¬ bw = g := by have := h.lw; omega
  have np : ¬ bp = g := by have := h.lp; omega
  obtain ⟨c1, h1⟩ := h.cw
  obtain ⟨c2, h2⟩ := h.cp
  have al : a < W.heap.size := World.block_lt_of_cell? W _ h1
  refine ⟨⟨c1, ho.cell h1 na⟩, ⟨c2, ho.cell h2 na⟩, ⟨_, c, hc, hR.symm, own⟩, fun i hi => ⟨ho.cell (h.hw i hi).1 nw, ?_⟩, fun i hi => ⟨ho.cell (h.hp i hi).1 np, ?_⟩, fun o => ?_, h.d1, h.d2, h.d3, h.la, h.lw, h.lp, Nat.le_trans h.hb ho.size⟩
  · rw [ho.frozen (World.block_lt_of_cell? W _ (h.hw i hi).1) nw]; exact (h.hw i hi).2
  · rw [ho.frozen (World.block_lt_of_cell? W _ (h.hp i hi).1) np]; exact (h.hp i hi).2
  · rw [ho.frozen al na]; exact h.fz o
/-- the places turn. -/
theorem HeapAt.replace {W' : World} {P' : Nat → Nat} (h : HeapAt W a bw bp base n R len Wt P O) (ho : Only (fun k => k = bp) W W') (hp : ∀ i, i < n → W'.cell? ⟨bp, i, none⟩ = some (.int .i64 (P' i : Int)) ∧ W'.frozen? ⟨bp, i, none⟩ = false) : HeapAt W' a bw bp base n R len Wt P' O := by
  have na : ¬ a = bp := h.d2
  have nw : ¬ bw = bp := h.d3
  obtain ⟨c1, h1⟩ := h.cw
  obtain ⟨c2, h2⟩ := h.cp
  obtain ⟨p, c3, h3, e3, o3⟩ := h.co
  have al : a < W.heap.size := World.block_lt_of_cell? W _ h1
  refine ⟨⟨c1, ho.cell h1 na⟩, ⟨c2, ho.cell h2 na⟩, ⟨p, c3, ho.cell h3 na, e3, own_only o3 ho (fun k hk e => ?_)⟩, fun i hi => ⟨ho.cell (h.hw i hi).1 nw, ?_⟩, hp, fun o => ?_, h.d1, h.d2, h.d3, h.la, h.lw, h.lp, Nat.le_trans h.hb ho.size⟩
  · have := own_lt o3 hk
    have := h.lp
    omega
  · rw [ho.frozen (World.block_lt_of_cell? W _ (h.hw i hi).1) nw]; exact (h.hw i hi).2
  · rw [ho.frozen al na]; exact h.fz o
theorem up_sw (O : Nat → Nat) (x y i : Nat) : up1 (up1 O x (O y)) y (O x) i = sw O x y i := by
  unfold up1 sw
  by_cases h1 : i = y
  · by_cases h2 : i = x
    · subst h1; subst h2; simp
    · simp [h1, h2]
      intro h; subst h; rfl
  · simp [h1]
theorem up_swP (P O : Nat → Nat) (x y i : Nat) : up1 (up1 P (sw O x y x) (x + 1)) (sw O x y y) (y + 1) i = swP P O x y i := by
  rw [sw_a, sw_b]
  unfold up1 swP
  rfl
def Reads4 (p : Addr) (u : Value) (q : Addr) (v : Value) (r : Addr) (x : Value) (s : Addr) (y : Value) (w : World) : Prop := w.cell? p = some u ∧ w.cell? q = some v ∧ w.cell? r = some x ∧ w.cell? s = some y
theorem Reads4.drew {p q r s : Addr} {u v x y : Value} {w : World} (h : Reads4 p u q v r x s y w) : Reads4 p u q v r x s y w.drew := h
theorem Reads4.set {a1 g1 c1 c2 c3 c4 : Nat} {u v x y : Value} {w : World} (h : Reads4 ⟨a1, c1, none⟩ u ⟨a1, c2, none⟩ v ⟨g1, c3, none⟩ x ⟨g1, c4, none⟩ y w) {b o : Nat} (n1 : a1 = b → False) (n2 : g1 = b → False) (z : Value) : Reads4 ⟨a1, c1, none⟩ u ⟨a1, c2, none⟩ v ⟨g1, c3, none⟩ x ⟨g1, c4, none⟩ y (w.setCell ⟨b, o, none⟩ z) := by
  obtain ⟨h1, h2, h3, h4⟩ := h
  refine ⟨?_, ?_, ?_, ?_⟩ <;> rw [World.cell?_setCell_other _ _ _ _ (by intro e; cases e; first | exact n1 rfl | exact n2 rfl)] <;> assumption
set_option maxRecDepth 100000 in
set_option maxHeartbeats 1000000 in
theorem swap_at (h : HeapAt W a bw bp base n R len Wt P O) (x y : Nat) (hx : x < len) (hy : y < len) (hxn : O x < n) (hyn : O y < n) (hn : n ≤ 1048576) (hl : len ≤ 1048576) :
    Calls Try.prog 45 #[.pointer (some ⟨a, 0, none⟩), .int .i64 x, .int .i64 y] W fun e w' => e = .returned (.tuple #[]) ∧ HeapAt w' a bw bp base n R len Wt (swP P O x y) (sw O x y) ∧ Only (fun k => k = bp ∨ R = some k) W w' := by
  obtain ⟨g, c, hR, hg, hgl, h2, own⟩ := h.row (by omega)
  obtain ⟨c1, h1⟩ := h.cp
  obtain ⟨x1, fx⟩ := own_cell own x _ (rowN_get len O x hx)
  obtain ⟨y1, fy⟩ := own_cell own y _ (rowN_get len O y hy)
  obtain ⟨v2, hy2⟩ := cell?_setCell_some (w := W) (p := ⟨g, x, none⟩) (x := .int .i64 (O y : Int)) (q := ⟨g, y, none⟩) (v := .int .i64 (O y : Int)) y1
  have i0 : (0 : Int) ≤ (x : Int) := by omega
  have j0 : (0 : Int) ≤ (y : Int) := by omega
  have i1 : (x : Int) < (len : Int) := by omega
  have j1 : (y : Int) < (len : Int) := by omega
  have H := Lib.hid h
  have HO := Lib.hid own
  have HR := Lib.hid hR
  have H1 := Lib.hid h1
  have H2 := Lib.hid h2
  clear h own hR h1
  go_enter Try.func45, Try.ntmps45
  go_wp2_with fail
  go_region
  clear x1 fx y1 fy hy2 h2
  have hD : Only (fun k => k = g) W ((W.setCell ⟨g, x, none⟩ (.int .i64 (O y : Int))).setCell ⟨g, y, none⟩ (.int .i64 (O x : Int))).drew :=
    ((Only.of_setCell W ⟨g, x, none⟩ _).trans (Only.of_setCell _ ⟨g, y, none⟩ _)).trans (Only.of_below ((Below.refl _ _).drew))
  have ownD : ((W.setCell ⟨g, x, none⟩ (.int .i64 (O y : Int))).setCell ⟨g, y, none⟩ (.int .i64 (O x : Int))).drew.ownsRow base 3 1 (.slice (some ⟨g, 0, none⟩) len c) len (rowN len (sw O x y)) := by
    have := own_set (own_set HO.out x (.int .i64 (O y : Int))) y (.int .i64 (O x : Int))
    rw [rowN_set, rowN_set, rowN_ext (fun i _ => up_sw O x y i)] at this
    exact own_later this ((Below.refl _ _).drew)
  generalize ((W.setCell ⟨g, x, none⟩ (.int .i64 (O y : Int))).setCell ⟨g, y, none⟩ (.int .i64 (O x : Int))).drew = D at *
  have hna : ¬ a = g := by have := H.out.la; omega
  have h2 := hD.cell H2.out hna
  have h1 := hD.cell H1.out hna
  have hH := H.out.reorder HR.out hg hD h2 ownD
  obtain ⟨x1, _⟩ := own_cell ownD x _ (rowN_get len _ x hx)
  obtain ⟨y1, _⟩ := own_cell ownD y _ (rowN_get len _ y hy)
  have hpx := hH.hp (sw O x y x) (by rw [sw_a]; exact hyn)
  have hpy := hH.hp (sw O x y y) (by rw [sw_b]; exact hxn)
  obtain ⟨u1, f1⟩ := hpx
  obtain ⟨u2, f2⟩ := hpy
  have kx : (sw O x y x : Int) < (n : Int) := by rw [sw_a]; omega
  have ky : (sw O x y y : Int) < (n : Int) := by rw [sw_b]; omega
  have HH := Lib.hid hH
  have HD := Lib.hid hD
  have HE := Lib.hid (fun i => up_swP P O x y i)
  clear ownD hH hD
  generalize sw O x y x = ox at *
  generalize sw O x y y = oy at *
  have k1 : (0 : Int) ≤ (ox : Int) := by omega
  have k2 : (0 : Int) ≤ (oy : Int) := by omega
  have hwS : Reads4 ⟨a, 1, none⟩ (.slice (some ⟨bp, 0, none⟩) n c1) ⟨a, 2, none⟩ (.slice (some ⟨g, 0, none⟩) len c) ⟨g, x, none⟩ (.int .i64 (ox : Int)) ⟨g, y, none⟩ (.int .i64 (oy : Int)) D := ⟨h1, h2, x1, y1⟩
  have hwD := hwS.drew
  have hwE := fun u => hwD.set (b := bp) (o := ox) (fun e => HH.out.d2 e) (fun e => by have := HH.out.lp; omega) u
  have hwF := fun u v => (hwE u).set (b := bp) (o := oy) (fun e => HH.out.d2 e) (fun e => by have := HH.out.lp; omega) v
  obtain ⟨v2, hy2⟩ := cell?_setCell_some (w := D) (p := ⟨bp, ox, none⟩) (x := .int .i64 ((x : Int) + 1)) (q := ⟨bp, oy, none⟩) (v := .int .i64 (P oy : Int)) u2
  clear hwS h1 h2 x1 y1
  have wx : IntKind.i64.wrap ((x : Int) + 1) = (x : Int) + 1 := IntWalk.i64_in _ (by omega)
  have wy : IntKind.i64.wrap ((y : Int) + 1) = (y : Int) + 1 := IntWalk.i64_in _ (by omega)
  go_wp2_with fail
  go_region_held3 (fun w' => w'.cell? ⟨a, 1, none⟩ = some (.slice (some ⟨bp, 0, none⟩) n c1) ∧ w'.cell? ⟨a, 2, none⟩ = some (.slice (some ⟨g, 0, none⟩) len c) ∧ w'.cell? ⟨g, x, none⟩ = some (.int .i64 (ox : Int)) ∧ w'.cell? ⟨g, y, none⟩ = some (.int .i64 (oy : Int)))
    (first | exact hwD | exact hwE _ | exact hwF _ _) (first | fail)
  clear hy2 u1 f1 u2 f2 wx wy hwD hwE hwF
  have hE : Only (fun k => k = bp) D ((D.setCell ⟨bp, ox, none⟩ (.int .i64 ((x : Int) + 1))).setCell ⟨bp, oy, none⟩ (.int .i64 ((y : Int) + 1))).drew :=
    ((Only.of_setCell D ⟨bp, ox, none⟩ _).trans (Only.of_setCell _ ⟨bp, oy, none⟩ _)).trans (Only.of_below ((Below.refl _ _).drew))
  have hP := ints_set (ints_set HH.out.hp ox (x + 1)) oy (y + 1)
  rw [show ((x + 1 : Nat) : Int) = (x : Int) + 1 by omega, show ((y + 1 : Nat) : Int) = (y : Int) + 1 by omega] at hP
  have hF := HH.out.replace hE (P' := swP P O x y) (fun i hi => by
    have := hP i hi
    rw [HE.out i] at this
    exact ⟨by rw [World.cell?_drew]; exact this.1, this.2⟩)
  have HF := Lib.hid hF
  have HE2 := Lib.hid hE
  clear hP hF hE
  generalize ((D.setCell ⟨bp, ox, none⟩ (.int .i64 ((x : Int) + 1))).setCell ⟨bp, oy, none⟩ (.int .i64 ((y : Int) + 1))).drew = E at *
  first | go_end0 | (go_wp2_with fail; go_end0)
  exact ⟨rfl, HF.out, (HD.out.mono (fun k _ hk => .inr (by rw [HR.out, hk]))).trans (HE2.out.mono (fun k _ hk => .inl hk))⟩
end Go.Proofs.Ytpnchmelaonfiaa
