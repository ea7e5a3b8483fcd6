/- Rows of ten digits to the base 65536, and their sums. -/
import Derived.Test.YtmfmdcapanaajaaDoorZero
import Derived.LoopTactic
import Derived.Deep.QuietTactic
import Derived.BigQuiet
import Derived.Deep.MidRow
namespace Go.Proofs.YtmfmdcapanaajaaDoor
open Go Go.RowKit Go.Sort

/-- what is left of a number behind i digits; digit i. -/
def X (x : Int) (i : Nat) : Int := x / 65536 ^ i
def G (x : Int) (i : Nat) : Int := X x i % 65536
theorem X_zero (x : Int) : X x 0 = x := by unfold X; simp
theorem X_succ (x : Int) (i : Nat) : X x (i + 1) = X x i / 65536 := by
  unfold X
  rw [Int.pow_succ, Int.ediv_ediv_of_nonneg (by exact Int.pow_nonneg (by omega))]
theorem G_bd (x : Int) (i : Nat) : 0 ≤ G x i ∧ G x i ≤ 65535 := by unfold G; omega
abbrev rowG (x : Int) : Array Value := #[.int .i64 (G x 0), .int .i64 (G x 1), .int .i64 (G x 2), .int .i64 (G x 3), .int .i64 (G x 4), .int .i64 (G x 5), .int .i64 (G x 6), .int .i64 (G x 7), .int .i64 (G x 8), .int .i64 (G x 9)]
/-- the block's cells are the row. -/
def RowF (W : World) (b : Nat) (x : Int) : Prop := ∀ j, j < 10 → W.cell? ⟨b, j, none⟩ = some (.int .i64 (G x j))
/-- the block has ten cells, of which the first i are the row's. -/
structure Part (W : World) (b : Nat) (x : Int) (i : Nat) : Prop where
  there : ∀ j, j < 10 → ∃ u, W.cell? ⟨b, j, none⟩ = some u
  done : ∀ j, j < i → W.cell? ⟨b, j, none⟩ = some (.int .i64 (G x j))
  free : ∀ j, W.frozen? ⟨b, j, none⟩ = false
theorem RowF.later {W W' : World} {b : Nat} {x : Int} (h : RowF W b x) (hb : ∀ a v, W.cell? a = some v → a.block = b → W'.cell? a = some v) : RowF W' b x := fun j hj => hb _ _ (h j hj) rfl
theorem rowF_new (W : World) (x : Int) (t : TypeId) : RowF (W.alloc (.cells (rowG x) t)) W.heap.size x := fun j hj => by
  rw [World.cell?_alloc_new]
  match j, hj with
  | 0, _ => rfl
  | 1, _ => rfl
  | 2, _ => rfl
  | 3, _ => rfl
  | 4, _ => rfl
  | 5, _ => rfl
  | 6, _ => rfl
  | 7, _ => rfl
  | 8, _ => rfl
  | 9, _ => rfl
abbrev zeros10 : Array Value := #[.int .i64 0, .int .i64 0, .int .i64 0, .int .i64 0, .int .i64 0, .int .i64 0, .int .i64 0, .int .i64 0, .int .i64 0, .int .i64 0]
theorem part_new (W : World) (x : Int) (t : TypeId) : Part (W.alloc (.cells zeros10 t)) W.heap.size x 0 := by
  refine ⟨fun j hj => ?_, fun j hj => by omega, fun j => World.frozen?_alloc_new _ _ _ _⟩
  rw [World.cell?_alloc_new]
  match j, hj with
  | 0, _ => exact ⟨_, rfl⟩
  | 1, _ => exact ⟨_, rfl⟩
  | 2, _ => exact ⟨_, rfl⟩
  | 3, _ => exact ⟨_, rfl⟩
  | 4, _ => exact ⟨_, rfl⟩
  | 5, _ => exact ⟨_, rfl⟩
  | 6, _ => exact ⟨_, rfl⟩
  | 7, _ => exact ⟨_, rfl⟩
  | 8, _ => exact ⟨_, rfl⟩
  | 9, _ => exact ⟨_, rfl⟩
theorem RowF.below {W W' : World} {b : Nat} {x : Int} (h : RowF W b x) (hb : Below W.heap.size W W') : RowF W' b x := fun j hj => cell_later hb (h j hj)
theorem Part.below {W W' : World} {b : Nat} {x : Int} {i : Nat} (h : Part W b x i) (hb : Below W.heap.size W W') : Part W' b x i := by
  have hlt : b < W.heap.size := by
    obtain ⟨u, hu⟩ := h.there 0 (by omega)
    exact World.block_lt_of_cell? W ⟨b, 0, none⟩ hu
  exact ⟨fun j hj => by obtain ⟨u, hu⟩ := h.there j hj; exact ⟨u, cell_later hb hu⟩, fun j hj => cell_later hb (h.done j hj), fun j => (hb.frozen (p := ⟨b, j, none⟩) hlt).trans (h.free j)⟩
/-- a store at place i. -/
theorem Part.step {W : World} {b : Nat} {x : Int} {i : Nat} (h : Part W b x i) (hi : i < 10) : Part (W.setCell ⟨b, i, none⟩ (.int .i64 (G x i))) b x (i + 1) := by
  refine ⟨fun j hj => ?_, fun j hj => ?_, fun j => ?_⟩
  · by_cases hji : j = i
    · subst hji
      obtain ⟨u, hu⟩ := h.there j hj
      exact ⟨_, World.cell?_setCell_same _ _ _ hu⟩
    · obtain ⟨u, hu⟩ := h.there j hj
      exact ⟨u, by rw [World.cell?_setCell_other _ _ _ _ (by intro e; apply hji; injection e with _ e2 _; exact e2.symm)]; exact hu⟩
  · by_cases hji : j = i
    · subst hji
      obtain ⟨u, hu⟩ := h.there j hi
      exact World.cell?_setCell_same _ _ _ hu
    · rw [World.cell?_setCell_other _ _ _ _ (by intro e; apply hji; injection e with _ e2 _; exact e2.symm)]
      exact h.done j (by omega)
  · simp [go_sem, h.free j]
theorem RowF.store {W : World} {b : Nat} {x : Int} (h : RowF W b x) (a : Addr) (v : Value) (hne : a.block ≠ b) : RowF (W.setCell a v) b x := fun j hj => by
  rw [World.cell?_setCell_other _ _ _ _ (by intro e; exact hne (by rw [e]))]; exact h j hj
theorem Part.store {W : World} {b : Nat} {x : Int} {i : Nat} (h : Part W b x i) (a : Addr) (v : Value) (hne : a.block ≠ b) : Part (W.setCell a v) b x i := by
  have ho : ∀ j, a ≠ ⟨b, j, none⟩ := fun j e => hne (by rw [e])
  exact ⟨fun j hj => by obtain ⟨u, hu⟩ := h.there j hj; exact ⟨u, by rw [World.cell?_setCell_other _ _ _ _ (ho j)]; exact hu⟩, fun j hj => by rw [World.cell?_setCell_other _ _ _ _ (ho j)]; exact h.done j hj, fun j => by simp [go_sem, h.free j]⟩

theorem drewNB {B : Nat} {a w : World} (h : Below B a w) (n : Nat) : Below B a (w.drewN n) := ⟨h.os, h.tape, h.output, h.size, h.block⟩
theorem RowF.drewN {W : World} {b : Nat} {x : Int} (h : RowF W b x) (n : Nat) : RowF (W.drewN n) b x := fun j hj => by rw [World.cell?_drewN]; exact h j hj
theorem Part.drewN {W : World} {b : Nat} {x : Int} {i : Nat} (h : Part W b x i) (n : Nat) : Part (W.drewN n) b x i :=
  ⟨fun j hj => by rw [World.cell?_drewN]; exact h.there j hj, fun j hj => by rw [World.cell?_drewN]; exact h.done j hj, fun j => by rw [World.frozen?_drewN]; exact h.free j⟩
theorem Part.range {W : World} {b : Nat} {x : Int} (h : Part W b x 10) : W.rangeAt b 0 (rowG x).toList := by
  intro j v hv
  have hj : j < 10 := by
    have := (List.getElem?_eq_some_iff.1 hv).1
    simpa using this
  rw [show 0 + j = j by omega, h.done j hj]
  match j, hj with
  | 0, _ => exact hv
  | 1, _ => exact hv
  | 2, _ => exact hv
  | 3, _ => exact hv
  | 4, _ => exact hv
  | 5, _ => exact hv
  | 6, _ => exact hv
  | 7, _ => exact hv
  | 8, _ => exact hv
  | 9, _ => exact hv
theorem rowG_one (x : Int) : (rowG x).all (·.oneCell') = true := by simp [Value.oneCell']
theorem Part.thereTen {W : World} {b : Nat} {x : Int} {i : Nat} (h : Part W b x i) : W.there b 0 10 := by
  intro j hj
  obtain ⟨u, hu⟩ := h.there j hj
  rw [show 0 + j = j by omega]
  exact ⟨by rw [hu]; rfl, h.free j⟩
theorem setCellsB {B : Nat} {w : World} : ∀ {W : World} (_ : Below B w W) (b o : Nat) (cs : List Value) (_ : B ≤ b), Below B w (W.setCells b o cs) := by
  intro W h b o cs hb
  induction cs generalizing W o with
  | nil => exact h
  | cons c cs ih => exact ih (h.setCell (p := ⟨b, o, none⟩) hb c) (o + 1)
theorem results_cell_mid {P : Program} {fn : Func} {p : Tmp} {ty : TypeId} (h : fn.results = #[.cell p ty]) (tmps : Array Value) (w : World) (g o : Nat) (cs : List Value) (d : TypeDesc)
    (hp : tmps.getD p undef = .pointer (some ⟨g, o, none⟩)) (hc : w.rangeAt g o cs)
    (hu : P.underlying ty = some d) (hd : d.isRow = true) (hi : (P.info? ty).map (·.size) = some cs.length) :
    (results fn tmps).run P w = .ok (.agg cs.toArray) w := by
  have hp' : tmps[p]?.getD undef = .pointer (some ⟨g, o, none⟩) := by simpa using hp
  simp [results, h, hp', asAddr, run_loadVar_mid w g o ty cs d hc hu hd hi]
theorem below4' (w : World) (o1 o2 o3 o4 : Obj) : Below w.heap.size w ((((w.alloc o1).alloc o2).alloc o3).alloc o4) :=
  ((((Below.refl _ _).alloc (Nat.le_refl _) _).alloc (by simp) _).alloc (by simp; omega) _).alloc (by simp; omega) _
theorem start4 (w : World) (x y z : Int) :
    RowF ((((w.alloc (.cells (rowG x) 25)).alloc (.cells (rowG y) 25)).alloc (.cells zeros10 25)).alloc (.cells zeros10 25)) w.heap.size x ∧ RowF ((((w.alloc (.cells (rowG x) 25)).alloc (.cells (rowG y) 25)).alloc (.cells zeros10 25)).alloc (.cells zeros10 25)) (w.heap.size + 1) y ∧ Part ((((w.alloc (.cells (rowG x) 25)).alloc (.cells (rowG y) 25)).alloc (.cells zeros10 25)).alloc (.cells zeros10 25)) (w.heap.size + 1 + 1) z 0 ∧ Part ((((w.alloc (.cells (rowG x) 25)).alloc (.cells (rowG y) 25)).alloc (.cells zeros10 25)).alloc (.cells zeros10 25)) (w.heap.size + 1 + 1 + 1) z 0 := by
  have s1 := rowF_new w x 25
  have s2 := rowF_new (w.alloc (.cells (rowG x) 25)) y 25
  have s3 := part_new ((w.alloc (.cells (rowG x) 25)).alloc (.cells (rowG y) 25)) z 25
  have s4 := part_new (((w.alloc (.cells (rowG x) 25)).alloc (.cells (rowG y) 25)).alloc (.cells zeros10 25)) z 25
  have b : ∀ (W : World) (o : Obj), Below W.heap.size W (W.alloc o) := fun W o => (Below.refl _ _).alloc (Nat.le_refl _) _
  simp only [World.size_alloc] at s2 s3 s4
  exact ⟨((s1.below (b _ _)).below (b _ _)).below (b _ _), (s2.below (b _ _)).below (b _ _), s3.below (b _ _), s4⟩

set_option maxRecDepth 100000 in
set_option maxHeartbeats 2000000 in
theorem sum_any (x y : Int) (w : World) :
    Calls Tryd.prog 30 #[.agg (rowG x), .agg (rowG y)] w fun e w' => e = .returned (.agg (rowG (x + y))) ∧ Below w.heap.size w w' := by
  go_enter Tryd.func30, Tryd.ntmps30
  go_wp2
  have hS : RowF ((((w.alloc (.cells (rowG x) 25)).alloc (.cells (rowG y) 25)).alloc (.cells zeros10 25)).alloc (.cells zeros10 25)) w.heap.size x ∧ RowF ((((w.alloc (.cells (rowG x) 25)).alloc (.cells (rowG y) 25)).alloc (.cells zeros10 25)).alloc (.cells zeros10 25)) (w.heap.size + 1) y ∧ Part ((((w.alloc (.cells (rowG x) 25)).alloc (.cells (rowG y) 25)).alloc (.cells zeros10 25)).alloc (.cells zeros10 25)) (w.heap.size + 1 + 1) (x + y) 0 ∧ Part ((((w.alloc (.cells (rowG x) 25)).alloc (.cells (rowG y) 25)).alloc (.cells zeros10 25)).alloc (.cells zeros10 25)) (w.heap.size + 1 + 1 + 1) (x + y) 0 :=
    start4 w x y (x + y)
  have hB := below4' w (.cells (rowG x) 25) (.cells (rowG y) 25) (.cells zeros10 25) (.cells zeros10 25)
  have HS := Lib.hid hS
  clear hS
  go_loopw [6, 7] (fun c i wr => ∃ (j : Nat) (k : Int), j ≤ 10 ∧ i = .int .i64 j ∧ c = .int .i64 k ∧ 0 ≤ k ∧ k ≤ 1 ∧ X (x + y) j = X x j + X y j + k ∧ RowF wr w.heap.size x ∧ RowF wr (w.heap.size + 1) y ∧ Part wr (w.heap.size + 1 + 1) (x + y) 0 ∧ Part wr (w.heap.size + 1 + 1 + 1) (x + y) j ∧ Below w.heap.size w wr) (fun _ i _ => 10 - (intOf i).toNat)
  case atStart => exact ⟨0, 0, by omega, rfl, rfl, by omega, by omega, by rw [X_zero, X_zero, X_zero]; omega, HS.out.1, HS.out.2.1, HS.out.2.2.1, HS.out.2.2.2, hB⟩
  case round =>
    obtain ⟨j, k, hj, rfl, rfl, hk0, hk1, hX, hA, hC, hR, hP, hb⟩ := hrel
    have HX := Lib.hid hX
    have HA := Lib.hid hA
    have HC := Lib.hid hC
    have HR := Lib.hid hR
    have HP := Lib.hid hP
    have HBB := Lib.hid hb
    clear hX hA hC hR hP hb hB HS
    by_cases hlt : j < 10
    · have ca := HA.out j hlt
      have cb := HC.out j hlt
      obtain ⟨u, cu⟩ := HP.out.there j hlt
      have fu := HP.out.free j
      have ga := G_bd x j
      have gb := G_bd y j
      obtain ⟨ga0, ga1⟩ := ga
      obtain ⟨gb0, gb1⟩ := gb
      have hj0 : (0 : Int) ≤ (j : Int) := by omega
      have hj1 : (j : Int) < 10 := by omega
      go_wp2
      go_quiet (fail)
      go_wp2
      go_roundw
      case rel =>
        have hb := HBB.out
        have hbd := Part.drewN HP.out nq
        have hv : (k + G x j + G y j) % 65536 = G (x + y) j := by have := HX.out; unfold G; rw [this]; unfold G at *; omega
        rw [hv]
        exact ⟨j + 1, _, by omega, by go_num, rfl, by omega, by omega, by rw [X_succ, X_succ, X_succ, HX.out]; unfold G; omega,
          RowF.store (RowF.drewN HA.out nq) _ _ (by simp; omega), RowF.store (RowF.drewN HC.out nq) _ _ (by simp; omega), Part.store (Part.drewN HR.out nq) _ _ (by simp), Part.step hbd hlt, (drewNB hb nq).setCell (by simp; omega) _⟩
      case measure => simp [intOf]; omega
    · have hj10 : j = 10 := by omega
      subst hj10
      have hrange := HP.out.range
      have hthere := HR.out.thereTen
      have hB := HBB.out
      have hone := rowG_one (x + y)
      go_wp2_with (first
        | (refine wpList_load_mid rfl 25 _ rfl (w.heap.size + 1 + 1 + 1) 0 rfl (rowG (x + y)).toList _ hrange Tryd.underlying25 rfl (by kernel_rfl) ?_)
        | (refine wpList_store_mid rfl 25 _ _ rfl (w.heap.size + 1 + 1) 0 (rowG (x + y)) rfl rfl hthere (by kernel_rfl) hone ?_))
      refine bodyPost_ret (v := .agg (rowG (x + y))) ?_ ?_ ?_
      · exact results_cell_mid Tryd.results30 _ _ (w.heap.size + 1 + 1) 0 (rowG (x + y)).toList _ (by rfl) (World.rangeAt_setCells_same _ _ _ _ hthere) Tryd.underlying25 rfl (by kernel_rfl)
      · rfl
      · exact ⟨rfl, setCellsB hB _ _ _ (by omega)⟩
end Go.Proofs.YtmfmdcapanaajaaDoor
