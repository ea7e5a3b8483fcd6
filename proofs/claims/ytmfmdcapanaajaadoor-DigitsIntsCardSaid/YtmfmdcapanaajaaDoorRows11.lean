/- Rows of ten digits: differences, and which one is less. -/
import Derived.Test.YtmfmdcapanaajaaDoorRows10
namespace Go.Proofs.YtmfmdcapanaajaaDoor
open Go Go.RowKit Go.Sort

set_option maxRecDepth 100000 in
set_option maxHeartbeats 2000000 in
theorem diff_any (x y : Int) (w : World) :
    Calls Tryd.prog 32 #[.agg (rowG x), .agg (rowG y)] w fun e w' => e = .returned (.agg (rowG (x - y))) ∧ Below w.heap.size w w' := by
  go_enter Tryd.func32, Tryd.ntmps32
  go_wp2
  have hS : RowF ((((w.alloc (.cells (rowG x) 25)).alloc (.cells (rowG y) 25)).alloc (.cells zeros10 25)).alloc (.cells zeros10 25)) w.heap.size x ∧ RowF ((((w.alloc (.cells (rowG x) 25)).alloc (.cells (rowG y) 25)).alloc (.cells zeros10 25)).alloc (.cells zeros10 25)) (w.heap.size + 1) y ∧ Part ((((w.alloc (.cells (rowG x) 25)).alloc (.cells (rowG y) 25)).alloc (.cells zeros10 25)).alloc (.cells zeros10 25)) (w.heap.size + 1 + 1) (x - y) 0 ∧ Part ((((w.alloc (.cells (rowG x) 25)).alloc (.cells (rowG y) 25)).alloc (.cells zeros10 25)).alloc (.cells zeros10 25)) (w.heap.size + 1 + 1 + 1) (x - y) 0 :=
    start4 w x y (x - y)
  have hB := below4' w (.cells (rowG x) 25) (.cells (rowG y) 25) (.cells zeros10 25) (.cells zeros10 25)
  have HS := Lib.hid hS
  clear hS
  go_loopw [6, 7] (fun c i wr => ∃ (j : Nat) (k : Int), j ≤ 10 ∧ i = .int .i64 j ∧ c = .int .i64 k ∧ 0 ≤ k ∧ k ≤ 1 ∧ X (x - y) j = X x j - X y j - k ∧ RowF wr w.heap.size x ∧ RowF wr (w.heap.size + 1) y ∧ Part wr (w.heap.size + 1 + 1) (x - y) 0 ∧ Part wr (w.heap.size + 1 + 1 + 1) (x - y) j ∧ Below w.heap.size w wr) (fun _ i _ => 10 - (intOf i).toNat)
  case atStart => exact ⟨0, 0, by omega, rfl, rfl, by omega, by omega, by rw [X_zero, X_zero, X_zero]; omega, HS.out.1, HS.out.2.1, HS.out.2.2.1, HS.out.2.2.2, hB⟩
  case round =>
    obtain ⟨j, k, hj, rfl, rfl, hk0, hk1, hX, hA, hC, hR, hP, hb⟩ := hrel
    have HX := Lib.hid hX
    have HA := Lib.hid hA
    have HC := Lib.hid hC
    have HR := Lib.hid hR
    have HP := Lib.hid hP
    have HBB := Lib.hid hb
    clear hX hA hC hR hP hb hB HS
    by_cases hlt : j < 10
    · have ca := HA.out j hlt
      have cb := HC.out j hlt
      obtain ⟨u, cu⟩ := HP.out.there j hlt
      have fu := HP.out.free j
      have ga := G_bd x j
      have gb := G_bd y j
      obtain ⟨ga0, ga1⟩ := ga
      obtain ⟨gb0, gb1⟩ := gb
      have hj0 : (0 : Int) ≤ (j : Int) := by omega
      have hj1 : (j : Int) < 10 := by omega
      go_wp2
      go_quiet (fail)
      go_wp2
      go_roundw
      case rel =>
        have hb := HBB.out
        have hbd := Part.drewN HP.out nq
        have hv : (65536 + G x j - G y j - k) % 65536 = G (x - y) j := by have := HX.out; unfold G; rw [this]; unfold G at *; omega
        rw [hv]
        exact ⟨j + 1, _, by omega, by go_num, rfl, by omega, by omega, by rw [X_succ, X_succ, X_succ, HX.out]; unfold G; omega,
          RowF.store (RowF.drewN HA.out nq) _ _ (by simp; omega), RowF.store (RowF.drewN HC.out nq) _ _ (by simp; omega), Part.store (Part.drewN HR.out nq) _ _ (by simp), Part.step hbd hlt, (drewNB hb nq).setCell (by simp; omega) _⟩
      case measure => simp [intOf]; omega
    · have hj10 : j = 10 := by omega
      subst hj10
      have hrange := HP.out.range
      have hthere := HR.out.thereTen
      have hB := HBB.out
      have hone := rowG_one (x - y)
      go_wp2_with (first
        | (refine wpList_load_mid rfl 25 _ rfl (w.heap.size + 1 + 1 + 1) 0 rfl (rowG (x - y)).toList _ hrange Tryd.underlying25 rfl (by kernel_rfl) ?_)
        | (refine wpList_store_mid rfl 25 _ _ rfl (w.heap.size + 1 + 1) 0 (rowG (x - y)) rfl rfl hthere (by kernel_rfl) hone ?_))
      refine bodyPost_ret (v := .agg (rowG (x - y))) ?_ ?_ ?_
      · exact results_cell_mid Tryd.results32 _ _ (w.heap.size + 1 + 1) 0 (rowG (x - y)).toList _ (by rfl) (World.rangeAt_setCells_same _ _ _ _ hthere) Tryd.underlying25 rfl (by kernel_rfl)
      · rfl
      · exact ⟨rfl, setCellsB hB _ _ _ (by omega)⟩

theorem X_le {x y : Int} (h : x ≤ y) (i : Nat) : X x i ≤ X y i := by
  induction i with
  | zero => rw [X_zero, X_zero]; exact h
  | succ i ih => rw [X_succ, X_succ]; omega
theorem lt_of_X {x y : Int} (i : Nat) (h : X x i < X y i) : x < y := by
  rcases Int.lt_or_le x y with h1 | h1
  · exact h1
  · have := X_le h1 i; omega
theorem X_part (x : Int) (i : Nat) : X x i = 65536 * X x (i + 1) + G x i := by rw [X_succ]; unfold G; omega
theorem X_ten (x : Int) (h0 : 0 ≤ x) (h1 : x < 1461501637330902918203684832716283019655932542976) : X x 10 = 0 := by
  unfold X
  rw [show (65536 : Int) ^ 10 = 1461501637330902918203684832716283019655932542976 by decide +kernel]
  omega

set_option maxRecDepth 100000 in
set_option maxHeartbeats 2000000 in
theorem below_any (x y : Int) (w : World) (x0 : 0 ≤ x) (x1 : x < 1461501637330902918203684832716283019655932542976) (y0 : 0 ≤ y) (y1 : y < 1461501637330902918203684832716283019655932542976) :
    Calls Tryd.prog 31 #[.agg (rowG x), .agg (rowG y)] w fun e w' => e = .returned (.bool (decide (x < y))) ∧ Below w.heap.size w w' := by
  have h10 : X x 10 = X y 10 := by rw [X_ten x x0 x1, X_ten y y0 y1]
  have H10 := Lib.hid h10
  clear h10 x0 x1 y0 y1
  go_enter Tryd.func31, Tryd.ntmps31
  go_wp2
  have hS : RowF ((w.alloc (.cells (rowG x) 25)).alloc (.cells (rowG y) 25)) w.heap.size x ∧ RowF ((w.alloc (.cells (rowG x) 25)).alloc (.cells (rowG y) 25)) (w.heap.size + 1) y := by
    have s2 := rowF_new (w.alloc (.cells (rowG x) 25)) y 25
    simp only [World.size_alloc] at s2
    exact ⟨(rowF_new w x 25).below ((Below.refl _ _).alloc (Nat.le_refl _) _), s2⟩
  have hB := below2 w (.cells (rowG x) 25) (.cells (rowG y) 25)
  have HS := Lib.hid hS
  clear hS
  go_loopw [5] (fun i wr => ∃ (j : Nat), j ≤ 10 ∧ i = .int .i64 ((j : Int) - 1) ∧ X x j = X y j ∧ RowF wr w.heap.size x ∧ RowF wr (w.heap.size + 1) y ∧ Below w.heap.size w wr) (fun i _ => (intOf i + 1).toNat)
  case atStart => exact ⟨10, by omega, rfl, H10.out, HS.out.1, HS.out.2, hB⟩
  case round =>
    obtain ⟨j, hj, rfl, hX, hA, hC, hb⟩ := hrel
    have HX := Lib.hid hX
    have HA := Lib.hid hA
    have HC := Lib.hid hC
    have HBB := Lib.hid hb
    clear hX hA hC hb hB HS
    by_cases hlt : 0 < j
    · obtain ⟨i, rfl⟩ : ∃ i : Nat, j = i + 1 := ⟨j - 1, by omega⟩
      have ca := HA.out i (by omega)
      have cb := HC.out i (by omega)
      have hj0 : (0 : Int) ≤ (i : Int) := by omega
      have hj1 : (i : Int) < 10 := by omega
      rw [show (((i + 1 : Nat) : Int) - 1) = (i : Int) by omega]
      by_cases hg : G x i = G y i
      · have hne : (G x i != G y i) = false := by simp [hg]
        have HG := Lib.hid hg
        clear hg
        go_wp2
        go_quiet (fail)
        go_wp2
        go_roundw
        case rel => exact ⟨i, by omega, rfl, by rw [X_part x i, X_part y i, HX.out, HG.out], RowF.drewN HA.out _, RowF.drewN HC.out _, drewNB HBB.out _⟩
        case measure => simp [intOf]
      · have hne : (G x i != G y i) = true := by simp [hg]
        have hres : decide (G x i < G y i) = decide (x < y) := by
          have px := X_part x i
          have py := X_part y i
          have hx := HX.out
          rw [decide_eq_decide]
          constructor
          · intro h; exact lt_of_X i (by omega)
          · intro h; have := X_le (Int.le_of_lt h) i; omega
        have HRES := Lib.hid hres
        clear hg hres
        go_wp2
        go_quiet (fail)
        go_wp2
        go_quiet (fail)
        go_wp2
        go_ret
        exact ⟨by rw [← HRES.out]; rfl, drewNB (drewNB HBB.out _) _⟩
    · have hj0 : j = 0 := by omega
      subst hj0
      have hxy : x = y := by have := HX.out; rwa [X_zero, X_zero] at this
      have hd : decide (x < y) = false := by simp [hxy]
      have HD := Lib.hid hd
      clear hxy hd
      go_wp2
      go_ret
      exact ⟨by rw [HD.out]; rfl, HBB.out⟩
end Go.Proofs.YtmfmdcapanaajaaDoor
