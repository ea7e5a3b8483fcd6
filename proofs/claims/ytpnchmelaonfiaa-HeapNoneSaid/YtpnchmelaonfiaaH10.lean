/- A heap: Raise. -/
import Derived.Test.YtpnchmelaonfiaaH9
namespace Go.Proofs.Ytpnchmelaonfiaa
open Go Go.RowKit

variable {W : World} {a bw bp base n : Nat} {R : Option Nat} {len : Nat} {Wt : Nat → Int} {In : Nat → Bool} {P O : Nat → Nat}
theorem nums_set {W : World} {b n : Nat} {F : Nat → Int} (h : ∀ i, i < n → W.cell? ⟨b, i, none⟩ = some (.int .i64 (F i)) ∧ W.frozen? ⟨b, i, none⟩ = false) (j : Nat) (v : Int) : ∀ i, i < n → (W.setCell ⟨b, j, none⟩ (.int .i64 v)).cell? ⟨b, i, none⟩ = some (.int .i64 (up1 F j v i)) ∧ (W.setCell ⟨b, j, none⟩ (.int .i64 v)).frozen? ⟨b, i, none⟩ = false := by
  intro i hi
  refine ⟨?_, by rw [World.frozen?_setCell]; exact (h i hi).2⟩
  by_cases e : i = j
  · subst e
    rw [World.cell?_setCell_same _ _ _ (h i hi).1, up1_same]
  · rw [World.cell?_setCell_other _ _ _ _ (by intro e'; cases e'; exact e rfl), up1_ne F v e]
    exact (h i hi).1
/-- the weights turn. -/
theorem HeapAt.reweigh {W' : World} {Wt' : Nat → Int} (h : HeapAt W a bw bp base n R len Wt P O) (ho : Only (fun k => k = bw) W W') (hw : ∀ i, i < n → W'.cell? ⟨bw, i, none⟩ = some (.int .i64 (Wt' i)) ∧ W'.frozen? ⟨bw, i, none⟩ = false) : HeapAt W' a bw bp base n R len Wt' P O := by
  have na : ¬ a = bw := h.d1
  have np : ¬ bp = bw := fun e => h.d3 e.symm
  obtain ⟨c1, h1⟩ := h.cw
  obtain ⟨c2, h2⟩ := h.cp
  obtain ⟨p, c3, h3, e3, o3⟩ := h.co
  have al : a < W.heap.size := World.block_lt_of_cell? W _ h1
  refine ⟨⟨c1, ho.cell h1 na⟩, ⟨c2, ho.cell h2 na⟩, ⟨p, c3, ho.cell h3 na, e3, own_only o3 ho (fun k hk e => ?_)⟩, hw, fun i hi => ⟨ho.cell (h.hp i hi).1 np, ?_⟩, fun o => ?_, h.d1, h.d2, h.d3, h.la, h.lw, h.lp, Nat.le_trans h.hb ho.size⟩
  · have := own_lt o3 hk
    have := h.lw
    omega
  · rw [ho.frozen (World.block_lt_of_cell? W _ (h.hp i hi).1) np]; exact (h.hp i hi).2
  · rw [ho.frozen al na]; exact h.fz o
set_option maxRecDepth 100000 in
set_option maxHeartbeats 1600000 in
theorem raise_at (h : HeapIs W a bw bp base n R len Wt In) (i : Nat) (hi : i < n) (v : Int) (hv : 0 ≤ v) (hv2 : v ≤ 4611686018427387904 - Wt i) (hn : n ≤ 1048576) (hl : len ≤ 1048576) :
    Calls Try.prog 17 #[.pointer (some ⟨a, 0, none⟩), .int .i64 i, .int .i64 v] W fun e w' => e = .returned (.int .i64 0) ∧ HeapIs w' a bw bp base n R len (up1 Wt i (Wt i + v)) In ∧ Only (HB a bw bp R) W w' := by
  obtain ⟨P, O, h, p, ho, hp, hwt⟩ := h
  have H1 := owns_at h (i : Int) hn
  rw [ownB_in hi] at H1
  obtain ⟨c1, h1⟩ := h.cw
  obtain ⟨c2, h2⟩ := h.cp
  obtain ⟨x1, f1⟩ := h.hw i hi
  have y1 := (h.hp i hi).1
  have w0 := (hwt i hi).1
  have w1' := (hwt i hi).2
  have hoE : Only (fun k => k = bw) W (W.setCell ⟨bw, i, none⟩ (.int .i64 (Wt i + v))) := Only.of_setCell _ ⟨bw, i, none⟩ _
  have hE := h.reweigh hoE (Wt' := up1 Wt i (Wt i + v)) (nums_set h.hw i (Wt i + v))
  have hb2 : (W.setCell ⟨bw, i, none⟩ (.int .i64 (Wt i + v))).cell? ⟨bp, i, none⟩ = some (.int .i64 (P i : Int)) := hoE.cell y1 (fun e => h.d3 e.symm)
  have hb1 : (W.setCell ⟨bw, i, none⟩ (.int .i64 (Wt i + v))).cell? ⟨a, 1, none⟩ = some (.slice (some ⟨bp, 0, none⟩) n c2) := hoE.cell h2 h.d1
  have hwt2 : ∀ x, x < n → 0 ≤ up1 Wt i (Wt i + v) x ∧ up1 Wt i (Wt i + v) x ≤ 4611686018427387904 := fun x hx => by
    by_cases e : x = i
    · subst e; rw [up1_same]; omega
    · rw [up1_ne Wt _ e]; exact hwt x hx
  have i0 : (0 : Int) ≤ (i : Int) := by omega
  have i1 : (i : Int) < (n : Int) := by omega
  have HP := Lib.hid p
  have HO := Lib.hid ho
  have HPI := Lib.hid hp
  have HWT := Lib.hid hwt2
  have HE := Lib.hid hE
  have HOE := Lib.hid hoE
  have t1 : ¬ v < 0 := by omega
  have t2 : ¬ 4611686018427387904 - Wt i < v := by omega
  clear h p ho hp hwt hwt2 hE hoE h2
  by_cases hp0 : P i = 0
  · rw [hp0] at hb2 y1
    have HP0 := Lib.hid hp0
    clear hp0
    go_enter Try.func17, Try.ntmps17
    go_wp2_with fail
    refine H1.mono ?_
    rintro e w1 ⟨rfl, rfl⟩
    clear H1
    go_wp2_with fail
    go_ret
    exact ⟨rfl, ⟨P, O, HE.out, HP.out, raise_out HP.out HO.out HP0.out _, HPI.out, HWT.out⟩, HOE.out.mono (fun k _ h => .inr (.inl h))⟩
  · have HU := Lib.hid (up_at HE.out HP.out (P i - 1) (by have := (HP.out.back i hi hp0).1; omega) (raise_almost HP.out HO.out hi hp0 (by omega)) hn hl)
    have q0 : (0 : Int) < (P i : Int) := by omega
    have q1 : (P i : Int) ≤ 1048576 := by have := (HP.out.back i hi hp0).1; omega
    have q2 : (P i : Int) - 1 = ((P i - 1 : Nat) : Int) := by omega
    go_enter Try.func17, Try.ntmps17
    go_wp2_with fail
    refine H1.mono ?_
    rintro e w1 ⟨rfl, rfl⟩
    clear H1
    go_wp2_with fail
    refine HU.out.mono ?_
    rintro e w7 ⟨rfl, P', O', h7, p7, o7, in7, only7⟩
    have H7 := Lib.hid (And.intro h7 (And.intro p7 (And.intro o7 (And.intro in7 only7))))
    clear h7 p7 o7 in7 only7
    go_wp2_with fail
    go_ret
    obtain ⟨h7, p7, o7, in7, only7⟩ := H7.out
    exact ⟨rfl, ⟨P', O', h7, p7, o7, fun x hx => (in7 x).trans (HPI.out x hx), HWT.out⟩, HOE.out.comp only7 (fun k _ h => .inr (.inl h)) (fun k _ h => by
      rcases h with h | h
      · exact .inr (.inr (.inl h))
      · exact .inr (.inr (.inr h)))⟩
set_option maxRecDepth 100000 in
set_option maxHeartbeats 800000 in
theorem raise_over (h : HeapIs W a bw bp base n R len Wt In) (i : Nat) (hi : i < n) (v : Int) (hv : 0 ≤ v) (hv2 : 4611686018427387904 - Wt i < v) (hn : n ≤ 1048576) :
    Calls Try.prog 17 #[.pointer (some ⟨a, 0, none⟩), .int .i64 i, .int .i64 v] W fun e w' => e = .returned (.int .i64 6) ∧ w' = W := by
  obtain ⟨P, O, h, p, ho, hp, hwt⟩ := h
  have H1 := owns_at h (i : Int) hn
  rw [ownB_in hi] at H1
  obtain ⟨c1, h1⟩ := h.cw
  have x1 := (h.hw i hi).1
  have w0 := (hwt i hi).1
  have w1' := (hwt i hi).2
  have i0 : (0 : Int) ≤ (i : Int) := by omega
  have i1 : (i : Int) < (n : Int) := by omega
  have t1 : ¬ v < 0 := by omega
  clear h p ho hp hwt
  go_enter Try.func17, Try.ntmps17
  go_wp2_with fail
  refine H1.mono ?_
  rintro e w1 ⟨rfl, rfl⟩
  clear H1
  go_wp2_with fail
  go_ret
  exact ⟨rfl, rfl⟩
set_option maxRecDepth 100000 in
set_option maxHeartbeats 800000 in
theorem raise_bad (h : HeapIs W a bw bp base n R len Wt In) (i : Int) (v : Int) (hb : ownB n i = false ∨ v < 0) (hn : n ≤ 1048576) :
    Calls Try.prog 17 #[.pointer (some ⟨a, 0, none⟩), .int .i64 i, .int .i64 v] W fun e w' => e = .returned (.int .i64 2) ∧ w' = W := by
  obtain ⟨P, O, h, p, ho, hp, hwt⟩ := h
  have H1 := owns_at h i hn
  clear h p ho hp hwt
  cases hx : ownB n i with
  | false =>
    rw [hx] at H1
    clear hx hb
    go_enter Try.func17, Try.ntmps17
    go_wp2_with fail
    refine H1.mono ?_
    rintro e w1 ⟨rfl, rfl⟩
    clear H1
    go_wp2_with fail
    go_ret
    exact ⟨rfl, rfl⟩
  | true =>
    have t1 : v < 0 := hb.resolve_left (by rw [hx]; simp)
    rw [hx] at H1
    clear hx hb
    go_enter Try.func17, Try.ntmps17
    go_wp2_with fail
    refine H1.mono ?_
    rintro e w1 ⟨rfl, rfl⟩
    clear H1
    go_wp2_with fail
    go_ret
    exact ⟨rfl, rfl⟩
end Go.Proofs.Ytpnchmelaonfiaa
