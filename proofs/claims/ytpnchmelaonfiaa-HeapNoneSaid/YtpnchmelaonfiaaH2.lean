/- A heap: compare, swap. -/
import Derived.Test.YtpnchmelaonfiaaH1
import Derived.Deep.RegionHeld3
namespace Go.Proofs.Ytpnchmelaonfiaa
open Go Go.RowKit

variable {W : World} {a bw bp base n : Nat} {R : Option Nat} {len : Nat} {Wt : Nat → Int} {P O : Nat → Nat}
def Reads3 (p : Addr) (u : Value) (q : Addr) (v : Value) (r : Addr) (x : Value) (w : World) : Prop := w.cell? p = some u ∧ w.cell? q = some v ∧ w.cell? r = some x
theorem Reads3.later {p q r : Addr} {u v x : Value} {w w' : World} (h : Reads3 p u q v r x w) (hb : Below w.heap.size w w') : Reads3 p u q v r x w' := ⟨cell_later hb h.1, cell_later hb h.2.1, cell_later hb h.2.2⟩
set_option maxRecDepth 100000 in
set_option maxHeartbeats 800000 in
theorem cmp_at (h : HeapAt W a bw bp base n R len Wt P O) (i j : Nat) (hi : i < n) (hj : j < n) (hn : n ≤ 9223372036854775807) :
    Calls Try.prog 53 #[.pointer (some ⟨a, 0, none⟩), .int .i64 i, .int .i64 j] W fun e w' => e = .returned (.int .i64 (cmpH Wt i j)) ∧ Below W.heap.size W w' := by
  obtain ⟨c, h0⟩ := h.cw
  have hS0 : Reads3 ⟨a, 0, none⟩ (.slice (some ⟨bw, 0, none⟩) n c) ⟨bw, i, none⟩ (.int .i64 (Wt i)) ⟨bw, j, none⟩ (.int .i64 (Wt j)) W := ⟨h0, (h.hw i hi).1, (h.hw j hj).1⟩
  have hS := Reads3.later hS0 ((Below.refl _ W).drew)
  have b1 : Below W.heap.size W W.drew := (Below.refl _ _).drew
  have hr : (if cmpI (Wt j) (Wt i) = 0 then cmpI (i : Int) (j : Int) else cmpI (Wt j) (Wt i)) = cmpH Wt i j := rfl
  have C1 := Lib.hid (fun W => compare64_any (Wt j) (Wt i) W)
  have C2 := Lib.hid (fun W => compareint_any (i : Int) (j : Int) W)
  have C3 := Lib.hid (or_any W.heap.size 2 (cmpI (Wt j) (Wt i)) (cmpI (i : Int) (j : Int)) (W.alloc (.cells #[.int .i64 (cmpI (Wt j) (Wt i)), .int .i64 (cmpI (i : Int) (j : Int))] 3)).drew (by simp [go_sem]) (by simp [go_sem]))
  have HBe := Lib.hid ((below1 W (.cells #[.int .i64 (cmpI (Wt j) (Wt i)), .int .i64 (cmpI (i : Int) (j : Int))] 3)).drew)
  rw [hr] at C3
  clear hr h h0 hS0
  have i0 : (0 : Int) ≤ (i : Int) := by omega
  have j0 : (0 : Int) ≤ (j : Int) := by omega
  have i1 : (i : Int) < (n : Int) := by omega
  have j1 : (j : Int) < (n : Int) := by omega
  generalize cmpH Wt i j = r at *
  generalize Wt i = x at *
  generalize Wt j = y at *
  generalize cmpI y x = p at *
  generalize cmpI (i : Int) (j : Int) = q at *
  go_enter Try.func53, Try.ntmps53
  go_wp2_with fail
  go_region_held3 (fun w' => w'.cell? ⟨a, 0, none⟩ = some (.slice (some ⟨bw, 0, none⟩) n c) ∧ w'.cell? ⟨bw, i, none⟩ = some (.int .i64 x) ∧ w'.cell? ⟨bw, j, none⟩ = some (.int .i64 y))
    (first | exact hS | exact Reads3.later hS (below1 _ _))
    (first
      | (go_at_call 59; refine (C1.out _).mono ?_; rintro e w' ⟨rfl, rfl⟩)
      | (go_at_call 60; refine (C2.out _).mono ?_; rintro e w' ⟨rfl, rfl⟩)
      | (go_at_call 58; refine C3.out.mono ?_; rintro e w' ⟨rfl, rfl⟩))
  go_wp2_with fail
  go_ret
  exact ⟨rfl, HBe.out⟩
end Go.Proofs.Ytpnchmelaonfiaa
