/- A heap: who is one of its numbers; Len, Weight, Has, First. -/
import Derived.Test.YtpnchmelaonfiaaH6
import Derived.Test.YtpnchmelaonfiaaH5
namespace Go.Proofs.Ytpnchmelaonfiaa
open Go Go.RowKit

/-- a heap with weights Wt, in which those of In are. -/
def HeapIs (W : World) (a bw bp base n : Nat) (R : Option Nat) (len : Nat) (Wt : Nat → Int) (In : Nat → Bool) : Prop :=
  ∃ P O, HeapAt W a bw bp base n R len Wt P O ∧ Places n len P O ∧ HeapOrd Wt len O ∧ (∀ x, x < n → (P x ≠ 0 ↔ In x = true)) ∧ (∀ x, x < n → 0 ≤ Wt x ∧ Wt x ≤ 4611686018427387904)
variable {W : World} {a bw bp base n : Nat} {R : Option Nat} {len : Nat} {Wt : Nat → Int} {In : Nat → Bool} {P O : Nat → Nat}
theorem HeapIs.only {W' : World} {S : Nat → Prop} (h : HeapIs W a bw bp base n R len Wt In) (ho : Only S W W') (hS : ∀ k, HB a bw bp R k → ¬ S k) : HeapIs W' a bw bp base n R len Wt In := by
  obtain ⟨P, O, h1, h2⟩ := h
  exact ⟨P, O, h1.only ho hS, h2⟩
theorem HeapIs.later {W' : World} (h : HeapIs W a bw bp base n R len Wt In) (hb : Below W.heap.size W W') : HeapIs W' a bw bp base n R len Wt In := by
  obtain ⟨P, O, h1, h2⟩ := h
  exact ⟨P, O, h1.later hb, h2⟩
/-- is a number one of the heap's? -/
def ownB (n : Nat) (i : Int) : Bool := decide (0 ≤ i) && decide (i < (n : Int))
set_option maxRecDepth 100000 in
set_option maxHeartbeats 800000 in
theorem owns_at (h : HeapAt W a bw bp base n R len Wt P O) (i : Int) (hn : n ≤ 1048576) :
    Calls Try.prog 42 #[.pointer (some ⟨a, 0, none⟩), .int .i64 i] W fun e w' => e = .returned (.bool (ownB n i)) ∧ w' = W := by
  obtain ⟨c, h0⟩ := h.cw
  clear h
  have key : i < 0 ∨ (0 ≤ i ∧ (n : Int) ≤ i) ∨ (0 ≤ i ∧ i < (n : Int)) := by omega
  rcases key with h | ⟨h, h'⟩ | ⟨h, h'⟩
  · have hv : ownB n i = false := by unfold ownB; rw [decide_eq_false (by omega)]; rfl
    rw [hv]
    have q1 : ¬ 0 ≤ i := by omega
    have q := decide_eq_false q1
    clear hv
    go_enter Try.func42, Try.ntmps42
    go_wp2
    go_ret
    exact ⟨rfl, rfl⟩
  · have hv : ownB n i = false := by unfold ownB; rw [decide_eq_true h, decide_eq_false (show ¬ i < (n : Int) by omega)]; rfl
    rw [hv]
    clear hv
    have q1 := decide_eq_true h
    have q2 : ¬ i < (n : Int) := by omega
    have q := decide_eq_false q2
    go_enter Try.func42, Try.ntmps42
    go_wp2
    go_ret
    exact ⟨by first | rfl | (simp; omega), rfl⟩
  · have hv : ownB n i = true := by unfold ownB; rw [decide_eq_true h, decide_eq_true h']; rfl
    rw [hv]
    clear hv
    have q1 := decide_eq_true h
    have q := decide_eq_true h'
    go_enter Try.func42, Try.ntmps42
    go_wp2
    go_ret
    exact ⟨by first | rfl | (simp; omega), rfl⟩
theorem ownB_in {n : Nat} {i : Nat} (h : i < n) : ownB n (i : Int) = true := by unfold ownB; rw [decide_eq_true (by omega), decide_eq_true (by omega)]; rfl
set_option maxRecDepth 100000 in
set_option maxHeartbeats 800000 in
theorem len_at (h : HeapAt W a bw bp base n R len Wt P O) : Calls Try.prog 37 #[.pointer (some ⟨a, 0, none⟩)] W fun e w' => e = .returned (.int .i64 len) ∧ w' = W := by
  obtain ⟨p, c, h0, h8, h9⟩ := h.co
  clear h h8 h9
  go_enter Try.func37, Try.ntmps37
  go_wp2
  go_ret
  exact ⟨rfl, rfl⟩
set_option maxRecDepth 100000 in
set_option maxHeartbeats 800000 in
theorem size_at (h : HeapAt W a bw bp base n R len Wt P O) : Calls Try.prog 12 #[.pointer (some ⟨a, 0, none⟩)] W fun e w' => e = .returned (.int .i64 n) ∧ w' = W := by
  obtain ⟨c, h0⟩ := h.cw
  clear h
  go_enter Try.func12, Try.ntmps12
  go_wp2
  go_ret
  exact ⟨rfl, rfl⟩
set_option maxRecDepth 100000 in
set_option maxHeartbeats 800000 in
theorem weight_at (h : HeapAt W a bw bp base n R len Wt P O) (i : Nat) (hi : i < n) (hn : n ≤ 1048576) : Calls Try.prog 23 #[.pointer (some ⟨a, 0, none⟩), .int .i64 i] W fun e w' => e = .returned (.int .i64 (Wt i)) ∧ w' = W := by
  have H1 := owns_at h (i : Int) hn
  rw [ownB_in hi] at H1
  obtain ⟨c, h0⟩ := h.cw
  have hw := (h.hw i hi).1
  have i0 : (0 : Int) ≤ (i : Int) := by omega
  have i1 : (i : Int) < (n : Int) := by omega
  clear h
  generalize Wt i = x at *
  go_enter Try.func23, Try.ntmps23
  go_wp2_with fail
  refine H1.mono ?_
  rintro e w1 ⟨rfl, rfl⟩
  clear H1
  go_wp2_with fail
  go_ret
  exact ⟨rfl, rfl⟩
set_option maxRecDepth 100000 in
set_option maxHeartbeats 800000 in
theorem weight_out (h : HeapAt W a bw bp base n R len Wt P O) (i : Int) (hi : ownB n i = false) (hn : n ≤ 1048576) : Calls Try.prog 23 #[.pointer (some ⟨a, 0, none⟩), .int .i64 i] W fun e w' => e = .returned (.int .i64 0) ∧ w' = W := by
  have H1 := owns_at h i hn
  rw [hi] at H1
  clear h hi
  go_enter Try.func23, Try.ntmps23
  go_wp2_with fail
  refine H1.mono ?_
  rintro e w1 ⟨rfl, rfl⟩
  clear H1
  go_wp2_with fail
  go_ret
  exact ⟨rfl, rfl⟩
set_option maxRecDepth 100000 in
set_option maxHeartbeats 800000 in
theorem first_none (h : HeapAt W a bw bp base n R 0 Wt P O) : Calls Try.prog 21 #[.pointer (some ⟨a, 0, none⟩)] W fun e w' => e = .returned (.tuple #[.int .i64 0, .bool false]) ∧ w' = W := by
  have H1 := len_at h
  clear h
  go_enter Try.func21, Try.ntmps21
  go_wp2_with fail
  refine H1.mono ?_
  rintro e w1 ⟨rfl, rfl⟩
  clear H1
  go_wp2_with fail
  go_ret2
  exact ⟨rfl, rfl⟩
set_option maxRecDepth 100000 in
set_option maxHeartbeats 800000 in
theorem first_at (h : HeapAt W a bw bp base n R len Wt P O) (hl : 0 < len) : Calls Try.prog 21 #[.pointer (some ⟨a, 0, none⟩)] W fun e w' => e = .returned (.tuple #[.int .i64 (O 0 : Int), .bool true]) ∧ w' = W := by
  have H1 := len_at h
  obtain ⟨g, c, hR, hg, hgl, h2, own⟩ := h.row hl
  have x1 := (own_cell own 0 _ (rowN_get len O 0 hl)).1
  have t1 : ((len : Int) == 0) = false := by simp; omega
  have t2 : (0 : Int) < (len : Int) := by omega
  clear h hR hg hgl own
  generalize O 0 = o0 at *
  go_enter Try.func21, Try.ntmps21
  go_wp2_with fail
  refine H1.mono ?_
  rintro e w1 ⟨rfl, rfl⟩
  clear H1
  go_wp2_with fail
  go_ret2
  exact ⟨rfl, rfl⟩
end Go.Proofs.Ytpnchmelaonfiaa
