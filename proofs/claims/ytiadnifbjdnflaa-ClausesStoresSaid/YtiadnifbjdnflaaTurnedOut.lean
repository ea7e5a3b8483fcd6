/- The walk of the law CyclesTurned. -/
import Derived.Test.YtiadnifbjdnflaaHolds
import Derived.Deep.RegionHeld3
import Derived.Deep.DrawnRows
import Derived.Deep.MidRow
namespace Go.Proofs.Ytiadnifbjdnflaa
open Go Go.RowKit

theorem rangeAt_later {W W' : World} {b o : Nat} {cs : List Value} (h : W.rangeAt b o cs) (hb : Below W.heap.size W W') : W'.rangeAt b o cs := fun j v hv => cell_later hb (h j v hv)
theorem rangeAt_new (W : World) (cs : Array Value) (t : TypeId) : (W.alloc (.cells cs t)).rangeAt W.heap.size 0 cs.toList := by
  intro j v hv
  rw [World.cell?_alloc_new]
  simpa using hv

theorem chain {w p q : World} (h1 : Below w.heap.size w p) (h2 : Below p.heap.size p q) : Below w.heap.size w q := h1.trans (h2.mono h1.size)
theorem atoms_one (k a b c : Int) (w : World) : AtomsAt (w.alloc (.cells #[.int .u8 k, .int .i64 a, .int .i64 b, .int .i64 c] 70)) w.heap.size 0 1 (fun _ => k) (fun _ => a) (fun _ => b) (fun _ => c) := by
  constructor <;> intro i hi <;> obtain rfl : i = 0 := by omega
  all_goals simp [go_sem]
theorem of_one (a b c : Int) (w : World) :
    Calls Try.prog 41 #[.slice (some ⟨w.heap.size, 0, none⟩) 1 1, .int .i64 1] (w.alloc (.cells #[.int .u8 2, .int .i64 a, .int .i64 b, .int .i64 c] 70)) fun e w' => e = .returned (.tuple #[.agg #[.int .i64 a, .int .i64 b, .int .i64 c], .int .i64 0]) ∧ Below (w.alloc (.cells #[.int .u8 2, .int .i64 a, .int .i64 b, .int .i64 c] 70)).heap.size (w.alloc (.cells #[.int .u8 2, .int .i64 a, .int .i64 b, .int .i64 c] 70)) w' :=
  of_pos w.heap.size 0 1 1 0 (fun _ => 2) (fun _ => a) (fun _ => b) (fun _ => c) _ (atoms_one 2 a b c w) (by omega) (by omega) rfl
theorem of_mone (a b c : Int) (w : World) (c0 : -4611686018427387904 ≤ c) (c1 : c ≤ 4611686018427387904) :
    Calls Try.prog 41 #[.slice (some ⟨w.heap.size, 0, none⟩) 1 1, .int .i64 (-1)] (w.alloc (.cells #[.int .u8 2, .int .i64 a, .int .i64 b, .int .i64 c] 70)) fun e w' => e = .returned (.tuple #[.agg #[.int .i64 b, .int .i64 a, .int .i64 (-c - 1)], .int .i64 0]) ∧ Below (w.alloc (.cells #[.int .u8 2, .int .i64 a, .int .i64 b, .int .i64 c] 70)).heap.size (w.alloc (.cells #[.int .u8 2, .int .i64 a, .int .i64 b, .int .i64 c] 70)) w' :=
  of_neg w.heap.size 0 1 1 0 (fun _ => 2) (fun _ => a) (fun _ => b) (fun _ => c) _ (atoms_one 2 a b c w) (by omega) (by omega) rfl (by omega) (by omega)

set_option maxRecDepth 100000 in
set_option maxHeartbeats 2000000 in
theorem turned_out (k a b c : Int) (p : Option Addr) (m cp : Nat) (w : World) (hm : m ≤ 9223372036854775807) (HKN : ∀ W, Calls Try.prog 40 #[] W fun e w' => e = .returned (.bool true) ∧ Below W.heap.size W w')
    (h : k ≠ 2 ∨ a < 0 ∨ (m : Int) ≤ a ∨ b < 0 ∨ (m : Int) ≤ b ∨ 4611686018427387904 < c ∨ c < -4611686018427387904) :
    Calls Try.prog 14 #[.agg #[.int .u8 k, .int .i64 a, .int .i64 b, .int .i64 c], .slice p m cp] w fun e w' => e = .returned (.bool true) ∧ Below w.heap.size w w' := by
  have hB := below1 w (.cells #[.int .u8 k, .int .i64 a, .int .i64 b, .int .i64 c] 70)
  have key : (k ≠ 2) ∨ (k = 2 ∧ a < 0) ∨ (k = 2 ∧ 0 ≤ a ∧ (m : Int) ≤ a) ∨ (k = 2 ∧ 0 ≤ a ∧ a < m ∧ b < 0) ∨ (k = 2 ∧ 0 ≤ a ∧ a < m ∧ 0 ≤ b ∧ (m : Int) ≤ b) ∨ (k = 2 ∧ 0 ≤ a ∧ a < m ∧ 0 ≤ b ∧ b < m ∧ 4611686018427387904 < c) ∨ (k = 2 ∧ 0 ≤ a ∧ a < m ∧ 0 ≤ b ∧ b < m ∧ c ≤ 4611686018427387904 ∧ c < -4611686018427387904) := by omega
  clear h
  rcases key with h | ⟨rfl, h⟩ | ⟨rfl, h, h2⟩ | ⟨rfl, h, h2, h3⟩ | ⟨rfl, h, h2, h3, h4⟩ | ⟨rfl, h, h2, h3, h4, h5⟩ | ⟨rfl, h, h2, h3, h4, h5, h6⟩
  · have g : (k == 2) = false := by rw [beq_eq_false_iff_ne]; exact h
    have g2 : (k != 2) = true := by simp [h]
    clear h
    go_enter Try.func14, Try.ntmps14
    go_wp2_with fail
    refine (HKN _).mono ?_
    rintro e w1 ⟨rfl, hb⟩
    go_wp2_with fail
    go_ret
    exact ⟨rfl, hB.trans (hb.mono hB.size)⟩
  all_goals
    go_enter Try.func14, Try.ntmps14
    go_wp2_with fail
    refine (HKN _).mono ?_
    rintro e w1 ⟨rfl, hb⟩
    go_wp2_with fail
    go_ret
    exact ⟨rfl, hB.trans (hb.mono hB.size)⟩

end Go.Proofs.Ytiadnifbjdnflaa
