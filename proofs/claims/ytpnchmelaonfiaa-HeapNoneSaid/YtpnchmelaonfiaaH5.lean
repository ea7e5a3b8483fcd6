/- A heap: New. -/
import Derived.Test.YtpnchmelaonfiaaH2
import Derived.Laws.MakeOwn
namespace Go.Proofs.Ytpnchmelaonfiaa
open Go Go.RowKit

theorem info2 : ∃ i0, Try.prog.info? 2 = some i0 ∧ i0.zero = some (.int .i64 0) ∧ i0.size = 1 ∧ i0.bytes = 8 := info_of (by kernel_rfl)
/-- noughts. -/
def zeros (N : Nat) : Array Value := madeCells #[.int .i64 0] N
theorem zeros_get (N i : Nat) (h : i < N) : (zeros N)[i]? = some (.int .i64 0) := by
  simp [zeros, madeCells, h, Nat.mod_one]
theorem make29 (N : Nat) (hN : N ≤ 1048576) (W : World) : (Instr.makeSlice 29 (.int .i64 (N : Int)) (.int .i64 (N : Int))).run Try.prog W = .ok (.slice (some ⟨W.heap.size, 0, none⟩) N N) (W.alloc (.cells (zeros N) 2)) := by
  obtain ⟨i0, hi, hz0, hz1, hz2⟩ := info2
  have h := run_make (P := Try.prog) W 29 2 i0 _ Try.underlying29 hi hz0 .i64 .i64 (N : Int) (N : Int) (by omega) (by omega) (by rw [hz2]; omega) (by omega)
  rw [hz1, show (Value.int .i64 0).cells = #[.int .i64 0] from rfl, Nat.mul_one, Int.toNat_natCast] at h
  exact h
theorem make46 (N : Nat) (hN : N ≤ 1048576) (W : World) : (Instr.makeSlice 46 (.int .i64 (N : Int)) (.int .i64 (N : Int))).run Try.prog W = .ok (.slice (some ⟨W.heap.size, 0, none⟩) N N) (W.alloc (.cells (zeros N) 3)) := by
  obtain ⟨i0, hi, hz0, hz1, hz2⟩ := info3
  have h := run_make (P := Try.prog) W 46 3 i0 _ Try.underlying46 hi hz0 .i64 .i64 (N : Int) (N : Int) (by omega) (by omega) (by rw [hz2]; omega) (by omega)
  rw [hz1, show (Value.int .i64 0).cells = #[.int .i64 0] from rfl, Nat.mul_one, Int.toNat_natCast] at h
  exact h
theorem heap_new (W : World) (ZS : Array Value) (N : Nat) (hz : ∀ i, i < N → ZS[i]? = some (.int .i64 0)) (t1 t2 : TypeId) (x y : Nat) (hxy : (x = W.heap.size ∧ y = W.heap.size + 1) ∨ (x = W.heap.size + 1 ∧ y = W.heap.size)) (D : World) (hD : D = (((W.alloc (.cells ZS t1)).alloc (.cells ZS t2)).alloc (.cells #[.slice (some ⟨x, 0, none⟩) N N, .slice (some ⟨y, 0, none⟩) N N, .slice none 0 0] 60)).drew) :
    HeapAt D (W.heap.size + 1 + 1) x y D.heap.size N none 0 (fun _ => 0) (fun _ => 0) (fun _ => 0) := by
  have hs : D.heap.size = W.heap.size + 1 + 1 + 1 := by subst hD; simp [go_sem]
  have c1 : ∀ i, i < N → D.cell? ⟨W.heap.size, i, none⟩ = some (.int .i64 0) ∧ D.frozen? ⟨W.heap.size, i, none⟩ = false := fun i hi => by
    subst hD
    have := hz i hi
    constructor <;> simp [go_sem, this]
  have c2 : ∀ i, i < N → D.cell? ⟨W.heap.size + 1, i, none⟩ = some (.int .i64 0) ∧ D.frozen? ⟨W.heap.size + 1, i, none⟩ = false := fun i hi => by
    subst hD
    have := hz i hi
    constructor <;> simp [go_sem, this]
  have f : ∀ o, D.frozen? ⟨W.heap.size + 1 + 1, o, none⟩ = false := fun o => by subst hD; simp [go_sem]
  have a0 : D.cell? ⟨W.heap.size + 1 + 1, 0, none⟩ = some (.slice (some ⟨x, 0, none⟩) N N) := by subst hD; simp [go_sem]
  have a1 : D.cell? ⟨W.heap.size + 1 + 1, 1, none⟩ = some (.slice (some ⟨y, 0, none⟩) N N) := by subst hD; simp [go_sem]
  have a2 : D.cell? ⟨W.heap.size + 1 + 1, 2, none⟩ = some (.slice none 0 0) := by subst hD; simp [go_sem]
  clear hD
  rcases hxy with ⟨rfl, rfl⟩ | ⟨rfl, rfl⟩
  · exact ⟨⟨N, a0⟩, ⟨N, a1⟩, ⟨none, 0, a2, rfl, rfl, .inl ⟨rfl, rfl⟩⟩, c1, c2, f, by omega, by omega, by omega, by omega, by omega, by omega, Nat.le_refl _⟩
  · exact ⟨⟨N, a0⟩, ⟨N, a1⟩, ⟨none, 0, a2, rfl, rfl, .inl ⟨rfl, rfl⟩⟩, c2, c1, f, by omega, by omega, by omega, by omega, by omega, by omega, Nat.le_refl _⟩
set_option maxRecDepth 100000 in
set_option maxHeartbeats 1000000 in
theorem new_at (N : Nat) (hN : N ≤ 1048576) (W : World) :
    Calls Try.prog 10 #[.int .i64 N] W fun e w' => (∃ a bw bp, e = .returned (.pointer (some ⟨a, 0, none⟩)) ∧ W.heap.size ≤ a ∧ W.heap.size ≤ bw ∧ W.heap.size ≤ bp ∧ HeapAt w' a bw bp w'.heap.size N none 0 (fun _ => 0) (fun _ => 0) (fun _ => 0)) ∧ Below W.heap.size W w' := by
  have n0 : (0 : Int) ≤ (N : Int) := by omega
  have n1 : (N : Int) ≤ 1048576 := by omega
  have e1 : max (N : Int) 0 = N := by omega
  have e2 : min (N : Int) 1048576 = N := by omega
  have m29 := fun W => make29 N hN W
  have m46 := fun W => make46 N hN W
  have HZ := Lib.hid (fun i h => zeros_get N i h)
  generalize zeros N = ZS at *
  go_enter Try.func10, Try.ntmps10
  go_wp2_with fail
  go_region_held3 (fun _ => True) (first | trivial) (first | fail)
  all_goals go_wp2_with fail
  · go_ret
    exact ⟨⟨_, _, _, rfl, by omega, Nat.le_refl _, Nat.le_succ _, heap_new W ZS N HZ.out 2 3 _ _ (.inl ⟨rfl, rfl⟩) _ rfl⟩, ((((Below.refl _ _).alloc (Nat.le_refl _) _).alloc (by simp) _).alloc (by simp; omega) _).drew⟩
  · go_ret
    exact ⟨⟨_, _, _, rfl, by omega, Nat.le_succ _, Nat.le_refl _, heap_new W ZS N HZ.out 3 2 _ _ (.inr ⟨rfl, rfl⟩) _ rfl⟩, ((((Below.refl _ _).alloc (Nat.le_refl _) _).alloc (by simp) _).alloc (by simp; omega) _).drew⟩
end Go.Proofs.Ytpnchmelaonfiaa
