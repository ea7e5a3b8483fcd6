/- The checker: what a literal says. -/
import Derived.Test.YtgdncnalahdjeaaL3
namespace Go.Proofs.Ytgdncnalahdjeaa
open Go Go.RowKit

theorem below_alloc_set2 {B : Nat} {w w1 : World} (h : Below B w w1) (hz : B ≤ w1.heap.size) (o : Obj) (a1 a2 : Addr) (v1 v2 : Value) (h1 : B ≤ a1.block) (h2 : B ≤ a2.block) : Below B w (((w1.setCell a1 v1).setCell a2 v2).alloc o) :=
  ((h.setCell h1 v1).setCell h2 v2).alloc (by rw [World.size_setCell, World.size_setCell]; exact hz) o
/-- what a literal says of vertices. -/
def toldL (m : Nat) (a : AD) (l : Int) : (Int × Int) × Bool :=
  if okL m l then
    if a.K (l.natAbs - 1) = 1 then ((a.A (l.natAbs - 1), a.B (l.natAbs - 1)), decide (0 < l))
    else if a.K (l.natAbs - 1) = 3 then (if 0 < l then ((a.A (l.natAbs - 1), 0), true) else ((a.A (l.natAbs - 1), 1), true))
    else ((0, 0), false)
  else ((0, 0), false)
set_option maxRecDepth 100000 in
set_option maxHeartbeats 1600000 in
theorem given_any (c : Nat) (T M : Option Nat) (p : Option Addr) (n cv : Nat) (q : Option Addr) (m ca : Nat) (a : AD) (ts : List (Int × Int)) (ls : List Int) (l : Int) (w : World) (h : CheckerAt w c T M p n cv q m ca ts ls) (ha : AtomsIn w q m a) (hm : m ≤ 1000000) (l0 : -9223372036854775808 ≤ l) (l1 : l ≤ 9223372036854775807) :
    Calls Try.prog 104 #[.pointer (some ⟨c, 0, none⟩), .int .i64 l] w fun e w' => e = .returned (.tuple #[.agg #[.int .i64 (toldL m a l).1.1, .int .i64 (toldL m a l).1.2], .bool (toldL m a l).2]) ∧ Below w.heap.size w w' := by
  have hB := below1 w (.cells #[.int .i64 0, .int .i64 0] 113)
  have H1 := atom83_any c T M p n cv q m ca a ts ls l _ (h.later hB) (ha.later hB) hm l0 l1
  clear h ha
  have HB := Lib.hid hB
  clear hB
  cases hok : okL m l with
  | false =>
    have ht : toldL m a l = ((0, 0), false) := by unfold toldL; rw [hok]; rfl
    rw [ht]
    rw [hok] at H1
    simp only [Bool.false_eq_true, if_false] at H1
    unfold atom0 at H1
    clear ht hok
    go_enter Try.func104, Try.ntmps104
    go_wp2_with fail
    refine H1.mono ?_
    rintro e w1 ⟨rfl, hb⟩
    have x0 : w1.cell? ⟨w.heap.size, 0, none⟩ = some (.int .i64 0) := cell_later hb (by simp [go_sem])
    have x1 : w1.cell? ⟨w.heap.size, 1, none⟩ = some (.int .i64 0) := cell_later hb (by simp [go_sem])
    have hf : ∀ o, w1.frozen? ⟨w.heap.size, o, none⟩ = false := fun o => by rw [hb.frozen (by simp)]; simp [go_sem]
    have hf0 := hf 0
    have hf1 := hf 1
    have hz : w.heap.size < w1.heap.size := by have := hb.size; simp at this; omega
    have HB1 := Lib.hid (chain HB.out hb)
    clear hf hb H1
    go_wp2_with fail
    refine bodyPost_ret (v := .tuple #[.agg #[.int .i64 0, .int .i64 0], .bool false]) (by simp [results, Try.results104, go_sem, x0, x1, hz]) rfl ⟨rfl, ?_⟩
    refine below_alloc_set2 HB1.out HB1.out.size _ _ _ _ _ ?_ ?_ <;> exact Nat.le_refl _
  | true =>
    rw [hok] at H1
    simp only [if_true] at H1
    unfold atomV at H1
    have ht : toldL m a l = (if a.K (l.natAbs - 1) = 1 then ((a.A (l.natAbs - 1), a.B (l.natAbs - 1)), decide (0 < l)) else if a.K (l.natAbs - 1) = 3 then (if 0 < l then ((a.A (l.natAbs - 1), 0), true) else ((a.A (l.natAbs - 1), 1), true)) else ((0, 0), false)) := by unfold toldL; rw [hok]; rfl
    clear hok
    generalize a.K (l.natAbs - 1) = K at *
    generalize a.A (l.natAbs - 1) = A at *
    generalize a.B (l.natAbs - 1) = B at *
    generalize a.C (l.natAbs - 1) = C at *
    generalize toldL m a l = t at *
    have key : (K = 1 ∧ 0 < l) ∨ (K = 1 ∧ ¬ 0 < l) ∨ (K ≠ 1 ∧ K = 3 ∧ 0 < l) ∨ (K ≠ 1 ∧ K = 3 ∧ ¬ 0 < l) ∨ (K ≠ 1 ∧ K ≠ 3) := by omega
    rcases key with ⟨k1, k2⟩ | ⟨k1, k2⟩ | ⟨k1, k2, k3⟩ | ⟨k1, k2, k3⟩ | ⟨k1, k2⟩
    · have hv : t = ((A, B), true) := by rw [ht, if_pos k1, decide_eq_true k2]
      subst hv
      clear ht
      subst k1
      go_enter Try.func104, Try.ntmps104
      go_wp2_with fail
      refine H1.mono ?_
      rintro e w1 ⟨rfl, hb⟩
      have x0 : w1.cell? ⟨w.heap.size, 0, none⟩ = some (.int .i64 0) := cell_later hb (by simp [go_sem])
      have x1 : w1.cell? ⟨w.heap.size, 1, none⟩ = some (.int .i64 0) := cell_later hb (by simp [go_sem])
      have hf : ∀ o, w1.frozen? ⟨w.heap.size, o, none⟩ = false := fun o => by rw [hb.frozen (by simp)]; simp [go_sem]
      have hf0 := hf 0
      have hf1 := hf 1
      have hz : w.heap.size < w1.heap.size := by have := hb.size; simp at this; omega
      have HB1 := Lib.hid (chain HB.out hb)
      clear hf hb H1
      go_wp2_with fail
      refine bodyPost_ret (v := .tuple #[.agg #[.int .i64 A, .int .i64 B], .bool true]) (by simp [results, Try.results104, go_sem, x0, x1, hz]) rfl ⟨rfl, ?_⟩
      refine below_alloc_set2 HB1.out HB1.out.size _ _ _ _ _ ?_ ?_ <;> exact Nat.le_refl _
    · have hv : t = ((A, B), false) := by rw [ht, if_pos k1, decide_eq_false k2]
      subst hv
      clear ht
      subst k1
      have k3 : l ≤ 0 := by omega
      have k4 := decide_eq_false k2
      clear k2
      go_enter Try.func104, Try.ntmps104
      go_wp2_with fail
      refine H1.mono ?_
      rintro e w1 ⟨rfl, hb⟩
      have x0 : w1.cell? ⟨w.heap.size, 0, none⟩ = some (.int .i64 0) := cell_later hb (by simp [go_sem])
      have x1 : w1.cell? ⟨w.heap.size, 1, none⟩ = some (.int .i64 0) := cell_later hb (by simp [go_sem])
      have hf : ∀ o, w1.frozen? ⟨w.heap.size, o, none⟩ = false := fun o => by rw [hb.frozen (by simp)]; simp [go_sem]
      have hf0 := hf 0
      have hf1 := hf 1
      have hz : w.heap.size < w1.heap.size := by have := hb.size; simp at this; omega
      have HB1 := Lib.hid (chain HB.out hb)
      clear hf hb H1
      go_wp2_with fail
      refine bodyPost_ret (v := .tuple #[.agg #[.int .i64 A, .int .i64 B], .bool false]) (by simp [results, Try.results104, go_sem, x0, x1, hz]) rfl ⟨rfl, ?_⟩
      refine below_alloc_set2 HB1.out HB1.out.size _ _ _ _ _ ?_ ?_ <;> exact Nat.le_refl _
    · have hv : t = ((A, 0), true) := by rw [ht, if_neg k1, if_pos k2, if_pos k3]
      subst hv
      clear ht
      subst k2
      clear k1
      go_enter Try.func104, Try.ntmps104
      go_wp2_with fail
      refine H1.mono ?_
      rintro e w1 ⟨rfl, hb⟩
      have x0 : w1.cell? ⟨w.heap.size, 0, none⟩ = some (.int .i64 0) := cell_later hb (by simp [go_sem])
      have x1 : w1.cell? ⟨w.heap.size, 1, none⟩ = some (.int .i64 0) := cell_later hb (by simp [go_sem])
      have hf : ∀ o, w1.frozen? ⟨w.heap.size, o, none⟩ = false := fun o => by rw [hb.frozen (by simp)]; simp [go_sem]
      have hf0 := hf 0
      have hf1 := hf 1
      have hz : w.heap.size < w1.heap.size := by have := hb.size; simp at this; omega
      have HB1 := Lib.hid (chain HB.out hb)
      clear hf hb H1
      go_wp2_with fail
      refine bodyPost_ret (v := .tuple #[.agg #[.int .i64 A, .int .i64 0], .bool true]) (by simp [results, Try.results104, go_sem, x0, x1, hz]) rfl ⟨rfl, ?_⟩
      refine below_alloc_set2 HB1.out HB1.out.size _ _ _ _ _ ?_ ?_ <;> exact Nat.le_refl _
    · have hv : t = ((A, 1), true) := by rw [ht, if_neg k1, if_pos k2, if_neg k3]
      subst hv
      clear ht
      subst k2
      have k4 : l ≤ 0 := by omega
      clear k1 k3
      go_enter Try.func104, Try.ntmps104
      go_wp2_with fail
      refine H1.mono ?_
      rintro e w1 ⟨rfl, hb⟩
      have x0 : w1.cell? ⟨w.heap.size, 0, none⟩ = some (.int .i64 0) := cell_later hb (by simp [go_sem])
      have x1 : w1.cell? ⟨w.heap.size, 1, none⟩ = some (.int .i64 0) := cell_later hb (by simp [go_sem])
      have hf : ∀ o, w1.frozen? ⟨w.heap.size, o, none⟩ = false := fun o => by rw [hb.frozen (by simp)]; simp [go_sem]
      have hf0 := hf 0
      have hf1 := hf 1
      have hz : w.heap.size < w1.heap.size := by have := hb.size; simp at this; omega
      have HB1 := Lib.hid (chain HB.out hb)
      clear hf hb H1
      go_wp2_with fail
      refine bodyPost_ret (v := .tuple #[.agg #[.int .i64 A, .int .i64 1], .bool true]) (by simp [results, Try.results104, go_sem, x0, x1, hz]) rfl ⟨rfl, ?_⟩
      refine below_alloc_set2 HB1.out HB1.out.size _ _ _ _ _ ?_ ?_ <;> exact Nat.le_refl _
    · have hv : t = ((0, 0), false) := by rw [ht, if_neg k1, if_neg k2]
      subst hv
      clear ht
      have q1 : (K == 1) = false := by simpa using k1
      have q2 : (K == 3) = false := by simpa using k2
      clear k1 k2
      go_enter Try.func104, Try.ntmps104
      go_wp2_with fail
      refine H1.mono ?_
      rintro e w1 ⟨rfl, hb⟩
      have x0 : w1.cell? ⟨w.heap.size, 0, none⟩ = some (.int .i64 0) := cell_later hb (by simp [go_sem])
      have x1 : w1.cell? ⟨w.heap.size, 1, none⟩ = some (.int .i64 0) := cell_later hb (by simp [go_sem])
      have hf : ∀ o, w1.frozen? ⟨w.heap.size, o, none⟩ = false := fun o => by rw [hb.frozen (by simp)]; simp [go_sem]
      have hf0 := hf 0
      have hf1 := hf 1
      have hz : w.heap.size < w1.heap.size := by have := hb.size; simp at this; omega
      have HB1 := Lib.hid (chain HB.out hb)
      clear hf hb H1
      go_wp2_with fail
      refine bodyPost_ret (v := .tuple #[.agg #[.int .i64 0, .int .i64 0], .bool false]) (by simp [results, Try.results104, go_sem, x0, x1, hz]) rfl ⟨rfl, ?_⟩
      refine below_alloc_set2 HB1.out HB1.out.size _ _ _ _ _ ?_ ?_ <;> exact Nat.le_refl _
end Go.Proofs.Ytgdncnalahdjeaa
