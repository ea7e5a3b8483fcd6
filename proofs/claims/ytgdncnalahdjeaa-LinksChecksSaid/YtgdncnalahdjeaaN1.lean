/- The reference's checker: what a literal says, which numbers are vertices. -/
import Derived.Test.YtgdncnalahdjeaaL4
import Derived.Deep.RegionHeld3
namespace Go.Proofs.Ytgdncnalahdjeaa
open Go Go.RowKit

set_option maxRecDepth 100000 in
set_option maxHeartbeats 800000 in
theorem within_any (n : Nat) (i : Int) (w : World) : Calls Try.prog 63 #[.int .i64 i, .int .i64 n] w fun e w' => e = .returned (.bool (isV n i)) ∧ w' = w := by
  have key : i < 0 ∨ (0 ≤ i ∧ (n : Int) ≤ i) ∨ (0 ≤ i ∧ i < (n : Int)) := by omega
  rcases key with h | ⟨h, h'⟩ | ⟨h, h'⟩
  · have hv : isV n i = false := by unfold isV; rw [decide_eq_false (by omega)]; rfl
    rw [hv]
    clear hv
    go_enter Try.func63, Try.ntmps63
    go_wp2
    go_ret
    exact ⟨rfl, rfl⟩
  · have hv : isV n i = false := by unfold isV; rw [decide_eq_true h, decide_eq_false (show ¬ i < (n : Int) by omega)]; rfl
    rw [hv]
    clear hv
    have q := decide_eq_false (show ¬ i < (n : Int) by omega)
    go_enter Try.func63, Try.ntmps63
    go_wp2
    go_ret
    exact ⟨by first | rfl | (simp; omega), rfl⟩
  · have hv : isV n i = true := by unfold isV; rw [decide_eq_true h, decide_eq_true h']; rfl
    rw [hv]
    clear hv
    have q := decide_eq_true h'
    go_enter Try.func63, Try.ntmps63
    go_wp2
    go_ret
    exact ⟨by first | rfl | (simp; omega), rfl⟩
theorem toldL_out {m : Nat} {a : AD} {l : Int} (h : l = 0 ∨ (m : Int) < max l (-l)) : toldL m a l = ((0, 0), false) := by
  have : okL m l = false := by
    unfold okL absI
    rcases h with h | h
    · subst h; rfl
    · rw [decide_eq_false (show ¬ max l (-l) ≤ (m : Int) by omega)]; simp
  unfold toldL; rw [this]; rfl
theorem toldL_in {m : Nat} {a : AD} {l : Int} (hm : m ≤ 1000000) (h0 : l ≠ 0) (h : max l (-l) ≤ (m : Int)) : toldL m a l = (if a.K (l.natAbs - 1) = 1 then ((a.A (l.natAbs - 1), a.B (l.natAbs - 1)), decide (0 < l)) else if a.K (l.natAbs - 1) = 3 then (if 0 < l then ((a.A (l.natAbs - 1), 0), true) else ((a.A (l.natAbs - 1), 1), true)) else ((0, 0), false)) := by
  have : okL m l = true := by
    unfold okL absI; rw [decide_eq_true (show -1048576 ≤ l by omega), decide_eq_true (show l ≤ 1048576 by omega), decide_eq_true h]; simp [h0]
  unfold toldL; rw [this]; rfl
set_option maxRecDepth 100000 in
set_option maxHeartbeats 1600000 in
theorem refTold_out (q : Option Addr) (m ca : Nat) (a : AD) (l : Int) (w : World) (_hm : m ≤ 1000000) (l0 : -9223372036854775808 ≤ l) (l1 : l ≤ 9223372036854775807) (h : l = 0 ∨ (m : Int) < max l (-l)) :
    Calls Try.prog 62 #[.slice q m ca, .int .i64 l] w fun e w' => e = .returned (.tuple #[.int .i64 (toldL m a l).1.1, .int .i64 (toldL m a l).1.2, .bool (toldL m a l).2]) ∧ Below w.heap.size w w' := by
  rw [toldL_out h]
  have key : l = 0 ∨ l = -9223372036854775808 ∨ (0 < l ∧ (m : Int) < l) ∨ (l < 0 ∧ -9223372036854775808 < l ∧ (m : Int) < -l) := by omega
  rcases key with k | k | ⟨k, k2⟩ | ⟨k, k2, k3⟩
  · subst k
    clear h
    have qw : wrap64 9223372036854775808 = -9223372036854775808 := by rw [wrap64_eq]; omega
    go_enter Try.func62, Try.ntmps62
    go_wp2
    exact bodyPost_ret (v := .tuple #[.int .i64 0, .int .i64 0, .bool false]) (by simp [results, Try.results62, go_sem]) rfl ⟨rfl, Below.refl _ _⟩
  · subst k
    clear h
    have qw : wrap64 9223372036854775808 = -9223372036854775808 := by rw [wrap64_eq]; omega
    go_enter Try.func62, Try.ntmps62
    go_wp2
    exact bodyPost_ret (v := .tuple #[.int .i64 0, .int .i64 0, .bool false]) (by simp [results, Try.results62, go_sem]) rfl ⟨rfl, Below.refl _ _⟩
  · clear h
    have q1 := decide_eq_true k2
    go_enter Try.func62, Try.ntmps62
    go_wp2
    exact bodyPost_ret (v := .tuple #[.int .i64 0, .int .i64 0, .bool false]) (by simp [results, Try.results62, go_sem]) rfl ⟨rfl, Below.refl _ _⟩
  · clear h
    have q1 := decide_eq_true k3
    go_enter Try.func62, Try.ntmps62
    go_wp2
    exact bodyPost_ret (v := .tuple #[.int .i64 0, .int .i64 0, .bool false]) (by simp [results, Try.results62, go_sem]) rfl ⟨rfl, Below.refl _ _⟩
set_option maxRecDepth 100000 in
set_option maxHeartbeats 1600000 in
theorem refTold_pos (q : Option Addr) (m ca : Nat) (a : AD) (l : Int) (w : World) (ha : AtomsIn w q m a) (hm : m ≤ 1000000) (h0 : 0 < l) (h1 : l ≤ (m : Int)) :
    Calls Try.prog 62 #[.slice q m ca, .int .i64 l] w fun e w' => e = .returned (.tuple #[.int .i64 (toldL m a l).1.1, .int .i64 (toldL m a l).1.2, .bool (toldL m a l).2]) ∧ Below w.heap.size w w' := by
  have ht := toldL_in (a := a) hm (show l ≠ 0 by omega) (show max l (-l) ≤ (m : Int) by omega)
  obtain ⟨b, off, rfl, hat⟩ := ha (by omega)
  have hk : l.natAbs - 1 < m := by omega
  have x0 := hat.k _ hk
  have x1 := hat.a _ hk
  have x2 := hat.bb _ hk
  have x3 := hat.c _ hk
  have e : l - 1 = ((l.natAbs - 1 : Nat) : Int) := by omega
  generalize toldL m a l = t at *
  generalize l.natAbs - 1 = k at *
  have k0 : (0 : Int) ≤ (k : Int) := by omega
  have k1 : (k : Int) < (m : Int) := by omega
  have l2 : -1000000 ≤ l := by omega
  have l3 : l ≤ 1000000 := by omega
  have q1 := decide_eq_false (show ¬ (m : Int) < l by omega)
  clear hat ha
  generalize a.K k = K at *
  generalize a.A k = A at *
  generalize a.B k = B at *
  generalize a.C k = C at *
  have hB := below1 w (.cells #[.int .u8 K, .int .i64 A, .int .i64 B, .int .i64 C] 99)
  have key : K = 1 ∨ K = 3 ∨ (K ≠ 1 ∧ K ≠ 3) := by omega
  rcases key with k1 | k1 | ⟨k1, k2⟩
  · have hv : t = ((A, B), true) := by rw [ht, if_pos k1, decide_eq_true (by omega)]
    subst hv
    clear ht
    subst k1
    go_enter Try.func62, Try.ntmps62
    go_wp2_with fail
    go_region_held3 (fun w' => w'.cell? ⟨w.heap.size, 1, none⟩ = some (.int .i64 A) ∧ w'.cell? ⟨w.heap.size, 2, none⟩ = some (.int .i64 B)) (go_keep) (fail)
    all_goals go_wp2_with fail
    refine bodyPost_ret (v := .tuple #[.int .i64 A, .int .i64 B, .bool true]) (by simp [results, Try.results62, go_sem] <;> omega) rfl ⟨rfl, ?_⟩
    first | exact hB | exact hB.drew | exact hB.setCell (by simp) _
  · have hv : t = ((A, 0), true) := by rw [ht, if_neg (by omega), if_pos k1, if_pos (by omega)]
    subst hv
    clear ht
    subst k1
    go_enter Try.func62, Try.ntmps62
    go_wp2_with fail
    refine bodyPost_ret (v := .tuple #[.int .i64 A, .int .i64 0, .bool true]) (by simp [results, Try.results62, go_sem]) rfl ⟨rfl, ?_⟩
    first | exact hB | exact hB.drew | exact hB.setCell (by simp) _
  · have hv : t = ((0, 0), false) := by rw [ht, if_neg k1, if_neg k2]
    subst hv
    clear ht
    have q2 : (K == 1) = false := by simpa using k1
    have q3 : (K == 3) = false := by simpa using k2
    have q4 : (K != 3) = true := by simpa using k2
    clear k1 k2
    go_enter Try.func62, Try.ntmps62
    go_wp2_with fail
    refine bodyPost_ret (v := .tuple #[.int .i64 0, .int .i64 0, .bool false]) (by simp [results, Try.results62, go_sem]) rfl ⟨rfl, ?_⟩
    first | exact hB | exact hB.drew | exact hB.setCell (by simp) _
set_option maxRecDepth 100000 in
set_option maxHeartbeats 1600000 in
theorem refTold_neg (q : Option Addr) (m ca : Nat) (a : AD) (l : Int) (w : World) (ha : AtomsIn w q m a) (hm : m ≤ 1000000) (h0 : l < 0) (h1 : -l ≤ (m : Int)) :
    Calls Try.prog 62 #[.slice q m ca, .int .i64 l] w fun e w' => e = .returned (.tuple #[.int .i64 (toldL m a l).1.1, .int .i64 (toldL m a l).1.2, .bool (toldL m a l).2]) ∧ Below w.heap.size w w' := by
  have ht := toldL_in (a := a) hm (show l ≠ 0 by omega) (show max l (-l) ≤ (m : Int) by omega)
  obtain ⟨b, off, rfl, hat⟩ := ha (by omega)
  have hk : l.natAbs - 1 < m := by omega
  have x0 := hat.k _ hk
  have x1 := hat.a _ hk
  have x2 := hat.bb _ hk
  have x3 := hat.c _ hk
  have e : -l - 1 = ((l.natAbs - 1 : Nat) : Int) := by omega
  generalize toldL m a l = t at *
  generalize l.natAbs - 1 = k at *
  have k0 : (0 : Int) ≤ (k : Int) := by omega
  have k1 : (k : Int) < (m : Int) := by omega
  have l2 : -1000000 ≤ l := by omega
  have l3 : l ≤ 1000000 := by omega
  have q1 := decide_eq_false (show ¬ (m : Int) < -l by omega)
  clear hat ha
  generalize a.K k = K at *
  generalize a.A k = A at *
  generalize a.B k = B at *
  generalize a.C k = C at *
  have hB := below1 w (.cells #[.int .u8 K, .int .i64 A, .int .i64 B, .int .i64 C] 99)
  have key : K = 1 ∨ K = 3 ∨ (K ≠ 1 ∧ K ≠ 3) := by omega
  rcases key with k1 | k1 | ⟨k1, k2⟩
  · have hv : t = ((A, B), false) := by rw [ht, if_pos k1, decide_eq_false (by omega)]
    subst hv
    clear ht
    subst k1
    go_enter Try.func62, Try.ntmps62
    go_wp2_with fail
    go_region_held3 (fun w' => w'.cell? ⟨w.heap.size, 1, none⟩ = some (.int .i64 A) ∧ w'.cell? ⟨w.heap.size, 2, none⟩ = some (.int .i64 B)) (go_keep) (fail)
    all_goals go_wp2_with fail
    refine bodyPost_ret (v := .tuple #[.int .i64 A, .int .i64 B, .bool false]) (by simp [results, Try.results62, go_sem] <;> omega) rfl ⟨rfl, ?_⟩
    first | exact hB | exact hB.drew | exact hB.setCell (by simp) _
  · have hv : t = ((A, 1), true) := by rw [ht, if_neg (by omega), if_pos k1, if_neg (by omega)]
    subst hv
    clear ht
    subst k1
    go_enter Try.func62, Try.ntmps62
    go_wp2_with fail
    refine bodyPost_ret (v := .tuple #[.int .i64 A, .int .i64 1, .bool true]) (by simp [results, Try.results62, go_sem]) rfl ⟨rfl, ?_⟩
    first | exact hB | exact hB.drew | exact hB.setCell (by simp) _
  · have hv : t = ((0, 0), false) := by rw [ht, if_neg k1, if_neg k2]
    subst hv
    clear ht
    have q2 : (K == 1) = false := by simpa using k1
    have q3 : (K == 3) = false := by simpa using k2
    have q4 : (K != 3) = true := by simpa using k2
    clear k1 k2
    go_enter Try.func62, Try.ntmps62
    go_wp2_with fail
    refine bodyPost_ret (v := .tuple #[.int .i64 0, .int .i64 0, .bool false]) (by simp [results, Try.results62, go_sem]) rfl ⟨rfl, ?_⟩
    first | exact hB | exact hB.drew | exact hB.setCell (by simp) _
theorem refTold_any (q : Option Addr) (m ca : Nat) (a : AD) (l : Int) (w : World) (ha : AtomsIn w q m a) (hm : m ≤ 1000000) (l0 : -9223372036854775808 ≤ l) (l1 : l ≤ 9223372036854775807) :
    Calls Try.prog 62 #[.slice q m ca, .int .i64 l] w fun e w' => e = .returned (.tuple #[.int .i64 (toldL m a l).1.1, .int .i64 (toldL m a l).1.2, .bool (toldL m a l).2]) ∧ Below w.heap.size w w' := by
  by_cases h : l = 0 ∨ (m : Int) < max l (-l)
  · exact refTold_out q m ca a l w hm l0 l1 h
  · by_cases h0 : 0 < l
    · exact refTold_pos q m ca a l w ha hm h0 (by omega)
    · exact refTold_neg q m ca a l w ha hm (by omega) (by omega)
end Go.Proofs.Ytgdncnalahdjeaa
