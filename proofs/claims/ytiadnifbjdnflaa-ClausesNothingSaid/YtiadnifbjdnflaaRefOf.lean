/- juristref18.Of: the edge of a literal. -/
import Derived.Test.YtiadnifbjdnflaaOf
namespace Go.Proofs.Ytiadnifbjdnflaa
open Go Go.RowKit

set_option maxRecDepth 100000 in
set_option maxHeartbeats 1000000 in
theorem ref_pos (b off n c k : Nat) (K A B C : Nat → Int) (w : World) (hA : AtomsAt w b off n K A B C) (hk : k < n) (hn : n ≤ 1000000) (hK : K k = 2) :
    Calls Try.prog 42 #[.slice (some ⟨b, off, none⟩) n c, .int .i64 ((k : Int) + 1)] w fun e w' => e = .returned (.tuple #[.agg #[.int .i64 (A k), .int .i64 (B k), .int .i64 (C k)], .int .i64 0]) ∧ Below w.heap.size w w' := by
  have hB : Below w.heap.size w (w.alloc (.cells #[.int .i64 0, .int .i64 0, .int .i64 0] 56)) := (Below.refl _ _).alloc (Nat.le_refl _) _
  replace hA := hA.later hB
  have c0 := hA.k0 k hk
  have c1 := hA.k1 k hk
  have c2 := hA.k2 k hk
  have c3 := hA.k3 k hk
  rw [hK] at c0
  have hk0 : (0 : Int) ≤ (k : Int) := by omega
  have hk1 : (k : Int) < (n : Int) := by omega
  clear hA hK
  go_enter Try.func42, Try.ntmps42
  go_wp2
  refine bodyPost_ret (v := .tuple #[.agg #[.int .i64 (A k), .int .i64 (B k), .int .i64 (C k)], .int .i64 0]) (by simp [results, Try.results42, go_sem]) rfl ⟨rfl, below2 _ _ _⟩

set_option maxRecDepth 100000 in
set_option maxHeartbeats 1000000 in
theorem ref_neg (b off n c k : Nat) (K A B C : Nat → Int) (w : World) (hA : AtomsAt w b off n K A B C) (hk : k < n) (hn : n ≤ 1000000) (hK : K k = 2) (l0 : -9223372036854775808 ≤ C k) (l1 : C k ≤ 9223372036854775807) :
    Calls Try.prog 42 #[.slice (some ⟨b, off, none⟩) n c, .int .i64 (-((k : Int) + 1))] w fun e w' => e = .returned (.tuple #[.agg #[.int .i64 (B k), .int .i64 (A k), .int .i64 (-C k - 1)], .int .i64 0]) ∧ Below w.heap.size w w' := by
  have hB : Below w.heap.size w (w.alloc (.cells #[.int .i64 0, .int .i64 0, .int .i64 0] 56)) := (Below.refl _ _).alloc (Nat.le_refl _) _
  replace hA := hA.later hB
  have c0 := hA.k0 k hk
  have c1 := hA.k1 k hk
  have c2 := hA.k2 k hk
  have c3 := hA.k3 k hk
  rw [hK] at c0
  have hk0 : (0 : Int) ≤ (k : Int) := by omega
  have hk1 : (k : Int) < (n : Int) := by omega
  have hc : wrap64 (-1 - C k) = -C k - 1 := by rw [wrap64_eq]; omega
  clear hA hK
  go_enter Try.func42, Try.ntmps42
  go_wp2
  refine bodyPost_ret (v := .tuple #[.agg #[.int .i64 (B k), .int .i64 (A k), .int .i64 (-C k - 1)], .int .i64 0]) (by simp [results, Try.results42, go_sem]; omega) rfl ⟨rfl, below2 _ _ _⟩

set_option maxRecDepth 100000 in
set_option maxHeartbeats 1000000 in
theorem ref_out (p : Option Addr) (n c : Nat) (l : Int) (w : World) (hn : n ≤ 4611686018427387904) (l0 : -9223372036854775808 ≤ l) (l1 : l ≤ 9223372036854775807) (hl : l = 0 ∨ (n : Int) < l ∨ l < -(n : Int)) :
    Calls Try.prog 42 #[.slice p n c, .int .i64 l] w fun e w' => e = .returned (.tuple #[.agg #[.int .i64 0, .int .i64 0, .int .i64 0], .int .i64 2]) ∧ Below w.heap.size w w' := by
  rcases hl with rfl | hl | hl
  · go_enter Try.func42, Try.ntmps42
    go_wp2
    refine bodyPost_ret (v := .tuple #[.agg #[.int .i64 0, .int .i64 0, .int .i64 0], .int .i64 2]) (by simp [results, Try.results42, go_sem]) rfl ⟨rfl, below1 _ _⟩
  · go_enter Try.func42, Try.ntmps42
    go_wp2
    refine bodyPost_ret (v := .tuple #[.agg #[.int .i64 0, .int .i64 0, .int .i64 0], .int .i64 2]) (by simp [results, Try.results42, go_sem]) rfl ⟨rfl, below1 _ _⟩
  · by_cases hm : l = -9223372036854775808
    · subst hm
      have hw : wrap64 (-9223372036854775809) = 9223372036854775807 := by rw [wrap64_eq]; omega
      have hw2 : wrap64 9223372036854775808 = -9223372036854775808 := by rw [wrap64_eq]; omega
      go_enter Try.func42, Try.ntmps42
      go_wp2
      refine bodyPost_ret (v := .tuple #[.agg #[.int .i64 0, .int .i64 0, .int .i64 0], .int .i64 2]) (by simp [results, Try.results42, go_sem]) rfl ⟨rfl, below1 _ _⟩
    · go_enter Try.func42, Try.ntmps42
      go_wp2
      refine bodyPost_ret (v := .tuple #[.agg #[.int .i64 0, .int .i64 0, .int .i64 0], .int .i64 2]) (by simp [results, Try.results42, go_sem]) rfl ⟨rfl, below1 _ _⟩

set_option maxRecDepth 100000 in
set_option maxHeartbeats 1000000 in
theorem ref_kind (b off n c k : Nat) (l : Int) (K A B C : Nat → Int) (w : World) (hA : AtomsAt w b off n K A B C) (hk : k < n) (hn : n ≤ 4611686018427387904) (hK : K k ≠ 2) (hl : l = (k : Int) + 1 ∨ l = -((k : Int) + 1)) :
    Calls Try.prog 42 #[.slice (some ⟨b, off, none⟩) n c, .int .i64 l] w fun e w' => e = .returned (.tuple #[.agg #[.int .i64 0, .int .i64 0, .int .i64 0], .int .i64 2]) ∧ Below w.heap.size w w' := by
  have hB : Below w.heap.size w (w.alloc (.cells #[.int .i64 0, .int .i64 0, .int .i64 0] 56)) := (Below.refl _ _).alloc (Nat.le_refl _) _
  replace hA := hA.later hB
  have c0 := hA.k0 k hk
  have hK2 : (K k == 2) = false := by rw [beq_eq_false_iff_ne]; exact hK
  have hK3 : (K k != 2) = true := by simp [hK]
  generalize K k = kv at *
  have hk0 : (0 : Int) ≤ (k : Int) := by omega
  have hk1 : (k : Int) < (n : Int) := by omega
  clear hA
  rcases hl with rfl | rfl
  · go_enter Try.func42, Try.ntmps42
    go_wp2
    refine bodyPost_ret (v := .tuple #[.agg #[.int .i64 0, .int .i64 0, .int .i64 0], .int .i64 2]) (by simp [results, Try.results42, go_sem]) rfl ⟨rfl, below1 _ _⟩
  · go_enter Try.func42, Try.ntmps42
    go_wp2
    refine bodyPost_ret (v := .tuple #[.agg #[.int .i64 0, .int .i64 0, .int .i64 0], .int .i64 2]) (by simp [results, Try.results42, go_sem]) rfl ⟨rfl, below1 _ _⟩
end Go.Proofs.Ytiadnifbjdnflaa
