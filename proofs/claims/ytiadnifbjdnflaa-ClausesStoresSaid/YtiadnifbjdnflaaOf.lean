/- cycles.Of: the edge of a literal. -/
import Derived.Test.YtiadnifbjdnflaaProg
import Derived.WalkKit
import Derived.WalkSpells
import Derived.WalkLawsBesides
import Derived.Below
import Derived.Laws.Externs
import Derived.Outline
import Derived.Lib.Hide
namespace Go.Proofs.Ytiadnifbjdnflaa
open Go Go.RowKit

/-- atoms in memory: n of them, four cells each. -/
structure AtomsAt (w : World) (b off n : Nat) (K A B C : Nat → Int) : Prop where
  k0 : ∀ i, i < n → w.cell? ⟨b, off + i * 4, none⟩ = some (.int .u8 (K i))
  k1 : ∀ i, i < n → w.cell? ⟨b, off + i * 4 + 1, none⟩ = some (.int .i64 (A i))
  k2 : ∀ i, i < n → w.cell? ⟨b, off + i * 4 + 2, none⟩ = some (.int .i64 (B i))
  k3 : ∀ i, i < n → w.cell? ⟨b, off + i * 4 + 3, none⟩ = some (.int .i64 (C i))
theorem cell_later {W W' : World} (hb : Below W.heap.size W W') {a : Addr} {v : Value} (h : W.cell? a = some v) : W'.cell? a = some v := by
  rw [← h]
  exact hb.cell (World.block_lt_of_cell? W a h)
theorem AtomsAt.later {W W' : World} {b off n : Nat} {K A B C : Nat → Int} (h : AtomsAt W b off n K A B C) (hb : Below W.heap.size W W') : AtomsAt W' b off n K A B C :=
  ⟨fun i hi => cell_later hb (h.k0 i hi), fun i hi => cell_later hb (h.k1 i hi), fun i hi => cell_later hb (h.k2 i hi), fun i hi => cell_later hb (h.k3 i hi)⟩

theorem wrap64_eq (x : Int) : wrap64 x = (x + 9223372036854775808) % 18446744073709551616 - 9223372036854775808 := by
  simp only [wrap64]
theorem below2 (w : World) (o1 o2 : Obj) : Below w.heap.size w ((w.alloc o1).alloc o2) :=
  ((Below.refl _ _).alloc (Nat.le_refl _) _).alloc (by simp) _

set_option maxRecDepth 100000 in
set_option maxHeartbeats 1000000 in
theorem of_pos (b off n c k : Nat) (K A B C : Nat → Int) (w : World) (hA : AtomsAt w b off n K A B C) (hk : k < n) (hn : n ≤ 1000000) (hK : K k = 2) :
    Calls Try.prog 41 #[.slice (some ⟨b, off, none⟩) n c, .int .i64 ((k : Int) + 1)] w fun e w' => e = .returned (.tuple #[.agg #[.int .i64 (A k), .int .i64 (B k), .int .i64 (C k)], .int .i64 0]) ∧ Below w.heap.size w w' := by
  have hB : Below w.heap.size w (w.alloc (.cells #[.int .i64 0, .int .i64 0, .int .i64 0] 56)) := (Below.refl _ _).alloc (Nat.le_refl _) _
  replace hA := hA.later hB
  have c0 := hA.k0 k hk
  have c1 := hA.k1 k hk
  have c2 := hA.k2 k hk
  have c3 := hA.k3 k hk
  rw [hK] at c0
  have hk0 : (0 : Int) ≤ (k : Int) := by omega
  have hk1 : (k : Int) < (n : Int) := by omega
  clear hA hK
  go_enter Try.func41, Try.ntmps41
  go_wp2
  refine bodyPost_ret (v := .tuple #[.agg #[.int .i64 (A k), .int .i64 (B k), .int .i64 (C k)], .int .i64 0]) (by simp [results, Try.results41, go_sem]) rfl ⟨rfl, below2 _ _ _⟩

set_option maxRecDepth 100000 in
set_option maxHeartbeats 1000000 in
theorem of_neg (b off n c k : Nat) (K A B C : Nat → Int) (w : World) (hA : AtomsAt w b off n K A B C) (hk : k < n) (hn : n ≤ 1000000) (hK : K k = 2) (l0 : -9223372036854775808 ≤ C k) (l1 : C k ≤ 9223372036854775807) :
    Calls Try.prog 41 #[.slice (some ⟨b, off, none⟩) n c, .int .i64 (-((k : Int) + 1))] w fun e w' => e = .returned (.tuple #[.agg #[.int .i64 (B k), .int .i64 (A k), .int .i64 (-C k - 1)], .int .i64 0]) ∧ Below w.heap.size w w' := by
  have hB : Below w.heap.size w (w.alloc (.cells #[.int .i64 0, .int .i64 0, .int .i64 0] 56)) := (Below.refl _ _).alloc (Nat.le_refl _) _
  replace hA := hA.later hB
  have c0 := hA.k0 k hk
  have c1 := hA.k1 k hk
  have c2 := hA.k2 k hk
  have c3 := hA.k3 k hk
  rw [hK] at c0
  have hk0 : (0 : Int) ≤ (k : Int) := by omega
  have hk1 : (k : Int) < (n : Int) := by omega
  have hc : wrap64 (wrap64 (-C k) - 1) = -C k - 1 := by rw [wrap64_eq, wrap64_eq]; omega
  clear hA hK
  go_enter Try.func41, Try.ntmps41
  go_wp2
  refine bodyPost_ret (v := .tuple #[.agg #[.int .i64 (B k), .int .i64 (A k), .int .i64 (-C k - 1)], .int .i64 0]) (by simp [results, Try.results41, go_sem]) rfl ⟨rfl, below2 _ _ _⟩

theorem below1 (w : World) (o1 : Obj) : Below w.heap.size w (w.alloc o1) := (Below.refl _ _).alloc (Nat.le_refl _) _
set_option maxRecDepth 100000 in
set_option maxHeartbeats 1000000 in
theorem of_out (p : Option Addr) (n c : Nat) (l : Int) (w : World) (hn : n ≤ 4611686018427387904) (l0 : -9223372036854775808 ≤ l) (l1 : l ≤ 9223372036854775807) (hl : l = 0 ∨ (n : Int) < l ∨ l < -(n : Int)) :
    Calls Try.prog 41 #[.slice p n c, .int .i64 l] w fun e w' => e = .returned (.tuple #[.agg #[.int .i64 0, .int .i64 0, .int .i64 0], .int .i64 2]) ∧ Below w.heap.size w w' := by
  rcases hl with rfl | hl | hl
  · go_enter Try.func41, Try.ntmps41
    go_wp2
    refine bodyPost_ret (v := .tuple #[.agg #[.int .i64 0, .int .i64 0, .int .i64 0], .int .i64 2]) (by simp [results, Try.results41, go_sem]) rfl ⟨rfl, below1 _ _⟩
  · go_enter Try.func41, Try.ntmps41
    go_wp2
    refine bodyPost_ret (v := .tuple #[.agg #[.int .i64 0, .int .i64 0, .int .i64 0], .int .i64 2]) (by simp [results, Try.results41, go_sem]) rfl ⟨rfl, below1 _ _⟩
  · by_cases hm : l = -9223372036854775808
    · subst hm
      have hw : wrap64 (-9223372036854775809) = 9223372036854775807 := by rw [wrap64_eq]; omega
      have hw2 : wrap64 9223372036854775808 = -9223372036854775808 := by rw [wrap64_eq]; omega
      go_enter Try.func41, Try.ntmps41
      go_wp2
      refine bodyPost_ret (v := .tuple #[.agg #[.int .i64 0, .int .i64 0, .int .i64 0], .int .i64 2]) (by simp [results, Try.results41, go_sem]) rfl ⟨rfl, below1 _ _⟩
    · go_enter Try.func41, Try.ntmps41
      go_wp2
      refine bodyPost_ret (v := .tuple #[.agg #[.int .i64 0, .int .i64 0, .int .i64 0], .int .i64 2]) (by simp [results, Try.results41, go_sem]) rfl ⟨rfl, below1 _ _⟩

set_option maxRecDepth 100000 in
set_option maxHeartbeats 1000000 in
theorem of_kind (b off n c k : Nat) (l : Int) (K A B C : Nat → Int) (w : World) (hA : AtomsAt w b off n K A B C) (hk : k < n) (hn : n ≤ 4611686018427387904) (hK : K k ≠ 2) (hl : l = (k : Int) + 1 ∨ l = -((k : Int) + 1)) :
    Calls Try.prog 41 #[.slice (some ⟨b, off, none⟩) n c, .int .i64 l] w fun e w' => e = .returned (.tuple #[.agg #[.int .i64 0, .int .i64 0, .int .i64 0], .int .i64 2]) ∧ Below w.heap.size w w' := by
  have hB : Below w.heap.size w (w.alloc (.cells #[.int .i64 0, .int .i64 0, .int .i64 0] 56)) := (Below.refl _ _).alloc (Nat.le_refl _) _
  replace hA := hA.later hB
  have c0 := hA.k0 k hk
  have hK2 : (K k == 2) = false := by rw [beq_eq_false_iff_ne]; exact hK
  have hK3 : (K k != 2) = true := by simp [hK]
  generalize K k = kv at *
  have hk0 : (0 : Int) ≤ (k : Int) := by omega
  have hk1 : (k : Int) < (n : Int) := by omega
  clear hA
  rcases hl with rfl | rfl
  · go_enter Try.func41, Try.ntmps41
    go_wp2
    refine bodyPost_ret (v := .tuple #[.agg #[.int .i64 0, .int .i64 0, .int .i64 0], .int .i64 2]) (by simp [results, Try.results41, go_sem]) rfl ⟨rfl, below1 _ _⟩
  · go_enter Try.func41, Try.ntmps41
    go_wp2
    refine bodyPost_ret (v := .tuple #[.agg #[.int .i64 0, .int .i64 0, .int .i64 0], .int .i64 2]) (by simp [results, Try.results41, go_sem]) rfl ⟨rfl, below1 _ _⟩
end Go.Proofs.Ytiadnifbjdnflaa
