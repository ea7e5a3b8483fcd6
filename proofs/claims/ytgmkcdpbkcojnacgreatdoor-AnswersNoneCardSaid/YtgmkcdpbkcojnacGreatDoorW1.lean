/- What the world's cells hold, as far as its size is counted; Size counts it to some number. -/
import Derived.Test.YtgmkcdpbkcojnacGreatDoorKit
import Derived.Deep.Slices
import Derived.WalkKit
import Derived.WalkSpells
import Derived.WalkLawsBesides
import Derived.Below
import Derived.Laws.Externs
import Derived.Outline
import Derived.Lib.Hide
import Derived.Lib.Walk
import Derived.Deep.QuietTactic
import Derived.BigQuiet
namespace Go.Proofs.YtgmkcdpbkcojnacGreatDoor
open Go Go.RowKit Go.WideShapes Go.ChangeShapes Go.WideElems Go.Deep

def RowsIn (W : World) (p : Option Addr) (m : Nat) : Prop := ∀ k, k < m → ∃ b off q l c, p = some ⟨b, off, none⟩ ∧ W.cell? ⟨b, off + k * 6, none⟩ = some (.slice q l c) ∧ l ≤ 9223372036854775807
def TabsIn (W : World) (p : Option Addr) (n : Nat) : Prop := ∀ i, i < n → ∃ b off q l c, p = some ⟨b, off, none⟩ ∧ W.cell? ⟨b, off + i * 7 + 1, none⟩ = some (.slice q l c) ∧ l ≤ 9223372036854775807 ∧ RowsIn W q l
theorem RowsIn.later {W W' : World} {p : Option Addr} {n : Nat} (h : RowsIn W p n) (hb : Below W.heap.size W W') : RowsIn W' p n := fun k hk => by
  obtain ⟨b, off, q, l, c, e, h1, h2⟩ := h k hk
  exact ⟨b, off, q, l, c, e, cell_later hb h1, h2⟩
theorem TabsIn.later {W W' : World} {p : Option Addr} {n : Nat} (h : TabsIn W p n) (hb : Below W.heap.size W W') : TabsIn W' p n := fun k hk => by
  obtain ⟨b, off, q, l, c, e, h1, h2, h3⟩ := h k hk
  exact ⟨b, off, q, l, c, e, cell_later hb h1, h2, h3.later hb⟩

theorem cell_second (w : World) (a b : Value) (t : TypeId) : (w.alloc (Obj.cells #[a, b] t)).cell? ⟨w.heap.size, 1, none⟩ = some b := by
  first
    | (simp [World.cell?_alloc_new]; done)
    | (rw [World.cell?_alloc_new]; rfl)
    | (rw [World.cell?_alloc_new])
set_option maxRecDepth 100000 in
set_option maxHeartbeats 1600000 in
theorem size_any (s0 p : Option Addr) (n0 c0 n c : Nat) (w : World) (h : TabsIn w p n) (hn0 : n0 ≤ 9223372036854775807) (hn : n ≤ 9223372036854775807) :
    Calls Tryz.prog 9 #[.agg #[.slice s0 n0 c0, .slice p n c]] w fun e w' => (∃ s : Int, e = .returned (.int .i64 s)) ∧ Below w.heap.size w w' := by
  have HT := Lib.hid h
  clear h
  go_enter Tryz.func9, Tryz.ntmps9
  go_wp2_with fail
  have hc1 : (w.alloc (Obj.cells #[Value.slice s0 n0 c0, Value.slice p n c] 30)).cell? ⟨w.heap.size, 1, none⟩ = some (.slice p n c) := cell_second w _ _ 30
  have HB1 := Lib.hid (show Below w.heap.size w (w.alloc (Obj.cells #[Value.slice s0 n0 c0, Value.slice p n c] 30)) from (Below.refl _ _).alloc (Nat.le_refl _) _)
  have HT1 := Lib.hid (HT.out.later HB1.out)
  generalize w.alloc (Obj.cells #[Value.slice s0 n0 c0, Value.slice p n c] 30) = w1 at *
  generalize wrap64 (↑n0 + ↑n) = z0
  go_loopw [3, 4] (fun s i wr => ∃ (z : Int) (j : Nat), j ≤ n ∧ s = .int .i64 z ∧ i = .int .i64 j ∧ wr = w1) (fun _ i _ => n - (intOf i).toNat)
  case atStart => exact ⟨_, 0, by omega, rfl, rfl, rfl⟩
  case round =>
    obtain ⟨z, j, hj, rfl, rfl, hww⟩ := hrel
    replace hww := hww.symm
    subst hww
    by_cases hlt : j < n
    · have hj0 : (0 : Int) ≤ (j : Int) := by omega
      have hj1 : (j : Int) < (n : Int) := by omega
      obtain ⟨b, off, q, l, cc, rfl, hcl, hl, hrows⟩ := HT1.out j hlt
      have HR := Lib.hid hrows
      clear hrows
      have hl' : (l : Int) ≤ 9223372036854775807 := by omega
      go_wp2_with fail
      go_loopw [3, 5] (fun s i wr => ∃ (z : Int) (k : Nat), k ≤ l ∧ s = .int .i64 z ∧ i = .int .i64 k ∧ wr = w1) (fun _ i _ => l - (intOf i).toNat)
      case atStart => exact ⟨_, 0, by omega, rfl, rfl, rfl⟩
      case round =>
        obtain ⟨z2, k, hk, rfl, rfl, hww⟩ := hrel
        replace hww := hww.symm
        subst hww
        by_cases hlt2 : k < l
        · have hk0 : (0 : Int) ≤ (k : Int) := by omega
          have hk1 : (k : Int) < (l : Int) := by omega
          obtain ⟨b2, off2, q2, l2, c2, rfl, hcl2, hl2⟩ := HR.out k hlt2
          go_wp2_with fail
          go_roundw
          case rel => exact ⟨_, k + 1, by omega, by trivial, by go_num, by trivial⟩
          case measure => simp [intOf]; omega
        · obtain rfl : k = l := by omega
          go_wp2_with fail
          go_roundw
          case rel => exact ⟨_, j + 1, by omega, by trivial, by go_num, by trivial⟩
          case measure => simp [intOf]; omega
    · obtain rfl : j = n := by omega
      go_wp2_with fail
      go_ret
      exact ⟨⟨_, rfl⟩, HB1.out⟩
end Go.Proofs.YtgmkcdpbkcojnacGreatDoor
