/- HeapBack: At; rows of strings. -/
import Derived.Test.YtpnchmelaonfiaaKn
import Derived.Test.YtpnchmelaonfiaaTS6
namespace Go.Proofs.Ytpnchmelaonfiaa
open Go Go.RowKit

theorem chain2 {w w1 w2 : World} {B : Nat} (h : Below B w w1) (k : Below w1.heap.size w1 w2) (hB : B ≤ w1.heap.size) : Below B w w2 := h.trans (k.mono hB)
variable {B : Nat} {W W' : World} {a : Nat} {xs : List ByteArray} {ms : List Nat}
set_option maxRecDepth 100000 in
set_option maxHeartbeats 800000 in
theorem mineS_at (h : MineS B W a xs ms) (i : Nat) (x : ByteArray) (hx : xs[i]? = some x) : Calls Try.prog 33 #[.pointer (some ⟨a, 0, none⟩), .int .i64 i] W fun e w' => e = .returned (.tuple #[.string x, .bool true]) ∧ w' = W := by
  have H1 := mineS_len h
  obtain ⟨base, T, M, h, h2⟩ := h
  obtain ⟨p, c, c1, e1, o1⟩ := h.ct
  have hlt : i < xs.length := (List.getElem?_eq_some_iff.1 hx).1
  obtain ⟨p', c', hv, hs⟩ := own_shape o1
  cases hv
  obtain ⟨g, rfl⟩ : ∃ g, p = some ⟨g, 0, none⟩ := by
    rcases o1.2 with ⟨e, _⟩ | ⟨g, _, _, e, _⟩
    · injection e with _ e2 _; omega
    · injection e with e2 _ _; exact ⟨g, e2⟩
  have x1 := (own_cell o1 i (.string x) (by rw [List.getElem?_map, hx]; rfl)).1
  generalize xs.length = n at *
  have i0 : ¬ (i : Int) < 0 := by omega
  have i1 : ¬ (n : Int) ≤ (i : Int) := by omega
  have i2 : (0 : Int) ≤ (i : Int) := by omega
  have i3 : (i : Int) < (n : Int) := by omega
  clear hs o1 e1 h h2 hx
  go_enter Try.func33, Try.ntmps33
  go_wp2_with fail
  refine H1.mono ?_
  rintro e w1 ⟨rfl, rfl⟩
  clear H1
  go_wp2_with fail
  go_ret2
  exact ⟨rfl, rfl⟩
/-- strings in cells, one behind the other. -/
def StrsAt (W : World) (b off n : Nat) (S : Nat → ByteArray) : Prop := ∀ i, i < n → W.cell? ⟨b, off + i, none⟩ = some (.string (S i))
def StrsIn (W : World) (p : Option Addr) (n : Nat) (S : Nat → ByteArray) : Prop := 0 < n → ∃ b off, p = some ⟨b, off, none⟩ ∧ StrsAt W b off n S
def strsOf (n : Nat) (S : Nat → ByteArray) : List ByteArray := (List.range n).map S
theorem strsOf_len (n : Nat) (S : Nat → ByteArray) : (strsOf n S).length = n := by simp [strsOf]
theorem strsOf_succ (n : Nat) (S : Nat → ByteArray) : strsOf (n + 1) S = strsOf n S ++ [S n] := by simp [strsOf, List.range_succ]
theorem strsOf_get {n : Nat} (S : Nat → ByteArray) {i : Nat} (h : i < n) : (strsOf n S)[i]? = some (S i) := by simp [strsOf, h]
theorem strsOf_rev {n : Nat} (S : Nat → ByteArray) {i k : Nat} (h : n = i + 1 + k) : ((strsOf n S).reverse.map Value.string)[i]? = some (.string (S k)) := by
  subst h
  rw [List.getElem?_map, List.getElem?_reverse (by rw [strsOf_len]; omega), strsOf_len, show i + 1 + k - 1 - i = k by omega, strsOf_get S (by omega)]
  rfl
end Go.Proofs.Ytpnchmelaonfiaa
