/- A trail of strings of the call's own. -/
import Derived.Test.YtpnchmelaonfiaaTS5
namespace Go.Proofs.Ytpnchmelaonfiaa
open Go Go.RowKit

/-- a trail of the call's own. -/
def MineS (B : Nat) (W : World) (a : Nat) (xs : List ByteArray) (ms : List Nat) : Prop := ∃ base T M, TrailSAt W a base T M xs ms ∧ B ≤ a ∧ B ≤ base
variable {B : Nat} {W W' : World} {a : Nat} {xs : List ByteArray} {ms : List Nat}
theorem mineS_new (w : World) : MineS w.heap.size (w.alloc (.cells #[.slice none 0 0, .slice none 0 0] 48)) w.heap.size [] [] := ⟨_, _, _, trailS_new w, Nat.le_refl _, Nat.le_succ _⟩
theorem MineS.later (h : MineS B W a xs ms) (hb : Below W.heap.size W W') : MineS B W' a xs ms := by
  obtain ⟨base, T, M, h, h2⟩ := h
  exact ⟨base, T, M, h.later hb, h2⟩
theorem mineS_len (h : MineS B W a xs ms) : Calls Try.prog 34 #[.pointer (some ⟨a, 0, none⟩)] W fun e w' => e = .returned (.int .i64 xs.length) ∧ w' = W := by
  obtain ⟨base, T, M, h, h2⟩ := h
  exact lenS_any h
theorem mineS_level (h : MineS B W a xs ms) : Calls Try.prog 35 #[.pointer (some ⟨a, 0, none⟩)] W fun e w' => e = .returned (.int .i64 ms.length) ∧ w' = W := by
  obtain ⟨base, T, M, h, h2⟩ := h
  exact levelS_any h
theorem mineS_push (h : MineS B W a xs ms) (hB : B ≤ W.heap.size) (x : ByteArray) (hx : xs.length ≤ 1000000) : Calls Try.prog 28 #[.pointer (some ⟨a, 0, none⟩), .string x] W fun e w' => e = .returned (.tuple #[]) ∧ MineS B w' a (xs ++ [x]) ms ∧ Below B W w' := by
  obtain ⟨base, T, M, h, h2, h3⟩ := h
  refine (pushS_any x h hx).mono ?_
  rintro e w' ⟨rfl, T', hT, h1, ho⟩
  refine ⟨rfl, ⟨base, T', M, h1, h2, h3⟩, ho.below (fun k hk => ?_) hB⟩
  rcases hk with rfl | hk
  · exact h2
  · exact Nat.le_trans h3 (h.lt.2.1 k hk).1
theorem mineS_mark (h : MineS B W a xs ms) (hB : B ≤ W.heap.size) (hx : ms.length ≤ 1000000) (hx2 : xs.length ≤ 1000000) : Calls Try.prog 30 #[.pointer (some ⟨a, 0, none⟩)] W fun e w' => e = .returned (.int .i64 ms.length) ∧ MineS B w' a xs (ms ++ [xs.length]) ∧ Below B W w' := by
  obtain ⟨base, T, M, h, h2, h3⟩ := h
  refine (markS_any h hx hx2).mono ?_
  rintro e w' ⟨rfl, T', hT, h1, ho⟩
  refine ⟨rfl, ⟨base, T, T', h1, h2, h3⟩, ho.below (fun k hk => ?_) hB⟩
  rcases hk with rfl | hk
  · exact h2
  · exact Nat.le_trans h3 (h.lt.2.2 k hk).1
theorem mineS_back (h : MineS B W a xs ms) (hB : B ≤ W.heap.size) (l k : Nat) (hl : l < ms.length) (hk : ms[l]? = some k) (hkx : k ≤ xs.length) (hx : xs.length ≤ 1000000) (hm : ms.length ≤ 1000000) :
    Calls Try.prog 31 #[.pointer (some ⟨a, 0, none⟩), .int .i64 l] W fun e w' => ∃ v, e = .returned v ∧ w'.ownsRow W.heap.size 9 1 v (xs.length - k) ((xs.drop k).reverse.map Value.string) ∧ MineS B w' a (xs.take k) (ms.take l) ∧ Below B W w' := by
  obtain ⟨base, T, M, h, h2, h3⟩ := h
  refine (backS_at h l k hl hk hkx hx hm).mono ?_
  rintro e w' ⟨v, rfl, h4, h1, ho⟩
  refine ⟨v, rfl, h4, ⟨base, T, M, h1, h2, h3⟩, ho.below (fun k hk => ?_) hB⟩
  rcases hk with rfl | hk
  · exact h2
  · exact Nat.le_trans h3 (h.lt.2.1 k hk).1
theorem mineS_out (h : MineS B W a xs ms) (l : Int) (hl : l < 0 ∨ (ms.length : Int) ≤ l) : Calls Try.prog 31 #[.pointer (some ⟨a, 0, none⟩), .int .i64 l] W fun e w' => e = .returned (.slice none 0 0) ∧ w' = W := by
  obtain ⟨base, T, M, h, h2⟩ := h
  exact backS_out h l hl
end Go.Proofs.Ytpnchmelaonfiaa
