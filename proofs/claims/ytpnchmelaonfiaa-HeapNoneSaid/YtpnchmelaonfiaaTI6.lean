/- A trail of ints of the call's own. -/
import Derived.Test.YtpnchmelaonfiaaTI5
namespace Go.Proofs.Ytpnchmelaonfiaa
open Go Go.RowKit

/-- a trail of the call's own. -/
def MineI (B : Nat) (W : World) (a : Nat) (xs : List Int) (ms : List Nat) : Prop := ∃ base T M, TrailIAt W a base T M xs ms ∧ B ≤ a ∧ B ≤ base
variable {B : Nat} {W W' : World} {a : Nat} {xs : List Int} {ms : List Nat}
theorem mineI_new (w : World) : MineI w.heap.size (w.alloc (.cells #[.slice none 0 0, .slice none 0 0] 71)) w.heap.size [] [] := ⟨_, _, _, trailI_new w, Nat.le_refl _, Nat.le_succ _⟩
theorem MineI.later (h : MineI B W a xs ms) (hb : Below W.heap.size W W') : MineI B W' a xs ms := by
  obtain ⟨base, T, M, h, h2⟩ := h
  exact ⟨base, T, M, h.later hb, h2⟩
theorem mineI_len (h : MineI B W a xs ms) : Calls Try.prog 41 #[.pointer (some ⟨a, 0, none⟩)] W fun e w' => e = .returned (.int .i64 xs.length) ∧ w' = W := by
  obtain ⟨base, T, M, h, h2⟩ := h
  exact lenI_any h
theorem mineI_level (h : MineI B W a xs ms) : Calls Try.prog 54 #[.pointer (some ⟨a, 0, none⟩)] W fun e w' => e = .returned (.int .i64 ms.length) ∧ w' = W := by
  obtain ⟨base, T, M, h, h2⟩ := h
  exact levelI_any h
theorem mineI_push (h : MineI B W a xs ms) (hB : B ≤ W.heap.size) (x : Int) (hx : xs.length ≤ 1000000) : Calls Try.prog 38 #[.pointer (some ⟨a, 0, none⟩), .int .i64 x] W fun e w' => e = .returned (.tuple #[]) ∧ MineI B w' a (xs ++ [x]) ms ∧ Below B W w' := by
  obtain ⟨base, T, M, h, h2, h3⟩ := h
  refine (pushI_any x h hx).mono ?_
  rintro e w' ⟨rfl, T', hT, h1, ho⟩
  refine ⟨rfl, ⟨base, T', M, h1, h2, h3⟩, ho.below (fun k hk => ?_) hB⟩
  rcases hk with rfl | hk
  · exact h2
  · exact Nat.le_trans h3 (h.lt.2.1 k hk).1
theorem mineI_mark (h : MineI B W a xs ms) (hB : B ≤ W.heap.size) (hx : ms.length ≤ 1000000) (hx2 : xs.length ≤ 1000000) : Calls Try.prog 39 #[.pointer (some ⟨a, 0, none⟩)] W fun e w' => e = .returned (.int .i64 ms.length) ∧ MineI B w' a xs (ms ++ [xs.length]) ∧ Below B W w' := by
  obtain ⟨base, T, M, h, h2, h3⟩ := h
  refine (markI_any h hx hx2).mono ?_
  rintro e w' ⟨rfl, T', hT, h1, ho⟩
  refine ⟨rfl, ⟨base, T, T', h1, h2, h3⟩, ho.below (fun k hk => ?_) hB⟩
  rcases hk with rfl | hk
  · exact h2
  · exact Nat.le_trans h3 (h.lt.2.2 k hk).1
theorem mineI_back (h : MineI B W a xs ms) (hB : B ≤ W.heap.size) (l k : Nat) (hl : l < ms.length) (hk : ms[l]? = some k) (hkx : k ≤ xs.length) (hx : xs.length ≤ 1000000) (hm : ms.length ≤ 1000000) :
    Calls Try.prog 40 #[.pointer (some ⟨a, 0, none⟩), .int .i64 l] W fun e w' => ∃ v, e = .returned v ∧ w'.ownsRow W.heap.size 3 1 v (xs.length - k) ((xs.drop k).reverse.map (Value.int .i64)) ∧ MineI B w' a (xs.take k) (ms.take l) ∧ Below B W w' := by
  obtain ⟨base, T, M, h, h2, h3⟩ := h
  refine (backI_at h l k hl hk hkx hx hm).mono ?_
  rintro e w' ⟨v, rfl, h4, h1, ho⟩
  refine ⟨v, rfl, h4, ⟨base, T, M, h1, h2, h3⟩, ho.below (fun k hk => ?_) hB⟩
  rcases hk with rfl | hk
  · exact h2
  · exact Nat.le_trans h3 (h.lt.2.1 k hk).1
theorem mineI_out (h : MineI B W a xs ms) (l : Int) (hl : l < 0 ∨ (ms.length : Int) ≤ l) : Calls Try.prog 40 #[.pointer (some ⟨a, 0, none⟩), .int .i64 l] W fun e w' => e = .returned (.slice none 0 0) ∧ w' = W := by
  obtain ⟨base, T, M, h, h2⟩ := h
  exact backI_out h l hl
end Go.Proofs.Ytpnchmelaonfiaa
