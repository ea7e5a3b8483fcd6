/- The two sides of a difference of two variables: whatever order its map is gone through in. -/
import Derived.Test.YtjhaccpljgdlpaaGreatM0
import Derived.WalkKit
import Derived.WalkSpells
import Derived.WalkLawsBesides
import Derived.Below
import Derived.Outline
import Derived.Lib.Hide
import Derived.Lib.Walk
import Derived.Deep.QuietTactic
import Derived.BigQuiet
import Derived.Maps.AppendAt
import Derived.Maps.OwnOps
import Derived.Maps.RangeWalk
namespace Go.Proofs.YtjhaccpljgdlpaaGreat
open Go Go.RowKit Go.Maps

theorem K39 : Keyed Tryz.prog 39 := int_keyed Tryz.underlying39
/-- a map of two: 3 once, 4 once less. -/
structure Two (W : World) (M : Nat) (D : DataW Unit) : Prop where
  own : W.ownsMap Tryz.prog 39 (plainElem Tryz.prog 3) M 2 D
  has : ∀ x : Int, Maps.has D (.int .i64 x) = true ↔ x = 3 ∨ x = 4
  size : Maps.size D = 2
  at3 : ∀ zd, D.atKey (.int .i64 3) zd = .lit (.int .i64 1)
  at4 : ∀ zd, D.atKey (.int .i64 4) zd = .lit (.int .i64 (-1))
theorem plain_len (W : World) (M : Nat) (D : DataW Unit) (h : Two W M D) (ty : TypeId) : (Builtin.len_ #[119] ty #[.map (some M)]).run Tryz.prog W = .ok (.int .i64 2) W := by
  rw [h.own.len Tryz.underlying119 ty, h.size]
  rfl
theorem Two.later {W W' : World} {M : Nat} {D : DataW Unit} (h : Two W M D) (hb : Below W.heap.size W W') : Two W' M D := by
  refine ⟨?_, h.has, h.size, h.at3, h.at4⟩
  obtain ⟨es, cl, h1, h2⟩ := h.own
  exact ⟨es, cl, by rw [← h1]; exact hb.block M (by
    rcases Nat.lt_or_ge M W.heap.size with h | h
    · exact h
    · rw [Array.getElem?_eq_none h] at h1; cases h1), h2⟩
theorem below_grown {B : Nat} {w w' : World} {r : Nat} (h : w.grownBy w' (some r)) (hr : B ≤ r) (hB : B ≤ w.heap.size) : Below B w w' :=
  ⟨h.os, h.tape, h.output, h.size, fun k hk => h.block k (Nat.lt_of_lt_of_le hk hB) (fun e => by injection e with e; omega)⟩
theorem below_grown0 {B : Nat} {w w' : World} (h : w.grownBy w' none) (hB : B ≤ w.heap.size) : Below B w w' :=
  ⟨h.os, h.tape, h.output, h.size, fun k hk => h.block k (Nat.lt_of_lt_of_le hk hB) (fun e => by cases e)⟩
set_option maxRecDepth 100000 in
set_option maxHeartbeats 1600000 in
theorem sides103 (b t n : Value) (M : Nat) (D : DataW Unit) (W : World) (h : Two W M D) :
    Calls Tryz.prog 103 #[.agg #[b, t, n, .map (some M)]] W fun e w' => e = .returned (.tuple #[.int .i64 3, .int .i64 4, .bool true]) ∧ Below W.heap.size W w' := by
  obtain ⟨W1, hW1⟩ : ∃ W1, W1 = W.alloc (.cells #[b, t, n, .map (some M)] 121) := ⟨_, rfl⟩
  have hb1 : Below W.heap.size W W1 := by rw [hW1]; exact below1 _ _
  have h1 := h.later hb1
  have hs1 : W1.heap.size = W.heap.size + 1 := by rw [hW1, World.size_alloc]
  have kl := plain_len W1 M D h1 3
  rw [hW1] at kl
  rw [hW1] at h1
  have HO := Lib.hid h1
  have HB1 := Lib.hid hb1
  have HS1 := Lib.hid hs1
  clear h hb1 h1 hs1
  rw [hW1] at HB1 HS1
  clear hW1
  go_enter Tryz.func103, Tryz.ntmps103
  go_wp2_with (first | (at_range; refine wpList_range_own _ rfl _ 119 rfl 39 3 K39 Tryz.underlying119 (plainElem Tryz.prog 3) M 2 D rfl HO.out.own ?_; intro w0 hrg0 hg0 hs0) | fail)
  have HB0 := Lib.hid (HB1.out.trans (below_grown0 hg0 HB1.out.size |>.mono (Nat.le_refl _)))
  have HR := Lib.hid (show W.heap.size ≤ (W.alloc (.cells #[b, t, n, .map (some M)] 121)).heap.size from HB1.out.size)
  go_frame
  generalize (W.alloc (.cells #[b, t, n, .map (some M)] 121)).heap.size = r at *
  have HG0 := Lib.hid hrg0
  clear hrg0 hg0 hs0 kl
  go_loopw [2, 3] (fun x y wr => ∃ (left : Lit → Bool) (cnt : Nat) (p q : Int), Hid (wr.ranges Tryz.prog 39 (plainElem Tryz.prog 3) M r 2 D left cnt ∧ Below W.heap.size W wr ∧ (∀ z : Int, left (.int .i64 z) = true → z = 3 ∨ z = 4) ∧ (p = if left (.int .i64 3) then 2 else 3) ∧ (q = if left (.int .i64 4) then 2 else 4)) ∧ x = .int .i64 p ∧ y = .int .i64 q) (fun _ _ wr => wr.rangeLeft M r)
  case atStart => exact ⟨_, _, 2, 2, Lib.hid ⟨HG0.out, HB0.out, fun z hz => (HO.out.has z).1 hz, by rw [(HO.out.has 3).2 (.inl rfl)]; rfl, by rw [(HO.out.has 4).2 (.inr rfl)]; rfl⟩, rfl, rfl⟩
  case round =>
    obtain ⟨left, cnt, p, q, HI, rfl, rfl⟩ := hrel
    have HRO := Lib.hid HI.out.1
    go_wp2_with (first | (at_next; refine wpList_next_ranges_ii _ rfl _ rfl 39 3 .i64 .i64 K39 Tryz.underlying39 Tryz.underlying3 M r 2 D left cnt rfl HI.out.1 ?_ ?_) | fail)
    · intro hc0 hl0
      obtain ⟨h1, h2, h3, h4, h5⟩ := HI.out
      rw [hl0] at h4 h5
      simp only [Bool.false_eq_true, if_false] at h4 h5
      subst h4 h5
      have HB := Lib.hid h2
      clear h1 h2 h3 hl0 hc0 HI
      go_wp2_with fail
      exact bodyPost_ret (v := .tuple #[.int .i64 3, .int .i64 4, .bool true]) (by simp [results, Tryz.results103, go_sem]) rfl ⟨rfl, HB.out⟩
    · intro x c w1 cnt1 hwx hwc hlx hat hrg1 hlt hg1 hs1 hen
      obtain ⟨h1, h2, h3, h4, h5⟩ := HI.out
      have HB := Lib.hid (h2.trans ((below_grown hg1 HR.out h2.size).mono (Nat.le_refl _)))
      have HR1 := Lib.hid hrg1
      have HLT := Lib.hid hlt
      have HS4 := Lib.hid h4
      have HS5 := Lib.hid h5
      have HL3 := Lib.hid h3
      have k3 := h3 x hlx
      rcases k3 with rfl | rfl
      · have hc : c = 1 := by have := hat .nil; rw [HO.out.at3] at this; injection this with this; injection this with _ this; exact this.symm
        subst hc
        rw [hlx] at h4
        simp only [if_true] at h4
        subst h4
        clear h1 h2 h3 h5 hat hrg1 hlt hg1 hs1 hwx hwc HI
        go_wp2_with fail
        refine ⟨⟨_, cnt1, 3, q, Lib.hid ⟨HR1.out, HB.out, fun z hz => HL3.out z (by simp only [Bool.and_eq_true] at hz; exact hz.1), ?_, ?_⟩, rfl, rfl⟩, ?_⟩
        · rw [show Lit.sameKey (.int .i64 3) (.int .i64 3) = true from by decide]; simp
        · rw [show Lit.sameKey (.int .i64 4) (.int .i64 3) = false from by decide, HS5.out]; simp
        · rw [HR1.out.left_eq, HRO.out.left_eq]; exact HLT.out
      · have hc : c = -1 := by have := hat .nil; rw [HO.out.at4] at this; injection this with this; injection this with _ this; exact this.symm
        subst hc
        rw [hlx] at h5
        simp only [if_true] at h5
        subst h5
        clear h1 h2 h3 h4 hat hrg1 hlt hg1 hs1 hwx hwc HI
        go_wp2_with fail
        refine ⟨⟨_, cnt1, p, 4, Lib.hid ⟨HR1.out, HB.out, fun z hz => HL3.out z (by simp only [Bool.and_eq_true] at hz; exact hz.1), ?_, ?_⟩, rfl, rfl⟩, ?_⟩
        · rw [show Lit.sameKey (.int .i64 3) (.int .i64 4) = false from by decide, HS4.out]; simp
        · rw [show Lit.sameKey (.int .i64 4) (.int .i64 4) = true from by decide]; simp
        · rw [HR1.out.left_eq, HRO.out.left_eq]; exact HLT.out
end Go.Proofs.YtjhaccpljgdlpaaGreat
