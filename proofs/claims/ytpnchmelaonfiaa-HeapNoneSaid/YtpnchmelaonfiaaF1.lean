/- HeapFalls: a heap, and an array of who is in it. -/
import Derived.Test.YtpnchmelaonfiaaKn
namespace Go.Proofs.Ytpnchmelaonfiaa
open Go Go.RowKit

/-- numbers in cells, one behind the other. -/
def NumsAt (W : World) (b off n : Nat) (V : Nat → Int) : Prop := ∀ i, i < n → W.cell? ⟨b, off + i, none⟩ = some (.int .i64 (V i))
def NumsIn (W : World) (p : Option Addr) (n : Nat) (V : Nat → Int) : Prop := 0 < n → ∃ b off, p = some ⟨b, off, none⟩ ∧ NumsAt W b off n V
theorem NumsIn.later {W W' : World} {p : Option Addr} {n : Nat} {V : Nat → Int} (h : NumsIn W p n V) (hb : Below W.heap.size W W') : NumsIn W' p n V := fun hn => by
  obtain ⟨b, off, e, ha⟩ := h hn
  exact ⟨b, off, e, fun i hi => cell_later hb (ha i hi)⟩
/-- a heap of the call's own, and an array of who is in it. -/
structure Play (B : Nat) (W : World) (a n len : Nat) (Wt : Nat → Int) (In : Nat → Bool) (bw bp base : Nat) (R : Option Nat) (z : Nat) (A : Nat → Bool) : Prop where
  m : Mine B W a n len Wt In bw bp base R
  ne : ¬ HB a bw bp R z
  arr : ∀ i, i < n → W.cell? ⟨z, i, none⟩ = some (.bool (A i))
  fz : ∀ o, W.frozen? ⟨z, o, none⟩ = false
  bz : B ≤ z
  lz : z < W.heap.size
  hB : B ≤ W.heap.size
section
variable {B : Nat} {W : World} {a n len : Nat} {Wt : Nat → Int} {In : Nat → Bool} {bw bp base : Nat} {R : Option Nat} {z : Nat} {A : Nat → Bool}
theorem Play.turn {w' : World} {len' : Nat} {Wt' : Nat → Int} {In' : Nat → Bool} {R' : Option Nat} (h : Play B W a n len Wt In bw bp base R z A) (hh : HeapIs w' a bw bp base n R' len' Wt' In') (hR : R' = R ∨ ∃ k, R' = some k ∧ W.heap.size ≤ k) (ho : Only (HB a bw bp R) W w') : Play B w' a n len' Wt' In' bw bp base R' z A ∧ Below B W w' := by
  refine ⟨⟨⟨hh, h.m.2⟩, fun hk => ?_, fun i hi => ho.cell (h.arr i hi) h.ne, fun o => by rw [ho.frozen h.lz h.ne]; exact h.fz o, h.bz, Nat.lt_of_lt_of_le h.lz ho.size, Nat.le_trans h.hB ho.size⟩, ho.below h.m.blocks h.hB⟩
  rcases hR with rfl | ⟨k, rfl, hk2⟩
  · exact h.ne hk
  · rcases hk with e | e | e | e
    · exact h.ne (.inl e)
    · exact h.ne (.inr (.inl e))
    · exact h.ne (.inr (.inr (.inl e)))
    · cases e; have := h.lz; omega
theorem play_push (h : Play B W a n len Wt In bw bp base R z A) (i : Nat) (hi : i < n) (hin : In i = false) (hn : n ≤ 1048576) (hl : len < 1048576) :
    Calls Try.prog 13 #[.pointer (some ⟨a, 0, none⟩), .int .i64 i] W fun e w' => e = .returned (.int .i64 0) ∧ ∃ R', Play B w' a n (len + 1) Wt (up1 In i true) bw bp base R' z A ∧ Below B W w' := by
  refine (push_in h.m.1 i hi hin hn hl).mono ?_
  rintro e w' ⟨rfl, R', hR, h1, ho⟩
  exact ⟨rfl, R', h.turn h1 hR ho⟩
theorem play_pop (h : Play B W a n (len + 1) Wt In bw bp base R z A) (hn : n ≤ 1048576) (hl : len < 1048576) :
    Calls Try.prog 15 #[.pointer (some ⟨a, 0, none⟩)] W fun e w' => ∃ x, e = .returned (.tuple #[.int .i64 (x : Nat), .bool true]) ∧ x < n ∧ In x = true ∧ (∀ y, y < n → In y = true → ¬ Ahead Wt y x) ∧ Play B w' a n len Wt (up1 In x false) bw bp base R z A ∧ Below B W w' := by
  refine (pop_at h.m.1 hn hl).mono ?_
  rintro e w' ⟨x, rfl, h1, h2, h3, h4, ho⟩
  exact ⟨x, rfl, h1, h2, h3, h.turn h4 (.inl rfl) ho⟩
theorem play_set (h : Play B W a n len Wt In bw bp base R z A) (i : Nat) (hi : i < n) (b : Bool) : Play B (W.setCell ⟨z, i, none⟩ (.bool b)) a n len Wt In bw bp base R z (up1 A i b) ∧ Below B W (W.setCell ⟨z, i, none⟩ (.bool b)) := by
  have ho : Only (fun k => k = z) W (W.setCell ⟨z, i, none⟩ (.bool b)) := Only.of_setCell W ⟨z, i, none⟩ _
  refine ⟨⟨⟨h.m.1.only ho (fun k hk e => h.ne (by rw [← e]; exact hk)), h.m.2⟩, h.ne, fun j hj => ?_, fun o => by rw [World.frozen?_setCell]; exact h.fz o, h.bz, Nat.lt_of_lt_of_le h.lz ho.size, Nat.le_trans h.hB ho.size⟩, ho.below (fun k hk => by rw [hk]; exact h.bz) h.hB⟩
  by_cases e : j = i
  · subst e
    rw [World.cell?_setCell_same _ _ _ (h.arr j hj), up1_same]
  · rw [World.cell?_setCell_other _ _ _ _ (by intro e'; cases e'; exact e rfl), up1_ne A b e]
    exact h.arr j hj
/-- what a weight is behind a Raise. -/
def raised (Wt : Nat → Int) (i : Nat) (v : Int) : Nat → Int := if v < 0 ∨ 4611686018427387904 - Wt i < v then Wt else up1 Wt i (Wt i + v)
theorem play_raise (h : Play B W a n len Wt In bw bp base R z A) (i : Nat) (hi : i < n) (v : Int) (hn : n ≤ 1048576) (hl : len ≤ 1048576) :
    Calls Try.prog 17 #[.pointer (some ⟨a, 0, none⟩), .int .i64 i, .int .i64 v] W fun e w' => ∃ x, e = .returned (.int .i64 x) ∧ Play B w' a n len (raised Wt i v) In bw bp base R z A ∧ Below B W w' := by
  unfold raised
  by_cases h1 : v < 0
  · rw [if_pos (.inl h1)]
    refine (raise_bad h.m.1 i v (.inr h1) hn).mono ?_
    rintro e w' ⟨rfl, rfl⟩
    exact ⟨_, rfl, h, Below.refl _ _⟩
  · by_cases h2 : 4611686018427387904 - Wt i < v
    · rw [if_pos (.inr h2)]
      refine (raise_over h.m.1 i hi v (by omega) h2 hn).mono ?_
      rintro e w' ⟨rfl, rfl⟩
      exact ⟨_, rfl, h, Below.refl _ _⟩
    · rw [if_neg (by omega)]
      refine (raise_at h.m.1 i hi v (by omega) (by omega) hn hl).mono ?_
      rintro e w' ⟨rfl, h4, ho⟩
      exact ⟨_, rfl, h.turn h4 (.inl rfl) ho⟩
theorem play_weight (h : Play B W a n len Wt In bw bp base R z A) (i : Nat) (hi : i < n) (hn : n ≤ 1048576) : Calls Try.prog 23 #[.pointer (some ⟨a, 0, none⟩), .int .i64 i] W fun e w' => e = .returned (.int .i64 (Wt i)) ∧ w' = W := by
  obtain ⟨P, O, h1, _⟩ := h.m.1
  exact weight_at h1 i hi hn
def isNo : Value → Bool
  | .bool b => !b
  | _ => false
theorem isNo_eq {v : Value} (h : isNo v = true) : v = .bool false := by
  unfold isNo at h
  split at h
  · simp at h; rw [h]
  · cases h
theorem zero66 (i : Nat) (hi : i < 300) : Try.zeroCells66[i]? = some (.bool false) := by
  have h1 : Try.zeroCells66.toList.all isNo = true := by kernel_rfl
  have h2 : Try.zeroCells66.size = 300 := by kernel_rfl
  rw [Array.getElem?_eq_getElem (by omega)]
  exact congrArg some (isNo_eq (List.all_eq_true.1 h1 _ (by simp)))
theorem play_new (n : Nat) (hn : n ≤ 300) (h : Mine B W a n len Wt (fun _ => false) bw bp base R) (hB : B ≤ W.heap.size) : Play B (W.alloc (.cells Try.zeroCells66 66)) a n len Wt (fun _ => false) bw bp base R W.heap.size (fun _ => false) := by
  have hb := below1 W (.cells Try.zeroCells66 66)
  refine ⟨⟨h.1.later hb, h.2⟩, fun hk => ?_, fun i hi => by simp [go_sem, zero66 i (by omega)], fun o => by simp [go_sem], hB, by simp, Nat.le_trans hB hb.size⟩
  obtain ⟨P, O, h1, _⟩ := h.1
  obtain ⟨c1, e1⟩ := h1.cw
  obtain ⟨p, c, e2, e3, o3⟩ := h1.co
  rcases hk with e | e | e | e
  · have := World.block_lt_of_cell? W _ e1; simp at this; omega
  · have := h1.lw; have := h1.hb; omega
  · have := h1.lp; have := h1.hb; omega
  · have := (own_lt o3 (e3.trans e)).2; omega
theorem own_cases (n : Nat) (x : Int) : ownB n x = false ∨ ∃ i : Nat, i < n ∧ x = (i : Int) := by
  cases h : ownB n x with
  | false => exact .inl rfl
  | true =>
    unfold ownB at h
    simp at h
    exact .inr ⟨x.toNat, by omega, by omega⟩
theorem Play.ext (h : Play B W a n len Wt In bw bp base R z A) {A' : Nat → Bool} (e : A' = A) : Play B W a n len Wt In bw bp base R z A' := e ▸ h
end
end Go.Proofs.Ytpnchmelaonfiaa
