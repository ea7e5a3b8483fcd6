/- What a link that may be is: plain. What a step that may be is: plain. The tree of a link that may be: the program's. A link's tree: the document's. The document's Copy of a step. Rows of links: whethe -/
import Derived.Test.YtookoagcmejkpaaGreatDoorS7
import Derived.Test.YtookoagcmejkpaaGreatDoorS29
import Derived.Test.YtookoagcmejkpaaGreatDoorJ10
import Derived.Test.YtookoagcmejkpaaGreatDoorJ4
namespace Go.Proofs.YtookoagcmejkpaaGreatDoor
open Go Go.RowKit
theorem fldC_cnt (g : Bool) (x : Int) (h : fldC g x = true) : cntB x = true := by
 cases g with
 | true => exact h
 | false =>
  have h0 : x = 0 := by simpa [fldC] using h
  subst h0
  rfl
theorem mayLk_facts {k lit a b i j : Int} {l : List Int} (h : mayLk ⟨k, lit, a, b, i, j, l⟩ = true) : cntB a = true ∧ cntB b = true ∧ cntB i = true ∧ cntB j = true ∧ l.length ≤ 20 ∧ l.all cntB = true ∧ fmL k ≠ none ∧ ((k = 1 ∨ k = 6) → litB lit = true) := by
 unfold mayLk at h
 simp only at h
 cases hf : fmL k with
 | none => rw [hf] at h; simp at h
 | some f =>
  rw [hf] at h
  simp only [Bool.and_eq_true, decide_eq_true_eq] at h
  obtain ⟨⟨⟨⟨⟨⟨⟨h1, h2⟩, h3⟩, h4⟩, h5⟩, h6⟩, h7⟩, h8⟩ := h
  refine ⟨fldC_cnt _ _ h5, fldC_cnt _ _ h6, fldC_cnt _ _ h7, fldC_cnt _ _ h8, h1, h4, by simp, ?_⟩
  rintro (rfl | rfl)
  ·have e : fmL 1 = some ⟨true, false, false, false, false, false⟩ := rfl
   rw [e] at hf; injection hf with hf; subst hf; exact h3
  ·have e : fmL 6 = some ⟨true, false, false, true, false, false⟩ := rfl
   rw [e] at hf; injection hf with hf; subst hf; exact h3
theorem lk_1 (lit a b i j : Int) (l : List Int) (h : litB lit = true) : decide ((⟨1, lit, a, b, i, j, l⟩ : Lk) = ⟨1, lit, 0, 0, 0, 0, []⟩) = mayLk ⟨1, lit, a, b, i, j, l⟩ := by
 have e : fmL 1 = some ⟨true, false, false, false, false, false⟩ := rfl
 rw [Bool.eq_iff_iff]
 unfold mayLk
 simp only [e]
 cases l with
 | nil => simp [fldL, fldC, h, and_assoc]
 | cons x xs => simp [fldL, fldC]
theorem lk_2 (lit a b i j : Int) (l : List Int) (h : cntB a = true) : decide ((⟨2, lit, a, b, i, j, l⟩ : Lk) = ⟨2, 0, a, 0, 0, 0, []⟩) = mayLk ⟨2, lit, a, b, i, j, l⟩ := by
 have e : fmL 2 = some ⟨false, true, false, false, false, false⟩ := rfl
 rw [Bool.eq_iff_iff]
 unfold mayLk
 simp only [e]
 cases l with
 | nil => simp [fldL, fldC, h, and_assoc]
 | cons x xs => simp [fldL, fldC]
theorem lk_3 (lit a b i j : Int) (l : List Int) (h : cntB i = true) : decide ((⟨3, lit, a, b, i, j, l⟩ : Lk) = ⟨3, 0, 0, 0, i, 0, []⟩) = mayLk ⟨3, lit, a, b, i, j, l⟩ := by
 have e : fmL 3 = some ⟨false, false, false, true, false, false⟩ := rfl
 rw [Bool.eq_iff_iff]
 unfold mayLk
 simp only [e]
 cases l with
 | nil => simp [fldL, fldC, h, and_assoc]
 | cons x xs => simp [fldL, fldC]
theorem lk_7 (lit a b i j : Int) (l : List Int) (h : cntB i = true) : decide ((⟨7, lit, a, b, i, j, l⟩ : Lk) = ⟨7, 0, 0, 0, i, 0, []⟩) = mayLk ⟨7, lit, a, b, i, j, l⟩ := by
 have e : fmL 7 = some ⟨false, false, false, true, false, false⟩ := rfl
 rw [Bool.eq_iff_iff]
 unfold mayLk
 simp only [e]
 cases l with
 | nil => simp [fldL, fldC, h, and_assoc]
 | cons x xs => simp [fldL, fldC]
theorem lk_4 (lit a b i j : Int) (l : List Int) (h : cntB i = true) (h2 : cntB j = true) : decide ((⟨4, lit, a, b, i, j, l⟩ : Lk) = ⟨4, 0, 0, 0, i, j, []⟩) = mayLk ⟨4, lit, a, b, i, j, l⟩ := by
 have e : fmL 4 = some ⟨false, false, false, true, true, false⟩ := rfl
 rw [Bool.eq_iff_iff]
 unfold mayLk
 simp only [e]
 cases l with
 | nil => simp [fldL, fldC, h, h2, and_assoc]
 | cons x xs => simp [fldL, fldC]
theorem lk_5 (lit a b i j : Int) (l : List Int) (h : cntB a = true) (h2 : cntB b = true) (h3 : l.length ≤ 20) (h4 : l.all cntB = true) : decide ((⟨5, lit, a, b, i, j, l⟩ : Lk) = ⟨5, 0, a, b, 0, 0, l⟩) = mayLk ⟨5, lit, a, b, i, j, l⟩ := by
 have e : fmL 5 = some ⟨false, true, true, false, false, true⟩ := rfl
 rw [Bool.eq_iff_iff]
 unfold mayLk
 simp only [e, h4, decide_eq_true h3]
 simp [fldL, fldC, h, h2, and_assoc]
theorem lk_6 (lit a b i j : Int) (l : List Int) (h : litB lit = true) (h2 : cntB i = true) : decide ((⟨6, lit, a, b, i, j, l⟩ : Lk) = ⟨6, lit, 0, 0, i, 0, []⟩) = mayLk ⟨6, lit, a, b, i, j, l⟩ := by
 have e : fmL 6 = some ⟨true, false, false, true, false, false⟩ := rfl
 rw [Bool.eq_iff_iff]
 unfold mayLk
 simp only [e]
 cases l with
 | nil => simp [fldL, fldC, h, h2, and_assoc]
 | cons x xs => simp [fldL, fldC]
theorem maySt_facts {k a b : Int} {lits : List Int} {links : List Lk} (h : maySt ⟨k, lits, links, a, b⟩ = true) : cntB a = true ∧ cntB b = true ∧ lits.length ≤ 5000 ∧ links.length ≤ 20000 ∧ lits.all litB = true ∧ links.all mayLk = true ∧ (k = 1 ∨ k = 3 ∨ k = 2 ∨ k = 4) := by
 unfold maySt at h
 simp only at h
 by_cases k1 : k = 1 ∨ k = 3
 ·rw [if_pos k1] at h
  simp only [Bool.and_eq_true, decide_eq_true_eq] at h
  obtain ⟨⟨⟨⟨h1, h2⟩, h3⟩, h4⟩, h5⟩ := h
  subst h4
  subst h5
  exact ⟨rfl, rfl, h1, by omega, h2, by rw [List.eq_nil_of_length_eq_zero h3]; rfl, k1.elim .inl (fun h => .inr (.inl h))⟩
 rw [if_neg k1] at h
 by_cases k2 : k = 2
 ·rw [if_pos k2] at h
  simp only [Bool.and_eq_true, decide_eq_true_eq] at h
  obtain ⟨⟨⟨⟨h1, h2⟩, h3⟩, h4⟩, h5⟩ := h
  subst h4
  subst h5
  exact ⟨rfl, rfl, by omega, h2, by rw [List.eq_nil_of_length_eq_zero h1]; rfl, h3, .inr (.inr (.inl k2))⟩
 rw [if_neg k2] at h
 by_cases k4 : k = 4
 ·rw [if_pos k4] at h
  simp only [Bool.and_eq_true, decide_eq_true_eq] at h
  obtain ⟨⟨⟨h1, h2⟩, h3⟩, h4⟩ := h
  exact ⟨h3, h4, by omega, by omega, by rw [List.eq_nil_of_length_eq_zero h1]; rfl, by rw [List.eq_nil_of_length_eq_zero h2]; rfl, .inr (.inr (.inr k4))⟩
 rw [if_neg k4] at h
 exact absurd h (by decide)
theorem cnt_rng {y : Int} (h : cntB y = true) : -4611686018427387903 ≤ y ∧ y ≤ 4611686018427387903 := by
 simp only [cntB, Bool.and_eq_true, decide_eq_true_eq] at h; omega
theorem lit_rng {y : Int} (h : litB y = true) : -4611686018427387903 ≤ y ∧ y ≤ 4611686018427387903 := by
 simp only [litB, Bool.and_eq_true, decide_eq_true_eq] at h; omega
theorem lk_shape {x : Lk} (h : mayLk x = true) : (x = ⟨1, x.lit, 0, 0, 0, 0, []⟩ ∧ litB x.lit = true) ∨ (x = ⟨2, 0, x.a, 0, 0, 0, []⟩ ∧ cntB x.a = true) ∨ (x = ⟨3, 0, 0, 0, x.i, 0, []⟩ ∧ cntB x.i = true) ∨ (x = ⟨4, 0, 0, 0, x.i, x.j, []⟩ ∧ cntB x.i = true ∧ cntB x.j = true) ∨
  (x = ⟨5, 0, x.a, x.b, 0, 0, x.l⟩ ∧ cntB x.a = true ∧ cntB x.b = true ∧ x.l.length ≤ 20 ∧ x.l.all cntB = true) ∨ (x = ⟨6, x.lit, 0, 0, x.i, 0, []⟩ ∧ litB x.lit = true ∧ cntB x.i = true) ∨ (x = ⟨7, 0, 0, 0, x.i, 0, []⟩ ∧ cntB x.i = true) := by
 obtain ⟨k, lit, a, b, i, j, l⟩ := x
 obtain ⟨h1, h2, h3, h4, h5, h6, h7, h8⟩ := mayLk_facts h
 by_cases k1 : k = 1
 ·subst k1; exact Or.inl ⟨by have := lk_1 lit a b i j l (h8 (Or.inl rfl)); rw [h] at this; exact of_decide_eq_true this, h8 (Or.inl rfl)⟩
 by_cases k2 : k = 2
 ·subst k2; exact Or.inr (Or.inl ⟨by have := lk_2 lit a b i j l h1; rw [h] at this; exact of_decide_eq_true this, h1⟩)
 by_cases k3 : k = 3
 ·subst k3; exact Or.inr (Or.inr (Or.inl ⟨by have := lk_3 lit a b i j l h3; rw [h] at this; exact of_decide_eq_true this, h3⟩))
 by_cases k4 : k = 4
 ·subst k4; exact Or.inr (Or.inr (Or.inr (Or.inl ⟨by have := lk_4 lit a b i j l h3 h4; rw [h] at this; exact of_decide_eq_true this, h3, h4⟩)))
 by_cases k5 : k = 5
 ·subst k5; exact Or.inr (Or.inr (Or.inr (Or.inr (Or.inl ⟨by have := lk_5 lit a b i j l h1 h2 h5 h6; rw [h] at this; exact of_decide_eq_true this, h1, h2, h5, h6⟩))))
 by_cases k6 : k = 6
 ·subst k6; exact Or.inr (Or.inr (Or.inr (Or.inr (Or.inr (Or.inl ⟨by have := lk_6 lit a b i j l (h8 (Or.inr rfl)) h3; rw [h] at this; exact of_decide_eq_true this, h8 (Or.inr rfl), h3⟩)))))
 by_cases k7 : k = 7
 ·subst k7; exact Or.inr (Or.inr (Or.inr (Or.inr (Or.inr (Or.inr ⟨by have := lk_7 lit a b i j l h3; rw [h] at this; exact of_decide_eq_true this, h3⟩)))))
 exfalso
 apply h7
 unfold fmL
 split <;> first | rfl | (exfalso; omega)
theorem zero_rng : (-4611686018427387903 : Int) ≤ 0 ∧ (0 : Int) ≤ 4611686018427387903 := by decide
theorem rng5 {a b c d e : Int} (ha : -4611686018427387903 ≤ a ∧ a ≤ 4611686018427387903) (hb : -4611686018427387903 ≤ b ∧ b ≤ 4611686018427387903) (hc : -4611686018427387903 ≤ c ∧ c ≤ 4611686018427387903) (hd : -4611686018427387903 ≤ d ∧ d ≤ 4611686018427387903) (he : -4611686018427387903 ≤ e ∧ e ≤ 4611686018427387903) :
  ∀ y ∈ [a, b, c, d, e], -4611686018427387903 ≤ y ∧ y ≤ 4611686018427387903 := by
 intro y hy
 simp only [List.mem_cons, List.not_mem_nil, or_false] at hy
 rcases hy with rfl | rfl | rfl | rfl | rfl <;> assumption
theorem rng_nil : ∀ y ∈ ([] : List Int), -4611686018427387903 ≤ y ∧ y ≤ 4611686018427387903 := fun y h => by cases h
theorem linkTree_may (x : Lk) (q : Option Addr) (c : Nat) (v : Value) (W : World) (hl : IntsIn W q x.l) (h : mayLk x = true) (hv : linkV x.k = some v) (htab : PowTab W) :
  Calls Tryz.prog 32 #[v, lkV x q c] W fun e w' => TrR W w' e true 1 ⟨#[40]⟩ (lkX x) := by
 have Z := zero_rng
 rcases lk_shape h with ⟨e, h1⟩ | ⟨e, h1⟩ | ⟨e, h1⟩ | ⟨e, h1, h2⟩ | ⟨e, h1, h2, h3, h4⟩ | ⟨e, h1, h2⟩ | ⟨e, h1⟩ <;> obtain ⟨k, lit, a, b, i, j, l⟩ := x <;> cases e <;> cases hv
 ·exact linkTree32_true _ _ _ _ _ _ _ _ ⟨1, lit, 0, 0, 0, 0, []⟩ q c W hl (Nat.zero_le _) rng_nil (rng5 (lit_rng h1) Z Z Z Z) htab
 ·exact linkTree32_false _ _ _ _ _ _ _ _ ⟨2, 0, a, 0, 0, 0, []⟩ q c W hl (Nat.zero_le _) rng_nil (rng5 Z (cnt_rng h1) Z Z Z) htab
 ·exact linkTree32_false _ _ _ _ _ _ _ _ ⟨3, 0, 0, 0, i, 0, []⟩ q c W hl (Nat.zero_le _) rng_nil (rng5 Z Z Z (cnt_rng h1) Z) htab
 ·exact linkTree32_false _ _ _ _ _ _ _ _ ⟨4, 0, 0, 0, i, j, []⟩ q c W hl (Nat.zero_le _) rng_nil (rng5 Z Z Z (cnt_rng h1) (cnt_rng h2)) htab
 ·exact linkTree32_false _ _ _ _ _ _ _ _ ⟨5, 0, a, b, 0, 0, l⟩ q c W hl (Nat.le_trans h3 (by decide)) (fun y hy => cnt_rng (List.all_eq_true.1 h4 y hy)) (rng5 Z (cnt_rng h1) (cnt_rng h2) Z Z) htab
 ·exact linkTree32_true _ _ _ _ _ _ _ _ ⟨6, lit, 0, 0, i, 0, []⟩ q c W hl (Nat.zero_le _) rng_nil (rng5 (lit_rng h1) Z Z (cnt_rng h2) Z) htab
 ·exact linkTree32_false _ _ _ _ _ _ _ _ ⟨7, 0, 0, 0, i, 0, []⟩ q c W hl (Nat.zero_le _) rng_nil (rng5 Z Z Z (cnt_rng h1) Z) htab
def SlOK (q : Option Addr) (c : Nat) : Prop := q = none → c = 0
def LksOK (W : World) (p : Option Addr) (l : List Lk) : Prop := ∀ i (_ : i < l.length) b off, p = some ⟨b, off, none⟩ → ∀ q n c, W.cell? ⟨b, off + i * 7 + 6, none⟩ = some (.slice q n c) → SlOK q c
theorem LksOK.later {W W' : World} {p : Option Addr} {l : List Lk} (h : LksOK W p l) (h2 : LksIn W p l) (hb : Below W.heap.size W W') : LksOK W' p l := fun i hi b off e q n c hc => by
 obtain ⟨b', off', e', _, _, _, _, _, _, q', c', h6, _⟩ := h2 i hi
 rw [e] at e'; cases e'
 have h3 := cell_later hb h6
 rw [hc] at h3
 injection h3 with h3; injection h3 with h4 h5 h6'
 subst h4 h6'
 exact h i hi b off e _ _ _ h6
structure BoxS (w : World) (b : Nat) (k : Int) (v1 v2 : Value) (x y : Int) : Prop where
 c0 : w.cell? ⟨b, 0, none⟩ = some (.int .u8 k)
 c1 : w.cell? ⟨b, 1, none⟩ = some v1
 c2 : w.cell? ⟨b, 2, none⟩ = some v2
 c3 : w.cell? ⟨b, 3, none⟩ = some (.int .i64 x)
 c4 : w.cell? ⟨b, 4, none⟩ = some (.int .i64 y)
 fz : ∀ o, w.frozen? ⟨b, o, none⟩ = false
theorem BoxS.lt {w : World} {b : Nat} {k x y : Int} {v1 v2 : Value} (h : BoxS w b k v1 v2 x y) : b < w.heap.size := World.block_lt_of_cell? w _ h.c0
theorem BoxS.only {w w' : World} {b : Nat} {k x y : Int} {v1 v2 : Value} {T : Nat → Prop} (h : BoxS w b k v1 v2 x y) (ho : Only T w w') (hn : ¬ T b) : BoxS w' b k v1 v2 x y :=
 ⟨ho.cell h.c0 hn, ho.cell h.c1 hn, ho.cell h.c2 hn, ho.cell h.c3 hn, ho.cell h.c4 hn, fun o => by rw [ho.frozen (a := ⟨b, o, none⟩) h.lt hn]; exact h.fz o⟩
theorem BoxS.later {w w' : World} {b : Nat} {k x y : Int} {v1 v2 : Value} (h : BoxS w b k v1 v2 x y) (hb : Below w.heap.size w w') : BoxS w' b k v1 v2 x y :=
 h.only (Only.of_below (T := fun _ => False) hb) (fun h => h)
theorem boxS_new (w : World) (k x y : Int) (v1 v2 : Value) : BoxS (w.alloc (.cells #[.int .u8 k, v1, v2, .int .i64 x, .int .i64 y] 26)) w.heap.size k v1 v2 x y :=
 ⟨by simp [go_sem], by simp [go_sem], by simp [go_sem], by simp [go_sem], by simp [go_sem], fun o => by simp [go_sem]⟩
end Go.Proofs.YtookoagcmejkpaaGreatDoor
namespace Go.Proofs.YtookoagcmejkpaaGreatDoor
set_option maxRecDepth 100000
open Go Go.RowKit Go.Maps
def KdL (l : List Lk) : Prop := ∀ x ∈ l, 0 ≤ x.k ∧ x.k ≤ 255
structure FmAt (W : World) (B m : Nat) : Prop where
 c : W.cell? ⟨B, 0, none⟩ = some (.map (some m))
 f : FMap W 61 m linkF 7
theorem FmAt.later {W W' : World} {B m : Nat} (h : FmAt W B m) (hb : Below W.heap.size W W') : FmAt W' B m := ⟨cell_later hb h.c, h.f.later hb⟩
set_option maxHeartbeats 800000 in
theorem fn39 (B m : Nat) (x : Lk) (q : Option Addr) (c : Nat) (W : World) (hF : FmAt W B m) (hk0 : 0 ≤ x.k) (hk1 : x.k ≤ 255) (hn : x.l.length ≤ 9223372036854775807) (hq : IntsIn W q x.l) :
  Calls Tryz.prog 39 #[lkV x q c, .pointer (some ⟨B, 0, none⟩)] W fun e w' => e = .returned (.bool (!(mayLk x))) ∧ Below W.heap.size W w' := by
 obtain ⟨W1, hW1⟩ : ∃ W1, W1 = W.alloc (.cells #[.int .u8 x.k, .int .i64 x.lit, .int .i64 x.a, .int .i64 x.b, .int .i64 x.i, .int .i64 x.j, .slice q x.l.length c] 64) := ⟨_, rfl⟩
 have hb : Below W.heap.size W W1 := by rw [hW1]; exact below1 _ _
 have hc := (hF.later hb).c
 have HM := Lib.hid (mayLink40 m x q c W1 (hF.later hb).f hk0 hk1 hn (hq.later hb))
 have HB := Lib.hid hb
 have HW1 := Lib.hid hW1
 rw [hW1] at hc
 unfold lkV at HM ⊢
 obtain ⟨b0, hb0⟩ : ∃ b0, b0 = mayLk x := ⟨_, rfl⟩
 rw [← hb0] at HM ⊢
 clear hb hF hq hW1 hb0
 go_enter Tryz.func39, Tryz.ntmps39
 go_wp2_with fail
 rw [← HW1.out]
 refine HM.out.mono ?_
 rintro e w1 ⟨rfl, hb⟩
 have HB2 := Lib.hid (HB.out.trans (hb.mono HB.out.size))
 clear hb
 go_wp2_with fail
 exact bodyPost_ret (v := .bool (!b0)) (by simp [results, Tryz.results39, go_sem]) rfl ⟨rfl, HB2.out⟩
set_option maxHeartbeats 1600000 in
theorem index70 (B m : Nat) (p : Option Addr) (c n : Nat) (xs : List Lk) (W : World) (hF : FmAt W B m) (h : LksIn W p xs) (hkd : KdL xs) (hl : xs.length = n) (hn : n ≤ 9223372036854775807) :
  Calls Tryz.prog 70 #[.slice p n c, .func (.func 39) #[] #[.pointer (some ⟨B, 0, none⟩)]] W fun e w' => (∃ r : Int, e = .returned (.int .i64 r) ∧ decide (0 ≤ r) = !(xs.all mayLk)) ∧ Below W.heap.size W w' := by
 have H := Lib.hid h
 have HL := Lib.hid hl
 have HF := Lib.hid hF
 have HK := Lib.hid hkd
 clear h hl hF hkd
 have n1 : (n : Int) ≤ 9223372036854775807 := by omega
 go_enter Tryz.func70, Tryz.ntmps70
 go_wp2_with fail
 go_loopw [8] (fun x wr => ∃ k : Nat, k ≤ n ∧ x = .int .i64 (k : Int) ∧ Hid ((xs.take k).all mayLk = true ∧ Below W.heap.size W wr)) (fun x _ => n - (intOf x).toNat)
 case atStart => exact ⟨0, Nat.zero_le _, rfl, Lib.hid ⟨by simp, Below.refl _ _⟩⟩
 case round =>
  obtain ⟨k, hk, rfl, HT⟩ := hrel
  have k0 : (0 : Int) ≤ (k : Int) := Int.natCast_nonneg k
  by_cases hlt : k < n
  ·have k1 : (k : Int) < (n : Int) := Int.ofNat_lt.2 hlt
   have hkl : k < xs.length := by rw [HL.out]; exact hlt
   obtain ⟨b, off, rfl, c0, c1, c2, c3, c4, c5, q1, d1, c6, hi1, hd1, hd2⟩ := (H.out.later HT.out.2) k hkl
   have HS := Lib.hid (step_ok hlt hn)
   obtain ⟨x, hx⟩ : ∃ x, x = xs[k] := ⟨_, rfl⟩
   have HX := Lib.hid (show xs.take (k + 1) = xs.take k ++ [x] from by rw [hx, List.take_add_one, List.getElem?_eq_getElem hkl]; rfl)
   have HM := Lib.hid (show x ∈ xs from by rw [hx]; exact List.getElem_mem hkl)
   rw [← hx] at c0 c1 c2 c3 c4 c5 c6 hi1 hd1
   have HC := Lib.hid (fn39 B m x q1 d1 wr (HF.out.later HT.out.2) (HK.out x HM.out).1 (HK.out x HM.out).2 (Nat.le_trans hd1 hd2) hi1)
   unfold lkV at HC
   obtain ⟨b0, hb0⟩ : ∃ b0, b0 = mayLk x := ⟨_, rfl⟩
   have HB := Lib.hid hb0
   rw [← hb0] at HC
   clear hx hkl hi1 hd1 hd2 hb0
   go_wp2_with fail
   refine HC.out.mono ?_
   rintro e w1 ⟨rfl, hb⟩
   have HB2 := Lib.hid (HT.out.2.trans (hb.mono HT.out.2.size))
   clear hb
   cases b0 with
   | false =>
    go_wp2_with fail
    refine bodyPost_ret (v := .int .i64 (k : Int)) (by simp [results, Tryz.results70, go_sem]) rfl ⟨⟨_, rfl, ?_⟩, HB2.out⟩
    have h1 := HM.out
    have h2 := HB.out
    have h3 : xs.all mayLk = false := by rw [List.all_eq_false]; exact ⟨x, h1, by rw [← h2]; decide⟩
    rw [h3]
    simp
   | true =>
    go_wp2_with fail
    refine ⟨⟨k + 1, HS.out.1, by first | rfl | rw [HS.out.2.2], Lib.hid ⟨by rw [HX.out, List.all_append, HT.out.1]; simp [HB.out.symm], HB2.out⟩⟩, ?_⟩
    first | rw [HS.out.2.2] | skip
    simp only [intOf, Int.toNat_natCast]
    exact HS.out.2.1
  ·obtain rfl : n = k := (Nat.le_antisymm hk (Nat.le_of_not_lt hlt)).symm
   clear hlt hk
   go_wp2_with fail
   refine bodyPost_ret (v := .int .i64 (-1)) (by simp [results, Tryz.results70, go_sem]) rfl ⟨⟨_, rfl, ?_⟩, HT.out.2⟩
   have h1 := HT.out.1
   rw [List.take_of_length_le (by rw [HL.out]; exact Nat.le_refl _)] at h1
   rw [h1]
   rfl
theorem contains38 (B m : Nat) (p : Option Addr) (c n : Nat) (xs : List Lk) (W : World) (hF : FmAt W B m) (h : LksIn W p xs) (hkd : KdL xs) (hl : xs.length = n) (hn : n ≤ 9223372036854775807) :
  Calls Tryz.prog 38 #[.slice p n c, .func (.func 39) #[] #[.pointer (some ⟨B, 0, none⟩)]] W fun e w' => e = .returned (.bool (!(xs.all mayLk))) ∧ Below W.heap.size W w' := by
 have H := Lib.hid (index70 B m p c n xs W hF h hkd hl hn)
 clear h hl hF
 go_enter Tryz.func38, Tryz.ntmps38
 go_wp2_with fail
 refine H.out.mono ?_
 rintro e w1 ⟨⟨r, rfl, hr⟩, hb⟩
 have HR := Lib.hid hr
 have HB := Lib.hid hb
 clear hr hb
 go_wp2_with fail
 exact bodyPost_ret (v := .bool (decide (0 ≤ r))) (by simp [results, Tryz.results38, go_sem]) rfl ⟨by rw [HR.out], HB.out⟩
end Go.Proofs.YtookoagcmejkpaaGreatDoor
