/- The tree of a link that may be: the program's. A link's tree: the document's. Rows of links of the call's own. The document's Copy of a step. -/
import Derived.Test.YtookoagcmejkpaaGreatDoorS29
import Derived.Test.YtookoagcmejkpaaGreatDoorJ15
namespace Go.Proofs.YtookoagcmejkpaaGreatDoor
open Go Go.RowKit
theorem cnt_rng {y : Int} (h : cntB y = true) : -4611686018427387903 ≤ y ∧ y ≤ 4611686018427387903 := by
 simp only [cntB, Bool.and_eq_true, decide_eq_true_eq] at h; omega
theorem lit_rng {y : Int} (h : litB y = true) : -4611686018427387903 ≤ y ∧ y ≤ 4611686018427387903 := by
 simp only [litB, Bool.and_eq_true, decide_eq_true_eq] at h; omega
theorem lk_shape {x : Lk} (h : mayLk x = true) : (x = ⟨1, x.lit, 0, 0, 0, 0, []⟩ ∧ litB x.lit = true) ∨ (x = ⟨2, 0, x.a, 0, 0, 0, []⟩ ∧ cntB x.a = true) ∨ (x = ⟨3, 0, 0, 0, x.i, 0, []⟩ ∧ cntB x.i = true) ∨ (x = ⟨4, 0, 0, 0, x.i, x.j, []⟩ ∧ cntB x.i = true ∧ cntB x.j = true) ∨
  (x = ⟨5, 0, x.a, x.b, 0, 0, x.l⟩ ∧ cntB x.a = true ∧ cntB x.b = true ∧ x.l.length ≤ 20 ∧ x.l.all cntB = true) ∨ (x = ⟨6, x.lit, 0, 0, x.i, 0, []⟩ ∧ litB x.lit = true ∧ cntB x.i = true) ∨ (x = ⟨7, 0, 0, 0, x.i, 0, []⟩ ∧ cntB x.i = true) := by
 obtain ⟨k, lit, a, b, i, j, l⟩ := x
 obtain ⟨h1, h2, h3, h4, h5, h6, h7, h8⟩ := mayLk_facts h
 by_cases k1 : k = 1
 ·subst k1; exact Or.inl ⟨by have := lk_1 lit a b i j l (h8 (Or.inl rfl)); rw [h] at this; exact of_decide_eq_true this, h8 (Or.inl rfl)⟩
 by_cases k2 : k = 2
 ·subst k2; exact Or.inr (Or.inl ⟨by have := lk_2 lit a b i j l h1; rw [h] at this; exact of_decide_eq_true this, h1⟩)
 by_cases k3 : k = 3
 ·subst k3; exact Or.inr (Or.inr (Or.inl ⟨by have := lk_3 lit a b i j l h3; rw [h] at this; exact of_decide_eq_true this, h3⟩))
 by_cases k4 : k = 4
 ·subst k4; exact Or.inr (Or.inr (Or.inr (Or.inl ⟨by have := lk_4 lit a b i j l h3 h4; rw [h] at this; exact of_decide_eq_true this, h3, h4⟩)))
 by_cases k5 : k = 5
 ·subst k5; exact Or.inr (Or.inr (Or.inr (Or.inr (Or.inl ⟨by have := lk_5 lit a b i j l h1 h2 h5 h6; rw [h] at this; exact of_decide_eq_true this, h1, h2, h5, h6⟩))))
 by_cases k6 : k = 6
 ·subst k6; exact Or.inr (Or.inr (Or.inr (Or.inr (Or.inr (Or.inl ⟨by have := lk_6 lit a b i j l (h8 (Or.inr rfl)) h3; rw [h] at this; exact of_decide_eq_true this, h8 (Or.inr rfl), h3⟩)))))
 by_cases k7 : k = 7
 ·subst k7; exact Or.inr (Or.inr (Or.inr (Or.inr (Or.inr (Or.inr ⟨by have := lk_7 lit a b i j l h3; rw [h] at this; exact of_decide_eq_true this, h3⟩)))))
 exfalso
 apply h7
 unfold fmL
 split <;> first | rfl | (exfalso; omega)
theorem zero_rng : (-4611686018427387903 : Int) ≤ 0 ∧ (0 : Int) ≤ 4611686018427387903 := by decide
theorem rng5 {a b c d e : Int} (ha : -4611686018427387903 ≤ a ∧ a ≤ 4611686018427387903) (hb : -4611686018427387903 ≤ b ∧ b ≤ 4611686018427387903) (hc : -4611686018427387903 ≤ c ∧ c ≤ 4611686018427387903) (hd : -4611686018427387903 ≤ d ∧ d ≤ 4611686018427387903) (he : -4611686018427387903 ≤ e ∧ e ≤ 4611686018427387903) :
  ∀ y ∈ [a, b, c, d, e], -4611686018427387903 ≤ y ∧ y ≤ 4611686018427387903 := by
 intro y hy
 simp only [List.mem_cons, List.not_mem_nil, or_false] at hy
 rcases hy with rfl | rfl | rfl | rfl | rfl <;> assumption
theorem rng_nil : ∀ y ∈ ([] : List Int), -4611686018427387903 ≤ y ∧ y ≤ 4611686018427387903 := fun y h => by cases h
theorem linkTree_may (x : Lk) (q : Option Addr) (c : Nat) (v : Value) (W : World) (hl : IntsIn W q x.l) (h : mayLk x = true) (hv : linkV x.k = some v) (htab : PowTab W) :
  Calls Tryz.prog 32 #[v, lkV x q c] W fun e w' => TrR W w' e true 1 ⟨#[40]⟩ (lkX x) := by
 have Z := zero_rng
 rcases lk_shape h with ⟨e, h1⟩ | ⟨e, h1⟩ | ⟨e, h1⟩ | ⟨e, h1, h2⟩ | ⟨e, h1, h2, h3, h4⟩ | ⟨e, h1, h2⟩ | ⟨e, h1⟩ <;> obtain ⟨k, lit, a, b, i, j, l⟩ := x <;> cases e <;> cases hv
 ·exact linkTree32_true _ _ _ _ _ _ _ _ ⟨1, lit, 0, 0, 0, 0, []⟩ q c W hl (Nat.zero_le _) rng_nil (rng5 (lit_rng h1) Z Z Z Z) htab
 ·exact linkTree32_false _ _ _ _ _ _ _ _ ⟨2, 0, a, 0, 0, 0, []⟩ q c W hl (Nat.zero_le _) rng_nil (rng5 Z (cnt_rng h1) Z Z Z) htab
 ·exact linkTree32_false _ _ _ _ _ _ _ _ ⟨3, 0, 0, 0, i, 0, []⟩ q c W hl (Nat.zero_le _) rng_nil (rng5 Z Z Z (cnt_rng h1) Z) htab
 ·exact linkTree32_false _ _ _ _ _ _ _ _ ⟨4, 0, 0, 0, i, j, []⟩ q c W hl (Nat.zero_le _) rng_nil (rng5 Z Z Z (cnt_rng h1) (cnt_rng h2)) htab
 ·exact linkTree32_false _ _ _ _ _ _ _ _ ⟨5, 0, a, b, 0, 0, l⟩ q c W hl (Nat.le_trans h3 (by decide)) (fun y hy => cnt_rng (List.all_eq_true.1 h4 y hy)) (rng5 Z (cnt_rng h1) (cnt_rng h2) Z Z) htab
 ·exact linkTree32_true _ _ _ _ _ _ _ _ ⟨6, lit, 0, 0, i, 0, []⟩ q c W hl (Nat.zero_le _) rng_nil (rng5 (lit_rng h1) Z Z (cnt_rng h2) Z) htab
 ·exact linkTree32_false _ _ _ _ _ _ _ _ ⟨7, 0, 0, 0, i, 0, []⟩ q c W hl (Nat.zero_le _) rng_nil (rng5 Z Z Z (cnt_rng h1) Z) htab
set_option maxRecDepth 100000
set_option maxHeartbeats 1600000 in
theorem link52_1 (lit : Int) (q : Option Addr) (c : Nat) (W : World) (hlit : -4611686018427387903 ≤ lit ∧ lit ≤ 4611686018427387903) :
  Calls Tryz.prog 52 #[lkV ⟨1, lit, 0, 0, 0, 0, []⟩ q c] W fun e w' => TrR W w' e true 1 ⟨#[40]⟩ (.cons false 3 hGiven 0 .nil (nusF [lit])) := by
 obtain ⟨w2, hw2⟩ : ∃ w2, w2 = ((W.alloc (.cells #[.int .u8 1, .int .i64 lit, .int .i64 0, .int .i64 0, .int .i64 0, .int .i64 0, .slice q 0 c] 64)).alloc (.cells #[.bool false, .int .u8 0, .string ⟨#[]⟩, .int .i64 0, .slice none 0 0] 35)).alloc (.cells #[.int .i64 lit] 3) := ⟨_, rfl⟩
 have hb2 : Below W.heap.size W w2 := by rw [hw2]; exact (((below1 W _).alloc (by simp) _).alloc (by simp; omega) _)
 have hsz : w2.heap.size = W.heap.size + 3 := by rw [hw2]; simp
 have hz : BoxT w2 (W.heap.size + 1) false 0 ⟨#[]⟩ 0 (.slice none 0 0) := by
  have h := (box_new (W.alloc (.cells #[.int .u8 1, .int .i64 lit, .int .i64 0, .int .i64 0, .int .i64 0, .int .i64 0, .slice q 0 c] 64)) false 0 ⟨#[]⟩ 0 (.slice none 0 0)).later (below1 _ (.cells #[.int .i64 lit] 3))
  rw [hw2]; simpa using h
 have hn : OwnI 3 w2 (fun b => W.heap.size + 2 ≤ b) (.slice (some ⟨W.heap.size + 1 + 1, 0, none⟩) 1 1) [lit] := by
  have h := ownI_new (W := (W.alloc (.cells #[.int .u8 1, .int .i64 lit, .int .i64 0, .int .i64 0, .int .i64 0, .int .i64 0, .slice q 0 c] 64)).alloc (.cells #[.bool false, .int .u8 0, .string ⟨#[]⟩, .int .i64 0, .slice none 0 0] 35)) 3 (fun b => W.heap.size + 2 ≤ b) [lit] (by simp) (by simp)
  rw [hw2]; simpa using h
 have HS := Lib.hid (And.intro hb2 (And.intro hsz (And.intro hz hn)))
 have HW2 := Lib.hid hw2
 clear hb2 hsz hz hn hw2
 unfold lkV
 go_enter Tryz.func52, Tryz.ntmps52
 go_wp2_with fail
 rw [← HW2.out]
 obtain ⟨q2, c2, hv2, hc2, hc3, hq2, hf2, hi2, hz2⟩ := HS.out.2.2.2.intsIn
 cases hv2
 refine (counts81 _ 1 1 [lit] w2 hi2 rfl (by omega) (fun y hy => by simp only [List.mem_cons, List.not_mem_nil, or_false] at hy; rw [hy]; assumption)).mono ?_
 rintro e w3 ⟨q3, c3, rfl, hown, hb⟩
 clear hc2 hc3 hq2 hf2 hi2 hz2
 have HO := Lib.hid hown
 have HZ := Lib.hid (HS.out.2.2.1.later hb)
 have HB := Lib.hid (HS.out.1.trans (hb.mono HS.out.1.size))
 have HSZ := Lib.hid (show w2.heap.size ≤ w3.heap.size from hb.size)
 clear hown hb
 go_wp2_with fail
 refine (list53 _ _ _ (w2.heap.size) _ HO.out HSZ.out (by rw [nusF_len]; simp)).mono ?_
 rintro e w6 ⟨q6, c6, rfl, hc6, hq6, hb6⟩
 have hl6 : (nusF [lit]).len + 1 = (Fo.cons false 3 hGiven 0 .nil (nusF [lit])).len := rfl
 rw [hl6] at hc6
 have HQ := Lib.hid (And.intro hc6 hq6)
 have HB6 := Lib.hid (HB.out.trans (hb6.mono HB.out.size))
 obtain ⟨z0, z1, z2, z3, z4, zf⟩ := HZ.out.later hb6
 rw [hl6]
 clear hc6 hq6 hb6 hl6
 unfold trV
 go_wp2_with fail
 refine bodyPost_ret (v := trV true 1 ⟨#[40]⟩ 0 q6 (Fo.cons false 3 hGiven 0 .nil (nusF [lit])).len c6) (by simp [trV, results, Tryz.results52, go_sem, z0, z1, z2, z3, z4]) rfl ⟨q6, c6, rfl, HQ.out.1, ?_, ?_, ?_⟩
 ·simp only [Fo.len]; rw [nusF_len]; simp
 ·have hne : ∀ o b, W.heap.size + 2 ≤ b → ¬ b = (⟨W.heap.size + 1, o, none⟩ : Addr).block := fun o b h e => by simp only at e; omega
  have hq := HQ.out.2.mono (F' := fun b => W.heap.size + 2 ≤ b) (fun b hb _ => by have hb' : w2.heap.size ≤ b := hb; have := HS.out.2.1; omega)
  exact (((((hq.only (Only.of_setCell _ _ _) (hne _)).only (Only.of_setCell _ _ _) (hne _)).only (Only.of_setCell _ _ _) (hne _)).only (Only.of_setCell _ _ _) (hne _)).only (Only.of_setCell _ _ _) (hne _)).mono (fun b hb _ => by omega)
 ·iterate 5 refine Below.setCell ?_ (show W.heap.size ≤ W.heap.size + 1 from Nat.le_succ _) _
  exact HB6.out
set_option maxHeartbeats 1600000 in
theorem link52_2 (a : Int) (q : Option Addr) (c : Nat) (W : World) (ha : -4611686018427387903 ≤ a ∧ a ≤ 4611686018427387903) :
  Calls Tryz.prog 52 #[lkV ⟨2, 0, a, 0, 0, 0, []⟩ q c] W fun e w' => TrR W w' e true 1 ⟨#[40]⟩ (.cons false 3 hSame 0 .nil (nusF [a])) := by
 obtain ⟨w2, hw2⟩ : ∃ w2, w2 = ((W.alloc (.cells #[.int .u8 2, .int .i64 0, .int .i64 a, .int .i64 0, .int .i64 0, .int .i64 0, .slice q 0 c] 64)).alloc (.cells #[.bool false, .int .u8 0, .string ⟨#[]⟩, .int .i64 0, .slice none 0 0] 35)).alloc (.cells #[.int .i64 a] 3) := ⟨_, rfl⟩
 have hb2 : Below W.heap.size W w2 := by rw [hw2]; exact (((below1 W _).alloc (by simp) _).alloc (by simp; omega) _)
 have hsz : w2.heap.size = W.heap.size + 3 := by rw [hw2]; simp
 have hz : BoxT w2 (W.heap.size + 1) false 0 ⟨#[]⟩ 0 (.slice none 0 0) := by
  have h := (box_new (W.alloc (.cells #[.int .u8 2, .int .i64 0, .int .i64 a, .int .i64 0, .int .i64 0, .int .i64 0, .slice q 0 c] 64)) false 0 ⟨#[]⟩ 0 (.slice none 0 0)).later (below1 _ (.cells #[.int .i64 a] 3))
  rw [hw2]; simpa using h
 have hn : OwnI 3 w2 (fun b => W.heap.size + 2 ≤ b) (.slice (some ⟨W.heap.size + 1 + 1, 0, none⟩) 1 1) [a] := by
  have h := ownI_new (W := (W.alloc (.cells #[.int .u8 2, .int .i64 0, .int .i64 a, .int .i64 0, .int .i64 0, .int .i64 0, .slice q 0 c] 64)).alloc (.cells #[.bool false, .int .u8 0, .string ⟨#[]⟩, .int .i64 0, .slice none 0 0] 35)) 3 (fun b => W.heap.size + 2 ≤ b) [a] (by simp) (by simp)
  rw [hw2]; simpa using h
 have HS := Lib.hid (And.intro hb2 (And.intro hsz (And.intro hz hn)))
 have HW2 := Lib.hid hw2
 clear hb2 hsz hz hn hw2
 unfold lkV
 go_enter Tryz.func52, Tryz.ntmps52
 go_wp2_with fail
 rw [← HW2.out]
 obtain ⟨q2, c2, hv2, hc2, hc3, hq2, hf2, hi2, hz2⟩ := HS.out.2.2.2.intsIn
 cases hv2
 refine (counts81 _ 1 1 [a] w2 hi2 rfl (by omega) (fun y hy => by simp only [List.mem_cons, List.not_mem_nil, or_false] at hy; rw [hy]; assumption)).mono ?_
 rintro e w3 ⟨q3, c3, rfl, hown, hb⟩
 clear hc2 hc3 hq2 hf2 hi2 hz2
 have HO := Lib.hid hown
 have HZ := Lib.hid (HS.out.2.2.1.later hb)
 have HB := Lib.hid (HS.out.1.trans (hb.mono HS.out.1.size))
 have HSZ := Lib.hid (show w2.heap.size ≤ w3.heap.size from hb.size)
 clear hown hb
 go_wp2_with fail
 refine (list53 _ _ _ (w2.heap.size) _ HO.out HSZ.out (by rw [nusF_len]; simp)).mono ?_
 rintro e w6 ⟨q6, c6, rfl, hc6, hq6, hb6⟩
 have hl6 : (nusF [a]).len + 1 = (Fo.cons false 3 hSame 0 .nil (nusF [a])).len := rfl
 rw [hl6] at hc6
 have HQ := Lib.hid (And.intro hc6 hq6)
 have HB6 := Lib.hid (HB.out.trans (hb6.mono HB.out.size))
 obtain ⟨z0, z1, z2, z3, z4, zf⟩ := HZ.out.later hb6
 rw [hl6]
 clear hc6 hq6 hb6 hl6
 unfold trV
 go_wp2_with fail
 refine bodyPost_ret (v := trV true 1 ⟨#[40]⟩ 0 q6 (Fo.cons false 3 hSame 0 .nil (nusF [a])).len c6) (by simp [trV, results, Tryz.results52, go_sem, z0, z1, z2, z3, z4]) rfl ⟨q6, c6, rfl, HQ.out.1, ?_, ?_, ?_⟩
 ·simp only [Fo.len]; rw [nusF_len]; simp
 ·have hne : ∀ o b, W.heap.size + 2 ≤ b → ¬ b = (⟨W.heap.size + 1, o, none⟩ : Addr).block := fun o b h e => by simp only at e; omega
  have hq := HQ.out.2.mono (F' := fun b => W.heap.size + 2 ≤ b) (fun b hb _ => by have hb' : w2.heap.size ≤ b := hb; have := HS.out.2.1; omega)
  exact (((((hq.only (Only.of_setCell _ _ _) (hne _)).only (Only.of_setCell _ _ _) (hne _)).only (Only.of_setCell _ _ _) (hne _)).only (Only.of_setCell _ _ _) (hne _)).only (Only.of_setCell _ _ _) (hne _)).mono (fun b hb _ => by omega)
 ·iterate 5 refine Below.setCell ?_ (show W.heap.size ≤ W.heap.size + 1 from Nat.le_succ _) _
  exact HB6.out
set_option maxHeartbeats 1600000 in
theorem link52_3 (i : Int) (q : Option Addr) (c : Nat) (W : World) (hi : -4611686018427387903 ≤ i ∧ i ≤ 4611686018427387903) :
  Calls Tryz.prog 52 #[lkV ⟨3, 0, 0, 0, i, 0, []⟩ q c] W fun e w' => TrR W w' e true 1 ⟨#[40]⟩ (.cons false 3 hTurn 0 .nil (nusF [i])) := by
 obtain ⟨w2, hw2⟩ : ∃ w2, w2 = ((W.alloc (.cells #[.int .u8 3, .int .i64 0, .int .i64 0, .int .i64 0, .int .i64 i, .int .i64 0, .slice q 0 c] 64)).alloc (.cells #[.bool false, .int .u8 0, .string ⟨#[]⟩, .int .i64 0, .slice none 0 0] 35)).alloc (.cells #[.int .i64 i] 3) := ⟨_, rfl⟩
 have hb2 : Below W.heap.size W w2 := by rw [hw2]; exact (((below1 W _).alloc (by simp) _).alloc (by simp; omega) _)
 have hsz : w2.heap.size = W.heap.size + 3 := by rw [hw2]; simp
 have hz : BoxT w2 (W.heap.size + 1) false 0 ⟨#[]⟩ 0 (.slice none 0 0) := by
  have h := (box_new (W.alloc (.cells #[.int .u8 3, .int .i64 0, .int .i64 0, .int .i64 0, .int .i64 i, .int .i64 0, .slice q 0 c] 64)) false 0 ⟨#[]⟩ 0 (.slice none 0 0)).later (below1 _ (.cells #[.int .i64 i] 3))
  rw [hw2]; simpa using h
 have hn : OwnI 3 w2 (fun b => W.heap.size + 2 ≤ b) (.slice (some ⟨W.heap.size + 1 + 1, 0, none⟩) 1 1) [i] := by
  have h := ownI_new (W := (W.alloc (.cells #[.int .u8 3, .int .i64 0, .int .i64 0, .int .i64 0, .int .i64 i, .int .i64 0, .slice q 0 c] 64)).alloc (.cells #[.bool false, .int .u8 0, .string ⟨#[]⟩, .int .i64 0, .slice none 0 0] 35)) 3 (fun b => W.heap.size + 2 ≤ b) [i] (by simp) (by simp)
  rw [hw2]; simpa using h
 have HS := Lib.hid (And.intro hb2 (And.intro hsz (And.intro hz hn)))
 have HW2 := Lib.hid hw2
 clear hb2 hsz hz hn hw2
 unfold lkV
 go_enter Tryz.func52, Tryz.ntmps52
 go_wp2_with fail
 rw [← HW2.out]
 obtain ⟨q2, c2, hv2, hc2, hc3, hq2, hf2, hi2, hz2⟩ := HS.out.2.2.2.intsIn
 cases hv2
 refine (counts81 _ 1 1 [i] w2 hi2 rfl (by omega) (fun y hy => by simp only [List.mem_cons, List.not_mem_nil, or_false] at hy; rw [hy]; assumption)).mono ?_
 rintro e w3 ⟨q3, c3, rfl, hown, hb⟩
 clear hc2 hc3 hq2 hf2 hi2 hz2
 have HO := Lib.hid hown
 have HZ := Lib.hid (HS.out.2.2.1.later hb)
 have HB := Lib.hid (HS.out.1.trans (hb.mono HS.out.1.size))
 have HSZ := Lib.hid (show w2.heap.size ≤ w3.heap.size from hb.size)
 clear hown hb
 go_wp2_with fail
 refine (list53 _ _ _ (w2.heap.size) _ HO.out HSZ.out (by rw [nusF_len]; simp)).mono ?_
 rintro e w6 ⟨q6, c6, rfl, hc6, hq6, hb6⟩
 have hl6 : (nusF [i]).len + 1 = (Fo.cons false 3 hTurn 0 .nil (nusF [i])).len := rfl
 rw [hl6] at hc6
 have HQ := Lib.hid (And.intro hc6 hq6)
 have HB6 := Lib.hid (HB.out.trans (hb6.mono HB.out.size))
 obtain ⟨z0, z1, z2, z3, z4, zf⟩ := HZ.out.later hb6
 rw [hl6]
 clear hc6 hq6 hb6 hl6
 unfold trV
 go_wp2_with fail
 refine bodyPost_ret (v := trV true 1 ⟨#[40]⟩ 0 q6 (Fo.cons false 3 hTurn 0 .nil (nusF [i])).len c6) (by simp [trV, results, Tryz.results52, go_sem, z0, z1, z2, z3, z4]) rfl ⟨q6, c6, rfl, HQ.out.1, ?_, ?_, ?_⟩
 ·simp only [Fo.len]; rw [nusF_len]; simp
 ·have hne : ∀ o b, W.heap.size + 2 ≤ b → ¬ b = (⟨W.heap.size + 1, o, none⟩ : Addr).block := fun o b h e => by simp only at e; omega
  have hq := HQ.out.2.mono (F' := fun b => W.heap.size + 2 ≤ b) (fun b hb _ => by have hb' : w2.heap.size ≤ b := hb; have := HS.out.2.1; omega)
  exact (((((hq.only (Only.of_setCell _ _ _) (hne _)).only (Only.of_setCell _ _ _) (hne _)).only (Only.of_setCell _ _ _) (hne _)).only (Only.of_setCell _ _ _) (hne _)).only (Only.of_setCell _ _ _) (hne _)).mono (fun b hb _ => by omega)
 ·iterate 5 refine Below.setCell ?_ (show W.heap.size ≤ W.heap.size + 1 from Nat.le_succ _) _
  exact HB6.out
set_option maxHeartbeats 1600000 in
theorem link52_4 (i j : Int) (q : Option Addr) (c : Nat) (W : World) (hi : -4611686018427387903 ≤ i ∧ i ≤ 4611686018427387903) (hj : -4611686018427387903 ≤ j ∧ j ≤ 4611686018427387903) :
  Calls Tryz.prog 52 #[lkV ⟨4, 0, 0, 0, i, j, []⟩ q c] W fun e w' => TrR W w' e true 1 ⟨#[40]⟩ (.cons false 3 hThen 0 .nil (nusF [i, j])) := by
 obtain ⟨w2, hw2⟩ : ∃ w2, w2 = ((W.alloc (.cells #[.int .u8 4, .int .i64 0, .int .i64 0, .int .i64 0, .int .i64 i, .int .i64 j, .slice q 0 c] 64)).alloc (.cells #[.bool false, .int .u8 0, .string ⟨#[]⟩, .int .i64 0, .slice none 0 0] 35)).alloc (.cells #[.int .i64 i, .int .i64 j] 3) := ⟨_, rfl⟩
 have hb2 : Below W.heap.size W w2 := by rw [hw2]; exact (((below1 W _).alloc (by simp) _).alloc (by simp; omega) _)
 have hsz : w2.heap.size = W.heap.size + 3 := by rw [hw2]; simp
 have hz : BoxT w2 (W.heap.size + 1) false 0 ⟨#[]⟩ 0 (.slice none 0 0) := by
  have h := (box_new (W.alloc (.cells #[.int .u8 4, .int .i64 0, .int .i64 0, .int .i64 0, .int .i64 i, .int .i64 j, .slice q 0 c] 64)) false 0 ⟨#[]⟩ 0 (.slice none 0 0)).later (below1 _ (.cells #[.int .i64 i, .int .i64 j] 3))
  rw [hw2]; simpa using h
 have hn : OwnI 3 w2 (fun b => W.heap.size + 2 ≤ b) (.slice (some ⟨W.heap.size + 1 + 1, 0, none⟩) 2 2) [i, j] := by
  have h := ownI_new (W := (W.alloc (.cells #[.int .u8 4, .int .i64 0, .int .i64 0, .int .i64 0, .int .i64 i, .int .i64 j, .slice q 0 c] 64)).alloc (.cells #[.bool false, .int .u8 0, .string ⟨#[]⟩, .int .i64 0, .slice none 0 0] 35)) 3 (fun b => W.heap.size + 2 ≤ b) [i, j] (by simp) (by simp)
  rw [hw2]; simpa using h
 have HS := Lib.hid (And.intro hb2 (And.intro hsz (And.intro hz hn)))
 have HW2 := Lib.hid hw2
 clear hb2 hsz hz hn hw2
 unfold lkV
 go_enter Tryz.func52, Tryz.ntmps52
 go_wp2_with fail
 rw [← HW2.out]
 obtain ⟨q2, c2, hv2, hc2, hc3, hq2, hf2, hi2, hz2⟩ := HS.out.2.2.2.intsIn
 cases hv2
 refine (counts81 _ 2 2 [i, j] w2 hi2 rfl (by omega) (fun y hy => by simp only [List.mem_cons, List.not_mem_nil, or_false] at hy; rcases hy with rfl | rfl <;> assumption)).mono ?_
 rintro e w3 ⟨q3, c3, rfl, hown, hb⟩
 clear hc2 hc3 hq2 hf2 hi2 hz2
 have HO := Lib.hid hown
 have HZ := Lib.hid (HS.out.2.2.1.later hb)
 have HB := Lib.hid (HS.out.1.trans (hb.mono HS.out.1.size))
 have HSZ := Lib.hid (show w2.heap.size ≤ w3.heap.size from hb.size)
 clear hown hb
 go_wp2_with fail
 refine (list53 _ _ _ (w2.heap.size) _ HO.out HSZ.out (by rw [nusF_len]; simp)).mono ?_
 rintro e w6 ⟨q6, c6, rfl, hc6, hq6, hb6⟩
 have hl6 : (nusF [i, j]).len + 1 = (Fo.cons false 3 hThen 0 .nil (nusF [i, j])).len := rfl
 rw [hl6] at hc6
 have HQ := Lib.hid (And.intro hc6 hq6)
 have HB6 := Lib.hid (HB.out.trans (hb6.mono HB.out.size))
 obtain ⟨z0, z1, z2, z3, z4, zf⟩ := HZ.out.later hb6
 rw [hl6]
 clear hc6 hq6 hb6 hl6
 unfold trV
 go_wp2_with fail
 refine bodyPost_ret (v := trV true 1 ⟨#[40]⟩ 0 q6 (Fo.cons false 3 hThen 0 .nil (nusF [i, j])).len c6) (by simp [trV, results, Tryz.results52, go_sem, z0, z1, z2, z3, z4]) rfl ⟨q6, c6, rfl, HQ.out.1, ?_, ?_, ?_⟩
 ·simp only [Fo.len]; rw [nusF_len]; simp
 ·have hne : ∀ o b, W.heap.size + 2 ≤ b → ¬ b = (⟨W.heap.size + 1, o, none⟩ : Addr).block := fun o b h e => by simp only at e; omega
  have hq := HQ.out.2.mono (F' := fun b => W.heap.size + 2 ≤ b) (fun b hb _ => by have hb' : w2.heap.size ≤ b := hb; have := HS.out.2.1; omega)
  exact (((((hq.only (Only.of_setCell _ _ _) (hne _)).only (Only.of_setCell _ _ _) (hne _)).only (Only.of_setCell _ _ _) (hne _)).only (Only.of_setCell _ _ _) (hne _)).only (Only.of_setCell _ _ _) (hne _)).mono (fun b hb _ => by omega)
 ·iterate 5 refine Below.setCell ?_ (show W.heap.size ≤ W.heap.size + 1 from Nat.le_succ _) _
  exact HB6.out
set_option maxHeartbeats 1600000 in
theorem link52_5 (a b : Int) (l : List Int) (q : Option Addr) (c : Nat) (W : World) (ha : -4611686018427387903 ≤ a ∧ a ≤ 4611686018427387903) (hb : -4611686018427387903 ≤ b ∧ b ≤ 4611686018427387903) (hq : q = none → c = 0) (hI : IntsIn W q l) (hl : l.length ≤ 1000) (hxl : ∀ y ∈ l, -4611686018427387903 ≤ y ∧ y ≤ 4611686018427387903) :
  Calls Tryz.prog 52 #[lkV ⟨5, 0, a, b, 0, 0, l⟩ q c] W fun e w' => TrR W w' e true 1 ⟨#[40]⟩ (.cons false 3 hApply 0 .nil (nusF ([a, b] ++ l))) := by
 obtain ⟨w2, hw2⟩ : ∃ w2, w2 = ((W.alloc (.cells #[.int .u8 5, .int .i64 0, .int .i64 a, .int .i64 b, .int .i64 0, .int .i64 0, .slice q l.length c] 64)).alloc (.cells #[.bool false, .int .u8 0, .string ⟨#[]⟩, .int .i64 0, .slice none 0 0] 35)).alloc (.cells #[.int .i64 a, .int .i64 b] 3) := ⟨_, rfl⟩
 have hb2 : Below W.heap.size W w2 := by rw [hw2]; exact (((below1 W _).alloc (by simp) _).alloc (by simp; omega) _)
 have hsz : w2.heap.size = W.heap.size + 3 := by rw [hw2]; simp
 have hz : BoxT w2 (W.heap.size + 1) false 0 ⟨#[]⟩ 0 (.slice none 0 0) := by
  have h := (box_new (W.alloc (.cells #[.int .u8 5, .int .i64 0, .int .i64 a, .int .i64 b, .int .i64 0, .int .i64 0, .slice q l.length c] 64)) false 0 ⟨#[]⟩ 0 (.slice none 0 0)).later (below1 _ (.cells #[.int .i64 a, .int .i64 b] 3))
  rw [hw2]; simpa using h
 have hn : OwnI 3 w2 (fun b => W.heap.size + 2 ≤ b) (.slice (some ⟨W.heap.size + 1 + 1, 0, none⟩) 2 2) [a, b] := by
  have h := ownI_new (W := (W.alloc (.cells #[.int .u8 5, .int .i64 0, .int .i64 a, .int .i64 b, .int .i64 0, .int .i64 0, .slice q l.length c] 64)).alloc (.cells #[.bool false, .int .u8 0, .string ⟨#[]⟩, .int .i64 0, .slice none 0 0] 35)) 3 (fun b => W.heap.size + 2 ≤ b) [a, b] (by simp) (by simp)
  rw [hw2]; simpa using h
 have HS := Lib.hid (And.intro hb2 (And.intro hsz (And.intro hz hn)))
 have HW2 := Lib.hid hw2
 have HA := Lib.hid (And.intro hq (And.intro trivial (And.intro hI (And.intro hl hxl))))
 clear hq hI hl hxl
 have l1 : (l.length : Int) ≤ 1000 := by have := HA.out.2.2.2.1; omega
 clear hb2 hsz hz hn hw2
 unfold lkV
 go_enter Tryz.func52, Tryz.ntmps52
 have rng : ∀ y ∈ [a, b] ++ l, -4611686018427387903 ≤ y ∧ y ≤ 4611686018427387903 := by
  intro y hy
  simp only [List.cons_append, List.nil_append, List.mem_cons] at hy
  rcases hy with rfl | rfl | hy
  ·assumption
  ·assumption
  ·exact HA.out.2.2.2.2 y hy
 have HR := Lib.hid rng
 clear rng
 go_wp2_with (at_builtin; rw [← HW2.out]; refine wpList_join_ints intE62 (by rfl) _ _ (by rfl) (fun b => W.heap.size + 2 ≤ b) (.slice (some ⟨W.heap.size + 1 + 1, 0, none⟩) 2 2) [a, b] q l.length c l (by rfl) (by rfl) HS.out.2.2.2 (HA.out.2.2.1.later HS.out.1) rfl ?_ ?_ (by simp) (Nat.le_trans HA.out.2.2.2.1 (by decide)) ?_)
 case refine_1 =>
  intro h
  refine ⟨?_, HA.out.1 h⟩
  rcases Nat.eq_zero_or_pos l.length with h0 | h0
  ·exact h0
  ·obtain ⟨b', o', e', _⟩ := HA.out.2.2.1 0 h0
   rw [h] at e'; cases e'
 case refine_2 => have := HS.out.2.1; omega
 intro p5 c5 w5 hown5 ho5 hnn
 have HO5 := Lib.hid hown5
 have HZ5 := Lib.hid (HS.out.2.2.1.only ho5 (fun e => by have := own_eq e; omega))
 have HB5 := Lib.hid (HS.out.1.trans (ho5.below (B := W.heap.size) (fun j e => by have := own_eq e; omega) HS.out.1.size))
 have HSZ5 := Lib.hid (show w2.heap.size ≤ w5.heap.size from ho5.size)
 obtain ⟨M, hM⟩ : ∃ M, M = 2 + l.length := ⟨_, rfl⟩
 have HM := Lib.hid hM
 rw [← hM]
 clear hown5 ho5 hnn hM
 go_wp2_with fail
 have hown := HO5.out
 rw [← HM.out] at hown
 have hMl : ([a, b] ++ l).length = M := by rw [HM.out]; simp; omega
 have hown2 : OwnI 3 w5 (fun b => W.heap.size + 2 ≤ b) (.slice p5 M c5) ([a, b] ++ l) := hown
 obtain ⟨q2, c2, hv2, hc2, hc3, hq2, hf2, hi2, hz2⟩ := hown2.intsIn
 refine (counts81 _ c5 M ([a, b] ++ l) w5 ?_ hMl ?_ HR.out).mono ?_
 ·cases hv2; exact hi2
 ·rw [HM.out]; have := HA.out.2.2.2.1; omega
 rintro e w3 ⟨q3, c3, rfl, hown', hb⟩
 clear hc2 hc3 hq2 hf2 hi2 hz2 hown hown2 hv2 hMl
 have HO := Lib.hid hown'
 have HZ := Lib.hid (HZ5.out.later hb)
 have HB := Lib.hid (HB5.out.trans (hb.mono HB5.out.size))
 have HSZ := Lib.hid (show w5.heap.size ≤ w3.heap.size from hb.size)
 clear hown' hb
 go_wp2_with fail
 refine (list53 _ _ _ (w5.heap.size) _ HO.out HSZ.out (by rw [nusF_len]; have := HA.out.2.2.2.1; simp; omega)).mono ?_
 rintro e w6 ⟨q6, c6, rfl, hc6, hq6, hb6⟩
 have hl6 : (nusF ([a, b] ++ l)).len + 1 = (Fo.cons false 3 hApply 0 .nil (nusF ([a, b] ++ l))).len := rfl
 rw [hl6] at hc6
 have HQ := Lib.hid (And.intro hc6 hq6)
 have HB6 := Lib.hid (HB.out.trans (hb6.mono HB.out.size))
 obtain ⟨z0, z1, z2, z3, z4, zf⟩ := HZ.out.later hb6
 rw [hl6]
 clear hc6 hq6 hb6 hl6
 unfold trV
 go_wp2_with fail
 refine bodyPost_ret (v := trV true 1 ⟨#[40]⟩ 0 q6 (Fo.cons false 3 hApply 0 .nil (nusF ([a, b] ++ l))).len c6) (by simp [trV, results, Tryz.results52, go_sem, z0, z1, z2, z3, z4]) rfl ⟨q6, c6, rfl, HQ.out.1, ?_, ?_, ?_⟩
 ·simp only [Fo.len]; rw [nusF_len]; have := HA.out.2.2.2.1; simp; omega
 ·have hne : ∀ o b, W.heap.size + 2 ≤ b → ¬ b = (⟨W.heap.size + 1, o, none⟩ : Addr).block := fun o b h e => by simp only at e; omega
  have hq := HQ.out.2.mono (F' := fun b => W.heap.size + 2 ≤ b) (fun b hb _ => by have hb' : w5.heap.size ≤ b := hb; have := HS.out.2.1; have := HSZ5.out; omega)
  exact (((((hq.only (Only.of_setCell _ _ _) (hne _)).only (Only.of_setCell _ _ _) (hne _)).only (Only.of_setCell _ _ _) (hne _)).only (Only.of_setCell _ _ _) (hne _)).only (Only.of_setCell _ _ _) (hne _)).mono (fun b hb _ => by omega)
 ·iterate 5 refine Below.setCell ?_ (show W.heap.size ≤ W.heap.size + 1 from Nat.le_succ _) _
  exact HB6.out
set_option maxHeartbeats 1600000 in
theorem link52_6 (lit i : Int) (q : Option Addr) (c : Nat) (W : World) (hlit : -4611686018427387903 ≤ lit ∧ lit ≤ 4611686018427387903) (hi : -4611686018427387903 ≤ i ∧ i ≤ 4611686018427387903) :
  Calls Tryz.prog 52 #[lkV ⟨6, lit, 0, 0, i, 0, []⟩ q c] W fun e w' => TrR W w' e true 1 ⟨#[40]⟩ (.cons false 3 hAgainst 0 .nil (nusF [lit, i])) := by
 obtain ⟨w2, hw2⟩ : ∃ w2, w2 = ((W.alloc (.cells #[.int .u8 6, .int .i64 lit, .int .i64 0, .int .i64 0, .int .i64 i, .int .i64 0, .slice q 0 c] 64)).alloc (.cells #[.bool false, .int .u8 0, .string ⟨#[]⟩, .int .i64 0, .slice none 0 0] 35)).alloc (.cells #[.int .i64 lit, .int .i64 i] 3) := ⟨_, rfl⟩
 have hb2 : Below W.heap.size W w2 := by rw [hw2]; exact (((below1 W _).alloc (by simp) _).alloc (by simp; omega) _)
 have hsz : w2.heap.size = W.heap.size + 3 := by rw [hw2]; simp
 have hz : BoxT w2 (W.heap.size + 1) false 0 ⟨#[]⟩ 0 (.slice none 0 0) := by
  have h := (box_new (W.alloc (.cells #[.int .u8 6, .int .i64 lit, .int .i64 0, .int .i64 0, .int .i64 i, .int .i64 0, .slice q 0 c] 64)) false 0 ⟨#[]⟩ 0 (.slice none 0 0)).later (below1 _ (.cells #[.int .i64 lit, .int .i64 i] 3))
  rw [hw2]; simpa using h
 have hn : OwnI 3 w2 (fun b => W.heap.size + 2 ≤ b) (.slice (some ⟨W.heap.size + 1 + 1, 0, none⟩) 2 2) [lit, i] := by
  have h := ownI_new (W := (W.alloc (.cells #[.int .u8 6, .int .i64 lit, .int .i64 0, .int .i64 0, .int .i64 i, .int .i64 0, .slice q 0 c] 64)).alloc (.cells #[.bool false, .int .u8 0, .string ⟨#[]⟩, .int .i64 0, .slice none 0 0] 35)) 3 (fun b => W.heap.size + 2 ≤ b) [lit, i] (by simp) (by simp)
  rw [hw2]; simpa using h
 have HS := Lib.hid (And.intro hb2 (And.intro hsz (And.intro hz hn)))
 have HW2 := Lib.hid hw2
 clear hb2 hsz hz hn hw2
 unfold lkV
 go_enter Tryz.func52, Tryz.ntmps52
 go_wp2_with fail
 rw [← HW2.out]
 obtain ⟨q2, c2, hv2, hc2, hc3, hq2, hf2, hi2, hz2⟩ := HS.out.2.2.2.intsIn
 cases hv2
 refine (counts81 _ 2 2 [lit, i] w2 hi2 rfl (by omega) (fun y hy => by simp only [List.mem_cons, List.not_mem_nil, or_false] at hy; rcases hy with rfl | rfl <;> assumption)).mono ?_
 rintro e w3 ⟨q3, c3, rfl, hown, hb⟩
 clear hc2 hc3 hq2 hf2 hi2 hz2
 have HO := Lib.hid hown
 have HZ := Lib.hid (HS.out.2.2.1.later hb)
 have HB := Lib.hid (HS.out.1.trans (hb.mono HS.out.1.size))
 have HSZ := Lib.hid (show w2.heap.size ≤ w3.heap.size from hb.size)
 clear hown hb
 go_wp2_with fail
 refine (list53 _ _ _ (w2.heap.size) _ HO.out HSZ.out (by rw [nusF_len]; simp)).mono ?_
 rintro e w6 ⟨q6, c6, rfl, hc6, hq6, hb6⟩
 have hl6 : (nusF [lit, i]).len + 1 = (Fo.cons false 3 hAgainst 0 .nil (nusF [lit, i])).len := rfl
 rw [hl6] at hc6
 have HQ := Lib.hid (And.intro hc6 hq6)
 have HB6 := Lib.hid (HB.out.trans (hb6.mono HB.out.size))
 obtain ⟨z0, z1, z2, z3, z4, zf⟩ := HZ.out.later hb6
 rw [hl6]
 clear hc6 hq6 hb6 hl6
 unfold trV
 go_wp2_with fail
 refine bodyPost_ret (v := trV true 1 ⟨#[40]⟩ 0 q6 (Fo.cons false 3 hAgainst 0 .nil (nusF [lit, i])).len c6) (by simp [trV, results, Tryz.results52, go_sem, z0, z1, z2, z3, z4]) rfl ⟨q6, c6, rfl, HQ.out.1, ?_, ?_, ?_⟩
 ·simp only [Fo.len]; rw [nusF_len]; simp
 ·have hne : ∀ o b, W.heap.size + 2 ≤ b → ¬ b = (⟨W.heap.size + 1, o, none⟩ : Addr).block := fun o b h e => by simp only at e; omega
  have hq := HQ.out.2.mono (F' := fun b => W.heap.size + 2 ≤ b) (fun b hb _ => by have hb' : w2.heap.size ≤ b := hb; have := HS.out.2.1; omega)
  exact (((((hq.only (Only.of_setCell _ _ _) (hne _)).only (Only.of_setCell _ _ _) (hne _)).only (Only.of_setCell _ _ _) (hne _)).only (Only.of_setCell _ _ _) (hne _)).only (Only.of_setCell _ _ _) (hne _)).mono (fun b hb _ => by omega)
 ·iterate 5 refine Below.setCell ?_ (show W.heap.size ≤ W.heap.size + 1 from Nat.le_succ _) _
  exact HB6.out
set_option maxHeartbeats 1600000 in
theorem link52_7 (i : Int) (q : Option Addr) (c : Nat) (W : World) (hi : -4611686018427387903 ≤ i ∧ i ≤ 4611686018427387903) :
  Calls Tryz.prog 52 #[lkV ⟨7, 0, 0, 0, i, 0, []⟩ q c] W fun e w' => TrR W w' e true 1 ⟨#[40]⟩ (.cons false 3 hClash 0 .nil (nusF [i])) := by
 obtain ⟨w2, hw2⟩ : ∃ w2, w2 = ((W.alloc (.cells #[.int .u8 7, .int .i64 0, .int .i64 0, .int .i64 0, .int .i64 i, .int .i64 0, .slice q 0 c] 64)).alloc (.cells #[.bool false, .int .u8 0, .string ⟨#[]⟩, .int .i64 0, .slice none 0 0] 35)).alloc (.cells #[.int .i64 i] 3) := ⟨_, rfl⟩
 have hb2 : Below W.heap.size W w2 := by rw [hw2]; exact (((below1 W _).alloc (by simp) _).alloc (by simp; omega) _)
 have hsz : w2.heap.size = W.heap.size + 3 := by rw [hw2]; simp
 have hz : BoxT w2 (W.heap.size + 1) false 0 ⟨#[]⟩ 0 (.slice none 0 0) := by
  have h := (box_new (W.alloc (.cells #[.int .u8 7, .int .i64 0, .int .i64 0, .int .i64 0, .int .i64 i, .int .i64 0, .slice q 0 c] 64)) false 0 ⟨#[]⟩ 0 (.slice none 0 0)).later (below1 _ (.cells #[.int .i64 i] 3))
  rw [hw2]; simpa using h
 have hn : OwnI 3 w2 (fun b => W.heap.size + 2 ≤ b) (.slice (some ⟨W.heap.size + 1 + 1, 0, none⟩) 1 1) [i] := by
  have h := ownI_new (W := (W.alloc (.cells #[.int .u8 7, .int .i64 0, .int .i64 0, .int .i64 0, .int .i64 i, .int .i64 0, .slice q 0 c] 64)).alloc (.cells #[.bool false, .int .u8 0, .string ⟨#[]⟩, .int .i64 0, .slice none 0 0] 35)) 3 (fun b => W.heap.size + 2 ≤ b) [i] (by simp) (by simp)
  rw [hw2]; simpa using h
 have HS := Lib.hid (And.intro hb2 (And.intro hsz (And.intro hz hn)))
 have HW2 := Lib.hid hw2
 clear hb2 hsz hz hn hw2
 unfold lkV
 go_enter Tryz.func52, Tryz.ntmps52
 go_wp2_with fail
 rw [← HW2.out]
 obtain ⟨q2, c2, hv2, hc2, hc3, hq2, hf2, hi2, hz2⟩ := HS.out.2.2.2.intsIn
 cases hv2
 refine (counts81 _ 1 1 [i] w2 hi2 rfl (by omega) (fun y hy => by simp only [List.mem_cons, List.not_mem_nil, or_false] at hy; rw [hy]; assumption)).mono ?_
 rintro e w3 ⟨q3, c3, rfl, hown, hb⟩
 clear hc2 hc3 hq2 hf2 hi2 hz2
 have HO := Lib.hid hown
 have HZ := Lib.hid (HS.out.2.2.1.later hb)
 have HB := Lib.hid (HS.out.1.trans (hb.mono HS.out.1.size))
 have HSZ := Lib.hid (show w2.heap.size ≤ w3.heap.size from hb.size)
 clear hown hb
 go_wp2_with fail
 refine (list53 _ _ _ (w2.heap.size) _ HO.out HSZ.out (by rw [nusF_len]; simp)).mono ?_
 rintro e w6 ⟨q6, c6, rfl, hc6, hq6, hb6⟩
 have hl6 : (nusF [i]).len + 1 = (Fo.cons false 3 hClash 0 .nil (nusF [i])).len := rfl
 rw [hl6] at hc6
 have HQ := Lib.hid (And.intro hc6 hq6)
 have HB6 := Lib.hid (HB.out.trans (hb6.mono HB.out.size))
 obtain ⟨z0, z1, z2, z3, z4, zf⟩ := HZ.out.later hb6
 rw [hl6]
 clear hc6 hq6 hb6 hl6
 unfold trV
 go_wp2_with fail
 refine bodyPost_ret (v := trV true 1 ⟨#[40]⟩ 0 q6 (Fo.cons false 3 hClash 0 .nil (nusF [i])).len c6) (by simp [trV, results, Tryz.results52, go_sem, z0, z1, z2, z3, z4]) rfl ⟨q6, c6, rfl, HQ.out.1, ?_, ?_, ?_⟩
 ·simp only [Fo.len]; rw [nusF_len]; simp
 ·have hne : ∀ o b, W.heap.size + 2 ≤ b → ¬ b = (⟨W.heap.size + 1, o, none⟩ : Addr).block := fun o b h e => by simp only at e; omega
  have hq := HQ.out.2.mono (F' := fun b => W.heap.size + 2 ≤ b) (fun b hb _ => by have hb' : w2.heap.size ≤ b := hb; have := HS.out.2.1; omega)
  exact (((((hq.only (Only.of_setCell _ _ _) (hne _)).only (Only.of_setCell _ _ _) (hne _)).only (Only.of_setCell _ _ _) (hne _)).only (Only.of_setCell _ _ _) (hne _)).only (Only.of_setCell _ _ _) (hne _)).mono (fun b hb _ => by omega)
 ·iterate 5 refine Below.setCell ?_ (show W.heap.size ≤ W.heap.size + 1 from Nat.le_succ _) _
  exact HB6.out
def SlOK (q : Option Addr) (c : Nat) : Prop := q = none → c = 0
def LksOK (W : World) (p : Option Addr) (l : List Lk) : Prop := ∀ i (_ : i < l.length) b off, p = some ⟨b, off, none⟩ → ∀ q n c, W.cell? ⟨b, off + i * 7 + 6, none⟩ = some (.slice q n c) → SlOK q c
theorem LksOK.later {W W' : World} {p : Option Addr} {l : List Lk} (h : LksOK W p l) (h2 : LksIn W p l) (hb : Below W.heap.size W W') : LksOK W' p l := fun i hi b off e q n c hc => by
 obtain ⟨b', off', e', _, _, _, _, _, _, q', c', h6, _⟩ := h2 i hi
 rw [e] at e'; cases e'
 have h3 := cell_later hb h6
 rw [hc] at h3
 injection h3 with h3; injection h3 with h4 h5 h6'
 subst h4 h6'
 exact h i hi b off e _ _ _ h6
theorem link52_may (x : Lk) (q : Option Addr) (c : Nat) (W : World) (hl : IntsIn W q x.l) (h : mayLk x = true) (hs : SlOK q c) : Calls Tryz.prog 52 #[lkV x q c] W fun e w' => TrR W w' e true 1 ⟨#[40]⟩ (lkX x) := by
 rcases lk_shape h with ⟨e, h1⟩ | ⟨e, h1⟩ | ⟨e, h1⟩ | ⟨e, h1, h2⟩ | ⟨e, h1, h2, h3, h4⟩ | ⟨e, h1, h2⟩ | ⟨e, h1⟩ <;> obtain ⟨k, lit, a, b, i, j, l⟩ := x <;> cases e
 ·exact link52_1 lit q c W (lit_rng h1)
 ·exact link52_2 a q c W (cnt_rng h1)
 ·exact link52_3 i q c W (cnt_rng h1)
 ·exact link52_4 i j q c W (cnt_rng h1) (cnt_rng h2)
 ·exact link52_5 a b l q c W (cnt_rng h1) (cnt_rng h2) hs hl (Nat.le_trans h3 (by decide)) (fun y hy => cnt_rng (List.all_eq_true.1 h4 y hy))
 ·exact link52_6 lit i q c W (lit_rng h1) (cnt_rng h2)
 ·exact link52_7 i q c W (cnt_rng h1)
def lkC (y : Lk) (q : Option Addr) (c : Nat) : List Value := [.int .u8 y.k, .int .i64 y.lit, .int .i64 y.a, .int .i64 y.b, .int .i64 y.i, .int .i64 y.j, .slice q y.l.length c]
structure IntsB (W : World) (F : Nat → Prop) (q : Option Addr) (l : List Int) : Prop where
 ints : IntsIn W q l
 blk : ∀ ad, q = some ad → F ad.block ∧ ad.block < W.heap.size
theorem IntsB.move {W W' : World} {F F' : Nat → Prop} {q : Option Addr} {l : List Int} (h : IntsB W F q l) (hs : W.heap.size ≤ W'.heap.size) (hc : ∀ b o v, F b → W.cell? ⟨b, o, none⟩ = some v → W'.cell? ⟨b, o, none⟩ = some v) (hF : ∀ b, F b → b < W.heap.size → F' b) : IntsB W' F' q l :=
 ⟨fun i hi => by
  obtain ⟨b, off, e, h1⟩ := h.ints i hi
  exact ⟨b, off, e, hc _ _ _ (h.blk _ e).1 h1⟩, fun ad e => ⟨hF _ (h.blk ad e).1 (h.blk ad e).2, Nat.lt_of_lt_of_le (h.blk ad e).2 hs⟩⟩
def RowK (W : World) (F : Nat → Prop) : List Lk → List Value → Prop
 | [], xs => xs = []
 | y :: r, xs => ∃ q c ys, xs = lkC y q c ++ ys ∧ y.l.length ≤ c ∧ c ≤ 9223372036854775807 ∧ SlOK q c ∧ IntsB W F q y.l ∧ RowK W F r ys
theorem RowK.move {W W' : World} {F F' : Nat → Prop} (hs : W.heap.size ≤ W'.heap.size) (hc : ∀ b o v, F b → W.cell? ⟨b, o, none⟩ = some v → W'.cell? ⟨b, o, none⟩ = some v) (hF : ∀ b, F b → b < W.heap.size → F' b) : ∀ (l : List Lk) (xs : List Value), RowK W F l xs → RowK W' F' l xs
 | [], _, h => h
 | y :: r, xs, h => by
  obtain ⟨q, c, ys, e, h1, h2, h3, h4, h5⟩ := h
  exact ⟨q, c, ys, e, h1, h2, h3, h4.move hs hc hF, RowK.move hs hc hF r ys h5⟩
theorem RowK.snoc {W : World} {F : Nat → Prop} {y : Lk} {q : Option Addr} {c : Nat} (h1 : y.l.length ≤ c) (h2 : c ≤ 9223372036854775807) (h3 : SlOK q c) (h4 : IntsB W F q y.l) : ∀ (l : List Lk) (xs : List Value), RowK W F l xs → RowK W F (l ++ [y]) (xs ++ lkC y q c)
 | [], xs, h => by
  obtain rfl : xs = [] := h
  exact ⟨q, c, [], by simp, h1, h2, h3, h4, rfl⟩
 | z :: r, xs, h => by
  obtain ⟨q0, c0, ys, rfl, g1, g2, g3, g4, g5⟩ := h
  exact ⟨q0, c0, ys ++ lkC y q c, by simp, g1, g2, g3, g4, RowK.snoc h1 h2 h3 h4 r ys g5⟩
theorem RowK.lks {W : World} {F : Nat → Prop} {g : Nat} : ∀ (l : List Lk) (xs : List Value) (off : Nat), RowK W F l xs → (∀ j u, xs[j]? = some u → W.cell? ⟨g, off + j, none⟩ = some u) → LksIn W (some ⟨g, off, none⟩) l ∧ LksOK W (some ⟨g, off, none⟩) l
 | [], _, _, _, _ => ⟨fun i hi => absurd hi (Nat.not_lt_zero i), fun i hi => absurd hi (Nat.not_lt_zero i)⟩
 | y :: r, xs, off, h, hc => by
  obtain ⟨q, c, ys, rfl, h1, h2, h3, h4, h5⟩ := h
  have ih := RowK.lks r ys (off + 7) h5 (fun j u hu => by
   have := hc (7 + j) u (by rw [List.getElem?_append_right (by simp [lkC])]; simpa [lkC] using hu)
   rw [← Nat.add_assoc] at this
   exact this)
  have a6 := hc 6 _ rfl
  refine ⟨fun i hi => ?_, fun i hi => ?_⟩
  ·cases i with
   | zero => exact ⟨g, off, rfl, by simpa using hc 0 _ rfl, by simpa using hc 1 _ rfl, by simpa using hc 2 _ rfl, by simpa using hc 3 _ rfl, by simpa using hc 4 _ rfl, by simpa using hc 5 _ rfl, q, c, by simpa using a6, h4.ints, h1, h2⟩
   | succ i =>
    obtain ⟨b', off', e, c0, c1, c2, c3, c4, c5, q', c', c6, t⟩ := ih.1 i (by simpa using hi)
    cases e
    have ee : off + (i + 1) * 7 = off + 7 + i * 7 := by omega
    exact ⟨g, off, rfl, by rw [ee]; exact c0, by rw [ee]; exact c1, by rw [ee]; exact c2, by rw [ee]; exact c3, by rw [ee]; exact c4, by rw [ee]; exact c5, q', c', by rw [ee]; exact c6, t⟩
  ·intro b off' e q' n' c' hcell
   cases e
   cases i with
   | zero =>
    have a6' : W.cell? ⟨g, off + 0 * 7 + 6, none⟩ = some (.slice q y.l.length c) := by simpa using a6
    rw [a6'] at hcell
    injection hcell with hcell; injection hcell with e1 e2 e3
    subst e1 e3
    exact h3
   | succ i =>
    have ee : off + (i + 1) * 7 = off + 7 + i * 7 := by omega
    rw [ee] at hcell
    exact ih.2 i (by simpa using hi) g (off + 7) rfl q' n' c' hcell
structure OwnK (W : World) (F : Nat → Prop) (v : Value) (l : List Lk) : Prop where
 has : ∃ xs, W.ownsRow 0 64 7 v l.length xs ∧ RowK W (fun b => F b ∧ v.ownBlock ≠ some b) l xs
 blk : ∀ k, v.ownBlock = some k → F k ∧ k < W.heap.size
theorem OwnK.nil (W : World) (F : Nat → Prop) : OwnK W F (.slice none 0 0) [] := ⟨⟨[], ⟨rfl, Or.inl ⟨rfl, rfl⟩⟩, rfl⟩, fun k hk => by cases hk⟩
theorem OwnK.later {W W' : World} {F : Nat → Prop} {v : Value} {l : List Lk} (h : OwnK W F v l) (hb : Below W.heap.size W W') : OwnK W' F v l := by
 obtain ⟨⟨xs, h1, h2⟩, h3⟩ := h
 exact ⟨⟨xs, own_later h1 hb, h2.move hb.size (fun b o v _ hv => cell_later hb hv) (fun _ hb _ => hb)⟩, fun k hk => ⟨(h3 k hk).1, Nat.lt_of_lt_of_le (h3 k hk).2 hb.size⟩⟩
theorem OwnK.only {W W' : World} {F T : Nat → Prop} {v : Value} {l : List Lk} (h : OwnK W F v l) (ho : Only T W W') (hn : ∀ b, F b → ¬ T b) : OwnK W' F v l := by
 obtain ⟨⟨xs, h1, h2⟩, h3⟩ := h
 exact ⟨⟨xs, own_only h1 ho (fun k hk => hn k (h3 k hk).1), h2.move ho.size (fun b o v hb hv => ho.cell hv (hn b hb.1)) (fun _ hb _ => hb)⟩, fun k hk => ⟨(h3 k hk).1, Nat.lt_of_lt_of_le (h3 k hk).2 ho.size⟩⟩
theorem OwnK.mono {W : World} {F F' : Nat → Prop} {v : Value} {l : List Lk} (h : OwnK W F v l) (hn : ∀ b, F b → b < W.heap.size → F' b) : OwnK W F' v l := by
 obtain ⟨⟨xs, h1, h2⟩, h3⟩ := h
 exact ⟨⟨xs, h1, h2.move (Nat.le_refl _) (fun _ _ _ _ hv => hv) (fun b hb hl => ⟨hn b hb.1 hl, hb.2⟩)⟩, fun k hk => ⟨hn k (h3 k hk).1 (h3 k hk).2, (h3 k hk).2⟩⟩
theorem own_cellN {w : World} {base n c : Nat} {e : TypeId} {size g : Nat} {xs : List Value} (h : w.ownsRow base e size (.slice (some ⟨g, 0, none⟩) n c) n xs) (i : Nat) (u : Value) (hu : xs[i]? = some u) : w.cell? ⟨g, i, none⟩ = some u ∧ w.frozen? ⟨g, i, none⟩ = false := by
 obtain ⟨h0, ⟨h1, _⟩ | ⟨g', cap, cur, hv, hg, hh, hn, hm, hs, ht⟩⟩ := h
 ·cases h1
 ·cases hv
  have hlt := (List.getElem?_eq_some_iff.1 hu).1
  rw [← ht, List.getElem?_take_of_lt (by omega)] at hu
  have e' : cur[i]? = some u := by simpa using hu
  exact ⟨by simp [World.cell?, hh, e'], by simp [World.frozen?, hh]⟩
theorem OwnK.lks {W : World} {F : Nat → Prop} {v : Value} {l : List Lk} (h : OwnK W F v l) : ∃ q c, v = .slice q l.length c ∧ l.length ≤ c ∧ SlOK q c ∧ LksIn W q l ∧ LksOK W q l := by
 obtain ⟨⟨xs, h1, h2⟩, h3⟩ := h
 obtain ⟨q, c, rfl, hq⟩ := own_shape h1
 have hc := own_cap h1
 rcases h1.2 with ⟨e, e2⟩ | ⟨g, cap, cur, e, hg, hh, hn, hm, hs, ht⟩
 ·injection e with e3 e4 e5
  subst e3 e5
  have : l = [] := List.eq_nil_of_length_eq_zero e2
  subst this
  exact ⟨none, 0, rfl, hc, fun _ => rfl, fun i hi => absurd hi (Nat.not_lt_zero i), fun i hi => absurd hi (Nat.not_lt_zero i)⟩
 ·injection e with e3 e4 e5
  subst e3
  have hh2 := RowK.lks (g := g) l xs 0 h2 (fun j u hu => by rw [Nat.zero_add]; exact (own_cellN h1 j u hu).1)
  exact ⟨_, c, rfl, hc, (fun h => by cases h), hh2.1, hh2.2⟩
def Z64 : Value := .agg #[.int .u8 0, .int .i64 0, .int .i64 0, .int .i64 0, .int .i64 0, .int .i64 0, .slice none 0 0]
theorem info64 : ∃ i0, Tryz.prog.info? 64 = some i0 ∧ i0.zero = some Z64 ∧ i0.size = 7 ∧ i0.bytes = 72 := info_of (by kernel_rfl)
section
variable {w : World} {ops : Array Oper} {rest : List Oper} {o : Oper} {a : Act} {Q : Exit → Act → World → Prop} {K : Act → World → Prop}
theorem wp_push_link (s x : Operand) (ho : o.op = .call { callee := .builtin .append, args := #[s, x], argTypes := #[24, 24] })
  (F G : Nat → Prop) (B : Nat) (v : Value) (l : List Lk) (y : Lk) (q : Option Addr) (c : Nat)
  (hs : a.eval s = v) (hx : a.eval x = .slice (some ⟨B, 0, none⟩) 1 1) (own : OwnK w F v l) (hb : LkAt w B y q c) (hq : IntsB w G q y.l) (hc : y.l.length ≤ c) (hm : c ≤ 9223372036854775807) (hok : SlOK q c)
  (hG : ∀ b, G b → b < w.heap.size → F b ∧ v.ownBlock ≠ some b) (hnew : F w.heap.size) (hf : l.length ≤ 1000000000)
  (h : ∀ p' c' w', OwnK w' F (.slice p' (l.length + 1) c') (l ++ [y]) → Only (fun j => v.ownBlock = some j) w w' → K (a.put o.dst (.slice p' (l.length + 1) c')) w') : o.wp Tryz.prog a w K Q := by
 obtain ⟨⟨xs, ho1, hrw⟩, hbk⟩ := own
 obtain ⟨i0, hi, hz0, hz1, hz2⟩ := info64
 refine wp_append_own_at s x 24 ho 0 64 i0 Z64 7 72 Tryz.underlying24 hi hz0 hz1 hz2 rfl (by omega) v l.length xs hs ho1 ⟨B, 0, none⟩ 1 1 (lkC y q c) hx (by rfl) ?_ ?_ ?_ ?_ (Nat.zero_le _) ?_
 ·intro jj u hjj
  rw [Lib.add_plain]
  match jj, hjj with
  | 0, hjj => cases hjj; exact hb.c0
  | 1, hjj => cases hjj; exact hb.c1
  | 2, hjj => cases hjj; exact hb.c2
  | 3, hjj => cases hjj; exact hb.c3
  | 4, hjj => cases hjj; exact hb.c4
  | 5, hjj => cases hjj; exact hb.c5
  | 6, hjj => cases hjj; exact hb.c6
 ·intro u hu; simp [lkC] at hu; rcases hu with rfl | rfl | rfl | rfl | rfl | rfl | rfl <;> rfl
 ·have hml : maxLen = 9223372036854775807 := rfl
  omega
 ·omega
 intro v8 w8 hown hgrow hnil_ hloc
 obtain ⟨p8, c8, hv8, hA_⟩ := own_shape hown
 have ho8 := Only.of_grown hgrow
 subst hv8
 refine h p8 c8 w8 ⟨⟨xs ++ lkC y q c, by rw [List.length_append]; exact hown, ?_⟩, fun j hj => ⟨?_, (own_lt hown hj).2⟩⟩ ho8
 ·have hq2 : IntsB w (fun b => F b ∧ v.ownBlock ≠ some b) q y.l := hq.move (Nat.le_refl _) (fun _ _ _ _ hv => hv) (fun b hb hl => hG b hb hl)
  have hr := RowK.snoc hc hm hok hq2 l xs hrw
  refine hr.move ho8.size (fun b o u hb hu => ho8.cell hu hb.2) (fun b hb hlt => ⟨hb.1, fun e => ?_⟩)
  rcases hloc with h | h
  ·exact hb.2 (h ▸ e)
  ·rw [h] at e; injection e with e; omega
 ·rcases hloc with h | h
  ·exact (hbk j (h ▸ hj)).1
  ·rw [h] at hj; injection hj with hj; exact hj ▸ hnew
theorem wpList_push_link (hgd : o.guard = none) (s x : Operand) (ho : o.op = .call { callee := .builtin .append, args := #[s, x], argTypes := #[24, 24] })
  (F G : Nat → Prop) (B : Nat) (v : Value) (l : List Lk) (y : Lk) (q : Option Addr) (c : Nat)
  (hs : a.eval s = v) (hx : a.eval x = .slice (some ⟨B, 0, none⟩) 1 1) (own : OwnK w F v l) (hb : LkAt w B y q c) (hq : IntsB w G q y.l) (hc : y.l.length ≤ c) (hm : c ≤ 9223372036854775807) (hok : SlOK q c)
  (hG : ∀ b, G b → b < w.heap.size → F b ∧ v.ownBlock ≠ some b) (hnew : F w.heap.size) (hf : l.length ≤ 1000000000)
  (h : ∀ p' c' w', OwnK w' F (.slice p' (l.length + 1) c') (l ++ [y]) → Only (fun j => v.ownBlock = some j) w w' → wpList Tryz.prog ops Q rest (a.put o.dst (.slice p' (l.length + 1) c')) w') : wpList Tryz.prog ops Q (o :: rest) a w :=
 wpList_plain hgd fun _ hK => wp_push_link s x ho F G B v l y q c hs hx own hb hq hc hm hok hG hnew hf (fun p' c' w' h1 h2 => hK _ _ (h p' c' w' h1 h2))
end
theorem OwnI.intsB {e : TypeId} {W : World} {F : Nat → Prop} {v : Value} {l : List Int} (h : OwnI e W F v l) : ∃ q c, v = .slice q l.length c ∧ l.length ≤ c ∧ c ≤ 9223372036854775807 ∧ SlOK q c ∧ IntsB W F q l := by
 obtain ⟨q, c, hv, h1, h2, h3, h4, h5, _⟩ := h.intsIn
 refine ⟨q, c, hv, h1, h2, h3, h5, fun ad e => ?_⟩
 ·refine ⟨(h4 ad e).2, ?_⟩
  subst hv
  obtain ⟨g, o, ix⟩ := ad
  have e2 := (h4 _ e).1
  cases e2
  exact (h.blk g (by rw [e]; rfl)).2
structure BoxS (w : World) (b : Nat) (k : Int) (v1 v2 : Value) (x y : Int) : Prop where
 c0 : w.cell? ⟨b, 0, none⟩ = some (.int .u8 k)
 c1 : w.cell? ⟨b, 1, none⟩ = some v1
 c2 : w.cell? ⟨b, 2, none⟩ = some v2
 c3 : w.cell? ⟨b, 3, none⟩ = some (.int .i64 x)
 c4 : w.cell? ⟨b, 4, none⟩ = some (.int .i64 y)
 fz : ∀ o, w.frozen? ⟨b, o, none⟩ = false
theorem BoxS.lt {w : World} {b : Nat} {k x y : Int} {v1 v2 : Value} (h : BoxS w b k v1 v2 x y) : b < w.heap.size := World.block_lt_of_cell? w _ h.c0
theorem BoxS.only {w w' : World} {b : Nat} {k x y : Int} {v1 v2 : Value} {T : Nat → Prop} (h : BoxS w b k v1 v2 x y) (ho : Only T w w') (hn : ¬ T b) : BoxS w' b k v1 v2 x y :=
 ⟨ho.cell h.c0 hn, ho.cell h.c1 hn, ho.cell h.c2 hn, ho.cell h.c3 hn, ho.cell h.c4 hn, fun o => by rw [ho.frozen (a := ⟨b, o, none⟩) h.lt hn]; exact h.fz o⟩
theorem BoxS.later {w w' : World} {b : Nat} {k x y : Int} {v1 v2 : Value} (h : BoxS w b k v1 v2 x y) (hb : Below w.heap.size w w') : BoxS w' b k v1 v2 x y :=
 h.only (Only.of_below (T := fun _ => False) hb) (fun h => h)
theorem boxS_new (w : World) (k x y : Int) (v1 v2 : Value) : BoxS (w.alloc (.cells #[.int .u8 k, v1, v2, .int .i64 x, .int .i64 y] 26)) w.heap.size k v1 v2 x y :=
 ⟨by simp [go_sem], by simp [go_sem], by simp [go_sem], by simp [go_sem], by simp [go_sem], fun o => by simp [go_sem]⟩
theorem BoxS.set1 {w : World} {b : Nat} {k x y : Int} {v1 v2 : Value} (h : BoxS w b k v1 v2 x y) (v : Value) : BoxS (w.setCell ⟨b, 1, none⟩ v) b k v v2 x y := by
 refine ⟨?_, ?_, ?_, ?_, ?_, fun o => ?_⟩
 ·rw [World.cell?_setCell_other _ _ _ _ (by intro e; cases e)]; exact h.c0
 ·have := h.c1
  have hf := h.fz 1
  simp [go_sem, this]
 ·rw [World.cell?_setCell_other _ _ _ _ (by intro e; cases e)]; exact h.c2
 ·rw [World.cell?_setCell_other _ _ _ _ (by intro e; cases e)]; exact h.c3
 ·rw [World.cell?_setCell_other _ _ _ _ (by intro e; cases e)]; exact h.c4
 ·have := h.fz o
  simp [go_sem, this]
theorem BoxS.set2 {w : World} {b : Nat} {k x y : Int} {v1 v2 : Value} (h : BoxS w b k v1 v2 x y) (v : Value) : BoxS (w.setCell ⟨b, 2, none⟩ v) b k v1 v x y := by
 refine ⟨?_, ?_, ?_, ?_, ?_, fun o => ?_⟩
 ·rw [World.cell?_setCell_other _ _ _ _ (by intro e; cases e)]; exact h.c0
 ·rw [World.cell?_setCell_other _ _ _ _ (by intro e; cases e)]; exact h.c1
 ·have := h.c2
  have hf := h.fz 2
  simp [go_sem, this]
 ·rw [World.cell?_setCell_other _ _ _ _ (by intro e; cases e)]; exact h.c3
 ·rw [World.cell?_setCell_other _ _ _ _ (by intro e; cases e)]; exact h.c4
 ·have := h.fz o
  simp [go_sem, this]
structure BoxL (w : World) (b : Nat) (y : Lk) (v : Value) : Prop where
 c0 : w.cell? ⟨b, 0, none⟩ = some (.int .u8 y.k)
 c1 : w.cell? ⟨b, 1, none⟩ = some (.int .i64 y.lit)
 c2 : w.cell? ⟨b, 2, none⟩ = some (.int .i64 y.a)
 c3 : w.cell? ⟨b, 3, none⟩ = some (.int .i64 y.b)
 c4 : w.cell? ⟨b, 4, none⟩ = some (.int .i64 y.i)
 c5 : w.cell? ⟨b, 5, none⟩ = some (.int .i64 y.j)
 c6 : w.cell? ⟨b, 6, none⟩ = some v
 fz : ∀ o, w.frozen? ⟨b, o, none⟩ = false
theorem BoxL.lt {w : World} {b : Nat} {y : Lk} {v : Value} (h : BoxL w b y v) : b < w.heap.size := World.block_lt_of_cell? w _ h.c0
theorem BoxL.only {w w' : World} {b : Nat} {y : Lk} {v : Value} {T : Nat → Prop} (h : BoxL w b y v) (ho : Only T w w') (hn : ¬ T b) : BoxL w' b y v :=
 ⟨ho.cell h.c0 hn, ho.cell h.c1 hn, ho.cell h.c2 hn, ho.cell h.c3 hn, ho.cell h.c4 hn, ho.cell h.c5 hn, ho.cell h.c6 hn, fun o => by rw [ho.frozen (a := ⟨b, o, none⟩) h.lt hn]; exact h.fz o⟩
theorem BoxL.later {w w' : World} {b : Nat} {y : Lk} {v : Value} (h : BoxL w b y v) (hb : Below w.heap.size w w') : BoxL w' b y v :=
 h.only (Only.of_below (T := fun _ => False) hb) (fun h => h)
theorem boxL_new (w : World) (y : Lk) (v : Value) : BoxL (w.alloc (.cells #[.int .u8 y.k, .int .i64 y.lit, .int .i64 y.a, .int .i64 y.b, .int .i64 y.i, .int .i64 y.j, v] 64)) w.heap.size y v :=
 ⟨by simp [go_sem], by simp [go_sem], by simp [go_sem], by simp [go_sem], by simp [go_sem], by simp [go_sem], by simp [go_sem], fun o => by simp [go_sem]⟩
theorem BoxL.set6 {w : World} {b : Nat} {y : Lk} {v : Value} (h : BoxL w b y v) (u : Value) : BoxL (w.setCell ⟨b, 6, none⟩ u) b y u := by
 refine ⟨?_, ?_, ?_, ?_, ?_, ?_, ?_, fun o => ?_⟩
 ·rw [World.cell?_setCell_other _ _ _ _ (by intro e; cases e)]; exact h.c0
 ·rw [World.cell?_setCell_other _ _ _ _ (by intro e; cases e)]; exact h.c1
 ·rw [World.cell?_setCell_other _ _ _ _ (by intro e; cases e)]; exact h.c2
 ·rw [World.cell?_setCell_other _ _ _ _ (by intro e; cases e)]; exact h.c3
 ·rw [World.cell?_setCell_other _ _ _ _ (by intro e; cases e)]; exact h.c4
 ·rw [World.cell?_setCell_other _ _ _ _ (by intro e; cases e)]; exact h.c5
 ·have := h.c6
  have hf := h.fz 6
  simp [go_sem, this]
 ·have := h.fz o
  simp [go_sem, this]
theorem only5 (w : World) (B : Nat) (v0 v1 v2 v3 v4 : Value) : Only (fun k => k = B) w (((((w.setCell ⟨B, 0, none⟩ v0).setCell ⟨B, 1, none⟩ v1).setCell ⟨B, 2, none⟩ v2).setCell ⟨B, 3, none⟩ v3).setCell ⟨B, 4, none⟩ v4) := by
 have T : ∀ (x y z : World), Only (fun k => k = B) x y → Only (fun k => k = B) y z → Only (fun k => k = B) x z := fun x y z h k => h.trans k
 exact T _ _ _ (T _ _ _ (T _ _ _ (T _ _ _ (Only.of_setCell w ⟨B, 0, none⟩ _) (Only.of_setCell _ ⟨B, 1, none⟩ _)) (Only.of_setCell _ ⟨B, 2, none⟩ _)) (Only.of_setCell _ ⟨B, 3, none⟩ _)) (Only.of_setCell _ ⟨B, 4, none⟩ _)
structure R9 (W : World) (N : Nat) (x : Stp) (p : Option Addr) (c : Nat) (q : Option Addr) (d : Nat) (v1 : Value) (w : World) : Prop where
 st : StAt w W.heap.size x p c q d
 res : BoxS w (W.heap.size + 1) 0 (.slice none 0 0) (.slice none 0 0) 0 0
 lits : OwnI 44 w (fun b => W.heap.size + 3 ≤ b ∧ b < N) v1 x.lits
 below : Below W.heap.size W w
 lt : N ≤ w.heap.size
theorem R9.only {W w w' : World} {N : Nat} {x : Stp} {p : Option Addr} {c : Nat} {q : Option Addr} {d : Nat} {v1 : Value} {T : Nat → Prop} (h : R9 W N x p c q d v1 w) (hN : W.heap.size + 3 ≤ N) (ho : Only T w w') (hT : ∀ k, T k → k = W.heap.size + 2 ∨ N ≤ k) : R9 W N x p c q d v1 w' :=
 ⟨h.st.only ho (fun e => by have := hT _ e; omega), h.res.only ho (fun e => by have := hT _ e; omega), h.lits.only ho (fun b hb e => by have := hT _ e; omega), h.below.trans (ho.below (B := W.heap.size) (fun k e => by have := hT _ e; omega) h.below.size), Nat.le_trans h.lt ho.size⟩
theorem R9.later {W w w' : World} {N : Nat} {x : Stp} {p : Option Addr} {c : Nat} {q : Option Addr} {d : Nat} {v1 : Value} (h : R9 W N x p c q d v1 w) (hN : W.heap.size + 3 ≤ N) (hb : Below w.heap.size w w') : R9 W N x p c q d v1 w' :=
 h.only hN (Only.of_below (T := fun _ => False) hb) (fun _ e => e.elim)
set_option maxHeartbeats 6400000 in
theorem copy9 (x : Stp) (p : Option Addr) (c : Nat) (q : Option Addr) (d : Nat) (W : World) (h1 : IntsIn W p x.lits) (h2 : LksIn W q x.links) (h3 : LksOK W q x.links) (hp : SlOK p c) (n1 : x.lits.length ≤ 1000000) (n2 : x.links.length ≤ 1000000) (n3 : ∀ y ∈ x.links, y.l.length ≤ 1000000) :
  Calls Tryz.prog 9 #[stV x p c q d] W fun e w' => ∃ p' c' q' d', e = .returned (stV x p' c' q' d') ∧ IntsIn w' p' x.lits ∧ SlOK p' c' ∧ x.lits.length ≤ c' ∧ LksIn w' q' x.links ∧ LksOK w' q' x.links ∧ SlOK q' d' ∧ x.links.length ≤ d' ∧ Below W.heap.size W w' := by
 obtain ⟨w3, hw3⟩ : ∃ w3, w3 = (((W.alloc (.cells #[.int .u8 x.k, .slice p x.lits.length c, .slice q x.links.length d, .int .i64 x.a, .int .i64 x.b] 26)).alloc (.cells #[.int .u8 0, .slice none 0 0, .slice none 0 0, .int .i64 0, .int .i64 0] 26)).alloc (.cells #[.int .u8 x.k, .slice p x.lits.length c, .slice q x.links.length d, .int .i64 x.a, .int .i64 x.b] 26)).alloc (.cells #[] 44) := ⟨_, rfl⟩
 have hb3 : Below W.heap.size W w3 := by rw [hw3]; exact (((below1 W _).alloc (by simp) _).alloc (by simp; omega) _).alloc (by simp; omega) _
 have hsz : w3.heap.size = W.heap.size + 4 := by rw [hw3]; simp
 have hst : StAt w3 W.heap.size x p c q d := by
  rw [hw3]
  exact ⟨by simp [go_sem], by simp [go_sem], by simp [go_sem], by simp [go_sem], by simp [go_sem]⟩
 have hz : BoxS w3 (W.heap.size + 1) 0 (.slice none 0 0) (.slice none 0 0) 0 0 := by
  have h := ((boxS_new (W.alloc (.cells #[.int .u8 x.k, .slice p x.lits.length c, .slice q x.links.length d, .int .i64 x.a, .int .i64 x.b] 26)) 0 0 0 (.slice none 0 0) (.slice none 0 0)).later (below1 _ (.cells #[.int .u8 x.k, .slice p x.lits.length c, .slice q x.links.length d, .int .i64 x.a, .int .i64 x.b] 26))).later (below1 _ (.cells #[] 44))
  rw [hw3]; simpa using h
 have ht : BoxS w3 (W.heap.size + 1 + 1) x.k (.slice p x.lits.length c) (.slice q x.links.length d) x.a x.b := by
  have h := (boxS_new ((W.alloc (.cells #[.int .u8 x.k, .slice p x.lits.length c, .slice q x.links.length d, .int .i64 x.a, .int .i64 x.b] 26)).alloc (.cells #[.int .u8 0, .slice none 0 0, .slice none 0 0, .int .i64 0, .int .i64 0] 26)) x.k x.a x.b (.slice p x.lits.length c) (.slice q x.links.length d)).later (below1 _ (.cells #[] 44))
  rw [hw3]; simpa using h
 have ho : OwnI 44 w3 (fun b => W.heap.size + 3 ≤ b) (.slice (some ⟨W.heap.size + 1 + 1 + 1, 0, none⟩) 0 0) [] := by
  have h := ownI_new (W := ((W.alloc (.cells #[.int .u8 x.k, .slice p x.lits.length c, .slice q x.links.length d, .int .i64 x.a, .int .i64 x.b] 26)).alloc (.cells #[.int .u8 0, .slice none 0 0, .slice none 0 0, .int .i64 0, .int .i64 0] 26)).alloc (.cells #[.int .u8 x.k, .slice p x.lits.length c, .slice q x.links.length d, .int .i64 x.a, .int .i64 x.b] 26)) 44 (fun b => W.heap.size + 3 ≤ b) [] (by simp) (by simp)
  rw [hw3]; simpa using h
 have HS := Lib.hid (And.intro hst (And.intro hz (And.intro ht (And.intro ho (And.intro hb3 hsz)))))
 have HW3 := Lib.hid hw3
 have HI := Lib.hid (And.intro h1 (And.intro h2 (And.intro h3 (And.intro hp (And.intro n1 (And.intro n2 n3))))))
 have l1 : (x.lits.length : Int) ≤ 1000000 := by omega
 clear h1 h2 h3 hp n1 n2 n3 hw3 hb3 hsz hst hz ht ho
 unfold stV
 go_enter Tryz.func9, Tryz.ntmps9
 go_wp2_with (at_builtin; rw [← HW3.out]; refine wpList_join_ints intE23 (by rfl) _ _ (by rfl) (fun b => W.heap.size + 3 ≤ b) (.slice (some ⟨W.heap.size + 1 + 1 + 1, 0, none⟩) 0 0) [] p x.lits.length c x.lits (by rfl) (by rfl) HS.out.2.2.2.1 (HI.out.1.later HS.out.2.2.2.2.1) rfl ?_ ?_ (by simp) (Nat.le_trans HI.out.2.2.2.2.1 (by decide)) ?_)
 case refine_1 =>
  intro h
  refine ⟨?_, HI.out.2.2.2.1 h⟩
  rcases Nat.eq_zero_or_pos x.lits.length with h0 | h0
  ·exact h0
  ·obtain ⟨b', o', e', _⟩ := HI.out.1 0 h0
   rw [h] at e'; cases e'
 case refine_2 => have := HS.out.2.2.2.2.2; omega
 intro p5 c5 w5 hown5 ho5 hnn
 obtain ⟨N, hN⟩ : ∃ N, N = w5.heap.size := ⟨_, rfl⟩
 have hge : W.heap.size + 4 ≤ N := by have := ho5.size; have := HS.out.2.2.2.2.2; omega
 have HN := Lib.hid (show W.heap.size + 4 ≤ N from hge)
 have hT5 : ∀ j, (Value.slice (some ⟨W.heap.size + 1 + 1 + 1, 0, none⟩) 0 0).ownBlock = some j → W.heap.size + 3 ≤ j := fun j e => by have := own_eq e; omega
 have hR : R9 W N x p c q d (.slice p5 x.lits.length c5) w5 := ⟨HS.out.1.only ho5 (fun e => by have := hT5 _ e; omega), HS.out.2.1.only ho5 (fun e => by have := hT5 _ e; omega), hown5.mono (fun b hb hl => ⟨hb, by omega⟩), HS.out.2.2.2.2.1.trans (ho5.below (B := W.heap.size) (fun k e => by have := hT5 _ e; omega) HS.out.2.2.2.2.1.size), by omega⟩
 have ht5 : BoxS w5 (W.heap.size + 1 + 1) x.k (.slice p x.lits.length c) (.slice q x.links.length d) x.a x.b := HS.out.2.2.1.only ho5 (fun e => by have := hT5 _ e; omega)
 have HT5 := Lib.hid ht5
 have HR5 := Lib.hid hR
 clear hown5 ho5 hnn hN hge hT5 hR HW3 HS
 obtain ⟨t0, t1, t2, t3, t4, tf⟩ := ht5
 go_wp2_with fail
 clear t0 t1 t2 t3 t4 tf
 obtain ⟨w6, hw6⟩ : ∃ w6, w6 = (w5.setCell ⟨W.heap.size + 1 + 1, 1, none⟩ (.slice p5 x.lits.length c5)).setCell ⟨W.heap.size + 1 + 1, 2, none⟩ (.slice none 0 0) := ⟨_, rfl⟩
 have HT6 := Lib.hid (show BoxS w6 (W.heap.size + 1 + 1) x.k (.slice p5 x.lits.length c5) (.slice none 0 0) x.a x.b from by rw [hw6]; exact (HT5.out.set1 _).set2 _)
 have HR6 := Lib.hid (show R9 W N x p c q d (.slice p5 x.lits.length c5) w6 from by
  have h5 := HN.out
  rw [hw6]
  exact (HR5.out.only (by omega) (Only.of_setCell _ _ _) (fun k e => Or.inl e)).only (by omega) (Only.of_setCell _ _ _) (fun k e => Or.inl e))
 rw [← hw6]
 clear hw6 HT5 HR5
 obtain ⟨m, hmm⟩ : ∃ m, m = x.links.length := ⟨_, rfl⟩
 have HM := Lib.hid hmm
 have m1 : (m : Int) ≤ 1000000 := by have := HI.out.2.2.2.2.2.1; omega
 have m2 : m ≤ 1000000 := by omega
 rw [← hmm]
 clear hmm
 go_loopg [4] m (fun gk s wx => ∃ k : Nat, k + gk = m ∧ s = .int .i64 (k : Int) ∧ Hid (∃ p3 c3, BoxS wx (W.heap.size + 1 + 1) x.k (.slice p5 x.lits.length c5) (.slice p3 k c3) x.a x.b ∧ OwnK wx (fun b => N ≤ b) (.slice p3 k c3) (x.links.take k) ∧ R9 W N x p c q d (.slice p5 x.lits.length c5) wx))
 case atStart => exact ⟨0, by omega, rfl, Lib.hid ⟨none, 0, HT6.out, OwnK.nil _ _, HR6.out⟩⟩
 case round =>
  obtain ⟨k, hk, rfl, HR0⟩ := hrel
  obtain ⟨p3, c3, hbx, hown, hr9⟩ := HR0.out
  have HR := Lib.hid (And.intro hbx (And.intro hown hr9))
  obtain ⟨z0, z1, z2, z3, z4⟩ := hr9.st
  rw [← HM.out] at z2
  clear HR0 hown hr9 hbx
  have k0 : (0 : Int) ≤ (k : Int) := Int.natCast_nonneg k
  by_cases hlt : k < m
  ·have k1 : (k : Int) < (m : Int) := Int.ofNat_lt.2 hlt
   have hkl : k < x.links.length := by rw [← HM.out]; exact hlt
   obtain ⟨b6, off6, hqe, c0, c1, c2, c3', c4', c5', q1, d1, c6, hi1, hd1, hd2⟩ := (HI.out.2.1.later HR.out.2.2.below) k hkl
   subst hqe
   have HSL := Lib.hid ((HI.out.2.2.1.later HI.out.2.1 HR.out.2.2.below) k hkl b6 off6 rfl _ _ _ c6)
   have HS := Lib.hid (step_ok hlt (show m ≤ 9223372036854775807 from by omega))
   obtain ⟨y, hy⟩ : ∃ y, y = x.links[k] := ⟨_, rfl⟩
   have HE := Lib.hid (show x.links.take (k + 1) = x.links.take k ++ [y] from by rw [hy, List.take_add_one, List.getElem?_eq_getElem hkl]; rfl)
   have HMY := Lib.hid (show y ∈ x.links from by rw [hy]; exact List.getElem_mem hkl)
   rw [← hy] at c0 c1 c2 c3' c4' c5' c6 hi1 hd1
   have HKK := Lib.hid hk
   have HLT := Lib.hid hlt
   have HYI := Lib.hid (And.intro hi1 (And.intro hd1 hd2))
   have y1 : (y.l.length : Int) ≤ 1000000 := by have := HI.out.2.2.2.2.2.2 y HMY.out; omega
   obtain ⟨wa, hwa⟩ : ∃ wa, wa = (wr.alloc (.cells #[.int .u8 y.k, .int .i64 y.lit, .int .i64 y.a, .int .i64 y.b, .int .i64 y.i, .int .i64 y.j, .slice q1 y.l.length d1] 64)).alloc (.cells #[] 3) := ⟨_, rfl⟩
   have HBA := Lib.hid (show Below wr.heap.size wr wa from by rw [hwa]; exact (below1 wr _).alloc (by simp) _)
   have HSA := Lib.hid (show wa.heap.size = wr.heap.size + 2 from by rw [hwa]; simp)
   have HLA := Lib.hid (show BoxL wa wr.heap.size y (.slice q1 y.l.length d1) from by
    have h := (boxL_new wr y (.slice q1 y.l.length d1)).later (below1 _ (.cells #[] 3))
    rw [hwa]; exact h)
   have HOA := Lib.hid (show OwnI 3 wa (fun b => wr.heap.size + 1 ≤ b) (.slice (some ⟨wr.heap.size + 1, 0, none⟩) 0 0) [] from by
    have h := ownI_new (W := wr.alloc (.cells #[.int .u8 y.k, .int .i64 y.lit, .int .i64 y.a, .int .i64 y.b, .int .i64 y.i, .int .i64 y.j, .slice q1 y.l.length d1] 64)) 3 (fun b => wr.heap.size + 1 ≤ b) [] (by simp) (by simp)
    rw [hwa]; simpa using h)
   have HWA := Lib.hid hwa
   clear hy hkl hk hlt hi1 hd1 hd2 hwa z1
   go_wp2_with (at_builtin; rw [← HWA.out]; refine wpList_join_ints intE62 (by rfl) _ _ (by rfl) (fun b => wr.heap.size + 1 ≤ b) (.slice (some ⟨wr.heap.size + 1, 0, none⟩) 0 0) [] q1 y.l.length d1 y.l (by rfl) (by rfl) HOA.out (HYI.out.1.later HBA.out) rfl ?_ ?_ (by simp) (Nat.le_trans (HI.out.2.2.2.2.2.2 y HMY.out) (by decide)) ?_)
   case refine_1 =>
    intro h
    refine ⟨?_, HSL.out h⟩
    rcases Nat.eq_zero_or_pos y.l.length with h0 | h0
    ·exact h0
    ·obtain ⟨b', o', e', _⟩ := HYI.out.1 0 h0
     rw [h] at e'; cases e'
   case refine_2 => have := HSA.out; omega
   intro p7 c7 w7 hown7 ho7 hnn7
   have hT7 : ∀ j, (Value.slice (some ⟨wr.heap.size + 1, 0, none⟩) 0 0).ownBlock = some j → j = wr.heap.size + 1 := fun j e => own_eq e
   have hgN : N ≤ wr.heap.size := HR.out.2.2.lt
   have hg2 := HR.out.2.2.res.lt
   have hN4 := HN.out
   have hl7 : BoxL w7 wr.heap.size y (.slice q1 y.l.length d1) := HLA.out.only ho7 (fun e => by have := hT7 _ e; omega)
   have hx7 := (HR.out.1.later HBA.out).only ho7 (fun e => by have := hT7 _ e; omega)
   have hk7 := (HR.out.2.1.mono (F' := fun b => N ≤ b ∧ b < wr.heap.size) (fun b hb hl => ⟨hb, hl⟩)).later HBA.out |>.only ho7 (fun b hb e => by have := hT7 _ e; omega)
   have hr7 := (HR.out.2.2.later (by omega) HBA.out).only (by omega) ho7 (fun k e => Or.inr (by have := hT7 _ e; omega))
   have hsz7 := ho7.size
   obtain ⟨w8, hw8⟩ : ∃ w8, w8 = w7.setCell ⟨wr.heap.size, 6, none⟩ (.slice p7 y.l.length c7) := ⟨_, rfl⟩
   have ho8 : Only (fun k => k = wr.heap.size) w7 w8 := by rw [hw8]; exact Only.of_setCell w7 ⟨wr.heap.size, 6, none⟩ _
   have hl8 : BoxL w8 wr.heap.size y (.slice p7 y.l.length c7) := by rw [hw8]; exact hl7.set6 _
   have hw8s : w8.heap.size = w7.heap.size := by rw [hw8]; simp
   obtain ⟨w9, hw9⟩ : ∃ w9, w9 = w8.alloc (.cells #[.int .u8 y.k, .int .i64 y.lit, .int .i64 y.a, .int .i64 y.b, .int .i64 y.i, .int .i64 y.j, .slice p7 y.l.length c7] 64) := ⟨_, rfl⟩
   have hb9 : Below w8.heap.size w8 w9 := by rw [hw9]; exact below1 _ _
   have HW8 := Lib.hid hw8
   have HW9 := Lib.hid hw9
   have HX9 := Lib.hid ((hx7.only ho8 (by omega)).later hb9)
   have HK9 := Lib.hid ((hk7.only ho8 (fun b hb e => by omega)).later hb9)
   have HR9 := Lib.hid ((hr7.only (by omega) ho8 (fun k e => Or.inr (by omega))).later (by omega) hb9)
   have HI9 := Lib.hid ((hown7.only ho8 (fun b hb e => by omega)).later hb9)
   have HL9 := Lib.hid (show LkAt w9 w7.heap.size y p7 c7 from by
    have h := boxL_new w8 y (.slice p7 y.l.length c7)
    rw [hw8s] at h
    rw [hw9]
    exact ⟨h.c0, h.c1, h.c2, h.c3, h.c4, h.c5, h.c6⟩)
   have HSZ := Lib.hid (show wr.heap.size + 2 ≤ w8.heap.size ∧ w9.heap.size = w8.heap.size + 1 ∧ N ≤ wr.heap.size ∧ W.heap.size + 4 ≤ N from ⟨by have := HSA.out; omega, by rw [hw9]; simp, hgN, hN4⟩)
   have hx8 := hx7.only ho8 (by omega)
   obtain ⟨y0, y1', y2, y3, y4, y5, y6, yf⟩ := hl7
   have x2 := hx8.c2
   have xf := hx8.fz 2
   rw [hw8] at x2 xf
   have hkl : (x.links.take k).length = k := by rw [List.length_take, ← HM.out]; have := HLT.out; omega
   have HKL := Lib.hid hkl
   clear hown7 ho7 hnn7 hT7 hgN hg2 hN4 hx7 hk7 hr7 hsz7 hw8 ho8 hl8 hw8s hw9 hb9 hx8 hkl HWA HLA HOA
   obtain ⟨qi, ci, hvi, hci, hci2, hso, hib⟩ := HI9.out.intsB
   injection hvi with hv1 hv2 hv3
   subst hv1 hv3
   have HIB := Lib.hid (And.intro hci (And.intro hci2 (And.intro hso hib)))
   have HFR := Lib.hid (show ∀ b, wr.heap.size + 1 ≤ b → b < w9.heap.size → N ≤ b ∧ (Value.slice p3 k c3).ownBlock ≠ some b from fun b hb hl => ⟨by have := HSZ.out; omega, fun e => by have := (HK9.out.blk b e).1.2; omega⟩)
   clear hci hci2 hso hib hv2
   go_wp2_with (at_builtin; rw [← HW8.out, ← HW9.out]; refine wpList_push_link (by rfl) _ _ (by rfl) (fun b => N ≤ b) (fun b => wr.heap.size + 1 ≤ b) w7.heap.size (.slice p3 k c3) (x.links.take k) y p7 c7 (by rfl) (by rfl) (HK9.out.mono (fun b hb _ => hb.1)) HL9.out HIB.out.2.2.2 HIB.out.1 HIB.out.2.1 HIB.out.2.2.1 HFR.out ?_ ?_ ?_)
   case refine_1 => have := HSZ.out; omega
   case refine_2 => rw [HKL.out]; have := HLT.out; omega
   intro pA cA wA hpA hoA
   have hkm : min k x.links.length = k := by rw [← HM.out]; have := HLT.out; omega
   rw [hkm] at hpA ⊢
   have hTA : ∀ j, (Value.slice p3 k c3).ownBlock = some j → N ≤ j := fun j e => (HK9.out.blk j e).1.1
   have hxA := HX9.out.only hoA (fun e => by have := hTA _ e; have := HSZ.out; omega)
   have hrA := HR9.out.only (by have := HSZ.out; omega) hoA (fun k e => Or.inr (hTA _ e))
   have HXA := Lib.hid hxA
   have HRA := Lib.hid hrA
   have HPA := Lib.hid (show OwnK wA (fun b => N ≤ b) (.slice pA (k + 1) cA) (x.links.take (k + 1)) from by rw [HE.out]; exact hpA)
   clear hpA hoA hkm hTA hxA hrA y0 y1' y2 y3 y4 y5 y6 yf x2 xf z0 z2 z3 z4 c0 c1 c2 c3' c4' c5' c6
   obtain ⟨x0, x1, x2, x3, x4, xf⟩ := HXA.out
   obtain ⟨G, rfl⟩ : ∃ G, gk = G + 1 := ⟨gk - 1, by have := HKK.out; have := HLT.out; omega⟩
   go_wp2_with fail
   obtain ⟨wB, hwB⟩ : ∃ wB, wB = wA.setCell ⟨W.heap.size + 1 + 1, 2, none⟩ (.slice pA (k + 1) cA) := ⟨_, rfl⟩
   have HFIN := Lib.hid (show BoxS wB (W.heap.size + 1 + 1) x.k (.slice p5 x.lits.length c5) (.slice pA (k + 1) cA) x.a x.b ∧ OwnK wB (fun b => N ≤ b) (.slice pA (k + 1) cA) (x.links.take (k + 1)) ∧ R9 W N x p c (some ⟨b6, off6, none⟩) d (.slice p5 x.lits.length c5) wB from by
    have hsz := HSZ.out
    rw [hwB]
    exact ⟨HXA.out.set2 _, HPA.out.only (Only.of_setCell _ _ _) (fun b hb e => by simp only at e; omega), HRA.out.only (by omega) (Only.of_setCell _ _ _) (fun k e => Or.inl e)⟩)
   rw [← hwB]
   clear hwB x0 x1 x2 x3 x4 xf
   go_roundg G
   case measure => omega
   case rel => exact ⟨k + 1, by have := HKK.out; omega, by first | rfl | rw [HS.out.2.2], Lib.hid ⟨_, _, HFIN.out⟩⟩
  ·obtain rfl : m = k := by omega
   have HLE := Lib.hid (show BoxS wr (W.heap.size + 1 + 1) x.k (.slice p5 x.lits.length c5) (.slice p3 m c3) x.a x.b ∧ OwnK wr (fun b => N ≤ b) (.slice p3 m c3) x.links ∧ R9 W N x p c q d (.slice p5 x.lits.length c5) wr from by
    have hh := HR.out
    rw [List.take_of_length_le (by rw [← HM.out]; exact Nat.le_refl _)] at hh
    exact hh)
   clear hlt hk HR z1
   obtain ⟨x0, x1, x2, x3, x4, xf⟩ := HLE.out.1
   obtain ⟨y0, y1, y2, y3, y4, yf⟩ := HLE.out.2.2.res
   go_wp2_with fail
   have h5 := only5 wr (W.heap.size + 1) (.int .u8 x.k) (.slice p5 x.lits.length c5) (.slice p3 m c3) (.int .i64 x.a) (.int .i64 x.b)
   have hN4 := HN.out
   have hkE := HLE.out.2.1.only h5 (fun b hb e => by omega)
   have hiE := HLE.out.2.2.lits.only h5 (fun b hb e => by omega)
   have hbE := HLE.out.2.2.below.trans (h5.below (B := W.heap.size) (fun k e => by omega) HLE.out.2.2.below.size)
   obtain ⟨qk, ck, hvk, hck, hsk, hlk, hok⟩ := hkE.lks
   injection hvk with hv1 hv2 hv3
   subst hv1 hv3
   obtain ⟨qi, ci, hvi, hci, hci2, hso, hib⟩ := hiE.intsB
   injection hvi with hv4 hv5 hv6
   subst hv4 hv6
   clear h5 hkE hiE
   refine bodyPost_ret (v := .agg #[.int .u8 x.k, .slice p5 x.lits.length c5, .slice p3 m c3, .int .i64 x.a, .int .i64 x.b]) (by simp [results, Tryz.results9, go_sem, y0, y1, y2, y3, y4]) rfl ⟨p5, c5, p3, c3, by rw [HM.out], hib.ints, hso, hci, hlk, hok, hsk, hck, hbE⟩
end Go.Proofs.YtookoagcmejkpaaGreatDoor
