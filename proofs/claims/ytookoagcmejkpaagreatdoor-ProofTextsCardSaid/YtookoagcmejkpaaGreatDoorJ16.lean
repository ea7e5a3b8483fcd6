/- The tree of a link that may be: the program's. A link's tree: the document's. Rows of links of the call's own. The document's Copy of a step. -/
import Derived.Test.YtookoagcmejkpaaGreatDoorS29
import Derived.Test.YtookoagcmejkpaaGreatDoorJ12
set_option maxHeartbeats 1600000
namespace Go.Proofs.YtookoagcmejkpaaGreatDoor
open Go Go.RowKit
theorem qar {y : Int} (h : cntB y = true) : -4611686018427387903 <= y /\ y <= 4611686018427387903 := by
 simp only [cntB, Bool.and_eq_true, decide_eq_true_eq] at h; omega
theorem qb8 {y : Int} (h : litB y = true) : -4611686018427387903 <= y /\ y <= 4611686018427387903 := by
 simp only [litB, Bool.and_eq_true, decide_eq_true_eq] at h; omega
theorem qeu {x : Lk} (h : qaz x = true) : (x = ⟨1, x.lit, 0, 0, 0, 0, []⟩ /\ litB x.lit = true) \/ (x = ⟨2, 0, x.a, 0, 0, 0, []⟩ /\ cntB x.a = true) \/ (x = ⟨3, 0, 0, 0, x.i, 0, []⟩ /\ cntB x.i = true) \/ (x = ⟨4, 0, 0, 0, x.i, x.j, []⟩ /\ cntB x.i = true /\ cntB x.j = true) ∨
  (x = ⟨5, 0, x.a, x.b, 0, 0, x.l⟩ /\ cntB x.a = true /\ cntB x.b = true /\ x.l.length <= 20 /\ x.l.all cntB = true) \/ (x = ⟨6, x.lit, 0, 0, x.i, 0, []⟩ /\ litB x.lit = true /\ cntB x.i = true) \/ (x = ⟨7, 0, 0, 0, x.i, 0, []⟩ /\ cntB x.i = true) := by
 obtain ⟨k, lit, a, b, i, j, l⟩ := x;obtain ⟨h1, h2, h3, h4, h5, h6, h7, h8⟩ := qf3 h
 by_cases k1 : k = 1
 ·subst k1; exact Or.inl ⟨by have := lk_1 lit a b i j l (h8 (Or.inl rfl)); rw [h] at this; exact of_decide_eq_true this, h8 (Or.inl rfl)⟩
 by_cases k2 : k = 2
 ·subst k2; exact Or.inr (Or.inl ⟨by have := lk_2 lit a b i j l h1; rw [h] at this; exact of_decide_eq_true this, h1⟩)
 by_cases k3 : k = 3
 ·subst k3; exact Or.inr (Or.inr (Or.inl ⟨by have := lk_3 lit a b i j l h3; rw [h] at this; exact of_decide_eq_true this, h3⟩))
 by_cases k4 : k = 4
 ·subst k4; exact Or.inr (Or.inr (Or.inr (Or.inl ⟨by have := lk_4 lit a b i j l h3 h4; rw [h] at this; exact of_decide_eq_true this, h3, h4⟩)))
 by_cases k5 : k = 5
 ·subst k5; exact Or.inr (Or.inr (Or.inr (Or.inr (Or.inl ⟨by have := lk_5 lit a b i j l h1 h2 h5 h6; rw [h] at this; exact of_decide_eq_true this, h1, h2, h5, h6⟩))))
 by_cases k6 : k = 6
 ·subst k6; exact Or.inr (Or.inr (Or.inr (Or.inr (Or.inr (Or.inl ⟨by have := lk_6 lit a b i j l (h8 (Or.inr rfl)) h3; rw [h] at this; exact of_decide_eq_true this, h8 (Or.inr rfl), h3⟩)))))
 by_cases k7 : k = 7
 ·subst k7; exact Or.inr (Or.inr (Or.inr (Or.inr (Or.inr (Or.inr ⟨by have := lk_7 lit a b i j l h3; rw [h] at this; exact of_decide_eq_true this, h3⟩)))))
 exfalso
 apply h7
 unfold fmL
 split <;> first | rfl | (exfalso; omega)
theorem qj1 : (-4611686018427387903 : Int) <= 0 /\ (0 : Int) <= 4611686018427387903 := by decide
theorem rng5 {a b c d e : Int} (ha : -4611686018427387903 <= a /\ a <= 4611686018427387903) (hb : -4611686018427387903 <= b /\ b <= 4611686018427387903) (hc : -4611686018427387903 <= c /\ c <= 4611686018427387903) (hd : -4611686018427387903 <= d /\ d <= 4611686018427387903) (he : -4611686018427387903 <= e /\ e <= 4611686018427387903) :
  ∀ y ∈ [a, b, c, d, e], -4611686018427387903 <= y /\ y <= 4611686018427387903 := by
 intro y hy;simp only [List.mem_cons, List.not_mem_nil, or_false] at hy;rcases hy with rfl | rfl | rfl | rfl | rfl <;> assumption
theorem qe0 : ∀ y ∈ ([] : List Int), -4611686018427387903 <= y /\ y <= 4611686018427387903 := fun y h => by cases h
theorem qiq (x : Lk) (q : Option Addr) (c : Nat) (v : Value) (W : World) (hl : IntsIn W q x.l) (h : qaz x = true) (hv : qfj x.k = some v) (htab : qb7 W) :
  Calls Tryz.prog 32 #[v, lkV x q c] W fun e w' => TrR W w' e true 1 ⟨#[40]⟩ (lkX x) := by
 have Z := qj1;rcases qeu h with ⟨e, h1⟩ | ⟨e, h1⟩ | ⟨e, h1⟩ | ⟨e, h1, h2⟩ | ⟨e, h1, h2, h3, h4⟩ | ⟨e, h1, h2⟩ | ⟨e, h1⟩ <;> obtain ⟨k, lit, a, b, i, j, l⟩ := x <;> cases e <;> cases hv
 ·exact qdy _ _ _ _ _ _ _ _ ⟨1, lit, 0, 0, 0, 0, []⟩ q c W hl (Nat.zero_le _) qe0 (rng5 (qb8 h1) Z Z Z Z) htab
 ·exact qbk _ _ _ _ _ _ _ _ ⟨2, 0, a, 0, 0, 0, []⟩ q c W hl (Nat.zero_le _) qe0 (rng5 Z (qar h1) Z Z Z) htab
 ·exact qbk _ _ _ _ _ _ _ _ ⟨3, 0, 0, 0, i, 0, []⟩ q c W hl (Nat.zero_le _) qe0 (rng5 Z Z Z (qar h1) Z) htab
 ·exact qbk _ _ _ _ _ _ _ _ ⟨4, 0, 0, 0, i, j, []⟩ q c W hl (Nat.zero_le _) qe0 (rng5 Z Z Z (qar h1) (qar h2)) htab
 ·exact qbk _ _ _ _ _ _ _ _ ⟨5, 0, a, b, 0, 0, l⟩ q c W hl (Nat.le_trans h3 (by decide)) (fun y hy => qar (List.all_eq_true.1 h4 y hy)) (rng5 Z (qar h1) (qar h2) Z Z) htab
 ·exact qdy _ _ _ _ _ _ _ _ ⟨6, lit, 0, 0, i, 0, []⟩ q c W hl (Nat.zero_le _) qe0 (rng5 (qb8 h1) Z Z (qar h2) Z) htab
 ·exact qbk _ _ _ _ _ _ _ _ ⟨7, 0, 0, 0, i, 0, []⟩ q c W hl (Nat.zero_le _) qe0 (rng5 Z Z Z (qar h1) Z) htab
set_option maxRecDepth 100000
theorem qpz (lit : Int) (q : Option Addr) (c : Nat) (W : World) (hlit : -4611686018427387903 <= lit /\ lit <= 4611686018427387903) :
  Calls Tryz.prog 52 #[lkV ⟨1, lit, 0, 0, 0, 0, []⟩ q c] W fun e w' => TrR W w' e true 1 ⟨#[40]⟩ (.cons false 3 qbw 0 .nil (nusF [lit])) := by
 obtain ⟨w2, hw2⟩ : ∃ w2, w2 = ((W.alloc (.cells #[.int .u8 1, .int .i64 lit, .int .i64 0, .int .i64 0, .int .i64 0, .int .i64 0, .slice q 0 c] 64)).alloc (.cells #[.bool false, .int .u8 0, .string ⟨#[]⟩, .int .i64 0, .slice none 0 0] 35)).alloc (.cells #[.int .i64 lit] 3) := ⟨_, rfl⟩;have hb2 : Below W.heap.size W w2 := by rw [hw2]; exact (((qab W _).alloc (by simp) _).alloc (by simp; omega) _)
 have hsz : w2.heap.size = W.heap.size + 3 := by rw [hw2]; simp
 have hz : BoxT w2 (W.heap.size + 1) false 0 ⟨#[]⟩ 0 (.slice none 0 0) := by
  have h := (qam (W.alloc (.cells #[.int .u8 1, .int .i64 lit, .int .i64 0, .int .i64 0, .int .i64 0, .int .i64 0, .slice q 0 c] 64)) false 0 ⟨#[]⟩ 0 (.slice none 0 0)).later (qab _ (.cells #[.int .i64 lit] 3));rw [hw2]; simpa using h
 have hn : OwnI 3 w2 (fun b => W.heap.size + 2 <= b) (.slice (some ⟨W.heap.size + 1 + 1, 0, none⟩) 1 1) [lit] := by
  have h := qde (W := (W.alloc (.cells #[.int .u8 1, .int .i64 lit, .int .i64 0, .int .i64 0, .int .i64 0, .int .i64 0, .slice q 0 c] 64)).alloc (.cells #[.bool false, .int .u8 0, .string ⟨#[]⟩, .int .i64 0, .slice none 0 0] 35)) 3 (fun b => W.heap.size + 2 <= b) [lit] (by simp) (by simp);rw [hw2]; simpa using h
 have HS := Zh (aI hb2 (aI hsz (aI hz hn)));have HW2 := Zh hw2;clear hb2 hsz hz hn hw2;unfold lkV;go_enter Tryz.func52, Tryz.ntmps52
 go_wp2_with fail
 rw [<- HW2.o];obtain ⟨q2, c2, hv2, hc2, hc3, hq2, hf2, hi2, hz2⟩ := HS.o.2.2.2.intsIn;cases hv2;refine (qdj _ 1 1 [lit] w2 hi2 rfl (by omega) (fun y hy => by simp only [List.mem_cons, List.not_mem_nil, or_false] at hy; rw [hy]; assumption)).mono ?_;rintro e w3 ⟨q3, c3, rfl, hown, hb⟩;clear hc2 hc3 hq2 hf2 hi2 hz2;have HO := Zh hown;have HZ := Zh (HS.o.2.2.1.later hb);have HB := Zh (HS.o.1.trans (hb.mono HS.o.1.size));have HSZ := Zh (show w2.heap.size <= w3.heap.size from hb.size);clear hown hb
 go_wp2_with fail
 refine (qdo _ _ _ (w2.heap.size) _ HO.o HSZ.o (by rw [qag]; simp)).mono ?_;rintro e w6 ⟨q6, c6, rfl, hc6, hq6, hb6⟩;have hl6 : (nusF [lit]).len + 1 = (Fo.cons false 3 qbw 0 .nil (nusF [lit])).len := rfl;rw [hl6] at hc6;have HQ := Zh (aI hc6 hq6);have HB6 := Zh (HB.o.trans (hb6.mono HB.o.size));obtain ⟨z0, z1, z2, z3, z4, zf⟩ := HZ.o.later hb6;rw [hl6];clear hc6 hq6 hb6 hl6;unfold trV
 go_wp2_with fail
 refine bodyPost_ret (v := trV true 1 ⟨#[40]⟩ 0 q6 (Fo.cons false 3 qbw 0 .nil (nusF [lit])).len c6) (by simp [trV, results, Tryz.results52, go_sem, z0, z1, z2, z3, z4]) rfl ⟨q6, c6, rfl, HQ.o.1, ?_, ?_, ?_⟩
 ·simp only [Fo.len]; rw [qag]; simp
 ·have hne : ∀ o b, W.heap.size + 2 <= b -> ¬ b = (⟨W.heap.size + 1, o, none⟩ : Addr).block := fun o b h e => by simp only at e; omega
  have hq := HQ.o.2.mono (F' := fun b => W.heap.size + 2 <= b) (fun b hb _ => by have hb' : w2.heap.size <= b := hb; have := HS.o.2.1; omega);exact (((((hq.only (Only.of_setCell _ _ _) (hne _)).only (Only.of_setCell _ _ _) (hne _)).only (Only.of_setCell _ _ _) (hne _)).only (Only.of_setCell _ _ _) (hne _)).only (Only.of_setCell _ _ _) (hne _)).mono (fun b hb _ => by omega)
 ·iterate 5 refine Below.setCell ?_ (show W.heap.size <= W.heap.size + 1 from Nat.le_succ _) _
  exact HB6.o
theorem qpy (a : Int) (q : Option Addr) (c : Nat) (W : World) (ha : -4611686018427387903 <= a /\ a <= 4611686018427387903) :
  Calls Tryz.prog 52 #[lkV ⟨2, 0, a, 0, 0, 0, []⟩ q c] W fun e w' => TrR W w' e true 1 ⟨#[40]⟩ (.cons false 3 qcu 0 .nil (nusF [a])) := by
 obtain ⟨w2, hw2⟩ : ∃ w2, w2 = ((W.alloc (.cells #[.int .u8 2, .int .i64 0, .int .i64 a, .int .i64 0, .int .i64 0, .int .i64 0, .slice q 0 c] 64)).alloc (.cells #[.bool false, .int .u8 0, .string ⟨#[]⟩, .int .i64 0, .slice none 0 0] 35)).alloc (.cells #[.int .i64 a] 3) := ⟨_, rfl⟩;have hb2 : Below W.heap.size W w2 := by rw [hw2]; exact (((qab W _).alloc (by simp) _).alloc (by simp; omega) _)
 have hsz : w2.heap.size = W.heap.size + 3 := by rw [hw2]; simp
 have hz : BoxT w2 (W.heap.size + 1) false 0 ⟨#[]⟩ 0 (.slice none 0 0) := by
  have h := (qam (W.alloc (.cells #[.int .u8 2, .int .i64 0, .int .i64 a, .int .i64 0, .int .i64 0, .int .i64 0, .slice q 0 c] 64)) false 0 ⟨#[]⟩ 0 (.slice none 0 0)).later (qab _ (.cells #[.int .i64 a] 3));rw [hw2]; simpa using h
 have hn : OwnI 3 w2 (fun b => W.heap.size + 2 <= b) (.slice (some ⟨W.heap.size + 1 + 1, 0, none⟩) 1 1) [a] := by
  have h := qde (W := (W.alloc (.cells #[.int .u8 2, .int .i64 0, .int .i64 a, .int .i64 0, .int .i64 0, .int .i64 0, .slice q 0 c] 64)).alloc (.cells #[.bool false, .int .u8 0, .string ⟨#[]⟩, .int .i64 0, .slice none 0 0] 35)) 3 (fun b => W.heap.size + 2 <= b) [a] (by simp) (by simp);rw [hw2]; simpa using h
 have HS := Zh (aI hb2 (aI hsz (aI hz hn)));have HW2 := Zh hw2;clear hb2 hsz hz hn hw2;unfold lkV;go_enter Tryz.func52, Tryz.ntmps52
 go_wp2_with fail
 rw [<- HW2.o];obtain ⟨q2, c2, hv2, hc2, hc3, hq2, hf2, hi2, hz2⟩ := HS.o.2.2.2.intsIn;cases hv2;refine (qdj _ 1 1 [a] w2 hi2 rfl (by omega) (fun y hy => by simp only [List.mem_cons, List.not_mem_nil, or_false] at hy; rw [hy]; assumption)).mono ?_;rintro e w3 ⟨q3, c3, rfl, hown, hb⟩;clear hc2 hc3 hq2 hf2 hi2 hz2;have HO := Zh hown;have HZ := Zh (HS.o.2.2.1.later hb);have HB := Zh (HS.o.1.trans (hb.mono HS.o.1.size));have HSZ := Zh (show w2.heap.size <= w3.heap.size from hb.size);clear hown hb
 go_wp2_with fail
 refine (qdo _ _ _ (w2.heap.size) _ HO.o HSZ.o (by rw [qag]; simp)).mono ?_;rintro e w6 ⟨q6, c6, rfl, hc6, hq6, hb6⟩;have hl6 : (nusF [a]).len + 1 = (Fo.cons false 3 qcu 0 .nil (nusF [a])).len := rfl;rw [hl6] at hc6;have HQ := Zh (aI hc6 hq6);have HB6 := Zh (HB.o.trans (hb6.mono HB.o.size));obtain ⟨z0, z1, z2, z3, z4, zf⟩ := HZ.o.later hb6;rw [hl6];clear hc6 hq6 hb6 hl6;unfold trV
 go_wp2_with fail
 refine bodyPost_ret (v := trV true 1 ⟨#[40]⟩ 0 q6 (Fo.cons false 3 qcu 0 .nil (nusF [a])).len c6) (by simp [trV, results, Tryz.results52, go_sem, z0, z1, z2, z3, z4]) rfl ⟨q6, c6, rfl, HQ.o.1, ?_, ?_, ?_⟩
 ·simp only [Fo.len]; rw [qag]; simp
 ·have hne : ∀ o b, W.heap.size + 2 <= b -> ¬ b = (⟨W.heap.size + 1, o, none⟩ : Addr).block := fun o b h e => by simp only at e; omega
  have hq := HQ.o.2.mono (F' := fun b => W.heap.size + 2 <= b) (fun b hb _ => by have hb' : w2.heap.size <= b := hb; have := HS.o.2.1; omega);exact (((((hq.only (Only.of_setCell _ _ _) (hne _)).only (Only.of_setCell _ _ _) (hne _)).only (Only.of_setCell _ _ _) (hne _)).only (Only.of_setCell _ _ _) (hne _)).only (Only.of_setCell _ _ _) (hne _)).mono (fun b hb _ => by omega)
 ·iterate 5 refine Below.setCell ?_ (show W.heap.size <= W.heap.size + 1 from Nat.le_succ _) _
  exact HB6.o
theorem qpx (i : Int) (q : Option Addr) (c : Nat) (W : World) (hi : -4611686018427387903 <= i /\ i <= 4611686018427387903) :
  Calls Tryz.prog 52 #[lkV ⟨3, 0, 0, 0, i, 0, []⟩ q c] W fun e w' => TrR W w' e true 1 ⟨#[40]⟩ (.cons false 3 qcs 0 .nil (nusF [i])) := by
 obtain ⟨w2, hw2⟩ : ∃ w2, w2 = ((W.alloc (.cells #[.int .u8 3, .int .i64 0, .int .i64 0, .int .i64 0, .int .i64 i, .int .i64 0, .slice q 0 c] 64)).alloc (.cells #[.bool false, .int .u8 0, .string ⟨#[]⟩, .int .i64 0, .slice none 0 0] 35)).alloc (.cells #[.int .i64 i] 3) := ⟨_, rfl⟩;have hb2 : Below W.heap.size W w2 := by rw [hw2]; exact (((qab W _).alloc (by simp) _).alloc (by simp; omega) _)
 have hsz : w2.heap.size = W.heap.size + 3 := by rw [hw2]; simp
 have hz : BoxT w2 (W.heap.size + 1) false 0 ⟨#[]⟩ 0 (.slice none 0 0) := by
  have h := (qam (W.alloc (.cells #[.int .u8 3, .int .i64 0, .int .i64 0, .int .i64 0, .int .i64 i, .int .i64 0, .slice q 0 c] 64)) false 0 ⟨#[]⟩ 0 (.slice none 0 0)).later (qab _ (.cells #[.int .i64 i] 3));rw [hw2]; simpa using h
 have hn : OwnI 3 w2 (fun b => W.heap.size + 2 <= b) (.slice (some ⟨W.heap.size + 1 + 1, 0, none⟩) 1 1) [i] := by
  have h := qde (W := (W.alloc (.cells #[.int .u8 3, .int .i64 0, .int .i64 0, .int .i64 0, .int .i64 i, .int .i64 0, .slice q 0 c] 64)).alloc (.cells #[.bool false, .int .u8 0, .string ⟨#[]⟩, .int .i64 0, .slice none 0 0] 35)) 3 (fun b => W.heap.size + 2 <= b) [i] (by simp) (by simp);rw [hw2]; simpa using h
 have HS := Zh (aI hb2 (aI hsz (aI hz hn)));have HW2 := Zh hw2;clear hb2 hsz hz hn hw2;unfold lkV;go_enter Tryz.func52, Tryz.ntmps52
 go_wp2_with fail
 rw [<- HW2.o];obtain ⟨q2, c2, hv2, hc2, hc3, hq2, hf2, hi2, hz2⟩ := HS.o.2.2.2.intsIn;cases hv2;refine (qdj _ 1 1 [i] w2 hi2 rfl (by omega) (fun y hy => by simp only [List.mem_cons, List.not_mem_nil, or_false] at hy; rw [hy]; assumption)).mono ?_;rintro e w3 ⟨q3, c3, rfl, hown, hb⟩;clear hc2 hc3 hq2 hf2 hi2 hz2;have HO := Zh hown;have HZ := Zh (HS.o.2.2.1.later hb);have HB := Zh (HS.o.1.trans (hb.mono HS.o.1.size));have HSZ := Zh (show w2.heap.size <= w3.heap.size from hb.size);clear hown hb
 go_wp2_with fail
 refine (qdo _ _ _ (w2.heap.size) _ HO.o HSZ.o (by rw [qag]; simp)).mono ?_;rintro e w6 ⟨q6, c6, rfl, hc6, hq6, hb6⟩;have hl6 : (nusF [i]).len + 1 = (Fo.cons false 3 qcs 0 .nil (nusF [i])).len := rfl;rw [hl6] at hc6;have HQ := Zh (aI hc6 hq6);have HB6 := Zh (HB.o.trans (hb6.mono HB.o.size));obtain ⟨z0, z1, z2, z3, z4, zf⟩ := HZ.o.later hb6;rw [hl6];clear hc6 hq6 hb6 hl6;unfold trV
 go_wp2_with fail
 refine bodyPost_ret (v := trV true 1 ⟨#[40]⟩ 0 q6 (Fo.cons false 3 qcs 0 .nil (nusF [i])).len c6) (by simp [trV, results, Tryz.results52, go_sem, z0, z1, z2, z3, z4]) rfl ⟨q6, c6, rfl, HQ.o.1, ?_, ?_, ?_⟩
 ·simp only [Fo.len]; rw [qag]; simp
 ·have hne : ∀ o b, W.heap.size + 2 <= b -> ¬ b = (⟨W.heap.size + 1, o, none⟩ : Addr).block := fun o b h e => by simp only at e; omega
  have hq := HQ.o.2.mono (F' := fun b => W.heap.size + 2 <= b) (fun b hb _ => by have hb' : w2.heap.size <= b := hb; have := HS.o.2.1; omega);exact (((((hq.only (Only.of_setCell _ _ _) (hne _)).only (Only.of_setCell _ _ _) (hne _)).only (Only.of_setCell _ _ _) (hne _)).only (Only.of_setCell _ _ _) (hne _)).only (Only.of_setCell _ _ _) (hne _)).mono (fun b hb _ => by omega)
 ·iterate 5 refine Below.setCell ?_ (show W.heap.size <= W.heap.size + 1 from Nat.le_succ _) _
  exact HB6.o
theorem qpw (i j : Int) (q : Option Addr) (c : Nat) (W : World) (hi : -4611686018427387903 <= i /\ i <= 4611686018427387903) (hj : -4611686018427387903 <= j /\ j <= 4611686018427387903) :
  Calls Tryz.prog 52 #[lkV ⟨4, 0, 0, 0, i, j, []⟩ q c] W fun e w' => TrR W w' e true 1 ⟨#[40]⟩ (.cons false 3 qct 0 .nil (nusF [i, j])) := by
 obtain ⟨w2, hw2⟩ : ∃ w2, w2 = ((W.alloc (.cells #[.int .u8 4, .int .i64 0, .int .i64 0, .int .i64 0, .int .i64 i, .int .i64 j, .slice q 0 c] 64)).alloc (.cells #[.bool false, .int .u8 0, .string ⟨#[]⟩, .int .i64 0, .slice none 0 0] 35)).alloc (.cells #[.int .i64 i, .int .i64 j] 3) := ⟨_, rfl⟩;have hb2 : Below W.heap.size W w2 := by rw [hw2]; exact (((qab W _).alloc (by simp) _).alloc (by simp; omega) _)
 have hsz : w2.heap.size = W.heap.size + 3 := by rw [hw2]; simp
 have hz : BoxT w2 (W.heap.size + 1) false 0 ⟨#[]⟩ 0 (.slice none 0 0) := by
  have h := (qam (W.alloc (.cells #[.int .u8 4, .int .i64 0, .int .i64 0, .int .i64 0, .int .i64 i, .int .i64 j, .slice q 0 c] 64)) false 0 ⟨#[]⟩ 0 (.slice none 0 0)).later (qab _ (.cells #[.int .i64 i, .int .i64 j] 3));rw [hw2]; simpa using h
 have hn : OwnI 3 w2 (fun b => W.heap.size + 2 <= b) (.slice (some ⟨W.heap.size + 1 + 1, 0, none⟩) 2 2) [i, j] := by
  have h := qde (W := (W.alloc (.cells #[.int .u8 4, .int .i64 0, .int .i64 0, .int .i64 0, .int .i64 i, .int .i64 j, .slice q 0 c] 64)).alloc (.cells #[.bool false, .int .u8 0, .string ⟨#[]⟩, .int .i64 0, .slice none 0 0] 35)) 3 (fun b => W.heap.size + 2 <= b) [i, j] (by simp) (by simp);rw [hw2]; simpa using h
 have HS := Zh (aI hb2 (aI hsz (aI hz hn)));have HW2 := Zh hw2;clear hb2 hsz hz hn hw2;unfold lkV;go_enter Tryz.func52, Tryz.ntmps52
 go_wp2_with fail
 rw [<- HW2.o];obtain ⟨q2, c2, hv2, hc2, hc3, hq2, hf2, hi2, hz2⟩ := HS.o.2.2.2.intsIn;cases hv2;refine (qdj _ 2 2 [i, j] w2 hi2 rfl (by omega) (fun y hy => by simp only [List.mem_cons, List.not_mem_nil, or_false] at hy; rcases hy with rfl | rfl <;> assumption)).mono ?_;rintro e w3 ⟨q3, c3, rfl, hown, hb⟩;clear hc2 hc3 hq2 hf2 hi2 hz2;have HO := Zh hown;have HZ := Zh (HS.o.2.2.1.later hb);have HB := Zh (HS.o.1.trans (hb.mono HS.o.1.size));have HSZ := Zh (show w2.heap.size <= w3.heap.size from hb.size);clear hown hb
 go_wp2_with fail
 refine (qdo _ _ _ (w2.heap.size) _ HO.o HSZ.o (by rw [qag]; simp)).mono ?_;rintro e w6 ⟨q6, c6, rfl, hc6, hq6, hb6⟩;have hl6 : (nusF [i, j]).len + 1 = (Fo.cons false 3 qct 0 .nil (nusF [i, j])).len := rfl;rw [hl6] at hc6;have HQ := Zh (aI hc6 hq6);have HB6 := Zh (HB.o.trans (hb6.mono HB.o.size));obtain ⟨z0, z1, z2, z3, z4, zf⟩ := HZ.o.later hb6;rw [hl6];clear hc6 hq6 hb6 hl6;unfold trV
 go_wp2_with fail
 refine bodyPost_ret (v := trV true 1 ⟨#[40]⟩ 0 q6 (Fo.cons false 3 qct 0 .nil (nusF [i, j])).len c6) (by simp [trV, results, Tryz.results52, go_sem, z0, z1, z2, z3, z4]) rfl ⟨q6, c6, rfl, HQ.o.1, ?_, ?_, ?_⟩
 ·simp only [Fo.len]; rw [qag]; simp
 ·have hne : ∀ o b, W.heap.size + 2 <= b -> ¬ b = (⟨W.heap.size + 1, o, none⟩ : Addr).block := fun o b h e => by simp only at e; omega
  have hq := HQ.o.2.mono (F' := fun b => W.heap.size + 2 <= b) (fun b hb _ => by have hb' : w2.heap.size <= b := hb; have := HS.o.2.1; omega);exact (((((hq.only (Only.of_setCell _ _ _) (hne _)).only (Only.of_setCell _ _ _) (hne _)).only (Only.of_setCell _ _ _) (hne _)).only (Only.of_setCell _ _ _) (hne _)).only (Only.of_setCell _ _ _) (hne _)).mono (fun b hb _ => by omega)
 ·iterate 5 refine Below.setCell ?_ (show W.heap.size <= W.heap.size + 1 from Nat.le_succ _) _
  exact HB6.o
theorem qpv (a b : Int) (l : List Int) (q : Option Addr) (c : Nat) (W : World) (ha : -4611686018427387903 <= a /\ a <= 4611686018427387903) (hb : -4611686018427387903 <= b /\ b <= 4611686018427387903) (hq : q = none -> c = 0) (hI : IntsIn W q l) (hl : l.length <= 1000) (hxl : ∀ y ∈ l, -4611686018427387903 <= y /\ y <= 4611686018427387903) :
  Calls Tryz.prog 52 #[lkV ⟨5, 0, a, b, 0, 0, l⟩ q c] W fun e w' => TrR W w' e true 1 ⟨#[40]⟩ (.cons false 3 qby 0 .nil (nusF ([a, b] ++ l))) := by
 obtain ⟨w2, hw2⟩ : ∃ w2, w2 = ((W.alloc (.cells #[.int .u8 5, .int .i64 0, .int .i64 a, .int .i64 b, .int .i64 0, .int .i64 0, .slice q l.length c] 64)).alloc (.cells #[.bool false, .int .u8 0, .string ⟨#[]⟩, .int .i64 0, .slice none 0 0] 35)).alloc (.cells #[.int .i64 a, .int .i64 b] 3) := ⟨_, rfl⟩;have hb2 : Below W.heap.size W w2 := by rw [hw2]; exact (((qab W _).alloc (by simp) _).alloc (by simp; omega) _)
 have hsz : w2.heap.size = W.heap.size + 3 := by rw [hw2]; simp
 have hz : BoxT w2 (W.heap.size + 1) false 0 ⟨#[]⟩ 0 (.slice none 0 0) := by
  have h := (qam (W.alloc (.cells #[.int .u8 5, .int .i64 0, .int .i64 a, .int .i64 b, .int .i64 0, .int .i64 0, .slice q l.length c] 64)) false 0 ⟨#[]⟩ 0 (.slice none 0 0)).later (qab _ (.cells #[.int .i64 a, .int .i64 b] 3));rw [hw2]; simpa using h
 have hn : OwnI 3 w2 (fun b => W.heap.size + 2 <= b) (.slice (some ⟨W.heap.size + 1 + 1, 0, none⟩) 2 2) [a, b] := by
  have h := qde (W := (W.alloc (.cells #[.int .u8 5, .int .i64 0, .int .i64 a, .int .i64 b, .int .i64 0, .int .i64 0, .slice q l.length c] 64)).alloc (.cells #[.bool false, .int .u8 0, .string ⟨#[]⟩, .int .i64 0, .slice none 0 0] 35)) 3 (fun b => W.heap.size + 2 <= b) [a, b] (by simp) (by simp);rw [hw2]; simpa using h
 have HS := Zh (aI hb2 (aI hsz (aI hz hn)));have HW2 := Zh hw2;have HA := Zh (aI hq (aI trivial (aI hI (aI hl hxl))));clear hq hI hl hxl;have l1 : (l.length : Int) <= 1000 := by have := HA.o.2.2.2.1; omega
 clear hb2 hsz hz hn hw2;unfold lkV;go_enter Tryz.func52, Tryz.ntmps52
 have rng : ∀ y ∈ [a, b] ++ l, -4611686018427387903 <= y /\ y <= 4611686018427387903 := by
  intro y hy;simp only [List.cons_append, List.nil_append, List.mem_cons] at hy;rcases hy with rfl | rfl | hy
  ·assumption
  ·assumption
  ·exact HA.o.2.2.2.2 y hy
 have HR := Zh rng;clear rng
 go_wp2_with (at_builtin; rw [<- HW2.o]; refine qbh qn9 (by rfl) _ _ (by rfl) (fun b => W.heap.size + 2 <= b) (.slice (some ⟨W.heap.size + 1 + 1, 0, none⟩) 2 2) [a, b] q l.length c l (by rfl) (by rfl) HS.o.2.2.2 (HA.o.2.2.1.later HS.o.1) rfl ?_ ?_ (by simp) (Nat.le_trans HA.o.2.2.2.1 (by decide)) ?_)
 case refine_1 =>
  intro h;refine ⟨?_, HA.o.1 h⟩;rcases Nat.eq_zero_or_pos l.length with h0 | h0
  ·exact h0
  ·obtain ⟨b', o', e', _⟩ := HA.o.2.2.1 0 h0
   rw [h] at e'; cases e'
 case refine_2 => have := HS.o.2.1; omega
 intro p5 c5 w5 hown5 ho5 hnn;have HO5 := Zh hown5;have HZ5 := Zh (HS.o.2.2.1.only ho5 (fun e => by have := qec e; omega));have HB5 := Zh (HS.o.1.trans (ho5.below (B := W.heap.size) (fun j e => by have := qec e; omega) HS.o.1.size));have HSZ5 := Zh (show w2.heap.size <= w5.heap.size from ho5.size);obtain ⟨M, hM⟩ : ∃ M, M = 2 + l.length := ⟨_, rfl⟩;have HM := Zh hM;rw [<- hM];clear hown5 ho5 hnn hM
 go_wp2_with fail
 have hown := HO5.o;rw [<- HM.o] at hown;have hMl : ([a, b] ++ l).length = M := by rw [HM.o]; simp; omega
 have hown2 : OwnI 3 w5 (fun b => W.heap.size + 2 <= b) (.slice p5 M c5) ([a, b] ++ l) := hown;obtain ⟨q2, c2, hv2, hc2, hc3, hq2, hf2, hi2, hz2⟩ := hown2.intsIn;refine (qdj _ c5 M ([a, b] ++ l) w5 ?_ hMl ?_ HR.o).mono ?_
 ·cases hv2; exact hi2
 ·rw [HM.o]; have := HA.o.2.2.2.1; omega
 rintro e w3 ⟨q3, c3, rfl, hown', hb⟩;clear hc2 hc3 hq2 hf2 hi2 hz2 hown hown2 hv2 hMl;have HO := Zh hown';have HZ := Zh (HZ5.o.later hb);have HB := Zh (HB5.o.trans (hb.mono HB5.o.size));have HSZ := Zh (show w5.heap.size <= w3.heap.size from hb.size);clear hown' hb
 go_wp2_with fail
 refine (qdo _ _ _ (w5.heap.size) _ HO.o HSZ.o (by rw [qag]; have := HA.o.2.2.2.1; simp; omega)).mono ?_;rintro e w6 ⟨q6, c6, rfl, hc6, hq6, hb6⟩;have hl6 : (nusF ([a, b] ++ l)).len + 1 = (Fo.cons false 3 qby 0 .nil (nusF ([a, b] ++ l))).len := rfl;rw [hl6] at hc6;have HQ := Zh (aI hc6 hq6);have HB6 := Zh (HB.o.trans (hb6.mono HB.o.size));obtain ⟨z0, z1, z2, z3, z4, zf⟩ := HZ.o.later hb6;rw [hl6];clear hc6 hq6 hb6 hl6;unfold trV
 go_wp2_with fail
 refine bodyPost_ret (v := trV true 1 ⟨#[40]⟩ 0 q6 (Fo.cons false 3 qby 0 .nil (nusF ([a, b] ++ l))).len c6) (by simp [trV, results, Tryz.results52, go_sem, z0, z1, z2, z3, z4]) rfl ⟨q6, c6, rfl, HQ.o.1, ?_, ?_, ?_⟩
 ·simp only [Fo.len]; rw [qag]; have := HA.o.2.2.2.1; simp; omega
 ·have hne : ∀ o b, W.heap.size + 2 <= b -> ¬ b = (⟨W.heap.size + 1, o, none⟩ : Addr).block := fun o b h e => by simp only at e; omega
  have hq := HQ.o.2.mono (F' := fun b => W.heap.size + 2 <= b) (fun b hb _ => by have hb' : w5.heap.size <= b := hb; have := HS.o.2.1; have := HSZ5.o; omega);exact (((((hq.only (Only.of_setCell _ _ _) (hne _)).only (Only.of_setCell _ _ _) (hne _)).only (Only.of_setCell _ _ _) (hne _)).only (Only.of_setCell _ _ _) (hne _)).only (Only.of_setCell _ _ _) (hne _)).mono (fun b hb _ => by omega)
 ·iterate 5 refine Below.setCell ?_ (show W.heap.size <= W.heap.size + 1 from Nat.le_succ _) _
  exact HB6.o
theorem qpu (lit i : Int) (q : Option Addr) (c : Nat) (W : World) (hlit : -4611686018427387903 <= lit /\ lit <= 4611686018427387903) (hi : -4611686018427387903 <= i /\ i <= 4611686018427387903) :
  Calls Tryz.prog 52 #[lkV ⟨6, lit, 0, 0, i, 0, []⟩ q c] W fun e w' => TrR W w' e true 1 ⟨#[40]⟩ (.cons false 3 qa9 0 .nil (nusF [lit, i])) := by
 obtain ⟨w2, hw2⟩ : ∃ w2, w2 = ((W.alloc (.cells #[.int .u8 6, .int .i64 lit, .int .i64 0, .int .i64 0, .int .i64 i, .int .i64 0, .slice q 0 c] 64)).alloc (.cells #[.bool false, .int .u8 0, .string ⟨#[]⟩, .int .i64 0, .slice none 0 0] 35)).alloc (.cells #[.int .i64 lit, .int .i64 i] 3) := ⟨_, rfl⟩;have hb2 : Below W.heap.size W w2 := by rw [hw2]; exact (((qab W _).alloc (by simp) _).alloc (by simp; omega) _)
 have hsz : w2.heap.size = W.heap.size + 3 := by rw [hw2]; simp
 have hz : BoxT w2 (W.heap.size + 1) false 0 ⟨#[]⟩ 0 (.slice none 0 0) := by
  have h := (qam (W.alloc (.cells #[.int .u8 6, .int .i64 lit, .int .i64 0, .int .i64 0, .int .i64 i, .int .i64 0, .slice q 0 c] 64)) false 0 ⟨#[]⟩ 0 (.slice none 0 0)).later (qab _ (.cells #[.int .i64 lit, .int .i64 i] 3));rw [hw2]; simpa using h
 have hn : OwnI 3 w2 (fun b => W.heap.size + 2 <= b) (.slice (some ⟨W.heap.size + 1 + 1, 0, none⟩) 2 2) [lit, i] := by
  have h := qde (W := (W.alloc (.cells #[.int .u8 6, .int .i64 lit, .int .i64 0, .int .i64 0, .int .i64 i, .int .i64 0, .slice q 0 c] 64)).alloc (.cells #[.bool false, .int .u8 0, .string ⟨#[]⟩, .int .i64 0, .slice none 0 0] 35)) 3 (fun b => W.heap.size + 2 <= b) [lit, i] (by simp) (by simp);rw [hw2]; simpa using h
 have HS := Zh (aI hb2 (aI hsz (aI hz hn)));have HW2 := Zh hw2;clear hb2 hsz hz hn hw2;unfold lkV;go_enter Tryz.func52, Tryz.ntmps52
 go_wp2_with fail
 rw [<- HW2.o];obtain ⟨q2, c2, hv2, hc2, hc3, hq2, hf2, hi2, hz2⟩ := HS.o.2.2.2.intsIn;cases hv2;refine (qdj _ 2 2 [lit, i] w2 hi2 rfl (by omega) (fun y hy => by simp only [List.mem_cons, List.not_mem_nil, or_false] at hy; rcases hy with rfl | rfl <;> assumption)).mono ?_;rintro e w3 ⟨q3, c3, rfl, hown, hb⟩;clear hc2 hc3 hq2 hf2 hi2 hz2;have HO := Zh hown;have HZ := Zh (HS.o.2.2.1.later hb);have HB := Zh (HS.o.1.trans (hb.mono HS.o.1.size));have HSZ := Zh (show w2.heap.size <= w3.heap.size from hb.size);clear hown hb
 go_wp2_with fail
 refine (qdo _ _ _ (w2.heap.size) _ HO.o HSZ.o (by rw [qag]; simp)).mono ?_;rintro e w6 ⟨q6, c6, rfl, hc6, hq6, hb6⟩;have hl6 : (nusF [lit, i]).len + 1 = (Fo.cons false 3 qa9 0 .nil (nusF [lit, i])).len := rfl;rw [hl6] at hc6;have HQ := Zh (aI hc6 hq6);have HB6 := Zh (HB.o.trans (hb6.mono HB.o.size));obtain ⟨z0, z1, z2, z3, z4, zf⟩ := HZ.o.later hb6;rw [hl6];clear hc6 hq6 hb6 hl6;unfold trV
 go_wp2_with fail
 refine bodyPost_ret (v := trV true 1 ⟨#[40]⟩ 0 q6 (Fo.cons false 3 qa9 0 .nil (nusF [lit, i])).len c6) (by simp [trV, results, Tryz.results52, go_sem, z0, z1, z2, z3, z4]) rfl ⟨q6, c6, rfl, HQ.o.1, ?_, ?_, ?_⟩
 ·simp only [Fo.len]; rw [qag]; simp
 ·have hne : ∀ o b, W.heap.size + 2 <= b -> ¬ b = (⟨W.heap.size + 1, o, none⟩ : Addr).block := fun o b h e => by simp only at e; omega
  have hq := HQ.o.2.mono (F' := fun b => W.heap.size + 2 <= b) (fun b hb _ => by have hb' : w2.heap.size <= b := hb; have := HS.o.2.1; omega);exact (((((hq.only (Only.of_setCell _ _ _) (hne _)).only (Only.of_setCell _ _ _) (hne _)).only (Only.of_setCell _ _ _) (hne _)).only (Only.of_setCell _ _ _) (hne _)).only (Only.of_setCell _ _ _) (hne _)).mono (fun b hb _ => by omega)
 ·iterate 5 refine Below.setCell ?_ (show W.heap.size <= W.heap.size + 1 from Nat.le_succ _) _
  exact HB6.o
theorem qpt (i : Int) (q : Option Addr) (c : Nat) (W : World) (hi : -4611686018427387903 <= i /\ i <= 4611686018427387903) :
  Calls Tryz.prog 52 #[lkV ⟨7, 0, 0, 0, i, 0, []⟩ q c] W fun e w' => TrR W w' e true 1 ⟨#[40]⟩ (.cons false 3 qbx 0 .nil (nusF [i])) := by
 obtain ⟨w2, hw2⟩ : ∃ w2, w2 = ((W.alloc (.cells #[.int .u8 7, .int .i64 0, .int .i64 0, .int .i64 0, .int .i64 i, .int .i64 0, .slice q 0 c] 64)).alloc (.cells #[.bool false, .int .u8 0, .string ⟨#[]⟩, .int .i64 0, .slice none 0 0] 35)).alloc (.cells #[.int .i64 i] 3) := ⟨_, rfl⟩;have hb2 : Below W.heap.size W w2 := by rw [hw2]; exact (((qab W _).alloc (by simp) _).alloc (by simp; omega) _)
 have hsz : w2.heap.size = W.heap.size + 3 := by rw [hw2]; simp
 have hz : BoxT w2 (W.heap.size + 1) false 0 ⟨#[]⟩ 0 (.slice none 0 0) := by
  have h := (qam (W.alloc (.cells #[.int .u8 7, .int .i64 0, .int .i64 0, .int .i64 0, .int .i64 i, .int .i64 0, .slice q 0 c] 64)) false 0 ⟨#[]⟩ 0 (.slice none 0 0)).later (qab _ (.cells #[.int .i64 i] 3));rw [hw2]; simpa using h
 have hn : OwnI 3 w2 (fun b => W.heap.size + 2 <= b) (.slice (some ⟨W.heap.size + 1 + 1, 0, none⟩) 1 1) [i] := by
  have h := qde (W := (W.alloc (.cells #[.int .u8 7, .int .i64 0, .int .i64 0, .int .i64 0, .int .i64 i, .int .i64 0, .slice q 0 c] 64)).alloc (.cells #[.bool false, .int .u8 0, .string ⟨#[]⟩, .int .i64 0, .slice none 0 0] 35)) 3 (fun b => W.heap.size + 2 <= b) [i] (by simp) (by simp);rw [hw2]; simpa using h
 have HS := Zh (aI hb2 (aI hsz (aI hz hn)));have HW2 := Zh hw2;clear hb2 hsz hz hn hw2;unfold lkV;go_enter Tryz.func52, Tryz.ntmps52
 go_wp2_with fail
 rw [<- HW2.o];obtain ⟨q2, c2, hv2, hc2, hc3, hq2, hf2, hi2, hz2⟩ := HS.o.2.2.2.intsIn;cases hv2;refine (qdj _ 1 1 [i] w2 hi2 rfl (by omega) (fun y hy => by simp only [List.mem_cons, List.not_mem_nil, or_false] at hy; rw [hy]; assumption)).mono ?_;rintro e w3 ⟨q3, c3, rfl, hown, hb⟩;clear hc2 hc3 hq2 hf2 hi2 hz2;have HO := Zh hown;have HZ := Zh (HS.o.2.2.1.later hb);have HB := Zh (HS.o.1.trans (hb.mono HS.o.1.size));have HSZ := Zh (show w2.heap.size <= w3.heap.size from hb.size);clear hown hb
 go_wp2_with fail
 refine (qdo _ _ _ (w2.heap.size) _ HO.o HSZ.o (by rw [qag]; simp)).mono ?_;rintro e w6 ⟨q6, c6, rfl, hc6, hq6, hb6⟩;have hl6 : (nusF [i]).len + 1 = (Fo.cons false 3 qbx 0 .nil (nusF [i])).len := rfl;rw [hl6] at hc6;have HQ := Zh (aI hc6 hq6);have HB6 := Zh (HB.o.trans (hb6.mono HB.o.size));obtain ⟨z0, z1, z2, z3, z4, zf⟩ := HZ.o.later hb6;rw [hl6];clear hc6 hq6 hb6 hl6;unfold trV
 go_wp2_with fail
 refine bodyPost_ret (v := trV true 1 ⟨#[40]⟩ 0 q6 (Fo.cons false 3 qbx 0 .nil (nusF [i])).len c6) (by simp [trV, results, Tryz.results52, go_sem, z0, z1, z2, z3, z4]) rfl ⟨q6, c6, rfl, HQ.o.1, ?_, ?_, ?_⟩
 ·simp only [Fo.len]; rw [qag]; simp
 ·have hne : ∀ o b, W.heap.size + 2 <= b -> ¬ b = (⟨W.heap.size + 1, o, none⟩ : Addr).block := fun o b h e => by simp only at e; omega
  have hq := HQ.o.2.mono (F' := fun b => W.heap.size + 2 <= b) (fun b hb _ => by have hb' : w2.heap.size <= b := hb; have := HS.o.2.1; omega);exact (((((hq.only (Only.of_setCell _ _ _) (hne _)).only (Only.of_setCell _ _ _) (hne _)).only (Only.of_setCell _ _ _) (hne _)).only (Only.of_setCell _ _ _) (hne _)).only (Only.of_setCell _ _ _) (hne _)).mono (fun b hb _ => by omega)
 ·iterate 5 refine Below.setCell ?_ (show W.heap.size <= W.heap.size + 1 from Nat.le_succ _) _
  exact HB6.o
def SlOK (q : Option Addr) (c : Nat) : Prop := q = none -> c = 0
def LksOK (W : World) (p : Option Addr) (l : List Lk) : Prop := ∀ i (_ : i < l.length) b off, p = some ⟨b, off, none⟩ -> ∀ q n c, W.cell? ⟨b, off + i * 7 + 6, none⟩ = some (.slice q n c) -> SlOK q c
theorem LksOK.later {W W' : World} {p : Option Addr} {l : List Lk} (h : LksOK W p l) (h2 : LksIn W p l) (hb : Below W.heap.size W W') : LksOK W' p l := fun i hi b off e q n c hc => by
 obtain ⟨b', off', e', _, _, _, _, _, _, q', c', h6, _⟩ := h2 i hi;rw [e] at e'; cases e';have h3 := qaa hb h6;rw [hc] at h3
 injection h3 with h3; injection h3 with h4 h5 h6'
 subst h4 h6';exact h i hi b off e _ _ _ h6
theorem ql0 (x : Lk) (q : Option Addr) (c : Nat) (W : World) (hl : IntsIn W q x.l) (h : qaz x = true) (hs : SlOK q c) : Calls Tryz.prog 52 #[lkV x q c] W fun e w' => TrR W w' e true 1 ⟨#[40]⟩ (lkX x) := by
 rcases qeu h with ⟨e, h1⟩ | ⟨e, h1⟩ | ⟨e, h1⟩ | ⟨e, h1, h2⟩ | ⟨e, h1, h2, h3, h4⟩ | ⟨e, h1, h2⟩ | ⟨e, h1⟩ <;> obtain ⟨k, lit, a, b, i, j, l⟩ := x <;> cases e
 ·exact qpz lit q c W (qb8 h1)
 ·exact qpy a q c W (qar h1)
 ·exact qpx i q c W (qar h1)
 ·exact qpw i j q c W (qar h1) (qar h2)
 ·exact qpv a b l q c W (qar h1) (qar h2) hs hl (Nat.le_trans h3 (by decide)) (fun y hy => qar (List.all_eq_true.1 h4 y hy))
 ·exact qpu lit i q c W (qb8 h1) (qar h2)
 ·exact qpt i q c W (qar h1)
def lkC (y : Lk) (q : Option Addr) (c : Nat) : List Value := [.int .u8 y.k, .int .i64 y.lit, .int .i64 y.a, .int .i64 y.b, .int .i64 y.i, .int .i64 y.j, .slice q y.l.length c]
structure IntsB (W : World) (F : Nat -> Prop) (q : Option Addr) (l : List Int) : Prop where
 ints : IntsIn W q l
 blk : ∀ ad, q = some ad -> F ad.block /\ ad.block < W.heap.size
theorem IntsB.move {W W' : World} {F F' : Nat -> Prop} {q : Option Addr} {l : List Int} (h : IntsB W F q l) (hs : W.heap.size <= W'.heap.size) (hc : ∀ b o v, F b -> W.cell? ⟨b, o, none⟩ = some v -> W'.cell? ⟨b, o, none⟩ = some v) (hF : ∀ b, F b -> b < W.heap.size -> F' b) : IntsB W' F' q l :=
 ⟨fun i hi => by
  obtain ⟨b, off, e, h1⟩ := h.ints i hi
  exact ⟨b, off, e, hc _ _ _ (h.blk _ e).1 h1⟩, fun ad e => ⟨hF _ (h.blk ad e).1 (h.blk ad e).2, Nat.lt_of_lt_of_le (h.blk ad e).2 hs⟩⟩
def RowK (W : World) (F : Nat -> Prop) : List Lk -> List Value -> Prop
 | [], xs => xs = []
 | y :: r, xs => ∃ q c ys, xs = lkC y q c ++ ys /\ y.l.length <= c /\ c <= 9223372036854775807 /\ SlOK q c /\ IntsB W F q y.l /\ RowK W F r ys
theorem RowK.move {W W' : World} {F F' : Nat -> Prop} (hs : W.heap.size <= W'.heap.size) (hc : ∀ b o v, F b -> W.cell? ⟨b, o, none⟩ = some v -> W'.cell? ⟨b, o, none⟩ = some v) (hF : ∀ b, F b -> b < W.heap.size -> F' b) : ∀ (l : List Lk) (xs : List Value), RowK W F l xs -> RowK W' F' l xs
 | [], _, h => h
 | y :: r, xs, h => by
  obtain ⟨q, c, ys, e, h1, h2, h3, h4, h5⟩ := h;exact ⟨q, c, ys, e, h1, h2, h3, h4.move hs hc hF, RowK.move hs hc hF r ys h5⟩
theorem RowK.snoc {W : World} {F : Nat -> Prop} {y : Lk} {q : Option Addr} {c : Nat} (h1 : y.l.length <= c) (h2 : c <= 9223372036854775807) (h3 : SlOK q c) (h4 : IntsB W F q y.l) : ∀ (l : List Lk) (xs : List Value), RowK W F l xs -> RowK W F (l ++ [y]) (xs ++ lkC y q c)
 | [], xs, h => by
  obtain rfl : xs = [] := h
  exact ⟨q, c, [], by simp, h1, h2, h3, h4, rfl⟩
 | z :: r, xs, h => by
  obtain ⟨q0, c0, ys, rfl, g1, g2, g3, g4, g5⟩ := h;exact ⟨q0, c0, ys ++ lkC y q c, by simp, g1, g2, g3, g4, RowK.snoc h1 h2 h3 h4 r ys g5⟩
theorem RowK.lks {W : World} {F : Nat -> Prop} {g : Nat} : ∀ (l : List Lk) (xs : List Value) (off : Nat), RowK W F l xs -> (∀ j u, xs[j]? = some u -> W.cell? ⟨g, off + j, none⟩ = some u) -> LksIn W (some ⟨g, off, none⟩) l /\ LksOK W (some ⟨g, off, none⟩) l
 | [], _, _, _, _ => ⟨fun i hi => absurd hi (Nat.not_lt_zero i), fun i hi => absurd hi (Nat.not_lt_zero i)⟩
 | y :: r, xs, off, h, hc => by
  obtain ⟨q, c, ys, rfl, h1, h2, h3, h4, h5⟩ := h
  have ih := RowK.lks r ys (off + 7) h5 (fun j u hu => by
   have := hc (7 + j) u (by rw [List.getElem?_append_right (by simp [lkC])]; simpa [lkC] using hu);rw [<- Nat.add_assoc] at this
   exact this)
  have a6 := hc 6 _ rfl;refine ⟨fun i hi => ?_, fun i hi => ?_⟩
  ·cases i with
   | zero => exact ⟨g, off, rfl, by simpa using hc 0 _ rfl, by simpa using hc 1 _ rfl, by simpa using hc 2 _ rfl, by simpa using hc 3 _ rfl, by simpa using hc 4 _ rfl, by simpa using hc 5 _ rfl, q, c, by simpa using a6, h4.ints, h1, h2⟩
   | succ i =>
    obtain ⟨b', off', e, c0, c1, c2, c3, c4, c5, q', c', c6, t⟩ := ih.1 i (by simpa using hi);cases e;have ee : off + (i + 1) * 7 = off + 7 + i * 7 := by omega
    exact ⟨g, off, rfl, by rw [ee]; exact c0, by rw [ee]; exact c1, by rw [ee]; exact c2, by rw [ee]; exact c3, by rw [ee]; exact c4, by rw [ee]; exact c5, q', c', by rw [ee]; exact c6, t⟩
  ·intro b off' e q' n' c' hcell
   cases e
   cases i with
   | zero =>
    have a6' : W.cell? ⟨g, off + 0 * 7 + 6, none⟩ = some (.slice q y.l.length c) := by simpa using a6
    rw [a6'] at hcell
    injection hcell with hcell; injection hcell with e1 e2 e3
    subst e1 e3
    exact h3
   | succ i =>
    have ee : off + (i + 1) * 7 = off + 7 + i * 7 := by omega
    rw [ee] at hcell;exact ih.2 i (by simpa using hi) g (off + 7) rfl q' n' c' hcell
structure OwnK (W : World) (F : Nat -> Prop) (v : Value) (l : List Lk) : Prop where
 has : ∃ xs, W.ownsRow 0 64 7 v l.length xs /\ RowK W (fun b => F b /\ v.ownBlock ≠ some b) l xs
 blk : ∀ k, v.ownBlock = some k -> F k /\ k < W.heap.size
theorem OwnK.nil (W : World) (F : Nat -> Prop) : OwnK W F (.slice none 0 0) [] := ⟨⟨[], ⟨rfl, Or.inl ⟨rfl, rfl⟩⟩, rfl⟩, fun k hk => by cases hk⟩
theorem OwnK.later {W W' : World} {F : Nat -> Prop} {v : Value} {l : List Lk} (h : OwnK W F v l) (hb : Below W.heap.size W W') : OwnK W' F v l := by
 obtain ⟨⟨xs, h1, h2⟩, h3⟩ := h;exact ⟨⟨xs, qal h1 hb, h2.move hb.size (fun b o v _ hv => qaa hb hv) (fun _ hb _ => hb)⟩, fun k hk => ⟨(h3 k hk).1, Nat.lt_of_lt_of_le (h3 k hk).2 hb.size⟩⟩
theorem OwnK.only {W W' : World} {F T : Nat -> Prop} {v : Value} {l : List Lk} (h : OwnK W F v l) (ho : Only T W W') (hn : ∀ b, F b -> ¬ T b) : OwnK W' F v l := by
 obtain ⟨⟨xs, h1, h2⟩, h3⟩ := h;exact ⟨⟨xs, qb3 h1 ho (fun k hk => hn k (h3 k hk).1), h2.move ho.size (fun b o v hb hv => ho.cell hv (hn b hb.1)) (fun _ hb _ => hb)⟩, fun k hk => ⟨(h3 k hk).1, Nat.lt_of_lt_of_le (h3 k hk).2 ho.size⟩⟩
theorem OwnK.mono {W : World} {F F' : Nat -> Prop} {v : Value} {l : List Lk} (h : OwnK W F v l) (hn : ∀ b, F b -> b < W.heap.size -> F' b) : OwnK W F' v l := by
 obtain ⟨⟨xs, h1, h2⟩, h3⟩ := h;exact ⟨⟨xs, h1, h2.move (Nat.le_refl _) (fun _ _ _ _ hv => hv) (fun b hb hl => ⟨hn b hb.1 hl, hb.2⟩)⟩, fun k hk => ⟨hn k (h3 k hk).1 (h3 k hk).2, (h3 k hk).2⟩⟩
theorem qcx {w : World} {base n c : Nat} {e : TypeId} {size g : Nat} {xs : List Value} (h : w.ownsRow base e size (.slice (some ⟨g, 0, none⟩) n c) n xs) (i : Nat) (u : Value) (hu : xs[i]? = some u) : w.cell? ⟨g, i, none⟩ = some u /\ w.frozen? ⟨g, i, none⟩ = false := by
 obtain ⟨h0, ⟨h1, _⟩ | ⟨g', cap, cur, hv, hg, hh, hn, hm, hs, ht⟩⟩ := h
 ·cases h1
 ·cases hv
  have hlt := (List.getElem?_eq_some_iff.1 hu).1;rw [<- ht, List.getElem?_take_of_lt (by omega)] at hu;have e' : cur[i]? = some u := by simpa using hu
  exact ⟨by simp [World.cell?, hh, e'], by simp [World.frozen?, hh]⟩
theorem OwnK.lks {W : World} {F : Nat -> Prop} {v : Value} {l : List Lk} (h : OwnK W F v l) : ∃ q c, v = .slice q l.length c /\ l.length <= c /\ SlOK q c /\ LksIn W q l /\ LksOK W q l := by
 obtain ⟨⟨xs, h1, h2⟩, h3⟩ := h;obtain ⟨q, c, rfl, hq⟩ := qaq h1;have hc := qf1 h1;rcases h1.2 with ⟨e, e2⟩ | ⟨g, cap, cur, e, hg, hh, hn, hm, hs, ht⟩
 ·injection e with e3 e4 e5
  subst e3 e5;have : l = [] := List.eq_nil_of_length_eq_zero e2;subst this;exact ⟨none, 0, rfl, hc, fun _ => rfl, fun i hi => absurd hi (Nat.not_lt_zero i), fun i hi => absurd hi (Nat.not_lt_zero i)⟩
 ·injection e with e3 e4 e5
  subst e3;have hh2 := RowK.lks (g := g) l xs 0 h2 (fun j u hu => by rw [Nat.zero_add]; exact (qcx h1 j u hu).1);exact ⟨_, c, rfl, hc, (fun h => by cases h), hh2.1, hh2.2⟩
def Z64 : Value := .agg #[.int .u8 0, .int .i64 0, .int .i64 0, .int .i64 0, .int .i64 0, .int .i64 0, .slice none 0 0]
theorem qtg : ∃ i0, Tryz.prog.info? 64 = some i0 /\ i0.zero = some Z64 /\ i0.size = 7 /\ i0.bytes = 72 := qd1 (by kernel_rfl)
section
variable {w : World} {ops : Array Oper} {rest : List Oper} {o : Oper} {a : Act} {Q : Exit -> Act -> World -> Prop} {K : Act -> World -> Prop}
theorem qh1 (s x : Operand) (ho : o.op = .call { callee := .builtin .append, args := #[s, x], argTypes := #[24, 24] })
  (F G : Nat -> Prop) (B : Nat) (v : Value) (l : List Lk) (y : Lk) (q : Option Addr) (c : Nat)
  (hs : a.eval s = v) (hx : a.eval x = .slice (some ⟨B, 0, none⟩) 1 1) (own : OwnK w F v l) (hb : LkAt w B y q c) (hq : IntsB w G q y.l) (hc : y.l.length <= c) (hm : c <= 9223372036854775807) (hok : SlOK q c)
  (hG : ∀ b, G b -> b < w.heap.size -> F b /\ v.ownBlock ≠ some b) (hnew : F w.heap.size) (hf : l.length <= 1000000000)
  (h : ∀ p' c' w', OwnK w' F (.slice p' (l.length + 1) c') (l ++ [y]) -> Only (fun j => v.ownBlock = some j) w w' -> K (a.put o.dst (.slice p' (l.length + 1) c')) w') : o.wp Tryz.prog a w K Q := by
 obtain ⟨⟨xs, ho1, hrw⟩, hbk⟩ := own;obtain ⟨i0, hi, hz0, hz1, hz2⟩ := qtg;refine qay s x 24 ho 0 64 i0 Z64 7 72 Tryz.underlying24 hi hz0 hz1 hz2 rfl (by omega) v l.length xs hs ho1 ⟨B, 0, none⟩ 1 1 (lkC y q c) hx (by rfl) ?_ ?_ ?_ ?_ (Nat.zero_le _) ?_
 ·intro jj u hjj
  rw [Lib.add_plain]
  match jj, hjj with
  | 0, hjj => cases hjj; exact hb.c0
  | 1, hjj => cases hjj; exact hb.c1
  | 2, hjj => cases hjj; exact hb.c2
  | 3, hjj => cases hjj; exact hb.c3
  | 4, hjj => cases hjj; exact hb.c4
  | 5, hjj => cases hjj; exact hb.c5
  | 6, hjj => cases hjj; exact hb.c6
 ·intro u hu; simp [lkC] at hu; rcases hu with rfl | rfl | rfl | rfl | rfl | rfl | rfl <;> rfl
 ·have hml : maxLen = 9223372036854775807 := rfl
  omega
 ·omega
 intro v8 w8 hown hgrow hnil_ hloc;obtain ⟨p8, c8, hv8, hA_⟩ := qaq hown;have ho8 := Only.of_grown hgrow;subst hv8;refine h p8 c8 w8 ⟨⟨xs ++ lkC y q c, by rw [List.length_append]; exact hown, ?_⟩, fun j hj => ⟨?_, (qaw hown hj).2⟩⟩ ho8
 ·have hq2 : IntsB w (fun b => F b /\ v.ownBlock ≠ some b) q y.l := hq.move (Nat.le_refl _) (fun _ _ _ _ hv => hv) (fun b hb hl => hG b hb hl)
  have hr := RowK.snoc hc hm hok hq2 l xs hrw;refine hr.move ho8.size (fun b o u hb hu => ho8.cell hu hb.2) (fun b hb hlt => ⟨hb.1, fun e => ?_⟩);rcases hloc with h | h
  ·exact hb.2 (h ▸ e)
  ·rw [h] at e; injection e with e; omega
 ·rcases hloc with h | h
  ·exact (hbk j (h ▸ hj)).1
  ·rw [h] at hj; injection hj with hj; exact hj ▸ hnew
theorem qdl (hgd : o.guard = none) (s x : Operand) (ho : o.op = .call { callee := .builtin .append, args := #[s, x], argTypes := #[24, 24] })
  (F G : Nat -> Prop) (B : Nat) (v : Value) (l : List Lk) (y : Lk) (q : Option Addr) (c : Nat)
  (hs : a.eval s = v) (hx : a.eval x = .slice (some ⟨B, 0, none⟩) 1 1) (own : OwnK w F v l) (hb : LkAt w B y q c) (hq : IntsB w G q y.l) (hc : y.l.length <= c) (hm : c <= 9223372036854775807) (hok : SlOK q c)
  (hG : ∀ b, G b -> b < w.heap.size -> F b /\ v.ownBlock ≠ some b) (hnew : F w.heap.size) (hf : l.length <= 1000000000)
  (h : ∀ p' c' w', OwnK w' F (.slice p' (l.length + 1) c') (l ++ [y]) -> Only (fun j => v.ownBlock = some j) w w' -> wpList Tryz.prog ops Q rest (a.put o.dst (.slice p' (l.length + 1) c')) w') : wpList Tryz.prog ops Q (o :: rest) a w :=
 wpList_plain hgd fun _ hK => qh1 s x ho F G B v l y q c hs hx own hb hq hc hm hok hG hnew hf (fun p' c' w' h1 h2 => hK _ _ (h p' c' w' h1 h2))
end
theorem OwnI.intsB {e : TypeId} {W : World} {F : Nat -> Prop} {v : Value} {l : List Int} (h : OwnI e W F v l) : ∃ q c, v = .slice q l.length c /\ l.length <= c /\ c <= 9223372036854775807 /\ SlOK q c /\ IntsB W F q l := by
 obtain ⟨q, c, hv, h1, h2, h3, h4, h5, _⟩ := h.intsIn;refine ⟨q, c, hv, h1, h2, h3, h5, fun ad e => ?_⟩
 ·refine ⟨(h4 ad e).2, ?_⟩
  subst hv;obtain ⟨g, o, ix⟩ := ad;have e2 := (h4 _ e).1;cases e2;exact (h.blk g (by rw [e]; rfl)).2
structure BoxS (w : World) (b : Nat) (k : Int) (v1 v2 : Value) (x y : Int) : Prop where
 c0 : w.cell? ⟨b, 0, none⟩ = some (.int .u8 k)
 c1 : w.cell? ⟨b, 1, none⟩ = some v1
 c2 : w.cell? ⟨b, 2, none⟩ = some v2
 c3 : w.cell? ⟨b, 3, none⟩ = some (.int .i64 x)
 c4 : w.cell? ⟨b, 4, none⟩ = some (.int .i64 y)
 fz : ∀ o, w.frozen? ⟨b, o, none⟩ = false
theorem BoxS.lt {w : World} {b : Nat} {k x y : Int} {v1 v2 : Value} (h : BoxS w b k v1 v2 x y) : b < w.heap.size := World.block_lt_of_cell? w _ h.c0
theorem BoxS.only {w w' : World} {b : Nat} {k x y : Int} {v1 v2 : Value} {T : Nat -> Prop} (h : BoxS w b k v1 v2 x y) (ho : Only T w w') (hn : ¬ T b) : BoxS w' b k v1 v2 x y :=
 ⟨ho.cell h.c0 hn, ho.cell h.c1 hn, ho.cell h.c2 hn, ho.cell h.c3 hn, ho.cell h.c4 hn, fun o => by rw [ho.frozen (a := ⟨b, o, none⟩) h.lt hn]; exact h.fz o⟩
theorem BoxS.later {w w' : World} {b : Nat} {k x y : Int} {v1 v2 : Value} (h : BoxS w b k v1 v2 x y) (hb : Below w.heap.size w w') : BoxS w' b k v1 v2 x y :=
 h.only (Only.of_below (T := fun _ => False) hb) (fun h => h)
theorem qd9 (w : World) (k x y : Int) (v1 v2 : Value) : BoxS (w.alloc (.cells #[.int .u8 k, v1, v2, .int .i64 x, .int .i64 y] 26)) w.heap.size k v1 v2 x y :=
 ⟨by simp [go_sem], by simp [go_sem], by simp [go_sem], by simp [go_sem], by simp [go_sem], fun o => by simp [go_sem]⟩
theorem BoxS.set1 {w : World} {b : Nat} {k x y : Int} {v1 v2 : Value} (h : BoxS w b k v1 v2 x y) (v : Value) : BoxS (w.setCell ⟨b, 1, none⟩ v) b k v v2 x y := by
 refine ⟨?_, ?_, ?_, ?_, ?_, fun o => ?_⟩
 ·rw [World.cell?_setCell_other _ _ _ _ (by intro e; cases e)]; exact h.c0
 ·have := h.c1
  have hf := h.fz 1;simp [go_sem, this]
 ·rw [World.cell?_setCell_other _ _ _ _ (by intro e; cases e)]; exact h.c2
 ·rw [World.cell?_setCell_other _ _ _ _ (by intro e; cases e)]; exact h.c3
 ·rw [World.cell?_setCell_other _ _ _ _ (by intro e; cases e)]; exact h.c4
 ·have := h.fz o
  simp [go_sem, this]
theorem BoxS.set2 {w : World} {b : Nat} {k x y : Int} {v1 v2 : Value} (h : BoxS w b k v1 v2 x y) (v : Value) : BoxS (w.setCell ⟨b, 2, none⟩ v) b k v1 v x y := by
 refine ⟨?_, ?_, ?_, ?_, ?_, fun o => ?_⟩
 ·rw [World.cell?_setCell_other _ _ _ _ (by intro e; cases e)]; exact h.c0
 ·rw [World.cell?_setCell_other _ _ _ _ (by intro e; cases e)]; exact h.c1
 ·have := h.c2
  have hf := h.fz 2;simp [go_sem, this]
 ·rw [World.cell?_setCell_other _ _ _ _ (by intro e; cases e)]; exact h.c3
 ·rw [World.cell?_setCell_other _ _ _ _ (by intro e; cases e)]; exact h.c4
 ·have := h.fz o
  simp [go_sem, this]
structure BoxL (w : World) (b : Nat) (y : Lk) (v : Value) : Prop where
 c0 : w.cell? ⟨b, 0, none⟩ = some (.int .u8 y.k)
 c1 : w.cell? ⟨b, 1, none⟩ = some (.int .i64 y.lit)
 c2 : w.cell? ⟨b, 2, none⟩ = some (.int .i64 y.a)
 c3 : w.cell? ⟨b, 3, none⟩ = some (.int .i64 y.b)
 c4 : w.cell? ⟨b, 4, none⟩ = some (.int .i64 y.i)
 c5 : w.cell? ⟨b, 5, none⟩ = some (.int .i64 y.j)
 c6 : w.cell? ⟨b, 6, none⟩ = some v
 fz : ∀ o, w.frozen? ⟨b, o, none⟩ = false
theorem BoxL.lt {w : World} {b : Nat} {y : Lk} {v : Value} (h : BoxL w b y v) : b < w.heap.size := World.block_lt_of_cell? w _ h.c0
theorem BoxL.only {w w' : World} {b : Nat} {y : Lk} {v : Value} {T : Nat -> Prop} (h : BoxL w b y v) (ho : Only T w w') (hn : ¬ T b) : BoxL w' b y v :=
 ⟨ho.cell h.c0 hn, ho.cell h.c1 hn, ho.cell h.c2 hn, ho.cell h.c3 hn, ho.cell h.c4 hn, ho.cell h.c5 hn, ho.cell h.c6 hn, fun o => by rw [ho.frozen (a := ⟨b, o, none⟩) h.lt hn]; exact h.fz o⟩
theorem BoxL.later {w w' : World} {b : Nat} {y : Lk} {v : Value} (h : BoxL w b y v) (hb : Below w.heap.size w w') : BoxL w' b y v :=
 h.only (Only.of_below (T := fun _ => False) hb) (fun h => h)
theorem qea (w : World) (y : Lk) (v : Value) : BoxL (w.alloc (.cells #[.int .u8 y.k, .int .i64 y.lit, .int .i64 y.a, .int .i64 y.b, .int .i64 y.i, .int .i64 y.j, v] 64)) w.heap.size y v :=
 ⟨by simp [go_sem], by simp [go_sem], by simp [go_sem], by simp [go_sem], by simp [go_sem], by simp [go_sem], by simp [go_sem], fun o => by simp [go_sem]⟩
theorem BoxL.set6 {w : World} {b : Nat} {y : Lk} {v : Value} (h : BoxL w b y v) (u : Value) : BoxL (w.setCell ⟨b, 6, none⟩ u) b y u := by
 refine ⟨?_, ?_, ?_, ?_, ?_, ?_, ?_, fun o => ?_⟩
 ·rw [World.cell?_setCell_other _ _ _ _ (by intro e; cases e)]; exact h.c0
 ·rw [World.cell?_setCell_other _ _ _ _ (by intro e; cases e)]; exact h.c1
 ·rw [World.cell?_setCell_other _ _ _ _ (by intro e; cases e)]; exact h.c2
 ·rw [World.cell?_setCell_other _ _ _ _ (by intro e; cases e)]; exact h.c3
 ·rw [World.cell?_setCell_other _ _ _ _ (by intro e; cases e)]; exact h.c4
 ·rw [World.cell?_setCell_other _ _ _ _ (by intro e; cases e)]; exact h.c5
 ·have := h.c6
  have hf := h.fz 6;simp [go_sem, this]
 ·have := h.fz o
  simp [go_sem, this]
theorem qdp (w : World) (B : Nat) (v0 v1 v2 v3 v4 : Value) : Only (fun k => k = B) w (((((w.setCell ⟨B, 0, none⟩ v0).setCell ⟨B, 1, none⟩ v1).setCell ⟨B, 2, none⟩ v2).setCell ⟨B, 3, none⟩ v3).setCell ⟨B, 4, none⟩ v4) := by
 have T : ∀ (x y z : World), Only (fun k => k = B) x y -> Only (fun k => k = B) y z -> Only (fun k => k = B) x z := fun x y z h k => h.trans k
 exact T _ _ _ (T _ _ _ (T _ _ _ (T _ _ _ (Only.of_setCell w ⟨B, 0, none⟩ _) (Only.of_setCell _ ⟨B, 1, none⟩ _)) (Only.of_setCell _ ⟨B, 2, none⟩ _)) (Only.of_setCell _ ⟨B, 3, none⟩ _)) (Only.of_setCell _ ⟨B, 4, none⟩ _)
end Go.Proofs.YtookoagcmejkpaaGreatDoor
