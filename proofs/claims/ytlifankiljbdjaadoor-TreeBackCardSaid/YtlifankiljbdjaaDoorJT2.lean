/- Trees: the document's; alike; depths; rows of bytes; the stack of open lists. -/
import Derived.Test.YtlifankiljbdjaaDoorJT1
import Derived.Test.YtlifankiljbdjaaDoorJP
import Derived.Lib.AppendStr
import Derived.Deep.RegionHeld3
namespace Go.Proofs.YtlifankiljbdjaaDoor
open Go Go.RowKit

/-- may a leaf of this kind and text be written? -/
noncomputable def readB (k : Int) (s : ByteArray) : Bool := @decide (GoodT k.toNat s.data.toList ∧ 3 ≤ k) (Classical.propDecidable _)
theorem readB_iff {k : Int} {s : ByteArray} : readB k s = true ↔ GoodT k.toNat s.data.toList ∧ 3 ≤ k := by unfold readB; exact @decide_eq_true_iff _ (Classical.propDecidable _)
/-- what is written of trees, with blanks between (true: none ahead of the first one). -/
def txtF : Bool → Fo → List UInt8
  | _, .nil => []
  | b, .cons l k s _ x r => (if b then [] else [32]) ++ ((if l then 40 :: (txtF true x ++ [41]) else rendL k.toNat s.data.toList) ++ txtF false r)
def txtT (l : Bool) (k : Int) (s : ByteArray) (x : Fo) : List UInt8 := if l then 40 :: (txtF true x ++ [41]) else rendL k.toNat s.data.toList
/-- may trees be written? -/
noncomputable def okF : Fo → Bool
  | .nil => true
  | .cons l k s _ x r => (if l then (decide (k = 1) && decide (s = ⟨#[40]⟩)) && okF x else decide (x.len = 0) && readB k s) && okF r
noncomputable def okT (l : Bool) (k : Int) (s : ByteArray) (x : Fo) : Bool := if l then (decide (k = 1) && decide (s = ⟨#[40]⟩)) && okF x else decide (x.len = 0) && readB k s
/-- a tree without those below it. -/
structure Nd where
  l : Bool
  k : Int
  s : ByteArray
  n : Nat
def partsF : Fo → List Nd
  | .nil => []
  | .cons l k s _ x r => ⟨l, k, s, x.len⟩ :: (partsF x ++ partsF r)
noncomputable def nodeB (d : Nd) : Bool := if d.l then decide (d.k = 1) && decide (d.s = ⟨#[40]⟩) else decide (d.n = 0) && readB d.k d.s
def nodeW (d : Nd) : Nat := if d.l then 2 + (d.n - 1) else (rendL d.k.toNat d.s.data.toList).length
def wsum : List Nd → Nat
  | [] => 0
  | d :: l => nodeW d + wsum l
theorem wsum_app : ∀ l m : List Nd, wsum (l ++ m) = wsum l + wsum m
  | [], m => by simp [wsum]
  | d :: l, m => by simp only [List.cons_append, wsum, wsum_app l m]; omega
theorem fo_len_zero {x : Fo} (h : x.len = 0) : x = .nil := by
  cases x with
  | nil => rfl
  | cons => simp [Fo.len] at h
theorem okF_parts : ∀ f : Fo, okF f = (partsF f).all nodeB
  | .nil => rfl
  | .cons l k s a x r => by
    simp only [okF, partsF, List.all_cons, List.all_append, okF_parts r, nodeB]
    cases l with
    | true => simp only [if_true, okF_parts x, Bool.and_assoc]
    | false =>
      simp only [Bool.false_eq_true, if_false]
      by_cases h : x.len = 0
      · rw [fo_len_zero h]; simp [partsF]
      · simp [h]
theorem parts_len : ∀ f : Fo, (partsF f).length = f.size
  | .nil => rfl
  | .cons l k s a x r => by simp only [partsF, List.length_cons, List.length_append, parts_len x, parts_len r, Fo.size]
theorem txt_len : ∀ (f : Fo) (b : Bool), okF f = true → (txtF b f).length = wsum (partsF f) + (f.len - (if b then 1 else 0))
  | .nil, b, _ => by cases b <;> rfl
  | .cons l k s a x r, b, h => by
    simp only [okF, Bool.and_eq_true] at h
    have hr := txt_len r false h.2
    simp only [Bool.false_eq_true, if_false, Nat.sub_zero] at hr
    have hb : ((if b = true then [] else [32] : List UInt8)).length = (Fo.cons l k s a x r).len - (if b then 1 else 0) - r.len := by
      cases b <;> simp [Fo.len]
    have hb2 : r.len ≤ (Fo.cons l k s a x r).len - (if b then 1 else 0) := by cases b <;> simp [Fo.len]
    cases l with
    | true =>
      simp only [if_true, Bool.and_eq_true] at h
      have hx := txt_len x true h.1.2
      simp only [if_true] at hx
      simp only [txtF, partsF, wsum, wsum_app, List.length_append, hb, hr, if_true, List.length_cons, hx, nodeW, List.length_nil]
      omega
    | false =>
      simp only [Bool.false_eq_true, if_false, Bool.and_eq_true, decide_eq_true_eq] at h
      obtain rfl := fo_len_zero h.1.1
      simp only [txtF, partsF, wsum, wsum_app, List.length_append, hb, hr, nodeW]
      simp only [Bool.false_eq_true, if_false]
      omega
/-- how many bytes are reckoned: no more, once they are too many. -/
def szF : Nat → List Nd → Nat
  | a, [] => a
  | a, d :: l => szF (if a ≤ 1048576 then a + nodeW d else a) l
theorem szF_snoc : ∀ (l : List Nd) (a : Nat) (d : Nd), szF a (l ++ [d]) = if szF a l ≤ 1048576 then szF a l + nodeW d else szF a l
  | [], _, _ => rfl
  | _ :: l, _, d => szF_snoc l _ d
theorem szF_more : ∀ (l : List Nd) (a : Nat), 1048576 < a → szF a l = a
  | [], a, _ => rfl
  | d :: l, a, h => by rw [szF, if_neg (by omega), szF_more l a h]
theorem szF_spec : ∀ (l : List Nd) (a : Nat), (a + wsum l ≤ 1048576 → szF a l = a + wsum l) ∧ (1048576 < a + wsum l → 1048576 < szF a l)
  | [], a => ⟨fun _ => rfl, fun h => h⟩
  | d :: l, a => by
    have ih := szF_spec l (a + nodeW d)
    simp only [wsum, szF]
    by_cases h : a ≤ 1048576
    · rw [if_pos h]
      exact ⟨fun h2 => by rw [ih.1 (by omega)]; omega, fun h2 => ih.2 (by omega)⟩
    · rw [if_neg h]
      exact ⟨fun h2 => by omega, fun _ => by rw [szF_more l a (by omega)]; omega⟩
theorem szF_le (m : Nat) : ∀ (l : List Nd) (a : Nat), (∀ d ∈ l, nodeW d ≤ m) → a ≤ 1048576 + m → szF a l ≤ 1048576 + m
  | [], a, _, h => h
  | d :: l, a, h, ha => by
    rw [szF]
    refine szF_le m l _ (fun e he => h e (by simp [he])) ?_
    have := h d (by simp)
    split <;> omega
/-- the greatest depth of some trees, looked at as far as is told. -/
def depF : Fo → Nat → Nat
  | .nil, _ => 0
  | .cons l _ _ _ x r, m => max (if l && decide (0 < m) then depF x (m - 1) + 1 else 0) (depF r m)
def depT (l : Bool) (x : Fo) (m : Nat) : Nat := if l && decide (0 < m) then depF x (m - 1) + 1 else 0
theorem depF_le : ∀ (f : Fo) (m : Nat), depF f m ≤ m
  | .nil, m => Nat.zero_le _
  | .cons l _ _ _ x r, m => by
    have h1 := depF_le x (m - 1)
    have h2 := depF_le r m
    simp only [depF]
    cases l <;> by_cases hm : 0 < m <;> simp [hm] <;> omega
theorem depT_le (l : Bool) (x : Fo) (m : Nat) : depT l x m ≤ m := by
  have h1 := depF_le x (m - 1)
  unfold depT
  cases l <;> by_cases hm : 0 < m <;> simp [hm]; omega
/-- all texts take at most so much. -/
def szB (B : Nat) : Fo → Prop
  | .nil => True
  | .cons _ _ s _ x r => s.size ≤ B ∧ szB B x ∧ szB B r
theorem szB_parts {B : Nat} : ∀ f : Fo, szB B f → ∀ d ∈ partsF f, d.s.size ≤ B
  | .nil, _, d, h => by simp [partsF] at h
  | .cons l k s a x r, hB, d, h => by
    simp only [partsF, List.mem_cons, List.mem_append] at h
    rcases h with rfl | h | h
    · exact hB.1
    · exact szB_parts x hB.2.1 d h
    · exact szB_parts r hB.2.2 d h
/-- a tree's text, and what is wrong. -/
noncomputable def textR (l : Bool) (k : Int) (s : ByteArray) (x : Fo) : List UInt8 × Int :=
  if okT l k s x = false then ([], 5) else if 200 < depT l x 201 then ([], 40) else if 1048576 < (txtT l k s x).length then ([], 3) else (txtT l k s x, 0)
end Go.Proofs.YtlifankiljbdjaaDoor
namespace Go.Proofs.YtlifankiljbdjaaDoor
open Go Go.RowKit

theorem depF_cons (l : Bool) (k : Int) (s : ByteArray) (a : Int) (x r : Fo) (m : Nat) : depF (.cons l k s a x r) m = max (depT l x m) (depF r m) := rfl

def Dep54 (n : Nat) : Prop := ∀ (x : Fo), x.size ≤ n → ∀ (l : Bool) (k : Int) (s : ByteArray) (a : Int) (q : Option Addr) (c : Nat) (W : World) (F : Nat → Prop) (m : Nat), m ≤ 1000 → FoIn W F x q → x.len ≤ c → x.len ≤ 281474976710656 →
  Calls Tryd.prog 54 #[trV l k s a q x.len c, .int .i64 (m : Int)] W fun e w' => e = .returned (.int .i64 (depT l x m : Int)) ∧ Below W.heap.size W w'
set_option maxRecDepth 100000 in
set_option maxHeartbeats 3200000 in
theorem dep54_step (n : Nat) (ih : ∀ m, m < n → Dep54 m) : Dep54 n := by
  intro x hsz l k s a q c W F m hm hx hc hn
  have hdT : ∀ (l : Bool) (x : Fo) (m : Nat), depT l x m ≤ m := depT_le
  by_cases hl : l = false
  · subst hl
    have hR : depT false x m = 0 := by simp [depT]
    rw [hR]
    clear hdT ih
    unfold trV
    go_enter Tryd.func54, Tryd.ntmps54
    go_wp2_with fail
    go_ret
    exact ⟨by simp, below1 _ _⟩
  obtain rfl : l = true := by simpa using hl
  clear hl
  by_cases hm0 : m = 0
  · subst hm0
    have hR : depT true x 0 = 0 := by simp [depT]
    rw [hR]
    clear hm
    clear hdT ih
    unfold trV
    go_enter Tryd.func54, Tryd.ntmps54
    go_wp2_with fail
    go_ret
    exact ⟨by simp, below1 _ _⟩
  obtain ⟨M, rfl⟩ : ∃ M, m = M + 1 := ⟨m - 1, by omega⟩
  clear hm0
  have hR : depT true x (M + 1) = depF x M + 1 := by simp [depT]
  rw [hR]
  have hRM := depF_le x M
  obtain ⟨R, hR2⟩ : ∃ R, R = depF x M := ⟨_, rfl⟩
  rw [← hR2] at hRM ⊢
  obtain ⟨N, hN⟩ : ∃ N, N = x.len := ⟨_, rfl⟩
  rw [← hN] at hc hn ⊢
  have i1 : (N : Int) ≤ 281474976710656 := by omega
  have j1 : (M : Int) ≤ 1000 := by omega
  have e9 : wrap64 (((M : Nat) : Int) + 1 - 1) = (M : Int) := by rw [show ((M : Nat) : Int) + 1 - 1 = (M : Int) by omega]; exact IntWalk.wrap64_in _ ⟨by omega, by omega⟩
  have e8 : ¬ ((M : Int) + 1 ≤ 0) := by omega
  have HX := Lib.hid hx
  have HI := Lib.hid (show (N = x.len ∧ R = depF x M ∧ x.size ≤ n) from ⟨hN, hR2, hsz⟩)
  have IH := Lib.hid ih
  have HDT := Lib.hid hdT
  clear hx ih hN hR hR2 hsz hdT
  unfold trV
  go_enter Tryd.func54, Tryd.ntmps54
  go_wp2_with fail
  go_loopg [5, 7, 18] N (fun gk s5 s7 s18 wx => ∃ (i : Nat) (f : Fo) (d : Nat), i + gk = N ∧ s18 = .int .i64 (i : Int) ∧ s5 = .int .i64 (d : Int) ∧ d ≤ M ∧ Hid (f.len = gk ∧ R = max d (depF f M) ∧ f.size ≤ x.size ∧ FoIn wx F f (pl q i) ∧ wx.cell? ⟨W.heap.size, 4, none⟩ = some (.slice q N c) ∧ Below W.heap.size W wx))
  case atStart =>
    refine ⟨0, x, 0, by omega, rfl, rfl, by omega, Lib.hid ⟨?_, ?_, ?_, ?_, ?_, ?_⟩⟩
    · exact HI.out.1.symm
    · rw [HI.out.2.1]; simp
    · exact Nat.le_refl _
    · exact (pl_zero HX.out).later (below1 _ _)
    · simp [go_sem]
    · exact below1 _ _
  case round =>
    obtain ⟨i, f, d, hk, rfl, rfl, hdM, HK⟩ := hrel
    have HG := Lib.hid hk
    have hi2 : i ≤ N := by omega
    clear hk
    obtain ⟨wA, hwA⟩ : ∃ w, w = wr := ⟨_, rfl⟩
    subst hwA
    have i2 : (i : Int) ≤ (N : Int) := by omega
    have d0 : (d : Int) ≤ 1000 := by omega
    have d4 := HK.out.2.2.2.2.1
    by_cases hlt : i < N
    · obtain ⟨G, rfl⟩ : ∃ G, gk = G + 1 := ⟨gk - 1, by have := HG.out; omega⟩
      have i0 : (0 : Int) ≤ (i : Int) := by omega
      have i3 : (i : Int) < (N : Int) := by omega
      obtain ⟨hf, hR, hsz, hx, -, hb⟩ := HK.out
      obtain ⟨b, off, rfl⟩ : ∃ b off, q = some ⟨b, off, none⟩ := HX.out.some (by rw [← HI.out.1]; omega)
      cases f with
      | nil => simp [Fo.len] at hf
      | cons l1 k1 s1 a1 x1 r1 =>
        obtain ⟨_, e0, e1, e2, e3, ⟨q3, cc3, e4, hc3, hm3, hx3⟩, hr3⟩ := hx.head
        have hC := fun w' (h : Below wA.heap.size wA w') => IH.out x1.size (by have := HI.out.2.2; simp only [Fo.size] at hsz; omega) x1 (Nat.le_refl _) l1 k1 s1 a1 q3 cc3 w' F M (by omega) (hx3.later h) hc3 hm3
        have hD : depT l1 x1 M ≤ M := HDT.out _ _ _
        rw [depF_cons] at hR
        have HS := Lib.hid (show (r1.len = G ∧ R = max d (max (depT l1 x1 M) (depF r1 M)) ∧ r1.size ≤ x.size) from ⟨by simpa [Fo.len] using hf, hR, by simp only [Fo.size] at hsz; omega⟩)
        have HRF := Lib.hid (depF_le r1 M)
        generalize depT l1 x1 M = D at *
        generalize x1.len = n3 at *
        have d1 : (D : Int) ≤ 1000 := by omega
        unfold trV at hC
        have HCC := Lib.hid hC
        have HR := Lib.hid hr3
        have HBB := Lib.hid hb
        clear hf hR hsz hx hb hx3 hr3 hc3 hm3 hC HK
        by_cases hbr : max d D = M
        · have hbr2 : max (d : Int) (D : Int) = (M : Int) := by omega
          go_wp2_with fail
          refine (HCC.out _ (below1 _ _)).mono ?_
          rintro e w1 ⟨rfl, hb1⟩
          have HW := Lib.hid ((below1 wA _).trans (hb1.mono (by simp)))
          clear hb1
          go_wp2_with fail
          go_ret
          refine ⟨?_, HBB.out.trans (HW.out.mono HBB.out.size)⟩
          have h1 := HS.out.2.1
          have h2 := HRF.out
          have : R = M := by omega
          subst this
          rfl
        · have hbr2 : ¬ max (d : Int) (D : Int) = (M : Int) := by omega
          go_wp2_with fail
          refine (HCC.out _ (below1 _ _)).mono ?_
          rintro e w1 ⟨rfl, hb1⟩
          have HW := Lib.hid ((below1 wA _).trans (hb1.mono (by simp)))
          have z4 : w1.cell? ⟨W.heap.size, 4, none⟩ = some (.slice (some ⟨b, off, none⟩) N c) := cell_later HW.out d4
          clear hb1
          go_wp2_with fail
          go_roundg G
          case measure => omega
          case rel =>
            obtain ⟨i', hi'⟩ : ∃ i', i' = i + 1 := ⟨_, rfl⟩
            obtain ⟨d', hd'⟩ : ∃ d', d' = max d D := ⟨_, rfl⟩
            refine ⟨i', r1, d', by have := HG.out; omega, by rw [hi']; go_num, by rw [hd']; congr 1; omega, by omega, Lib.hid ⟨HS.out.1, by have := HS.out.2.1; omega, HS.out.2.2, ?_, z4, HBB.out.trans (HW.out.mono HBB.out.size)⟩⟩
            rw [hi']; exact HR.out.later HW.out
    · obtain rfl : i = N := by omega
      obtain rfl : gk = 0 := by have := HG.out; omega
      obtain ⟨hf, hR, -, -, -, hb⟩ := HK.out
      have hR2 : R = d := by
        cases f with
        | cons => simp [Fo.len] at hf
        | nil => rw [hR]; simp [depF]
      have HBB := Lib.hid hb
      clear hf hR hb
      subst hR2
      go_wp2_with fail
      go_ret
      exact ⟨by simp, by first | exact HBB.out | exact bdd HBB.out⟩
theorem dep54_any (n : Nat) : Dep54 n := Nat.strongRecOn n fun n ih => dep54_step n ih

def Dep55 (n : Nat) : Prop := ∀ (x : Fo), x.size ≤ n → ∀ (l : Bool) (k : Int) (s : ByteArray) (a : Int) (q : Option Addr) (c : Nat) (W : World) (F : Nat → Prop) (m A : Nat), A + m = 201 → FoIn W F x q → x.len ≤ c → x.len ≤ 281474976710656 →
  Calls Tryd.prog 55 #[trV l k s a q x.len c, .int .i64 (A : Int)] W fun e w' => e = .returned (.int .i64 (depT l x m : Int)) ∧ Below W.heap.size W w'
set_option maxRecDepth 100000 in
set_option maxHeartbeats 3200000 in
theorem dep55_step (n : Nat) (ih : ∀ m, m < n → Dep55 m) : Dep55 n := by
  intro x hsz l k s a q c W F m A hm hx hc hn
  have hdT : ∀ (l : Bool) (x : Fo) (m : Nat), depT l x m ≤ m := depT_le
  by_cases hl : l = false
  · subst hl
    have hR : depT false x m = 0 := by simp [depT]
    rw [hR]
    clear hdT ih
    unfold trV
    go_enter Tryd.func55, Tryd.ntmps55
    go_wp2_with fail
    go_ret
    exact ⟨by simp, below1 _ _⟩
  obtain rfl : l = true := by simpa using hl
  clear hl
  by_cases hm0 : m = 0
  · subst hm0
    have hR : depT true x 0 = 0 := by simp [depT]
    rw [hR]
    obtain rfl : A = 201 := by omega
    clear hm
    clear hdT ih
    unfold trV
    go_enter Tryd.func55, Tryd.ntmps55
    go_wp2_with fail
    go_ret
    exact ⟨by simp, below1 _ _⟩
  obtain ⟨M, rfl⟩ : ∃ M, m = M + 1 := ⟨m - 1, by omega⟩
  clear hm0
  have hR : depT true x (M + 1) = depF x M + 1 := by simp [depT]
  rw [hR]
  have hRM := depF_le x M
  obtain ⟨R, hR2⟩ : ∃ R, R = depF x M := ⟨_, rfl⟩
  rw [← hR2] at hRM ⊢
  obtain ⟨N, hN⟩ : ∃ N, N = x.len := ⟨_, rfl⟩
  rw [← hN] at hc hn ⊢
  have i1 : (N : Int) ≤ 281474976710656 := by omega
  have j1 : (M : Int) ≤ 1000 := by omega
  have j2 : (A : Int) ≤ 200 := by omega
  have j3 : ¬ (200 : Int) < (A : Int) := by omega
  have HX := Lib.hid hx
  have HI := Lib.hid (show (N = x.len ∧ R = depF x M ∧ x.size ≤ n) from ⟨hN, hR2, hsz⟩)
  have IH := Lib.hid ih
  have HDT := Lib.hid hdT
  clear hx ih hN hR hR2 hsz hdT
  unfold trV
  go_enter Tryd.func55, Tryd.ntmps55
  go_wp2_with fail
  go_loopg [5, 6, 7] N (fun gk s5 s6 s7 wx => ∃ (i : Nat) (f : Fo) (d : Nat), i + gk = N ∧ s6 = .int .i64 (i : Int) ∧ s5 = .int .i64 (d : Int) ∧ d ≤ M ∧ Hid (f.len = gk ∧ R = max d (depF f M) ∧ f.size ≤ x.size ∧ FoIn wx F f (pl q i) ∧ wx.cell? ⟨W.heap.size, 4, none⟩ = some (.slice q N c) ∧ Below W.heap.size W wx))
  case atStart =>
    refine ⟨0, x, 0, by omega, rfl, rfl, by omega, Lib.hid ⟨?_, ?_, ?_, ?_, ?_, ?_⟩⟩
    · exact HI.out.1.symm
    · rw [HI.out.2.1]; simp
    · exact Nat.le_refl _
    · exact (pl_zero HX.out).later (below1 _ _)
    · simp [go_sem]
    · exact below1 _ _
  case round =>
    obtain ⟨i, f, d, hk, rfl, rfl, hdM, HK⟩ := hrel
    have HG := Lib.hid hk
    have hi2 : i ≤ N := by omega
    clear hk
    obtain ⟨wA, hwA⟩ : ∃ w, w = wr := ⟨_, rfl⟩
    subst hwA
    have i2 : (i : Int) ≤ (N : Int) := by omega
    have d0 : (d : Int) ≤ 1000 := by omega
    have d4 := HK.out.2.2.2.2.1
    by_cases hlt : i < N
    · obtain ⟨G, rfl⟩ : ∃ G, gk = G + 1 := ⟨gk - 1, by have := HG.out; omega⟩
      have i0 : (0 : Int) ≤ (i : Int) := by omega
      have i3 : (i : Int) < (N : Int) := by omega
      obtain ⟨hf, hR, hsz, hx, -, hb⟩ := HK.out
      obtain ⟨b, off, rfl⟩ : ∃ b off, q = some ⟨b, off, none⟩ := HX.out.some (by rw [← HI.out.1]; omega)
      cases f with
      | nil => simp [Fo.len] at hf
      | cons l1 k1 s1 a1 x1 r1 =>
        obtain ⟨_, e0, e1, e2, e3, ⟨q3, cc3, e4, hc3, hm3, hx3⟩, hr3⟩ := hx.head
        have hC := fun w' (h : Below wA.heap.size wA w') => IH.out x1.size (by have := HI.out.2.2; simp only [Fo.size] at hsz; omega) x1 (Nat.le_refl _) l1 k1 s1 a1 q3 cc3 w' F M (A + 1) (by omega) (hx3.later h) hc3 hm3
        have hD : depT l1 x1 M ≤ M := HDT.out _ _ _
        rw [depF_cons] at hR
        have HS := Lib.hid (show (r1.len = G ∧ R = max d (max (depT l1 x1 M) (depF r1 M)) ∧ r1.size ≤ x.size) from ⟨by simpa [Fo.len] using hf, hR, by simp only [Fo.size] at hsz; omega⟩)
        have HRF := Lib.hid (depF_le r1 M)
        generalize depT l1 x1 M = D at *
        generalize x1.len = n3 at *
        have d1 : (D : Int) ≤ 1000 := by omega
        unfold trV at hC
        have HCC := Lib.hid hC
        have HR := Lib.hid hr3
        have HBB := Lib.hid hb
        clear hf hR hsz hx hb hx3 hr3 hc3 hm3 hC HK
        have e7 : ((A + 1 : Nat) : Int) = (A : Int) + 1 := by omega
        rw [e7] at HCC
        by_cases hbr : d < D
        · have hbr2 : (d : Int) < (D : Int) := by omega
          go_wp2_with fail
          refine (HCC.out _ (Below.refl _ _)).mono ?_
          rintro e w1 ⟨rfl, hb1⟩
          have HW := Lib.hid hb1
          have z4 : w1.cell? ⟨W.heap.size, 4, none⟩ = some (.slice (some ⟨b, off, none⟩) N c) := cell_later HW.out d4
          clear hb1
          go_wp2_with fail
          go_roundg G
          case measure => omega
          case rel =>
            obtain ⟨i', hi'⟩ : ∃ i', i' = i + 1 := ⟨_, rfl⟩
            refine ⟨i', r1, D, by have := HG.out; omega, by rw [hi']; go_num, rfl, by omega, Lib.hid ⟨HS.out.1, by have := HS.out.2.1; omega, HS.out.2.2, ?_, z4, HBB.out.trans (HW.out.mono HBB.out.size)⟩⟩
            rw [hi']; exact HR.out.later HW.out
        · have hbr2 : ¬ (d : Int) < (D : Int) := by omega
          go_wp2_with fail
          refine (HCC.out _ (Below.refl _ _)).mono ?_
          rintro e w1 ⟨rfl, hb1⟩
          have HW := Lib.hid hb1
          have z4 : w1.cell? ⟨W.heap.size, 4, none⟩ = some (.slice (some ⟨b, off, none⟩) N c) := cell_later HW.out d4
          clear hb1
          go_wp2_with fail
          go_roundg G
          case measure => omega
          case rel =>
            obtain ⟨i', hi'⟩ : ∃ i', i' = i + 1 := ⟨_, rfl⟩
            refine ⟨i', r1, d, by have := HG.out; omega, by rw [hi']; go_num, rfl, by omega, Lib.hid ⟨HS.out.1, by have := HS.out.2.1; omega, HS.out.2.2, ?_, z4, HBB.out.trans (HW.out.mono HBB.out.size)⟩⟩
            rw [hi']; exact HR.out.later HW.out
    · obtain rfl : i = N := by omega
      obtain rfl : gk = 0 := by have := HG.out; omega
      obtain ⟨hf, hR, -, -, -, hb⟩ := HK.out
      have hR2 : R = d := by
        cases f with
        | cons => simp [Fo.len] at hf
        | nil => rw [hR]; simp [depF]
      have HBB := Lib.hid hb
      clear hf hR hb
      subst hR2
      go_wp2_with fail
      go_ret
      exact ⟨by simp, by first | exact HBB.out | exact bdd HBB.out⟩
theorem dep55_any (n : Nat) : Dep55 n := Nat.strongRecOn n fun n ih => dep55_step n ih

theorem depth31 (l : Bool) (k : Int) (s : ByteArray) (a : Int) (q : Option Addr) (c : Nat) (x : Fo) (W : World) (F : Nat → Prop) (hx : FoIn W F x q) (hc : x.len ≤ c) (hn : x.len ≤ 281474976710656) :
    Calls Tryd.prog 31 #[trV l k s a q x.len c] W fun e w' => e = .returned (.int .i64 (depT l x 201 : Int)) ∧ Below W.heap.size W w' := by
  have h := dep54_any x.size x (Nat.le_refl _) l k s a q c (W.alloc (.cells #[.bool l, .int .u8 k, .string s, .int .i64 a, .slice q x.len c] 41)) F 201 (by omega) (hx.later (below1 _ _)) hc hn
  unfold trV at h ⊢
  have H := Lib.hid h
  clear h
  go_enter Tryd.func31, Tryd.ntmps31
  go_wp2_with fail
  refine H.out.mono ?_
  rintro e w1 ⟨rfl, hb1⟩
  have HW := Lib.hid ((below1 W _).trans (hb1.mono (by simp)))
  clear hb1
  go_wp2_with fail
  go_ret
  exact ⟨rfl, HW.out⟩
theorem depth32 (l : Bool) (k : Int) (s : ByteArray) (a : Int) (q : Option Addr) (c : Nat) (x : Fo) (W : World) (F : Nat → Prop) (hx : FoIn W F x q) (hc : x.len ≤ c) (hn : x.len ≤ 281474976710656) :
    Calls Tryd.prog 32 #[trV l k s a q x.len c] W fun e w' => e = .returned (.int .i64 (depT l x 201 : Int)) ∧ Below W.heap.size W w' := by
  have h := dep55_any x.size x (Nat.le_refl _) l k s a q c (W.alloc (.cells #[.bool l, .int .u8 k, .string s, .int .i64 a, .slice q x.len c] 41)) F 201 0 (by omega) (hx.later (below1 _ _)) hc hn
  unfold trV at h ⊢
  have H := Lib.hid h
  clear h
  go_enter Tryd.func32, Tryd.ntmps32
  go_wp2_with fail
  refine H.out.mono ?_
  rintro e w1 ⟨rfl, hb1⟩
  have HW := Lib.hid ((below1 W _).trans (hb1.mono (by simp)))
  clear hb1
  go_wp2_with fail
  go_ret
  exact ⟨rfl, HW.out⟩
end Go.Proofs.YtlifankiljbdjaaDoor
namespace Go.Proofs.YtlifankiljbdjaaDoor
open Go Go.RowKit

theorem str_loc {P : Program} {w : World} {base : Nat} {t u ty e : TypeId} {i : TypeInfo} (ht : P.underlying t = some (.slice e)) (hu : P.underlying u = some .string) (hi : P.info? e = some i) (hz : i.zero = some (.int .u8 0))
    (hsize : i.size = 1) (hby : i.bytes = 1) {v : Value} {n : Nat} {xs : List Value} (hown : w.ownsRow base e 1 v n xs) {s : ByteArray} (hbytes : n + s.size ≤ 140737488355328) {v' : Value} {w' : World}
    (hr : (Builtin.append_ #[t, u] ty #[v, .string s]).run P w = .ok v' w') (hnil : v' = .slice none 0 0 ↔ v = .slice none 0 0 ∧ s.size = 0) : v'.ownBlock = v.ownBlock ∨ v'.ownBlock = some w.heap.size := by
  have hxl : xs.length = n := by simpa using hown.1
  rcases hown.2 with ⟨rfl, rfl⟩ | ⟨g, cap, cur, rfl, hbg, hg, hnc, hcm, hcs, htake⟩
  · by_cases hm : s.size = 0
    · left; rw [hnil.2 ⟨rfl, hm⟩]
    · have h2 := Go.run_append_nil_string (P := P) w t u ty e i (.int .u8 0) ht hu hi hz s (by omega) (by omega) (by rw [hby]; omega)
      rw [hr] at h2
      injection h2 with h3 _
      right; rw [h3]; rfl
  · by_cases hroom : n + s.size ≤ cap
    · have hcs' : cur.size = cap := by simpa using hcs
      have h2 := Lib.run_append_room_string (P := P) w t u ty e i ht hu hi hsize g n cap cur hg s hroom (by omega)
      rw [hr] at h2
      injection h2 with h3 _
      left; rw [h3]; rfl
    · have h2 := Lib.run_append_grow_string (P := P) w t u ty e i (.int .u8 0) ht hu hi hz ⟨g, 0, none⟩ n cap xs (by rw [hsize]; simpa using hxl) (hown.cells (g := g) rfl) s (by omega) (by omega) (by rw [hby]; exact growslice_fits (by omega) (by omega))
      rw [hr] at h2
      injection h2 with h3 _
      right; rw [h3]; rfl
/-- a row of bytes of the call's own: from v, of the world W, to v', of the world w'. -/
def RowS (B : Nat) (W : World) (v : Value) (N : Nat) (xs : List Value) (w' : World) (v' : Value) (news : List UInt8) : Prop :=
  w'.ownsRow B 5 1 v' (N + news.length) (xs ++ news.map u8v) ∧ Only (fun k => v.ownBlock = some k) W w' ∧ (∀ g, v'.ownBlock = some g → v.ownBlock = some g ∨ W.heap.size ≤ g)
theorem Only.trans2 {T T' : Nat → Prop} {a b c : World} (h : Only T a b) (k : Only T' b c) (hT : ∀ j, T' j → T j ∨ a.heap.size ≤ j) : Only T a c :=
  ⟨k.os.trans h.os, k.tape.trans h.tape, k.output.trans h.output, Nat.le_trans h.size k.size, fun j hj hn => by
    rw [k.block j (Nat.lt_of_lt_of_le hj h.size) (fun e => (hT j e).elim hn (fun e2 => by omega)), h.block j hj hn]⟩
theorem RowS.trans {B : Nat} {W w1 w2 : World} {v v1 v2 : Value} {N : Nat} {xs : List Value} {n1 n2 : List UInt8} (h : RowS B W v N xs w1 v1 n1) (k : RowS B w1 v1 (N + n1.length) (xs ++ n1.map u8v) w2 v2 n2) : RowS B W v N xs w2 v2 (n1 ++ n2) := by
  obtain ⟨h1, h2, h3⟩ := h
  obtain ⟨k1, k2, k3⟩ := k
  refine ⟨?_, h2.trans2 k2 h3, fun g hg => ?_⟩
  · rw [List.length_append, List.map_append, ← Nat.add_assoc, ← List.append_assoc]; exact k1
  · rcases k3 g hg with e | e
    · exact h3 g e
    · exact .inr (Nat.le_trans h2.size e)
theorem RowS.refl {B : Nat} {W : World} {v : Value} {N : Nat} {xs : List Value} (h : W.ownsRow B 5 1 v N xs) : RowS B W v N xs W v [] :=
  ⟨by simpa using h, Only.refl _ _, fun g hg => .inl hg⟩
/-- as from an elder world that differs by what is new. -/
theorem RowS.from_ {B : Nat} {W W1 w' : World} {v v' : Value} {N : Nat} {xs : List Value} {n : List UInt8} (h : RowS B W1 v N xs w' v' n) (hb : Below W.heap.size W W1) : RowS B W v N xs w' v' n :=
  ⟨h.1, (Only.of_below hb).trans2 h.2.1 (fun j hj => .inl hj), fun g hg => (h.2.2 g hg).elim .inl (fun e => .inr (Nat.le_trans hb.size e))⟩
theorem RowS.below {B : Nat} {W w' : World} {v v' : Value} {N : Nat} {xs : List Value} {n : List UInt8} (h : RowS B W v N xs w' v' n) (ho : W.ownsRow B 5 1 v N xs) (hB : B ≤ W.heap.size) : Below B W w' :=
  h.2.1.below (fun k hk => (own_lt ho hk).1) hB
theorem strCells_map (s : ByteArray) : Lib.strCells s = s.data.toList.map u8v := rfl
theorem wp_append_str {P : Program} {w : World} {o : Oper} {a : Act} {K : Act → World → Prop} {Q : Exit → Act → World → Prop} (sl x : Operand) (t u : TypeId)
    (ho : o.op = .call { callee := .builtin .append, args := #[sl, x], argTypes := #[t, u] })
    (B : Nat) (i : TypeInfo) (ht : P.underlying t = some (.slice 5)) (hu : P.underlying u = some .string) (hi : P.info? 5 = some i) (hz : i.zero = some (.int .u8 0))
    (hsize : i.size = 1) (hby : i.bytes = 1) (v : Value) (n : Nat) (xs : List Value) (hs : a.eval sl = v) (hown : w.ownsRow B 5 1 v n xs) (s : ByteArray) (hx : a.eval x = .string s)
    (hbytes : n + s.size ≤ 140737488355328) (hbase : B ≤ w.heap.size)
    (h : ∀ v' w', RowS B w v n xs w' v' s.data.toList → K (a.put o.dst v') w') : o.wp P a w K Q := by
  obtain ⟨v', w', hr, h2, h3, h4⟩ := Lib.run_append_own_string (P := P) w B t u o.type 5 i ht hu hi hz hsize hby v n xs hown s (by simp only [maxLen]; omega) hbytes hbase
  have hl := str_loc ht hu hi hz hsize hby hown hbytes hr h4
  unfold Oper.wp execOp
  simp only [ho, resolve, invoke, builtin, Sem.run_bind, Sem.run_pure, Result.andThen_ok, List.map_toArray, List.map_cons, List.map_nil, hs, hx, hr]
  refine h v' w' ⟨?_, Only.of_grown h3, fun g hg => ?_⟩
  · rw [← strCells_map, ← Lib.strCells_length s] at *
    have e : s.data.toList.length = (Lib.strCells s).length := by rw [strCells_map, List.length_map]
    rw [e]; exact h2
  · rcases hl with e | e
    · left; rw [← e]; exact hg
    · right; rw [e] at hg; injection hg with hg; omega
theorem wpList_append_str {P : Program} {w : World} {ops : Array Oper} {rest : List Oper} {o : Oper} {a : Act} {Q : Exit → Act → World → Prop} (hgd : o.guard = none) (sl x : Operand) (t u : TypeId)
    (ho : o.op = .call { callee := .builtin .append, args := #[sl, x], argTypes := #[t, u] })
    (B : Nat) (i : TypeInfo) (ht : P.underlying t = some (.slice 5)) (hu : P.underlying u = some .string) (hi : P.info? 5 = some i) (hz : i.zero = some (.int .u8 0))
    (hsize : i.size = 1) (hby : i.bytes = 1) (v : Value) (n : Nat) (xs : List Value) (hs : a.eval sl = v) (hown : w.ownsRow B 5 1 v n xs) (s : ByteArray) (hx : a.eval x = .string s)
    (hbytes : n + s.size ≤ 140737488355328) (hbase : B ≤ w.heap.size)
    (h : ∀ v' w', RowS B w v n xs w' v' s.data.toList → wpList P ops Q rest (a.put o.dst v') w') : wpList P ops Q (o :: rest) a w :=
  wpList_plain hgd fun _ hK => wp_append_str sl x t u ho B i ht hu hi hz hsize hby v n xs hs hown s hx hbytes hbase fun v' w' h' => hK _ _ (h v' w' h')
theorem wp_append_byte {P : Program} {w : World} {o : Oper} {a : Act} {K : Act → World → Prop} {Q : Exit → Act → World → Prop} (sl x : Operand) (t : TypeId)
    (ho : o.op = .call { callee := .builtin .append, args := #[sl, x], argTypes := #[t, t] })
    (B : Nat) (i : TypeInfo) (ht : P.underlying t = some (.slice 5)) (hi : P.info? 5 = some i) (hz : i.zero = some (.int .u8 0))
    (hsize : i.size = 1) (hby : i.bytes = 1) (v : Value) (n : Nat) (xs : List Value) (hs : a.eval sl = v) (hown : w.ownsRow B 5 1 v n xs) (ad : Addr) (c : UInt8) (hx : a.eval x = .slice (some ad) 1 1) (hc : w.cell? (ad.add 0) = some (u8v c))
    (hbytes : n + 1 ≤ 140737488355328) (hbase : B ≤ w.heap.size)
    (h : ∀ v' w', RowS B w v n xs w' v' [c] → K (a.put o.dst v') w') : o.wp P a w K Q := by
  refine wp_append_own_at sl x t ho B 5 i (.int .u8 0) 1 1 ht hi hz hsize hby rfl (by omega) v n xs hs hown ad 1 1 [u8v c] hx rfl (fun j u hu => ?_) (by intro u hu; simp at hu; subst hu; rfl) (by simp only [maxLen]; omega) (by omega) hbase ?_
  · match j, hu with
    | 0, hu => cases hu; exact hc
  · intro v' w' h2 h3 h4 h5
    refine h v' w' ⟨h2, Only.of_grown h3, fun g hg => ?_⟩
    rcases h5 with e | e
    · left; rw [← e]; exact hg
    · right; rw [e] at hg; injection hg with hg; omega
theorem wpList_append_byte {P : Program} {w : World} {ops : Array Oper} {rest : List Oper} {o : Oper} {a : Act} {Q : Exit → Act → World → Prop} (hgd : o.guard = none) (sl x : Operand) (t : TypeId)
    (ho : o.op = .call { callee := .builtin .append, args := #[sl, x], argTypes := #[t, t] })
    (B : Nat) (i : TypeInfo) (ht : P.underlying t = some (.slice 5)) (hi : P.info? 5 = some i) (hz : i.zero = some (.int .u8 0))
    (hsize : i.size = 1) (hby : i.bytes = 1) (v : Value) (n : Nat) (xs : List Value) (hs : a.eval sl = v) (hown : w.ownsRow B 5 1 v n xs) (ad : Addr) (c : UInt8) (hx : a.eval x = .slice (some ad) 1 1) (hc : w.cell? (ad.add 0) = some (u8v c))
    (hbytes : n + 1 ≤ 140737488355328) (hbase : B ≤ w.heap.size)
    (h : ∀ v' w', RowS B w v n xs w' v' [c] → wpList P ops Q rest (a.put o.dst v') w') : wpList P ops Q (o :: rest) a w :=
  wpList_plain hgd fun _ hK => wp_append_byte sl x t ho B i ht hi hz hsize hby v n xs hs hown ad c hx hc hbytes hbase fun v' w' h' => hK _ _ (h v' w' h')
end Go.Proofs.YtlifankiljbdjaaDoor
namespace Go.Proofs.YtlifankiljbdjaaDoor
open Go Go.RowKit

def SameP (f : Nat) (n : Nat) : Prop := ∀ (x x' : Fo), x.size ≤ n → ∀ (l l' : Bool) (k k' : Int) (s s' : ByteArray) (a a' : Int) (q q' : Option Addr) (c c' : Nat) (W : World) (F F' : Nat → Prop), FoIn W F x q → FoIn W F' x' q' → x.len ≤ c → x'.len ≤ c' → x.len ≤ 281474976710656 → x'.len ≤ 281474976710656 →
  Calls Tryd.prog f #[trV l k s a q x.len c, trV l' k' s' a' q' x'.len c'] W fun e w' => e = .returned (.bool (sameT l k s x l' k' s' x')) ∧ Below W.heap.size W w'
set_option maxRecDepth 100000 in
set_option maxHeartbeats 3200000 in
theorem same33_no (l l' : Bool) (k k' : Int) (s s' : ByteArray) (a a' : Int) (q q' : Option Addr) (c c' n n' : Nat) (W : World) (h : (decide (l = l') && decide (k = k') && decide (s = s') && decide (n = n')) = false) (hn : n ≤ 281474976710656) (hn' : n' ≤ 281474976710656) :
    Calls Tryd.prog 33 #[trV l k s a q n c, trV l' k' s' a' q' n' c'] W fun e w' => e = .returned (.bool false) ∧ Below W.heap.size W w' := by
  have i1 : (n : Int) ≤ 281474976710656 := by omega
  have i2 : (n' : Int) ≤ 281474976710656 := by omega
  have hb2 : ∀ (w : World) (o1 o2 : Obj), Below w.heap.size w ((w.alloc o1).alloc o2) := fun w o1 o2 => (below1 w o1).alloc (by simp) _
  unfold trV
  by_cases h1 : l = l'
  · subst h1
    by_cases h2 : k = k'
    · subst h2
      by_cases h3 : s = s'
      · subst h3
        have h4 : ¬ n = n' := fun e => by simp [e] at h
        have h5 : ((n : Int) != (n' : Int)) = true := by simp; omega
        clear h
        go_enter Tryd.func33, Tryd.ntmps33
        go_wp2_with fail
        go_ret
        exact ⟨rfl, hb2 _ _ _⟩
      · have h5 : ¬ s.toList = s'.toList := fun e => h3 (toList_byte e)
        clear h
        go_enter Tryd.func33, Tryd.ntmps33
        go_wp2_with fail
        go_ret
        exact ⟨rfl, hb2 _ _ _⟩
    · clear h
      go_enter Tryd.func33, Tryd.ntmps33
      go_wp2_with fail
      go_ret
      exact ⟨rfl, hb2 _ _ _⟩
  · clear h
    go_enter Tryd.func33, Tryd.ntmps33
    go_wp2_with fail
    go_ret
    exact ⟨rfl, hb2 _ _ _⟩
set_option maxRecDepth 100000 in
set_option maxHeartbeats 6400000 in
theorem same33_step (n : Nat) (ih : ∀ m, m < n → SameP 33 m) : SameP 33 n := by
  intro x x' hsz l l' k k' s s' a a' q q' c c' W F F' hx hx' hc hc' hn hn'
  by_cases hd : (decide (l = l') && decide (k = k') && decide (s = s') && decide (x.len = x'.len)) = true
  case neg =>
    have hd2 := Bool.eq_false_iff.2 hd
    have h := same33_no l l' k k' s s' a a' q q' c c' x.len x'.len W hd2 hn hn'
    refine h.mono ?_
    rintro e w ⟨rfl, hb⟩
    refine ⟨?_, hb⟩
    unfold sameT
    rw [hd2]; rfl
  simp only [Bool.and_eq_true, decide_eq_true_eq] at hd
  obtain ⟨⟨⟨rfl, rfl⟩, rfl⟩, hlen⟩ := hd
  have hS : sameT l k s x l k s x' = sameF x x' := by simp [sameT, hlen]
  rw [hS]
  clear hS
  rw [← hlen]
  rw [← hlen] at hc'
  obtain ⟨N, hN⟩ : ∃ N, N = x.len := ⟨_, rfl⟩
  rw [← hN] at hlen hc hc' hn ⊢
  obtain ⟨R, hR⟩ : ∃ R, R = sameF x x' := ⟨_, rfl⟩
  rw [← hR]
  have i1 : (N : Int) ≤ 281474976710656 := by omega
  have hb2 : ∀ (w : World) (o1 o2 : Obj), Below w.heap.size w ((w.alloc o1).alloc o2) := fun w o1 o2 => (below1 w o1).alloc (by simp) _
  have HX := Lib.hid (And.intro hx hx')
  have HI := Lib.hid (show (N = x.len ∧ x'.len = x.len ∧ R = sameF x x' ∧ x.size ≤ n) from ⟨hN, by omega, hR, hsz⟩)
  have IH := Lib.hid ih
  have HB2 := Lib.hid hb2
  clear hx hx' ih hN hlen hR hsz hb2
  unfold trV
  go_enter Tryd.func33, Tryd.ntmps33
  go_wp2_with fail
  go_loopg [5, 41] N (fun gk s5 s41 wx => ∃ (i : Nat) (f f' : Fo), i + gk = N ∧ s41 = .int .i64 (i : Int) ∧ Hid (f.len = gk ∧ f'.len = gk ∧ R = sameF f f' ∧ f.size ≤ x.size ∧ FoIn wx F f (pl q i) ∧ FoIn wx F' f' (pl q' i) ∧ wx.cell? ⟨W.heap.size, 4, none⟩ = some (.slice q N c) ∧ wx.cell? ⟨W.heap.size + 1, 4, none⟩ = some (.slice q' N c') ∧ Below W.heap.size W wx))
  case atStart =>
    refine ⟨0, x, x', by omega, rfl, Lib.hid ⟨?_, ?_, ?_, ?_, ?_, ?_, ?_, ?_, ?_⟩⟩
    · exact HI.out.1.symm
    · rw [HI.out.2.1]; exact HI.out.1.symm
    · exact HI.out.2.2.1
    · exact Nat.le_refl _
    · exact (pl_zero HX.out.1).later (HB2.out _ _ _)
    · exact (pl_zero HX.out.2).later (HB2.out _ _ _)
    · simp [go_sem]
    · simp [go_sem]
    · exact HB2.out _ _ _
  case round =>
    obtain ⟨i, f, f', hk, rfl, HK⟩ := hrel
    have HG := Lib.hid hk
    have hi2 : i ≤ N := by omega
    clear hk
    obtain ⟨wA, hwA⟩ : ∃ w, w = wr := ⟨_, rfl⟩
    subst hwA
    have i2 : (i : Int) ≤ (N : Int) := by omega
    have d3 := HK.out.2.2.2.2.2.2.1
    have d4 := HK.out.2.2.2.2.2.2.2.1
    by_cases hlt : i < N
    · obtain ⟨G, rfl⟩ : ∃ G, gk = G + 1 := ⟨gk - 1, by have := HG.out; omega⟩
      have i0 : (0 : Int) ≤ (i : Int) := by omega
      have i3 : (i : Int) < (N : Int) := by omega
      obtain ⟨hf, hf', hR, hsz, hx, hx', -, -, hb⟩ := HK.out
      obtain ⟨b, off, rfl⟩ : ∃ b off, q = some ⟨b, off, none⟩ := HX.out.1.some (by rw [← HI.out.1]; omega)
      obtain ⟨b2, off2, rfl⟩ : ∃ b off, q' = some ⟨b, off, none⟩ := HX.out.2.some (by rw [HI.out.2.1, ← HI.out.1]; omega)
      cases f with
      | nil => simp [Fo.len] at hf
      | cons l1 k1 s1 a1 x1 r1 =>
        cases f' with
        | nil => simp [Fo.len] at hf'
        | cons l2 k2 s2 a2 x2 r2 =>
          obtain ⟨_, e0, e1, e2, e3, ⟨q3, cc3, e4, hc3, hm3, hx3⟩, hr3⟩ := hx.head
          obtain ⟨_, g0, g1, g2, g3, ⟨q4, cc4, g4, hc4, hm4, hx4⟩, hr4⟩ := hx'.head
          have hC := fun w' (h : Below wA.heap.size wA w') => IH.out x1.size (by have := HI.out.2.2.2; simp only [Fo.size] at hsz; omega) x1 x2 (Nat.le_refl _) l1 l2 k1 k2 s1 s2 a1 a2 q3 q4 cc3 cc4 w' F F' (hx3.later h) (hx4.later h) hc3 hc4 hm3 hm4
          have HS := Lib.hid (show (r1.len = G ∧ r2.len = G ∧ R = (sameT l1 k1 s1 x1 l2 k2 s2 x2 && sameF r1 r2) ∧ r1.size ≤ x.size) from ⟨by simpa [Fo.len] using hf, by simpa [Fo.len] using hf', hR, by simp only [Fo.size] at hsz; omega⟩)
          generalize x1.len = n3 at *
          generalize x2.len = n4 at *
          generalize sameT l1 k1 s1 x1 l2 k2 s2 x2 = r at *
          have hkp : ∀ w', Below wA.heap.size wA w' → (Below wA.heap.size wA w' ∧ w'.cell? ⟨W.heap.size, 4, none⟩ = some (.slice (some ⟨b, off, none⟩) N c) ∧ w'.cell? ⟨W.heap.size + 1, 4, none⟩ = some (.slice (some ⟨b2, off2, none⟩) N c') ∧ w'.cell? ⟨b, off + i * 5, none⟩ = some (.bool l1) ∧ w'.cell? ⟨b, off + i * 5 + 1, none⟩ = some (.int .u8 k1) ∧ w'.cell? ⟨b, off + i * 5 + 2, none⟩ = some (.string s1) ∧ w'.cell? ⟨b, off + i * 5 + 3, none⟩ = some (.int .i64 a1) ∧ w'.cell? ⟨b, off + i * 5 + 4, none⟩ = some (.slice q3 n3 cc3) ∧ w'.cell? ⟨b2, off2 + i * 5, none⟩ = some (.bool l2) ∧ w'.cell? ⟨b2, off2 + i * 5 + 1, none⟩ = some (.int .u8 k2) ∧ w'.cell? ⟨b2, off2 + i * 5 + 2, none⟩ = some (.string s2) ∧ w'.cell? ⟨b2, off2 + i * 5 + 3, none⟩ = some (.int .i64 a2) ∧ w'.cell? ⟨b2, off2 + i * 5 + 4, none⟩ = some (.slice q4 n4 cc4)) := fun w' h => ⟨h, cell_later h d3, cell_later h d4, cell_later h e0, cell_later h e1, cell_later h e2, cell_later h e3, cell_later h e4, cell_later h g0, cell_later h g1, cell_later h g2, cell_later h g3, cell_later h g4⟩
          have hcc : ∀ w', (Below wA.heap.size wA w' ∧ w'.cell? ⟨W.heap.size, 4, none⟩ = some (.slice (some ⟨b, off, none⟩) N c) ∧ w'.cell? ⟨W.heap.size + 1, 4, none⟩ = some (.slice (some ⟨b2, off2, none⟩) N c') ∧ w'.cell? ⟨b, off + i * 5, none⟩ = some (.bool l1) ∧ w'.cell? ⟨b, off + i * 5 + 1, none⟩ = some (.int .u8 k1) ∧ w'.cell? ⟨b, off + i * 5 + 2, none⟩ = some (.string s1) ∧ w'.cell? ⟨b, off + i * 5 + 3, none⟩ = some (.int .i64 a1) ∧ w'.cell? ⟨b, off + i * 5 + 4, none⟩ = some (.slice q3 n3 cc3) ∧ w'.cell? ⟨b2, off2 + i * 5, none⟩ = some (.bool l2) ∧ w'.cell? ⟨b2, off2 + i * 5 + 1, none⟩ = some (.int .u8 k2) ∧ w'.cell? ⟨b2, off2 + i * 5 + 2, none⟩ = some (.string s2) ∧ w'.cell? ⟨b2, off2 + i * 5 + 3, none⟩ = some (.int .i64 a2) ∧ w'.cell? ⟨b2, off2 + i * 5 + 4, none⟩ = some (.slice q4 n4 cc4)) → Calls Tryd.prog 33 #[trV l1 k1 s1 a1 q3 n3 cc3, trV l2 k2 s2 a2 q4 n4 cc4] w' fun e w'' => e = .returned (.bool r) ∧ (Below wA.heap.size wA w'' ∧ w''.cell? ⟨W.heap.size, 4, none⟩ = some (.slice (some ⟨b, off, none⟩) N c) ∧ w''.cell? ⟨W.heap.size + 1, 4, none⟩ = some (.slice (some ⟨b2, off2, none⟩) N c') ∧ w''.cell? ⟨b, off + i * 5, none⟩ = some (.bool l1) ∧ w''.cell? ⟨b, off + i * 5 + 1, none⟩ = some (.int .u8 k1) ∧ w''.cell? ⟨b, off + i * 5 + 2, none⟩ = some (.string s1) ∧ w''.cell? ⟨b, off + i * 5 + 3, none⟩ = some (.int .i64 a1) ∧ w''.cell? ⟨b, off + i * 5 + 4, none⟩ = some (.slice q3 n3 cc3) ∧ w''.cell? ⟨b2, off2 + i * 5, none⟩ = some (.bool l2) ∧ w''.cell? ⟨b2, off2 + i * 5 + 1, none⟩ = some (.int .u8 k2) ∧ w''.cell? ⟨b2, off2 + i * 5 + 2, none⟩ = some (.string s2) ∧ w''.cell? ⟨b2, off2 + i * 5 + 3, none⟩ = some (.int .i64 a2) ∧ w''.cell? ⟨b2, off2 + i * 5 + 4, none⟩ = some (.slice q4 n4 cc4)) := fun w' h => (hC w' h.1).mono fun e w'' h2 => ⟨h2.1, hkp w'' (h.1.trans (h2.2.mono h.1.size))⟩
          unfold trV at hcc
          have HKP := Lib.hid hkp
          have HCC := Lib.hid hcc
          have HR := Lib.hid (And.intro hr3 hr4)
          have HBB := Lib.hid hb
          clear hf hf' hR hsz hx hx' hb hx3 hr3 hx4 hr4 hc3 hc4 hm3 hm4 hC hkp hcc HK e0 e1 e2 e3 e4 g0 g1 g2 g3 g4
          go_wp2_with fail
          go_region_held3 (fun w' => Below wA.heap.size wA w' ∧ w'.cell? ⟨W.heap.size, 4, none⟩ = some (.slice (some ⟨b, off, none⟩) N c) ∧ w'.cell? ⟨W.heap.size + 1, 4, none⟩ = some (.slice (some ⟨b2, off2, none⟩) N c') ∧ w'.cell? ⟨b, off + i * 5, none⟩ = some (.bool l1) ∧ w'.cell? ⟨b, off + i * 5 + 1, none⟩ = some (.int .u8 k1) ∧ w'.cell? ⟨b, off + i * 5 + 2, none⟩ = some (.string s1) ∧ w'.cell? ⟨b, off + i * 5 + 3, none⟩ = some (.int .i64 a1) ∧ w'.cell? ⟨b, off + i * 5 + 4, none⟩ = some (.slice q3 n3 cc3) ∧ w'.cell? ⟨b2, off2 + i * 5, none⟩ = some (.bool l2) ∧ w'.cell? ⟨b2, off2 + i * 5 + 1, none⟩ = some (.int .u8 k2) ∧ w'.cell? ⟨b2, off2 + i * 5 + 2, none⟩ = some (.string s2) ∧ w'.cell? ⟨b2, off2 + i * 5 + 3, none⟩ = some (.int .i64 a2) ∧ w'.cell? ⟨b2, off2 + i * 5 + 4, none⟩ = some (.slice q4 n4 cc4)) (first | exact HKP.out _ (below_drew _) | exact HKP.out _ (Below.refl _ _) | assumption) (first | (go_at_call 33; refine (HCC.out _ (by assumption)).mono ?_; rintro e w' ⟨rfl, hs⟩))
          have HW := Lib.hid hs.1
          have HSS := Lib.hid hs
          have z3 := hs.2.1
          have z4 := hs.2.2.1
          clear hs
          cases r with
          | false =>
            go_wp2_with fail
            go_ret
            refine ⟨by rw [HS.out.2.2.1]; rfl, ?_⟩
            exact HBB.out.trans (HW.out.mono HBB.out.size)
          | true =>
            go_wp2_with fail
            go_roundg G
            case measure => omega
            case rel =>
              obtain ⟨i', hi'⟩ : ∃ i', i' = i + 1 := ⟨_, rfl⟩
              refine ⟨i', r1, r2, by have := HG.out; omega, by rw [hi']; go_num, Lib.hid ⟨HS.out.1, HS.out.2.1, by rw [HS.out.2.2.1]; rfl, HS.out.2.2.2, ?_, ?_, HSS.out.2.1, HSS.out.2.2.1, HBB.out.trans (HW.out.mono HBB.out.size)⟩⟩
              · rw [hi']; exact HR.out.1.later HW.out
              · rw [hi']; exact HR.out.2.later HW.out
    · obtain rfl : i = N := by omega
      obtain rfl : gk = 0 := by have := HG.out; omega
      obtain ⟨hf, hf', hR, -, -, -, -, -, hb⟩ := HK.out
      have hR2 : R = true := by
        cases f with
        | cons => simp [Fo.len] at hf
        | nil => cases f' with
          | cons => simp [Fo.len] at hf'
          | nil => exact hR
      have HBB := Lib.hid hb
      clear hf hf' hR hb
      subst hR2
      go_wp2_with fail
      go_ret
      exact ⟨rfl, by first | exact HBB.out | exact bdd HBB.out⟩
theorem same33_any (n : Nat) : SameP 33 n := Nat.strongRecOn n fun n ih => same33_step n ih
end Go.Proofs.YtlifankiljbdjaaDoor
namespace Go.Proofs.YtlifankiljbdjaaDoor
open Go Go.RowKit

set_option maxRecDepth 100000 in
set_option maxHeartbeats 3200000 in
theorem same23_no (l l' : Bool) (k k' : Int) (s s' : ByteArray) (a a' : Int) (q q' : Option Addr) (c c' n n' : Nat) (W : World) (h : (decide (l = l') && decide (k = k') && decide (s = s') && decide (n = n')) = false) (hn : n ≤ 281474976710656) (hn' : n' ≤ 281474976710656) :
    Calls Tryd.prog 23 #[trV l k s a q n c, trV l' k' s' a' q' n' c'] W fun e w' => e = .returned (.bool false) ∧ Below W.heap.size W w' := by
  have i1 : (n : Int) ≤ 281474976710656 := by omega
  have i2 : (n' : Int) ≤ 281474976710656 := by omega
  have hb2 : ∀ (w : World) (o1 o2 : Obj), Below w.heap.size w ((w.alloc o1).alloc o2) := fun w o1 o2 => (below1 w o1).alloc (by simp) _
  unfold trV
  by_cases h1 : l = l'
  · subst h1
    by_cases h2 : k = k'
    · subst h2
      by_cases h3 : s = s'
      · subst h3
        have h4 : ¬ n = n' := fun e => by simp [e] at h
        have h5 : ((n : Int) != (n' : Int)) = true := by simp; omega
        clear h
        go_enter Tryd.func23, Tryd.ntmps23
        go_wp2_with fail
        go_ret
        exact ⟨rfl, hb2 _ _ _⟩
      · have h5 : ¬ s.toList = s'.toList := fun e => h3 (toList_byte e)
        clear h
        go_enter Tryd.func23, Tryd.ntmps23
        go_wp2_with fail
        go_ret
        exact ⟨rfl, hb2 _ _ _⟩
    · clear h
      go_enter Tryd.func23, Tryd.ntmps23
      go_wp2_with fail
      go_ret
      exact ⟨rfl, hb2 _ _ _⟩
  · clear h
    go_enter Tryd.func23, Tryd.ntmps23
    go_wp2_with fail
    go_ret
    exact ⟨rfl, hb2 _ _ _⟩
set_option maxRecDepth 100000 in
set_option maxHeartbeats 6400000 in
theorem same23_step (n : Nat) (ih : ∀ m, m < n → SameP 23 m) : SameP 23 n := by
  intro x x' hsz l l' k k' s s' a a' q q' c c' W F F' hx hx' hc hc' hn hn'
  by_cases hd : (decide (l = l') && decide (k = k') && decide (s = s') && decide (x.len = x'.len)) = true
  case neg =>
    have hd2 := Bool.eq_false_iff.2 hd
    have h := same23_no l l' k k' s s' a a' q q' c c' x.len x'.len W hd2 hn hn'
    refine h.mono ?_
    rintro e w ⟨rfl, hb⟩
    refine ⟨?_, hb⟩
    unfold sameT
    rw [hd2]; rfl
  simp only [Bool.and_eq_true, decide_eq_true_eq] at hd
  obtain ⟨⟨⟨rfl, rfl⟩, rfl⟩, hlen⟩ := hd
  have hS : sameT l k s x l k s x' = sameF x x' := by simp [sameT, hlen]
  rw [hS]
  clear hS
  rw [← hlen]
  rw [← hlen] at hc'
  obtain ⟨N, hN⟩ : ∃ N, N = x.len := ⟨_, rfl⟩
  rw [← hN] at hlen hc hc' hn ⊢
  obtain ⟨R, hR⟩ : ∃ R, R = sameF x x' := ⟨_, rfl⟩
  rw [← hR]
  have i1 : (N : Int) ≤ 281474976710656 := by omega
  have hb2 : ∀ (w : World) (o1 o2 : Obj), Below w.heap.size w ((w.alloc o1).alloc o2) := fun w o1 o2 => (below1 w o1).alloc (by simp) _
  have HX := Lib.hid (And.intro hx hx')
  have HI := Lib.hid (show (N = x.len ∧ x'.len = x.len ∧ R = sameF x x' ∧ x.size ≤ n) from ⟨hN, by omega, hR, hsz⟩)
  have IH := Lib.hid ih
  have HB2 := Lib.hid hb2
  clear hx hx' ih hN hlen hR hsz hb2
  unfold trV
  go_enter Tryd.func23, Tryd.ntmps23
  go_wp2_with fail
  go_loopg [5] N (fun gk s5 wx => ∃ (i : Nat) (f f' : Fo), i + gk = N ∧ s5 = .int .i64 (i : Int) ∧ Hid (f.len = gk ∧ f'.len = gk ∧ R = sameF f f' ∧ f.size ≤ x.size ∧ FoIn wx F f (pl q i) ∧ FoIn wx F' f' (pl q' i) ∧ wx.cell? ⟨W.heap.size, 4, none⟩ = some (.slice q N c) ∧ wx.cell? ⟨W.heap.size + 1, 4, none⟩ = some (.slice q' N c') ∧ Below W.heap.size W wx))
  case atStart =>
    refine ⟨0, x, x', by omega, rfl, Lib.hid ⟨?_, ?_, ?_, ?_, ?_, ?_, ?_, ?_, ?_⟩⟩
    · exact HI.out.1.symm
    · rw [HI.out.2.1]; exact HI.out.1.symm
    · exact HI.out.2.2.1
    · exact Nat.le_refl _
    · exact (pl_zero HX.out.1).later (HB2.out _ _ _)
    · exact (pl_zero HX.out.2).later (HB2.out _ _ _)
    · simp [go_sem]
    · simp [go_sem]
    · exact HB2.out _ _ _
  case round =>
    obtain ⟨i, f, f', hk, rfl, HK⟩ := hrel
    have HG := Lib.hid hk
    have hi2 : i ≤ N := by omega
    clear hk
    obtain ⟨wA, hwA⟩ : ∃ w, w = wr := ⟨_, rfl⟩
    subst hwA
    have i2 : (i : Int) ≤ (N : Int) := by omega
    have d3 := HK.out.2.2.2.2.2.2.1
    have d4 := HK.out.2.2.2.2.2.2.2.1
    by_cases hlt : i < N
    · obtain ⟨G, rfl⟩ : ∃ G, gk = G + 1 := ⟨gk - 1, by have := HG.out; omega⟩
      have i0 : (0 : Int) ≤ (i : Int) := by omega
      have i3 : (i : Int) < (N : Int) := by omega
      obtain ⟨hf, hf', hR, hsz, hx, hx', -, -, hb⟩ := HK.out
      obtain ⟨b, off, rfl⟩ : ∃ b off, q = some ⟨b, off, none⟩ := HX.out.1.some (by rw [← HI.out.1]; omega)
      obtain ⟨b2, off2, rfl⟩ : ∃ b off, q' = some ⟨b, off, none⟩ := HX.out.2.some (by rw [HI.out.2.1, ← HI.out.1]; omega)
      cases f with
      | nil => simp [Fo.len] at hf
      | cons l1 k1 s1 a1 x1 r1 =>
        cases f' with
        | nil => simp [Fo.len] at hf'
        | cons l2 k2 s2 a2 x2 r2 =>
          obtain ⟨_, e0, e1, e2, e3, ⟨q3, cc3, e4, hc3, hm3, hx3⟩, hr3⟩ := hx.head
          obtain ⟨_, g0, g1, g2, g3, ⟨q4, cc4, g4, hc4, hm4, hx4⟩, hr4⟩ := hx'.head
          have hC := fun w' (h : Below wA.heap.size wA w') => IH.out x1.size (by have := HI.out.2.2.2; simp only [Fo.size] at hsz; omega) x1 x2 (Nat.le_refl _) l1 l2 k1 k2 s1 s2 a1 a2 q3 q4 cc3 cc4 w' F F' (hx3.later h) (hx4.later h) hc3 hc4 hm3 hm4
          have HS := Lib.hid (show (r1.len = G ∧ r2.len = G ∧ R = (sameT l1 k1 s1 x1 l2 k2 s2 x2 && sameF r1 r2) ∧ r1.size ≤ x.size) from ⟨by simpa [Fo.len] using hf, by simpa [Fo.len] using hf', hR, by simp only [Fo.size] at hsz; omega⟩)
          generalize x1.len = n3 at *
          generalize x2.len = n4 at *
          generalize sameT l1 k1 s1 x1 l2 k2 s2 x2 = r at *
          have hkp : ∀ w', Below wA.heap.size wA w' → (Below wA.heap.size wA w' ∧ w'.cell? ⟨W.heap.size, 4, none⟩ = some (.slice (some ⟨b, off, none⟩) N c) ∧ w'.cell? ⟨W.heap.size + 1, 4, none⟩ = some (.slice (some ⟨b2, off2, none⟩) N c') ∧ w'.cell? ⟨b, off + i * 5, none⟩ = some (.bool l1) ∧ w'.cell? ⟨b, off + i * 5 + 1, none⟩ = some (.int .u8 k1) ∧ w'.cell? ⟨b, off + i * 5 + 2, none⟩ = some (.string s1) ∧ w'.cell? ⟨b, off + i * 5 + 3, none⟩ = some (.int .i64 a1) ∧ w'.cell? ⟨b, off + i * 5 + 4, none⟩ = some (.slice q3 n3 cc3) ∧ w'.cell? ⟨b2, off2 + i * 5, none⟩ = some (.bool l2) ∧ w'.cell? ⟨b2, off2 + i * 5 + 1, none⟩ = some (.int .u8 k2) ∧ w'.cell? ⟨b2, off2 + i * 5 + 2, none⟩ = some (.string s2) ∧ w'.cell? ⟨b2, off2 + i * 5 + 3, none⟩ = some (.int .i64 a2) ∧ w'.cell? ⟨b2, off2 + i * 5 + 4, none⟩ = some (.slice q4 n4 cc4)) := fun w' h => ⟨h, cell_later h d3, cell_later h d4, cell_later h e0, cell_later h e1, cell_later h e2, cell_later h e3, cell_later h e4, cell_later h g0, cell_later h g1, cell_later h g2, cell_later h g3, cell_later h g4⟩
          have hcc : ∀ w', (Below wA.heap.size wA w' ∧ w'.cell? ⟨W.heap.size, 4, none⟩ = some (.slice (some ⟨b, off, none⟩) N c) ∧ w'.cell? ⟨W.heap.size + 1, 4, none⟩ = some (.slice (some ⟨b2, off2, none⟩) N c') ∧ w'.cell? ⟨b, off + i * 5, none⟩ = some (.bool l1) ∧ w'.cell? ⟨b, off + i * 5 + 1, none⟩ = some (.int .u8 k1) ∧ w'.cell? ⟨b, off + i * 5 + 2, none⟩ = some (.string s1) ∧ w'.cell? ⟨b, off + i * 5 + 3, none⟩ = some (.int .i64 a1) ∧ w'.cell? ⟨b, off + i * 5 + 4, none⟩ = some (.slice q3 n3 cc3) ∧ w'.cell? ⟨b2, off2 + i * 5, none⟩ = some (.bool l2) ∧ w'.cell? ⟨b2, off2 + i * 5 + 1, none⟩ = some (.int .u8 k2) ∧ w'.cell? ⟨b2, off2 + i * 5 + 2, none⟩ = some (.string s2) ∧ w'.cell? ⟨b2, off2 + i * 5 + 3, none⟩ = some (.int .i64 a2) ∧ w'.cell? ⟨b2, off2 + i * 5 + 4, none⟩ = some (.slice q4 n4 cc4)) → Calls Tryd.prog 23 #[trV l1 k1 s1 a1 q3 n3 cc3, trV l2 k2 s2 a2 q4 n4 cc4] w' fun e w'' => e = .returned (.bool r) ∧ (Below wA.heap.size wA w'' ∧ w''.cell? ⟨W.heap.size, 4, none⟩ = some (.slice (some ⟨b, off, none⟩) N c) ∧ w''.cell? ⟨W.heap.size + 1, 4, none⟩ = some (.slice (some ⟨b2, off2, none⟩) N c') ∧ w''.cell? ⟨b, off + i * 5, none⟩ = some (.bool l1) ∧ w''.cell? ⟨b, off + i * 5 + 1, none⟩ = some (.int .u8 k1) ∧ w''.cell? ⟨b, off + i * 5 + 2, none⟩ = some (.string s1) ∧ w''.cell? ⟨b, off + i * 5 + 3, none⟩ = some (.int .i64 a1) ∧ w''.cell? ⟨b, off + i * 5 + 4, none⟩ = some (.slice q3 n3 cc3) ∧ w''.cell? ⟨b2, off2 + i * 5, none⟩ = some (.bool l2) ∧ w''.cell? ⟨b2, off2 + i * 5 + 1, none⟩ = some (.int .u8 k2) ∧ w''.cell? ⟨b2, off2 + i * 5 + 2, none⟩ = some (.string s2) ∧ w''.cell? ⟨b2, off2 + i * 5 + 3, none⟩ = some (.int .i64 a2) ∧ w''.cell? ⟨b2, off2 + i * 5 + 4, none⟩ = some (.slice q4 n4 cc4)) := fun w' h => (hC w' h.1).mono fun e w'' h2 => ⟨h2.1, hkp w'' (h.1.trans (h2.2.mono h.1.size))⟩
          unfold trV at hcc
          have HKP := Lib.hid hkp
          have HCC := Lib.hid hcc
          have HR := Lib.hid (And.intro hr3 hr4)
          have HBB := Lib.hid hb
          clear hf hf' hR hsz hx hx' hb hx3 hr3 hx4 hr4 hc3 hc4 hm3 hm4 hC hkp hcc HK e0 e1 e2 e3 e4 g0 g1 g2 g3 g4
          go_wp2_with fail
          go_region_held3 (fun w' => Below wA.heap.size wA w' ∧ w'.cell? ⟨W.heap.size, 4, none⟩ = some (.slice (some ⟨b, off, none⟩) N c) ∧ w'.cell? ⟨W.heap.size + 1, 4, none⟩ = some (.slice (some ⟨b2, off2, none⟩) N c') ∧ w'.cell? ⟨b, off + i * 5, none⟩ = some (.bool l1) ∧ w'.cell? ⟨b, off + i * 5 + 1, none⟩ = some (.int .u8 k1) ∧ w'.cell? ⟨b, off + i * 5 + 2, none⟩ = some (.string s1) ∧ w'.cell? ⟨b, off + i * 5 + 3, none⟩ = some (.int .i64 a1) ∧ w'.cell? ⟨b, off + i * 5 + 4, none⟩ = some (.slice q3 n3 cc3) ∧ w'.cell? ⟨b2, off2 + i * 5, none⟩ = some (.bool l2) ∧ w'.cell? ⟨b2, off2 + i * 5 + 1, none⟩ = some (.int .u8 k2) ∧ w'.cell? ⟨b2, off2 + i * 5 + 2, none⟩ = some (.string s2) ∧ w'.cell? ⟨b2, off2 + i * 5 + 3, none⟩ = some (.int .i64 a2) ∧ w'.cell? ⟨b2, off2 + i * 5 + 4, none⟩ = some (.slice q4 n4 cc4)) (first | exact HKP.out _ (below_drew _) | exact HKP.out _ (Below.refl _ _) | assumption) (first | (go_at_call 23; refine (HCC.out _ (by assumption)).mono ?_; rintro e w' ⟨rfl, hs⟩))
          have HW := Lib.hid hs.1
          have HSS := Lib.hid hs
          have z3 := hs.2.1
          have z4 := hs.2.2.1
          clear hs
          cases r with
          | false =>
            go_wp2_with fail
            go_ret
            refine ⟨by rw [HS.out.2.2.1]; rfl, ?_⟩
            exact HBB.out.trans (HW.out.mono HBB.out.size)
          | true =>
            go_wp2_with fail
            go_roundg G
            case measure => omega
            case rel =>
              obtain ⟨i', hi'⟩ : ∃ i', i' = i + 1 := ⟨_, rfl⟩
              refine ⟨i', r1, r2, by have := HG.out; omega, by rw [hi']; go_num, Lib.hid ⟨HS.out.1, HS.out.2.1, by rw [HS.out.2.2.1]; rfl, HS.out.2.2.2, ?_, ?_, HSS.out.2.1, HSS.out.2.2.1, HBB.out.trans (HW.out.mono HBB.out.size)⟩⟩
              · rw [hi']; exact HR.out.1.later HW.out
              · rw [hi']; exact HR.out.2.later HW.out
    · obtain rfl : i = N := by omega
      obtain rfl : gk = 0 := by have := HG.out; omega
      obtain ⟨hf, hf', hR, -, -, -, -, -, hb⟩ := HK.out
      have hR2 : R = true := by
        cases f with
        | cons => simp [Fo.len] at hf
        | nil => cases f' with
          | cons => simp [Fo.len] at hf'
          | nil => exact hR
      have HBB := Lib.hid hb
      clear hf hf' hR hb
      subst hR2
      go_wp2_with fail
      go_ret
      exact ⟨rfl, by first | exact HBB.out | exact bdd HBB.out⟩
theorem same23_any (n : Nat) : SameP 23 n := Nat.strongRecOn n fun n ih => same23_step n ih
end Go.Proofs.YtlifankiljbdjaaDoor
namespace Go.Proofs.YtlifankiljbdjaaDoor
open Go Go.RowKit

theorem own_setN {w : World} {base n c sz : Nat} {e : TypeId} {g : Nat} {xs : List Value} (h : w.ownsRow base e sz (.slice (some ⟨g, 0, none⟩) n c) n xs) (i : Nat) (u : Value) : (w.setCell ⟨g, i, none⟩ u).ownsRow base e sz (.slice (some ⟨g, 0, none⟩) n c) n (xs.set i u) := by
  obtain ⟨h0, ⟨h1, _⟩ | ⟨g', cap, cur, hv, hg, hh, hn, hm, hs, ht⟩⟩ := h
  · cases h1
  · cases hv
    refine ⟨by rw [List.length_set]; exact h0, .inr ⟨g, c, cur.setIfInBounds i u, rfl, hg, ?_, hn, hm, by rw [Array.size_setIfInBounds]; exact hs, ?_⟩⟩
    · unfold World.setCell
      simp only [Option.isSome_none, Bool.false_eq_true, if_false]
      rw [Array.getElem?_modify, if_pos rfl, hh]
      rfl
    · rw [← ht, Array.toList_setIfInBounds, List.take_set]
theorem own_cutN {w : World} {base n k c sz : Nat} {e : TypeId} {g : Nat} {xs : List Value} (h : w.ownsRow base e sz (.slice (some ⟨g, 0, none⟩) n c) n xs) (hk : k ≤ n) : w.ownsRow base e sz (.slice (some ⟨g, 0, none⟩) k c) k (xs.take (k * sz)) := by
  obtain ⟨h0, ⟨h1, _⟩ | ⟨g', cap, cur, hv, hg, hh, hn, hm, hs, ht⟩⟩ := h
  · cases h1
  · cases hv
    have hks : k * sz ≤ n * sz := Nat.mul_le_mul_right _ hk
    refine ⟨by rw [List.length_take]; omega, .inr ⟨g, c, cur, rfl, hg, hh, by omega, hm, hs, ?_⟩⟩
    rw [← ht, List.take_take]
    congr 1
    omega
/-- a list that is still open: its token's text and place, its trees so far. -/
structure Op where
  s : ByteArray
  a : Int
  f : Fo
/-- an open list in the row's cells: blocks have tags: 1 the row's, j + 2 those of the j-th list's trees, 0 what stays. -/
def LvAt (W : World) (K : Nat → Nat) (base : Nat) (xs : List Value) (j : Nat) (o : Op) : Prop := ∃ (q : Option Addr) (c : Nat) (ys : List Value), xs[j * 5]? = some (.bool true) ∧ xs[j * 5 + 1]? = some (.int .u8 1) ∧ xs[j * 5 + 2]? = some (.string o.s) ∧ xs[j * 5 + 3]? = some (.int .i64 o.a) ∧ xs[j * 5 + 4]? = some (.slice q o.f.len c) ∧
  W.ownsRow base 41 5 (.slice q o.f.len c) o.f.len ys ∧ RowF W (fun b => base ≤ b ∧ K b = 0) o.f ys ∧ (∀ g, (Value.slice q o.f.len c).ownBlock = some g → K g = j + 2)
theorem LvAt.move {W W' : World} {K K' : Nat → Nat} {base : Nat} {xs xs' : List Value} {j : Nat} {o : Op} {T : Nat → Prop} (h : LvAt W K base xs j o) (ho : Only T W W') (hT : ∀ b, b < W.heap.size → T b → K b ≠ 0 ∧ K b ≠ j + 2) (hK : ∀ b, b < W.heap.size → K b = 0 → K' b = 0) (hK2 : ∀ b, b < W.heap.size → K b = j + 2 → K' b = j + 2)
    (hx : ∀ i, i < 5 → xs'[j * 5 + i]? = xs[j * 5 + i]?) : LvAt W' K' base xs' j o := by
  obtain ⟨q, c, ys, h0, h1, h2, h3, h4, h5, h6, h7⟩ := h
  have ho2 : Only (fun b => T b ∧ b < W.heap.size) W W' := ho.mono (fun k hk ht => ⟨ht, hk⟩)
  refine ⟨q, c, ys, by rw [← h0]; exact hx 0 (by omega), by rw [← h1]; exact hx 1 (by omega), by rw [← h2]; exact hx 2 (by omega), by rw [← h3]; exact hx 3 (by omega), by rw [← h4]; exact hx 4 (by omega), own_only h5 ho2 (fun k hk ht => (hT k ht.2 ht.1).2 (h7 k hk)), ?_, fun g hg => hK2 g (own_lt h5 hg).2 (h7 g hg)⟩
  have h8 : RowF W (fun b => (base ≤ b ∧ K b = 0) ∧ b < W.heap.size) o.f ys := h6.mono (fun b hb hl => ⟨hb, hl⟩)
  exact (h8.only ho2 (fun b hb ht => (hT b ht.2 ht.1).1 hb.1.2)).mono (fun b hb _ => ⟨hb.1.1, hK b hb.2 hb.1.2⟩)
/-- the row of the open lists. -/
structure StAt (W : World) (K : Nat → Nat) (base : Nat) (v : Value) (n : Nat) (st : List Op) : Prop where
  row : ∃ xs, W.ownsRow base 41 5 v n xs ∧ ∀ j (h : j < st.length), LvAt W K base xs j st[j]
  le : st.length ≤ n
  tag : ∀ g, v.ownBlock = some g → K g = 1
  fr : ∀ b, W.heap.size ≤ b → K b = 0
  lo : base ≤ W.heap.size
theorem StAt.move {W W' : World} {K : Nat → Nat} {base n : Nat} {v : Value} {st : List Op} {T : Nat → Prop} (h : StAt W K base v n st) (ho : Only T W W') (hT : ∀ b, b < W.heap.size → ¬ T b) : StAt W' K base v n st := by
  obtain ⟨xs, h1, h2⟩ := h.row
  have ho2 : Only (fun _ => False) W W' := ho.mono (fun k hk ht => hT k hk ht)
  exact ⟨⟨xs, own_only h1 ho2 (fun _ _ h => h), fun j hj => (h2 j hj).move ho2 (fun _ _ h => h.elim) (fun _ _ h => h) (fun _ _ h => h) (fun _ _ => rfl)⟩, h.le, h.tag, fun b hb => h.fr b (Nat.le_trans ho.size hb), Nat.le_trans h.lo ho.size⟩
theorem StAt.later {W W' : World} {K : Nat → Nat} {base n : Nat} {v : Value} {st : List Op} (h : StAt W K base v n st) (hb : Below W.heap.size W W') : StAt W' K base v n st :=
  h.move (T := fun _ => False) (Only.of_below hb) (fun _ _ h => h)
/-- one more list is open. -/
theorem StAt.push {W W1 : World} {K : Nat → Nat} {base : Nat} {v v' : Value} {st : List Op} {xs : List Value} {s : ByteArray} {a : Int} (h : StAt W K base v st.length st) (hx : W.ownsRow base 41 5 v st.length xs) (hl : ∀ j (h : j < st.length), LvAt W K base xs j st[j])
    (own : W1.ownsRow base 41 5 v' (st.length + 1) (xs ++ trC true 1 s a none 0 0)) (hg : W.grownBy W1 v.ownBlock) (hloc : v'.ownBlock = v.ownBlock ∨ v'.ownBlock = some W.heap.size) :
    StAt W1 (fun b => if v'.ownBlock = some b then 1 else K b) base v' (st ++ [(⟨s, a, .nil⟩ : Op)]).length (st ++ [(⟨s, a, .nil⟩ : Op)]) := by
  have ho := Only.of_grown hg
  have hxl : xs.length = st.length * 5 := hx.1
  refine ⟨⟨xs ++ trC true 1 s a none 0 0, by rw [List.length_append]; exact own, fun j hj => ?_⟩, Nat.le_refl _, fun g hg => by rw [if_pos hg], fun b hb => ?_, Nat.le_trans h.lo ho.size⟩
  · by_cases hjl : j < st.length
    · rw [List.getElem_append_left hjl]
      refine (hl j hjl).move ho (fun b _ hb => by rw [h.tag b hb]; omega) (fun b hb h0 => ?_) (fun b hb h0 => ?_) (fun i hi => by rw [List.getElem?_append_left (by omega)])
      · rw [if_neg (fun e => ?_)]; exact h0
        rcases hloc with h1 | h1
        · rw [h1] at e; have := h.tag b e; omega
        · rw [h1] at e; injection e with e; omega
      · rw [if_neg (fun e => ?_)]; exact h0
        rcases hloc with h1 | h1
        · rw [h1] at e; have := h.tag b e; omega
        · rw [h1] at e; injection e with e; omega
    · have hje : j = st.length := by simp at hj; omega
      subst hje
      have e : (st ++ [(⟨s, a, .nil⟩ : Op)])[st.length] = ⟨s, a, .nil⟩ := by simp
      rw [e]
      have hget : ∀ i, (xs ++ trC true 1 s a none 0 0)[st.length * 5 + i]? = (trC true 1 s a none 0 0)[i]? := fun i => by
        rw [List.getElem?_append_right (by omega)]; congr 1; omega
      exact ⟨none, 0, [], hget 0, hget 1, hget 2, hget 3, hget 4, ⟨rfl, Or.inl ⟨rfl, rfl⟩⟩, rfl, fun g hg => by cases hg⟩
  · rw [if_neg (fun e => by have := (own_lt own e).2; omega)]
    exact h.fr b (Nat.le_trans ho.size hb)
/-- one more tree in the j-th open list. -/
theorem StAt.grow {W W3 : World} {K : Nat → Nat} {base n g7 c7 j : Nat} {st : List Op} {xs ys : List Value} {q qx p' : Option Addr} {c cx c' : Nat} {o : Op} {x : Fo} {l : Bool} {k : Int} {s : ByteArray} {a : Int} (h : StAt W K base (.slice (some ⟨g7, 0, none⟩) n c7) n st) (hj : j < st.length) (hjo : st[j] = o)
    (hx : W.ownsRow base 41 5 (.slice (some ⟨g7, 0, none⟩) n c7) n xs) (hl : ∀ j (h : j < st.length), LvAt W K base xs j st[j])
    (hr : RowF W (fun b => base ≤ b ∧ K b = 0) o.f ys) (hK : ∀ g, (Value.slice q o.f.len c).ownBlock = some g → K g = j + 2)
    (hq : FoIn W (fun b => base ≤ b ∧ K b = 0) x qx) (hxc : x.len ≤ cx) (hxm : x.len ≤ 281474976710656)
    (hloc : (Value.slice p' (o.f.len + 1) c').ownBlock = (Value.slice q o.f.len c).ownBlock ∨ (Value.slice p' (o.f.len + 1) c').ownBlock = some W.heap.size)
    (own3 : W3.ownsRow base 41 5 (.slice p' (o.f.len + 1) c') (o.f.len + 1) (ys ++ trC l k s a qx x.len cx))
    (own7 : W3.ownsRow base 41 5 (.slice (some ⟨g7, 0, none⟩) n c7) n (xs.set (j * 5 + 4) (.slice p' (o.f.len + 1) c')))
    (ho : Only (fun b => (Value.slice q o.f.len c).ownBlock = some b ∨ (Value.slice p' (o.f.len + 1) c').ownBlock = some b ∨ b = g7) W W3) :
    StAt W3 (fun b => if (Value.slice p' (o.f.len + 1) c').ownBlock = some b then j + 2 else K b) base (.slice (some ⟨g7, 0, none⟩) n c7) n (st.set j ⟨o.s, o.a, o.f.snoc l k s a x⟩) := by
  have hxl : xs.length = n * 5 := hx.1
  have hg7 : K g7 = 1 := h.tag g7 rfl
  have hle := h.le
  have hnew : ∀ b, b < W.heap.size → (Value.slice p' (o.f.len + 1) c').ownBlock = some b → K b = j + 2 := fun b hb e => by
    rcases hloc with h1 | h1
    · exact hK b (h1 ▸ e)
    · rw [h1] at e; injection e with e; omega
  have hT : ∀ b, b < W.heap.size → ((Value.slice q o.f.len c).ownBlock = some b ∨ (Value.slice p' (o.f.len + 1) c').ownBlock = some b ∨ b = g7) → K b = j + 2 ∨ K b = 1 := fun b hb hT => by
    rcases hT with h1 | h1 | h1
    · exact Or.inl (hK b h1)
    · exact Or.inl (hnew b hb h1)
    · rw [h1]; exact Or.inr hg7
  refine ⟨⟨xs.set (j * 5 + 4) (.slice p' (o.f.len + 1) c'), own7, fun i hi => ?_⟩, by rw [List.length_set]; exact hle, fun g hg => ?_, fun b hb => ?_, Nat.le_trans h.lo ho.size⟩
  · have hi2 : i < st.length := by simpa using hi
    by_cases hij : i = j
    · subst hij
      rw [List.getElem_set_self]
      obtain ⟨q0, c0, ys0, h0, h1, h2, h3, h4, -, -, -⟩ := hl i hi2
      rw [hjo] at h2 h3
      have hls : (o.f.snoc l k s a x).len = o.f.len + 1 := Fo.len_snoc _ _ _ _ _ _
      refine ⟨p', c', ys ++ trC l k s a qx x.len cx, ?_, ?_, ?_, ?_, ?_, ?_, ?_, ?_⟩
      · rw [List.getElem?_set_ne (by omega)]; exact h0
      · rw [List.getElem?_set_ne (by omega)]; exact h1
      · rw [List.getElem?_set_ne (by omega)]; exact h2
      · rw [List.getElem?_set_ne (by omega)]; exact h3
      · show _ = some (Value.slice p' (o.f.snoc l k s a x).len c')
        rw [hls, List.getElem?_set_self (by omega)]
      · show W3.ownsRow base 41 5 (.slice p' (o.f.snoc l k s a x).len c') (o.f.snoc l k s a x).len _
        rw [hls]; exact own3
      · have hs := RowF.snoc (l := l) (k := k) (s := s) (a := a) hxc hxm hq o.f ys hr
        have hs2 : RowF W (fun b => (base ≤ b ∧ K b = 0) ∧ b < W.heap.size) _ _ := hs.mono (fun b hb hl => ⟨hb, hl⟩)
        refine (hs2.only (T := fun b => _) (ho.mono (fun b hb ht => (⟨ht, hb⟩ : _ ∧ b < W.heap.size))) (fun b hb ht => by have h1 := hT b ht.2 ht.1; have h2 := hb.1.2; omega)).mono (fun b hb _ => ⟨hb.1.1, ?_⟩)
        show (if _ then _ else _) = 0
        rw [if_neg (fun e => by have h1 := hnew b hb.2 e; have h2 := hb.1.2; omega)]
        exact hb.1.2
      · intro g hg
        have hg2 : (Value.slice p' (o.f.len + 1) c').ownBlock = some g := by rw [← hls]; exact hg
        show (if _ then _ else _) = i + 2
        rw [if_pos hg2]
    · rw [List.getElem_set_ne (fun e => hij e.symm)]
      refine (hl i hi2).move ho (fun b hb ht => by have := hT b hb ht; omega) (fun b hb h0 => ?_) (fun b hb h0 => ?_) (fun r hr => by rw [List.getElem?_set_ne (by omega)])
      · rw [if_neg (fun e => by have h1 := hnew b hb e; omega)]; exact h0
      · rw [if_neg (fun e => by have h1 := hnew b hb e; omega)]; exact h0
  · have hgg : g = g7 := by injection hg with hg; exact hg.symm
    subst hgg
    have hlt : g < W.heap.size := (own_lt hx rfl).2
    rw [if_neg (fun e => by have h1 := hnew g hlt e; omega)]
    exact hg7
  · rw [if_neg (fun e => by have h1 := (own_lt own3 e).2; omega)]
    exact h.fr b (Nat.le_trans ho.size hb)
end Go.Proofs.YtlifankiljbdjaaDoor
namespace Go.Proofs.YtlifankiljbdjaaDoor
open Go Go.RowKit

def TreeP (l : List TkA) (p : Option Addr) (c : Nat) (b : Bool) (k : Int) (s : ByteArray) (a : Int) (g : Fo) (W : World) : Prop :=
  Calls Tryd.prog 45 #[.slice p l.length c] W fun e w' => ∃ q c', e = .returned (trV b k s a q g.len c') ∧ g.len ≤ c' ∧ FoIn w' (fun z => W.heap.size ≤ z) g q ∧ Below W.heap.size W w'
set_option maxRecDepth 100000 in
set_option maxHeartbeats 3200000 in
theorem tree_leaf (t : TkA) (p : Option Addr) (c : Nat) (W : World) (h : TksA W p [t]) (h1 : t.k ≠ 1) : TreeP [t] p c false t.k t.s t.a .nil W := by
  unfold TreeP
  obtain ⟨b, off, rfl, x0, x1, x2⟩ := h 0 (by simp)
  obtain ⟨k, s, a⟩ := t
  replace h1 : k ≠ 1 := h1
  have y0 : W.cell? ⟨b, off, none⟩ = some (.int .u8 k) := x0
  have y1 : W.cell? ⟨b, off + 1, none⟩ = some (.string s) := x1
  have y2 : W.cell? ⟨b, off + 2, none⟩ = some (.int .i64 a) := x2
  have z0 := cell_later (below1 W (.cells #[.bool false, .int .u8 0, .string ⟨#[]⟩, .int .i64 0, .slice none 0 0] 41)) y0
  have z1 := cell_later (below1 W (.cells #[.bool false, .int .u8 0, .string ⟨#[]⟩, .int .i64 0, .slice none 0 0] 41)) y1
  have z2 := cell_later (below1 W (.cells #[.bool false, .int .u8 0, .string ⟨#[]⟩, .int .i64 0, .slice none 0 0] 41)) y2
  have e1 : (k != 1) = true := by simp [h1]
  clear x0 x1 x2 h
  simp only [List.length_cons, List.length_nil]
  go_enter Tryd.func45, Tryd.ntmps45
  go_wp2_with fail
  refine bodyPost_ret (v := .agg #[.bool false, .int .u8 k, .string s, .int .i64 a, .slice none 0 0]) (by simp [results, Tryd.results45, go_sem]) rfl ⟨none, 0, rfl, Nat.le_refl _, trivial, ?_⟩
  repeat (first | exact Below.refl _ _ | refine Below.alloc ?_ (by simp) _ | refine Below.setCell ?_ (by simp) _ | exact bdd (Below.refl _ _))
theorem only_set5 (w : World) (b : Nat) (v0 v1 v2 v3 v4 : Value) : Only (fun k => k = b) w (((((w.setCell ⟨b, 0, none⟩ v0).setCell ⟨b, 1, none⟩ v1).setCell ⟨b, 2, none⟩ v2).setCell ⟨b, 3, none⟩ v3).setCell ⟨b, 4, none⟩ v4) :=
  ((((Only.of_setCell w ⟨b, 0, none⟩ v0).trans (Only.of_setCell _ ⟨b, 1, none⟩ v1)).trans (Only.of_setCell _ ⟨b, 2, none⟩ v2)).trans (Only.of_setCell _ ⟨b, 3, none⟩ v3)).trans (Only.of_setCell _ ⟨b, 4, none⟩ v4)
set_option maxRecDepth 100000 in
set_option maxHeartbeats 6400000 in
theorem tree_list (n : Nat) (ih : ∀ l b k s a g, l.length < n → One l b k s a g → ∀ p c W, TksA W p l → l.length ≤ c → TreeP l p c b k s a g W) (t cl : TkA) (x : List TkA) (g : Fo) (h1 : t.k = 1) (h2 : cl.k = 2) (hr : Rd x g) (hn : (t :: (x ++ [cl])).length = n) (hm : n ≤ 1048576)
    (p : Option Addr) (c : Nat) (W : World) (h : TksA W p (t :: (x ++ [cl]))) (hc : n ≤ c) : TreeP (t :: (x ++ [cl])) p c true t.k t.s t.a g W := by
  unfold TreeP
  rw [hn]
  obtain ⟨b, off, rfl, x0, x1, x2⟩ := h 0 (by simp)
  obtain ⟨k, s, a⟩ := t
  obtain rfl : k = 1 := h1
  obtain ⟨L, hL⟩ : ∃ L, L = (⟨1, s, a⟩ : TkA) :: (x ++ [cl]) := ⟨_, rfl⟩
  rw [← hL] at h hn
  have y0 : W.cell? ⟨b, off, none⟩ = some (.int .u8 1) := x0
  have y1 : W.cell? ⟨b, off + 1, none⟩ = some (.string s) := x1
  have y2 : W.cell? ⟨b, off + 2, none⟩ = some (.int .i64 a) := x2
  have z0 := cell_later (below1 W (.cells #[.bool false, .int .u8 0, .string ⟨#[]⟩, .int .i64 0, .slice none 0 0] 41)) y0
  have z1 := cell_later (below1 W (.cells #[.bool false, .int .u8 0, .string ⟨#[]⟩, .int .i64 0, .slice none 0 0] 41)) y1
  have z2 := cell_later (below1 W (.cells #[.bool false, .int .u8 0, .string ⟨#[]⟩, .int .i64 0, .slice none 0 0] 41)) y2
  have n1 : (n : Int) ≤ 1048576 := by omega
  have n2 : 2 ≤ n := by rw [← hn, hL]; simp
  have H := Lib.hid h
  have HL := Lib.hid (And.intro hL hn)
  have IH := Lib.hid ih
  have HRD := Lib.hid hr
  have HCL := Lib.hid h2
  clear x0 x1 x2 h hL hn ih hr h2
  simp only
  go_enter Tryd.func45, Tryd.ntmps45
  go_wp2_with fail
  go_loopg [4, 5] n (fun gk s4 s5 wx => ∃ (dn rs : List TkA) (fd fr : Fo) (pv : Option Addr) (cv : Nat), s4 = .int .i64 ((1 + dn.length : Nat) : Int) ∧ rs.length ≤ gk ∧ Hid (dn.length + rs.length + 2 = n ∧ L = (⟨1, s, a⟩ : TkA) :: (dn ++ (rs ++ [cl])) ∧ Rd rs fr ∧ fd.app fr = g ∧ fd.len ≤ dn.length ∧ BoxT wx W.heap.size false 0 ⟨#[]⟩ 0 (.slice none 0 0) ∧ BoxT wx (W.heap.size + 1) true 1 s a (.slice pv fd.len cv) ∧ OwnF wx (W.heap.size + 2) (.slice pv fd.len cv) fd ∧ Below W.heap.size W wx))
  case atStart =>
    refine ⟨[], x, .nil, g, none, 0, rfl, ?_, Lib.hid ⟨?_, ?_, HRD.out, rfl, Nat.le_refl _, ?_, ?_, ?_, ?_⟩⟩
    · have := HL.out.2; rw [HL.out.1] at this; simp at this; omega
    · have := HL.out.2; rw [HL.out.1] at this; simp at this; simp; omega
    · exact HL.out.1
    · exact (box_new W false 0 ⟨#[]⟩ 0 (.slice none 0 0)).later (below1 _ _)
    · exact (show W.heap.size + 1 = (W.alloc _).heap.size by simp) ▸ box_new _ true 1 s a (.slice none 0 0)
    · exact OwnF.nil _ _
    · exact (below1 W _).alloc (by simp) _
  case round =>
    obtain ⟨dn, rs, fd, fr, pv, cv, rfl, hgk, HI⟩ := hrel
    obtain ⟨wA, hwA⟩ : ∃ w, w = wr := ⟨_, rfl⟩
    subst hwA
    obtain ⟨i1, i2, i3, i4, i5, i6, i7, i8, i9⟩ := HI.out
    have HG := Lib.hid hgk
    obtain ⟨A0, hA0⟩ : ∃ A0, A0 = 1 + dn.length := ⟨_, rfl⟩
    rw [← hA0]
    have j1 : A0 ≤ n := by omega
    have j2 : (A0 : Int) ≤ 1048576 := by omega
    cases fr with
    | nil =>
      have hrs : rs = [] := by cases i3; rfl
      subst hrs
      have j3 : A0 + 1 = n := by simp at i1; omega
      have j4 : (A0 : Int) = (n : Int) - 1 := by omega
      obtain ⟨b0, b1, b2, b3, b4, bf⟩ := i6
      obtain ⟨d0, d1, d2, d3, d4, df⟩ := i7
      have hfd : fd = g := by rw [Fo.app_nil] at i4; exact i4
      subst hfd
      obtain ⟨q9, c9, hv, hlc, hfo⟩ := i8.foIn
      cases hv
      have HF := Lib.hid (And.intro hlc (And.intro hfo i9))
      clear i1 i2 i3 i4 i5 i8 i9 hlc hfo HI
      go_wp2_with fail
      refine bodyPost_ret (v := trV true 1 s a pv fd.len cv) (by simp [results, Tryd.results45, go_sem, b0, b1, b2, b3, b4, trV]) rfl ⟨pv, cv, rfl, HF.out.1, ?_, ?_⟩
      · exact (HF.out.2.1.only (only_set5 _ _ _ _ _ _ _) (fun z hz e => by omega)).mono (fun z hz _ => by omega)
      · exact HF.out.2.2.trans ((only_set5 wA W.heap.size _ _ _ _ _).below (fun j hj => Nat.le_of_eq hj.symm) HF.out.2.2.size)
    | cons lb k1 s1 a1 x1 fr1 =>
      obtain ⟨u, r, hu, hu0, hone, hrd, hend⟩ := i3.first
      have j3 : (A0 : Int) < (n : Int) - 1 := by have := congrArg List.length hu; simp at this; omega
      have hE : endF (L.drop A0) 0 A0 = some (A0 + u.length) := by
        rw [i2, hA0, Nat.add_comm 1, List.drop_succ_cons, List.drop_left, hu, List.append_assoc]; exact hend _ _
      have HC := Lib.hid (end43 (some ⟨b, off, none⟩) c A0 L wA (H.out.later i9) (by rw [HL.out.2]; exact hc) (by rw [HL.out.2]; omega) (by rw [HL.out.2]; exact j1))
      rw [HL.out.2, hE] at HC
      obtain ⟨E, hEE⟩ : ∃ E, E = A0 + u.length := ⟨_, rfl⟩
      rw [← hEE] at HC
      simp only [endV] at HC
      have HS := Lib.hid (And.intro i1 (And.intro i2 (And.intro i4 (And.intro i5 (And.intro hu (And.intro hone (And.intro hrd (And.intro hA0 hEE))))))))
      have HM := Lib.hid (And.intro i6 (And.intro i7 (And.intro i8 i9)))
      clear i1 i2 i3 i4 i5 i6 i7 i8 i9 hE hu hone hrd hend HI hA0 hEE
      go_wp2_with fail
      refine HC.out.mono ?_
      rintro e w1 ⟨rfl, hb1⟩
      have HUL := Lib.hid (show u.length = E - A0 ∧ A0 < E ∧ E ≤ n ∧ E < n ∧ u.length < n from by
        obtain ⟨i1, -, -, -, hu, -, -, hA0, hEE⟩ := HS.out
        have := congrArg List.length hu
        simp at this
        omega)
      have j5 : A0 < E := HUL.out.2.1
      have j6 : E ≤ n := HUL.out.2.2.1
      have hb2 : Below wA.heap.size wA w1.drew := hb1.trans ((below_drew w1).mono hb1.size)
      obtain ⟨xs, ho, hrw⟩ := HM.out.2.2.1.later hb2
      have hbt := HM.out.1.later hb2
      have hbx := HM.out.2.1.later hb2
      have x4 := hbx.c4
      have hic := IH.out u lb k1 s1 a1 x1 HUL.out.2.2.2.2 HS.out.2.2.2.2.2.1 (some ⟨b, off + A0 * 3, none⟩) (c - A0) w1.drew (by
        have h := (H.out.later (HM.out.2.2.2.trans (hb2.mono HM.out.2.2.2.size)))
        have := TksA.piece (d := (⟨1, s, a⟩ : TkA) :: dn) (u := u) (z := r ++ [cl]) h (by rw [HS.out.2.1, HS.out.2.2.2.2.1]; simp)
        have e : ((⟨1, s, a⟩ : TkA) :: dn).length = A0 := by rw [HS.out.2.2.2.2.2.2.2.1]; simp; omega
        rw [e] at this
        exact this) (by have := HUL.out; omega)
      unfold TreeP trV at hic
      rw [HUL.out.1] at hic
      have hfl : fd.len ≤ 1048576 := by have := HS.out; omega
      have hxl : x1.len ≤ 1048576 := by
        have h1 := HS.out.2.2.2.2.2.1
        have h2 := HUL.out.2.2.2.2
        cases h1 with
        | leaf => exact Nat.zero_le _
        | list _ _ h => have := h.len; simp at h2; omega
      have hb9 := HM.out.2.2.2.trans (hb2.mono HM.out.2.2.2.size)
      have HIC := Lib.hid hic
      have HOW := Lib.hid (And.intro ho hrw)
      have HBX := Lib.hid (And.intro hbt (And.intro hbx hb9))
      obtain ⟨i0, hi, hz0, hz1, hz2⟩ := info41
      clear hb1 hb2 ho hrw hbt hbx hic hb9 HM HC
      go_wp2_with fail
      refine wp_region_L [(1000, (fun _ => True : World → Prop)), (10, (fun w => w.cell? ⟨W.heap.size + 1, 4, none⟩ = some (.slice pv fd.len cv) : World → Prop))] (by kernel_rfl) (SL.cons (fun _ => trivial) (SL.cons (fun _ => x4) SL.nil)) (fun hHeld => ?_)
      generalize w1.drew = w2 at *
      refine wpAnyL_take 0 _ _ (i := 0) (oi := { dst := some 27, op := Op.fieldAddr 41 (Operand.tmp 3) 2, type := 0, pos := "ref.go:101", after := #[], guard := none }) (v := ?_) rfl (by kernel_rfl) (by kernel_rfl) (by kernel_rfl) (fun _ _ _ h => h) rfl (by kernel_rfl) (by kernel_rfl) (by kernel_rfl) (Or.inl ⟨by rfl, ?_⟩) hHeld (fun hHeld => ?_)
      rotate_left
      · intro w hSw
        (try dsimp only at hSw)
        go_simp
        try with_reducible rfl
      try simp only [Act.put, List.setIfInBounds_toArray, List.set_cons_zero, List.set_cons_succ]
      refine wpAnyL_take 1 _ _ (i := 1) (oi := { dst := some 28, op := Op.load 39 (Operand.tmp 27), type := 39, pos := "ref.go:101", after := #[{ on := 0, ground := Ground.data }], guard := none }) (v := ?_) rfl (by kernel_rfl) (by kernel_rfl) (by kernel_rfl) (fun _ _ _ h => h) rfl (by kernel_rfl) (by kernel_rfl) (by kernel_rfl) (Or.inl ⟨by rfl, ?_⟩) hHeld (fun hHeld => ?_)
      rotate_left
      · intro w hSw
        (try dsimp only at hSw)
        go_simp
        try with_reducible rfl
      try simp only [Act.put, List.setIfInBounds_toArray, List.set_cons_zero, List.set_cons_succ]
      refine wpAnyL_take 0 _ _ (i := 2) (oi := { dst := some 29, op := Op.move (Operand.tmp 0), type := 24, pos := "ref.go:101", after := #[], guard := none }) (v := ?_) rfl (by kernel_rfl) (by kernel_rfl) (by kernel_rfl) (fun _ _ _ h => h) rfl (by kernel_rfl) (by kernel_rfl) (by kernel_rfl) (Or.inl ⟨by rfl, ?_⟩) hHeld (fun hHeld => ?_)
      rotate_left
      · intro w hSw
        (try dsimp only at hSw)
        go_simp
        try with_reducible rfl
      try simp only [Act.put, List.setIfInBounds_toArray, List.set_cons_zero, List.set_cons_succ]
      refine wpAnyL_take 0 _ _ (i := 3) (oi := { dst := some 30, op := Op.move (Operand.tmp 4), type := 3, pos := "ref.go:101", after := #[], guard := none }) (v := ?_) rfl (by kernel_rfl) (by kernel_rfl) (by kernel_rfl) (fun _ _ _ h => h) rfl (by kernel_rfl) (by kernel_rfl) (by kernel_rfl) (Or.inl ⟨by rfl, ?_⟩) hHeld (fun hHeld => ?_)
      rotate_left
      · intro w hSw
        (try dsimp only at hSw)
        go_simp
        try with_reducible rfl
      try simp only [Act.put, List.setIfInBounds_toArray, List.set_cons_zero, List.set_cons_succ]
      refine wpAnyL_take 0 _ _ (i := 4) (oi := { dst := some 31, op := Op.move (Operand.tmp 5), type := 3, pos := "ref.go:101", after := #[], guard := none }) (v := ?_) rfl (by kernel_rfl) (by kernel_rfl) (by kernel_rfl) (fun _ _ _ h => h) rfl (by kernel_rfl) (by kernel_rfl) (by kernel_rfl) (Or.inl ⟨by rfl, ?_⟩) hHeld (fun hHeld => ?_)
      rotate_left
      · intro w hSw
        (try dsimp only at hSw)
        go_simp
        try with_reducible rfl
      try simp only [Act.put, List.setIfInBounds_toArray, List.set_cons_zero, List.set_cons_succ]
      refine wpAnyL_take 0 _ _ (i := 5) (oi := { dst := some 32, op := Op.slice 24 (Operand.tmp 29) (some (Operand.tmp 30)) (some (Operand.tmp 31)) none, type := 24, pos := "ref.go:101", after := #[{ on := 2, ground := Ground.data }, { on := 3, ground := Ground.data }, { on := 4, ground := Ground.data }], guard := none }) (v := ?_) rfl (by kernel_rfl) (by kernel_rfl) (by kernel_rfl) (fun _ _ _ h => h) rfl (by kernel_rfl) (by kernel_rfl) (by kernel_rfl) (Or.inl ⟨by rfl, ?_⟩) hHeld (fun hHeld => ?_)
      rotate_left
      · intro w hSw
        (try dsimp only at hSw)
        have hsl := slice_tks w b off n c A0 E j5 j6 hc
        go_simp
        try with_reducible rfl
      try simp only [Act.put, List.setIfInBounds_toArray, List.set_cons_zero, List.set_cons_succ]
      refine wpAnyL_ready (rs := [6]) (by kernel_rfl) (by simp) ?_
      refine AllReadyL.cons (o := { dst := some 33, op := Op.call { callee := Callee.value (Operand.func 45), args := #[Operand.tmp 32], argTypes := #[24] }, type := 41, pos := "ref.go:101", after := #[{ on := 5, ground := Ground.data }], guard := none }) rfl (fun K hK => ?_) AllReadyL.nil
      go_simp
      go_at_call 45
      refine HIC.out.mono ?_
      rintro e w3 ⟨q3, c3, rfl, hq1, hq2, hb3⟩
      refine hK.out _ _ (SL.cons (fun _ => trivial) (SL.cons (fun _ => cell_later hb3 x4) SL.nil)) (fun hHeld => ?_)
      clear hK K
      try simp only [Act.put, List.setIfInBounds_toArray, List.set_cons_zero, List.set_cons_succ]
      have x5 := cell_later hb3 x4
      clear x4 hHeld
      refine wpAnyL_ready (rs := [7]) (by kernel_rfl) (by simp) ?_
      refine AllReadyL.cons (o := { dst := some 34, op := Op.buildSlice 39 1 #[(0, Operand.tmp 33)], type := 39, pos := "ref.go:101", after := #[{ on := 6, ground := Ground.data }], guard := none }) rfl (fun K hK => ?_) AllReadyL.nil
      go_simp
      refine hK.out _ _ (SL.cons (fun _ => trivial) (SL.cons (fun _ => cell_later (below1 w3 _) x5) SL.nil)) (fun hHeld => ?_)
      clear hK K
      try simp only [Act.put, List.setIfInBounds_toArray, List.set_cons_zero, List.set_cons_succ]
      have hb4 := hb3.trans ((below1 w3 (.cells #[.bool lb, .int .u8 k1, .string s1, .int .i64 a1, .slice q3 x1.len c3] 41)).mono hb3.size)
      have hbt := HBX.out.1.later hb4
      have hbx := HBX.out.2.1.later hb4
      have ho := own_later HOW.out.1 hb4
      have hrw := HOW.out.2.later hb4
      have hq4 := hq2.later (below1 w3 (.cells #[.bool lb, .int .u8 k1, .string s1, .int .i64 a1, .slice q3 x1.len c3] 41))
      have hnb := box_new w3 lb k1 s1 a1 (.slice q3 x1.len c3)
      have hsz : W.heap.size + 2 ≤ (w3.alloc (.cells #[.bool lb, .int .u8 k1, .string s1, .int .i64 a1, .slice q3 x1.len c3] 41)).heap.size := by have := hbx.lt; omega
      clear x5 hHeld
      refine wpAnyL_ready (rs := [8]) (by kernel_rfl) (by simp) ?_
      refine AllReadyL.cons (o := { dst := some 35, op := Op.call { callee := Callee.builtin Builtin.append, args := #[Operand.tmp 28, Operand.tmp 34], argTypes := #[39, 39] }, type := 39, pos := "ref.go:101", after := #[{ on := 1, ground := Ground.data }, { on := 7, ground := Ground.data }, { on := 6, ground := Ground.chain }], guard := none }) rfl (fun K hK => ?_) AllReadyL.nil
      rw [if_pos (by rfl)]
      refine wp_append_own_at _ _ 39 (by rfl) (W.heap.size + 2) 41 i0 Z41 5 64 Tryd.underlying39 hi hz0 hz1 hz2 rfl (by omega) _ fd.len xs (by rfl) ho ⟨w3.heap.size, 0, none⟩ 1 1 (trC lb k1 s1 a1 q3 x1.len c3) (by rfl) (by rfl) ?_ ?_ ?_ ?_ ?_ ?_
      · intro jj u hjj
        rw [Lib.add_plain]
        match jj, hjj with
        | 0, hjj => cases hjj; exact hnb.c0
        | 1, hjj => cases hjj; exact hnb.c1
        | 2, hjj => cases hjj; exact hnb.c2
        | 3, hjj => cases hjj; exact hnb.c3
        | 4, hjj => cases hjj; exact hnb.c4
      · intro u hu; simp [trC] at hu; rcases hu with rfl | rfl | rfl | rfl | rfl <;> rfl
      · have hml : maxLen = 9223372036854775807 := rfl; omega
      · omega
      · exact hsz
      intro v8 w8 hown hgrow hnil_ hloc
      have hpush := OwnF.push (N := w2.heap.size) ho hrw (by have := HBX.out.2.1.lt; omega) (fun g hg => (own_lt HOW.out.1 hg).2) hq4 hq1 (by omega) hown hgrow hloc
      obtain ⟨p8, c8, hv, hA_⟩ := own_shape hown
      subst hv
      clear hnil_ hloc hA_
      have ho8 := Only.of_grown hgrow
      have hge : ∀ j, (Value.slice pv fd.len cv).ownBlock = some j → W.heap.size + 2 ≤ j := fun j hj => (own_lt ho hj).1
      have hbx8 := hbx.only ho8 (fun e => by have := hge _ e; omega)
      have hbt8 := hbt.only ho8 (fun e => by have := hge _ e; omega)
      have x8 := hbx8.c4
      have f8 := hbx8.fz
      have hb8 := (HBX.out.2.2.trans (hb4.mono HBX.out.2.2.size)).trans (ho8.below (B := W.heap.size) (fun j hj => by have := hge j hj; omega) (by omega))
      have HE := Lib.hid (And.intro hpush (And.intro hbx8 (And.intro hbt8 hb8)))
      clear hown hgrow ho8 hge hbx8 hbt8 hb8 hpush hb4 hbt hbx ho hrw hq4 hnb hq1 hq2 hb3
      refine hK.out _ _ (SL.cons (fun _ => trivial) (SL.cons (fun _ => x8) SL.nil)) (fun hHeld => ?_)
      clear hK K
      try simp only [Act.put, List.setIfInBounds_toArray, List.set_cons_zero, List.set_cons_succ]
      refine wpAnyL_take 0 _ _ (i := 9) (oi := { dst := some 36, op := Op.fieldAddr 41 (Operand.tmp 3) 2, type := 0, pos := "ref.go:101", after := #[{ on := 0, ground := Ground.phase }, { on := 1, ground := Ground.phase }, { on := 2, ground := Ground.phase }, { on := 3, ground := Ground.phase }, { on := 4, ground := Ground.phase }, { on := 5, ground := Ground.phase }, { on := 6, ground := Ground.phase }, { on := 7, ground := Ground.phase }, { on := 8, ground := Ground.phase }], guard := none }) (v := ?_) rfl (by kernel_rfl) (by kernel_rfl) (by kernel_rfl) (fun _ _ _ h => h) rfl (by kernel_rfl) (by kernel_rfl) (by kernel_rfl) (Or.inl ⟨by rfl, ?_⟩) hHeld (fun hHeld => ?_)
      rotate_left
      · intro w hSw
        (try dsimp only at hSw)
        go_simp
        try with_reducible rfl
      try simp only [Act.put, List.setIfInBounds_toArray, List.set_cons_zero, List.set_cons_succ]
      refine wpAnyL_ready (rs := [10]) (by kernel_rfl) (by simp) ?_
      refine AllReadyL.cons (o := { dst := none, op := Op.store 39 (Operand.tmp 36) (Operand.tmp 35), type := 0, pos := "ref.go:101", after := #[{ on := 9, ground := Ground.data }, { on := 8, ground := Ground.data }, { on := 8, ground := Ground.chain }, { on := 0, ground := Ground.phase }, { on := 1, ground := Ground.phase }, { on := 2, ground := Ground.phase }, { on := 3, ground := Ground.phase }, { on := 4, ground := Ground.phase }, { on := 5, ground := Ground.phase }, { on := 6, ground := Ground.phase }, { on := 7, ground := Ground.phase }, { on := 8, ground := Ground.phase }], guard := none }) rfl (fun K hK => ?_) AllReadyL.nil
      go_simp
      refine hK.out _ _ (SL.cons (fun _ => trivial) (SL.cons (fun h => absurd h (by decide +kernel)) SL.nil)) (fun hHeld => ?_)
      clear hK K
      try simp only [Act.put, List.setIfInBounds_toArray, List.set_cons_zero, List.set_cons_succ]
      refine wpAnyL_done (by kernel_rfl) ?_ _
      obtain ⟨w9, hw9⟩ : ∃ w9, w9 = w8.setCell ⟨W.heap.size + 1, 4, none⟩ (.slice p8 (fd.len + 1) c8) := ⟨_, rfl⟩
      have ho9 : Only (fun k => k = W.heap.size + 1) w8 w9 := by rw [hw9]; exact Only.of_setCell w8 ⟨W.heap.size + 1, 4, none⟩ _
      have HN := Lib.hid (show BoxT w9 W.heap.size false 0 ⟨#[]⟩ 0 (.slice none 0 0) ∧ BoxT w9 (W.heap.size + 1) true 1 s a (.slice p8 (fd.len + 1) c8) ∧ OwnF w9 (W.heap.size + 2) (.slice p8 (fd.len + 1) c8) (fd.snoc lb k1 s1 a1 x1) ∧ Below W.heap.size W w9 from
        ⟨HE.out.2.2.1.only ho9 (by omega), by rw [hw9]; exact HE.out.2.1.set4 _, HE.out.1.only ho9 (fun z hz e => by omega), HE.out.2.2.2.trans (ho9.below (fun j hj => by omega) HE.out.2.2.2.size)⟩)
      rw [← hw9]
      clear hw9 ho9 x8 f8 hHeld
      obtain ⟨G, rfl⟩ : ∃ G, gk = G + 1 := ⟨gk - 1, by have h1 := HG.out; have h2 := congrArg List.length HS.out.2.2.2.2.1; have h3 := HUL.out; simp at h2; omega⟩
      go_wp2_with fail
      go_roundg G
      case measure => omega
      case rel =>
        obtain ⟨i1, i2, i4, i5, hu, hone, hrd, hA0, hEE⟩ := HS.out
        have hul := congrArg List.length hu
        have h3 := HUL.out
        have h1 := HG.out
        simp at hul
        have hfs : (fd.snoc lb k1 s1 a1 x1).len = fd.len + 1 := Fo.len_snoc _ _ _ _ _ _
        refine ⟨dn ++ u, r, fd.snoc lb k1 s1 a1 x1, fr1, p8, c8, ?_, by omega, Lib.hid ⟨?_, ?_, hrd, ?_, ?_, HN.out.1, ?_, ?_, HN.out.2.2.2⟩⟩
        · congr 2; simp; omega
        · simp; omega
        · rw [i2, hu]; simp
        · rw [Fo.snoc_app]; exact i4
        · rw [hfs]; simp; omega
        · rw [hfs]; exact HN.out.2.1
        · rw [hfs]; exact HN.out.2.2.1
theorem tree_any (n : Nat) : n ≤ 1048576 → ∀ l b k s a g, l.length ≤ n → One l b k s a g → ∀ p c W, TksA W p l → l.length ≤ c → TreeP l p c b k s a g W := by
  induction n with
  | zero =>
    intro _ l b k s a g hl h1
    cases h1 <;> simp at hl
  | succ n ih =>
    intro hn l b k s a g hl h1 p c W h hc
    cases h1 with
    | leaf h1 h2 => exact tree_leaf _ p c W h h1
    | @list t cl x g h1 h2 h3 =>
      exact tree_list (t :: (x ++ [cl])).length (fun l b k s a g hlt ho p c W => ih (by omega) l b k s a g (by omega) ho p c W) t cl x g h1 h2 h3 rfl (by omega) p c W h hc
end Go.Proofs.YtlifankiljbdjaaDoor
namespace Go.Proofs.YtlifankiljbdjaaDoor
open Go Go.RowKit

theorem endF_some (m : Nat) : ∀ (l : List TkA), l.length ≤ m → ∀ (o i n : Nat), endF l ((o : Int) + 1) i = some n → ∃ x g cl r, l = x ++ cl :: r ∧ Rd x g ∧ cl.k = 2 ∧ ((o = 0 ∧ n = i + x.length + 1) ∨ (0 < o ∧ endF r (o : Int) (i + x.length + 1) = some n)) := by
  induction m with
  | zero =>
    intro l hl o i n h
    obtain rfl : l = [] := List.length_eq_zero_iff.1 (by omega)
    cases h
  | succ m ih =>
    intro l hl o i n h
    cases l with
    | nil => cases h
    | cons t r =>
      have hr : r.length ≤ m := by simp at hl; omega
      rw [endF] at h
      by_cases h2 : t.k = 2
      · rw [opn_two h2, show (o : Int) + 1 - 1 = o from by omega] at h
        refine ⟨[], .nil, t, r, rfl, .nil, h2, ?_⟩
        by_cases h0 : o = 0
        · subst h0
          rw [if_pos (show ((0 : Nat) : Int) = 0 from rfl)] at h
          injection h with h
          exact Or.inl ⟨rfl, by simp only [List.length_nil]; omega⟩
        · rw [if_neg (by omega)] at h
          exact Or.inr ⟨by omega, h⟩
      · by_cases h1 : t.k = 1
        · rw [opn_one h1, if_neg (by omega)] at h
          obtain ⟨x, g, cl, r1, rfl, hx, hc, h3⟩ := ih r hr (o + 1) (i + 1) n (by push_cast; exact h)
          rcases h3 with ⟨h3, _⟩ | ⟨_, h3⟩
          · omega
          obtain ⟨x2, g2, cl2, r2, rfl, hx2, hc2, h4⟩ := ih r1 (by simp at hr; omega) o (i + 1 + x.length + 1) n (by push_cast at h3; exact h3)
          refine ⟨t :: (x ++ cl :: x2), .cons true t.k t.s t.a g g2, cl2, r2, by simp, .list h1 hc hx hx2, hc2, ?_⟩
          have e : i + (t :: (x ++ cl :: x2)).length + 1 = i + 1 + x.length + 1 + x2.length + 1 := by simp; omega
          rw [e]; exact h4
        · rw [opn_else h1 h2, if_neg (by omega)] at h
          obtain ⟨x, g, cl, r1, rfl, hx, hc, h3⟩ := ih r hr o (i + 1) n h
          refine ⟨t :: x, .cons false t.k t.s t.a .nil g, cl, r1, rfl, .leaf h1 h2 hx, hc, ?_⟩
          have e : i + (t :: x).length + 1 = i + 1 + x.length + 1 := by simp; omega
          rw [e]; exact h3
/-- what begins at a token that closes nothing, and ends, is a tree. -/
theorem one_of {t : TkA} {r : List TkA} {i n : Nat} (h2 : t.k ≠ 2) (h : endF (t :: r) 0 i = some n) : i < n ∧ n ≤ i + (t :: r).length ∧ ∃ b k s a g, One ((t :: r).take (n - i)) b k s a g := by
  rw [endF] at h
  by_cases h1 : t.k = 1
  · rw [opn_one h1, if_neg (by omega)] at h
    obtain ⟨x, g, cl, r1, rfl, hx, hc, h3⟩ := endF_some _ r (Nat.le_refl _) 0 (i + 1) n (by simpa using h)
    rcases h3 with ⟨_, h3⟩ | ⟨h3, _⟩
    · refine ⟨by omega, by simp; omega, true, t.k, t.s, t.a, g, ?_⟩
      have e : (t :: (x ++ cl :: r1)).take (n - i) = t :: (x ++ [cl]) := by
        rw [show n - i = (t :: (x ++ [cl])).length from by simp; omega, show t :: (x ++ cl :: r1) = (t :: (x ++ [cl])) ++ r1 from by simp, List.take_left]
      rw [e]; exact .list h1 hc hx
    · omega
  · rw [opn_else h1 h2, if_pos rfl] at h
    injection h with h
    subst h
    refine ⟨by omega, by simp only [List.length_cons]; omega, false, t.k, t.s, t.a, .nil, ?_⟩
    rw [show i + 1 - i = 1 from by omega]
    exact .leaf h1 h2
theorem Rd.uniq {x : List TkA} {g : Fo} (h : Rd x g) : ∀ {g' : Fo}, Rd x g' → g' = g := by
  induction h with
  | nil => intro g' h; cases h; rfl
  | leaf h1 h2 _ ih =>
    intro g' h
    cases h with
    | leaf _ _ h => rw [ih h]
    | list h => exact absurd h h1
  | @list t c x r g f h1 h2 h3 h4 ih1 ih2 =>
    intro g' h
    generalize hL : (x ++ c :: r) = L at h
    cases h with
    | leaf h => exact absurd h1 h
    | @list _ c' x' r' g'' f'' _ h2' h3' h4' =>
      have e1 : endF (x ++ c :: r) 1 0 = some (x.length + 1) := by
        rw [endF_rd h3 _ _ _ (by omega), endF, opn_two h2, if_pos (by omega)]; simp
      have e2 : endF (x' ++ c' :: r') 1 0 = some (x'.length + 1) := by
        rw [endF_rd h3' _ _ _ (by omega), endF, opn_two h2', if_pos (by omega)]; simp
      rw [hL, e2] at e1
      have hlen : x.length = x'.length := by injection e1 with e1; omega
      obtain ⟨ex, er⟩ := List.append_inj hL hlen
      subst ex
      injection er with _ er
      subst er
      rw [ih1 h3', ih2 h4']
theorem One.uniq {l : List TkA} {b b' : Bool} {k k' : Int} {s s' : ByteArray} {a a' : Int} {g g' : Fo} (h : One l b k s a g) (h' : One l b' k' s' a' g') : b' = b ∧ k' = k ∧ s' = s ∧ a' = a ∧ g' = g := by
  cases h with
  | @leaf t h1 h2 =>
    generalize hL : [t] = L at h'
    cases h' with
    | leaf => injection hL with hL; subst hL; exact ⟨rfl, rfl, rfl, rfl, rfl⟩
    | list h => have := congrArg List.length hL; simp at this
  | @list t c x g h1 h2 h3 =>
    generalize hL : (x ++ [c]) = L at h'
    cases h' with
    | leaf h => exact absurd h1 h
    | @list _ c' x' g' _ h2' h3' =>
      have hlen : x.length = x'.length := by have := congrArg List.length hL; simp at this; exact this
      obtain ⟨ex, er⟩ := List.append_inj hL hlen
      subst ex
      exact ⟨rfl, rfl, rfl, rfl, h3.uniq h3'⟩
/-- the tree at a place: its parts, the place behind, what is wrong. -/
inductive NextO (l : List TkA) : Int → Bool → Int → ByteArray → Int → Fo → Int → Int → Prop
  | arg {z : Int} : z < 0 ∨ (l.length : Int) < z → NextO l z false 0 ⟨#[]⟩ 0 .nil z 2
  | short : NextO l (l.length : Int) false 0 ⟨#[]⟩ 0 .nil (l.length : Int) 4
  | close {i : Nat} {t : TkA} {r : List TkA} : l.drop i = t :: r → t.k = 2 → NextO l (i : Int) false 0 ⟨#[]⟩ 0 .nil (i : Int) 41
  | open {i : Nat} {t : TkA} {r : List TkA} : l.drop i = t :: r → t.k ≠ 2 → endF (t :: r) 0 i = none → NextO l (i : Int) false 0 ⟨#[]⟩ 0 .nil (l.length : Int) 4
  | deep {i n : Nat} {t : TkA} {r : List TkA} : l.drop i = t :: r → t.k ≠ 2 → endF (t :: r) 0 i = some n → 200 < mostF ((t :: r).take (n - i)) 0 0 → NextO l (i : Int) false 0 ⟨#[]⟩ 0 .nil (n : Int) 40
  | ok {i n : Nat} {t : TkA} {r : List TkA} {b : Bool} {k : Int} {s : ByteArray} {a : Int} {g : Fo} : l.drop i = t :: r → t.k ≠ 2 → endF (t :: r) 0 i = some n → ¬ 200 < mostF ((t :: r).take (n - i)) 0 0 → One ((t :: r).take (n - i)) b k s a g → NextO l (i : Int) b k s a g (n : Int) 0
end Go.Proofs.YtlifankiljbdjaaDoor
namespace Go.Proofs.YtlifankiljbdjaaDoor
open Go Go.RowKit

def NextE (l : List TkA) (z : Int) (W : World) (e : Ending) (w' : World) : Prop := ∃ (q : Option Addr) (c' : Nat) (b : Bool) (k : Int) (s : ByteArray) (a : Int) (g : Fo) (n er : Int), e = .returned (.tuple #[trV b k s a q g.len c', .int .i64 n, .int .i64 er]) ∧ g.len ≤ c' ∧ FoIn w' (fun x => W.heap.size ≤ x) g q ∧ Below W.heap.size W w' ∧ NextO l z b k s a g n er
theorem next_zero {l : List TkA} {z : Int} {W w' : World} {n er : Int} (hb : Below W.heap.size W w') (h : NextO l z false 0 ⟨#[]⟩ 0 .nil n er) : NextE l z W (.returned (.tuple #[.agg #[.bool false, .int .u8 0, .string ⟨#[]⟩, .int .i64 0, .slice none 0 0], .int .i64 n, .int .i64 er])) w' :=
  ⟨none, 0, false, 0, ⟨#[]⟩, 0, .nil, n, er, rfl, Nat.le_refl _, trivial, hb, h⟩
set_option maxRecDepth 100000 in
set_option maxHeartbeats 6400000 in
theorem next22 (p : Option Addr) (c : Nat) (l : List TkA) (z : Int) (W : World) (h1 : TksA W p l) (hc : l.length ≤ c) (hn : l.length ≤ 1048576) :
    Calls Tryd.prog 22 #[.slice p l.length c, .int .i64 z] W (NextE l z W) := by
  obtain ⟨n, hl⟩ : ∃ n, n = l.length := ⟨_, rfl⟩
  have H1 := Lib.hid h1
  have HL := Lib.hid hl
  rw [← hl] at hc hn ⊢
  clear h1 hl
  have n1 : (n : Int) ≤ 1048576 := by omega
  by_cases hz : z < 0
  · have HO := Lib.hid (NextO.arg (l := l) (z := z) (Or.inl hz))
    go_enter Tryd.func22, Tryd.ntmps22
    go_wp2_with fail
    refine bodyPost_ret (v := .tuple #[.agg #[.bool false, .int .u8 0, .string ⟨#[]⟩, .int .i64 0, .slice none 0 0], .int .i64 z, .int .i64 2]) (by simp [results, Tryd.results22, go_sem]) rfl (next_zero ?_ HO.out)
    repeat (first | exact Below.refl _ _ | refine Below.alloc ?_ (by simp) _ | refine Below.setCell ?_ (by simp) _)
  by_cases hz2 : (n : Int) < z
  · have HO := Lib.hid (NextO.arg (l := l) (z := z) (Or.inr (by rw [← HL.out]; exact hz2)))
    have hz3 : 0 ≤ z := by omega
    go_enter Tryd.func22, Tryd.ntmps22
    go_wp2_with fail
    refine bodyPost_ret (v := .tuple #[.agg #[.bool false, .int .u8 0, .string ⟨#[]⟩, .int .i64 0, .slice none 0 0], .int .i64 z, .int .i64 2]) (by simp [results, Tryd.results22, go_sem]) rfl (next_zero ?_ HO.out)
    repeat (first | exact Below.refl _ _ | refine Below.alloc ?_ (by simp) _ | refine Below.setCell ?_ (by simp) _)
  obtain ⟨i, rfl⟩ : ∃ i : Nat, z = (i : Int) := ⟨z.toNat, by omega⟩
  have hin : i ≤ n := by omega
  have z0 : (0 : Int) ≤ (i : Int) := by omega
  have z1 : (i : Int) ≤ (n : Int) := by omega
  clear hz hz2
  by_cases hiz : i = n
  · have HO := Lib.hid (show NextO l (i : Int) false 0 ⟨#[]⟩ 0 .nil (i : Int) 4 from by rw [hiz, HL.out]; exact NextO.short)
    subst hiz
    go_enter Tryd.func22, Tryd.ntmps22
    go_wp2_with fail
    refine bodyPost_ret (v := .tuple #[.agg #[.bool false, .int .u8 0, .string ⟨#[]⟩, .int .i64 0, .slice none 0 0], .int .i64 (i : Int), .int .i64 4]) (by simp [results, Tryd.results22, go_sem]) rfl (next_zero ?_ HO.out)
    repeat (first | exact Below.refl _ _ | refine Below.alloc ?_ (by simp) _ | refine Below.setCell ?_ (by simp) _)
  have hlt : i < l.length := by rw [← HL.out]; omega
  have z2 : (i : Int) < (n : Int) := by omega
  have z3 : ¬ (i : Int) = (n : Int) := by omega
  obtain ⟨b, off, rfl, x0, x1, x2⟩ := (H1.out.later (below1 W (.cells #[.bool false, .int .u8 0, .string ⟨#[]⟩, .int .i64 0, .slice none 0 0] 41))) i hlt
  have hd := drop_cons hlt
  generalize l[i] = t at *
  generalize l.drop (i + 1) = r at *
  have HD := Lib.hid hd
  clear hd hlt
  by_cases h2 : t.k = 2
  · have HO := Lib.hid (NextO.close HD.out h2)
    rw [h2] at x0
    clear h2
    go_enter Tryd.func22, Tryd.ntmps22
    go_wp2_with fail
    refine bodyPost_ret (v := .tuple #[.agg #[.bool false, .int .u8 0, .string ⟨#[]⟩, .int .i64 0, .slice none 0 0], .int .i64 (i : Int), .int .i64 41]) (by simp [results, Tryd.results22, go_sem]) rfl (next_zero ?_ HO.out)
    repeat (first | exact Below.refl _ _ | refine Below.alloc ?_ (by simp) _ | refine Below.setCell ?_ (by simp) _)
  have e2 : (t.k == 2) = false := by simp [h2]
  have HK := Lib.hid h2
  have hend := end43 (some ⟨b, off, none⟩) c i l (W.alloc (.cells #[.bool false, .int .u8 0, .string ⟨#[]⟩, .int .i64 0, .slice none 0 0] 41)) (H1.out.later (below1 _ _)) (by rw [← HL.out]; exact hc) (by rw [← HL.out]; omega) (by rw [← HL.out]; exact hin)
  rw [← HL.out, HD.out] at hend
  have HE := Lib.hid hend
  have HBX := Lib.hid (box_new W false 0 ⟨#[]⟩ 0 (.slice none 0 0))
  clear h2 hend
  go_enter Tryd.func22, Tryd.ntmps22
  go_wp2_with fail
  refine HE.out.mono ?_
  rintro e w1 ⟨rfl, hb1⟩
  clear HE
  obtain ⟨b0, b1, b2, b3, b4, bf⟩ := HBX.out.later hb1
  have HB1 := Lib.hid ((below1 W (.cells #[.bool false, .int .u8 0, .string ⟨#[]⟩, .int .i64 0, .slice none 0 0] 41)).trans (hb1.mono (by simp)))
  cases hE : endF (t :: r) 0 i with
  | none =>
    have HO := Lib.hid (NextO.open HD.out HK.out hE)
    simp only [endV]
    clear hE hb1
    go_wp2_with fail
    refine bodyPost_ret (v := .tuple #[.agg #[.bool false, .int .u8 0, .string ⟨#[]⟩, .int .i64 0, .slice none 0 0], .int .i64 (n : Int), .int .i64 4]) (by simp [results, Tryd.results22, go_sem, b0, b1, b2, b3, b4]) rfl (next_zero ?_ (by rw [HL.out]; exact HO.out))
    exact HB1.out.trans ((only_set5 w1 W.heap.size _ _ _ _ _).below (fun j hj => Nat.le_of_eq hj.symm) HB1.out.size)
  | some E =>
    obtain ⟨hiE, hEn, b', k', s', a', g', hone⟩ := one_of HK.out hE
    have hlen : (t :: r).length = n - i := by rw [← HD.out, List.length_drop, ← HL.out]
    rw [hlen] at hEn
    obtain ⟨U, hU⟩ : ∃ U, U = (t :: r).take (E - i) := ⟨_, rfl⟩
    have hUl : U.length = E - i := by rw [hU, List.length_take, hlen]; omega
    have hpc : TksA w1 (some ⟨b, off + i * 3, none⟩) U := by
      have h := (H1.out.later (HB1.out))
      have := TksA.piece (d := l.take i) (u := U) (z := (t :: r).drop (E - i)) h (by rw [hU, List.take_append_drop, ← HD.out, List.take_append_drop])
      rwa [List.length_take, ← HL.out, Nat.min_eq_left hin] at this
    have hmo := most44 (some ⟨b, off + i * 3, none⟩) (c - i) U w1 hpc (by omega) (by omega)
    have hsl := fun w => slice_tks w b off n c i E hiE (by omega) hc
    have hE2 : E ≤ n := by omega
    have e4 : (E : Int) ≤ 1048576 := by omega
    rw [← hU] at hone
    have HU := Lib.hid (And.intro hU (And.intro hUl (And.intro hone hE)))
    rw [hUl] at hmo
    have HMO := Lib.hid hmo
    have HPC := Lib.hid hpc
    have HB9 := Lib.hid hb1
    clear hlen hEn hpc hmo hU hUl hone hE hb1
    generalize hM : mostF U 0 0 = M at HMO
    have HM := Lib.hid hM
    clear hM
    simp only [endV]
    go_wp2_with fail
    refine HMO.out.mono ?_
    rintro e w2 ⟨rfl, hb2⟩
    have HB2 := Lib.hid (HB1.out.trans (hb2.mono HB1.out.size))
    have hpc2 := HPC.out.later hb2
    clear HB1 HPC b0 b1 b2 b3 b4 bf HMO
    obtain ⟨b0, b1, b2, b3, b4, bf⟩ := (HBX.out.later HB9.out).later hb2
    clear hb2
    by_cases h200 : 200 < M
    · have HO := Lib.hid (NextO.deep HD.out HK.out HU.out.2.2.2 (by rw [← HU.out.1, HM.out]; exact h200))
      go_wp2_with fail
      refine bodyPost_ret (v := .tuple #[.agg #[.bool false, .int .u8 0, .string ⟨#[]⟩, .int .i64 0, .slice none 0 0], .int .i64 (E : Int), .int .i64 40]) (by simp [results, Tryd.results22, go_sem, b0, b1, b2, b3, b4]) rfl (next_zero ?_ HO.out)
      exact HB2.out.trans ((only_set5 w2 W.heap.size _ _ _ _ _).below (fun j hj => Nat.le_of_eq hj.symm) HB2.out.size)
    · have HO := Lib.hid (NextO.ok HD.out HK.out HU.out.2.2.2 (by rw [← HU.out.1, HM.out]; exact h200) (by rw [← HU.out.1]; exact HU.out.2.2.1))
      have htr := tree_any (E - i) (by omega) U b' k' s' a' g' (Nat.le_of_eq HU.out.2.1) HU.out.2.2.1 (some ⟨b, off + i * 3, none⟩) (c - i) w2 hpc2 (by have := HU.out.2.1; omega)
      unfold TreeP trV at htr
      rw [HU.out.2.1] at htr
      have HTR := Lib.hid htr
      have HB8 := Lib.hid (box_new W false 0 ⟨#[]⟩ 0 (.slice none 0 0))
      have HBB := Lib.hid (show BoxT w2 W.heap.size false 0 ⟨#[]⟩ 0 (.slice none 0 0) from ⟨b0, b1, b2, b3, b4, bf⟩)
      clear htr hpc2 b0 b1 b2 b3 b4 bf
      go_wp2_with fail
      refine HTR.out.mono ?_
      rintro e w3 ⟨q3, c3, rfl, hq1, hq2, hb3⟩
      obtain ⟨b0, b1, b2, b3, b4, bf⟩ := HBB.out.later hb3
      have HB3 := Lib.hid (HB2.out.trans (hb3.mono HB2.out.size))
      have HQ := Lib.hid (And.intro hq1 (And.intro (show FoIn w3 (fun z => W.heap.size + 1 ≤ z) g' q3 from hq2.mono (fun z hz _ => by have := HBB.out.lt; have : w2.heap.size ≤ z := hz; omega)) hb3))
      clear hq1 hq2 hb3
      go_wp2_with fail
      refine bodyPost_ret (v := .tuple #[trV b' k' s' a' q3 g'.len c3, .int .i64 (E : Int), .int .i64 0]) (by simp [results, Tryd.results22, go_sem, b0, b1, b2, b3, b4, trV]) rfl ⟨q3, c3, b', k', s', a', g', _, _, rfl, HQ.out.1, ?_, ?_, HO.out⟩
      · exact (HQ.out.2.1.only (only_set5 w3 W.heap.size _ _ _ _ _) (fun z hz e => by omega)).mono (fun z hz _ => by omega)
      · exact HB3.out.trans ((only_set5 w3 W.heap.size _ _ _ _ _).below (fun j hj => Nat.le_of_eq hj.symm) HB3.out.size)
end Go.Proofs.YtlifankiljbdjaaDoor
namespace Go.Proofs.YtlifankiljbdjaaDoor
open Go Go.RowKit

set_option maxRecDepth 100000 in
set_option maxHeartbeats 6400000 in
theorem same26 (x x' : Fo) (q q' : Option Addr) (c c' : Nat) (W : World) (F F' : Nat → Prop) (hx : FoIn W F x q) (hx' : FoIn W F' x' q') (hc : x.len ≤ c) (hc' : x'.len ≤ c') (hn : x.len ≤ 281474976710656) (hn' : x'.len ≤ 281474976710656) :
    Calls Tryd.prog 26 #[.slice q x.len c, .slice q' x'.len c'] W fun e w' => e = .returned (.bool (decide (x.len = x'.len) && sameF x x')) ∧ Below W.heap.size W w' := by
  by_cases hlen : x.len = x'.len
  case neg =>
    have hR : (decide (x.len = x'.len) && sameF x x') = false := by simp [hlen]
    rw [hR]
    have h5 : ((x.len : Int) != (x'.len : Int)) = true := by simp; omega
    have i1 : (x.len : Int) ≤ 281474976710656 := by omega
    have i2 : (x'.len : Int) ≤ 281474976710656 := by omega
    clear hx hx' hR
    generalize x.len = n at *
    generalize x'.len = n' at *
    go_enter Tryd.func26, Tryd.ntmps26
    go_wp2_with fail
    go_ret
    exact ⟨rfl, Below.refl _ _⟩
  have hS : (decide (x.len = x'.len) && sameF x x') = sameF x x' := by simp [hlen]
  rw [hS, ← hlen]
  clear hS
  rw [← hlen] at hc'
  obtain ⟨N, hN⟩ : ∃ N, N = x.len := ⟨_, rfl⟩
  rw [← hN] at hlen hc hc' hn ⊢
  obtain ⟨R, hR⟩ : ∃ R, R = sameF x x' := ⟨_, rfl⟩
  rw [← hR]
  have i1 : (N : Int) ≤ 281474976710656 := by omega
  have HX := Lib.hid (And.intro hx hx')
  have HI := Lib.hid (show (N = x.len ∧ x'.len = x.len ∧ R = sameF x x') from ⟨hN, by omega, hR⟩)
  clear hx hx' hN hlen hR
  go_enter Tryd.func26, Tryd.ntmps26
  go_wp2_with fail
  go_loopg [5] N (fun gk s5 wx => ∃ (i : Nat) (f f' : Fo), i + gk = N ∧ s5 = .int .i64 (i : Int) ∧ Hid (f.len = gk ∧ f'.len = gk ∧ R = sameF f f' ∧ FoIn wx F f (pl q i) ∧ FoIn wx F' f' (pl q' i) ∧ Below W.heap.size W wx))
  case atStart =>
    exact ⟨0, x, x', by omega, rfl, Lib.hid ⟨HI.out.1.symm, by rw [HI.out.2.1]; exact HI.out.1.symm, HI.out.2.2, pl_zero HX.out.1, pl_zero HX.out.2, Below.refl _ _⟩⟩
  case round =>
    obtain ⟨i, f, f', hk, rfl, HK⟩ := hrel
    have HG := Lib.hid hk
    have hi2 : i ≤ N := by omega
    clear hk
    obtain ⟨wA, hwA⟩ : ∃ w, w = wr := ⟨_, rfl⟩
    subst hwA
    have i2 : (i : Int) ≤ (N : Int) := by omega
    by_cases hlt : i < N
    · obtain ⟨G, rfl⟩ : ∃ G, gk = G + 1 := ⟨gk - 1, by have := HG.out; omega⟩
      have i0 : (0 : Int) ≤ (i : Int) := by omega
      have i3 : (i : Int) < (N : Int) := by omega
      obtain ⟨hf, hf', hR, hx, hx', hb⟩ := HK.out
      obtain ⟨b, off, rfl⟩ : ∃ b off, q = some ⟨b, off, none⟩ := HX.out.1.some (by rw [← HI.out.1]; omega)
      obtain ⟨b2, off2, rfl⟩ : ∃ b off, q' = some ⟨b, off, none⟩ := HX.out.2.some (by rw [HI.out.2.1, ← HI.out.1]; omega)
      cases f with
      | nil => simp [Fo.len] at hf
      | cons l1 k1 s1 a1 x1 r1 =>
        cases f' with
        | nil => simp [Fo.len] at hf'
        | cons l2 k2 s2 a2 x2 r2 =>
          obtain ⟨_, e0, e1, e2, e3, ⟨q3, cc3, e4, hc3, hm3, hx3⟩, hr3⟩ := hx.head
          obtain ⟨_, g0, g1, g2, g3, ⟨q4, cc4, g4, hc4, hm4, hx4⟩, hr4⟩ := hx'.head
          have hC := fun w' (h : Below wA.heap.size wA w') => same23_any x1.size x1 x2 (Nat.le_refl _) l1 l2 k1 k2 s1 s2 a1 a2 q3 q4 cc3 cc4 w' F F' (hx3.later h) (hx4.later h) hc3 hc4 hm3 hm4
          have HS := Lib.hid (show (r1.len = G ∧ r2.len = G ∧ R = (sameT l1 k1 s1 x1 l2 k2 s2 x2 && sameF r1 r2)) from ⟨by simpa [Fo.len] using hf, by simpa [Fo.len] using hf', hR⟩)
          generalize x1.len = n3 at *
          generalize x2.len = n4 at *
          generalize sameT l1 k1 s1 x1 l2 k2 s2 x2 = r at *
          have hkp : ∀ w', Below wA.heap.size wA w' → (Below wA.heap.size wA w' ∧ w'.cell? ⟨b, off + i * 5, none⟩ = some (.bool l1) ∧ w'.cell? ⟨b, off + i * 5 + 1, none⟩ = some (.int .u8 k1) ∧ w'.cell? ⟨b, off + i * 5 + 2, none⟩ = some (.string s1) ∧ w'.cell? ⟨b, off + i * 5 + 3, none⟩ = some (.int .i64 a1) ∧ w'.cell? ⟨b, off + i * 5 + 4, none⟩ = some (.slice q3 n3 cc3) ∧ w'.cell? ⟨b2, off2 + i * 5, none⟩ = some (.bool l2) ∧ w'.cell? ⟨b2, off2 + i * 5 + 1, none⟩ = some (.int .u8 k2) ∧ w'.cell? ⟨b2, off2 + i * 5 + 2, none⟩ = some (.string s2) ∧ w'.cell? ⟨b2, off2 + i * 5 + 3, none⟩ = some (.int .i64 a2) ∧ w'.cell? ⟨b2, off2 + i * 5 + 4, none⟩ = some (.slice q4 n4 cc4)) := fun w' h => ⟨h, cell_later h e0, cell_later h e1, cell_later h e2, cell_later h e3, cell_later h e4, cell_later h g0, cell_later h g1, cell_later h g2, cell_later h g3, cell_later h g4⟩
          have hcc : ∀ w', (Below wA.heap.size wA w' ∧ w'.cell? ⟨b, off + i * 5, none⟩ = some (.bool l1) ∧ w'.cell? ⟨b, off + i * 5 + 1, none⟩ = some (.int .u8 k1) ∧ w'.cell? ⟨b, off + i * 5 + 2, none⟩ = some (.string s1) ∧ w'.cell? ⟨b, off + i * 5 + 3, none⟩ = some (.int .i64 a1) ∧ w'.cell? ⟨b, off + i * 5 + 4, none⟩ = some (.slice q3 n3 cc3) ∧ w'.cell? ⟨b2, off2 + i * 5, none⟩ = some (.bool l2) ∧ w'.cell? ⟨b2, off2 + i * 5 + 1, none⟩ = some (.int .u8 k2) ∧ w'.cell? ⟨b2, off2 + i * 5 + 2, none⟩ = some (.string s2) ∧ w'.cell? ⟨b2, off2 + i * 5 + 3, none⟩ = some (.int .i64 a2) ∧ w'.cell? ⟨b2, off2 + i * 5 + 4, none⟩ = some (.slice q4 n4 cc4)) → Calls Tryd.prog 23 #[trV l1 k1 s1 a1 q3 n3 cc3, trV l2 k2 s2 a2 q4 n4 cc4] w' fun e w'' => e = .returned (.bool r) ∧ (Below wA.heap.size wA w'' ∧ w''.cell? ⟨b, off + i * 5, none⟩ = some (.bool l1) ∧ w''.cell? ⟨b, off + i * 5 + 1, none⟩ = some (.int .u8 k1) ∧ w''.cell? ⟨b, off + i * 5 + 2, none⟩ = some (.string s1) ∧ w''.cell? ⟨b, off + i * 5 + 3, none⟩ = some (.int .i64 a1) ∧ w''.cell? ⟨b, off + i * 5 + 4, none⟩ = some (.slice q3 n3 cc3) ∧ w''.cell? ⟨b2, off2 + i * 5, none⟩ = some (.bool l2) ∧ w''.cell? ⟨b2, off2 + i * 5 + 1, none⟩ = some (.int .u8 k2) ∧ w''.cell? ⟨b2, off2 + i * 5 + 2, none⟩ = some (.string s2) ∧ w''.cell? ⟨b2, off2 + i * 5 + 3, none⟩ = some (.int .i64 a2) ∧ w''.cell? ⟨b2, off2 + i * 5 + 4, none⟩ = some (.slice q4 n4 cc4)) := fun w' h => (hC w' h.1).mono fun e w'' h2 => ⟨h2.1, hkp w'' (h.1.trans (h2.2.mono h.1.size))⟩
          unfold trV at hcc
          have HKP := Lib.hid hkp
          have HCC := Lib.hid hcc
          have HR := Lib.hid (And.intro hr3 hr4)
          have HBB := Lib.hid hb
          clear hf hf' hR hx hx' hb hx3 hr3 hx4 hr4 hc3 hc4 hm3 hm4 hC hkp hcc HK e0 e1 e2 e3 e4 g0 g1 g2 g3 g4
          go_wp2_with fail
          go_region_held3 (fun w' => Below wA.heap.size wA w' ∧ w'.cell? ⟨b, off + i * 5, none⟩ = some (.bool l1) ∧ w'.cell? ⟨b, off + i * 5 + 1, none⟩ = some (.int .u8 k1) ∧ w'.cell? ⟨b, off + i * 5 + 2, none⟩ = some (.string s1) ∧ w'.cell? ⟨b, off + i * 5 + 3, none⟩ = some (.int .i64 a1) ∧ w'.cell? ⟨b, off + i * 5 + 4, none⟩ = some (.slice q3 n3 cc3) ∧ w'.cell? ⟨b2, off2 + i * 5, none⟩ = some (.bool l2) ∧ w'.cell? ⟨b2, off2 + i * 5 + 1, none⟩ = some (.int .u8 k2) ∧ w'.cell? ⟨b2, off2 + i * 5 + 2, none⟩ = some (.string s2) ∧ w'.cell? ⟨b2, off2 + i * 5 + 3, none⟩ = some (.int .i64 a2) ∧ w'.cell? ⟨b2, off2 + i * 5 + 4, none⟩ = some (.slice q4 n4 cc4)) (first | exact HKP.out _ (below_drew _) | exact HKP.out _ (Below.refl _ _) | assumption) (first | (go_at_call 23; refine (HCC.out _ (by assumption)).mono ?_; rintro e w' ⟨rfl, hs⟩))
          have HW := Lib.hid hs.1
          clear hs
          cases r with
          | false =>
            go_wp2_with fail
            go_ret
            refine ⟨by rw [HS.out.2.2]; rfl, ?_⟩
            exact HBB.out.trans (HW.out.mono HBB.out.size)
          | true =>
            go_wp2_with fail
            go_roundg G
            case measure => omega
            case rel =>
              obtain ⟨i', hi'⟩ : ∃ i', i' = i + 1 := ⟨_, rfl⟩
              refine ⟨i', r1, r2, by have := HG.out; omega, by rw [hi']; go_num, Lib.hid ⟨HS.out.1, HS.out.2.1, by rw [HS.out.2.2]; rfl, ?_, ?_, HBB.out.trans (HW.out.mono HBB.out.size)⟩⟩
              · rw [hi']; exact HR.out.1.later HW.out
              · rw [hi']; exact HR.out.2.later HW.out
    · obtain rfl : i = N := by omega
      obtain rfl : gk = 0 := by have := HG.out; omega
      obtain ⟨hf, hf', hR, -, -, hb⟩ := HK.out
      have hR2 : R = true := by
        cases f with
        | cons => simp [Fo.len] at hf
        | nil => cases f' with
          | cons => simp [Fo.len] at hf'
          | nil => exact hR
      have HBB := Lib.hid hb
      clear hf hf' hR hb
      subst hR2
      go_wp2_with fail
      go_ret
      exact ⟨rfl, HBB.out⟩
end Go.Proofs.YtlifankiljbdjaaDoor
namespace Go.Proofs.YtlifankiljbdjaaDoor
open Go Go.RowKit

theorem StAt.drop {W : World} {K : Nat → Nat} {base n : Nat} {v : Value} {st : List Op} {o : Op} {xs : List Value} (h : StAt W K base v n (st ++ [o])) (hx : W.ownsRow base 41 5 v n xs) (hl : ∀ j (h : j < (st ++ [o]).length), LvAt W K base xs j (st ++ [o])[j]) :
    ∃ (K' : Nat → Nat) (q : Option Addr) (c : Nat), StAt W K' base v n st ∧ (∀ j (h : j < st.length), LvAt W K' base xs j st[j]) ∧ o.f.len ≤ c ∧ FoIn W (fun b => base ≤ b ∧ K' b = 0) o.f q ∧ (∀ b, K b = 0 → K' b = 0) ∧
      xs[st.length * 5]? = some (.bool true) ∧ xs[st.length * 5 + 1]? = some (.int .u8 1) ∧ xs[st.length * 5 + 2]? = some (.string o.s) ∧ xs[st.length * 5 + 3]? = some (.int .i64 o.a) ∧ xs[st.length * 5 + 4]? = some (.slice q o.f.len c) := by
  have hlast := hl st.length (by simp)
  have e : (st ++ [o])[st.length]'(by simp) = o := by simp
  rw [e] at hlast
  obtain ⟨q, c, ys, h0, h1, h2, h3, h4, h5, h6, h7⟩ := hlast
  have hlv : ∀ j (h : j < st.length), LvAt W (fun b => if (Value.slice q o.f.len c).ownBlock = some b then 0 else K b) base xs j st[j] := fun j hj => by
    have hjl := hl j (by simp; omega)
    rw [List.getElem_append_left hj] at hjl
    refine hjl.move (T := fun _ => False) (Only.refl _ _) (fun _ _ h => h.elim) (fun b _ hb => ?_) (fun b _ hb => ?_) (fun _ _ => rfl)
    · show (if _ then _ else _) = 0
      split
      · rfl
      · exact hb
    · show (if _ then _ else _) = j + 2
      rw [if_neg (fun e => by have := h7 b e; omega)]
      exact hb
  refine ⟨fun b => if (Value.slice q o.f.len c).ownBlock = some b then 0 else K b, q, c, ⟨⟨xs, hx, hlv⟩, by have := h.le; simp at this; omega, fun g hg => ?_, fun b hb => ?_, h.lo⟩, hlv, own_cap h5, ?_, fun b hb => ?_, h0, h1, h2, h3, h4⟩
  · show (if _ then _ else _) = 1
    rw [if_neg (fun e => by have h8 := h7 g e; have h9 := h.tag g hg; omega)]
    exact h.tag g hg
  · show (if _ then _ else _) = 0
    split
    · rfl
    · exact h.fr b hb
  · cases hf : o.f with
    | nil => trivial
    | cons l k s a x r =>
      rw [hf] at h5 h6 h7
      obtain ⟨g, rfl⟩ : ∃ g, q = some ⟨g, 0, none⟩ := by
        rcases h5.2 with ⟨e, _⟩ | ⟨g, _, _, e, _⟩
        · injection e with _ e2 _; simp [Fo.len] at e2
        · injection e with e2 _ _; exact ⟨g, e2⟩
      have hg := own_lt h5 (k := g) rfl
      refine RowF.foIn (g := g) ⟨hg.1, ?_⟩ (fun b hb => ⟨hb.1, ?_⟩) _ ys 0 h6 (fun j u hu => by rw [Nat.zero_add]; exact (own_cell5 h5 j u hu).1)
      · show (if _ then _ else _) = 0
        exact if_pos rfl
      · show (if _ then _ else _) = 0
        split
        · rfl
        · exact hb.2
  · show (if _ then _ else _) = 0
    split
    · rfl
    · exact hb
theorem StAt.cut {W : World} {K : Nat → Nat} {base n k g7 c7 : Nat} {st : List Op} (h : StAt W K base (.slice (some ⟨g7, 0, none⟩) n c7) n st) (hk : k ≤ n) (hs : st.length ≤ k) : StAt W K base (.slice (some ⟨g7, 0, none⟩) k c7) k st := by
  obtain ⟨xs, h1, h2⟩ := h.row
  refine ⟨⟨xs.take (k * 5), own_cutN h1 hk, fun j hj => (h2 j hj).move (T := fun _ => False) (Only.refl _ _) (fun _ _ h => h.elim) (fun _ _ h => h) (fun _ _ h => h) (fun i hi => by rw [List.getElem?_take_of_lt (by omega)])⟩, hs, h.tag, h.fr, h.lo⟩
theorem last5 {ys : List Value} {n : Nat} (h : ys.length = n * 5) (z0 z1 z2 z3 z4 v0 v1 v2 v3 v4 : Value) : (((((ys ++ [z0, z1, z2, z3, z4]).set (n * 5) v0).set (n * 5 + 1) v1).set (n * 5 + 2) v2).set (n * 5 + 3) v3).set (n * 5 + 4) v4 = ys ++ [v0, v1, v2, v3, v4] := by
  rw [← h]
  simp [List.set_append_right]
theorem own_last5 {w : World} {base n c g : Nat} {ys : List Value} {z0 z1 z2 z3 z4 : Value} (h : w.ownsRow base 41 5 (.slice (some ⟨g, 0, none⟩) (n + 1) c) (n + 1) (ys ++ [z0, z1, z2, z3, z4])) (hy : ys.length = n * 5) (v0 v1 v2 v3 v4 : Value) :
    (((((w.setCell ⟨g, n * 5, none⟩ v0).setCell ⟨g, n * 5 + 1, none⟩ v1).setCell ⟨g, n * 5 + 2, none⟩ v2).setCell ⟨g, n * 5 + 3, none⟩ v3).setCell ⟨g, n * 5 + 4, none⟩ v4).ownsRow base 41 5 (.slice (some ⟨g, 0, none⟩) (n + 1) c) (n + 1) (ys ++ [v0, v1, v2, v3, v4]) := by
  have := own_setN (own_setN (own_setN (own_setN (own_setN h (n * 5) v0) (n * 5 + 1) v1) (n * 5 + 2) v2) (n * 5 + 3) v3) (n * 5 + 4) v4
  rwa [last5 hy] at this
theorem only_set5' (w : World) (b o0 o1 o2 o3 o4 : Nat) (v0 v1 v2 v3 v4 : Value) : Only (fun k => k = b) w (((((w.setCell ⟨b, o0, none⟩ v0).setCell ⟨b, o1, none⟩ v1).setCell ⟨b, o2, none⟩ v2).setCell ⟨b, o3, none⟩ v3).setCell ⟨b, o4, none⟩ v4) :=
  ((((Only.of_setCell w ⟨b, o0, none⟩ v0).trans (Only.of_setCell _ ⟨b, o1, none⟩ v1)).trans (Only.of_setCell _ ⟨b, o2, none⟩ v2)).trans (Only.of_setCell _ ⟨b, o3, none⟩ v3)).trans (Only.of_setCell _ ⟨b, o4, none⟩ v4)
/-- the new tree is stored first, then the list's slice. -/
theorem sets_ab {w : World} {base n c g g7 n7 c7 i : Nat} {ys xs : List Value} {z0 z1 z2 z3 z4 : Value} (h : w.ownsRow base 41 5 (.slice (some ⟨g, 0, none⟩) (n + 1) c) (n + 1) (ys ++ [z0, z1, z2, z3, z4])) (hy : ys.length = n * 5) (h7 : w.ownsRow base 41 5 (.slice (some ⟨g7, 0, none⟩) n7 c7) n7 xs) (hne : g ≠ g7) (v0 v1 v2 v3 v4 u : Value) :
    ((((((w.setCell ⟨g, n * 5, none⟩ v0).setCell ⟨g, n * 5 + 1, none⟩ v1).setCell ⟨g, n * 5 + 2, none⟩ v2).setCell ⟨g, n * 5 + 3, none⟩ v3).setCell ⟨g, n * 5 + 4, none⟩ v4).setCell ⟨g7, i, none⟩ u).ownsRow base 41 5 (.slice (some ⟨g, 0, none⟩) (n + 1) c) (n + 1) (ys ++ [v0, v1, v2, v3, v4]) ∧
    ((((((w.setCell ⟨g, n * 5, none⟩ v0).setCell ⟨g, n * 5 + 1, none⟩ v1).setCell ⟨g, n * 5 + 2, none⟩ v2).setCell ⟨g, n * 5 + 3, none⟩ v3).setCell ⟨g, n * 5 + 4, none⟩ v4).setCell ⟨g7, i, none⟩ u).ownsRow base 41 5 (.slice (some ⟨g7, 0, none⟩) n7 c7) n7 (xs.set i u) ∧
    Only (fun b => b = g ∨ b = g7) w ((((((w.setCell ⟨g, n * 5, none⟩ v0).setCell ⟨g, n * 5 + 1, none⟩ v1).setCell ⟨g, n * 5 + 2, none⟩ v2).setCell ⟨g, n * 5 + 3, none⟩ v3).setCell ⟨g, n * 5 + 4, none⟩ v4).setCell ⟨g7, i, none⟩ u) := by
  have ho := only_set5' w g (n * 5) (n * 5 + 1) (n * 5 + 2) (n * 5 + 3) (n * 5 + 4) v0 v1 v2 v3 v4
  have h1 := own_last5 h hy v0 v1 v2 v3 v4
  have h2 := own_only h7 ho (fun k hk e => by injection hk with hk; exact hne (e.symm.trans hk.symm))
  generalize ((((w.setCell ⟨g, n * 5, none⟩ v0).setCell ⟨g, n * 5 + 1, none⟩ v1).setCell ⟨g, n * 5 + 2, none⟩ v2).setCell ⟨g, n * 5 + 3, none⟩ v3).setCell ⟨g, n * 5 + 4, none⟩ v4 = w2 at *
  have ho2 := Only.of_setCell w2 ⟨g7, i, none⟩ u
  refine ⟨own_only h1 ho2 (fun k hk e => by injection hk with hk; exact hne (hk.trans e)), own_setN h2 i u, (ho.mono (fun k _ e => Or.inl e)).trans (ho2.mono (fun k _ e => Or.inr e))⟩
/-- the list's slice is stored first, then the new tree. -/
theorem sets_ba {w : World} {base n c g g7 n7 c7 i : Nat} {ys xs : List Value} {z0 z1 z2 z3 z4 : Value} (h : w.ownsRow base 41 5 (.slice (some ⟨g, 0, none⟩) (n + 1) c) (n + 1) (ys ++ [z0, z1, z2, z3, z4])) (hy : ys.length = n * 5) (h7 : w.ownsRow base 41 5 (.slice (some ⟨g7, 0, none⟩) n7 c7) n7 xs) (hne : g ≠ g7) (v0 v1 v2 v3 v4 u : Value) :
    ((((((w.setCell ⟨g7, i, none⟩ u).setCell ⟨g, n * 5, none⟩ v0).setCell ⟨g, n * 5 + 1, none⟩ v1).setCell ⟨g, n * 5 + 2, none⟩ v2).setCell ⟨g, n * 5 + 3, none⟩ v3).setCell ⟨g, n * 5 + 4, none⟩ v4).ownsRow base 41 5 (.slice (some ⟨g, 0, none⟩) (n + 1) c) (n + 1) (ys ++ [v0, v1, v2, v3, v4]) ∧
    ((((((w.setCell ⟨g7, i, none⟩ u).setCell ⟨g, n * 5, none⟩ v0).setCell ⟨g, n * 5 + 1, none⟩ v1).setCell ⟨g, n * 5 + 2, none⟩ v2).setCell ⟨g, n * 5 + 3, none⟩ v3).setCell ⟨g, n * 5 + 4, none⟩ v4).ownsRow base 41 5 (.slice (some ⟨g7, 0, none⟩) n7 c7) n7 (xs.set i u) ∧
    Only (fun b => b = g ∨ b = g7) w ((((((w.setCell ⟨g7, i, none⟩ u).setCell ⟨g, n * 5, none⟩ v0).setCell ⟨g, n * 5 + 1, none⟩ v1).setCell ⟨g, n * 5 + 2, none⟩ v2).setCell ⟨g, n * 5 + 3, none⟩ v3).setCell ⟨g, n * 5 + 4, none⟩ v4) := by
  have ho2 := Only.of_setCell w ⟨g7, i, none⟩ u
  have h1 := own_setN h7 i u
  have h2 := own_only h ho2 (fun k hk e => by injection hk with hk; exact hne (hk.trans e))
  generalize w.setCell ⟨g7, i, none⟩ u = w2 at *
  have ho := only_set5' w2 g (n * 5) (n * 5 + 1) (n * 5 + 2) (n * 5 + 3) (n * 5 + 4) v0 v1 v2 v3 v4
  exact ⟨own_last5 h2 hy v0 v1 v2 v3 v4, own_only h1 ho (fun k hk e => by injection hk with hk; exact hne (e.symm.trans hk.symm)), (ho2.mono (fun k _ e => Or.inr e)).trans (ho.mono (fun k _ e => Or.inl e))⟩
theorem slice_cut39 (W : World) (g n c k : Nat) (h0 : 0 < k) (h1 : k ≤ n) (h2 : n ≤ c) :
    (Instr.slice 39 (.slice (some ⟨g, 0, none⟩) n c) none (some (.int .i64 (k : Int))) none).run Tryd.prog W = .ok (.slice (some ⟨g, 0, none⟩) k c) W := by
  obtain ⟨i5, hi5, _, hs5, _⟩ := info41
  have e1 : (0 : Int) ≤ (k : Int) := by omega
  have e3 : (k : Int) ≤ (c : Int) := by omega
  have e5 : k ≤ c := by omega
  have e6 : ¬ c = 0 := by omega
  simp [Instr.slice, run_underlying Tryd.underlying39, Instr.sliceBounds, Instr.sliceBound, asIntOf, sizeOf, typeInfo, hi5, hs5, e1, e3, e5, e6, h1, sliced, Addr.add]
end Go.Proofs.YtlifankiljbdjaaDoor
namespace Go.Proofs.YtlifankiljbdjaaDoor
open Go Go.RowKit

theorem Rd.app {x : List TkA} {f : Fo} (h : Rd x f) {y : List TkA} {g : Fo} (h' : Rd y g) : Rd (x ++ y) (f.app g) := by
  induction h with
  | nil => exact h'
  | leaf h1 h2 _ ih => exact .leaf h1 h2 ih
  | list h1 h2 h3 _ _ ih =>
    have := Rd.list h1 h2 h3 ih
    simpa [Fo.app] using this
theorem snoc_eq (l : Bool) (k : Int) (s : ByteArray) (a : Int) (x : Fo) : ∀ f : Fo, f.snoc l k s a x = f.app (.cons l k s a x .nil)
  | .nil => rfl
  | .cons _ _ _ _ _ r => by simp only [Fo.snoc, Fo.app, snoc_eq l k s a x r]
/-- the tokens of the lists that are still open. -/
inductive OpenS : List TkA → List Op → Prop
  | nil : OpenS [] []
  | push {pre seg : List TkA} {st : List Op} {t : TkA} {f : Fo} : OpenS pre st → t.k = 1 → Rd seg f → OpenS (pre ++ t :: seg) (st ++ [⟨t.s, t.a, f⟩])
theorem snoc_inj {α : Type} {a b : List α} {x y : α} (h : a ++ [x] = b ++ [y]) : a = b ∧ x = y := by
  have := List.append_inj' h rfl
  exact ⟨this.1, by simpa using this.2⟩
theorem OpenS.last {pre : List TkA} {st : List Op} {o : Op} (h : OpenS pre (st ++ [o])) : ∃ p t seg, pre = p ++ t :: seg ∧ OpenS p st ∧ t.k = 1 ∧ Rd seg o.f ∧ o.s = t.s ∧ o.a = t.a := by
  generalize hS : st ++ [o] = S at h
  cases h with
  | nil => exact absurd hS (by simp)
  | @push p seg st' t f h1 h2 h3 =>
    obtain ⟨rfl, rfl⟩ := snoc_inj hS
    exact ⟨p, t, seg, rfl, h1, h2, h3, rfl, rfl⟩
theorem OpenS.leaf {pre : List TkA} {st : List Op} {o : Op} {t : TkA} (h : OpenS pre (st ++ [o])) (h1 : t.k ≠ 1) (h2 : t.k ≠ 2) : OpenS (pre ++ [t]) (st ++ [⟨o.s, o.a, o.f.snoc false t.k t.s t.a .nil⟩]) := by
  obtain ⟨p, t0, seg, rfl, h3, h4, h5, h6, h7⟩ := h.last
  have := OpenS.push h3 h4 (h5.app (.leaf h1 h2 .nil))
  rw [snoc_eq, h6, h7]
  simpa using this
theorem OpenS.close {pre : List TkA} {st : List Op} {o1 o2 : Op} {t : TkA} (h : OpenS pre (st ++ [o1] ++ [o2])) (h2 : t.k = 2) : OpenS (pre ++ [t]) (st ++ [⟨o1.s, o1.a, o1.f.snoc true 1 o2.s o2.a o2.f⟩]) := by
  obtain ⟨p, t2, seg2, rfl, h3, h4, h5, h6, h7⟩ := h.last
  obtain ⟨p1, t1, seg1, rfl, h8, h9, h10, h11, h12⟩ := h3.last
  have hl := Rd.list h4 h2 h5 .nil
  have := OpenS.push h8 h9 (h10.app hl)
  rw [h4, ← h6, ← h7, ← h11, ← h12] at this
  rw [snoc_eq]
  simpa using this
theorem OpenS.open {pre : List TkA} {st : List Op} {t : TkA} (h : OpenS pre st) (h1 : t.k = 1) : OpenS (pre ++ [t]) (st ++ [⟨t.s, t.a, .nil⟩]) := h.push h1 .nil
theorem OpenS.one {pre : List TkA} {o : Op} {t : TkA} (h : OpenS pre [o]) (h2 : t.k = 2) : One (pre ++ [t]) true 1 o.s o.a o.f := by
  obtain ⟨p, t1, seg, rfl, h3, h4, h5, h6, h7⟩ := OpenS.last (st := []) h
  have hp : p = [] := by
    generalize hz : ([] : List Op) = z at h3
    cases h3 with
    | nil => rfl
    | push => exact absurd hz (by simp)
  subst hp
  have := One.list h4 h2 h5
  rw [h4, ← h6, ← h7] at this
  simpa using this
/-- where the list's reading stands: at i, d lists are open, at most m were. -/
structure ListI (l : List TkA) (from_ i d m : Nat) (st : List Op) : Prop where
  le : from_ ≤ i
  il : i ≤ l.length
  dm : d ≤ m
  di : d ≤ i
  mi : m ≤ i
  d0 : d = 0 → i = from_
  len : st.length = min d 200
  kids : ∀ o ∈ st, o.f.len ≤ i
  ends : endF (l.drop from_) 0 from_ = endF (l.drop i) (d : Int) i
  most : ∀ u, mostF ((l.drop from_).take (i - from_) ++ u) 0 0 = mostF u (d : Int) (m : Int)
  segs : m ≤ 200 → OpenS ((l.drop from_).take (i - from_)) st
theorem take_next {l : List TkA} {from_ i : Nat} (h1 : from_ ≤ i) (h2 : i < l.length) : (l.drop from_).take (i + 1 - from_) = (l.drop from_).take (i - from_) ++ [l[i]] := by
  have h : (l.drop from_).take (i - from_ + 1) = (l.drop from_).take (i - from_) ++ [(l.drop from_)[i - from_]'(by simp; omega)] := by
    rw [List.take_append_getElem]
  rw [show i + 1 - from_ = i - from_ + 1 from by omega, h]
  congr 2
  simp only [List.getElem_drop]
  congr 1; omega
theorem ListI.start {l : List TkA} {from_ : Nat} (h : from_ ≤ l.length) (h0 : from_ = from_) : ListI l from_ from_ 0 0 [] :=
  ⟨Nat.le_refl _, h, Nat.le_refl _, Nat.zero_le _, Nat.zero_le _, fun _ => rfl, rfl, fun _ h => absurd h (by simp), rfl, fun u => by simp, fun _ => by simp; exact .nil⟩
theorem ListI.open {l : List TkA} {from_ i d m : Nat} {st st' : List Op} (h : ListI l from_ i d m st) (hi : i < l.length) (h1 : (l[i]).k = 1) (hst : st' = if d + 1 ≤ 200 then st ++ [⟨(l[i]).s, (l[i]).a, .nil⟩] else st) : ListI l from_ (i + 1) (d + 1) (max m (d + 1)) st' := by
  have hle := h.le
  refine ⟨by omega, by omega, Nat.le_max_right _ _, by have := h.di; omega, by have := h.mi; have := h.di; omega, by omega, ?_, ?_, ?_, ?_, ?_⟩
  · rw [hst]; have := h.len
    split
    · simp; omega
    · omega
  · rw [hst]; intro o ho
    split at ho
    · rcases List.mem_append.1 ho with ho | ho
      · have := h.kids o ho; omega
      · simp at ho; subst ho; exact Nat.zero_le _
    · have := h.kids o ho; omega
  · rw [h.ends, drop_cons hi, endF, opn_one h1, if_neg (by omega)]; rfl
  · intro u
    rw [take_next hle hi, List.append_assoc, h.most, List.singleton_append, mostF, opn_one h1]
    simp only [h1, if_true]
    congr 1
    split <;> omega
  · intro hm
    have hd : d + 1 ≤ 200 := by omega
    rw [hst, if_pos hd, take_next hle hi]
    exact (h.segs (by omega)).open h1
theorem ListI.leaf {l : List TkA} {from_ i d m : Nat} {st st' : List Op} (h : ListI l from_ i d m st) (hi : i < l.length) (h1 : (l[i]).k ≠ 1) (h2 : (l[i]).k ≠ 2) (hd : 0 < d) (hl : st'.length = st.length) (hk : ∀ o ∈ st', o.f.len ≤ i + 1)
    (hst : m ≤ 200 → ∃ st0 o, st = st0 ++ [o] ∧ st' = st0 ++ [⟨o.s, o.a, o.f.snoc false (l[i]).k (l[i]).s (l[i]).a .nil⟩]) : ListI l from_ (i + 1) d m st' := by
  have hle := h.le
  refine ⟨by omega, by omega, h.dm, by have := h.di; omega, by have := h.mi; omega, by omega, by rw [hl]; exact h.len, hk, ?_, ?_, ?_⟩
  · rw [h.ends, drop_cons hi, endF, opn_else h1 h2, if_neg (by omega)]
  · intro u
    have hdm := h.dm
    rw [take_next hle hi, List.append_assoc, h.most, List.singleton_append, mostF, opn_else h1 h2]
    simp only [h1, if_false]
    rw [if_neg (by omega)]
  · intro hm
    obtain ⟨st0, o, e1, e2⟩ := hst hm
    have := h.segs hm
    rw [e1] at this
    rw [e2, take_next hle hi]
    exact this.leaf h1 h2
theorem ListI.close {l : List TkA} {from_ i d m : Nat} {st st' : List Op} (h : ListI l from_ i (d + 1) m st) (hi : i < l.length) (h2 : (l[i]).k = 2) (hd : 0 < d) (hl : st'.length = min d 200) (hk : ∀ o ∈ st', o.f.len ≤ i + 1)
    (hst : m ≤ 200 → ∃ st0 o1 o2, st = st0 ++ [o1] ++ [o2] ∧ st' = st0 ++ [⟨o1.s, o1.a, o1.f.snoc true 1 o2.s o2.a o2.f⟩]) : ListI l from_ (i + 1) d m st' := by
  have hle := h.le
  have hdm := h.dm
  refine ⟨by omega, by omega, by omega, by have := h.di; omega, by have := h.mi; omega, by omega, hl, hk, ?_, ?_, ?_⟩
  · rw [h.ends, drop_cons hi, endF, opn_two h2, if_neg (by omega)]; congr 1; omega
  · intro u
    rw [take_next hle hi, List.append_assoc, h.most, List.singleton_append, mostF, opn_two h2]
    simp only [h2]
    rw [if_neg (by simp; omega)]
    congr 1; omega
  · intro hm
    obtain ⟨st0, o1, o2, e1, e2⟩ := hst hm
    have := h.segs hm
    rw [e1] at this
    rw [e2, take_next hle hi]
    exact this.close h2
/-- the last list closes. -/
theorem ListI.last {l : List TkA} {from_ i m : Nat} {st : List Op} {t : TkA} {r : List TkA} (h : ListI l from_ i 1 m st) (hi : i < l.length) (h2 : (l[i]).k = 2) (hf : l.drop from_ = t :: r) (ht : t.k = 1) : ∃ o, st = [o] ∧ (200 < m → NextO l (from_ : Int) false 0 ⟨#[]⟩ 0 .nil ((i + 1 : Nat) : Int) 40) ∧ (m ≤ 200 → NextO l (from_ : Int) true 1 o.s o.a o.f ((i + 1 : Nat) : Int) 0) := by
  have hle := h.le
  have hdm := h.dm
  obtain ⟨o, rfl⟩ : ∃ o, st = [o] := by
    have := h.len
    match st, this with
    | [o], _ => exact ⟨o, rfl⟩
  have hE : endF (t :: r) 0 from_ = some (i + 1) := by
    rw [← hf, h.ends, drop_cons hi, endF, opn_two h2, if_pos (by simp)]
  have hM : mostF ((t :: r).take (i + 1 - from_)) 0 0 = m := by
    rw [← hf, take_next hle hi, h.most, mostF, mostF]
    simp only [h2]
    rw [if_neg (by simp; omega)]
  have h20 : t.k ≠ 2 := by omega
  refine ⟨o, rfl, fun hm => .deep hf h20 hE (by rw [hM]; omega), fun hm => .ok hf h20 hE (by rw [hM]; omega) ?_⟩
  rw [← hf, take_next hle hi]
  exact (h.segs hm).one h2
/-- the tokens end ahead of it. -/
theorem ListI.short {l : List TkA} {from_ d m : Nat} {st : List Op} {t : TkA} {r : List TkA} (h : ListI l from_ l.length d m st) (hf : l.drop from_ = t :: r) (ht : t.k = 1) : NextO l (from_ : Int) false 0 ⟨#[]⟩ 0 .nil (l.length : Int) 4 := by
  have h20 : t.k ≠ 2 := by omega
  refine .open hf h20 ?_
  rw [← hf, h.ends, List.drop_length]; rfl
end Go.Proofs.YtlifankiljbdjaaDoor
namespace Go.Proofs.YtlifankiljbdjaaDoor
open Go Go.RowKit

def deepF : Fo := .cons false 7 ⟨#[100, 101, 101, 112]⟩ 0 .nil .nil
def DeepE (W : World) (e : Ending) (w' : World) : Prop := ∃ (q : Option Addr), e = .returned (trV true 1 ⟨#[40]⟩ 0 q 1 1) ∧ FoIn w' (fun x => W.heap.size ≤ x) deepF q ∧ Below W.heap.size W w'
theorem deepF_in {w : World} {g : Nat} {F : Nat → Prop} (hF : F g) (h : BoxT w g false 7 ⟨#[100, 101, 101, 112]⟩ 0 (.slice none 0 0)) : FoIn w F deepF (some ⟨g, 0, none⟩) :=
  ⟨g, 0, rfl, hF, h.c0, h.c1, h.c2, h.c3, ⟨none, 0, h.c4, Nat.le_refl _, by decide, trivial⟩, trivial⟩
set_option maxRecDepth 100000 in
set_option maxHeartbeats 3200000 in
theorem deep47 (W : World) : Calls Tryd.prog 47 #[] W (DeepE W) := by
  go_enter Tryd.func47, Tryd.ntmps47
  go_wp2_with fail
  refine bodyPost_ret (v := trV true 1 ⟨#[40]⟩ 0 (some ⟨W.heap.size + 1, 0, none⟩) 1 1) (by simp [results, Tryd.results47, go_sem, trV]) rfl ⟨_, rfl, ?_, ?_⟩
  · refine deepF_in (by omega) ⟨by simp [go_sem], by simp [go_sem], by simp [go_sem], by simp [go_sem], by simp [go_sem], fun o => by simp [go_sem]⟩
  · repeat (first | exact Below.refl _ _ | refine Below.alloc ?_ (by first | (simp; done) | (simp; omega)) _ | refine Below.setCell ?_ (by simp) _)
set_option maxRecDepth 100000 in
set_option maxHeartbeats 3200000 in
theorem placeholder46 (W : World) : Calls Tryd.prog 46 #[] W (DeepE W) := by
  go_enter Tryd.func46, Tryd.ntmps46
  go_wp2_with fail
  refine bodyPost_ret (v := trV true 1 ⟨#[40]⟩ 0 (some ⟨W.heap.size + 2, 0, none⟩) 1 1) (by simp [results, Tryd.results46, go_sem, trV]) rfl ⟨_, rfl, ?_, ?_⟩
  · refine deepF_in (by omega) ⟨by simp [go_sem], by simp [go_sem], by simp [go_sem], by simp [go_sem], by simp [go_sem], fun o => by simp [go_sem]⟩
  · repeat (first | exact Below.refl _ _ | refine Below.alloc ?_ (by first | (simp; done) | (simp; omega)) _ | refine Below.setCell ?_ (by simp) _)
end Go.Proofs.YtlifankiljbdjaaDoor
namespace Go.Proofs.YtlifankiljbdjaaDoor
open Go Go.RowKit

/-- the trees of some tokens from a place on, the place where it ends, what is wrong there. -/
inductive AllO (l : List TkA) : Nat → Fo → Int → Int → Prop
  | done {i : Nat} : i = l.length → AllO l i .nil (i : Int) 0
  | ok {i n : Nat} {b : Bool} {k : Int} {s : ByteArray} {a : Int} {g f : Fo} {z er : Int} : i < l.length → NextO l (i : Int) b k s a g (n : Int) 0 → AllO l n f z er → AllO l i (.cons b k s a g f) z er
  | deep {i n : Nat} {b : Bool} {k : Int} {s : ByteArray} {a : Int} {g f : Fo} {z er : Int} : i < l.length → NextO l (i : Int) b k s a g (n : Int) 40 → AllO l n f z er → AllO l i (.cons true 1 ⟨#[40]⟩ 0 deepF f) z er
  | bad {i : Nat} {b : Bool} {k : Int} {s : ByteArray} {a : Int} {g : Fo} {n er : Int} : i < l.length → NextO l (i : Int) b k s a g n er → er ≠ 0 → er ≠ 40 → AllO l i .nil (i : Int) er
theorem NextO.ahead {l : List TkA} {i : Nat} {b : Bool} {k : Int} {s : ByteArray} {a : Int} {g : Fo} {n er : Int} (h : NextO l (i : Int) b k s a g n er) (he : er = 0 ∨ er = 40) : ∃ m : Nat, n = (m : Int) ∧ i < m ∧ m ≤ l.length ∧ g.len ≤ l.length := by
  generalize hz : (i : Int) = z at h
  have hlen : ∀ (i : Nat) (t : TkA) (r : List TkA), l.drop i = t :: r → (t :: r).length = l.length - i ∧ i < l.length := fun i t r h => by
    have h1 := congrArg List.length h
    rw [List.length_drop] at h1
    simp only [List.length_cons] at h1 ⊢
    omega
  cases h with
  | arg => omega
  | short => omega
  | close => omega
  | «open» => omega
  | @deep i' n t r hd h2 hE _ =>
    obtain rfl : i = i' := by omega
    obtain ⟨h3, h4, _⟩ := one_of h2 hE
    have := hlen i t r hd
    exact ⟨n, rfl, h3, by omega, Nat.zero_le _⟩
  | @ok i' n t r _ _ _ _ _ hd h2 hE _ h1 =>
    obtain rfl : i = i' := by omega
    obtain ⟨h3, h4, _⟩ := one_of h2 hE
    have := hlen i t r hd
    refine ⟨n, rfl, h3, by omega, ?_⟩
    have hl : ((t :: r).take (n - i)).length ≤ l.length := by rw [List.length_take]; omega
    generalize (t :: r).take (n - i) = u at *
    cases h1 with
    | leaf => exact Nat.zero_le _
    | list _ _ h => have := h.len; simp at hl; omega
def AllE (l : List TkA) (W : World) (e : Ending) (w' : World) : Prop := ∃ (v : Value) (f : Fo) (z er : Int), e = .returned (.tuple #[v, .int .i64 z, .int .i64 er]) ∧ OwnF w' W.heap.size v f ∧ f.len ≤ l.length ∧ Below W.heap.size W w' ∧ AllO l 0 f z er
set_option maxRecDepth 100000 in
set_option maxHeartbeats 6400000 in
theorem all25 (p : Option Addr) (c : Nat) (l : List TkA) (W : World) (h1 : TksA W p l) (hc : l.length ≤ c) (hn : l.length ≤ 1048576) :
    Calls Tryd.prog 25 #[.slice p l.length c] W (AllE l W) := by
  obtain ⟨n, hl⟩ : ∃ n, n = l.length := ⟨_, rfl⟩
  have hnx := fun (z : Int) (w : World) (h : Below W.heap.size W w) => next22 p c l z w (h1.later h) hc hn
  have HL := Lib.hid hl
  have HNX := Lib.hid hnx
  rw [← hl] at hc hn ⊢
  clear h1 hl hnx
  have n1 : (n : Int) ≤ 1048576 := by omega
  obtain ⟨i0, hi, hz0, hz1, hz2⟩ := info41
  go_enter Tryd.func25, Tryd.ntmps25
  go_wp2_with fail
  go_loopg [5, 6, 7, 8, 9] n (fun gk s5 s6 s7 s8 s9 wx => ∃ (i : Nat) (fd : Fo) (pv : Option Addr) (cv : Nat), n ≤ i + gk ∧ i ≤ n ∧ s6 = .int .i64 (i : Int) ∧ s5 = .slice pv fd.len cv ∧ Hid (fd.len ≤ i ∧ OwnF wx W.heap.size (.slice pv fd.len cv) fd ∧ Below W.heap.size W wx ∧ (∀ f z er, AllO l i f z er → AllO l 0 (fd.app f) z er)))
  case atStart => exact ⟨0, .nil, none, 0, by omega, by omega, rfl, rfl, Lib.hid ⟨Nat.le_refl _, OwnF.nil _ _, Below.refl _ _, fun f z er h => h⟩⟩
  case round =>
    obtain ⟨i, fd, pv, cv, hk, hin, rfl, rfl, HI⟩ := hrel
    have HG := Lib.hid hk
    clear hk
    obtain ⟨wA, hwA⟩ : ∃ w, w = wr := ⟨_, rfl⟩
    subst hwA
    by_cases hlt : i < n
    · have z0 : (i : Int) < (n : Int) := by omega
      have HC := Lib.hid (HNX.out (i : Int) wA HI.out.2.2.1)
      rw [← HL.out] at HC
      go_wp2_with fail
      refine HC.out.mono ?_
      rintro e w1 ⟨q, c', b, k, s, a, g, m, er, rfl, hq1, hq2, hb1, hO⟩
      simp only [trV]
      obtain ⟨hf1, hf2, hf3, hf4⟩ := HI.out
      clear HI HC
      have hbA := hf3.trans (hb1.mono hf3.size)
      have ho1 := hf2.later hb1
      have hq3 : FoIn w1 (fun x => wA.heap.size ≤ x) g q := hq2
      by_cases her : er = 0
      · subst her
        obtain ⟨m', rfl, him, hml, hgl⟩ := hO.ahead (Or.inl rfl)
        have hnew := box_new (w1.alloc (.cells #[.bool b, .int .u8 k, .string s, .int .i64 a, .slice q g.len c'] 41)) b k s a (.slice q g.len c')
        have hb2 : Below w1.heap.size w1 ((w1.alloc (.cells #[.bool b, .int .u8 k, .string s, .int .i64 a, .slice q g.len c'] 41)).alloc (.cells #[.bool b, .int .u8 k, .string s, .int .i64 a, .slice q g.len c'] 41)) := (below1 w1 _).alloc (by simp) _
        obtain ⟨xs, how, hrw⟩ := ho1.later hb2
        have hq4 := hq3.later hb2
        have hsz : W.heap.size ≤ ((w1.alloc (.cells #[.bool b, .int .u8 k, .string s, .int .i64 a, .slice q g.len c'] 41)).alloc (.cells #[.bool b, .int .u8 k, .string s, .int .i64 a, .slice q g.len c'] 41)).heap.size := (hbA.trans (hb2.mono hbA.size)).size
        have HOW := Lib.hid how
        have HRW := Lib.hid hrw
        have HQ := Lib.hid (And.intro hq1 hq4)
        have HNW := Lib.hid hnew
        have HSZ := Lib.hid hsz
        have HST := Lib.hid (And.intro hf1 (And.intro hf4 (And.intro hO (And.intro him (And.intro hml hgl)))))
        have HB2 := Lib.hid (hbA.trans (hb2.mono hbA.size))
        have HWA := Lib.hid (show wA.heap.size ≤ w1.heap.size ∧ W.heap.size ≤ wA.heap.size ∧ (∀ z, (Value.slice pv fd.len cv).ownBlock = some z → z < wA.heap.size) from ⟨hb1.size, hf3.size, fun z hz => by obtain ⟨xs2, h2, _⟩ := hf2; exact (own_lt h2 hz).2⟩)
        have hfl : fd.len ≤ 1048576 := by omega
        clear how hrw hq1 hq2 hq3 hq4 hnew hsz hf1 hf2 hf3 hf4 hO him hml hgl ho1 hbA hb1 hb2
        go_wp2_with (at_builtin; refine wpList_append_own_at _ rfl _ _ 39 rfl W.heap.size 41 i0 Z41 5 64 Tryd.underlying39 hi hz0 hz1 hz2 rfl (by omega) _ fd.len xs rfl HOW.out ⟨w1.heap.size + 1, 0, none⟩ 1 1 (trC b k s a q g.len c') rfl rfl ?qc2 ?qc3 ?qc4 ?qc5 HSZ.out ?_)
        case qc2 =>
          intro jj u hjj
          rw [Lib.add_plain]
          have e1 : w1.heap.size + 1 = (w1.alloc (.cells #[.bool b, .int .u8 k, .string s, .int .i64 a, .slice q g.len c'] 41)).heap.size := by simp
          rw [e1]
          match jj, hjj with
          | 0, hjj => cases hjj; exact HNW.out.c0
          | 1, hjj => cases hjj; exact HNW.out.c1
          | 2, hjj => cases hjj; exact HNW.out.c2
          | 3, hjj => cases hjj; exact HNW.out.c3
          | 4, hjj => cases hjj; exact HNW.out.c4
        case qc3 => intro u hu; simp [trC] at hu; rcases hu with rfl | rfl | rfl | rfl | rfl <;> rfl
        case qc4 => have hml : maxLen = 9223372036854775807 := rfl; omega
        case qc5 => omega
        intro v8 w8 hown hgrow hnil_ hloc
        have hpush := OwnF.push (N := wA.heap.size) HOW.out HRW.out HWA.out.2.1 HWA.out.2.2 HQ.out.2 HQ.out.1 (by have := HST.out; have := HL.out; omega) hown hgrow (by simpa using hloc)
        have hb8 := HB2.out.trans ((Only.of_grown hgrow).below (B := W.heap.size) (fun j hj => (own_lt HOW.out hj).1) HB2.out.size)
        obtain ⟨p8, c8, hv, hA_⟩ := own_shape hown
        subst hv
        have HE := Lib.hid (And.intro hpush hb8)
        clear hown hgrow hnil_ hloc hpush hb8 hA_
        obtain ⟨G, rfl⟩ : ∃ G, gk = G + 1 := ⟨gk - 1, by have := HG.out; omega⟩
        go_wp2_with fail
        go_roundg G
        case measure => omega
        case rel =>
          obtain ⟨h1, h2, h3, h4, h5, h6⟩ := HST.out
          have hls : (fd.snoc b k s a g).len = fd.len + 1 := Fo.len_snoc _ _ _ _ _ _
          refine ⟨m', fd.snoc b k s a g, p8, c8, by have := HG.out; omega, by rw [HL.out]; exact h5, rfl, by rw [hls], Lib.hid ⟨by rw [hls]; omega, by rw [hls]; exact HE.out.1, HE.out.2, fun f z er h => ?_⟩⟩
          rw [Fo.snoc_app]
          exact h2 _ _ _ (.ok (by rw [← HL.out]; exact hlt) h3 h)
      by_cases her2 : er = 40
      · subst her2
        obtain ⟨m', rfl, him, hml, hgl⟩ := hO.ahead (Or.inr rfl)
        have hb2 := below1 w1 (.cells #[.bool b, .int .u8 k, .string s, .int .i64 a, .slice q g.len c'] 41)
        have HOW := Lib.hid (ho1.later hb2)
        have HST := Lib.hid (And.intro hf1 (And.intro hf4 (And.intro hO (And.intro him hml))))
        have HB2 := Lib.hid (hbA.trans (hb2.mono hbA.size))
        have HWA := Lib.hid (show wA.heap.size ≤ w1.heap.size ∧ W.heap.size ≤ wA.heap.size ∧ (∀ z, (Value.slice pv fd.len cv).ownBlock = some z → z < wA.heap.size) from ⟨hb1.size, hf3.size, fun z hz => by obtain ⟨xs2, h2, _⟩ := hf2; exact (own_lt h2 hz).2⟩)
        have hfl : fd.len ≤ 1048576 := by omega
        clear hq1 hq2 hq3 hf1 hf2 hf3 hf4 hO him hml hgl ho1 hbA hb1 hb2
        go_wp2_with fail
        refine (deep47 _).mono ?_
        rintro e w3 ⟨q3, rfl, hd3, hb3⟩
        have hd3' : FoIn w3 (fun x => wA.heap.size ≤ x) deepF q3 := hd3.mono (fun z hz _ => by have h1 := HWA.out.1; have h2 : (w1.alloc (.cells #[.bool b, .int .u8 k, .string s, .int .i64 a, .slice q g.len c'] 41)).heap.size ≤ z := hz; simp at h2; omega)
        simp only [trV]
        have hnew := box_new w3 true 1 ⟨#[40]⟩ 0 (.slice q3 1 1)
        have hb4 : Below w3.heap.size w3 (w3.alloc (.cells #[.bool true, .int .u8 1, .string ⟨#[40]⟩, .int .i64 0, .slice q3 1 1] 41)) := below1 w3 _
        obtain ⟨xs, how, hrw⟩ := (HOW.out.later hb3).later hb4
        have hq4 := hd3'.later hb4
        have hbB := HB2.out.trans ((hb3.trans (hb4.mono hb3.size)).mono HB2.out.size)
        have HO2 := Lib.hid how
        have HRW := Lib.hid hrw
        have HQ := Lib.hid hq4
        have HNW := Lib.hid hnew
        have HSZ := Lib.hid hbB
        clear how hrw hd3 hd3' hq4 hnew hb3 hb4 hbB
        go_wp2_with (at_builtin; refine wpList_append_own_at _ rfl _ _ 39 rfl W.heap.size 41 i0 Z41 5 64 Tryd.underlying39 hi hz0 hz1 hz2 rfl (by omega) _ fd.len xs rfl HO2.out ⟨w3.heap.size, 0, none⟩ 1 1 (trC true 1 ⟨#[40]⟩ 0 q3 1 1) rfl rfl ?qc2 ?qc3 ?qc4 ?qc5 HSZ.out.size ?_)
        case qc2 =>
          intro jj u hjj
          rw [Lib.add_plain]
          match jj, hjj with
          | 0, hjj => cases hjj; exact HNW.out.c0
          | 1, hjj => cases hjj; exact HNW.out.c1
          | 2, hjj => cases hjj; exact HNW.out.c2
          | 3, hjj => cases hjj; exact HNW.out.c3
          | 4, hjj => cases hjj; exact HNW.out.c4
        case qc3 => intro u hu; simp [trC] at hu; rcases hu with rfl | rfl | rfl | rfl | rfl <;> rfl
        case qc4 => have hml : maxLen = 9223372036854775807 := rfl; omega
        case qc5 => omega
        intro v8 w8 hown hgrow hnil_ hloc
        have hpush := OwnF.push (N := wA.heap.size) (x := deepF) (l := true) (k := 1) (s := ⟨#[40]⟩) (a := 0) (q := q3) (c := 1) HO2.out HRW.out HWA.out.2.1 HWA.out.2.2 HQ.out (Nat.le_refl _) (by decide) hown hgrow (by simpa using hloc)
        have hb8 := HSZ.out.trans ((Only.of_grown hgrow).below (B := W.heap.size) (fun j hj => (own_lt HO2.out hj).1) HSZ.out.size)
        obtain ⟨p8, c8, hv, hA_⟩ := own_shape hown
        subst hv
        have HE := Lib.hid (And.intro hpush hb8)
        clear hown hgrow hnil_ hloc hpush hb8 hA_
        obtain ⟨G, rfl⟩ : ∃ G, gk = G + 1 := ⟨gk - 1, by have := HG.out; omega⟩
        go_wp2_with fail
        go_roundg G
        case measure => omega
        case rel =>
          obtain ⟨h1, h2, h3, h4, h5⟩ := HST.out
          have hls : (fd.snoc true 1 ⟨#[40]⟩ 0 deepF).len = fd.len + 1 := Fo.len_snoc _ _ _ _ _ _
          refine ⟨m', fd.snoc true 1 ⟨#[40]⟩ 0 deepF, p8, c8, by have := HG.out; omega, by rw [HL.out]; exact h5, rfl, by rw [hls], Lib.hid ⟨by rw [hls]; omega, by rw [hls]; exact HE.out.1, HE.out.2, fun f z er h => ?_⟩⟩
          rw [Fo.snoc_app]
          exact h2 _ _ _ (.deep (by rw [← HL.out]; exact hlt) h3 h)
      · have e1 : (er == 0) = false := by simp [her]
        have e2 : (er == 40) = false := by simp [her2]
        have HE := Lib.hid (show AllE l W (.returned (.tuple #[.slice pv fd.len cv, .int .i64 (i : Int), .int .i64 er])) (w1.alloc (.cells #[.bool b, .int .u8 k, .string s, .int .i64 a, .slice q g.len c'] 41)) from
          ⟨_, fd, _, _, rfl, ho1.later (below1 _ _), by rw [← HL.out]; omega, (hbA.trans ((below1 w1 _).mono hbA.size)), by have := hf4 _ _ _ (AllO.bad (by rw [← HL.out]; exact hlt) hO her her2); rwa [Fo.app_nil] at this⟩)
        clear hq1 hq2 hq3 hf1 hf2 hf3 hf4 hO ho1 hbA hb1
        go_wp2_with fail
        refine bodyPost_ret (v := .tuple #[.slice pv fd.len cv, .int .i64 (i : Int), .int .i64 er]) (by simp [results, Tryd.results25, go_sem]) rfl HE.out
    · obtain rfl : i = n := by omega
      go_wp2_with fail
      obtain ⟨h1, h2, h3, h4⟩ := HI.out
      refine bodyPost_ret (v := .tuple #[.slice pv fd.len cv, .int .i64 (i : Int), .int .i64 0]) (by simp [results, Tryd.results25, go_sem]) rfl ?_
      exact ⟨_, fd, _, _, rfl, h2, by rw [← HL.out]; exact h1, h3, by have := h4 _ _ _ (AllO.done HL.out); rwa [Fo.app_nil] at this⟩
end Go.Proofs.YtlifankiljbdjaaDoor
namespace Go.Proofs.YtlifankiljbdjaaDoor
open Go Go.RowKit

theorem drop_lt {l : List TkA} {i : Nat} {t : TkA} {r : List TkA} (h : l.drop i = t :: r) : i < l.length := by
  have h1 := congrArg List.length h
  simp only [List.length_drop, List.length_cons] at h1
  omega
theorem NextO.uniq {l : List TkA} {z : Int} {b b' : Bool} {k k' : Int} {s s' : ByteArray} {a a' : Int} {g g' : Fo} {n n' er er' : Int} (h : NextO l z b k s a g n er) (h' : NextO l z b' k' s' a' g' n' er') :
    b' = b ∧ k' = k ∧ s' = s ∧ a' = a ∧ g' = g ∧ n' = n ∧ er' = er := by
  cases h with
  | arg h1 =>
    cases h' with
    | arg => exact ⟨rfl, rfl, rfl, rfl, rfl, rfl, rfl⟩
    | short => omega
    | close hd => have := drop_lt hd; omega
    | «open» hd => have := drop_lt hd; omega
    | deep hd => have := drop_lt hd; omega
    | ok hd => have := drop_lt hd; omega
  | short =>
    generalize hz : (l.length : Int) = z at h'
    cases h' with
    | arg => omega
    | short => exact ⟨rfl, rfl, rfl, rfl, rfl, rfl, rfl⟩
    | close hd => have := drop_lt hd; omega
    | «open» hd => have := drop_lt hd; omega
    | deep hd => have := drop_lt hd; omega
    | ok hd => have := drop_lt hd; omega
  | @close i t r hd h2 =>
    have hl := drop_lt hd
    generalize hz : (i : Int) = z at h'
    cases h' with
    | arg => omega
    | short => omega
    | close => exact ⟨rfl, rfl, rfl, rfl, rfl, rfl, rfl⟩
    | «open» hd' h2' => obtain rfl := Int.ofNat_inj.1 hz; rw [hd] at hd'; cases hd'; exact absurd h2 h2'
    | deep hd' h2' => obtain rfl := Int.ofNat_inj.1 hz; rw [hd] at hd'; cases hd'; exact absurd h2 h2'
    | ok hd' h2' => obtain rfl := Int.ofNat_inj.1 hz; rw [hd] at hd'; cases hd'; exact absurd h2 h2'
  | @«open» i t r hd h2 hE =>
    have hl := drop_lt hd
    generalize hz : (i : Int) = z at h'
    cases h' with
    | arg => omega
    | short => omega
    | close hd' h2' => obtain rfl := Int.ofNat_inj.1 hz; rw [hd] at hd'; cases hd'; exact absurd h2' h2
    | «open» => exact ⟨rfl, rfl, rfl, rfl, rfl, rfl, rfl⟩
    | deep hd' h2' hE' => obtain rfl := Int.ofNat_inj.1 hz; rw [hd] at hd'; cases hd'; rw [hE] at hE'; cases hE'
    | ok hd' h2' hE' => obtain rfl := Int.ofNat_inj.1 hz; rw [hd] at hd'; cases hd'; rw [hE] at hE'; cases hE'
  | @deep i n t r hd h2 hE hm =>
    have hl := drop_lt hd
    generalize hz : (i : Int) = z at h'
    cases h' with
    | arg => omega
    | short => omega
    | close hd' h2' => obtain rfl := Int.ofNat_inj.1 hz; rw [hd] at hd'; cases hd'; exact absurd h2' h2
    | «open» hd' h2' hE' => obtain rfl := Int.ofNat_inj.1 hz; rw [hd] at hd'; cases hd'; rw [hE] at hE'; cases hE'
    | deep hd' h2' hE' => obtain rfl := Int.ofNat_inj.1 hz; rw [hd] at hd'; cases hd'; rw [hE] at hE'; cases hE'; exact ⟨rfl, rfl, rfl, rfl, rfl, rfl, rfl⟩
    | ok hd' h2' hE' hm' => obtain rfl := Int.ofNat_inj.1 hz; rw [hd] at hd'; cases hd'; rw [hE] at hE'; cases hE'; exact absurd hm hm'
  | @ok i n t r _ _ _ _ _ hd h2 hE hm h1 =>
    have hl := drop_lt hd
    generalize hz : (i : Int) = z at h'
    cases h' with
    | arg => omega
    | short => omega
    | close hd' h2' => obtain rfl := Int.ofNat_inj.1 hz; rw [hd] at hd'; cases hd'; exact absurd h2' h2
    | «open» hd' h2' hE' => obtain rfl := Int.ofNat_inj.1 hz; rw [hd] at hd'; cases hd'; rw [hE] at hE'; cases hE'
    | deep hd' h2' hE' hm' => obtain rfl := Int.ofNat_inj.1 hz; rw [hd] at hd'; cases hd'; rw [hE] at hE'; cases hE'; exact absurd hm' hm
    | ok hd' h2' hE' hm' h1' =>
      obtain rfl := Int.ofNat_inj.1 hz; rw [hd] at hd'; cases hd'; rw [hE] at hE'; cases hE'
      obtain ⟨e1, e2, e3, e4, e5⟩ := h1.uniq h1'
      exact ⟨e1, e2, e3, e4, e5, rfl, rfl⟩
end Go.Proofs.YtlifankiljbdjaaDoor
