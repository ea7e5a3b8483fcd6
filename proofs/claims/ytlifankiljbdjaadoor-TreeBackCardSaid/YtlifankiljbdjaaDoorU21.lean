/- Texts of trees are read as their leaves. -/
import Derived.Test.YtlifankiljbdjaaDoorU19
namespace Go.Proofs.YtlifankiljbdjaaDoor
open Go Go.RowKit

/-- what may stand behind a leaf's text: nothing, or what ends every word. -/
def FolR (r : List UInt8) : Prop := r = [] ∨ ∃ c r', r = c :: r' ∧ syB c = false ∧ c ≠ 34
theorem FolR.tw {r : List UInt8} (h : FolR r) : r.takeWhile syB = [] := by
  rcases h with rfl | ⟨c, r', rfl, h⟩
  · rfl
  · simp [List.takeWhile_cons, h.1]
theorem word_app2 {w r : List UInt8} (hw : w.all syB = true) (h : FolR r) : wordL (w ++ r) = w := by
  unfold wordL
  rw [List.takeWhile_append_of_pos (by simpa using hw), h.tw, List.append_nil]
theorem lit_app2 : ∀ (t acc : List UInt8) (i : Nat) (r : List UInt8), t.all txB = true → FolR r → lit false acc i (dblL t ++ 34 :: r) = .tok 5 (acc ++ t) (i + (dblL t).length + 1)
  | [], acc, i, r, _, h => by
    have h34 : txB 34 = true := by decide
    simp only [dblL, List.nil_append, lit, h34]
    rcases h with rfl | ⟨c, r', rfl, hc⟩
    · simp [lit]
    · simp [lit, hc.2]
  | c :: t, acc, i, r, h, hr => by
    simp only [List.all_cons, Bool.and_eq_true] at h
    simp only [dblL]
    split
    · rename_i hc
      have hc : c = 34 := by simpa using hc
      subst hc
      have h34 : txB 34 = true := by decide
      simp only [List.cons_append, lit, h34]
      simp only [Bool.not_true, Bool.false_eq_true, if_false, beq_self_eq_true, if_true]
      rw [lit_app2 t _ _ r h.2 hr]; simp; omega
    · rename_i hc
      simp only [List.cons_append, lit]
      rw [if_neg (by simp [h.1]), if_neg hc, lit_app2 t _ _ r h.2 hr]; simp; omega
theorem one_word2 {w r : List UInt8} (hw : w.all syB = true) (hne : w ≠ []) (hr : FolR r) : oneR (w ++ r) = plainR w := by
  cases w with
  | nil => exact absurd rfl hne
  | cons c w =>
    have hc : syB c = true := by simp at hw; exact hw.1
    have h := sy_plain_not c hc
    have hw2 := word_app2 hw hr
    simp only [List.cons_append] at hw2 ⊢
    simp only [oneR, hw2]
    simp [h, hc]
theorem one_rend2 {k : Nat} {t r : List UInt8} (h : GoodT k t) (hr : k = 1 ∨ k = 2 ∨ FolR r) : oneR (rendL k t ++ r) = .tok k t (rendL k t).length := by
  cases h with
  | op => rfl
  | cl => rfl
  | sym h =>
    by_cases hp : plainB t = true
    · have hw := plain_word hp
      simp only [rendL, hp]
      simp only [beq_self_eq_true, if_true]
      rw [one_word2 hw.1 hw.2.1 (by simpa using hr), hw.2.2]
    · have h : t.all inB = true := h.resolve_left hp
      simp only [rendL, hp]
      have := quo_app t [] r h
      simp [oneR, this]
  | str h =>
    have := lit_app2 t [] 1 r h (by simpa using hr)
    simp [rendL, oneR, this]; omega
  | key h hne =>
    have := word_app2 h (show FolR r by simpa using hr)
    simp [rendL, oneR, this, keyR, hne]
  | num hk h hne hp hd =>
    have : rendL k t = t := by rcases hk with rfl | rfl <;> rfl
    rw [this, one_word2 h hne (by rcases hk with rfl | rfl <;> simpa using hr), hp]
  | @bas w h hb =>
    have hw := word_app2 h (show FolR r by simpa using hr)
    have : rendL 7 (35 :: w) = 35 :: w := rfl
    rw [this]
    simp only [List.cons_append, oneR, hw, hb]
    simp
theorem tok_step {k : Nat} {t : List UInt8} (h : GoodT k t) {b : List UInt8} {at_ : Nat} {pre rest : List UInt8} {l : List Tk} {p e : Nat} (hpre : pre = [] ∨ pre = [32]) (hb : b.drop at_ = pre ++ (rendL k t ++ rest)) (hr : k = 1 ∨ k = 2 ∨ FolR rest)
    (ht : Toks b (at_ + pre.length + (rendL k t).length) l p e) : Toks b at_ (⟨k, t, at_ + pre.length⟩ :: l) p e := by
  have hk : skipM false (b.drop at_) = pre.length := by
    have h1 := head_skip (rend_head h) rest
    rw [hb]
    rcases hpre with rfl | rfl
    · simpa using h1
    · simp only [List.cons_append, List.nil_append, List.length_cons, List.length_nil]
      rw [show skipM false (32 :: (rendL k t ++ rest)) = 1 + skipM false (rendL k t ++ rest) by simp [skipM, spB], h1]
  have ho := one_rend2 h hr
  have hn := one_n ho
  have hlen : (b.drop at_).length = (pre ++ (rendL k t ++ rest)).length := by rw [hb]
  simp only [List.length_drop, List.length_append] at hlen
  have hd : b.drop (at_ + pre.length) = rendL k t ++ rest := by rw [← List.drop_drop, hb, List.drop_left]
  have := Toks.step (b := b) (at_ := at_) (k := k) (n := (rendL k t).length) (t := t) (l := l) (p := p) (e := e) (by rw [hk]; omega) (by rw [hk, hd]; exact ho) (by rw [hk]; exact ht)
  rw [hk] at this; exact this
/-- the leaves, and the brackets. -/
def lvF : Fo → List (Nat × List UInt8)
  | .nil => []
  | .cons l k s _ x r => (if l then (1, [40]) :: (lvF x ++ [(2, [41])]) else [(k.toNat, s.data.toList)]) ++ lvF r
theorem fol_txt (r : Fo) {rest : List UInt8} (h : FolR rest) : FolR (txtF false r ++ rest) := by
  cases r with
  | nil => simpa [txtF] using h
  | cons l k s a x r => exact .inr ⟨32, _, rfl, by decide, by decide⟩
theorem toks_F : ∀ (f : Fo) (b0 : Bool), okF f = true → ∀ (b : List UInt8) (at_ : Nat) (rest : List UInt8) (l : List Tk) (p e : Nat), b.drop at_ = txtF b0 f ++ rest → FolR rest → Toks b (at_ + (txtF b0 f).length) l p e →
    ∃ l' : List Tk, Toks b at_ (l' ++ l) p e ∧ l'.map (fun t => (t.kind, t.text)) = lvF f
  | .nil, b0, _, b, at_, rest, l, p, e, _, _, ht => ⟨[], by simpa [txtF] using ht, rfl⟩
  | .cons true k s a x r, b0, ho, b, at_, rest, l, p, e, hb, hr, ht => by
    simp only [okF, if_true, Bool.and_eq_true] at ho
    obtain ⟨pre, hp⟩ : ∃ pre, pre = (if b0 then [] else [32] : List UInt8) := ⟨_, rfl⟩
    have hpre : pre = [] ∨ pre = [32] := by rw [hp]; cases b0 <;> simp
    have hT : txtF b0 (.cons true k s a x r) = pre ++ (40 :: (txtF true x ++ (41 :: txtF false r))) := by rw [hp]; simp [txtF]
    rw [hT] at hb ht
    simp only [List.length_append, List.length_cons] at ht
    have hb1 : b.drop at_ = pre ++ (rendL 1 [40] ++ (txtF true x ++ (41 :: (txtF false r ++ rest)))) := by rw [hb]; simp [rendL]
    have hd1 : b.drop (at_ + pre.length + 1) = txtF true x ++ (41 :: (txtF false r ++ rest)) := by
      rw [Nat.add_assoc, ← List.drop_drop, hb1, ← List.drop_drop, List.drop_left]; rfl
    have hd2 : b.drop (at_ + pre.length + 1 + (txtF true x).length) = [] ++ (rendL 2 [41] ++ (txtF false r ++ rest)) := by
      rw [← List.drop_drop, hd1, List.drop_left]; rfl
    have hd3 : b.drop (at_ + pre.length + 1 + (txtF true x).length + 1) = txtF false r ++ rest := by
      rw [← List.drop_drop, hd2]; rfl
    obtain ⟨l3, t3, m3⟩ := toks_F r false ho.2 b (at_ + pre.length + 1 + (txtF true x).length + 1) rest l p e hd3 hr (by
      have e : at_ + pre.length + 1 + (txtF true x).length + 1 + (txtF false r).length = at_ + (pre.length + ((txtF true x).length + ((txtF false r).length + 1) + 1)) := by omega
      rw [e]; exact ht)
    have t2 := tok_step GoodT.cl (.inl rfl) hd2 (.inr (.inl rfl)) (by simpa [rendL] using t3)
    obtain ⟨l1, t1, m1⟩ := toks_F x true ho.1.2 b (at_ + pre.length + 1) (41 :: (txtF false r ++ rest)) _ p e hd1 (.inr ⟨41, _, rfl, by decide, by decide⟩) t2
    have t0 := tok_step GoodT.op hpre hb1 (.inl rfl) (by simpa [rendL] using t1)
    refine ⟨⟨1, [40], at_ + pre.length⟩ :: (l1 ++ (⟨2, [41], _⟩ :: l3)), by simpa using t0, ?_⟩
    simp [lvF, m1, m3]
  | .cons false k s a x r, b0, ho, b, at_, rest, l, p, e, hb, hr, ht => by
    simp only [okF, Bool.false_eq_true, if_false, Bool.and_eq_true] at ho
    have hg := (readB_iff.1 ho.1.2).1
    obtain ⟨pre, hp⟩ : ∃ pre, pre = (if b0 then [] else [32] : List UInt8) := ⟨_, rfl⟩
    have hpre : pre = [] ∨ pre = [32] := by rw [hp]; cases b0 <;> simp
    have hT : txtF b0 (.cons false k s a x r) = pre ++ (rendL k.toNat s.data.toList ++ txtF false r) := by rw [hp]; simp [txtF]
    rw [hT] at hb ht
    simp only [List.length_append] at ht
    have hb1 : b.drop at_ = pre ++ (rendL k.toNat s.data.toList ++ (txtF false r ++ rest)) := by rw [hb]; simp
    have hd1 : b.drop (at_ + pre.length + (rendL k.toNat s.data.toList).length) = txtF false r ++ rest := by
      rw [Nat.add_assoc, ← List.drop_drop, hb1, ← List.drop_drop, List.drop_left, List.drop_left]
    obtain ⟨l3, t3, m3⟩ := toks_F r false ho.2 b _ rest l p e hd1 hr (by
      have e : at_ + pre.length + (rendL k.toNat s.data.toList).length + (txtF false r).length = at_ + (pre.length + ((rendL k.toNat s.data.toList).length + (txtF false r).length)) := by omega
      rw [e]; exact ht)
    have t0 := tok_step hg hpre hb1 (.inr (.inr (fol_txt r hr))) t3
    exact ⟨⟨k.toNat, s.data.toList, at_ + pre.length⟩ :: l3, by simpa using t0, by simp [lvF, m3]⟩
end Go.Proofs.YtlifankiljbdjaaDoor
