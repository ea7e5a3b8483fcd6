/- A token's own bytes are read as it; tokens with blanks between are read as they were; plain. -/
import Derived.Test.YtlifankiljbdjaaDoorP1
namespace Go.Proofs.YtlifankiljbdjaaDoor

theorem sy_plain_not (c : UInt8) (h : syB c = true) : c ≠ 40 ∧ c ≠ 41 ∧ c ≠ 124 ∧ c ≠ 34 ∧ c ≠ 58 ∧ c ≠ 35 ∧ c ≠ 59 ∧ spB c = false := by
  have := u8_all (p := fun c => !syB c || (c != 40 && c != 41 && c != 124 && c != 34 && c != 58 && c != 35 && c != 59 && !spB c)) (by decide +kernel) c
  simp [h] at this
  simp [this]
theorem one_word {w r : List UInt8} (hw : w.all syB = true) (hne : w ≠ []) (hr : SepR r) : oneR (w ++ r) = plainR w := by
  cases w with
  | nil => exact absurd rfl hne
  | cons c w =>
    have hc : syB c = true := by simp at hw; exact hw.1
    have h := sy_plain_not c hc
    have hw2 := word_app hw hr
    simp only [List.cons_append] at hw2 ⊢
    simp only [oneR, hw2]
    simp [h, hc]
/-- a token's bytes begin with none that is skipped -/
def HeadR (s : List UInt8) : Prop := ∃ c s', s = c :: s' ∧ spB c = false ∧ c ≠ 59
theorem rend_head {k : Nat} {t : List UInt8} (h : GoodT k t) : HeadR (rendL k t) := by
  have word : ∀ w : List UInt8, w.all syB = true → w ≠ [] → HeadR w := fun w hw hne => by
    cases w with
    | nil => exact absurd rfl hne
    | cons c w =>
      have hc : syB c = true := by simp at hw; exact hw.1
      have h := sy_plain_not c hc
      exact ⟨c, w, rfl, h.2.2.2.2.2.2.2, h.2.2.2.2.2.2.1⟩
  cases h with
  | op => exact ⟨40, [], rfl, by decide, by decide⟩
  | cl => exact ⟨41, [], rfl, by decide, by decide⟩
  | sym h =>
    by_cases hp : plainB t = true
    · simp only [rendL, hp]
      simp only [beq_self_eq_true, if_true]
      simp only [plainB, Bool.and_eq_true, Bool.not_eq_true'] at hp
      exact word t hp.1.1 (by simpa using hp.1.2)
    · simp only [rendL, hp]
      exact ⟨124, _, rfl, by decide, by decide⟩
  | str h => exact ⟨34, _, rfl, by decide, by decide⟩
  | key h hne => exact ⟨58, _, rfl, by decide, by decide⟩
  | num hk h hne _ _ => rcases hk with rfl | rfl <;> exact word t h hne
  | bas h _ => exact ⟨35, _, rfl, by decide, by decide⟩
theorem plain_word {t : List UInt8} (h : plainB t = true) : t.all syB = true ∧ t ≠ [] ∧ plainR t = .tok 3 t t.length := by
  simp only [plainB, Bool.and_eq_true, Bool.not_eq_true'] at h
  refine ⟨h.1.1, by simpa using h.1.2, ?_⟩
  unfold plainR
  rw [if_pos (by rw [h.2]; decide)]
theorem one_rend {k : Nat} {t r : List UInt8} (h : GoodT k t) (hr : SepR r) : oneR (rendL k t ++ r) = .tok k t (rendL k t).length := by
  cases h with
  | op => rfl
  | cl => rfl
  | sym h =>
    by_cases hp : plainB t = true
    · have hw := plain_word hp
      simp only [rendL, hp]
      simp only [beq_self_eq_true, if_true]
      rw [one_word hw.1 hw.2.1 hr, hw.2.2]
    · have h : t.all inB = true := h.resolve_left hp
      simp only [rendL, hp]
      have := quo_app t [] r h
      simp [oneR, this]
  | str h =>
    have := lit_app t [] 1 r h hr
    simp [rendL, oneR, this]; omega
  | key h hne =>
    have := word_app h hr
    simp [rendL, oneR, this, keyR, hne]
  | num hk h hne hp hd =>
    have : rendL k t = t := by rcases hk with rfl | rfl <;> rfl
    rw [this, one_word h hne hr, hp]
  | @bas w h hb =>
    have hw := word_app h hr
    have : rendL 7 (35 :: w) = 35 :: w := rfl
    rw [this]
    simp only [List.cons_append, oneR, hw, hb]
    simp
theorem head_skip {s : List UInt8} (h : HeadR s) (r : List UInt8) : skipM false (s ++ r) = 0 := by
  obtain ⟨c, s', rfl, h1, h2⟩ := h
  simp [skipM, h1, h2]
/-- alone -/
theorem alone {k : Nat} {t : List UInt8} (h : GoodT k t) : Toks (rendL k t) 0 [⟨k, t, 0⟩] (rendL k t).length 0 := by
  have h1 := head_skip (rend_head h) []
  have h2 := one_rend h (.inl rfl)
  have h3 := one_n h2
  simp only [List.append_nil] at h1 h2 h3
  have hd : (rendL k t).drop 0 = rendL k t := rfl
  have := Toks.step (b := rendL k t) (at_ := 0) (k := k) (n := (rendL k t).length) (t := t) (l := []) (p := (rendL k t).length) (e := 0) (by rw [hd, h1]; omega) (by rw [hd, h1]; exact h2)
    (by rw [hd, h1]; exact .done (by omega))
  rw [hd, h1] at this
  exact this
/-- a plain symbol -/
theorem plain_alone {s : List UInt8} (h : plainB s = true) : Toks s 0 [⟨3, s, 0⟩] s.length 0 := by
  have := alone (GoodT.sym (.inl h))
  simpa [rendL, h] using this

/-- blanks that may stand between: skipped whole, whatever stands behind -/
def BlankR (z : List UInt8) : Prop := (∃ c z', z = c :: z' ∧ sepB c = true) ∧ ∀ r, skipM false (z ++ r) = z.length + skipM false r
def between : List (List UInt8) := [[32], [10], [9, 32, 13], [59, 32, 40, 97, 32, 124, 10], [32, 59, 10, 10]]
theorem blank_get (i : Nat) (h : i < 5) : BlankR (between.getD i []) := by
  have : i = 0 ∨ i = 1 ∨ i = 2 ∨ i = 3 ∨ i = 4 := by omega
  rcases this with rfl | rfl | rfl | rfl | rfl
  · exact ⟨⟨_, _, rfl, by decide⟩, fun r => by simp [between, skipM, spB]⟩
  · exact ⟨⟨_, _, rfl, by decide⟩, fun r => by simp [between, skipM, spB]⟩
  · exact ⟨⟨_, _, rfl, by decide⟩, fun r => by simp [between, skipM, spB]; omega⟩
  · exact ⟨⟨_, _, rfl, by decide⟩, fun r => by simp [between, skipM, spB]; omega⟩
  · exact ⟨⟨_, _, rfl, by decide⟩, fun r => by simp [between, skipM, spB]; omega⟩
/-- tokens written one by one, blanks behind each -/
def writeL : List Tk → List (List UInt8) → List UInt8
  | t :: ts, z :: zs => rendL t.kind t.text ++ z ++ writeL ts zs
  | _, _ => []
theorem written : ∀ (ts : List Tk) (zs : List (List UInt8)) (b : List UInt8) (at_ : Nat), ts.length = zs.length → (∀ t ∈ ts, GoodT t.kind t.text) → (∀ z ∈ zs, BlankR z) → at_ ≤ b.length →
    (∃ z, (z = [] ∨ BlankR z) ∧ b.drop at_ = z ++ writeL ts zs) →
    ∃ l, Toks b at_ l b.length 0 ∧ l.length = ts.length ∧ ∀ i (h : i < l.length) (h' : i < ts.length), l[i].kind = ts[i].kind ∧ l[i].text = ts[i].text
  | [], zs, b, at_, hl, _, _, hat, ⟨z, hz, hb⟩ => by
    have hw : writeL [] zs = [] := by cases zs <;> rfl
    have hk : skipM false (b.drop at_) = (b.drop at_).length := by
      rw [hb, hw]
      rcases hz with rfl | hz
      · rfl
      · rw [hz.2]; simp [skipM]
    refine ⟨[], .done (by rw [hk]; simp; omega), rfl, fun i h => by simp at h⟩
  | t :: ts, [], b, at_, hl, _, _, hat, _ => by simp at hl
  | t :: ts, y :: zs, b, at_, hl, hg, hzs, hat, ⟨z, hz, hb⟩ => by
    have gt := hg t (by simp)
    have hy := hzs y (by simp)
    have hsep : SepR (y ++ writeL ts zs) := by
      obtain ⟨c, z', rfl, h⟩ := hy.1
      exact .inr ⟨c, _, rfl, h⟩
    have hk : skipM false (b.drop at_) = z.length := by
      have h1 := head_skip (rend_head gt) (y ++ writeL ts zs)
      rw [hb, writeL, List.append_assoc]
      rcases hz with rfl | hz
      · simpa using h1
      · rw [hz.2, h1]; rfl
    have ho := one_rend gt hsep
    have hn := one_n ho
    have hlen : (b.drop at_).length = (z ++ writeL (t :: ts) (y :: zs)).length := by rw [hb]
    simp only [List.length_drop, List.length_append, writeL] at hlen
    have hd : b.drop (at_ + z.length) = rendL t.kind t.text ++ (y ++ writeL ts zs) := by
      rw [← List.drop_drop, hb, writeL, List.drop_left, List.append_assoc]
    have hd2 : b.drop (at_ + z.length + (rendL t.kind t.text).length) = y ++ writeL ts zs := by
      rw [← List.drop_drop, hd, List.drop_left]
    obtain ⟨l, i1, i2, i3⟩ := written ts zs b (at_ + z.length + (rendL t.kind t.text).length) (by simpa using hl) (fun x hx => hg x (by simp [hx])) (fun x hx => hzs x (by simp [hx])) (by omega) ⟨y, .inr hy, hd2⟩
    refine ⟨⟨t.kind, t.text, at_ + z.length⟩ :: l, ?_, by simp [i2], ?_⟩
    · have := Toks.step (b := b) (at_ := at_) (k := t.kind) (n := (rendL t.kind t.text).length) (t := t.text) (l := l) (p := b.length) (e := 0) (by rw [hk]; omega) (by rw [hk, hd]; exact ho) (by rw [hk]; exact i1)
      rw [hk] at this; exact this
    · intro i h h'
      cases i with
      | zero => exact ⟨rfl, rfl⟩
      | succ i => simpa using i3 i (by simpa using h) (by simpa using h')
end Go.Proofs.YtlifankiljbdjaaDoor
