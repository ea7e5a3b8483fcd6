/- What is cut off behind a token leaves it; a token's own bytes, read again; plain. -/
import Derived.Test.YtlifankiljbdjaaDoorP0
namespace Go.Proofs.YtlifankiljbdjaaDoor

theorem skip_take : ∀ (s : List UInt8) (m : Bool) (j : Nat), skipM m s ≤ j → skipM m (s.take j) = skipM m s
  | [], m, j, _ => by simp
  | c :: s, m, 0, h => by
    have h0 : skipM m (c :: s) = 0 := by omega
    rw [h0]; cases m <;> simp [skipM]
  | c :: s, true, j + 1, h => by
    simp only [skipM, List.take_succ_cons] at h ⊢
    split at h
    · rw [if_pos (by assumption), if_pos (by assumption), skip_take s _ j (by omega)]
    · rw [if_neg (by assumption), if_neg (by assumption), skip_take s _ j (by omega)]
  | c :: s, false, j + 1, h => by
    simp only [skipM, List.take_succ_cons] at h ⊢
    by_cases h1 : spB c = true
    · simp only [h1, if_true] at h ⊢; rw [skip_take s _ j (by omega)]
    · simp only [h1] at h ⊢
      by_cases h2 : (c == 59) = true
      · simp only [h2, if_true] at h ⊢
        simp only [Bool.false_eq_true, if_false] at h ⊢
        rw [skip_take s _ j (by omega)]
      · simp [h2]
theorem tw_take (p : UInt8 → Bool) : ∀ (s : List UInt8) (j : Nat), (s.takeWhile p).length ≤ j → (s.take j).takeWhile p = s.takeWhile p
  | [], j, _ => by simp
  | c :: s, 0, h => by
    cases hp : p c with
    | true => simp [List.takeWhile_cons, hp] at h
    | false => simp [List.takeWhile_cons, hp]
  | c :: s, j + 1, h => by
    cases hp : p c with
    | true =>
      simp only [List.takeWhile_cons, hp, if_true, List.length_cons, List.take_succ_cons] at h ⊢
      rw [tw_take p s j (by omega)]
    | false => simp [List.takeWhile_cons, hp]
theorem quo_take : ∀ (s acc : List UInt8) (j : Nat) {k n : Nat} {t : List UInt8}, quo acc s = .tok k t n → n ≤ acc.length + 1 + j → quo acc (s.take j) = .tok k t n
  | [], acc, j, k, n, t, h, _ => by simp [quo] at h
  | c :: s, acc, 0, k, n, t, h, hn => by
    simp only [quo] at h
    split at h
    · cases h; omega
    · split at h
      · cases h
      · have h1 := quo_n _ _ h
        have h2 : (acc ++ [c]).length ≤ t.length := by
          have := (quo_ge s _ h); exact this
        simp at h2; omega
  | c :: s, acc, j + 1, k, n, t, h, hn => by
    simp only [quo, List.take_succ_cons] at h ⊢
    split at h
    · rw [if_pos (by assumption)]; exact h
    · rw [if_neg (by assumption)]
      split at h
      · cases h
      · rw [if_neg (by assumption)]; exact quo_take s _ j h (by simp; omega)
where quo_ge : ∀ (s acc : List UInt8) {k n : Nat} {t : List UInt8}, quo acc s = .tok k t n → acc.length ≤ t.length
  | [], acc, k, n, t, h => by simp [quo] at h
  | c :: s, acc, k, n, t, h => by
    simp only [quo] at h
    split at h
    · cases h; exact Nat.le_refl _
    · split at h
      · cases h
      · have := quo_ge s _ h; simp at this; omega
theorem lit_take : ∀ (s : List UInt8) (m : Bool) (acc : List UInt8) (i j : Nat) {k n : Nat} {t : List UInt8}, lit m acc i s = .tok k t n → n ≤ i + j → lit m acc i (s.take j) = .tok k t n
  | [], m, acc, i, j, k, n, t, h, _ => by simpa using h
  | c :: s, true, acc, i, 0, k, n, t, h, hn => by
    simp only [lit, List.take_zero] at h ⊢
    split at h
    · have := lit_n _ _ _ _ h; omega
    · exact h
  | c :: s, false, acc, i, 0, k, n, t, h, hn => by
    simp only [lit] at h
    split at h
    · cases h
    · split at h
      · have := lit_n _ _ _ _ h; omega
      · have := lit_n _ _ _ _ h; omega
  | c :: s, true, acc, i, j + 1, k, n, t, h, hn => by
    simp only [lit, List.take_succ_cons] at h ⊢
    split at h
    · rw [if_pos (by assumption)]; exact lit_take s _ _ _ j h (by omega)
    · rw [if_neg (by assumption)]; exact h
  | c :: s, false, acc, i, j + 1, k, n, t, h, hn => by
    simp only [lit, List.take_succ_cons] at h ⊢
    split at h
    · cases h
    · rw [if_neg (by assumption)]
      split at h
      · rw [if_pos (by assumption)]; exact lit_take s _ _ _ j h (by omega)
      · rw [if_neg (by assumption)]; exact lit_take s _ _ _ j h (by omega)
theorem one_take {s : List UInt8} {k n : Nat} {t : List UInt8} (h : oneR s = .tok k t n) {j : Nat} (hj : n ≤ j) : oneR (s.take j) = .tok k t n := by
  have h0 := one_n h
  cases s with
  | nil => simp [oneR] at h
  | cons c s =>
    obtain ⟨j, rfl⟩ : ∃ i, j = i + 1 := ⟨j - 1, by omega⟩
    simp only [oneR, List.take_succ_cons] at h ⊢
    by_cases c1 : (c == 40) = true
    · rw [if_pos c1] at h ⊢; exact h
    · rw [if_neg c1] at h ⊢
      by_cases c2 : (c == 41) = true
      · rw [if_pos c2] at h ⊢; exact h
      · rw [if_neg c2] at h ⊢
        by_cases c3 : (c == 124) = true
        · rw [if_pos c3] at h ⊢; exact quo_take _ _ _ h (by simp; omega)
        · rw [if_neg c3] at h ⊢
          by_cases c4 : (c == 34) = true
          · rw [if_pos c4] at h ⊢; exact lit_take _ _ _ _ _ h (by omega)
          · rw [if_neg c4] at h ⊢
            by_cases c5 : (c == 58) = true
            · rw [if_pos c5] at h ⊢
              have : (wordL s).length + 1 = n := by
                unfold keyR at h; split at h
                · cases h
                · cases h; rfl
              unfold wordL at *
              rw [tw_take _ _ _ (by omega)]; exact h
            · rw [if_neg c5] at h ⊢
              by_cases c6 : (c == 35) = true
              · rw [if_pos c6] at h ⊢
                have : (wordL s).length + 1 = n := by
                  unfold basedR at h; split at h
                  · cases h
                  · split at h
                    · cases h; rfl
                    · cases h
                unfold wordL at *
                rw [tw_take _ _ _ (by omega)]; exact h
              · rw [if_neg c6] at h ⊢
                by_cases c7 : syB c = true
                · rw [if_pos c7] at h ⊢
                  have h1 := (plainR_n h).2.1
                  have : (wordL (c :: s.take j)) = wordL (c :: s) := by
                    unfold wordL at *
                    have := tw_take syB (c :: s) (j + 1) (by omega)
                    simpa using this
                  rw [this]; exact h
                · rw [if_neg c7] at h ⊢; exact h
theorem Toks.places {b : List UInt8} {at_ : Nat} {l : List Tk} {p e : Nat} (h : Toks b at_ l p e) : ∀ k (hk : k < l.length), at_ ≤ l[k].at_ ∧ l[k].at_ < b.length ∧ (∀ j (hj : j < k), l[j].at_ < l[k].at_) := by
  induction h with
  | done _ => intro k hk; simp at hk
  | bad _ _ => intro k hk; simp at hk
  | step h1 h2 h3 ih =>
    intro k hk
    have hn := one_n h2
    cases k with
    | zero => exact ⟨by simp, by simpa using h1, fun j hj => by omega⟩
    | succ k =>
      have := ih k (by simpa using hk)
      refine ⟨by simp; omega, by simpa using this.2.1, fun j hj => ?_⟩
      cases j with
      | zero => simp; omega
      | succ j => simpa using this.2.2 j (by omega)
/-- cut at the place of a token: those ahead of it -/
theorem Toks.cut {b : List UInt8} {at_ : Nat} {l : List Tk} {p e : Nat} (h : Toks b at_ l p e) : ∀ k (hk : k < l.length), Toks (b.take l[k].at_) at_ (l.take k) l[k].at_ 0 := by
  induction h with
  | done _ => intro k hk; simp at hk
  | bad _ _ => intro k hk; simp at hk
  | @step at_ kk n p e t l h1 h2 h3 ih =>
    intro k hk
    have hn := one_n h2
    have hp := (Toks.step h1 h2 h3).places k hk
    cases k with
    | zero =>
      simp only [List.getElem_cons_zero, List.take_zero] at hp ⊢
      have hl : (b.take (at_ + skipM false (b.drop at_))).length = at_ + skipM false (b.drop at_) := by simp; omega
      have hd : (b.take (at_ + skipM false (b.drop at_))).drop at_ = (b.drop at_).take (skipM false (b.drop at_)) := by rw [List.drop_take]; congr 1; omega
      have := Toks.done (b := b.take (at_ + skipM false (b.drop at_))) (at_ := at_) (by rw [hl, hd, skip_take _ _ _ (Nat.le_refl _)]; exact Nat.le_refl _)
      rw [hl] at this; exact this
    | succ k =>
      have hk' : k < l.length := by simpa using hk
      have hq := h3.places k hk'
      simp only [List.getElem_cons_succ, List.take_succ_cons] at hp ⊢
      generalize hm : l[k].at_ = m at *
      have hd : (b.take m).drop at_ = (b.drop at_).take (m - at_) := by rw [List.drop_take]
      have hs : skipM false ((b.take m).drop at_) = skipM false (b.drop at_) := by rw [hd, skip_take _ _ _ (by omega)]
      have ho : oneR ((b.take m).drop (at_ + skipM false (b.drop at_))) = .tok kk t n := by
        rw [List.drop_take]; exact one_take h2 (by omega)
      have h3' := ih k hk'
      rw [hm] at h3'
      have := Toks.step (b := b.take m) (at_ := at_) (k := kk) (n := n) (t := t) (l := l.take k) (p := m) (e := 0) (by rw [hs]; simp; omega) (by rw [hs]; exact ho) (by rw [hs]; exact h3')
      rw [hs] at this
      exact this

/-- a text's double quotes doubled -/
def dblL : List UInt8 → List UInt8
  | [] => []
  | c :: s => if c == 34 then 34 :: 34 :: dblL s else c :: dblL s
/-- a token's bytes -/
def rendL (k : Nat) (t : List UInt8) : List UInt8 :=
  if k == 3 then (if plainB t then t else 124 :: (t ++ [124]))
  else if k == 5 then 34 :: (dblL t ++ [34])
  else if k == 6 then 58 :: t
  else t
/-- what ends a word, and leaves a double quote alone -/
def sepB (c : UInt8) : Bool := spB c || c == 59
def SepR (r : List UInt8) : Prop := r = [] ∨ ∃ c r', r = c :: r' ∧ sepB c = true
theorem u8_all {p : UInt8 → Bool} (h : (List.range 256).all (fun n => p (UInt8.ofNat n)) = true) (c : UInt8) : p c = true := by
  have := List.all_eq_true.1 h c.toNat (by simp; exact c.toNat_lt)
  simpa using this
theorem sep_not (c : UInt8) (h : sepB c = true) : syB c = false ∧ c ≠ 34 := by
  have := u8_all (p := fun c => !sepB c || (!syB c && c != 34)) (by decide +kernel) c
  simpa [h] using this
theorem SepR.tw {r : List UInt8} (h : SepR r) : r.takeWhile syB = [] := by
  rcases h with rfl | ⟨c, r', rfl, h⟩
  · rfl
  · simp [List.takeWhile_cons, (sep_not c h).1]
theorem word_app {w r : List UInt8} (hw : w.all syB = true) (h : SepR r) : wordL (w ++ r) = w := by
  unfold wordL
  rw [List.takeWhile_append_of_pos (by simpa using hw), h.tw, List.append_nil]
def inB (c : UInt8) : Bool := txB c && c != 124 && c != 92
theorem quo_app : ∀ (t acc r : List UInt8), t.all inB = true → quo acc (t ++ 124 :: r) = .tok 3 (acc ++ t) (acc.length + t.length + 2)
  | [], acc, r, _ => by simp [quo]
  | c :: t, acc, r, h => by
    simp only [List.all_cons, Bool.and_eq_true, inB] at h
    obtain ⟨⟨⟨h1, h2⟩, h3⟩, h4⟩ := h
    simp only [List.cons_append, quo]
    rw [if_neg (by simpa using h2), if_neg (by simp at h3; simp [h3, h1]), quo_app t _ r h4]
    simp; omega
theorem lit_app : ∀ (t acc : List UInt8) (i : Nat) (r : List UInt8), t.all txB = true → SepR r → lit false acc i (dblL t ++ 34 :: r) = .tok 5 (acc ++ t) (i + (dblL t).length + 1)
  | [], acc, i, r, _, h => by
    have h34 : txB 34 = true := by decide
    simp only [dblL, List.nil_append, lit, h34]
    rcases h with rfl | ⟨c, r', rfl, hc⟩
    · simp [lit]
    · simp [lit, (sep_not c hc).2]
  | c :: t, acc, i, r, h, hr => by
    simp only [List.all_cons, Bool.and_eq_true] at h
    simp only [dblL]
    split
    · rename_i hc
      have hc : c = 34 := by simpa using hc
      subst hc
      have h34 : txB 34 = true := by decide
      simp only [List.cons_append, lit, h34]
      simp only [Bool.not_true, Bool.false_eq_true, if_false, beq_self_eq_true, if_true]
      rw [lit_app t _ _ r h.2 hr]; simp; omega
    · rename_i hc
      simp only [List.cons_append, lit]
      rw [if_neg (by simp [h.1]), if_neg hc, lit_app t _ _ r h.2 hr]; simp; omega
/-- what tokens are -/
inductive GoodT : Nat → List UInt8 → Prop
  | op : GoodT 1 [40]
  | cl : GoodT 2 [41]
  | sym {t} : plainB t = true ∨ t.all inB = true → GoodT 3 t
  | str {t} : t.all txB = true → GoodT 5 t
  | key {t} : t.all syB = true → t ≠ [] → GoodT 6 t
  | num {k t} : (k = 4 ∨ k = 7) → t.all syB = true → t ≠ [] → plainR t = .tok k t t.length → dgB (t.getD 0 0) = true → GoodT k t
  | bas {w} : w.all syB = true → basedR w = .tok 7 (35 :: w) (w.length + 1) → GoodT 7 (35 :: w)
theorem quo_good : ∀ (s acc : List UInt8) {k n : Nat} {t : List UInt8}, quo acc s = .tok k t n → acc.all inB = true → t.all inB = true
  | [], acc, k, n, t, h, _ => by simp [quo] at h
  | c :: s, acc, k, n, t, h, ha => by
    simp only [quo] at h
    split at h
    · cases h; exact ha
    · split at h
      · cases h
      · rename_i h1 h2
        refine quo_good s _ h ?_
        simp only [List.all_append, List.all_cons, List.all_nil, Bool.and_true, ha, Bool.true_and]
        simp at h1 h2
        simp [inB, h1, h2]
theorem lit_good : ∀ (s : List UInt8) (m : Bool) (acc : List UInt8) (i : Nat) {k n : Nat} {t : List UInt8}, lit m acc i s = .tok k t n → acc.all txB = true → t.all txB = true
  | [], true, acc, i, k, n, t, h, ha => by simp only [lit] at h; cases h; exact ha
  | [], false, acc, i, k, n, t, h, ha => by simp [lit] at h
  | c :: s, true, acc, i, k, n, t, h, ha => by
    simp only [lit] at h
    split at h
    · refine lit_good s _ _ _ h ?_
      have h34 : txB 34 = true := by decide
      simp only [List.all_append, ha, List.all_cons, h34, List.all_nil, Bool.and_self]
    · cases h; exact ha
  | c :: s, false, acc, i, k, n, t, h, ha => by
    simp only [lit] at h
    split at h
    · cases h
    · rename_i h1
      split at h
      · exact lit_good s _ _ _ h ha
      · refine lit_good s _ _ _ h ?_
        simp at h1 ha
        simp [h1]; exact ha
theorem word_all (s : List UInt8) : (wordL s).all syB = true := by unfold wordL; exact List.all_takeWhile
theorem one_good {s : List UInt8} {k n : Nat} {t : List UInt8} (h : oneR s = .tok k t n) : GoodT k t := by
  cases s with
  | nil => simp [oneR] at h
  | cons c s =>
    simp only [oneR] at h
    split at h
    · cases h; exact .op
    · split at h
      · cases h; exact .cl
      · split at h
        · have hk := (quo_n _ _ h).1
          subst hk
          exact .sym (.inr (quo_good _ _ h rfl))
        · split at h
          · have hk := (lit_n _ _ _ _ h).1
            subst hk
            exact .str (lit_good _ _ _ _ h rfl)
          · split at h
            · unfold keyR at h
              split at h
              · cases h
              · rename_i he
                cases h; exact .key (word_all _) (by simpa using he)
            · split at h
              · have h' := h
                unfold basedR at h
                split at h
                · cases h
                · split at h
                  · cases h; exact .bas (word_all _) h'
                  · cases h
              · split at h
                · rename_i hs
                  have hne : wordL (c :: s) ≠ [] := by unfold wordL; rw [List.takeWhile_cons, if_pos hs]; simp
                  obtain ⟨rfl, rfl, hk⟩ := plainR_n h
                  by_cases hd : dgB ((wordL (c :: s)).getD 0 0) = true
                  · have hk2 : k = 4 ∨ k = 7 := by
                      unfold plainR at h
                      rw [if_neg (by rw [hd]; decide)] at h
                      simp only at h
                      split at h
                      · cases h
                      · split at h
                        · cases h; exact .inl rfl
                        · split at h
                          · cases h
                          · cases h; exact .inr rfl
                    exact .num hk2 (word_all _) hne h hd
                  · have hd' : dgB ((wordL (c :: s)).getD 0 0) = false := by simpa using hd
                    have : k = 3 := by
                      unfold plainR at h
                      rw [if_pos (by rw [hd']; decide)] at h
                      cases h; rfl
                    subst this
                    refine .sym (.inl ?_)
                    unfold plainB
                    simp only [Bool.and_eq_true, Bool.not_eq_true']
                    exact ⟨⟨word_all _, by simpa using hne⟩, hd'⟩
                · cases h
theorem Toks.good {b : List UInt8} {at_ : Nat} {l : List Tk} {p e : Nat} (h : Toks b at_ l p e) : ∀ t ∈ l, GoodT t.kind t.text := by
  induction h with
  | done _ => simp
  | bad _ _ => simp
  | step _ h2 _ ih =>
    intro t ht
    rcases List.mem_cons.1 ht with rfl | ht
    · exact one_good h2
    · exact ih t ht
end Go.Proofs.YtlifankiljbdjaaDoor
