/- The lexer's words, plain: what a byte may be, what is skipped, one token, all tokens. What is cut off behind a token leaves it; a token's own bytes, read again; plain. A token's own bytes are read as it; tokens with blanks between are read as they were; plain. -/
namespace Go.Proofs.YtdompkenblnjjaaGreat

def spB (c : UInt8) : Bool := c == 9 || c == 10 || c == 13 || c == 32
def dgB (c : UInt8) : Bool := 48 ≤ c && c ≤ 57
def hxB (c : UInt8) : Bool := dgB c || (65 ≤ c && c ≤ 70) || (97 ≤ c && c ≤ 102)
def extraL : List UInt8 := [126, 33, 64, 36, 37, 94, 38, 42, 95, 45, 43, 61, 60, 62, 46, 63, 47]
def syB (c : UInt8) : Bool := dgB c || (65 ≤ c && c ≤ 90) || (97 ≤ c && c ≤ 122) || extraL.contains c
def txB (c : UInt8) : Bool := (32 ≤ c && c ≤ 126) || c > 127 || spB c
/-- the class of a byte, as the program's table has it -/
def clB (c : UInt8) : Nat := (if spB c then 1 else 0) + (if syB c then 2 else 0) + (if dgB c then 4 else 0) + (if hxB c then 8 else 0) + (if txB c then 16 else 0)

/-- how many bytes blanks and comments take (true: within a comment) -/
def skipM : Bool → List UInt8 → Nat
  | _, [] => 0
  | true, c :: s => if c == 10 then 1 + skipM false s else 1 + skipM true s
  | false, c :: s => if spB c then 1 + skipM false s else if c == 59 then 1 + skipM true s else 0

inductive Res where
  | tok (kind : Nat) (text : List UInt8) (n : Nat)
  | err (e : Nat)
deriving DecidableEq

/-- behind the first bar: the text so far -/
def quo : List UInt8 → List UInt8 → Res
  | _, [] => .err 31
  | acc, c :: s => if c == 124 then .tok 3 acc (acc.length + 2) else if c == 92 || !txB c then .err 30 else quo (acc ++ [c]) s
/-- behind the first double quote (true: behind one that may be doubled): the text so far, and how many bytes were read -/
def lit : Bool → List UInt8 → Nat → List UInt8 → Res
  | true, acc, n, [] => .tok 5 acc n
  | false, _, _, [] => .err 31
  | true, acc, n, c :: s => if c == 34 then lit false (acc ++ [34]) (n + 1) s else .tok 5 acc n
  | false, acc, n, c :: s => if !txB c then .err 30 else if c == 34 then lit true acc (n + 1) s else lit false (acc ++ [c]) (n + 1) s
def allB (p : UInt8 → Bool) (l : List UInt8) : Bool := l.all p && !l.isEmpty
def wordL (s : List UInt8) : List UInt8 := s.takeWhile syB
/-- a word that begins with no digit, or a number -/
def plainR (w : List UInt8) : Res :=
  if !(dgB (w.getD 0 0)) then .tok 3 w w.length
  else
    let whole := w.takeWhile (· != 46)
    let part := (w.dropWhile (· != 46)).drop 1
    if !allB dgB whole || (whole.getD 0 0 == 48 && decide (1 < whole.length)) then .err 5
    else if !w.contains 46 then .tok 4 w w.length
    else if !allB dgB part then .err 5
    else .tok 7 w w.length
def basedR (w : List UInt8) : Res :=
  if w.isEmpty then .err 30
  else if (w.getD 0 0 == 120 && allB hxB (w.drop 1)) || (w.getD 0 0 == 98 && allB (fun c => c == 48 || c == 49) (w.drop 1)) then .tok 7 (35 :: w) (w.length + 1)
  else .err 5
def keyR (w : List UInt8) : Res := if w.isEmpty then .err 30 else .tok 6 w (w.length + 1)
/-- the token that begins here -/
def oneR : List UInt8 → Res
  | [] => .err 0
  | c :: s =>
    if c == 40 then .tok 1 [40] 1
    else if c == 41 then .tok 2 [41] 1
    else if c == 124 then quo [] s
    else if c == 34 then lit false [] 1 s
    else if c == 58 then keyR (wordL s)
    else if c == 35 then basedR (wordL s)
    else if syB c then plainR (wordL (c :: s))
    else .err 30

structure Tk where
  kind : Nat
  text : List UInt8
  at_ : Nat
deriving DecidableEq

/-- from a place on: the tokens, how far, what is wrong there -/
inductive Toks (b : List UInt8) : Nat → List Tk → Nat → Nat → Prop
  | done {at_ : Nat} : b.length ≤ at_ + skipM false (b.drop at_) → Toks b at_ [] b.length 0
  | bad {at_ e : Nat} : at_ + skipM false (b.drop at_) < b.length → oneR (b.drop (at_ + skipM false (b.drop at_))) = .err e → Toks b at_ [] (at_ + skipM false (b.drop at_)) e
  | step {at_ k n p e : Nat} {t : List UInt8} {l : List Tk} : at_ + skipM false (b.drop at_) < b.length → oneR (b.drop (at_ + skipM false (b.drop at_))) = .tok k t n → Toks b (at_ + skipM false (b.drop at_) + n) l p e →
      Toks b at_ (⟨k, t, at_ + skipM false (b.drop at_)⟩ :: l) p e
/-- symbols that may stand without bars -/
def plainB (s : List UInt8) : Bool := s.all syB && !s.isEmpty && !(dgB (s.getD 0 0))

set_option maxRecDepth 100000 in
theorem skip_le : ∀ (m : Bool) (s : List UInt8), skipM m s ≤ s.length
  | _, [] => by cases ‹Bool› <;> simp [skipM]
  | true, c :: s => by
    have h1 := skip_le false s
    have h2 := skip_le true s
    simp only [skipM]
    split <;> simp <;> omega
  | false, c :: s => by
    have h1 := skip_le false s
    have h2 := skip_le true s
    simp only [skipM]
    split
    · simp; omega
    · split <;> simp; omega
set_option maxRecDepth 100000 in
theorem quo_n : ∀ (s acc : List UInt8) {k n : Nat} {t : List UInt8}, quo acc s = .tok k t n → k = 3 ∧ n = t.length + 2 ∧ n ≤ acc.length + 1 + s.length
  | [], acc, k, n, t, h => by simp [quo] at h
  | c :: s, acc, k, n, t, h => by
    simp only [quo] at h
    split at h
    · cases h; simp; omega
    · split at h
      · cases h
      · have := quo_n s _ h; simp at this ⊢; omega
set_option maxRecDepth 100000 in
theorem lit_n : ∀ (s : List UInt8) (m : Bool) (acc : List UInt8) (i : Nat) {k n : Nat} {t : List UInt8}, lit m acc i s = .tok k t n → k = 5 ∧ i ≤ n ∧ n ≤ i + s.length ∧ t.length + i ≤ n + acc.length
  | [], true, acc, i, k, n, t, h => by simp only [lit] at h; cases h; simp; omega
  | [], false, acc, i, k, n, t, h => by simp [lit] at h
  | c :: s, true, acc, i, k, n, t, h => by
    simp only [lit] at h
    split at h
    · have := lit_n s _ _ _ h; simp at this ⊢; omega
    · cases h; simp; omega
  | c :: s, false, acc, i, k, n, t, h => by
    simp only [lit] at h
    split at h
    · cases h
    · split at h
      · have := lit_n s _ _ _ h; simp at this ⊢; omega
      · have := lit_n s _ _ _ h; simp at this ⊢; omega
set_option maxRecDepth 100000 in
theorem plainR_n {w : List UInt8} {k n : Nat} {t : List UInt8} (h : plainR w = .tok k t n) : t = w ∧ n = w.length ∧ (k = 3 ∨ k = 4 ∨ k = 7) := by
  unfold plainR at h
  split at h
  · cases h; simp
  · simp only at h
    split at h
    · cases h
    · split at h
      · cases h; simp
      · split at h
        · cases h
        · cases h; simp
set_option maxRecDepth 100000 in
theorem word_le (s : List UInt8) : (wordL s).length ≤ s.length := (List.takeWhile_sublist syB).length_le
set_option maxRecDepth 100000 in
theorem one_n {s : List UInt8} {k n : Nat} {t : List UInt8} (h : oneR s = .tok k t n) : 1 ≤ n ∧ n ≤ s.length ∧ t.length ≤ n ∧ k < 8 := by
  cases s with
  | nil => simp [oneR] at h
  | cons c s =>
    simp only [oneR] at h
    have hw := word_le s
    split at h
    · cases h; simp
    · split at h
      · cases h; simp
      · split at h
        · have := quo_n _ _ h; simp at this ⊢; omega
        · split at h
          · have := lit_n _ _ _ _ h; simp at this ⊢; omega
          · split at h
            · unfold keyR at h
              split at h
              · cases h
              · cases h; simp; omega
            · split at h
              · unfold basedR at h
                split at h
                · cases h
                · split at h
                  · cases h; simp; omega
                  · cases h
              · split at h
                · rename_i hs
                  obtain ⟨rfl, rfl, hk⟩ := plainR_n h
                  have h1 := word_le (c :: s)
                  have h2 : 1 ≤ (wordL (c :: s)).length := by unfold wordL; rw [List.takeWhile_cons, if_pos hs]; simp
                  refine ⟨h2, h1, Nat.le_refl _, by omega⟩
                · cases h
set_option maxRecDepth 100000 in
theorem Toks.uniq {b : List UInt8} {at_ : Nat} {l : List Tk} {p e : Nat} (h : Toks b at_ l p e) : ∀ {l' : List Tk} {p' e' : Nat}, Toks b at_ l' p' e' → l = l' ∧ p = p' ∧ e = e' := by
  induction h with
  | done h1 =>
    intro l' p' e' h'
    cases h' with
    | done _ => exact ⟨rfl, rfl, rfl⟩
    | bad g1 _ => omega
    | step g1 _ _ => omega
  | bad h1 h2 =>
    intro l' p' e' h'
    cases h' with
    | done _ => omega
    | bad g1 g2 => rw [h2] at g2; cases g2; exact ⟨rfl, rfl, rfl⟩
    | step g1 g2 _ => rw [h2] at g2; cases g2
  | step h1 h2 h3 ih =>
    intro l' p' e' h'
    cases h' with
    | done _ => omega
    | bad g1 g2 => rw [h2] at g2; cases g2
    | step g1 g2 g3 =>
      rw [h2] at g2; cases g2
      obtain ⟨rfl, rfl, rfl⟩ := ih g3
      exact ⟨rfl, rfl, rfl⟩
end Go.Proofs.YtdompkenblnjjaaGreat
namespace Go.Proofs.YtdompkenblnjjaaGreat

set_option maxRecDepth 100000 in
theorem skip_take : ∀ (s : List UInt8) (m : Bool) (j : Nat), skipM m s ≤ j → skipM m (s.take j) = skipM m s
  | [], m, j, _ => by simp
  | c :: s, m, 0, h => by
    have h0 : skipM m (c :: s) = 0 := by omega
    rw [h0]; cases m <;> simp [skipM]
  | c :: s, true, j + 1, h => by
    simp only [skipM, List.take_succ_cons] at h ⊢
    split at h
    · rw [if_pos (by assumption), if_pos (by assumption), skip_take s _ j (by omega)]
    · rw [if_neg (by assumption), if_neg (by assumption), skip_take s _ j (by omega)]
  | c :: s, false, j + 1, h => by
    simp only [skipM, List.take_succ_cons] at h ⊢
    by_cases h1 : spB c = true
    · simp only [h1, if_true] at h ⊢; rw [skip_take s _ j (by omega)]
    · simp only [h1] at h ⊢
      by_cases h2 : (c == 59) = true
      · simp only [h2, if_true] at h ⊢
        simp only [Bool.false_eq_true, if_false] at h ⊢
        rw [skip_take s _ j (by omega)]
      · simp [h2]
set_option maxRecDepth 100000 in
theorem tw_take (p : UInt8 → Bool) : ∀ (s : List UInt8) (j : Nat), (s.takeWhile p).length ≤ j → (s.take j).takeWhile p = s.takeWhile p
  | [], j, _ => by simp
  | c :: s, 0, h => by
    cases hp : p c with
    | true => simp [hp] at h
    | false => simp [hp]
  | c :: s, j + 1, h => by
    cases hp : p c with
    | true =>
      simp only [List.takeWhile_cons, hp, if_true, List.length_cons, List.take_succ_cons] at h ⊢
      rw [tw_take p s j (by omega)]
    | false => simp [hp]
set_option maxRecDepth 100000 in
theorem quo_take : ∀ (s acc : List UInt8) (j : Nat) {k n : Nat} {t : List UInt8}, quo acc s = .tok k t n → n ≤ acc.length + 1 + j → quo acc (s.take j) = .tok k t n
  | [], acc, j, k, n, t, h, _ => by simp [quo] at h
  | c :: s, acc, 0, k, n, t, h, hn => by
    simp only [quo] at h
    split at h
    · cases h; omega
    · split at h
      · cases h
      · have h1 := quo_n _ _ h
        have h2 : (acc ++ [c]).length ≤ t.length := by
          have := (quo_ge s _ h); exact this
        simp at h2; omega
  | c :: s, acc, j + 1, k, n, t, h, hn => by
    simp only [quo, List.take_succ_cons] at h ⊢
    split at h
    · rw [if_pos (by assumption)]; exact h
    · rw [if_neg (by assumption)]
      split at h
      · cases h
      · rw [if_neg (by assumption)]; exact quo_take s _ j h (by simp; omega)
where quo_ge : ∀ (s acc : List UInt8) {k n : Nat} {t : List UInt8}, quo acc s = .tok k t n → acc.length ≤ t.length
  | [], acc, k, n, t, h => by simp [quo] at h
  | c :: s, acc, k, n, t, h => by
    simp only [quo] at h
    split at h
    · cases h; exact Nat.le_refl _
    · split at h
      · cases h
      · have := quo_ge s _ h; simp at this; omega
set_option maxRecDepth 100000 in
theorem lit_take : ∀ (s : List UInt8) (m : Bool) (acc : List UInt8) (i j : Nat) {k n : Nat} {t : List UInt8}, lit m acc i s = .tok k t n → n ≤ i + j → lit m acc i (s.take j) = .tok k t n
  | [], m, acc, i, j, k, n, t, h, _ => by simpa using h
  | c :: s, true, acc, i, 0, k, n, t, h, hn => by
    simp only [lit, List.take_zero] at h ⊢
    split at h
    · have := lit_n _ _ _ _ h; omega
    · exact h
  | c :: s, false, acc, i, 0, k, n, t, h, hn => by
    simp only [lit] at h
    split at h
    · cases h
    · split at h
      · have := lit_n _ _ _ _ h; omega
      · have := lit_n _ _ _ _ h; omega
  | c :: s, true, acc, i, j + 1, k, n, t, h, hn => by
    simp only [lit, List.take_succ_cons] at h ⊢
    split at h
    · rw [if_pos (by assumption)]; exact lit_take s _ _ _ j h (by omega)
    · rw [if_neg (by assumption)]; exact h
  | c :: s, false, acc, i, j + 1, k, n, t, h, hn => by
    simp only [lit, List.take_succ_cons] at h ⊢
    split at h
    · cases h
    · rw [if_neg (by assumption)]
      split at h
      · rw [if_pos (by assumption)]; exact lit_take s _ _ _ j h (by omega)
      · rw [if_neg (by assumption)]; exact lit_take s _ _ _ j h (by omega)
set_option maxRecDepth 100000 in
theorem one_take {s : List UInt8} {k n : Nat} {t : List UInt8} (h : oneR s = .tok k t n) {j : Nat} (hj : n ≤ j) : oneR (s.take j) = .tok k t n := by
  have h0 := one_n h
  cases s with
  | nil => simp [oneR] at h
  | cons c s =>
    obtain ⟨j, rfl⟩ : ∃ i, j = i + 1 := ⟨j - 1, by omega⟩
    simp only [oneR, List.take_succ_cons] at h ⊢
    by_cases c1 : (c == 40) = true
    · rw [if_pos c1] at h ⊢; exact h
    · rw [if_neg c1] at h ⊢
      by_cases c2 : (c == 41) = true
      · rw [if_pos c2] at h ⊢; exact h
      · rw [if_neg c2] at h ⊢
        by_cases c3 : (c == 124) = true
        · rw [if_pos c3] at h ⊢; exact quo_take _ _ _ h (by simp; omega)
        · rw [if_neg c3] at h ⊢
          by_cases c4 : (c == 34) = true
          · rw [if_pos c4] at h ⊢; exact lit_take _ _ _ _ _ h (by omega)
          · rw [if_neg c4] at h ⊢
            by_cases c5 : (c == 58) = true
            · rw [if_pos c5] at h ⊢
              have : (wordL s).length + 1 = n := by
                unfold keyR at h; split at h
                · cases h
                · cases h; rfl
              unfold wordL at *
              rw [tw_take _ _ _ (by omega)]; exact h
            · rw [if_neg c5] at h ⊢
              by_cases c6 : (c == 35) = true
              · rw [if_pos c6] at h ⊢
                have : (wordL s).length + 1 = n := by
                  unfold basedR at h; split at h
                  · cases h
                  · split at h
                    · cases h; rfl
                    · cases h
                unfold wordL at *
                rw [tw_take _ _ _ (by omega)]; exact h
              · rw [if_neg c6] at h ⊢
                by_cases c7 : syB c = true
                · rw [if_pos c7] at h ⊢
                  have h1 := (plainR_n h).2.1
                  have : (wordL (c :: s.take j)) = wordL (c :: s) := by
                    unfold wordL at *
                    have := tw_take syB (c :: s) (j + 1) (by omega)
                    simpa using this
                  rw [this]; exact h
                · rw [if_neg c7] at h ⊢; exact h
set_option maxRecDepth 100000 in
theorem Toks.places {b : List UInt8} {at_ : Nat} {l : List Tk} {p e : Nat} (h : Toks b at_ l p e) : ∀ k (hk : k < l.length), at_ ≤ l[k].at_ ∧ l[k].at_ < b.length ∧ (∀ j (hj : j < k), l[j].at_ < l[k].at_) := by
  induction h with
  | done _ => intro k hk; simp at hk
  | bad _ _ => intro k hk; simp at hk
  | step h1 h2 h3 ih =>
    intro k hk
    have hn := one_n h2
    cases k with
    | zero => exact ⟨by simp, by simpa using h1, fun j hj => by omega⟩
    | succ k =>
      have := ih k (by simpa using hk)
      refine ⟨by simp; omega, by simpa using this.2.1, fun j hj => ?_⟩
      cases j with
      | zero => simp; omega
      | succ j => simpa using this.2.2 j (by omega)
set_option maxRecDepth 100000 in
/-- cut at the place of a token: those ahead of it -/
theorem Toks.cut {b : List UInt8} {at_ : Nat} {l : List Tk} {p e : Nat} (h : Toks b at_ l p e) : ∀ k (hk : k < l.length), Toks (b.take l[k].at_) at_ (l.take k) l[k].at_ 0 := by
  induction h with
  | done _ => intro k hk; simp at hk
  | bad _ _ => intro k hk; simp at hk
  | @step at_ kk n p e t l h1 h2 h3 ih =>
    intro k hk
    have hn := one_n h2
    have hp := (Toks.step h1 h2 h3).places k hk
    cases k with
    | zero =>
      simp only [List.getElem_cons_zero, List.take_zero] at hp ⊢
      have hl : (b.take (at_ + skipM false (b.drop at_))).length = at_ + skipM false (b.drop at_) := by simp; omega
      have hd : (b.take (at_ + skipM false (b.drop at_))).drop at_ = (b.drop at_).take (skipM false (b.drop at_)) := by rw [List.drop_take]; congr 1; omega
      have := Toks.done (b := b.take (at_ + skipM false (b.drop at_))) (at_ := at_) (by rw [hl, hd, skip_take _ _ _ (Nat.le_refl _)]; exact Nat.le_refl _)
      rw [hl] at this; exact this
    | succ k =>
      have hk' : k < l.length := by simpa using hk
      have hq := h3.places k hk'
      simp only [List.getElem_cons_succ, List.take_succ_cons] at hp ⊢
      generalize hm : l[k].at_ = m at *
      have hd : (b.take m).drop at_ = (b.drop at_).take (m - at_) := by rw [List.drop_take]
      have hs : skipM false ((b.take m).drop at_) = skipM false (b.drop at_) := by rw [hd, skip_take _ _ _ (by omega)]
      have ho : oneR ((b.take m).drop (at_ + skipM false (b.drop at_))) = .tok kk t n := by
        rw [List.drop_take]; exact one_take h2 (by omega)
      have h3' := ih k hk'
      rw [hm] at h3'
      have := Toks.step (b := b.take m) (at_ := at_) (k := kk) (n := n) (t := t) (l := l.take k) (p := m) (e := 0) (by rw [hs]; simp; omega) (by rw [hs]; exact ho) (by rw [hs]; exact h3')
      rw [hs] at this
      exact this

/-- a text's double quotes doubled -/
def dblL : List UInt8 → List UInt8
  | [] => []
  | c :: s => if c == 34 then 34 :: 34 :: dblL s else c :: dblL s
/-- a token's bytes -/
def rendL (k : Nat) (t : List UInt8) : List UInt8 :=
  if k == 3 then (if plainB t then t else 124 :: (t ++ [124]))
  else if k == 5 then 34 :: (dblL t ++ [34])
  else if k == 6 then 58 :: t
  else t
/-- what ends a word, and leaves a double quote alone -/
def sepB (c : UInt8) : Bool := spB c || c == 59
def SepR (r : List UInt8) : Prop := r = [] ∨ ∃ c r', r = c :: r' ∧ sepB c = true
set_option maxRecDepth 100000 in
theorem u8_all {p : UInt8 → Bool} (h : (List.range 256).all (fun n => p (UInt8.ofNat n)) = true) (c : UInt8) : p c = true := by
  have := List.all_eq_true.1 h c.toNat (by simp; exact c.toNat_lt)
  simpa using this
set_option maxRecDepth 100000 in
theorem sep_not (c : UInt8) (h : sepB c = true) : syB c = false ∧ c ≠ 34 := by
  have := u8_all (p := fun c => !sepB c || (!syB c && c != 34)) (by decide +kernel) c
  simpa [h] using this
set_option maxRecDepth 100000 in
theorem SepR.tw {r : List UInt8} (h : SepR r) : r.takeWhile syB = [] := by
  rcases h with rfl | ⟨c, r', rfl, h⟩
  · rfl
  · simp [(sep_not c h).1]
set_option maxRecDepth 100000 in
theorem word_app {w r : List UInt8} (hw : w.all syB = true) (h : SepR r) : wordL (w ++ r) = w := by
  unfold wordL
  rw [List.takeWhile_append_of_pos (by simpa using hw), h.tw, List.append_nil]
def inB (c : UInt8) : Bool := txB c && c != 124 && c != 92
set_option maxRecDepth 100000 in
theorem quo_app : ∀ (t acc r : List UInt8), t.all inB = true → quo acc (t ++ 124 :: r) = .tok 3 (acc ++ t) (acc.length + t.length + 2)
  | [], acc, r, _ => by simp [quo]
  | c :: t, acc, r, h => by
    simp only [List.all_cons, Bool.and_eq_true, inB] at h
    obtain ⟨⟨⟨h1, h2⟩, h3⟩, h4⟩ := h
    simp only [List.cons_append, quo]
    rw [if_neg (by simpa using h2), if_neg (by simp at h3; simp [h3, h1]), quo_app t _ r h4]
    simp; omega
set_option maxRecDepth 100000 in
theorem lit_app : ∀ (t acc : List UInt8) (i : Nat) (r : List UInt8), t.all txB = true → SepR r → lit false acc i (dblL t ++ 34 :: r) = .tok 5 (acc ++ t) (i + (dblL t).length + 1)
  | [], acc, i, r, _, h => by
    have h34 : txB 34 = true := by decide
    simp only [dblL, List.nil_append, lit, h34]
    rcases h with rfl | ⟨c, r', rfl, hc⟩
    · simp [lit]
    · simp [lit, (sep_not c hc).2]
  | c :: t, acc, i, r, h, hr => by
    simp only [List.all_cons, Bool.and_eq_true] at h
    simp only [dblL]
    split
    · rename_i hc
      have hc : c = 34 := by simpa using hc
      subst hc
      have h34 : txB 34 = true := by decide
      simp only [List.cons_append, lit, h34]
      simp only [Bool.not_true, Bool.false_eq_true, if_false, beq_self_eq_true, if_true]
      rw [lit_app t _ _ r h.2 hr]; simp; omega
    · rename_i hc
      simp only [List.cons_append, lit]
      rw [if_neg (by simp [h.1]), if_neg hc, lit_app t _ _ r h.2 hr]; simp; omega
/-- what tokens are -/
inductive GoodT : Nat → List UInt8 → Prop
  | op : GoodT 1 [40]
  | cl : GoodT 2 [41]
  | sym {t} : plainB t = true ∨ t.all inB = true → GoodT 3 t
  | str {t} : t.all txB = true → GoodT 5 t
  | key {t} : t.all syB = true → t ≠ [] → GoodT 6 t
  | num {k t} : (k = 4 ∨ k = 7) → t.all syB = true → t ≠ [] → plainR t = .tok k t t.length → dgB (t.getD 0 0) = true → GoodT k t
  | bas {w} : w.all syB = true → basedR w = .tok 7 (35 :: w) (w.length + 1) → GoodT 7 (35 :: w)
set_option maxRecDepth 100000 in
theorem quo_good : ∀ (s acc : List UInt8) {k n : Nat} {t : List UInt8}, quo acc s = .tok k t n → acc.all inB = true → t.all inB = true
  | [], acc, k, n, t, h, _ => by simp [quo] at h
  | c :: s, acc, k, n, t, h, ha => by
    simp only [quo] at h
    split at h
    · cases h; exact ha
    · split at h
      · cases h
      · rename_i h1 h2
        refine quo_good s _ h ?_
        simp only [List.all_append, List.all_cons, List.all_nil, Bool.and_true, ha, Bool.true_and]
        simp at h1 h2
        simp [inB, h1, h2]
set_option maxRecDepth 100000 in
theorem lit_good : ∀ (s : List UInt8) (m : Bool) (acc : List UInt8) (i : Nat) {k n : Nat} {t : List UInt8}, lit m acc i s = .tok k t n → acc.all txB = true → t.all txB = true
  | [], true, acc, i, k, n, t, h, ha => by simp only [lit] at h; cases h; exact ha
  | [], false, acc, i, k, n, t, h, ha => by simp [lit] at h
  | c :: s, true, acc, i, k, n, t, h, ha => by
    simp only [lit] at h
    split at h
    · refine lit_good s _ _ _ h ?_
      have h34 : txB 34 = true := by decide
      simp only [List.all_append, ha, List.all_cons, h34, List.all_nil, Bool.and_self]
    · cases h; exact ha
  | c :: s, false, acc, i, k, n, t, h, ha => by
    simp only [lit] at h
    split at h
    · cases h
    · rename_i h1
      split at h
      · exact lit_good s _ _ _ h ha
      · refine lit_good s _ _ _ h ?_
        simp at h1 ha
        simp [h1]; exact ha
set_option maxRecDepth 100000 in
theorem word_all (s : List UInt8) : (wordL s).all syB = true := by unfold wordL; exact List.all_takeWhile
set_option maxRecDepth 100000 in
theorem one_good {s : List UInt8} {k n : Nat} {t : List UInt8} (h : oneR s = .tok k t n) : GoodT k t := by
  cases s with
  | nil => simp [oneR] at h
  | cons c s =>
    simp only [oneR] at h
    split at h
    · cases h; exact .op
    · split at h
      · cases h; exact .cl
      · split at h
        · have hk := (quo_n _ _ h).1
          subst hk
          exact .sym (.inr (quo_good _ _ h rfl))
        · split at h
          · have hk := (lit_n _ _ _ _ h).1
            subst hk
            exact .str (lit_good _ _ _ _ h rfl)
          · split at h
            · unfold keyR at h
              split at h
              · cases h
              · rename_i he
                cases h; exact .key (word_all _) (by simpa using he)
            · split at h
              · have h' := h
                unfold basedR at h
                split at h
                · cases h
                · split at h
                  · cases h; exact .bas (word_all _) h'
                  · cases h
              · split at h
                · rename_i hs
                  have hne : wordL (c :: s) ≠ [] := by unfold wordL; rw [List.takeWhile_cons, if_pos hs]; simp
                  obtain ⟨rfl, rfl, hk⟩ := plainR_n h
                  by_cases hd : dgB ((wordL (c :: s)).getD 0 0) = true
                  · have hk2 : k = 4 ∨ k = 7 := by
                      unfold plainR at h
                      rw [if_neg (by rw [hd]; decide)] at h
                      simp only at h
                      split at h
                      · cases h
                      · split at h
                        · cases h; exact .inl rfl
                        · split at h
                          · cases h
                          · cases h; exact .inr rfl
                    exact .num hk2 (word_all _) hne h hd
                  · have hd' : dgB ((wordL (c :: s)).getD 0 0) = false := by simpa using hd
                    have : k = 3 := by
                      unfold plainR at h
                      rw [if_pos (by rw [hd']; decide)] at h
                      cases h; rfl
                    subst this
                    refine .sym (.inl ?_)
                    unfold plainB
                    simp only [Bool.and_eq_true, Bool.not_eq_true']
                    exact ⟨⟨word_all _, by simpa using hne⟩, hd'⟩
                · cases h
set_option maxRecDepth 100000 in
theorem Toks.good {b : List UInt8} {at_ : Nat} {l : List Tk} {p e : Nat} (h : Toks b at_ l p e) : ∀ t ∈ l, GoodT t.kind t.text := by
  induction h with
  | done _ => simp
  | bad _ _ => simp
  | step _ h2 _ ih =>
    intro t ht
    rcases List.mem_cons.1 ht with rfl | ht
    · exact one_good h2
    · exact ih t ht
end Go.Proofs.YtdompkenblnjjaaGreat
namespace Go.Proofs.YtdompkenblnjjaaGreat

set_option maxRecDepth 100000 in
theorem sy_plain_not (c : UInt8) (h : syB c = true) : c ≠ 40 ∧ c ≠ 41 ∧ c ≠ 124 ∧ c ≠ 34 ∧ c ≠ 58 ∧ c ≠ 35 ∧ c ≠ 59 ∧ spB c = false := by
  have := u8_all (p := fun c => !syB c || (c != 40 && c != 41 && c != 124 && c != 34 && c != 58 && c != 35 && c != 59 && !spB c)) (by decide +kernel) c
  simp [h] at this
  simp [this]
set_option maxRecDepth 100000 in
theorem one_word {w r : List UInt8} (hw : w.all syB = true) (hne : w ≠ []) (hr : SepR r) : oneR (w ++ r) = plainR w := by
  cases w with
  | nil => exact absurd rfl hne
  | cons c w =>
    have hc : syB c = true := by simp at hw; exact hw.1
    have h := sy_plain_not c hc
    have hw2 := word_app hw hr
    simp only [List.cons_append] at hw2 ⊢
    simp only [oneR, hw2]
    simp [h, hc]
/-- a token's bytes begin with none that is skipped -/
def HeadR (s : List UInt8) : Prop := ∃ c s', s = c :: s' ∧ spB c = false ∧ c ≠ 59
set_option maxRecDepth 100000 in
theorem rend_head {k : Nat} {t : List UInt8} (h : GoodT k t) : HeadR (rendL k t) := by
  have word : ∀ w : List UInt8, w.all syB = true → w ≠ [] → HeadR w := fun w hw hne => by
    cases w with
    | nil => exact absurd rfl hne
    | cons c w =>
      have hc : syB c = true := by simp at hw; exact hw.1
      have h := sy_plain_not c hc
      exact ⟨c, w, rfl, h.2.2.2.2.2.2.2, h.2.2.2.2.2.2.1⟩
  cases h with
  | op => exact ⟨40, [], rfl, by decide, by decide⟩
  | cl => exact ⟨41, [], rfl, by decide, by decide⟩
  | sym h =>
    by_cases hp : plainB t = true
    · simp only [rendL, hp]
      simp only [beq_self_eq_true, if_true]
      simp only [plainB, Bool.and_eq_true, Bool.not_eq_true'] at hp
      exact word t hp.1.1 (by simpa using hp.1.2)
    · simp only [rendL, hp]
      exact ⟨124, _, rfl, by decide, by decide⟩
  | str h => exact ⟨34, _, rfl, by decide, by decide⟩
  | key h hne => exact ⟨58, _, rfl, by decide, by decide⟩
  | num hk h hne _ _ => rcases hk with rfl | rfl <;> exact word t h hne
  | bas h _ => exact ⟨35, _, rfl, by decide, by decide⟩
set_option maxRecDepth 100000 in
theorem plain_word {t : List UInt8} (h : plainB t = true) : t.all syB = true ∧ t ≠ [] ∧ plainR t = .tok 3 t t.length := by
  simp only [plainB, Bool.and_eq_true, Bool.not_eq_true'] at h
  refine ⟨h.1.1, by simpa using h.1.2, ?_⟩
  unfold plainR
  rw [if_pos (by rw [h.2]; decide)]
set_option maxRecDepth 100000 in
theorem one_rend {k : Nat} {t r : List UInt8} (h : GoodT k t) (hr : SepR r) : oneR (rendL k t ++ r) = .tok k t (rendL k t).length := by
  cases h with
  | op => rfl
  | cl => rfl
  | sym h =>
    by_cases hp : plainB t = true
    · have hw := plain_word hp
      simp only [rendL, hp]
      simp only [beq_self_eq_true, if_true]
      rw [one_word hw.1 hw.2.1 hr, hw.2.2]
    · have h : t.all inB = true := h.resolve_left hp
      simp only [rendL, hp]
      have := quo_app t [] r h
      simp [oneR, this]
  | str h =>
    have := lit_app t [] 1 r h hr
    simp [rendL, oneR, this]; omega
  | key h hne =>
    have := word_app h hr
    simp [rendL, oneR, this, keyR, hne]
  | num hk h hne hp hd =>
    have : rendL k t = t := by rcases hk with rfl | rfl <;> rfl
    rw [this, one_word h hne hr, hp]
  | @bas w h hb =>
    have hw := word_app h hr
    have : rendL 7 (35 :: w) = 35 :: w := rfl
    rw [this]
    simp only [List.cons_append, oneR, hw, hb]
    simp
set_option maxRecDepth 100000 in
theorem head_skip {s : List UInt8} (h : HeadR s) (r : List UInt8) : skipM false (s ++ r) = 0 := by
  obtain ⟨c, s', rfl, h1, h2⟩ := h
  simp [skipM, h1, h2]
set_option maxRecDepth 100000 in
/-- alone -/
theorem alone {k : Nat} {t : List UInt8} (h : GoodT k t) : Toks (rendL k t) 0 [⟨k, t, 0⟩] (rendL k t).length 0 := by
  have h1 := head_skip (rend_head h) []
  have h2 := one_rend h (.inl rfl)
  have h3 := one_n h2
  simp only [List.append_nil] at h1 h2 h3
  have hd : (rendL k t).drop 0 = rendL k t := rfl
  have := Toks.step (b := rendL k t) (at_ := 0) (k := k) (n := (rendL k t).length) (t := t) (l := []) (p := (rendL k t).length) (e := 0) (by rw [hd, h1]; omega) (by rw [hd, h1]; exact h2)
    (by rw [hd, h1]; exact .done (by omega))
  rw [hd, h1] at this
  exact this
set_option maxRecDepth 100000 in
/-- a plain symbol -/
theorem plain_alone {s : List UInt8} (h : plainB s = true) : Toks s 0 [⟨3, s, 0⟩] s.length 0 := by
  have := alone (GoodT.sym (.inl h))
  simpa [rendL, h] using this

/-- blanks that may stand between: skipped whole, whatever stands behind -/
def BlankR (z : List UInt8) : Prop := (∃ c z', z = c :: z' ∧ sepB c = true) ∧ ∀ r, skipM false (z ++ r) = z.length + skipM false r
def between : List (List UInt8) := [[32], [10], [9, 32, 13], [59, 32, 40, 97, 32, 124, 10], [32, 59, 10, 10]]
set_option maxRecDepth 100000 in
theorem blank_get (i : Nat) (h : i < 5) : BlankR (between.getD i []) := by
  have : i = 0 ∨ i = 1 ∨ i = 2 ∨ i = 3 ∨ i = 4 := by omega
  rcases this with rfl | rfl | rfl | rfl | rfl
  · exact ⟨⟨_, _, rfl, by decide⟩, fun r => by simp [between, skipM, spB]⟩
  · exact ⟨⟨_, _, rfl, by decide⟩, fun r => by simp [between, skipM, spB]⟩
  · exact ⟨⟨_, _, rfl, by decide⟩, fun r => by simp [between, skipM, spB]; omega⟩
  · exact ⟨⟨_, _, rfl, by decide⟩, fun r => by simp [between, skipM, spB]; omega⟩
  · exact ⟨⟨_, _, rfl, by decide⟩, fun r => by simp [between, skipM, spB]; omega⟩
/-- tokens written one by one, blanks behind each -/
def writeL : List Tk → List (List UInt8) → List UInt8
  | t :: ts, z :: zs => rendL t.kind t.text ++ z ++ writeL ts zs
  | _, _ => []
set_option maxRecDepth 100000 in
theorem written : ∀ (ts : List Tk) (zs : List (List UInt8)) (b : List UInt8) (at_ : Nat), ts.length = zs.length → (∀ t ∈ ts, GoodT t.kind t.text) → (∀ z ∈ zs, BlankR z) → at_ ≤ b.length →
    (∃ z, (z = [] ∨ BlankR z) ∧ b.drop at_ = z ++ writeL ts zs) →
    ∃ l, Toks b at_ l b.length 0 ∧ l.length = ts.length ∧ ∀ i (h : i < l.length) (h' : i < ts.length), l[i].kind = ts[i].kind ∧ l[i].text = ts[i].text
  | [], zs, b, at_, hl, _, _, hat, ⟨z, hz, hb⟩ => by
    have hw : writeL [] zs = [] := by cases zs <;> rfl
    have hk : skipM false (b.drop at_) = (b.drop at_).length := by
      rw [hb, hw]
      rcases hz with rfl | hz
      · rfl
      · rw [hz.2]; simp [skipM]
    refine ⟨[], .done (by rw [hk]; simp; omega), rfl, fun i h => by simp at h⟩
  | t :: ts, [], b, at_, hl, _, _, hat, _ => by simp at hl
  | t :: ts, y :: zs, b, at_, hl, hg, hzs, hat, ⟨z, hz, hb⟩ => by
    have gt := hg t (by simp)
    have hy := hzs y (by simp)
    have hsep : SepR (y ++ writeL ts zs) := by
      obtain ⟨c, z', rfl, h⟩ := hy.1
      exact .inr ⟨c, _, rfl, h⟩
    have hk : skipM false (b.drop at_) = z.length := by
      have h1 := head_skip (rend_head gt) (y ++ writeL ts zs)
      rw [hb, writeL, List.append_assoc]
      rcases hz with rfl | hz
      · simpa using h1
      · rw [hz.2, h1]; rfl
    have ho := one_rend gt hsep
    have hn := one_n ho
    have hlen : (b.drop at_).length = (z ++ writeL (t :: ts) (y :: zs)).length := by rw [hb]
    simp only [List.length_drop, List.length_append, writeL] at hlen
    have hd : b.drop (at_ + z.length) = rendL t.kind t.text ++ (y ++ writeL ts zs) := by
      rw [← List.drop_drop, hb, writeL, List.drop_left, List.append_assoc]
    have hd2 : b.drop (at_ + z.length + (rendL t.kind t.text).length) = y ++ writeL ts zs := by
      rw [← List.drop_drop, hd, List.drop_left]
    obtain ⟨l, i1, i2, i3⟩ := written ts zs b (at_ + z.length + (rendL t.kind t.text).length) (by simpa using hl) (fun x hx => hg x (by simp [hx])) (fun x hx => hzs x (by simp [hx])) (by omega) ⟨y, .inr hy, hd2⟩
    refine ⟨⟨t.kind, t.text, at_ + z.length⟩ :: l, ?_, by simp [i2], ?_⟩
    · have := Toks.step (b := b) (at_ := at_) (k := t.kind) (n := (rendL t.kind t.text).length) (t := t.text) (l := l) (p := b.length) (e := 0) (by rw [hk]; omega) (by rw [hk, hd]; exact ho) (by rw [hk]; exact i1)
      rw [hk] at this; exact this
    · intro i h h'
      cases i with
      | zero => exact ⟨rfl, rfl⟩
      | succ i => simpa using i3 i (by simpa using h) (by simpa using h')
end Go.Proofs.YtdompkenblnjjaaGreat
