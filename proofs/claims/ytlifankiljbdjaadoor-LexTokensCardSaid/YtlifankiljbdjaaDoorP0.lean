/- The lexer's words, plain: what a byte may be, what is skipped, one token, all tokens. -/
namespace Go.Proofs.YtlifankiljbdjaaDoor

def spB (c : UInt8) : Bool := c == 9 || c == 10 || c == 13 || c == 32
def dgB (c : UInt8) : Bool := 48 ≤ c && c ≤ 57
def hxB (c : UInt8) : Bool := dgB c || (65 ≤ c && c ≤ 70) || (97 ≤ c && c ≤ 102)
def extraL : List UInt8 := [126, 33, 64, 36, 37, 94, 38, 42, 95, 45, 43, 61, 60, 62, 46, 63, 47]
def syB (c : UInt8) : Bool := dgB c || (65 ≤ c && c ≤ 90) || (97 ≤ c && c ≤ 122) || extraL.contains c
def txB (c : UInt8) : Bool := (32 ≤ c && c ≤ 126) || c > 127 || spB c
/-- the class of a byte, as the program's table has it -/
def clB (c : UInt8) : Nat := (if spB c then 1 else 0) + (if syB c then 2 else 0) + (if dgB c then 4 else 0) + (if hxB c then 8 else 0) + (if txB c then 16 else 0)

/-- how many bytes blanks and comments take (true: within a comment) -/
def skipM : Bool → List UInt8 → Nat
  | _, [] => 0
  | true, c :: s => if c == 10 then 1 + skipM false s else 1 + skipM true s
  | false, c :: s => if spB c then 1 + skipM false s else if c == 59 then 1 + skipM true s else 0

inductive Res where
  | tok (kind : Nat) (text : List UInt8) (n : Nat)
  | err (e : Nat)
deriving DecidableEq

/-- behind the first bar: the text so far -/
def quo : List UInt8 → List UInt8 → Res
  | _, [] => .err 31
  | acc, c :: s => if c == 124 then .tok 3 acc (acc.length + 2) else if c == 92 || !txB c then .err 30 else quo (acc ++ [c]) s
/-- behind the first double quote (true: behind one that may be doubled): the text so far, and how many bytes were read -/
def lit : Bool → List UInt8 → Nat → List UInt8 → Res
  | true, acc, n, [] => .tok 5 acc n
  | false, _, _, [] => .err 31
  | true, acc, n, c :: s => if c == 34 then lit false (acc ++ [34]) (n + 1) s else .tok 5 acc n
  | false, acc, n, c :: s => if !txB c then .err 30 else if c == 34 then lit true acc (n + 1) s else lit false (acc ++ [c]) (n + 1) s
def allB (p : UInt8 → Bool) (l : List UInt8) : Bool := l.all p && !l.isEmpty
def wordL (s : List UInt8) : List UInt8 := s.takeWhile syB
/-- a word that begins with no digit, or a number -/
def plainR (w : List UInt8) : Res :=
  if !(dgB (w.getD 0 0)) then .tok 3 w w.length
  else
    let whole := w.takeWhile (· != 46)
    let part := (w.dropWhile (· != 46)).drop 1
    if !allB dgB whole || (whole.getD 0 0 == 48 && decide (1 < whole.length)) then .err 5
    else if !w.contains 46 then .tok 4 w w.length
    else if !allB dgB part then .err 5
    else .tok 7 w w.length
def basedR (w : List UInt8) : Res :=
  if w.isEmpty then .err 30
  else if (w.getD 0 0 == 120 && allB hxB (w.drop 1)) || (w.getD 0 0 == 98 && allB (fun c => c == 48 || c == 49) (w.drop 1)) then .tok 7 (35 :: w) (w.length + 1)
  else .err 5
def keyR (w : List UInt8) : Res := if w.isEmpty then .err 30 else .tok 6 w (w.length + 1)
/-- the token that begins here -/
def oneR : List UInt8 → Res
  | [] => .err 0
  | c :: s =>
    if c == 40 then .tok 1 [40] 1
    else if c == 41 then .tok 2 [41] 1
    else if c == 124 then quo [] s
    else if c == 34 then lit false [] 1 s
    else if c == 58 then keyR (wordL s)
    else if c == 35 then basedR (wordL s)
    else if syB c then plainR (wordL (c :: s))
    else .err 30

structure Tk where
  kind : Nat
  text : List UInt8
  at_ : Nat
deriving DecidableEq

/-- from a place on: the tokens, how far, what is wrong there -/
inductive Toks (b : List UInt8) : Nat → List Tk → Nat → Nat → Prop
  | done {at_ : Nat} : b.length ≤ at_ + skipM false (b.drop at_) → Toks b at_ [] b.length 0
  | bad {at_ e : Nat} : at_ + skipM false (b.drop at_) < b.length → oneR (b.drop (at_ + skipM false (b.drop at_))) = .err e → Toks b at_ [] (at_ + skipM false (b.drop at_)) e
  | step {at_ k n p e : Nat} {t : List UInt8} {l : List Tk} : at_ + skipM false (b.drop at_) < b.length → oneR (b.drop (at_ + skipM false (b.drop at_))) = .tok k t n → Toks b (at_ + skipM false (b.drop at_) + n) l p e →
      Toks b at_ (⟨k, t, at_ + skipM false (b.drop at_)⟩ :: l) p e
/-- symbols that may stand without bars -/
def plainB (s : List UInt8) : Bool := s.all syB && !s.isEmpty && !(dgB (s.getD 0 0))

theorem skip_le : ∀ (m : Bool) (s : List UInt8), skipM m s ≤ s.length
  | _, [] => by cases ‹Bool› <;> simp [skipM]
  | true, c :: s => by
    have h1 := skip_le false s
    have h2 := skip_le true s
    simp only [skipM]
    split <;> simp <;> omega
  | false, c :: s => by
    have h1 := skip_le false s
    have h2 := skip_le true s
    simp only [skipM]
    split
    · simp; omega
    · split <;> simp; omega
theorem quo_n : ∀ (s acc : List UInt8) {k n : Nat} {t : List UInt8}, quo acc s = .tok k t n → k = 3 ∧ n = t.length + 2 ∧ n ≤ acc.length + 1 + s.length
  | [], acc, k, n, t, h => by simp [quo] at h
  | c :: s, acc, k, n, t, h => by
    simp only [quo] at h
    split at h
    · cases h; simp; omega
    · split at h
      · cases h
      · have := quo_n s _ h; simp at this ⊢; omega
theorem lit_n : ∀ (s : List UInt8) (m : Bool) (acc : List UInt8) (i : Nat) {k n : Nat} {t : List UInt8}, lit m acc i s = .tok k t n → k = 5 ∧ i ≤ n ∧ n ≤ i + s.length ∧ t.length + i ≤ n + acc.length
  | [], true, acc, i, k, n, t, h => by simp only [lit] at h; cases h; simp; omega
  | [], false, acc, i, k, n, t, h => by simp [lit] at h
  | c :: s, true, acc, i, k, n, t, h => by
    simp only [lit] at h
    split at h
    · have := lit_n s _ _ _ h; simp at this ⊢; omega
    · cases h; simp; omega
  | c :: s, false, acc, i, k, n, t, h => by
    simp only [lit] at h
    split at h
    · cases h
    · split at h
      · have := lit_n s _ _ _ h; simp at this ⊢; omega
      · have := lit_n s _ _ _ h; simp at this ⊢; omega
theorem plainR_n {w : List UInt8} {k n : Nat} {t : List UInt8} (h : plainR w = .tok k t n) : t = w ∧ n = w.length ∧ (k = 3 ∨ k = 4 ∨ k = 7) := by
  unfold plainR at h
  split at h
  · cases h; simp
  · simp only at h
    split at h
    · cases h
    · split at h
      · cases h; simp
      · split at h
        · cases h
        · cases h; simp
theorem word_le (s : List UInt8) : (wordL s).length ≤ s.length := (List.takeWhile_sublist syB).length_le
theorem one_n {s : List UInt8} {k n : Nat} {t : List UInt8} (h : oneR s = .tok k t n) : 1 ≤ n ∧ n ≤ s.length ∧ t.length ≤ n ∧ k < 8 := by
  cases s with
  | nil => simp [oneR] at h
  | cons c s =>
    simp only [oneR] at h
    have hw := word_le s
    split at h
    · cases h; simp
    · split at h
      · cases h; simp
      · split at h
        · have := quo_n _ _ h; simp at this ⊢; omega
        · split at h
          · have := lit_n _ _ _ _ h; simp at this ⊢; omega
          · split at h
            · unfold keyR at h
              split at h
              · cases h
              · cases h; simp; omega
            · split at h
              · unfold basedR at h
                split at h
                · cases h
                · split at h
                  · cases h; simp; omega
                  · cases h
              · split at h
                · rename_i hs
                  obtain ⟨rfl, rfl, hk⟩ := plainR_n h
                  have h1 := word_le (c :: s)
                  have h2 : 1 ≤ (wordL (c :: s)).length := by unfold wordL; rw [List.takeWhile_cons, if_pos hs]; simp
                  refine ⟨h2, h1, Nat.le_refl _, by omega⟩
                · cases h
theorem Toks.uniq {b : List UInt8} {at_ : Nat} {l : List Tk} {p e : Nat} (h : Toks b at_ l p e) : ∀ {l' : List Tk} {p' e' : Nat}, Toks b at_ l' p' e' → l = l' ∧ p = p' ∧ e = e' := by
  induction h with
  | done h1 =>
    intro l' p' e' h'
    cases h' with
    | done _ => exact ⟨rfl, rfl, rfl⟩
    | bad g1 _ => omega
    | step g1 _ _ => omega
  | bad h1 h2 =>
    intro l' p' e' h'
    cases h' with
    | done _ => omega
    | bad g1 g2 => rw [h2] at g2; cases g2; exact ⟨rfl, rfl, rfl⟩
    | step g1 g2 _ => rw [h2] at g2; cases g2
  | step h1 h2 h3 ih =>
    intro l' p' e' h'
    cases h' with
    | done _ => omega
    | bad g1 g2 => rw [h2] at g2; cases g2
    | step g1 g2 g3 =>
      rw [h2] at g2; cases g2
      obtain ⟨rfl, rfl, rfl⟩ := ih g3
      exact ⟨rfl, rfl, rfl⟩
end Go.Proofs.YtlifankiljbdjaaDoor
