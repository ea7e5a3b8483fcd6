/- The tree at a place of some tokens, or what is wrong there. -/
import Derived.Test.YtdompkenblnjjaaGreatT6
namespace Go.Proofs.YtdompkenblnjjaaGreat
open Go Go.RowKit

set_option maxRecDepth 100000 in
theorem endF_some (m : Nat) : ∀ (l : List TkA), l.length ≤ m → ∀ (o i n : Nat), endF l ((o : Int) + 1) i = some n → ∃ x g cl r, l = x ++ cl :: r ∧ Rd x g ∧ cl.k = 2 ∧ ((o = 0 ∧ n = i + x.length + 1) ∨ (0 < o ∧ endF r (o : Int) (i + x.length + 1) = some n)) := by
  induction m with
  | zero =>
    intro l hl o i n h
    obtain rfl : l = [] := List.length_eq_zero_iff.1 (by omega)
    cases h
  | succ m ih =>
    intro l hl o i n h
    cases l with
    | nil => cases h
    | cons t r =>
      have hr : r.length ≤ m := by simp at hl; omega
      rw [endF] at h
      by_cases h2 : t.k = 2
      · rw [opn_two h2, show (o : Int) + 1 - 1 = o from by omega] at h
        refine ⟨[], .nil, t, r, rfl, .nil, h2, ?_⟩
        by_cases h0 : o = 0
        · subst h0
          rw [if_pos (show ((0 : Nat) : Int) = 0 from rfl)] at h
          injection h with h
          exact Or.inl ⟨rfl, by simp only [List.length_nil]; omega⟩
        · rw [if_neg (by omega)] at h
          exact Or.inr ⟨by omega, h⟩
      · by_cases h1 : t.k = 1
        · rw [opn_one h1, if_neg (by omega)] at h
          obtain ⟨x, g, cl, r1, rfl, hx, hc, h3⟩ := ih r hr (o + 1) (i + 1) n (by push_cast; exact h)
          rcases h3 with ⟨h3, _⟩ | ⟨_, h3⟩
          · omega
          obtain ⟨x2, g2, cl2, r2, rfl, hx2, hc2, h4⟩ := ih r1 (by simp at hr; omega) o (i + 1 + x.length + 1) n (by push_cast at h3; exact h3)
          refine ⟨t :: (x ++ cl :: x2), .cons true t.k t.s t.a g g2, cl2, r2, by simp, .list h1 hc hx hx2, hc2, ?_⟩
          have e : i + (t :: (x ++ cl :: x2)).length + 1 = i + 1 + x.length + 1 + x2.length + 1 := by simp; omega
          rw [e]; exact h4
        · rw [opn_else h1 h2, if_neg (by omega)] at h
          obtain ⟨x, g, cl, r1, rfl, hx, hc, h3⟩ := ih r hr o (i + 1) n h
          refine ⟨t :: x, .cons false t.k t.s t.a .nil g, cl, r1, rfl, .leaf h1 h2 hx, hc, ?_⟩
          have e : i + (t :: x).length + 1 = i + 1 + x.length + 1 := by simp; omega
          rw [e]; exact h3
set_option maxRecDepth 100000 in
/-- what begins at a token that closes nothing, and ends, is a tree. -/
theorem one_of {t : TkA} {r : List TkA} {i n : Nat} (h2 : t.k ≠ 2) (h : endF (t :: r) 0 i = some n) : i < n ∧ n ≤ i + (t :: r).length ∧ ∃ b k s a g, One ((t :: r).take (n - i)) b k s a g := by
  rw [endF] at h
  by_cases h1 : t.k = 1
  · rw [opn_one h1, if_neg (by omega)] at h
    obtain ⟨x, g, cl, r1, rfl, hx, hc, h3⟩ := endF_some _ r (Nat.le_refl _) 0 (i + 1) n (by simpa using h)
    rcases h3 with ⟨_, h3⟩ | ⟨h3, _⟩
    · refine ⟨by omega, by simp; omega, true, t.k, t.s, t.a, g, ?_⟩
      have e : (t :: (x ++ cl :: r1)).take (n - i) = t :: (x ++ [cl]) := by
        rw [show n - i = (t :: (x ++ [cl])).length from by simp; omega, show t :: (x ++ cl :: r1) = (t :: (x ++ [cl])) ++ r1 from by simp, List.take_left]
      rw [e]; exact .list h1 hc hx
    · omega
  · rw [opn_else h1 h2, if_pos rfl] at h
    injection h with h
    subst h
    refine ⟨by omega, by simp only [List.length_cons]; omega, false, t.k, t.s, t.a, .nil, ?_⟩
    rw [show i + 1 - i = 1 from by omega]
    exact .leaf h1 h2
set_option maxRecDepth 100000 in
theorem Rd.uniq {x : List TkA} {g : Fo} (h : Rd x g) : ∀ {g' : Fo}, Rd x g' → g' = g := by
  induction h with
  | nil => intro g' h; cases h; rfl
  | leaf h1 h2 _ ih =>
    intro g' h
    cases h with
    | leaf _ _ h => rw [ih h]
    | list h => exact absurd h h1
  | @list t c x r g f h1 h2 h3 h4 ih1 ih2 =>
    intro g' h
    generalize hL : (x ++ c :: r) = L at h
    cases h with
    | leaf h => exact absurd h1 h
    | @list _ c' x' r' g'' f'' _ h2' h3' h4' =>
      have e1 : endF (x ++ c :: r) 1 0 = some (x.length + 1) := by
        rw [endF_rd h3 _ _ _ (by omega), endF, opn_two h2, if_pos (by omega)]; simp
      have e2 : endF (x' ++ c' :: r') 1 0 = some (x'.length + 1) := by
        rw [endF_rd h3' _ _ _ (by omega), endF, opn_two h2', if_pos (by omega)]; simp
      rw [hL, e2] at e1
      have hlen : x.length = x'.length := by injection e1 with e1; omega
      obtain ⟨ex, er⟩ := List.append_inj hL hlen
      subst ex
      injection er with _ er
      subst er
      rw [ih1 h3', ih2 h4']
set_option maxRecDepth 100000 in
theorem One.uniq {l : List TkA} {b b' : Bool} {k k' : Int} {s s' : ByteArray} {a a' : Int} {g g' : Fo} (h : One l b k s a g) (h' : One l b' k' s' a' g') : b' = b ∧ k' = k ∧ s' = s ∧ a' = a ∧ g' = g := by
  cases h with
  | @leaf t h1 h2 =>
    generalize hL : [t] = L at h'
    cases h' with
    | leaf => injection hL with hL; subst hL; exact ⟨rfl, rfl, rfl, rfl, rfl⟩
    | list h => have := congrArg List.length hL; simp at this
  | @list t c x g h1 h2 h3 =>
    generalize hL : (x ++ [c]) = L at h'
    cases h' with
    | leaf h => exact absurd h1 h
    | @list _ c' x' g' _ h2' h3' =>
      have hlen : x.length = x'.length := by have := congrArg List.length hL; simp at this; exact this
      obtain ⟨ex, er⟩ := List.append_inj hL hlen
      subst ex
      exact ⟨rfl, rfl, rfl, rfl, h3.uniq h3'⟩
/-- the tree at a place: its parts, the place behind, what is wrong. -/
inductive NextO (l : List TkA) : Int → Bool → Int → ByteArray → Int → Fo → Int → Int → Prop
  | arg {z : Int} : z < 0 ∨ (l.length : Int) < z → NextO l z false 0 ⟨#[]⟩ 0 .nil z 2
  | short : NextO l (l.length : Int) false 0 ⟨#[]⟩ 0 .nil (l.length : Int) 4
  | close {i : Nat} {t : TkA} {r : List TkA} : l.drop i = t :: r → t.k = 2 → NextO l (i : Int) false 0 ⟨#[]⟩ 0 .nil (i : Int) 41
  | open {i : Nat} {t : TkA} {r : List TkA} : l.drop i = t :: r → t.k ≠ 2 → endF (t :: r) 0 i = none → NextO l (i : Int) false 0 ⟨#[]⟩ 0 .nil (l.length : Int) 4
  | deep {i n : Nat} {t : TkA} {r : List TkA} : l.drop i = t :: r → t.k ≠ 2 → endF (t :: r) 0 i = some n → 200 < mostF ((t :: r).take (n - i)) 0 0 → NextO l (i : Int) false 0 ⟨#[]⟩ 0 .nil (n : Int) 40
  | ok {i n : Nat} {t : TkA} {r : List TkA} {b : Bool} {k : Int} {s : ByteArray} {a : Int} {g : Fo} : l.drop i = t :: r → t.k ≠ 2 → endF (t :: r) 0 i = some n → ¬ 200 < mostF ((t :: r).take (n - i)) 0 0 → One ((t :: r).take (n - i)) b k s a g → NextO l (i : Int) b k s a g (n : Int) 0
end Go.Proofs.YtdompkenblnjjaaGreat

