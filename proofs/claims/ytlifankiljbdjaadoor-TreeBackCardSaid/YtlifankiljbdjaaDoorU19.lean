/- Lists of trees, plain: depth, text, alike, as told one by one. -/
import Derived.Test.YtlifankiljbdjaaDoorU13
import Derived.Test.YtlifankiljbdjaaDoorJU2
namespace Go.Proofs.YtlifankiljbdjaaDoor
open Go Go.RowKit

theorem dep_cap : ∀ (f : Fo) (m : Nat), depF f m = min (depF f (m + 1)) m
  | .nil, m => by simp [depF]
  | .cons l k s a x r, m => by
    have hr := dep_cap r m
    simp only [depF]
    cases l with
    | false => simp only [Bool.false_and, Bool.false_eq_true, if_false]; rw [hr]; omega
    | true =>
      cases m with
      | zero => have := depF_le r 0; simp; omega
      | succ m =>
        have hx := dep_cap x m
        simp only [Nat.add_sub_cancel, Nat.zero_lt_succ, decide_true, Bool.true_and, if_true] at *
        rw [hr, hx]; omega
theorem dep_list (f : Fo) : depT true f 201 = min (depF f 201) 200 + 1 := by
  unfold depT
  simp only [Nat.zero_lt_succ, decide_true, Bool.true_and, if_true]
  rw [dep_cap f (201 - 1)]
theorem depF_cons' (l : Bool) (k : Int) (s : ByteArray) (a : Int) (x r : Fo) (m : Nat) : depF (.cons l k s a x r) m = max (depT l x m) (depF r m) := rfl
theorem txt_tw : ∀ (f : Fo) (b : Bool), (txtF b f).length ≤ 19 * twF f
  | .nil, b => by simp [txtF]
  | .cons l k s a x r, b => by
    have h1 := txt_tw x true
    have h2 := txt_tw r false
    have h3 := rend_len k.toNat s.data.toList
    have h4 : s.data.toList.length = s.size := by simp
    simp only [txtF, List.length_append, twF]
    have h6 : (if b then [] else [32] : List UInt8).length ≤ 1 := by cases b <;> simp
    cases l with
    | true => simp only [if_true, List.length_cons, List.length_append, List.length_nil]; omega
    | false => simp only [Bool.false_eq_true, if_false]; omega
theorem txtT_tw (l : Bool) (k : Int) (s : ByteArray) (x : Fo) : (txtT l k s x).length ≤ 19 * twT s x := by
  have h1 := txt_tw x true
  have h3 := rend_len k.toNat s.data.toList
  have h4 : s.data.toList.length = s.size := by simp
  unfold txtT twT
  cases l with
  | true => simp only [if_true, List.length_cons, List.length_append, List.length_nil]; omega
  | false => simp only [Bool.false_eq_true, if_false]; omega
/-- is each of these trees' texts a text? -/
noncomputable def eF : Fo → Bool
  | .nil => true
  | .cons l k s _ x r => decide ((textR l k s x).2 = 0) && eF r
theorem textR_small {l : Bool} {k : Int} {s : ByteArray} {x : Fo} (h : twT s x ≤ 5000) : textR l k s x = if okT l k s x = false then ([], 5) else if 200 < depT l x 201 then ([], 40) else (txtT l k s x, 0) := by
  have h1 := txtT_tw l k s x
  unfold textR
  rw [if_neg (show ¬ 1048576 < (txtT l k s x).length by omega)]
theorem textR_zero {l : Bool} {k : Int} {s : ByteArray} {x : Fo} (h : twT s x ≤ 5000) : (textR l k s x).2 = 0 ↔ okT l k s x = true ∧ depT l x 201 ≤ 200 := by
  rw [textR_small h]
  cases okT l k s x with
  | false => simp
  | true =>
    by_cases hd : 200 < depT l x 201
    · simp [hd]
    · simp [hd]; omega
theorem textR_len (l : Bool) (k : Int) (s : ByteArray) (x : Fo) : (textR l k s x).1.length ≤ 1048576 := by
  unfold textR
  split
  · simp
  · split
    · simp
    · split
      · simp
      · simp only; omega
theorem textR_txt {l : Bool} {k : Int} {s : ByteArray} {x : Fo} (h : (textR l k s x).2 = 0) : (textR l k s x).1 = txtT l k s x := by
  unfold textR at *
  split at h
  · simp at h
  · split at h
    · simp at h
    · split at h
      · simp at h
      · rename_i h1 h2 h3; rw [if_neg h1, if_neg h2, if_neg h3]
theorem okF_cons (l : Bool) (k : Int) (s : ByteArray) (a : Int) (x r : Fo) : okF (.cons l k s a x r) = (okT l k s x && okF r) := rfl
theorem eF_spec : ∀ f : Fo, twF f ≤ 5000 → eF f = (okF f && decide (depF f 201 ≤ 200))
  | .nil, _ => by simp [eF, okF, depF]
  | .cons l k s a x r, h => by
    rw [twF_cons] at h
    rw [eF, okF_cons, depF_cons', eF_spec r (by omega)]
    have hz := textR_zero (l := l) (k := k) (s := s) (x := x) (by omega)
    rw [Bool.eq_iff_iff]
    simp only [Bool.and_eq_true, decide_eq_true_eq, hz]
    constructor
    · rintro ⟨⟨h1, h2⟩, h3, h4⟩; exact ⟨⟨h1, h3⟩, by omega⟩
    · rintro ⟨⟨h1, h3⟩, h2⟩; exact ⟨⟨h1, by omega⟩, h3, by omega⟩
/-- the text of a list of trees. -/
theorem textR_list (f : Fo) (h : twT ⟨#[40]⟩ f ≤ 5000) :
    ((eF f && decide (depF f 201 < 200)) = true → textR true 1 ⟨#[40]⟩ f = (40 :: (txtF true f ++ [41]), 0)) ∧ ((eF f && decide (depF f 201 < 200)) = false → (textR true 1 ⟨#[40]⟩ f).2 ≠ 0) := by
  have hf : twF f ≤ 5000 := by unfold twT at h; omega
  have hz := textR_zero (l := true) (k := 1) (s := ⟨#[40]⟩) (x := f) h
  have hok : okT true 1 ⟨#[40]⟩ f = okF f := by simp [okT]
  rw [hok, dep_list] at hz
  rw [eF_spec f hf]
  constructor
  · intro h1
    simp only [Bool.and_eq_true, decide_eq_true_eq] at h1
    have h2 : (textR true 1 ⟨#[40]⟩ f).2 = 0 := hz.2 ⟨h1.1.1, by omega⟩
    have h3 := textR_txt h2
    refine Prod.ext ?_ h2
    rw [h3]; simp [txtT]
  · intro h1 h2
    obtain ⟨h3, h4⟩ := hz.1 h2
    have : (okF f && decide (depF f 201 ≤ 200) && decide (depF f 201 < 200)) = true := by
      simp only [Bool.and_eq_true, decide_eq_true_eq]; exact ⟨⟨h3, by omega⟩, by omega⟩
    rw [this] at h1; cases h1
theorem sameT_list (f g : Fo) : sameT true 1 ⟨#[40]⟩ f true 1 ⟨#[40]⟩ g = (decide (f.len = g.len) && sameF f g) := by simp [sameT]
theorem sameF_cons (l : Bool) (k : Int) (s : ByteArray) (a : Int) (x r : Fo) (l' : Bool) (k' : Int) (s' : ByteArray) (a' : Int) (x' r' : Fo) : sameF (.cons l k s a x r) (.cons l' k' s' a' x' r') = (sameT l k s x l' k' s' x' && sameF r r') := rfl
end Go.Proofs.YtlifankiljbdjaaDoor
