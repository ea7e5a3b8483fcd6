/- Unit propagation, plain: what comes by units; the base's invariants; no memory here. -/
import Derived.Test.YtgdncnalahdjeaaMay
namespace Go.Proofs.Ytgdncnalahdjeaa
open Go

/-- what comes of clauses and of what is given. -/
inductive Der (db : List (List Int)) (gv : List Int) : Int → Prop
  | given {l : Int} : l ∈ gv → Der db gv l
  | unit {c : List Int} {l : Int} : c ∈ db → l ∈ c → (∀ k, k ∈ c → k ≠ l → Der db gv (-k)) → Der db gv l
def Confl (db : List (List Int)) (gv : List Int) : Prop := [] ∈ db ∨ ∃ l, Der db gv l ∧ Der db gv (-l)
theorem Der.mono {db db' : List (List Int)} {gv gv' : List Int} (h1 : ∀ c, c ∈ db → c ∈ db') (h2 : ∀ l, l ∈ gv → l ∈ gv') {l : Int} (h : Der db gv l) : Der db' gv' l := by
  induction h with
  | given h => exact .given (h2 _ h)
  | unit hc hl _ ih => exact .unit (h1 _ hc) hl ih
theorem Confl.mono {db db' : List (List Int)} {gv gv' : List Int} (h1 : ∀ c, c ∈ db → c ∈ db') (h2 : ∀ l, l ∈ gv → l ∈ gv') (h : Confl db gv) : Confl db' gv' := by
  rcases h with h | ⟨l, a, b⟩
  · exact .inl (h1 _ h)
  · exact .inr ⟨l, a.mono h1 h2, b.mono h1 h2⟩
theorem Der.lit {db : List (List Int)} {gv : List Int} {l : Int} (h : Der db gv l) : l ∈ gv ∨ ∃ c, c ∈ db ∧ l ∈ c := by
  cases h with
  | given h => exact .inl h
  | unit hc hl _ => exact .inr ⟨_, hc, hl⟩
/-- a clause that is against what comes. -/
theorem Confl.clause {db : List (List Int)} {gv : List Int} {c : List Int} (hc : c ∈ db) (h : ∀ k, k ∈ c → Der db gv (-k)) : Confl db gv := by
  cases c with
  | nil => exact .inl hc
  | cons k c => exact .inr ⟨k, .unit hc (List.mem_cons_self ..) (fun j hj _ => h j hj), h k (List.mem_cons_self ..)⟩
/-- clauses of the same literals, each the other's. -/
theorem Der.same {db db' : List (List Int)} {gv gv' : List Int} (h1 : ∀ c, c ∈ db → ∃ d, d ∈ db' ∧ ∀ l, l ∈ c ↔ l ∈ d) (h2 : ∀ l, l ∈ gv → l ∈ gv') {l : Int} (h : Der db gv l) : Der db' gv' l := by
  induction h with
  | given h => exact .given (h2 _ h)
  | unit hc hl _ ih =>
    obtain ⟨d, hd, e⟩ := h1 _ hc
    exact .unit hd ((e _).1 hl) (fun k hk hne => ih k ((e k).2 hk) hne)
theorem Confl.same {db db' : List (List Int)} {gv gv' : List Int} (h1 : ∀ c, c ∈ db → ∃ d, d ∈ db' ∧ ∀ l, l ∈ c ↔ l ∈ d) (h2 : ∀ l, l ∈ gv → l ∈ gv') (h : Confl db gv) : Confl db' gv' := by
  rcases h with h | ⟨l, a, b⟩
  · obtain ⟨d, hd, e⟩ := h1 _ h
    have : d = [] := List.eq_nil_iff_forall_not_mem.2 (fun x hx => by have := (e x).2 hx; simp at this)
    exact .inl (this ▸ hd)
  · exact .inr ⟨l, a.same h1 h2, b.same h1 h2⟩
/-- what is given are clauses of one literal. -/
theorem der_units (db : List (List Int)) (gv : List Int) (l : Int) : Der (db ++ gv.map fun x => [x]) [] l ↔ Der db gv l := by
  constructor
  · intro h
    induction h with
    | given h => simp at h
    | unit hc hl _ ih =>
      rcases List.mem_append.1 hc with h | h
      · exact .unit h hl ih
      · obtain ⟨x, hx, rfl⟩ := List.mem_map.1 h
        simp at hl
        subst hl
        exact .given hx
  · intro h
    induction h with
    | given h => exact .unit (List.mem_append_right _ (List.mem_map.2 ⟨_, h, rfl⟩)) (List.mem_singleton.2 rfl) (fun k hk hne => absurd (List.mem_singleton.1 hk) hne)
    | unit hc hl _ ih => exact .unit (List.mem_append_left _ hc) hl ih
theorem confl_units (db : List (List Int)) (gv : List Int) : Confl (db ++ gv.map fun x => [x]) [] ↔ Confl db gv := by
  unfold Confl
  simp only [der_units]
  constructor
  · rintro (h | h)
    · rcases List.mem_append.1 h with h | h
      · exact .inl h
      · obtain ⟨x, _, hx⟩ := List.mem_map.1 h; cases hx
    · exact .inr h
  · rintro (h | h)
    · exact .inl (List.mem_append_left _ h)
    · exact .inr h
/-- a clause that has an atom and its negative. -/
def Taut (c : List Int) : Prop := ∃ l, l ∈ c ∧ -l ∈ c ∧ l ≠ -l
/-- a literal's value. -/
def valT (T : List Int) (l : Int) : Int := if l ∈ T then 1 else if -l ∈ T then -1 else 0
def Cons (T : List Int) : Prop := ∀ l, l ∈ T → -l ∉ T
theorem valT_one {T : List Int} {l : Int} : valT T l = 1 ↔ l ∈ T := by
  unfold valT
  by_cases h : l ∈ T
  · simp [h]
  · by_cases h2 : -l ∈ T <;> simp [h, h2]
theorem valT_neg {T : List Int} {l : Int} (hc : Cons T) : valT T l = -1 ↔ -l ∈ T := by
  unfold valT
  by_cases h : l ∈ T
  · have := hc l h
    simp [h, this]
  · by_cases h2 : -l ∈ T <;> simp [h, h2]
theorem valT_zero {T : List Int} {l : Int} : valT T l = 0 ↔ l ∉ T ∧ -l ∉ T := by
  unfold valT
  by_cases h : l ∈ T
  · simp [h]
  · by_cases h2 : -l ∈ T <;> simp [h, h2]
theorem valT_cases (T : List Int) (l : Int) : valT T l = 1 ∨ valT T l = -1 ∨ valT T l = 0 := by
  unfold valT
  split
  · exact .inl rfl
  · split
    · exact .inr (.inl rfl)
    · exact .inr (.inr rfl)
theorem valT_flip {T : List Int} (hc : Cons T) (l : Int) : valT T (-l) = - valT T l := by
  unfold valT
  rw [Int.neg_neg]
  by_cases h : l ∈ T
  · have := hc l h
    simp [h, this]
  · by_cases h2 : -l ∈ T <;> simp [h, h2]
theorem nodup_sub {α : Type} [DecidableEq α] : ∀ {a b : List α}, a.Nodup → (∀ x, x ∈ a → x ∈ b) → a.length ≤ b.length := by
  intro a
  induction a with
  | nil => intro b _ _; simp
  | cons x a ih =>
    intro b hn hs
    have hx := hs x (List.mem_cons_self ..)
    have hn' := List.nodup_cons.1 hn
    have := ih (b := b.erase x) hn'.2 (fun y hy => (List.mem_erase_of_ne (by rintro rfl; exact hn'.1 hy)).2 (hs y (List.mem_cons_of_mem _ hy)))
    rw [List.length_erase_of_mem hx] at this
    have hp : 0 < b.length := List.length_pos_of_mem hx
    simp only [List.length_cons]
    omega
/-- the two literals that a clause is watched by. -/
def w0 (c : List Int) : Int := c.getD 0 0
def w1 (c : List Int) : Int := c.getD 1 0
/-- what always holds: clauses of the base, watched lists, what was derived. -/
structure Struct (db cl : List (List Int)) (wt : Int → List Nat) (T : List Int) : Prop where
  two : ∀ c, c ∈ cl → 2 ≤ c.length ∧ c.Nodup ∧ ∀ l, l ∈ c → isLitB l = true
  src : ∀ c, c ∈ cl → ∃ d, d ∈ db ∧ (∀ l, l ∈ c → l ∈ d) ∧ ∀ l, l ∈ d → l ∈ c ∨ Der db [] (-l)
  wat : ∀ x j, j ∈ wt x ↔ ∃ c, cl[j]? = some c ∧ (x = w0 c ∨ x = w1 c)
  wnd : ∀ x, (wt x).Nodup
  nd : T.Nodup
  cons : Cons T
  lit : ∀ l, l ∈ T → isLitB l = true
  few : cl.length ≤ db.length
/-- where a watched literal is against what was looked at, the other one holds. -/
def Watch (cl : List (List Int)) (P T : List Int) : Prop := ∀ c, c ∈ cl → (-(w0 c) ∈ P → w1 c ∈ T) ∧ (-(w1 c) ∈ P → w0 c ∈ T)
theorem Struct.wlen {db cl : List (List Int)} {wt : Int → List Nat} {T : List Int} (h : Struct db cl wt T) (x : Int) : (wt x).length ≤ cl.length := by
  have := nodup_sub (h.wnd x) (b := List.range cl.length) (fun j hj => by
    obtain ⟨c, hc, _⟩ := (h.wat x j).1 hj
    exact List.mem_range.2 (List.getElem?_eq_some_iff.1 hc).1)
  simpa using this
theorem w0_mem {c : List Int} (h : 2 ≤ c.length) : w0 c ∈ c := by
  unfold w0
  rw [List.getD_eq_getElem?_getD, List.getElem?_eq_getElem (by omega)]
  exact List.getElem_mem ..
theorem w1_mem {c : List Int} (h : 2 ≤ c.length) : w1 c ∈ c := by
  unfold w1
  rw [List.getD_eq_getElem?_getD, List.getElem?_eq_getElem (by omega)]
  exact List.getElem_mem ..
theorem w_ne {c : List Int} (h : 2 ≤ c.length) (hn : c.Nodup) : w0 c ≠ w1 c := by
  unfold w0 w1
  rw [List.getD_eq_getElem?_getD, List.getD_eq_getElem?_getD, List.getElem?_eq_getElem (by omega : 0 < c.length), List.getElem?_eq_getElem (by omega : 1 < c.length)]
  simp only [Option.getD_some]
  exact (List.pairwise_iff_getElem.1 hn) 0 1 (by omega) (by omega) (by omega)
/-- what is derived without an end in a conflict is all that comes. -/
theorem closed_all {db cl : List (List Int)} {wt : Int → List Nat} {T gv : List Int} (h : Struct db cl wt T) (hw : Watch cl T T) (hg : ∀ l, l ∈ gv → l ∈ T)
    (hc : ∀ c, c ∈ db → Taut c ∨ (∃ l, l ∈ c ∧ l ∈ T) ∨ (∃ d, d ∈ cl ∧ ∀ l, l ∈ d → l ∈ c)) : ∀ l, Der db gv l → l ∈ T := by
  intro l hl
  induction hl with
  | given h => exact hg _ h
  | @unit c l hcd hlc _ ih =>
    rcases hc c hcd with ⟨x, hx, hx2, hne⟩ | ⟨x, hx, hxT⟩ | ⟨d, hd, hcover⟩
    · by_cases e : x = l
      · subst e
        have := ih (-x) hx2 (fun e => hne e.symm)
        rw [Int.neg_neg] at this
        exact this
      · have h1 := ih x hx e
        by_cases e2 : -x = l
        · exact e2 ▸ h1
        · have h2 := ih (-x) hx2 e2
          exact absurd h2 (h.cons _ h1)
    · by_cases e : x = l
      · exact e ▸ hxT
      · exact absurd (ih x hx e) (h.cons _ hxT)
    · obtain ⟨h2, hn, _⟩ := h.two d hd
      have hne := w_ne h2 hn
      have a0 := hcover _ (w0_mem h2)
      have a1 := hcover _ (w1_mem h2)
      by_cases e : w0 d = l
      · have h1 := ih (w1 d) a1 (fun e1 => hne (e.trans e1.symm))
        have := (hw d hd).2 h1
        exact e ▸ this
      · have h0 := ih (w0 d) a0 e
        have h1 := (hw d hd).1 h0
        by_cases e1 : w1 d = l
        · exact e1 ▸ h1
        · exact absurd (ih (w1 d) a1 e1) (h.cons _ h1)
end Go.Proofs.Ytgdncnalahdjeaa
