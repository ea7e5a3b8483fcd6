/- Unit propagation, plain: the steps of a visit. -/
import Derived.Test.YtgdncnalahdjeaaU0
namespace Go.Proofs.Ytgdncnalahdjeaa
open Go

/-- two places of a clause change. -/
def swL (c : List Int) (i k : Nat) : List Int := (c.set i (c.getD k 0)).set k (c.getD i 0)
theorem getD_eq {α : Type} {c : List α} {z : α} {i : Nat} (h : i < c.length) : c.getD i z = c[i] := by
  rw [List.getD_eq_getElem?_getD, List.getElem?_eq_getElem h]; rfl
theorem swL_perm {c : List Int} {i k : Nat} (hi : i < c.length) (hk : k < c.length) : (swL c i k).Perm c := by
  unfold swL
  rw [getD_eq hi, getD_eq hk]
  exact List.set_set_perm hi hk
theorem swL_len (c : List Int) (i k : Nat) : (swL c i k).length = c.length := by simp [swL]
theorem swL_w0 {c : List Int} (h : 2 ≤ c.length) : w0 (swL c 0 1) = w1 c ∧ w1 (swL c 0 1) = w0 c := by
  unfold swL w0 w1
  constructor
  · rw [getD_eq (by simp; omega), List.getElem_set_ne (by omega), List.getElem_set_self]
  · rw [getD_eq (by simp; omega), List.getElem_set_self]
theorem swL_w1 {c : List Int} {k : Nat} (hk : k < c.length) (h2 : 2 ≤ k) : w0 (swL c 1 k) = w0 c ∧ w1 (swL c 1 k) = c.getD k 0 := by
  unfold swL w0 w1
  constructor
  · rw [getD_eq (by simp; omega), List.getElem_set_ne (by omega), List.getElem_set_ne (by omega)]
    exact (getD_eq (by omega)).symm
  · rw [getD_eq (by simp; omega), List.getElem_set_ne (by omega), List.getElem_set_self]
def upW (wt : Int → List Nat) (x : Int) (l : List Nat) : Int → List Nat := fun y => if y = x then l else wt y
theorem upW_same (wt : Int → List Nat) (x : Int) (l : List Nat) : upW wt x l x = l := if_pos rfl
theorem upW_ne (wt : Int → List Nat) {x y : Int} (l : List Nat) (h : y ≠ x) : upW wt x l y = wt y := if_neg h
theorem getD_ne {c : List Int} {i k : Nat} (hi : i < c.length) (hk : k < c.length) (hn : c.Nodup) (h : i ≠ k) : c.getD i 0 ≠ c.getD k 0 := by
  rw [getD_eq hi, getD_eq hk]
  rcases Nat.lt_or_ge i k with hlt | hge
  · exact (List.pairwise_iff_getElem.1 hn) i k hi hk hlt
  · exact ((List.pairwise_iff_getElem.1 hn) k i hk hi (by omega)).symm
/-- the clauses of the one are those of the other, each with its literals in some order. -/
def Alk (cl cl' : List (List Int)) : Prop := cl'.length = cl.length ∧ ∀ (j : Nat) (c c' : List Int), cl[j]? = some c → cl'[j]? = some c' → c'.Perm c
theorem Alk.refl (cl : List (List Int)) : Alk cl cl := ⟨rfl, fun j c c' h h' => by rw [h] at h'; cases h'; exact List.Perm.refl _⟩
theorem Alk.trans {a b c : List (List Int)} (h : Alk a b) (k : Alk b c) : Alk a c := ⟨k.1.trans h.1, fun j x z hx hz => by
  have hj : j < b.length := by have := (List.getElem?_eq_some_iff.1 hx).1; rw [h.1]; exact this
  exact (k.2 j _ z (List.getElem?_eq_getElem hj) hz).trans (h.2 j x _ hx (List.getElem?_eq_getElem hj))⟩
theorem Alk.set {cl : List (List Int)} {j : Nat} {c c' : List Int} (hj : cl[j]? = some c) (hp : c'.Perm c) : Alk cl (cl.set j c') := by
  refine ⟨by simp, fun i x x' hx hx' => ?_⟩
  rw [List.getElem?_set] at hx'
  by_cases e : j = i
  · subst e
    rw [hj] at hx
    cases hx
    have hl := (List.getElem?_eq_some_iff.1 hj).1
    simp [hl] at hx'
    exact hx' ▸ hp
  · rw [if_neg e, hx] at hx'
    cases hx'
    exact List.Perm.refl _
theorem Alk.mem {cl cl' : List (List Int)} (h : Alk cl cl') {d : List Int} (hd : d ∈ cl) : ∃ d', d' ∈ cl' ∧ d'.Perm d := by
  obtain ⟨j, hj⟩ := List.mem_iff_getElem?.1 hd
  have hl : j < cl'.length := by have := (List.getElem?_eq_some_iff.1 hj).1; rw [h.1]; exact this
  exact ⟨_, List.getElem_mem hl, h.2 j d _ hj (List.getElem?_eq_getElem hl)⟩
section
variable {db cl : List (List Int)} {wt : Int → List Nat} {T : List Int}
/-- a clause's literals in another order. -/
theorem Struct.put (h : Struct db cl wt T) {j : Nat} {c c' : List Int} (hj : cl[j]? = some c) (hp : c'.Perm c) {wt' : Int → List Nat} (hw : ∀ x i, i ∈ wt' x ↔ (i ≠ j ∧ i ∈ wt x) ∨ (i = j ∧ (x = w0 c' ∨ x = w1 c'))) (hn : ∀ x, (wt' x).Nodup) : Struct db (cl.set j c') wt' T := by
  have hl := (List.getElem?_eq_some_iff.1 hj).1
  have hm : ∀ d, d ∈ cl.set j c' → ∃ e, e ∈ cl ∧ d.Perm e := fun d hd => by
    rcases List.mem_or_eq_of_mem_set hd with h1 | h1
    · exact ⟨d, h1, List.Perm.refl _⟩
    · exact ⟨c, List.mem_of_getElem? hj, h1 ▸ hp⟩
  refine ⟨fun d hd => ?_, fun d hd => ?_, fun x i => ?_, hn, h.nd, h.cons, h.lit, by simpa using h.few⟩
  · obtain ⟨e, he, hpe⟩ := hm d hd
    obtain ⟨a, b, f⟩ := h.two e he
    exact ⟨hpe.length_eq ▸ a, hpe.nodup_iff.2 b, fun l hl => f l (hpe.mem_iff.1 hl)⟩
  · obtain ⟨e, he, hpe⟩ := hm d hd
    obtain ⟨f, hf, a, b⟩ := h.src e he
    exact ⟨f, hf, fun l hl => a l (hpe.mem_iff.1 hl), fun l hl => (b l hl).imp (fun h => hpe.mem_iff.2 h) id⟩
  · rw [hw]
    by_cases e : i = j
    · subst e
      rw [List.getElem?_set_self hl]
      simp
    · rw [List.getElem?_set_ne (Ne.symm e), h.wat]
      simp [e]
theorem Struct.swap (h : Struct db cl wt T) {j : Nat} {c : List Int} (hj : cl[j]? = some c) : Struct db (cl.set j (swL c 0 1)) wt T := by
  have h2 := (h.two c (List.mem_of_getElem? hj)).1
  refine h.put hj (swL_perm (by omega) (by omega)) (fun x i => ?_) h.wnd
  rw [(swL_w0 h2).1, (swL_w0 h2).2]
  by_cases e : i = j
  · subst e
    rw [h.wat]
    constructor
    · rintro ⟨d, hd, h1⟩
      rw [hj] at hd; cases hd
      exact .inr ⟨rfl, h1.symm⟩
    · rintro (⟨h1, _⟩ | ⟨_, h1⟩)
      · exact absurd rfl h1
      · exact ⟨c, hj, h1.symm⟩
  · simp [e]
/-- a clause is watched by another literal. -/
theorem Struct.move (h : Struct db cl wt T) {j k : Nat} {c : List Int} {gone : Int} {kept rest : List Nat} (hj : cl[j]? = some c) (hg : w1 c = gone) (hw : wt gone = kept ++ j :: rest) (hk : k < c.length) (h2 : 2 ≤ k) :
    c.getD k 0 ≠ gone ∧ Struct db (cl.set j (swL c 1 k)) (upW (upW wt gone (kept ++ rest)) (c.getD k 0) (wt (c.getD k 0) ++ [j])) T := by
  obtain ⟨l2, hn, _⟩ := h.two c (List.mem_of_getElem? hj)
  have hne : c.getD k 0 ≠ gone := by rw [← hg]; exact getD_ne hk (by omega) hn (by omega)
  have hne0 : c.getD k 0 ≠ w0 c := getD_ne hk (by omega) hn (by omega)
  have h01 : gone ≠ w0 c := by rw [← hg]; exact (w_ne l2 hn).symm
  have hnd := h.wnd gone
  rw [hw] at hnd
  have hjn : j ∉ kept ++ rest := by
    exact (List.nodup_cons.1 (List.perm_middle.nodup_iff.1 hnd)).1
  have hnd2 : (kept ++ rest).Nodup := (List.nodup_cons.1 (List.perm_middle.nodup_iff.1 hnd)).2
  have hjx : j ∉ wt (c.getD k 0) := fun hm => by
    obtain ⟨d, hd, h1⟩ := (h.wat _ _).1 hm
    rw [hj] at hd; cases hd
    rcases h1 with h1 | h1
    · exact hne0 h1
    · exact hne (h1.trans hg)
  refine ⟨hne, h.put hj (swL_perm (by omega) hk) (fun x i => ?_) (fun x => ?_)⟩
  · rw [(swL_w1 hk h2).1, (swL_w1 hk h2).2]
    by_cases ex : x = c.getD k 0
    · subst ex
      rw [upW_same]
      by_cases ei : i = j
      · subst ei; simp
      · simp [ei]
    · rw [upW_ne _ _ ex]
      by_cases eg : x = gone
      · subst eg
        rw [upW_same]
        by_cases ei : i = j
        · subst ei
          constructor
          · intro hm; exact absurd hm hjn
          · rintro (⟨h1, _⟩ | ⟨_, h1 | h1⟩)
            · exact absurd rfl h1
            · exact absurd h1 h01
            · exact absurd h1 ex
        · rw [hw]
          simp [ei]
      · rw [upW_ne _ _ eg]
        by_cases ei : i = j
        · subst ei
          constructor
          · intro hm
            obtain ⟨d, hd, h1⟩ := (h.wat _ _).1 hm
            rw [hj] at hd; cases hd
            rcases h1 with h1 | h1
            · exact .inr ⟨rfl, .inl h1⟩
            · exact absurd (h1.trans hg) eg
          · rintro (⟨h1, _⟩ | ⟨_, h1 | h1⟩)
            · exact absurd rfl h1
            · exact (h.wat _ _).2 ⟨c, hj, .inl h1⟩
            · exact absurd h1 ex
        · simp [ei]
  · by_cases ex : x = c.getD k 0
    · subst ex
      rw [upW_same]
      exact List.nodup_append.2 ⟨h.wnd _, by simp, fun a ha b hb => by simp at hb; subst hb; rintro rfl; exact hjx ha⟩
    · rw [upW_ne _ _ ex]
      by_cases eg : x = gone
      · subst eg; rw [upW_same]; exact hnd2
      · rw [upW_ne _ _ eg]; exact h.wnd x
/-- a literal more is derived. -/
theorem Struct.add (h : Struct db cl wt T) {l : Int} (h0 : valT T l = 0) (hl : isLitB l = true) : Struct db cl wt (T ++ [l]) := by
  obtain ⟨a, b⟩ := valT_zero.1 h0
  have hz : l ≠ 0 := by intro e; subst e; simp [isLitB] at hl
  refine ⟨h.two, h.src, h.wat, h.wnd, ?_, ?_, ?_, h.few⟩
  · exact List.nodup_append.2 ⟨h.nd, by simp, fun x hx y hy => by simp at hy; subst hy; rintro rfl; exact a hx⟩
  · intro x hx
    rcases List.mem_append.1 hx with hx | hx
    · intro hm
      rcases List.mem_append.1 hm with hm | hm
      · exact h.cons x hx hm
      · simp at hm
        exact b (by rw [← hm, Int.neg_neg]; exact hx)
    · simp at hx
      subst hx
      intro hm
      rcases List.mem_append.1 hm with hm | hm
      · exact b hm
      · simp at hm; omega
  · intro x hx
    rcases List.mem_append.1 hx with hx | hx
    · exact h.lit x hx
    · simp at hx; subst hx; exact hl
/-- fewer are derived. -/
theorem Struct.cut (h : Struct db cl wt T) (n : Nat) : Struct db cl wt (T.take n) :=
  ⟨h.two, h.src, h.wat, h.wnd, h.nd.sublist (List.take_sublist ..), fun l hl hm => h.cons l (List.mem_of_mem_take hl) (List.mem_of_mem_take hm), fun l hl => h.lit l (List.mem_of_mem_take hl), h.few⟩
end
/-- a visit under way: kept are those of the list that stay, rest those that are ahead. (F: that nothing was left out till now.) -/
structure Vis (F : Prop) (db cl : List (List Int)) (wt : Int → List Nat) (T P T0 gv : List Int) (gone : Int) (kept rest : List Nat) : Prop where
  st : Struct db cl wt T
  at_ : wt gone = kept ++ rest
  gn : -gone ∈ T
  pt : ∀ l, l ∈ P → l ∈ T
  der : ∀ l, l ∈ T → Der db gv l
  t0 : ∀ l, l ∈ T0 → l ∈ T
  wt0 : F → Watch cl T0 T0
  ok : F → ∀ (j : Nat) (c : List Int), cl[j]? = some c → (-(w0 c) ∈ P ∨ (w0 c = gone ∧ j ∉ rest) → w1 c ∈ T) ∧ (-(w1 c) ∈ P ∨ (w1 c = gone ∧ j ∉ rest) → w0 c ∈ T)
section
variable {F : Prop} {db cl : List (List Int)} {wt : Int → List Nat} {T P T0 gv : List Int} {gone : Int} {kept rest : List Nat} {j : Nat} {c : List Int}
theorem Vis.end_ (h : Vis F db cl wt T P T0 gv gone kept []) : F → Watch cl (P ++ [-gone]) T := by
  intro hF d hd
  obtain ⟨i, hi⟩ := List.mem_iff_getElem?.1 hd
  have := h.ok hF i d hi
  refine ⟨fun hm => this.1 ?_, fun hm => this.2 ?_⟩
  · rcases List.mem_append.1 hm with hm | hm
    · exact .inl hm
    · simp at hm; exact .inr ⟨by omega, by simp⟩
  · rcases List.mem_append.1 hm with hm | hm
    · exact .inl hm
    · simp at hm; exact .inr ⟨by omega, by simp⟩
/-- the clause that comes next is one of those watched. -/
theorem Vis.next (h : Vis F db cl wt T P T0 gv gone kept (j :: rest)) : ∃ c, cl[j]? = some c ∧ (gone = w0 c ∨ gone = w1 c) := (h.st.wat gone j).1 (by rw [h.at_]; simp)
/-- its watched literal second. -/
theorem Vis.swap (h : Vis F db cl wt T P T0 gv gone kept (j :: rest)) (hj : cl[j]? = some c) : Vis F db (cl.set j (swL c 0 1)) wt T P T0 gv gone kept (j :: rest) := by
  have h2 := (h.st.two c (List.mem_of_getElem? hj)).1
  have hl := (List.getElem?_eq_some_iff.1 hj).1
  refine ⟨h.st.swap hj, h.at_, h.gn, h.pt, h.der, h.t0, fun hF d hd => ?_, fun hF i d hi => ?_⟩
  · rcases List.mem_or_eq_of_mem_set hd with h1 | h1
    · exact h.wt0 hF d h1
    · subst h1
      rw [(swL_w0 h2).1, (swL_w0 h2).2]
      exact (h.wt0 hF c (List.mem_of_getElem? hj)).symm
  · rw [List.getElem?_set] at hi
    by_cases e : j = i
    · subst e
      simp [hl] at hi
      subst hi
      rw [(swL_w0 h2).1, (swL_w0 h2).2]
      exact (h.ok hF j c hj).symm
    · rw [if_neg e] at hi
      exact h.ok hF i d hi
/-- the clause stays where it is. -/
theorem Vis.keep (h : Vis F db cl wt T P T0 gv gone kept (j :: rest)) (hj : cl[j]? = some c) (hg : w1 c = gone) (h0 : w0 c ∈ T) : Vis F db cl wt T P T0 gv gone (kept ++ [j]) rest := by
  obtain ⟨l2, hn, _⟩ := h.st.two c (List.mem_of_getElem? hj)
  refine ⟨h.st, by rw [h.at_]; simp, h.gn, h.pt, h.der, h.t0, h.wt0, fun hF i d hi => ?_⟩
  by_cases e : i = j
  · subst e
    rw [hj] at hi; cases hi
    refine ⟨fun hm => ?_, fun _ => h0⟩
    rcases hm with hm | ⟨hm, _⟩
    · exact absurd (h.pt _ hm) (h.st.cons _ h0)
    · exact absurd (hm.trans hg.symm) (w_ne l2 hn)
  · have := h.ok hF i d hi
    refine ⟨fun hm => this.1 ?_, fun hm => this.2 ?_⟩ <;> (rcases hm with hm | ⟨a, b⟩; exact .inl hm; exact .inr ⟨a, by simp [e, b]⟩)
/-- another literal watches it. -/
theorem Vis.move (h : Vis F db cl wt T P T0 gv gone kept (j :: rest)) (hj : cl[j]? = some c) (hg : w1 c = gone) (h0 : w0 c ∉ T) {k : Nat} (hk : k < c.length) (h2 : 2 ≤ k) (hx : -(c.getD k 0) ∉ T) :
    c.getD k 0 ≠ gone ∧ Vis F db (cl.set j (swL c 1 k)) (upW (upW wt gone (kept ++ rest)) (c.getD k 0) (wt (c.getD k 0) ++ [j])) T P T0 gv gone kept rest := by
  obtain ⟨l2, hn, _⟩ := h.st.two c (List.mem_of_getElem? hj)
  have hl := (List.getElem?_eq_some_iff.1 hj).1
  obtain ⟨hne, hs⟩ := h.st.move hj hg h.at_ hk h2
  have hgT : gone ∉ T := fun hm => h.st.cons _ hm h.gn
  refine ⟨hne, hs, by rw [upW_ne _ _ hne.symm, upW_same], h.gn, h.pt, h.der, h.t0, fun hF d hd => ?_, fun hF i d hi => ?_⟩
  · rcases List.mem_or_eq_of_mem_set hd with h1 | h1
    · exact h.wt0 hF d h1
    · subst h1
      rw [(swL_w1 hk h2).1, (swL_w1 hk h2).2]
      have := h.wt0 hF c (List.mem_of_getElem? hj)
      refine ⟨fun hm => ?_, fun hm => absurd (h.t0 _ hm) hx⟩
      have := this.1 hm
      rw [hg] at this
      exact absurd (h.t0 _ this) hgT
  · rw [List.getElem?_set] at hi
    by_cases e : j = i
    · subst e
      simp [hl] at hi
      subst hi
      rw [(swL_w1 hk h2).1, (swL_w1 hk h2).2]
      have := h.ok hF j c hj
      refine ⟨fun hm => ?_, fun hm => ?_⟩
      · rcases hm with hm | ⟨hm, _⟩
        · have := this.1 (.inl hm)
          rw [hg] at this
          exact absurd this hgT
        · exact absurd (hm.trans hg.symm) (w_ne l2 hn)
      · rcases hm with hm | ⟨hm, _⟩
        · exact absurd (h.pt _ hm) hx
        · exact absurd hm hne
    · rw [if_neg e] at hi
      have := h.ok hF i d hi
      refine ⟨fun hm => this.1 ?_, fun hm => this.2 ?_⟩ <;> (rcases hm with hm | ⟨a, b⟩; exact .inl hm; exact .inr ⟨a, by simp [Ne.symm e, b]⟩)
/-- all its literals but the first are against it. -/
theorem Vis.all (h : Vis F db cl wt T P T0 gv gone kept (j :: rest)) (hj : cl[j]? = some c) (hg : w1 c = gone) (ha : ∀ k, 2 ≤ k → k < c.length → -(c.getD k 0) ∈ T) : ∀ l, l ∈ c → l ≠ w0 c → -l ∈ T := by
  intro l hl hne
  obtain ⟨i, hi, rfl⟩ := List.getElem_of_mem hl
  by_cases e0 : i = 0
  · subst e0
    exact absurd (getD_eq (z := 0) hi).symm hne
  · by_cases e1 : i = 1
    · subst e1
      have : c[1] = gone := by rw [← hg]; exact (getD_eq (z := 0) hi).symm
      rw [this]; exact h.gn
    · have := ha i (by omega) hi
      rwa [getD_eq hi] at this
theorem gv_der {gv : List Int} {l : Int} (h : Der db [] l) : Der db gv l := h.mono (fun _ h => h) (fun _ h => by simp at h)
theorem Vis.first (h : Vis F db cl wt T P T0 gv gone kept (j :: rest)) (hj : cl[j]? = some c) (hg : w1 c = gone) (ha : ∀ k, 2 ≤ k → k < c.length → -(c.getD k 0) ∈ T) : Der db gv (w0 c) := by
  obtain ⟨d, hd, h1, h2⟩ := h.st.src c (List.mem_of_getElem? hj)
  obtain ⟨l2, hn, _⟩ := h.st.two c (List.mem_of_getElem? hj)
  refine .unit hd (h1 _ (w0_mem l2)) (fun k hk hne => ?_)
  rcases h2 k hk with hm | hm
  · exact h.der _ (h.all hj hg ha k hm hne)
  · exact gv_der hm
theorem Vis.unit (h : Vis F db cl wt T P T0 gv gone kept (j :: rest)) (hj : cl[j]? = some c) (hg : w1 c = gone) (h0 : valT T (w0 c) = 0) (ha : ∀ k, 2 ≤ k → k < c.length → -(c.getD k 0) ∈ T) : Vis F db cl wt (T ++ [w0 c]) P T0 gv gone (kept ++ [j]) rest := by
  obtain ⟨l2, hn, hli⟩ := h.st.two c (List.mem_of_getElem? hj)
  have hd := h.first hj hg ha
  have hs := h.st.add h0 (hli _ (w0_mem l2))
  have hv : Vis F db cl wt (T ++ [w0 c]) P T0 gv gone kept (j :: rest) := by
    refine ⟨hs, h.at_, List.mem_append_left _ h.gn, fun l hl => List.mem_append_left _ (h.pt l hl), fun l hl => ?_, fun l hl => List.mem_append_left _ (h.t0 l hl), h.wt0, fun hF i d hi => ?_⟩
    · rcases List.mem_append.1 hl with hl | hl
      · exact h.der l hl
      · simp at hl; subst hl; exact hd
    · have := h.ok hF i d hi
      exact ⟨fun hm => List.mem_append_left _ (this.1 hm), fun hm => List.mem_append_left _ (this.2 hm)⟩
  exact hv.keep hj hg (by simp)
/-- it ends in a conflict: the list is what it was. -/
theorem Vis.clash (h : Vis F db cl wt T P T0 gv gone kept (j :: rest)) (hj : cl[j]? = some c) (hg : w1 c = gone) (h0 : -(w0 c) ∈ T) (ha : ∀ k, 2 ≤ k → k < c.length → -(c.getD k 0) ∈ T) : Confl db gv :=
  .inr ⟨w0 c, h.first hj hg ha, h.der _ h0⟩
end
end Go.Proofs.Ytgdncnalahdjeaa
