/- Stage 6: what was made once is told again, plain. -/
import Derived.Test.YtkjmmdffelhkiaaT28
namespace Go.Proofs.Ytkjmmdffelhkiaa
open Go Go.RowKit Go.Maps
open Classical

structure VLe (v v' : View) : Prop where
  ok : ∀ t, v.ok t → v'.ok t
  st : ∀ t, v.ok t → v'.st t = v.st t
  sp : ∀ t, v.ok t → v'.sp t = v.sp t
  in' : ∀ t, (v.sp t).2.2 = 0 → v.ok t
theorem view_le (N M : List Nd) : VLe (view N) (view (N ++ M)) := by
  refine ⟨fun t h => ?_, fun t h => ?_, fun t h => ?_, fun t h => ?_⟩
  · have h : InL N t := h
    refine ⟨h.1, ?_⟩
    have := h.2
    rw [List.length_append]
    omega
  · have h : InL N t := h
    obtain ⟨k, x, rfl, hk, hx⟩ := inS_get h
    show stL (N ++ M) _ = stL N _
    rw [stL_of hx, stL_of (by rw [List.getElem?_append_left hk]; exact hx)]
  · have h : InL N t := h
    have h' : InL (N ++ M) t := ⟨h.1, by have := h.2; rw [List.length_append]; omega⟩
    obtain ⟨k, x, rfl, hk, hx⟩ := inS_get h
    show spL (N ++ M) _ = spL N _
    unfold spL
    rw [if_pos h, if_pos h', Int.toNat_natCast, hx, List.getElem?_append_left hk, hx]
  · by_cases hin : InL N t
    · exact hin
    · have h : (spL N t).2.2 = 0 := h
      unfold spL at h
      rw [if_neg hin] at h
      exact absurd h (by decide)
def Yes (q : Req) : Prop := ∀ e, q ≠ .no e
theorem notQ_le {v v' : View} (h : VLe v v') {a : Int} (hy : Yes (notQ v a)) : notQ v' a = notQ v a := by
  unfold notQ at hy ⊢
  by_cases h1 : v.ok a
  · rw [if_pos h1, if_pos (h.ok a h1), h.st a h1]
  · rw [if_neg h1] at hy; exact absurd rfl (hy 7)
theorem manyQ_le {v v' : View} (h : VLe v v') {q em : Int} {n : Nat} {V : Nat → Int} (hy : Yes (manyQ v q em n V)) : manyQ v' q em n V = manyQ v q em n V := by
  unfold manyQ at hy ⊢
  by_cases h1 : ∀ i, i < n → v.ok (V i)
  · rw [if_pos h1, if_pos (fun i hi => h.ok _ (h1 i hi))]
    have e : (∀ i, i < n → v'.st (V i) = 0) = (∀ i, i < n → v.st (V i) = 0) := by
      apply propext
      exact ⟨fun k i hi => by rw [← h.st _ (h1 i hi)]; exact k i hi, fun k i hi => by rw [h.st _ (h1 i hi)]; exact k i hi⟩
    simp only [e]
  · rw [if_neg h1] at hy; exact absurd rfl (hy 7)
theorem eqQ_le {v v' : View} (h : VLe v v') {a b : Int} (hy : Yes (eqQ v a b)) : eqQ v' a b = eqQ v a b := by
  unfold eqQ at hy ⊢
  by_cases h1 : v.ok a ∧ v.ok b
  · rw [if_pos h1, if_pos ⟨h.ok a h1.1, h.ok b h1.2⟩, h.st a h1.1, h.st b h1.2]
  · rw [if_neg h1] at hy; exact absurd rfl (hy 7)
theorem iteQ_le {v v' : View} (h : VLe v v') {c a b : Int} (hy : Yes (iteQ v c a b)) : iteQ v' c a b = iteQ v c a b := by
  unfold iteQ at hy ⊢
  by_cases h1 : v.ok c ∧ v.ok a ∧ v.ok b
  · rw [if_pos h1, if_pos ⟨h.ok c h1.1, h.ok a h1.2.1, h.ok b h1.2.2⟩, h.st a h1.2.1, h.st b h1.2.2, h.st c h1.1]
  · rw [if_neg h1] at hy; exact absurd rfl (hy 7)
theorem appQ_le {v v' : View} (h : VLe v v') {f s : Int} {n : Nat} {V : Nat → Int} (hy : Yes (appQ v f s n V)) : appQ v' f s n V = appQ v f s n V := by
  unfold appQ at hy ⊢
  by_cases h0 : f < 0 ∨ s < 0
  · rw [if_pos h0, if_pos h0]
  · rw [if_neg h0] at hy
    rw [if_neg h0, if_neg h0]
    by_cases h1 : ∀ i, i < n → v.ok (V i)
    · rw [if_pos h1, if_pos (fun i hi => h.ok _ (h1 i hi))]
    · rw [if_neg h1] at hy; exact absurd rfl (hy 7)
theorem plusQ_le {v v' : View} (h : VLe v v') {a n : Int} (hy : Yes (plusQ v a n)) : plusQ v' a n = plusQ v a n := by
  unfold plusQ at hy ⊢
  by_cases h1 : (v.sp a).2.2 = 0
  · rw [h.sp a (h.in' a h1)]
  · rw [if_neg h1] at hy; exact absurd rfl (hy _)
theorem leQ_le {v v' : View} (h : VLe v v') {a b n : Int} (hy : Yes (leQ v a b n)) : leQ v' a b n = leQ v a b n := by
  unfold leQ at hy ⊢
  by_cases h1 : v.ok a ∧ v.ok b
  · rw [if_pos h1, if_pos ⟨h.ok a h1.1, h.ok b h1.2⟩, h.sp a h1.1, h.sp b h1.2]
  · rw [if_neg h1] at hy; exact absurd rfl (hy 7)
theorem reqOf_le {v v' : View} (h : VLe v v') {o : Cl} (hy : Yes (reqOf v o)) : reqOf v' o = reqOf v o := by
  unfold reqOf at hy ⊢
  split
  · rename_i e; rw [if_pos e] at hy; exact notQ_le h hy
  rename_i e0; rw [if_neg e0] at hy
  split
  · rename_i e; rw [if_pos e] at hy; exact manyQ_le h hy
  rename_i e1; rw [if_neg e1] at hy
  split
  · rename_i e; rw [if_pos e] at hy; exact manyQ_le h hy
  rename_i e2; rw [if_neg e2] at hy
  split
  · rename_i e; rw [if_pos e] at hy; exact eqQ_le h hy
  rename_i e3; rw [if_neg e3] at hy
  split
  · rename_i e; rw [if_pos e] at hy; exact iteQ_le h hy
  rename_i e4; rw [if_neg e4] at hy
  split
  · rename_i e; rw [if_pos e] at hy; exact appQ_le h hy
  rename_i e5; rw [if_neg e5] at hy
  split
  · rfl
  rename_i e6; rw [if_neg e6] at hy
  split
  · rename_i e; rw [if_pos e] at hy; exact plusQ_le h hy
  rename_i e7; rw [if_neg e7] at hy
  split
  · rename_i e; rw [if_pos e] at hy; exact leQ_le h hy
  · rfl
theorem no_ne {q : Req} {e : Int} (he : e ≠ 0) (h : q = .no e) : q ≠ .no 0 := fun h2 => by rw [h] at h2; cases h2; exact he rfl
theorem req_no0 (v : View) (o : Cl) : reqOf v o ≠ .no 0 := by
  have lit : ∀ {e : Int}, e ≠ 0 → (Req.no e ≠ .no 0) := fun he h => by injection h with h; exact he h
  have mk : ∀ x, Req.mk x ≠ .no 0 := fun x h => by cases h
  have is : ∀ t, Req.is t ≠ .no 0 := fun x h => by cases h
  unfold reqOf
  split
  · unfold notQ
    split
    · split
      · exact mk _
      · exact lit (by decide)
    · exact lit (by decide)
  have many : ∀ q em, manyQ v q em o.L o.V ≠ .no 0 := fun q em => by
    unfold manyQ
    split
    · split
      · exact lit (by decide)
      · split
        · split
          · exact is _
          · split
            · exact is _
            · exact mk _
        · exact lit (by decide)
    · exact lit (by decide)
  split
  · exact many _ _
  split
  · exact many _ _
  split
  · unfold eqQ
    split
    · split
      · exact mk _
      · exact lit (by decide)
    · exact lit (by decide)
  split
  · unfold iteQ
    split
    · split
      · exact mk _
      · exact lit (by decide)
    · exact lit (by decide)
  split
  · unfold appQ
    split
    · exact lit (by decide)
    · split
      · split
        · exact lit (by decide)
        · exact mk _
      · exact lit (by decide)
  split
  · unfold numQ
    split
    · exact mk _
    · exact lit (by decide)
  split
  · unfold plusQ
    split
    · split
      · split
        · exact mk _
        · split
          · exact is _
          · exact mk _
      · exact lit (by decide)
    · rename_i he
      exact lit he
  split
  · unfold leQ
    split
    · split
      · split
        · split
          · exact is _
          · exact mk _
        · exact lit (by decide)
      · exact lit (by decide)
    · exact lit (by decide)
  · exact is _
/-- what was made. -/
def KnownO (L : List Nd) (o : Cl) (t : Int) : Prop := Ans L (reqOf (view L) o) t 0 L
theorem Ans.grown {L L' : List Nd} {q : Req} {t er : Int} (h : Ans L q t er L') : ∃ M, L' = L ++ M := by
  cases q with
  | no e => exact ⟨[], by rw [h.2.2, List.append_nil]⟩
  | is t0 => exact ⟨[], by rw [h.2.2, List.append_nil]⟩
  | mk x =>
    rcases h with ⟨_, e, _⟩ | ⟨_, _, e, _⟩ | ⟨_, _, _, _, P, C, e⟩
    · exact ⟨[], by rw [e, List.append_nil]⟩
    · exact ⟨[], by rw [e, List.append_nil]⟩
    · exact ⟨_, e⟩
theorem Ans.yes {L L' : List Nd} {v : View} {o : Cl} {t : Int} (h : Ans L (reqOf v o) t 0 L') : Yes (reqOf v o) := fun e he => by
  rw [he] at h
  have := h.2.1
  exact req_no0 v o (by rw [he, ← this])
theorem Ans.again {L M : List Nd} {q : Req} {t : Int} (h : Ans L q t 0 L) : Ans (L ++ M) q t 0 (L ++ M) := by
  cases q with
  | no e => exact ⟨h.1, h.2.1, rfl⟩
  | is t0 => exact ⟨h.1, h.2.1, rfl⟩
  | mk x =>
    rcases h with ⟨_, _, j, y, hj, hy, hs⟩ | ⟨e, _⟩ | ⟨_, _, _, _, P, C, e⟩
    · exact .inl ⟨rfl, rfl, j, y, hj, by rw [List.getElem?_append_left (List.getElem?_eq_some_iff.1 hy).1]; exact hy, hs⟩
    · exact absurd e (by decide)
    · have := congrArg List.length e
      rw [List.length_append] at this
      simp at this
theorem KnownO.grow {L M : List Nd} {o : Cl} {t : Int} (h : KnownO L o t) : KnownO (L ++ M) o t := by
  unfold KnownO at h ⊢
  rw [reqOf_le (view_le L M) h.yes]
  exact h.again
theorem Ans.knownO {L L' : List Nd} {o : Cl} {t : Int} (h : Ans L (reqOf (view L) o) t 0 L') : KnownO L' o t := by
  obtain ⟨M, rfl⟩ := h.grown
  unfold KnownO
  rw [reqOf_le (view_le L M) h.yes]
  have hy := h.yes
  generalize reqOf (view L) o = q at h hy
  cases q with
  | no e => exact absurd rfl (hy e)
  | is t0 => exact ⟨h.1, h.2.1, rfl⟩
  | mk x =>
    rcases h with ⟨_, e, j, y, hj, hyy, hs⟩ | ⟨e, _⟩ | ⟨_, e, _, _, P, C, e2⟩
    · exact .inl ⟨rfl, rfl, j, y, hj, by rw [List.getElem?_append_left (List.getElem?_eq_some_iff.1 hyy).1]; exact hyy, hs⟩
    · exact absurd e (by decide)
    · have hM := List.append_cancel_left e2
      subst hM
      exact .inl ⟨rfl, rfl, L.length, { x with P := P, C := C }, e, by simp, ⟨rfl, rfl, rfl, rfl, rfl, fun _ _ => rfl⟩⟩
theorem KnownO.told {L L2 : List Nd} {o : Cl} {t t2 er2 : Int} (u : UniqL L) (h : KnownO L o t) (h2 : Ans L (reqOf (view L) o) t2 er2 L2) : t2 = t ∧ er2 = 0 ∧ L2 = L := by
  have al : Alike L L := ⟨rfl, fun i x y hx hy => by rw [hx] at hy; cases hy; exact SameN.refl _⟩
  obtain ⟨e1, e2, al2⟩ := Ans.uniq u al h h2
  obtain ⟨M, rfl⟩ := h2.grown
  have := al2.len
  rw [List.length_append] at this
  have hM : M = [] := List.length_eq_zero_iff.1 (by omega)
  subst hM
  exact ⟨e1.symm, e2.symm, by simp⟩
/-- a call that tells its terms. -/
def clS (o : OpV) : Cl := ⟨o.k, o.a, o.b, o.c, o.L, o.V, o.f, o.s, o.n⟩
theorem clOf_plain (o : OpV) (n : Nat) (h : o.m = false) : clOf o n = clS o := by
  unfold clOf clS nearV
  rw [h]
  simp
end Go.Proofs.Ytkjmmdffelhkiaa
