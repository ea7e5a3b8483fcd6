/- Stage 6: what a call asks for, plain; what is answered. -/
import Derived.Test.YtkjmmdffelhkiaaT15
namespace Go.Proofs.Ytkjmmdffelhkiaa
open Go Go.RowKit Go.Maps
open Classical

/-- what a list of nodes tells of its terms. -/
structure View where
  ok : Int → Prop
  st : Int → Int
  sp : Int → Int × Int × Int
def InL (N : List Nd) (t : Int) : Prop := 0 ≤ t ∧ t < (N.length : Int)
def stL (N : List Nd) (t : Int) : Int := match N[t.toNat]? with
  | some x => x.s
  | none => 0
noncomputable def spN (x : Nd) (t : Int) : Int × Int × Int := if x.s = 1 then (if x.q = 3 then (2, x.n, 0) else if x.q = 4 then (x.V 0, x.n, 0) else (t, 0, 0)) else (0, 0, 60)
noncomputable def spL (N : List Nd) (t : Int) : Int × Int × Int := if InL N t then (match N[t.toNat]? with
  | some x => spN x t
  | none => (0, 0, 7)) else (0, 0, 7)
noncomputable def view (N : List Nd) : View := ⟨InL N, stL N, spL N⟩
inductive Req
  | no (er : Int)
  | is (t : Int)
  | mk (x : Nd)
noncomputable def notQ (v : View) (a : Int) : Req := if v.ok a then (if v.st a = 0 then .mk ⟨9, 0, 0, 0, none, 1, 1, fun _ => a⟩ else .no 60) else .no 7
noncomputable def manyQ (v : View) (q none' : Int) (n : Nat) (V : Nat → Int) : Req :=
  if ∀ i, i < n → v.ok (V i) then (if 2000 < n then .no 3 else if ∀ i, i < n → v.st (V i) = 0 then (if n = 0 then .is none' else if n = 1 then .is (V 0) else .mk ⟨q, 0, 0, 0, none, n, n, V⟩) else .no 60) else .no 7
def threeV (a b c : Int) : Nat → Int := fun i => if i = 0 then a else if i = 1 then b else c
noncomputable def eqQ (v : View) (a b : Int) : Req := if v.ok a ∧ v.ok b then (if v.st a = v.st b then .mk ⟨7, 0, 0, 0, none, 2, 2, twoV a b⟩ else .no 60) else .no 7
noncomputable def iteQ (v : View) (c a b : Int) : Req := if v.ok c ∧ v.ok a ∧ v.ok b then (if v.st c = 0 ∧ v.st a = v.st b then .mk ⟨6, 0, 0, v.st a, none, 3, 3, threeV c a b⟩ else .no 60) else .no 7
noncomputable def appQ (v : View) (f s : Int) (n : Nat) (V : Nat → Int) : Req :=
  if f < 0 ∨ s < 0 then .no 2 else if ∀ i, i < n → v.ok (V i) then (if 20 < n then .no 3 else .mk ⟨5, f, 0, s, none, n, n, V⟩) else .no 7
noncomputable def numQ (n : Int) : Req := if InB n then .mk (numN n) else .no 6
noncomputable def plusQ (v : View) (a n : Int) : Req :=
  if (v.sp a).2.2 = 0 then (if InB n ∧ InB ((v.sp a).2.1 + n) then (if (v.sp a).1 = 2 then .mk (numN ((v.sp a).2.1 + n)) else if (v.sp a).2.1 + n = 0 then .is (v.sp a).1 else .mk (plusN (v.sp a).1 ((v.sp a).2.1 + n) none)) else .no 6) else .no (v.sp a).2.2
noncomputable def leQ (v : View) (a b n : Int) : Req :=
  if v.ok a ∧ v.ok b then (if (v.sp a).2.2 = 0 ∧ (v.sp b).2.2 = 0 then (if InB n ∧ InB (n - (v.sp a).2.1 + (v.sp b).2.1) then
    (if (v.sp a).1 = (v.sp b).1 then .is (if 0 ≤ n - (v.sp a).2.1 + (v.sp b).2.1 then 0 else 1) else .mk (leN (v.sp a).1 (v.sp b).1 (n - (v.sp a).2.1 + (v.sp b).2.1) none)) else .no 6) else .no 60) else .no 7
/-- a call: its kind, its terms, its arguments. -/
structure Cl where
  k : Int
  a : Int
  b : Int
  c : Int
  L : Nat
  V : Nat → Int
  f : Int
  s : Int
  n : Int
noncomputable def reqOf (v : View) (o : Cl) : Req :=
  if o.k = 0 then notQ v o.a else if o.k = 1 then manyQ v 10 0 o.L o.V else if o.k = 2 then manyQ v 11 1 o.L o.V else if o.k = 3 then eqQ v o.a o.b else if o.k = 4 then iteQ v o.a o.b o.c
  else if o.k = 5 then appQ v o.f o.s o.L o.V else if o.k = 6 then numQ o.n else if o.k = 7 then plusQ v o.a o.n else if o.k = 8 then leQ v o.a o.b o.n else .is 0
def FreshL (L : List Nd) (x : Nd) : Prop := ∀ (t : Nat) (y : Nd), L[t]? = some y → ¬ SameN y x
/-- what is answered, and the nodes behind it. -/
def Ans (L : List Nd) (q : Req) (t er : Int) (L' : List Nd) : Prop := match q with
  | .no e => t = 0 ∧ er = e ∧ L' = L
  | .is t0 => t = t0 ∧ er = 0 ∧ L' = L
  | .mk x => (er = 0 ∧ L' = L ∧ ∃ (j : Nat) (y : Nd), t = (j : Int) ∧ L[j]? = some y ∧ SameN y x) ∨ (er = 9 ∧ t = 0 ∧ L' = L ∧ 20000 ≤ L.length ∧ FreshL L x) ∨
    (er = 0 ∧ t = (L.length : Int) ∧ L.length < 20000 ∧ FreshL L x ∧ ∃ P C, L' = L ++ [{ x with P := P, C := C }])
structure Alike (A B : List Nd) : Prop where
  len : A.length = B.length
  same : ∀ (i : Nat) (x y : Nd), A[i]? = some x → B[i]? = some y → SameN x y
theorem SameN.refl (x : Nd) : SameN x x := ⟨rfl, rfl, rfl, rfl, rfl, fun _ _ => rfl⟩
theorem SameN.symm {x y : Nd} (h : SameN x y) : SameN y x := ⟨h.q.symm, h.f.symm, h.n.symm, h.s.symm, h.L.symm, fun i hi => (h.V i (by rw [h.L]; exact hi)).symm⟩
theorem SameN.trans {x y z : Nd} (h : SameN x y) (k : SameN y z) : SameN x z := ⟨h.q.trans k.q, h.f.trans k.f, h.n.trans k.n, h.s.trans k.s, h.L.trans k.L, fun i hi => (h.V i hi).trans (k.V i (by rw [← h.L]; exact hi))⟩
def GoodN (N : List Nd) : Prop := ∀ t x, N[t]? = some x → NdOk x t
theorem NdOk.same {x y : Nd} {t : Nat} (h : NdOk x t) (e : SameN x y) : NdOk y t :=
  ⟨e.q ▸ h.q, e.f ▸ h.f, e.n ▸ h.n, e.s ▸ h.s, e.L ▸ h.L, fun i hi => by
    have hi2 : i < x.L := by rw [e.L]; exact hi
    rw [← e.V i hi2]
    exact h.V i hi2, fun hq => by rw [← e.L]; exact h.pl (by rw [e.q]; exact hq), fun hq => by rw [← e.n]; exact h.nb (by rw [e.q]; exact hq)⟩
theorem Alike.get {A B : List Nd} (h : Alike A B) {i : Nat} {x : Nd} (hx : A[i]? = some x) : ∃ y, B[i]? = some y ∧ SameN x y := by
  have hl := (List.getElem?_eq_some_iff.1 hx).1
  have hb : i < B.length := by rw [← h.len]; exact hl
  exact ⟨_, List.getElem?_eq_getElem hb, h.same i x _ hx (List.getElem?_eq_getElem hb)⟩
theorem Alike.symm {A B : List Nd} (h : Alike A B) : Alike B A := ⟨h.len.symm, fun i x y hx hy => (h.same i y x hy hx).symm⟩
theorem Alike.good {A B : List Nd} (h : Alike A B) (g : GoodN A) : GoodN B := fun t y hy => by
  obtain ⟨x, hx, e⟩ := h.symm.get hy
  exact (g t x hx).same e.symm
theorem spN_same {x y : Nd} {m : Nat} (h : SameN x y) (ok : NdOk x m) (t : Int) : spN x t = spN y t := by
  unfold spN
  rw [← h.s, ← h.q, ← h.n]
  by_cases h4 : x.q = 4
  · rw [h.V 0 (ok.pl h4)]
  · simp only [if_neg h4]
theorem Alike.view {A B : List Nd} (h : Alike A B) (g : GoodN A) : view A = view B := by
  have e1 : InL A = InL B := by funext t; unfold InL; rw [h.len]
  have e0 : ∀ t : Nat, (A[t]? = none ∧ B[t]? = none) ∨ ∃ x y, A[t]? = some x ∧ B[t]? = some y ∧ SameN x y := fun t => by
    cases ha : A[t]? with
    | none => exact .inl ⟨rfl, by rw [List.getElem?_eq_none_iff] at ha ⊢; rw [← h.len]; exact ha⟩
    | some x =>
      obtain ⟨y, hy, e⟩ := h.get ha
      exact .inr ⟨x, y, rfl, hy, e⟩
  unfold Ytkjmmdffelhkiaa.view
  have e2 : stL A = stL B := by
    funext t
    unfold stL
    rcases e0 t.toNat with ⟨a, b⟩ | ⟨x, y, a, b, e⟩
    · rw [a, b]
    · rw [a, b]; exact e.s
  have e3 : spL A = spL B := by
    funext t
    unfold spL
    rw [e1]
    rcases e0 t.toNat with ⟨a, b⟩ | ⟨x, y, a, b, e⟩
    · rw [a, b]
    · rw [a, b]; simp only; rw [spN_same e (g _ _ a) t]
  rw [e1, e2, e3]
def UniqL (L : List Nd) : Prop := ∀ (i j : Nat) (x y : Nd), L[i]? = some x → L[j]? = some y → SameN x y → i = j
theorem Alike.fresh {A B : List Nd} {x : Nd} (h : Alike A B) (f : FreshL A x) : FreshL B x := fun t y hy e => by
  obtain ⟨z, hz, e2⟩ := h.symm.get hy
  exact f t z hz (e2.symm.trans e)
theorem Ans.uniq {A B A' B' : List Nd} {q : Req} {t er t2 er2 : Int} (u : UniqL A) (h : Alike A B) (h1 : Ans A q t er A') (h2 : Ans B q t2 er2 B') : t = t2 ∧ er = er2 ∧ Alike A' B' := by
  cases q with
  | no e =>
    obtain ⟨rfl, rfl, rfl⟩ := h1
    obtain ⟨rfl, rfl, rfl⟩ := h2
    exact ⟨rfl, rfl, h⟩
  | is t0 =>
    obtain ⟨rfl, rfl, rfl⟩ := h1
    obtain ⟨rfl, rfl, rfl⟩ := h2
    exact ⟨rfl, rfl, h⟩
  | mk x =>
    rcases h1 with ⟨rfl, rfl, j, y, rfl, hy, hs⟩ | ⟨rfl, rfl, rfl, hl, hf⟩ | ⟨rfl, rfl, hl, hf, P, C, rfl⟩
    · obtain ⟨y2, hy2, e2⟩ := h.get hy
      rcases h2 with ⟨rfl, rfl, k, z, rfl, hz, hs2⟩ | ⟨_, _, _, _, hf2⟩ | ⟨_, _, _, hf2, _⟩
      · obtain ⟨z2, hz2, e3⟩ := h.symm.get hz
        obtain rfl := u j k y z2 hy hz2 (hs.trans (hs2.symm.trans e3))
        exact ⟨rfl, rfl, h⟩
      · exact absurd (e2.symm.trans hs) (hf2 _ _ hy2)
      · exact absurd (e2.symm.trans hs) (hf2 _ _ hy2)
    · rcases h2 with ⟨rfl, rfl, k, z, rfl, hz, hs2⟩ | ⟨rfl, rfl, rfl, _, hf2⟩ | ⟨_, _, hl2, hf2, _⟩
      · exact absurd hs2 (h.fresh hf _ _ hz)
      · exact ⟨rfl, rfl, h⟩
      · have := h.len; omega
    · rcases h2 with ⟨rfl, rfl, k, z, rfl, hz, hs2⟩ | ⟨_, _, _, hl2, _⟩ | ⟨rfl, rfl, _, _, P2, C2, rfl⟩
      · exact absurd hs2 (h.fresh hf _ _ hz)
      · have := h.len; omega
      · refine ⟨by rw [h.len], rfl, by simp [h.len], fun i a b ha hb => ?_⟩
        rcases nodes_snoc ha with ha | ⟨rfl, rfl⟩
        · rcases nodes_snoc hb with hb | ⟨rfl, rfl⟩
          · exact h.same i a b ha hb
          · have := (List.getElem?_eq_some_iff.1 ha).1
            have := h.len
            omega
        · rcases nodes_snoc hb with hb | ⟨_, rfl⟩
          · have := (List.getElem?_eq_some_iff.1 hb).1
            have := h.len
            omega
          · exact ⟨rfl, rfl, rfl, rfl, rfl, fun _ _ => rfl⟩
theorem GoodS.uniqL {T : Sto} (g : GoodS T) : UniqL T.nodes := fun _ _ _ _ hx hy e => g.uniq hx hy e
end Go.Proofs.Ytkjmmdffelhkiaa
