/- A table of names in memory. -/
import Derived.Test.YtkjmmdffelhkiaaS1
namespace Go.Proofs.Ytkjmmdffelhkiaa
open Go Go.RowKit Go.Maps

def Ext (K K' : Nat → Nat) (n : Nat) : Prop := ∀ k, k < n → K' k = K k
theorem Ext.refl (K : Nat → Nat) (n : Nat) : Ext K K n := fun _ _ => rfl
theorem Ext.trans {A B C : Nat → Nat} {n m : Nat} (h : Ext A B n) (k : Ext B C m) (hm : n ≤ m) : Ext A C n := fun i hi => (k i (Nat.lt_of_lt_of_le hi hm)).trans (h i hi)
def Tg (K : Nat → Nat) (v : Value) (t : Nat) : Prop := ∀ k, v.ownBlock = some k → K k = t
/-- a row of the call's own, its block for one thing. -/
structure RowAt (W : World) (K : Nat → Nat) (t : Nat) (e : TypeId) (sz : Nat) (v : Value) (n : Nat) (xs : List Value) : Prop where
  own : W.ownsRow 0 e sz v n xs
  tg : Tg K v t
theorem RowAt.only {W W' : World} {K K' : Nat → Nat} {t : Nat} {e : TypeId} {sz : Nat} {v : Value} {n : Nat} {xs : List Value} {S : Nat → Prop} (h : RowAt W K t e sz v n xs) (ho : Only S W W') (hx : Ext K K' W.heap.size) (hS : ∀ k, K k = t → ¬ S k) : RowAt W' K' t e sz v n xs :=
  ⟨own_only h.own ho (fun k hk => hS k (h.tg k hk)), fun k hk => (hx k (own_lt h.own hk).2).trans (h.tg k hk)⟩
def IntsIn (W : World) (p : Option Addr) (n : Nat) (V : Nat → Int) : Prop := 0 < n → ∃ b off, p = some ⟨b, off, none⟩ ∧ IntsAt W b off n V
theorem IntsIn.later {W W' : World} {p : Option Addr} {n : Nat} {V : Nat → Int} (h : IntsIn W p n V) (hb : Below W.heap.size W W') : IntsIn W' p n V := fun hn => by
  obtain ⟨b, off, e, ha⟩ := h hn
  exact ⟨b, off, e, ha.later hb⟩
/-- a function that was declared. -/
structure Info where
  N : ByteArray
  P : Option Addr
  L : Nat
  C : Nat
  V : Nat → Int
  R : Int
  D : Bool
/-- a table: sorts by their numbers less two. -/
structure Tab where
  names : List ByteArray
  infos : List Info
  sorts : List Nat
  funs : List Nat
  f1 : Lit → Option Value
  n1 : Nat
  f2 : Lit → Option Value
  n2 : Nat
  scopes : List (Nat × Nat)
def sV (j : Nat) : Value := .int .i64 (2 + (j : Int))
def nV (j : Nat) : Value := .int .i64 (j : Int)
def infoV (x : Info) : List Value := [.string x.N, .slice x.P x.L x.C, .int .i64 x.R, .bool x.D]
def flatI (l : List Info) : List Value := l.flatMap infoV
def flatP (l : List (Nat × Nat)) : List Value := l.flatMap fun p => [nV p.1, nV p.2]
theorem flatI_len (l : List Info) : (flatI l).length = l.length * 4 := by
  induction l with
  | nil => rfl
  | cons t l ih => simp only [flatI, infoV, List.flatMap_cons, List.length_append, List.length_cons, List.length_nil] at *; omega
theorem flatP_len (l : List (Nat × Nat)) : (flatP l).length = l.length * 2 := by
  induction l with
  | nil => rfl
  | cons t l ih => simp only [flatP, List.flatMap_cons, List.length_append, List.length_cons, List.length_nil] at *; omega
theorem flatI_get : ∀ (l : List Info) (i : Nat) (x : Info), l[i]? = some x → (flatI l)[i * 4]? = some (.string x.N) ∧ (flatI l)[i * 4 + 1]? = some (.slice x.P x.L x.C) ∧ (flatI l)[i * 4 + 2]? = some (.int .i64 x.R) ∧ (flatI l)[i * 4 + 3]? = some (.bool x.D) := by
  intro l
  induction l with
  | nil => intro i x h; simp at h
  | cons t l ih =>
    intro i x h
    cases i with
    | zero => simp at h; subst h; exact ⟨rfl, rfl, rfl, rfl⟩
    | succ i =>
      have := ih i x (by simpa using h)
      have e0 : (i + 1) * 4 = i * 4 + 4 := by omega
      have e1 : (i + 1) * 4 + 1 = i * 4 + 1 + 4 := by omega
      have e2 : (i + 1) * 4 + 2 = i * 4 + 2 + 4 := by omega
      have e3 : (i + 1) * 4 + 3 = i * 4 + 3 + 4 := by omega
      rw [e1, e2, e3, e0]
      simpa [flatI, infoV] using this
theorem flatP_get : ∀ (l : List (Nat × Nat)) (i : Nat) (x : Nat × Nat), l[i]? = some x → (flatP l)[i * 2]? = some (nV x.1) ∧ (flatP l)[i * 2 + 1]? = some (nV x.2) := by
  intro l
  induction l with
  | nil => intro i x h; simp at h
  | cons t l ih =>
    intro i x h
    cases i with
    | zero => simp at h; subst h; exact ⟨rfl, rfl⟩
    | succ i =>
      have := ih i x (by simpa using h)
      have e0 : (i + 1) * 2 = i * 2 + 2 := by omega
      have e1 : (i + 1) * 2 + 1 = i * 2 + 1 + 2 := by omega
      rw [e1, e0]
      simpa [flatP] using this
theorem flatI_snoc (l : List Info) (x : Info) : flatI (l ++ [x]) = flatI l ++ infoV x := by simp [flatI]
theorem flatP_snoc (l : List (Nat × Nat)) (x : Nat × Nat) : flatP (l ++ [x]) = flatP l ++ [nV x.1, nV x.2] := by simp [flatP]
theorem flatP_take (l : List (Nat × Nat)) (k : Nat) : flatP (l.take k) = (flatP l).take (k * 2) := by
  induction l generalizing k with
  | nil => simp [flatP]
  | cons t l ih =>
    cases k with
    | zero => simp [flatP]
    | succ k =>
      have := ih k
      rw [show (k + 1) * 2 = k * 2 + 2 by omega]
      simp only [flatP, List.take_succ_cons, List.flatMap_cons] at *
      rw [this]
      simp
def keyS (s : ByteArray) : Lit := .string s.data.toList
theorem K9 : Keyed Try.prog 9 := string_keyed Try.underlying9
theorem key9 (s : ByteArray) (h : s.size ≤ maxLen) : keyOf Try.prog 9 (.string s) = some (keyS s) := by simp [keyOf, mapKey, keyS, Try.underlying9, h]
theorem keyS_inj {a b : ByteArray} (h : keyS a = keyS b) : a = b := by
  unfold keyS at h
  injection h with h
  apply ByteArray.ext
  exact Array.ext' h
/-- seven cells. -/
def ObjAt (W : World) (c : Nat) (vs : Nat → Value) : Prop := (∀ i, i < 7 → W.cell? ⟨c, i, none⟩ = some (vs i)) ∧ ∀ i, W.frozen? ⟨c, i, none⟩ = false
theorem ObjAt.lt {W : World} {c : Nat} {vs : Nat → Value} (h : ObjAt W c vs) : c < W.heap.size := World.block_lt_of_cell? W _ (h.1 0 (by omega))
theorem ObjAt.only {W W' : World} {c : Nat} {vs : Nat → Value} {S : Nat → Prop} (h : ObjAt W c vs) (ho : Only S W W') (na : ¬ S c) : ObjAt W' c vs :=
  ⟨fun i hi => ho.cell (h.1 i hi) na, fun i => by rw [ho.frozen h.lt na]; exact h.2 i⟩
def upd (vs : Nat → Value) (i : Nat) (u : Value) : Nat → Value := fun j => if j = i then u else vs j
theorem ObjAt.set {W : World} {c : Nat} {vs : Nat → Value} (h : ObjAt W c vs) (i : Nat) (hi : i < 7) (u : Value) : ObjAt (W.setCell ⟨c, i, none⟩ u) c (upd vs i u) :=
  ⟨fun j hj => by
    unfold upd
    by_cases e : j = i
    · subst e; rw [if_pos rfl]; exact World.cell?_setCell_same _ _ _ (h.1 j hj)
    · rw [if_neg e, World.cell?_setCell_other _ _ _ _ (by intro e2; cases e2; exact e rfl)]; exact h.1 j hj, fun j => by rw [World.frozen?_setCell]; exact h.2 j⟩
structure ArgsAt (W : World) (K : Nat → Nat) (x : Info) : Prop where
  ints : IntsIn W x.P x.L x.V
  tg : ∀ ad, x.P = some ad → K ad.block = 9
  few : x.L ≤ 20
theorem ArgsAt.only {W W' : World} {K K' : Nat → Nat} {x : Info} {S : Nat → Prop} (h : ArgsAt W K x) (hf : ∀ k, W.heap.size ≤ k → K k = 0) (ho : Only S W W') (hx : Ext K K' W.heap.size) (hS : ∀ k, K k = 9 → ¬ S k) : ArgsAt W' K' x :=
  ⟨fun hn => by
    obtain ⟨b, off, e, ha⟩ := h.ints hn
    exact ⟨b, off, e, fun i hi => ho.cell (ha i hi) (hS b (h.tg _ e))⟩, fun ad e => by
    have h9 := h.tg ad e
    rw [hx ad.block]
    · exact h9
    · rcases Nat.lt_or_ge ad.block W.heap.size with h1 | h1
      · exact h1
      · rw [hf _ h1] at h9; exact absurd h9 (by omega), h.few⟩
structure Parts (W : World) (K : Nat → Nat) (vs : Nat → Value) (m1 m2 : Nat) (T : Tab) : Prop where
  r0 : RowAt W K 2 9 1 (vs 0) T.names.length (T.names.map Value.string)
  r1 : RowAt W K 3 35 4 (vs 1) T.infos.length (flatI T.infos)
  r2 : RowAt W K 4 33 1 (vs 2) T.sorts.length (T.sorts.map sV)
  r3 : RowAt W K 5 3 1 (vs 3) T.funs.length (T.funs.map nV)
  h4 : vs 4 = .map (some m1)
  h5 : vs 5 = .map (some m2)
  k4 : K m1 = 6
  k5 : K m2 = 7
  q4 : FMap W 9 m1 T.f1 T.n1
  q5 : FMap W 9 m2 T.f2 T.n2
  r6 : RowAt W K 8 114 2 (vs 6) T.scopes.length (flatP T.scopes)
  ar : ∀ (i : Nat) (x : Info), T.infos[i]? = some x → ArgsAt W K x
theorem Parts.only {W W' : World} {K K' : Nat → Nat} {vs : Nat → Value} {m1 m2 : Nat} {T : Tab} {S : Nat → Prop} (h : Parts W K vs m1 m2 T) (hf : ∀ k, W.heap.size ≤ k → K k = 0) (ho : Only S W W') (hx : Ext K K' W.heap.size) (hS : ∀ k, 2 ≤ K k → K k ≤ 9 → ¬ S k) : Parts W' K' vs m1 m2 T :=
  ⟨h.r0.only ho hx (fun k e => hS k (by omega) (by omega)), h.r1.only ho hx (fun k e => hS k (by omega) (by omega)), h.r2.only ho hx (fun k e => hS k (by omega) (by omega)), h.r3.only ho hx (fun k e => hS k (by omega) (by omega)), h.h4, h.h5,
   (hx _ h.q4.lt).trans h.k4, (hx _ h.q5.lt).trans h.k5, h.q4.only ho (hS _ (by rw [h.k4]; omega) (by rw [h.k4]; omega)), h.q5.only ho (hS _ (by rw [h.k5]; omega) (by rw [h.k5]; omega)), h.r6.only ho hx (fun k e => hS k (by omega) (by omega)), fun i x hi => (h.ar i x hi).only hf ho hx (fun k e => hS k (by omega) (by omega))⟩
structure TabAt (W : World) (K : Nat → Nat) (base c : Nat) (T : Tab) : Prop where
  fr : ∀ k, W.heap.size ≤ k → K k = 0
  lo : ∀ k, k < base → K k = 0
  ka : K c = 1
  ob : ∃ vs m1 m2, ObjAt W c vs ∧ Parts W K vs m1 m2 T
/-- what a call on a table leaves alone: blocks that are for nothing of it, and rows of arguments. -/
structure StepT (W W' : World) (K K' : Nat → Nat) : Prop where
  only : Only (fun k => 1 ≤ K k ∧ K k ≤ 8) W W'
  ext : Ext K K' W.heap.size
theorem StepT.refl (W : World) (K : Nat → Nat) : StepT W W K K := ⟨Only.refl _ _, Ext.refl _ _⟩
theorem StepT.trans {A B C : World} {K L M : Nat → Nat} (h : StepT A B K L) (k : StepT B C L M) : StepT A C K M :=
  ⟨h.only.comp k.only (fun _ _ h => h) (fun i hi hn => by rw [h.ext i hi] at hn; exact hn), h.ext.trans k.ext h.only.size⟩
theorem StepT.below {W W' : World} {K : Nat → Nat} (hb : Below W.heap.size W W') : StepT W W' K K := ⟨Only.of_below hb, Ext.refl _ _⟩
section
variable {W W' W1 : World} {K K' : Nat → Nat} {base c : Nat} {T T' : Tab}
theorem TabAt.lt (h : TabAt W K base c T) : c < W.heap.size := by obtain ⟨_, _, _, h, _⟩ := h.ob; exact h.lt
theorem TabAt.base_lt (h : TabAt W K base c T) : base ≤ c := by
  rcases Nat.lt_or_ge c base with h1 | h1
  · have := h.lo c h1; have := h.ka; omega
  · exact h1
theorem TabAt.only {S : Nat → Prop} (h : TabAt W K base c T) (ho : Only S W W') (hS : ∀ k, K k ≠ 0 → K k ≤ 9 → ¬ S k) : TabAt W' K base c T := by
  obtain ⟨vs, m1, m2, ob, p⟩ := h.ob
  exact ⟨fun k hk => h.fr k (Nat.le_trans ho.size hk), h.lo, h.ka, vs, m1, m2, ob.only ho (hS c (by rw [h.ka]; omega) (by rw [h.ka]; omega)), p.only h.fr ho (Ext.refl _ _) (fun k hk hk2 => hS k (by omega) hk2)⟩
theorem TabAt.later (h : TabAt W K base c T) (hb : Below W.heap.size W W') : TabAt W' K base c T :=
  h.only (Only.of_below (T := fun _ => False) hb) (fun _ _ _ h => h)
theorem StepT.toBelow (h : StepT W W' K K') (ht : TabAt W K base c T) : Below base W W' :=
  h.only.below (fun k hk => by
    rcases Nat.lt_or_ge k base with h1 | h1
    · have := ht.lo k h1; omega
    · exact h1) (Nat.le_trans ht.base_lt (Nat.le_of_lt ht.lt))
/-- one part turns, then the struct's cell. -/
theorem TabAt.put (h : TabAt W K base c T) (i t : Nat) (hi : i < 7) (ht : 2 ≤ t ∧ t ≤ 8) (u : Value) (ho : Only (fun k => K k = t) W W1) (hx : Ext K K' W.heap.size) (hf : ∀ k, W1.heap.size ≤ k → K' k = 0) (hlo : ∀ k, k < base → K' k = 0)
    (hp : ∀ vs m1 m2, Parts W K vs m1 m2 T → Parts W1 K' (upd vs i u) m1 m2 T') : TabAt (W1.setCell ⟨c, i, none⟩ u) K' base c T' ∧ StepT W (W1.setCell ⟨c, i, none⟩ u) K K' := by
  obtain ⟨vs, m1, m2, ob, p⟩ := h.ob
  have ka' : K' c = 1 := (hx c h.lt).trans h.ka
  have ho2 := Only.of_setCell W1 ⟨c, i, none⟩ u
  refine ⟨⟨fun k hk => hf k (by simpa using hk), hlo, ka', upd vs i u, m1, m2, ?_, ?_⟩, ⟨ho.comp ho2 (fun k _ e => by omega) (fun k _ e => by have e2 : k = c := e; show 1 ≤ K k ∧ K k ≤ 8; rw [e2, h.ka]; omega), hx⟩⟩
  · exact (ob.only ho (by rw [h.ka]; omega)).set i hi u
  · exact (hp vs m1 m2 p).only hf ho2 (Ext.refl _ _) (fun k hk _ e => by have e2 : k = c := e; rw [e2, ka'] at hk; omega)
/-- one part turns where it lies. -/
theorem TabAt.inside (h : TabAt W K base c T) (t : Nat) (ht : 2 ≤ t ∧ t ≤ 8) (ho : Only (fun k => K k = t) W W1)
    (hp : ∀ vs m1 m2, ObjAt W c vs → Parts W K vs m1 m2 T → Parts W1 K vs m1 m2 T') : TabAt W1 K base c T' ∧ StepT W W1 K K := by
  obtain ⟨vs, m1, m2, ob, p⟩ := h.ob
  refine ⟨⟨fun k hk => h.fr k (Nat.le_trans ho.size hk), h.lo, h.ka, vs, m1, m2, ob.only ho (by rw [h.ka]; omega), hp vs m1 m2 ob p⟩, ⟨ho.mono (fun k _ e => by omega), Ext.refl _ _⟩⟩
/-- just the struct's cell. -/
theorem TabAt.cell (h : TabAt W K base c T) (i : Nat) (hi : i < 7) (u : Value) (hp : ∀ vs m1 m2, Parts W K vs m1 m2 T → Parts W K (upd vs i u) m1 m2 T') : TabAt (W.setCell ⟨c, i, none⟩ u) K base c T' ∧ StepT W (W.setCell ⟨c, i, none⟩ u) K K :=
  h.put i 2 hi (by omega) u (Only.refl _ _) (Ext.refl _ _) h.fr h.lo hp
end
/-- a block is for a thing from now on. -/
def upK (K : Nat → Nat) (o : Option Nat) (t : Nat) : Nat → Nat := fun k => if o = some k then t else K k
theorem upK_ne {K : Nat → Nat} {o : Option Nat} {t k : Nat} (h : o ≠ some k) : upK K o t k = K k := if_neg h
theorem RowAt.grow {W W1 : World} {K : Nat → Nat} {base t : Nat} {e : TypeId} {sz : Nat} {v v' : Value} {n n' : Nat} {xs xs' : List Value} (h : RowAt W K t e sz v n xs) (own : W1.ownsRow 0 e sz v' n' xs') (hg : W.grownBy W1 v.ownBlock) (hloc : v'.ownBlock = v.ownBlock ∨ v'.ownBlock = some W.heap.size)
    (fr : ∀ k, W.heap.size ≤ k → K k = 0) (lo : ∀ k, k < base → K k = 0) (hb : base ≤ W.heap.size) (ht : 2 ≤ t) :
    RowAt W1 (upK K v'.ownBlock t) t e sz v' n' xs' ∧ Only (fun k => K k = t) W W1 ∧ Ext K (upK K v'.ownBlock t) W.heap.size ∧ (∀ k, W1.heap.size ≤ k → upK K v'.ownBlock t k = 0) ∧ (∀ k, k < base → upK K v'.ownBlock t k = 0) := by
  refine ⟨⟨own, fun k hk => by unfold upK; rw [if_pos hk]⟩, (Only.of_grown hg).mono (fun k _ e => h.tg k e), fun k hk => ?_, fun k hk => ?_, fun k hk => ?_⟩
  · unfold upK
    by_cases e : v'.ownBlock = some k
    · rw [if_pos e]
      rcases hloc with e2 | e2
      · exact (h.tg k (e2.symm.trans e)).symm
      · rw [e] at e2; injection e2 with e2; omega
    · rw [if_neg e]
  · rw [upK_ne (fun e => by have := (own_lt own e).2; omega)]
    exact fr k (Nat.le_trans hg.size hk)
  · rw [upK_ne (fun e => ?_)]
    · exact lo k hk
    · rcases hloc with e2 | e2
      · have := h.tg k (e2.symm.trans e); have := lo k hk; omega
      · rw [e] at e2; injection e2 with e2; omega
/-- a name that is not a given sort's. -/
def NotGiven (s : ByteArray) : Prop := ¬ s.toList = [66, 111, 111, 108] ∧ ¬ s.toList = [73, 110, 116]
/-- what is kept of a table. -/
structure Good (T : Tab) : Prop where
  g1 : ∀ j ∈ T.sorts, ∃ s, T.names[j]? = some s ∧ T.f1 (keyS s) = some (sV j) ∧ NotGiven s
  g2 : T.sorts.Pairwise (· < ·)
  g3 : ∀ j ∈ T.funs, ∃ x, T.infos[j]? = some x ∧ T.f2 (keyS x.N) = some (nV j)
  g4 : T.funs.Pairwise (· < ·)
  g5 : T.scopes.Pairwise (fun p q => p.1 ≤ q.1 ∧ p.2 ≤ q.2)
  g6 : ∀ p ∈ T.scopes, p.1 ≤ T.sorts.length ∧ p.2 ≤ T.funs.length
  b1 : T.names.length ≤ 2000
  b2 : T.infos.length ≤ 2000
  b3 : T.scopes.length ≤ 200
  b4 : T.sorts.length ≤ T.names.length
  b5 : T.funs.length ≤ T.infos.length
  b6 : T.n1 ≤ T.names.length
  b7 : T.n2 ≤ T.infos.length
  b8 : ∀ s ∈ T.names, s.size ≤ 100000
  b9 : ∀ x ∈ T.infos, x.N.size ≤ 100000
end Go.Proofs.Ytkjmmdffelhkiaa
