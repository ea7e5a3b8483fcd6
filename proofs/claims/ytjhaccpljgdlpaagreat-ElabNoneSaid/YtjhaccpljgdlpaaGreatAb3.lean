/-
  Memory: rows that are read and written, new blocks.
-/
import Derived.Test.YtjhaccpljgdlpaaGreatAb2
namespace Go.Proofs.YtjhaccpljgdlpaaGreat.Ab
open Go

theorem cut_spec {l : List AV} {o n : Nat} {r : List AV} (h : cut l o n = some r) : r.length = n ∧ o + n ≤ l.length + (if n = 0 then o else 0) ∧ ∀ i a, r[i]? = some a → l[o + i]? = some a := by
  unfold cut at h
  simp only at h
  split at h
  · rename_i e
    cases h
    have e' := e
    simp at e'
    refine ⟨e, by split <;> omega, fun i a h => ?_⟩
    rw [List.getElem?_take] at h
    split at h
    · simpa [List.getElem?_drop] using h
    · cases h
  · cases h

theorem putAt_spec : ∀ {l : List AV} {o : Nat} {xs r : List AV}, putAt l o xs = some r → r.length = l.length ∧ o + xs.length ≤ l.length ∧ ∀ i, r[i]? = if o ≤ i ∧ i < o + xs.length then xs[i - o]? else l[i]?
  | l, 0, [], r, h => by
    have : r = l := by cases l <;> simp [putAt] at h <;> first | exact h | exact h.symm
    subst this
    exact ⟨rfl, by simp, fun i => by have : ¬ (0 ≤ i ∧ i < 0 + ([] : List AV).length) := by simp
                                     rw [if_neg this]⟩
  | [], 0, _ :: _, _, h => by simp [putAt] at h
  | [], _ + 1, _, _, h => by simp [putAt] at h
  | _ :: l, 0, x :: xs, r, h => by
    simp only [putAt] at h
    split at h
    · rename_i r' hr
      cases h
      obtain ⟨h1, h2, h3⟩ := putAt_spec hr
      refine ⟨by simp [h1], by simp at h2 ⊢; omega, fun i => ?_⟩
      cases i with
      | zero => simp
      | succ i =>
        simp only [List.getElem?_cons_succ, h3 i]
        by_cases c : i < xs.length
        · rw [if_pos (by omega), if_pos (by simp; omega)]; simp
        · rw [if_neg (by omega), if_neg (by simp; omega)]
    · cases h
  | y :: l, o + 1, xs, r, h => by
    simp only [putAt] at h
    split at h
    · rename_i r' hr
      cases h
      obtain ⟨h1, h2, h3⟩ := putAt_spec hr
      refine ⟨by simp [h1], by simp; omega, fun i => ?_⟩
      cases i with
      | zero => rw [if_neg (by omega)]; rfl
      | succ i =>
        simp only [List.getElem?_cons_succ, h3 i]
        by_cases c : o ≤ i ∧ i < o + xs.length
        · rw [if_pos c, if_pos (by omega)]; congr 1; omega
        · rw [if_neg c, if_neg (by omega)]
    · cases h

/-- an array with a row set -/
def spl (C : Array Value) : Nat → List Value → Array Value
  | _, [] => C
  | o, v :: r => spl (C.setIfInBounds o v) (o + 1) r

theorem spl_size : ∀ (vs : List Value) (C : Array Value) (o : Nat), (spl C o vs).size = C.size
  | [], _, _ => rfl
  | v :: r, C, o => by rw [spl, spl_size r]; simp

theorem spl_get : ∀ (vs : List Value) (C : Array Value) (o i : Nat), o + vs.length ≤ C.size → (spl C o vs)[i]? = if o ≤ i ∧ i < o + vs.length then vs[i - o]? else C[i]?
  | [], C, o, i, _ => by rw [spl, if_neg (by simp <;> omega)]
  | v :: r, C, o, i, h => by
    simp only [List.length_cons] at h
    rw [spl, spl_get r _ _ _ (by simp; omega)]
    by_cases c : o + 1 ≤ i ∧ i < o + 1 + r.length
    · rw [if_pos c, if_pos (by simp; omega)]
      have : i - o = (i - (o + 1)) + 1 := by omega
      rw [this]; rfl
    · rw [if_neg c]
      by_cases e : i = o
      · subst e
        rw [if_pos (by simp)]
        simp [Array.getElem?_setIfInBounds]
        try omega
      · rw [if_neg (by simp; omega)]
        rw [Array.getElem?_setIfInBounds, if_neg (by omega)]

theorem setCell_block (w : World) (b o : Nat) (v : Value) (C : Array Value) (t : TypeId) (fz : Nat × Nat) (h : w.heap[b]? = some (.cells C t fz)) :
    (w.setCell ⟨b, o, none⟩ v).heap[b]? = some (.cells (C.setIfInBounds o v) t fz) := by
  simp [World.setCell, Array.getElem?_modify, h]

theorem setCells_block : ∀ (vs : List Value) (w : World) (b o : Nat) (C : Array Value) (t : TypeId) (fz : Nat × Nat), w.heap[b]? = some (.cells C t fz) →
    (w.setCells b o vs).heap[b]? = some (.cells (spl C o vs) t fz)
  | [], _, _, _, _, _, _, h => h
  | v :: r, w, b, o, C, t, fz, h => by
    rw [World.setCells, spl]
    exact setCells_block r _ _ _ _ _ _ (setCell_block w b o v C t fz h)

theorem setCells_other : ∀ (vs : List Value) (w : World) (b o c : Nat), c ≠ b → (w.setCells b o vs).heap[c]? = w.heap[c]?
  | [], _, _, _, _, _ => rfl
  | v :: r, w, b, o, c, h => by
    rw [World.setCells, setCells_other r _ _ _ _ h]
    simp [World.setCell, Array.getElem?_modify]
    intro e; exact absurd e.symm h

theorem setCells_rest : ∀ (vs : List Value) (w : World) (b o : Nat), (w.setCells b o vs).heap.size = w.heap.size ∧ (w.setCells b o vs).os = w.os ∧ (w.setCells b o vs).tape = w.tape ∧ (w.setCells b o vs).output = w.output
  | [], _, _, _ => ⟨rfl, rfl, rfl, rfl⟩
  | v :: r, w, b, o => by
    rw [World.setCells]
    obtain ⟨h1, h2, h3, h4⟩ := setCells_rest r (w.setCell ⟨b, o, none⟩ v) b (o + 1)
    exact ⟨h1.trans (by simp [World.setCell]), h2, h3, h4⟩

section
variable {P : Program} {ρ : Rn} {A : AW} {w : World}

theorem cellsOf_live {n : Nat} {xs : List AV} {t : TypeId} (h : cellsOf A n = some (xs, t)) : A.live n = some (.cells xs t) := by
  unfold cellsOf at h
  split at h
  · rename_i l u e; cases h; exact live_of_get e (by simp)
  · cases h

/-- a block of cells in the world -/
theorem Sim.block {H : Nat → Option AO} (hs : Sim P ρ H w) {n : Nat} {xs : List AV} {t : TypeId} {l : Loc} (h : H n = some (.cells xs t)) (hl : ρ n = some l) :
    ∃ (C : Array Value) (fz : Nat × Nat), w.heap[l.blk]? = some (.cells C t fz) ∧ C.size = l.base + xs.length + l.room * P.cellsOf t ∧
      Thaw C.size fz ∧ ∀ i a, xs[i]? = some a → ∃ v, C[l.base + i]? = some v ∧ VR ρ a v := by
  obtain ⟨l', o, h1, h2, h3⟩ := hs.obj n _ h
  rw [hl] at h1; cases h1
  obtain ⟨C, fz, rfl, h4⟩ := h3
  exact ⟨C, fz, h2, h4⟩

theorem cell_of_block {b o : Nat} {C : Array Value} {t : TypeId} {fz : Nat × Nat} (h : w.heap[b]? = some (.cells C t fz)) : w.cell? ⟨b, o, none⟩ = C[o]? := by
  simp [World.cell?, h]
theorem frozen_of_block {b o : Nat} {C : Array Value} {t : TypeId} {fz : Nat × Nat} (h : w.heap[b]? = some (.cells C t fz)) (hf : Thaw C.size fz) (ho : o < C.size) : w.frozen? ⟨b, o, none⟩ = false := by
  unfold Thaw at hf
  simp [World.frozen?, h]
  omega

theorem Sim.row {H : Nat → Option AO} (hs : Sim P ρ H w) {n o k : Nat} {xs r : List AV} {t : TypeId} {l : Loc} (h : H n = some (.cells xs t)) (hl : ρ n = some l) (hc : cut xs o k = some r) :
    ∃ vs, VRs ρ r vs ∧ vs.length = k ∧ ∀ j v, vs[j]? = some v → w.cell? ((⟨l.blk, l.base + o, none⟩ : Addr).add j) = some v := by
  obtain ⟨C, fz, h1, h2, h3, h4⟩ := hs.block h hl
  obtain ⟨c1, c2, c3⟩ := cut_spec hc
  have hall : ∀ i (hi : i < k), ∃ v, C[l.base + o + i]? = some v ∧ ∀ a, r[i]? = some a → VR ρ a v := by
    intro i hi
    have hr : r[i]? = some r[i] := List.getElem?_eq_getElem (by omega)
    obtain ⟨v, e1, e2⟩ := h4 _ _ (c3 i _ hr)
    exact ⟨v, by rw [← e1]; congr 1; omega, fun a ha => by rw [hr] at ha; cases ha; exact e2⟩
  refine ⟨((List.range k).map fun i => (C[l.base + o + i]?).getD undef), .of_get (by simp [c1]) fun i a e => ?_, by simp, fun j v e => ?_⟩
  · have hi : i < k := by have := (List.getElem?_eq_some_iff.1 e).1; omega
    obtain ⟨v, e1, e2⟩ := hall i hi
    exact ⟨v, by simp [hi, e1], e2 a e⟩
  · have hj : j < k := by have := (List.getElem?_eq_some_iff.1 e).1; simpa using this
    obtain ⟨u, e1, _⟩ := hall j hj
    rw [Addr.add_lit, cell_of_block h1]
    simp [hj, e1] at e
    simp [e1, e]

theorem Sim.cell {H : Nat → Option AO} (hs : Sim P ρ H w) {n o : Nat} {xs : List AV} {a : AV} {t : TypeId} {l : Loc} (h : H n = some (.cells xs t)) (hl : ρ n = some l) (hc : xs[o]? = some a) :
    ∃ v, VR ρ a v ∧ w.cell? ⟨l.blk, l.base + o, none⟩ = some v := by
  obtain ⟨C, fz, h1, h2, h3, h4⟩ := hs.block h hl
  obtain ⟨v, e1, e2⟩ := h4 _ _ hc
  exact ⟨v, e2, by rw [cell_of_block h1]; exact e1⟩

/-- the memory with one block told anew, in its place -/
theorem Sim.setAt (hs : Sim P ρ A.live w) {n : Nat} {l : Loc} {a0 ao : AO} {w' : World} {o' : Obj} (h : A.live n = some a0) (hl : ρ n = some l) (hw : w'.heap[l.blk]? = some o') (ho : OR P ρ l ao o')
    (hk : ∀ b, b ≠ l.blk → w'.heap[b]? = w.heap[b]?) : Sim P ρ (A.set n ao).live w' where
  obj m am hm := by
    rw [live_set] at hm
    by_cases e : m = n
    · subst e
      rw [if_pos rfl] at hm
      have : am = ao := by cases ao <;> simp at hm <;> exact hm.symm
      subst this
      exact ⟨l, o', hl, hw, ho⟩
    · rw [if_neg e] at hm
      obtain ⟨l2, o2, h1, h2, h3⟩ := hs.obj m am hm
      refine ⟨l2, o2, h1, ?_, h3⟩
      rw [hk, h2]
      intro e2
      exact e (hs.inj m n am a0 l2 l hm h h1 hl e2)
  inj m k am ak lm lk hm hk' h1 h2 he := by
    have go : ∀ m am, (A.set n ao).live m = some am → ∃ a, A.live m = some a := by
      intro m am hm
      rw [live_set] at hm
      by_cases e : m = n
      · subst e; exact ⟨_, h⟩
      · rw [if_neg e] at hm; exact ⟨_, hm⟩
    obtain ⟨a, ha⟩ := go m am hm
    obtain ⟨b, hb⟩ := go k ak hk'
    exact hs.inj m k a b lm lk ha hb h1 h2 he

theorem Ext.setAt {n : Nat} {l : Loc} {a0 ao : AO} {w' : World} (h : A.live n = some a0) (hl : ρ n = some l)
    (hk : ∀ b, b ≠ l.blk → w'.heap[b]? = w.heap[b]?) (hz : w'.heap.size = w.heap.size) (h1 : w'.os = w.os) (h2 : w'.tape = w.tape) (h3 : w'.output = w.output) : Ext ρ w A ρ w' (A.set n ao) where
  sub := Sub.refl ρ
  fresh _ e k := absurd e k
  next := Nat.le_refl _
  dom m am hm := by
    rw [live_set] at hm
    by_cases e : m = n
    · subst e; exact .inl ⟨_, h⟩
    · rw [if_neg e] at hm; exact .inl ⟨_, hm⟩
  back m am lm hm e := by
    rw [live_set] at hm
    by_cases e2 : m = n
    · subst e2; exact .inr ⟨m, a0, lm, h, e, rfl⟩
    · rw [if_neg e2] at hm; exact .inr ⟨m, am, lm, hm, e, rfl⟩
  keep b _ hn := hk b fun e => hn n a0 l h hl e.symm
  size := by omega
  os := h1
  tape := h2
  output := h3

/-- a row written in its place -/
theorem Sim.putCells (hs : Sim P ρ A.live w) {n o : Nat} {xs ys xs' : List AV} {t : TypeId} {l : Loc} {vs : List Value} (h : A.live n = some (.cells xs t)) (hl : ρ n = some l)
    (hp : putAt xs o ys = some xs') (hv : VRs ρ ys vs) :
    Sim P ρ (A.set n (.cells xs' t)).live (w.setCells l.blk (l.base + o) vs) ∧ Ext ρ w A ρ (w.setCells l.blk (l.base + o) vs) (A.set n (.cells xs' t)) ∧
    (∀ j, j < vs.length → (w.cell? ⟨l.blk, l.base + o + j, none⟩).isSome = true) ∧ (∀ j, j < vs.length → w.frozen? ⟨l.blk, l.base + o + j, none⟩ = false) := by
  obtain ⟨C, fz, h1, h2, h3, h4⟩ := hs.block h hl
  obtain ⟨p1, p2, p3⟩ := putAt_spec hp
  have hlen := hv.length
  obtain ⟨z1, z2, z3, z4⟩ := setCells_rest vs w l.blk (l.base + o)
  have hk : ∀ b, b ≠ l.blk → (w.setCells l.blk (l.base + o) vs).heap[b]? = w.heap[b]? := fun b hb => setCells_other vs w _ _ b hb
  refine ⟨hs.setAt h hl (setCells_block vs w l.blk (l.base + o) C t fz h1) ⟨_, fz, rfl, ?_, ?_, ?_⟩ hk, Ext.setAt h hl hk z1 z2 z3 z4, ?_, ?_⟩
  · rw [spl_size, p1]; exact h2
  · rw [spl_size]; exact h3
  · intro i a e
    rw [p3] at e
    rw [spl_get _ _ _ _ (by omega)]
    by_cases c : o ≤ i ∧ i < o + ys.length
    · rw [if_pos c] at e
      rw [if_pos (by omega)]
      obtain ⟨v, e1, e2⟩ := hv.get e
      exact ⟨v, by rw [← e1]; congr 1; omega, e2⟩
    · rw [if_neg c] at e
      rw [if_neg (by omega)]
      exact h4 i a e
  · intro j hj
    rw [cell_of_block h1]
    rw [Array.getElem?_eq_getElem (by omega)]; rfl
  · intro j hj
    exact frozen_of_block h1 h3 (by omega)

structure Pushed (w : World) (o : Obj) (w' : World) : Prop where
  heap : w'.heap = w.heap.push o
  os : w'.os = w.os
  tape : w'.tape = w.tape
  output : w'.output = w.output

/-- a new block -/
theorem Sim.push (hs : Sim P ρ A.live w) {ao : AO} {o : Obj} {w' : World} {room : Nat} (hp : Pushed w o w') (hf : ρ A.next = none)
    (ho : OR P (upd ρ A.next ⟨w.heap.size, 0, room⟩) ⟨w.heap.size, 0, room⟩ ao o) :
    Sim P (upd ρ A.next ⟨w.heap.size, 0, room⟩) (A.new ao).live w' ∧ Ext ρ w A (upd ρ A.next ⟨w.heap.size, 0, room⟩) w' (A.new ao) := by
  have hsub := upd_sub (l := ⟨w.heap.size, 0, room⟩) hf
  have hlt : ∀ m am lm, A.live m = some am → ρ m = some lm → lm.blk < w.heap.size := by
    intro m am lm hm e
    obtain ⟨l2, o2, e1, e2, _⟩ := hs.obj m am hm
    rw [e] at e1; cases e1
    exact (Array.getElem?_eq_some_iff.1 e2).1
  have hne : ∀ m am, A.live m = some am → m ≠ A.next := by
    intro m am hm e
    obtain ⟨l2, o2, e1, _⟩ := hs.obj m am hm
    rw [e, hf] at e1; cases e1
  constructor
  · constructor
    · intro m am hm
      rw [live_new] at hm
      by_cases e : m = A.next
      · subst e
        rw [if_pos rfl] at hm
        have : am = ao := by cases ao <;> simp at hm <;> exact hm.symm
        subst this
        exact ⟨_, o, upd_at, by rw [hp.heap]; simp, ho⟩
      · rw [if_neg e] at hm
        obtain ⟨l2, o2, e1, e2, e3⟩ := hs.obj m am hm
        refine ⟨l2, o2, hsub _ _ e1, ?_, e3.mono hsub⟩
        have := hlt m am l2 hm e1
        rw [hp.heap, Array.getElem?_push, if_neg (by omega)]
        exact e2
    · intro m k am ak lm lk hm hk h1 h2 he
      rw [live_new] at hm hk
      by_cases e : m = A.next
      · by_cases e2 : k = A.next
        · rw [e, e2]
        · rw [if_neg e2] at hk
          simp only [upd, if_pos e] at h1
          simp only [upd, if_neg e2] at h2
          have := hlt k ak lk hk h2
          cases h1
          simp at he
          omega
      · rw [if_neg e] at hm
        simp only [upd, if_neg e] at h1
        by_cases e2 : k = A.next
        · simp only [upd, if_pos e2] at h2
          have := hlt m am lm hm h1
          cases h2
          simp at he
          omega
        · rw [if_neg e2] at hk
          simp only [upd, if_neg e2] at h2
          exact hs.inj m k am ak lm lk hm hk h1 h2 he
  · constructor
    · exact hsub
    · intro m e e2
      by_cases e3 : m = A.next
      · subst e3; exact ⟨Nat.le_refl _, by simp [AW.new]⟩
      · simp only [upd, if_neg e3] at e2; exact absurd e e2
    · simp [AW.new]
    · intro m am hm
      rw [live_new] at hm
      by_cases e : m = A.next
      · subst e; exact .inr ⟨Nat.le_refl _, by simp [AW.new]⟩
      · rw [if_neg e] at hm; exact .inl ⟨_, hm⟩
    · intro m am lm hm e1
      rw [live_new] at hm
      by_cases e : m = A.next
      · simp only [upd, if_pos e] at e1; cases e1; exact .inl (Nat.le_refl _)
      · rw [if_neg e] at hm
        simp only [upd, if_neg e] at e1
        exact .inr ⟨m, am, lm, hm, e1, rfl⟩
    · intro b hb _
      rw [hp.heap, Array.getElem?_push, if_neg (by omega)]
    · rw [hp.heap]; simp
    · exact hp.os
    · exact hp.tape
    · exact hp.output

/-- a block forgotten -/
theorem Sim.kill (hs : Sim P ρ A.live w) {n : Nat} {l : Loc} {a0 : AO} {w' : World} (h : A.live n = some a0) (hl : ρ n = some l)
    (hk : ∀ b, b ≠ l.blk → w'.heap[b]? = w.heap[b]?) : Sim P ρ (A.set n .dead).live w' where
  obj m am hm := by
    rw [live_set] at hm
    by_cases e : m = n
    · rw [if_pos e] at hm; cases hm
    · rw [if_neg e] at hm
      obtain ⟨l2, o2, h1, h2, h3⟩ := hs.obj m am hm
      refine ⟨l2, o2, h1, ?_, h3⟩
      rw [hk, h2]
      intro e2
      exact e (hs.inj m n am a0 l2 l hm h h1 hl e2)
  inj m k am ak lm lk hm hk' h1 h2 he := by
    rw [live_set] at hm hk'
    by_cases e : m = n
    · rw [if_pos e] at hm; cases hm
    · rw [if_neg e] at hm
      by_cases e2 : k = n
      · rw [if_pos e2] at hk'; cases hk'
      · rw [if_neg e2] at hk'
        exact hs.inj m k am ak lm lk hm hk' h1 h2 he
end
end Go.Proofs.YtjhaccpljgdlpaaGreat.Ab
