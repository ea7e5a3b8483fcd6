/-
  What an abstract memory says of a world.
-/
import Derived.Test.YtjhaccpljgdlpaaGreatAb0
import Derived.Below
import Derived.Deep.AppendSrc
namespace Go.Proofs.YtjhaccpljgdlpaaGreat.Ab
open Go

namespace Tr
variable {α : Type}
theorem bitsN_succ (f k : Nat) : bitsN (f + 1) (k + 1) = Nat.beq ((k + 1) % 2) 1 :: bitsN f (k / 2) := rfl
theorem bitsN_zero (f : Nat) : bitsN f 0 = [] := by cases f <;> rfl
theorem bitsN_eq : ∀ (f k : Nat), k ≤ f → bitsN f k = bits k := by
  intro f
  induction f using Nat.strongRecOn with
  | _ f ih =>
    intro k hk
    cases k with
    | zero => rw [bitsN_zero]; rfl
    | succ k =>
      cases f with
      | zero => omega
      | succ f =>
        show bitsN (f + 1) (k + 1) = bitsN (k + 1) (k + 1)
        rw [bitsN_succ, bitsN_succ]
        exact congrArg _ ((ih f (by omega) _ (by omega)).trans (ih k (by omega) _ (by omega)).symm)
theorem bits_succ (k : Nat) : bits (k + 1) = Nat.beq ((k + 1) % 2) 1 :: bits (k / 2) := by
  show bitsN (k + 1) (k + 1) = _
  rw [bitsN_succ, bitsN_eq k _ (by omega)]
theorem bits_inj : ∀ j k, bits j = bits k → j = k := by
  intro j
  induction j using Nat.strongRecOn with
  | _ j ih =>
    intro k h
    cases j with
    | zero => cases k with
      | zero => rfl
      | succ k => rw [bits_succ] at h; cases h
    | succ j => cases k with
      | zero => rw [bits_succ] at h; cases h
      | succ k =>
        rw [bits_succ, bits_succ] at h
        simp only [List.cons.injEq] at h
        have h2 := ih (j / 2) (by omega) (k / 2) h.2
        have h1 : (j + 1) % 2 = (k + 1) % 2 := by
          have a1 : (j + 1) % 2 < 2 := Nat.mod_lt _ (by omega)
          have a2 : (k + 1) % 2 < 2 := Nat.mod_lt _ (by omega)
          have e := h.1
          by_cases c1 : (j + 1) % 2 = 1
          · by_cases c2 : (k + 1) % 2 = 1
            · omega
            · have : Nat.beq ((k + 1) % 2) 1 = false := by
                have : (k + 1) % 2 = 0 := by omega
                rw [this]; rfl
              rw [this, c1] at e; cases e
          · by_cases c2 : (k + 1) % 2 = 1
            · have : Nat.beq ((j + 1) % 2) 1 = false := by
                have : (j + 1) % 2 = 0 := by omega
                rw [this]; rfl
              rw [this, c2] at e; cases e
            · omega
        omega
theorem get_putB (x : α) : ∀ (bs cs : List Bool) (t : Tr α), getB cs (putB bs t x) = if cs = bs then some x else getB cs t
  | [], cs, t => by
    cases t <;> cases cs with
    | nil => rfl
    | cons b cs => cases b <;> first | rfl | (cases cs <;> rfl)
  | b :: bs, [], t => by cases t <;> cases b <;> rfl
  | b :: bs, c :: cs, t => by
    have lfn : ∀ cs : List Bool, getB cs (.lf : Tr α) = none := fun cs => by cases cs <;> rfl
    have ih := get_putB x bs cs
    have red : ∀ t : Tr α, getB (c :: cs) (putB (b :: bs) t x) = (match t with
      | .lf => (if b = c then getB cs (putB bs .lf x) else none)
      | .nd v l r => (if b = c then getB cs (putB bs (if c then l else r) x) else (if c then getB cs l else getB cs r))) := by
      intro t
      cases t <;> cases b <;> cases c <;> first | rfl | (exact lfn cs)
    rw [red]
    cases t with
    | lf =>
      by_cases h : b = c
      · subst h
        simp only [if_true]
        rw [ih]
        by_cases h2 : cs = bs
        · simp [h2]
        · simp [h2, lfn]
      · have : ¬ (c :: cs = b :: bs) := by simp; intro e; exact absurd e.symm h
        rw [if_neg this]
        simp [h, lfn]
    | nd v l r =>
      by_cases h : b = c
      · subst h
        simp only [if_true]
        rw [ih]
        by_cases h2 : cs = bs
        · simp [h2]
        · simp only [h2, if_false]
          have : ¬ (b :: cs = b :: bs) := by simp [h2]
          rw [if_neg this]
          cases b <;> rfl
      · have : ¬ (c :: cs = b :: bs) := by simp; intro e; exact absurd e.symm h
        rw [if_neg this]
        simp only [h, if_false]
        cases c <;> rfl
theorem get_set (t : Tr α) (k j : Nat) (x : α) : (t.set k x).get j = if j = k then some x else t.get j := by
  unfold get set
  rw [get_putB]
  by_cases h : j = k
  · subst h; simp
  · have : ¬ bits j = bits k := fun e => h (bits_inj j k e)
    rw [if_neg this, if_neg h]
theorem get_lf (k : Nat) : (Tr.lf : Tr α).get k = none := by
  unfold get
  cases bits k <;> rfl
end Tr

structure Loc where
  blk : Nat
  base : Nat
  room : Nat

abbrev Rn := Nat → Option Loc
def Sub (ρ ρ' : Rn) : Prop := ∀ n l, ρ n = some l → ρ' n = some l
theorem Sub.refl (ρ : Rn) : Sub ρ ρ := fun _ _ h => h
theorem Sub.trans {a b c : Rn} (h : Sub a b) (k : Sub b c) : Sub a c := fun n l e => k n l (h n l e)

mutual
inductive VR (ρ : Rn) : AV → Value → Prop
  | flat (v : Value) : VR ρ (.flat v) v
  | ptr {n : Nat} {l : Loc} (o : Nat) : ρ n = some l → VR ρ (.ptr n o) (.pointer (some ⟨l.blk, l.base + o, none⟩))
  | sl {n : Nat} {l : Loc} (o len cap : Nat) (b : Bool) : ρ n = some l → VR ρ (.sl n o len cap b) (.slice (some ⟨l.blk, l.base + o, none⟩) len (cap + bif b then l.room else 0))
  | sle {n : Nat} {l : Loc} (o1 o2 : Nat) : ρ n = some l → VR ρ (.sle n o1 o2) (.slice (some ⟨l.blk, l.base + (if l.room = 0 then o1 else o2), none⟩) 0 l.room)
  | mp {n : Nat} {l : Loc} : ρ n = some l → VR ρ (.mp n) (.map (some l.blk))
  | fn (f : FuncId) {a b : List AV} {as bs : List Value} : VRs ρ a as → VRs ρ b bs → VR ρ (.fn f a b) (.func (.func f) as.toArray bs.toArray)
  | yld {n : Nat} {l : Loc} : ρ n = some l → VR ρ (.yld n) (.func (.yield l.blk) #[] #[])
  | ifc (t : TypeId) {a : AV} {v : Value} : VR ρ a v → VR ρ (.ifc t a) (.iface t v)
  | agg {l : List AV} {vs : List Value} : VRs ρ l vs → VR ρ (.agg l) (.agg vs.toArray)
  | tup {l : List AV} {vs : List Value} : VRs ρ l vs → VR ρ (.tup l) (.tuple vs.toArray)
  /-- a tuple of which the first things are known -/
  | tupx {l : List AV} {vs ws : List Value} : VRs ρ l vs → VR ρ (.tup l) (.tuple (vs ++ ws).toArray)
  | pick {n : Nat} (i : Nat) {l : List AV} {c : Loc} {a : AV} {v : Value} : ρ n = some c → l[c.blk]? = some a → a.one = true → VR ρ a v → VR ρ (.pick n i l) v
  | any {v : Value} : v.oneCell' = true → VR ρ .any v
  | rng {lo hi n : Int} : lo ≤ n → n ≤ hi → VR ρ (.rng lo hi) (.int .i64 n)
inductive VRs (ρ : Rn) : List AV → List Value → Prop
  | nil : VRs ρ [] []
  | cons {a : AV} {v : Value} {l : List AV} {vs : List Value} : VR ρ a v → VRs ρ l vs → VRs ρ (a :: l) (v :: vs)
end

mutual
theorem VR.mono {ρ ρ' : Rn} (s : Sub ρ ρ') {a : AV} {v : Value} : VR ρ a v → VR ρ' a v
  | .flat v => .flat v
  | .ptr o h => .ptr o (s _ _ h)
  | .sl o len cap b h => .sl o len cap b (s _ _ h)
  | .sle a b h => .sle a b (s _ _ h)
  | .mp h => .mp (s _ _ h)
  | .fn f h k => .fn f (VRs.mono s h) (VRs.mono s k)
  | .yld h => .yld (s _ _ h)
  | .ifc t h => .ifc t (VR.mono s h)
  | .agg h => .agg (VRs.mono s h)
  | .tup h => .tup (VRs.mono s h)
  | .tupx h => .tupx (VRs.mono s h)
  | .pick i h e o k => .pick i (s _ _ h) e o (VR.mono s k)
  | .any h => .any h
  | .rng h k => .rng h k
theorem VRs.mono {ρ ρ' : Rn} (s : Sub ρ ρ') {a : List AV} {v : List Value} : VRs ρ a v → VRs ρ' a v
  | .nil => .nil
  | .cons h k => .cons (VR.mono s h) (VRs.mono s k)
end

section rows
variable {ρ : Rn}
theorem VRs.length {l : List AV} {vs : List Value} (h : VRs ρ l vs) : vs.length = l.length := by
  induction l generalizing vs with
  | nil => cases h; rfl
  | cons a l ih => cases h with | cons _ k => simp [ih k]

theorem VRs.get {l : List AV} {vs : List Value} (h : VRs ρ l vs) {i : Nat} {a : AV} (e : l[i]? = some a) : ∃ v, vs[i]? = some v ∧ VR ρ a v := by
  induction l generalizing vs i with
  | nil => simp at e
  | cons b l ih =>
    cases h with
    | cons hb k =>
      cases i with
      | zero => simp at e; subst e; exact ⟨_, rfl, hb⟩
      | succ i => simp at e; simpa using ih k e

theorem VRs.append {l m : List AV} {vs ws : List Value} (h : VRs ρ l vs) (k : VRs ρ m ws) : VRs ρ (l ++ m) (vs ++ ws) := by
  induction l generalizing vs with
  | nil => cases h; simpa using k
  | cons a l ih => cases h with | cons ha hl => exact .cons ha (ih hl)

theorem VRs.of_get : ∀ {l : List AV} {vs : List Value}, vs.length = l.length → (∀ (i : Nat) (a : AV), l[i]? = some a → ∃ v, vs[i]? = some v ∧ VR ρ a v) → VRs ρ l vs
  | [], [], _, _ => .nil
  | [], _ :: _, h, _ => by simp at h
  | _ :: _, [], h, _ => by simp at h
  | a :: l, v :: vs, h, k => by
    obtain ⟨u, e, r⟩ := k 0 a rfl
    simp at e
    subst e
    exact .cons r (VRs.of_get (by simpa using h) fun i b e => by simpa using k (i + 1) b (by simpa using e))

theorem VRs.drop {l : List AV} {vs : List Value} (h : VRs ρ l vs) (n : Nat) : VRs ρ (l.drop n) (vs.drop n) :=
  .of_get (by simp [h.length]) fun i a e => by
    rw [List.getElem?_drop] at e
    simpa [List.getElem?_drop] using h.get e

theorem VRs.take {l : List AV} {vs : List Value} (h : VRs ρ l vs) (n : Nat) : VRs ρ (l.take n) (vs.take n) :=
  .of_get (by simp [h.length]) fun i a e => by
    rw [List.getElem?_take] at e ⊢
    split at e
    · rename_i hi; simpa [hi] using h.get e
    · cases e

theorem VRs.flats : ∀ (l : List Value), VRs ρ (l.map .flat) l
  | [] => .nil
  | v :: l => .cons (.flat v) (VRs.flats l)

theorem VR.fromV1 (v : Value) : VR ρ (fromV1 v) v := by
  cases v with
  | agg cs => have := VR.agg (ρ := ρ) (VRs.flats cs.toList); simpa [Ab.fromV1] using this
  | _ => exact .flat _

theorem VR.fromV (v : Value) : VR ρ (fromV v) v := by
  have h : ∀ l : List Value, VRs ρ (l.map Ab.fromV1) l := by
    intro l
    induction l with
    | nil => exact .nil
    | cons v l ih => exact .cons (VR.fromV1 v) ih
  cases v with
  | tuple vs => have := VR.tup (h vs.toList); simpa [Ab.fromV] using this
  | _ => simpa only [Ab.fromV] using VR.fromV1 (ρ := ρ) _

mutual
theorem toV_spec : ∀ {a : AV} {v w : Value}, toV a = some v → VR ρ a w → w = v
  | .flat v, _, _, h, k => by cases k; simp [toV] at h; exact h
  | .agg l, v, w, h, k => by
    cases k with
    | agg k =>
      rename_i vs
      simp only [toV] at h
      split at h
      · rename_i us hu
        cases h
        rw [toVs_spec hu k]
      · cases h
  | .ptr _ _, _, _, h, _ | .sl _ _ _ _ _, _, _, h, _ | .sle _ _ _, _, _, h, _ | .mp _, _, _, h, _ | .fn _ _ _, _, _, h, _ | .yld _, _, _, h, _ | .ifc _ _, _, _, h, _ | .tup _, _, _, h, _ | .pick _ _ _, _, _, h, _ | .any, _, _, h, _ | .rng _ _, _, _, h, _ => by simp [toV] at h
theorem toVs_spec : ∀ {a : List AV} {v w : List Value}, toVs a = some v → VRs ρ a w → w = v
  | [], _, _, h, k => by cases k; simp [toVs] at h; exact h.symm
  | a :: l, v, w, h, k => by
    cases k with
    | cons k1 k2 =>
      simp only [toVs] at h
      split at h
      · rename_i u us hu hus
        cases h
        rw [toV_spec hu k1, toVs_spec hus k2]
      · cases h
end
end rows

/-- the entries of a map -/
inductive ERs (ρ : Rn) : List (AV × AV × Nat) → List MapEntry → Prop
  | nil : ERs ρ [] []
  | cons {k x : AV} {b : Nat} {c : MapEntry} {l : List (AV × AV × Nat)} {cs : List MapEntry} : VR ρ k c.key → VR ρ x c.val → c.born = b → ERs ρ l cs → ERs ρ ((k, x, b) :: l) (c :: cs)

def TR (ρ : Rn) (nt : Nat) (T : Tr AV) (tmps : Array Value) : Prop :=
  tmps.size = nt ∧ ∀ t, VR ρ ((T.get t).getD undefA) (tmps.getD t undef)

/-- no cell of a row is frozen -/
def Thaw (n : Nat) (fz : Nat × Nat) : Prop := fz.1 = fz.2 ∨ n ≤ fz.1

def CellsR (P : Program) (ρ : Rn) (l : Loc) (xs : List AV) (t : TypeId) (obj : Obj) : Prop :=
  ∃ (C : Array Value) (fz : Nat × Nat), obj = .cells C t fz ∧ C.size = l.base + xs.length + l.room * P.cellsOf t ∧
    Thaw C.size fz ∧ ∀ i a, xs[i]? = some a → ∃ v, C[l.base + i]? = some v ∧ VR ρ a v

/-- what some names tell -/
inductive Drawn (ρ : Rn) : List Nat → List Nat → Prop
  | nil : Drawn ρ [] []
  | cons {n : Nat} {c : Loc} {ns is : List Nat} : ρ n = some c → Drawn ρ ns is → Drawn ρ (n :: ns) (c.blk :: is)
theorem Drawn.mono {ρ ρ' : Rn} (s : Sub ρ ρ') {ns is : List Nat} (h : Drawn ρ ns is) : Drawn ρ' ns is := by
  induction h with
  | nil => exact .nil
  | cons a _ ih => exact .cons (s _ _ a) ih
theorem Drawn.length {ρ : Rn} {ns is : List Nat} (h : Drawn ρ ns is) : is.length = ns.length := by
  induction h with
  | nil => rfl
  | cons _ _ ih => simp [ih]
theorem Drawn.snoc {ρ : Rn} {ns is : List Nat} {n : Nat} {c : Loc} (h : Drawn ρ ns is) (k : ρ n = some c) : Drawn ρ (ns ++ [n]) (is ++ [c.blk]) := by
  induction h with
  | nil => exact .cons k .nil
  | cons a _ ih => exact .cons a ih

def OR (P : Program) (ρ : Rn) (l : Loc) : AO → Obj → Prop
  | .dead, _ => False
  | .cells xs t, o => CellsR P ρ l xs t o
  | .map es clock, o => ∃ cs : List MapEntry, o = .map cs.toArray clock ∧ ERs ρ es cs
  | .loop st pend f nt T ps as b d, o => ∃ (tmps : Array Value) (ld : Loc), o = .loop { state := st, pending := pend, fn := f, tmps, params := ps.toArray, assign := as, body := b, defers := ld.blk } ∧ ρ d = some ld ∧ TR ρ nt T tmps
  | .deferred tk, o => o = .deferred (if tk then none else some [])
  | .siter s p, o => l.base = 0 ∧ o = .stringIter s p
  | .miter m since seen bs st, o => l.base = 0 ∧ ∃ mr sn, o = .mapIter mr since sn.toArray st ∧ (match m with | none => mr = none | some k => ∃ l, ρ k = some l ∧ mr = some l.blk) ∧
      ∃ idx : List Nat, Drawn ρ seen idx ∧ idx.Nodup ∧ (∀ i ∈ idx, i < bs.length) ∧ sn = idx.map fun i => bs.getD i 0

theorem ERs.mono {ρ ρ' : Rn} (s : Sub ρ ρ') {l : List (AV × AV × Nat)} {cs : List MapEntry} (h : ERs ρ l cs) : ERs ρ' l cs := by
  induction h with
  | nil => exact .nil
  | cons a b c _ ih => exact .cons (a.mono s) (b.mono s) c ih

theorem TR.mono {ρ ρ' : Rn} (s : Sub ρ ρ') {nt : Nat} {T : Tr AV} {tmps : Array Value} (h : TR ρ nt T tmps) : TR ρ' nt T tmps := ⟨h.1, fun t => (h.2 t).mono s⟩

theorem OR.mono {P : Program} {ρ ρ' : Rn} (s : Sub ρ ρ') {l : Loc} {ao : AO} {o : Obj} (h : OR P ρ l ao o) : OR P ρ' l ao o := by
  cases ao with
  | dead => exact h
  | cells xs t => obtain ⟨C, fz, a, b, c, d⟩ := h; exact ⟨C, fz, a, b, c, fun i x e => by obtain ⟨v, e1, e2⟩ := d i x e; exact ⟨v, e1, e2.mono s⟩⟩
  | map es c => obtain ⟨cs, a, b⟩ := h; exact ⟨cs, a, b.mono s⟩
  | loop => obtain ⟨tm, ld, a, b, c⟩ := h; exact ⟨tm, ld, a, s _ _ b, c.mono s⟩
  | deferred => exact h
  | siter => exact h
  | miter m since seen bs st =>
    obtain ⟨h0, mr, sn, a, b, idx, d1, d2⟩ := h
    refine ⟨h0, mr, sn, a, ?_, idx, d1.mono s, d2⟩
    cases m with
    | none => exact b
    | some k => obtain ⟨l, e1, e2⟩ := b; exact ⟨l, s _ _ e1, e2⟩

noncomputable def AW.live (A : AW) (n : Nat) : Option AO := match A.get n with | some .dead => none | x => x

structure Sim (P : Program) (ρ : Rn) (H : Nat → Option AO) (w : World) : Prop where
  obj : ∀ n ao, H n = some ao → ∃ l o, ρ n = some l ∧ w.heap[l.blk]? = some o ∧ OR P ρ l ao o
  inj : ∀ n m a b l l', H n = some a → H m = some b → ρ n = some l → ρ m = some l' → l.blk = l'.blk → n = m

/-- what a run does: names are told, old blocks beside those of the memory stay -/
structure Ext (ρ : Rn) (w : World) (A : AW) (ρ' : Rn) (w' : World) (A' : AW) : Prop where
  sub : Sub ρ ρ'
  fresh : ∀ n, ρ n = none → ρ' n ≠ none → A.next ≤ n ∧ n < A'.next
  next : A.next ≤ A'.next
  dom : ∀ n ao, A'.live n = some ao → (∃ ao', A.live n = some ao') ∨ (A.next ≤ n ∧ n < A'.next)
  back : ∀ n ao l, A'.live n = some ao → ρ' n = some l → w.heap.size ≤ l.blk ∨ ∃ m am l', A.live m = some am ∧ ρ m = some l' ∧ l'.blk = l.blk
  keep : ∀ b, b < w.heap.size → (∀ n ao l, A.live n = some ao → ρ n = some l → l.blk ≠ b) → w'.heap[b]? = w.heap[b]?
  size : w.heap.size ≤ w'.heap.size
  os : w'.os = w.os
  tape : w'.tape = w.tape
  output : w'.output = w.output

theorem Ext.refl (ρ : Rn) (w : World) (A : AW) : Ext ρ w A ρ w A :=
  ⟨Sub.refl ρ, fun _ h k => absurd h k, Nat.le_refl _, fun _ ao h => .inl ⟨ao, h⟩, fun n ao l h e => .inr ⟨n, ao, l, h, e, rfl⟩, fun _ _ _ => rfl, Nat.le_refl _, rfl, rfl, rfl⟩

theorem Ext.trans {ρ ρ1 ρ2 : Rn} {w w1 w2 : World} {A A1 A2 : AW} (h : Ext ρ w A ρ1 w1 A1) (k : Ext ρ1 w1 A1 ρ2 w2 A2) : Ext ρ w A ρ2 w2 A2 where
  sub := h.sub.trans k.sub
  fresh n e e2 := by
    by_cases e1 : ρ1 n = none
    · have := k.fresh n e1 e2; have := h.next; omega
    · have := h.fresh n e e1; have := k.next; omega
  next := Nat.le_trans h.next k.next
  dom n ao e := by
    rcases k.dom n ao e with ⟨a1, e1⟩ | h1
    · rcases h.dom n a1 e1 with h2 | h2
      · exact .inl h2
      · have := k.next; exact .inr ⟨h2.1, by omega⟩
    · have := h.next; exact .inr ⟨by omega, h1.2⟩
  back n ao l e e1 := by
    rcases k.back n ao l e e1 with h1 | ⟨m, am, l', a, b, c⟩
    · have := h.size; exact .inl (by omega)
    · rcases h.back m am l' a b with h2 | ⟨m2, am2, l2, a2, b2, c2⟩
      · exact .inl (by omega)
      · exact .inr ⟨m2, am2, l2, a2, b2, c2.trans c⟩
  keep b hb hn := by
    have h1 := h.keep b hb hn
    have hs := h.size
    rw [← h1]
    refine k.keep b (by omega) fun n ao l e e1 hl => ?_
    rcases h.back n ao l e e1 with h2 | ⟨m, am, l', a, bb, c⟩
    · omega
    · exact hn m am l' a bb (c.trans hl)
  size := Nat.le_trans h.size k.size
  os := k.os.trans h.os
  tape := k.tape.trans h.tape
  output := k.output.trans h.output

def Free (ρ : Rn) (a b : Nat) : Prop := ∀ n, a ≤ n → n < b → ρ n = none

theorem Free.later {ρ ρ1 : Rn} {w w1 : World} {A A1 : AW} {b : Nat} (h : Free ρ A.next b) (k : Ext ρ w A ρ1 w1 A1) : Free ρ1 A1.next b := fun n h1 h2 => by
  have := k.next
  have h0 := h n (by omega) h2
  cases e : ρ1 n with
  | none => rfl
  | some l => have := k.fresh n h0 (by simp [e]); omega

def upd (ρ : Rn) (n : Nat) (l : Loc) : Rn := fun m => if m = n then some l else ρ m
theorem upd_sub {ρ : Rn} {n : Nat} {l : Loc} (h : ρ n = none) : Sub ρ (upd ρ n l) := fun m k e => by
  unfold upd; split
  · rename_i e2; subst e2; rw [h] at e; cases e
  · exact e
theorem upd_at {ρ : Rn} {n : Nat} {l : Loc} : upd ρ n l n = some l := by simp [upd]

theorem live_set (A : AW) (n m : Nat) (o : AO) : (A.set n o).live m = if m = n then (match o with | .dead => none | x => some x) else A.live m := by
  unfold AW.live AW.get AW.set
  simp only [Tr.get_set]
  by_cases e : m = n
  · simp only [e, if_true]; cases o <;> rfl
  · simp only [e, if_false]
theorem live_new (A : AW) (m : Nat) (o : AO) : (A.new o).live m = if m = A.next then (match o with | .dead => none | x => some x) else A.live m := by
  unfold AW.live AW.get AW.new
  simp only [Tr.get_set]
  by_cases e : m = A.next
  · simp only [e, if_true]; cases o <;> rfl
  · simp only [e, if_false]
theorem live_of_get {A : AW} {n : Nat} {o : AO} (h : A.get n = some o) (hd : o ≠ .dead) : A.live n = some o := by
  unfold AW.live; rw [h]; cases o <;> first | rfl | exact absurd rfl hd
theorem get_of_live {A : AW} {n : Nat} {o : AO} (h : A.live n = some o) : A.get n = some o ∧ o ≠ .dead := by
  unfold AW.live at h
  split at h
  · cases h
  · rename_i x hx
    refine ⟨h, fun e => ?_⟩
    subst e
    exact hx h

end Go.Proofs.YtjhaccpljgdlpaaGreat.Ab
