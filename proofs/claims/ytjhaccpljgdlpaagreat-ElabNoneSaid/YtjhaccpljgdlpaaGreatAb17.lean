/-
  Regions that draw their order: whatever order comes, the outcome is the same.
-/
import Derived.Test.YtjhaccpljgdlpaaGreatAb16
namespace Go.Proofs.YtjhaccpljgdlpaaGreat.Ab
open Go

/-! ### Memory as a function of names; what a run on a part of it leaves alone -/
section
variable {P : Program}

theorem Sim.part {ρ : Rn} {H H' : Nat → Option AO} {w : World} (hs : Sim P ρ H w) (h : ∀ n ao, H' n = some ao → H n = some ao) : Sim P ρ H' w :=
  ⟨fun n ao e => hs.obj n ao (h n ao e), fun n m a b l l' h1 h2 => hs.inj n m a b l l' (h n a h1) (h m b h2)⟩

/-- what a run does, of functions -/
structure Ext2 (ρ : Rn) (w : World) (H : Nat → Option AO) (ρ' : Rn) (w' : World) (H' : Nat → Option AO) : Prop where
  sub : Sub ρ ρ'
  back : ∀ n ao l, H' n = some ao → ρ' n = some l → w.heap.size ≤ l.blk ∨ ∃ m am l', H m = some am ∧ ρ m = some l' ∧ l'.blk = l.blk
  keep : ∀ b, b < w.heap.size → (∀ n ao l, H n = some ao → ρ n = some l → l.blk ≠ b) → w'.heap[b]? = w.heap[b]?
  size : w.heap.size ≤ w'.heap.size
  os : w'.os = w.os
  tape : w'.tape = w.tape
  output : w'.output = w.output

theorem Ext2.refl (ρ : Rn) (w : World) (H : Nat → Option AO) : Ext2 ρ w H ρ w H :=
  ⟨Sub.refl ρ, fun n ao l h e => .inr ⟨n, ao, l, h, e, rfl⟩, fun _ _ _ => rfl, Nat.le_refl _, rfl, rfl, rfl⟩

theorem Ext2.trans {ρ ρ1 ρ2 : Rn} {w w1 w2 : World} {H H1 H2 : Nat → Option AO} (h : Ext2 ρ w H ρ1 w1 H1) (k : Ext2 ρ1 w1 H1 ρ2 w2 H2) : Ext2 ρ w H ρ2 w2 H2 where
  sub := h.sub.trans k.sub
  back n ao l e e1 := by
    rcases k.back n ao l e e1 with h1 | ⟨m, am, l', a, b, c⟩
    · have := h.size; exact .inl (by omega)
    · rcases h.back m am l' a b with h2 | ⟨m2, am2, l2, a2, b2, c2⟩
      · exact .inl (by omega)
      · exact .inr ⟨m2, am2, l2, a2, b2, c2.trans c⟩
  keep b hb hn := by
    have h1 := h.keep b hb hn
    have hs := h.size
    rw [← h1]
    refine k.keep b (by omega) fun n ao l e e1 hl => ?_
    rcases h.back n ao l e e1 with h2 | ⟨m, am, l', a, bb, c⟩
    · omega
    · exact hn m am l' a bb (c.trans hl)
  size := Nat.le_trans h.size k.size
  os := k.os.trans h.os
  tape := k.tape.trans h.tape
  output := k.output.trans h.output

theorem Ext2.part {ρ ρ' : Rn} {w w' : World} {H H' H2 : Nat → Option AO} (h : Ext2 ρ w H ρ' w' H') (k : ∀ n ao, H2 n = some ao → H' n = some ao) : Ext2 ρ w H ρ' w' H2 :=
  ⟨h.sub, fun n ao l e => h.back n ao l (k n ao e), h.keep, h.size, h.os, h.tape, h.output⟩

/-- a run on a part of the memory: the rest stays -/
theorem frame_rule {ρ ρ' : Rn} {w w' : World} {H : Nat → Option AO} {A A' : AW} (hs : Sim P ρ H w) (hp : ∀ n ao, A.live n = some ao → H n = some ao) (h1 : Sim P ρ' A'.live w') (h2 : Ext ρ w A ρ' w' A') (H' : Nat → Option AO)
    (hH : ∀ n ao, H' n = some ao → A'.live n = some ao ∨ (A'.live n = none ∧ A.live n = none ∧ H n = some ao)) : Sim P ρ' H' w' ∧ Ext2 ρ w H ρ' w' H' := by
  -- a block of the rest
  have rest : ∀ n ao, A.live n = none → H n = some ao → ∃ l o, ρ n = some l ∧ w.heap[l.blk]? = some o ∧ w'.heap[l.blk]? = some o ∧ OR P ρ l ao o ∧ l.blk < w.heap.size ∧ ∀ m am lm, A.live m = some am → ρ m = some lm → lm.blk ≠ l.blk := by
    intro n ao hn hao
    obtain ⟨l, o, e1, e2, e3⟩ := hs.obj n ao hao
    have hlt := (Array.getElem?_eq_some_iff.1 e2).1
    have hne : ∀ m am lm, A.live m = some am → ρ m = some lm → lm.blk ≠ l.blk := fun m am lm hm hl he => by
      have := hs.inj m n am ao lm l (hp m am hm) hao hl e1 he
      subst this
      rw [hn] at hm; cases hm
    exact ⟨l, o, e1, e2, by rw [h2.keep _ hlt fun m am lm hm hl he => hne m am lm hm hl he]; exact e2, e3, hlt, hne⟩
  -- a block of the part's outcome is no block of the rest
  have apart : ∀ n ao l m am lm, A'.live n = some ao → ρ' n = some l → A.live m = none → H m = some am → ρ' m = some lm → l.blk ≠ lm.blk := by
    intro n ao l m am lm hn hl hm hm2 hlm he
    obtain ⟨l2, o, e1, e2, e3, e4, e5, e6⟩ := rest m am hm hm2
    have := h2.sub _ _ e1
    rw [hlm] at this; cases this
    rcases h2.back n ao l hn hl with h | ⟨k, ak, lk, k1, k2, k3⟩
    · omega
    · exact e6 k ak lk k1 k2 (k3.trans he)
  refine ⟨⟨fun n ao hn => ?_, fun n m a b l l' hn hm e1 e2 he => ?_⟩, ⟨h2.sub, fun n ao l hn hl => ?_, fun b hb hk => ?_, h2.size, h2.os, h2.tape, h2.output⟩⟩
  · rcases hH n ao hn with h | ⟨_, h, k⟩
    · exact h1.obj n ao h
    · obtain ⟨l, o, e1, e2, e3, e4, e5, e6⟩ := rest n ao h k
      exact ⟨l, o, h2.sub _ _ e1, e3, e4.mono h2.sub⟩
  · rcases hH n a hn with h | ⟨_, h, k⟩
    · rcases hH m b hm with h' | ⟨_, h', k'⟩
      · exact h1.inj n m a b l l' h h' e1 e2 he
      · exact (apart n a l m b l' h e1 h' k' e2 he).elim
    · rcases hH m b hm with h' | ⟨_, h', k'⟩
      · exact (apart m b l' n a l h' e2 h k e1 he.symm).elim
      · obtain ⟨l1, _, q1, _⟩ := rest n a h k
        obtain ⟨l2, _, q2, _⟩ := rest m b h' k'
        have := h2.sub _ _ q1; rw [e1] at this; cases this
        have := h2.sub _ _ q2; rw [e2] at this; cases this
        exact hs.inj n m a b l l' k k' q1 q2 he
  · rcases hH n ao hn with h | ⟨_, h, k⟩
    · rcases h2.back n ao l h hl with h' | ⟨m, am, lm, k1, k2, k3⟩
      · exact .inl h'
      · exact .inr ⟨m, am, lm, hp m am k1, k2, k3⟩
    · obtain ⟨l1, _, q1, _⟩ := rest n ao h k
      have := h2.sub _ _ q1; rw [hl] at this; cases this
      exact .inr ⟨n, ao, l, k, q1, rfl⟩
  · exact h2.keep b hb fun n ao l hn hl => hk n ao l (hp n ao hn) hl

/-- a new block, under a name of one's own -/
theorem Sim.pushAt {ρ : Rn} {H : Nat → Option AO} {w w' : World} (hs : Sim P ρ H w) {ao : AO} {o : Obj} {room s : Nat} (hp : Pushed w o w') (hf : ρ s = none)
    (ho : OR P (upd ρ s ⟨w.heap.size, 0, room⟩) ⟨w.heap.size, 0, room⟩ ao o) (H' : Nat → Option AO) (hH : ∀ n am, H' n = some am → (n = s ∧ am = ao) ∨ (n ≠ s ∧ H n = some am)) :
    Sim P (upd ρ s ⟨w.heap.size, 0, room⟩) H' w' ∧ Ext2 ρ w H (upd ρ s ⟨w.heap.size, 0, room⟩) w' H' := by
  have hsub := upd_sub (l := ⟨w.heap.size, 0, room⟩) hf
  have hlt : ∀ m am lm, H m = some am → upd ρ s ⟨w.heap.size, 0, room⟩ m = some lm → m ≠ s → lm.blk < w.heap.size ∧ ρ m = some lm := by
    intro m am lm hm e hne
    obtain ⟨l2, o2, e1, e2, _⟩ := hs.obj m am hm
    simp only [upd, if_neg hne] at e
    rw [e1] at e; cases e
    exact ⟨(Array.getElem?_eq_some_iff.1 e2).1, e1⟩
  refine ⟨⟨fun m am hm => ?_, fun m k a b l l' hm hk e1 e2 he => ?_⟩, ⟨hsub, fun m am l hm e => ?_, fun b hb _ => ?_, ?_, hp.os, hp.tape, hp.output⟩⟩
  · rcases hH m am hm with ⟨rfl, rfl⟩ | ⟨hne, h⟩
    · exact ⟨_, o, upd_at, by rw [hp.heap]; simp, ho⟩
    · obtain ⟨l2, o2, e1, e2, e3⟩ := hs.obj m am h
      refine ⟨l2, o2, hsub _ _ e1, ?_, e3.mono hsub⟩
      have := (Array.getElem?_eq_some_iff.1 e2).1
      rw [hp.heap, Array.getElem?_push, if_neg (by omega)]
      exact e2
  · rcases hH m a hm with ⟨rfl, _⟩ | ⟨hne, h⟩
    · rcases hH k b hk with ⟨rfl, _⟩ | ⟨hne', h'⟩
      · rfl
      · rw [upd_at] at e1; cases e1
        have := (hlt k b l' h' e2 hne').1
        simp at he; omega
    · rcases hH k b hk with ⟨rfl, _⟩ | ⟨hne', h'⟩
      · rw [upd_at] at e2; cases e2
        have := (hlt m a l h e1 hne).1
        simp at he; omega
      · exact hs.inj m k a b l l' h h' (hlt m a l h e1 hne).2 (hlt k b l' h' e2 hne').2 he
  · rcases hH m am hm with ⟨rfl, _⟩ | ⟨hne, h⟩
    · rw [upd_at] at e; cases e; exact .inl (Nat.le_refl _)
    · exact .inr ⟨m, am, l, h, (hlt m am l h e hne).2, rfl⟩
  · rw [hp.heap, Array.getElem?_push, if_neg (by omega)]
  · rw [hp.heap]; simp
end

section
variable {P : Program} {rec : Rec} {nt : Nat} {ops : Array Oper} {T0 : Tr AV} {X0 : AW × Nat} {s0 : Nat}

theorem memAll_succ {tr : List Done} {k : Nat} {d : Done} (h : tr[k]? = some d) : memAll (tr.take (k + 1)) X0 = nxt d (memAll (tr.take k) X0) := by
  have : tr.take (k + 1) = tr.take k ++ [d] := by rw [List.take_add_one, h]; rfl
  rw [this, memAll, List.foldl_append]; rfl

theorem quiet_step {o : Oper} {T : Tr AV} {A A' : AW} {v : AV} (h : stepA P rec ops o T A = some (false, v, A')) (hw : wantA ops T o = some true) : opA P T A o = some (.val v) := by
  unfold stepA at h
  rw [hw] at h
  simp only [opF_eq] at h
  split at h
  · cases h
  · rename_i v' hop; cases h; exact hop
  · cases h
  · split at h <;> cases h
  all_goals first
    | (cases h; done)
    | (unfold calledA at h
       split at h
       · split at h <;> cases h
       · cases h)

theorem again_spec {q : Done} {A : AW} (h : again P q A = true) : opA P q.T A q.o = some (.val q.v) := by
  unfold again at h
  rw [opF_eq] at h
  split at h
  · rename_i v hop; rw [← aSame_spec h]; exact hop
  · cases h

/-- what a memory with some new blocks in it holds -/
theorem addP_get : ∀ (l : List Done) (m ab : Nat) (A : AW) (n : Nat) (ao : AO), (addP l m ab A).get n = some ao →
    (∃ d ∈ l, m.testBit d.i = true ∧ ab.testBit d.i = false ∧ d.s = n ∧ d.ob = ao) ∨ A.get n = some ao
  | [], _, _, _, _, _, h => .inr h
  | d :: l, m, ab, A, n, ao, h => by
    simp only [addP] at h
    split at h
    · rename_i hb
      simp only [Bool.and_eq_true, Bool.not_eq_true'] at hb
      obtain ⟨b2, b3⟩ := hb
      rcases addP_get l m ab _ n ao h with ⟨d', a, b⟩ | h'
      · exact .inl ⟨d', by simp [a], b⟩
      · simp only [AW.get, AW.set, Tr.get_set] at h'
        by_cases e : n = d.s
        · rw [if_pos e] at h'
          exact .inl ⟨d, by simp, b2, b3, e.symm, by simpa using h'⟩
        · rw [if_neg e] at h'; exact .inr h'
    · rcases addP_get l m ab _ n ao h with ⟨d', a, b⟩ | h'
      · exact .inl ⟨d', by simp [a], b⟩
      · exact .inr h'

theorem runA_get {l : List Done} {m ab s : Nat} {A : AW} {n : Nat} {ao : AO} (h : (runA l m ab s A).live n = some ao) :
    (∃ d ∈ l, m.testBit d.i = true ∧ ab.testBit d.i = false ∧ d.s = n ∧ d.ob = ao) ∨ A.live n = some ao := by
  obtain ⟨h1, h2⟩ := get_of_live h
  rcases addP_get l m ab A n ao h1 with h3 | h3
  · exact .inl h3
  · exact .inr (live_of_get h3 h2)

/-- whatever is listed: each waits only for such -/
def Closed (tr : List Done) (L : List Nat) : Prop := ∀ i ∈ L, ∀ d, tr[i]? = some d → ∀ e ∈ d.o.after, Region.binds .any e = true → e.on ∈ L

theorem closed_mask {tr : List Done} (hg : Good P rec ops T0 X0 s0 tr) (hE : ∀ (k : Nat) (d : Done), tr[k]? = some d → ∀ e ∈ d.o.after, Region.binds .any e = true → e.on < k) {L : List Nat} (hc : Closed tr L) : ∀ (i : Nat) (d : Done), tr[i]? = some d → (∀ e ∈ d.o.after, Region.binds .any e = true → e.on ∈ L) →
    ∀ j, d.mask.testBit j = true → j ∈ L := by
  intro i
  induction i using Nat.strongRecOn with
  | _ i ih =>
    intro d hd he j hj
    obtain ⟨e, e1, e2, e3⟩ := (hg i d hd).mask j hj
    have hl := he e e1 e2
    rcases e3 with rfl | ⟨d', a, b⟩
    · exact hl
    · exact ih e.on (hE i d hd e e1 e2) d' a (hc _ hl d' a) j b

/-- is n the name of a new block that is listed and isn't in the chain's memory? -/
def Pend (tr : List Done) (L : List Nat) (ab n : Nat) (ao : AO) : Prop := ∃ j d, j ∈ L ∧ tr[j]? = some d ∧ d.kind = 1 ∧ ab.testBit j = false ∧ d.s = n ∧ d.ob = ao

open Classical in
/-- the memory behind what is listed -/
noncomputable def memL (tr : List Done) (L : List Nat) (X : AW × Nat) : Nat → Option AO := fun n =>
  if h : ∃ ao, Pend tr L X.2 n ao then some h.choose else X.1.live n

theorem same_name {tr : List Done} (hg : Good P rec ops T0 X0 s0 tr) {i j : Nat} {d d' : Done} (hi : tr[i]? = some d) (hj : tr[j]? = some d') {n : Nat} (h1 : d.s ≤ n ∧ n < d.e) (h2 : d'.s ≤ n ∧ n < d'.e) : i = j := by
  rcases Nat.lt_trichotomy i j with h | h | h
  · have := (hg j d' hj).names.2.2 i d h hi; omega
  · exact h
  · have := (hg i d hi).names.2.2 j d' h hj; omega

theorem memL_pend {tr : List Done} (hg : Good P rec ops T0 X0 s0 tr) {L : List Nat} {X : AW × Nat} {n : Nat} {ao : AO} (h : Pend tr L X.2 n ao) : memL tr L X n = some ao := by
  have hx : ∃ ao, Pend tr L X.2 n ao := ⟨ao, h⟩
  unfold memL
  rw [dif_pos hx]
  obtain ⟨j, d, _, h2, h3, _, h5, h6⟩ := hx.choose_spec
  obtain ⟨j', d', _, k2, k3, _, k5, k6⟩ := h
  have e1 := ((hg j d h2).on1 h3).2.2.1
  have e2 := ((hg j' d' k2).on1 k3).2.2.1
  have : j = j' := same_name hg h2 k2 (n := n) (by omega) (by omega)
  subst this
  rw [h2] at k2; cases k2
  rw [← h6, ← k6]

theorem memL_not {tr : List Done} {L : List Nat} {X : AW × Nat} {n : Nat} (h : ¬ ∃ ao, Pend tr L X.2 n ao) : memL tr L X n = X.1.live n := by
  unfold memL; rw [dif_neg h]

theorem memL_cases {tr : List Done} (hg : Good P rec ops T0 X0 s0 tr) {L : List Nat} {X : AW × Nat} {n : Nat} {ao : AO} (h : memL tr L X n = some ao) : Pend tr L X.2 n ao ∨ ((¬ ∃ ao, Pend tr L X.2 n ao) ∧ X.1.live n = some ao) := by
  rcases Classical.em (∃ ao, Pend tr L X.2 n ao) with ⟨a, ha⟩ | hn
  · rw [memL_pend hg ha] at h; cases h; exact .inl ha
  · rw [memL_not hn] at h; exact .inr ⟨hn, h⟩

theorem chain_cases (tr : List Done) : ∀ k, memAll (tr.take k) X0 = X0 ∨ ∃ i l, i < k ∧ tr[i]? = some l ∧ l.kind = 3 ∧ memAll (tr.take k) X0 = (l.C', l.ab') := by
  intro k
  induction k with
  | zero => exact .inl rfl
  | succ k ih =>
    cases h : tr[k]? with
    | none =>
      have : tr.take (k + 1) = tr.take k := by
        rw [List.getElem?_eq_none_iff] at h
        rw [List.take_of_length_le (by omega), List.take_of_length_le h]
      rw [this]
      exact ih.imp id fun ⟨i, l, a, b⟩ => ⟨i, l, by omega, b⟩
    | some d =>
      rw [memAll_succ h]
      by_cases hk : d.kind = 3
      · rw [nxt_loud hk]; exact .inr ⟨k, d, by omega, h, hk, rfl⟩
      · rw [nxt_quiet hk]
        exact ih.imp id fun ⟨i, l, a, b⟩ => ⟨i, l, by omega, b⟩

/-- what the checks over a trace say -/
structure Chk (P : Program) (nt : Nat) (ops : Array Oper) (A0 : AW) (tr fs : List Done) : Prop where
  edges : ∀ (k : Nat) (d : Done), tr[k]? = some d → ∀ e ∈ d.o.after, Region.binds .any e = true → e.on < k
  dst : ∀ (k : Nat) (d : Done), tr[k]? = some d → dstOk nt d.o.dst = true
  apart : ∀ (i j : Nat) (x y : Done), i < j → tr[i]? = some x → tr[j]? = some y → y.mask.testBit i = true ∨ x.o.apart ops y.o = true
  pair : ∀ (i j : Nat) (x y : Done), i < j → tr[i]? = some x → tr[j]? = some y → y.mask.testBit i = true ∨ pairOk P fs x y = true
  start : ∀ (j : Nat) (f : Done), tr[j]? = some f → f.kind = 1 → A0.get f.s = none
  loud : ∀ (j : Nat) (f : Done) (k : Nat) (l : Done), tr[j]? = some f → f.kind = 1 → tr[k]? = some l → l.kind = 3 → (l.ab.testBit j = true ∨ l.C.get f.s = none) ∧ (l.ab'.testBit j = true ∨ l.C'.get f.s = none)
  fresh : ∀ f ∈ fs, f ∈ tr ∧ f.kind = 1

theorem gone_spec {A : AW} {n : Nat} (h : gone A n = true) : A.get n = none := by
  unfold gone at h
  split at h
  · assumption
  · cases h

theorem row_spec {fs : List Done} {y : Done} : ∀ {l : List Done}, rowOk P fs y l = true → ∀ x ∈ l, y.mask.testBit x.i = true ∨ pairOk P fs x y = true
  | [], _, x, h => by cases h
  | z :: l, h, x, hx => by
    simp only [rowOk, Bool.and_eq_true, Bool.or_eq_true] at h
    rcases List.mem_cons.1 hx with rfl | hx
    · exact h.1
    · exact row_spec h.2 x hx

theorem pairs_spec {fs : List Done} : ∀ {l : List Done}, pairsOk P fs l = true → ∀ (i j : Nat) (x y : Done), i < j → l.reverse[i]? = some x → l.reverse[j]? = some y → y.mask.testBit x.i = true ∨ pairOk P fs x y = true
  | [], _, i, j, x, y, _, h, _ => by simp at h
  | z :: l, h, i, j, x, y, hij, hx, hy => by
    rw [List.reverse_cons] at hx hy
    have hj : j < (l.reverse ++ [z]).length := (List.getElem?_eq_some_iff.1 hy).1
    simp only [List.length_append, List.length_reverse, List.length_cons, List.length_nil] at hj
    rw [List.getElem?_append_left (by simp; omega)] at hx
    have hrest : pairsOk P fs l = true := by
      simp only [pairsOk] at h
      split at h
      · simp only [Bool.and_eq_true] at h; exact h.2
      · exact h
    by_cases hjl : j < l.reverse.length
    · rw [List.getElem?_append_left hjl] at hy
      exact pairs_spec hrest i j x y hij hx hy
    · rw [List.getElem?_append_right (by omega)] at hy
      have : j - l.reverse.length = 0 := by simp at hjl ⊢; omega
      rw [this] at hy
      simp at hy; subst hy
      simp only [pairsOk] at h
      split at h
      · simp only [Bool.and_eq_true] at h
        exact row_spec h.1 x (by simpa using List.mem_of_getElem? hx)
      · rename_i hb
        right
        have hk : z.kind < 2 := by
          apply Classical.byContradiction
          intro hn
          have : Nat.ble 2 z.kind = true := Nat.ble_eq_true_of_le (by omega)
          rw [this] at hb; cases hb
        have hz : z.kind = 0 ∨ z.kind = 1 := by omega
        unfold pairOk
        rcases hz with hz | hz <;> rw [hz] <;> split <;> first | rfl | (rename_i h1 h2; cases h2)

theorem chk_of {ds fs : List Done} {A0 : AW} (hg : Good P rec ops T0 X0 s0 ds.reverse) (hfs : ∀ f, f ∈ fs ↔ f ∈ ds ∧ f.kind = 1) (hst : staticOk nt ops = true) (hmap : ds.reverse.map (fun d => (d.o, d.mask)) = masksL 0 ops.toList .lf)
    (h1 : pairsOk P fs ds = true) (h2 : namesOk A0 fs ds = true) : Chk P nt ops A0 ds.reverse fs := by
  unfold namesOk at h2
  have mem : ∀ {j : Nat} {f : Done}, ds.reverse[j]? = some f → f ∈ ds := fun h => by simpa using List.mem_of_getElem? h
  have names : ∀ f ∈ ds, f.kind = 1 → A0.get f.s = none ∧ ∀ l ∈ ds, l.kind = 3 → (l.ab.testBit f.i = true ∨ l.C.get f.s = none) ∧ (l.ab'.testBit f.i = true ∨ l.C'.get f.s = none) := by
    intro f hf hk
    have := List.all_eq_true.1 h2 f ((hfs f).2 ⟨hf, hk⟩)
    simp only [Bool.and_eq_true] at this
    obtain ⟨a, b⟩ := this
    refine ⟨gone_spec a, fun l hl hk3 => ?_⟩
    have := List.all_eq_true.1 b l hl
    rw [hk3] at this
    simp only [Bool.and_eq_true, Bool.or_eq_true] at this
    exact ⟨this.1.imp id gone_spec, this.2.imp id gone_spec⟩
  have stat : ∀ (i : Nat) (d : Done), ds.reverse[i]? = some d → (masksL 0 ops.toList .lf)[i]? = some (d.o, d.mask) := fun i d h => by
    rw [← hmap, List.getElem?_map, h]; rfl
  have hap := fun i x => apart_spec' (ops := ops) (nt := nt) hst i x
  refine ⟨fun k d hd e he hb => ?_, fun k d hd => (hap k _ (stat k d hd)).2.1, fun i j x y hij hx hy => ?_, fun i j x y hij hx hy => ?_, fun j f hf hk => (names f (mem hf) hk).1, fun j f k l hf hk hl hk3 => ?_, fun f hf => ?_⟩
  · have := (hap k _ (stat k d hd)).1
    simp only [edgesOk, Nat.zero_add] at this
    have := List.all_eq_true.1 this e (by simpa using he)
    simpa [hb] using this
  · have := (hap i _ (stat i x hx)).2.2 j _ hij (stat j y hy)
    simpa using this
  · have := pairs_spec h1 i j x y hij hx hy
    rw [(hg i x hx).pos] at this
    exact this
  · have := (names f (mem hf) hk).2 l (mem hl) hk3
    rw [(hg j f hf).pos] at this
    exact this
  · have := (hfs f).1 hf
    exact ⟨by simpa using this.1, this.2⟩

structure Inv (P : Program) (rec : Rec) (nt : Nat) (ops : Array Oper) (T0 : Tr AV) (A0 : AW) (eE : Nat) (tr : List Done) (ρ0 : Rn) (w0 : World) (ds : List Deferred) (L : List Nat) (listed : Array Bool) (a : Act) (w : World) : Prop where
  nodup : L.Nodup
  lt : ∀ i ∈ L, i < tr.length
  size : listed.size = tr.length
  get : ∀ i, listed.getD i false = true ↔ i ∈ L
  closed : Closed tr L
  defers : a.defers = ds
  rest : ∃ ρ, TR ρ nt (slotsD 0 tr (fun j => decide (j ∈ L)) T0) a.tmps ∧ Sim P ρ (memL tr L (memD 0 tr (fun j => decide (j ∈ L)) (A0, 0))) w ∧
    Ext2 ρ0 w0 A0.live ρ w (memL tr L (memD 0 tr (fun j => decide (j ∈ L)) (A0, 0))) ∧
    (∀ n, A0.next ≤ n → n < eE → ρ n ≠ none → ∃ j d, j ∈ L ∧ tr[j]? = some d ∧ d.s ≤ n ∧ n < d.e) ∧
    (∀ n, ρ0 n = none → ρ n ≠ none → A0.next ≤ n ∧ n < eE) ∧
    (∀ n ao, memL tr L (memD 0 tr (fun j => decide (j ∈ L)) (A0, 0)) n = some ao → (∃ x, A0.live n = some x) ∨ (A0.next ≤ n ∧ n < eE))

theorem any_sound {A0 : AW} {eE : Nat} (hrec : RecOk P rec) (hN : Named P) {ro : Option Nat} {n : Nat} {Q : Exit → Act → World → Prop} {tr : List Done} {ρ0 : Rn} {w0 : World} {ds : List Deferred}
    (hg : Good P rec ops T0 (A0, 0) A0.next tr) {fs : List Done} (hc : Chk P nt ops A0 tr fs) (hE : ∀ (j : Nat) (d : Done), tr[j]? = some d → d.e ≤ eE) (hops : tr.map (·.o) = ops.toList)
    (hQ : ∀ a w ρ (A' : AW), a.defers = ds → TR ρ nt (slotsAll tr T0) a.tmps → A' = runA fs (2 ^ ops.size - 1) (memAll tr (A0, 0)).2 eE (memAll tr (A0, 0)).1 → Sim P ρ A'.live w → Ext ρ0 w0 A0 ρ w A' → Q .normal a w) (hE0 : A0.next ≤ eE) :
    ∀ (fuel : Nat) (L : List Nat) (listed : Array Bool) (a : Act) (w : World), Inv P rec nt ops T0 A0 eE tr ρ0 w0 ds L listed a w → L.length + fuel = tr.length →
      wpAnyIn (Fw ro) n P .any ops Q fuel listed a w := by
  have hsize : ops.size = tr.length := by rw [← Array.length_toList, ← hops, List.length_map]
  have hopd : ∀ (i : Nat) (d : Done), tr[i]? = some d → ops[i]? = some d.o := fun i d h => (hg i d h).op
  have loudOf : ∀ {x y : Done}, pairOk P fs x y = true → x.kind = 3 → y.kind = 3 → False := fun {x y} hp h1 h2 => by
    simp only [pairOk] at hp
    rw [h1, h2] at hp; simp at hp
  -- a new block that the chain's memory doesn't hold
  have hgone : ∀ (k j : Nat) (f : Done), tr[j]? = some f → f.kind = 1 → (memAll (tr.take k) (A0, 0)).2.testBit j = false → (memAll (tr.take k) (A0, 0)).1.live f.s = none := by
    intro k j f hf hk hb
    have none_live : ∀ {A : AW} {n : Nat}, A.get n = none → A.live n = none := fun h => by unfold AW.live; rw [h]
    rcases chain_cases (X0 := (A0, 0)) tr k with h | ⟨i, l, _, h2, h3, h4⟩
    · rw [h]; exact none_live (hc.start j f hf hk)
    · rw [h4] at hb ⊢
      rcases (hc.loud j f i l hf hk h2 h3).2 with h5 | h5
      · simp only at hb; rw [hb] at h5; cases h5
      · exact none_live h5
  -- all is listed: the end
  have hend : ∀ (L : List Nat) (listed : Array Bool) (a : Act) (w : World), Inv P rec nt ops T0 A0 eE tr ρ0 w0 ds L listed a w → (∀ i, i < tr.length → i ∈ L) → Q .normal a w := by
    intro L listed a w h hall
    obtain ⟨ρ, h1, h2, h3, h4, h5, h6⟩ := h.rest
    have hm : memD 0 tr (fun j => decide (j ∈ L)) (A0, 0) = memAll (tr.take tr.length) (A0, 0) := by
      rw [← memD_lt tr 0 tr.length (A0, 0)]
      refine memD_eq tr 0 _ _ _ fun j d hd _ => ?_
      have hj := (List.getElem?_eq_some_iff.1 hd).1
      simp [hall j hj, hj]
    rw [hm] at h2 h3 h6
    have hsub : ∀ m ao, (runA fs (2 ^ ops.size - 1) (memAll tr (A0, 0)).2 eE (memAll tr (A0, 0)).1).live m = some ao → memL tr L (memAll (tr.take tr.length) (A0, 0)) m = some ao := by
      intro m ao hm'
      rw [List.take_length]
      rcases runA_get hm' with ⟨f, f1, f3, f4, f5, f6⟩ | hl
      · obtain ⟨f1, f2⟩ := hc.fresh f f1
        obtain ⟨j, hj⟩ := List.mem_iff_getElem?.1 f1
        have hfi := (hg j f hj).pos
        rw [hfi] at f4
        exact memL_pend hg ⟨j, f, hall j (List.getElem?_eq_some_iff.1 hj).1, hj, f2, f4, f5, f6⟩
      · rw [memL_not]
        · exact hl
        · rintro ⟨ao', j, f, g1, g2, g3, g4, g5, g6⟩
          have := hgone tr.length j f g2 g3 (by rw [List.take_length]; exact g4)
          rw [List.take_length, g5] at this
          rw [this] at hl; cases hl
    refine hQ a w ρ _ h.defers (h1.congr fun t => ?_) rfl (h2.part hsub) ?_
    · have e := slotsD_lt tr 0 tr.length T0 t
      rw [List.take_length] at e
      rw [← e]
      refine slotsD_get tr 0 _ _ T0 T0 t rfl fun j d hd _ => ?_
      have hj := (List.getElem?_eq_some_iff.1 hd).1
      simp [hall j hj, hj]
    · have k := h3.part hsub
      exact ⟨k.sub, h5, hE0, fun m ao hm' => h6 m ao (hsub m ao hm'), k.back, k.keep, k.size, k.os, k.tape, k.output⟩
  -- nothing is ready: all is listed
  have hnone : ∀ (L : List Nat) (listed : Array Bool) (a : Act) (w : World), Inv P rec nt ops T0 A0 eE tr ρ0 w0 ds L listed a w → Region.ready .any ops listed = [] → ∀ i, i < tr.length → i ∈ L := by
    intro L listed a w h hr i
    induction i using Nat.strongRecOn with
    | _ i ih =>
      intro hi
      apply Classical.byContradiction
      intro hn
      have hd : tr[i]? = some (tr[i]'hi) := List.getElem?_eq_getElem hi
      generalize tr[i]'hi = d at hd
      have : i ∈ Region.ready .any ops listed := by
        rw [mem_ready]
        refine ⟨?_, d.o, hopd i d hd, fun e he hb => (h.get _).2 (ih e.on (hc.edges i d hd e he hb) (by have := hc.edges i d hd e he hb; omega))⟩
        have hf : ¬ listed.getD i false = true := fun e => hn ((h.get i).1 e)
        have hlt : i < listed.size := by rw [h.size]; exact hi
        simp [hlt] at hf ⊢
        exact hf
      rw [hr] at this; cases this
  intro fuel
  induction fuel with
  | zero =>
    intro L listed a w h hl
    have hall : ∀ i, i < tr.length → i ∈ L := fun i hi => nodup_full h.nodup h.lt (by omega) i hi
    refine ⟨?_, hend L listed a w h hall⟩
    rw [List.eq_nil_iff_forall_not_mem]
    intro j hj
    obtain ⟨h0, o, ho, _⟩ := mem_ready.1 hj
    have hj2 : j < tr.length := by rw [← hsize]; exact (Array.getElem?_eq_some_iff.1 ho).1
    have h1 := (h.get j).2 (hall j hj2)
    have hlt : j < listed.size := by rw [h.size]; exact hj2
    simp [hlt] at h0 h1
    rw [h1] at h0; cases h0
  | succ fuel ih =>
    intro L listed a w h hl
    refine ⟨fun hr => hend L listed a w h (hnone L listed a w h hr), fun i hi => ?_⟩
    obtain ⟨h0, o, ho, hedge⟩ := mem_ready.1 hi
    have hilt : i < tr.length := by rw [← hsize]; exact (Array.getElem?_eq_some_iff.1 ho).1
    have hd : tr[i]? = some (tr[i]'hilt) := List.getElem?_eq_getElem hilt
    generalize tr[i]'hilt = d at hd
    have hdo : o = d.o := by have := hopd i d hd; rw [ho] at this; exact Option.some.inj this
    subst hdo
    have hin : i ∉ L := fun hm => by
      have h1 := (h.get i).2 hm
      have hlt : i < listed.size := by rw [h.size]; exact hilt
      simp [hlt] at h0 h1
      rw [h1] at h0; cases h0
    have hgd := hg i d hd
    have hedge' : ∀ e ∈ d.o.after, Region.binds .any e = true → e.on ∈ L := fun e he hb => (h.get _).1 (hedge e he hb)
    have F1 : ∀ j, d.mask.testBit j = true → j ∈ L := closed_mask hg hc.edges h.closed i d hd hedge'
    -- one that is listed and stands behind i
    have F2 : ∀ j dj, j ∈ L → tr[j]? = some dj → i < j → d.o.apart ops dj.o = true ∧ pairOk P fs d dj = true := fun j dj hj hdj hij => by
      have hnb : ¬ dj.mask.testBit i = true := fun hb => hin (closed_mask hg hc.edges h.closed j dj hdj (h.closed j hj dj hdj) i hb)
      exact ⟨(hc.apart i j d dj hij hd hdj).resolve_left hnb, (hc.pair i j d dj hij hd hdj).resolve_left hnb⟩
    -- one that is not listed and stands ahead of i
    have F3 : ∀ j dj, j ∉ L → tr[j]? = some dj → j < i → dj.o.apart ops d.o = true ∧ pairOk P fs dj d = true := fun j dj hj hdj hij => by
      have hnb : ¬ d.mask.testBit j = true := fun hb => hj (F1 j hb)
      exact ⟨(hc.apart j i dj d hij hdj hd).resolve_left hnb, (hc.pair j i dj d hij hdj hd).resolve_left hnb⟩
    obtain ⟨ρ, h1, h2, h3, h4, h5, h6⟩ := h.rest
    -- the slots that it looks at
    have hslot : ∀ t, t ∈ d.o.looksAt ops → (slotsD 0 tr (fun j => decide (j ∈ L)) T0).get t = d.T.get t := by
      intro t ht
      rw [hgd.slots, ← slotsD_lt tr 0 i T0 t]
      refine slotsD_get tr 0 _ _ T0 T0 t rfl fun j dj hdj hdst => ?_
      have : j ∈ L ↔ j < i := by
        constructor
        · intro hj
          rcases Nat.lt_trichotomy j i with h' | rfl | h'
          · exact h'
          · exact absurd hj hin
          · exact absurd ht ((Oper.apart_spec (F2 j dj hj hdj h').1).2.2 t hdst)
        · intro hj
          apply Classical.byContradiction
          intro hn
          exact absurd ht ((Oper.apart_spec (F3 j dj hn hdj hj).1).1 t hdst)
      simp [this]
    have hopd' : ∀ x ∈ d.o.op.operands.toList, VR ρ (Ab.ev d.T x) (a.eval x) := by
      intro x hx
      cases x with
      | tmp t =>
        have ht : t ∈ d.o.looksAt ops := List.mem_append_left _ (List.mem_filterMap.2 ⟨.tmp t, hx, rfl⟩)
        have := h1.2 t
        rw [hslot t ht] at this
        exact this
      | const v => exact VR.fromV v
      | global g => exact .flat _
      | func f => exact VR.fn f .nil .nil
    have hwant : Region.wanted d.o (yielded ops a.tmps) = d.want := by
      refine want_sound' (T := d.T) (ρ := ρ) (fun j w hgu t ht => ?_) hgd.want
      have htl : t ∈ d.o.looksAt ops := List.mem_append_right _ (by rw [hgu]; simp [ht])
      have := h1.2 t
      rw [hslot t htl] at this
      exact this
    -- the slots behind it
    have hslot' : ∀ t, (slotsD 0 tr (fun j => decide (j ∈ i :: L)) T0).get t = (setT (slotsD 0 tr (fun j => decide (j ∈ L)) T0) d.o.dst d.v).get t := by
      intro t
      rw [setT_get]
      by_cases hdt : d.o.dst = some t
      · rw [if_pos hdt]
        refine slotsD_last tr 0 i _ T0 t d hd hdt (by simp) fun j dj hij hdj hdst => ?_
        have : j ∉ L := fun hj => (Oper.apart_spec (F2 j dj hj hdj hij).1).2.1 t hdt hdst
        simp [this]; omega
      · rw [if_neg hdt]
        refine slotsD_get tr 0 _ _ T0 T0 t rfl fun j dj hdj hdst => ?_
        have : j ≠ i := by rintro rfl; rw [hd] at hdj; cases hdj; exact hdt hdst
        simp [this]
    have hclosed' : Closed tr (i :: L) := by
      intro j hj dj hdj e he hb
      rcases List.mem_cons.1 hj with rfl | hj
      · rw [hd] at hdj; cases hdj
        exact List.mem_cons_of_mem _ (hedge' e he hb)
      · exact List.mem_cons_of_mem _ (h.closed j hj dj hdj e he hb)
    have hget' : ∀ j, (listed.setIfInBounds i true).getD j false = true ↔ j ∈ i :: L := by
      intro j
      by_cases hji : i = j
      · subst hji
        have hlt : i < listed.size := by rw [h.size]; exact hilt
        simp [hlt]
      · rw [getD_set_ne false hji, h.get j]
        simp [Ne.symm hji]
    -- which calls have been: a beginning of them
    obtain ⟨k, hk1, hk2, hk3⟩ := least (fun j => ∃ dj, tr[j]? = some dj ∧ dj.kind = 3 ∧ j ∉ L) tr.length
    have hlouds : ∀ j dj, tr[j]? = some dj → dj.kind = 3 → (j ∈ L ↔ j < k) := by
      intro j dj hdj hlj
      constructor
      · intro hj
        apply Classical.byContradiction
        intro hn
        have hjl := (List.getElem?_eq_some_iff.1 hdj).1
        rcases hk3 with rfl | ⟨dk, e1, e2, e3⟩
        · omega
        · have hkj : k < j := by
            rcases Nat.lt_trichotomy j k with h' | rfl | h'
            · exact absurd h' hn
            · exact absurd hj e3
            · exact h'
          rcases hc.pair k j dk dj hkj e1 hdj with hb | hb
          · exact e3 (closed_mask hg hc.edges h.closed j dj hdj (h.closed j hj dj hdj) k hb)
          · exact loudOf hb e2 hlj
      · intro hj
        apply Classical.byContradiction
        intro hn
        exact hk2 j hj ⟨dj, hdj, hlj, hn⟩
    have hM : memD 0 tr (fun j => decide (j ∈ L)) (A0, 0) = memAll (tr.take k) (A0, 0) := by
      rw [← memD_lt tr 0 k (A0, 0)]
      refine memD_eq tr 0 _ _ _ fun j dj hdj hlj => ?_
      have := hlouds j dj hdj hlj
      simp [this]
    generalize hX : memD 0 tr (fun j => decide (j ∈ L)) (A0, 0) = X at h2 h3 h6 hM
    -- a part of the memory
    have hpart : ∀ (m s' : Nat), (∀ j, m.testBit j = true → j ∈ L) → ∀ (all : List Done), (∀ f ∈ all, f ∈ tr ∧ f.kind = 1) → ∀ n' ao, (runA all m X.2 s' X.1).live n' = some ao → memL tr L X n' = some ao := by
      intro m s' hm all hall n' ao hl'
      rcases runA_get hl' with ⟨f, f1, f3, f4, f5, f6⟩ | hl'
      · obtain ⟨f1, f2⟩ := hall f f1
        obtain ⟨j, hj⟩ := List.mem_iff_getElem?.1 f1
        have hfi := (hg j f hj).pos
        rw [hfi] at f3 f4
        exact memL_pend hg ⟨j, f, hm j f3, hj, f2, f4, f5, f6⟩
      · rw [memL_not]
        · exact hl'
        · rintro ⟨ao', j, f, g1, g2, g3, g4, g5, g6⟩
          rw [hM] at g4 hl'
          have := hgone k j f g2 g3 g4
          rw [g5] at this
          rw [this] at hl'; cases hl'
    have hname : ∀ n', d.s ≤ n' → n' < d.e → ρ n' = none := by
      intro n' a1 a2
      cases hr : ρ n' with
      | none => rfl
      | some c =>
        obtain ⟨j, dj, j1, j2, j3, j4⟩ := h4 n' (by have := hgd.names.1; omega) (by have := hE i d hd; omega) (by rw [hr]; simp)
        have := same_name hg hd j2 (n := n') ⟨a1, a2⟩ ⟨j3, j4⟩
        subst this
        exact absurd j1 hin
    -- the next one
    have hnext : ∀ x ρ' w', VR ρ' d.v x → Sim P ρ' (memL tr (i :: L) (memD 0 tr (fun j => decide (j ∈ i :: L)) (A0, 0))) w' → Ext2 ρ w (memL tr L X) ρ' w' (memL tr (i :: L) (memD 0 tr (fun j => decide (j ∈ i :: L)) (A0, 0))) →
        (∀ n', ρ n' = none → ρ' n' ≠ none → d.s ≤ n' ∧ n' < d.e) → (∀ n' ao, memL tr (i :: L) (memD 0 tr (fun j => decide (j ∈ i :: L)) (A0, 0)) n' = some ao → (∃ x, memL tr L X n' = some x) ∨ (d.s ≤ n' ∧ n' < d.e)) →
        wpAnyIn (Fw ro) n P .any ops Q fuel (listed.setIfInBounds i true) (a.put d.o.dst x) w' := by
      intro x ρ' w' hx hs' he hnew hdom
      have hs0 := hgd.names.1
      have hde := hE i d hd
      refine ih (i :: L) _ _ _ ⟨List.nodup_cons.2 ⟨hin, h.nodup⟩, ?_, by rw [Array.size_setIfInBounds]; exact h.size, hget', hclosed', (put_defers _ _ _).trans h.defers, ρ', ?_, hs', h3.trans he, ?_, ?_, ?_⟩ (by simp only [List.length_cons]; omega)
      · intro j hj
        rcases List.mem_cons.1 hj with rfl | hj
        · exact hilt
        · exact h.lt j hj
      · exact ((h1.mono he.sub).put (hc.dst i d hd) hx).congr hslot'
      · intro n' a1 a2 a3
        cases hr : ρ n' with
        | none => have := hnew n' hr a3; exact ⟨i, d, by simp, hd, this.1, this.2⟩
        | some c =>
          obtain ⟨j, dj, j1, j2⟩ := h4 n' a1 a2 (by rw [hr]; simp)
          exact ⟨j, dj, by simp [j1], j2⟩
      · intro n' a1 a2
        cases hr : ρ n' with
        | none => have := hnew n' hr a2; omega
        | some c => exact h5 n' a1 (by rw [hr]; simp)
      · intro n' ao hao
        rcases hdom n' ao hao with ⟨x, hx⟩ | hx
        · exact h6 n' x hx
        · exact .inr (by omega)
    -- nothing new, nothing turned
    have hstay : d.kind ≠ 1 → d.kind ≠ 3 → ∀ x, VR ρ d.v x → wpAnyIn (Fw ro) n P .any ops Q fuel (listed.setIfInBounds i true) (a.put d.o.dst x) w := by
      intro hk1' hk3' x hx
      have hX' : memD 0 tr (fun j => decide (j ∈ i :: L)) (A0, 0) = X := by
        rw [← hX]
        refine memD_eq tr 0 _ _ _ fun j dj hdj hlj => ?_
        have : j ≠ i := by rintro rfl; rw [hd] at hdj; cases hdj; exact hk3' hlj
        simp [this]
      have hsub : ∀ n' ao, memL tr (i :: L) (memD 0 tr (fun j => decide (j ∈ i :: L)) (A0, 0)) n' = some ao → memL tr L X n' = some ao := by
        rw [hX']
        have hpe : ∀ n' ao, Pend tr (i :: L) X.2 n' ao → Pend tr L X.2 n' ao := by
          rintro n' ao ⟨j, f, g1, g2, g3, g4⟩
          rcases List.mem_cons.1 g1 with rfl | g1
          · rw [hd] at g2; cases g2; exact absurd g3 hk1'
          · exact ⟨j, f, g1, g2, g3, g4⟩
        intro n' ao hao
        rcases memL_cases hg hao with hp | ⟨hp, hl'⟩
        · exact memL_pend hg (hpe n' ao hp)
        · rw [memL_not]
          · exact hl'
          · rintro ⟨ao', j, f, g1, g2⟩
            exact hp ⟨ao', j, f, by simp [g1], g2⟩
      exact hnext x ρ w hx (h2.part hsub) ((Ext2.refl ρ w _).part hsub) (fun _ e k => absurd e k) (fun n' ao hao => .inl ⟨ao, hsub n' ao hao⟩)
    unfold wpOpIn
    rw [ho]
    simp only
    rw [hwant]
    cases hwt : d.want with
    | false =>
      simp only [Bool.false_eq_true, if_false]
      obtain ⟨z1, z2⟩ := hgd.off hwt
      refine ⟨skip_about, hstay (by rw [z1]; decide) (by rw [z1]; decide) undef ?_⟩
      rw [z2]; exact .flat _
    | true =>
      simp only [if_true]
      have hw0 := hgd.want
      rw [hwt] at hw0
      have hempty : ∀ s', Sim P ρ (⟨.lf, s'⟩ : AW).live w := fun s' => h2.part fun n' ao hl' => by simp [AW.live, AW.get, Tr.get_lf] at hl'
      rcases hgd.kinds with hkd | hkd | hkd | hkd
      · exact val_wp (hempty d.s) hN (hgd.on0 hwt hkd) hopd' fun x hx => hstay (by rw [hkd]; decide) (by rw [hkd]; decide) x hx
      · -- a new block
        obtain ⟨-, hop, hee, hnd⟩ := hgd.on1 hkd
        refine ⟨fun _ _ => trivial, ?_⟩
        rw [sem_of hop (by intros; simp)]
        obtain ⟨x, obj, w', room, gv, pu, kk⟩ := op_sound (hempty d.s) hN hop hopd'
        have hfr : ρ d.s = none := hname d.s (Nat.le_refl _) (by omega)
        obtain ⟨k1, k2⟩ := kk (upd ρ d.s ⟨w.heap.size, 0, room⟩) (upd_sub hfr) upd_at
        have hX' : memD 0 tr (fun j => decide (j ∈ i :: L)) (A0, 0) = X := by
          rw [← hX]
          refine memD_eq tr 0 _ _ _ fun j dj hdj hlj => ?_
          have : j ≠ i := by rintro rfl; rw [hd] at hdj; cases hdj; rw [hkd] at hlj; cases hlj
          simp [this]
        have habs : ∀ j, X.2.testBit j = true → j ∈ L := by
          rw [hM]
          -- each bit is of what a listed call waits for
          have key : ∀ m, m ≤ k → ∀ j, (memAll (tr.take m) (A0, 0)).2.testBit j = true → j ∈ L := by
            intro m
            induction m with
            | zero => intro _ j hj; simp [memAll] at hj
            | succ m ihm =>
              intro hmk j hj
              cases hdm : tr[m]? with
              | none =>
                rw [List.getElem?_eq_none_iff] at hdm
                have : tr.take (m + 1) = tr.take m := by rw [List.take_of_length_le (by omega), List.take_of_length_le hdm]
                rw [this] at hj
                exact ihm (by omega) j hj
              | some dm =>
                rw [memAll_succ hdm] at hj
                by_cases hkm : dm.kind = 3
                · rw [nxt_loud hkm] at hj
                  simp only at hj
                  obtain ⟨-, _, -, -, -, q4⟩ := (hg m dm hdm).on3 hkm
                  rw [q4, Nat.testBit_or, Bool.or_eq_true] at hj
                  rcases hj with hj | hj
                  · have := (hg m dm hdm).mem
                    rw [show dm.ab = (memAll (tr.take m) (A0, 0)).2 by rw [← this]] at hj
                    exact ihm (by omega) j hj
                  · have hmL : m ∈ L := (hlouds m dm hdm hkm).2 (by omega)
                    exact closed_mask hg hc.edges h.closed m dm hdm (h.closed m hmL dm hdm) j hj
                · rw [nxt_quiet hkm] at hj
                  exact ihm (by omega) j hj
          exact key k (Nat.le_refl _)
        have hgn : X.1.live d.s = none := by
          have hb : X.2.testBit i = false := by
            cases hb : X.2.testBit i with
            | false => rfl
            | true => exact absurd (habs i hb) hin
          rw [hM] at hb ⊢
          exact hgone k i d hd hkd hb
        have hH : ∀ n' am, memL tr (i :: L) (memD 0 tr (fun j => decide (j ∈ i :: L)) (A0, 0)) n' = some am → (n' = d.s ∧ am = d.ob) ∨ (n' ≠ d.s ∧ memL tr L X n' = some am) := by
          rw [hX']
          intro n' am ham
          rcases memL_cases hg ham with ⟨j, f, g1, g2, g3, g4, g5, g6⟩ | ⟨hp, hl'⟩
          · rcases List.mem_cons.1 g1 with rfl | g1
            · rw [hd] at g2; cases g2
              exact .inl ⟨g5.symm, g6.symm⟩
            · refine .inr ⟨?_, memL_pend hg ⟨j, f, g1, g2, g3, g4, g5, g6⟩⟩
              rintro rfl
              have e1 := ((hg j f g2).on1 g3).2.2.1
              have := same_name hg hd g2 (n := d.s) (by omega) (by omega)
              subst this
              exact hin g1
          · refine .inr ⟨?_, ?_⟩
            · rintro rfl
              rw [hgn] at hl'; cases hl'
            · rw [memL_not]
              · exact hl'
              · rintro ⟨ao', j, f, g1, g2⟩
                exact hp ⟨ao', j, f, by simp [g1], g2⟩
        obtain ⟨s1, s2⟩ := h2.pushAt pu hfr k2 _ hH
        refine gives_upon gv (hnext x _ w' k1 s1 s2 ?_ ?_)
        · intro n' e1 e2
          by_cases hq : n' = d.s
          · omega
          · simp only [upd, if_neg hq] at e2; exact absurd e1 e2
        · intro n' ao hao
          rcases hH n' ao hao with ⟨rfl, _⟩ | ⟨_, hh⟩
          · exact .inr (by omega)
          · exact .inl ⟨_, hh⟩
      · -- it reads
        obtain ⟨-, fs2, M, hfs2, hst⟩ := hgd.on2 hkd
        have hq := quiet_step hst hw0
        have hval : ∃ B : AW, (∀ n' ao, B.live n' = some ao → memL tr L X n' = some ao) ∧ opA P d.T B d.o = some (.val d.v) := by
          have hall : ∀ f ∈ fs, f ∈ tr ∧ f.kind = 1 := hc.fresh
          have hallk : ∀ f ∈ fs2, f ∈ tr ∧ f.kind = 1 := fun f hf => ⟨List.mem_of_mem_take (hfs2 f hf).1, (hfs2 f hf).2⟩
          by_cases hki : k < i
          · rcases hk3 with rfl | ⟨dk, e1, e2, e3⟩
            · omega
            · have hp := (F3 k dk e3 e1 hki).2
              simp only [pairOk] at hp
              rw [e2, hkd] at hp
              simp only [Bool.and_eq_true] at hp
              have hmem := (hg k dk e1).mem
              rw [← hM] at hmem
              refine ⟨_, ?_, again_spec hp.1⟩
              rw [show dk.ab = X.2 by rw [← hmem], show dk.C = X.1 by rw [← hmem]]
              exact hpart d.mask d.s F1 _ hall
          · obtain ⟨m, m1, m2, m3, m4⟩ := lastBelow (fun j => ∃ dj, tr[j]? = some dj ∧ dj.kind = 3) i k (by omega)
            have hmk : memAll (tr.take k) (A0, 0) = memAll (tr.take m) (A0, 0) := by
              rw [← memD_lt tr 0 k (A0, 0), ← memD_lt tr 0 m (A0, 0)]
              refine memD_eq tr 0 _ _ _ fun j dj hdj hlj => ?_
              have : j < k ↔ j < m := by
                constructor
                · intro hj
                  apply Classical.byContradiction
                  intro hn
                  exact m3 j (by omega) hj ⟨dj, hdj, hlj⟩
                · intro hj; omega
              simp [this]
            rcases m4 with rfl | ⟨l, rfl, hil, dl, e1, e2⟩
            · have hmem := hgd.mem
              rw [← hmk, ← hM] at hmem
              refine ⟨_, ?_, hq⟩
              rw [show d.ab = X.2 by rw [← hmem], show d.C = X.1 by rw [← hmem]]
              exact hpart d.mask d.s F1 _ hallk
            · have hli : i < l := by
                rcases Nat.eq_or_lt_of_le hil with rfl | h'
                · rw [hd] at e1; cases e1; rw [hkd] at e2; cases e2
                · exact h'
              have hlL : l ∈ L := (hlouds l dl e1 e2).2 (by omega)
              have hp := (F2 l dl hlL e1 hli).2
              simp only [pairOk] at hp
              rw [e2, hkd] at hp
              simp only [Bool.and_eq_true] at hp
              have hmem : X = (dl.C', dl.ab') := by rw [hM, hmk, memAll_succ e1, nxt_loud e2]
              refine ⟨_, ?_, again_spec hp.2⟩
              rw [show dl.ab' = X.2 by rw [hmem], show dl.C' = X.1 by rw [hmem]]
              exact hpart d.mask d.s F1 _ hall
        obtain ⟨B, hB, hop⟩ := hval
        exact val_wp (h2.part hB) hN hop hopd' fun x hx => hstay (by rw [hkd]; decide) (by rw [hkd]; decide) x hx
      · -- any other
        obtain ⟨-, fs2, hfs2, hst, hee, hab⟩ := hgd.on3 hkd
        have hXd : X = (d.C, d.ab) := by
          rw [hgd.mem, hM, ← memD_lt tr 0 k (A0, 0), ← memD_lt tr 0 i (A0, 0)]
          refine memD_eq tr 0 _ _ _ fun j dj hdj hlj => ?_
          have : j < k ↔ j < i := by
            rw [← hlouds j dj hdj hlj]
            constructor
            · intro hj
              rcases Nat.lt_trichotomy j i with h' | rfl | h'
              · exact h'
              · exact absurd hj hin
              · exact (loudOf (F2 j dj hj hdj h').2 hkd hlj).elim
            · intro hj
              apply Classical.byContradiction
              intro hn
              exact (loudOf (F3 j dj hn hdj hj).2 hlj hkd).elim
          simp [this]
        have hX' : memD 0 tr (fun j => decide (j ∈ i :: L)) (A0, 0) = (d.C', d.ab') := by
          have e1 := memAll_succ (X0 := (A0, 0)) hd
          rw [nxt_loud hkd] at e1
          rw [← e1, ← memD_lt tr 0 (i + 1) (A0, 0)]
          refine memD_eq tr 0 _ _ _ fun j dj hdj hlj => ?_
          have : j ∈ i :: L ↔ j < i + 1 := by
            constructor
            · intro hj
              rcases List.mem_cons.1 hj with rfl | hj
              · omega
              rcases Nat.lt_trichotomy j i with h' | rfl | h'
              · omega
              · omega
              · exact (loudOf (F2 j dj hj hdj h').2 hkd hlj).elim
            · intro hj
              apply Classical.byContradiction
              intro hn
              have h1 : j ≠ i := by rintro rfl; exact hn (by simp)
              have h2 : j ∉ L := fun hm => hn (by simp [hm])
              exact (loudOf (F3 j dj h2 hdj (by omega)).2 hlj hkd).elim
          simp only [Nat.zero_add]
          exact decide_eq_decide.2 this
        have hallk : ∀ f ∈ fs2, f ∈ tr ∧ f.kind = 1 := fun f hf => ⟨List.mem_of_mem_take (hfs2 f hf).1, (hfs2 f hf).2⟩
        have hp1 := hpart d.mask d.s F1 _ hallk
        rw [show X.2 = d.ab by rw [hXd], show X.1 = d.C by rw [hXd]] at hp1
        have hfr : Free ρ (runA fs2 d.mask d.ab d.s d.C).next d.C'.next := fun n' a1 a2 => hname n' a1 (by rw [hee]; exact a2)
        refine step_wp hrec (h2.part hp1) hN hst hw0 hfr hopd' fun x ρ' w' k1 k2 k3 => ?_
        have none_live : ∀ {A : AW} {n : Nat}, A.get n = none → A.live n = none := fun h => by unfold AW.live; rw [h]
        have hH : ∀ n' ao, memL tr (i :: L) (memD 0 tr (fun j => decide (j ∈ i :: L)) (A0, 0)) n' = some ao → d.C'.live n' = some ao ∨ (d.C'.live n' = none ∧ (runA fs2 d.mask d.ab d.s d.C).live n' = none ∧ memL tr L X n' = some ao) := by
          rw [hX']
          intro n' ao hao
          rcases memL_cases hg hao with ⟨j, f, g1, g2, g3, g4, g5, g6⟩ | ⟨_, hl'⟩
          · simp only at g4
            rw [hab, Nat.testBit_or, Bool.or_eq_false_iff] at g4
            have hjL : j ∈ L := by
              rcases List.mem_cons.1 g1 with rfl | g1
              · rw [hd] at g2; cases g2; rw [hkd] at g3; cases g3
              · exact g1
            have q := hc.loud j f i d g2 g3 hd hkd
            refine .inr ⟨?_, ?_, memL_pend hg ⟨j, f, hjL, g2, g3, by rw [hXd]; exact g4.1, g5, g6⟩⟩
            · rcases q.2 with q | q
              · rw [hab, Nat.testBit_or, g4.1, g4.2] at q; cases q
              · rw [← g5]; exact none_live q
            · cases hr : (runA fs2 d.mask d.ab d.s d.C).live n' with
              | none => rfl
              | some ao' =>
                rcases runA_get hr with ⟨f', f1, f3, f4, f5, f6⟩ | hl'
                · obtain ⟨f1, f2⟩ := hallk f' f1
                  obtain ⟨j', hj'⟩ := List.mem_iff_getElem?.1 f1
                  have e1 := ((hg j f g2).on1 g3).2.2.1
                  have e2 := ((hg j' f' hj').on1 f2).2.2.1
                  have := same_name hg g2 hj' (n := n') (by omega) (by omega)
                  subst this
                  rw [(hg j f' hj').pos] at f3
                  rw [f3] at g4; cases g4.2
                · rcases q.1 with q | q
                  · rw [g4.1] at q; cases q
                  · rw [← g5, none_live q] at hl'; cases hl'
          · exact .inl hl'
        obtain ⟨s1, s2⟩ := frame_rule h2 hp1 k2 k3 _ hH
        refine hnext x ρ' w' k1 s1 s2 (fun n' e1 e2 => ?_) (fun n' ao hao => ?_)
        · have := k3.fresh n' e1 e2
          simp only [runA] at this
          rw [hee]; exact this
        · rcases hH n' ao hao with hh | ⟨_, _, hh⟩
          · rcases k3.dom n' ao hh with ⟨ao', q⟩ | q
            · exact .inl ⟨_, hp1 n' ao' q⟩
            · simp only [runA] at q
              exact .inr (by rw [hee]; exact q)
          · exact .inl ⟨_, hh⟩

theorem draw_next {T T' : Tr AV} {A A' : AW} (h : drawA P rec nt ops T A = some (T', A')) : A.next ≤ A'.next := by
  unfold drawA at h
  split at h
  · split at h
    · cases h
    · rename_i r ht
      obtain ⟨ds, fs, T1, C, ab, s⟩ := r
      obtain ⟨-, -, -, -, -, h6, -⟩ := draw_trace (T0 := T) (X0 := (A, 0)) (s0 := A.next) ops.toList 0 .lf [] [] T A 0 A.next ds fs T1 C ab s ht (fun k d hd => by simp at hd) rfl (fun k => by simp [Tr.get_lf]) rfl rfl rfl (fun d hd => by cases hd) (Nat.le_refl _) (fun f => by simp)
      simp only [endA] at h
      split at h
      · cases h; exact h6
      · cases h
  · cases h

/-- a region, in whatever order -/
theorem region_sound (hm : P.follows .mixedOrders = true) (hrec : RecOk P rec) (hN : Named P) {ro : Option Nat} {n id : Nat} {rnd draw : Bool} (hro : rnd = false → ro = none) {T T' : Tr AV} {A A' : AW} {xs : List Def} {ρ : Rn} {w : World} {a : Act}
    (h : regionA P rec nt rnd ops draw T A = some (T', A', xs)) (hs : Sim P ρ A.live w) (hf : Free ρ A.next A'.next) (ht : TR ρ nt T a.tmps) :
    (Code.region id ops draw).wpIn (Fw ro) n P (fun e a' w' => e = .normal ∧ ∃ ρ' nd, a'.defers = nd ++ a.defers ∧ DefsR ρ' xs nd ∧ TR ρ' nt T' a'.tmps ∧ Sim P ρ' A'.live w' ∧ Ext ρ w A ρ' w' A') a w := by
  cases draw with
  | false =>
    refine wpIn_region ?_
    rw [List.range_eq_range', ← Array.length_toList]
    exact ops_sound hrec hN hro ops.toList 0 T A T' A' xs ρ w a h rfl hs hf ht fun a' w' ρ' nd d1 d2 d3 d4 d5 => ⟨rfl, ρ', nd, d1, d2, d3, d4, d5⟩
  | true =>
    simp only [regionA] at h
    split at h
    · rename_i T2 A2 hd
      cases h
      unfold drawA at hd
      split at hd
      case h_2 => cases hd
      rename_i hst
      split at hd
      · cases hd
      rename_i r htr
      obtain ⟨ds, fs, T1, C, ab, s⟩ := r
      simp only [endA] at hd
      obtain ⟨hg, hops, hT, hC, hE, hE0, hfs, hmap⟩ := draw_trace (T0 := T) (X0 := (A, 0)) (s0 := A.next) ops.toList 0 .lf [] [] T A 0 A.next ds fs T1 C ab s htr (fun k d hd => by simp at hd) rfl (fun k => by simp [Tr.get_lf]) rfl rfl rfl (fun d hd => by cases hd) (Nat.le_refl _) (fun f => by simp)
      split at hd
      · rename_i hck
        simp only [Bool.and_eq_true] at hck
        cases hd
        have hc := chk_of hg hfs hst (by simpa using hmap) hck.1 hck.2
        have hsize : ops.size = ds.reverse.length := by rw [← Array.length_toList, ← hops, List.length_map]
        have hfree : Free ρ A.next s := hf
        refine wpIn_region_any hm ?_
        refine any_sound (ρ0 := ρ) (w0 := w) (ds := a.defers) (eE := s) hrec hN hg hc (fun j d hd => hE d (by simpa using List.mem_of_getElem? hd)) hops (fun a' w' ρ' A1 d1 d2 d3 d4 d5 => ?_) hE0 ops.size [] _ a _
          ⟨List.nodup_nil, (fun i hi => by cases hi), (by simp [hsize]), fun i => ?_, (fun i hi => by cases hi), rfl, ρ, ?_, ?_, ?_, ?_, ?_, ?_⟩ (by simp [hsize])
        · rw [← hC] at d3
          subst d3
          exact ⟨rfl, ρ', [], d1, .nil, by rw [hT]; exact d2, d4, d5⟩
        · simp only [List.not_mem_nil, iff_false]
          intro hc
          by_cases hlt : i < ops.size
          · simp [hlt] at hc
          · simp [hlt] at hc
        · refine ht.congr fun t => ?_
          have := slotsD_lt ds.reverse 0 0 T t
          rw [List.take_zero] at this
          rw [show T.get t = (slotsAll [] T).get t from rfl, ← this]
          exact slotsD_get ds.reverse 0 _ _ T T t rfl fun j d _ _ => by simp
        all_goals
          have hM : memD 0 ds.reverse (fun j => decide (j ∈ ([] : List Nat))) (A, 0) = (A, 0) := by
            have := memD_lt ds.reverse 0 0 (A, 0)
            rw [List.take_zero] at this
            refine Eq.trans ?_ this
            exact memD_eq ds.reverse 0 _ _ _ fun j d _ _ => by simp
          have hsub : ∀ n' ao, memL ds.reverse [] (memD 0 ds.reverse (fun j => decide (j ∈ ([] : List Nat))) (A, 0)) n' = some ao → A.live n' = some ao := by
            rw [hM]
            intro n' ao hao
            rcases memL_cases hg hao with ⟨j, f, g1, _⟩ | ⟨_, hl⟩
            · cases g1
            · exact hl
        · exact (⟨hs.obj, hs.inj⟩ : Sim P ρ A.live { w with drawn := w.drawn + 1 }).part hsub
        · have := (Ext2.refl ρ w A.live).part hsub
          exact ⟨this.sub, this.back, this.keep, this.size, rfl, rfl, rfl⟩
        · intro n' a1 a2 a3
          exact absurd (hfree n' a1 a2) a3
        · intro n' a1 a2
          exact absurd a1 a2
        · intro n' ao hao
          exact .inl ⟨ao, hsub n' ao hao⟩
      · cases hd
    · cases h
end
end Go.Proofs.YtjhaccpljgdlpaaGreat.Ab
