/-
  Regions that draw their order.
-/
import Derived.Test.YtjhaccpljgdlpaaGreatAb15
namespace Go.Proofs.YtjhaccpljgdlpaaGreat.Ab
open Go
noncomputable section

def slotsAll (l : List Done) (T : Tr AV) : Tr AV := l.foldl (fun T d => setT T d.o.dst d.v) T
def nxt (d : Done) (X : AW × Nat) : AW × Nat := if d.kind = 3 then (d.C', d.ab') else X
def memAll (l : List Done) (X : AW × Nat) : AW × Nat := l.foldl (fun X d => nxt d X) X
def slotsD : Nat → List Done → (Nat → Bool) → Tr AV → Tr AV
  | _, [], _, T => T
  | s, d :: l, D, T => slotsD (s + 1) l D (if D s then setT T d.o.dst d.v else T)
def memD : Nat → List Done → (Nat → Bool) → AW × Nat → AW × Nat
  | _, [], _, X => X
  | s, d :: l, D, X => memD (s + 1) l D (if D s then nxt d X else X)

theorem nxt_quiet {d : Done} (h : d.kind ≠ 3) (X : AW × Nat) : nxt d X = X := if_neg h
theorem nxt_loud {d : Done} (h : d.kind = 3) (X : AW × Nat) : nxt d X = (d.C', d.ab') := if_pos h

theorem memD_eq : ∀ (l : List Done) (s : Nat) (D D' : Nat → Bool) (X : AW × Nat), (∀ j d, l[j]? = some d → d.kind = 3 → D (s + j) = D' (s + j)) → memD s l D X = memD s l D' X
  | [], _, _, _, _, _ => rfl
  | d :: l, s, D, D', X, h => by
    have h0 : (if D s = true then nxt d X else X) = (if D' s = true then nxt d X else X) := by
      by_cases hl : d.kind = 3
      · have := h 0 d rfl hl; simp at this; simp [this]
      · rw [nxt_quiet hl]; simp
    simp only [memD, h0]
    exact memD_eq l (s + 1) D D' _ fun j e he hl => by
      have := h (j + 1) e (by simpa using he) hl
      have e2 : s + 1 + j = s + (j + 1) := by omega
      rw [e2]; exact this

theorem memD_lt : ∀ (l : List Done) (s k : Nat) (X : AW × Nat), memD s l (fun j => decide (j < s + k)) X = memAll (l.take k) X
  | [], _, _, _ => by simp [memD, memAll]
  | d :: l, s, 0, X => by
    have h0 : decide (s < s + 0) = false := by simp
    simp only [memD, h0, Bool.false_eq_true, if_false, List.take_zero]
    have := memD_lt l (s + 1) 0 X
    rw [List.take_zero] at this
    rw [← this]
    exact memD_eq l (s + 1) _ _ X fun j e _ _ => by simp; omega
  | d :: l, s, k + 1, X => by
    have h0 : decide (s < s + (k + 1)) = true := by simp
    simp only [memD, h0, if_true, List.take_succ_cons, memAll, List.foldl_cons]
    have := memD_lt l (s + 1) k (nxt d X)
    simp only [memAll] at this
    rw [← this]
    have e : s + 1 + k = s + (k + 1) := by omega
    rw [e]

theorem slotsD_get : ∀ (l : List Done) (s : Nat) (D D' : Nat → Bool) (T T' : Tr AV) (t : Nat), T.get t = T'.get t → (∀ j d, l[j]? = some d → d.o.dst = some t → D (s + j) = D' (s + j)) →
    (slotsD s l D T).get t = (slotsD s l D' T').get t
  | [], _, _, _, _, _, _, e, _ => e
  | d :: l, s, D, D', T, T', t, e, h => by
    simp only [slotsD]
    refine slotsD_get l (s + 1) D D' _ _ t ?_ fun j d' he hd => by
      have := h (j + 1) d' (by simpa using he) hd
      have e2 : s + 1 + j = s + (j + 1) := by omega
      rw [e2]; exact this
    by_cases hd : d.o.dst = some t
    · have h0 := h 0 d rfl hd
      simp only [Nat.add_zero] at h0
      rw [h0]
      cases D' s <;> simp [setT_get, e]
    · cases D s <;> cases D' s <;> simp [setT_get, e, hd]

theorem slotsD_lt : ∀ (l : List Done) (s k : Nat) (T : Tr AV) (t : Nat), (slotsD s l (fun j => decide (j < s + k)) T).get t = (slotsAll (l.take k) T).get t
  | [], _, _, _, _ => by simp [slotsD, slotsAll]
  | d :: l, s, 0, T, t => by
    have h0 : decide (s < s + 0) = false := by simp
    simp only [slotsD, h0, Bool.false_eq_true, if_false, List.take_zero]
    have := slotsD_lt l (s + 1) 0 T t
    rw [List.take_zero] at this
    rw [← this]
    exact slotsD_get l (s + 1) _ _ T T t rfl fun j e _ _ => by simp; omega
  | d :: l, s, k + 1, T, t => by
    have h0 : decide (s < s + (k + 1)) = true := by simp
    simp only [slotsD, h0, if_true, List.take_succ_cons, slotsAll, List.foldl_cons]
    have := slotsD_lt l (s + 1) k (setT T d.o.dst d.v) t
    simp only [slotsAll] at this
    rw [← this]
    have e : s + 1 + k = s + (k + 1) := by omega
    rw [e]

theorem slotsD_last : ∀ (l : List Done) (s i : Nat) (D : Nat → Bool) (T : Tr AV) (t : Nat) (d : Done), l[i]? = some d → d.o.dst = some t → D (s + i) = true →
    (∀ j d', i < j → l[j]? = some d' → d'.o.dst = some t → D (s + j) = false) → (slotsD s l D T).get t = some d.v
  | [], _, _, _, _, _, _, h, _, _, _ => by simp at h
  | d0 :: l, s, 0, D, T, t, d, h, hd, hD, hj => by
    simp at h; subst h
    simp only [Nat.add_zero] at hD
    simp only [slotsD, hD, if_true]
    have : (slotsD (s + 1) l D (setT T d0.o.dst d0.v)).get t = (slotsD (s + 1) l (fun _ => false) (setT T d0.o.dst d0.v)).get t :=
      slotsD_get l (s + 1) _ _ _ _ t rfl fun j d' he hd' => by
        have := hj (j + 1) d' (by omega) (by simpa using he) hd'
        have e2 : s + 1 + j = s + (j + 1) := by omega
        rw [e2]; exact this
    rw [this]
    have nil : ∀ (l : List Done) (s : Nat) (T : Tr AV), slotsD s l (fun _ => false) T = T := by
      intro l
      induction l with
      | nil => intros; rfl
      | cons d l ih => intro s T; simp [slotsD, ih]
    rw [nil, setT_get, if_pos hd]
  | d0 :: l, s, i + 1, D, T, t, d, h, hd, hD, hj => by
    simp only [slotsD]
    have e2 : s + 1 + i = s + (i + 1) := by omega
    refine slotsD_last l (s + 1) i D _ t d (by simpa using h) hd (by rw [e2]; exact hD) fun j d' hlt he hd' => ?_
    have := hj (j + 1) d' (by omega) (by simpa using he) hd'
    have e3 : s + 1 + j = s + (j + 1) := by omega
    rw [e3]; exact this

theorem least (p : Nat → Prop) : ∀ n, ∃ k, k ≤ n ∧ (∀ j, j < k → ¬ p j) ∧ (k = n ∨ p k)
  | 0 => ⟨0, Nat.le_refl _, fun j h => absurd h (Nat.not_lt_zero _), .inl rfl⟩
  | n + 1 => by
    obtain ⟨k, h1, h2, h3⟩ := least p n
    rcases h3 with rfl | h3
    · rcases Classical.em (p k) with h | h
      · exact ⟨k, by omega, h2, .inr h⟩
      · refine ⟨k + 1, by omega, fun j hj => ?_, .inl rfl⟩
        rcases Nat.lt_succ_iff_lt_or_eq.1 hj with h' | rfl
        · exact h2 j h'
        · exact h
    · exact ⟨k, by omega, h2, .inr h3⟩

theorem lastBelow (p : Nat → Prop) (i : Nat) : ∀ k, i ≤ k → ∃ m, i ≤ m ∧ m ≤ k ∧ (∀ j, m ≤ j → j < k → ¬ p j) ∧ (m = i ∨ ∃ l, m = l + 1 ∧ i ≤ l ∧ p l) := by
  intro k hk
  induction k with
  | zero => exact ⟨0, by omega, Nat.le_refl _, fun j _ h => absurd h (Nat.not_lt_zero _), .inl (by omega)⟩
  | succ k ih =>
    rcases Nat.lt_or_ge k i with h | h
    · have : i = k + 1 := by omega
      subst this
      exact ⟨k + 1, Nat.le_refl _, Nat.le_refl _, fun j h1 h2 => absurd h2 (by omega), .inl rfl⟩
    · rcases Classical.em (p k) with hp | hp
      · exact ⟨k + 1, hk, Nat.le_refl _, fun j h1 h2 => absurd h2 (by omega), .inr ⟨k, rfl, h, hp⟩⟩
      · obtain ⟨m, h1, h2, h3, h4⟩ := ih h
        refine ⟨m, h1, by omega, fun j a b => ?_, h4⟩
        rcases Nat.lt_succ_iff_lt_or_eq.1 b with h' | rfl
        · exact h3 j a h'
        · exact hp

/-- what an entry of the trace says; X0: the chain's memory ahead of all, with nothing in it; s0: the first name -/
structure GoodD (P : Program) (rec : Rec) (ops : Array Oper) (T0 : Tr AV) (X0 : AW × Nat) (s0 : Nat) (tr : List Done) (k : Nat) (d : Done) : Prop where
  op : ops[k]? = some d.o
  pos : d.i = k
  want : wantA ops d.T d.o = some d.want
  off : d.want = false → d.kind = 0 ∧ d.v = undefA
  on0 : d.want = true → d.kind = 0 → opA P d.T ⟨.lf, d.s⟩ d.o = some (.val d.v)
  on1 : d.kind = 1 → d.want = true ∧ opA P d.T ⟨.lf, d.s⟩ d.o = some (.new d.v d.ob) ∧ d.e = d.s + 1 ∧ notDead d.ob = true
  on2 : d.kind = 2 → d.want = true ∧ ∃ fs M, (∀ f ∈ fs, f ∈ tr.take k ∧ f.kind = 1) ∧ stepA P rec ops d.o d.T (runA fs d.mask d.ab d.s d.C) = some (false, d.v, M)
  on3 : d.kind = 3 → d.want = true ∧ ∃ fs, (∀ f ∈ fs, f ∈ tr.take k ∧ f.kind = 1) ∧ stepA P rec ops d.o d.T (runA fs d.mask d.ab d.s d.C) = some (true, d.v, d.C') ∧ d.e = d.C'.next ∧ d.ab' = d.ab ||| d.mask
  kinds : d.kind = 0 ∨ d.kind = 1 ∨ d.kind = 2 ∨ d.kind = 3
  slots : d.T = slotsAll (tr.take k) T0
  mem : (d.C, d.ab) = memAll (tr.take k) X0
  mask : ∀ j, d.mask.testBit j = true → ∃ e ∈ d.o.after, Region.binds .any e = true ∧ (j = e.on ∨ ∃ d', tr[e.on]? = some d' ∧ d'.mask.testBit j = true)
  names : s0 ≤ d.s ∧ d.s ≤ d.e ∧ ∀ j d', j < k → tr[j]? = some d' → d'.e ≤ d.s

def Good (P : Program) (rec : Rec) (ops : Array Oper) (T0 : Tr AV) (X0 : AW × Nat) (s0 : Nat) (tr : List Done) : Prop := ∀ k d, tr[k]? = some d → GoodD P rec ops T0 X0 s0 tr k d

section
variable {P : Program} {rec : Rec} {ops : Array Oper} {T0 : Tr AV} {X0 : AW × Nat} {s0 : Nat}

theorem GoodD.snoc {tr : List Done} {k : Nat} {d x : Done} (h : GoodD P rec ops T0 X0 s0 tr k d) (hk : k ≤ tr.length) : GoodD P rec ops T0 X0 s0 (tr ++ [x]) k d where
  op := h.op
  pos := h.pos
  want := h.want
  off := h.off
  on0 := h.on0
  on1 := h.on1
  on2 := by rw [List.take_append_of_le_length hk]; exact h.on2
  on3 := by rw [List.take_append_of_le_length hk]; exact h.on3
  kinds := h.kinds
  slots := by rw [List.take_append_of_le_length hk]; exact h.slots
  mem := by rw [List.take_append_of_le_length hk]; exact h.mem
  mask j hj := by
    obtain ⟨e, e1, e2, e3⟩ := h.mask j hj
    refine ⟨e, e1, e2, e3.imp id fun ⟨d', a, b⟩ => ⟨d', ?_, b⟩⟩
    rw [List.getElem?_append_left (List.getElem?_eq_some_iff.1 a).1]; exact a
  names := ⟨h.names.1, h.names.2.1, fun j d' hj he => by
    rw [List.getElem?_append_left (by omega)] at he
    exact h.names.2.2 j d' hj he⟩

theorem mask_bit (ms : Tr Nat) (j : Nat) : ∀ (es : List Edge) (s : Nat), (es.foldl (fun s e => if Region.binds .any e then s ||| 2 ^ e.on ||| (ms.get e.on).getD 0 else s) s).testBit j = true →
    s.testBit j = true ∨ ∃ e ∈ es, Region.binds .any e = true ∧ (j = e.on ∨ ((ms.get e.on).getD 0).testBit j = true)
  | [], s, h => .inl h
  | e :: es, s, h => by
    rw [List.foldl_cons] at h
    rcases mask_bit ms j es _ h with h1 | ⟨e', a, b⟩
    · split at h1
      · rename_i hb
        rw [Nat.testBit_or, Nat.testBit_or, Bool.or_eq_true, Bool.or_eq_true, Nat.testBit_two_pow] at h1
        rcases h1 with (h1 | h1) | h1
        · exact .inl h1
        · exact .inr ⟨e, by simp, hb, .inl (by simpa using (of_decide_eq_true h1).symm)⟩
        · exact .inr ⟨e, by simp, hb, .inr h1⟩
      · exact .inl h1
    · exact .inr ⟨e', by simp [a], b⟩

/-- one entry: its fields, as it was made -/
structure One (P : Program) (rec : Rec) (ops : Array Oper) (i : Nat) (o : Oper) (mask : Nat) (fs : List Done) (T : Tr AV) (C : AW) (ab s : Nat) (d : Done) : Prop where
  qi : d.i = i
  qo : d.o = o
  qT : d.T = T
  qC : d.C = C
  qab : d.ab = ab
  qs : d.s = s
  qmask : d.mask = mask
  qe : s ≤ d.e
  want : wantA ops T o = some d.want
  off : d.want = false → d.kind = 0 ∧ d.v = undefA
  on0 : d.want = true → d.kind = 0 → opA P T ⟨.lf, s⟩ o = some (.val d.v)
  on1 : d.kind = 1 → d.want = true ∧ opA P T ⟨.lf, s⟩ o = some (.new d.v d.ob) ∧ d.e = s + 1 ∧ notDead d.ob = true
  on2 : d.kind = 2 → d.want = true ∧ ∃ M, stepA P rec ops o T (runA fs mask ab s C) = some (false, d.v, M)
  on3 : d.kind = 3 → d.want = true ∧ stepA P rec ops o T (runA fs mask ab s C) = some (true, d.v, d.C') ∧ d.e = d.C'.next ∧ d.ab' = ab ||| mask
  kinds : d.kind = 0 ∨ d.kind = 1 ∨ d.kind = 2 ∨ d.kind = 3
  quiet : d.kind ≠ 3 → d.C' = C ∧ d.ab' = ab

theorem oneA_spec {i : Nat} {o : Oper} {mask : Nat} {fs : List Done} {T : Tr AV} {C : AW} {ab s : Nat} {d : Done} (h : oneA P rec ops i o mask fs T C ab s = some d) : One P rec ops i o mask fs T C ab s d := by
  have ask : ∀ d, wantA ops T o = some true → askA P rec ops i o mask fs T C ab s = some d → One P rec ops i o mask fs T C ab s d := by
    intro d hw h
    unfold askA at h
    split at h
    · rename_i v M hst; cases h
      exact ⟨rfl, rfl, rfl, rfl, rfl, rfl, rfl, Nat.le_refl _, hw, (fun e => by cases e), (fun _ e => by cases e), (fun e => by cases e), (fun _ => ⟨rfl, M, hst⟩), (fun e => by cases e), by simp [quietD], fun _ => ⟨rfl, rfl⟩⟩
    · rename_i v A' hst; cases h
      have := (step_next hst).1
      simp only [runA] at this
      exact ⟨rfl, rfl, rfl, rfl, rfl, rfl, rfl, this, hw, (fun e => by cases e), (fun _ e => by cases e), (fun e => by cases e), (fun e => by cases e), (fun _ => ⟨rfl, hst, rfl, rfl⟩), by simp [loudD], fun e => absurd rfl e⟩
    · cases h
  unfold oneA at h
  split at h
  · cases h
  · rename_i hw; cases h
    exact ⟨rfl, rfl, rfl, rfl, rfl, rfl, rfl, Nat.le_refl _, hw, (fun _ => ⟨rfl, rfl⟩), (fun e => by cases e), (fun e => by cases e), (fun e => by cases e), (fun e => by cases e), by simp [quietD], fun _ => ⟨rfl, rfl⟩⟩
  · rename_i hw
    split at h
    · unfold pureA at h
      rw [opF_eq] at h
      split at h
      · rename_i v hop; cases h
        exact ⟨rfl, rfl, rfl, rfl, rfl, rfl, rfl, Nat.le_refl _, hw, (fun e => by cases e), (fun _ _ => hop), (fun e => by cases e), (fun e => by cases e), (fun e => by cases e), by simp [quietD], fun _ => ⟨rfl, rfl⟩⟩
      · rename_i v ob hop
        split at h
        · rename_i hnd; cases h
          exact ⟨rfl, rfl, rfl, rfl, rfl, rfl, rfl, Nat.le_succ _, hw, (fun e => by cases e), (fun _ e => by cases e), (fun _ => ⟨rfl, hop, rfl, hnd⟩), (fun e => by cases e), (fun e => by cases e), by simp [freshD], fun _ => ⟨rfl, rfl⟩⟩
        · cases h
      · exact ask d hw h
    · exact ask d hw h

theorem traceA_cons (x : Oper × Nat) (l : List (Oper × Nat)) (i : Nat) (ds fs : List Done) (T : Tr AV) (C : AW) (ab s : Nat) : traceA P rec ops (x :: l) i ds fs T C ab s = traceStep P rec ops x (traceA P rec ops l) i ds fs T C ab s := rfl

theorem draw_trace : ∀ (l : List Oper) (i : Nat) (ms : Tr Nat) (ds fs : List Done) (T : Tr AV) (C : AW) (ab s : Nat) (ds' fs' : List Done) (T' : Tr AV) (C' : AW) (ab' s' : Nat), traceA P rec ops (masksL i l ms) i ds fs T C ab s = some (ds', fs', T', C', ab', s') →
    Good P rec ops T0 X0 s0 ds.reverse → ds.length = i → (∀ k, ms.get k = (ds.reverse[k]?).map (·.mask)) → ops.toList = ds.reverse.map (·.o) ++ l →
    T = slotsAll ds.reverse T0 → (C, ab) = memAll ds.reverse X0 → (∀ d ∈ ds, d.e ≤ s) → s0 ≤ s → (∀ f, f ∈ fs ↔ f ∈ ds ∧ f.kind = 1) →
    Good P rec ops T0 X0 s0 ds'.reverse ∧ ds'.reverse.map (·.o) = ops.toList ∧ T' = slotsAll ds'.reverse T0 ∧ (C', ab') = memAll ds'.reverse X0 ∧ (∀ d ∈ ds', d.e ≤ s') ∧ s0 ≤ s' ∧ (∀ f, f ∈ fs' ↔ f ∈ ds' ∧ f.kind = 1) ∧
    ds'.reverse.map (fun d => (d.o, d.mask)) = ds.reverse.map (fun d => (d.o, d.mask)) ++ masksL i l ms
  | [], i, ms, ds, fs, T, C, ab, s, ds', fs', T', C', ab', s', h, hg, hi, hm, ho, hT, hC, hn, hs, hf => by
    cases h
    exact ⟨hg, by simpa using ho.symm, hT, hC, hn, hs, hf, by simp [masksL]⟩
  | o :: l, i, ms, ds, fs, T, C, ab, s, ds', fs', T', C', ab', s', h, hg, hi, hm, ho, hT, hC, hn, hs, hf => by
    simp only [masksL] at h
    rw [traceA_cons] at h
    unfold traceStep at h
    split at h
    · cases h
    · rename_i d hone
      have z := oneA_spec hone
      have hlen : ds.reverse.length = i := by simpa using hi
      have hrev : ∀ d : Done, (d :: ds).reverse = ds.reverse ++ [d] := fun d => List.reverse_cons
      have htake : (ds.reverse ++ [d]).take i = ds.reverse := by rw [List.take_append_of_le_length (by omega), List.take_of_length_le (by omega)]
      refine (fun r => ⟨r.1, r.2.1, r.2.2.1, r.2.2.2.1, r.2.2.2.2.1, r.2.2.2.2.2.1, r.2.2.2.2.2.2.1, ?_⟩) (draw_trace l (i + 1) (ms.set i (maskOf ms o)) (d :: ds) (moreF d fs) (setT T o.dst d.v) d.C' d.ab' d.e ds' fs' T' C' ab' s' h ?_ (by simp [hi]) ?_ ?_ ?_ ?_ ?_ (by have := z.qe; omega) ?_)
      · rw [hrev]
        intro k d0 hd
        by_cases hk : k < ds.reverse.length
        · rw [List.getElem?_append_left hk] at hd
          exact (hg k d0 hd).snoc (by omega)
        · have hk' : k = i := by
            have := (List.getElem?_eq_some_iff.1 hd).1
            simp at this hk; omega
          subst hk'
          rw [List.getElem?_append_right (by omega), hlen, Nat.sub_self] at hd
          simp at hd
          subst hd
          have hfs : ∀ f ∈ fs, f ∈ ds.reverse ∧ f.kind = 1 := fun f hh => by
            have := (hf f).1 hh
            exact ⟨by simpa using this.1, this.2⟩
          refine ⟨?_, z.qi, by rw [z.qT, z.qo]; exact z.want, z.off, by rw [z.qT, z.qo, z.qs]; exact z.on0, by rw [z.qT, z.qo, z.qs]; exact z.on1, ?_, ?_, z.kinds, ?_, ?_, ?_, ?_⟩
          · have : ops.toList[k]? = some o := by
              rw [ho, List.getElem?_append_right (by simp [hi]), List.length_map, hlen, Nat.sub_self]; rfl
            rw [z.qo]; simpa using this
          · rw [htake, z.qo, z.qT, z.qC, z.qab, z.qs, z.qmask]
            intro hk2
            obtain ⟨q1, M, q2⟩ := z.on2 hk2
            exact ⟨q1, fs, M, hfs, q2⟩
          · rw [htake, z.qo, z.qT, z.qC, z.qab, z.qs, z.qmask]
            intro hk2
            obtain ⟨q1, q2, q3, q4⟩ := z.on3 hk2
            exact ⟨q1, fs, hfs, q2, q3, q4⟩
          · rw [htake, z.qT]; exact hT
          · rw [htake, z.qC, z.qab]; exact hC
          · intro j hj
            rw [z.qmask] at hj
            simp only [maskOf] at hj
            rcases mask_bit ms j _ _ hj with h0 | ⟨e, e1, e2, e3⟩
            · simp at h0
            · refine ⟨e, by rw [z.qo]; simpa using e1, e2, e3.imp id fun h3 => ?_⟩
              rw [hm] at h3
              cases hq : ds.reverse[e.on]? with
              | none => rw [hq] at h3; simp at h3
              | some d' =>
                rw [hq] at h3
                exact ⟨d', by rw [List.getElem?_append_left (List.getElem?_eq_some_iff.1 hq).1]; exact hq, by simpa using h3⟩
          · have := z.qe; have := z.qs
            refine ⟨by omega, by omega, fun j d' hj he => ?_⟩
            rw [List.getElem?_append_left (by omega)] at he
            rw [z.qs]
            exact hn d' (by simpa using List.mem_of_getElem? he)
      · intro k
        rw [Tr.get_set, hrev]
        by_cases hk : k = i
        · subst hk
          rw [if_pos rfl, List.getElem?_append_right (by omega), hlen, Nat.sub_self]
          simp [z.qmask]
        · rw [if_neg hk, hm]
          by_cases hk2 : k < ds.reverse.length
          · rw [List.getElem?_append_left hk2]
          · rw [List.getElem?_eq_none (by omega), List.getElem?_eq_none (by simp at hk2 ⊢; omega)]
      · rw [hrev, ho]; simp [z.qo]
      · rw [hrev, slotsAll, List.foldl_append, hT]; simp only [List.foldl_cons, List.foldl_nil, z.qo]; rfl
      · rw [hrev, memAll, List.foldl_append]
        have : (C, ab) = List.foldl (fun X d => nxt d X) X0 ds.reverse := hC
        rw [← this]
        simp only [List.foldl_cons, List.foldl_nil]
        by_cases hl : d.kind = 3
        · rw [nxt_loud hl]
        · rw [nxt_quiet hl, (z.quiet hl).1, (z.quiet hl).2]
      · intro d0 hd0
        rcases List.mem_cons.1 hd0 with rfl | hd0
        · exact Nat.le_refl _
        · have := hn d0 hd0; have := z.qe; omega
      · intro f
        unfold moreF
        by_cases hk1 : d.kind = 1
        · rw [hk1]
          simp only [List.mem_cons]
          constructor
          · rintro (rfl | h')
            · exact ⟨.inl rfl, hk1⟩
            · exact ⟨.inr ((hf f).1 h').1, ((hf f).1 h').2⟩
          · rintro ⟨rfl | h', h2⟩
            · exact .inl rfl
            · exact .inr ((hf f).2 ⟨h', h2⟩)
        · have hb : Nat.beq d.kind 1 = false := by
            cases hb : Nat.beq d.kind 1 with
            | false => rfl
            | true => exact absurd (Nat.eq_of_beq_eq_true hb) hk1
          rw [hb]
          simp only [List.mem_cons]
          rw [hf]
          constructor
          · rintro ⟨h1, h2⟩; exact ⟨.inr h1, h2⟩
          · rintro ⟨rfl | h1, h2⟩
            · exact absurd h2 hk1
            · exact ⟨h1, h2⟩
      · rw [r.2.2.2.2.2.2.2, hrev, masksL]
        simp [z.qo, z.qmask]

/-- what a region's text says by itself -/
theorem apart_spec' {nt : Nat} : ∀ {L : List (Oper × Nat)} {s : Nat}, apartAll ops nt s L = true → ∀ (i : Nat) (x : Oper × Nat), L[i]? = some x →
    edgesOk (s + i) x.1 = true ∧ dstOk nt x.1.dst = true ∧ ∀ (j : Nat) (y : Oper × Nat), i < j → L[j]? = some y → y.2.testBit (s + i) = true ∨ x.1.apart ops y.1 = true
  | [], _, _, i, x, h => by simp at h
  | z :: L, s, h, i, x, hi => by
    simp only [apartAll, Bool.and_eq_true] at h
    obtain ⟨⟨⟨h1, h2⟩, h3⟩, h4⟩ := h
    cases i with
    | zero =>
      simp at hi; subst hi
      refine ⟨h1, h2, fun j y hj hy => ?_⟩
      cases j with
      | zero => omega
      | succ j =>
        simp at hy
        have row : ∀ {l : List (Oper × Nat)}, apartRow ops z.1 s l = true → ∀ y ∈ l, y.2.testBit s = true ∨ z.1.apart ops y.1 = true := by
          intro l
          induction l with
          | nil => intro _ y hy; cases hy
          | cons w l ih =>
            intro hr y hy
            simp only [apartRow, Bool.and_eq_true, Bool.or_eq_true] at hr
            rcases List.mem_cons.1 hy with rfl | hy
            · exact hr.1
            · exact ih hr.2 y hy
        exact row h3 y (List.mem_of_getElem? hy)
    | succ i =>
      simp at hi
      obtain ⟨q1, q2, q3⟩ := apart_spec' h4 i x hi
      have e : s + 1 + i = s + (i + 1) := by omega
      rw [e] at q1 q3
      refine ⟨q1, q2, fun j y hj hy => ?_⟩
      cases j with
      | zero => omega
      | succ j => exact q3 j y (by omega) (by simpa using hy)
end

theorem vSame_spec {a b : Value} (h : vSame a b = true) : a = b := by
  unfold vSame at h
  split at h
  · simp only [Bool.and_eq_true, decide_eq_true_eq] at h; rw [h.1, h.2]
  · simp at h; rw [h]
  · simp only [bytesSame, decide_eq_true_eq] at h
    rename_i s t
    have : s.data = t.data := Array.ext' h
    obtain ⟨s⟩ := s; obtain ⟨t⟩ := t
    simp at this; rw [this]
  · rfl
  · simp only [Bool.and_eq_true] at h; rw [Nat.eq_of_beq_eq_true h.1, Nat.eq_of_beq_eq_true h.2]
  · rfl
  · rfl
  · rfl
  · rename_i a b
    simp only [Bool.and_eq_true, List.isEmpty_iff] at h
    have : a = b := Array.ext' (by rw [h.1, h.2])
    rw [this]
  · cases h

mutual
theorem aSame_spec : ∀ {a b : AV}, aSame a b = true → a = b
  | .flat v, b, h => by cases b <;> simp only [aSame, Bool.false_eq_true] at h; rw [vSame_spec h]
  | .ptr n o, b, h => by
    cases b <;> simp only [aSame, Bool.false_eq_true, Bool.and_eq_true] at h; rw [Nat.eq_of_beq_eq_true h.1, Nat.eq_of_beq_eq_true h.2]
  | .sl n o l c bb, b, h => by
    cases b <;> simp only [aSame, Bool.false_eq_true, Bool.and_eq_true, beq_iff_eq] at h
    obtain ⟨⟨⟨⟨h1, h2⟩, h3⟩, h4⟩, h5⟩ := h
    rw [Nat.eq_of_beq_eq_true h1, Nat.eq_of_beq_eq_true h2, Nat.eq_of_beq_eq_true h3, Nat.eq_of_beq_eq_true h4, h5]
  | .sle n o p, b, h => by
    cases b <;> simp only [aSame, Bool.false_eq_true, Bool.and_eq_true] at h
    obtain ⟨⟨h1, h2⟩, h3⟩ := h
    rw [Nat.eq_of_beq_eq_true h1, Nat.eq_of_beq_eq_true h2, Nat.eq_of_beq_eq_true h3]
  | .mp n, b, h => by cases b <;> simp only [aSame, Bool.false_eq_true] at h; rw [Nat.eq_of_beq_eq_true h]
  | .fn f x y, b, h => by
    cases b <;> simp only [aSame, Bool.false_eq_true, Bool.and_eq_true] at h
    obtain ⟨⟨h1, h2⟩, h3⟩ := h
    rw [Nat.eq_of_beq_eq_true h1, asSame_spec h2, asSame_spec h3]
  | .yld n, b, h => by cases b <;> simp only [aSame, Bool.false_eq_true] at h; rw [Nat.eq_of_beq_eq_true h]
  | .ifc t v, b, h => by
    cases b <;> simp only [aSame, Bool.false_eq_true, Bool.and_eq_true] at h; rw [Nat.eq_of_beq_eq_true h.1, aSame_spec h.2]
  | .agg l, b, h => by cases b <;> simp only [aSame, Bool.false_eq_true] at h; rw [asSame_spec h]
  | .tup l, b, h => by cases b <;> simp only [aSame, Bool.false_eq_true] at h; rw [asSame_spec h]
  | .any, b, h => by cases b <;> simp only [aSame, Bool.false_eq_true] at h; rfl
  | .rng x y, b, h => by
    cases b <;> simp only [aSame, Bool.false_eq_true, Bool.and_eq_true, decide_eq_true_eq] at h
    rw [h.1, h.2]
  | .pick n i l, b, h => by
    cases b <;> simp only [aSame, Bool.false_eq_true, Bool.and_eq_true] at h
    obtain ⟨⟨h1, h2⟩, h3⟩ := h
    rw [Nat.eq_of_beq_eq_true h1, Nat.eq_of_beq_eq_true h2, asSame_spec h3]
theorem asSame_spec : ∀ {a b : List AV}, asSame a b = true → a = b
  | [], [], _ => rfl
  | [], _ :: _, h | _ :: _, [], h => by simp [asSame] at h
  | a :: l, b :: m, h => by
    simp only [asSame, Bool.and_eq_true] at h
    rw [aSame_spec h.1, asSame_spec h.2]
end
end
end Go.Proofs.YtjhaccpljgdlpaaGreat.Ab
