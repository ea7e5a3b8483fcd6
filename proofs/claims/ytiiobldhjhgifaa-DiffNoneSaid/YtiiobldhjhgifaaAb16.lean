/-
  Regions that draw their order.
-/
import Derived.Test.YtiiobldhjhgifaaAb15
namespace Go.Proofs.Ytiiobldhjhgifaa.Ab
open Go

def slotsAll (l : List Done) (T : Tr AV) : Tr AV := l.foldl (fun T d => setT T d.o.dst d.v) T
def memAll (l : List Done) (A : AW) : AW := l.foldl (fun A d => if d.loud then d.A' else A) A
def slotsD : Nat → List Done → (Nat → Bool) → Tr AV → Tr AV
  | _, [], _, T => T
  | s, d :: l, D, T => slotsD (s + 1) l D (if D s then setT T d.o.dst d.v else T)
def memD : Nat → List Done → (Nat → Bool) → AW → AW
  | _, [], _, A => A
  | s, d :: l, D, A => memD (s + 1) l D (if D s && d.loud then d.A' else A)

theorem memD_eq : ∀ (l : List Done) (s : Nat) (D D' : Nat → Bool) (A : AW), (∀ j d, l[j]? = some d → d.loud = true → D (s + j) = D' (s + j)) → memD s l D A = memD s l D' A
  | [], _, _, _, _, _ => rfl
  | d :: l, s, D, D', A, h => by
    have h0 : (D s && d.loud) = (D' s && d.loud) := by
      cases hl : d.loud with
      | false => simp
      | true => have := h 0 d rfl hl; simp at this; simp [this]
    simp only [memD, h0]
    exact memD_eq l (s + 1) D D' _ fun j e he hl => by
      have := h (j + 1) e (by simpa using he) hl
      have e2 : s + 1 + j = s + (j + 1) := by omega
      rw [e2]; exact this

theorem memD_lt : ∀ (l : List Done) (s k : Nat) (A : AW), memD s l (fun j => decide (j < s + k)) A = memAll (l.take k) A
  | [], _, _, _ => by simp [memD, memAll]
  | d :: l, s, 0, A => by
    have h0 : decide (s < s + 0) = false := by simp
    simp only [memD, h0, Bool.false_and, Bool.false_eq_true, if_false, List.take_zero]
    have := memD_lt l (s + 1) 0 A
    rw [List.take_zero] at this
    rw [← this]
    exact memD_eq l (s + 1) _ _ A fun j e _ _ => by simp; omega
  | d :: l, s, k + 1, A => by
    have h0 : decide (s < s + (k + 1)) = true := by simp
    simp only [memD, h0, Bool.true_and, List.take_succ_cons, memAll, List.foldl_cons]
    have := memD_lt l (s + 1) k (if d.loud = true then d.A' else A)
    simp only [memAll] at this
    rw [← this]
    have e : s + 1 + k = s + (k + 1) := by omega
    rw [e]

theorem slotsD_get : ∀ (l : List Done) (s : Nat) (D D' : Nat → Bool) (T T' : Tr AV) (t : Nat), T.get t = T'.get t → (∀ j d, l[j]? = some d → d.o.dst = some t → D (s + j) = D' (s + j)) →
    (slotsD s l D T).get t = (slotsD s l D' T').get t
  | [], _, _, _, _, _, _, e, _ => e
  | d :: l, s, D, D', T, T', t, e, h => by
    simp only [slotsD]
    refine slotsD_get l (s + 1) D D' _ _ t ?_ fun j d' he hd => by
      have := h (j + 1) d' (by simpa using he) hd
      have e2 : s + 1 + j = s + (j + 1) := by omega
      rw [e2]; exact this
    by_cases hd : d.o.dst = some t
    · have h0 := h 0 d rfl hd
      simp only [Nat.add_zero] at h0
      rw [h0]
      cases D' s <;> simp [setT_get, e]
    · cases D s <;> cases D' s <;> simp [setT_get, e, hd]

theorem slotsD_lt : ∀ (l : List Done) (s k : Nat) (T : Tr AV) (t : Nat), (slotsD s l (fun j => decide (j < s + k)) T).get t = (slotsAll (l.take k) T).get t
  | [], _, _, _, _ => by simp [slotsD, slotsAll]
  | d :: l, s, 0, T, t => by
    have h0 : decide (s < s + 0) = false := by simp
    simp only [slotsD, h0, Bool.false_eq_true, if_false, List.take_zero]
    have := slotsD_lt l (s + 1) 0 T t
    rw [List.take_zero] at this
    rw [← this]
    exact slotsD_get l (s + 1) _ _ T T t rfl fun j e _ _ => by simp; omega
  | d :: l, s, k + 1, T, t => by
    have h0 : decide (s < s + (k + 1)) = true := by simp
    simp only [slotsD, h0, if_true, List.take_succ_cons, slotsAll, List.foldl_cons]
    have := slotsD_lt l (s + 1) k (setT T d.o.dst d.v) t
    simp only [slotsAll] at this
    rw [← this]
    have e : s + 1 + k = s + (k + 1) := by omega
    rw [e]

theorem slotsD_last : ∀ (l : List Done) (s i : Nat) (D : Nat → Bool) (T : Tr AV) (t : Nat) (d : Done), l[i]? = some d → d.o.dst = some t → D (s + i) = true →
    (∀ j d', i < j → l[j]? = some d' → d'.o.dst = some t → D (s + j) = false) → (slotsD s l D T).get t = some d.v
  | [], _, _, _, _, _, _, h, _, _, _ => by simp at h
  | d0 :: l, s, 0, D, T, t, d, h, hd, hD, hj => by
    simp at h; subst h
    simp only [Nat.add_zero] at hD
    simp only [slotsD, hD, if_true]
    have : (slotsD (s + 1) l D (setT T d0.o.dst d0.v)).get t = (slotsD (s + 1) l (fun _ => false) (setT T d0.o.dst d0.v)).get t :=
      slotsD_get l (s + 1) _ _ _ _ t rfl fun j d' he hd' => by
        have := hj (j + 1) d' (by omega) (by simpa using he) hd'
        have e2 : s + 1 + j = s + (j + 1) := by omega
        rw [e2]; exact this
    rw [this]
    have nil : ∀ (l : List Done) (s : Nat) (T : Tr AV), slotsD s l (fun _ => false) T = T := by
      intro l
      induction l with
      | nil => intros; rfl
      | cons d l ih => intro s T; simp [slotsD, ih]
    rw [nil, setT_get, if_pos hd]
  | d0 :: l, s, i + 1, D, T, t, d, h, hd, hD, hj => by
    simp only [slotsD]
    have e2 : s + 1 + i = s + (i + 1) := by omega
    refine slotsD_last l (s + 1) i D _ t d (by simpa using h) hd (by rw [e2]; exact hD) fun j d' hlt he hd' => ?_
    have := hj (j + 1) d' (by omega) (by simpa using he) hd'
    have e3 : s + 1 + j = s + (j + 1) := by omega
    rw [e3]; exact this

theorem least (p : Nat → Prop) : ∀ n, ∃ k, k ≤ n ∧ (∀ j, j < k → ¬ p j) ∧ (k = n ∨ p k)
  | 0 => ⟨0, Nat.le_refl _, fun j h => absurd h (Nat.not_lt_zero _), .inl rfl⟩
  | n + 1 => by
    obtain ⟨k, h1, h2, h3⟩ := least p n
    rcases h3 with rfl | h3
    · rcases Classical.em (p k) with h | h
      · exact ⟨k, by omega, h2, .inr h⟩
      · refine ⟨k + 1, by omega, fun j hj => ?_, .inl rfl⟩
        rcases Nat.lt_succ_iff_lt_or_eq.1 hj with h' | rfl
        · exact h2 j h'
        · exact h
    · exact ⟨k, by omega, h2, .inr h3⟩

theorem lastBelow (p : Nat → Prop) (i : Nat) : ∀ k, i ≤ k → ∃ m, i ≤ m ∧ m ≤ k ∧ (∀ j, m ≤ j → j < k → ¬ p j) ∧ (m = i ∨ ∃ l, m = l + 1 ∧ i ≤ l ∧ p l) := by
  intro k hk
  induction k with
  | zero => exact ⟨0, by omega, Nat.le_refl _, fun j _ h => absurd h (Nat.not_lt_zero _), .inl (by omega)⟩
  | succ k ih =>
    rcases Nat.lt_or_ge k i with h | h
    · have : i = k + 1 := by omega
      subst this
      exact ⟨k + 1, Nat.le_refl _, Nat.le_refl _, fun j h1 h2 => absurd h2 (by omega), .inl rfl⟩
    · rcases Classical.em (p k) with hp | hp
      · exact ⟨k + 1, hk, Nat.le_refl _, fun j h1 h2 => absurd h2 (by omega), .inr ⟨k, rfl, h, hp⟩⟩
      · obtain ⟨m, h1, h2, h3, h4⟩ := ih h
        refine ⟨m, h1, by omega, fun j a b => ?_, h4⟩
        rcases Nat.lt_succ_iff_lt_or_eq.1 b with h' | rfl
        · exact h3 j a h'
        · exact hp

/-- what an entry of the trace says -/
structure GoodD (P : Program) (rec : Rec) (nt : Nat) (ops : Array Oper) (T0 : Tr AV) (A0 : AW) (tr : List Done) (k : Nat) (d : Done) : Prop where
  op : ops[k]? = some d.o
  pos : d.i = k
  want : wantA ops d.T d.o = some d.want
  step : stepA P rec ops d.o d.T d.A = some (d.loud, d.v, d.A')
  slots : d.T = slotsAll (tr.take k) T0
  mem : d.A = memAll (tr.take k) A0
  edges : ∀ e ∈ d.o.after, Region.binds .any e = true → e.on < k
  mask : ∀ j, d.mask.testBit j = true → ∃ e ∈ d.o.after, Region.binds .any e = true ∧ (j = e.on ∨ ∃ d', tr[e.on]? = some d' ∧ d'.mask.testBit j = true)
  pair : ∀ j d', j < k → tr[j]? = some d' → d.mask.testBit j = true ∨ pairOk P ops d' d = true
  dst : dstOk nt d.o.dst = true

def Good (P : Program) (rec : Rec) (nt : Nat) (ops : Array Oper) (T0 : Tr AV) (A0 : AW) (tr : List Done) : Prop := ∀ k d, tr[k]? = some d → GoodD P rec nt ops T0 A0 tr k d

section
variable {P : Program} {rec : Rec} {nt : Nat} {ops : Array Oper} {T0 : Tr AV} {A0 : AW}

theorem GoodD.snoc {tr : List Done} {k : Nat} {d x : Done} (h : GoodD P rec nt ops T0 A0 tr k d) (hk : k ≤ tr.length) : GoodD P rec nt ops T0 A0 (tr ++ [x]) k d where
  op := h.op
  pos := h.pos
  want := h.want
  step := h.step
  slots := by rw [List.take_append_of_le_length hk]; exact h.slots
  mem := by rw [List.take_append_of_le_length hk]; exact h.mem
  edges := h.edges
  mask j hj := by
    obtain ⟨e, e1, e2, e3⟩ := h.mask j hj
    refine ⟨e, e1, e2, e3.imp id fun ⟨d', a, b⟩ => ⟨d', ?_, b⟩⟩
    rw [List.getElem?_append_left (List.getElem?_eq_some_iff.1 a).1]; exact a
  pair j d' hj he := by
    rw [List.getElem?_append_left (by omega)] at he
    exact h.pair j d' hj he
  dst := h.dst

theorem mask_bit (ms : Tr Nat) (j : Nat) : ∀ (es : List Edge) (s : Nat), (es.foldl (fun s e => if Region.binds .any e then s ||| 2 ^ e.on ||| (ms.get e.on).getD 0 else s) s).testBit j = true →
    s.testBit j = true ∨ ∃ e ∈ es, Region.binds .any e = true ∧ (j = e.on ∨ ((ms.get e.on).getD 0).testBit j = true)
  | [], s, h => .inl h
  | e :: es, s, h => by
    rw [List.foldl_cons] at h
    rcases mask_bit ms j es _ h with h1 | ⟨e', a, b⟩
    · split at h1
      · rename_i hb
        rw [Nat.testBit_or, Nat.testBit_or, Bool.or_eq_true, Bool.or_eq_true, Nat.testBit_two_pow] at h1
        rcases h1 with (h1 | h1) | h1
        · exact .inl h1
        · exact .inr ⟨e, by simp, hb, .inl (by simpa using (of_decide_eq_true h1).symm)⟩
        · exact .inr ⟨e, by simp, hb, .inr h1⟩
      · exact .inl h1
    · exact .inr ⟨e', by simp [a], b⟩

theorem rowOk_spec {x : Done} : ∀ {l : List Done}, rowOk P ops x l = true → ∀ y ∈ l, x.mask.testBit y.i = true ∨ pairOk P ops y x = true
  | [], _, y, h => by cases h
  | z :: l, h, y, hy => by
    simp only [rowOk, Bool.and_eq_true, Bool.or_eq_true] at h
    rcases List.mem_cons.1 hy with rfl | hy
    · exact h.1
    · exact rowOk_spec h.2 y hy

theorem draw_trace : ∀ (l : List Oper) (i : Nat) (ms : Tr Nat) (ds : List Done) (T : Tr AV) (A : AW) (T' : Tr AV) (A' : AW), drawA P rec nt ops i l ms ds T A = some (T', A') →
    Good P rec nt ops T0 A0 ds.reverse → ds.length = i → (∀ k, ms.get k = (ds.reverse[k]?).map (·.mask)) → ops.toList = ds.reverse.map (·.o) ++ l →
    T = slotsAll ds.reverse T0 → A = memAll ds.reverse A0 →
    ∃ tr, Good P rec nt ops T0 A0 tr ∧ tr.map (·.o) = ops.toList ∧ T' = slotsAll tr T0 ∧ A' = memAll tr A0
  | [], i, ms, ds, T, A, T', A', h, hg, hi, hm, ho, hT, hA => by
    cases h
    exact ⟨ds.reverse, hg, by simpa using ho.symm, hT, hA⟩
  | o :: l, i, ms, ds, T, A, T', A', h, hg, hi, hm, ho, hT, hA => by
    simp only [drawA] at h
    split at h
    · cases h
    · rename_i wt hw
      split at h
      · rename_i loud v A1 hst
        split at h
        · rename_i hok
          simp only [Bool.and_eq_true] at hok
          obtain ⟨⟨hok1, hok2⟩, hok3⟩ := hok
          have hlen : ds.reverse.length = i := by simpa using hi
          have hrev : ∀ d : Done, (d :: ds).reverse = ds.reverse ++ [d] := fun d => List.reverse_cons
          refine draw_trace l (i + 1) _ _ _ _ T' A' h ?_ (by simp [hi]) ?_ ?_ ?_ ?_
          · rw [hrev]
            intro k d hd
            by_cases hk : k < ds.reverse.length
            · rw [List.getElem?_append_left hk] at hd
              exact (hg k d hd).snoc (by omega)
            · have hk' : k = i := by
                have := (List.getElem?_eq_some_iff.1 hd).1
                simp at this hk; omega
              subst hk'
              rw [List.getElem?_append_right (by omega), hlen, Nat.sub_self] at hd
              simp at hd
              subst hd
              refine ⟨?_, rfl, hw, hst, ?_, ?_, ?_, ?_, ?_, hok2⟩
              · have : ops.toList[k]? = some o := by
                  rw [ho, List.getElem?_append_right (by simp [hi]), List.length_map, hlen, Nat.sub_self]; rfl
                simpa using this
              · simp only; rw [List.take_append_of_le_length (by omega), List.take_of_length_le (by omega)]; exact hT
              · simp only; rw [List.take_append_of_le_length (by omega), List.take_of_length_le (by omega)]; exact hA
              · intro e he hb
                simp only [edgesOk] at hok1
                have := List.all_eq_true.1 hok1 e (by simpa using he)
                simpa [hb] using this
              · intro j hj
                simp only [maskOf] at hj
                rcases mask_bit ms j _ _ hj with h0 | ⟨e, e1, e2, e3⟩
                · simp at h0
                · refine ⟨e, by simpa using e1, e2, e3.imp id fun h3 => ?_⟩
                  rw [hm] at h3
                  cases hq : ds.reverse[e.on]? with
                  | none => rw [hq] at h3; simp at h3
                  | some d' =>
                    rw [hq] at h3
                    exact ⟨d', by rw [List.getElem?_append_left (List.getElem?_eq_some_iff.1 hq).1]; exact hq, by simpa using h3⟩
              · intro j d' hj he
                rw [List.getElem?_append_left (by omega)] at he
                have hmem : d' ∈ ds := by simpa using List.mem_of_getElem? he
                have := rowOk_spec hok3 d' hmem
                rw [(hg j d' he).pos] at this
                exact this
          · intro k
            rw [Tr.get_set, hrev]
            by_cases hk : k = i
            · subst hk
              rw [if_pos rfl, List.getElem?_append_right (by omega), hlen, Nat.sub_self]; rfl
            · rw [if_neg hk, hm]
              by_cases hk2 : k < ds.reverse.length
              · rw [List.getElem?_append_left hk2]
              · rw [List.getElem?_eq_none (by omega), List.getElem?_eq_none (by simp at hk2 ⊢; omega)]
          · rw [hrev, ho]; simp
          · rw [hrev, slotsAll, List.foldl_append, hT]; rfl
          · rw [hrev, memAll, List.foldl_append]
            have : A = List.foldl (fun A d => if d.loud = true then d.A' else A) A0 ds.reverse := hA
            rw [← this]
            simp only [List.foldl_cons, List.foldl_nil]
            cases loud with
            | true => rfl
            | false => exact (step_next hst).2 rfl
        · cases h
      · cases h
end

theorem vSame_spec {a b : Value} (h : vSame a b = true) : a = b := by
  unfold vSame at h
  split at h
  · simp only [Bool.and_eq_true, decide_eq_true_eq] at h; rw [h.1, h.2]
  · simp at h; rw [h]
  · simp only [bytesSame, decide_eq_true_eq] at h
    rename_i s t
    have : s.data = t.data := Array.ext' h
    obtain ⟨s⟩ := s; obtain ⟨t⟩ := t
    simp at this; rw [this]
  · rfl
  · simp only [Bool.and_eq_true] at h; rw [Nat.eq_of_beq_eq_true h.1, Nat.eq_of_beq_eq_true h.2]
  · rfl
  · rfl
  · rfl
  · rename_i a b
    simp only [Bool.and_eq_true, List.isEmpty_iff] at h
    have : a = b := Array.ext' (by rw [h.1, h.2])
    rw [this]
  · cases h

mutual
theorem aSame_spec : ∀ {a b : AV}, aSame a b = true → a = b
  | .flat v, b, h => by cases b <;> simp only [aSame, Bool.false_eq_true] at h; rw [vSame_spec h]
  | .ptr n o, b, h => by
    cases b <;> simp only [aSame, Bool.false_eq_true, Bool.and_eq_true] at h; rw [Nat.eq_of_beq_eq_true h.1, Nat.eq_of_beq_eq_true h.2]
  | .sl n o l c bb, b, h => by
    cases b <;> simp only [aSame, Bool.false_eq_true, Bool.and_eq_true, beq_iff_eq] at h
    obtain ⟨⟨⟨⟨h1, h2⟩, h3⟩, h4⟩, h5⟩ := h
    rw [Nat.eq_of_beq_eq_true h1, Nat.eq_of_beq_eq_true h2, Nat.eq_of_beq_eq_true h3, Nat.eq_of_beq_eq_true h4, h5]
  | .sle n o p, b, h => by
    cases b <;> simp only [aSame, Bool.false_eq_true, Bool.and_eq_true] at h
    obtain ⟨⟨h1, h2⟩, h3⟩ := h
    rw [Nat.eq_of_beq_eq_true h1, Nat.eq_of_beq_eq_true h2, Nat.eq_of_beq_eq_true h3]
  | .mp n, b, h => by cases b <;> simp only [aSame, Bool.false_eq_true] at h; rw [Nat.eq_of_beq_eq_true h]
  | .fn f x y, b, h => by
    cases b <;> simp only [aSame, Bool.false_eq_true, Bool.and_eq_true] at h
    obtain ⟨⟨h1, h2⟩, h3⟩ := h
    rw [Nat.eq_of_beq_eq_true h1, asSame_spec h2, asSame_spec h3]
  | .yld n, b, h => by cases b <;> simp only [aSame, Bool.false_eq_true] at h; rw [Nat.eq_of_beq_eq_true h]
  | .ifc t v, b, h => by
    cases b <;> simp only [aSame, Bool.false_eq_true, Bool.and_eq_true] at h; rw [Nat.eq_of_beq_eq_true h.1, aSame_spec h.2]
  | .agg l, b, h => by cases b <;> simp only [aSame, Bool.false_eq_true] at h; rw [asSame_spec h]
  | .tup l, b, h => by cases b <;> simp only [aSame, Bool.false_eq_true] at h; rw [asSame_spec h]
  | .any, b, h => by cases b <;> simp only [aSame, Bool.false_eq_true] at h; rfl
  | .pick n i l, b, h => by
    cases b <;> simp only [aSame, Bool.false_eq_true, Bool.and_eq_true] at h
    obtain ⟨⟨h1, h2⟩, h3⟩ := h
    rw [Nat.eq_of_beq_eq_true h1, Nat.eq_of_beq_eq_true h2, asSame_spec h3]
theorem asSame_spec : ∀ {a b : List AV}, asSame a b = true → a = b
  | [], [], _ => rfl
  | [], _ :: _, h | _ :: _, [], h => by simp [asSame] at h
  | a :: l, b :: m, h => by
    simp only [asSame, Bool.and_eq_true] at h
    rw [aSame_spec h.1, asSame_spec h.2]
end
end Go.Proofs.Ytiiobldhjhgifaa.Ab
