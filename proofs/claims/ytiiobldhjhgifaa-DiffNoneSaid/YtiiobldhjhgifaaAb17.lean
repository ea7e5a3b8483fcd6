/-
  Regions that draw their order: whatever order comes, the outcome is the same.
-/
import Derived.Test.YtiiobldhjhgifaaAb16
namespace Go.Proofs.Ytiiobldhjhgifaa.Ab
open Go
section
variable {P : Program} {rec : Rec} {nt : Nat} {ops : Array Oper} {T0 : Tr AV} {A0 : AW}

theorem memAll_succ {tr : List Done} {k : Nat} {d : Done} (h : tr[k]? = some d) : memAll (tr.take (k + 1)) A0 = if d.loud then d.A' else memAll (tr.take k) A0 := by
  have : tr.take (k + 1) = tr.take k ++ [d] := by rw [List.take_add_one, h]; rfl
  rw [this, memAll, List.foldl_append]; rfl

theorem memAll_next {tr : List Done} (hg : Good P rec nt ops T0 A0 tr) : ∀ {k m : Nat}, k ≤ m → (memAll (tr.take k) A0).next ≤ (memAll (tr.take m) A0).next := by
  have one : ∀ k, (memAll (tr.take k) A0).next ≤ (memAll (tr.take (k + 1)) A0).next := by
    intro k
    cases h : tr[k]? with
    | none =>
      rw [List.take_of_length_le (by rw [List.getElem?_eq_none_iff] at h; omega), List.take_of_length_le (by rw [List.getElem?_eq_none_iff] at h; omega)]
      exact Nat.le_refl _
    | some d =>
      have hd := hg k d h
      rw [memAll_succ h]
      cases hl : d.loud with
      | false => exact Nat.le_refl _
      | true =>
        have := (step_next hd.step).1
        rw [hd.mem] at this
        exact this
  intro k m h
  induction h with
  | refl => exact Nat.le_refl _
  | step _ ih => exact Nat.le_trans ih (one _)

theorem quiet_step {o : Oper} {T : Tr AV} {A A' : AW} {v : AV} (h : stepA P rec ops o T A = some (false, v, A')) (hw : wantA ops T o = some true) : opA P T A o = some (.val v) := by
  unfold stepA at h
  rw [hw] at h
  simp only at h
  split at h
  · cases h
  · rename_i v' hop; cases h; exact hop
  · cases h
  · split at h <;> cases h
  all_goals
    unfold calledA at h
    split at h
    · split at h <;> cases h
    · cases h

theorem again_spec {q : Done} {A : AW} (h : again P q A = true) (hw : q.want = true) : opA P q.T A q.o = some (.val q.v) := by
  unfold again at h
  rw [hw] at h
  simp only at h
  split at h
  · rename_i v hop; rw [← aSame_spec h]; exact hop
  · cases h

/-- whatever is listed: each waits only for such -/
def Closed (tr : List Done) (L : List Nat) : Prop := ∀ i ∈ L, ∀ d, tr[i]? = some d → ∀ e ∈ d.o.after, Region.binds .any e = true → e.on ∈ L

theorem closed_mask {tr : List Done} (hg : Good P rec nt ops T0 A0 tr) {L : List Nat} (hc : Closed tr L) : ∀ (i : Nat) (d : Done), tr[i]? = some d → (∀ e ∈ d.o.after, Region.binds .any e = true → e.on ∈ L) →
    ∀ j, d.mask.testBit j = true → j ∈ L := by
  intro i
  induction i using Nat.strongRecOn with
  | _ i ih =>
    intro d hd he j hj
    obtain ⟨e, e1, e2, e3⟩ := (hg i d hd).mask j hj
    have hl := he e e1 e2
    rcases e3 with rfl | ⟨d', a, b⟩
    · exact hl
    · exact ih e.on ((hg i d hd).edges e e1 e2) d' a (hc _ hl d' a) j b

structure Inv (P : Program) (rec : Rec) (nt : Nat) (ops : Array Oper) (T0 : Tr AV) (A0 : AW) (tr : List Done) (ρ0 : Rn) (w0 : World) (ds : List Deferred) (L : List Nat) (listed : Array Bool) (a : Act) (w : World) : Prop where
  nodup : L.Nodup
  lt : ∀ i ∈ L, i < tr.length
  size : listed.size = tr.length
  get : ∀ i, listed.getD i false = true ↔ i ∈ L
  closed : Closed tr L
  defers : a.defers = ds
  rest : ∃ ρ, TR ρ nt (slotsD 0 tr (fun j => decide (j ∈ L)) T0) a.tmps ∧ Sim P ρ (memD 0 tr (fun j => decide (j ∈ L)) A0).live w ∧
    Ext ρ0 w0 A0 ρ w (memD 0 tr (fun j => decide (j ∈ L)) A0)

theorem any_sound (hrec : RecOk P rec) (hN : Named P) {ro : Option Nat} {n : Nat} {Q : Exit → Act → World → Prop} {tr : List Done} {ρ0 : Rn} {w0 : World} {ds : List Deferred}
    (hg : Good P rec nt ops T0 A0 tr) (hops : tr.map (·.o) = ops.toList) (hfree : Free ρ0 A0.next (memAll tr A0).next)
    (hQ : ∀ a w ρ, a.defers = ds → TR ρ nt (slotsAll tr T0) a.tmps → Sim P ρ (memAll tr A0).live w → Ext ρ0 w0 A0 ρ w (memAll tr A0) → Q .normal a w) :
    ∀ (fuel : Nat) (L : List Nat) (listed : Array Bool) (a : Act) (w : World), Inv P rec nt ops T0 A0 tr ρ0 w0 ds L listed a w → L.length + fuel = tr.length →
      wpAnyIn (Fw ro) n P .any ops Q fuel listed a w := by
  have hsize : ops.size = tr.length := by rw [← Array.length_toList, ← hops, List.length_map]
  have hopd : ∀ (i : Nat) (d : Done), tr[i]? = some d → ops[i]? = some d.o := fun i d h => (hg i d h).op
  -- all is listed: the end
  have hend : ∀ (L : List Nat) (listed : Array Bool) (a : Act) (w : World), Inv P rec nt ops T0 A0 tr ρ0 w0 ds L listed a w → (∀ i, i < tr.length → i ∈ L) → Q .normal a w := by
    intro L listed a w h hall
    obtain ⟨ρ, h1, h2, h3⟩ := h.rest
    have hm : memD 0 tr (fun j => decide (j ∈ L)) A0 = memAll tr A0 := by
      have e := memD_lt tr 0 tr.length A0
      rw [List.take_length] at e
      rw [← e]
      refine memD_eq tr 0 _ _ A0 fun j d hd _ => ?_
      have hj := (List.getElem?_eq_some_iff.1 hd).1
      simp [hall j hj, hj]
    rw [hm] at h2 h3
    refine hQ a w ρ h.defers (h1.congr fun t => ?_) h2 h3
    have e := slotsD_lt tr 0 tr.length T0 t
    rw [List.take_length] at e
    rw [← e]
    refine slotsD_get tr 0 _ _ T0 T0 t rfl fun j d hd _ => ?_
    have hj := (List.getElem?_eq_some_iff.1 hd).1
    simp [hall j hj, hj]
  -- nothing is ready: all is listed
  have hnone : ∀ (L : List Nat) (listed : Array Bool) (a : Act) (w : World), Inv P rec nt ops T0 A0 tr ρ0 w0 ds L listed a w → Region.ready .any ops listed = [] → ∀ i, i < tr.length → i ∈ L := by
    intro L listed a w h hr i
    induction i using Nat.strongRecOn with
    | _ i ih =>
      intro hi
      apply Classical.byContradiction
      intro hn
      have hd : tr[i]? = some (tr[i]'hi) := List.getElem?_eq_getElem hi
      generalize tr[i]'hi = d at hd
      have : i ∈ Region.ready .any ops listed := by
        rw [mem_ready]
        refine ⟨?_, d.o, hopd i d hd, fun e he hb => (h.get _).2 (ih e.on ((hg i d hd).edges e he hb) (by have := (hg i d hd).edges e he hb; omega))⟩
        have hf : ¬ listed.getD i false = true := fun e => hn ((h.get i).1 e)
        have hlt : i < listed.size := by rw [h.size]; exact hi
        simp [hlt] at hf ⊢
        exact hf
      rw [hr] at this; cases this
  intro fuel
  induction fuel with
  | zero =>
    intro L listed a w h hl
    have hall : ∀ i, i < tr.length → i ∈ L := fun i hi => nodup_full h.nodup h.lt (by omega) i hi
    refine ⟨?_, hend L listed a w h hall⟩
    rw [List.eq_nil_iff_forall_not_mem]
    intro j hj
    obtain ⟨h0, o, ho, _⟩ := mem_ready.1 hj
    have hj2 : j < tr.length := by rw [← hsize]; exact (Array.getElem?_eq_some_iff.1 ho).1
    have h1 := (h.get j).2 (hall j hj2)
    have hlt : j < listed.size := by rw [h.size]; exact hj2
    simp [hlt] at h0 h1
    rw [h1] at h0; cases h0
  | succ fuel ih =>
    intro L listed a w h hl
    refine ⟨fun hr => hend L listed a w h (hnone L listed a w h hr), fun i hi => ?_⟩
    obtain ⟨h0, o, ho, hedge⟩ := mem_ready.1 hi
    have hilt : i < tr.length := by rw [← hsize]; exact (Array.getElem?_eq_some_iff.1 ho).1
    have hd : tr[i]? = some (tr[i]'hilt) := List.getElem?_eq_getElem hilt
    generalize tr[i]'hilt = d at hd
    have hdo : o = d.o := by have := hopd i d hd; rw [ho] at this; exact Option.some.inj this
    subst hdo
    have hin : i ∉ L := fun hm => by
      have h1 := (h.get i).2 hm
      have hlt : i < listed.size := by rw [h.size]; exact hilt
      simp [hlt] at h0 h1
      rw [h1] at h0; cases h0
    have hgd := hg i d hd
    have hedge' : ∀ e ∈ d.o.after, Region.binds .any e = true → e.on ∈ L := fun e he hb => (h.get _).1 (hedge e he hb)
    have F1 : ∀ j, d.mask.testBit j = true → j ∈ L := closed_mask hg h.closed i d hd hedge'
    -- one that is listed and stands behind i
    have F2 : ∀ j dj, j ∈ L → tr[j]? = some dj → i < j → pairOk P ops d dj = true := fun j dj hj hdj hij => by
      rcases (hg j dj hdj).pair i d hij hd with hb | hb
      · exact absurd (closed_mask hg h.closed j dj hdj (h.closed j hj dj hdj) i hb) hin
      · exact hb
    -- one that is not listed and stands ahead of i
    have F3 : ∀ j dj, j ∉ L → tr[j]? = some dj → j < i → pairOk P ops dj d = true := fun j dj hj hdj hij => by
      rcases hgd.pair j dj hij hdj with hb | hb
      · exact absurd (F1 j hb) hj
      · exact hb
    have apartOf : ∀ {x y : Done}, pairOk P ops x y = true → x.o.apart ops y.o = true := fun {x y} hp => by
      simp only [pairOk, Bool.and_eq_true] at hp; exact hp.1
    have loudOf : ∀ {x y : Done}, pairOk P ops x y = true → x.loud = true → y.loud = true → False := fun {x y} hp h1 h2 => by
      simp only [pairOk, Bool.and_eq_true, h1, h2] at hp; simp at hp
    obtain ⟨ρ, h1, h2, h3⟩ := h.rest
    -- the slots that it looks at
    have hslot : ∀ t, t ∈ d.o.looksAt ops → (slotsD 0 tr (fun j => decide (j ∈ L)) T0).get t = d.T.get t := by
      intro t ht
      rw [hgd.slots, ← slotsD_lt tr 0 i T0 t]
      refine slotsD_get tr 0 _ _ T0 T0 t rfl fun j dj hdj hdst => ?_
      have : j ∈ L ↔ j < i := by
        constructor
        · intro hj
          rcases Nat.lt_trichotomy j i with h' | rfl | h'
          · exact h'
          · exact absurd hj hin
          · exact absurd ht ((Oper.apart_spec (apartOf (F2 j dj hj hdj h'))).2.2 t hdst)
        · intro hj
          apply Classical.byContradiction
          intro hn
          exact absurd ht ((Oper.apart_spec (apartOf (F3 j dj hn hdj hj))).1 t hdst)
      simp [this]
    have hopd : ∀ x ∈ d.o.op.operands.toList, VR ρ (Ab.ev d.T x) (a.eval x) := by
      intro x hx
      cases x with
      | tmp t =>
        have ht : t ∈ d.o.looksAt ops := List.mem_append_left _ (List.mem_filterMap.2 ⟨.tmp t, hx, rfl⟩)
        have := h1.2 t
        rw [hslot t ht] at this
        exact this
      | const v => exact VR.fromV v
      | global g => exact .flat _
      | func f => exact VR.fn f .nil .nil
    have hwant : Region.wanted d.o (yielded ops a.tmps) = d.want := by
      refine want_sound' (T := d.T) (ρ := ρ) (fun j w hgu t ht => ?_) hgd.want
      have htl : t ∈ d.o.looksAt ops := List.mem_append_right _ (by rw [hgu]; simp [ht])
      have := h1.2 t
      rw [hslot t htl] at this
      exact this
    -- the slots behind it
    have hslot' : ∀ t, (slotsD 0 tr (fun j => decide (j ∈ i :: L)) T0).get t = (setT (slotsD 0 tr (fun j => decide (j ∈ L)) T0) d.o.dst d.v).get t := by
      intro t
      rw [setT_get]
      by_cases hdt : d.o.dst = some t
      · rw [if_pos hdt]
        refine slotsD_last tr 0 i _ T0 t d hd hdt (by simp) fun j dj hij hdj hdst => ?_
        have : j ∉ L := fun hj => (Oper.apart_spec (apartOf (F2 j dj hj hdj hij))).2.1 t hdt hdst
        simp [this]; omega
      · rw [if_neg hdt]
        refine slotsD_get tr 0 _ _ T0 T0 t rfl fun j dj hdj hdst => ?_
        have : j ≠ i := by rintro rfl; rw [hd] at hdj; cases hdj; exact hdt hdst
        simp [this]
    have hclosed' : Closed tr (i :: L) := by
      intro j hj dj hdj e he hb
      rcases List.mem_cons.1 hj with rfl | hj
      · rw [hd] at hdj; cases hdj
        exact List.mem_cons_of_mem _ (hedge' e he hb)
      · exact List.mem_cons_of_mem _ (h.closed j hj dj hdj e he hb)
    have hget' : ∀ j, (listed.setIfInBounds i true).getD j false = true ↔ j ∈ i :: L := by
      intro j
      by_cases hji : i = j
      · subst hji
        have hlt : i < listed.size := by rw [h.size]; exact hilt
        simp [hlt]
      · rw [getD_set_ne false hji, h.get j]
        simp [Ne.symm hji]
    -- the next one
    have hnext : ∀ (M : AW) x ρ' w', memD 0 tr (fun j => decide (j ∈ i :: L)) A0 = M → VR ρ' d.v x → Sim P ρ' M.live w' → Sub ρ ρ' → Ext ρ0 w0 A0 ρ' w' M →
        wpAnyIn (Fw ro) n P .any ops Q fuel (listed.setIfInBounds i true) (a.put d.o.dst x) w' := by
      intro M x ρ' w' hM hx hs' hsub he
      refine ih (i :: L) _ _ _ ⟨List.nodup_cons.2 ⟨hin, h.nodup⟩, ?_, by rw [Array.size_setIfInBounds]; exact h.size, hget', hclosed', (put_defers _ _ _).trans h.defers, ρ', ?_, by rw [hM]; exact hs', by rw [hM]; exact he⟩ (by simp only [List.length_cons]; omega)
      · intro j hj
        rcases List.mem_cons.1 hj with rfl | hj
        · exact hilt
        · exact h.lt j hj
      · exact ((h1.mono hsub).put hgd.dst hx).congr hslot'
    unfold wpOpIn
    rw [ho]
    simp only
    rw [hwant]
    have hst := hgd.step
    -- not loud: memory stays
    have hquietM : d.loud = false → memD 0 tr (fun j => decide (j ∈ i :: L)) A0 = memD 0 tr (fun j => decide (j ∈ L)) A0 := fun hq =>
      memD_eq tr 0 _ _ A0 fun j dj hdj hlj => by
        have : j ≠ i := by rintro rfl; rw [hd] at hdj; cases hdj; rw [hq] at hlj; cases hlj
        simp [this]
    cases hwt : d.want with
    | false =>
      simp only [Bool.false_eq_true, if_false]
      have hw0 := hgd.want
      rw [hwt] at hw0
      have hv : d.v = undefA ∧ d.loud = false := by
        simp only [stepA, hw0] at hst
        simp only [Option.some.injEq, Prod.mk.injEq] at hst
        exact ⟨hst.2.1.symm, hst.1.symm⟩
      refine ⟨skip_about, hnext _ undef ρ w (hquietM hv.2) ?_ h2 (Sub.refl _) h3⟩
      rw [hv.1]; exact .flat _
    | true =>
      simp only [if_true]
      have hw0 := hgd.want
      rw [hwt] at hw0
      cases hld : d.loud with
      | true =>
        have hM : memD 0 tr (fun j => decide (j ∈ L)) A0 = d.A := by
          rw [hgd.mem, ← memD_lt tr 0 i A0]
          refine memD_eq tr 0 _ _ A0 fun j dj hdj hlj => ?_
          have : j ∈ L ↔ j < i := by
            constructor
            · intro hj
              rcases Nat.lt_trichotomy j i with h' | rfl | h'
              · exact h'
              · exact absurd hj hin
              · exact (loudOf (F2 j dj hj hdj h') hld hlj).elim
            · intro hj
              apply Classical.byContradiction
              intro hn
              exact (loudOf (F3 j dj hn hdj hj) hlj hld).elim
          simp [this]
        have hM' : memD 0 tr (fun j => decide (j ∈ i :: L)) A0 = d.A' := by
          have e1 := memAll_succ (A0 := A0) hd
          rw [hld, if_pos rfl] at e1
          rw [← e1, ← memD_lt tr 0 (i + 1) A0]
          refine memD_eq tr 0 _ _ A0 fun j dj hdj hlj => ?_
          have : j ∈ i :: L ↔ j < i + 1 := by
            constructor
            · intro hj
              rcases List.mem_cons.1 hj with rfl | hj
              · omega
              rcases Nat.lt_trichotomy j i with h' | rfl | h'
              · omega
              · omega
              · exact (loudOf (F2 j dj hj hdj h') hld hlj).elim
            · intro hj
              apply Classical.byContradiction
              intro hn
              have h1 : j ≠ i := by rintro rfl; exact hn (by simp)
              have h2 : j ∉ L := fun hm => hn (by simp [hm])
              exact (loudOf (F3 j dj h2 hdj (by omega)) hlj hld).elim
          simp only [Nat.zero_add]
          exact decide_eq_decide.2 this
        rw [hM] at h2 h3
        have hfr : Free ρ d.A.next d.A'.next := by
          refine (hfree.later h3).first ?_
          have e1 := memAll_succ (A0 := A0) hd
          rw [hld, if_pos rfl] at e1
          rw [← e1]
          have := memAll_next hg (k := i + 1) (m := tr.length) (by omega)
          rw [List.take_length] at this
          exact this
        rw [hld] at hst
        exact step_wp hrec h2 hN hst hw0 hfr hopd fun x ρ' w' k1 k2 k3 => hnext d.A' x ρ' w' hM' k1 k2 k3.sub (h3.trans k3)
      | false =>
        have hval : opA P d.T (memD 0 tr (fun j => decide (j ∈ L)) A0) d.o = some (.val d.v) := by
          rw [hld] at hst
          have hq := quiet_step hst hw0
          obtain ⟨k, hk1, hk2, hk3⟩ := least (fun j => ∃ dj, tr[j]? = some dj ∧ dj.loud = true ∧ j ∉ L) tr.length
          have hlouds : ∀ j dj, tr[j]? = some dj → dj.loud = true → (j ∈ L ↔ j < k) := by
            intro j dj hdj hlj
            constructor
            · intro hj
              apply Classical.byContradiction
              intro hn
              have hjl := (List.getElem?_eq_some_iff.1 hdj).1
              rcases hk3 with rfl | ⟨dk, e1, e2, e3⟩
              · omega
              · have hkj : k < j := by
                  rcases Nat.lt_trichotomy j k with h' | rfl | h'
                  · exact absurd h' hn
                  · exact absurd hj e3
                  · exact h'
                rcases (hg j dj hdj).pair k dk hkj e1 with hb | hb
                · exact e3 (closed_mask hg h.closed j dj hdj (h.closed j hj dj hdj) k hb)
                · exact loudOf hb e2 hlj
            · intro hj
              apply Classical.byContradiction
              intro hn
              exact hk2 j hj ⟨dj, hdj, hlj, hn⟩
          have hM : memD 0 tr (fun j => decide (j ∈ L)) A0 = memAll (tr.take k) A0 := by
            rw [← memD_lt tr 0 k A0]
            refine memD_eq tr 0 _ _ A0 fun j dj hdj hlj => ?_
            have := hlouds j dj hdj hlj
            simp [this]
          rw [hM]
          by_cases hki : k < i
          · rcases hk3 with rfl | ⟨dk, e1, e2, e3⟩
            · omega
            · have hp := F3 k dk e3 e1 hki
              simp only [pairOk, Bool.and_eq_true, e2, hld] at hp
              have := again_spec hp.2.1 hwt
              rw [(hg k dk e1).mem] at this
              exact this
          · obtain ⟨m, m1, m2, m3, m4⟩ := lastBelow (fun j => ∃ dj, tr[j]? = some dj ∧ dj.loud = true) i k (by omega)
            have hmk : memAll (tr.take k) A0 = memAll (tr.take m) A0 := by
              rw [← memD_lt tr 0 k A0, ← memD_lt tr 0 m A0]
              refine memD_eq tr 0 _ _ A0 fun j dj hdj hlj => ?_
              have : j < k ↔ j < m := by
                constructor
                · intro hj
                  apply Classical.byContradiction
                  intro hn
                  exact m3 j (by omega) hj ⟨dj, hdj, hlj⟩
                · intro hj; omega
              simp [this]
            rw [hmk]
            rcases m4 with rfl | ⟨l, rfl, hil, dl, e1, e2⟩
            · rw [← hgd.mem]; exact hq
            · have hli : i < l := by
                rcases Nat.eq_or_lt_of_le hil with rfl | h'
                · rw [hd] at e1; cases e1; rw [hld] at e2; cases e2
                · exact h'
              have hlL : l ∈ L := (hlouds l dl e1 e2).2 (by omega)
              have hp := F2 l dl hlL e1 hli
              simp only [pairOk, Bool.and_eq_true, e2, hld] at hp
              have e3 := again_spec hp.2.2 hwt
              rw [memAll_succ e1, e2, if_pos rfl]
              exact e3
        exact val_wp h2 hN hval hopd fun x hx => hnext _ x ρ w (hquietM hld) hx h2 (Sub.refl _) h3

/-- a region, in whatever order -/
theorem region_sound (hm : P.follows .mixedOrders = true) (hrec : RecOk P rec) (hN : Named P) {ro : Option Nat} {n id : Nat} {draw : Bool} {T T' : Tr AV} {A A' : AW} {ρ : Rn} {w : World} {a : Act}
    (h : regionA P rec nt ops draw T A = some (T', A')) (hs : Sim P ρ A.live w) (hf : Free ρ A.next A'.next) (ht : TR ρ nt T a.tmps) :
    (Code.region id ops draw).wpIn (Fw ro) n P (fun e a' w' => e = .normal ∧ a'.defers = a.defers ∧ ∃ ρ', TR ρ' nt T' a'.tmps ∧ Sim P ρ' A'.live w' ∧ Ext ρ w A ρ' w' A') a w := by
  cases draw with
  | false =>
    refine wpIn_region ?_
    rw [List.range_eq_range', ← Array.length_toList]
    exact ops_sound hrec hN ops.toList 0 T A T' A' ρ w a h rfl hs hf ht rfl fun a' w' ρ' d1 d2 d3 d4 => ⟨rfl, d1, ρ', d2, d3, d4⟩
  | true =>
    simp only [regionA] at h
    obtain ⟨tr, hg, hops, rfl, rfl⟩ := draw_trace (T0 := T) (A0 := A) ops.toList 0 .lf [] T A T' A' h (fun k d hd => by simp at hd) rfl (fun k => by simp [Tr.get]) rfl rfl rfl
    have hsize : ops.size = tr.length := by rw [← Array.length_toList, ← hops, List.length_map]
    refine wpIn_region_any hm ?_
    refine any_sound (ρ0 := ρ) (w0 := w) (ds := a.defers) hrec hN hg hops hf (fun a' w' ρ' d1 d2 d3 d4 => ⟨rfl, d1, ρ', d2, d3, d4⟩) ops.size [] _ a _ ⟨List.nodup_nil, (fun i hi => by cases hi), (by simp [hsize]), fun i => ?_, (fun i hi => by cases hi), rfl, ρ, ?_, ?_, ?_⟩ (by simp [hsize])
    · simp only [List.not_mem_nil, iff_false]
      intro hc
      by_cases hlt : i < ops.size
      · simp [hlt] at hc
      · simp [hlt] at hc
    · refine ht.congr fun t => ?_
      have := slotsD_lt tr 0 0 T t
      rw [List.take_zero] at this
      rw [show T.get t = (slotsAll [] T).get t from rfl, ← this]
      exact slotsD_get tr 0 _ _ T T t rfl fun j d _ _ => by simp
    all_goals
      have hM : memD 0 tr (fun j => decide (j ∈ ([] : List Nat))) A = A := by
        have := memD_lt tr 0 0 A
        rw [List.take_zero] at this
        refine Eq.trans ?_ this
        exact memD_eq tr 0 _ _ _ fun j d _ _ => by simp
      rw [hM]
    · exact ⟨hs.obj, hs.inj⟩
    · have := Ext.refl ρ w A
      exact ⟨this.sub, this.fresh, this.next, this.dom, this.back, this.keep, this.size, rfl, rfl, rfl⟩
end
end Go.Proofs.Ytiiobldhjhgifaa.Ab
