/-
  Calls, rounds, sorts over the abstract memory; a closed function that is told true is true.
-/
import Derived.Test.YtjhaccpljgdlpaaGreatAb18
namespace Go.Proofs.YtjhaccpljgdlpaaGreat.Ab
open Go
section
variable {P : Program} {rec : Rec}

theorem args0_get : ∀ (l : List AV) (i : Nat) (T : Tr AV) (t : Nat), (args0 i l T).get t = if i ≤ t ∧ t < i + l.length then l[t - i]? else T.get t
  | [], i, T, t => by
    rw [args0, if_neg (by simp only [List.length_nil]; omega)]
  | v :: l, i, T, t => by
    rw [args0, args0_get l (i + 1) (T.set i v) t]
    by_cases h : i + 1 ≤ t ∧ t < i + 1 + l.length
    · rw [if_pos h, if_pos (by simp; omega)]
      have : t - i = (t - (i + 1)) + 1 := by omega
      rw [this]; rfl
    · rw [if_neg h, Tr.get_set]
      by_cases e : t = i
      · subst e; rw [if_pos rfl, if_pos (by simp)]; simp
      · rw [if_neg e, if_neg (by simp; omega)]

theorem enter_slots {ρ : Rn} {args : List AV} {xs : List Value} {nt : Nat} (h : VRs ρ args xs) (hl : args.length ≤ nt) : TR ρ nt (args0 0 args .lf) (xs.toArray ++ Array.replicate (nt - xs.toArray.size) undef) := by
  have hx := h.length
  refine ⟨by simp; omega, fun t => ?_⟩
  rw [args0_get]
  by_cases ht : t < args.length
  · rw [if_pos (by omega), Nat.sub_zero]
    have hg : args[t]? = some args[t] := List.getElem?_eq_getElem ht
    obtain ⟨v, e1, e2⟩ := h.get hg
    rw [hg, Array.getD_eq_getD_getElem?, Array.getElem?_append_left (by simp; omega)]
    simp only [List.getElem?_toArray, e1, Option.getD_some]
    exact e2
  · rw [if_neg (by omega)]
    have : (xs.toArray ++ Array.replicate (nt - xs.toArray.size) undef).getD t undef = undef := by
      rw [Array.getD_eq_getD_getElem?, Array.getElem?_append_right (by simp; omega)]
      rw [Array.getElem?_replicate]
      split <;> rfl
    rw [this, Tr.get_lf]
    exact .flat _

theorem take_next : ∀ {rs : List Def} {A A' : AW}, takeA rec rs A = some A' → A.next ≤ A'.next
  | [], A, A', h => by cases h; exact Nat.le_refl _
  | .mark r :: rs, A, A', h => by
    simp only [takeA] at h
    split at h
    · exact take_next (A := A.set r .dead) h
    · cases h
  | .call f x y :: rs, A, A', h => by
    simp only [takeA] at h
    split at h
    · split at h
      · rename_i hb; exact Nat.le_trans (Nat.le_of_ble_eq_true hb) (take_next h)
      · cases h
    · cases h

theorem take_sound (hrec : RecOk P rec) (hN : Named P) {cs : List Frame} : ∀ (rs : List Def) (A A' : AW) (ds : List Deferred) (w : World) (ρ : Rn) (fr : Frame), takeA rec rs A = some A' → Sim P ρ A.live w → Free ρ A.next A'.next → DefsR ρ rs ds → fr.mode = .returning → fr.defers = ds →
    (∀ f x y, Def.call f x y ∈ rs → ∃ fn c, P.funcs[f]? = some fn ∧ fn.body = some c) →
    ∃ w' ρ', Steps P (lone fr cs w) (lone { fr with defers := [] } cs w') ∧ Sim P ρ' A'.live w' ∧ Ext ρ w A ρ' w' A'
  | [], A, A', ds, w, ρ, fr, h, hs, _, hm, h1, h2, _ => by
    cases h; cases hm
    refine ⟨w, ρ, ?_, hs, Ext.refl _ _ _⟩
    rw [show ({ fr with defers := [] } : Frame) = fr by rw [← h2]]
    exact .refl P _
  | .mark r :: rs, A, A', ds, w, ρ, fr, h, hs, hf, hm, h1, h2, hb => by
    cases hm with
    | mark hl hm =>
    rename_i l ds
    simp only [takeA] at h
    split at h
    · rename_i hg
      have hlive : A.live r = some (.deferred false) := live_of_get hg (by simp)
      obtain ⟨l', o, e1, e2, e3⟩ := hs.obj r _ hlive
      rw [hl] at e1; cases e1
      have e3' : o = .deferred (some []) := e3
      subst e3'
      have ht := run_takeDeferred (P := P) e2
      have hst := step_collected (P := P) (cs := cs) (fr := fr) (by rw [h1]; simp) h2 rfl ht
      have s1 := hs.kill (w' := w.putObj l.blk (.deferred none)) hlive hl putObj_other
      have x1 : Ext ρ w A ρ (w.putObj l.blk (.deferred none)) (A.set r .dead) := Ext.setAt hlive hl putObj_other World.putObj_size rfl rfl rfl
      obtain ⟨w', ρ', q1, q2, q3⟩ := take_sound hrec hN rs (A.set r .dead) A' ds _ ρ { fr with defers := [] ++ ds } h s1 hf hm h1 rfl (fun f x y hx => hb f x y (by simp [hx]))
      exact ⟨w', ρ', .head hst q1, q2, x1.trans q3⟩
    · cases h
  | .call f x y :: rs, A, A', ds, w, ρ, fr, h, hs, hf, hm, h1, h2, hb => by
    cases hm with
    | call _ hx hy hm =>
    rename_i xs ys ds
    simp only [takeA] at h
    split at h
    · rename_i v A1 hr
      split at h
      · rename_i hle
        have hle := Nat.le_of_ble_eq_true hle
        have hn := take_next h
        obtain ⟨fn, c, hfn, hbd⟩ := hb f x y (by simp)
        have hinv : (invoke (.fn (.func f) ys.toArray) xs.toArray).run P w = .ok (.enter f (xs ++ ys).toArray) w := by
          have := callFunc_body hfn hbd (hN _ _ hfn) (xs.toArray ++ ys.toArray) w
          simp only [invoke]
          rw [show (xs ++ ys).toArray = xs.toArray ++ ys.toArray by simp]
          exact this
        have hst := step_defer (P := P) (cs := cs) (fr := fr) (by rw [h1]; simp) h2 rfl hinv
        obtain ⟨e, u', w1, frX, ⟨hu, z, ρ1, rfl, k1, k2, k3⟩, hcomes, hkX, hgo⟩ := hrec _ _ _ _ hr ρ w hs (hf.first hn) (xs ++ ys) (hx.append hy) { fr with defers := ds } cs h1
        subst hu
        have hst2 := step_going_returned (c := { ({ fr with defers := ds } : Frame) with mode := .returning }) (cs := cs) hkX hgo
        have hsame : ({ ({ ({ fr with defers := ds } : Frame) with mode := .returning } : Frame) with mode := settle .returning } : Frame) = { fr with defers := ds } := by
          show ({ fr with defers := ds, mode := .returning } : Frame) = { fr with defers := ds }
          rw [← h1]
        obtain ⟨w', ρ', q1, q2, q3⟩ := take_sound hrec hN rs A1 A' ds w1 ρ1 { fr with defers := ds } h k2 (hf.later k3) (hm.mono k3.sub) h1 rfl (fun f x y hx => hb f x y (by simp [hx]))
        refine ⟨w', ρ', .head hst (Steps.trans hcomes (.head ?_ q1)), q2, k3.trans q3⟩
        rw [hst2]
        simp only
        rw [hsame]
      · cases h
    · cases h

noncomputable def resA (P : Program) (T : Tr AV) (A : AW) : ResultVar → Option AV
  | .tmp t => some ((T.get t).getD undefA)
  | .cell a t => match T.get a with
    | some (.ptr n o) => loadA P A t n o
    | _ => none
def resV (tmps : Array Value) : ResultVar → Sem Value
  | .tmp t => pure (tmps.getD t undef)
  | .cell a t => do loadVar t (← asAddr (tmps.getD a undef))

theorem result_sound {ρ : Rn} {A : AW} {w : World} (hs : Sim P ρ A.live w) {nt : Nat} {T : Tr AV} {tmps : Array Value} (ht : TR ρ nt T tmps) {r : ResultVar} {v : AV} (h : resA P T A r = some v) :
    ∃ x, (resV tmps r).run P w = .ok x w ∧ VR ρ v x := by
  cases r with
  | tmp t => cases h; exact ⟨_, rfl, ht.2 t⟩
  | cell a t =>
    simp only [resA] at h
    split at h
    · rename_i n o hg
      have hv := ht.2 a
      rw [hg] at hv
      simp only [Option.getD_some] at hv
      generalize hc : tmps.getD a undef = c at hv
      cases hv with
      | ptr _ hl =>
      rename_i l
      obtain ⟨x, h1, h2⟩ := load_sound hs h hl
      refine ⟨x, ?_, h2⟩
      simp [Instr.loadAt, Instr.sureAddr] at h1
      simp only [resV, hc]
      simp [asAddr, h1]
    · cases h

theorem results_list {ρ : Rn} {A : AW} {w : World} (hs : Sim P ρ A.live w) {nt : Nat} {T : Tr AV} {tmps : Array Value} (ht : TR ρ nt T tmps) : ∀ (l : List ResultVar) (vs : List AV), l.mapM (resA P T A) = some vs →
    ∃ xs, (l.mapM (resV tmps)).run P w = .ok xs w ∧ VRs ρ vs xs
  | [], vs, h => by simp at h; subst h; exact ⟨[], by simp, .nil⟩
  | r :: l, vs, h => by
    rw [List.mapM_cons] at h
    cases e1 : resA P T A r with
    | none => rw [e1] at h; simp at h
    | some v =>
      cases e2 : l.mapM (resA P T A) with
      | none => rw [e1, e2] at h; simp at h
      | some us =>
        rw [e1, e2] at h
        simp at h; subst h
        obtain ⟨x, a1, a2⟩ := result_sound hs ht e1
        obtain ⟨xs, b1, b2⟩ := results_list hs ht l us e2
        refine ⟨x :: xs, ?_, .cons a2 b2⟩
        rw [List.mapM_cons]
        simp [Sem.run_bind, a1, b1]

theorem results_sound {ρ : Rn} {A : AW} {w : World} (hs : Sim P ρ A.live w) {nt : Nat} {T : Tr AV} {tmps : Array Value} (ht : TR ρ nt T tmps) {fn : Func} {v : AV} (h : resultsA P fn T A = some v) :
    ∃ x, (results fn tmps).run P w = .ok x w ∧ VR ρ v x := by
  have hA : resultsA P fn T A = (match fn.results.toList.mapM (resA P T A) with | some [v] => some v | some vs => some (.tup vs) | none => none) := rfl
  have hV : results fn tmps = (do let vs ← fn.results.mapM (resV tmps); pure (if h : vs.size = 1 then vs[0] else .tuple vs)) := rfl
  rw [hA] at h
  have run : ∀ xs, (fn.results.toList.mapM (resV tmps)).run P w = .ok xs w → (results fn tmps).run P w = .ok (if h : xs.toArray.size = 1 then xs.toArray[0] else .tuple xs.toArray) w := by
    intro xs e
    rw [hV, Array.mapM_eq_mapM_toList]
    simp [e]
  split at h
  · rename_i v' e
    cases h
    obtain ⟨xs, e1, e2⟩ := results_list hs ht _ _ e
    cases e2 with
    | cons e2 e3 =>
    cases e3
    exact ⟨_, run _ e1, by simpa using e2⟩
  · rename_i vs hne e
    cases h
    obtain ⟨xs, e1, e2⟩ := results_list hs ht _ _ e
    refine ⟨_, run _ e1, ?_⟩
    have : ¬ xs.toArray.size = 1 := by
      intro h1
      have := e2.length
      simp at h1
      rw [h1] at this
      match vs, this with
      | [v], _ => exact hne v rfl
    rw [dif_neg this]
    exact .tup e2
  · cases h

theorem body_run (hm : P.follows .mixedOrders = true) (hrec : RecOk P rec) (hN : Named P) {m : Nat} {f : FuncId} {args : List AV} {A : AW} {v : AV} {A' : AW} (h : bodyA P rec m f args A = some (v, A')) {ρ : Rn} {w : World}
    (hs : Sim P ρ A.live w) (hf : Free ρ A.next A'.next) (kd : CallKind) {xs : List Value} (hx : VRs ρ args xs) (cs : List Frame) :
    ∃ x w' ρ' fr', Steps P (lone (Frame.enter P f xs.toArray kd) cs w) (lone fr' cs w') ∧ fr'.mode = .returning ∧ fr'.defers = [] ∧ fr'.kind = kd ∧ fr'.fn = f ∧ (∃ fn, P.funcs[f]? = some fn ∧ (results fn fr'.tmps).run P w' = .ok x w') ∧
      VR ρ' v x ∧ Sim P ρ' A'.live w' ∧ Ext ρ w A ρ' w' A' := by
  unfold bodyA at h
  split at h
  · cases h
  · rename_i fn hfn
    split at h
    · cases h
    · rename_i body hbody
      split at h
      · rename_i hle
        split at h
        · rename_i fr A1 hit
          split at h
          · rename_i A2 htk
            split at h
            · rename_i v' hres
              cases h
              let b : Frame := { (default : Frame) with fn := f, kind := kd, roundOf := none }
              have henter : Frame.enter P f xs.toArray kd = b.atR { tmps := xs.toArray ++ Array.replicate (fn.ntmps - xs.toArray.size) undef, defers := [] } [.code body] := by
                simp [Frame.enter, Frame.atR, hfn, hbody, b]
              have hR : FrR ρ { fn := f, nt := fn.ntmps, rnd := none, T := args0 0 args .lf, defs := [] } b { tmps := xs.toArray ++ Array.replicate (fn.ntmps - xs.toArray.size) undef, defers := [] } :=
                ⟨rfl, enter_slots hx (Nat.le_of_ble_eq_true hle), rfl, .nil⟩
              have hck : callsOk P fr.defs = true ∧ takeA rec fr.defs A1 = some A' := by
                cases hc : callsOk P fr.defs with
                | true => rw [hc] at htk; exact ⟨rfl, htk⟩
                | false => rw [hc] at htk; cases htk
              obtain ⟨hck, htk⟩ := hck
              have htn := take_next htk
              obtain ⟨a1, w1, ρ1, todo1, q1, q2, q3, q4, q5, q6, q7⟩ := items_sound hm hrec hN m _ _ _ _ _ _ hit ρ w _ b cs hs (hf.first htn) hR
              have hret : Steps P (lone (b.atR a1 todo1) cs w1) (lone { b.atR a1 todo1 with mode := .returning } cs w1) := by
                rcases q7 with rfl | ⟨k, rfl⟩
                · exact .one (stepR_end rfl)
                · exact .one (stepR_ret rfl)
              have hbod : ∀ f x y, Def.call f x y ∈ fr.defs → ∃ fn c, P.funcs[f]? = some fn ∧ fn.body = some c := by
                generalize fr.defs = rs at hck
                induction rs with
                | nil => intro f x y h; cases h
                | cons r rs ih =>
                  cases r with
                  | mark r =>
                    intro f x y h
                    rcases List.mem_cons.1 h with h | h
                    · cases h
                    · exact ih hck f x y h
                  | call g x' y' =>
                    simp only [callsOk, Bool.and_eq_true] at hck
                    intro f x y h
                    rcases List.mem_cons.1 h with h | h
                    · cases h
                      have h1 := hck.1
                      split at h1
                      · rename_i fn' e; exact ⟨fn', _, e, Option.eq_some_of_isSome h1⟩
                      · cases h1
                    · exact ih hck.2 f x y h
              obtain ⟨w2, ρ2, t1, t2, t3⟩ := take_sound hrec hN (cs := cs) fr.defs A1 A' a1.defers w1 ρ1 { b.atR a1 todo1 with mode := .returning } htk q2 (hf.later q3) q4.marks rfl rfl hbod
              obtain ⟨x, r1, r2⟩ := results_sound t2 (q4.slots.mono t3.sub) hres
              refine ⟨x, w2, ρ2, { ({ b.atR a1 todo1 with mode := .returning } : Frame) with defers := [] }, ?_, rfl, rfl, rfl, rfl, ⟨fn, hfn, r1⟩, r2, t2, q3.trans t3⟩
              rw [henter]
              exact Steps.trans q1 (Steps.trans hret t1)
            · cases h
          · cases h
        · cases h
      · cases h

theorem body_sound (hm : P.follows .mixedOrders = true) (hrec : RecOk P rec) (hN : Named P) {m : Nat} {f : FuncId} {args : List AV} {A : AW} {v : AV} {A' : AW} (h : bodyA P rec m f args A = some (v, A')) {ρ : Rn} {w : World}
    (hs : Sim P ρ A.live w) (hf : Free ρ A.next A'.next) : ReqOk P (.enter f args) ρ w A v A' := by
  intro xs hx cs
  obtain ⟨x, w', ρ', fr', s1, s2, s3, s4, s5, ⟨fn, s6, s7⟩, s8, s9, s10⟩ := body_run hm hrec hN h hs hf .normal hx cs
  exact ⟨.returned x, w', fr', ⟨x, ρ', rfl, s8, s9, s10⟩, s1, s5, s2, s3, s4, fn, by rw [s5]; exact s6, s7⟩

theorem body_off (hm : P.follows .mixedOrders = true) (hrec : RecOk P rec) (hN : Named P) {m : Nat} {f : FuncId} {args : List AV} {A : AW} {v : AV} {A' : AW} (h : bodyA P rec m f args A = some (v, A')) {ρ : Rn} {w : World}
    (hs : Sim P ρ A.live w) (hf : Free ρ A.next A'.next) : ReqOk P (.dfr f args) ρ w A v A' := by
  intro xs hx c cs hc
  obtain ⟨x, w', ρ', fr', s1, s2, s3, s4, s5, ⟨fn, s6, s7⟩, s8, s9, s10⟩ := body_run hm hrec hN h hs hf .deferred hx (c :: cs)
  refine ⟨.returned x, .returning, w', fr', ⟨rfl, x, ρ', rfl, s8, s9, s10⟩, ?_, s4, s2, s3, fn, by rw [s5]; exact s6, s7⟩
  have : ({ c with mode := .returning } : Frame) = c := by rw [← hc]
  rw [this]
  exact s1

theorem args_at {ρ : Rn} {nt : Nat} : ∀ (ps : List Tmp) (args : List AV) (xs : List Value) (T T' : Tr AV) (tmps : Array Value), argsAt nt ps args T = some T' → VRs ρ args xs → TR ρ nt T tmps →
    args.length = ps.length ∧ TR ρ nt T' ((ps.zip xs).foldl (fun tmps (t, a) => tmps.setIfInBounds t a) tmps)
  | [], [], xs, T, T', tmps, h, hx, ht => by cases h; cases hx; exact ⟨rfl, ht⟩
  | [], _ :: _, _, _, _, _, h, _, _ | _ :: _, [], _, _, _, _, h, _, _ => by simp [argsAt] at h
  | t :: ps, v :: args, xs, T, T', tmps, h, hx, ht => by
    cases hx with
    | cons h1 h2 =>
    rename_i x xs
    simp only [argsAt] at h
    split at h
    · rename_i hlt
      have hput : TR ρ nt (T.set t v) (tmps.setIfInBounds t x) :=
        TR.put (a := { tmps, defers := [] }) (d := some t) (T := T) ht hlt h1
      obtain ⟨l1, l2⟩ := args_at ps args xs _ T' _ h h2 hput
      exact ⟨by simp [l1], l2⟩
    · cases h

theorem round_sound (hm : P.follows .mixedOrders = true) (hrec : RecOk P rec) (hN : Named P) {m n : Nat} {args : List AV} {A : AW} {v : AV} {A' : AW} (h : roundA P rec m n args A = some (v, A')) {ρ : Rn} {w : World}
    (hs : Sim P ρ A.live w) (hf : Free ρ A.next A'.next) : ReqOk P (.round n args) ρ w A v A' := by
  intro xs l hl hx
  unfold roundA at h
  split at h
  · rename_i st pend f nt T ps as body d hget
    split at h
    · cases h
    · rename_i T1 hat
      split at h
      · rename_i j fr A1 hit
        split at h
        · rename_i st1 pend1 f1 nt1 T0 ps1 as1 b1 d1 hget1
          obtain ⟨tmps, ld, g1, g2, g3⟩ := hs.loopAt hget hl
          obtain ⟨l1, l2⟩ := args_at ps args xs T T1 tmps hat hx g3
          have hy := run_yield (P := P) (args := xs.toArray) g1 (by simp [hx.length, l1])
          simp only at hy
          refine ⟨f, _, as, body, hy, trivial, fun c cs _ => ?_⟩
          let b : Frame := { (default : Frame) with fn := f, kind := .normal, roundOf := some l.blk }
          have hb0 : ∀ tm, Frame.round l.blk f tm as body .normal = b.atR { tmps := tm, defers := [] } [.code as, .beginRound, .code body] := fun tm => by
            simp [Frame.round, Frame.atR, b]
          have hzip : (ps.toArray.zip xs.toArray).foldl (fun tmps (t, a) => tmps.setIfInBounds t a) tmps = (ps.zip xs).foldl (fun tmps (t, a) => tmps.setIfInBounds t a) tmps := by
            rw [← Array.foldl_toList]; simp
          have hR : FrR ρ { fn := f, nt, rnd := some n, T := T1, defs := [] } b { tmps := (ps.toArray.zip xs.toArray).foldl (fun tmps (t, a) => tmps.setIfInBounds t a) tmps, defers := [] } :=
            ⟨rfl, by rw [hzip]; exact l2, ⟨l, hl, rfl⟩, .nil⟩
          have hnext : A'.next = A1.next := by split at h <;> (cases h; rfl)
          obtain ⟨a1, w1, ρ1, todo1, q1, q2, q3, q4, q5, q6, q7⟩ := items_sound hm hrec hN m _ _ _ _ _ _ hit ρ w _ b (c :: cs) hs (by rw [← hnext]; exact hf) hR
          have hl1 := q3.sub _ _ hl
          obtain ⟨tmps1, ld1, k1, k2, k3⟩ := q2.loopAt hget1 hl1
          have hlive : A1.live n = some (.loop st1 pend1 f1 nt1 T0 ps1 as1 b1 d1) := live_of_get hget1 (by simp)
          have hlt : l.blk < w1.heap.size := (Array.getElem?_eq_some_iff.1 k1).1
          have fin : ∀ (jump : Option Code), ∃ w2, (Instr.endRound l.blk jump).run P w1 = .ok (.bool jump.isNone) w2 ∧
              Sim P ρ1 (A1.set n (.loop (if jump.isNone then .ready else .done) jump f1 nt1 T0 ps1 as1 b1 d1)).live w2 ∧ Ext ρ1 w1 A1 ρ1 w2 (A1.set n (.loop (if jump.isNone then .ready else .done) jump f1 nt1 T0 ps1 as1 b1 d1)) := by
            intro jump
            refine ⟨_, run_endRound jump k1, q2.setAt hlive hl1 (World.putObj_heap_same hlt) ⟨tmps1, ld1, rfl, k2, k3⟩ putObj_other, Ext.setAt hlive hl1 putObj_other World.putObj_size rfl rfl rfl⟩
          split at h
          · cases h
            obtain ⟨w2, e1, e2, e3⟩ := fin none
            refine ⟨.returned (.bool true), w2, ⟨_, ρ1, rfl, .flat _, e2, q3.trans e3⟩, comesIn_wide.2 ?_⟩
            rw [hb0]
            obtain rfl : todo1 = [] := q7
            exact Steps.trans q1 (.one (stepR_round_end rfl rfl e1))
          · rename_i cj
            cases h
            obtain ⟨w2, e1, e2, e3⟩ := fin (some cj)
            refine ⟨.returned (.bool false), w2, ⟨_, ρ1, rfl, .flat _, e2, q3.trans e3⟩, comesIn_wide.2 ?_⟩
            rw [hb0]
            rcases q7 with ⟨rfl, k, rfl⟩ | ⟨id, k, rfl, hk, rfl⟩ | ⟨lb, k, rfl, hk, rfl⟩
            · exact Steps.trans q1 (.one (stepR_round_ret rfl rfl e1))
            · exact Steps.trans q1 (.one (stepR_round_exit rfl rfl hk e1))
            · exact Steps.trans q1 (.one (stepR_round_goto rfl rfl hk e1))
        · cases h
      · cases h
  · cases h

/-! ### A row of picks, sorted -/

theorem inserts_mem {α : Type} (x : α) : ∀ (s t : List α), s ++ x :: t ∈ inserts x (s ++ t)
  | [], [] => by simp [inserts]
  | [], y :: t => by simp [inserts]
  | y :: s, t => by
    simp only [List.cons_append, inserts, List.mem_cons, List.mem_map]
    exact .inr ⟨_, inserts_mem x s t, rfl⟩

theorem perms_mem {α : Type} : ∀ (k l : List α), l.Perm k → l ∈ perms k
  | [], l, h => by rw [List.Perm.eq_nil h]; simp [perms]
  | x :: k, l, h => by
    obtain ⟨s, t, rfl⟩ := List.append_of_mem ((h.mem_iff (a := x)).2 (by simp))
    have h2 : (s ++ t).Perm k := (List.perm_middle.symm.trans h).cons_inv
    simp only [perms, List.mem_flatMap]
    exact ⟨s ++ t, perms_mem k _ h2, inserts_mem x s t⟩

theorem orders_spec {f : FuncId} {args : List AV} {n next : Nat} {t : TypeId} : ∀ {ls : List (List AV)} {v : AV} {r : List AV}, orders rec f args n next t ls = some (v, r) →
    ∀ l ∈ ls, ∃ A, rec (.enter f args) ⟨Tr.lf.set n (.cells l t), next⟩ = some (v, A) ∧ A.get n = some (.cells r t) ∧ A.next = next
  | [], v, r, h, l, hl => by cases hl
  | [l0], v, r, h, l, hl => by
    simp at hl; subst hl
    simp only [orders] at h
    split at h
    · rename_i v1 A1 hr
      split at h
      · rename_i r1 t1 hg
        split at h
        · rename_i hb
          simp only [Bool.and_eq_true] at hb
          cases h
          exact ⟨A1, hr, by rw [hg, Nat.eq_of_beq_eq_true hb.2], Nat.eq_of_beq_eq_true hb.1⟩
        · cases h
      · cases h
    · cases h
  | l0 :: l1 :: ls, v, r, h, l, hl => by
    simp only [orders] at h
    split at h
    · rename_i v1 A1 hr
      split at h
      · rename_i r1 t1 hg
        split at h
        · rename_i v2 r2 h2
          split at h
          · rename_i hb
            simp only [Bool.and_eq_true] at hb
            obtain ⟨⟨⟨b1, b2⟩, b3⟩, b4⟩ := hb
            cases h
            have e1 := aSame_spec b3
            have e2 := asSame_spec b4
            subst e1; subst e2
            rcases List.mem_cons.1 hl with rfl | hl
            · exact ⟨A1, hr, by rw [hg, Nat.eq_of_beq_eq_true b2], Nat.eq_of_beq_eq_true b1⟩
            · exact orders_spec (by simpa only [orders] using h2) l hl
          · cases h
        · cases h
      · cases h
    · cases h

theorem picks_cells {ρ : Rn} {i : Nat} {keys : List AV} : ∀ {ns : List Nat} {row : List AV} {idx : List Nat}, allPicks i keys ns row = true → Drawn ρ ns idx →
    ∀ (k : Nat) (a : AV), row[k]? = some a → ∀ v, VR ρ a v → ∃ x, (idx.map fun j => keys.getD j undefA)[k]? = some x ∧ VR ρ x v
  | [], [], _, _, _, k, a, h, _, _ => by simp at h
  | [], _ :: _, _, h, _, _, _, _, _, _ => by simp [allPicks] at h
  | _ :: _, [], _, h, _, _, _, _, _, _ => by simp [allPicks] at h
  | n :: ns, b :: row, idx, h, hd, k, a, hk, v, hv => by
    cases b <;> simp only [allPicks, Bool.false_eq_true] at h
    rename_i m j l
    simp only [Bool.and_eq_true] at h
    obtain ⟨⟨⟨h1, h2⟩, h3⟩, h4⟩ := h
    have e1 := Nat.eq_of_beq_eq_true h1; subst e1
    have e3 := asSame_spec h3; subst e3
    cases hd with
    | cons hc hd =>
    rename_i c is
    cases k with
    | zero =>
      simp at hk; subst hk
      cases hv with
      | pick _ e1 e2 e3 e4 =>
      rw [hc] at e1; cases e1
      refine ⟨_, ?_, e4⟩
      simp [List.getD_eq_getElem?_getD, e2]
    | succ k =>
      simp at hk
      obtain ⟨x, x1, x2⟩ := picks_cells h4 hd k a hk v hv
      exact ⟨x, by simpa using x1, x2⟩

theorem allPicks_len {i : Nat} {keys : List AV} : ∀ {ns : List Nat} {row : List AV}, allPicks i keys ns row = true → row.length = ns.length
  | [], [], _ => rfl
  | [], _ :: _, h => by simp [allPicks] at h
  | _ :: _, [], h => by simp [allPicks] at h
  | n :: ns, b :: row, h => by
    cases b <;> simp only [allPicks, Bool.false_eq_true] at h
    simp only [Bool.and_eq_true] at h
    simp [allPicks_len h.2]

theorem sort_sound (hrec : RecOk P rec) {f : FuncId} {args : List AV} {A : AW} {v : AV} {A' : AW} (h : sortA P rec f args A = some (v, A')) {ρ : Rn} {w : World}
    (hs : Sim P ρ A.live w) : ReqOk P (.enter f args) ρ w A v A' := by
  intro xs hx
  unfold sortA at h
  split at h
  · rename_i n o len cap opn
    split at h
    · rename_i m i keys r t hg
      split at h
      · rename_i mm since seen bs last hgi
        split at h
        · rename_i hb
          simp only [Bool.and_eq_true] at hb
          obtain ⟨⟨⟨hb1, hb2⟩, hb3⟩, hb4⟩ := hb
          split at h
          · rename_i v1 rr ho
            cases h
            have hb2 := Nat.eq_of_beq_eq_true hb2
            have hb3 := Nat.eq_of_beq_eq_true hb3
            have hlive : A.live n = some (.cells (.pick m i keys :: r) t) := live_of_get hg (by simp)
            obtain ⟨ln, on, n1, n2, n3⟩ := hs.obj n _ hlive
            obtain ⟨li, oi, i1, i2, i3, mr, sn, i4, i5, idx, d1, d2, d3, d4⟩ := hs.obj i _ (live_of_get hgi (by simp))
            have hil : idx.length = keys.length := by rw [d1.length]; omega
            -- the order that has come
            have hperm : (idx.map fun j => keys.getD j undefA).Perm keys := by
              have p1 : idx.Perm (List.range keys.length) := by
                rw [List.perm_ext_iff_of_nodup d2 List.nodup_range]
                intro a
                constructor
                · intro ha; have := d3 a ha; simp; omega
                · intro ha; exact nodup_full d2 (fun i hi => by have := d3 i hi; omega) hil a (by simpa using ha)
              have p2 := p1.map fun j => keys.getD j undefA
              have p3 : (List.range keys.length).map (fun j => keys.getD j undefA) = keys := by
                apply List.ext_getElem?
                intro j
                by_cases hj : j < keys.length
                · simp [hj, List.getD_eq_getElem?_getD]
                · rw [List.getElem?_eq_none (by simp; omega), List.getElem?_eq_none (by omega)]
              rw [p3] at p2
              exact p2
            obtain ⟨A1, a1, a2, a3⟩ := orders_spec ho _ (perms_mem _ _ hperm)
            generalize hrow : (idx.map fun j => keys.getD j undefA) = row at a1 hperm
            have hrl : row.length = (AV.pick m i keys :: r).length := by rw [← hrow, List.length_map, d1.length, allPicks_len hb1]
            -- the memory of this one row
            have hone : ∀ k ao, (⟨Tr.lf.set n (.cells row t), A.next⟩ : AW).live k = some ao → k = n ∧ ao = .cells row t := by
              intro k ao hk
              unfold AW.live AW.get at hk
              simp only [Tr.get_set] at hk
              by_cases e : k = n
              · rw [if_pos e] at hk; exact ⟨e, by simpa using hk.symm⟩
              · rw [if_neg e] at hk; simp [Tr.get_lf] at hk
            have s1 : Sim P ρ (⟨Tr.lf.set n (.cells row t), A.next⟩ : AW).live w := by
              constructor
              · intro k ao hk
                obtain ⟨rfl, rfl⟩ := hone k ao hk
                refine ⟨ln, on, n1, n2, ?_⟩
                obtain ⟨C, fz, c1, c2, c3, c4⟩ := n3
                refine ⟨C, fz, c1, by rw [hrl]; exact c2, c3, fun j a ha => ?_⟩
                have hjl : j < (AV.pick m i keys :: r).length := by rw [← hrl]; exact (List.getElem?_eq_some_iff.1 ha).1
                obtain ⟨u, u1, u2⟩ := c4 j _ (List.getElem?_eq_getElem hjl)
                obtain ⟨x, x1, x2⟩ := picks_cells hb1 d1 j _ (List.getElem?_eq_getElem hjl) u u2
                rw [hrow, ha] at x1; cases x1
                exact ⟨u, u1, x2⟩
              · intro k k' a b l l' h1 h2 _ _ _
                rw [(hone k a h1).1, (hone k' b h2).1]
            have hfree : Free ρ (⟨Tr.lf.set n (.cells row t), A.next⟩ : AW).next A1.next := fun k h1 h2 => by
              rw [a3] at h2; exact absurd h2 (by simp at h1; omega)
            refine (hrec _ _ _ _ a1 ρ w s1 hfree xs hx).mono ?_
            rintro e w' ⟨x, ρ', rfl, h1, h2, h3⟩
            have hρ : ρ' = ρ := by
              funext k
              cases e : ρ k with
              | some l => exact h3.sub _ _ e
              | none =>
                cases e' : ρ' k with
                | none => rfl
                | some l =>
                  have := h3.fresh k e (by rw [e']; simp)
                  simp only [a3] at this; omega
            subst hρ
            have hkeep : ∀ b, b < w.heap.size → b ≠ ln.blk → w'.heap[b]? = w.heap[b]? := fun b hb hne => h3.keep b hb fun k ao l hk hl he => by
              obtain ⟨rfl, _⟩ := hone k ao hk
              rw [n1] at hl; cases hl; exact hne he.symm
            have hset : ∀ k am, (A.set n (.cells rr t)).live k = some am → (k = n ∧ am = .cells rr t) ∨ (k ≠ n ∧ A.live k = some am) := by
              intro k am hk
              rw [live_set] at hk
              by_cases e : k = n
              · rw [if_pos e] at hk; exact .inl ⟨e, by simpa using hk.symm⟩
              · rw [if_neg e] at hk; exact .inr ⟨e, hk⟩
            have hlv : ∀ k am, (A.set n (.cells rr t)).live k = some am → ∃ a, A.live k = some a := fun k am hk => by
              rcases hset k am hk with ⟨rfl, _⟩ | ⟨_, h⟩
              · exact ⟨_, hlive⟩
              · exact ⟨_, h⟩
            refine ⟨x, ρ', rfl, h1, ⟨?_, ?_⟩, ?_⟩
            · intro k am hk
              rcases hset k am hk with ⟨rfl, rfl⟩ | ⟨hne, hk⟩
              · exact h2.obj k _ (live_of_get a2 (by simp))
              · obtain ⟨l, ob, o1, o2, o3⟩ := hs.obj k am hk
                refine ⟨l, ob, o1, ?_, o3⟩
                rw [hkeep _ (Array.getElem?_eq_some_iff.1 o2).1 fun e => hne (hs.inj k n am _ l ln hk hlive o1 n1 e)]
                exact o2
            · intro k k' a b l l' h1' h2' e1 e2 he
              obtain ⟨a', ha⟩ := hlv k a h1'
              obtain ⟨b', hb'⟩ := hlv k' b h2'
              exact hs.inj k k' a' b' l l' ha hb' e1 e2 he
            · exact ⟨Sub.refl _, fun _ e k => absurd e k, Nat.le_refl _, fun k am hk => .inl (hlv k am hk),
                fun k am l hk e => by obtain ⟨a', ha⟩ := hlv k am hk; exact .inr ⟨k, a', l, ha, e, rfl⟩,
                fun b hb hn => hkeep b hb fun e => hn n _ ln hlive n1 e.symm, h3.size, h3.os, h3.tape, h3.output⟩
          · cases h
        · cases h
      · cases h
    · cases h
  · cases h

/-- the functions of hk are true, in whatever world -/
def HooksOk (P : Program) (hk : FuncId → Bool) : Prop := ∀ f, hk f = true → ∀ w, Calls P f #[] w fun e w' => e = .returned (.bool true) ∧ RowKit.Below w.heap.size w w'

theorem hook_sound {hk : FuncId → Bool} (hh : HooksOk P hk) {f : FuncId} (hf : hk f = true) {A : AW} {ρ : Rn} {w : World} (hs : Sim P ρ A.live w) : ReqOk P (.enter f []) ρ w A (.flat (.bool true)) A := by
  intro xs hx
  cases hx
  refine (hh f hf w).mono ?_
  rintro e w' ⟨rfl, hb⟩
  have hold : ∀ n ao l, A.live n = some ao → ρ n = some l → w'.heap[l.blk]? = w.heap[l.blk]? := fun n ao l hn hl => by
    obtain ⟨l', o, e1, e2, _⟩ := hs.obj n ao hn
    rw [hl] at e1; cases e1
    exact hb.block _ (Array.getElem?_eq_some_iff.1 e2).1
  refine ⟨.bool true, ρ, rfl, .flat _, ⟨fun n ao hn => ?_, hs.inj⟩, ⟨Sub.refl _, fun _ e k => absurd e k, Nat.le_refl _, fun n ao h => .inl ⟨ao, h⟩, fun n ao l h e => .inr ⟨n, ao, l, h, e, rfl⟩, fun b hb' _ => hb.block b hb', hb.size, hb.os, hb.tape, hb.output⟩⟩
  obtain ⟨l, o, e1, e2, e3⟩ := hs.obj n ao hn
  exact ⟨l, o, e1, by rw [hold n ao l hn e1]; exact e2, e3⟩

theorem req_sound (hm : P.follows .mixedOrders = true) (hN : Named P) {hk : FuncId → Bool} (hh : HooksOk P hk) (m : Nat) : ∀ d, RecOk P (reqA P hk m d)
  | 0 => fun rq A v A' h => by simp [reqA] at h
  | d + 1 => fun rq A v A' h ρ w hs hf => by
    have ih := req_sound hm hN hh m d
    cases rq with
    | enter f args =>
      simp only [reqA] at h
      split at h
      · rename_i hb
        simp only [Bool.and_eq_true, List.isEmpty_iff] at hb
        cases h
        obtain ⟨h1, rfl⟩ := hb
        exact hook_sound hh h1 hs
      · split at h
        · exact sort_sound ih h hs
        · exact body_sound hm ih hN h hs hf
    | round n args =>
      simp only [reqA] at h
      exact round_sound hm ih hN h hs hf
    | dfr f args =>
      simp only [reqA] at h
      exact body_off hm ih hN h hs hf

/-- a function that is told true, of arguments of which so much is known, is true, in whatever world -/
theorem top_sound (hm : P.follows .mixedOrders = true) (hN : Named P) {hk : FuncId → Bool} (hh : HooksOk P hk) {m d : Nat} {f : FuncId} {args : List AV} (h : topA P hk m d f args = true) {xs : List Value} (hx : VRs (fun _ => none) args xs) (w : World) :
    Calls P f xs.toArray w fun e w' => e = .returned (.bool true) ∧ RowKit.Below w.heap.size w w' := by
  unfold topA isTrue at h
  split at h
  · rename_i b A' hr
    subst h
    have hs : Sim P (fun _ => none) (⟨.lf, 0⟩ : AW).live w := ⟨fun n ao h => by simp [AW.live, AW.get, Tr.get_lf] at h, fun n m a b l l' h => by simp [AW.live, AW.get, Tr.get_lf] at h⟩
    refine (req_sound hm hN hh m d _ _ _ _ hr _ w hs (fun _ _ _ => rfl) xs hx).mono ?_
    rintro e w' ⟨x, ρ', rfl, h1, h2, h3⟩
    cases h1
    exact ⟨rfl, h3.os, h3.tape, h3.output, h3.size, fun k hk => h3.keep k hk fun n ao l h => by simp [AW.live, AW.get, Tr.get_lf] at h⟩
  · cases h

theorem noHooks : HooksOk P noHook := fun f h => by cases h
theorem hooks_of {f : FuncId} (h : ∀ w, Calls P f #[] w fun e w' => e = .returned (.bool true) ∧ RowKit.Below w.heap.size w w') : HooksOk P (hook f) := fun g hg w => by
  have : g = f := Nat.eq_of_beq_eq_true hg
  subst this; exact h w

/-- no function of the program's own bears the name of the one that counts goroutines -/
theorem named_of (h : (P.funcs.toList.all fun fn => !(fn.name == "runtime.NumGoroutine")) = true) : Named P := fun f fn hf => by
  have := List.all_eq_true.1 h fn (by simpa using Array.mem_of_getElem? hf)
  simpa using this
end
end Go.Proofs.YtjhaccpljgdlpaaGreat.Ab
