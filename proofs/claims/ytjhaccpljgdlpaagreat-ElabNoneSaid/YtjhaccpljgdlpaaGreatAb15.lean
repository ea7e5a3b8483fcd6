/-
  Regions over the abstract memory: operations one behind the other.
-/
import Derived.Test.YtjhaccpljgdlpaaGreatAb14
import Derived.Test.YtjhaccpljgdlpaaGreatAb1
import Derived.OrdersIn
import Derived.Defers
namespace Go.Proofs.YtjhaccpljgdlpaaGreat.Ab
open Go
section
variable {P : Program} {ρ : Rn} {A : AW} {w : World}

def Fw (ro : Option Nat) : Fence := { fn := fun _ => True, depth := none, alive := false, round := ro }

theorem calls_fw {ro : Option Nat} {n : Nat} {f : FuncId} {args : Array Value} {R : Ending → World → Prop} (h : Calls P f args w R) : CallsIn (Fw ro) n P f args w R :=
  (callsIn_wide.2 h : CallsIn Fence.wide n P f args w R)

def Outc (P : Program) (ρ : Rn) (w : World) (A : AW) (v : AV) (A' : AW) : Ending → World → Prop := fun e w' =>
  ∃ x ρ', e = .returned x ∧ VR ρ' v x ∧ Sim P ρ' A'.live w' ∧ Ext ρ w A ρ' w' A'

/-- what was put off -/
inductive DefsR (ρ : Rn) : List Def → List Deferred → Prop
  | nil : DefsR ρ [] []
  | mark {r : Nat} {l : Loc} {rs : List Def} {ds : List Deferred} : ρ r = some l → DefsR ρ rs ds → DefsR ρ (.mark r :: rs) ({ target := .collected l.blk, args := #[] } :: ds)
  | call (f : FuncId) {args cap : List AV} {xs cs : List Value} {rs : List Def} {ds : List Deferred} : VRs ρ args xs → VRs ρ cap cs → DefsR ρ rs ds → DefsR ρ (.call f args cap :: rs) ({ target := .fn (.func f) cs.toArray, args := xs.toArray } :: ds)
theorem DefsR.mono {ρ ρ' : Rn} (s : Sub ρ ρ') {rs : List Def} {ds : List Deferred} (h : DefsR ρ rs ds) : DefsR ρ' rs ds := by
  induction h with
  | nil => exact .nil
  | mark a _ ih => exact .mark (s _ _ a) ih
  | call f a b _ ih => exact .call f (a.mono s) (b.mono s) ih
theorem DefsR.append {ρ : Rn} {rs rs' : List Def} {ds ds' : List Deferred} (h : DefsR ρ rs ds) (k : DefsR ρ rs' ds') : DefsR ρ (rs ++ rs') (ds ++ ds') := by
  induction h with
  | nil => exact k
  | mark a _ ih => exact .mark a ih
  | call f a b _ ih => exact .call f a b ih

def ReqOk (P : Program) (rq : Req) (ρ : Rn) (w : World) (A : AW) (v : AV) (A' : AW) : Prop :=
  match rq with
  | .enter f args => ∀ xs, VRs ρ args xs → Calls P f xs.toArray w (Outc P ρ w A v A')
  | .dfr f args => ∀ xs, VRs ρ args xs → CallsD P f xs.toArray .returning w (fun e u' w' => u' = .returning ∧ Outc P ρ w A v A' e w')
  | .round n args => ∀ xs l, ρ n = some l → VRs ρ args xs → ∃ f tmps as body, (Instr.yield l.blk xs.toArray).run P w = .ok (.round l.blk f tmps as body) w ∧
      RoundIn Fence.wide 0 P l.blk f tmps as body w (Outc P ρ w A v A')

def RecOk (P : Program) (rec : Rec) : Prop := ∀ rq A v A', rec rq A = some (v, A') → ∀ ρ w, Sim P ρ A.live w → Free ρ A.next A'.next → ReqOk P rq ρ w A v A'

theorem TR.ev {nt : Nat} {T : Tr AV} {a : Act} (h : TR ρ nt T a.tmps) (x : Operand) : VR ρ (Ab.ev T x) (a.eval x) := by
  cases x with
  | tmp t => exact h.2 t
  | const v => exact VR.fromV v
  | global g => exact .flat _
  | func f => exact VR.fn f .nil .nil

theorem setT_get (T : Tr AV) (d : Option Tmp) (v : AV) (t : Nat) : (setT T d v).get t = if d = some t then some v else T.get t := by
  cases d with
  | none => simp [setT]
  | some d =>
    simp only [setT, Tr.get_set]
    by_cases h : t = d
    · simp [h]
    · rw [if_neg h, if_neg (by simpa using fun e => h e.symm)]

theorem put_getD (a : Act) {nt : Nat} (hn : a.tmps.size = nt) (d : Option Tmp) (x : Value) (hd : dstOk nt d = true) (t : Nat) : (a.put d x).tmps.getD t undef = if d = some t then x else a.tmps.getD t undef := by
  cases d with
  | none => simp [Act.put]
  | some d =>
    have hlt : d < a.tmps.size := by simpa [dstOk, hn] using hd
    simp only [Act.put]
    by_cases h : d = t
    · subst h
      simp [Array.getD_eq_getD_getElem?, hlt]
    · rw [if_neg (by simpa using h)]
      simp [Array.getD_eq_getD_getElem?, Array.getElem?_setIfInBounds_ne h]

theorem put_size (a : Act) (d : Option Tmp) (x : Value) : (a.put d x).tmps.size = a.tmps.size := by
  cases d <;> simp [Act.put]
theorem put_defers (a : Act) (d : Option Tmp) (x : Value) : (a.put d x).defers = a.defers := by
  cases d <;> rfl

theorem TR.put {nt : Nat} {T : Tr AV} {a : Act} {d : Option Tmp} {v : AV} {x : Value} (h : TR ρ nt T a.tmps) (hd : dstOk nt d = true) (hx : VR ρ v x) : TR ρ nt (setT T d v) (a.put d x).tmps := by
  refine ⟨(put_size a d x).trans h.1, fun t => ?_⟩
  rw [setT_get, put_getD a h.1 d x hd]
  by_cases e : d = some t
  · rw [if_pos e, if_pos e]; exact hx
  · rw [if_neg e, if_neg e]; exact h.2 t

theorem TR.congr {nt : Nat} {T T' : Tr AV} {tmps : Array Value} (h : TR ρ nt T tmps) (e : ∀ t, T'.get t = T.get t) : TR ρ nt T' tmps := ⟨h.1, fun t => by rw [e]; exact h.2 t⟩

theorem want_sound' {ops : Array Oper} {T : Tr AV} {o : Oper} {b : Bool} {tmps : Array Value}
    (h : ∀ j w, o.guard = some (j, w) → ∀ d, (ops[j]?).bind (·.dst) = some d → VR ρ ((T.get d).getD undefA) (tmps.getD d undef)) (hw : wantA ops T o = some b) : Region.wanted o (yielded ops tmps) = b := by
  unfold wantA at hw
  unfold Region.wanted
  split at hw
  · rename_i hg; rw [hg]; cases hw; rfl
  · rename_i j want hg
    rw [hg]
    simp only
    split at hw
    · rename_i hd
      cases hw
      simp [yielded, hd]
    · rename_i d hd
      have hv := h j want hg d hd
      split at hw
      · rename_i b' e
        cases hw
        rw [e] at hv
        generalize hx : tmps.getD d undef = x at hv
        cases hv
        have : tmps[d]? = some (.bool b') := by
          rw [Array.getD_eq_getD_getElem?] at hx
          cases ht : tmps[d]? with
          | none => rw [ht] at hx; simp [undef] at hx
          | some y => rw [ht] at hx; simp at hx; rw [hx]
        simp [yielded, hd, this]
      · rename_i v hnb e
        cases hw
        rw [e] at hv
        generalize hx : tmps.getD d undef = x at hv
        cases hv
        have : ∀ b, tmps[d]? ≠ some (.bool b) := by
          intro b hb
          rw [Array.getD_eq_getD_getElem?, hb] at hx
          simp at hx
          try exact hnb b hx.symm
        have hy : yielded ops tmps j = none := by
          unfold yielded
          rw [hd]
          simp only [Option.bind_some]
          all_goals (split <;> first | rfl | (rename_i b hb; exact absurd hb (this b)))
        rw [hy]
        try rfl
      · cases hw

theorem want_sound {ops : Array Oper} {nt : Nat} {T : Tr AV} {o : Oper} {b : Bool} {a : Act} (h : TR ρ nt T a.tmps) (hw : wantA ops T o = some b) : Region.wanted o (yielded ops a.tmps) = b :=
  want_sound' (fun _ _ _ d _ => h.2 d) hw

section wp
variable {ro : Option Nat} {n : Nat} {o : Oper} {a : Act} {next : Act → World → Prop} {Q : Exit → Act → World → Prop}

theorem gives_upon {res : Result Next} {x : Value} {w' : World} (h : Gives res x w') (k : next (a.put o.dst x) w') : o.uponIn (Fw ro) n P a next Q res := by
  rcases h with rfl | ⟨rfl, rfl⟩
  · exact k
  · exact k

theorem sem_of {T : Tr AV} {r : AR} (h : opA P T A o = some r) (hr : ∀ f x y, r ≠ .dfr f x y) (e : Operand → Value) : o.semAt (Fw ro).round e = execOp e o :=
  Oper.semAt_eq _ _ _ fun c hc => by
    simp only [opA, hc] at h
    split at h
    · split at h
      · cases h; exact hr _ _ _ rfl
      · cases h
    · cases h

theorem val_wp (hs : Sim P ρ A.live w) (hN : Named P) {T : Tr AV} {v : AV} (h : opA P T A o = some (.val v)) (hv : ∀ x ∈ o.op.operands.toList, VR ρ (Ab.ev T x) (a.eval x))
    (hnext : ∀ x, VR ρ v x → next (a.put o.dst x) w) : o.wpIn (Fw ro) n P a w next Q := by
  refine ⟨fun _ _ => trivial, ?_⟩
  rw [sem_of h (by intros; simp)]
  obtain ⟨x, g, k⟩ := op_sound hs hN h hv
  exact gives_upon g (hnext x k)

theorem step_wp {rec : Rec} (hrec : RecOk P rec) (hs : Sim P ρ A.live w) (hN : Named P) {ops : Array Oper} {T : Tr AV} {loud : Bool} {v : AV} {A' : AW} (h : stepA P rec ops o T A = some (loud, v, A')) (hw : wantA ops T o = some true)
    (hf : Free ρ A.next A'.next) (hv : ∀ x ∈ o.op.operands.toList, VR ρ (Ab.ev T x) (a.eval x))
    (hnext : ∀ x ρ' w', VR ρ' v x → Sim P ρ' A'.live w' → Ext ρ w A ρ' w' A' → next (a.put o.dst x) w') : o.wpIn (Fw ro) n P a w next Q := by
  unfold stepA at h
  rw [hw] at h
  simp only [opF_eq] at h
  split at h
  · cases h
  · rename_i v' hop
    cases h
    exact val_wp hs hN hop hv fun x hx => hnext x ρ w hx hs (Ext.refl _ _ _)
  · rename_i v' ob hop
    cases h
    refine ⟨fun _ _ => trivial, ?_⟩
    rw [sem_of hop (by intros; simp)]
    obtain ⟨x, obj, w', room, g, p, k⟩ := op_sound hs hN hop hv
    have hfr : ρ A.next = none := hf A.next (Nat.le_refl _) (by simp [AW.new])
    obtain ⟨k1, k2⟩ := k (upd ρ A.next ⟨w.heap.size, 0, room⟩) (upd_sub hfr) upd_at
    obtain ⟨s1, s2⟩ := hs.push p hfr k2
    exact gives_upon g (hnext x _ w' k1 s1 s2)
  · rename_i v' A1 hop
    split at h
    · cases h
      refine ⟨fun _ _ => trivial, ?_⟩
      rw [sem_of hop (by intros; simp)]
      obtain ⟨x, w', ρ', g, k1, k2, k3⟩ := op_sound hs hN hop hv hf
      exact gives_upon g (hnext x _ w' k1 k2 k3)
    · cases h
  · rename_i f args hop
    unfold calledA at h
    split at h
    · rename_i v1 A1 hr
      split at h
      · cases h
        refine ⟨fun _ _ => trivial, ?_⟩
        rw [sem_of hop (by intros; simp)]
        obtain ⟨xs, e, k⟩ := op_sound hs hN hop hv
        have e' := e
        unfold ArOk at *
        rw [e', Oper.uponIn_enter]
        refine ⟨fun hd => by simp [Fw] at hd, (calls_fw (hrec _ _ _ _ hr ρ w hs hf xs k)).mono ?_⟩
        rintro e w' ⟨x, ρ', rfl, h1, h2, h3⟩
        exact hnext x ρ' w' h1 h2 h3
      · cases h
    · cases h
  · rename_i m args hop
    unfold calledA at h
    split at h
    · rename_i v1 A1 hr
      split at h
      · cases h
        refine ⟨fun _ _ => trivial, ?_⟩
        rw [sem_of hop (by intros; simp)]
        obtain ⟨xs, l, hl, e, k⟩ := op_sound hs hN hop hv
        obtain ⟨f, tmps, as, body, y1, y2⟩ := hrec _ _ _ _ hr ρ w hs hf xs l hl k
        rw [e, y1, Oper.uponIn_round]
        refine ⟨fun hd => by simp [Fw] at hd, RoundIn.mono (F := Fw ro) (n := n - 1) (R := Outc P ρ w A v A') ⟨trivial, fun c cs _ => y2.2 c cs (room_wide _)⟩ ?_⟩
        rintro e w' ⟨x, ρ', rfl, h1, h2, h3⟩
        exact hnext x ρ' w' h1 h2 h3
      · cases h
    · cases h
  · cases h
end wp

theorem step_next {rec : Rec} {ops : Array Oper} {o : Oper} {T : Tr AV} {loud : Bool} {v : AV} {A' : AW} (h : stepA P rec ops o T A = some (loud, v, A')) : A.next ≤ A'.next ∧ (loud = false → A' = A) := by
  unfold stepA at h
  split at h
  · cases h
  · cases h; exact ⟨Nat.le_refl _, fun _ => rfl⟩
  · split at h
    · cases h
    · cases h; exact ⟨Nat.le_refl _, fun _ => rfl⟩
    · cases h; exact ⟨by simp [AW.new], fun e => by cases e⟩
    · split at h
      · rename_i hb; cases h; exact ⟨Nat.le_of_ble_eq_true hb, fun e => by cases e⟩
      · cases h
    all_goals first
      | (cases h; done)
      | (unfold calledA at h
         split at h
         · split at h
           · rename_i hb; cases h; exact ⟨Nat.le_of_ble_eq_true hb, fun e => by cases e⟩
           · cases h
         · cases h)

theorem opsA_cons {rec : Rec} {nt : Nat} {rnd : Bool} {ops : Array Oper} (o : Oper) (l : List Oper) (T : Tr AV) (A : AW) : opsA P rec nt rnd ops (o :: l) T A = opsStep P rec nt rnd ops o (opsA P rec nt rnd ops l) T A := rfl
theorem ops_next {rec : Rec} {nt : Nat} {rnd : Bool} {ops : Array Oper} : ∀ {l : List Oper} {T : Tr AV} {A : AW} {T' : Tr AV} {A' : AW} {xs : List Def}, opsA P rec nt rnd ops l T A = some (T', A', xs) → A.next ≤ A'.next
  | [], _, _, _, _, _, h => by cases h; exact Nat.le_refl _
  | o :: l, T, A, T', A', xs, h => by
    rw [opsA_cons] at h
    unfold opsStep at h
    split at h
    · unfold opsPut at h
      split at h
      · cases h
      · split at h
        · split at h
          · rename_i hr; cases h; exact ops_next hr
          · cases h
        · cases h
    · unfold opsGo at h
      split at h
      · rename_i b v A1 hst
        split at h
        · exact Nat.le_trans (step_next hst).1 (ops_next h)
        · cases h
      · cases h

theorem Free.first {ρ : Rn} {a b c : Nat} (h : Free ρ a c) (hb : b ≤ c) : Free ρ a b := fun n h1 h2 => h n h1 (by omega)

theorem skip_about {ro : Option Nat} {w : World} {o : Oper} {a : Act} : ∀ f, o.about P w a.eval = some f → (Fw ro).fn f := fun _ _ => trivial

theorem ops_sound {rec : Rec} (hrec : RecOk P rec) (hN : Named P) {ro : Option Nat} {n nt : Nat} {rnd : Bool} (hro : rnd = false → ro = none) {ops : Array Oper} {Q : Exit → Act → World → Prop} : ∀ (l : List Oper) (i : Nat) (T : Tr AV) (A : AW) (T' : Tr AV) (A' : AW) (xs : List Def) (ρ : Rn) (w : World) (a : Act),
    opsA P rec nt rnd ops l T A = some (T', A', xs) → ops.toList.drop i = l → Sim P ρ A.live w → Free ρ A.next A'.next → TR ρ nt T a.tmps →
    (∀ a' w' ρ' nd, a'.defers = nd ++ a.defers → DefsR ρ' xs nd → TR ρ' nt T' a'.tmps → Sim P ρ' A'.live w' → Ext ρ w A ρ' w' A' → Q .normal a' w') →
    wpOpsIn (Fw ro) n P ops Q (List.range' i l.length) a w
  | [], i, T, A, T', A', xs, ρ, w, a, h, _, hs, hf, ht, hQ => by
    cases h
    exact hQ a w ρ [] rfl .nil ht hs (Ext.refl _ _ _)
  | o :: l, i, T, A, T', A', xs, ρ, w, a, h, hdr, hs, hf, ht, hQ => by
    have hi : ops[i]? = some o := by
      have : (ops.toList.drop i)[0]? = some o := by rw [hdr]; rfl
      simpa [List.getElem?_drop] using this
    have hdr' : ops.toList.drop (i + 1) = l := by
      have : (ops.toList.drop i).drop 1 = l := by rw [hdr]; rfl
      simpa [List.drop_drop] using this
    rw [opsA_cons] at h
    unfold opsStep at h
    split at h
    · rename_i x hx
      unfold opsPut at h
      split at h
      · cases h
      · split at h
        · rename_i hdst
          split at h
          · rename_i T1 A1 xs1 hr
            cases h
            unfold deferA at hx
            simp only [opF_eq] at hx
            split at hx
            · rename_i c hc
              split at hx
              · rename_i hw
                split at hx
                · rename_i f args cap hop
                  cases hx
                  rw [List.length_cons, List.range'_succ]
                  simp only [wpOpsIn, hi]
                  rw [want_sound ht hw]
                  simp only [if_true]
                  refine ⟨fun _ _ => trivial, ?_⟩
                  obtain ⟨ys, cs, e, k1, k2⟩ := op_sound hs hN hop (c := a.eval) (fun x _ => ht.ev x)
                  have hr0 := hro rfl
                  subst hr0
                  have e2 : o.semAt (Fw none).round a.eval = execOp a.eval o := rfl
                  rw [e2, e, Oper.uponIn_defer]
                  refine ops_sound hrec hN hro l (i + 1) _ A T' A' xs1 ρ w _ hr hdr' hs hf (TR.put (a := { a with defers := _ }) ht hdst (.flat _)) fun a' w' ρ' nd d1 d2 d3 d4 d5 => ?_
                  refine hQ a' w' ρ' (nd ++ [{ target := .fn (.func f) cs.toArray, args := ys.toArray }]) ?_ (d2.append (.call f (k1.mono d5.sub) (k2.mono d5.sub) .nil)) d3 d4 d5
                  rw [d1, put_defers]; simp
                · cases hx
              · cases hx
            · cases hx
          · cases h
        · cases h
    · unfold opsGo at h
      split at h
      · rename_i b v A1 hst
        split at h
        · rename_i hdst
          have n1 := (step_next hst).1
          have n2 := ops_next h
          have key : ∀ x ρ' w', VR ρ' v x → Sim P ρ' A1.live w' → Ext ρ w A ρ' w' A1 → wpOpsIn (Fw ro) n P ops Q (List.range' (i + 1) l.length) (a.put o.dst x) w' := by
            intro x ρ' w' hx hs' he
            exact ops_sound hrec hN hro l (i + 1) _ A1 T' A' xs ρ' w' _ h hdr' hs' (hf.later he) ((ht.mono he.sub).put hdst hx)
              fun a' w'' ρ'' nd d1 d2 d3 d4 d5 => hQ a' w'' ρ'' nd (by rw [d1, put_defers]) d2 d3 d4 (he.trans d5)
          rw [List.length_cons, List.range'_succ]
          simp only [wpOpsIn, hi]
          cases hw : wantA ops T o with
          | none => simp [stepA, hw] at hst
          | some b' =>
            rw [want_sound ht hw]
            cases b' with
            | false =>
              simp only [stepA, hw] at hst
              cases hst
              simp only [Bool.false_eq_true, if_false]
              exact ⟨skip_about, key undef ρ w (.flat _) hs (Ext.refl _ _ _)⟩
            | true =>
              simp only [if_true]
              exact step_wp hrec hs hN hst hw (hf.first n2) (fun x _ => ht.ev x) key
        · cases h
      · cases h
end
end Go.Proofs.YtjhaccpljgdlpaaGreat.Ab
