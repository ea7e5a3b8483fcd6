/-
  Frames over the abstract memory: what stands to be done, one item behind the other.
-/
import Derived.Test.YtjhaccpljgdlpaaGreatAb17
import Derived.RangeFuncRecord
namespace Go.Proofs.YtjhaccpljgdlpaaGreat.Ab
open Go

def RndR (ρ : Rn) (rnd : Option Nat) (ro : Option Nat) : Prop :=
  match rnd with
  | none => ro = none
  | some n => ∃ l, ρ n = some l ∧ ro = some l.blk

structure FrR (ρ : Rn) (fr : Fr) (b : Frame) (a : Act) : Prop where
  fn : b.fn = fr.fn
  slots : TR ρ fr.nt fr.T a.tmps
  rnd : RndR ρ fr.rnd b.roundOf
  marks : DefsR ρ fr.defs a.defers

theorem RndR.mono {ρ ρ' : Rn} (s : Sub ρ ρ') {rnd ro : Option Nat} (h : RndR ρ rnd ro) : RndR ρ' rnd ro := by
  cases rnd with
  | none => exact h
  | some n => obtain ⟨l, a, b⟩ := h; exact ⟨l, s _ _ a, b⟩
theorem FrR.mono {ρ ρ' : Rn} (s : Sub ρ ρ') {fr : Fr} {b : Frame} {a : Act} (h : FrR ρ fr b a) : FrR ρ' fr b a := ⟨h.fn, h.slots.mono s, h.rnd.mono s, h.marks.mono s⟩

def Left (j : Jump) (rnd : Option Nat) (todo : List Item) : Prop :=
  match j, rnd with
  | .ret, none => todo = [] ∨ ∃ k, todo = .code .ret :: k
  | .ret, some _ => todo = []
  | .jump c, some _ => (c = .ret ∧ ∃ k, todo = .code .ret :: k) ∨ (∃ id k, c = .exit id ∧ exitTo id k = none ∧ todo = .code (.exit id) :: k) ∨ (∃ l k, c = .goto l ∧ gotoIn l k = none ∧ todo = .code (.goto l) :: k)
  | .jump _, none => False

section
variable {P : Program} {rec : Rec}

theorem region_next {nt : Nat} {rnd : Bool} {ops : Array Oper} {draw : Bool} {T : Tr AV} {A : AW} {T' : Tr AV} {A' : AW} {xs : List Def} (h : regionA P rec nt rnd ops draw T A = some (T', A', xs)) : A.next ≤ A'.next := by
  cases draw with
  | false => exact ops_next h
  | true =>
    simp only [regionA] at h
    split at h
    · rename_i hd; cases h; exact draw_next hd
    · cases h

theorem begin_next {fr : Fr} {A A1 : AW} {d : Nat} {defs : List Def} (h : beginA fr A = some (d, defs, A1)) : A.next ≤ A1.next := by
  unfold beginA at h
  split at h
  · split at h
    · cases h; exact Nat.le_refl _
    · cases h
  · cases h; simp [AW.new]

theorem after_next {self : Self} (ih : ∀ {fr : Fr} {todo : List Item} {A : AW} {j : Jump} {fr' : Fr} {A' : AW}, self fr todo A = some (j, fr', A') → A.next ≤ A'.next) {fr : Fr} {defs : List Def} {k : List Item} {l : Nat} {A3 : AW} {j : Jump} {fr' : Fr} {A' : AW}
    (h : itAfter self fr defs k l A3 = some (j, fr', A')) : A3.next ≤ A'.next := by
  unfold itAfter at h
  split at h
  · split at h
    · cases h
    · exact ih (A := A3.set l .dead) h
  · cases h

theorem items_next : ∀ {m : Nat} {fr : Fr} {todo : List Item} {A : AW} {j : Jump} {fr' : Fr} {A' : AW}, itemsA P rec m fr todo A = some (j, fr', A') → A.next ≤ A'.next
  | 0, _, _, _, _, _, _, h => by cases h
  | m + 1, fr, todo, A, j, fr', A', h => by
    have ih := @items_next m
    change itStep P rec (itemsA P rec m) fr todo A = _ at h
    unfold itStep at h
    split at h
    · cases h; exact Nat.le_refl _
    · rename_i it k
      unfold itItem at h
      split at h
      · rename_i c
        unfold itCode at h
        split at h
        · unfold itRet at h
          split at h <;> (cases h; exact Nat.le_refl _)
        · exact ih h
        · exact ih h
        · exact ih h
        · unfold itCond at h
          split at h
          · exact ih h
          · exact ih h
          · cases h
        · exact ih h
        · exact ih h
        · exact ih h
        · unfold itExit at h
          split at h
          · exact ih h
          · split at h
            · cases h; exact Nat.le_refl _
            · cases h
        · unfold itGoto at h
          split at h
          · exact ih h
          · split at h
            · cases h; exact Nat.le_refl _
            · cases h
        · unfold itRegion at h
          split at h
          · rename_i hr
            exact Nat.le_trans (region_next hr) (ih h)
          · cases h
        · unfold itRange at h
          split at h
          · cases h
          · rename_i d defs A1 hb
            have hb' := begin_next hb
            split at h
            · unfold itCall at h
              split at h
              · cases h
              · split at h
                · split at h
                  · rename_i hle
                    have := Nat.le_of_ble_eq_true hle
                    have h2 := after_next ih h
                    omega
                  · cases h
                · cases h
            · cases h
        · cases h
      · exact ih h
      · exact ih h
      · exact ih h
      · unfold itBegin at h
        split at h
        · split at h
          · exact ih (A := A.set _ _) h
          · cases h
        · cases h
      · cases h

theorem run_enterLoop_inner {w : World} {l : Nat} {r : Loop} (fn : FuncId) (tmps : Array Value) (ps : Array Tmp) (assign body : Code) (h : w.heap[l]? = some (.loop r)) :
    (Instr.enterLoop fn tmps ps assign body (some l)).run P w = .ok (w.heap.size, []) (w.alloc (.loop { state := .ready, pending := none, fn, tmps, params := ps, assign, body, defers := r.defers })) := by
  unfold Instr.enterLoop
  simp only [Sem.run_bind, run_getLoop h, run_newObj_alloc, Result.andThen, Sem.run_pure]

theorem pushed_alloc (w : World) (o : Obj) : Pushed w o (w.alloc o) := ⟨rfl, rfl, rfl, rfl⟩

theorem putObj_other {w : World} {r : Nat} {o : Obj} : ∀ b, b ≠ r → (w.putObj r o).heap[b]? = w.heap[b]? := fun _ h => World.putObj_heap_other h

/-- the loop's record in the world -/
theorem Sim.loopAt {ρ : Rn} {A : AW} {w : World} (hs : Sim P ρ A.live w) {n : Nat} {l : Loc} {st : LoopState} {pend : Option Code} {f : FuncId} {nt : Nat} {T : Tr AV} {ps : List Tmp} {as b : Code} {d : Nat}
    (h : A.get n = some (.loop st pend f nt T ps as b d)) (hl : ρ n = some l) :
    ∃ (tmps : Array Value) (ld : Loc), w.heap[l.blk]? = some (.loop { state := st, pending := pend, fn := f, tmps, params := ps.toArray, assign := as, body := b, defers := ld.blk }) ∧ ρ d = some ld ∧ TR ρ nt T tmps := by
  obtain ⟨l', o, h1, h2, tmps, ld, rfl, h4, h5⟩ := hs.obj n _ (live_of_get h (by simp))
  rw [hl] at h1; cases h1
  exact ⟨tmps, ld, h2, h4, h5⟩

theorem Sim.name {ρ : Rn} {A : AW} {w : World} (hs : Sim P ρ A.live w) {n : Nat} {ao : AO} (h : A.get n = some ao) (hd : ao ≠ .dead) : ∃ l, ρ n = some l := by
  obtain ⟨l, _, h1, _⟩ := hs.obj n _ (live_of_get h hd)
  exact ⟨l, h1⟩

/-- the entering of a range over a function -/
theorem enter_sound {ρ : Rn} {A : AW} {w : World} {fr : Fr} {b : Frame} {a : Act} (hs : Sim P ρ A.live w) (hR : FrR ρ fr b a) {d : Nat} {defs : List Def} {A1 : AW} (h : beginA fr A = some (d, defs, A1)) (hf : Free ρ A.next (A1.next + 1)) (ps : Array Tmp) (as body : Code) :
    ∃ l mark w1 ρ1, (Instr.enterLoop b.fn a.tmps ps as body b.roundOf).run P w = .ok (l, mark) w1 ∧ ρ1 A1.next = some ⟨l, 0, 0⟩ ∧
      Sim P ρ1 (A1.new (.loop .ready none fr.fn fr.nt fr.T ps.toList as body d)).live w1 ∧ Ext ρ w A ρ1 w1 (A1.new (.loop .ready none fr.fn fr.nt fr.T ps.toList as body d)) ∧ DefsR ρ1 defs (mark ++ a.defers) := by
  unfold beginA at h
  split at h
  · rename_i n hn
    split at h
    · rename_i st pend f nt T ps' as' b' d' hg
      cases h
      have hr := hR.rnd
      rw [hn] at hr
      obtain ⟨l, hl, hro⟩ := hr
      obtain ⟨tmps, ld, e1, e2, e3⟩ := hs.loopAt hg hl
      rw [hro]
      have hfr : ρ A.next = none := hf A.next (Nat.le_refl _) (by omega)
      have hsub := upd_sub (l := ⟨w.heap.size, 0, 0⟩) hfr
      obtain ⟨s1, s2⟩ := hs.push (A := A) (ao := .loop .ready none fr.fn fr.nt fr.T ps.toList as body d) (room := 0) (pushed_alloc w (.loop { state := .ready, pending := none, fn := b.fn, tmps := a.tmps, params := ps, assign := as, body, defers := ld.blk })) hfr
        ⟨a.tmps, ld, by rw [hR.fn], hsub _ _ e2, hR.slots.mono hsub⟩
      exact ⟨_, _, _, _, run_enterLoop_inner b.fn a.tmps ps as body e1, upd_at, s1, s2, hR.marks.mono hsub⟩
    · cases h
  · rename_i hn
    cases h
    have hr := hR.rnd
    rw [hn] at hr
    have hro : b.roundOf = none := hr
    rw [hro]
    have hfr : ρ A.next = none := hf A.next (Nat.le_refl _) (by simp [AW.new]; omega)
    have hsub := upd_sub (l := ⟨w.heap.size, 0, 0⟩) hfr
    obtain ⟨s1, s2⟩ := hs.push (A := A) (ao := .deferred false) (room := 0) (pushed_alloc w (.deferred (some []))) hfr rfl
    have hfr1 : upd ρ A.next ⟨w.heap.size, 0, 0⟩ (A.new (.deferred false)).next = none := by
      have : (A.new (.deferred false)).next ≠ A.next := by simp [AW.new]
      simp only [upd, if_neg this]
      exact hf _ (by simp [AW.new]) (by omega)
    have hsub1 := upd_sub (l := ⟨(w.alloc (.deferred (some []))).heap.size, 0, 0⟩) hfr1
    obtain ⟨s3, s4⟩ := s1.push (A := A.new (.deferred false)) (ao := .loop .ready none fr.fn fr.nt fr.T ps.toList as body A.next) (room := 0)
      (pushed_alloc (w.alloc (.deferred (some []))) (.loop { state := .ready, pending := none, fn := b.fn, tmps := a.tmps, params := ps, assign := as, body, defers := w.heap.size })) hfr1
      ⟨a.tmps, ⟨w.heap.size, 0, 0⟩, by rw [hR.fn], hsub1 _ _ upd_at, (hR.slots.mono hsub).mono hsub1⟩
    refine ⟨_, _, _, _, run_enterLoop_outer b.fn a.tmps ps as body, ?_, s3, s2.trans s4, .mark (hsub1 _ _ upd_at) ((hR.marks.mono hsub).mono hsub1)⟩
    rw [upd_at]
    simp

theorem range_call {_ρ : Rn} {_T : Tr AV} {w : World} {a : Act} (hN : Named P) {f : Operand} {g : FuncId} {_fst _cap : List AV} {fn : Func} {c : Code} {as bs : List Value} (l : Nat) (hv : a.eval f = .func (.func g) as.toArray bs.toArray) (hf : P.funcs[g]? = some fn) (hb : fn.body = some c) :
    ∃ d, (resolve a.eval (rangeCall f l) 0).run P w = .ok d w ∧ (invoke d.target d.args).run P w = .ok (.enter g (as ++ [Value.func (.yield l) #[] #[]] ++ bs).toArray) w := by
  refine ⟨{ target := .fn (.func g) bs.toArray, args := as.toArray ++ #[.func (.yield l) #[] #[]] }, ?_, ?_⟩
  · have e : resolve a.eval (rangeCall f l) 0 = Deferred.ofValue (a.eval f) #[.func (.yield l) #[] #[]] := by
      simp only [resolve]; congr 1; simp [Act.eval]
    rw [e, hv]; rfl
  · have := callFunc_body hf hb (hN _ _ hf) (as.toArray ++ #[.func (.yield l) #[] #[]] ++ bs.toArray) w
    simp only [invoke]
    rw [show (as ++ [Value.func (.yield l) #[] #[]] ++ bs).toArray = as.toArray ++ #[.func (.yield l) #[] #[]] ++ bs.toArray by simp]
    exact this

theorem step_scope {b : Frame} {a : Act} {k : List Item} {cs : List Frame} {w : World} {c : Code} :
    step P (lone (b.atR a (.code (.scope c) :: k)) cs w) = .next (lone (b.atR a (.code c :: .inScope c :: k)) cs w) :=
  step_lone_go (by simp [stepG, stepG.exec, Frame.atR])
theorem step_inScope {b : Frame} {a : Act} {k : List Item} {cs : List Frame} {w : World} {c : Code} :
    step P (lone (b.atR a (.inScope c :: k)) cs w) = .next (lone (b.atR a k) cs w) :=
  step_lone_go (by simp [stepG, stepG.exec, Frame.atR])

theorem items_sound (hm : P.follows .mixedOrders = true) (hrec : RecOk P rec) (hN : Named P) : ∀ (m : Nat) (fr : Fr) (todo : List Item) (A : AW) (j : Jump) (fr' : Fr) (A' : AW), itemsA P rec m fr todo A = some (j, fr', A') →
    ∀ (ρ : Rn) (w : World) (a : Act) (b : Frame) (cs : List Frame), Sim P ρ A.live w → Free ρ A.next A'.next → FrR ρ fr b a →
    ∃ a' w' ρ' todo', Steps P (lone (b.atR a todo) cs w) (lone (b.atR a' todo') cs w') ∧ Sim P ρ' A'.live w' ∧ Ext ρ w A ρ' w' A' ∧ FrR ρ' fr' b a' ∧ fr'.rnd = fr.rnd ∧ fr'.fn = fr.fn ∧ Left j fr.rnd todo'
  | 0, _, _, _, _, _, _, h => by cases h
  | m + 1, fr, todo, A, j, fr', A', h => by
    intro ρ w a b cs hs hf hR
    have ih := items_sound hm hrec hN m
    have go : ∀ {todo1 : List Item}, step P (lone (b.atR a todo) cs w) = .next (lone (b.atR a todo1) cs w) → itemsA P rec m fr todo1 A = some (j, fr', A') →
        ∃ a' w' ρ' todo', Steps P (lone (b.atR a todo) cs w) (lone (b.atR a' todo') cs w') ∧ Sim P ρ' A'.live w' ∧ Ext ρ w A ρ' w' A' ∧ FrR ρ' fr' b a' ∧ fr'.rnd = fr.rnd ∧ fr'.fn = fr.fn ∧ Left j fr.rnd todo' := by
      intro todo1 hst hit
      obtain ⟨a', w', ρ', todo', s1, s2⟩ := ih fr todo1 A j fr' A' hit ρ w a b cs hs hf hR
      exact ⟨a', w', ρ', todo', .head hst s1, s2⟩
    have stay : ∀ {j' : Jump}, some (j', fr, A) = some (j, fr', A') → Left j' fr.rnd todo →
        ∃ a' w' ρ' todo', Steps P (lone (b.atR a todo) cs w) (lone (b.atR a' todo') cs w') ∧ Sim P ρ' A'.live w' ∧ Ext ρ w A ρ' w' A' ∧ FrR ρ' fr' b a' ∧ fr'.rnd = fr.rnd ∧ fr'.fn = fr.fn ∧ Left j fr.rnd todo' := by
      intro j' e hl
      cases e
      exact ⟨a, w, ρ, todo, .refl P _, hs, Ext.refl _ _ _, hR, rfl, rfl, hl⟩
    change itStep P rec (itemsA P rec m) fr todo A = _ at h
    unfold itStep at h
    split at h
    · refine stay h ?_
      unfold Left; cases fr.rnd
      · exact .inl rfl
      · rfl
    · rename_i it k
      unfold itItem at h
      split at h
      · rename_i c
        unfold itCode at h
        split at h
        · unfold itRet at h
          cases hr : fr.rnd with
          | none =>
            rw [hr] at h
            have := stay h (by rw [hr]; exact .inr ⟨k, rfl⟩)
            rw [hr] at this; exact this
          | some n =>
            rw [hr] at h
            have := stay h (by rw [hr]; exact .inl ⟨rfl, k, rfl⟩)
            rw [hr] at this; exact this
        · exact go stepR_skip h
        · exact go stepR_label h
        · exact go stepR_seq h
        · rename_i c x y
          unfold itCond at h
          split at h
          · rename_i hc
            exact go (stepR_cond (t := true) (boolOf?_spec hc (hR.slots.ev c))) h
          · rename_i hc
            exact go (stepR_cond (t := false) (boolOf?_spec hc (hR.slots.ev c))) h
          · cases h
        · exact go stepR_block h
        · exact go stepR_loop h
        · exact go step_scope h
        · rename_i id
          unfold itExit at h
          split at h
          · rename_i k' hk
            exact go (stepR_exit hk) h
          · rename_i hk
            split at h
            · rename_i n hr
              have := stay h (by rw [hr]; exact .inr (.inl ⟨id, k, rfl, hk, rfl⟩))
              exact this
            · cases h
        · rename_i l
          unfold itGoto at h
          split at h
          · rename_i k' hk
            exact go (stepR_goto hk) h
          · rename_i hk
            split at h
            · rename_i n hr
              have := stay h (by rw [hr]; exact .inr (.inr ⟨l, k, rfl, hk, rfl⟩))
              exact this
            · cases h
        · -- a region
          rename_i id ops draw
          unfold itRegion at h
          split at h
          · rename_i T1 A1 xs hreg
            have n1 := region_next hreg
            have n2 := items_next h
            have hro : fr.rnd.isSome = false → b.roundOf = none := fun e => by
              have := hR.rnd
              cases hr : fr.rnd with
              | none => rw [hr] at this; exact this
              | some n => rw [hr] at e; cases e
            obtain ⟨e, a1, w1, ⟨rfl, ρ1, nd, hd, hdr, t1, s1, e1⟩, harr⟩ := region_sound (ro := b.roundOf) (n := 0) (id := id) hm hrec hN hro hreg hs (hf.first n2) hR.slots b k cs rfl trivial (fun d hd => by simp [Fw] at hd)
            have hR1 : FrR ρ1 { fr with T := T1, defs := xs ++ fr.defs } b a1 := ⟨hR.fn, t1, hR.rnd.mono e1.sub, by rw [hd]; exact hdr.append (hR.marks.mono e1.sub)⟩
            obtain ⟨a', w', ρ', todo', q1, q2, q3, q4, q5, q6, q7⟩ := ih { fr with T := T1, defs := xs ++ fr.defs } k A1 j fr' A' h ρ1 w1 a1 b cs s1 (hf.later e1) hR1
            exact ⟨a', w', ρ', todo', Steps.trans (StepsIn.steps harr) q1, q2, e1.trans q3, q4, q5, q6, q7⟩
          · cases h
        · -- a range over a function
          rename_i f ps as body
          unfold itRange at h
          split at h
          · cases h
          · rename_i d defs A1 hb
            have hb' : beginA fr A = some (d, defs, A1) := hb
            split at h
            · rename_i g fst cap hev
              unfold itCall at h
              split at h
              · cases h
              · rename_i c hbody
                obtain ⟨fn, hfn, hbd⟩ := bind_some hbody
                split at h
                · rename_i v A3 hcall
                  split at h
                  · rename_i hle
                    have hle' := Nat.le_of_ble_eq_true hle
                    unfold itAfter at h
                    split at h
                    · rename_i st pend f3 nt3 T3 ps3 as3 b3 d3 hget
                      split at h
                      · cases h
                      · rename_i hbusy
                        have n0 := begin_next hb'
                        have n3 : A3.next ≤ A'.next := items_next (A := A3.set A1.next .dead) h
                        obtain ⟨l, mark, w1, ρ1, r1, r2, r3, r4, r5⟩ := enter_sound hs hR hb' (hf.first (by omega)) ps as body
                        have hfv := hR.slots.ev f
                        rw [hev] at hfv
                        generalize hcf : a.eval f = cf at hfv
                        cases hfv with
                        | fn _ hx hy =>
                        rename_i xs ys
                        obtain ⟨dd, c1, c2⟩ := range_call (_ρ := ρ) (_T := fr.T) (w := w1) (_fst := fst) (_cap := cap) hN l hcf hfn hbd
                        have hst := stepR_rangeFunc (P := P) (b := b) (a := a) (k := k) (cs := cs) r1 c1 c2
                        have hargs : VRs ρ1 (fst ++ [.yld A1.next] ++ cap) (xs ++ [.func (.yield l) #[] #[]] ++ ys) :=
                          ((hx.mono r4.sub).append (.cons (VR.yld r2) .nil)).append (hy.mono r4.sub)
                        have hcalls := hrec _ _ _ _ hcall ρ1 w1 r3 ((hf.later r4).first n3) _ hargs
                        obtain ⟨e, w3, fr3, ⟨x, ρ3, rfl, o1, o2, o3⟩, hcomes, hfn3, hleave⟩ := hcalls (b.atR { a with defers := mark ++ a.defers } (.inRangeFunc l :: k) :: cs)
                        have hback := step_leave_returned (c := b.atR { a with defers := mark ++ a.defers } (.inRangeFunc l :: k)) (cs := cs) hleave
                        rw [finish_atR_inRangeFunc] at hback
                        have hl3 : ρ3 A1.next = some ⟨l, 0, 0⟩ := o3.sub _ _ r2
                        obtain ⟨tmps3, ld3, g1, g2, g3⟩ := o2.loopAt hget hl3
                        have hend := run_endLoop (P := P) g1 (by
                          simp only
                          intro hc; apply hbusy; rw [hc]; rfl)
                        have hst2 := stepR_endRangeFunc (b := b) (a := { a with defers := mark ++ a.defers }) (k := k) (cs := cs) hend
                        have hlive : A3.live A1.next = some (.loop st pend f3 nt3 T3 ps3 as3 b3 d3) := live_of_get hget (by simp)
                        have s4 := o2.kill (w' := w3.putObj l (.loop { state := .exhausted, pending := pend, fn := f3, tmps := tmps3, params := ps3.toArray, assign := as3, body := b3, defers := ld3.blk })) hlive hl3 putObj_other
                        have e4 : Ext ρ3 w3 A3 ρ3 (w3.putObj l (.loop { state := .exhausted, pending := pend, fn := f3, tmps := tmps3, params := ps3.toArray, assign := as3, body := b3, defers := ld3.blk })) (A3.set A1.next .dead) :=
                          Ext.setAt hlive hl3 putObj_other World.putObj_size rfl rfl rfl
                        have eAll := (r4.trans o3).trans e4
                        have hR4 : FrR ρ3 { fr with defs } b { a with defers := mark ++ a.defers } := ⟨hR.fn, hR.slots.mono eAll.sub, hR.rnd.mono eAll.sub, r5.mono o3.sub⟩
                        obtain ⟨a', w', ρ', todo', q1, q2, q3, q4, q5, q6, q7⟩ := ih { fr with defs } ((pend.map Item.code).toList ++ k) (A3.set A1.next .dead) j fr' A' h ρ3 _ { a with defers := mark ++ a.defers } b cs s4 (hf.later eAll) hR4
                        exact ⟨a', w', ρ', todo', .head hst (Steps.trans hcomes (.head hback (.head hst2 q1))), q2, eAll.trans q3, q4, q5, q6, q7⟩
                    · cases h
                  · cases h
                · cases h
            · cases h
        · cases h
      · exact go stepR_inBlock h
      · exact go step_inScope h
      · exact go stepR_inLoop h
      · -- a round begins
        unfold itBegin at h
        split at h
        · rename_i n hr
          split at h
          · rename_i pend f nt T0 ps as body d hget
            have hrn := hR.rnd
            rw [hr] at hrn
            obtain ⟨l, hl, hro⟩ := hrn
            obtain ⟨tmps, ld, g1, g2, g3⟩ := hs.loopAt hget hl
            have hbr := run_beginRound (P := P) g1 rfl
            have hlive : A.live n = some (.loop .ready pend f nt T0 ps as body d) := live_of_get hget (by simp)
            have hlt : l.blk < w.heap.size := (Array.getElem?_eq_some_iff.1 g1).1
            have s1 := hs.setAt (ao := .loop .busy pend f nt T0 ps as body d) (w' := w.putObj l.blk (.loop { state := .busy, pending := pend, fn := f, tmps, params := ps.toArray, assign := as, body, defers := ld.blk })) hlive hl (World.putObj_heap_same hlt) ⟨tmps, ld, rfl, g2, g3⟩ putObj_other
            have e1 : Ext ρ w A ρ (w.putObj l.blk (.loop { state := .busy, pending := pend, fn := f, tmps, params := ps.toArray, assign := as, body, defers := ld.blk })) (A.set n (.loop .busy pend f nt T0 ps as body d)) :=
              Ext.setAt hlive hl putObj_other World.putObj_size rfl rfl rfl
            obtain ⟨a', w', ρ', todo', q1, q2, q3, q4, q5, q6, q7⟩ := ih fr k (A.set n (.loop .busy pend f nt T0 ps as body d)) j fr' A' h ρ _ a b cs s1 (hf.later e1) hR
            exact ⟨a', w', ρ', todo', .head (stepR_beginRound hro hbr) q1, q2, e1.trans q3, q4, q5, q6, q7⟩
          · cases h
        · cases h
      · cases h
end
end Go.Proofs.YtjhaccpljgdlpaaGreat.Ab
