/- Ab18 Ab19 Closed runs: calls whose answers are known ahead (a sort of a row of picks, its orders looked at some at a time). -/
import Derived.Test.YtookoagcmejkpaaGreatDoorJ2
import Derived.RangeFuncRecord
namespace Go.Proofs.YtookoagcmejkpaaGreatDoor.Ab
open Go
def RndR (ρ : Rn) (rnd : Option Nat) (ro : Option Nat) : Prop :=
 match rnd with
 | none => ro = none
 | some n => ∃ l, ρ n = some l ∧ ro = some l.blk

structure FrR (ρ : Rn) (fr : Fr) (b : Frame) (a : Act) : Prop where
 fn : b.fn = fr.fn
 slots : TR ρ fr.nt fr.T a.tmps
 rnd : RndR ρ fr.rnd b.roundOf
 marks : DefsR ρ fr.defs a.defers

theorem RndR.mono {ρ ρ' : Rn} (s : Sub ρ ρ') {rnd ro : Option Nat} (h : RndR ρ rnd ro) : RndR ρ' rnd ro := by
 cases rnd with
 | none => exact h
 | some n => obtain ⟨l, a, b⟩ := h; exact ⟨l, s _ _ a, b⟩
def Left (j : Jump) (rnd : Option Nat) (todo : List Item) : Prop :=
 match j, rnd with
 | .ret, none => todo = [] ∨ ∃ k, todo = .code .ret :: k
 | .ret, some _ => todo = []
 | .jump c, some _ => (c = .ret ∧ ∃ k, todo = .code .ret :: k) ∨ (∃ id k, c = .exit id ∧ exitTo id k = none ∧ todo = .code (.exit id) :: k) ∨ (∃ l k, c = .goto l ∧ gotoIn l k = none ∧ todo = .code (.goto l) :: k)
 | .jump _, none => False

section
variable {P : Program} {rec : Rec}
theorem region_next {nt : Nat} {rnd : Bool} {ops : Array Oper} {draw : Bool} {T : Tr AV} {A : AW} {T' : Tr AV} {A' : AW} {xs : List Def} (h : regionA P rec nt rnd ops draw T A = some (T', A', xs)) : A.next ≤ A'.next := by
 cases draw with
 | false => exact ops_next h
 | true =>
  simp only [regionA] at h
  split at h
  ·rename_i hd; cases h; exact draw_next hd
  ·cases h

theorem begin_next {fr : Fr} {A A1 : AW} {d : Nat} {defs : List Def} (h : beginA fr A = some (d, defs, A1)) : A.next ≤ A1.next := by
 unfold beginA at h
 split at h
 ·split at h
  ·cases h; exact Nat.le_refl _
  ·cases h
 ·cases h; simp [AW.new]

theorem after_next {self : Self} (ih : ∀ {fr : Fr} {todo : List Item} {A : AW} {j : Jump} {fr' : Fr} {A' : AW}, self fr todo A = some (j, fr', A') → A.next ≤ A'.next) {fr : Fr} {defs : List Def} {k : List Item} {l : Nat} {A3 : AW} {j : Jump} {fr' : Fr} {A' : AW}
  (h : itAfter self fr defs k l A3 = some (j, fr', A')) : A3.next ≤ A'.next := by
 unfold itAfter at h
 split at h
 ·split at h
  ·cases h
  ·exact ih (A := A3.set l .dead) h
 ·cases h

theorem items_next : ∀ {m : Nat} {fr : Fr} {todo : List Item} {A : AW} {j : Jump} {fr' : Fr} {A' : AW}, itemsA P rec m fr todo A = some (j, fr', A') → A.next ≤ A'.next
 | 0, _, _, _, _, _, _, h => by cases h
 | m + 1, fr, todo, A, j, fr', A', h => by
  have ih := @items_next m
  change itStep P rec (itemsA P rec m) fr todo A = _ at h
  unfold itStep at h
  split at h
  ·cases h; exact Nat.le_refl _
  ·rename_i it k
   unfold itItem at h
   split at h
   ·rename_i c
    unfold itCode at h
    split at h
    ·unfold itRet at h
     split at h <;> (cases h; exact Nat.le_refl _)
    ·exact ih h
    ·exact ih h
    ·exact ih h
    ·unfold itCond at h
     split at h
     ·exact ih h
     ·exact ih h
     ·cases h
    ·exact ih h
    ·exact ih h
    ·exact ih h
    ·unfold itExit at h
     split at h
     ·exact ih h
     ·split at h
      ·cases h; exact Nat.le_refl _
      ·cases h
    ·unfold itGoto at h
     split at h
     ·exact ih h
     ·split at h
      ·cases h; exact Nat.le_refl _
      ·cases h
    ·unfold itRegion at h
     split at h
     ·rename_i hr
      exact Nat.le_trans (region_next hr) (ih h)
     ·cases h
    ·unfold itRange at h
     split at h
     ·cases h
     ·rename_i d defs A1 hb
      have hb' := begin_next hb
      split at h
      ·unfold itCall at h
       split at h
       ·cases h
       ·split at h
        ·split at h
         ·rename_i hle
          have := Nat.le_of_ble_eq_true hle
          have h2 := after_next ih h
          omega
         ·cases h
        ·cases h
      ·cases h
    ·cases h
   ·exact ih h
   ·exact ih h
   ·exact ih h
   ·unfold itBegin at h
    split at h
    ·split at h
     ·exact ih (A := A.set _ _) h
     ·cases h
    ·cases h
   ·cases h

theorem run_enterLoop_inner {w : World} {l : Nat} {r : Loop} (fn : FuncId) (tmps : Array Value) (ps : Array Tmp) (assign body : Code) (h : w.heap[l]? = some (.loop r)) :
  (Instr.enterLoop fn tmps ps assign body (some l)).run P w = .ok (w.heap.size, []) (w.alloc (.loop { state := .ready, pending := none, fn, tmps, params := ps, assign, body, defers := r.defers })) := by
 unfold Instr.enterLoop
 simp only [Sem.run_bind, run_getLoop h, run_newObj_alloc, Result.andThen, Sem.run_pure]

theorem pushed_alloc (w : World) (o : Obj) : Pushed w o (w.alloc o) := ⟨rfl, rfl, rfl, rfl⟩

theorem putObj_other {w : World} {r : Nat} {o : Obj} : ∀ b, b ≠ r → (w.putObj r o).heap[b]? = w.heap[b]? := fun _ h => World.putObj_heap_other h

theorem Sim.loopAt {ρ : Rn} {A : AW} {w : World} (hs : Sim P ρ A.live w) {n : Nat} {l : Loc} {st : LoopState} {pend : Option Code} {f : FuncId} {nt : Nat} {T : Tr AV} {ps : List Tmp} {as b : Code} {d : Nat}
  (h : A.get n = some (.loop st pend f nt T ps as b d)) (hl : ρ n = some l) :
  ∃ (tmps : Array Value) (ld : Loc), w.heap[l.blk]? = some (.loop { state := st, pending := pend, fn := f, tmps, params := ps.toArray, assign := as, body := b, defers := ld.blk }) ∧ ρ d = some ld ∧ TR ρ nt T tmps := by
 obtain ⟨l', o, h1, h2, tmps, ld, rfl, h4, h5⟩ := hs.obj n _ (live_of_get h (by simp))
 rw [hl] at h1; cases h1
 exact ⟨tmps, ld, h2, h4, h5⟩

theorem enter_sound {ρ : Rn} {A : AW} {w : World} {fr : Fr} {b : Frame} {a : Act} (hs : Sim P ρ A.live w) (hR : FrR ρ fr b a) {d : Nat} {defs : List Def} {A1 : AW} (h : beginA fr A = some (d, defs, A1)) (hf : Free ρ A.next (A1.next + 1)) (ps : Array Tmp) (as body : Code) :
  ∃ l mark w1 ρ1, (Instr.enterLoop b.fn a.tmps ps as body b.roundOf).run P w = .ok (l, mark) w1 ∧ ρ1 A1.next = some ⟨l, 0, 0⟩ ∧
   Sim P ρ1 (A1.new (.loop .ready none fr.fn fr.nt fr.T ps.toList as body d)).live w1 ∧ Ext ρ w A ρ1 w1 (A1.new (.loop .ready none fr.fn fr.nt fr.T ps.toList as body d)) ∧ DefsR ρ1 defs (mark ++ a.defers) := by
 unfold beginA at h
 split at h
 ·rename_i n hn
  split at h
  ·rename_i st pend f nt T ps' as' b' d' hg
   cases h
   have hr := hR.rnd
   rw [hn] at hr
   obtain ⟨l, hl, hro⟩ := hr
   obtain ⟨tmps, ld, e1, e2, e3⟩ := hs.loopAt hg hl
   rw [hro]
   have hfr : ρ A.next = none := hf A.next (Nat.le_refl _) (by omega)
   have hsub := upd_sub (l := ⟨w.heap.size, 0, 0⟩) hfr
   obtain ⟨s1, s2⟩ := hs.push (A := A) (ao := .loop .ready none fr.fn fr.nt fr.T ps.toList as body d) (room := 0) (pushed_alloc w (.loop { state := .ready, pending := none, fn := b.fn, tmps := a.tmps, params := ps, assign := as, body, defers := ld.blk })) hfr
    ⟨a.tmps, ld, by rw [hR.fn], hsub _ _ e2, hR.slots.mono hsub⟩
   exact ⟨_, _, _, _, run_enterLoop_inner b.fn a.tmps ps as body e1, upd_at, s1, s2, hR.marks.mono hsub⟩
  ·cases h
 ·rename_i hn
  cases h
  have hr := hR.rnd
  rw [hn] at hr
  have hro : b.roundOf = none := hr
  rw [hro]
  have hfr : ρ A.next = none := hf A.next (Nat.le_refl _) (by simp [AW.new]; omega)
  have hsub := upd_sub (l := ⟨w.heap.size, 0, 0⟩) hfr
  obtain ⟨s1, s2⟩ := hs.push (A := A) (ao := .deferred false) (room := 0) (pushed_alloc w (.deferred (some []))) hfr rfl
  have hfr1 : upd ρ A.next ⟨w.heap.size, 0, 0⟩ (A.new (.deferred false)).next = none := by
   have : (A.new (.deferred false)).next ≠ A.next := by simp [AW.new]
   simp only [upd, if_neg this]
   exact hf _ (by simp [AW.new]) (by omega)
  have hsub1 := upd_sub (l := ⟨(w.alloc (.deferred (some []))).heap.size, 0, 0⟩) hfr1
  obtain ⟨s3, s4⟩ := s1.push (A := A.new (.deferred false)) (ao := .loop .ready none fr.fn fr.nt fr.T ps.toList as body A.next) (room := 0)
   (pushed_alloc (w.alloc (.deferred (some []))) (.loop { state := .ready, pending := none, fn := b.fn, tmps := a.tmps, params := ps, assign := as, body, defers := w.heap.size })) hfr1
   ⟨a.tmps, ⟨w.heap.size, 0, 0⟩, by rw [hR.fn], hsub1 _ _ upd_at, (hR.slots.mono hsub).mono hsub1⟩
  refine ⟨_, _, _, _, run_enterLoop_outer b.fn a.tmps ps as body, ?_, s3, s2.trans s4, .mark (hsub1 _ _ upd_at) ((hR.marks.mono hsub).mono hsub1)⟩
  rw [upd_at]
  simp

theorem range_call {_ρ : Rn} {_T : Tr AV} {w : World} {a : Act} (hN : Named P) {f : Operand} {g : FuncId} {_fst _cap : List AV} {fn : Func} {c : Code} {as bs : List Value} (l : Nat) (hv : a.eval f = .func (.func g) as.toArray bs.toArray) (hf : P.funcs[g]? = some fn) (hb : fn.body = some c) :
  ∃ d, (resolve a.eval (rangeCall f l) 0).run P w = .ok d w ∧ (invoke d.target d.args).run P w = .ok (.enter g (as ++ [Value.func (.yield l) #[] #[]] ++ bs).toArray) w := by
 refine ⟨{ target := .fn (.func g) bs.toArray, args := as.toArray ++ #[.func (.yield l) #[] #[]] }, ?_, ?_⟩
 ·have e : resolve a.eval (rangeCall f l) 0 = Deferred.ofValue (a.eval f) #[.func (.yield l) #[] #[]] := by
   simp only [resolve]; congr 1; simp [Act.eval]
  rw [e, hv]; rfl
 ·have := callFunc_body hf hb (hN _ _ hf) (as.toArray ++ #[.func (.yield l) #[] #[]] ++ bs.toArray) w
  simp only [invoke]
  rw [show (as ++ [Value.func (.yield l) #[] #[]] ++ bs).toArray = as.toArray ++ #[.func (.yield l) #[] #[]] ++ bs.toArray by simp]
  exact this

theorem step_scope {b : Frame} {a : Act} {k : List Item} {cs : List Frame} {w : World} {c : Code} :
  step P (lone (b.atR a (.code (.scope c) :: k)) cs w) = .next (lone (b.atR a (.code c :: .inScope c :: k)) cs w) :=
 step_lone_go (by simp [stepG, stepG.exec, Frame.atR])
theorem step_inScope {b : Frame} {a : Act} {k : List Item} {cs : List Frame} {w : World} {c : Code} :
  step P (lone (b.atR a (.inScope c :: k)) cs w) = .next (lone (b.atR a k) cs w) :=
 step_lone_go (by simp [stepG, stepG.exec, Frame.atR])

theorem items_sound (hm : P.follows .mixedOrders = true) (hrec : RecOk P rec) (hN : Named P) : ∀ (m : Nat) (fr : Fr) (todo : List Item) (A : AW) (j : Jump) (fr' : Fr) (A' : AW), itemsA P rec m fr todo A = some (j, fr', A') →
  ∀ (ρ : Rn) (w : World) (a : Act) (b : Frame) (cs : List Frame), Sim P ρ A.live w → Free ρ A.next A'.next → FrR ρ fr b a →
  ∃ a' w' ρ' todo', Steps P (lone (b.atR a todo) cs w) (lone (b.atR a' todo') cs w') ∧ Sim P ρ' A'.live w' ∧ Ext ρ w A ρ' w' A' ∧ FrR ρ' fr' b a' ∧ fr'.rnd = fr.rnd ∧ fr'.fn = fr.fn ∧ Left j fr.rnd todo'
 | 0, _, _, _, _, _, _, h => by cases h
 | m + 1, fr, todo, A, j, fr', A', h => by
  intro ρ w a b cs hs hf hR
  have ih := items_sound hm hrec hN m
  have go : ∀ {todo1 : List Item}, step P (lone (b.atR a todo) cs w) = .next (lone (b.atR a todo1) cs w) → itemsA P rec m fr todo1 A = some (j, fr', A') →
    ∃ a' w' ρ' todo', Steps P (lone (b.atR a todo) cs w) (lone (b.atR a' todo') cs w') ∧ Sim P ρ' A'.live w' ∧ Ext ρ w A ρ' w' A' ∧ FrR ρ' fr' b a' ∧ fr'.rnd = fr.rnd ∧ fr'.fn = fr.fn ∧ Left j fr.rnd todo' := by
   intro todo1 hst hit
   obtain ⟨a', w', ρ', todo', s1, s2⟩ := ih fr todo1 A j fr' A' hit ρ w a b cs hs hf hR
   exact ⟨a', w', ρ', todo', .head hst s1, s2⟩
  have stay : ∀ {j' : Jump}, some (j', fr, A) = some (j, fr', A') → Left j' fr.rnd todo →
    ∃ a' w' ρ' todo', Steps P (lone (b.atR a todo) cs w) (lone (b.atR a' todo') cs w') ∧ Sim P ρ' A'.live w' ∧ Ext ρ w A ρ' w' A' ∧ FrR ρ' fr' b a' ∧ fr'.rnd = fr.rnd ∧ fr'.fn = fr.fn ∧ Left j fr.rnd todo' := by
   intro j' e hl
   cases e
   exact ⟨a, w, ρ, todo, .refl P _, hs, Ext.refl _ _ _, hR, rfl, rfl, hl⟩
  change itStep P rec (itemsA P rec m) fr todo A = _ at h
  unfold itStep at h
  split at h
  ·refine stay h ?_
   unfold Left; cases fr.rnd
   ·exact .inl rfl
   ·rfl
  ·rename_i it k
   unfold itItem at h
   split at h
   ·rename_i c
    unfold itCode at h
    split at h
    ·unfold itRet at h
     cases hr : fr.rnd with
     | none =>
      rw [hr] at h
      have := stay h (by rw [hr]; exact .inr ⟨k, rfl⟩)
      rw [hr] at this; exact this
     | some n =>
      rw [hr] at h
      have := stay h (by rw [hr]; exact .inl ⟨rfl, k, rfl⟩)
      rw [hr] at this; exact this
    ·exact go stepR_skip h
    ·exact go stepR_label h
    ·exact go stepR_seq h
    ·rename_i c x y
     unfold itCond at h
     split at h
     ·rename_i hc
      exact go (stepR_cond (t := true) (boolOf?_spec hc (hR.slots.ev c))) h
     ·rename_i hc
      exact go (stepR_cond (t := false) (boolOf?_spec hc (hR.slots.ev c))) h
     ·cases h
    ·exact go stepR_block h
    ·exact go stepR_loop h
    ·exact go step_scope h
    ·rename_i id
     unfold itExit at h
     split at h
     ·rename_i k' hk
      exact go (stepR_exit hk) h
     ·rename_i hk
      split at h
      ·rename_i n hr
       have := stay h (by rw [hr]; exact .inr (.inl ⟨id, k, rfl, hk, rfl⟩))
       exact this
      ·cases h
    ·rename_i l
     unfold itGoto at h
     split at h
     ·rename_i k' hk
      exact go (stepR_goto hk) h
     ·rename_i hk
      split at h
      ·rename_i n hr
       have := stay h (by rw [hr]; exact .inr (.inr ⟨l, k, rfl, hk, rfl⟩))
       exact this
      ·cases h
    ·-- a region
     rename_i id ops draw
     unfold itRegion at h
     split at h
     ·rename_i T1 A1 xs hreg
      have n1 := region_next hreg
      have n2 := items_next h
      have hro : fr.rnd.isSome = false → b.roundOf = none := fun e => by
       have := hR.rnd
       cases hr : fr.rnd with
       | none => rw [hr] at this; exact this
       | some n => rw [hr] at e; cases e
      obtain ⟨e, a1, w1, ⟨rfl, ρ1, nd, hd, hdr, t1, s1, e1⟩, harr⟩ := region_sound (ro := b.roundOf) (n := 0) (id := id) hm hrec hN hro hreg hs (hf.first n2) hR.slots b k cs rfl trivial (fun d hd => by simp [Fw] at hd)
      have hR1 : FrR ρ1 { fr with T := T1, defs := xs ++ fr.defs } b a1 := ⟨hR.fn, t1, hR.rnd.mono e1.sub, by rw [hd]; exact hdr.append (hR.marks.mono e1.sub)⟩
      obtain ⟨a', w', ρ', todo', q1, q2, q3, q4, q5, q6, q7⟩ := ih { fr with T := T1, defs := xs ++ fr.defs } k A1 j fr' A' h ρ1 w1 a1 b cs s1 (hf.later e1) hR1
      exact ⟨a', w', ρ', todo', Steps.trans (StepsIn.steps harr) q1, q2, e1.trans q3, q4, q5, q6, q7⟩
     ·cases h
    ·-- a range over a function
     rename_i f ps as body
     unfold itRange at h
     split at h
     ·cases h
     ·rename_i d defs A1 hb
      have hb' : beginA fr A = some (d, defs, A1) := hb
      split at h
      ·rename_i g fst cap hev
       unfold itCall at h
       split at h
       ·cases h
       ·rename_i c hbody
        obtain ⟨fn, hfn, hbd⟩ := bind_some hbody
        split at h
        ·rename_i v A3 hcall
         split at h
         ·rename_i hle
          have hle' := Nat.le_of_ble_eq_true hle
          unfold itAfter at h
          split at h
          ·rename_i st pend f3 nt3 T3 ps3 as3 b3 d3 hget
           split at h
           ·cases h
           ·rename_i hbusy
            have n0 := begin_next hb'
            have n3 : A3.next ≤ A'.next := items_next (A := A3.set A1.next .dead) h
            obtain ⟨l, mark, w1, ρ1, r1, r2, r3, r4, r5⟩ := enter_sound hs hR hb' (hf.first (by omega)) ps as body
            have hfv := hR.slots.ev f
            rw [hev] at hfv
            generalize hcf : a.eval f = cf at hfv
            cases hfv with
            | fn _ hx hy =>
            rename_i xs ys
            obtain ⟨dd, c1, c2⟩ := range_call (_ρ := ρ) (_T := fr.T) (w := w1) (_fst := fst) (_cap := cap) hN l hcf hfn hbd
            have hst := stepR_rangeFunc (P := P) (b := b) (a := a) (k := k) (cs := cs) r1 c1 c2
            have hargs : VRs ρ1 (fst ++ [.yld A1.next] ++ cap) (xs ++ [.func (.yield l) #[] #[]] ++ ys) :=
             ((hx.mono r4.sub).append (.cons (VR.yld r2) .nil)).append (hy.mono r4.sub)
            have hcalls := hrec _ _ _ _ hcall ρ1 w1 r3 ((hf.later r4).first n3) _ hargs
            obtain ⟨e, w3, fr3, ⟨x, ρ3, rfl, o1, o2, o3⟩, hcomes, hfn3, hleave⟩ := hcalls (b.atR { a with defers := mark ++ a.defers } (.inRangeFunc l :: k) :: cs)
            have hback := step_leave_returned (c := b.atR { a with defers := mark ++ a.defers } (.inRangeFunc l :: k)) (cs := cs) hleave
            rw [finish_atR_inRangeFunc] at hback
            have hl3 : ρ3 A1.next = some ⟨l, 0, 0⟩ := o3.sub _ _ r2
            obtain ⟨tmps3, ld3, g1, g2, g3⟩ := o2.loopAt hget hl3
            have hend := run_endLoop (P := P) g1 (by
             simp only
             intro hc; apply hbusy; rw [hc]; rfl)
            have hst2 := stepR_endRangeFunc (b := b) (a := { a with defers := mark ++ a.defers }) (k := k) (cs := cs) hend
            have hlive : A3.live A1.next = some (.loop st pend f3 nt3 T3 ps3 as3 b3 d3) := live_of_get hget (by simp)
            have s4 := o2.kill (w' := w3.putObj l (.loop { state := .exhausted, pending := pend, fn := f3, tmps := tmps3, params := ps3.toArray, assign := as3, body := b3, defers := ld3.blk })) hlive hl3 putObj_other
            have e4 : Ext ρ3 w3 A3 ρ3 (w3.putObj l (.loop { state := .exhausted, pending := pend, fn := f3, tmps := tmps3, params := ps3.toArray, assign := as3, body := b3, defers := ld3.blk })) (A3.set A1.next .dead) :=
             Ext.setAt hlive hl3 putObj_other World.putObj_size rfl rfl rfl
            have eAll := (r4.trans o3).trans e4
            have hR4 : FrR ρ3 { fr with defs } b { a with defers := mark ++ a.defers } := ⟨hR.fn, hR.slots.mono eAll.sub, hR.rnd.mono eAll.sub, r5.mono o3.sub⟩
            obtain ⟨a', w', ρ', todo', q1, q2, q3, q4, q5, q6, q7⟩ := ih { fr with defs } ((pend.map Item.code).toList ++ k) (A3.set A1.next .dead) j fr' A' h ρ3 _ { a with defers := mark ++ a.defers } b cs s4 (hf.later eAll) hR4
            exact ⟨a', w', ρ', todo', .head hst (Steps.trans hcomes (.head hback (.head hst2 q1))), q2, eAll.trans q3, q4, q5, q6, q7⟩
          ·cases h
         ·cases h
        ·cases h
      ·cases h
    ·cases h
   ·exact go stepR_inBlock h
   ·exact go step_inScope h
   ·exact go stepR_inLoop h
   ·-- a round begins
    unfold itBegin at h
    split at h
    ·rename_i n hr
     split at h
     ·rename_i pend f nt T0 ps as body d hget
      have hrn := hR.rnd
      rw [hr] at hrn
      obtain ⟨l, hl, hro⟩ := hrn
      obtain ⟨tmps, ld, g1, g2, g3⟩ := hs.loopAt hget hl
      have hbr := run_beginRound (P := P) g1 rfl
      have hlive : A.live n = some (.loop .ready pend f nt T0 ps as body d) := live_of_get hget (by simp)
      have hlt : l.blk < w.heap.size := (Array.getElem?_eq_some_iff.1 g1).1
      have s1 := hs.setAt (ao := .loop .busy pend f nt T0 ps as body d) (w' := w.putObj l.blk (.loop { state := .busy, pending := pend, fn := f, tmps, params := ps.toArray, assign := as, body, defers := ld.blk })) hlive hl (World.putObj_heap_same hlt) ⟨tmps, ld, rfl, g2, g3⟩ putObj_other
      have e1 : Ext ρ w A ρ (w.putObj l.blk (.loop { state := .busy, pending := pend, fn := f, tmps, params := ps.toArray, assign := as, body, defers := ld.blk })) (A.set n (.loop .busy pend f nt T0 ps as body d)) :=
       Ext.setAt hlive hl putObj_other World.putObj_size rfl rfl rfl
      obtain ⟨a', w', ρ', todo', q1, q2, q3, q4, q5, q6, q7⟩ := ih fr k (A.set n (.loop .busy pend f nt T0 ps as body d)) j fr' A' h ρ _ a b cs s1 (hf.later e1) hR
      exact ⟨a', w', ρ', todo', .head (stepR_beginRound hro hbr) q1, q2, e1.trans q3, q4, q5, q6, q7⟩
     ·cases h
    ·cases h
   ·cases h
end
section
variable {P : Program} {rec : Rec}
theorem args0_get : ∀ (l : List AV) (i : Nat) (T : Tr AV) (t : Nat), (args0 i l T).get t = if i ≤ t ∧ t < i + l.length then l[t - i]? else T.get t
 | [], i, T, t => by
  rw [args0, if_neg (by simp only [List.length_nil]; omega)]
 | v :: l, i, T, t => by
  rw [args0, args0_get l (i + 1) (T.set i v) t]
  by_cases h : i + 1 ≤ t ∧ t < i + 1 + l.length
  ·rw [if_pos h, if_pos (by simp; omega)]
   have : t - i = (t - (i + 1)) + 1 := by omega
   rw [this]; rfl
  ·rw [if_neg h, Tr.get_set]
   by_cases e : t = i
   ·subst e; rw [if_pos rfl, if_pos (by simp)]; simp
   ·rw [if_neg e, if_neg (by simp; omega)]

theorem enter_slots {ρ : Rn} {args : List AV} {xs : List Value} {nt : Nat} (h : VRs ρ args xs) (hl : args.length ≤ nt) : TR ρ nt (args0 0 args .lf) (xs.toArray ++ Array.replicate (nt - xs.toArray.size) undef) := by
 have hx := h.length
 refine ⟨by simp; omega, fun t => ?_⟩
 rw [args0_get]
 by_cases ht : t < args.length
 ·rw [if_pos (by omega), Nat.sub_zero]
  have hg : args[t]? = some args[t] := List.getElem?_eq_getElem ht
  obtain ⟨v, e1, e2⟩ := h.get hg
  rw [hg, Array.getD_eq_getD_getElem?, Array.getElem?_append_left (by simp; omega)]
  simp only [List.getElem?_toArray, e1, Option.getD_some]
  exact e2
 ·rw [if_neg (by omega)]
  have : (xs.toArray ++ Array.replicate (nt - xs.toArray.size) undef).getD t undef = undef := by
   rw [Array.getD_eq_getD_getElem?, Array.getElem?_append_right (by simp; omega)]
   rw [Array.getElem?_replicate]
   split <;> rfl
  rw [this, Tr.get_lf]
  exact .flat _

theorem take_next : ∀ {rs : List Def} {A A' : AW}, takeA rec rs A = some A' → A.next ≤ A'.next
 | [], A, A', h => by cases h; exact Nat.le_refl _
 | .mark r :: rs, A, A', h => by
  simp only [takeA] at h
  split at h
  ·exact take_next (A := A.set r .dead) h
  ·cases h
 | .call f x y :: rs, A, A', h => by
  simp only [takeA] at h
  split at h
  ·split at h
   ·rename_i hb; exact Nat.le_trans (Nat.le_of_ble_eq_true hb) (take_next h)
   ·cases h
  ·cases h

theorem take_sound (hrec : RecOk P rec) (hN : Named P) {cs : List Frame} : ∀ (rs : List Def) (A A' : AW) (ds : List Deferred) (w : World) (ρ : Rn) (fr : Frame), takeA rec rs A = some A' → Sim P ρ A.live w → Free ρ A.next A'.next → DefsR ρ rs ds → fr.mode = .returning → fr.defers = ds →
  (∀ f x y, Def.call f x y ∈ rs → ∃ fn c, P.funcs[f]? = some fn ∧ fn.body = some c) →
  ∃ w' ρ', Steps P (lone fr cs w) (lone { fr with defers := [] } cs w') ∧ Sim P ρ' A'.live w' ∧ Ext ρ w A ρ' w' A'
 | [], A, A', ds, w, ρ, fr, h, hs, _, hm, h1, h2, _ => by
  cases h; cases hm
  refine ⟨w, ρ, ?_, hs, Ext.refl _ _ _⟩
  rw [show ({ fr with defers := [] } : Frame) = fr by rw [← h2]]
  exact .refl P _
 | .mark r :: rs, A, A', ds, w, ρ, fr, h, hs, hf, hm, h1, h2, hb => by
  cases hm with
  | mark hl hm =>
  rename_i l ds
  simp only [takeA] at h
  split at h
  ·rename_i hg
   have hlive : A.live r = some (.deferred false) := live_of_get hg (by simp)
   obtain ⟨l', o, e1, e2, e3⟩ := hs.obj r _ hlive
   rw [hl] at e1; cases e1
   have e3' : o = .deferred (some []) := e3
   subst e3'
   have ht := run_takeDeferred (P := P) e2
   have hst := step_collected (P := P) (cs := cs) (fr := fr) (by rw [h1]; simp) h2 rfl ht
   have s1 := hs.kill (w' := w.putObj l.blk (.deferred none)) hlive hl putObj_other
   have x1 : Ext ρ w A ρ (w.putObj l.blk (.deferred none)) (A.set r .dead) := Ext.setAt hlive hl putObj_other World.putObj_size rfl rfl rfl
   obtain ⟨w', ρ', q1, q2, q3⟩ := take_sound hrec hN rs (A.set r .dead) A' ds _ ρ { fr with defers := [] ++ ds } h s1 hf hm h1 rfl (fun f x y hx => hb f x y (by simp [hx]))
   exact ⟨w', ρ', .head hst q1, q2, x1.trans q3⟩
  ·cases h
 | .call f x y :: rs, A, A', ds, w, ρ, fr, h, hs, hf, hm, h1, h2, hb => by
  cases hm with
  | call _ hx hy hm =>
  rename_i xs ys ds
  simp only [takeA] at h
  split at h
  ·rename_i v A1 hr
   split at h
   ·rename_i hle
    have hle := Nat.le_of_ble_eq_true hle
    have hn := take_next h
    obtain ⟨fn, c, hfn, hbd⟩ := hb f x y (by simp)
    have hinv : (invoke (.fn (.func f) ys.toArray) xs.toArray).run P w = .ok (.enter f (xs ++ ys).toArray) w := by
     have := callFunc_body hfn hbd (hN _ _ hfn) (xs.toArray ++ ys.toArray) w
     simp only [invoke]
     rw [show (xs ++ ys).toArray = xs.toArray ++ ys.toArray by simp]
     exact this
    have hst := step_defer (P := P) (cs := cs) (fr := fr) (by rw [h1]; simp) h2 rfl hinv
    obtain ⟨e, u', w1, frX, ⟨hu, z, ρ1, rfl, k1, k2, k3⟩, hcomes, hkX, hgo⟩ := hrec _ _ _ _ hr ρ w hs (hf.first hn) (xs ++ ys) (hx.append hy) { fr with defers := ds } cs h1
    subst hu
    have hst2 := step_going_returned (c := { ({ fr with defers := ds } : Frame) with mode := .returning }) (cs := cs) hkX hgo
    have hsame : ({ ({ ({ fr with defers := ds } : Frame) with mode := .returning } : Frame) with mode := settle .returning } : Frame) = { fr with defers := ds } := by
     show ({ fr with defers := ds, mode := .returning } : Frame) = { fr with defers := ds }
     rw [← h1]
    obtain ⟨w', ρ', q1, q2, q3⟩ := take_sound hrec hN rs A1 A' ds w1 ρ1 { fr with defers := ds } h k2 (hf.later k3) (hm.mono k3.sub) h1 rfl (fun f x y hx => hb f x y (by simp [hx]))
    refine ⟨w', ρ', .head hst (Steps.trans hcomes (.head ?_ q1)), q2, k3.trans q3⟩
    rw [hst2]
    simp only
    rw [hsame]
   ·cases h
  ·cases h

noncomputable def resA (P : Program) (T : Tr AV) (A : AW) : ResultVar → Option AV
 | .tmp t => some ((T.get t).getD undefA)
 | .cell a t => match T.get a with
  | some (.ptr n o) => loadA P A t n o
  | _ => none
def resV (tmps : Array Value) : ResultVar → Sem Value
 | .tmp t => pure (tmps.getD t undef)
 | .cell a t => do loadVar t (← asAddr (tmps.getD a undef))

theorem result_sound {ρ : Rn} {A : AW} {w : World} (hs : Sim P ρ A.live w) {nt : Nat} {T : Tr AV} {tmps : Array Value} (ht : TR ρ nt T tmps) {r : ResultVar} {v : AV} (h : resA P T A r = some v) :
  ∃ x, (resV tmps r).run P w = .ok x w ∧ VR ρ v x := by
 cases r with
 | tmp t => cases h; exact ⟨_, rfl, ht.2 t⟩
 | cell a t =>
  simp only [resA] at h
  split at h
  ·rename_i n o hg
   have hv := ht.2 a
   rw [hg] at hv
   simp only [Option.getD_some] at hv
   generalize hc : tmps.getD a undef = c at hv
   cases hv with
   | ptr _ hl =>
   rename_i l
   obtain ⟨x, h1, h2⟩ := load_sound hs h hl
   refine ⟨x, ?_, h2⟩
   simp [Instr.loadAt, Instr.sureAddr] at h1
   simp only [resV, hc]
   simp [asAddr, h1]
  ·cases h

theorem results_list {ρ : Rn} {A : AW} {w : World} (hs : Sim P ρ A.live w) {nt : Nat} {T : Tr AV} {tmps : Array Value} (ht : TR ρ nt T tmps) : ∀ (l : List ResultVar) (vs : List AV), l.mapM (resA P T A) = some vs →
  ∃ xs, (l.mapM (resV tmps)).run P w = .ok xs w ∧ VRs ρ vs xs
 | [], vs, h => by simp at h; subst h; exact ⟨[], by simp, .nil⟩
 | r :: l, vs, h => by
  rw [List.mapM_cons] at h
  cases e1 : resA P T A r with
  | none => rw [e1] at h; simp at h
  | some v =>
   cases e2 : l.mapM (resA P T A) with
   | none => rw [e1, e2] at h; simp at h
   | some us =>
    rw [e1, e2] at h
    simp at h; subst h
    obtain ⟨x, a1, a2⟩ := result_sound hs ht e1
    obtain ⟨xs, b1, b2⟩ := results_list hs ht l us e2
    refine ⟨x :: xs, ?_, .cons a2 b2⟩
    rw [List.mapM_cons]
    simp [Sem.run_bind, a1, b1]

theorem results_sound {ρ : Rn} {A : AW} {w : World} (hs : Sim P ρ A.live w) {nt : Nat} {T : Tr AV} {tmps : Array Value} (ht : TR ρ nt T tmps) {fn : Func} {v : AV} (h : resultsA P fn T A = some v) :
  ∃ x, (results fn tmps).run P w = .ok x w ∧ VR ρ v x := by
 have hA : resultsA P fn T A = (match fn.results.toList.mapM (resA P T A) with | some [v] => some v | some vs => some (.tup vs) | none => none) := rfl
 have hV : results fn tmps = (do let vs ← fn.results.mapM (resV tmps); pure (if h : vs.size = 1 then vs[0] else .tuple vs)) := rfl
 rw [hA] at h
 have run : ∀ xs, (fn.results.toList.mapM (resV tmps)).run P w = .ok xs w → (results fn tmps).run P w = .ok (if h : xs.toArray.size = 1 then xs.toArray[0] else .tuple xs.toArray) w := by
  intro xs e
  rw [hV, Array.mapM_eq_mapM_toList]
  simp [e]
 split at h
 ·rename_i v' e
  cases h
  obtain ⟨xs, e1, e2⟩ := results_list hs ht _ _ e
  cases e2 with
  | cons e2 e3 =>
  cases e3
  exact ⟨_, run _ e1, by simpa using e2⟩
 ·rename_i vs hne e
  cases h
  obtain ⟨xs, e1, e2⟩ := results_list hs ht _ _ e
  refine ⟨_, run _ e1, ?_⟩
  have : ¬ xs.toArray.size = 1 := by
   intro h1
   have := e2.length
   simp at h1
   rw [h1] at this
   match vs, this with
   | [v], _ => exact hne v rfl
  rw [dif_neg this]
  exact .tup e2
 ·cases h

theorem body_run (hm : P.follows .mixedOrders = true) (hrec : RecOk P rec) (hN : Named P) {m : Nat} {f : FuncId} {args : List AV} {A : AW} {v : AV} {A' : AW} (h : bodyA P rec m f args A = some (v, A')) {ρ : Rn} {w : World}
  (hs : Sim P ρ A.live w) (hf : Free ρ A.next A'.next) (kd : CallKind) {xs : List Value} (hx : VRs ρ args xs) (cs : List Frame) :
  ∃ x w' ρ' fr', Steps P (lone (Frame.enter P f xs.toArray kd) cs w) (lone fr' cs w') ∧ fr'.mode = .returning ∧ fr'.defers = [] ∧ fr'.kind = kd ∧ fr'.fn = f ∧ (∃ fn, P.funcs[f]? = some fn ∧ (results fn fr'.tmps).run P w' = .ok x w') ∧
   VR ρ' v x ∧ Sim P ρ' A'.live w' ∧ Ext ρ w A ρ' w' A' := by
 unfold bodyA at h
 split at h
 ·cases h
 ·rename_i fn hfn
  split at h
  ·cases h
  ·rename_i body hbody
   split at h
   ·rename_i hle
    split at h
    ·rename_i fr A1 hit
     split at h
     ·rename_i A2 htk
      split at h
      ·rename_i v' hres
       cases h
       let b : Frame := { (default : Frame) with fn := f, kind := kd, roundOf := none }
       have henter : Frame.enter P f xs.toArray kd = b.atR { tmps := xs.toArray ++ Array.replicate (fn.ntmps - xs.toArray.size) undef, defers := [] } [.code body] := by
        simp [Frame.enter, Frame.atR, hfn, hbody, b]
       have hR : FrR ρ { fn := f, nt := fn.ntmps, rnd := none, T := args0 0 args .lf, defs := [] } b { tmps := xs.toArray ++ Array.replicate (fn.ntmps - xs.toArray.size) undef, defers := [] } :=
        ⟨rfl, enter_slots hx (Nat.le_of_ble_eq_true hle), rfl, .nil⟩
       have hck : callsOk P fr.defs = true ∧ takeA rec fr.defs A1 = some A' := by
        cases hc : callsOk P fr.defs with
        | true => rw [hc] at htk; exact ⟨rfl, htk⟩
        | false => rw [hc] at htk; cases htk
       obtain ⟨hck, htk⟩ := hck
       have htn := take_next htk
       obtain ⟨a1, w1, ρ1, todo1, q1, q2, q3, q4, q5, q6, q7⟩ := items_sound hm hrec hN m _ _ _ _ _ _ hit ρ w _ b cs hs (hf.first htn) hR
       have hret : Steps P (lone (b.atR a1 todo1) cs w1) (lone { b.atR a1 todo1 with mode := .returning } cs w1) := by
        rcases q7 with rfl | ⟨k, rfl⟩
        ·exact .one (stepR_end rfl)
        ·exact .one (stepR_ret rfl)
       have hbod : ∀ f x y, Def.call f x y ∈ fr.defs → ∃ fn c, P.funcs[f]? = some fn ∧ fn.body = some c := by
        generalize fr.defs = rs at hck
        induction rs with
        | nil => intro f x y h; cases h
        | cons r rs ih =>
         cases r with
         | mark r =>
          intro f x y h
          rcases List.mem_cons.1 h with h | h
          ·cases h
          ·exact ih hck f x y h
         | call g x' y' =>
          simp only [callsOk, Bool.and_eq_true] at hck
          intro f x y h
          rcases List.mem_cons.1 h with h | h
          ·cases h
           have h1 := hck.1
           split at h1
           ·rename_i fn' e; exact ⟨fn', _, e, Option.eq_some_of_isSome h1⟩
           ·cases h1
          ·exact ih hck.2 f x y h
       obtain ⟨w2, ρ2, t1, t2, t3⟩ := take_sound hrec hN (cs := cs) fr.defs A1 A' a1.defers w1 ρ1 { b.atR a1 todo1 with mode := .returning } htk q2 (hf.later q3) q4.marks rfl rfl hbod
       obtain ⟨x, r1, r2⟩ := results_sound t2 (q4.slots.mono t3.sub) hres
       refine ⟨x, w2, ρ2, { ({ b.atR a1 todo1 with mode := .returning } : Frame) with defers := [] }, ?_, rfl, rfl, rfl, rfl, ⟨fn, hfn, r1⟩, r2, t2, q3.trans t3⟩
       rw [henter]
       exact Steps.trans q1 (Steps.trans hret t1)
      ·cases h
     ·cases h
    ·cases h
   ·cases h

theorem body_sound (hm : P.follows .mixedOrders = true) (hrec : RecOk P rec) (hN : Named P) {m : Nat} {f : FuncId} {args : List AV} {A : AW} {v : AV} {A' : AW} (h : bodyA P rec m f args A = some (v, A')) {ρ : Rn} {w : World}
  (hs : Sim P ρ A.live w) (hf : Free ρ A.next A'.next) : ReqOk P (.enter f args) ρ w A v A' := by
 intro xs hx cs
 obtain ⟨x, w', ρ', fr', s1, s2, s3, s4, s5, ⟨fn, s6, s7⟩, s8, s9, s10⟩ := body_run hm hrec hN h hs hf .normal hx cs
 exact ⟨.returned x, w', fr', ⟨x, ρ', rfl, s8, s9, s10⟩, s1, s5, s2, s3, s4, fn, by rw [s5]; exact s6, s7⟩

theorem body_off (hm : P.follows .mixedOrders = true) (hrec : RecOk P rec) (hN : Named P) {m : Nat} {f : FuncId} {args : List AV} {A : AW} {v : AV} {A' : AW} (h : bodyA P rec m f args A = some (v, A')) {ρ : Rn} {w : World}
  (hs : Sim P ρ A.live w) (hf : Free ρ A.next A'.next) : ReqOk P (.dfr f args) ρ w A v A' := by
 intro xs hx c cs hc
 obtain ⟨x, w', ρ', fr', s1, s2, s3, s4, s5, ⟨fn, s6, s7⟩, s8, s9, s10⟩ := body_run hm hrec hN h hs hf .deferred hx (c :: cs)
 refine ⟨.returned x, .returning, w', fr', ⟨rfl, x, ρ', rfl, s8, s9, s10⟩, ?_, s4, s2, s3, fn, by rw [s5]; exact s6, s7⟩
 have : ({ c with mode := .returning } : Frame) = c := by rw [← hc]
 rw [this]
 exact s1

theorem args_at {ρ : Rn} {nt : Nat} : ∀ (ps : List Tmp) (args : List AV) (xs : List Value) (T T' : Tr AV) (tmps : Array Value), argsAt nt ps args T = some T' → VRs ρ args xs → TR ρ nt T tmps →
  args.length = ps.length ∧ TR ρ nt T' ((ps.zip xs).foldl (fun tmps (t, a) => tmps.setIfInBounds t a) tmps)
 | [], [], xs, T, T', tmps, h, hx, ht => by cases h; cases hx; exact ⟨rfl, ht⟩
 | [], _ :: _, _, _, _, _, h, _, _ | _ :: _, [], _, _, _, _, h, _, _ => by simp [argsAt] at h
 | t :: ps, v :: args, xs, T, T', tmps, h, hx, ht => by
  cases hx with
  | cons h1 h2 =>
  rename_i x xs
  simp only [argsAt] at h
  split at h
  ·rename_i hlt
   have hput : TR ρ nt (T.set t v) (tmps.setIfInBounds t x) :=
    TR.put (a := { tmps, defers := [] }) (d := some t) (T := T) ht hlt h1
   obtain ⟨l1, l2⟩ := args_at ps args xs _ T' _ h h2 hput
   exact ⟨by simp [l1], l2⟩
  ·cases h

theorem round_sound (hm : P.follows .mixedOrders = true) (hrec : RecOk P rec) (hN : Named P) {m n : Nat} {args : List AV} {A : AW} {v : AV} {A' : AW} (h : roundA P rec m n args A = some (v, A')) {ρ : Rn} {w : World}
  (hs : Sim P ρ A.live w) (hf : Free ρ A.next A'.next) : ReqOk P (.round n args) ρ w A v A' := by
 intro xs l hl hx
 unfold roundA at h
 split at h
 ·rename_i st pend f nt T ps as body d hget
  split at h
  ·cases h
  ·rename_i T1 hat
   split at h
   ·rename_i j fr A1 hit
    split at h
    ·rename_i st1 pend1 f1 nt1 T0 ps1 as1 b1 d1 hget1
     obtain ⟨tmps, ld, g1, g2, g3⟩ := hs.loopAt hget hl
     obtain ⟨l1, l2⟩ := args_at ps args xs T T1 tmps hat hx g3
     have hy := run_yield (P := P) (args := xs.toArray) g1 (by simp [hx.length, l1])
     simp only at hy
     refine ⟨f, _, as, body, hy, trivial, fun c cs _ => ?_⟩
     let b : Frame := { (default : Frame) with fn := f, kind := .normal, roundOf := some l.blk }
     have hb0 : ∀ tm, Frame.round l.blk f tm as body .normal = b.atR { tmps := tm, defers := [] } [.code as, .beginRound, .code body] := fun tm => by
      simp [Frame.round, Frame.atR, b]
     have hzip : (ps.toArray.zip xs.toArray).foldl (fun tmps (t, a) => tmps.setIfInBounds t a) tmps = (ps.zip xs).foldl (fun tmps (t, a) => tmps.setIfInBounds t a) tmps := by
      rw [← Array.foldl_toList]; simp
     have hR : FrR ρ { fn := f, nt, rnd := some n, T := T1, defs := [] } b { tmps := (ps.toArray.zip xs.toArray).foldl (fun tmps (t, a) => tmps.setIfInBounds t a) tmps, defers := [] } :=
      ⟨rfl, by rw [hzip]; exact l2, ⟨l, hl, rfl⟩, .nil⟩
     have hnext : A'.next = A1.next := by split at h <;> (cases h; rfl)
     obtain ⟨a1, w1, ρ1, todo1, q1, q2, q3, q4, q5, q6, q7⟩ := items_sound hm hrec hN m _ _ _ _ _ _ hit ρ w _ b (c :: cs) hs (by rw [← hnext]; exact hf) hR
     have hl1 := q3.sub _ _ hl
     obtain ⟨tmps1, ld1, k1, k2, k3⟩ := q2.loopAt hget1 hl1
     have hlive : A1.live n = some (.loop st1 pend1 f1 nt1 T0 ps1 as1 b1 d1) := live_of_get hget1 (by simp)
     have hlt : l.blk < w1.heap.size := (Array.getElem?_eq_some_iff.1 k1).1
     have fin : ∀ (jump : Option Code), ∃ w2, (Instr.endRound l.blk jump).run P w1 = .ok (.bool jump.isNone) w2 ∧
       Sim P ρ1 (A1.set n (.loop (if jump.isNone then .ready else .done) jump f1 nt1 T0 ps1 as1 b1 d1)).live w2 ∧ Ext ρ1 w1 A1 ρ1 w2 (A1.set n (.loop (if jump.isNone then .ready else .done) jump f1 nt1 T0 ps1 as1 b1 d1)) := by
      intro jump
      refine ⟨_, run_endRound jump k1, q2.setAt hlive hl1 (World.putObj_heap_same hlt) ⟨tmps1, ld1, rfl, k2, k3⟩ putObj_other, Ext.setAt hlive hl1 putObj_other World.putObj_size rfl rfl rfl⟩
     split at h
     ·cases h
      obtain ⟨w2, e1, e2, e3⟩ := fin none
      refine ⟨.returned (.bool true), w2, ⟨_, ρ1, rfl, .flat _, e2, q3.trans e3⟩, comesIn_wide.2 ?_⟩
      rw [hb0]
      obtain rfl : todo1 = [] := q7
      exact Steps.trans q1 (.one (stepR_round_end rfl rfl e1))
     ·rename_i cj
      cases h
      obtain ⟨w2, e1, e2, e3⟩ := fin (some cj)
      refine ⟨.returned (.bool false), w2, ⟨_, ρ1, rfl, .flat _, e2, q3.trans e3⟩, comesIn_wide.2 ?_⟩
      rw [hb0]
      rcases q7 with ⟨rfl, k, rfl⟩ | ⟨id, k, rfl, hk, rfl⟩ | ⟨lb, k, rfl, hk, rfl⟩
      ·exact Steps.trans q1 (.one (stepR_round_ret rfl rfl e1))
      ·exact Steps.trans q1 (.one (stepR_round_exit rfl rfl hk e1))
      ·exact Steps.trans q1 (.one (stepR_round_goto rfl rfl hk e1))
    ·cases h
   ·cases h
 ·cases h

/-! ### A row of picks, sorted -/

theorem inserts_mem {α : Type} (x : α) : ∀ (s t : List α), s ++ x :: t ∈ inserts x (s ++ t)
 | [], [] => by simp [inserts]
 | [], y :: t => by simp [inserts]
 | y :: s, t => by
  simp only [List.cons_append, inserts, List.mem_cons, List.mem_map]
  exact .inr ⟨_, inserts_mem x s t, rfl⟩

theorem perms_mem {α : Type} : ∀ (k l : List α), l.Perm k → l ∈ perms k
 | [], l, h => by rw [List.Perm.eq_nil h]; simp [perms]
 | x :: k, l, h => by
  obtain ⟨s, t, rfl⟩ := List.append_of_mem ((h.mem_iff (a := x)).2 (by simp))
  have h2 : (s ++ t).Perm k := (List.perm_middle.symm.trans h).cons_inv
  simp only [perms, List.mem_flatMap]
  exact ⟨s ++ t, perms_mem k _ h2, inserts_mem x s t⟩

theorem orders_spec {f : FuncId} {args : List AV} {n next : Nat} {t : TypeId} : ∀ {ls : List (List AV)} {v : AV} {r : List AV}, orders rec f args n next t ls = some (v, r) →
  ∀ l ∈ ls, ∃ A, rec (.enter f args) ⟨Tr.lf.set n (.cells l t), next⟩ = some (v, A) ∧ A.get n = some (.cells r t) ∧ A.next = next
 | [], v, r, h, l, hl => by cases hl
 | [l0], v, r, h, l, hl => by
  simp at hl; subst hl
  simp only [orders] at h
  split at h
  ·rename_i v1 A1 hr
   split at h
   ·rename_i r1 t1 hg
    split at h
    ·rename_i hb
     simp only [Bool.and_eq_true] at hb
     cases h
     exact ⟨A1, hr, by rw [hg, Nat.eq_of_beq_eq_true hb.2], Nat.eq_of_beq_eq_true hb.1⟩
    ·cases h
   ·cases h
  ·cases h
 | l0 :: l1 :: ls, v, r, h, l, hl => by
  simp only [orders] at h
  split at h
  ·rename_i v1 A1 hr
   split at h
   ·rename_i r1 t1 hg
    split at h
    ·rename_i v2 r2 h2
     split at h
     ·rename_i hb
      simp only [Bool.and_eq_true] at hb
      obtain ⟨⟨⟨b1, b2⟩, b3⟩, b4⟩ := hb
      cases h
      have e1 := aSame_spec b3
      have e2 := asSame_spec b4
      subst e1; subst e2
      rcases List.mem_cons.1 hl with rfl | hl
      ·exact ⟨A1, hr, by rw [hg, Nat.eq_of_beq_eq_true b2], Nat.eq_of_beq_eq_true b1⟩
      ·exact orders_spec (by simpa only [orders] using h2) l hl
     ·cases h
    ·cases h
   ·cases h
  ·cases h

theorem picks_cells {ρ : Rn} {i : Nat} {keys : List AV} : ∀ {ns : List Nat} {row : List AV} {idx : List Nat}, allPicks i keys ns row = true → Drawn ρ ns idx →
  ∀ (k : Nat) (a : AV), row[k]? = some a → ∀ v, VR ρ a v → ∃ x, (idx.map fun j => keys.getD j undefA)[k]? = some x ∧ VR ρ x v
 | [], [], _, _, _, k, a, h, _, _ => by simp at h
 | [], _ :: _, _, h, _, _, _, _, _, _ => by simp [allPicks] at h
 | _ :: _, [], _, h, _, _, _, _, _, _ => by simp [allPicks] at h
 | n :: ns, b :: row, idx, h, hd, k, a, hk, v, hv => by
  cases b <;> simp only [allPicks, Bool.false_eq_true] at h
  rename_i m j l
  simp only [Bool.and_eq_true] at h
  obtain ⟨⟨⟨h1, h2⟩, h3⟩, h4⟩ := h
  have e1 := Nat.eq_of_beq_eq_true h1; subst e1
  have e3 := asSame_spec h3; subst e3
  cases hd with
  | cons hc hd =>
  rename_i c is
  cases k with
  | zero =>
   simp at hk; subst hk
   cases hv with
   | pick _ e1 e2 e3 e4 =>
   rw [hc] at e1; cases e1
   refine ⟨_, ?_, e4⟩
   simp [List.getD_eq_getElem?_getD, e2]
  | succ k =>
   simp at hk
   obtain ⟨x, x1, x2⟩ := picks_cells h4 hd k a hk v hv
   exact ⟨x, by simpa using x1, x2⟩

theorem allPicks_len {i : Nat} {keys : List AV} : ∀ {ns : List Nat} {row : List AV}, allPicks i keys ns row = true → row.length = ns.length
 | [], [], _ => rfl
 | [], _ :: _, h => by simp [allPicks] at h
 | _ :: _, [], h => by simp [allPicks] at h
 | n :: ns, b :: row, h => by
  cases b <;> simp only [allPicks, Bool.false_eq_true] at h
  simp only [Bool.and_eq_true] at h
  simp [allPicks_len h.2]

theorem sort_sound (hrec : RecOk P rec) {f : FuncId} {args : List AV} {A : AW} {v : AV} {A' : AW} (h : sortA P rec f args A = some (v, A')) {ρ : Rn} {w : World}
  (hs : Sim P ρ A.live w) : ReqOk P (.enter f args) ρ w A v A' := by
 intro xs hx
 unfold sortA at h
 split at h
 ·rename_i n o len cap opn
  split at h
  ·rename_i m i keys r t hg
   split at h
   ·rename_i mm since seen bs last hgi
    split at h
    ·rename_i hb
     simp only [Bool.and_eq_true] at hb
     obtain ⟨⟨⟨hb1, hb2⟩, hb3⟩, hb4⟩ := hb
     split at h
     ·rename_i v1 rr ho
      cases h
      have hb2 := Nat.eq_of_beq_eq_true hb2
      have hb3 := Nat.eq_of_beq_eq_true hb3
      have hlive : A.live n = some (.cells (.pick m i keys :: r) t) := live_of_get hg (by simp)
      obtain ⟨ln, on, n1, n2, n3⟩ := hs.obj n _ hlive
      obtain ⟨li, oi, i1, i2, i3, mr, sn, i4, i5, idx, d1, d2, d3, d4⟩ := hs.obj i _ (live_of_get hgi (by simp))
      have hil : idx.length = keys.length := by rw [d1.length]; omega
      -- the order that has come
      have hperm : (idx.map fun j => keys.getD j undefA).Perm keys := by
       have p1 : idx.Perm (List.range keys.length) := by
        rw [List.perm_ext_iff_of_nodup d2 List.nodup_range]
        intro a
        constructor
        ·intro ha; have := d3 a ha; simp; omega
        ·intro ha; exact nodup_full d2 (fun i hi => by have := d3 i hi; omega) hil a (by simpa using ha)
       have p2 := p1.map fun j => keys.getD j undefA
       have p3 : (List.range keys.length).map (fun j => keys.getD j undefA) = keys := by
        apply List.ext_getElem?
        intro j
        by_cases hj : j < keys.length
        ·simp [hj, List.getD_eq_getElem?_getD]
        ·rw [List.getElem?_eq_none (by simp; omega), List.getElem?_eq_none (by omega)]
       rw [p3] at p2
       exact p2
      obtain ⟨A1, a1, a2, a3⟩ := orders_spec ho _ (perms_mem _ _ hperm)
      generalize hrow : (idx.map fun j => keys.getD j undefA) = row at a1 hperm
      have hrl : row.length = (AV.pick m i keys :: r).length := by rw [← hrow, List.length_map, d1.length, allPicks_len hb1]
      -- the memory of this one row
      have hone : ∀ k ao, (⟨Tr.lf.set n (.cells row t), A.next⟩ : AW).live k = some ao → k = n ∧ ao = .cells row t := by
       intro k ao hk
       unfold AW.live AW.get at hk
       simp only [Tr.get_set] at hk
       by_cases e : k = n
       ·rw [if_pos e] at hk; exact ⟨e, by simpa using hk.symm⟩
       ·rw [if_neg e] at hk; simp [Tr.get_lf] at hk
      have s1 : Sim P ρ (⟨Tr.lf.set n (.cells row t), A.next⟩ : AW).live w := by
       constructor
       ·intro k ao hk
        obtain ⟨rfl, rfl⟩ := hone k ao hk
        refine ⟨ln, on, n1, n2, ?_⟩
        obtain ⟨C, fz, c1, c2, c3, c4⟩ := n3
        refine ⟨C, fz, c1, by rw [hrl]; exact c2, c3, fun j a ha => ?_⟩
        have hjl : j < (AV.pick m i keys :: r).length := by rw [← hrl]; exact (List.getElem?_eq_some_iff.1 ha).1
        obtain ⟨u, u1, u2⟩ := c4 j _ (List.getElem?_eq_getElem hjl)
        obtain ⟨x, x1, x2⟩ := picks_cells hb1 d1 j _ (List.getElem?_eq_getElem hjl) u u2
        rw [hrow, ha] at x1; cases x1
        exact ⟨u, u1, x2⟩
       ·intro k k' a b l l' h1 h2 _ _ _
        rw [(hone k a h1).1, (hone k' b h2).1]
      have hfree : Free ρ (⟨Tr.lf.set n (.cells row t), A.next⟩ : AW).next A1.next := fun k h1 h2 => by
       rw [a3] at h2; exact absurd h2 (by simp at h1; omega)
      refine (hrec _ _ _ _ a1 ρ w s1 hfree xs hx).mono ?_
      rintro e w' ⟨x, ρ', rfl, h1, h2, h3⟩
      have hρ : ρ' = ρ := by
       funext k
       cases e : ρ k with
       | some l => exact h3.sub _ _ e
       | none =>
        cases e' : ρ' k with
        | none => rfl
        | some l =>
         have := h3.fresh k e (by rw [e']; simp)
         simp only [a3] at this; omega
      subst hρ
      have hkeep : ∀ b, b < w.heap.size → b ≠ ln.blk → w'.heap[b]? = w.heap[b]? := fun b hb hne => h3.keep b hb fun k ao l hk hl he => by
       obtain ⟨rfl, _⟩ := hone k ao hk
       rw [n1] at hl; cases hl; exact hne he.symm
      have hset : ∀ k am, (A.set n (.cells rr t)).live k = some am → (k = n ∧ am = .cells rr t) ∨ (k ≠ n ∧ A.live k = some am) := by
       intro k am hk
       rw [live_set] at hk
       by_cases e : k = n
       ·rw [if_pos e] at hk; exact .inl ⟨e, by simpa using hk.symm⟩
       ·rw [if_neg e] at hk; exact .inr ⟨e, hk⟩
      have hlv : ∀ k am, (A.set n (.cells rr t)).live k = some am → ∃ a, A.live k = some a := fun k am hk => by
       rcases hset k am hk with ⟨rfl, _⟩ | ⟨_, h⟩
       ·exact ⟨_, hlive⟩
       ·exact ⟨_, h⟩
      refine ⟨x, ρ', rfl, h1, ⟨?_, ?_⟩, ?_⟩
      ·intro k am hk
       rcases hset k am hk with ⟨rfl, rfl⟩ | ⟨hne, hk⟩
       ·exact h2.obj k _ (live_of_get a2 (by simp))
       ·obtain ⟨l, ob, o1, o2, o3⟩ := hs.obj k am hk
        refine ⟨l, ob, o1, ?_, o3⟩
        rw [hkeep _ (Array.getElem?_eq_some_iff.1 o2).1 fun e => hne (hs.inj k n am _ l ln hk hlive o1 n1 e)]
        exact o2
      ·intro k k' a b l l' h1' h2' e1 e2 he
       obtain ⟨a', ha⟩ := hlv k a h1'
       obtain ⟨b', hb'⟩ := hlv k' b h2'
       exact hs.inj k k' a' b' l l' ha hb' e1 e2 he
      ·exact ⟨Sub.refl _, fun _ e k => absurd e k, Nat.le_refl _, fun k am hk => .inl (hlv k am hk),
        fun k am l hk e => by obtain ⟨a', ha⟩ := hlv k am hk; exact .inr ⟨k, a', l, ha, e, rfl⟩,
        fun b hb hn => hkeep b hb fun e => hn n _ ln hlive n1 e.symm, h3.size, h3.os, h3.tape, h3.output⟩
     ·cases h
    ·cases h
   ·cases h
  ·cases h
 ·cases h

def HooksOk (P : Program) (hk : FuncId → Bool) : Prop := ∀ f, hk f = true → ∀ w, Calls P f #[] w fun e w' => e = .returned (.bool true) ∧ RowKit.Below w.heap.size w w'

theorem hook_sound {hk : FuncId → Bool} (hh : HooksOk P hk) {f : FuncId} (hf : hk f = true) {A : AW} {ρ : Rn} {w : World} (hs : Sim P ρ A.live w) : ReqOk P (.enter f []) ρ w A (.flat (.bool true)) A := by
 intro xs hx
 cases hx
 refine (hh f hf w).mono ?_
 rintro e w' ⟨rfl, hb⟩
 have hold : ∀ n ao l, A.live n = some ao → ρ n = some l → w'.heap[l.blk]? = w.heap[l.blk]? := fun n ao l hn hl => by
  obtain ⟨l', o, e1, e2, _⟩ := hs.obj n ao hn
  rw [hl] at e1; cases e1
  exact hb.block _ (Array.getElem?_eq_some_iff.1 e2).1
 refine ⟨.bool true, ρ, rfl, .flat _, ⟨fun n ao hn => ?_, hs.inj⟩, ⟨Sub.refl _, fun _ e k => absurd e k, Nat.le_refl _, fun n ao h => .inl ⟨ao, h⟩, fun n ao l h e => .inr ⟨n, ao, l, h, e, rfl⟩, fun b hb' _ => hb.block b hb', hb.size, hb.os, hb.tape, hb.output⟩⟩
 obtain ⟨l, o, e1, e2, e3⟩ := hs.obj n ao hn
 exact ⟨l, o, e1, by rw [hold n ao l hn e1]; exact e2, e3⟩

theorem req_sound (hm : P.follows .mixedOrders = true) (hN : Named P) {hk : FuncId → Bool} (hh : HooksOk P hk) (m : Nat) : ∀ d, RecOk P (reqA P hk m d)
 | 0 => fun rq A v A' h => by simp [reqA] at h
 | d + 1 => fun rq A v A' h ρ w hs hf => by
  have ih := req_sound hm hN hh m d
  cases rq with
  | enter f args =>
   simp only [reqA] at h
   split at h
   ·rename_i hb
    simp only [Bool.and_eq_true, List.isEmpty_iff] at hb
    cases h
    obtain ⟨h1, rfl⟩ := hb
    exact hook_sound hh h1 hs
   ·split at h
    ·exact sort_sound ih h hs
    ·exact body_sound hm ih hN h hs hf
  | round n args =>
   simp only [reqA] at h
   exact round_sound hm ih hN h hs hf
  | dfr f args =>
   simp only [reqA] at h
   exact body_off hm ih hN h hs hf

theorem noHooks : HooksOk P noHook := fun f h => by cases h
theorem named_of (h : (P.funcs.toList.all fun fn => !(fn.name == "runtime.NumGoroutine")) = true) : Named P := fun f fn hf => by
 have := List.all_eq_true.1 h fn (by simpa using Array.mem_of_getElem? hf)
 simpa using this
end
noncomputable section
variable {P : Program}
abbrev Memo := FuncId → List AV → AW → Option (AV × AW)
def MemoOk (P : Program) (sk : Memo) : Prop := ∀ f args A v A', sk f args A = some (v, A') → ∀ ρ w, Sim P ρ A.live w → Free ρ A.next A'.next → ReqOk P (.enter f args) ρ w A v A'

def reqS (P : Program) (hk : FuncId → Bool) (sk : Memo) (m : Nat) : Nat → Req → AW → Option (AV × AW)
 | 0, _, _ => none
 | d + 1, .enter f args, A =>
  match sk f args A with
  | some r => some r
  | none =>
   match hk f && args.isEmpty with
   | true => some (.flat (.bool true), A)
   | false =>
    match isPicks args A with
    | true => sortA P (reqS P hk sk m d) f args A
    | false => bodyA P (reqS P hk sk m d) m f args A
 | d + 1, .round n args, A => roundA P (reqS P hk sk m d) m n args A
 | d + 1, .dfr f args, A => bodyA P (reqS P hk sk m d) m f args A
def topS (P : Program) (hk : FuncId → Bool) (sk : Memo) (m d : Nat) (f : FuncId) (args : List AV) : Bool := isTrue (reqS P hk sk m d (.enter f args) ⟨.lf, 0⟩)

theorem reqS_sound (hm : P.follows .mixedOrders = true) (hN : Named P) {hk : FuncId → Bool} (hh : HooksOk P hk) {sk : Memo} (hsk : MemoOk P sk) (m : Nat) : ∀ d, RecOk P (reqS P hk sk m d)
 | 0 => fun rq A v A' h => by simp [reqS] at h
 | d + 1 => fun rq A v A' h ρ w hs hf => by
  have ih := reqS_sound hm hN hh hsk m d
  cases rq with
  | enter f args =>
   simp only [reqS] at h
   split at h
   ·rename_i r hr
    cases h
    exact hsk _ _ _ _ _ hr ρ w hs hf
   ·split at h
    ·rename_i hb
     simp only [Bool.and_eq_true, List.isEmpty_iff] at hb
     cases h
     obtain ⟨h1, rfl⟩ := hb
     exact hook_sound hh h1 hs
    ·split at h
     ·exact sort_sound ih h hs
     ·exact body_sound hm ih hN h hs hf
  | round n args =>
   simp only [reqS] at h
   exact round_sound hm ih hN h hs hf
  | dfr f args =>
   simp only [reqS] at h
   exact body_off hm ih hN h hs hf

theorem topS_sound (hm : P.follows .mixedOrders = true) (hN : Named P) {hk : FuncId → Bool} (hh : HooksOk P hk) {sk : Memo} (hsk : MemoOk P sk) {m d : Nat} {f : FuncId} {args : List AV} (h : topS P hk sk m d f args = true) {xs : List Value} (hx : VRs (fun _ => none) args xs) (w : World) :
  Calls P f xs.toArray w fun e w' => e = .returned (.bool true) ∧ RowKit.Below w.heap.size w w' := by
 unfold topS isTrue at h
 split at h
 ·rename_i b A' hr
  subst h
  have hs : Sim P (fun _ => none) (⟨.lf, 0⟩ : AW).live w := ⟨fun n ao h => by simp [AW.live, AW.get, Tr.get_lf] at h, fun n m a b l l' h => by simp [AW.live, AW.get, Tr.get_lf] at h⟩
  refine (reqS_sound hm hN hh hsk m d _ _ _ _ hr _ w hs (fun _ _ _ => rfl) xs hx).mono ?_
  rintro e w' ⟨x, ρ', rfl, h1, h2, h3⟩
  cases h1
  exact ⟨rfl, h3.os, h3.tape, h3.output, h3.size, fun k hk => h3.keep k hk fun n ao l h => by simp [AW.live, AW.get, Tr.get_lf] at h⟩
 ·cases h

end
end Go.Proofs.YtookoagcmejkpaaGreatDoor.Ab
