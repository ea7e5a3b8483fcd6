/-
  Operations, fourth part: maps.
-/
import Derived.Test.YtjhaccpljgdlpaaGreatAb6
namespace Go.Proofs.YtjhaccpljgdlpaaGreat.Ab
open Go
section
variable {P : Program} {ρ : Rn} {A : AW} {w : World}

theorem pureRun_bind {α β : Type} : ∀ (s : Sem α) (f : α → Sem β), pureRun P (s >>= f) = (pureRun P s).bind fun a => pureRun P (f a) := by
  intro s
  induction s with
  | pure a => intro f; rfl
  | program k ih => intro f; exact ih P f
  | mark m k ih => intro f; exact ih f
  | _ => intro f; rfl

theorem ERs.length {l : List (AV × AV × Nat)} {cs : List MapEntry} (h : ERs ρ l cs) : cs.length = l.length := by
  induction h with
  | nil => rfl
  | cons _ _ _ _ ih => simp [ih]

theorem ERs.get {l : List (AV × AV × Nat)} {cs : List MapEntry} (h : ERs ρ l cs) : ∀ {i : Nat} {e : AV × AV × Nat}, l[i]? = some e → ∃ c, cs[i]? = some c ∧ VR ρ e.1 c.key ∧ VR ρ e.2.1 c.val ∧ c.born = e.2.2 := by
  induction h with
  | nil => intro i e h; simp at h
  | cons a b c _ ih =>
    intro i e h
    cases i with
    | zero => simp at h; subst h; exact ⟨_, rfl, a, b, c⟩
    | succ i => simp at h; simpa using ih h

/-- entries alike but for what they hold -/
inductive Bare : List MapEntry → List MapEntry → Prop
  | nil : Bare [] []
  | cons {a b : MapEntry} {l m : List MapEntry} : a.key = b.key → Bare l m → Bare (a :: l) (b :: m)

theorem bare_of {l : List (AV × AV × Nat)} {cs bs : List MapEntry} (h : ERs ρ l cs) (k : bareEntries l = some bs) : Bare bs cs := by
  induction h generalizing bs with
  | nil => simp [bareEntries] at k; subst k; exact .nil
  | cons a b c _ ih =>
    simp only [bareEntries] at k
    split at k
    · rename_i v r e1 e2
      cases k
      exact .cons (toV_spec e1 a).symm (ih e2)
    · cases k

theorem findNow_bare {d : TypeDesc} {k : Value} : ∀ {bs cs : List MapEntry} (_h : Bare bs cs) (i : Nat),
    (Instr.findNow d k bs i = none → Instr.findNow d k cs i = none) ∧ (Instr.findNow d k bs i = some none → Instr.findNow d k cs i = some none) ∧
    (∀ j v, Instr.findNow d k bs i = some (some (j, v)) → ∃ c, i ≤ j ∧ cs[j - i]? = some c ∧ Instr.findNow d k cs i = some (some (j, c.val)))
  | _, _, .nil, i => by simp [Instr.findNow]
  | _, _, .cons (a := a) (b := b) e h, i => by
    obtain ⟨h1, h2, h3⟩ := findNow_bare (d := d) (k := k) h (i + 1)
    simp only [Instr.findNow, e]
    cases Instr.sameNow d k b.key with
    | none => simp
    | some t =>
      cases t with
      | true =>
        simp only [Option.some.injEq, Prod.mk.injEq, reduceCtorEq, false_implies, true_and]
        rintro j v ⟨rfl, rfl⟩
        exact ⟨b, Nat.le_refl _, by simp, rfl, rfl⟩
      | false =>
        refine ⟨h1, h2, fun j v hj => ?_⟩
        obtain ⟨c, c1, c2, c3⟩ := h3 j v hj
        exact ⟨c, by omega, by have : j - i = (j - (i + 1)) + 1 := by omega
                               rw [this]; simpa using c2, c3⟩

theorem findAsking_bare {kt : TypeId} {k : Value} (w : World) : ∀ {bs cs : List MapEntry} (_h : Bare bs cs) (i : Nat),
    (pureRun P (Instr.findAsking kt k bs i) = some none → (Instr.findAsking kt k cs i).run P w = .ok none w) ∧
    (∀ j v, pureRun P (Instr.findAsking kt k bs i) = some (some (j, v)) → ∃ c, i ≤ j ∧ cs[j - i]? = some c ∧ (Instr.findAsking kt k cs i).run P w = .ok (some (j, c.val)) w)
  | _, _, .nil, i => by
    constructor
    · intro _; rfl
    · intro j v h; simp [Instr.findAsking, pureRun, pure] at h
  | _, _, .cons (a := a) (b := b) e h, i => by
    obtain ⟨h2, h3⟩ := findAsking_bare (kt := kt) (k := k) w h (i + 1)
    simp only [Instr.findAsking, pureRun_bind, e]
    cases hq : pureRun P (Op.equal kt k b.key) with
    | none => simp
    | some t =>
      have hrun := pureRun_spec _ _ hq w
      cases t with
      | true =>
        simp only [Option.bind_some, if_true, Sem.run_bind, hrun, Result.andThen_ok]
        constructor
        · intro hh; simp [pureRun, pure] at hh
        · intro j v hh
          simp [pureRun, pure] at hh
          obtain ⟨rfl, rfl⟩ := hh
          exact ⟨b, Nat.le_refl _, by simp, rfl⟩
      | false =>
        simp only [Option.bind_some, Bool.false_eq_true, if_false, Sem.run_bind, hrun, Result.andThen_ok]
        refine ⟨h2, fun j v hj => ?_⟩
        obtain ⟨c, c1, c2, c3⟩ := h3 j v hj
        exact ⟨c, by omega, by have : j - i = (j - (i + 1)) + 1 := by omega
                               rw [this]; simpa using c2, c3⟩

theorem find_sound {kt : TypeId} {k : Value} {es : List (AV × AV × Nat)} {cs : List MapEntry} (he : ERs ρ es cs) (w : World) :
    (findA P kt k es = some none → (Instr.findKey kt k cs).run P w = .ok none w) ∧
    (∀ i, findA P kt k es = some (some i) → ∃ c, cs[i]? = some c ∧ (Instr.findKey kt k cs).run P w = .ok (some (i, c.val)) w) := by
  unfold findA
  cases hb : bareEntries es with
  | none => simp
  | some bs =>
    have hB := bare_of he hb
    simp only
    have key : ∀ r, pureRun P (Instr.findKey kt k bs) = some r → (r = none → (Instr.findKey kt k cs).run P w = .ok none w) ∧ (∀ i v, r = some (i, v) → ∃ c, cs[i]? = some c ∧ (Instr.findKey kt k cs).run P w = .ok (some (i, c.val)) w) := by
      intro r hr
      unfold Instr.findKey at hr ⊢
      rw [pureRun_bind] at hr
      cases hu : pureRun P (underlying kt) with
      | none => rw [hu] at hr; cases hr
      | some d =>
        rw [hu] at hr
        have hru := pureRun_spec _ _ hu w
        simp only [Option.bind_some] at hr
        simp only [Sem.run_bind, hru, Result.andThen_ok]
        obtain ⟨n1, n2, n3⟩ := findNow_bare (d := d) (k := k) hB 0
        cases hn : Instr.findNow d k bs 0 with
        | none =>
          rw [hn] at hr
          rw [n1 hn]
          obtain ⟨a1, a2⟩ := findAsking_bare (P := P) (kt := kt) (k := k) w hB 0
          refine ⟨fun e => a1 (by rw [← e]; exact hr), fun i v e => ?_⟩
          obtain ⟨c, _, c2, c3⟩ := a2 i v (by rw [← e]; exact hr)
          exact ⟨c, by simpa using c2, c3⟩
        | some q =>
          rw [hn] at hr
          simp [pureRun, pure] at hr
          subst hr
          cases q with
          | none => rw [n2 hn]; exact ⟨fun _ => rfl, fun i v e => by cases e⟩
          | some p =>
            obtain ⟨j, v⟩ := p
            obtain ⟨c, _, c2, c3⟩ := n3 j v hn
            rw [c3]
            refine ⟨fun e => (by cases e), fun i v' e => ?_⟩
            cases e
            exact ⟨c, by simpa using c2, rfl⟩
    cases hp : pureRun P (Instr.findKey kt k bs) with
    | none => simp
    | some r =>
      obtain ⟨k1, k2⟩ := key r hp
      cases r with
      | none => exact ⟨fun _ => k1 rfl, fun i e => by simp at e⟩
      | some p =>
        obtain ⟨j, v⟩ := p
        refine ⟨fun e => by simp at e, fun i e => ?_⟩
        simp at e
        subst e
        exact k2 j v rfl

theorem keyOk_spec {b : Bool} {kt : TypeId} {k : Value} (h : keyOk P b kt k = true) (w : World) : (Instr.checkKey b 10000 kt k).run P w = .ok () w := by
  unfold keyOk at h
  obtain ⟨u, hu⟩ := Option.isSome_iff_exists.1 h
  exact pureRun_spec _ _ hu w

theorem Sim.mapAt (hs : Sim P ρ A.live w) {n : Nat} {l : Loc} {es : List (AV × AV × Nat)} {clock : Nat} (h : A.get n = some (.map es clock)) (hl : ρ n = some l) :
    ∃ cs : List MapEntry, w.heap[l.blk]? = some (.map cs.toArray clock) ∧ ERs ρ es cs := by
  obtain ⟨l', o, h1, h2, cs, rfl, h3⟩ := hs.obj n _ (live_of_get h (by simp))
  rw [hl] at h1; cases h1
  exact ⟨cs, h2, h3⟩

theorem run_getMap {r : Nat} {es : Array MapEntry} {c : Nat} (h : w.heap[r]? = some (.map es c)) : (getObj r).run P w = .ok (.map es c) w := by
  simp [getObj, Sem.run, h]

theorem lookup_sound (hs : Sim P ρ A.live w) {t : TypeId} {m k v : AV} {ok : Bool} {x y : Value} (h : lookupA P A t m k ok = some v) (hm : VR ρ m x) (hk : VR ρ k y) :
    ∃ z, (Instr.lookup t x y ok).run P w = .ok z w ∧ VR ρ v z := by
  unfold lookupA at h
  split at h
  · rename_i kt elem kv hu hkv
    have := toV_spec hkv hk; subst this
    split at h
    · rename_i es hes
      split at h
      · rename_i hok
        have hent : ∃ cs : List MapEntry, ERs ρ es cs ∧ ((x = .map none ∧ cs = []) ∨ ∃ r clock, x = .map (some r) ∧ w.heap[r]? = some (.map cs.toArray clock)) := by
          split at hes
          · cases hes
            cases hm
            exact ⟨[], .nil, .inl ⟨rfl, rfl⟩⟩
          · rename_i n
            split at hes
            · rename_i es' clock hg
              cases hes
              cases hm with
              | mp hl =>
              obtain ⟨cs, h1, h2⟩ := hs.mapAt hg hl
              exact ⟨cs, h2, .inr ⟨_, _, rfl, h1⟩⟩
            · cases hes
          · cases hes
        obtain ⟨cs, he, hx⟩ := hent
        have hemp : cs.toArray.isEmpty = es.isEmpty := by
          have := he.length
          cases es <;> cases cs <;> simp at this ⊢
        obtain ⟨f1, f2⟩ := find_sound (P := P) (kt := kt) (k := y) he w
        have hck := keyOk_spec hok w
        split at h
        · rename_i i hi
          obtain ⟨c, c1, c2⟩ := f2 i hi
          split at h
          · rename_i e ee
            cases h
            obtain ⟨c', d1, d2, d3, d4⟩ := he.get ee
            rw [c1] at d1; cases d1
            refine ⟨if ok then .tuple #[c.val, .bool true] else c.val, ?_, ?_⟩
            · rcases hx with ⟨rfl, rfl⟩ | ⟨r, clock, rfl, hr⟩
              · simp at c1
              · simp at hemp
                simp [Instr.lookup, run_und hu, run_getMap hr, hemp, hck, c2]
            · cases ok
              · exact d3
              · exact .tup (.cons d3 (.cons (.flat _) .nil))
          · cases h
        · rename_i hi
          split at h
          · rename_i z hz
            cases h
            obtain ⟨zv, rfl, hzr⟩ := run_zero hz
            refine ⟨if ok then .tuple #[zv, .bool false] else zv, ?_, ?_⟩
            · rcases hx with ⟨rfl, rfl⟩ | ⟨r, clock, rfl, hr⟩
              · simp at hemp
                subst hemp
                have f1' := f1 hi
                simp at hck
                simp [Instr.lookup, run_und hu, hck, f1', hzr]
              · simp at hemp
                simp [Instr.lookup, run_und hu, run_getMap hr, hemp, hck, f1 hi, hzr]
            · cases ok
              · exact VR.fromV zv
              · exact .tup (.cons (VR.fromV zv) (.cons (.flat _) .nil))
          · cases h
        · cases h
      · cases h
    · cases h
  · cases h

theorem ERs.modify {l : List (AV × AV × Nat)} {cs : List MapEntry} (h : ERs ρ l cs) {f : AV × AV × Nat → AV × AV × Nat} {g : MapEntry → MapEntry}
    (hf : ∀ e c, VR ρ e.1 c.key → VR ρ e.2.1 c.val → c.born = e.2.2 → VR ρ (f e).1 (g c).key ∧ VR ρ (f e).2.1 (g c).val ∧ (g c).born = (f e).2.2) (i : Nat) : ERs ρ (l.modify i f) (cs.modify i g) := by
  induction h generalizing i with
  | nil => simpa using ERs.nil
  | cons a b c d ih =>
    cases i with
    | zero =>
      simp only [List.modify_zero_cons]
      obtain ⟨h1, h2, h3⟩ := hf (_, _, _) _ a b c
      exact .cons h1 h2 h3 d
    | succ i =>
      simp only [List.modify_succ_cons]
      exact .cons a b c (ih i)

theorem ERs.snoc {l : List (AV × AV × Nat)} {cs : List MapEntry} (h : ERs ρ l cs) {k x : AV} {b : Nat} {c : MapEntry} (h1 : VR ρ k c.key) (h2 : VR ρ x c.val) (h3 : c.born = b) : ERs ρ (l ++ [(k, x, b)]) (cs ++ [c]) := by
  induction h with
  | nil => exact .cons h1 h2 h3 .nil
  | cons a b c _ ih => exact .cons a b c ih

theorem setObj_world {r : Nat} {es es' : Array MapEntry} {c c' : Nat} (h : w.heap[r]? = some (.map es c)) :
    ∃ w', (setObj r (.map es' c')).run P w = .ok () w' ∧ w'.heap[r]? = some (.map es' c') ∧ (∀ b, b ≠ r → w'.heap[b]? = w.heap[b]?) ∧ w'.heap.size = w.heap.size ∧ w'.os = w.os ∧ w'.tape = w.tape ∧ w'.output = w.output := by
  refine ⟨{ w with heap := w.heap.setIfInBounds r (.map es' c') }, by simp [setObj, Sem.run, h], ?_, ?_, by simp, rfl, rfl, rfl⟩
  · have := (Array.getElem?_eq_some_iff.1 h).1
    simp [this]
  · intro b hb
    simp [Ne.symm hb]

theorem update_sound (hs : Sim P ρ A.live w) {t : TypeId} {m k v : AV} {A' : AW} {x y z : Value} (h : updateA P A t m k v = some A') (hm : VR ρ m x) (hk : VR ρ k y) (hv : VR ρ v z) :
    ∃ w', (Instr.mapUpdate t x y z).run P w = .ok () w' ∧ Sim P ρ A'.live w' ∧ Ext ρ w A ρ w' A' := by
  unfold updateA at h
  split at h
  · rename_i kt et kv n hu hkv
    have := toV_spec hkv hk; subst this
    cases hm with
    | mp hl =>
    rename_i l
    split at h
    · rename_i es clock hg
      obtain ⟨cs, h1, he⟩ := hs.mapAt hg hl
      obtain ⟨f1, f2⟩ := find_sound (P := P) (kt := kt) (k := y) he w
      split at h
      · rename_i hok
        have hck := keyOk_spec hok w
        split at h
        · rename_i i hi
          obtain ⟨c, c1, c2⟩ := f2 i hi
          split at h
          · rename_i e ee
            split at h
            · rename_i ekv hek
              split at h
              · rename_i hsame
                cases h
                obtain ⟨c', d1, d2, d3, d4⟩ := he.get ee
                rw [c1] at d1; cases d1
                have hkey := toV_spec hek d2
                obtain ⟨w', s1, s2, s3, s4, s5, s6, s7⟩ := setObj_world (P := P) (es' := (cs.modify i fun e => { e with key := y, val := z }).toArray) (c' := clock) h1
                refine ⟨w', ?_, hs.setAt (live_of_get hg (by simp)) hl s2 ⟨_, rfl, he.modify (f := fun e => (k, v, e.2.2)) (g := fun e => { e with key := y, val := z }) (fun e c _ _ hb => ⟨hk, hv, hb⟩) i⟩ s3, Ext.setAt (live_of_get hg (by simp)) hl s3 s4 s5 s6 s7⟩
                simp [Instr.mapUpdate, run_und hu, run_getMap h1, hck, c2, c1, Instr.keyThatStays, hkey, hsame, s1]
              · cases h
            · cases h
          · cases h
        · rename_i hi
          cases h
          obtain ⟨w', s1, s2, s3, s4, s5, s6, s7⟩ := setObj_world (P := P) (es' := (cs ++ [({ key := y, val := z, born := clock } : MapEntry)]).toArray) (c' := clock + 1) h1
          refine ⟨w', ?_, hs.setAt (live_of_get hg (by simp)) hl s2 ⟨_, rfl, he.snoc hk hv rfl⟩ s3, Ext.setAt (live_of_get hg (by simp)) hl s3 s4 s5 s6 s7⟩
          simp [Instr.mapUpdate, run_und hu, run_getMap h1, hck, f1 hi]
          simpa using s1
        · cases h
      · cases h
    · cases h
  · cases h

theorem ERs.erase {l : List (AV × AV × Nat)} {cs : List MapEntry} (h : ERs ρ l cs) : ∀ i, ERs ρ (l.eraseIdx i) (cs.eraseIdx i) := by
  induction h with
  | nil => intro i; simpa using ERs.nil
  | cons a b c k ih =>
    intro i
    cases i with
    | zero => simpa using k
    | succ i => simpa using ERs.cons a b c (ih i)

theorem delete_sound (hs : Sim P ρ A.live w) {ats : Array TypeId} {ty t : TypeId} {m k : AV} {A' : AW} {x y : Value} (ht : ats[0]? = some t) (h : deleteA P A t m k = some A') (hm : VR ρ m x) (hk : VR ρ k y) :
    ∃ w', (Builtin.delete_ ats ty #[x, y]).run P w = .ok (.tuple #[]) w' ∧ Sim P ρ A'.live w' ∧ Ext ρ w A ρ w' A' := by
  unfold deleteA at h
  split at h
  · rename_i kt et kv n hu hkv
    have := toV_spec hkv hk; subst this
    cases hm with
    | mp hl =>
    rename_i l
    split at h
    · rename_i es clock hg
      obtain ⟨cs, h1, he⟩ := hs.mapAt hg hl
      obtain ⟨f1, f2⟩ := find_sound (P := P) (kt := kt) (k := y) he w
      have hemp : cs.isEmpty = es.isEmpty := by
        have := he.length
        cases es <;> cases cs <;> simp at this ⊢
      split at h
      · rename_i hok
        have hck := keyOk_spec hok w
        split at h
        · rename_i i hi
          cases h
          obtain ⟨c, c1, c2⟩ := f2 i hi
          obtain ⟨w', s1, s2, s3, s4, s5, s6, s7⟩ := setObj_world (P := P) (es' := (cs.eraseIdx i).toArray) (c' := clock) h1
          refine ⟨w', ?_, hs.setAt (live_of_get hg (by simp)) hl s2 ⟨_, rfl, he.erase i⟩ s3, Ext.setAt (live_of_get hg (by simp)) hl s3 s4 s5 s6 s7⟩
          simp [Builtin.delete_, ht, run_und hu, run_getMap h1, hemp, hck, c2]
          simp [s1]
        · rename_i hi
          cases h
          obtain ⟨w', s1, s2, s3, s4, s5, s6, s7⟩ := setObj_world (P := P) (es' := cs.toArray) (c' := clock) h1
          refine ⟨w', ?_, hs.setAt (live_of_get hg (by simp)) hl s2 ⟨_, rfl, he⟩ s3, Ext.setAt (live_of_get hg (by simp)) hl s3 s4 s5 s6 s7⟩
          simp [Builtin.delete_, ht, run_und hu, run_getMap h1, hemp, hck, f1 hi]
          simp [s1]
        · cases h
      · cases h
    · cases h
  · cases h
end
end Go.Proofs.YtjhaccpljgdlpaaGreat.Ab
