/-
  An operation over the abstract memory is what the model does: all of them.
-/
import Derived.Test.YtjhaccpljgdlpaaGreatAb12
namespace Go.Proofs.YtjhaccpljgdlpaaGreat.Ab
open Go
section
variable {P : Program} {ρ : Rn} {A : AW} {w : World}

theorem bind_some {α β : Type} {x : Option α} {f : α → Option β} {b : β} (h : x.bind f = some b) : ∃ a, x = some a ∧ f a = some b := by
  cases x with
  | none => cases h
  | some a => exact ⟨a, rfl, h⟩
theorem map_some {α β : Type} {x : Option α} {f : α → β} {b : β} (h : x.map f = some b) : ∃ a, x = some a ∧ f a = b := by
  cases x with
  | none => cases h
  | some a => exact ⟨a, rfl, by simpa using h⟩

theorem argOk {s : Sem Value} {v : AV} (h : ∃ x, s.run P w = .ok x w ∧ VR ρ v x) : ArOk P ρ A w ((vOf s).run P w) (.val v) := by
  obtain ⟨x, e, k⟩ := h
  exact ⟨x, gives_v e, k⟩
theorem nextOk {x : Value} {v : AV} (h : VR ρ v x) : ArOk P ρ A w ((pure (.value x) : Sem Next).run P w) (.val v) := ⟨x, .inl rfl, h⟩

theorem len_sound (hs : Sim P ρ A.live w) {t : TypeId} {ats : Array TypeId} {ty : TypeId} {x : AV} {n : Nat} {v : Value} (ht : ats[0]? = some t) (h : lenA P A t x = some n) (hv : VR ρ x v) :
    (Builtin.len_ ats ty #[v]).run P w = .ok (goInt n) w := by
  unfold lenA at h
  split at h
  · rename_i s hu; cases h; cases hv; simp [Builtin.len_, ht, run_und hu]
  · rename_i k hu; cases h; simp [Builtin.len_, ht, run_und hu]
  · rename_i hu; cases h; cases hv; simp [Builtin.len_, ht, run_und hu]
  · rename_i hu; cases h; cases hv; simp [Builtin.len_, ht, run_und hu]
  · rename_i hu; cases h; cases hv; simp [Builtin.len_, ht, run_und hu]
  · rename_i hu; cases h; cases hv; simp [Builtin.len_, ht, run_und hu]
  · rename_i m hu
    split at h
    · rename_i es cl hg
      cases h
      cases hv with
      | mp hl =>
      obtain ⟨cs, m1, m2⟩ := hs.mapAt hg hl
      simp [Builtin.len_, ht, run_und hu, run_get (P := P) m1 (by simp), m2.length]
    · cases h
  · cases h

theorem builtin_sound (hs : Sim P ρ A.live w) {b : Builtin} {ats : Array TypeId} {ty : TypeId} {consts : Array Bool} {args : List AV} {vs : List Value} {r : AR} (h : builtinA P A b ats ty args = some r) (hv : VRs ρ args vs) :
    ArOk P ρ A w ((builtin b ats ty consts vs.toArray).run P w) r := by
  unfold builtinA at h
  split at h
  · rename_i x
    cases hv with
    | cons h1 h2 =>
    cases h2
    split at h
    · rename_i t ht
      obtain ⟨n, e, rfl⟩ := map_some h
      exact argOk ⟨_, len_sound hs ht e h1, .flat _⟩
    · cases h
  · cases hv with
    | cons h1 h2 =>
    cases h2 with
    | cons h2 h3 =>
    cases h3
    exact append_sound hs h h1 h2
  · cases hv with
    | cons h1 h2 =>
    cases h2
    split at h
    · rename_i t ht
      exact clear_sound (ats := ats) (ty := ty) hs ht h h1
    · cases h
  · cases hv with
    | cons h1 h2 =>
    cases h2 with
    | cons h2 h3 =>
    cases h3
    split at h
    · rename_i t ht
      obtain ⟨A', e, rfl⟩ := map_some h
      obtain ⟨w', d1, d2, d3⟩ := delete_sound (ats := ats) (ty := ty) hs ht e h1 h2
      exact fun _ => ⟨_, w', ρ, gives_v d1, .flat _, d2, d3⟩
    · cases h
  · cases hv with
    | cons h1 h2 =>
    cases h2 with
    | cons h2 h3 =>
    cases h3
    exact copy_sound hs h h1 h2
  · rename_i p n
    cases hv with
    | cons h1 h2 =>
    cases h2 with
    | cons h2 h3 =>
    cases h3
    cases h2
    split at h
    · rename_i pt it b o hats
      cases h1 with
      | ptr _ hl =>
      split at h
      · rename_i u l e hu hc
        split at h
        · rename_i r' hcut
          split at h
          · rename_i bs hb
            split at h
            · rename_i hk
              cases h
              simp only [Bool.and_eq_true, decide_eq_true_eq] at hk
              obtain ⟨⟨⟨k1, k2⟩, k3⟩, k4⟩ := hk
              obtain ⟨w', e1, e2, e3⟩ := unsafeString_sound (it := it) (ty := ty) hs hu hc hl hcut hb k1 k2 k3 k4
              have hats' : ats = #[pt, it] := by rw [← Array.toList_inj]; simpa using hats
              subst hats'
              exact fun _ => ⟨_, w', ρ, gives_v e1, .flat _, e2, e3⟩
            · cases h
          · cases h
        · cases h
      · cases h
    · cases h
  · split at h
    · rename_i us hus
      unfold wholeFlat at hus
      obtain ⟨us', hus', rfl⟩ := map_some hus
      rw [toVs_spec hus' hv]
      split at h
      · rename_i v hp
        cases h
        have := pureRun_spec _ _ hp w
        exact ⟨v, .inl this, VR.fromV v⟩
      · cases h
    · cases h
  · split at h
    · rename_i us hus
      unfold wholeFlat at hus
      obtain ⟨us', hus', rfl⟩ := map_some hus
      rw [toVs_spec hus' hv]
      split at h
      · rename_i v hp
        cases h
        have := pureRun_spec _ _ hp w
        exact ⟨v, .inl this, VR.fromV v⟩
      · cases h
    · cases h
  · cases h

theorem VRs.evs {T : Tr AV} {c : Operand → Value} {l : List Operand} (h : ∀ x ∈ l, VR ρ (ev T x) (c x)) : VRs ρ (l.map (ev T)) (l.map c) := by
  induction l with
  | nil => exact .nil
  | cons a l ih => exact .cons (h a (by simp)) (ih fun x hx => h x (by simp [hx]))

theorem PRs.evs {T : Tr AV} {c : Operand → Value} {l : List (Nat × Operand)} (h : ∀ x ∈ l.map (·.2), VR ρ (ev T x) (c x)) : PRs ρ (l.map fun (i, x) => (i, ev T x)) (l.map fun (i, x) => (i, c x)) := by
  induction l with
  | nil => exact .nil
  | cons a l ih => exact .cons (h a.2 (by simp)) (ih fun x hx => h x (by simp at hx ⊢; exact .inr hx))

theorem call_sound (hs : Sim P ρ A.live w) (hN : Named P) {T : Tr AV} {c : Operand → Value} {k : Call} {ty : TypeId} {r : AR} (h : callA P A k ty T = some r) (hv : ∀ x ∈ k.operands.toList, VR ρ (ev T x) (c x)) :
    ArOk P ρ A w ((do let d ← resolve c k ty; invoke d.target d.args : Sem Next).run P w) r := by
  unfold callA at h
  have hargs : VRs ρ (k.args.toList.map (ev T)) (k.args.toList.map c) := VRs.evs fun x hx => hv x (by
    cases hc : k.callee <;> simp_all [Call.operands])
  split at h
  · rename_i b hb
    have e : ((do let d ← resolve c k ty; invoke d.target d.args : Sem Next).run P w) = (builtin b k.argTypes ty (k.args.map fun | .const _ => true | _ => false) (k.args.toList.map c).toArray).run P w := by
      have : (k.args.toList.map c).toArray = k.args.map c := Array.ext' (by simp)
      rw [this]
      simp [resolve, hb, invoke]
      rfl
    rw [e]
    exact builtin_sound hs h hargs
  · rename_i f hf
    have hfv := hv f (by simp [Call.operands, hf])
    split at h
    · rename_i g fst cap hg
      rw [hg] at hfv
      generalize hcf : c f = cf at hfv
      cases hfv with
      | fn _ ha hb =>
      rename_i as bs
      have hall : VRs ρ (fst ++ k.args.toList.map (ev T) ++ cap) (as ++ k.args.toList.map c ++ bs) := (ha.append hargs).append hb
      have e : ((do let d ← resolve c k ty; invoke d.target d.args : Sem Next).run P w) = (callFunc g (as ++ k.args.toList.map c ++ bs).toArray).run P w := by
        have : (as ++ k.args.toList.map c ++ bs).toArray = as.toArray ++ k.args.map c ++ bs.toArray := by simp
        rw [this]
        simp [resolve, hf, hcf, Deferred.ofValue, invoke]
      rw [e]
      split at h
      · rename_i fn hfn
        split at h
        · rename_i body hbody
          cases h
          exact ⟨_, callFunc_body hfn hbody (hN _ _ hfn) _ w, hall⟩
        · rename_i hbody
          split at h
          · rename_i ho
            cases hb
            simp only [List.append_nil] at hall ⊢
            exact extern_sound hs hN hfn hbody ho h hall
          · cases h
      · cases h
    · rename_i n hg
      rw [hg] at hfv
      generalize hcf : c f = cf at hfv
      cases hfv with
      | yld hl =>
      cases h
      refine ⟨_, _, hl, ?_, hargs⟩
      have : (k.args.toList.map c).toArray = k.args.map c := Array.ext' (by simp)
      rw [this]
      simp [resolve, hf, hcf, Deferred.ofValue, invoke]
    · cases h
  · cases h
end
end Go.Proofs.YtjhaccpljgdlpaaGreat.Ab
