/-
  Operations, second part: slices, addresses, sums, texts.
-/
import Derived.Test.YtjhaccpljgdlpaaGreatAb4
namespace Go.Proofs.YtjhaccpljgdlpaaGreat.Ab
open Go
section
variable {P : Program} {ρ : Rn} {A : AW} {w : World}

theorem fieldAt_sound {t : TypeId} {fs : Array Field} {f : Field} {i s : Nat} {l : Loc} {o : Nat} (hu : P.underlying t = some (.struct fs)) (hf : fs[i]? = some f) (hz : sizeA P f.type = some s) (h0 : s ≠ 0) (w : World) :
    (Instr.fieldAt t (.pointer (some ⟨l.blk, l.base + o, none⟩)) i).run P w = .ok (.pointer (some ⟨l.blk, l.base + (o + f.offset), none⟩)) w := by
  simp [Instr.fieldAt, run_und hu, hf, Instr.sureAddr, fieldPlace, run_size hz, h0, Addr.add_lit, Nat.add_assoc]

theorem bound_run {a : AV} {v : Value} {d y i : Nat} (h : boundA (some a) d y = some i) (hv : VR ρ a v) {y' : Nat} (hy : y ≤ y') (code : BoundsCode) (w : World) : (Instr.sliceBound v y' code).run P w = .ok i w ∧ i ≤ y := by
  unfold boundA at h
  simp only at h
  split at h
  · rename_i n e
    split at h
    · cases h
      obtain ⟨k, rfl⟩ := natOf?_spec e hv
      refine ⟨?_, by omega⟩
      have : (0 : Int) ≤ (i : Int) ∧ (i : Int) ≤ (y' : Int) := by omega
      simp [Instr.sliceBound, asIntOf, this]
    · cases h
  · cases h

theorem bounds_run {e : Operand → AV} {c : Operand → Value} {lo hi : Option Operand} {len cap cap' h l : Nat} (hlo : ∀ x, lo = some x → VR ρ (e x) (c x)) (hhi : ∀ x, hi = some x → VR ρ (e x) (c x))
    (hh : boundA (hi.map e) len cap = some h) (hl : boundA (lo.map e) 0 h = some l) (hc : cap ≤ cap') (hlen : len ≤ cap) (b : Bool) (w : World) :
    (Instr.sliceBounds b len cap' (lo.map c) (hi.map c) none).run P w = .ok (l, h, cap') w ∧ l ≤ h ∧ h ≤ cap := by
  cases hi with
  | none =>
    have e1 : h = len := by simpa [boundA] using hh.symm
    subst e1
    cases lo with
    | none =>
      have e2 : l = 0 := by simpa [boundA] using hl.symm
      subst e2
      exact ⟨by simp [Instr.sliceBounds], by omega, hlen⟩
    | some x =>
      obtain ⟨r, hle⟩ := bound_run (P := P) hl (hlo x rfl) (Nat.le_refl _) .sliceB w
      exact ⟨by simp [Instr.sliceBounds, r], hle, hlen⟩
  | some y =>
    obtain ⟨r1, hle1⟩ := bound_run (P := P) hh (hhi y rfl) hc (if b then .sliceAcap else .sliceAlen) w
    cases lo with
    | none =>
      have e2 : l = 0 := by simpa [boundA] using hl.symm
      subst e2
      exact ⟨by simp [Instr.sliceBounds, r1], by omega, hle1⟩
    | some x =>
      obtain ⟨r, hle⟩ := bound_run (P := P) hl (hlo x rfl) (Nat.le_refl _) .sliceB w
      exact ⟨by simp [Instr.sliceBounds, r1, r], hle, hle1⟩

theorem bounds3_run {e : Operand → AV} {c : Operand → Value} {lo : Option Operand} {hi mx : Operand} {len cap cap' m h l : Nat} (hlo : ∀ x, lo = some x → VR ρ (e x) (c x)) (hhi : VR ρ (e hi) (c hi)) (hmx : VR ρ (e mx) (c mx))
    (hm : boundA (some (e mx)) 0 cap = some m) (hh : boundA (some (e hi)) 0 m = some h) (hl : boundA (lo.map e) 0 h = some l) (hc : cap ≤ cap') (b : Bool) (w : World) :
    (Instr.sliceBounds b len cap' (lo.map c) (some (c hi)) (some (c mx))).run P w = .ok (l, h, m) w ∧ l ≤ h ∧ h ≤ m ∧ m ≤ cap := by
  obtain ⟨r0, hle0⟩ := bound_run (P := P) hm hmx hc (if b then .slice3Acap else .slice3Alen) w
  obtain ⟨r1, hle1⟩ := bound_run (P := P) hh hhi (Nat.le_refl _) .slice3B w
  cases lo with
  | none =>
    have e2 : l = 0 := by simpa [boundA] using hl.symm
    subst e2
    exact ⟨by simp [Instr.sliceBounds, r0, r1], by omega, hle1, hle0⟩
  | some x =>
    obtain ⟨r, hle⟩ := bound_run (P := P) hl (hlo x rfl) (Nat.le_refl _) .slice3C w
    exact ⟨by simp [Instr.sliceBounds, r0, r1, r], hle, hle1, hle0⟩

theorem slice_sound {e : Operand → AV} {c : Operand → Value} {t : TypeId} {x : Operand} {lo hi mx : Option Operand} {v : AV} (h : sliceA P t (e x) (lo.map e) (hi.map e) (mx.map e) = some v)
    (hx : VR ρ (e x) (c x)) (hlo : ∀ x, lo = some x → VR ρ (e x) (c x)) (hhi : ∀ x, hi = some x → VR ρ (e x) (c x)) (hmx : ∀ x, mx = some x → VR ρ (e x) (c x)) (w : World) :
    ∃ y, (Instr.sliceAt t (c x) (lo.map c) (hi.map c) (mx.map c)).run P w = .ok y w ∧ VR ρ v y := by
  unfold sliceA at h
  generalize hex : e x = ex at h hx
  generalize hcx : c x = cx at hx ⊢
  split at h
  · -- a text
    rename_i s hu hm0
    have : mx = none := by cases mx <;> simp at hm0 ⊢
    subst this
    cases hx
    split at h
    · rename_i hh e1
      split at h
      · rename_i ll e2
        cases h
        obtain ⟨r, -, -⟩ := bounds_run (P := P) hlo hhi e1 e2 (Nat.le_refl _) (Nat.le_refl _) false w
        exact ⟨_, by simp [Instr.sliceAt, run_und hu, Instr.slice, r], .flat _⟩
      · cases h
    · cases h
  · -- none there
    rename_i el hu hm0
    have : mx = none := by cases mx <;> simp at hm0 ⊢
    subst this
    cases hx
    split at h
    · rename_i hh ll s e1 e2 e3
      cases h
      have z1 : hh = 0 := by
        cases hi with
        | none => simpa [boundA] using e1.symm
        | some y => have := (bound_run (P := P) e1 (hhi y rfl) (Nat.le_refl _) .sliceB w).2; omega
      subst z1
      obtain ⟨r, h1, h2⟩ := bounds_run (P := P) hlo hhi e1 e2 (Nat.le_refl _) (Nat.le_refl _) true w
      have z2 : ll = 0 := by omega
      subst z2
      exact ⟨_, by simp [Instr.sliceAt, run_und hu, Instr.slice, r, run_size e3], .flat _⟩
    · cases h
  · rename_i el n o1 o2 hu hm0
    have : mx = none := by cases mx <;> simp at hm0 ⊢
    subst this
    cases hx with
    | sle _ _ hl =>
    rename_i l
    split at h
    · rename_i hh ll s e1 e2 e3
      cases h
      have z1 : hh = 0 := by
        cases hi with
        | none => simpa [boundA] using e1.symm
        | some y => have := (bound_run (P := P) e1 (hhi y rfl) (Nat.le_refl _) .sliceB w).2; omega
      subst z1
      obtain ⟨r, h1, h2⟩ := bounds_run (P := P) hlo hhi e1 e2 (Nat.zero_le l.room) (Nat.le_refl _) true w
      have z2 : ll = 0 := by omega
      subst z2
      refine ⟨_, by simp [Instr.sliceAt, run_und hu, Instr.slice, r, run_size e3, Addr.add_lit]; rfl, ?_⟩
      exact .sle o1 o2 hl
    · cases h
  · -- a slice
    rename_i el n o len cap opn hu hm0
    have : mx = none := by cases mx <;> simp at hm0 ⊢
    subst this
    cases hx with
    | sl _ _ _ _ hl =>
    rename_i l
    split at h
    · rename_i hh s e1 e3
      split at h
      · rename_i ll e2
        split at h
        · cases h
        · rename_i hcl
          obtain ⟨r, h1, h2⟩ := bounds_run (P := P) hlo hhi e1 e2 (show cap ≤ cap + bif opn then l.room else 0 by omega) (by omega) true w
          split at h
          · rename_i hlc
            subst hlc
            cases opn with
            | true =>
              cases h
              have z : hh = ll := by omega
              subst z
              refine ⟨.slice (some ⟨l.blk, l.base + (if l.room = 0 then o else o + hh * s), none⟩) 0 l.room, ?_, .sle o (o + hh * s) hl⟩
              by_cases hr : l.room = 0
              · simp [hr] at r
                simp [Instr.sliceAt, run_und hu, Instr.slice, r, run_size e3, hr]
              · simp at r
                simp [Instr.sliceAt, run_und hu, Instr.slice, r, run_size e3, hr, Addr.add_lit, Nat.add_assoc]
            | false =>
              cases h
              have z : hh = ll := by omega
              subst z
              refine ⟨.slice (some ⟨l.blk, l.base + o, none⟩) (hh - hh) 0, ?_, by have := VR.sl (ρ := ρ) o (hh - hh) 0 false hl; simpa using this⟩
              simp at r
              simp [Instr.sliceAt, run_und hu, Instr.slice, r, run_size e3]
          · rename_i hlc
            cases h
            have hne : ¬ (cap + (bif opn then l.room else 0) = ll) := by omega
            refine ⟨.slice (some ⟨l.blk, l.base + (o + ll * s), none⟩) (hh - ll) ((cap - ll) + bif opn then l.room else 0), ?_, .sl _ _ _ _ hl⟩
            simp [Instr.sliceAt, run_und hu, Instr.slice, r, run_size e3, hne, Addr.add_lit, Nat.add_assoc]
            omega
      · cases h
    · cases h
  · -- with a bound
    rename_i el n o len cap opn mv hu hm0
    obtain ⟨mo, rfl, rfl⟩ := Option.map_eq_some_iff.1 hm0
    cases hx with
    | sl _ _ _ _ hl =>
    rename_i l
    split at h
    · rename_i m hv s e0 e1 e3
      obtain ⟨ho, rfl, rfl⟩ := Option.map_eq_some_iff.1 e1
      split at h
      · rename_i hh e4
        split at h
        · rename_i ll e5
          cases h
          obtain ⟨r, h1, h2, h3⟩ := bounds3_run (P := P) (len := len) hlo (hhi ho rfl) (hmx mo rfl) e0 e4 e5 (show cap ≤ cap + bif opn then l.room else 0 by omega) true w
          refine ⟨.slice (some ⟨l.blk, l.base + (if m = ll then o else o + ll * s), none⟩) (hh - ll) ((m - ll) + bif false then l.room else 0), ?_, .sl _ _ _ _ hl⟩
          by_cases hm : m = ll
          · simp [Instr.sliceAt, run_und hu, Instr.slice, r, run_size e3, hm]
          · simp [Instr.sliceAt, run_und hu, Instr.slice, r, run_size e3, hm, Addr.add_lit, Nat.add_assoc]
        · cases h
      · cases h
    · cases h
  · -- an array
    rename_i k el n o hu hm0
    have : mx = none := by cases mx <;> simp at hm0 ⊢
    subst this
    cases hx with
    | ptr _ hl =>
    rename_i l
    split at h
    · rename_i hh s e1 e3
      split at h
      · rename_i ll e2
        cases h
        obtain ⟨r, h1, h2⟩ := bounds_run (P := P) hlo hhi e1 e2 (Nat.le_refl _) (Nat.le_refl _) false w
        refine ⟨.slice (some ⟨l.blk, l.base + (if k = ll then o else o + ll * s), none⟩) (hh - ll) ((k - ll) + bif false then l.room else 0), ?_, .sl _ _ _ _ hl⟩
        by_cases hm : k = ll
        · subst hm; simp [Instr.sliceAt, run_und hu, Instr.sureAddr, r, run_size e3]
        · simp [Instr.sliceAt, run_und hu, Instr.sureAddr, r, run_size e3, hm, Addr.add_lit, Nat.add_assoc]
      · cases h
    · cases h
  · cases h

end
end Go.Proofs.YtjhaccpljgdlpaaGreat.Ab
