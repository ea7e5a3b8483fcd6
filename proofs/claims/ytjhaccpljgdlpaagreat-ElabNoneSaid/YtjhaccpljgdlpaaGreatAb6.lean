/-
  Operations, third part: indices, sums, maps.
-/
import Derived.Test.YtjhaccpljgdlpaaGreatAb5
namespace Go.Proofs.YtjhaccpljgdlpaaGreat.Ab
open Go
section
variable {P : Program} {ρ : Rn} {A : AW} {w : World}

theorem indexAt_arr {t el : TypeId} {len i s : Nat} {k : IntKind} {l : Loc} {o : Nat} (hu : P.underlying t = some (.array len el)) (hz : sizeA P el = some s) (hi : i < len) (w : World) :
    (Instr.indexAt t (.pointer (some ⟨l.blk, l.base + o, none⟩)) (.int k (i : Int))).run P w = .ok (.pointer (some ⟨l.blk, l.base + (o + i * s), none⟩)) w := by
  have : (0 : Int) ≤ (i : Int) ∧ (i : Int) < (len : Int) := by omega
  simp [Instr.indexAt, asIntOf, run_und hu, Instr.sureAddr, this, run_size hz, Addr.add_lit, Nat.add_assoc, hi]

theorem indexAt_sl {t el : TypeId} {len cap i s : Nat} {k : IntKind} {l : Loc} {o : Nat} (hu : P.underlying t = some (.slice el)) (hz : sizeA P el = some s) (hi : i < len) (w : World) :
    (Instr.indexAt t (.slice (some ⟨l.blk, l.base + o, none⟩) len cap) (.int k (i : Int))).run P w = .ok (.pointer (some ⟨l.blk, l.base + (o + i * s), none⟩)) w := by
  have : (0 : Int) ≤ (i : Int) ∧ (i : Int) < (len : Int) := by omega
  simp [Instr.indexAt, asIntOf, run_und hu, this, run_size hz, Addr.add_lit, Nat.add_assoc, hi]

theorem index_arr {t el : TypeId} {len i s : Nat} {k : IntKind} {l : List AV} {cs : List Value} {v : AV} (hu : P.underlying t = some (.array len el)) (hz : sizeA P el = some s) (hi : i < len) (h : partA P el l (i * s) = some v) (hl : VRs ρ l cs) (w : World) :
    ∃ x, (Instr.index t (.agg cs.toArray) (.int k (i : Int))).run P w = .ok x w ∧ VR ρ v x := by
  obtain ⟨x, h1, h2⟩ := part_sound h hl w
  refine ⟨x, ?_, h2⟩
  have : (0 : Int) ≤ (i : Int) ∧ (i : Int) < (len : Int) := by omega
  simp [Instr.index, asIntOf, run_und hu, this, run_size hz, h1, hi]

theorem index_str {t : TypeId} {i : Nat} {k : IntKind} {s : ByteArray} {b : UInt8} (hu : P.underlying t = some .string) (h : s[i]? = some b) (w : World) :
    (Instr.index t (.string s) (.int k (i : Int))).run P w = .ok (.int .u8 b.toNat) w := by
  simp [Instr.index, asIntOf, run_und hu, h]

/-- equality that no memory decides -/
theorem eql_sound {t : TypeId} {x y : AV} {a b : Value} {r : Bool} (h : eqlA P t x y = some r) (hx : VR ρ x a) (hy : VR ρ y b) (w : World) : (Op.equal t a b).run P w = .ok r w := by
  simp only [Op.equal, Op.maxDepth]
  rw [Op.equalIn.eq_def]
  unfold eqlA at h
  split at h
  · rename_i hu; cases h; cases hx; cases hy; simp [run_und hu]
  · rename_i hu; cases h; cases hx; cases hy; simp [run_und hu]
  · rename_i el n o m q hu
    cases hx with
    | ptr _ h1 =>
    cases hy with
    | ptr _ h2 =>
    split at h
    · rename_i s hz
      split at h
      · rename_i hc
        simp only [Bool.and_eq_true, decide_eq_true_eq] at hc
        obtain ⟨rfl, hs⟩ := hc
        cases h
        rw [h1] at h2; cases h2
        have hs' : s ≠ 0 := by simpa using hs
        have e2 : ∀ l : Loc, ((⟨l.blk, l.base + o, none⟩ : Addr) == ⟨l.blk, l.base + q, none⟩) = (o == q) := fun l => by rw [Bool.eq_iff_iff]; simp
        simp [run_und hu, run_size hz, hs', sameAddr, e2]
      · cases h
    · cases h
  all_goals first
    | (rename_i hu; cases h; cases hx; cases hy; simp [run_und hu]; done)
    | (cases h; done)

theorem eqGuard_skip {op : BinOp} {t : TypeId} {xo yo : Operand} {x y : AV} {a b : Value} (hx : VR ρ x a) (hy : VR ρ y b) (h : toV x = none ∨ toV y = none) (hn : eqlA P t x y ≠ none) (w : World) : (eqGuard op t xo yo a b).run P w = .ok () w := by
  have key : (∀ c d, a = .agg c → b = .agg d → False) ∧ (a = .nilIface → b = .nilIface → False) := by
    constructor
    · rintro c d rfl rfl
      apply hn
      unfold eqlA
      cases hx <;> cases hy <;> (split <;> first | rfl | simp_all)
    · rintro rfl rfl
      cases hx <;> cases hy <;> first | (simp [toV] at h; done) | (exact hn (by unfold eqlA; split <;> first | rfl | simp_all))
  have main : ∀ (f : Sem Unit) (g : Sem Unit), (match a, b with | .nilIface, .nilIface => f | .agg _, .agg _ => g | _, _ => (pure () : Sem Unit)).run P w = .ok () w := by
    intro f g
    split
    · exact (key.2 rfl rfl).elim
    · exact (key.1 _ _ rfl rfl).elim
    · rfl
  unfold eqGuard
  cases op <;> simp only [Bool.not_true, Bool.not_false, if_true, Bool.false_eq_true, if_false] <;> first | rfl | exact main _ _

theorem binOp_eql {t : TypeId} {a b : Value} {r : Bool} (he : (Op.equal t a b).run P w = .ok r w) (hne : ∀ k n, a ≠ .int k n) (hf : ∀ k n, a ≠ .float k n) (hc : ∀ k x y, a ≠ .complex k x y) (hs : ∀ s, a ≠ .string s) :
    (binOp .eql t a b).run P w = .ok (.bool r) w ∧ (binOp .neq t a b).run P w = .ok (.bool !r) w := by
  constructor
  · cases a <;> first | exact absurd rfl (hne _ _) | exact absurd rfl (hf _ _) | exact absurd rfl (hc _ _ _) | exact absurd rfl (hs _) | (simp [binOp, he])
  · cases a <;> first | exact absurd rfl (hne _ _) | exact absurd rfl (hf _ _) | exact absurd rfl (hc _ _ _) | exact absurd rfl (hs _) | (simp [binOp, he])

theorem rng_sound {op : BinOp} {t : TypeId} {xo yo : Operand} {x y : AV} {a b : Value} {r : Bool} (h : rngA op x y = some r) (hx : VR ρ x a) (hy : VR ρ y b) (w : World) :
    (do eqGuard op t xo yo a b; binOp op t a b : Sem Value).run P w = .ok (.bool r) w := by
  have key : ∀ (n1 n2 lo1 hi1 lo2 hi2 : Int), cmpR op lo1 hi1 lo2 hi2 = some r → lo1 ≤ n1 → n1 ≤ hi1 → lo2 ≤ n2 → n2 ≤ hi2 →
      (do eqGuard op t xo yo (.int .i64 n1) (.int .i64 n2); binOp op t (.int .i64 n1) (.int .i64 n2) : Sem Value).run P w = .ok (.bool r) w := by
    intro n1 n2 lo1 hi1 lo2 hi2 hc h1 h2 h3 h4
    have hg : (eqGuard op t xo yo (.int .i64 n1) (.int .i64 n2)).run P w = .ok () w := by
      unfold eqGuard; cases op <;> rfl
    rw [Sem.run_bind, hg, Result.andThen_ok]
    cases op <;> simp only [cmpR] at hc <;> first
      | (cases hc; done)
      | (split at hc
         · cases hc
           simp [binOp, Op.intCmp] <;> omega
         · split at hc
           · cases hc
             simp [binOp, Op.intCmp] <;> omega
           · cases hc)
  unfold rngA at h
  split at h
  · cases hy
    cases hx with
    | rng h1 h2 => exact key _ _ _ _ _ _ h h1 h2 (Int.le_refl _) (Int.le_refl _)
  · cases hx
    cases hy with
    | rng h1 h2 => exact key _ _ _ _ _ _ h (Int.le_refl _) (Int.le_refl _) h1 h2
  · cases h

theorem bin_sound {op : BinOp} {t : TypeId} {xo yo : Operand} {x y v : AV} {a b : Value} (h : binA P op t xo yo x y = some v) (hx : VR ρ x a) (hy : VR ρ y b) (w : World) :
    ∃ z, (do eqGuard op t xo yo a b; binOp op t a b : Sem Value).run P w = .ok z w ∧ VR ρ v z := by
  unfold binA at h
  split at h
  · rename_i a' b' ea eb
    obtain ⟨z, hz, rfl⟩ := Option.map_eq_some_iff.1 h
    have := toV_spec ea hx; subst this
    have := toV_spec eb hy; subst this
    exact ⟨z, pureRun_spec _ _ hz w, VR.fromV z⟩
  · rename_i hno
    have hnone : toV x = none ∨ toV y = none := by
      cases e1 : toV x with
      | none => exact .inl rfl
      | some a' => cases e2 : toV y with
        | none => exact .inr rfl
        | some b' => exact absurd e2 (hno _ _ e1)
    have key : ∀ r, eqlA P t x y = some r → (∀ k n, a ≠ .int k n) ∧ (∀ k n, a ≠ .float k n) ∧ (∀ k x y, a ≠ .complex k x y) ∧ (∀ s, a ≠ .string s) := by
      intro r hr
      unfold eqlA at hr
      split at hr <;> first | (simp at hr; done) | (cases hx <;> exact ⟨by intros; simp, by intros; simp, by intros; simp, by intros; simp⟩)
    split at h
    · rename_i r hr
      cases h
      exact ⟨.bool r, rng_sound hr hx hy w, .flat _⟩
    split at h
    · obtain ⟨r, hr, rfl⟩ := Option.map_eq_some_iff.1 h
      obtain ⟨k1, k2, k3, k4⟩ := key r hr
      refine ⟨.bool r, ?_, .flat _⟩
      rw [Sem.run_bind, eqGuard_skip hx hy hnone (by rw [hr]; simp) w, Result.andThen_ok]
      exact (binOp_eql (eql_sound hr hx hy w) k1 k2 k3 k4).1
    · obtain ⟨r, hr, rfl⟩ := Option.map_eq_some_iff.1 h
      obtain ⟨k1, k2, k3, k4⟩ := key r hr
      refine ⟨.bool !r, ?_, .flat _⟩
      rw [Sem.run_bind, eqGuard_skip hx hy hnone (by rw [hr]; simp) w, Result.andThen_ok]
      exact (binOp_eql (eql_sound hr hx hy w) k1 k2 k3 k4).2
    · cases h
end
end Go.Proofs.YtjhaccpljgdlpaaGreat.Ab
