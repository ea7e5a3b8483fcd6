/- Stage 6: the two stores side by side; near. -/
import Derived.Test.YtkjmmdffelhkiaaT24
namespace Go.Proofs.Ytkjmmdffelhkiaa
open Go Go.RowKit Go.Maps

variable {W W' : World} {K K' : Nat → Nat} {base c r : Nat} {T : Sto} {N : List Nd} {e : Ending} {w' : World}
structure Two (W : World) (K : Nat → Nat) (base c r : Nat) (T : Sto) (N : List Nd) : Prop where
  st : StoAt W K base c T
  g : GoodS T
  rf : RefS W K base r N
  al : Alike T.nodes N
  l3 : 3 ≤ T.nodes.length
theorem GoodS.goodN {T : Sto} (g : GoodS T) : GoodN T.nodes := g.gn
theorem Two.gN (h : Two W K base c r T N) : GoodN N := h.al.good h.g.goodN
theorem Two.lN (h : Two W K base c r T N) : N.length ≤ 20000 := by rw [← h.al.len]; exact h.g.b0
theorem Two.later (h : Two W K base c r T N) (hb : Below W.heap.size W W') : Two W' K base c r T N := ⟨h.st.later hb, h.g, h.rf.later hb, h.al, h.l3⟩
theorem Two.only {S : Nat → Prop} (h : Two W K base c r T N) (ho : Only S W W') (hS : ∀ k, K k ≠ 0 → ¬ S k) : Two W' K base c r T N :=
  ⟨h.st.only ho (fun k h1 _ => hS k h1), h.g, h.rf.only ho (Ext.refl _ _) (fun k hk => h.rf.fr k (Nat.le_trans ho.size hk)) h.rf.lo (fun k h1 => hS k (by omega)), h.al, h.l3⟩
theorem Two.vw (h : Two W K base c r T N) : view N = view T.nodes := (h.al.view h.g.goodN).symm
structure StepZ (W W' : World) (K K' : Nat → Nat) : Prop where
  only : Only (fun k => K k ≠ 0) W W'
  ext : Ext K K' W.heap.size
theorem StepZ.trans {A B C : World} {K L M : Nat → Nat} (h : StepZ A B K L) (k : StepZ B C L M) : StepZ A C K M :=
  ⟨h.only.comp k.only (fun _ _ h => h) (fun i hi hn => by rw [h.ext i hi] at hn; exact hn), h.ext.trans k.ext h.only.size⟩
theorem StepZ.refl (W : World) (K : Nat → Nat) : StepZ W W K K := ⟨Only.refl _ _, Ext.refl _ _⟩
theorem StepZ.below {W W' : World} {K : Nat → Nat} (hb : Below W.heap.size W W') : StepZ W W' K K := ⟨Only.of_below hb, Ext.refl _ _⟩
theorem StepT.z {W W' : World} {K K' : Nat → Nat} (h : StepT W W' K K') : StepZ W W' K K' := ⟨h.only.mono (fun k _ e => by omega), h.ext⟩
theorem StepR.z {W W' : World} {K K' : Nat → Nat} (h : StepR W W' K K') : StepZ W W' K K' := ⟨h.only.mono (fun k _ e => by omega), h.ext⟩
theorem StepZ.keep {W W' : World} {K K' : Nat → Nat} (h : StepZ W W' K K') {a : Addr} {v : Value} (hc : W.cell? a = some v) (h0 : K a.block = 0) : W'.cell? a = some v := h.only.cell hc (fun e => e h0)
theorem StepZ.toBelow (h : StepZ W W' K K') (ht : Two W K base c r T N) : Below base W W' :=
  h.only.below (fun k hk => by
    rcases Nat.lt_or_ge k base with h1 | h1
    · exact absurd (ht.st.lo k h1) hk
    · exact h1) (Nat.le_trans ht.st.base_lt (Nat.le_of_lt ht.st.lt))
theorem row_stepZ {W W' : World} {K K' : Nat → Nat} {e : TypeId} {sz : Nat} {v : Value} {n : Nat} {xs : List Value} (h : RowAt W K 0 e sz v n xs) (hs : StepZ W W' K K') : RowAt W' K' 0 e sz v n xs := h.only hs.only hs.ext (fun k e1 e2 => e2 e1)
theorem row_setZ {W : World} {K : Nat → Nat} {e : TypeId} {g n z : Nat} {xs : List Value} (h : RowAt W K 0 e 1 (.slice (some ⟨g, 0, none⟩) n z) n xs) (i : Nat) (u : Value) : RowAt (W.setCell ⟨g, i, none⟩ u) K 0 e 1 (.slice (some ⟨g, 0, none⟩) n z) n (xs.set i u) := ⟨own_set h.own i u, h.tg⟩
theorem own_ints {w : World} {base n : Nat} {e : TypeId} {p : Option Addr} {z : Nat} {V : Nat → Int} (h : w.ownsRow base e 1 (.slice p n z) n (rowV n V)) : IntsIn w p n V := by
  obtain ⟨p', c', e, hI, _⟩ := own_intsIn h
  cases e
  exact hI
/-- a row that was made behind a world in which a store stands. -/
theorem row_new {W W' : World} {K : Nat → Nat} {b : Nat} {e : TypeId} {sz : Nat} {v : Value} {n : Nat} {xs : List Value} (fr : ∀ k, W.heap.size ≤ k → K k = 0) (hb : W.heap.size ≤ b) (h : W'.ownsRow b e sz v n xs) : RowAt W' K 0 e sz v n xs :=
  ⟨own_base h (fun _ _ => Nat.zero_le _), fun k hk => fr k (Nat.le_trans hb (own_lt h hk).1)⟩
/-- both made one step. -/
theorem Two.pair {w1 w2 : World} {K1 K2 : Nat → Nat} {T1 : Sto} {N2 : List Nd} {q : Req} {t er t2 er2 : Int} (h : Two W K base c r T N) (h1 : StoAt w1 K1 base c T1) (g1 : GoodS T1) (s1 : StepT W w1 K K1) (a1 : Ans T.nodes q t er T1.nodes)
    (r2 : RefS w2 K2 base r N2) (s2 : StepR w1 w2 K1 K2) (a2 : Ans N q t2 er2 N2) : t2 = t ∧ er2 = er ∧ Two w2 K2 base c r T1 N2 ∧ StepZ W w2 K K2 := by
  obtain ⟨e1, e2, al⟩ := a1.uniq h.g.uniqL h.al a2
  refine ⟨e1.symm, e2.symm, ⟨h1.side s2 r2.fr r2.lo, g1, r2, al, ?_⟩, s1.z.trans s2.z⟩
  have hl : T.nodes.length ≤ T1.nodes.length := by
    cases q with
    | no e => rw [a1.2.2]; exact Nat.le_refl _
    | is t => rw [a1.2.2]; exact Nat.le_refl _
    | mk x =>
      rcases a1 with ⟨_, e, _⟩ | ⟨_, _, e, _⟩ | ⟨_, _, _, _, _, _, e⟩
      · rw [e]; exact Nat.le_refl _
      · rw [e]; exact Nat.le_refl _
      · rw [e, List.length_append]; exact Nat.le_add_right _ _
  exact Nat.le_trans h.l3 hl
def nearV (t : Int) (n : Nat) (m : Bool) : Int := if m then (IntKind.u64.wrap t).tmod ((n : Int) + 2) - 1 else t
theorem wrap_u' (x : Int) : IntKind.u64.wrap x = x % 18446744073709551616 := by
  simp [IntKind.wrap, IntKind.signed, IntKind.bits]
theorem near_i64 {t : Int} {n : Nat} {m : Bool} (ht : I64 t) (hn : n ≤ 20000) : I64 (nearV t n m) := by
  unfold nearV
  cases m
  · exact ht
  · simp only [if_true]
    rw [wrap_u', Int.tmod_eq_emod_of_nonneg (Int.emod_nonneg _ (by omega))]
    have h1 := Int.emod_nonneg (t % 18446744073709551616) (show (n : Int) + 2 ≠ 0 by omega)
    have h2 := Int.emod_lt_of_pos (t % 18446744073709551616) (show (0 : Int) < (n : Int) + 2 by omega)
    unfold I64
    omega
set_option maxRecDepth 100000 in
set_option maxHeartbeats 1600000 in
theorem near_any (t : Int) (n : Nat) (m : Bool) (hn : n ≤ 20000) (W : World) : Calls Try.prog 38 #[.int .i64 t, .int .i64 (n : Int), .bool m] W fun e w' => e = .returned (.int .i64 (nearV t n m)) ∧ w' = W := by
  cases m
  · go_enter Try.func38, Try.ntmps38
    go_wp2_with fail
    go_ret
    exact ⟨rfl, rfl⟩
  · have hV : nearV t n true = (IntKind.u64.wrap t).tmod ((n : Int) + 2) - 1 := rfl
    obtain ⟨k, hk⟩ : ∃ k : Nat, (k : Int) = t % 18446744073709551616 % ((n : Int) + 2) := ⟨(t % 18446744073709551616 % ((n : Int) + 2)).toNat, by
      have := Int.emod_nonneg (t % 18446744073709551616) (show (n : Int) + 2 ≠ 0 by omega); omega⟩
    have hkm : k < n + 2 := by
      have := Int.emod_lt_of_pos (t % 18446744073709551616) (show (0 : Int) < (n : Int) + 2 by omega); omega
    have hkw : (IntKind.u64.wrap t).tmod ((n : Int) + 2) = (k : Int) := by
      rw [wrap_u', Int.tmod_eq_emod_of_nonneg (by omega), hk]
    rw [hkw] at hV
    have HV := Lib.hid hV
    clear hV hk
    go_enter Try.func38, Try.ntmps38
    go_wp2_with fail
    go_ret
    exact ⟨by rw [HV.out]; rfl, rfl⟩
end Go.Proofs.Ytkjmmdffelhkiaa
