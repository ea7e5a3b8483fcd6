/- Stage 6: the sorts of arguments, plain. -/
import Derived.Test.YtkjmmdffelhkiaaT28
namespace Go.Proofs.Ytkjmmdffelhkiaa
open Go Go.RowKit Go.Maps

def qL (N : List Nd) (t : Int) : Int := match N[t.toNat]? with
  | some x => x.q
  | none => 0
theorem qL_of {N : List Nd} {t : Nat} {x : Nd} (h : N[t]? = some x) : qL N (t : Int) = x.q := by unfold qL; rw [Int.toNat_natCast, h]
/-- a term that is its own base. -/
def BaseT (N : List Nd) (t : Int) : Prop := stL N t = 1 ∧ qL N t ≠ 3 ∧ qL N t ≠ 4
structure NdS (N : List Nd) (x : Nd) : Prop where
  na : x.q = 9 ∨ x.q = 10 ∨ x.q = 11 → ∀ k, k < x.L → stL N (x.V k) = 0
  eq : x.q = 7 → ∀ k, k < x.L → stL N (x.V k) = stL N (x.V 0)
  pl : x.q = 4 → ∀ k, k < x.L → BaseT N (x.V k)
  le : x.q = 8 → ∀ k, k < x.L → BaseT N (x.V k) ∨ (stL N (x.V k) = 1 ∧ x.V k = 2)
  i0 : x.q = 6 → 0 < x.L → stL N (x.V 0) = 0
  i1 : x.q = 6 → ∀ k, 0 < k → k < x.L → stL N (x.V k) = x.s
  two : x.q = 7 ∨ x.q = 8 → x.L = 2
  one : x.q = 9 → x.L = 1
  thr : x.q = 6 → x.L = 3
  many : x.q = 10 ∨ x.q = 11 → 2 ≤ x.L
  bo : x.q = 7 ∨ x.q = 8 ∨ 9 ≤ x.q → x.s = 0
theorem stL_grow {N M : List Nd} {t : Int} (h : InL N t) : stL (N ++ M) t = stL N t := by
  obtain ⟨k, x, rfl, hk, hx⟩ := inS_get h
  rw [stL_of hx, stL_of (by rw [List.getElem?_append_left hk]; exact hx)]
theorem qL_grow {N M : List Nd} {t : Int} (h : InL N t) : qL (N ++ M) t = qL N t := by
  obtain ⟨k, x, rfl, hk, hx⟩ := inS_get h
  rw [qL_of hx, qL_of (by rw [List.getElem?_append_left hk]; exact hx)]
theorem BaseT.grow {N M : List Nd} {t : Int} (h : InL N t) (b : BaseT N t) : BaseT (N ++ M) t := by
  unfold BaseT
  rw [stL_grow h, qL_grow h]
  exact b
theorem NdS.grow {N M : List Nd} {x : Nd} (h : NdS N x) (hV : ∀ i, i < x.L → InL N (x.V i)) : NdS (N ++ M) x := by
  refine ⟨fun hq k hk => ?_, fun hq k hk => ?_, fun hq k hk => (h.pl hq k hk).grow (hV k hk), fun hq k hk => ?_, fun hq hk => ?_, fun hq k h0 hk => ?_, h.two, h.one, h.thr, h.many, h.bo⟩
  · rw [stL_grow (hV k hk)]; exact h.na hq k hk
  · rw [stL_grow (hV k hk), stL_grow (hV 0 (by omega))]; exact h.eq hq k hk
  · rcases h.le hq k hk with b | b
    · exact .inl (b.grow (hV k hk))
    · exact .inr (by rw [stL_grow (hV k hk)]; exact b)
  · rw [stL_grow (hV 0 hk)]; exact h.i0 hq hk
  · rw [stL_grow (hV k hk)]; exact h.i1 hq k h0 hk
theorem NdS.args {N : List Nd} {x : Nd} (h : NdS N x) (P : Option Addr) (C : Nat) : NdS N { x with P := P, C := C } := ⟨h.na, h.eq, h.pl, h.le, h.i0, h.i1, h.two, h.one, h.thr, h.many, h.bo⟩
structure SortsOk (N : List Nd) : Prop where
  g : GoodN N
  s : ∀ (i : Nat) (x : Nd), N[i]? = some x → NdS N x
  z : stL N 2 = 1
theorem SortsOk.sp {N : List Nd} (h : SortsOk N) {t b o : Int} (e : spL N t = (b, o, 0)) : (b = 2 ∨ BaseT N b) := by
  unfold spL at e
  by_cases hin : InL N t
  · rw [if_pos hin] at e
    obtain ⟨k, x, rfl, hk, hx⟩ := inS_get hin
    rw [Int.toNat_natCast, hx] at e
    simp only at e
    unfold spN at e
    by_cases h1 : x.s = 1
    · rw [if_pos h1] at e
      by_cases h3 : x.q = 3
      · rw [if_pos h3] at e; cases e; exact .inl rfl
      · rw [if_neg h3] at e
        by_cases h4 : x.q = 4
        · rw [if_pos h4] at e
          cases e
          exact .inr ((h.s k x hx).pl h4 0 ((h.g k x hx).pl h4))
        · rw [if_neg h4] at e
          cases e
          exact .inr ⟨by rw [stL_of hx]; exact h1, by rw [qL_of hx]; exact h3, by rw [qL_of hx]; exact h4⟩
    · rw [if_neg h1] at e; cases e
  · rw [if_neg hin] at e; cases e
theorem NdS.none' {N : List Nd} {x : Nd} (h : x.q = 1 ∨ x.q = 2 ∨ x.q = 3 ∨ x.q = 5) : NdS N x :=
  ⟨fun e => by omega, fun e => by omega, fun e => by omega, fun e => by omega, fun e => by omega, fun e => by omega, fun e => by omega, fun e => by omega, fun e => by omega, fun e => by omega, fun e => by omega⟩
theorem req_sorts {N : List Nd} (h : SortsOk N) (o : Cl) {x : Nd} (e : reqOf (view N) o = .mk x) : NdS N x := by
  unfold reqOf at e
  split at e
  · unfold notQ at e
    split at e
    · split at e
      · cases e
        rename_i h2
        exact ⟨fun _ k _ => h2, fun e => absurd e (by show ¬ (9 : Int) = 7; decide), fun e => absurd e (by show ¬ (9 : Int) = 4; decide), fun e => absurd e (by show ¬ (9 : Int) = 8; decide), fun e => absurd e (by show ¬ (9 : Int) = 6; decide), fun e => absurd e (by show ¬ (9 : Int) = 6; decide), fun e => absurd e (by show ¬ ((9 : Int) = 7 ∨ (9 : Int) = 8); decide), fun _ => rfl, fun e => absurd e (by show ¬ (9 : Int) = 6; decide), fun e => absurd e (by show ¬ ((9 : Int) = 10 ∨ (9 : Int) = 11); decide), fun _ => rfl⟩
      · cases e
    · cases e
  have many : ∀ (q em : Int), (q = 10 ∨ q = 11) → manyQ (view N) q em o.L o.V = .mk x → NdS N x := fun q em hq e => by
    unfold manyQ at e
    split at e
    · split at e
      · cases e
      · split at e
        · rename_i h3
          split at e
          · cases e
          · split at e
            · cases e
            · cases e
              rename_i n0 n1
              exact ⟨fun _ k hk => h3 k hk, fun e => absurd e (by show ¬ q = 7; omega), fun e => absurd e (by show ¬ q = 4; omega), fun e => absurd e (by show ¬ q = 8; omega), fun e => absurd e (by show ¬ q = 6; omega), fun e => absurd e (by show ¬ q = 6; omega), fun e => absurd e (by show ¬ (q = 7 ∨ q = 8); omega), fun e => absurd e (by show ¬ q = 9; omega), fun e => absurd e (by show ¬ q = 6; omega), fun _ => by show 2 ≤ o.L; omega, fun _ => rfl⟩
        · cases e
    · cases e
  split at e
  · exact many 10 0 (.inl rfl) e
  split at e
  · exact many 11 1 (.inr rfl) e
  split at e
  · unfold eqQ at e
    split at e
    · split at e
      · cases e
        rename_i h2
        refine ⟨fun e => absurd e (by show ¬ ((7 : Int) = 9 ∨ (7 : Int) = 10 ∨ (7 : Int) = 11); decide), fun _ k hk => ?_, fun e => absurd e (by show ¬ (7 : Int) = 4; decide), fun e => absurd e (by show ¬ (7 : Int) = 8; decide), fun e => absurd e (by show ¬ (7 : Int) = 6; decide), fun e => absurd e (by show ¬ (7 : Int) = 6; decide), fun _ => rfl, fun e => absurd e (by show ¬ (7 : Int) = 9; decide), fun e => absurd e (by show ¬ (7 : Int) = 6; decide), fun e => absurd e (by show ¬ ((7 : Int) = 10 ∨ (7 : Int) = 11); decide), fun _ => rfl⟩
        have hk : k < 2 := hk
        have : k = 0 ∨ k = 1 := by omega
        rcases this with rfl | rfl
        · rfl
        · exact h2.symm
      · cases e
    · cases e
  split at e
  · unfold iteQ at e
    split at e
    · split at e
      · cases e
        rename_i h2
        refine ⟨fun e => absurd e (by show ¬ ((6 : Int) = 9 ∨ (6 : Int) = 10 ∨ (6 : Int) = 11); decide), fun e => absurd e (by show ¬ (6 : Int) = 7; decide), fun e => absurd e (by show ¬ (6 : Int) = 4; decide), fun e => absurd e (by show ¬ (6 : Int) = 8; decide), fun _ _ => h2.1, fun _ k h0 hk => ?_, fun e => absurd e (by show ¬ ((6 : Int) = 7 ∨ (6 : Int) = 8); decide), fun e => absurd e (by show ¬ (6 : Int) = 9; decide), fun _ => rfl, fun e => absurd e (by show ¬ ((6 : Int) = 10 ∨ (6 : Int) = 11); decide), fun e => absurd e (by show ¬ ((6 : Int) = 7 ∨ (6 : Int) = 8 ∨ 9 ≤ (6 : Int)); decide)⟩
        have hk : k < 3 := hk
        have : k = 1 ∨ k = 2 := by omega
        rcases this with rfl | rfl
        · rfl
        · exact h2.2.symm
      · cases e
    · cases e
  split at e
  · unfold appQ at e
    split at e
    · cases e
    · split at e
      · split at e
        · cases e
        · cases e; exact .none' (.inr (.inr (.inr rfl)))
      · cases e
  split at e
  · unfold numQ at e
    split at e
    · cases e; exact .none' (.inr (.inr (.inl rfl)))
    · cases e
  split at e
  · unfold plusQ at e
    split at e
    · rename_i he
      split at e
      · split at e
        · cases e; exact .none' (.inr (.inr (.inl rfl)))
        · split at e
          · cases e
          · cases e
            rename_i hb _
            have hsp : BaseT N ((view N).sp o.a).1 := (h.sp (t := o.a) (b := ((view N).sp o.a).1) (o := ((view N).sp o.a).2.1) (by rw [← he]; rfl)).resolve_left hb
            exact ⟨fun e => absurd e (by show ¬ ((4 : Int) = 9 ∨ (4 : Int) = 10 ∨ (4 : Int) = 11); decide), fun e => absurd e (by show ¬ (4 : Int) = 7; decide), fun _ k _ => hsp, fun e => absurd e (by show ¬ (4 : Int) = 8; decide), fun e => absurd e (by show ¬ (4 : Int) = 6; decide), fun e => absurd e (by show ¬ (4 : Int) = 6; decide), fun e => absurd e (by show ¬ ((4 : Int) = 7 ∨ (4 : Int) = 8); decide), fun e => absurd e (by show ¬ (4 : Int) = 9; decide), fun e => absurd e (by show ¬ (4 : Int) = 6; decide), fun e => absurd e (by show ¬ ((4 : Int) = 10 ∨ (4 : Int) = 11); decide), fun e => absurd e (by show ¬ ((4 : Int) = 7 ∨ (4 : Int) = 8 ∨ 9 ≤ (4 : Int)); decide)⟩
      · cases e
    · cases e
  split at e
  · unfold leQ at e
    split at e
    · split at e
      · rename_i he
        split at e
        · split at e
          · cases e
          · cases e
            have h1 := h.sp (t := o.a) (b := ((view N).sp o.a).1) (o := ((view N).sp o.a).2.1) (by rw [← he.1]; rfl)
            have h2 := h.sp (t := o.b) (b := ((view N).sp o.b).1) (o := ((view N).sp o.b).2.1) (by rw [← he.2]; rfl)
            have hz : ∀ b, (b = 2 ∨ BaseT N b) → BaseT N b ∨ (stL N b = 1 ∧ b = 2) := fun b hb => hb.elim (fun e => .inr ⟨by rw [e]; exact h.z, e⟩) .inl
            refine ⟨fun e => absurd e (by show ¬ ((8 : Int) = 9 ∨ (8 : Int) = 10 ∨ (8 : Int) = 11); decide), fun e => absurd e (by show ¬ (8 : Int) = 7; decide), fun e => absurd e (by show ¬ (8 : Int) = 4; decide), fun _ k hk => ?_, fun e => absurd e (by show ¬ (8 : Int) = 6; decide), fun e => absurd e (by show ¬ (8 : Int) = 6; decide), fun _ => rfl, fun e => absurd e (by show ¬ (8 : Int) = 9; decide), fun e => absurd e (by show ¬ (8 : Int) = 6; decide), fun e => absurd e (by show ¬ ((8 : Int) = 10 ∨ (8 : Int) = 11); decide), fun _ => rfl⟩
            have hk : k < 2 := hk
            have : k = 0 ∨ k = 1 := by omega
            rcases this with rfl | rfl
            · exact hz _ h1
            · exact hz _ h2
        · cases e
      · cases e
    · cases e
  · cases e
theorem Ans.sorts {N N' : List Nd} (h : SortsOk N) (g : GoodN N') {o : Cl} {t er : Int} (a : Ans N (reqOf (view N) o) t er N') : SortsOk N' := by
  generalize hq : reqOf (view N) o = q at a
  cases q with
  | no e => rw [a.2.2]; exact h
  | is t0 => rw [a.2.2]; exact h
  | mk x =>
    rcases a with ⟨_, e, _⟩ | ⟨_, _, e, _⟩ | ⟨_, _, _, _, P, C, e⟩
    · rw [e]; exact h
    · rw [e]; exact h
    · subst e
      have hx := req_sorts h o hq
      have hV : ∀ i, i < x.L → InL N (x.V i) := fun i hi => by
        have h1 := (g N.length _ (show (N ++ [{ x with P := P, C := C }])[N.length]? = some { x with P := P, C := C } by simp)).V i hi
        exact h1
      refine ⟨g, fun i y hi => ?_, ?_⟩
      · rcases nodes_snoc hi with hi | ⟨_, rfl⟩
        · exact (h.s i y hi).grow (fun j hj => by
            have := (h.g i y hi).V j hj
            have := (List.getElem?_eq_some_iff.1 hi).1
            unfold InL; omega)
        · exact NdS.args (hx.grow hV) P C
      · have h2 : InL N 2 := by
          have hz := h.z
          unfold stL at hz
          refine ⟨by omega, ?_⟩
          cases hc : N[(2 : Int).toNat]? with
          | none => rw [hc] at hz; simp at hz
          | some y =>
            have := (List.getElem?_eq_some_iff.1 hc).1
            have : (2 : Int).toNat = 2 := rfl
            omega
        rw [stL_grow h2]; exact h.z
theorem Firsts.sorts {T : Sto} (g : GoodS T) (f : Firsts T 3) : SortsOk T.nodes := by
  refine ⟨g.gn, fun i x hi => ?_, ?_⟩
  · have hl := (List.getElem?_eq_some_iff.1 hi).1
    obtain ⟨y, hy, hs⟩ := f.2 i (by rw [← f.1]; exact hl)
    rw [hi] at hy
    cases hy
    refine .none' ?_
    rw [hs.q]
    unfold three
    simp only
    split
    · exact .inl rfl
    · split
      · exact .inr (.inl rfl)
      · exact .inr (.inr (.inl rfl))
  · obtain ⟨y, hy, hs⟩ := f.2 2 (by omega)
    have e2 : stL T.nodes ((2 : Nat) : Int) = y.s := stL_of hy
    rw [show (2 : Int) = ((2 : Nat) : Int) from rfl, e2, hs.s]
    rfl
end Go.Proofs.Ytkjmmdffelhkiaa
