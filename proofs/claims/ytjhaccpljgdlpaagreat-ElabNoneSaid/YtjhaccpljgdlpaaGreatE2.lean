/- known(): a closed run, the two sides of its difference told ahead. -/
import Derived.Test.YtjhaccpljgdlpaaGreatE1
import Derived.Test.YtjhaccpljgdlpaaGreatAb20
namespace Go.Proofs.YtjhaccpljgdlpaaGreat
open Go Go.RowKit Go.Maps Go.WideElems

/-- what 'sides' says of a map of two that holds 3 once, and 4 once less. -/
noncomputable def memoT : Ab.Memo := fun f args A =>
  match Nat.beq f 103 with
  | false => none
  | true =>
    match args with
    | [.agg [_, _, _, .mp m]] =>
      match A.get m with
      | some (.map [(.flat (.int .i64 k1), .flat (.int .i64 v1), b1), (.flat (.int .i64 k2), .flat (.int .i64 v2), b2)] clock) =>
        match decide (k1 = 3) && decide (v1 = 1) && decide (k2 = 4) && decide (v2 = -1) && Nat.blt b1 b2 && Nat.blt b2 clock with
        | true => some (.tup [.flat (.int .i64 3), .flat (.int .i64 4), .flat (.bool true)], A)
        | false => none
      | _ => none
    | _ => none
def dm : DataW Unit := .map [(.int .i64 3, .lit (.int .i64 1)), (.int .i64 4, .lit (.int .i64 (-1)))]
theorem two_of (W : World) (M b1 b2 clock : Nat) (h : W.heap[M]? = some (.map #[⟨.int .i64 3, .int .i64 1, b1⟩, ⟨.int .i64 4, .int .i64 (-1), b2⟩] clock)) (hb : b1 < b2) (hc : b2 < clock) : Two W M dm := by
  have e1 : rd (H := Unit) Tryz.prog 39 (plainElem Tryz.prog 3) ⟨.int .i64 3, .int .i64 1, b1⟩ = some (.int .i64 3, .lit (.int .i64 1)) := by
    simp [rd, keyOf, Tryz.underlying39, mapKey, plainElem, Tryz.underlying3, Lit.wf, IntKind.min, IntKind.max, IntKind.signed, IntKind.bits]
  have e2 : rd (H := Unit) Tryz.prog 39 (plainElem Tryz.prog 3) ⟨.int .i64 4, .int .i64 (-1), b2⟩ = some (.int .i64 4, .lit (.int .i64 (-1))) := by
    simp [rd, keyOf, Tryz.underlying39, mapKey, plainElem, Tryz.underlying3, Lit.wf, IntKind.min, IntKind.max, IntKind.signed, IntKind.bits]
  refine ⟨⟨_, clock, h, ⟨show 2 ≤ maxLen from by decide, ⟨?_, ?_, ?_⟩, ?_⟩, Nat.le_refl 2, ?_⟩, ?_, rfl, fun _ => rfl, fun _ => rfl⟩
  · intro x hx
    simp at hx
    rcases hx with rfl | rfl
    · exact Nat.lt_trans hb hc
    · exact hc
  · simp; omega
  · simp
  · intro x hx
    simp at hx
    rcases hx with rfl | rfl
    · exact ⟨_, e1⟩
    · exact ⟨_, e2⟩
  · simp only [List.map_cons, List.map_nil, rg, e1, e2, Option.getD_some]
    rfl
  · intro x
    simp [dm, Maps.has, Lit.sameKey]
    omega
theorem memo_ok : Ab.MemoOk Tryz.prog memoT := by
  intro f args A v A' h ρ w hs hf
  unfold memoT at h
  split at h
  · cases h
  · rename_i hfe
    have e0 := Nat.eq_of_beq_eq_true hfe
    subst e0
    split at h
    · rename_i a1 a2 a3 m
      split at h
      · rename_i k1 v1 b1 k2 v2 b2 clock hg
        split at h
        · rename_i hb
          simp only [Bool.and_eq_true, decide_eq_true_eq] at hb
          obtain ⟨⟨⟨⟨⟨rfl, rfl⟩, rfl⟩, rfl⟩, c1⟩, c2⟩ := hb
          cases h
          intro xs hx
          cases hx with
          | cons h1 h2 =>
          cases h2
          cases h1 with
          | agg h1 =>
          cases h1 with
          | cons p0 h1 =>
          cases h1 with
          | cons p1 h1 =>
          cases h1 with
          | cons p2 h1 =>
          cases h1 with
          | cons p3 h1 =>
          cases h1
          cases p3 with
          | mp p3 =>
          obtain ⟨l, o, q1, q2, cs, rfl, q3⟩ := hs.obj m _ (show A.live m = some _ from by unfold Ab.AW.live; rw [hg])
          rw [p3] at q1
          cases q1
          cases q3 with
          | cons r1 r2 r3 q3 =>
          cases q3 with
          | cons s1 s2 s3 q3 =>
          cases q3
          rename_i x0 x1 x2 l0 ca cb
          obtain ⟨ka, va, ba⟩ := ca
          obtain ⟨kb, vb, bb⟩ := cb
          simp only at r1 r2 r3 s1 s2 s3
          cases r1; cases r2; cases s1; cases s2
          subst r3 s3
          refine (sides103 x0 x1 x2 _ dm w (two_of w _ _ _ _ q2 (by simpa using c1) (by simpa using c2))).mono ?_
          rintro e w' ⟨rfl, hb⟩
          have hold : ∀ n ao l, A.live n = some ao → ρ n = some l → w'.heap[l.blk]? = w.heap[l.blk]? := fun n ao l hn hl => by
            obtain ⟨l', o, e1, e2, _⟩ := hs.obj n ao hn
            rw [hl] at e1; cases e1
            exact hb.block _ (Array.getElem?_eq_some_iff.1 e2).1
          refine ⟨.tuple #[.int .i64 3, .int .i64 4, .bool true], ρ, rfl, .tup (.cons (.flat _) (.cons (.flat _) (.cons (.flat _) .nil))), ⟨fun n ao hn => ?_, hs.inj⟩, ⟨Ab.Sub.refl _, fun _ e k => absurd e k, Nat.le_refl _, fun n ao h => .inl ⟨ao, h⟩, fun n ao l h e => .inr ⟨n, ao, l, h, e, rfl⟩, fun b hb' _ => hb.block b hb', hb.size, hb.os, hb.tape, hb.output⟩⟩
          obtain ⟨l, o, e1, e2, e3⟩ := hs.obj n ao hn
          exact ⟨l, o, e1, by rw [hold n ao l hn e1]; exact e2, e3⟩
        · cases h
      · cases h
    · cases h
theorem known_true : Ab.topS Tryz.prog Ab.noHook memoT 100000 300 5 [] = true := by kernel_rfl
theorem known_any (w : World) : Calls Tryz.prog 5 #[] w fun e w' => e = .returned (.bool true) ∧ Below w.heap.size w w' :=
  Ab.topS_sound (by kernel_rfl) (Ab.named_of (by kernel_rfl)) Ab.noHooks memo_ok known_true (xs := []) .nil w
end Go.Proofs.YtjhaccpljgdlpaaGreat
