/- Closed runs: calls whose answers are known ahead (a sort of a row of picks, its orders looked at some at a time). -/
import Derived.Test.YtjhaccpljgdlpaaGreatAb19
namespace Go.Proofs.YtjhaccpljgdlpaaGreat.Ab
open Go
noncomputable section
variable {P : Program}

/-- what is known of calls ahead -/
abbrev Memo := FuncId → List AV → AW → Option (AV × AW)
def MemoOk (P : Program) (sk : Memo) : Prop := ∀ f args A v A', sk f args A = some (v, A') → ∀ ρ w, Sim P ρ A.live w → Free ρ A.next A'.next → ReqOk P (.enter f args) ρ w A v A'

def reqS (P : Program) (hk : FuncId → Bool) (sk : Memo) (m : Nat) : Nat → Req → AW → Option (AV × AW)
  | 0, _, _ => none
  | d + 1, .enter f args, A =>
    match sk f args A with
    | some r => some r
    | none =>
      match hk f && args.isEmpty with
      | true => some (.flat (.bool true), A)
      | false =>
        match isPicks args A with
        | true => sortA P (reqS P hk sk m d) f args A
        | false => bodyA P (reqS P hk sk m d) m f args A
  | d + 1, .round n args, A => roundA P (reqS P hk sk m d) m n args A
  | d + 1, .dfr f args, A => bodyA P (reqS P hk sk m d) m f args A
def topS (P : Program) (hk : FuncId → Bool) (sk : Memo) (m d : Nat) (f : FuncId) (args : List AV) : Bool := isTrue (reqS P hk sk m d (.enter f args) ⟨.lf, 0⟩)

theorem reqS_sound (hm : P.follows .mixedOrders = true) (hN : Named P) {hk : FuncId → Bool} (hh : HooksOk P hk) {sk : Memo} (hsk : MemoOk P sk) (m : Nat) : ∀ d, RecOk P (reqS P hk sk m d)
  | 0 => fun rq A v A' h => by simp [reqS] at h
  | d + 1 => fun rq A v A' h ρ w hs hf => by
    have ih := reqS_sound hm hN hh hsk m d
    cases rq with
    | enter f args =>
      simp only [reqS] at h
      split at h
      · rename_i r hr
        cases h
        exact hsk _ _ _ _ _ hr ρ w hs hf
      · split at h
        · rename_i hb
          simp only [Bool.and_eq_true, List.isEmpty_iff] at hb
          cases h
          obtain ⟨h1, rfl⟩ := hb
          exact hook_sound hh h1 hs
        · split at h
          · exact sort_sound ih h hs
          · exact body_sound hm ih hN h hs hf
    | round n args =>
      simp only [reqS] at h
      exact round_sound hm ih hN h hs hf
    | dfr f args =>
      simp only [reqS] at h
      exact body_off hm ih hN h hs hf

theorem topS_sound (hm : P.follows .mixedOrders = true) (hN : Named P) {hk : FuncId → Bool} (hh : HooksOk P hk) {sk : Memo} (hsk : MemoOk P sk) {m d : Nat} {f : FuncId} {args : List AV} (h : topS P hk sk m d f args = true) {xs : List Value} (hx : VRs (fun _ => none) args xs) (w : World) :
    Calls P f xs.toArray w fun e w' => e = .returned (.bool true) ∧ RowKit.Below w.heap.size w w' := by
  unfold topS isTrue at h
  split at h
  · rename_i b A' hr
    subst h
    have hs : Sim P (fun _ => none) (⟨.lf, 0⟩ : AW).live w := ⟨fun n ao h => by simp [AW.live, AW.get, Tr.get_lf] at h, fun n m a b l l' h => by simp [AW.live, AW.get, Tr.get_lf] at h⟩
    refine (reqS_sound hm hN hh hsk m d _ _ _ _ hr _ w hs (fun _ _ _ => rfl) xs hx).mono ?_
    rintro e w' ⟨x, ρ', rfl, h1, h2, h3⟩
    cases h1
    exact ⟨rfl, h3.os, h3.tape, h3.output, h3.size, fun k hk => h3.keep k hk fun n ao l h => by simp [AW.live, AW.get, Tr.get_lf] at h⟩
  · cases h

/-- a sort of a row of picks of which all orders were looked at ahead -/
def memoSort (f0 : FuncId) (a0 : AV) (n0 next0 : Nat) (t0 : TypeId) (keys0 : List AV) (v0 : AV) (r0 : List AV) : Memo := fun f args A =>
  match Nat.beq f f0 with
  | false => none
  | true =>
    match args with
    | [.sl n o len cap opn] =>
      match A.get n with
      | some (.cells (.pick m i keys :: r) t) =>
        match A.get i with
        | some (.miter _ _ seen bs _) =>
          if (aSame (.sl n o len cap opn) a0 && Nat.beq n n0 && Nat.beq A.next next0 && Nat.beq t t0 && asSame keys keys0) && (allPicks i keys seen (.pick m i keys :: r) && Nat.beq seen.length bs.length && Nat.beq keys.length bs.length && keys.all AV.one) then
            some (v0, A.set n (.cells r0 t))
          else none
        | _ => none
      | _ => none
    | _ => none

theorem memoSort_ok (hm : P.follows .mixedOrders = true) (hN : Named P) {m d : Nat} {f0 : FuncId} {a0 : AV} {n0 next0 : Nat} {t0 : TypeId} {keys0 : List AV} {v0 : AV} {r0 : List AV}
    (H : orders (reqA P noHook m d) f0 [a0] n0 next0 t0 (perms keys0) = some (v0, r0)) : MemoOk P (memoSort f0 a0 n0 next0 t0 keys0 v0 r0) := by
  intro f args A v A' h ρ w hs hf
  have key : sortA P (reqA P noHook m d) f args A = some (v, A') := by
    unfold memoSort at h
    split at h
    · cases h
    · rename_i hfe
      have e0 := Nat.eq_of_beq_eq_true hfe
      subst e0
      split at h
      · rename_i n o len cap opn
        split at h
        · rename_i mm i keys r t hg
          split at h
          · rename_i x1 x2 seen bs x3 hgi
            split at h
            · rename_i hb
              simp only [Bool.and_eq_true] at hb
              obtain ⟨⟨⟨⟨⟨b1, b2⟩, b3⟩, b4⟩, b5⟩, hb6⟩ := hb
              have e1 := aSame_spec b1
              have e2 := Nat.eq_of_beq_eq_true b2
              have e3 := Nat.eq_of_beq_eq_true b3
              have e4 := Nat.eq_of_beq_eq_true b4
              have e5 := asSame_spec b5
              subst e1 e2 e4 e5
              cases h
              unfold sortA
              simp only [hg, hgi]
              rw [if_pos (by simp only [Bool.and_eq_true]; exact hb6), e3, H]
            · cases h
          · cases h
        · cases h
      · cases h
  exact sort_sound (req_sound hm hN noHooks m d) key hs

theorem orders_append {rec : Rec} {f : FuncId} {args : List AV} {n next : Nat} {t : TypeId} {v : AV} {r : List AV} (hv : aSame v v = true) (hr : asSame r r = true) :
    ∀ {l1 l2 : List (List AV)}, orders rec f args n next t l1 = some (v, r) → orders rec f args n next t l2 = some (v, r) → orders rec f args n next t (l1 ++ l2) = some (v, r)
  | [], _, h1, _ => by simp [orders] at h1
  | [l], [], _, h2 => by simp [orders] at h2
  | [l], y :: m, h1, h2 => by
    simp only [orders] at h1
    split at h1
    · rename_i v1 A1 hr1
      split at h1
      · rename_i r1 t1 hg
        split at h1
        · rename_i hb
          cases h1
          simp only [List.cons_append, List.nil_append]
          unfold orders
          simp only [hr1, hg, h2]
          simp only [Bool.and_eq_true] at hb ⊢
          rw [if_pos ⟨⟨hb, hv⟩, hr⟩]
        · cases h1
      · cases h1
    · cases h1
  | l :: l' :: ls, l2, h1, h2 => by
    simp only [orders] at h1
    split at h1
    · rename_i v1 A1 hr1
      split at h1
      · rename_i r1 t1 hg
        split at h1
        · rename_i v2 r2 h3
          split at h1
          · rename_i hb
            cases h1
            have ih := orders_append hv hr h3 h2
            simp only [List.cons_append] at ih ⊢
            unfold orders
            simp only [hr1, hg, ih]
            rw [if_pos hb]
          · cases h1
        · cases h1
      · cases h1
    · cases h1

def ordersB (P : Program) (m d : Nat) (f0 : FuncId) (a0 : AV) (n0 next0 : Nat) (t0 : TypeId) (v0 : AV) (r0 : List AV) (ls : List (List AV)) : Bool :=
  match orders (reqA P noHook m d) f0 [a0] n0 next0 t0 ls with
  | some (v, r) => aSame v v0 && asSame r r0
  | none => false
theorem ordersB_spec {m d : Nat} {f0 : FuncId} {a0 : AV} {n0 next0 : Nat} {t0 : TypeId} {v0 : AV} {r0 : List AV} {ls : List (List AV)} (h : ordersB P m d f0 a0 n0 next0 t0 v0 r0 ls = true) :
    orders (reqA P noHook m d) f0 [a0] n0 next0 t0 ls = some (v0, r0) := by
  unfold ordersB at h
  split at h
  · rename_i v r e
    simp only [Bool.and_eq_true] at h
    rw [e, aSame_spec h.1, asSame_spec h.2]
  · cases h
theorem five_parts {α : Type} (l : List α) : l = l.take 24 ++ ((l.drop 24).take 24 ++ ((l.drop 48).take 24 ++ ((l.drop 72).take 24 ++ l.drop 96))) := by
  have e4 : l.drop 96 = (l.drop 72).drop 24 := by rw [List.drop_drop]
  have e3 : l.drop 72 = (l.drop 48).drop 24 := by rw [List.drop_drop]
  have e2 : l.drop 48 = (l.drop 24).drop 24 := by rw [List.drop_drop]
  rw [e4, List.take_append_drop, e3, List.take_append_drop, e2, List.take_append_drop, List.take_append_drop]
end
end Go.Proofs.YtjhaccpljgdlpaaGreat.Ab
