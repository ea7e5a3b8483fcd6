/-
  Operations, first part: each, over the abstract memory, is what the model does.
-/
import Derived.Test.YtjhaccpljgdlpaaGreatAb3
import Derived.Laws.MakeOwn
namespace Go.Proofs.YtjhaccpljgdlpaaGreat.Ab
open Go

def Gives (res : Result Next) (x : Value) (w' : World) : Prop := res = .ok (.value x) w' ∨ (res = .ok .skip w' ∧ x = undef)

def ArOk (P : Program) (ρ : Rn) (A : AW) (w : World) (res : Result Next) : AR → Prop
  | .val v => ∃ x, Gives res x w ∧ VR ρ v x
  | .new v ob => ∃ x obj w' room, Gives res x w' ∧ Pushed w obj w' ∧ ∀ ρ', Sub ρ ρ' → ρ' A.next = some ⟨w.heap.size, 0, room⟩ → VR ρ' v x ∧ OR P ρ' ⟨w.heap.size, 0, room⟩ ob obj
  | .chg v A' => Free ρ A.next A'.next → ∃ x w' ρ', Gives res x w' ∧ VR ρ' v x ∧ Sim P ρ' A'.live w' ∧ Ext ρ w A ρ' w' A'
  | .enter f args => ∃ xs : List Value, res = .ok (.enter f xs.toArray) w ∧ VRs ρ args xs
  | .dfr f args cap => ∃ xs cs : List Value, res = .ok (.defer { target := .fn (.func f) cs.toArray, args := xs.toArray }) w ∧ VRs ρ args xs ∧ VRs ρ cap cs
  | .round n args => ∃ xs : List Value, ∃ l, ρ n = some l ∧ res = (Instr.yield l.blk xs.toArray).run P w ∧ VRs ρ args xs

section
variable {P : Program} {ρ : Rn} {A : AW} {w : World}

theorem pureRun_spec {α : Type} : ∀ (s : Sem α) (a : α), pureRun P s = some a → ∀ w, s.run P w = .ok a w := by
  intro s
  induction s with
  | pure b => intro a h w; simp [pureRun] at h; subst h; rfl
  | program k ih => intro a h w; exact ih P a h w
  | mark m k ih => intro a h w; exact ih a h w
  | _ => intro a h; simp [pureRun] at h

theorem run_und {t : TypeId} {d : TypeDesc} (h : P.underlying t = some d) (w : World) : (underlying t).run P w = .ok d w := run_underlying h w
theorem run_info {t : TypeId} {i : TypeInfo} (h : P.info? t = some i) (w : World) : (typeInfo t).run P w = .ok i w := by simp [typeInfo, h]
theorem sizeA_spec {t : TypeId} {s : Nat} (h : sizeA P t = some s) : ∃ i, P.info? t = some i ∧ i.size = s := by
  unfold sizeA at h
  cases e : P.info? t with
  | none => simp [e] at h
  | some i => simp [e] at h; exact ⟨i, rfl, h⟩
theorem run_size {t : TypeId} {s : Nat} (h : sizeA P t = some s) (w : World) : (sizeOf t).run P w = .ok s w := by
  obtain ⟨i, e, rfl⟩ := sizeA_spec h
  simp [sizeOf, run_info e]
theorem size_of_sizeA {t : TypeId} {s : Nat} (h : sizeA P t = some s) : P.cellsOf t = s := by
  obtain ⟨i, e, rfl⟩ := sizeA_spec h
  simp [Program.cellsOf, e]
theorem run_isAggA {t : TypeId} {b : Bool} (h : isAggA P t = some b) (w : World) : (isAgg t).run P w = .ok b w := by
  unfold isAggA at h
  split at h
  · rename_i e; cases h; simp [isAgg, run_und e]
  · rename_i e; cases h; simp [isAgg, run_und e]
  · rename_i d h1 h2 e; cases h
    rw [isAgg, Sem.run_bind, run_und e, Result.andThen_ok]
    cases d <;> first | rfl | exact absurd rfl (h1 _) | exact absurd rfl (h2 _ _)
  · cases h
theorem zeroA_spec {t : TypeId} {z : AV} (h : zeroA P t = some z) : ∃ i v, P.info? t = some i ∧ i.zero = some v ∧ z = fromV v := by
  unfold zeroA at h
  split at h
  · rename_i i e
    split at h
    · rename_i v ez; cases h; exact ⟨i, v, e, ez, rfl⟩
    · cases h
  · cases h
theorem run_zero {t : TypeId} {z : AV} (h : zeroA P t = some z) : ∃ v, z = fromV v ∧ ∀ w, (zeroValue t).run P w = .ok v w := by
  obtain ⟨i, v, e, ez, rfl⟩ := zeroA_spec h
  exact ⟨v, rfl, fun w => by simp [zeroValue, run_info e, ez]⟩

theorem VR.oneV {a : AV} : ∀ {v : Value}, VR ρ a v → a.one = true → v.oneCell' = true
  | _, .flat v, k => by cases v <;> simp [AV.one] at k <;> rfl
  | _, .agg _, k | _, .tup _, k | _, .tupx _, k => by simp [AV.one] at k
  | _, .pick _ _ _ o h, _ => VR.oneV h o
  | _, .any h, _ => h
  | _, .rng _ _, _ => rfl
  | _, .ptr _ _, _ | _, .sl _ _ _ _ _, _ | _, .sle _ _ _, _ | _, .mp _, _ | _, .fn _ _ _, _ | _, .yld _, _ | _, .ifc _ _, _ => rfl

theorem VR.cells {a : AV} {v : Value} (h : VR ρ a v) : VRs ρ a.cells v.cells.toList := by
  cases h with
  | pick i e1 e2 o h =>
    have h1 := h.oneV o
    have : v.cells.toList = [v] := by cases v <;> first | rfl | simp [Value.oneCell'] at h1
    rw [this]
    exact .cons (.pick i e1 e2 o h) .nil
  | any h1 =>
    have : v.cells.toList = [v] := by cases v <;> first | rfl | simp [Value.oneCell'] at h1
    rw [this]
    exact .cons (.any h1) .nil
  | tupx h => exact .cons (.tupx h) .nil
  | rng h k => exact .cons (.rng h k) .nil
  | flat v =>
    cases v with
    | agg cs => simpa [AV.cells, Value.cells] using VRs.flats cs.toList
    | _ => exact .cons (.flat _) .nil
  | agg h => simpa [AV.cells, Value.cells] using h
  | ptr o h => exact .cons (.ptr o h) .nil
  | sl o len cap b h => exact .cons (.sl o len cap b h) .nil
  | sle a b h => exact .cons (.sle a b h) .nil
  | mp h => exact .cons (.mp h) .nil
  | fn f h k => exact .cons (.fn f h k) .nil
  | yld h => exact .cons (.yld h) .nil
  | ifc t h => exact .cons (.ifc t h) .nil
  | tup h => exact .cons (.tup h) .nil

theorem VR.one {a : AV} {v : Value} (h : VR ρ a v) (k : a.one = true) : v.oneCell' = true := by
  exact h.oneV k

theorem VRs.one {l : List AV} {vs : List Value} (h : VRs ρ l vs) (k : l.all AV.one = true) : ∀ v ∈ vs, v.oneCell' = true := by
  induction l generalizing vs with
  | nil => cases h; intro v hv; cases hv
  | cons a l ih =>
    cases h with
    | cons ha hl =>
      simp only [List.all_cons, Bool.and_eq_true] at k
      intro v hv
      cases hv with
      | head => exact ha.one k.1
      | tail _ hv => exact ih hl k.2 v hv

theorem intOf?_spec {a : AV} {n : Int} {v : Value} (h : intOf? a = some n) (hv : VR ρ a v) : ∃ k, v = .int k n := by
  unfold intOf? at h
  split at h
  · cases h; cases hv; exact ⟨_, rfl⟩
  · cases h
theorem natOf?_spec {a : AV} {n : Nat} {v : Value} (h : natOf? a = some n) (hv : VR ρ a v) : ∃ k, v = .int k (n : Int) := by
  unfold natOf? at h
  split at h
  · rename_i m e
    split at h
    · obtain ⟨k, rfl⟩ := intOf?_spec e hv
      cases h
      exact ⟨k, by congr 1; omega⟩
    · cases h
  · cases h
theorem boolOf?_spec {a : AV} {b : Bool} {v : Value} (h : boolOf? a = some b) (hv : VR ρ a v) : v = .bool b := by
  unfold boolOf? at h
  split at h
  · cases h; cases hv; rfl
  · cases h

/-- a row of cells, by its place -/
theorem load_sound (hs : Sim P ρ A.live w) {t : TypeId} {n o : Nat} {v : AV} {l : Loc} (h : loadA P A t n o = some v) (hl : ρ n = some l) :
    ∃ x, (Instr.loadAt t (.pointer (some ⟨l.blk, l.base + o, none⟩))).run P w = .ok x w ∧ VR ρ v x := by
  unfold loadA at h
  split at h
  · rename_i xs e s hc ha hsz
    obtain ⟨r, hcut, rfl⟩ := Option.map_eq_some_iff.1 h
    obtain ⟨vs, h1, h2, h3⟩ := hs.row (cellsOf_live hc) hl hcut
    refine ⟨.agg vs.toArray, ?_, .agg h1⟩
    have := run_loadCells_list (P := P) w ⟨l.blk, l.base + o, none⟩ vs h3
    rw [h2] at this
    simp [Instr.loadAt, Instr.sureAddr, loadVar, run_isAggA ha, run_size hsz, this]
  · rename_i xs e _ hc ha
    obtain ⟨x, h1, h2⟩ := hs.cell (cellsOf_live hc) hl h
    refine ⟨x, ?_, h1⟩
    simp [Instr.loadAt, Instr.sureAddr, loadVar, run_isAggA ha, run_load, h2]
  · cases h

theorem store_sound (hs : Sim P ρ A.live w) {t : TypeId} {n o : Nat} {v : AV} {x : Value} {A' : AW} {l : Loc} (h : storeA P A t n o v = some A') (hl : ρ n = some l) (hv : VR ρ v x) :
    ∃ w', (Instr.storeAt t (.pointer (some ⟨l.blk, l.base + o, none⟩)) x).run P w = .ok () w' ∧ Sim P ρ A'.live w' ∧ Ext ρ w A ρ w' A' := by
  unfold storeA at h
  split at h
  · rename_i xs e s hc hsz
    split at h
    · rename_i hcond
      simp only [Bool.and_eq_true, decide_eq_true_eq] at hcond
      split at h
      · rename_i xs' hp
        cases h
        have hcs := hv.cells
        obtain ⟨h1, h2, h3, h4⟩ := hs.putCells (cellsOf_live hc) hl hp hcs
        refine ⟨_, ?_, h1, h2⟩
        have hst := run_storeCells_cells (P := P) l.blk (l.base + o) x.cells.toList 0 w (by simpa using h3) (by simpa using h4) (hcs.one hcond.2)
        have hlen : x.cells.size = s := by have := hcs.length; simp at this; omega
        simp [Instr.storeAt, Instr.sureAddr, storeVar, run_size hsz, hlen, hst]
      · cases h
    · cases h
  · cases h

/-- a new row of cells -/
theorem newCells {elem : TypeId} {xs : List AV} {vs : List Value} (hv : VRs ρ xs vs) (room : Nat) (tail : List Value) (ht : tail.length = room * P.cellsOf elem) {ρ' : Rn} (hs : Sub ρ ρ') {l : Loc} (hl : l.base = 0) (hr : l.room = room) :
    OR P ρ' l (.cells xs elem) (.cells (vs ++ tail).toArray elem) := by
  refine ⟨_, (0, 0), rfl, by simp [hv.length, hl, hr, ht], Or.inl rfl, fun i a e => ?_⟩
  obtain ⟨v, e1, e2⟩ := hv.get e
  refine ⟨v, ?_, e2.mono hs⟩
  rw [hl]
  simp only [Nat.zero_add, List.getElem?_toArray]
  rw [List.getElem?_append_left (by have := (List.getElem?_eq_some_iff.1 e1).1; exact this)]
  exact e1

theorem pushed_newRow (elem : TypeId) (C : Array Value) (w : World) : ∃ w', (newRow elem C).run P w = .ok ⟨w.heap.size, 0, none⟩ w' ∧ Pushed w (.cells C elem) w' :=
  ⟨w.alloc (.cells C elem), by simp [newRow], rfl, rfl, rfl, rfl⟩

theorem box_sound {t : TypeId} {a : AV} {x : Value} (hv : VR ρ a x) :
    ∃ obj w', (newVar t x).run P w = .ok ⟨w.heap.size, 0, none⟩ w' ∧ Pushed w obj w' ∧ ∀ ρ', Sub ρ ρ' → ∀ l : Loc, l.base = 0 → l.room = 0 → OR P ρ' l (.cells a.cells t) obj := by
  obtain ⟨w', h1, h2⟩ := pushed_newRow (P := P) t x.cells w
  refine ⟨_, w', h1, h2, fun ρ' hs l hl hr => ?_⟩
  have := newCells (P := P) (elem := t) hv.cells 0 [] (by simp) hs hl hr
  simpa using this

/-- parts laid into cells -/
theorem foldl_put (off : Nat) : ∀ (vs : List Value) (j : Nat) (C : Array Value), (vs.zipIdx j).foldl (fun cs (x : Value × Nat) => cs.setIfInBounds (off + x.2) x.1) C = spl C (off + j) vs
  | [], _, _ => rfl
  | v :: r, j, C => by
    rw [List.zipIdx_cons, List.foldl_cons, spl]
    exact foldl_put off r (j + 1) _

theorem VRs.putAt {xs ys r : List AV} {cs vs : List Value} {o : Nat} (h : VRs ρ xs cs) (k : VRs ρ ys vs) (e : putAt xs o ys = some r) : VRs ρ r (spl cs.toArray o vs).toList := by
  obtain ⟨p1, p2, p3⟩ := putAt_spec e
  have hl := h.length
  have hk := k.length
  refine .of_get (by simp [spl_size, p1, hl]) fun i a ei => ?_
  rw [p3] at ei
  rw [Array.getElem?_toList, spl_get _ _ _ _ (by simp; omega)]
  by_cases c : o ≤ i ∧ i < o + ys.length
  · rw [if_pos c] at ei
    rw [if_pos (by omega)]
    exact k.get ei
  · rw [if_neg c] at ei
    rw [if_neg (by omega)]
    simpa using h.get ei

inductive PRs (ρ : Rn) : List (Nat × AV) → List (Nat × Value) → Prop
  | nil : PRs ρ [] []
  | cons {i : Nat} {a : AV} {v : Value} {l : List (Nat × AV)} {m : List (Nat × Value)} : VR ρ a v → PRs ρ l m → PRs ρ ((i, a) :: l) ((i, v) :: m)

theorem fill_sound (place place' : Nat → Option (Nat × Nat)) (hp : ∀ i o s, place i = some (o, s) → place' i = some (o, s)) : ∀ {parts : List (Nat × AV)} {ps : List (Nat × Value)} {xs r : List AV} {cs : List Value}, PRs ρ parts ps → VRs ρ xs cs →
    fillA place xs parts = some r → ∃ us, Instr.fill place' cs.toArray ps = some us.toArray ∧ VRs ρ r us
  | _, _, xs, r, cs, .nil, hx, h => by simp [fillA] at h; subst h; exact ⟨cs, rfl, hx⟩
  | _, _, xs, r, cs, .cons (i := i) (a := a) (v := v) ha hr, hx, h => by
    simp only [fillA] at h
    split at h
    · cases h
    · rename_i off size e
      split at h
      · rename_i hsz
        split at h
        · rename_i c hc
          have hcs := ha.cells
          have hlen := hcs.length
          simp at hlen
          obtain ⟨p1, p2, p3⟩ := putAt_spec hc
          have hx2 := hx.putAt hcs hc
          obtain ⟨us, h1, h2⟩ := fill_sound place place' hp hr hx2 h
          refine ⟨us, ?_, h2⟩
          simp only [Instr.fill, hp _ _ _ e]
          have hxl := hx.length
          rw [if_neg (by simp; omega)]
          have : (v.cells.zipIdx.foldl (fun cs (x : Value × Nat) => cs.setIfInBounds (off + x.2) x.1) cs.toArray) = spl cs.toArray off v.cells.toList := by
            rw [← Array.foldl_toList, Array.toList_zipIdx]
            exact foldl_put off _ 0 _
          simp only [this]
          rw [← h1]
        · cases h
      · cases h

theorem run_places {fields : List Field} {ps : List (Nat × Nat)} (h : placesA P fields = some ps) (w : World) :
    (fields.mapM (fun f => Prod.mk f.offset <$> sizeOf f.type : Field → Sem (Nat × Nat))).run P w = .ok ps w := by
  unfold placesA at h
  induction fields generalizing ps with
  | nil => simp at h; subst h; simp
  | cons f l ih =>
    simp only [List.mapM_cons] at h
    cases e : sizeA P f.type with
    | none => simp [e] at h
    | some s =>
      cases e2 : l.mapM (fun f => (sizeA P f.type).map fun s => (f.offset, s)) with
      | none => simp [e, e2] at h
      | some qs =>
        simp [e, e2] at h
        subst h
        simp [List.mapM_cons, run_size e, ih e2]

theorem build_sound {t : TypeId} {parts : List (Nat × AV)} {ps : List (Nat × Value)} {v : AV} (h : buildA P t parts = some v) (hp : PRs ρ parts ps) (w : World) :
    ∃ x, (Instr.build t ps.toArray).run P w = .ok x w ∧ VR ρ v x := by
  unfold buildA at h
  split at h
  · rename_i z fields hz hu
    obtain ⟨zv, rfl, hzr⟩ := run_zero hz
    split at h
    · rename_i pl hpl
      obtain ⟨r, hr, rfl⟩ := Option.map_eq_some_iff.1 h
      obtain ⟨us, h1, h2⟩ := fill_sound (fun i => pl[i]?) (fun i => (pl.toArray)[i]?) (fun i o s e => by simpa using e) hp (VR.fromV (ρ := ρ) zv).cells hr
      refine ⟨.agg us.toArray, ?_, .agg h2⟩
      have hm : (fields.mapM (fun f => Prod.mk f.offset <$> sizeOf f.type : Field → Sem (Nat × Nat))).run P w = .ok pl.toArray w := by
        rw [Array.mapM_eq_mapM_toList, Sem.run_map, run_places hpl]
        rfl
      simp at h1
      simp [Instr.build, hzr, run_und hu, hm, h1]
    · cases h
  · rename_i z k elem hz hu
    obtain ⟨zv, rfl, hzr⟩ := run_zero hz
    split at h
    · rename_i s hsz
      obtain ⟨r, hr, rfl⟩ := Option.map_eq_some_iff.1 h
      obtain ⟨us, h1, h2⟩ := fill_sound (fun i => some (i * s, s)) (fun i => some (i * s, s)) (fun i o s e => e) hp (VR.fromV (ρ := ρ) zv).cells hr
      refine ⟨.agg us.toArray, ?_, .agg h2⟩
      simp at h1
      simp [Instr.build, hzr, run_und hu, run_size hsz, h1]
    · cases h
  · cases h

theorem part_sound {t : TypeId} {l : List AV} {cs : List Value} {off : Nat} {v : AV} (h : partA P t l off = some v) (hl : VRs ρ l cs) (w : World) :
    ∃ x, (part t cs.toArray off).run P w = .ok x w ∧ VR ρ v x := by
  unfold partA at h
  split at h
  · rename_i s ha hsz
    obtain ⟨r, hr, rfl⟩ := Option.map_eq_some_iff.1 h
    unfold cut at hr
    simp only at hr
    split at hr
    · cases hr
      refine ⟨.agg ((cs.drop off).take s).toArray, ?_, .agg ((hl.drop off).take s)⟩
      simp [part, run_isAggA ha, run_size hsz]
      
    · cases hr
  · rename_i ha
    obtain ⟨x, e1, e2⟩ := hl.get h
    refine ⟨x, ?_, e2⟩
    simp [part, run_isAggA ha, e1]
  · cases h
end
end Go.Proofs.YtjhaccpljgdlpaaGreat.Ab
