/- A map in memory, as a function of its keys. -/
import Derived.Test.YtkjmmdffelhkiaaS0
namespace Go.Proofs.Ytkjmmdffelhkiaa
open Go Go.RowKit Go.Maps

/-- an element is told by itself. -/
def heldR (v : Value) : Option (DataW Value × List MemPlace) := some (.held v, [])
structure FMap (W : World) (kt : TypeId) (m : Nat) (f : Lit → Option Value) (n : Nat) : Prop where
  has : ∃ D, W.ownsMap Try.prog kt heldR m n D ∧ Maps.size D = n ∧ Tidy D ∧ (∀ kl, KeysOf Try.prog kt kl → Maps.has D kl = (f kl).isSome) ∧ ∀ kl v, KeysOf Try.prog kt kl → f kl = some v → ∀ z, D.atKey kl z = .held v
theorem ownsMap_tight {P : Program} {w : World} {k : TypeId} {b n : Nat} {D : DataW Value} (h : w.ownsMap P k heldR b n D) : w.ownsMap P k heldR b (Maps.size D) D := by
  obtain ⟨es, cl, h1, h2, h3, rfl⟩ := h
  exact ⟨es, cl, h1, h2, by show es.size ≤ Maps.size _; rw [Maps.size_eq, length_sorted]; simp, rfl⟩
theorem ownsMap_only {P : Program} {w w' : World} {k : TypeId} {b n : Nat} {D : DataW Value} {T : Nat → Prop} (h : w.ownsMap P k heldR b n D) (ho : Only T w w') (hn : ¬ T b) : w'.ownsMap P k heldR b n D := by
  obtain ⟨es, cl, h1, h2⟩ := h
  refine ⟨es, cl, ?_, h2⟩
  rw [← h1]
  exact ho.block b (by
    rcases Nat.lt_or_ge b w.heap.size with h | h
    · exact h
    · rw [Array.getElem?_eq_none h] at h1; cases h1) hn
section
variable {W : World} {kt : TypeId} {m : Nat} {f : Lit → Option Value} {n : Nat}
theorem FMap.only {W' : World} {T : Nat → Prop} (h : FMap W kt m f n) (ho : Only T W W') (hn : ¬ T m) : FMap W' kt m f n := by
  obtain ⟨D, h1, h2⟩ := h.has
  exact ⟨D, ownsMap_only h1 ho hn, h2⟩
theorem FMap.lt (h : FMap W kt m f n) : m < W.heap.size := by obtain ⟨D, h1, _⟩ := h.has; exact h1.lt
theorem FMap.later {W' : World} (h : FMap W kt m f n) (hb : Below W.heap.size W W') : FMap W' kt m f n := h.only (Only.of_below (T := fun _ => False) hb) (fun h => h)
theorem FMap.made (w : World) (kt : TypeId) : FMap (w.alloc (.map #[] 0)) kt w.heap.size (fun _ => none) 0 :=
  ⟨.map [], World.ownsMap_made w Try.prog kt heldR, rfl, tidy_empty, fun _ _ => rfl, fun _ _ _ h => by cases h⟩
theorem FMap.look_ok {t e : TypeId} (h : FMap W kt m f n) (K : Keyed Try.prog kt) (ht : Try.prog.underlying t = some (.map kt e)) {z : Value} (hz : (zeroValue e).run Try.prog W = .ok z W) {key : Value} {kl : Lit} (hkey : keyOf Try.prog kt key = some kl) :
    (Instr.lookup t (.map (some m)) key true).run Try.prog W = .ok (.tuple #[(f kl).getD z, .bool (f kl).isSome]) W := by
  obtain ⟨D, h1, _, _, h4, h5⟩ := h.has
  obtain ⟨v, ps, hr, hv⟩ := h1.look_ok K ht hz (show heldR z = some (.held z, []) from rfl) hkey
  rw [hr, h4 kl ⟨_, hkey⟩]
  have hv2 : (DataW.held v, ([] : List MemPlace)) = (D.atKey kl (.held z), ps) := Option.some.inj hv
  have e1 : DataW.held v = D.atKey kl (.held z) := congrArg Prod.fst hv2
  cases hf : f kl with
  | none =>
    have hn : Maps.has D kl = false := by rw [h4 kl ⟨_, hkey⟩, hf]; rfl
    rw [atKey_of_not_has hn] at e1
    cases e1
    rfl
  | some u =>
    rw [h5 kl u ⟨_, hkey⟩ hf] at e1
    cases e1
    rfl
theorem FMap.look {t e : TypeId} (h : FMap W kt m f n) (K : Keyed Try.prog kt) (ht : Try.prog.underlying t = some (.map kt e)) {z : Value} (hz : (zeroValue e).run Try.prog W = .ok z W) {key : Value} {kl : Lit} (hkey : keyOf Try.prog kt key = some kl) :
    (Instr.lookup t (.map (some m)) key false).run Try.prog W = .ok ((f kl).getD z) W := by
  obtain ⟨D, h1, _, _, h4, h5⟩ := h.has
  obtain ⟨v, ps, hr, hv⟩ := h1.lookup K ht hz (show heldR z = some (.held z, []) from rfl) hkey
  rw [hr]
  have hv2 : (DataW.held v, ([] : List MemPlace)) = (D.atKey kl (.held z), ps) := Option.some.inj hv
  have e1 : DataW.held v = D.atKey kl (.held z) := congrArg Prod.fst hv2
  cases hf : f kl with
  | none =>
    have hn : Maps.has D kl = false := by rw [h4 kl ⟨_, hkey⟩, hf]; rfl
    rw [atKey_of_not_has hn] at e1
    cases e1
    rfl
  | some u =>
    rw [h5 kl u ⟨_, hkey⟩ hf] at e1
    cases e1
    rfl
theorem FMap.len {t e : TypeId} (h : FMap W kt m f n) (ht : Try.prog.underlying t = some (.map kt e)) (ty : TypeId) : (Builtin.len_ #[t] ty #[.map (some m)]).run Try.prog W = .ok (.int .i64 (n : Int)) W := by
  obtain ⟨D, h1, h2, _⟩ := h.has
  rw [h1.len ht ty, h2]
open Classical in
/-- a key's value, from now on. -/
noncomputable
def updF (f : Lit → Option Value) (kl : Lit) (v : Option Value) : Lit → Option Value := fun k => @ite _ (k = kl) (Classical.propDecidable _) v (f k)
theorem FMap.put {t e : TypeId} (h : FMap W kt m f n) (K : Keyed Try.prog kt) (ht : Try.prog.underlying t = some (.map kt e)) (hn : n < maxLen) {key : Value} {kl : Lit} (hkey : keyOf Try.prog kt key = some kl) (v : Value) :
    ∃ w', (Instr.mapUpdate t (.map (some m)) key v).run Try.prog W = .ok () w' ∧ FMap w' kt m (updF f kl (some v)) (if (f kl).isSome then n else n + 1) ∧ W.grownBy w' (some m) := by
  obtain ⟨D, h1, h2, h3, h4, h5⟩ := h.has
  obtain ⟨w', hr, ho, hg⟩ := h1.update K ht hn hkey (show heldR v = some (.held v, []) from rfl)
  refine ⟨w', hr, ⟨D.put kl (.held v), ?_, ?_, ?_, ?_, ?_⟩, hg⟩
  · have := ownsMap_tight ho
    rw [size_put h3, h2, h4 kl ⟨_, hkey⟩] at this
    exact this
  · rw [size_put h3, h2, h4 kl ⟨_, hkey⟩]
  · exact h3.put (K.key hkey) _
  · intro k hk
    unfold updF
    by_cases e : k = kl
    · subst e; rw [if_pos rfl, has_put_same h3.isMap (K.key hkey)]; rfl
    · rw [if_neg e, has_put_other e]; exact h4 k hk
  · intro k u hk hu z
    unfold updF at hu
    by_cases e : k = kl
    · subst e
      rw [if_pos rfl] at hu
      cases hu
      exact atKey_put_same h3.isMap (K.key hkey) _ z
    · rw [if_neg e] at hu
      rw [atKey_put_other e]
      exact h5 k u hk hu z
theorem FMap.del {t e : TypeId} (h : FMap W kt m f n) (K : Keyed Try.prog kt) (ht : Try.prog.underlying t = some (.map kt e)) {key : Value} {kl : Lit} (hkey : keyOf Try.prog kt key = some kl) (ty : TypeId) :
    ∃ w', (Builtin.delete_ #[t, kt] ty #[.map (some m), key]).run Try.prog W = .ok (.tuple #[]) w' ∧ FMap w' kt m (updF f kl none) (if (f kl).isSome then n - 1 else n) ∧ W.grownBy w' (some m) := by
  obtain ⟨D, h1, h2, h3, h4, h5⟩ := h.has
  obtain ⟨w', hr, ho, hg⟩ := h1.drop K ht hkey ty
  have hs := size_del (k := kl) h3
  rw [h4 kl ⟨_, hkey⟩, h2] at hs
  have hs2 : Maps.size (D.del kl) = if (f kl).isSome then n - 1 else n := by
    cases hf : (f kl).isSome <;> rw [hf] at hs <;> simp at hs ⊢ <;> omega
  refine ⟨w', hr, ⟨D.del kl, ?_, hs2, h3.del kl, ?_, ?_⟩, hg.grown⟩
  · have := ownsMap_tight ho
    rw [hs2] at this
    exact this
  · intro k hk
    unfold updF
    by_cases e : k = kl
    · subst e; rw [if_pos rfl, has_del_same]; rfl
    · rw [if_neg e, has_del_other e]; exact h4 k hk
  · intro k u hk hu z
    unfold updF at hu
    by_cases e : k = kl
    · rw [if_pos e] at hu; cases hu
    · rw [if_neg e] at hu
      rw [atKey_del_other e]
      exact h5 k u hk hu z
end
section
variable {w : World} {ops : Array Oper} {rest : List Oper} {o : Oper} {a : Act} {Q : Exit → Act → World → Prop}
theorem wp_op_run {K : Act → World → Prop} {t : TypeId} {m x : Operand} {ok : Bool} (hop : o.op = Op.lookup t m x ok) {mv key u : Value} (hm : a.eval m = mv) (hx : a.eval x = key) (hr : (Instr.lookup t mv key ok).run Try.prog w = .ok u w) (h : K (a.put o.dst u) w) : o.wp Try.prog a w K Q := by
  unfold Oper.wp
  simp [execOp, hop, hm, hx, hr, Result.andThen]
  exact h
theorem wpList_look_run (hg : o.guard = none) (m x : Operand) (t : TypeId) (ok : Bool) (hop : o.op = Op.lookup t m x ok) (mv key u : Value) (hm : a.eval m = mv) (hx : a.eval x = key) (hr : (Instr.lookup t mv key ok).run Try.prog w = .ok u w)
    (h : wpList Try.prog ops Q rest (a.put o.dst u) w) : wpList Try.prog ops Q (o :: rest) a w :=
  wpList_plain hg fun _ hK => wp_op_run hop hm hx hr (hK _ _ h)
theorem wp_upd_run {K : Act → World → Prop} {t : TypeId} {m x v : Operand} (hop : o.op = Op.mapUpdate t m x v) {mv key u : Value} {w' : World} (hm : a.eval m = mv) (hx : a.eval x = key) (hv : a.eval v = u) (hr : (Instr.mapUpdate t mv key u).run Try.prog w = .ok () w') (h : K (a.put o.dst undef) w') : o.wp Try.prog a w K Q := by
  unfold Oper.wp
  simp [execOp, hop, hm, hx, hv, hr, Result.andThen]
  exact h
theorem wpList_upd_run (hg : o.guard = none) (m x v : Operand) (t : TypeId) (hop : o.op = Op.mapUpdate t m x v) (mv key u : Value) (w' : World) (hm : a.eval m = mv) (hx : a.eval x = key) (hv : a.eval v = u) (hr : (Instr.mapUpdate t mv key u).run Try.prog w = .ok () w')
    (h : wpList Try.prog ops Q rest (a.put o.dst undef) w') : wpList Try.prog ops Q (o :: rest) a w :=
  wpList_plain hg fun _ hK => wp_upd_run hop hm hx hv hr (hK _ _ h)
end
end Go.Proofs.Ytkjmmdffelhkiaa
