/- Memory, for the store of clauses: what changes where; a map as a function of its keys. -/
import Derived.Test.YtiadnifbjdnflaaKn4
import Derived.Test.YtiadnifbjdnflaaRefC
import Derived.Test.YtiadnifbjdnflaaTurnedOut
import Derived.Maps.OwnOps
import Derived.Maps.OwnSet
import Derived.Maps.AppendAt
namespace Go.Proofs.Ytiadnifbjdnflaa
open Go Go.RowKit Go.Maps

theorem wp_append_own_at {P : Program} {w : World} {o : Oper} {a : Act} {K : Act → World → Prop} {Q : Exit → Act → World → Prop} (s x : Operand) (t : TypeId)
    (ho : o.op = .call { callee := .builtin .append, args := #[s, x], argTypes := #[t, t] })
    (base : Nat) (e : TypeId) (i : TypeInfo) (z : Value) (size bytes : Nat) (ht : P.underlying t = some (.slice e)) (hi : P.info? e = some i) (hz : i.zero = some z)
    (hsize : i.size = size) (hby : i.bytes = bytes) (hzs : z.cells.size = size) (hsz : 0 < size)
    (v : Value) (n : Nat) (xs : List Value) (hs : a.eval s = v) (hown : w.ownsRow base e size v n xs)
    (ad : Addr) (m c : Nat) (news : List Value) (hx : a.eval x = .slice (some ad) m c) (hl : news.length = m * size) (hnews : ∀ j u, news[j]? = some u → w.cell? (ad.add j) = some u) (h1 : ∀ u ∈ news, u.oneCell' = true)
    (h63 : n + m ≤ maxLen) (hbytes : (n + m) * bytes ≤ 140737488355328) (hbase : base ≤ w.heap.size)
    (h : ∀ v' w', w'.ownsRow base e size v' (n + m) (xs ++ news) → w.grownBy w' v.ownBlock → (v' = .slice none 0 0 ↔ v = .slice none 0 0 ∧ m = 0) → (v'.ownBlock = v.ownBlock ∨ v'.ownBlock = some w.heap.size) → K (a.put o.dst v') w') : o.wp P a w K Q := by
  obtain ⟨v', w', hr, h2, h3, h4, h5⟩ := run_append_own_at (P := P) w base t o.type e i z size bytes ht hi hz hsize hby hzs hsz v n xs hown ad m c news hl hnews h1 h63 hbytes hbase
  unfold Oper.wp execOp
  simp only [ho, resolve, invoke, builtin, Sem.run_bind, Sem.run_pure, Result.andThen_ok, List.map_toArray, List.map_cons, List.map_nil, hs, hx, hr]
  exact h v' w' h2 h3 h4 h5
theorem own_shape {w : World} {base n : Nat} {e : TypeId} {size : Nat} {v : Value} {xs : List Value} (h : w.ownsRow base e size v n xs) : ∃ (p : Option Addr) (c : Nat), v = .slice p n c := by
  rcases h.2 with ⟨rfl, rfl⟩ | ⟨g, cap, cur, rfl, _⟩
  · exact ⟨none, 0, rfl⟩
  · exact ⟨some ⟨g, 0, none⟩, cap, rfl⟩
theorem own_blockE {w w' : World} {base n : Nat} {e : TypeId} {size : Nat} {v : Value} {xs : List Value} (h : w.ownsRow base e size v n xs) (hk : ∀ k, v.ownBlock = some k → k < w.heap.size → w'.heap[k]? = w.heap[k]?) : w'.ownsRow base e size v n xs := by
  rcases h with ⟨h0, ⟨h1, h2⟩ | ⟨g, cap, cur, rfl, hg, hh, hc⟩⟩
  · exact ⟨h0, .inl ⟨h1, h2⟩⟩
  · refine ⟨h0, .inr ⟨g, cap, cur, rfl, hg, ?_, hc⟩⟩
    rw [← hh]
    exact hk g rfl (by
      rcases Nat.lt_or_ge g w.heap.size with h | h
      · exact h
      · rw [Array.getElem?_eq_none h] at hh; cases hh)
theorem grown_cell {w w' : World} {row : Option Nat} (h : w.grownBy w' row) {a : Addr} {v : Value} (hc : w.cell? a = some v) (hn : row ≠ some a.block) : w'.cell? a = some v := by
  rw [← hc]
  exact World.cell?_of_block (w := w) (h.block a.block (World.block_lt_of_cell? w a hc) (fun e => hn e.symm))
theorem grown_frozen {w w' : World} {row : Option Nat} (h : w.grownBy w' row) {a : Addr} (hl : a.block < w.heap.size) (hn : row ≠ some a.block) : w'.frozen? a = w.frozen? a :=
  World.frozen?_of_block (w := w) (h.block a.block hl (fun e => hn e.symm))
theorem set_cell_far {w : World} {p a : Addr} {u v : Value} (hc : w.cell? a = some v) (h : p ≠ a) : (w.setCell p u).cell? a = some v := by
  rw [World.cell?_setCell_other _ _ _ _ h]; exact hc
/-- just blocks of a kind turn, and new ones come. -/
structure Only (T : Nat → Prop) (w w' : World) : Prop where
  os : w'.os = w.os
  tape : w'.tape = w.tape
  output : w'.output = w.output
  size : w.heap.size ≤ w'.heap.size
  block : ∀ k, k < w.heap.size → ¬ T k → w'.heap[k]? = w.heap[k]?
theorem Only.refl (T : Nat → Prop) (w : World) : Only T w w := ⟨rfl, rfl, rfl, Nat.le_refl _, fun _ _ _ => rfl⟩
theorem Only.trans {T : Nat → Prop} {a b c : World} (h : Only T a b) (k : Only T b c) : Only T a c :=
  ⟨k.os.trans h.os, k.tape.trans h.tape, k.output.trans h.output, Nat.le_trans h.size k.size, fun i hi hn => (k.block i (Nat.lt_of_lt_of_le hi h.size) hn).trans (h.block i hi hn)⟩
theorem Only.mono {T T' : Nat → Prop} {w w' : World} (h : Only T w w') (hT : ∀ k, k < w.heap.size → T k → T' k) : Only T' w w' := ⟨h.os, h.tape, h.output, h.size, fun k hk hn => h.block k hk (fun ht => hn (hT k hk ht))⟩
theorem Only.of_below {T : Nat → Prop} {w w' : World} (h : Below w.heap.size w w') : Only T w w' := ⟨h.os, h.tape, h.output, h.size, fun k hk _ => h.block k hk⟩
theorem Only.below {T : Nat → Prop} {B : Nat} {w w' : World} (h : Only T w w') (hT : ∀ k, T k → B ≤ k) (hB : B ≤ w.heap.size) : Below B w w' := ⟨h.os, h.tape, h.output, h.size, fun k hk => h.block k (Nat.lt_of_lt_of_le hk hB) (fun ht => by have := hT k ht; omega)⟩
theorem Only.of_grown {w w' : World} {row : Option Nat} (h : w.grownBy w' row) : Only (fun k => row = some k) w w' := ⟨h.os, h.tape, h.output, h.size, fun k hk hn => h.block k hk (fun e => hn e.symm)⟩
theorem Only.of_setCell (w : World) (a : Addr) (u : Value) : Only (fun k => k = a.block) w (w.setCell a u) := by
  refine ⟨rfl, rfl, rfl, by simp, fun k hk hn => Below.heap_setCell w a u k hn⟩
theorem Only.cell {T : Nat → Prop} {w w' : World} (h : Only T w w') {a : Addr} {v : Value} (hc : w.cell? a = some v) (hn : ¬ T a.block) : w'.cell? a = some v := by
  rw [← hc]
  exact World.cell?_of_block (w := w) (h.block a.block (World.block_lt_of_cell? w a hc) hn)
theorem Only.frozen {T : Nat → Prop} {w w' : World} (h : Only T w w') {a : Addr} (hl : a.block < w.heap.size) (hn : ¬ T a.block) : w'.frozen? a = w.frozen? a :=
  World.frozen?_of_block (w := w) (h.block a.block hl hn)
theorem own_block {w w' : World} {base n : Nat} {e : TypeId} {size : Nat} {v : Value} {xs : List Value} (h : w.ownsRow base e size v n xs) (hk : ∀ k, v.ownBlock = some k → k < w.heap.size → w'.heap[k]? = w.heap[k]?) : w'.ownsRow base e size v n xs := by
  rcases h with ⟨h0, ⟨h1, h2⟩ | ⟨g, cap, cur, rfl, hg, hh, hc⟩⟩
  · exact ⟨h0, .inl ⟨h1, h2⟩⟩
  · refine ⟨h0, .inr ⟨g, cap, cur, rfl, hg, ?_, hc⟩⟩
    rw [← hh]
    exact hk g rfl (by
      rcases Nat.lt_or_ge g w.heap.size with h | h
      · exact h
      · rw [Array.getElem?_eq_none h] at hh; cases hh)
theorem own_only {T : Nat → Prop} {w w' : World} {base n : Nat} {e : TypeId} {size : Nat} {v : Value} {xs : List Value} (h : w.ownsRow base e size v n xs) (ho : Only T w w') (hn : ∀ k, v.ownBlock = some k → ¬ T k) : w'.ownsRow base e size v n xs :=
  own_block h (fun k hk hl => ho.block k hl (hn k hk))
theorem own_lt {w : World} {base n : Nat} {e : TypeId} {size : Nat} {v : Value} {xs : List Value} (h : w.ownsRow base e size v n xs) {k : Nat} (hk : v.ownBlock = some k) : base ≤ k ∧ k < w.heap.size := World.ownsRow.lt h k hk
theorem info_of {e : TypeId} {z : Value} {s b : Nat} (h : (Try.prog.info? e).map (fun i => (i.zero, i.size, i.bytes)) = some (some z, s, b)) : ∃ i0, Try.prog.info? e = some i0 ∧ i0.zero = some z ∧ i0.size = s ∧ i0.bytes = b := by
  obtain ⟨i, hi, hb⟩ := Option.map_eq_some_iff.1 h
  simp only [Prod.mk.injEq] at hb
  exact ⟨i, hi, hb.1, hb.2.1, hb.2.2⟩
/-- a cell of an own row is written. -/
theorem own_set {w : World} {base n c : Nat} {e : TypeId} {g : Nat} {xs : List Value} (h : w.ownsRow base e 1 (.slice (some ⟨g, 0, none⟩) n c) n xs) (i : Nat) (u : Value) : (w.setCell ⟨g, i, none⟩ u).ownsRow base e 1 (.slice (some ⟨g, 0, none⟩) n c) n (xs.set i u) := by
  obtain ⟨h0, ⟨h1, _⟩ | ⟨g', cap, cur, hv, hg, hh, hn, hm, hs, ht⟩⟩ := h
  · cases h1
  · cases hv
    refine ⟨by rw [List.length_set]; exact h0, .inr ⟨g, c, cur.setIfInBounds i u, rfl, hg, ?_, hn, hm, by rw [Array.size_setIfInBounds]; exact hs, ?_⟩⟩
    · unfold World.setCell
      simp only [Option.isSome_none, Bool.false_eq_true, if_false]
      rw [Array.getElem?_modify, if_pos rfl, hh]
      rfl
    · rw [← ht, Array.toList_setIfInBounds, List.take_set]
theorem own_cut {w : World} {base n k c : Nat} {e : TypeId} {g : Nat} {xs : List Value} (h : w.ownsRow base e 1 (.slice (some ⟨g, 0, none⟩) n c) n xs) (hk : k ≤ n) : w.ownsRow base e 1 (.slice (some ⟨g, 0, none⟩) k c) k (xs.take k) := by
  obtain ⟨h0, ⟨h1, _⟩ | ⟨g', cap, cur, hv, hg, hh, hn, hm, hs, ht⟩⟩ := h
  · cases h1
  · cases hv
    refine ⟨by rw [List.length_take]; omega, .inr ⟨g, c, cur, rfl, hg, hh, by omega, hm, hs, ?_⟩⟩
    rw [← ht, List.take_take]
    congr 1
    omega
theorem own_cell {w : World} {base n c : Nat} {e : TypeId} {g : Nat} {xs : List Value} (h : w.ownsRow base e 1 (.slice (some ⟨g, 0, none⟩) n c) n xs) (i : Nat) (u : Value) (hu : xs[i]? = some u) : w.cell? ⟨g, i, none⟩ = some u ∧ w.frozen? ⟨g, i, none⟩ = false := by
  obtain ⟨h0, ⟨h1, _⟩ | ⟨g', cap, cur, hv, hg, hh, hn, hm, hs, ht⟩⟩ := h
  · cases h1
  · cases hv
    have hlt := (List.getElem?_eq_some_iff.1 hu).1
    rw [← ht, List.getElem?_take_of_lt (by omega)] at hu
    have e' : cur[i]? = some u := by simpa using hu
    exact ⟨by simp [World.cell?, hh, e'], by simp [World.frozen?, hh]⟩
theorem Only.comp {T T1 T2 : Nat → Prop} {x y z : World} (h : Only T1 x y) (k : Only T2 y z) (h1 : ∀ k, k < x.heap.size → T1 k → T k) (h2 : ∀ k, k < x.heap.size → T2 k → T k) : Only T x z :=
  ⟨k.os.trans h.os, k.tape.trans h.tape, k.output.trans h.output, Nat.le_trans h.size k.size, fun i hi hn => (k.block i (Nat.lt_of_lt_of_le hi h.size) (fun ht => hn (h2 i hi ht))).trans (h.block i hi (fun ht => hn (h1 i hi ht)))⟩

theorem own_some {w : World} {base n : Nat} {e : TypeId} {size : Nat} {v : Value} {xs : List Value} (h : w.ownsRow base e size v n xs) (hn : 0 < n) : ∃ (g c : Nat), v = .slice (some ⟨g, 0, none⟩) n c := by
  rcases h.2 with ⟨rfl, rfl⟩ | ⟨g, cap, cur, rfl, hg, _⟩
  · omega
  · exact ⟨g, cap, rfl⟩
/-- an element is told by itself. -/
def heldR (v : Value) : Option (DataW Value × List MemPlace) := some (.held v, [])
structure FMap (W : World) (kt : TypeId) (m : Nat) (f : Lit → Option Value) (n : Nat) : Prop where
  has : ∃ D, W.ownsMap Try.prog kt heldR m n D ∧ Maps.size D = n ∧ Tidy D ∧ (∀ kl, KeysOf Try.prog kt kl → Maps.has D kl = (f kl).isSome) ∧ ∀ kl v, KeysOf Try.prog kt kl → f kl = some v → ∀ z, D.atKey kl z = .held v
theorem ownsMap_tight {P : Program} {w : World} {k : TypeId} {b n : Nat} {D : DataW Value} (h : w.ownsMap P k heldR b n D) : w.ownsMap P k heldR b (Maps.size D) D := by
  obtain ⟨es, cl, h1, h2, h3, rfl⟩ := h
  exact ⟨es, cl, h1, h2, by show es.size ≤ Maps.size _; rw [Maps.size_eq, length_sorted]; simp, rfl⟩
theorem ownsMap_only {P : Program} {w w' : World} {k : TypeId} {b n : Nat} {D : DataW Value} {T : Nat → Prop} (h : w.ownsMap P k heldR b n D) (ho : Only T w w') (hn : ¬ T b) : w'.ownsMap P k heldR b n D := by
  obtain ⟨es, cl, h1, h2⟩ := h
  refine ⟨es, cl, ?_, h2⟩
  rw [← h1]
  exact ho.block b (by
    rcases Nat.lt_or_ge b w.heap.size with h | h
    · exact h
    · rw [Array.getElem?_eq_none h] at h1; cases h1) hn
section
variable {W : World} {kt : TypeId} {m : Nat} {f : Lit → Option Value} {n : Nat}
theorem FMap.only {W' : World} {T : Nat → Prop} (h : FMap W kt m f n) (ho : Only T W W') (hn : ¬ T m) : FMap W' kt m f n := by
  obtain ⟨D, h1, h2⟩ := h.has
  exact ⟨D, ownsMap_only h1 ho hn, h2⟩
theorem FMap.lt (h : FMap W kt m f n) : m < W.heap.size := by obtain ⟨D, h1, _⟩ := h.has; exact h1.lt
theorem FMap.later {W' : World} (h : FMap W kt m f n) (hb : Below W.heap.size W W') : FMap W' kt m f n := h.only (Only.of_below (T := fun _ => False) hb) (fun h => h)
theorem FMap.made (w : World) (kt : TypeId) : FMap (w.alloc (.map #[] 0)) kt w.heap.size (fun _ => none) 0 :=
  ⟨.map [], World.ownsMap_made w Try.prog kt heldR, rfl, tidy_empty, fun _ _ => rfl, fun _ _ _ h => by cases h⟩
theorem FMap.look_ok {t e : TypeId} (h : FMap W kt m f n) (K : Keyed Try.prog kt) (ht : Try.prog.underlying t = some (.map kt e)) {z : Value} (hz : (zeroValue e).run Try.prog W = .ok z W) {key : Value} {kl : Lit} (hkey : keyOf Try.prog kt key = some kl) :
    (Instr.lookup t (.map (some m)) key true).run Try.prog W = .ok (.tuple #[(f kl).getD z, .bool (f kl).isSome]) W := by
  obtain ⟨D, h1, _, _, h4, h5⟩ := h.has
  obtain ⟨v, ps, hr, hv⟩ := h1.look_ok K ht hz (show heldR z = some (.held z, []) from rfl) hkey
  rw [hr, h4 kl ⟨_, hkey⟩]
  have hv2 : (DataW.held v, ([] : List MemPlace)) = (D.atKey kl (.held z), ps) := Option.some.inj hv
  have e1 : DataW.held v = D.atKey kl (.held z) := congrArg Prod.fst hv2
  cases hf : f kl with
  | none =>
    have hn : Maps.has D kl = false := by rw [h4 kl ⟨_, hkey⟩, hf]; rfl
    rw [atKey_of_not_has hn] at e1
    cases e1
    rfl
  | some u =>
    rw [h5 kl u ⟨_, hkey⟩ hf] at e1
    cases e1
    rfl
theorem FMap.look {t e : TypeId} (h : FMap W kt m f n) (K : Keyed Try.prog kt) (ht : Try.prog.underlying t = some (.map kt e)) {z : Value} (hz : (zeroValue e).run Try.prog W = .ok z W) {key : Value} {kl : Lit} (hkey : keyOf Try.prog kt key = some kl) :
    (Instr.lookup t (.map (some m)) key false).run Try.prog W = .ok ((f kl).getD z) W := by
  obtain ⟨D, h1, _, _, h4, h5⟩ := h.has
  obtain ⟨v, ps, hr, hv⟩ := h1.lookup K ht hz (show heldR z = some (.held z, []) from rfl) hkey
  rw [hr]
  have hv2 : (DataW.held v, ([] : List MemPlace)) = (D.atKey kl (.held z), ps) := Option.some.inj hv
  have e1 : DataW.held v = D.atKey kl (.held z) := congrArg Prod.fst hv2
  cases hf : f kl with
  | none =>
    have hn : Maps.has D kl = false := by rw [h4 kl ⟨_, hkey⟩, hf]; rfl
    rw [atKey_of_not_has hn] at e1
    cases e1
    rfl
  | some u =>
    rw [h5 kl u ⟨_, hkey⟩ hf] at e1
    cases e1
    rfl
theorem FMap.len {t e : TypeId} (h : FMap W kt m f n) (ht : Try.prog.underlying t = some (.map kt e)) (ty : TypeId) : (Builtin.len_ #[t] ty #[.map (some m)]).run Try.prog W = .ok (.int .i64 (n : Int)) W := by
  obtain ⟨D, h1, h2, _⟩ := h.has
  rw [h1.len ht ty, h2]
open Classical in
/-- a key's value, from now on. -/
noncomputable
def updF (f : Lit → Option Value) (kl : Lit) (v : Option Value) : Lit → Option Value := fun k => @ite _ (k = kl) (Classical.propDecidable _) v (f k)
theorem FMap.put {t e : TypeId} (h : FMap W kt m f n) (K : Keyed Try.prog kt) (ht : Try.prog.underlying t = some (.map kt e)) (hn : n < maxLen) {key : Value} {kl : Lit} (hkey : keyOf Try.prog kt key = some kl) (v : Value) :
    ∃ w', (Instr.mapUpdate t (.map (some m)) key v).run Try.prog W = .ok () w' ∧ FMap w' kt m (updF f kl (some v)) (if (f kl).isSome then n else n + 1) ∧ W.grownBy w' (some m) := by
  obtain ⟨D, h1, h2, h3, h4, h5⟩ := h.has
  obtain ⟨w', hr, ho, hg⟩ := h1.update K ht hn hkey (show heldR v = some (.held v, []) from rfl)
  refine ⟨w', hr, ⟨D.put kl (.held v), ?_, ?_, ?_, ?_, ?_⟩, hg⟩
  · have := ownsMap_tight ho
    rw [size_put h3, h2, h4 kl ⟨_, hkey⟩] at this
    exact this
  · rw [size_put h3, h2, h4 kl ⟨_, hkey⟩]
  · exact h3.put (K.key hkey) _
  · intro k hk
    unfold updF
    by_cases e : k = kl
    · subst e; rw [if_pos rfl, has_put_same h3.isMap (K.key hkey)]; rfl
    · rw [if_neg e, has_put_other e]; exact h4 k hk
  · intro k u hk hu z
    unfold updF at hu
    by_cases e : k = kl
    · subst e
      rw [if_pos rfl] at hu
      cases hu
      exact atKey_put_same h3.isMap (K.key hkey) _ z
    · rw [if_neg e] at hu
      rw [atKey_put_other e]
      exact h5 k u hk hu z
theorem FMap.del {t e : TypeId} (h : FMap W kt m f n) (K : Keyed Try.prog kt) (ht : Try.prog.underlying t = some (.map kt e)) {key : Value} {kl : Lit} (hkey : keyOf Try.prog kt key = some kl) (ty : TypeId) :
    ∃ w', (Builtin.delete_ #[t, kt] ty #[.map (some m), key]).run Try.prog W = .ok (.tuple #[]) w' ∧ FMap w' kt m (updF f kl none) (if (f kl).isSome then n - 1 else n) ∧ W.grownBy w' (some m) := by
  obtain ⟨D, h1, h2, h3, h4, h5⟩ := h.has
  obtain ⟨w', hr, ho, hg⟩ := h1.drop K ht hkey ty
  have hs := size_del (k := kl) h3
  rw [h4 kl ⟨_, hkey⟩, h2] at hs
  have hs2 : Maps.size (D.del kl) = if (f kl).isSome then n - 1 else n := by
    cases hf : (f kl).isSome <;> rw [hf] at hs <;> simp at hs ⊢ <;> omega
  refine ⟨w', hr, ⟨D.del kl, ?_, hs2, h3.del kl, ?_, ?_⟩, hg.grown⟩
  · have := ownsMap_tight ho
    rw [hs2] at this
    exact this
  · intro k hk
    unfold updF
    by_cases e : k = kl
    · subst e; rw [if_pos rfl, has_del_same]; rfl
    · rw [if_neg e, has_del_other e]; exact h4 k hk
  · intro k u hk hu z
    unfold updF at hu
    by_cases e : k = kl
    · rw [if_pos e] at hu; cases hu
    · rw [if_neg e] at hu
      rw [atKey_del_other e]
      exact h5 k u hk hu z
end
section
variable {w : World} {ops : Array Oper} {rest : List Oper} {o : Oper} {a : Act} {Q : Exit → Act → World → Prop}
theorem wp_op_run {K : Act → World → Prop} {t : TypeId} {m x : Operand} {ok : Bool} (hop : o.op = Op.lookup t m x ok) {mv key u : Value} (hm : a.eval m = mv) (hx : a.eval x = key) (hr : (Instr.lookup t mv key ok).run Try.prog w = .ok u w) (h : K (a.put o.dst u) w) : o.wp Try.prog a w K Q := by
  unfold Oper.wp
  simp [execOp, hop, hm, hx, hr, Result.andThen]
  exact h
theorem wpList_look_run (hg : o.guard = none) (m x : Operand) (t : TypeId) (ok : Bool) (hop : o.op = Op.lookup t m x ok) (mv key u : Value) (hm : a.eval m = mv) (hx : a.eval x = key) (hr : (Instr.lookup t mv key ok).run Try.prog w = .ok u w)
    (h : wpList Try.prog ops Q rest (a.put o.dst u) w) : wpList Try.prog ops Q (o :: rest) a w :=
  wpList_plain hg fun _ hK => wp_op_run hop hm hx hr (hK _ _ h)
theorem wp_upd_run {K : Act → World → Prop} {t : TypeId} {m x v : Operand} (hop : o.op = Op.mapUpdate t m x v) {mv key u : Value} {w' : World} (hm : a.eval m = mv) (hx : a.eval x = key) (hv : a.eval v = u) (hr : (Instr.mapUpdate t mv key u).run Try.prog w = .ok () w') (h : K (a.put o.dst undef) w') : o.wp Try.prog a w K Q := by
  unfold Oper.wp
  simp [execOp, hop, hm, hx, hv, hr, Result.andThen]
  exact h
theorem wpList_upd_run (hg : o.guard = none) (m x v : Operand) (t : TypeId) (hop : o.op = Op.mapUpdate t m x v) (mv key u : Value) (w' : World) (hm : a.eval m = mv) (hx : a.eval x = key) (hv : a.eval v = u) (hr : (Instr.mapUpdate t mv key u).run Try.prog w = .ok () w')
    (h : wpList Try.prog ops Q rest (a.put o.dst undef) w') : wpList Try.prog ops Q (o :: rest) a w :=
  wpList_plain hg fun _ hK => wp_upd_run hop hm hx hv hr (hK _ _ h)
end
end Go.Proofs.Ytiadnifbjdnflaa
