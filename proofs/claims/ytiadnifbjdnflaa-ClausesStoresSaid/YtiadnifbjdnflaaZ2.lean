/- The store of clauses in memory; plain words on its keys. -/
import Derived.Test.YtiadnifbjdnflaaZ1
namespace Go.Proofs.Ytiadnifbjdnflaa
open Go Go.RowKit Go.Maps

def fnL (c : List Int) : Nat → Int := fun i => c.getD i 0
theorem quad_inj {x y : Int} (hx : -1048576 ≤ x ∧ x ≤ 1048576) (hy : -1048576 ≤ y ∧ y ≤ 1048576) (h : quad x = quad y) : x = y := by
  simp only [quad, List.cons.injEq, and_true] at h
  omega
theorem quads_inj {V U : Nat → Int} : ∀ (n m : Nat), (∀ i, i < n → -1048576 ≤ V i ∧ V i ≤ 1048576) → (∀ i, i < m → -1048576 ≤ U i ∧ U i ≤ 1048576) → quads V n = quads U m → n = m ∧ ∀ i, i < n → V i = U i
  | 0, 0, _, _, _ => ⟨rfl, fun i hi => by omega⟩
  | 0, m + 1, _, _, h => by have := congrArg List.length h; rw [quads_len, quads_len] at this; omega
  | n + 1, 0, _, _, h => by have := congrArg List.length h; rw [quads_len, quads_len] at this; omega
  | n + 1, m + 1, hV, hU, h => by
    have hl := congrArg List.length h
    rw [quads_len, quads_len] at hl
    have h' : quads V n ++ quad (V n) = quads U m ++ quad (U m) := h
    obtain ⟨h1, h2⟩ := List.append_inj h' (by rw [quads_len, quads_len]; omega)
    obtain ⟨e, h3⟩ := quads_inj n m (fun i hi => hV i (by omega)) (fun i hi => hU i (by omega)) h1
    subst e
    refine ⟨rfl, fun i hi => ?_⟩
    by_cases hin : i < n
    · exact h3 i hin
    · obtain rfl : i = n := by omega
      exact quad_inj (hV _ (by omega)) (hU _ (by omega)) h2
theorem quad_byte {x y : Int} (h : y ∈ quad x) : 0 ≤ y ∧ y < 256 := by
  simp only [quad, List.mem_cons, List.not_mem_nil, or_false] at h
  omega
theorem quads_byte {V : Nat → Int} : ∀ n, ∀ y ∈ quads V n, 0 ≤ y ∧ y < 256
  | 0, y, h => by simp [quads] at h
  | n + 1, y, h => by
    rcases List.mem_append.1 h with h | h
    · exact quads_byte n y h
    · exact quad_byte h
/-- a tag for each block: a row's own block t, what its elements lead to t + 1. -/
def Rows (W : World) (K : Nat → Nat) (t : Nat) (v : Value) (cl : List (List Int)) : Prop :=
  ∃ xs, W.ownsRow 0 22 1 v cl.length xs ∧ (∀ k, v.ownBlock = some k → K k = t) ∧ ∀ i (h : i < cl.length), ∃ (p : Option Addr) (z : Nat), xs[i]? = some (.slice p (cl[i]).length z) ∧ LitsIn W p (cl[i]).length (fnL cl[i]) ∧ (∀ ad, p = some ad → K ad.block = t + 1) ∧ (p = none → (cl[i]).length = 0 ∧ z = 0)
theorem LitsIn.only' {W W' : World} {p : Option Addr} {n : Nat} {V : Nat → Int} {T : Nat → Prop} (h : LitsIn W p n V) (ho : Only T W W') (hT : ∀ ad, p = some ad → ¬ T ad.block) : LitsIn W' p n V := fun hn => by
  obtain ⟨b, off, e, ha⟩ := h hn
  exact ⟨b, off, e, fun i hi => ho.cell (ha i hi) (hT ⟨b, off, none⟩ e)⟩
theorem Rows.nil (W : World) (K : Nat → Nat) (t : Nat) : Rows W K t (.slice none 0 0) [] :=
  ⟨[], ⟨rfl, .inl ⟨rfl, rfl⟩⟩, ⟨fun k h => (by cases h), fun i h => absurd h (Nat.not_lt_zero _)⟩⟩
section
variable {W W' W1 : World} {K K' : Nat → Nat} {t : Nat} {v v' : Value} {cl : List (List Int)} {T : Nat → Prop}
theorem Rows.only (h : Rows W K t v cl) (ho : Only T W W') (hT : ∀ b, K b = t ∨ K b = t + 1 → ¬ T b) (hK : ∀ b, K b ≠ 0 → K' b = K b) (ht : t ≠ 0) : Rows W' K' t v cl := by
  obtain ⟨xs, h1, h2, h3⟩ := h
  refine ⟨xs, own_only h1 ho (fun k hk => hT k (.inl (h2 k hk))), fun k hk => by rw [hK k (by rw [h2 k hk]; exact ht)]; exact h2 k hk, fun i hi => ?_⟩
  obtain ⟨p, z, e, hl, hp, hn⟩ := h3 i hi
  refine ⟨p, z, e, hl.only' ho (fun ad e2 => hT _ (.inr (hp ad e2))), fun ad e2 => ?_, hn⟩
  rw [hK _ (by rw [hp ad e2]; omega)]
  exact hp ad e2
theorem Rows.shape (h : Rows W K t v cl) : ∃ (p : Option Addr) (z : Nat), v = .slice p cl.length z := by
  obtain ⟨xs, h1, _⟩ := h
  exact own_shape h1
open Classical in
/-- one row more: its own block, and what it leads to, are marked. -/
theorem Rows.push {c : List Int} {p : Option Addr} {z : Nat} {xs : List Value} (ht : t ≠ 0) (_h1 : W.ownsRow 0 22 1 v cl.length xs) (h2 : ∀ k, v.ownBlock = some k → K k = t) (h3 : ∀ i (h : i < cl.length), ∃ (p : Option Addr) (z : Nat), xs[i]? = some (.slice p (cl[i]).length z) ∧ LitsIn W p (cl[i]).length (fnL cl[i]) ∧ (∀ ad, p = some ad → K ad.block = t + 1) ∧ (p = none → (cl[i]).length = 0 ∧ z = 0))
    (hx : xs.length = cl.length) (hp : LitsIn W p c.length (fnL c)) (hf : ∀ ad, p = some ad → K ad.block = 0 ∧ ad.block < W.heap.size) (hn : p = none → c.length = 0 ∧ z = 0) (fr : ∀ k, W.heap.size ≤ k → K k = 0)
    (own : W1.ownsRow 0 22 1 v' (cl.length + 1) (xs ++ [.slice p c.length z])) (hg : W.grownBy W1 v.ownBlock) (hloc : v'.ownBlock = v.ownBlock ∨ v'.ownBlock = some W.heap.size) :
    ∃ K', Rows W1 K' t v' (cl ++ [c]) ∧ (∀ b, K b ≠ 0 → K' b = K b) ∧ (∀ b, K b = 0 → K' b = 0 ∨ (K' b = t ∧ W.heap.size ≤ b) ∨ (K' b = t + 1 ∧ ∃ ad, p = some ad ∧ ad.block = b)) ∧ (∀ k, W1.heap.size ≤ k → K' k = 0) ∧ Only (fun b => K b = t) W W1 := by
  have ho : Only (fun b => K b = t) W W1 := (Only.of_grown hg).mono (fun k _ e => h2 k e)
  have hsz := hg.size
  refine ⟨fun b => if K b ≠ 0 then K b else if v'.ownBlock = some b then t else if (∃ ad, p = some ad ∧ ad.block = b) then t + 1 else 0, ⟨xs ++ [.slice p c.length z], by rw [List.length_append]; exact own, fun k hk => ?_, fun i hi => ?_⟩, fun b hb => if_pos hb, fun b hb => ?_, fun k hk => ?_, ho⟩
  · show (if K k ≠ 0 then K k else _) = t
    rcases hloc with e | e
    · rw [e] at hk
      rw [if_pos (by rw [h2 k hk]; exact ht)]
      exact h2 k hk
    · have hk' := hk
      rw [e] at hk'
      cases hk'
      rw [if_neg (by rw [fr _ (Nat.le_refl _)]; simp), if_pos hk]
  · by_cases hlt : i < cl.length
    · obtain ⟨q, y, e, hl, hq, hy⟩ := h3 i hlt
      have e2 : (cl ++ [c])[i] = cl[i] := List.getElem_append_left hlt
      rw [e2]
      refine ⟨q, y, by rw [List.getElem?_append_left (by omega)]; exact e, hl.only' ho (fun ad ea => by rw [hq ad ea]; omega), fun ad ea => ?_, hy⟩
      show (if K ad.block ≠ 0 then K ad.block else _) = t + 1
      rw [if_pos (by rw [hq ad ea]; omega)]
      exact hq ad ea
    · have hi2 : i < cl.length + 1 := by simpa using hi
      obtain rfl : i = cl.length := by omega
      have e2 : (cl ++ [c])[cl.length]'hi = c := by simp
      rw [e2]
      refine ⟨p, z, by rw [← hx]; simp, hp.only' ho (fun ad ea => by rw [(hf ad ea).1]; exact fun e => ht e.symm), fun ad ea => ?_, hn⟩
      show (if K ad.block ≠ 0 then K ad.block else if v'.ownBlock = some ad.block then t else if _ then t + 1 else 0) = t + 1
      rw [if_neg (by rw [(hf ad ea).1]; simp), if_neg, if_pos ⟨ad, ea, rfl⟩]
      intro e
      rcases hloc with e3 | e3
      · rw [e3] at e
        have := h2 _ e
        rw [(hf ad ea).1] at this
        exact ht this.symm
      · rw [e3] at e
        have := (hf ad ea).2
        injection e with e
        omega
  · by_cases h4 : v'.ownBlock = some b
    · refine .inr (.inl ⟨?_, ?_⟩)
      · show (if K b ≠ 0 then K b else if v'.ownBlock = some b then t else _) = t
        rw [if_neg (by rw [hb]; simp), if_pos h4]
      · rcases hloc with e | e
        · rw [e] at h4
          have := h2 _ h4
          rw [hb] at this
          exact absurd this.symm ht
        · rw [e] at h4
          injection h4 with h4
          omega
    · by_cases h5 : ∃ ad, p = some ad ∧ ad.block = b
      · refine .inr (.inr ⟨?_, h5⟩)
        show (if K b ≠ 0 then K b else if v'.ownBlock = some b then t else if _ then t + 1 else 0) = t + 1
        rw [if_neg (by rw [hb]; simp), if_neg h4, if_pos h5]
      · refine .inl ?_
        show (if K b ≠ 0 then K b else if v'.ownBlock = some b then t else if _ then t + 1 else 0) = 0
        rw [if_neg (by rw [hb]; simp), if_neg h4, if_neg h5]
  · have hk0 := fr k (by omega)
    show (if K k ≠ 0 then K k else if v'.ownBlock = some k then t else if _ then t + 1 else 0) = 0
    rw [if_neg (by rw [hk0]; simp), if_neg (fun e => by have := (World.ownsRow.lt own k e).2; omega), if_neg (by rintro ⟨ad, ea, rfl⟩; have := (hf ad ea).2; omega)]
end
def keyS (s : ByteArray) : Lit := .string s.data.toList
theorem K9 : Keyed Try.prog 9 := string_keyed Try.underlying9
theorem key9 (s : ByteArray) (h : s.size ≤ maxLen) : keyOf Try.prog 9 (.string s) = some (keyS s) := by simp [keyOf, mapKey, keyS, Try.underlying9, h]
/-- a clause's key. -/
noncomputable def keyI (c : List Int) : Lit := keyS (textOf c.length (fnL c))
/-- the first clause with a key. -/
noncomputable def idxOf : List (List Int) → Lit → Nat → Option Nat
  | [], _, _ => none
  | c :: l, kl, i => @ite _ (keyI c = kl) (Classical.propDecidable _) (some i) (idxOf l kl (i + 1))
theorem idxOf_app (c : List Int) (kl : Lit) : ∀ (l : List (List Int)) (i : Nat), idxOf (l ++ [c]) kl i = (match idxOf l kl i with | some k => some k | none => @ite _ (keyI c = kl) (Classical.propDecidable _) (some (i + l.length)) none)
  | [], i => by simp [idxOf]
  | d :: l, i => by
    simp only [List.cons_append, idxOf]
    split
    · rfl
    · rw [idxOf_app c kl l (i + 1), List.length_cons, show i + 1 + l.length = i + (l.length + 1) by omega]
structure StoC (W : World) (K : Nat → Nat) (O : Nat) (cl : List (List Int)) (top : Int) : Prop where
  fr : ∀ k, W.heap.size ≤ k → K k = 0
  ka : K O = 1
  ob : ∃ (v0 : Value) (m nm : Nat) (f : Lit → Option Value), W.cell? ⟨O, 0, none⟩ = some v0 ∧ W.cell? ⟨O, 1, none⟩ = some (.map (some m)) ∧ W.cell? ⟨O, 2, none⟩ = some (.int .i64 top) ∧ K m = 2 ∧ FMap W 9 m f nm ∧ nm ≤ cl.length ∧ (∀ kl, f kl = (idxOf cl kl 0).map fun i => Value.int .i64 (i : Int)) ∧ Rows W K 3 v0 cl
  fz : ∀ o, W.frozen? ⟨O, o, none⟩ = false
section
variable {W W' W1 : World} {K K' : Nat → Nat} {O : Nat} {cl : List (List Int)} {top : Int} {T : Nat → Prop}
theorem StoC.lt (h : StoC W K O cl top) : O < W.heap.size := by obtain ⟨_, _, _, _, h0, _⟩ := h.ob; exact World.block_lt_of_cell? W ⟨O, 0, none⟩ h0
theorem StoC.only (h : StoC W K O cl top) (ho : Only T W W') (hT : ∀ b, 1 ≤ K b ∧ K b ≤ 4 → ¬ T b) (hK : ∀ b, K b ≠ 0 → K' b = K b) (hf : ∀ k, W'.heap.size ≤ k → K' k = 0) : StoC W' K' O cl top := by
  obtain ⟨v0, m, nm, f, h0, h1, h2, h3, h4, h5, h6, h7⟩ := h.ob
  have nO : ¬ T O := hT O (by rw [h.ka]; omega)
  exact ⟨hf, by rw [hK O (by rw [h.ka]; omega)]; exact h.ka, ⟨v0, m, nm, f, ho.cell h0 nO, ho.cell h1 nO, ho.cell h2 nO, by rw [hK m (by rw [h3]; omega)]; exact h3, h4.only ho (hT m (by rw [h3]; omega)), h5, h6, h7.only ho (fun b hb => hT b (by omega)) hK (by omega)⟩, fun o => by rw [ho.frozen (a := ⟨O, o, none⟩) h.lt nO]; exact h.fz o⟩
theorem StoC.later (h : StoC W K O cl top) (hb : Below W.heap.size W W') : StoC W' K O cl top :=
  h.only (T := fun _ => False) (Only.of_below hb) (fun _ _ e => e) (fun _ _ => rfl) (fun k hk => h.fr k (by have := hb.size; omega))
end
end Go.Proofs.Ytiadnifbjdnflaa
