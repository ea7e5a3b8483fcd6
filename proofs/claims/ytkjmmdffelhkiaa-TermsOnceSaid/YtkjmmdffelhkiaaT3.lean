/- Stage 6: a store, plain. -/
import Derived.Test.YtkjmmdffelhkiaaT2
namespace Go.Proofs.Ytkjmmdffelhkiaa
open Go Go.RowKit Go.Maps

theorem strOfNums_inj {xs ys : List Int} (hx : ∀ x ∈ xs, 0 ≤ x ∧ x < 256) (hy : ∀ x ∈ ys, 0 ≤ x ∧ x < 256) (h : strOfNums xs = strOfNums ys) : xs = ys := by
  have h1 := congrArg (fun b : ByteArray => b.data.toList.map (fun u : UInt8 => (u.toNat : Int))) h
  simp only [strOfNums_data, List.map_map] at h1
  have e : ∀ zs : List Int, (∀ x ∈ zs, 0 ≤ x ∧ x < 256) → zs.map ((fun u : UInt8 => (u.toNat : Int)) ∘ fun n => UInt8.ofNat n.toNat) = zs := fun zs hz => by
    conv => rhs; rw [← List.map_id zs]
    refine List.map_congr_left (fun x hm => ?_)
    have := hz x hm
    simp only [Function.comp, id_eq, UInt8.toNat_ofNat']
    omega
  rw [e xs hx, e ys hy] at h1
  exact h1
theorem quad_bytes {x : Int} (h : 0 ≤ x ∧ x < 100000) : ∀ b ∈ quad x, 0 ≤ b ∧ b < 256 := by
  intro b hb
  simp only [quad, List.mem_cons, List.not_mem_nil, or_false] at hb
  omega
theorem quads_bytes {V : Nat → Int} : ∀ {n : Nat}, (∀ i, i < n → 0 ≤ V i ∧ V i < 100000) → ∀ b ∈ quads V n, 0 ≤ b ∧ b < 256
  | 0, _, b, hb => by cases hb
  | n + 1, h, b, hb => by
    rcases List.mem_append.1 hb with hb | hb
    · exact quads_bytes (fun i hi => h i (by omega)) b hb
    · exact quad_bytes (h n (by omega)) b hb
theorem quad_inj {x y : Int} (h : quad x = quad y) (hx : 0 ≤ x ∧ x < 100000) (hy : 0 ≤ y ∧ y < 100000) : x = y := by
  simp only [quad, List.cons.injEq, and_true] at h
  omega
theorem quads_inj {V U : Nat → Int} : ∀ {n : Nat}, (∀ i, i < n → 0 ≤ V i ∧ V i < 100000) → (∀ i, i < n → 0 ≤ U i ∧ U i < 100000) → quads V n = quads U n → ∀ i, i < n → V i = U i
  | 0, _, _, _, i, hi => absurd hi (Nat.not_lt_zero i)
  | n + 1, hV, hU, h, i, hi => by
    obtain ⟨h1, h2⟩ := List.append_inj h (by rw [quads_len, quads_len])
    by_cases e : i = n
    · subst e; exact quad_inj h2 (hV i (by omega)) (hU i (by omega))
    · exact quads_inj (fun i hi => hV i (by omega)) (fun i hi => hU i (by omega)) h1 i (by omega)
theorem quads_congr {V U : Nat → Int} : ∀ {n : Nat}, (∀ i, i < n → V i = U i) → quads V n = quads U n
  | 0, _ => rfl
  | n + 1, h => by
    show quads V n ++ quad (V n) = quads U n ++ quad (U n)
    rw [quads_congr (n := n) (fun i hi => h i (by omega)), h n (by omega)]
theorem textOf_inj {n m : Nat} {V U : Nat → Int} (hV : ∀ i, i < n → 0 ≤ V i ∧ V i < 100000) (hU : ∀ i, i < m → 0 ≤ U i ∧ U i < 100000) (h : textOf n V = textOf m U) : n = m ∧ ∀ i, i < n → V i = U i := by
  have h1 := strOfNums_inj (quads_bytes hV) (quads_bytes hU) h
  have h2 := congrArg List.length h1
  rw [quads_len, quads_len] at h2
  obtain rfl : n = m := by omega
  exact ⟨rfl, quads_inj hV hU h1⟩
theorem textOf_congr {n : Nat} {V U : Nat → Int} (h : ∀ i, i < n → V i = U i) : textOf n V = textOf n U := by unfold textOf; rw [quads_congr h]
theorem textOf_size (n : Nat) (V : Nat → Int) : (textOf n V).size = 4 * n := by unfold textOf; rw [strOfNums_size, quads_len]
/-- a node. -/
structure Nd where
  q : Int
  f : Int
  n : Int
  s : Int
  P : Option Addr
  L : Nat
  C : Nat
  V : Nat → Int
/-- a node that may be. -/
structure NdOk (x : Nd) (t : Nat) : Prop where
  q : 0 ≤ x.q ∧ x.q ≤ 255
  f : I64 x.f
  n : I64 x.n
  s : I64 x.s
  L : x.L ≤ 2000
  V : ∀ i, i < x.L → 0 ≤ x.V i ∧ x.V i < (t : Int)
  pl : x.q = 4 → 0 < x.L
  nb : x.q = 3 ∨ x.q = 4 → -4611686018427387903 ≤ x.n ∧ x.n ≤ 4611686018427387903
structure SameN (x y : Nd) : Prop where
  q : x.q = y.q
  f : x.f = y.f
  n : x.n = y.n
  s : x.s = y.s
  L : x.L = y.L
  V : ∀ i, i < x.L → x.V i = y.V i
structure Sto where
  nodes : List Nd
  f1 : Lit → Option Value
  n1 : Nat
  f2 : Lit → Option Value
  n2 : Nat
def Nd.text (x : Nd) : ByteArray := textOf x.L x.V
def Nd.key (x : Nd) (i : Nat) : Lit := keyN x.q x.f x.n x.s (i : Int)
theorem SameN.text {x y : Nd} (h : SameN x y) : x.text = y.text := by
  unfold Nd.text
  rw [← h.L]
  exact textOf_congr h.V
theorem SameN.key {x y : Nd} (h : SameN x y) (i : Nat) : x.key i = y.key i := by
  unfold Nd.key
  rw [h.q, h.f, h.n, h.s]
structure GoodS (S : Sto) : Prop where
  gn : ∀ t x, S.nodes[t]? = some x → NdOk x t
  g1 : ∀ t x, S.nodes[t]? = some x → ∃ i : Nat, S.f2 (keyS x.text) = some (nV i) ∧ S.f1 (x.key i) = some (nV t)
  g2 : ∀ (y : Nd) (m i : Nat) v, NdOk y m → i ≤ 20000 → S.f1 (y.key i) = some v → ∃ t x, v = nV t ∧ S.nodes[t]? = some x ∧ x.q = y.q ∧ x.f = y.f ∧ x.n = y.n ∧ x.s = y.s ∧ S.f2 (keyS x.text) = some (nV i)
  g3 : ∀ b v, S.f2 (keyS b) = some v → ∃ i : Nat, v = nV i ∧ i < S.n2
  g4 : ∀ b b' (i : Nat), S.f2 (keyS b) = some (nV i) → S.f2 (keyS b') = some (nV i) → b = b'
  b0 : S.nodes.length ≤ 20000
  b1 : S.n1 ≤ S.nodes.length
  b2 : S.n2 ≤ S.nodes.length
/-- the number of a text, in the store or next. -/
def NumOf (S : Sto) (x : Nd) (i : Nat) : Prop := S.f2 (keyS x.text) = some (nV i) ∨ (S.f2 (keyS x.text) = none ∧ i = S.n2)
theorem NumOf.le {S : Sto} (g : GoodS S) {x : Nd} {i : Nat} (h : NumOf S x i) : i ≤ S.n2 := by
  rcases h with h | ⟨_, h⟩
  · obtain ⟨j, e, hj⟩ := g.g3 _ _ h
    have := nV_inj e
    omega
  · omega
/-- what the keys' map tells is that node. -/
theorem GoodS.found {S : Sto} (g : GoodS S) {x : Nd} {m i : Nat} (hm : m ≤ 100000) (hx : NdOk x m) (hi : NumOf S x i) {v : Value} (h : S.f1 (x.key i) = some v) : ∃ t y, v = nV t ∧ S.nodes[t]? = some y ∧ SameN y x := by
  have hle := hi.le g
  have hb2 := g.b2
  have hb0 := g.b0
  obtain ⟨t, y, e, hy, e1, e2, e3, e4, h2⟩ := g.g2 x m i v hx (by omega) h
  have hyo := g.gn t y hy
  have ht := (List.getElem?_eq_some_iff.1 hy).1
  have ht2 : y.text = x.text := by
    rcases hi with hi | ⟨_, hi⟩
    · exact g.g4 _ _ _ h2 hi
    · obtain ⟨j, e, hj⟩ := g.g3 _ _ h2
      have := nV_inj e
      omega
  obtain ⟨e5, e6⟩ := textOf_inj (fun j hj => by have := hyo.V j hj; omega) (fun j hj => by have := hx.V j hj; omega) ht2
  exact ⟨t, y, e, hy, e1, e2, e3, e4, e5, e6⟩
theorem GoodS.missed {S : Sto} (g : GoodS S) {x : Nd} {i : Nat} (hi : NumOf S x i) (h : S.f1 (x.key i) = none) : ∀ (t : Nat) (y : Nd), S.nodes[t]? = some y → ¬ SameN y x := fun t y hy hs => by
  obtain ⟨j, h1, h2⟩ := g.g1 t y hy
  rw [hs.text] at h1
  rw [hs.key] at h2
  rcases hi with hi | ⟨hi, _⟩
  · rw [hi] at h1
    obtain rfl := nV_inj (Option.some.inj h1)
    rw [h] at h2; cases h2
  · rw [hi] at h1; cases h1
noncomputable
def addN (S : Sto) (x : Nd) (i : Nat) : Sto := ⟨S.nodes ++ [x], updF S.f1 (x.key i) (some (nV S.nodes.length)), if (S.f1 (x.key i)).isSome then S.n1 else S.n1 + 1, updF S.f2 (keyS x.text) (some (nV i)), if (S.f2 (keyS x.text)).isSome then S.n2 else S.n2 + 1⟩
theorem keyN_of {x y : Nd} {m t i j : Nat} (hx : NdOk x m) (hy : NdOk y t) (hi : i ≤ 20000) (hj : j ≤ 20000) (h : x.key i = y.key j) : x.q = y.q ∧ x.f = y.f ∧ x.n = y.n ∧ x.s = y.s ∧ i = j := by
  obtain ⟨a, b, c, d, e⟩ := keyN_inj hx.q hx.f hx.n hx.s (by unfold I64; omega) hy.q hy.f hy.n hy.s (by unfold I64; omega) h
  exact ⟨a, b, c, d, by omega⟩
theorem nodes_snoc {l : List Nd} {x y : Nd} {t : Nat} (h : (l ++ [x])[t]? = some y) : l[t]? = some y ∨ (t = l.length ∧ y = x) := by
  rw [List.getElem?_append] at h
  by_cases ht : t < l.length
  · rw [if_pos ht] at h; exact .inl h
  · rw [if_neg ht] at h
    have h0 : t - l.length = 0 := by
      have := (List.getElem?_eq_some_iff.1 h).1
      simp at this; omega
    rw [h0] at h
    simp at h
    exact .inr ⟨by omega, h.symm⟩
theorem GoodS.add {S : Sto} (g : GoodS S) {x : Nd} {i : Nat} (hx : NdOk x S.nodes.length) (hi : NumOf S x i) (h1 : S.f1 (x.key i) = none) (hn : S.nodes.length < 20000) : GoodS (addN S x i) := by
  have hle := hi.le g
  have hb2 := g.b2
  refine ⟨fun t y hy => ?_, fun t y hy => ?_, fun y m j v hy hj hv => ?_, fun b v hv => ?_, fun b b' j hb hb' => ?_, ?_, ?_, ?_⟩
  · rcases nodes_snoc hy with hy | ⟨rfl, rfl⟩
    · exact g.gn t y hy
    · exact hx
  · rcases nodes_snoc hy with hy | ⟨rfl, rfl⟩
    · obtain ⟨j, e1, e2⟩ := g.g1 t y hy
      refine ⟨j, ?_, ?_⟩
      · show updF _ _ _ _ = _
        unfold updF
        by_cases e : keyS y.text = keyS x.text
        · rw [if_pos e]
          rw [e] at e1
          rcases hi with hi | ⟨hi, _⟩
          · rw [← hi, e1]
          · rw [hi] at e1; cases e1
        · rw [if_neg e]; exact e1
      · show updF _ _ _ _ = _
        unfold updF
        rw [if_neg (fun e => by rw [e, h1] at e2; cases e2)]
        exact e2
    · refine ⟨i, ?_, ?_⟩
      · show updF _ _ _ _ = _
        unfold updF; rw [if_pos rfl]
      · show updF _ _ _ _ = _
        unfold updF; rw [if_pos rfl]
  · have hv : updF _ _ _ _ = _ := hv
    unfold updF at hv
    by_cases e : y.key j = x.key i
    · rw [if_pos e] at hv
      have hv := Option.some.inj hv
      obtain ⟨a, b, c, d, hji⟩ := keyN_of hy hx hj (by omega) e
      rw [← hv, hji]
      refine ⟨S.nodes.length, x, rfl, ?_, a.symm, b.symm, c.symm, d.symm, ?_⟩
      · show (S.nodes ++ [x])[S.nodes.length]? = _
        simp
      · show updF _ _ _ _ = _
        unfold updF; rw [if_pos rfl]
    · rw [if_neg e] at hv
      obtain ⟨t, z, e0, hz, a, b, c, d, h2⟩ := g.g2 y m j v hy hj hv
      refine ⟨t, z, e0, ?_, a, b, c, d, ?_⟩
      · show (S.nodes ++ [x])[t]? = _
        rw [List.getElem?_append_left (List.getElem?_eq_some_iff.1 hz).1]; exact hz
      · show updF _ _ _ _ = _
        unfold updF
        by_cases e3 : keyS z.text = keyS x.text
        · rw [if_pos e3]
          rw [e3] at h2
          rcases hi with hi | ⟨hi, _⟩
          · rw [← hi, h2]
          · rw [hi] at h2; cases h2
        · rw [if_neg e3]; exact h2
  · have hv : updF _ _ _ _ = _ := hv
    unfold updF at hv
    show ∃ k : Nat, v = nV k ∧ k < (if (S.f2 (keyS x.text)).isSome then S.n2 else S.n2 + 1)
    by_cases e : keyS b = keyS x.text
    · rw [if_pos e] at hv
      cases hv
      refine ⟨i, rfl, ?_⟩
      rcases hi with hi | ⟨hi, rfl⟩
      · rw [hi]
        obtain ⟨j, e2, hj⟩ := g.g3 _ _ hi
        have := nV_inj e2
        simp; omega
      · rw [hi]; simp
    · rw [if_neg e] at hv
      obtain ⟨j, e2, hj⟩ := g.g3 _ _ hv
      refine ⟨j, e2, ?_⟩
      split <;> omega
  · have hb : updF _ _ _ _ = _ := hb
    have hb' : updF _ _ _ _ = _ := hb'
    unfold updF at hb hb'
    have other : ∀ b', S.f2 (keyS b') = some (nV i) → b' = x.text := fun b' h => by
      rcases hi with hi | ⟨_, hi⟩
      · exact g.g4 _ _ _ h hi
      · obtain ⟨k, e, hk⟩ := g.g3 _ _ h
        have := nV_inj e
        omega
    by_cases e : keyS b = keyS x.text
    · rw [if_pos e] at hb
      obtain rfl := nV_inj (Option.some.inj hb)
      by_cases e' : keyS b' = keyS x.text
      · exact keyS_inj (e.trans e'.symm)
      · rw [if_neg e'] at hb'
        rw [other b' hb']; exact keyS_inj e
    · rw [if_neg e] at hb
      by_cases e' : keyS b' = keyS x.text
      · rw [if_pos e'] at hb'
        obtain rfl := nV_inj (Option.some.inj hb')
        rw [other b hb]; exact (keyS_inj e').symm
      · rw [if_neg e'] at hb'
        exact g.g4 _ _ _ hb hb'
  · show (S.nodes ++ [x]).length ≤ _
    rw [List.length_append]; simp; omega
  · show (if (S.f1 (x.key i)).isSome then S.n1 else S.n1 + 1) ≤ (S.nodes ++ [x]).length
    have := g.b1
    rw [h1, List.length_append]; simp; omega
  · show (if (S.f2 (keyS x.text)).isSome then S.n2 else S.n2 + 1) ≤ (S.nodes ++ [x]).length
    rw [List.length_append]
    split <;> simp <;> omega
end Go.Proofs.Ytkjmmdffelhkiaa
