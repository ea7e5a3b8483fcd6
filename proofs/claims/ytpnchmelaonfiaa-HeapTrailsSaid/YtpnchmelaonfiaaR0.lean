/- HeapTrails: an append of a row that may be nil; levels and marks. -/
import Derived.Test.YtpnchmelaonfiaaB1
import Derived.Deep.Upon
namespace Go.Proofs.Ytpnchmelaonfiaa
open Go Go.RowKit

theorem run_append_row {P : Program} (w : World) (base : Nat) (t ty e : TypeId) (i : TypeInfo) (z : Value) (size bytes : Nat) (ht : P.underlying t = some (.slice e)) (hi : P.info? e = some i) (hz : i.zero = some z)
    (hsize : i.size = size) (hby : i.bytes = bytes) (hzs : z.cells.size = size) (hsz : 0 < size)
    (v : Value) (n : Nat) (xs : List Value) (hown : w.ownsRow base e size v n xs)
    (p : Option Addr) (m c : Nat) (news : List Value) (hp : p = none → m = 0) (hl : news.length = m * size) (hnews : ∀ ad, p = some ad → ∀ j u, news[j]? = some u → w.cell? (ad.add j) = some u) (h1 : ∀ u ∈ news, u.oneCell' = true)
    (h63 : n + m ≤ maxLen) (hbytes : (n + m) * bytes ≤ 140737488355328) (hbase : base ≤ w.heap.size) :
    ∃ v' w', (Builtin.append_ #[t, t] ty #[v, .slice p m c]).run P w = .ok v' w' ∧ w'.ownsRow base e size v' (n + m) (xs ++ news) ∧ w.grownBy w' v.ownBlock ∧ (v'.ownBlock = v.ownBlock ∨ v'.ownBlock = some w.heap.size) := by
  cases p with
  | some ad =>
    obtain ⟨v', w', h2, h3, h4, _, h5⟩ := run_append_own_at (P := P) w base t ty e i z size bytes ht hi hz hsize hby hzs hsz v n xs hown ad m c news hl (hnews ad rfl) h1 h63 hbytes hbase
    exact ⟨v', w', h2, h3, h4, h5⟩
  | none =>
    obtain rfl := hp rfl
    obtain rfl : news = [] := List.length_eq_zero_iff.1 (by omega)
    refine ⟨v, w, ?_, by simpa using hown, World.grownBy.refl _ _, .inl rfl⟩
    have hle : ∃ q k, v = .slice q n k ∧ n ≤ k := by
      rcases hown.2 with ⟨h2, h3⟩ | ⟨g, cap, cur, h2, _, _, h3, _⟩
      · exact ⟨none, 0, by rw [h2, h3], by omega⟩
      · exact ⟨_, _, h2, h3⟩
    obtain ⟨q, k, rfl, hk⟩ := hle
    exact run_append_nothing w t t ty e i ht hi q n k hk _ (Src.ofNil w ht c)
theorem wp_append_row {P : Program} {w : World} {o : Oper} {a : Act} {K : Act → World → Prop} {Q : Exit → Act → World → Prop} (s x : Operand) (t : TypeId)
    (ho : o.op = .call { callee := .builtin .append, args := #[s, x], argTypes := #[t, t] })
    (base : Nat) (e : TypeId) (i : TypeInfo) (z : Value) (size bytes : Nat) (ht : P.underlying t = some (.slice e)) (hi : P.info? e = some i) (hz : i.zero = some z)
    (hsize : i.size = size) (hby : i.bytes = bytes) (hzs : z.cells.size = size) (hsz : 0 < size)
    (v : Value) (n : Nat) (xs : List Value) (hs : a.eval s = v) (hown : w.ownsRow base e size v n xs)
    (p : Option Addr) (m c : Nat) (news : List Value) (hx : a.eval x = .slice p m c) (hp : p = none → m = 0) (hl : news.length = m * size) (hnews : ∀ ad, p = some ad → ∀ j u, news[j]? = some u → w.cell? (ad.add j) = some u) (h1 : ∀ u ∈ news, u.oneCell' = true)
    (h63 : n + m ≤ maxLen) (hbytes : (n + m) * bytes ≤ 140737488355328) (hbase : base ≤ w.heap.size)
    (h : ∀ v' w', w'.ownsRow base e size v' (n + m) (xs ++ news) → w.grownBy w' v.ownBlock → (v'.ownBlock = v.ownBlock ∨ v'.ownBlock = some w.heap.size) → K (a.put o.dst v') w') : o.wp P a w K Q := by
  obtain ⟨v', w', hr, h2, h3, h5⟩ := run_append_row (P := P) w base t o.type e i z size bytes ht hi hz hsize hby hzs hsz v n xs hown p m c news hp hl hnews h1 h63 hbytes hbase
  unfold Oper.wp execOp
  simp only [ho, resolve, invoke, builtin, Sem.run_bind, Sem.run_pure, Result.andThen_ok, List.map_toArray, List.map_cons, List.map_nil, hs, hx, hr]
  exact h v' w' h2 h3 h5
theorem wpList_append_row {P : Program} {w : World} {ops : Array Oper} {rest : List Oper} {o : Oper} {a : Act} {Q : Exit → Act → World → Prop} (hgd : o.guard = none) (s x : Operand) (t : TypeId)
    (ho : o.op = .call { callee := .builtin .append, args := #[s, x], argTypes := #[t, t] })
    (base : Nat) (e : TypeId) (i : TypeInfo) (z : Value) (size bytes : Nat) (ht : P.underlying t = some (.slice e)) (hi : P.info? e = some i) (hz : i.zero = some z)
    (hsize : i.size = size) (hby : i.bytes = bytes) (hzs : z.cells.size = size) (hsz : 0 < size)
    (v : Value) (n : Nat) (xs : List Value) (hs : a.eval s = v) (hown : w.ownsRow base e size v n xs)
    (p : Option Addr) (m c : Nat) (news : List Value) (hx : a.eval x = .slice p m c) (hp : p = none → m = 0) (hl : news.length = m * size) (hnews : ∀ ad, p = some ad → ∀ j u, news[j]? = some u → w.cell? (ad.add j) = some u) (h1 : ∀ u ∈ news, u.oneCell' = true)
    (h63 : n + m ≤ maxLen) (hbytes : (n + m) * bytes ≤ 140737488355328) (hbase : base ≤ w.heap.size)
    (h : ∀ v' w', w'.ownsRow base e size v' (n + m) (xs ++ news) → w.grownBy w' v.ownBlock → (v'.ownBlock = v.ownBlock ∨ v'.ownBlock = some w.heap.size) → wpList P ops Q rest (a.put o.dst v') w') : wpList P ops Q (o :: rest) a w :=
  wpList_plain hgd fun _ hK => wp_append_row s x t ho base e i z size bytes ht hi hz hsize hby hzs hsz v n xs hs hown p m c news hx hp hl hnews h1 h63 hbytes hbase fun v' w' h2 h3 h5 => hK _ _ (h v' w' h2 h3 h5)
theorem own_low {w : World} {base b2 n : Nat} {e : TypeId} {size : Nat} {v : Value} {xs : List Value} (h : w.ownsRow base e size v n xs) (hb : b2 ≤ base) : w.ownsRow b2 e size v n xs := by
  obtain ⟨h0, h1 | ⟨g, cap, cur, h2, h3, h4⟩⟩ := h
  · exact ⟨h0, .inl h1⟩
  · exact ⟨h0, .inr ⟨g, cap, cur, h2, Nat.le_trans hb h3, h4⟩⟩
/-- an own row's cells. -/
theorem own_row {w : World} {base n c : Nat} {e : TypeId} {p : Option Addr} {xs : List Value} (h : w.ownsRow base e 1 (.slice p n c) n xs) : (p = none → n = 0) ∧ xs.length = n * 1 ∧ ∀ ad, p = some ad → ∀ j u, xs[j]? = some u → w.cell? (ad.add j) = some u := by
  refine ⟨fun e => ?_, by simpa using h.1, fun ad e j u hu => ?_⟩
  · subst e
    rcases h.2 with ⟨_, h3⟩ | ⟨g, cap, cur, h2, _⟩
    · exact h3
    · cases h2
  · subst e
    obtain ⟨_, _, hv, hs⟩ := own_shape h
    cases hv
    obtain ⟨e1, _⟩ := hs ad rfl
    rw [e1] at h ⊢
    rw [Lib.add_plain, Nat.zero_add]
    exact (own_cell h j u hu).1
theorem own_form {w : World} {base n : Nat} {e : TypeId} {size : Nat} {p : Option Addr} {c : Nat} {xs : List Value} (h : w.ownsRow base e size (.slice p n c) n xs) (hn : 0 < n) : ∃ g, p = some ⟨g, 0, none⟩ ∧ base ≤ g := by
  rcases h.2 with ⟨_, h0⟩ | ⟨g, cap, cur, hv, hb, _⟩
  · omega
  · injection hv with h1 _ _
    exact ⟨g, h1, hb⟩
/-- levels against marks. -/
structure Rel (n : Nat) (ls ms : List Nat) : Prop where
  len : ls.length = n
  le : ∀ l k : Nat, ms[l]? = some k → k ≤ n
  cut : ∀ l k : Nat, ms[l]? = some k → ∀ i x : Nat, ls[i]? = some x → (l < x ↔ k ≤ i)
  top : ∀ i x : Nat, ls[i]? = some x → x ≤ ms.length
theorem rel_nil : Rel 0 [] [] := ⟨rfl, fun l k h => by simp at h, fun l k h => by simp at h, fun i x h => by simp at h⟩
theorem rel_push {n : Nat} {ls ms : List Nat} (h : Rel n ls ms) : Rel (n + 1) (ls ++ [ms.length]) ms := by
  have hl := h.len
  have key : ∀ i x : Nat, (ls ++ [ms.length])[i]? = some x → ls[i]? = some x ∨ (i = n ∧ x = ms.length) := fun i x hx => by
    rw [List.getElem?_append] at hx
    split at hx
    · exact .inl hx
    · rename_i hi
      have hlt := (List.getElem?_eq_some_iff.1 hx).1
      simp at hlt
      obtain rfl : i = n := by omega
      rw [hl, Nat.sub_self] at hx
      simp at hx
      exact .inr ⟨rfl, hx.symm⟩
  refine ⟨by simp [hl], fun l k hk => by have := h.le l k hk; omega, fun l k hk i x hx => ?_, fun i x hx => ?_⟩
  · rcases key i x hx with hx | ⟨rfl, rfl⟩
    · exact h.cut l k hk i x hx
    · have h1 := h.le l k hk
      have h2 := (List.getElem?_eq_some_iff.1 hk).1
      omega
  · rcases key i x hx with hx | ⟨rfl, rfl⟩
    · exact h.top i x hx
    · exact Nat.le_refl _
theorem rel_mark {n : Nat} {ls ms : List Nat} (h : Rel n ls ms) : Rel n ls (ms ++ [n]) := by
  have hl := h.len
  have key : ∀ l k : Nat, (ms ++ [n])[l]? = some k → ms[l]? = some k ∨ (l = ms.length ∧ k = n) := fun i x hx => by
    rw [List.getElem?_append] at hx
    split at hx
    · exact .inl hx
    · rename_i hi
      have hlt := (List.getElem?_eq_some_iff.1 hx).1
      simp at hlt
      obtain rfl : i = ms.length := by omega
      rw [Nat.sub_self] at hx
      simp at hx
      exact .inr ⟨rfl, hx.symm⟩
  refine ⟨hl, fun l k hk => ?_, fun l k hk i x hx => ?_, fun i x hx => by have := h.top i x hx; simp; omega⟩
  · rcases key l k hk with hk | ⟨rfl, rfl⟩
    · exact h.le l k hk
    · exact Nat.le_refl _
  · rcases key l k hk with hk | ⟨rfl, rfl⟩
    · exact h.cut l k hk i x hx
    · have h1 := h.top i x hx
      have h2 := (List.getElem?_eq_some_iff.1 hx).1
      omega
theorem rel_back {n : Nat} {ls ms : List Nat} (h : Rel n ls ms) {l k : Nat} (hk : ms[l]? = some k) : Rel k (ls.take k) (ms.take l) := by
  have hl := h.len
  have hkn := h.le l k hk
  have hll := (List.getElem?_eq_some_iff.1 hk).1
  have t1 : ∀ i x : Nat, (ls.take k)[i]? = some x → i < k ∧ ls[i]? = some x := fun i x hx => by
    by_cases hi : i < k
    · rw [List.getElem?_take_of_lt hi] at hx; exact ⟨hi, hx⟩
    · rw [List.getElem?_eq_none (by rw [List.length_take]; omega)] at hx; cases hx
  have t2 : ∀ i x : Nat, (ms.take l)[i]? = some x → i < l ∧ ms[i]? = some x := fun i x hx => by
    by_cases hi : i < l
    · rw [List.getElem?_take_of_lt hi] at hx; exact ⟨hi, hx⟩
    · rw [List.getElem?_eq_none (by rw [List.length_take]; omega)] at hx; cases hx
  refine ⟨by rw [List.length_take]; omega, fun l' k' hk' => ?_, fun l' k' hk' i x hx => ?_, fun i x hx => ?_⟩
  · obtain ⟨h1, h2⟩ := t2 l' k' hk'
    have h3 := h.le l' k' h2
    by_cases hc : k' ≤ k
    · exact hc
    · have hkl : k < ls.length := by omega
      have h4 := h.cut l k hk k ls[k] (List.getElem?_eq_getElem hkl)
      have h5 := h.cut l' k' h2 k ls[k] (List.getElem?_eq_getElem hkl)
      omega
  · exact h.cut l' k' (t2 l' k' hk').2 i x (t1 i x hx).2
  · obtain ⟨h1, h2⟩ := t1 i x hx
    have h4 := h.cut l k hk i x h2
    rw [List.length_take]
    omega
end Go.Proofs.Ytpnchmelaonfiaa
