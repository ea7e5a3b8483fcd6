/- The checker: its rows grow. -/
import Derived.Test.YtgdncnalahdjeaaL4
import Derived.Test.YtgdncnalahdjeaaL5
import Derived.Maps.AppendAt
namespace Go.Proofs.Ytgdncnalahdjeaa
open Go Go.RowKit

theorem wp_append_own_at {P : Program} {w : World} {o : Oper} {a : Act} {K : Act → World → Prop} {Q : Exit → Act → World → Prop} (s x : Operand) (t : TypeId)
    (ho : o.op = .call { callee := .builtin .append, args := #[s, x], argTypes := #[t, t] })
    (base : Nat) (e : TypeId) (i : TypeInfo) (z : Value) (size bytes : Nat) (ht : P.underlying t = some (.slice e)) (hi : P.info? e = some i) (hz : i.zero = some z)
    (hsize : i.size = size) (hby : i.bytes = bytes) (hzs : z.cells.size = size) (hsz : 0 < size)
    (v : Value) (n : Nat) (xs : List Value) (hs : a.eval s = v) (hown : w.ownsRow base e size v n xs)
    (ad : Addr) (m c : Nat) (news : List Value) (hx : a.eval x = .slice (some ad) m c) (hl : news.length = m * size) (hnews : ∀ j u, news[j]? = some u → w.cell? (ad.add j) = some u) (h1 : ∀ u ∈ news, u.oneCell' = true)
    (h63 : n + m ≤ maxLen) (hbytes : (n + m) * bytes ≤ 140737488355328) (hbase : base ≤ w.heap.size)
    (h : ∀ v' w', w'.ownsRow base e size v' (n + m) (xs ++ news) → w.grownBy w' v.ownBlock → (v' = .slice none 0 0 ↔ v = .slice none 0 0 ∧ m = 0) → (v'.ownBlock = v.ownBlock ∨ v'.ownBlock = some w.heap.size) → K (a.put o.dst v') w') : o.wp P a w K Q := by
  obtain ⟨v', w', hr, h2, h3, h4, h5⟩ := run_append_own_at (P := P) w base t o.type e i z size bytes ht hi hz hsize hby hzs hsz v n xs hown ad m c news hl hnews h1 h63 hbytes hbase
  unfold Oper.wp execOp
  simp only [ho, resolve, invoke, builtin, Sem.run_bind, Sem.run_pure, Result.andThen_ok, List.map_toArray, List.map_cons, List.map_nil, hs, hx, hr]
  exact h v' w' h2 h3 h4 h5
theorem own_shape {w : World} {base n : Nat} {e : TypeId} {size : Nat} {v : Value} {xs : List Value} (h : w.ownsRow base e size v n xs) : ∃ (p : Option Addr) (c : Nat), v = .slice p n c := by
  rcases h.2 with ⟨rfl, rfl⟩ | ⟨g, cap, cur, rfl, _⟩
  · exact ⟨none, 0, rfl⟩
  · exact ⟨some ⟨g, 0, none⟩, cap, rfl⟩
theorem own_blockE {w w' : World} {base n : Nat} {e : TypeId} {size : Nat} {v : Value} {xs : List Value} (h : w.ownsRow base e size v n xs) (hk : ∀ k, v.ownBlock = some k → k < w.heap.size → w'.heap[k]? = w.heap[k]?) : w'.ownsRow base e size v n xs := by
  rcases h with ⟨h0, ⟨h1, h2⟩ | ⟨g, cap, cur, rfl, hg, hh, hc⟩⟩
  · exact ⟨h0, .inl ⟨h1, h2⟩⟩
  · refine ⟨h0, .inr ⟨g, cap, cur, rfl, hg, ?_, hc⟩⟩
    rw [← hh]
    exact hk g rfl (by
      rcases Nat.lt_or_ge g w.heap.size with h | h
      · exact h
      · rw [Array.getElem?_eq_none h] at hh; cases hh)
theorem grown_cell {w w' : World} {row : Option Nat} (h : w.grownBy w' row) {a : Addr} {v : Value} (hc : w.cell? a = some v) (hn : row ≠ some a.block) : w'.cell? a = some v := by
  rw [← hc]
  exact World.cell?_of_block (w := w) (h.block a.block (World.block_lt_of_cell? w a hc) (fun e => hn e.symm))
theorem grown_frozen {w w' : World} {row : Option Nat} (h : w.grownBy w' row) {a : Addr} (hl : a.block < w.heap.size) (hn : row ≠ some a.block) : w'.frozen? a = w.frozen? a :=
  World.frozen?_of_block (w := w) (h.block a.block hl (fun e => hn e.symm))
theorem set_cell_far {w : World} {p a : Addr} {u v : Value} (hc : w.cell? a = some v) (h : p ≠ a) : (w.setCell p u).cell? a = some v := by
  rw [World.cell?_setCell_other _ _ _ _ h]; exact hc
section
variable {W W1 : World} {c : Nat} {T M : Option Nat} {p : Option Addr} {n cv : Nat} {q : Option Addr} {m ca : Nat} {ts : List (Int × Int)} {ls : List Int}
theorem CheckerAt.blocks (h : CheckerAt W c T M p n cv q m ca ts ls) : (∀ k, T = some k → c < k ∧ k < W.heap.size) ∧ (∀ k, M = some k → c < k ∧ k < W.heap.size) := by
  obtain ⟨r, z, a1, a2, a3⟩ := h.c2
  obtain ⟨r2, z2, b1, b2, b3⟩ := h.c3
  exact ⟨fun k hk => by have := World.ownsRow.lt a3 k (a2.trans hk); omega, fun k hk => by have := World.ownsRow.lt b3 k (b2.trans hk); omega⟩
theorem CheckerAt.push3 (h : CheckerAt W c T M p n cv q m ca ts ls) {r' : Option Addr} {z' : Nat} {x : Int} (hg : W.grownBy W1 M) (hown : W1.ownsRow (c + 1) 54 1 (.slice r' (ls ++ [x]).length z') (ls ++ [x]).length ((ls ++ [x]).map (Value.int .i64))) (hloc : (Value.slice r' (ls ++ [x]).length z').ownBlock = M ∨ (Value.slice r' (ls ++ [x]).length z').ownBlock = some W.heap.size) :
    CheckerAt (W1.setCell ⟨c, 3, none⟩ (.slice r' (ls ++ [x]).length z')) c T (Value.slice r' (ls ++ [x]).length z').ownBlock p n cv q m ca ts (ls ++ [x]) := by
  have hb := h.blocks
  have hM : M ≠ some c := fun e => by have := (hb.2 c e).1; omega
  obtain ⟨r, z, a1, a2, a3⟩ := h.c2
  obtain ⟨r2, z2, b1, b2, b3⟩ := h.c3
  have c3' := grown_cell hg b1 hM
  refine ⟨set_cell_far (grown_cell hg h.c0 hM) (by simp), set_cell_far (grown_cell hg h.c1 hM) (by simp), ⟨r, z, set_cell_far (grown_cell hg a1 hM) (by simp), a2, ?_⟩, ⟨r', z', World.cell?_setCell_same _ _ _ c3', rfl, ?_⟩, ?_, ?_, ?_⟩
  · refine own_blockE a3 (fun k hk hl => ?_)
    rw [a2] at hk
    have h1 := (hb.1 k hk).1
    rw [Below.heap_setCell _ _ _ _ (by show k ≠ c; omega)]
    exact hg.block k hl (fun e => h.ne k hk e.symm)
  · exact own_blockE hown (fun k hk hl => Below.heap_setCell _ _ _ _ (by have := (World.ownsRow.lt hown k hk).1; show k ≠ c; omega))
  · rw [World.frozen?_setCell, grown_frozen hg h.lt hM]; exact h.f2
  · rw [World.frozen?_setCell, grown_frozen hg h.lt hM]; exact h.f3
  · intro k hk hk2
    rcases hloc with e | e
    · exact h.ne k hk (by rw [← e]; exact hk2)
    · rw [e] at hk2
      cases hk2
      have := (hb.1 _ hk).2
      omega
theorem CheckerAt.push2 (h : CheckerAt W c T M p n cv q m ca ts ls) {r' : Option Addr} {z' : Nat} {x : Int × Int} (hg : W.grownBy W1 T) (hown : W1.ownsRow (c + 1) 113 2 (.slice r' (ts ++ [x]).length z') (ts ++ [x]).length (flat2 (ts ++ [x]))) (hloc : (Value.slice r' (ts ++ [x]).length z').ownBlock = T ∨ (Value.slice r' (ts ++ [x]).length z').ownBlock = some W.heap.size) :
    CheckerAt (W1.setCell ⟨c, 2, none⟩ (.slice r' (ts ++ [x]).length z')) c (Value.slice r' (ts ++ [x]).length z').ownBlock M p n cv q m ca (ts ++ [x]) ls := by
  have hb := h.blocks
  have hT : T ≠ some c := fun e => by have := (hb.1 c e).1; omega
  obtain ⟨r, z, a1, a2, a3⟩ := h.c2
  obtain ⟨r2, z2, b1, b2, b3⟩ := h.c3
  have c2' := grown_cell hg a1 hT
  refine ⟨set_cell_far (grown_cell hg h.c0 hT) (by simp), set_cell_far (grown_cell hg h.c1 hT) (by simp), ⟨r', z', World.cell?_setCell_same _ _ _ c2', rfl, ?_⟩, ⟨r2, z2, set_cell_far (grown_cell hg b1 hT) (by simp), b2, ?_⟩, ?_, ?_, ?_⟩
  · exact own_blockE hown (fun k hk hl => Below.heap_setCell _ _ _ _ (by have := (World.ownsRow.lt hown k hk).1; show k ≠ c; omega))
  · refine own_blockE b3 (fun k hk hl => ?_)
    rw [b2] at hk
    have h1 := (hb.2 k hk).1
    rw [Below.heap_setCell _ _ _ _ (by show k ≠ c; omega)]
    exact hg.block k hl (fun e => h.ne k e.symm hk)
  · rw [World.frozen?_setCell, grown_frozen hg h.lt hT]; exact h.f2
  · rw [World.frozen?_setCell, grown_frozen hg h.lt hT]; exact h.f3
  · intro k hk hk2
    rcases hloc with e | e
    · exact h.ne k (by rw [← e]; exact hk) hk2
    · rw [e] at hk
      cases hk
      have := (hb.2 _ hk2).2
      omega
end
theorem info54 : ∃ i0, Try.prog.info? 54 = some i0 ∧ i0.zero = some (.int .i64 0) ∧ i0.size = 1 ∧ i0.bytes = 8 := info30
theorem info113 : ∃ i0, Try.prog.info? 113 = some i0 ∧ i0.zero = some (.agg #[.int .i64 0, .int .i64 0]) ∧ i0.size = 2 ∧ i0.bytes = 16 := by
  have h : (Try.prog.info? 113).map (fun i => (i.zero, i.size, i.bytes)) = some (some (.agg #[.int .i64 0, .int .i64 0]), 2, 16) := by kernel_rfl
  obtain ⟨i, hi, hb⟩ := Option.map_eq_some_iff.1 h
  simp only [Prod.mk.injEq] at hb
  exact ⟨i, hi, hb.1, hb.2.1, hb.2.2⟩
theorem flat2_app (ts : List (Int × Int)) (x : Int × Int) : flat2 (ts ++ [x]) = flat2 ts ++ [.int .i64 x.1, .int .i64 x.2] := by simp [flat2]
end Go.Proofs.Ytgdncnalahdjeaa
