/- LinksDouble: the row of links that the law makes. -/
import Derived.Test.YtgdncnalahdjeaaL30
import Derived.Test.YtgdncnalahdjeaaL22
namespace Go.Proofs.Ytgdncnalahdjeaa
open Go Go.RowKit

/-- numbers in memory, in blocks that the row of links does not write. -/
def PartIn (W : World) (v : Value) (P : Option Addr) (L : Nat) (V : Nat → Int) : Prop := LitsIn W P L V ∧ L ≤ 9223372036854775807 ∧ ∀ ad, P = some ad → v.ownBlock ≠ some ad.block ∧ ad.block < W.heap.size
theorem lits_grown {W W' : World} {row : Option Nat} {p : Option Addr} {n : Nat} {V : Nat → Int} (h : LitsIn W p n V) (hg : W.grownBy W' row) (hn : ∀ ad, p = some ad → row ≠ some ad.block) : LitsIn W' p n V := fun h0 => by
  obtain ⟨b, off, rfl, hi⟩ := h h0
  exact ⟨b, off, rfl, fun i hi' => grown_cell hg (hi i hi') (hn ⟨b, off, none⟩ rfl)⟩
theorem PartIn.grown {W W' : World} {v v' : Value} {P : Option Addr} {L : Nat} {V : Nat → Int} (h : PartIn W v P L V) (hg : W.grownBy W' v.ownBlock) (hv : v'.ownBlock = v.ownBlock ∨ v'.ownBlock = some W.heap.size) : PartIn W' v' P L V := by
  refine ⟨lits_grown h.1 hg (fun ad e => (h.2.2 ad e).1), h.2.1, fun ad e => ?_⟩
  have hb := h.2.2 ad e
  refine ⟨?_, Nat.lt_of_lt_of_le hb.2 hg.size⟩
  rcases hv with hv | hv
  · rw [hv]; exact hb.1
  · rw [hv]; intro e; injection e with e; omega
theorem PartIn.later {W W' : World} {v : Value} {P : Option Addr} {L : Nat} {V : Nat → Int} (h : PartIn W v P L V) (hb : Below W.heap.size W W') : PartIn W' v P L V :=
  ⟨h.1.later hb, h.2.1, fun ad e => ⟨(h.2.2 ad e).1, Nat.lt_of_lt_of_le (h.2.2 ad e).2 hb.size⟩⟩
/-- the row of links so far. -/
structure RowAt (W : World) (base : Nat) (v : Value) (ld ld2 : LD) (c : Nat) : Prop where
  own : W.ownsRow base 57 7 v c (flat7 ld2 c)
  two : Twice ld ld2 c
  part : ∀ t, t < c → PartIn W v (ld2.P t) (ld2.L t) (ld2.V t)
theorem RowAt.later {W W' : World} {base : Nat} {v : Value} {ld ld2 : LD} {c : Nat} (h : RowAt W base v ld ld2 c) (hb : Below W.heap.size W W') : RowAt W' base v ld ld2 c :=
  ⟨own_later h.own hb, h.two, fun t ht => (h.part t ht).later hb⟩
/-- one more. -/
theorem RowAt.push' {W W' : World} {base : Nat} {v v' : Value} {ld ld2 : LD} {c : Nat} (h : RowAt W base v ld ld2 c) {P : Option Addr} {C : Nat} {V : Nat → Int} (hp : PartIn W v P (ld.L (c / 2)) V) (hV : ∀ k, k < ld.L (c / 2) → V k = 2 * ld.V (c / 2) k)
    (ho : W'.ownsRow base 57 7 v' (c + 1) (flat7 ld2 c ++ [.int .u8 (ld.K (c / 2)), .int .i64 (ld.T (c / 2)), .int .i64 (ld.A (c / 2)), .int .i64 (ld.B (c / 2)), .int .i64 (2 * ld.I (c / 2)), .int .i64 (2 * ld.J (c / 2)), .slice P (ld.L (c / 2)) C])) (hg : W.grownBy W' v.ownBlock) (hv : v'.ownBlock = v.ownBlock ∨ v'.ownBlock = some W.heap.size) :
    RowAt W' base v' ld (snoc ld2 c (ld.K (c / 2)) (ld.T (c / 2)) (ld.A (c / 2)) (ld.B (c / 2)) (2 * ld.I (c / 2)) (2 * ld.J (c / 2)) P (ld.L (c / 2)) C V) (c + 1) := by
  refine ⟨by rw [flat7_snoc]; exact ho, ?_, ?_⟩
  · constructor <;> intro j hj <;> by_cases hc : j < c
    · simpa [snoc, hc] using h.two.k j hc
    · obtain rfl : j = c := by omega
      simp [snoc]
    · simpa [snoc, hc] using h.two.t j hc
    · obtain rfl : j = c := by omega
      simp [snoc]
    · simpa [snoc, hc] using h.two.a j hc
    · obtain rfl : j = c := by omega
      simp [snoc]
    · simpa [snoc, hc] using h.two.bb j hc
    · obtain rfl : j = c := by omega
      simp [snoc]
    · simpa [snoc, hc] using h.two.i j hc
    · obtain rfl : j = c := by omega
      simp [snoc]
    · simpa [snoc, hc] using h.two.jj j hc
    · obtain rfl : j = c := by omega
      simp [snoc]
    · simpa [snoc, hc] using h.two.l j hc
    · obtain rfl : j = c := by omega
      simp [snoc]
    · simpa [snoc, hc] using h.two.v j hc
    · obtain rfl : j = c := by omega
      simpa [snoc] using hV
  · intro t ht
    by_cases hc : t < c
    · have := (h.part t hc).grown hg hv
      simpa [snoc, hc] using this
    · obtain rfl : t = c := by omega
      have := hp.grown hg hv
      simpa [snoc] using this
theorem RowAt.push {W W' : World} {base : Nat} {v v' : Value} {ld ld2 : LD} {c : Nat} (j : Nat) (hj : c / 2 = j) (h : RowAt W base v ld ld2 c) {P : Option Addr} {C : Nat} {V : Nat → Int} (hp : PartIn W v P (ld.L j) V) (hV : ∀ k, k < ld.L j → V k = 2 * ld.V j k)
    (ho : W'.ownsRow base 57 7 v' (c + 1) (flat7 ld2 c ++ [.int .u8 (ld.K j), .int .i64 (ld.T j), .int .i64 (ld.A j), .int .i64 (ld.B j), .int .i64 (2 * ld.I j), .int .i64 (2 * ld.J j), .slice P (ld.L j) C])) (hg : W.grownBy W' v.ownBlock) (hv : v'.ownBlock = v.ownBlock ∨ v'.ownBlock = some W.heap.size) :
    ∃ ld3, RowAt W' base v' ld ld3 (c + 1) ∧ PartIn W' v' P (ld.L j) V := by
  subst hj
  exact ⟨_, h.push' hp hV ho hg hv, hp.grown hg hv⟩
theorem RowAt.links {W : World} {base : Nat} {v : Value} {ld ld2 : LD} {c : Nat} (h : RowAt W base v ld ld2 c) : ∃ (p : Option Addr) (k : Nat), v = .slice p c k ∧ LinksIn W p c ld2 :=
  own_links h.own (fun i hi => ⟨(h.part i hi).1, (h.part i hi).2.1⟩)
/-- how many links there are behind the first j. -/
def cnt (N j : Nat) : Nat := if j < N then 2 * j else 2 * N - 1
theorem info3' : ∃ i0, Try.prog.info? 3 = some i0 ∧ i0.zero = some (.int .i64 0) ∧ i0.size = 1 ∧ i0.bytes = 8 := by
  have h : (Try.prog.info? 3).map (fun i => (i.zero, i.size, i.bytes)) = some (some (.int .i64 0), 1, 8) := by kernel_rfl
  obtain ⟨i, hi, hb⟩ := Option.map_eq_some_iff.1 h
  simp only [Prod.mk.injEq] at hb
  exact ⟨i, hi, hb.1, hb.2.1, hb.2.2⟩
/-- the box of the link that is copied, with its row of numbers so far. -/
structure CopyAt (W : World) (b base : Nat) (K Tt A B I J : Int) (V : Nat → Int) (k : Nat) : Prop where
  c0 : W.cell? ⟨b, 0, none⟩ = some (.int .u8 K)
  c1 : W.cell? ⟨b, 1, none⟩ = some (.int .i64 Tt)
  c2 : W.cell? ⟨b, 2, none⟩ = some (.int .i64 A)
  c3 : W.cell? ⟨b, 3, none⟩ = some (.int .i64 B)
  c4 : W.cell? ⟨b, 4, none⟩ = some (.int .i64 I)
  c5 : W.cell? ⟨b, 5, none⟩ = some (.int .i64 J)
  c6 : ∃ p c, W.cell? ⟨b, 6, none⟩ = some (.slice p k c) ∧ W.ownsRow base 3 1 (.slice p k c) k ((rowL k V).map (Value.int .i64))
  f6 : W.frozen? ⟨b, 6, none⟩ = false
  lt : b < base
theorem own_shape3 {w : World} {base n : Nat} {e : TypeId} {size : Nat} {v : Value} {xs : List Value} (h : w.ownsRow base e size v n xs) : ∃ (p : Option Addr) (c : Nat), v = .slice p n c ∧ (∀ ad, p = some ad → ad = ⟨ad.block, 0, none⟩ ∧ base ≤ ad.block ∧ ad.block < w.heap.size) := by
  rcases h.2 with ⟨rfl, rfl⟩ | ⟨g, cap, cur, rfl, hg, hh, _⟩
  · exact ⟨none, 0, rfl, fun ad h => by cases h⟩
  · have hlt : g < w.heap.size := by
      rcases Nat.lt_or_ge g w.heap.size with h | h
      · exact h
      · rw [Array.getElem?_eq_none h] at hh; cases hh
    exact ⟨some ⟨g, 0, none⟩, cap, rfl, fun ad h => by cases h; exact ⟨rfl, hg, hlt⟩⟩
theorem own_lits3 {W : World} {base n : Nat} {p : Option Addr} {c : Nat} {V : Nat → Int} (h : W.ownsRow base 3 1 (.slice p n c) n ((rowL n V).map (Value.int .i64))) : LitsIn W p n V := fun h0 => by
  have hv : (Value.slice p n c) ≠ .slice none 0 0 := by
    intro e
    cases e
    omega
  obtain ⟨b, c', e, _, hc⟩ := own_cells h hv
  cases e
  refine ⟨b, 0, rfl, fun i hi => ?_⟩
  rw [Nat.zero_add]
  refine hc i _ ?_
  rw [List.getElem?_map, rowL_get n V i hi]
  rfl
theorem rowL_succ (k : Nat) (V : Nat → Int) : rowL (k + 1) V = rowL k V ++ [V k] := by simp [rowL, List.range_succ]
section
variable {W W' w' : World} {b base : Nat} {K Tt A B I J : Int} {V : Nat → Int} {t : Nat}
theorem copy_new (w : World) (K Tt A B I J : Int) (V : Nat → Int) : CopyAt (w.alloc (.cells #[.int .u8 K, .int .i64 Tt, .int .i64 A, .int .i64 B, .int .i64 I, .int .i64 J, .slice none 0 0] 57)) w.heap.size (w.heap.size + 1) K Tt A B I J V 0 := by
  refine ⟨by simp [go_sem], by simp [go_sem], by simp [go_sem], by simp [go_sem], by simp [go_sem], by simp [go_sem], ⟨none, 0, by simp [go_sem], rfl, .inl ⟨rfl, rfl⟩⟩, by simp [go_sem], by omega⟩
theorem CopyAt.blt (h : CopyAt W b base K Tt A B I J V t) : b < W.heap.size := World.block_lt_of_cell? _ _ h.c0
theorem CopyAt.later (h : CopyAt W b base K Tt A B I J V t) (hb : Below W.heap.size W W') : CopyAt W' b base K Tt A B I J V t := by
  obtain ⟨p, c, h6, o6⟩ := h.c6
  exact ⟨cell_later hb h.c0, cell_later hb h.c1, cell_later hb h.c2, cell_later hb h.c3, cell_later hb h.c4, cell_later hb h.c5, ⟨p, c, cell_later hb h6, own_later o6 hb⟩, by rw [hb.frozen h.blt]; exact h.f6, h.lt⟩
theorem own_far {w : World} {base n : Nat} {e : TypeId} {size : Nat} {v : Value} {xs : List Value} (h : w.ownsRow base e size v n xs) {a : Addr} (ha : a.block < base) (u : Value) : (w.setCell a u).ownsRow base e size v n xs := by
  rcases h with ⟨h0, ⟨h1, h2⟩ | ⟨g, cap, cur, rfl, hg, hh, hc⟩⟩
  · exact ⟨h0, .inl ⟨h1, h2⟩⟩
  · refine ⟨h0, .inr ⟨g, cap, cur, rfl, hg, ?_, hc⟩⟩
    rw [Below.heap_setCell w a u g (by omega)]
    exact hh
theorem CopyAt.step {p : Option Addr} {c : Nat} {v' : Value} {x : Int} (h : CopyAt W b base K Tt A B I J V t) (h6 : W.cell? ⟨b, 6, none⟩ = some (.slice p t c)) (ho : w'.ownsRow base 3 1 v' (t + 1) ((rowL t V).map (Value.int .i64) ++ [.int .i64 x])) (hx : x = V t) (hg : W.grownBy w' (Value.slice p t c).ownBlock) : CopyAt (w'.setCell ⟨b, 6, none⟩ v') b base K Tt A B I J V (t + 1) := by
  obtain ⟨p0, c0, h60, o6⟩ := h.c6
  rw [h60] at h6
  cases h6
  have hn : (Value.slice p t c).ownBlock ≠ some b := fun e => by
    have := (World.ownsRow.lt o6 b e).1
    have := h.lt
    omega
  have hlt : b < w'.heap.size := Nat.lt_of_lt_of_le h.blt hg.size
  have far : ∀ o v, o ≠ 6 → W.cell? ⟨b, o, none⟩ = some v → (w'.setCell ⟨b, 6, none⟩ v').cell? ⟨b, o, none⟩ = some v := fun o v h1 h2 => by
    rw [World.cell?_setCell_other _ _ _ _ (by intro e; cases e; exact h1 rfl)]
    exact grown_cell hg h2 hn
  obtain ⟨p', c', rfl, _⟩ := own_shape3 ho
  refine ⟨far 0 _ (by omega) h.c0, far 1 _ (by omega) h.c1, far 2 _ (by omega) h.c2, far 3 _ (by omega) h.c3, far 4 _ (by omega) h.c4, far 5 _ (by omega) h.c5, ⟨p', c', World.cell?_setCell_same _ _ _ (grown_cell hg h60 hn), own_far ?_ h.lt _⟩, ?_, h.lt⟩
  · rw [rowL_succ, List.map_append, ← hx]
    exact ho
  · rw [World.frozen?_setCell, World.frozen?_of_block (w := W) (hg.block b h.blt (fun e => hn e.symm))]
    exact h.f6
theorem CopyAt.box (h : CopyAt W b base K Tt A B I J V t) : ∃ p c, BoxAt b K Tt A B I J p t c W ∧ LitsIn W p t V ∧ ∀ ad, p = some ad → base ≤ ad.block ∧ ad.block < W.heap.size := by
  obtain ⟨p, c, h6, o6⟩ := h.c6
  refine ⟨p, c, ⟨h.c0, h.c1, h.c2, h.c3, h.c4, h.c5, h6⟩, own_lits3 o6, fun ad e => ?_⟩
  obtain ⟨p', c', e', hs⟩ := own_shape3 o6
  cases e'
  exact (hs ad e).2
end
end Go.Proofs.Ytgdncnalahdjeaa
