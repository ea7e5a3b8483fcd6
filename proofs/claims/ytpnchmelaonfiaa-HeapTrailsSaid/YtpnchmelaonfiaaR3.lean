/- HeapTrails: both trails beside each other. -/
import Derived.Test.YtpnchmelaonfiaaR2
namespace Go.Proofs.Ytpnchmelaonfiaa
open Go Go.RowKit

/-- both trails, of the call's own, apart. -/
def Both (B : Nat) (W : World) (t b : Nat) (xs : List ByteArray) (ms : List Nat) (ys : List ByteArray) (ls : List Nat) (v : Nat) : Prop :=
  ∃ base1 T M base2 R A, TrailSAt W t base1 T M xs ms ∧ RefAt W b base2 R A ys ls v ∧ (∀ k, k = t ∨ T = some k ∨ M = some k → ¬ (k = b ∨ R = some k ∨ A = some k)) ∧ B ≤ t ∧ B ≤ b ∧ B ≤ base1 ∧ B ≤ base2 ∧ B ≤ W.heap.size
variable {B : Nat} {W : World} {t b : Nat} {xs : List ByteArray} {ms : List Nat} {ys : List ByteArray} {ls : List Nat} {v : Nat}
theorem Both.hB (h : Both B W t b xs ms ys ls v) : B ≤ W.heap.size := by
  obtain ⟨_, _, _, _, _, _, _, _, _, _, _, _, _, h⟩ := h
  exact h
theorem Both.lb (h : Both B W t b xs ms ys ls v) : B ≤ b ∧ B ≤ t := by
  obtain ⟨_, _, _, _, _, _, _, _, _, h1, h2, _⟩ := h
  exact ⟨h2, h1⟩
theorem Both.mine (h : Both B W t b xs ms ys ls v) : MineS B W t xs ms := by
  obtain ⟨b1, T, M, _, _, _, h1, _, _, h2, _, h3, _, _⟩ := h
  exact ⟨b1, T, M, h1, h2, h3⟩
theorem Both.later {W' : World} (h : Both B W t b xs ms ys ls v) (hb : Below W.heap.size W W') : Both B W' t b xs ms ys ls v := by
  obtain ⟨b1, T, M, b2, R, A, h1, h2, h3, h4, h5, h6, h7, h8⟩ := h
  exact ⟨b1, T, M, b2, R, A, h1.later hb, h2.later hb, h3, h4, h5, h6, h7, Nat.le_trans h8 hb.size⟩
theorem Both.cells (h : Both B W t b xs ms ys ls v) : ∃ p c, W.cell? ⟨b, 0, none⟩ = some (.slice p ys.length c) ∧ (p = none → ys.length = 0) ∧ (∀ i y, ys[i]? = some y → ∃ g, p = some ⟨g, 0, none⟩ ∧ W.cell? ⟨g, i, none⟩ = some (.string y)) ∧ W.cell? ⟨b, 2, none⟩ = some (.int .i64 (v : Int)) ∧ (∀ o, W.frozen? ⟨b, o, none⟩ = false) := by
  obtain ⟨b1, T, M, b2, R, A, h1, h2, h3, h4, h5, h6, h7, h8⟩ := h
  obtain ⟨p, c, c1, e1, o1⟩ := h2.t.ct
  refine ⟨p, c, c1, (own_row o1).1, fun i y hy => ?_, h2.v, h2.t.fz⟩
  have hlt := (List.getElem?_eq_some_iff.1 hy).1
  obtain ⟨g, rfl, _⟩ := own_form o1 (by omega)
  exact ⟨g, rfl, (own_cell o1 i _ (by rw [List.getElem?_map, hy]; rfl)).1⟩
theorem both_push1 (h : Both B W t b xs ms ys ls v) (x : ByteArray) (hx : xs.length ≤ 1000000) : Calls Try.prog 28 #[.pointer (some ⟨t, 0, none⟩), .string x] W fun e w' => e = .returned (.tuple #[]) ∧ Both B w' t b (xs ++ [x]) ms ys ls v ∧ Below B W w' := by
  obtain ⟨b1, T, M, b2, R, A, h1, h2, h3, h4, h5, h6, h7, h8⟩ := h
  have q := h1.lt
  have q2 := h2.t.lt
  refine (pushS_any x h1 hx).mono ?_
  rintro e w' ⟨rfl, T', hT, g1, ho⟩
  refine ⟨rfl, ⟨b1, T', M, b2, R, A, g1, h2.only ho (fun k hk e => h3 k ?_ hk), fun k hk hk2 => ?_, h4, h5, h6, h7, Nat.le_trans h8 ho.size⟩, ho.below (fun k hk => ?_) h8⟩
  · rcases e with e | e
    · exact .inl e
    · exact .inr (.inl e)
  · rcases hT with rfl | ⟨j, rfl, hj⟩
    · exact h3 k hk hk2
    · rcases hk with e | e | e
      · exact h3 k (.inl e) hk2
      · cases e
        rcases hk2 with e | e | e
        · omega
        · have := (q2.2.1 _ e).2; omega
        · have := (q2.2.2 _ e).2; omega
      · exact h3 k (.inr (.inr e)) hk2
  · rcases hk with rfl | hk
    · exact h4
    · exact Nat.le_trans h6 (q.2.1 k hk).1
theorem both_push1_z {w2 : World} (h : Both B W t b xs ms ys ls v) (hb : Below W.heap.size W w2) (x : ByteArray) (hx : xs.length ≤ 1000000) : Calls Try.prog 28 #[.pointer (some ⟨t, 0, none⟩), .string x] w2 fun e w' => e = .returned (.tuple #[]) ∧ Both B w' t b (xs ++ [x]) ms ys ls v ∧ Below B w2 w' ∧ ∀ z off u, W.heap.size ≤ z → w2.cell? ⟨z, off, none⟩ = some u → w'.cell? ⟨z, off, none⟩ = some u := by
  obtain ⟨b1, T, M, b2, R, A, h1, h2, h3, h4, h5, h6, h7, h8⟩ := h
  have q := h1.lt
  have q2 := h2.t.lt
  have hsz := hb.size
  refine (pushS_any x (h1.later hb) hx).mono ?_
  rintro e w' ⟨rfl, T', hT, g1, ho⟩
  refine ⟨rfl, ⟨b1, T', M, b2, R, A, g1, (h2.later hb).only ho (fun k hk e => h3 k ?_ hk), fun k hk hk2 => ?_, h4, h5, h6, h7, Nat.le_trans (Nat.le_trans h8 hsz) ho.size⟩, ho.below (fun k hk => ?_) (Nat.le_trans h8 hsz), fun z off u hz hu => ho.cell hu (fun e => ?_)⟩
  · rcases e with e | e
    · exact .inl e
    · exact .inr (.inl e)
  · rcases hT with rfl | ⟨j, rfl, hj⟩
    · exact h3 k hk hk2
    · rcases hk with e | e | e
      · exact h3 k (.inl e) hk2
      · cases e
        rcases hk2 with e | e | e
        · omega
        · have := (q2.2.1 _ e).2; omega
        · have := (q2.2.2 _ e).2; omega
      · exact h3 k (.inr (.inr e)) hk2
  · rcases hk with rfl | hk
    · exact h4
    · exact Nat.le_trans h6 (q.2.1 k hk).1
  · rcases e with e | e
    · have e' : z = t := e; have := q.1; omega
    · have h9 : z < W.heap.size := (q.2.1 z e).2; omega
theorem both_back1_z {w2 : World} (h : Both B W t b xs ms ys ls v) (hb : Below W.heap.size W w2) (l k : Nat) (hl : l < ms.length) (hk : ms[l]? = some k) (hkx : k ≤ xs.length) (hx : xs.length ≤ 1000000) (hm : ms.length ≤ 1000000) :
    Calls Try.prog 31 #[.pointer (some ⟨t, 0, none⟩), .int .i64 l] w2 fun e w' => ∃ u, e = .returned u ∧ w'.ownsRow w2.heap.size 9 1 u (xs.length - k) ((xs.drop k).reverse.map Value.string) ∧ Both B w' t b (xs.take k) (ms.take l) ys ls v ∧ Below B w2 w' ∧ ∀ z off u, W.heap.size ≤ z → w2.cell? ⟨z, off, none⟩ = some u → w'.cell? ⟨z, off, none⟩ = some u := by
  obtain ⟨b1, T, M, b2, R, A, h1, h2, h3, h4, h5, h6, h7, h8⟩ := h
  have q := h1.lt
  have hsz := hb.size
  refine (backS_at (h1.later hb) l k hl hk hkx hx hm).mono ?_
  rintro e w' ⟨u, rfl, g4, g1, ho⟩
  refine ⟨u, rfl, g4, ⟨b1, T, M, b2, R, A, g1, (h2.later hb).only ho (fun k hk e => h3 k ?_ hk), h3, h4, h5, h6, h7, Nat.le_trans (Nat.le_trans h8 hsz) ho.size⟩, ho.below (fun k hk => ?_) (Nat.le_trans h8 hsz), fun z off u hz hu => ho.cell hu (fun e => ?_)⟩
  · rcases e with e | e
    · exact .inl e
    · exact .inr (.inl e)
  · rcases hk with rfl | hk
    · exact h4
    · exact Nat.le_trans h6 (q.2.1 k hk).1
  · rcases e with e | e
    · have e' : z = t := e; have := q.1; omega
    · have h9 : z < W.heap.size := (q.2.1 z e).2; omega
theorem both_mark1 (h : Both B W t b xs ms ys ls v) (hx : ms.length ≤ 1000000) (hx2 : xs.length ≤ 1000000) : Calls Try.prog 30 #[.pointer (some ⟨t, 0, none⟩)] W fun e w' => e = .returned (.int .i64 ms.length) ∧ Both B w' t b xs (ms ++ [xs.length]) ys ls v ∧ Below B W w' := by
  obtain ⟨b1, T, M, b2, R, A, h1, h2, h3, h4, h5, h6, h7, h8⟩ := h
  have q := h1.lt
  have q2 := h2.t.lt
  refine (markS_any h1 hx hx2).mono ?_
  rintro e w' ⟨rfl, T', hT, g1, ho⟩
  refine ⟨rfl, ⟨b1, T, T', b2, R, A, g1, h2.only ho (fun k hk e => h3 k ?_ hk), fun k hk hk2 => ?_, h4, h5, h6, h7, Nat.le_trans h8 ho.size⟩, ho.below (fun k hk => ?_) h8⟩
  · rcases e with e | e
    · exact .inl e
    · exact .inr (.inr e)
  · rcases hT with rfl | ⟨j, rfl, hj⟩
    · exact h3 k hk hk2
    · rcases hk with e | e | e
      · exact h3 k (.inl e) hk2
      · exact h3 k (.inr (.inl e)) hk2
      · cases e
        rcases hk2 with e | e | e
        · omega
        · have := (q2.2.1 _ e).2; omega
        · have := (q2.2.2 _ e).2; omega
  · rcases hk with rfl | hk
    · exact h4
    · exact Nat.le_trans h6 (q.2.2 k hk).1
theorem both_back1 (h : Both B W t b xs ms ys ls v) (l k : Nat) (hl : l < ms.length) (hk : ms[l]? = some k) (hkx : k ≤ xs.length) (hx : xs.length ≤ 1000000) (hm : ms.length ≤ 1000000) :
    Calls Try.prog 31 #[.pointer (some ⟨t, 0, none⟩), .int .i64 l] W fun e w' => ∃ u, e = .returned u ∧ w'.ownsRow W.heap.size 9 1 u (xs.length - k) ((xs.drop k).reverse.map Value.string) ∧ Both B w' t b (xs.take k) (ms.take l) ys ls v ∧ Below B W w' := by
  obtain ⟨b1, T, M, b2, R, A, h1, h2, h3, h4, h5, h6, h7, h8⟩ := h
  have q := h1.lt
  refine (backS_at h1 l k hl hk hkx hx hm).mono ?_
  rintro e w' ⟨u, rfl, g4, g1, ho⟩
  refine ⟨u, rfl, g4, ⟨b1, T, M, b2, R, A, g1, h2.only ho (fun k hk e => h3 k ?_ hk), h3, h4, h5, h6, h7, Nat.le_trans h8 ho.size⟩, ho.below (fun k hk => ?_) h8⟩
  · rcases e with e | e
    · exact .inl e
    · exact .inr (.inl e)
  · rcases hk with rfl | hk
    · exact h4
    · exact Nat.le_trans h6 (q.2.1 k hk).1
theorem both_push2 (h : Both B W t b xs ms ys ls v) (x : ByteArray) (hx : ys.length ≤ 1000000) (hx2 : ls.length ≤ 1000000) : Calls Try.prog 29 #[.pointer (some ⟨b, 0, none⟩), .string x] W fun e w' => e = .returned (.tuple #[]) ∧ Both B w' t b xs ms (ys ++ [x]) (ls ++ [v]) v ∧ Below B W w' := by
  obtain ⟨b1, T, M, b2, R, A, h1, h2, h3, h4, h5, h6, h7, h8⟩ := h
  have q := h1.lt
  have q2 := h2.t.lt
  refine (refPush_any x h2 hx hx2).mono ?_
  rintro e w' ⟨rfl, R', A', ⟨j1, rfl, hj1⟩, ⟨j2, rfl, hj2⟩, g1, ho⟩
  refine ⟨rfl, ⟨b1, T, M, b2, _, _, h1.only ho (fun k hk e => h3 k hk e), g1, fun k hk hk2 => ?_, h4, h5, h6, h7, Nat.le_trans h8 ho.size⟩, ho.below (fun k hk => ?_) h8⟩
  · have hlt : k < W.heap.size := by
      rcases hk with rfl | e | e
      · exact q.1
      · exact (q.2.1 k e).2
      · exact (q.2.2 k e).2
    rcases hk2 with e | e | e
    · exact h3 k hk (.inl e)
    · cases e; omega
    · cases e; omega
  · rcases hk with rfl | hk | hk
    · exact h5
    · exact Nat.le_trans h7 (q2.2.1 k hk).1
    · exact Nat.le_trans h7 (q2.2.2 k hk).1
theorem both_back2 (h : Both B W t b xs ms ys ls v) (hls : ls.length = ys.length) (l k : Nat) (hl : l < v) (hk : k ≤ ys.length) (hcut : ∀ i x : Nat, ls[i]? = some x → (l < x ↔ k ≤ i)) (hx : ys.length ≤ 1000000) :
    Calls Try.prog 32 #[.pointer (some ⟨b, 0, none⟩), .int .i64 l] W fun e w' => ∃ u, e = .returned u ∧ w'.ownsRow W.heap.size 9 1 u (ys.length - k) ((ys.drop k).reverse.map Value.string) ∧ Both B w' t b xs ms (ys.take k) (ls.take k) l ∧ Only (fun k => k = b) W w' := by
  obtain ⟨b1, T, M, b2, R, A, h1, h2, h3, h4, h5, h6, h7, h8⟩ := h
  refine (refBack_at h2 hls l k hl hk hcut hx).mono ?_
  rintro e w' ⟨u, rfl, g4, g1, ho⟩
  exact ⟨u, rfl, g4, ⟨b1, T, M, b2, R, A, h1.only ho (fun k hk e => h3 k hk (.inl e)), g1, h3, h4, h5, h6, h7, Nat.le_trans h8 ho.size⟩, ho⟩
theorem both_out2 (h : Both B W t b xs ms ys ls v) (l : Int) (hl : l < 0 ∨ (v : Int) ≤ l) : Calls Try.prog 32 #[.pointer (some ⟨b, 0, none⟩), .int .i64 l] W fun e w' => e = .returned (.slice none 0 0) ∧ w' = W := by
  obtain ⟨b1, T, M, b2, R, A, h1, h2, h3, h4, h5, h6, h7, h8⟩ := h
  exact refBack_out h2 l hl
theorem both_level (h : Both B W t b xs ms ys ls v) (l : Nat) : Both B (W.setCell ⟨b, 2, none⟩ (.int .i64 (l : Int))) t b xs ms ys ls l ∧ Below B W (W.setCell ⟨b, 2, none⟩ (.int .i64 (l : Int))) := by
  obtain ⟨b1, T, M, b2, R, A, h1, h2, h3, h4, h5, h6, h7, h8⟩ := h
  obtain ⟨g1, ho⟩ := ref_level h2 l
  exact ⟨⟨b1, T, M, b2, R, A, h1.only ho (fun k hk e => h3 k hk (.inl e)), g1, h3, h4, h5, h6, h7, Nat.le_trans h8 ho.size⟩, ho.below (fun k hk => by rw [hk]; exact h5) h8⟩
theorem both_new (w : World) : Both w.heap.size ((w.alloc (.cells #[.slice none 0 0, .slice none 0 0] 48)).alloc (.cells #[.slice none 0 0, .slice none 0 0, .int .i64 0] 51)) w.heap.size (w.heap.size + 1) [] [] [] [] 0 := by
  have hb := below1 (w.alloc (.cells #[.slice none 0 0, .slice none 0 0] 48)) (.cells #[.slice none 0 0, .slice none 0 0, .int .i64 0] 51)
  refine ⟨w.heap.size + 1, none, none, w.heap.size + 2, none, none, (trailS_new w).later hb, ⟨⟨⟨none, 0, by simp [go_sem], rfl, rfl, .inl ⟨rfl, rfl⟩⟩, ⟨none, 0, by simp [go_sem], rfl, rfl, .inl ⟨rfl, rfl⟩⟩, fun o => by simp [go_sem], fun k h => (by cases h), by omega, by simp⟩, by simp [go_sem]⟩, fun k hk hk2 => ?_, Nat.le_refl _, Nat.le_succ _, Nat.le_succ _, by omega, by simp; omega⟩
  rcases hk with rfl | e | e
  · rcases hk2 with e | e | e
    · omega
    · cases e
    · cases e
  · cases e
  · cases e
set_option maxRecDepth 100000 in
set_option maxHeartbeats 800000 in
theorem mineS_none {a : Nat} (h : MineS B W a xs ms) (i : Int) (hi : i < 0 ∨ (xs.length : Int) ≤ i) : Calls Try.prog 33 #[.pointer (some ⟨a, 0, none⟩), .int .i64 i] W fun e w' => e = .returned (.tuple #[.string ByteArray.empty, .bool false]) ∧ w' = W := by
  have H1 := mineS_len h
  clear h
  generalize xs.length = n at *
  by_cases h0 : i < 0
  · clear hi H1
    go_enter Try.func33, Try.ntmps33
    go_wp2_with fail
    go_ret2
    exact ⟨rfl, rfl⟩
  · have h1 : (n : Int) ≤ i := by omega
    clear hi
    go_enter Try.func33, Try.ntmps33
    go_wp2_with fail
    refine H1.mono ?_
    rintro e w1 ⟨rfl, rfl⟩
    clear H1
    go_wp2_with fail
    go_ret2
    exact ⟨rfl, rfl⟩
end Go.Proofs.Ytpnchmelaonfiaa
