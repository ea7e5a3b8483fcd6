/- A trail of strings in memory: Push, Len, Level, Mark. -/
import Derived.Test.YtpnchmelaonfiaaApp
import Derived.Deep.RegionLaw
namespace Go.Proofs.Ytpnchmelaonfiaa
open Go Go.RowKit

/-- a trail: its struct in block a, its rows in blocks T and M from base on. -/
structure TrailSAt (W : World) (a base : Nat) (T M : Option Nat) (xs : List ByteArray) (ms : List Nat) : Prop where
  ct : ∃ p c, W.cell? ⟨a, 0, none⟩ = some (.slice p xs.length c) ∧ (Value.slice p xs.length c).ownBlock = T ∧ W.ownsRow base 9 1 (.slice p xs.length c) xs.length (xs.map Value.string)
  cm : ∃ p c, W.cell? ⟨a, 1, none⟩ = some (.slice p ms.length c) ∧ (Value.slice p ms.length c).ownBlock = M ∧ W.ownsRow base 3 1 (.slice p ms.length c) ms.length (ms.map fun (n : Nat) => Value.int .i64 n)
  fz : ∀ o, W.frozen? ⟨a, o, none⟩ = false
  ne : ∀ k, T = some k → M ≠ some k
  ha : a < base
  hb : base ≤ W.heap.size
section
variable {W W' : World} {a base : Nat} {T M : Option Nat} {xs : List ByteArray} {ms : List Nat}
/-- the blocks of a trail. -/
theorem TrailSAt.only {S : Nat → Prop} (h : TrailSAt W a base T M xs ms) (ho : Only S W W') (h1 : ∀ k, k = a ∨ T = some k ∨ M = some k → ¬ S k) : TrailSAt W' a base T M xs ms := by
  obtain ⟨p, c, c1, e1, o1⟩ := h.ct
  obtain ⟨q, d, c2, e2, o2⟩ := h.cm
  have hal : a < W.heap.size := World.block_lt_of_cell? W _ c1
  exact ⟨⟨p, c, ho.cell c1 (h1 a (.inl rfl)), e1, own_only o1 ho (fun k hk => h1 k (.inr (.inl (e1.symm.trans hk))))⟩, ⟨q, d, ho.cell c2 (h1 a (.inl rfl)), e2, own_only o2 ho (fun k hk => h1 k (.inr (.inr (e2.symm.trans hk))))⟩, fun o => by rw [ho.frozen hal (h1 a (.inl rfl))]; exact h.fz o, h.ne, h.ha, Nat.le_trans h.hb ho.size⟩
theorem TrailSAt.later (h : TrailSAt W a base T M xs ms) (hb : Below W.heap.size W W') : TrailSAt W' a base T M xs ms :=
  h.only (Only.of_below (T := fun _ => False) hb) (fun _ _ h => h)
theorem TrailSAt.lt (h : TrailSAt W a base T M xs ms) : a < W.heap.size ∧ (∀ k, T = some k → base ≤ k ∧ k < W.heap.size) ∧ (∀ k, M = some k → base ≤ k ∧ k < W.heap.size) := by
  obtain ⟨p, c, c1, e1, o1⟩ := h.ct
  obtain ⟨q, d, c2, e2, o2⟩ := h.cm
  exact ⟨World.block_lt_of_cell? W _ c1, fun k e => own_lt o1 (e1.trans e), fun k e => own_lt o2 (e2.trans e)⟩
/-- an empty one. -/
theorem trailS_new (w : World) : TrailSAt (w.alloc (.cells #[.slice none 0 0, .slice none 0 0] 48)) w.heap.size (w.heap.size + 1) none none [] [] :=
  ⟨⟨none, 0, by simp [go_sem], rfl, rfl, .inl ⟨rfl, rfl⟩⟩, ⟨none, 0, by simp [go_sem], rfl, rfl, .inl ⟨rfl, rfl⟩⟩, fun o => by simp [go_sem], fun k h => (by cases h), by omega, by simp⟩
/-- a row's cell turns: the first row. -/
theorem TrailSAt.set0 {w1 : World} {p' : Option Addr} {c' : Nat} {xs' : List ByteArray} (h : TrailSAt W a base T M xs ms) (ho : Only (fun k => T = some k) W w1) (own : w1.ownsRow base 9 1 (.slice p' xs'.length c') xs'.length (xs'.map Value.string)) (hloc : (Value.slice p' xs'.length c').ownBlock = T ∨ ∃ k, (Value.slice p' xs'.length c').ownBlock = some k ∧ W.heap.size ≤ k) :
    TrailSAt (w1.setCell ⟨a, 0, none⟩ (.slice p' xs'.length c')) a base (Value.slice p' xs'.length c').ownBlock M xs' ms ∧ Only (fun k => k = a ∨ T = some k) W (w1.setCell ⟨a, 0, none⟩ (.slice p' xs'.length c')) := by
  obtain ⟨hal, hT, hM⟩ := h.lt
  obtain ⟨p, c, c1, e1, o1⟩ := h.ct
  obtain ⟨q, d, c2, e2, o2⟩ := h.cm
  have nT : ¬ T = some a := fun e => by have := hT a e; have := h.ha; omega
  have nM : ¬ M = some a := fun e => by have := hM a e; have := h.ha; omega
  have hs := Only.of_setCell w1 ⟨a, 0, none⟩ (.slice p' xs'.length c')
  have far : ∀ o v, o ≠ 0 → W.cell? ⟨a, o, none⟩ = some v → (w1.setCell ⟨a, 0, none⟩ (.slice p' xs'.length c')).cell? ⟨a, o, none⟩ = some v := fun o v h3 h4 => by
    rw [World.cell?_setCell_other _ _ _ _ (by intro e; cases e; exact h3 rfl)]
    exact ho.cell h4 nT
  refine ⟨⟨⟨p', c', World.cell?_setCell_same _ _ _ (ho.cell c1 nT), rfl, own_only own hs (fun k hk e => by have := (own_lt own hk).1; have := h.ha; have e' : k = a := e; omega)⟩, ⟨q, d, far 1 _ (by omega) c2, e2, own_only (own_only o2 ho (fun k hk e => h.ne k e (e2.symm.trans hk))) hs (fun k hk e => nM (by rw [← e2, hk, show k = a from e]))⟩, fun o => ?_, fun k hk hM' => ?_, h.ha, ?_⟩, (ho.mono (fun k _ hk => .inr hk)).trans (hs.mono (fun k _ hk => .inl hk))⟩
  · rw [World.frozen?_setCell, ho.frozen hal nT]; exact h.fz o
  · rcases hloc with e | ⟨j, e, hj⟩
    · exact h.ne k (e.symm.trans hk) hM'
    · rw [e] at hk; cases hk; have := (hM k hM').2; omega
  · have := ho.size; have := h.hb; rw [World.size_setCell]; omega
/-- a row's cell turns: the second row. -/
theorem TrailSAt.set1 {w1 : World} {p' : Option Addr} {c' : Nat} {ms' : List Nat} (h : TrailSAt W a base T M xs ms) (ho : Only (fun k => M = some k) W w1) (own : w1.ownsRow base 3 1 (.slice p' ms'.length c') ms'.length (ms'.map fun (n : Nat) => Value.int .i64 n)) (hloc : (Value.slice p' ms'.length c').ownBlock = M ∨ ∃ k, (Value.slice p' ms'.length c').ownBlock = some k ∧ W.heap.size ≤ k) :
    TrailSAt (w1.setCell ⟨a, 1, none⟩ (.slice p' ms'.length c')) a base T (Value.slice p' ms'.length c').ownBlock xs ms' ∧ Only (fun k => k = a ∨ M = some k) W (w1.setCell ⟨a, 1, none⟩ (.slice p' ms'.length c')) := by
  obtain ⟨hal, hT, hM⟩ := h.lt
  obtain ⟨p, c, c1, e1, o1⟩ := h.ct
  obtain ⟨q, d, c2, e2, o2⟩ := h.cm
  have nT : ¬ T = some a := fun e => by have := hT a e; have := h.ha; omega
  have nM : ¬ M = some a := fun e => by have := hM a e; have := h.ha; omega
  have hs := Only.of_setCell w1 ⟨a, 1, none⟩ (.slice p' ms'.length c')
  have far : ∀ o v, o ≠ 1 → W.cell? ⟨a, o, none⟩ = some v → (w1.setCell ⟨a, 1, none⟩ (.slice p' ms'.length c')).cell? ⟨a, o, none⟩ = some v := fun o v h3 h4 => by
    rw [World.cell?_setCell_other _ _ _ _ (by intro e; cases e; exact h3 rfl)]
    exact ho.cell h4 nM
  refine ⟨⟨⟨p, c, far 0 _ (by omega) c1, e1, own_only (own_only o1 ho (fun k hk e => h.ne k (e1.symm.trans hk) e)) hs (fun k hk e => nT (by rw [← e1, hk, show k = a from e]))⟩, ⟨p', c', World.cell?_setCell_same _ _ _ (ho.cell c2 nM), rfl, own_only own hs (fun k hk e => by have := (own_lt own hk).1; have := h.ha; have e' : k = a := e; omega)⟩, fun o => ?_, fun k hk hM' => ?_, h.ha, ?_⟩, (ho.mono (fun k _ hk => .inr hk)).trans (hs.mono (fun k _ hk => .inl hk))⟩
  · rw [World.frozen?_setCell, ho.frozen hal nM]; exact h.fz o
  · rcases hloc with e | ⟨j, e, hj⟩
    · exact h.ne k hk (e.symm.trans hM')
    · rw [e] at hM'; cases hM'; have := (hT k hk).2; omega
  · have := ho.size; have := h.hb; rw [World.size_setCell]; omega
set_option maxRecDepth 100000 in
set_option maxHeartbeats 800000 in
theorem pushS_any (x : ByteArray) (h : TrailSAt W a base T M xs ms) (hx : xs.length ≤ 1000000) :
    Calls Try.prog 28 #[.pointer (some ⟨a, 0, none⟩), .string x] W fun e w' => e = .returned (.tuple #[]) ∧ ∃ T', (T' = T ∨ ∃ k, T' = some k ∧ W.heap.size ≤ k) ∧ TrailSAt w' a base T' M (xs ++ [x]) ms ∧ Only (fun k => k = a ∨ T = some k) W w' := by
  obtain ⟨i0, hi, hz0, hz1, hz2⟩ := info9
  have hB := below1 W (.cells #[.string x] 9)
  have h1 := h.later hB
  obtain ⟨p, c, c1, e1, o1⟩ := h1.ct
  obtain ⟨p0, c0, d1, _, _⟩ := h.ct
  have hc : W.cell? ⟨a, 0, none⟩ = some (.slice p xs.length c) := by
    have := cell_later hB d1
    rw [c1] at this
    cases this
    exact d1
  have HB := Lib.hid hB
  have H1 := Lib.hid h1
  have HO := Lib.hid o1
  have HE := Lib.hid e1
  have hal := h.lt.1
  have hbb := h1.hb
  clear h h1 hB o1 e1 c1 d1
  go_enter Try.func28, Try.ntmps28
  go_wp2_with (at_builtin; refine wpList_append_own_at _ rfl _ _ 45 rfl base 9 i0 (.string ByteArray.empty) 1 16 Try.underlying45 hi hz0 hz1 hz2 rfl (by omega) _ xs.length (xs.map Value.string) rfl HO.out ⟨W.heap.size, 0, none⟩ 1 1 [.string x] rfl rfl ?qc2 ?qc3 ?qc4 ?qc5 ?qc6 ?_)
  case qc2 =>
    intro jj u hjj
    rw [Lib.add_plain]
    match jj, hjj with
    | 0, hjj => cases hjj; simp [go_sem]
  case qc3 => intro u hu; simp at hu; rcases hu with rfl; rfl
  case qc4 => have hml : maxLen = 9223372036854775807 := rfl; omega
  case qc5 => omega
  case qc6 => exact hbb
  intro v' w1 hown hgrow _ hloc
  obtain ⟨p2, c2, hv, _⟩ := own_shape hown
  subst hv
  rw [HE.out] at hgrow hloc
  have ho1 : Only (fun k => T = some k) (W.alloc (.cells #[.string x] 9)) w1 := Only.of_grown hgrow
  have hTa : ¬ T = some a := fun e => by have := own_lt HO.out (HE.out.trans e); have := H1.out.ha; omega
  have c3 := ho1.cell (cell_later HB.out hc) (by simpa using hTa)
  have f3 : w1.frozen? ⟨a, 0, none⟩ = false := by rw [ho1.frozen H1.out.lt.1 (by simpa using hTa)]; exact H1.out.fz 0
  have hlen : xs.length + 1 = (xs ++ [x]).length := by simp
  have hown2 : w1.ownsRow base 9 1 (.slice p2 (xs ++ [x]).length c2) (xs ++ [x]).length ((xs ++ [x]).map Value.string) := by
    rw [← hlen, List.map_append]
    exact hown
  obtain ⟨hT, hO⟩ := H1.out.set0 ho1 hown2 (by
    rw [← hlen]
    rcases hloc with e | e
    · exact .inl e
    · exact .inr ⟨_, e, by simp⟩)
  rw [← hlen] at hT hO
  have HT := Lib.hid hT
  have HOO := Lib.hid hO
  have HL := Lib.hid hloc
  clear hown hown2 hgrow hloc ho1 hT hO hlen
  go_wp2
  go_end0
  refine ⟨rfl, _, ?_, HT.out, (Only.of_below HB.out).trans HOO.out⟩
  rcases HL.out with e | e
  · exact .inl e
  · exact .inr ⟨_, e, by simp⟩
set_option maxRecDepth 100000 in
set_option maxHeartbeats 800000 in
theorem lenS_any (h : TrailSAt W a base T M xs ms) : Calls Try.prog 34 #[.pointer (some ⟨a, 0, none⟩)] W fun e w' => e = .returned (.int .i64 xs.length) ∧ w' = W := by
  obtain ⟨p, c, c1, e1, o1⟩ := h.ct
  clear h e1 o1
  generalize xs.length = n at *
  go_enter Try.func34, Try.ntmps34
  go_wp2
  go_ret
  exact ⟨rfl, rfl⟩
set_option maxRecDepth 100000 in
set_option maxHeartbeats 800000 in
theorem levelS_any (h : TrailSAt W a base T M xs ms) : Calls Try.prog 35 #[.pointer (some ⟨a, 0, none⟩)] W fun e w' => e = .returned (.int .i64 ms.length) ∧ w' = W := by
  obtain ⟨p, c, c1, e1, o1⟩ := h.cm
  clear h e1 o1
  generalize ms.length = n at *
  go_enter Try.func35, Try.ntmps35
  go_wp2
  go_ret
  exact ⟨rfl, rfl⟩
set_option maxRecDepth 100000 in
set_option maxHeartbeats 1600000 in
theorem markS_any (h : TrailSAt W a base T M xs ms) (hx : ms.length ≤ 1000000) (hx2 : xs.length ≤ 1000000) :
    Calls Try.prog 30 #[.pointer (some ⟨a, 0, none⟩)] W fun e w' => e = .returned (.int .i64 ms.length) ∧ ∃ M', (M' = M ∨ ∃ k, M' = some k ∧ W.heap.size ≤ k) ∧ TrailSAt w' a base T M' xs (ms ++ [xs.length]) ∧ Only (fun k => k = a ∨ M = some k) W w' := by
  obtain ⟨i0, hi, hz0, hz1, hz2⟩ := info3
  have hB : Below W.heap.size W (W.alloc (.cells #[.int .i64 (xs.length : Int)] 3)).drew := (below1 W (.cells #[.int .i64 (xs.length : Int)] 3)).drew
  have h1 := h.later hB
  obtain ⟨p, c, c1, e1, o1⟩ := h.cm
  obtain ⟨q, d, d1, x8, x9⟩ := h.ct
  have o2 := own_later o1 hB
  have HB := Lib.hid hB
  have H1 := Lib.hid h1
  have HO := Lib.hid o2
  have HE := Lib.hid e1
  have HC := Lib.hid (cell_later hB c1)
  have hal := h.lt.1
  have hbb := h1.hb
  have HMA := Lib.hid (show ¬ M = some a from fun e => by have := h.lt.2.2 a e; have := h.ha; omega)
  clear h h1 hB o1 e1 o2 x8 x9
  go_enter Try.func30, Try.ntmps30
  go_wp2_with fail
  go_region_law (rw [if_pos (by rfl)]; refine wp_append_own_at _ _ 46 rfl base 3 i0 (.int .i64 0) 1 8 Try.underlying46 hi hz0 hz1 hz2 rfl (by omega) (.slice p ms.length c) ms.length (ms.map fun (n : Nat) => Value.int .i64 n) rfl HO.out ⟨W.heap.size, 0, none⟩ 1 1 [.int .i64 (xs.length : Int)] rfl rfl (by intro jj u hjj; rw [Lib.add_plain]; match jj, hjj with | 0, hjj => cases hjj; simp [go_sem]) (by intro u hu; simp at hu; rcases hu with rfl; rfl) (by have hml : maxLen = 9223372036854775807 := rfl; omega) (by omega) hbb ?_; intro v' w1 hown hgrow _ hloc; obtain ⟨p2, c2, hv, _⟩ := own_shape hown; subst hv; rw [HE.out] at hgrow hloc; have ho1 := Only.of_grown hgrow; have c3 := ho1.cell HC.out HMA.out; have f3 : w1.frozen? ⟨a, 1, none⟩ = false := (ho1.frozen (a := ⟨a, 1, none⟩) H1.out.lt.1 HMA.out).trans (H1.out.fz 1); have HSET := Lib.hid (And.intro ho1 (And.intro hown hloc)); clear ho1 hown hloc hgrow)
  all_goals
    obtain ⟨ho1, hown, hloc⟩ := HSET.out
    have hlen : ms.length + 1 = (ms ++ [xs.length]).length := by simp
    have hown2 : w1.ownsRow base 3 1 (.slice p2 (ms ++ [xs.length]).length c2) (ms ++ [xs.length]).length ((ms ++ [xs.length]).map fun (n : Nat) => Value.int .i64 n) := by
      rw [← hlen, List.map_append]
      exact hown
    obtain ⟨hT, hO⟩ := H1.out.set1 ho1 hown2 (by
      rw [← hlen]
      rcases hloc with e | e
      · exact .inl e
      · exact .inr ⟨_, e, by simp⟩)
    rw [← hlen] at hT hO
    have HT := Lib.hid hT
    have HOO := Lib.hid hO
    have HL := Lib.hid hloc
    clear hown hown2 hloc ho1 hT hO hlen HSET
    go_wp2_with fail
    go_ret
    refine ⟨rfl, _, ?_, HT.out, (Only.of_below HB.out).trans HOO.out⟩
    rcases HL.out with e | e
    · exact .inl e
    · exact .inr ⟨_, e, HB.out.size⟩
end
end Go.Proofs.Ytpnchmelaonfiaa
