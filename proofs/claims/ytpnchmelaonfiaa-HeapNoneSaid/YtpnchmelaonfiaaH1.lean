/- A heap in memory; what compares two. -/
import Derived.Test.YtpnchmelaonfiaaTr1
import Derived.Test.YtpnchmelaonfiaaH0
import Derived.BigRegion
import Derived.RegionTactic
import Derived.Deep.DeepCutAuto
namespace Go.Proofs.Ytpnchmelaonfiaa
open Go Go.RowKit

/-- numbers as cells. -/
def rowN (n : Nat) (O : Nat → Nat) : List Value := (List.range n).map fun i => Value.int .i64 (O i : Int)
theorem rowN_len (n : Nat) (O : Nat → Nat) : (rowN n O).length = n := by simp [rowN]
theorem rowN_get (n : Nat) (O : Nat → Nat) (i : Nat) (hi : i < n) : (rowN n O)[i]? = some (.int .i64 (O i : Int)) := by simp [rowN, hi]
theorem rowN_ext {n : Nat} {O O' : Nat → Nat} (h : ∀ i, i < n → O i = O' i) : rowN n O = rowN n O' := by
  unfold rowN
  refine List.map_congr_left (fun i hi => ?_)
  rw [h i (List.mem_range.1 hi)]
theorem rowN_set (n : Nat) (O : Nat → Nat) (i v : Nat) : (rowN n O).set i (.int .i64 (v : Int)) = rowN n (up1 O i v) := by
  refine List.ext_getElem? (fun j => ?_)
  rw [List.getElem?_set, rowN_len]
  by_cases h : i = j
  · subst h
    by_cases hn : i < n
    · rw [if_pos rfl, if_pos hn, rowN_get n _ i hn, up1_same]
    · rw [if_pos rfl, if_neg hn]
      rw [List.getElem?_eq_none (by rw [rowN_len]; omega)]
  · rw [if_neg h]
    by_cases hn : j < n
    · rw [rowN_get n _ j hn, rowN_get n _ j hn, up1_ne O v (Ne.symm h)]
    · rw [List.getElem?_eq_none (by rw [rowN_len]; omega), List.getElem?_eq_none (by rw [rowN_len]; omega)]
theorem rowN_succ (n : Nat) (O : Nat → Nat) (v : Nat) : rowN n O ++ [.int .i64 (v : Int)] = rowN (n + 1) (up1 O n v) := by
  have h : rowN (n + 1) (up1 O n v) = rowN n (up1 O n v) ++ [.int .i64 ((up1 O n v n : Nat) : Int)] := by simp [rowN, List.range_succ]
  rw [h, up1_same]
  congr 1
  exact rowN_ext (fun i hi => (up1_ne O v (by omega)).symm)
theorem rowN_take (n : Nat) (O : Nat → Nat) (k : Nat) (h : k ≤ n) : (rowN n O).take k = rowN k O := by
  refine List.ext_getElem? (fun j => ?_)
  by_cases hj : j < k
  · rw [List.getElem?_take_of_lt hj, rowN_get n O j (by omega), rowN_get k O j hj]
  · rw [List.getElem?_eq_none (by rw [List.length_take, rowN_len]; omega), List.getElem?_eq_none (by rw [rowN_len]; omega)]
/-- a cell of an own row is written. -/
theorem own_set {w : World} {base n c : Nat} {e : TypeId} {g : Nat} {xs : List Value} (h : w.ownsRow base e 1 (.slice (some ⟨g, 0, none⟩) n c) n xs) (i : Nat) (u : Value) : (w.setCell ⟨g, i, none⟩ u).ownsRow base e 1 (.slice (some ⟨g, 0, none⟩) n c) n (xs.set i u) := by
  obtain ⟨h0, ⟨h1, _⟩ | ⟨g', cap, cur, hv, hg, hh, hn, hm, hs, ht⟩⟩ := h
  · cases h1
  · cases hv
    refine ⟨by rw [List.length_set]; exact h0, .inr ⟨g, c, cur.setIfInBounds i u, rfl, hg, ?_, hn, hm, by rw [Array.size_setIfInBounds]; exact hs, ?_⟩⟩
    · unfold World.setCell
      simp only [Option.isSome_none, Bool.false_eq_true, if_false]
      rw [Array.getElem?_modify, if_pos rfl, hh]
      rfl
    · rw [← ht, Array.toList_setIfInBounds, List.take_set]
theorem own_cut {w : World} {base n k c : Nat} {e : TypeId} {g : Nat} {xs : List Value} (h : w.ownsRow base e 1 (.slice (some ⟨g, 0, none⟩) n c) n xs) (hk : k ≤ n) : w.ownsRow base e 1 (.slice (some ⟨g, 0, none⟩) k c) k (xs.take k) := by
  obtain ⟨h0, ⟨h1, _⟩ | ⟨g', cap, cur, hv, hg, hh, hn, hm, hs, ht⟩⟩ := h
  · cases h1
  · cases hv
    refine ⟨by rw [List.length_take]; omega, .inr ⟨g, c, cur, rfl, hg, hh, by omega, hm, hs, ?_⟩⟩
    rw [← ht, List.take_take]
    congr 1
    omega
theorem own_cell {w : World} {base n c : Nat} {e : TypeId} {g : Nat} {xs : List Value} (h : w.ownsRow base e 1 (.slice (some ⟨g, 0, none⟩) n c) n xs) (i : Nat) (u : Value) (hu : xs[i]? = some u) : w.cell? ⟨g, i, none⟩ = some u ∧ w.frozen? ⟨g, i, none⟩ = false := by
  obtain ⟨h0, ⟨h1, _⟩ | ⟨g', cap, cur, hv, hg, hh, hn, hm, hs, ht⟩⟩ := h
  · cases h1
  · cases hv
    have hlt := (List.getElem?_eq_some_iff.1 hu).1
    rw [← ht, List.getElem?_take_of_lt (by omega)] at hu
    have e' : cur[i]? = some u := by simpa using hu
    exact ⟨by simp [World.cell?, hh, e'], by simp [World.frozen?, hh]⟩
/-- a heap: its struct in block a, weights in bw, places in bp, the order in a row from base on. -/
structure HeapAt (W : World) (a bw bp base n : Nat) (R : Option Nat) (len : Nat) (Wt : Nat → Int) (P O : Nat → Nat) : Prop where
  cw : ∃ c, W.cell? ⟨a, 0, none⟩ = some (.slice (some ⟨bw, 0, none⟩) n c)
  cp : ∃ c, W.cell? ⟨a, 1, none⟩ = some (.slice (some ⟨bp, 0, none⟩) n c)
  co : ∃ p c, W.cell? ⟨a, 2, none⟩ = some (.slice p len c) ∧ (Value.slice p len c).ownBlock = R ∧ W.ownsRow base 3 1 (.slice p len c) len (rowN len O)
  hw : ∀ i, i < n → W.cell? ⟨bw, i, none⟩ = some (.int .i64 (Wt i)) ∧ W.frozen? ⟨bw, i, none⟩ = false
  hp : ∀ i, i < n → W.cell? ⟨bp, i, none⟩ = some (.int .i64 (P i : Int)) ∧ W.frozen? ⟨bp, i, none⟩ = false
  fz : ∀ o, W.frozen? ⟨a, o, none⟩ = false
  d1 : a ≠ bw
  d2 : a ≠ bp
  d3 : bw ≠ bp
  la : a < base
  lw : bw < base
  lp : bp < base
  hb : base ≤ W.heap.size
/-- the blocks of a heap. -/
def HB (a bw bp : Nat) (R : Option Nat) (k : Nat) : Prop := k = a ∨ k = bw ∨ k = bp ∨ R = some k
theorem HeapAt.only {W W' : World} {a bw bp base n : Nat} {R : Option Nat} {len : Nat} {Wt : Nat → Int} {P O : Nat → Nat} {S : Nat → Prop} (h : HeapAt W a bw bp base n R len Wt P O) (ho : Only S W W') (hS : ∀ k, HB a bw bp R k → ¬ S k) : HeapAt W' a bw bp base n R len Wt P O := by
  obtain ⟨c1, h1⟩ := h.cw
  obtain ⟨c2, h2⟩ := h.cp
  obtain ⟨p, c3, h3, e3, o3⟩ := h.co
  have al : a < W.heap.size := World.block_lt_of_cell? W _ h1
  have na := hS a (.inl rfl)
  have nw := hS bw (.inr (.inl rfl))
  have np := hS bp (.inr (.inr (.inl rfl)))
  refine ⟨⟨c1, ho.cell h1 na⟩, ⟨c2, ho.cell h2 na⟩, ⟨p, c3, ho.cell h3 na, e3, own_only o3 ho (fun k hk => hS k (.inr (.inr (.inr (by rw [← e3]; exact hk)))))⟩, fun i hi => ⟨ho.cell (h.hw i hi).1 nw, ?_⟩, fun i hi => ⟨ho.cell (h.hp i hi).1 np, ?_⟩, fun o => ?_, h.d1, h.d2, h.d3, h.la, h.lw, h.lp, Nat.le_trans h.hb ho.size⟩
  · rw [ho.frozen (World.block_lt_of_cell? W _ (h.hw i hi).1) nw]; exact (h.hw i hi).2
  · rw [ho.frozen (World.block_lt_of_cell? W _ (h.hp i hi).1) np]; exact (h.hp i hi).2
  · rw [ho.frozen al na]; exact h.fz o
theorem HeapAt.later {W W' : World} {a bw bp base n : Nat} {R : Option Nat} {len : Nat} {Wt : Nat → Int} {P O : Nat → Nat} (h : HeapAt W a bw bp base n R len Wt P O) (hb : Below W.heap.size W W') : HeapAt W' a bw bp base n R len Wt P O :=
  h.only (Only.of_below (T := fun _ => False) hb) (fun _ _ h => h)
theorem HeapAt.ext {W : World} {a bw bp base n : Nat} {R : Option Nat} {len : Nat} {Wt : Nat → Int} {P O P' O' : Nat → Nat} (h : HeapAt W a bw bp base n R len Wt P O) (hP : ∀ i, i < n → P i = P' i) (hO : ∀ i, i < len → O i = O' i) : HeapAt W a bw bp base n R len Wt P' O' := by
  obtain ⟨p, c3, h3, e3, o3⟩ := h.co
  exact ⟨h.cw, h.cp, ⟨p, c3, h3, e3, by rw [← rowN_ext hO]; exact o3⟩, h.hw, fun i hi => by rw [← hP i hi]; exact h.hp i hi, h.fz, h.d1, h.d2, h.d3, h.la, h.lw, h.lp, h.hb⟩
theorem HeapAt.row {W : World} {a bw bp base n : Nat} {R : Option Nat} {len : Nat} {Wt : Nat → Int} {P O : Nat → Nat} (h : HeapAt W a bw bp base n R len Wt P O) (hl : 0 < len) : ∃ g c, R = some g ∧ base ≤ g ∧ g < W.heap.size ∧ W.cell? ⟨a, 2, none⟩ = some (.slice (some ⟨g, 0, none⟩) len c) ∧ W.ownsRow base 3 1 (.slice (some ⟨g, 0, none⟩) len c) len (rowN len O) := by
  obtain ⟨p, c, h3, e3, o3⟩ := h.co
  obtain ⟨p', c', hv, hs⟩ := own_shape o3
  cases hv
  cases p with
  | none =>
    rcases o3.2 with ⟨_, h0⟩ | ⟨g, _, _, hv, _⟩
    · omega
    · cases hv
  | some ad =>
    obtain ⟨e, hb⟩ := hs ad rfl
    rw [e] at h3 e3 o3
    have hlt := own_lt o3 (k := ad.block) rfl
    exact ⟨ad.block, c, e3.symm, hb, hlt.2, h3, o3⟩
/-- cmp.Compare. -/
def cmpI (x y : Int) : Int := if x < y then -1 else if y < x then 1 else 0
theorem cmpI_cases (x y : Int) : (x < y ∧ cmpI x y = -1) ∨ (x = y ∧ cmpI x y = 0) ∨ (y < x ∧ cmpI x y = 1) := by
  unfold cmpI
  rcases Int.lt_trichotomy x y with h | h | h
  · exact .inl ⟨h, if_pos h⟩
  · exact .inr (.inl ⟨h, by rw [if_neg (by omega), if_neg (by omega)]⟩)
  · exact .inr (.inr ⟨h, by rw [if_neg (by omega), if_pos h]⟩)
set_option maxRecDepth 100000 in
set_option maxHeartbeats 800000 in
theorem compare64_any (x y : Int) (w : World) : Calls Try.prog 59 #[.int .i64 x, .int .i64 y] w fun e w' => e = .returned (.int .i64 (cmpI x y)) ∧ w' = w := by
  rcases cmpI_cases x y with ⟨h, hc⟩ | ⟨h, hc⟩ | ⟨h, hc⟩
  · have q1 : decide (x < y) = true := by rw [decide_eq_true_eq]; exact h
    rw [hc]
    clear hc
    go_enter Try.func59, Try.ntmps59
    go_wp2
    go_ret
    exact ⟨rfl, rfl⟩
  · subst h
    rw [hc]
    clear hc
    go_enter Try.func59, Try.ntmps59
    go_wp2
    go_ret
    exact ⟨rfl, rfl⟩
  · have q1 : decide (x < y) = false := by rw [decide_eq_false_iff_not]; omega
    have q2 : decide (y < x) = true := by rw [decide_eq_true_eq]; exact h
    rw [hc]
    clear hc
    go_enter Try.func59, Try.ntmps59
    go_wp2
    go_ret
    exact ⟨rfl, rfl⟩
set_option maxRecDepth 100000 in
set_option maxHeartbeats 800000 in
theorem compareint_any (x y : Int) (w : World) : Calls Try.prog 60 #[.int .i64 x, .int .i64 y] w fun e w' => e = .returned (.int .i64 (cmpI x y)) ∧ w' = w := by
  rcases cmpI_cases x y with ⟨h, hc⟩ | ⟨h, hc⟩ | ⟨h, hc⟩
  · have q1 : decide (x < y) = true := by rw [decide_eq_true_eq]; exact h
    rw [hc]
    clear hc
    go_enter Try.func60, Try.ntmps60
    go_wp2
    go_ret
    exact ⟨rfl, rfl⟩
  · subst h
    rw [hc]
    clear hc
    go_enter Try.func60, Try.ntmps60
    go_wp2
    go_ret
    exact ⟨rfl, rfl⟩
  · have q1 : decide (x < y) = false := by rw [decide_eq_false_iff_not]; omega
    have q2 : decide (y < x) = true := by rw [decide_eq_true_eq]; exact h
    rw [hc]
    clear hc
    go_enter Try.func60, Try.ntmps60
    go_wp2
    go_ret
    exact ⟨rfl, rfl⟩
set_option maxRecDepth 100000 in
set_option maxHeartbeats 800000 in
theorem or_any (b c : Nat) (x y : Int) (w : World) (h0 : w.cell? ⟨b, 0, none⟩ = some (.int .i64 x)) (h1 : w.cell? ⟨b, 1, none⟩ = some (.int .i64 y)) :
    Calls Try.prog 58 #[.slice (some ⟨b, 0, none⟩) 2 c] w fun e w' => e = .returned (.int .i64 (if x = 0 then y else x)) ∧ w' = w := by
  by_cases hx : x = 0
  · subst hx
    rw [if_pos rfl]
    by_cases hy : y = 0
    · subst hy
      go_enter Try.func58, Try.ntmps58
      go_wp2
      refine wp_loop_rounds 3 ?_
      rw [rounds_succ]
      go_wp2
      rw [rounds_succ]
      go_wp2
      rw [rounds_succ]
      go_wp2
      go_ret
      exact ⟨rfl, rfl⟩
    · have q1 : (y == 0) = false := by rw [beq_eq_false_iff_ne]; exact hy
      have q2 : (y != 0) = true := by simp [hy]
      go_enter Try.func58, Try.ntmps58
      go_wp2
      refine wp_loop_rounds 3 ?_
      rw [rounds_succ]
      go_wp2
      rw [rounds_succ]
      go_wp2
      go_ret
      exact ⟨rfl, rfl⟩
  · rw [if_neg hx]
    have q1 : (x == 0) = false := by rw [beq_eq_false_iff_ne]; exact hx
    have q2 : (x != 0) = true := by simp [hx]
    go_enter Try.func58, Try.ntmps58
    go_wp2
    refine wp_loop_rounds 3 ?_
    rw [rounds_succ]
    go_wp2
    go_ret
    exact ⟨rfl, rfl⟩
theorem or_new (x y : Int) (w : World) : Calls Try.prog 58 #[.slice (some ⟨w.heap.size, 0, none⟩) 2 2] (w.alloc (.cells #[.int .i64 x, .int .i64 y] 3)) fun e w' => e = .returned (.int .i64 (if x = 0 then y else x)) ∧ w' = w.alloc (.cells #[.int .i64 x, .int .i64 y] 3) :=
  or_any w.heap.size 2 x y _ (by simp [go_sem]) (by simp [go_sem])
/-- who comes first. -/
def cmpH (W : Nat → Int) (i j : Nat) : Int := if cmpI (W j) (W i) = 0 then cmpI i j else cmpI (W j) (W i)
theorem cmpH_lt (W : Nat → Int) (i j : Nat) : cmpH W i j < 0 ↔ Ahead W i j := by
  unfold cmpH Ahead
  have h1 := cmpI_cases (W j) (W i)
  have h2 := cmpI_cases i j
  split <;> omega
theorem cmpH_le (W : Nat → Int) (i j : Nat) : cmpH W i j ≤ 0 ↔ ¬ Ahead W j i := by
  unfold cmpH Ahead
  have h1 := cmpI_cases (W j) (W i)
  have h2 := cmpI_cases i j
  split <;> omega
end Go.Proofs.Ytpnchmelaonfiaa
