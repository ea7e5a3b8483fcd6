/- Calls on both tables. -/
import Derived.Test.YtkjmmdffelhkiaaS17
import Derived.Test.YtkjmmdffelhkiaaS23
namespace Go.Proofs.Ytkjmmdffelhkiaa
open Go Go.RowKit Go.Maps

variable {W : World} {K : Nat → Nat} {base c r : Nat} {T : Tab}
set_option maxRecDepth 100000 in
set_option maxHeartbeats 2000000 in
theorem clone_ints57 (b off n c : Nat) (news : List Value) (w : World) (hl : news.length = n) (hn : n ≤ 17592186044415)
    (hc : ∀ j u, news[j]? = some u → w.cell? ⟨b, off + j, none⟩ = some u) (h1 : ∀ u ∈ news, u.oneCell' = true) :
    Calls Try.prog 57 #[.slice (some ⟨b, off, none⟩) n c] w fun e w' => ∃ v', e = .returned v' ∧ w'.ownsRow w.heap.size 3 1 v' n news ∧ v' ≠ .slice none 0 0 ∧ Below w.heap.size w w' := by
  have q22 : ∀ (w : World) (a : Option Addr) (n c n' c' : Nat), (binOp .eql 39 (.slice a n c) (.slice none n' c')).run Try.prog w = .ok (.bool a.isNone) w := fun w a n c n' c' => Lib.run_eql_slice_nil w _ _ a n c n' c' Try.underlying39
  have A := Lib.hid hc
  clear hc
  obtain ⟨i0, hi, hz0, hz1, hz2⟩ := info_of (e := 3) (z := .int .i64 0) (s := 1) (b := 8) (by kernel_rfl)
  have hcc : ∀ j u, news[j]? = some u → (w.alloc (.cells #[] 3)).cell? ⟨b, off + j, none⟩ = some u := fun j u hu => cell_later (below1 w _) (A.out j u hu)
  have HCC := Lib.hid hcc
  clear hcc A
  go_enter Try.func57, Try.ntmps57
  go_wp2_with (at_builtin; refine wpList_append_own _ rfl _ _ 39 rfl w.heap.size 3 i0 (.int .i64 0) 1 8 Try.underlying39 hi hz0 hz1 hz2 rfl (by omega) _ _ _ rfl (World.ownsRow_made w #[] 0 (Nat.le_refl _) (Nat.zero_le _) (by simp)) ⟨b, off, none⟩ n c news rfl ?qc1 ?qc2 ?qc3 ?qc4 ?qc5 ?qc6 ?_)
  case qc1 => omega
  case qc2 =>
    intro j u hj
    rw [show (⟨b, off, none⟩ : Addr).add j = ⟨b, off + j, none⟩ from Lib.add_plain _ _ _]
    exact HCC.out j u hj
  case qc3 => exact h1
  case qc4 => rw [Nat.zero_add]; unfold maxLen; omega
  case qc5 => rw [Nat.zero_add]; omega
  case qc6 => simp
  intro v' w1 hown hgrow hnil
  go_wp2
  go_ret
  refine ⟨v', rfl, by simpa using hown, ?_, ?_⟩
  · exact hnil
  · exact ((Below.refl _ w).alloc (Nat.le_refl _) _).grown hgrow (by simp) (by intro k hk; simp [Value.ownBlock] at hk; omega)
set_option maxRecDepth 100000 in
set_option maxHeartbeats 800000 in
theorem clone_zero57 (ad : Addr) (c : Nat) (w : World) :
    Calls Try.prog 57 #[.slice (some ad) 0 c] w fun e w' => ∃ v', e = .returned v' ∧ w'.ownsRow w.heap.size 3 1 v' 0 [] ∧ Below w.heap.size w w' := by
  have q22 : ∀ (w : World) (a : Option Addr) (n c n' c' : Nat), (binOp .eql 39 (.slice a n c) (.slice none n' c')).run Try.prog w = .ok (.bool a.isNone) w := fun w a n c n' c' => Lib.run_eql_slice_nil w _ _ a n c n' c' Try.underlying39
  obtain ⟨i0, hi, hz0, hz1, hz2⟩ := info_of (e := 3) (z := .int .i64 0) (s := 1) (b := 8) (by kernel_rfl)
  go_enter Try.func57, Try.ntmps57
  go_wp2_with (at_builtin; refine wpList_append_own _ rfl _ _ 39 rfl w.heap.size 3 i0 (.int .i64 0) 1 8 Try.underlying39 hi hz0 hz1 hz2 rfl (by omega) _ _ _ rfl (World.ownsRow_made w #[] 0 (Nat.le_refl _) (Nat.zero_le _) (by simp)) ad 0 c [] rfl rfl (fun j u hj => by simp at hj) (fun u hu => by simp at hu) ?qc4 ?qc5 ?qc6 ?_)
  case qc4 => rw [Nat.zero_add]; unfold maxLen; omega
  case qc5 => omega
  try (case qc6 => simp)
  intro v' w1 hown hgrow hnil
  go_wp2
  go_ret
  exact ⟨v', rfl, by simpa using hown, ((Below.refl _ w).alloc (Nat.le_refl _) _).grown hgrow (by simp) (by intro k hk; simp [Value.ownBlock] at hk; omega)⟩
set_option maxRecDepth 100000 in
theorem clone_nil57 (c : Nat) (w : World) :
    Calls Try.prog 57 #[.slice none 0 c] w fun e w' => e = .returned (.slice none 0 0) ∧ w' = w := by
  have q22 : ∀ (w : World) (a : Option Addr) (n c n' c' : Nat), (binOp .eql 39 (.slice a n c) (.slice none n' c')).run Try.prog w = .ok (.bool a.isNone) w := fun w a n c n' c' => Lib.run_eql_slice_nil w _ _ a n c n' c' Try.underlying39
  go_enter Try.func57, Try.ntmps57
  go_wp2
  go_ret
  exact ⟨rfl, rfl⟩
theorem clone_any57 (p : Option Addr) (n c : Nat) (V : Nat → Int) (w : World) (hV : IntsIn w p n V) (hn : n ≤ 1000000) :
    Calls Try.prog 57 #[.slice p n c] w fun e w' => ∃ v', e = .returned v' ∧ w'.ownsRow w.heap.size 3 1 v' n (rowV n V) ∧ Below w.heap.size w w' := by
  by_cases h0 : n = 0
  · subst h0
    cases p with
    | none =>
      refine (clone_nil57 c w).mono ?_
      rintro e w' ⟨rfl, rfl⟩
      exact ⟨_, rfl, ⟨by simp [rowV], .inl ⟨rfl, rfl⟩⟩, Below.refl _ _⟩
    | some ad => exact clone_zero57 ad c w
  · obtain ⟨b, off, rfl, hE⟩ := hV (by omega)
    refine (clone_ints57 b off n c (rowV n V) w (rowV_len n V) (by omega) (fun j u hj => ?_) (fun u hu => ?_)).mono ?_
    · have hjn : j < n := by
        have := (List.getElem?_eq_some_iff.1 hj).1
        simpa [rowV_len] using this
      rw [hE j hjn]
      rwa [rowV_get n V j hjn] at hj
    · obtain ⟨x, _, rfl⟩ := List.mem_map.1 hu
      rfl
    · rintro e w' ⟨v', he, ho, _, hb⟩
      exact ⟨v', he, ho, hb⟩
theorem row_eq (l : List Nat) (g : Nat → Int) : rowV l.length (fun i => g (l.getD i 0)) = l.map fun j => Value.int .i64 (g j) := by
  refine List.ext_getElem? (fun i => ?_)
  by_cases h : i < l.length
  · rw [rowV_get _ _ i h, List.getElem?_map, List.getElem?_eq_getElem h]
    simp [List.getD, List.getElem?_eq_getElem h]
  · rw [List.getElem?_eq_none (by rw [rowV_len]; omega), List.getElem?_eq_none (by rw [List.length_map]; omega)]
set_option maxRecDepth 100000 in
set_option maxHeartbeats 1600000 in
theorem sorts_any (h : TabAt W K base c T) (g : Good T) : Calls Try.prog 16 #[.pointer (some ⟨c, 0, none⟩)] W fun e w' => ∃ v', e = .returned v' ∧ w'.ownsRow W.heap.size 33 1 v' T.sorts.length (T.sorts.map sV) ∧ Below W.heap.size W w' := by
  obtain ⟨p, z, x2, o2⟩ := h.row2
  obtain ⟨p', z', e, hI⟩ := row_ints (g := fun j => 2 + (j : Int)) o2
  cases e
  have HC := clone_any p T.sorts.length z _ W hI (by have := g.b1; have := g.b4; omega)
  rw [row_eq T.sorts (fun j => 2 + (j : Int))] at HC
  clear h o2 hI
  go_enter Try.func16, Try.ntmps16
  go_wp2_with fail
  refine HC.mono ?_
  rintro e w' ⟨v', rfl, ho, hb⟩
  have HO := Lib.hid (And.intro ho hb)
  clear ho hb HC
  go_wp2_with fail
  go_ret
  exact ⟨_, rfl, HO.out.1, HO.out.2⟩
set_option maxRecDepth 100000 in
set_option maxHeartbeats 1600000 in
theorem funs_any (h : TabAt W K base c T) (g : Good T) : Calls Try.prog 17 #[.pointer (some ⟨c, 0, none⟩)] W fun e w' => ∃ v', e = .returned v' ∧ w'.ownsRow W.heap.size 3 1 v' T.funs.length (T.funs.map nV) ∧ Below W.heap.size W w' := by
  obtain ⟨p, z, x2, o2⟩ := h.row3
  obtain ⟨p', z', e, hI⟩ := row_ints (g := fun j => (j : Int)) o2
  cases e
  have HC := clone_any57 p T.funs.length z _ W hI (by have := g.b2; have := g.b5; omega)
  rw [row_eq T.funs (fun j => (j : Int))] at HC
  clear h o2 hI
  go_enter Try.func17, Try.ntmps17
  go_wp2_with fail
  refine HC.mono ?_
  rintro e w' ⟨v', rfl, ho, hb⟩
  have HO := Lib.hid (And.intro ho hb)
  clear ho hb HC
  go_wp2_with fail
  go_ret
  exact ⟨_, rfl, HO.out.1, HO.out.2⟩
set_option maxRecDepth 100000 in
theorem level_any (h : TabAt W K base c T) : Calls Try.prog 18 #[.pointer (some ⟨c, 0, none⟩)] W fun e w' => e = .returned (.int .i64 (T.scopes.length : Int)) ∧ w' = W := by
  obtain ⟨p, z, x2, o2⟩ := h.row6
  clear h o2
  go_enter Try.func18, Try.ntmps18
  go_wp2_with fail
  go_ret
  exact ⟨rfl, rfl⟩
set_option maxRecDepth 100000 in
set_option maxHeartbeats 1600000 in
theorem sortName_any (h : TabAt W K base c T) (g : Good T) (j : Nat) (s : ByteArray) (hj : T.names[j]? = some s) : Calls Try.prog 21 #[.pointer (some ⟨c, 0, none⟩), .int .i64 (2 + (j : Int))] W fun e w' => e = .returned (.tuple #[.string s, .int .i64 0]) ∧ w' = W := by
  have HR := ready_at h
  have hjn := (List.getElem?_eq_some_iff.1 hj).1
  have hb1 := g.b1
  obtain ⟨p, z, x0, o0⟩ := h.row0
  obtain ⟨q, z', e⟩ := own_some o0 (by omega)
  cases e
  have cj := (own_cell o0 j (.string s) (by rw [List.getElem?_map, hj]; rfl)).1
  have q0 : (2 + (j : Int) == 0) = false := by rw [beq_eq_false_iff_ne]; omega
  have q1 : (2 + (j : Int) == 1) = false := by rw [beq_eq_false_iff_ne]; omega
  have q2 : decide (2 + (j : Int) < 2) = false := by rw [decide_eq_false_iff_not]; omega
  have e2 : 2 + (j : Int) - 2 = (j : Int) := by omega
  have hj0 : (0 : Int) ≤ (j : Int) := by omega
  have hj1 : (j : Int) < (T.names.length : Int) := by omega
  have q3 : decide ((T.names.length : Int) ≤ (j : Int)) = false := by rw [decide_eq_false_iff_not]; omega
  clear h o0 hj
  go_enter Try.func21, Try.ntmps21
  go_wp2_with fail
  refine HR.mono ?_
  rintro e w1 ⟨rfl, hw⟩
  obtain rfl := hw.symm
  clear HR
  go_wp2_with fail
  go_ret2
  exact ⟨rfl, rfl⟩
structure StepX (W W' : World) (K K' : Nat → Nat) : Prop where
  only : Only (fun k => K k ≠ 0) W W'
  ext : Ext K K' W.heap.size
theorem StepX.trans {A B C : World} {K L M : Nat → Nat} (h : StepX A B K L) (k : StepX B C L M) : StepX A C K M :=
  ⟨h.only.comp k.only (fun _ _ h => h) (fun i hi hn => by rw [h.ext i hi] at hn; exact hn), h.ext.trans k.ext h.only.size⟩
theorem StepX.below {W W' : World} {K : Nat → Nat} (hb : Below W.heap.size W W') : StepX W W' K K := ⟨Only.of_below hb, Ext.refl _ _⟩
theorem StepT.x {W W' : World} {K K' : Nat → Nat} (h : StepT W W' K K') : StepX W W' K K' := ⟨h.only.mono (fun k _ e => by omega), h.ext⟩
theorem StepR.x {W W' : World} {K K' : Nat → Nat} (h : StepR W W' K K') : StepX W W' K K' := ⟨h.only.mono (fun k _ e => by omega), h.ext⟩
theorem StepX.toBelow {W' : World} {K' : Nat → Nat} (h : StepX W W' K K') (ht : TabAt W K base c T) : Below base W W' :=
  h.only.below (fun k hk => by
    rcases Nat.lt_or_ge k base with h1 | h1
    · exact absurd (ht.lo k h1) hk
    · exact h1) (Nat.le_trans ht.base_lt (Nat.le_of_lt ht.lt))
theorem StepX.keep {W W' : World} {K K' : Nat → Nat} (h : StepX W W' K K') {a : Addr} {v : Value} (hc : W.cell? a = some v) (h0 : K a.block = 0) : W'.cell? a = some v := h.only.cell hc (fun e => e h0)
def PopR (T T' : Tab) (n : Int) : Prop := ∃ (l a b : Nat) (g1 : Lit → Option Value) (n1 : Nat) (g2 : Lit → Option Value) (n2 : Nat), 0 < n ∧ (l : Int) = T.scopes.length - n ∧ T.scopes[l]? = some (a, b) ∧ T' = cutT T l a b g1 n1 g2 n2
def Rel (T T' : Tab) (kd n : Int) : Prop := T' = T ∨ (∃ N, T' = addS T N) ∨ (∃ x, T' = addF T x) ∨ T' = addP T ∨ (kd = 3 ∧ PopR T T' n)
def DoP (T : Tab) (kd n : Int) (base c r : Nat) (K : Nat → Nat) (W : World) (e : Ending) (w' : World) : Prop :=
  ∃ b K' T', e = .returned (.bool b) ∧ TabAt w' K' base c T' ∧ Good T' ∧ RefAt w' K' r ∧ StepX W w' K K' ∧ Rel T T' kd n
theorem row_step {W W' : World} {K K' : Nat → Nat} {e : TypeId} {v : Value} {n : Nat} {xs : List Value} (h : RowAt W K 0 e 1 v n xs) (hs : StepX W W' K K') : RowAt W' K' 0 e 1 v n xs := h.only hs.only hs.ext (fun k e1 e2 => e2 e1)
theorem row_set {W : World} {K : Nat → Nat} {e : TypeId} {g n z : Nat} {xs : List Value} (h : RowAt W K 0 e 1 (.slice (some ⟨g, 0, none⟩) n z) n xs) (i : Nat) (u : Value) : RowAt (W.setCell ⟨g, i, none⟩ u) K 0 e 1 (.slice (some ⟨g, 0, none⟩) n z) n (xs.set i u) := ⟨own_set h.own i u, h.tg⟩
def opA (kd n : Int) (x : Info) : Value := .agg #[.int .i64 kd, .int .i64 n, .string x.N, .slice x.P x.L x.C, .int .i64 x.R, .bool x.D]
set_option maxRecDepth 100000 in
set_option maxHeartbeats 8000000 in
theorem do_any (h : TabAt W K base c T) (g : Good T) (hr : RefAt W K r) (kd n : Int) (x : Info) (hn : I64 n) (hx : ∀ w', Below base W w' → IntsIn w' x.P x.L x.V) (hs : x.N.size ≤ 100000) (hL : x.L ≤ 100000) (hZ : x.P = none → x.L = 0 ∧ x.C = 0) (hR : I64 x.R) (hV : ∀ k, k < x.L → I64 (x.V k)) :
    Calls Try.prog 15 #[.pointer (some ⟨c, 0, none⟩), .pointer (some ⟨r, 0, none⟩), opA kd n x] W (DoP T kd n base c r K W) := by
  obtain ⟨N, P, L, C, V, R, D⟩ := x
  simp only at hx hs hL hZ hR hV
  unfold opA
  have hb1 := below1 W (.cells #[.int .i64 kd, .int .i64 n, .string N, .slice P L C, .int .i64 R, .bool D] 37)
  have y0 : (W.alloc (.cells #[.int .i64 kd, .int .i64 n, .string N, .slice P L C, .int .i64 R, .bool D] 37)).cell? ⟨W.heap.size, 0, none⟩ = some (.int .i64 kd) := by simp [go_sem]
  have y1 : (W.alloc (.cells #[.int .i64 kd, .int .i64 n, .string N, .slice P L C, .int .i64 R, .bool D] 37)).cell? ⟨W.heap.size, 1, none⟩ = some (.int .i64 n) := by simp [go_sem]
  have y2 : (W.alloc (.cells #[.int .i64 kd, .int .i64 n, .string N, .slice P L C, .int .i64 R, .bool D] 37)).cell? ⟨W.heap.size, 2, none⟩ = some (.string N) := by simp [go_sem]
  have y3 : (W.alloc (.cells #[.int .i64 kd, .int .i64 n, .string N, .slice P L C, .int .i64 R, .bool D] 37)).cell? ⟨W.heap.size, 3, none⟩ = some (.slice P L C) := by simp [go_sem]
  have y4 : (W.alloc (.cells #[.int .i64 kd, .int .i64 n, .string N, .slice P L C, .int .i64 R, .bool D] 37)).cell? ⟨W.heap.size, 4, none⟩ = some (.int .i64 R) := by simp [go_sem]
  have y5 : (W.alloc (.cells #[.int .i64 kd, .int .i64 n, .string N, .slice P L C, .int .i64 R, .bool D] 37)).cell? ⟨W.heap.size, 5, none⟩ = some (.bool D) := by simp [go_sem]
  have HKB := Lib.hid (show K W.heap.size = 0 from h.fr _ (Nat.le_refl _))
  have HT := Lib.hid (h.later hb1)
  have HRF := Lib.hid (hr.later hb1)
  have HX := Lib.hid hx
  have HT0 := Lib.hid (show ∀ (w' : World) (K' : Nat → Nat), StepX W w' K K' → Below base W w' from fun _ _ hs => hs.toBelow h)
  have HFR := Lib.hid (show ∀ k, W.heap.size < k → K k = 0 from fun k hk => h.fr k (Nat.le_of_lt hk))
  have HS1 := Lib.hid (StepX.below (K := K) hb1)
  have HG := Lib.hid g
  have HZ := Lib.hid hZ
  have HR := Lib.hid hR
  have HV := Lib.hid hV
  have HN := Lib.hid hn
  clear h hr hx hb1 hZ hR hV hn g
  go_enter Try.func15, Try.ntmps15
  go_upto_region 1 with (fail)
  generalize W.alloc (.cells #[.int .i64 kd, .int .i64 n, .string N, .slice P L C, .int .i64 R, .bool D] 37) = w1 at *
  generalize hbb : W.heap.size = bb at *
  have HWS := Lib.hid hbb
  clear hbb
  have HK := Lib.hid (show kd = 0 ∨ kd = 1 ∨ kd = 2 ∨ kd = 3 ∨ (kd ≠ 0 ∧ kd ≠ 1 ∧ kd ≠ 2 ∧ kd ≠ 3) by omega)
  rcases HK.out with rfl | rfl | rfl | rfl | ⟨k0, k1, k2, k3⟩
  · have H1 := declareSort_any HT.out HG.out N hs
    go_wp2_with fail
    refine H1.mono ?_
    rintro e w2 ⟨K2, T2, s1, er1, rfl, ht, hg, hst, hp⟩
    replace y2 := hst.keep y2 HKB.out
    have hrel : Rel T T2 0 n := by
      rcases hp with ⟨_, e, _⟩ | ⟨_, _, _, e⟩
      · exact .inl e
      · exact .inr (.inl ⟨N, e⟩)
    have H2 := refSort_any ht (HRF.out.step hst) N hs
    have HS2 := Lib.hid (HS1.out.trans hst.x)
    have HG2 := Lib.hid (And.intro hg hrel)
    clear ht hg hst hp hrel H1
    go_wp2_with fail
    refine H2.mono ?_
    rintro e w3 ⟨K3, s2, er2, rfl, ht, hrf, hst⟩
    have HQ := Lib.hid (And.intro ht (And.intro hrf (HS2.out.trans hst.x)))
    clear ht hrf hst H2
    go_wp2_with fail
    all_goals
      go_ret
      exact ⟨_, K3, T2, rfl, HQ.out.1, HG2.out.1, HQ.out.2.1, HQ.out.2.2, HG2.out.2⟩
  · have HC := copied_any ⟨N, P, L, C, V, R, D⟩ w1 (HX.out _ (HT0.out _ _ HS1.out)) hL HZ.out
    unfold infoA at HC
    simp only at HC
    have hw1 : bb < w1.heap.size := World.block_lt_of_cell? _ _ y0
    go_wp2_with fail
    refine HC.mono ?_
    rintro e w2 ⟨P4, C4, rfl, hI4, hb4, h94, ho4⟩
    clear HC
    have hbx := below1 w2 (.cells #[.string N, .slice P4 L C4, .int .i64 R, .bool D] 35)
    have hb3 := chain hb4 hbx
    have z1 : (w2.alloc (.cells #[.string N, .slice P4 L C4, .int .i64 R, .bool D] 35)).cell? ⟨w2.heap.size, 1, none⟩ = some (.slice P4 L C4) := by simp [go_sem]
    have H1 := declareFun_any (HT.out.later hb3) HG.out ⟨N, P4, L, C4, V, R, D⟩ (hI4.later hbx) hs hL
    have hrow : RowAt (w2.alloc (.cells #[.string N, .slice P4 L C4, .int .i64 R, .bool D] 35)) K 0 33 1 (.slice P4 L C4) L (rowV L V) := ⟨own_base (own_later ho4 hbx) (fun k _ => Nat.zero_le k), fun k hk => HFR.out k (by have := (own_lt ho4 hk).1; omega)⟩
    have HQL := Lib.hid (show ∀ ad, P4 = some ad → ad.block < w2.heap.size ∧ bb < ad.block from fun ad e => by
      obtain ⟨p', c', e', hp⟩ := own_shp ho4
      cases e'
      obtain ⟨e1, e2⟩ := hp ad e
      refine ⟨(own_lt ho4 (k := ad.block) (by rw [e, e1]; rfl)).2, by omega⟩)
    have HW2 := Lib.hid (show bb < w2.heap.size from Nat.lt_of_lt_of_le hw1 hb4.size)
    have HROW := Lib.hid hrow
    have HS3 := Lib.hid (HS1.out.trans (StepX.below hb3))
    have HRF3 := Lib.hid (HRF.out.later hb3)
    replace y2 := cell_later hb3 y2
    replace y3 := cell_later hb3 y3
    replace y4 := cell_later hb3 y4
    replace y5 := cell_later hb3 y5
    have z0 : (w2.alloc (.cells #[.string N, .slice P4 L C4, .int .i64 R, .bool D] 35)).cell? ⟨w2.heap.size, 0, none⟩ = some (.string N) := by simp [go_sem]
    have z2 : (w2.alloc (.cells #[.string N, .slice P4 L C4, .int .i64 R, .bool D] 35)).cell? ⟨w2.heap.size, 2, none⟩ = some (.int .i64 R) := by simp [go_sem]
    have z3 : (w2.alloc (.cells #[.string N, .slice P4 L C4, .int .i64 R, .bool D] 35)).cell? ⟨w2.heap.size, 3, none⟩ = some (.bool D) := by simp [go_sem]
    unfold infoA at H1
    simp only at H1
    clear hI4 hb4 h94 ho4 hbx hb3 hrow hw1 y0 y1
    go_upto_region 8 with (fail)
    generalize w2.alloc (.cells #[.string N, .slice P4 L C4, .int .i64 R, .bool D] 35) = w3 at *
    generalize w2.heap.size = b11 at *
    have hk11 : K b11 = 0 := HFR.out b11 HW2.out
    go_wp2_with fail
    refine H1.mono ?_
    rintro e w4 ⟨K4, T4, s1, er1, rfl, ht, hg, hst, hp⟩
    have hrel : Rel T T4 1 n := by
      rcases hp with ⟨_, e⟩ | ⟨_, _, _, P9, C9, e⟩
      · exact .inl e
      · exact .inr (.inr (.inl ⟨_, e⟩))
    have hs4 := HS3.out.trans hst.x
    have H2 := refFun_any ht (HRF3.out.step hst) ⟨N, P, L, C, V, R, D⟩ (HX.out _ (HT0.out _ _ hs4)) hs hL HZ.out HR.out HV.out
    unfold infoA at H2
    simp only at H2
    have HROW4 := Lib.hid (row_step HROW.out hst.x)
    have hk4 : K4 b11 = 0 := by rw [hst.ext b11 (World.block_lt_of_cell? _ _ z1)]; exact hk11
    replace z1 := hst.x.keep z1 hk11
    replace y2 := hst.x.keep y2 HKB.out
    replace y3 := hst.x.keep y3 HKB.out
    replace y4 := hst.x.keep y4 HKB.out
    replace y5 := hst.x.keep y5 HKB.out
    have HS4 := Lib.hid hs4
    have HG4 := Lib.hid (And.intro hg hrel)
    clear ht hg hst hp hrel H1 hs4 z0 z2 z3
    go_wp2_with fail
    refine H2.mono ?_
    rintro e w5 ⟨K5, s2, er2, rfl, ht, hrf, hst⟩
    replace z1 := hst.x.keep z1 hk4
    have HLP := Lib.hid (show RowAt w5 K5 0 33 1 (.slice P4 L C4) L (rowV L V) ∧ TabAt w5 K5 base c T4 ∧ RefAt w5 K5 r ∧ StepX W w5 K K5 from ⟨row_step HROW4.out hst.x, ht, hrf, HS4.out.trans hst.x⟩)
    clear ht hrf hst H2 y2 y3 y4 y5
    go_wp2_with fail
    go_loopw [16] (fun i wr => ∃ (k : Nat) (xs : List Value), k ≤ L ∧ i = .int .i64 k ∧ wr.cell? ⟨b11, 1, none⟩ = some (.slice P4 L C4) ∧ RowAt wr K5 0 33 1 (.slice P4 L C4) L xs ∧ TabAt wr K5 base c T4 ∧ RefAt wr K5 r ∧ StepX W wr K K5) (fun i _ => L - (intOf i).toNat)
    case atStart => exact ⟨0, _, Nat.zero_le _, rfl, z1, HLP.out⟩
    case round =>
      obtain ⟨k, xs, hk, rfl, z, hrow, ht, hrf, hx⟩ := hrel
      clear HLP
      by_cases hlt : k < L
      · obtain ⟨q, z4, e4⟩ := own_some hrow.own (by omega)
        cases e4
        have hxl : xs.length = L := by have := hrow.own.1; omega
        have cq := own_cell hrow.own k xs[k] (List.getElem?_eq_getElem (by omega))
        have hq := HQL.out _ rfl
        simp only at hq
        have kq := hrow.tg q rfl
        have hk0 : (0 : Int) ≤ (k : Int) := by omega
        have hk1 : (k : Int) < (L : Int) := by omega
        obtain ⟨cq1, cq2⟩ := cq
        have ho : Only (fun j => j = q) wr (wr.setCell ⟨q, k, none⟩ (.int .i64 55)) := Only.of_setCell wr ⟨q, k, none⟩ _
        have HN := Lib.hid (show (wr.setCell ⟨q, k, none⟩ (.int .i64 55)).cell? ⟨b11, 1, none⟩ = some (.slice (some ⟨q, 0, none⟩) L C4) ∧ RowAt (wr.setCell ⟨q, k, none⟩ (.int .i64 55)) K5 0 33 1 (.slice (some ⟨q, 0, none⟩) L C4) L (xs.set k (.int .i64 55)) ∧ TabAt (wr.setCell ⟨q, k, none⟩ (.int .i64 55)) K5 base c T4 ∧ RefAt (wr.setCell ⟨q, k, none⟩ (.int .i64 55)) K5 r ∧ StepX W (wr.setCell ⟨q, k, none⟩ (.int .i64 55)) K K5 from
          ⟨ho.cell z (by simp only; omega), row_set hrow k _, ht.only ho (fun j h1 _ e => h1 (by rw [show j = q from e]; exact kq)), hrf.only ho (Ext.refl _ _) (fun j h1 e => by rw [show j = q from e, kq] at h1; omega), ⟨hx.only.comp ho (fun _ _ h => h) (fun j hj e => by have e2 : j = q := e; have := HWS.out; omega), hx.ext⟩⟩)
        generalize xs[k] = xk at *
        clear hrow ht hrf hx ho kq
        go_wp2_with fail
        go_roundw
        case rel => exact ⟨k + 1, _, by omega, by go_num, HN.out⟩
        case measure => simp [intOf]; omega
      · have HQ := Lib.hid (And.intro ht (And.intro hrf hx))
        clear hrow ht hrf hx
        obtain rfl : k = L := by omega
        go_wp2_with fail
        all_goals
          go_ret
          exact ⟨_, K5, T4, rfl, HQ.out.1, HG4.out.1, HQ.out.2.1, HQ.out.2.2, HG4.out.2⟩
  · have H1 := push_any HT.out HG.out
    go_wp2_with fail
    refine H1.mono ?_
    rintro e w2 ⟨K2, T2, er1, rfl, ht, hg, hst, hp⟩
    have hrel : Rel T T2 2 n := by
      rcases hp with ⟨_, e, _⟩ | ⟨_, _, e⟩
      · exact .inl e
      · exact .inr (.inr (.inr (.inl e)))
    have H2 := refPush_any ht (HRF.out.step hst)
    have HS2 := Lib.hid (HS1.out.trans hst.x)
    have HG2 := Lib.hid (And.intro hg hrel)
    clear ht hg hst hp hrel H1
    go_wp2_with fail
    refine H2.mono ?_
    rintro e w3 ⟨K3, er2, rfl, ht, hrf, hst⟩
    have HQ := Lib.hid (And.intro ht (And.intro hrf (HS2.out.trans hst.x)))
    clear ht hrf hst H2
    go_wp2_with fail
    go_ret
    exact ⟨_, K3, T2, rfl, HQ.out.1, HG2.out.1, HQ.out.2.1, HQ.out.2.2, HG2.out.2⟩
  · go_wp2_with fail
    have hD : Below w1.heap.size w1 w1.drew := (Below.refl _ _).drew
    replace y1 := cell_later hD y1
    have HT2 := Lib.hid (HT.out.later hD)
    have HRF2 := Lib.hid (HRF.out.later hD)
    have HS2 := Lib.hid (HS1.out.trans (StepX.below hD))
    clear hD
    refine wp_region_L [(1000, (fun _ => True : World → Prop)), (1000, (fun w => w.cell? ⟨bb, 1, none⟩ = some (.int .i64 n) : World → Prop))] (by kernel_rfl) (SL.cons (fun _ => trivial) (SL.cons (fun _ => y1) SL.nil)) (fun hHeld => ?_)
    generalize w1.drew = w2 at *
    have H1 := pop_any HT2.out HG.out n HN.out
    refine wpAnyL_take 0 _ _ (i := 0) (oi := { dst := some 91, op := Op.move (Operand.tmp 0), type := 25, pos := "law.go:94", after := #[], guard := none }) (v := ?_) rfl (by kernel_rfl) (by kernel_rfl) (by kernel_rfl) (fun _ _ _ h => h) rfl (by kernel_rfl) (by kernel_rfl) (by kernel_rfl) (Or.inl ⟨by rfl, ?_⟩) hHeld (fun hHeld => ?_)
    rotate_left
    · intro w hSw
      (try dsimp only at hSw)
      go_simp
      try with_reducible rfl
    try simp only [Act.put, List.setIfInBounds_toArray, List.set_cons_zero, List.set_cons_succ]
    refine wpAnyL_take 0 _ _ (i := 1) (oi := { dst := some 92, op := Op.fieldAddr 37 (Operand.tmp 5) 1, type := 0, pos := "law.go:94", after := #[], guard := none }) (v := ?_) rfl (by kernel_rfl) (by kernel_rfl) (by kernel_rfl) (fun _ _ _ h => h) rfl (by kernel_rfl) (by kernel_rfl) (by kernel_rfl) (Or.inl ⟨by rfl, ?_⟩) hHeld (fun hHeld => ?_)
    rotate_left
    · intro w hSw
      (try dsimp only at hSw)
      go_simp
      try with_reducible rfl
    try simp only [Act.put, List.setIfInBounds_toArray, List.set_cons_zero, List.set_cons_succ]
    refine wpAnyL_take 1 _ _ (i := 2) (oi := { dst := some 93, op := Op.load 3 (Operand.tmp 92), type := 3, pos := "law.go:94", after := #[{ on := 1, ground := Ground.data }], guard := none }) (v := ?_) rfl (by kernel_rfl) (by kernel_rfl) (by kernel_rfl) (fun _ _ _ h => h) rfl (by kernel_rfl) (by kernel_rfl) (by kernel_rfl) (Or.inl ⟨by rfl, ?_⟩) hHeld (fun hHeld => ?_)
    rotate_left
    · intro w hSw
      (try dsimp only at hSw)
      go_simp
      try with_reducible rfl
    try simp only [Act.put, List.setIfInBounds_toArray, List.set_cons_zero, List.set_cons_succ]
    refine wpAnyL_take 0 _ _ (i := 4) (oi := { dst := some 95, op := Op.move (Operand.tmp 1), type := 27, pos := "law.go:94", after := #[], guard := none }) (v := ?_) rfl (by kernel_rfl) (by kernel_rfl) (by kernel_rfl) (fun _ _ _ h => h) rfl (by kernel_rfl) (by kernel_rfl) (by kernel_rfl) (Or.inl ⟨by rfl, ?_⟩) hHeld (fun hHeld => ?_)
    rotate_left
    · intro w hSw
      (try dsimp only at hSw)
      go_simp
      try with_reducible rfl
    try simp only [Act.put, List.setIfInBounds_toArray, List.set_cons_zero, List.set_cons_succ]
    refine wpAnyL_take 0 _ _ (i := 5) (oi := { dst := some 96, op := Op.fieldAddr 37 (Operand.tmp 5) 1, type := 0, pos := "law.go:94", after := #[], guard := none }) (v := ?_) rfl (by kernel_rfl) (by kernel_rfl) (by kernel_rfl) (fun _ _ _ h => h) rfl (by kernel_rfl) (by kernel_rfl) (by kernel_rfl) (Or.inl ⟨by rfl, ?_⟩) hHeld (fun hHeld => ?_)
    rotate_left
    · intro w hSw
      (try dsimp only at hSw)
      go_simp
      try with_reducible rfl
    try simp only [Act.put, List.setIfInBounds_toArray, List.set_cons_zero, List.set_cons_succ]
    refine wpAnyL_take 1 _ _ (i := 6) (oi := { dst := some 97, op := Op.load 3 (Operand.tmp 96), type := 3, pos := "law.go:94", after := #[{ on := 5, ground := Ground.data }], guard := none }) (v := ?_) rfl (by kernel_rfl) (by kernel_rfl) (by kernel_rfl) (fun _ _ _ h => h) rfl (by kernel_rfl) (by kernel_rfl) (by kernel_rfl) (Or.inl ⟨by rfl, ?_⟩) hHeld (fun hHeld => ?_)
    rotate_left
    · intro w hSw
      (try dsimp only at hSw)
      go_simp
      try with_reducible rfl
    try simp only [Act.put, List.setIfInBounds_toArray, List.set_cons_zero, List.set_cons_succ]
    refine wpAnyL_ready (rs := [3]) (by kernel_rfl) (by simp) ?_
    refine AllReadyL.cons (o := { dst := some 94, op := Op.call { callee := Callee.value (Operand.func 20), args := #[Operand.tmp 91, Operand.tmp 93], argTypes := #[25, 3] }, type := 42, pos := "law.go:94", after := #[{ on := 0, ground := Ground.data }, { on := 2, ground := Ground.data }], guard := none }) rfl (fun KK hK => ?_) AllReadyL.nil
    go_simp
    go_at_call 20
    refine H1.mono ?_
    rintro e w3 ⟨T3, er1, rfl, ht, hg, hst, hp⟩
    replace y1 := hst.keep y1 HKB.out
    have hrel : Rel T T3 3 n := by
      rcases hp with ⟨_, e, _⟩ | ⟨_, _, e⟩ | ⟨_, l, a, b, g1, n1, g2, n2, h1, h2, h3, h4, _⟩
      · exact .inl e
      · exact .inl e
      · exact .inr (.inr (.inr (.inr ⟨rfl, l, a, b, g1, n1, g2, n2, h1, h2, h3, h4⟩)))
    have H2 := refPop_any ht (HRF2.out.step hst) n HN.out
    have HS3 := Lib.hid (HS2.out.trans hst.x)
    have HG3 := Lib.hid (And.intro hg hrel)
    clear ht hg hst hp hrel H1
    refine hK.out _ _ (SL.cons (fun _ => trivial) (SL.cons (fun _ => y1) SL.nil)) (fun hHeld => ?_)
    clear hK KK
    try simp only [Act.put, List.setIfInBounds_toArray, List.set_cons_zero, List.set_cons_succ]
    refine wpAnyL_ready (rs := [7]) (by kernel_rfl) (by simp) ?_
    refine AllReadyL.cons (o := { dst := some 98, op := Op.call { callee := Callee.value (Operand.func 55), args := #[Operand.tmp 95, Operand.tmp 97], argTypes := #[27, 3] }, type := 42, pos := "law.go:94", after := #[{ on := 4, ground := Ground.data }, { on := 6, ground := Ground.data }, { on := 3, ground := Ground.chain }], guard := none }) rfl (fun KK hK => ?_) AllReadyL.nil
    go_simp
    go_at_call 55
    refine H2.mono ?_
    rintro e w4 ⟨K4, er2, rfl, ht, hrf, hst⟩
    replace y1 := hst.x.keep y1 HKB.out
    have HQ := Lib.hid (And.intro ht (And.intro hrf (HS3.out.trans hst.x)))
    clear ht hrf hst H2
    refine hK.out _ _ (SL.cons (fun _ => trivial) (SL.cons (fun _ => y1) SL.nil)) (fun hHeld => ?_)
    clear hK KK
    try simp only [Act.put, List.setIfInBounds_toArray, List.set_cons_zero, List.set_cons_succ]
    refine wpAnyL_take 0 _ _ (i := 8) (oi := { dst := some 99, op := Op.binOp BinOp.eql 42 (Operand.tmp 94) (Operand.tmp 98) 42, type := 4, pos := "law.go:94", after := #[{ on := 3, ground := Ground.data }, { on := 7, ground := Ground.data }], guard := none }) (v := ?_) rfl (by kernel_rfl) (by kernel_rfl) (by kernel_rfl) (fun _ _ _ h => h) rfl (by kernel_rfl) (by kernel_rfl) (by kernel_rfl) (Or.inl ⟨by rfl, ?_⟩) hHeld (fun hHeld => ?_)
    rotate_left
    · intro w hSw
      (try dsimp only at hSw)
      go_simp
      try with_reducible rfl
    try simp only [Act.put, List.setIfInBounds_toArray, List.set_cons_zero, List.set_cons_succ]
    refine wpAnyL_take 0 _ _ (i := 9) (oi := { dst := some 6, op := Op.assign (Operand.tmp 99), type := 4, pos := "law.go:94", after := #[{ on := 8, ground := Ground.data }, { on := 7, ground := Ground.chain }, { on := 0, ground := Ground.phase }, { on := 1, ground := Ground.phase }, { on := 2, ground := Ground.phase }, { on := 3, ground := Ground.phase }, { on := 4, ground := Ground.phase }, { on := 5, ground := Ground.phase }, { on := 6, ground := Ground.phase }, { on := 7, ground := Ground.phase }, { on := 8, ground := Ground.phase }], guard := none }) (v := ?_) rfl (by kernel_rfl) (by kernel_rfl) (by kernel_rfl) (fun _ _ _ h => h) rfl (by kernel_rfl) (by kernel_rfl) (by kernel_rfl) (Or.inl ⟨by rfl, ?_⟩) hHeld (fun hHeld => ?_)
    rotate_left
    · intro w hSw
      (try dsimp only at hSw)
      go_simp
      try with_reducible rfl
    try simp only [Act.put, List.setIfInBounds_toArray, List.set_cons_zero, List.set_cons_succ]
    refine wpAnyL_done (by kernel_rfl) ?_ _
    clear hHeld y1
    go_wp2_with fail
    go_ret
    exact ⟨_, K4, T3, rfl, HQ.out.1, HG3.out.1, HQ.out.2.1, HQ.out.2.2, HG3.out.2⟩
  · have q0 : (kd == 0) = false := by simpa using k0
    have q1 : (kd == 1) = false := by simpa using k1
    have q2 : (kd == 2) = false := by simpa using k2
    have q3 : (kd == 3) = false := by simpa using k3
    clear k0 k1 k2 k3 HK
    go_wp2_with fail
    go_ret
    exact ⟨_, K, T, rfl, HT.out, HG.out, HRF.out, HS1.out, .inl rfl⟩
end Go.Proofs.Ytkjmmdffelhkiaa
