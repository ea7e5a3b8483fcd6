/- Stage 6: the document's store in memory; Same, there, of, bound. -/
import Derived.Test.YtkjmmdffelhkiaaT20
import Derived.Test.YtkjmmdffelhkiaaS20
namespace Go.Proofs.Ytkjmmdffelhkiaa
open Go Go.RowKit Go.Maps

variable {W : World} {K : Nat → Nat} {base c r : Nat} {T : Sto} {N : List Nd} {e : Ending} {w' : World}
/-- the document's store: tags 11 the object, 12 its nodes, 13 their arguments. -/
structure RefS (W : World) (K : Nat → Nat) (base r : Nat) (N : List Nd) : Prop where
  fr : ∀ k, W.heap.size ≤ k → K k = 0
  lo : ∀ k, k < base → K k = 0
  kr : K r = 11
  e0 : ∃ v, W.cell? ⟨r, 0, none⟩ = some v ∧ RowAt W K 12 89 5 v N.length (flatN N)
  ar : ∀ (i : Nat) (x : Nd), N[i]? = some x → IntsIn W x.P x.L x.V ∧ ∀ ad, x.P = some ad → K ad.block = 13
  fz : ∀ i, W.frozen? ⟨r, i, none⟩ = false
  z : ∀ (i : Nat) (x : Nd), N[i]? = some x → x.P = none → x.L = 0 ∧ x.C = 0
theorem own_none {w : World} {base n : Nat} {e : TypeId} {size : Nat} {p : Option Addr} {m z : Nat} {xs : List Value} (h : w.ownsRow base e size (.slice p m z) n xs) : p = none → m = 0 ∧ z = 0 := fun hp => by
  subst hp
  rcases h.2 with ⟨h1, h2⟩ | ⟨g, cap, cur, h1, _⟩
  · cases h1; exact ⟨rfl, rfl⟩
  · cases h1
theorem keepc {b : Nat} {w w' : World} {a : Addr} {v : Value} (hb : Below b w w') (h : w.cell? a = some v) (hl : a.block < b) : w'.cell? a = some v := by rw [hb.cell hl]; exact h
theorem RefS.lt (h : RefS W K base r N) : r < W.heap.size := by obtain ⟨v, h, _⟩ := h.e0; exact World.block_lt_of_cell? W _ h
theorem RefS.base_lt (h : RefS W K base r N) : base ≤ r := by
  rcases Nat.lt_or_ge r base with h1 | h1
  · have := h.lo r h1; have := h.kr; omega
  · exact h1
theorem RefS.only {W' : World} {K' : Nat → Nat} {S : Nat → Prop} (h : RefS W K base r N) (ho : Only S W W') (hx : Ext K K' W.heap.size) (hf : ∀ k, W'.heap.size ≤ k → K' k = 0) (hlo : ∀ k, k < base → K' k = 0) (hS : ∀ k, 11 ≤ K k → ¬ S k) : RefS W' K' base r N := by
  obtain ⟨v, a, b⟩ := h.e0
  have hr : ¬ S r := hS r (by rw [h.kr]; omega)
  refine ⟨hf, hlo, (hx r h.lt).trans h.kr, ⟨v, ho.cell a hr, b.only ho hx (fun k e => hS k (by omega))⟩, fun i x hi => ?_, fun i => by rw [ho.frozen h.lt hr]; exact h.fz i, h.z⟩
  obtain ⟨h1, h2⟩ := h.ar i x hi
  refine ⟨fun hn => ?_, fun ad e => ?_⟩
  · obtain ⟨b, off, e, ha⟩ := h1 hn
    exact ⟨b, off, e, fun i hi => ho.cell (ha i hi) (hS b (by have := h2 _ e; simp only at this; omega))⟩
  · have h9 := h2 ad e
    rw [hx ad.block]
    · exact h9
    · rcases Nat.lt_or_ge ad.block W.heap.size with h1 | h1
      · exact h1
      · rw [h.fr _ h1] at h9; exact absurd h9 (by omega)
theorem RefS.later {W' : World} (h : RefS W K base r N) (hb : Below W.heap.size W W') : RefS W' K base r N :=
  h.only (Only.of_below (T := fun _ => False) hb) (Ext.refl _ _) (fun k hk => h.fr k (Nat.le_trans hb.size hk)) h.lo (fun _ _ h => h)
theorem RefS.step {W' : World} {K' : Nat → Nat} (h : RefS W K base r N) (hs : StepT W W' K K') (hf : ∀ k, W'.heap.size ≤ k → K' k = 0) (hlo : ∀ k, k < base → K' k = 0) : RefS W' K' base r N := h.only hs.only hs.ext hf hlo (fun k h1 h2 => by omega)
theorem StoAt.side {W' : World} {K' : Nat → Nat} (h : StoAt W K base c T) (hs : StepR W W' K K') (hf : ∀ k, W'.heap.size ≤ k → K' k = 0) (hlo : ∀ k, k < base → K' k = 0) : StoAt W' K' base c T := by
  obtain ⟨vs, m1, m2, ob, p⟩ := h.ob
  exact ⟨hf, hlo, (hs.ext c h.lt).trans h.ka, vs, m1, m2, ob.only hs.only (by rw [h.ka]; omega), p.only h.fr hs.only hs.ext (fun k _ h1 h2 => by omega)⟩
theorem RefS.row0 (h : RefS W K base r N) : ∃ p z, W.cell? ⟨r, 0, none⟩ = some (.slice p N.length z) ∧ RowAt W K 12 89 5 (.slice p N.length z) N.length (flatN N) := by
  obtain ⟨v, a, b⟩ := h.e0
  obtain ⟨p, z, rfl, _⟩ := own_shp b.own
  exact ⟨p, z, a, b⟩
/-- a node's cells. -/
theorem RefS.cells (h : RefS W K base r N) {t : Nat} {x : Nd} (hx : N[t]? = some x) : ∃ g z, W.cell? ⟨r, 0, none⟩ = some (.slice (some ⟨g, 0, none⟩) N.length z) ∧ K g = 12 ∧
    W.cell? ⟨g, t * 5, none⟩ = some (.int .u8 x.q) ∧ W.cell? ⟨g, t * 5 + 1, none⟩ = some (.int .i64 x.f) ∧ W.cell? ⟨g, t * 5 + 2, none⟩ = some (.int .i64 x.n) ∧ W.cell? ⟨g, t * 5 + 3, none⟩ = some (.int .i64 x.s) ∧ W.cell? ⟨g, t * 5 + 4, none⟩ = some (.slice x.P x.L x.C) := by
  obtain ⟨v, e0, q⟩ := h.e0
  have hlt := (List.getElem?_eq_some_iff.1 hx).1
  obtain ⟨g, z, e⟩ := own_some q.own (by omega)
  have ho := q.own
  have htg := q.tg g (by rw [e]; rfl)
  rw [e] at e0 ho
  obtain ⟨g', c', hv, _, hcl⟩ := own_cells ho (by intro e; cases e)
  cases hv
  obtain ⟨a, b, d, f, k⟩ := flatN_get N t x hx
  exact ⟨g, z, e0, htg, hcl _ _ a, hcl _ _ b, hcl _ _ d, hcl _ _ f, hcl _ _ k⟩
def BoolP (p : Prop) (W : World) (e : Ending) (w' : World) : Prop := ∃ b, e = .returned (.bool b) ∧ Below W.heap.size W w' ∧ (b = true ↔ p)
theorem BoolP.yes {p : Prop} (h : p) (hb : Below W.heap.size W w') : BoolP p W (.returned (.bool true)) w' := ⟨true, rfl, hb, fun _ => h, fun _ => rfl⟩
theorem BoolP.no {p : Prop} (h : ¬ p) (hb : Below W.heap.size W w') : BoolP p W (.returned (.bool false)) w' := ⟨false, rfl, hb, fun e => absurd e (by decide), fun e => absurd e h⟩
set_option maxRecDepth 100000 in
theorem bound_yes (x : Int) (w : World) (h1 : -4611686018427387903 ≤ x) (h2 : x ≤ 4611686018427387903) : Calls Try.prog 98 #[.int .i64 x] w fun e w' => e = .returned (.bool true) ∧ w' = w := by
  go_enter Try.func98, Try.ntmps98
  go_wp2_with fail
  go_ret
  exact ⟨rfl, rfl⟩
set_option maxRecDepth 100000 in
theorem bound_no (x : Int) (w : World) (h : ¬ InB x) : Calls Try.prog 98 #[.int .i64 x] w fun e w' => e = .returned (.bool false) ∧ w' = w := by
  unfold InB at h
  by_cases h1 : -4611686018427387903 ≤ x
  · have h2 : ¬ x ≤ 4611686018427387903 := by omega
    clear h
    go_enter Try.func98, Try.ntmps98
    go_wp2_with fail
    go_ret
    exact ⟨rfl, rfl⟩
  · clear h
    go_enter Try.func98, Try.ntmps98
    go_wp2_with fail
    go_ret
    exact ⟨rfl, rfl⟩
theorem bound_any (x : Int) (w : World) : Calls Try.prog 98 #[.int .i64 x] w fun e w' => ∃ b, e = .returned (.bool b) ∧ w' = w ∧ (b = true ↔ InB x) := by
  by_cases h : InB x
  · refine (bound_yes x w h.1 h.2).mono ?_
    rintro e w' ⟨rfl, rfl⟩
    exact ⟨true, rfl, rfl, fun _ => h, fun _ => rfl⟩
  · refine (bound_no x w h).mono ?_
    rintro e w' ⟨rfl, rfl⟩
    exact ⟨false, rfl, rfl, fun e => absurd e (by decide), fun e => absurd e h⟩
set_option maxRecDepth 100000 in
set_option maxHeartbeats 8000000 in
theorem same_any (x y : Nd) (W : World) (hx : IntsIn W x.P x.L x.V) (hy : IntsIn W y.P y.L y.V) (hL : x.L ≤ 1000000) (hL2 : y.L ≤ 1000000) : Calls Try.prog 41 #[ndA x, ndA y] W (BoolP (SameN x y) W) := by
  obtain ⟨q, f, n, s, P, L, C, V⟩ := x
  obtain ⟨q2, f2, n2, s2, P2, L2, C2, V2⟩ := y
  simp only at hx hy hL hL2
  have hb := below2 W (.cells #[.int .u8 q, .int .i64 f, .int .i64 n, .int .i64 s, .slice P L C] 89) (.cells #[.int .u8 q2, .int .i64 f2, .int .i64 n2, .int .i64 s2, .slice P2 L2 C2] 89)
  have k0 : ((W.alloc (.cells #[.int .u8 q, .int .i64 f, .int .i64 n, .int .i64 s, .slice P L C] 89)).alloc (.cells #[.int .u8 q2, .int .i64 f2, .int .i64 n2, .int .i64 s2, .slice P2 L2 C2] 89)).cell? ⟨W.heap.size, 0, none⟩ = some (.int .u8 q) := cell_later (below1 _ _) (by simp [go_sem])
  have k1 : ((W.alloc (.cells #[.int .u8 q, .int .i64 f, .int .i64 n, .int .i64 s, .slice P L C] 89)).alloc (.cells #[.int .u8 q2, .int .i64 f2, .int .i64 n2, .int .i64 s2, .slice P2 L2 C2] 89)).cell? ⟨W.heap.size, 1, none⟩ = some (.int .i64 f) := cell_later (below1 _ _) (by simp [go_sem])
  have k2 : ((W.alloc (.cells #[.int .u8 q, .int .i64 f, .int .i64 n, .int .i64 s, .slice P L C] 89)).alloc (.cells #[.int .u8 q2, .int .i64 f2, .int .i64 n2, .int .i64 s2, .slice P2 L2 C2] 89)).cell? ⟨W.heap.size, 2, none⟩ = some (.int .i64 n) := cell_later (below1 _ _) (by simp [go_sem])
  have k3 : ((W.alloc (.cells #[.int .u8 q, .int .i64 f, .int .i64 n, .int .i64 s, .slice P L C] 89)).alloc (.cells #[.int .u8 q2, .int .i64 f2, .int .i64 n2, .int .i64 s2, .slice P2 L2 C2] 89)).cell? ⟨W.heap.size, 3, none⟩ = some (.int .i64 s) := cell_later (below1 _ _) (by simp [go_sem])
  have k4 : ((W.alloc (.cells #[.int .u8 q, .int .i64 f, .int .i64 n, .int .i64 s, .slice P L C] 89)).alloc (.cells #[.int .u8 q2, .int .i64 f2, .int .i64 n2, .int .i64 s2, .slice P2 L2 C2] 89)).cell? ⟨W.heap.size, 4, none⟩ = some (.slice P L C) := cell_later (below1 _ _) (by simp [go_sem])
  have m0 : ((W.alloc (.cells #[.int .u8 q, .int .i64 f, .int .i64 n, .int .i64 s, .slice P L C] 89)).alloc (.cells #[.int .u8 q2, .int .i64 f2, .int .i64 n2, .int .i64 s2, .slice P2 L2 C2] 89)).cell? ⟨W.heap.size + 1, 0, none⟩ = some (.int .u8 q2) := by simp [go_sem]
  have m1 : ((W.alloc (.cells #[.int .u8 q, .int .i64 f, .int .i64 n, .int .i64 s, .slice P L C] 89)).alloc (.cells #[.int .u8 q2, .int .i64 f2, .int .i64 n2, .int .i64 s2, .slice P2 L2 C2] 89)).cell? ⟨W.heap.size + 1, 1, none⟩ = some (.int .i64 f2) := by simp [go_sem]
  have m2 : ((W.alloc (.cells #[.int .u8 q, .int .i64 f, .int .i64 n, .int .i64 s, .slice P L C] 89)).alloc (.cells #[.int .u8 q2, .int .i64 f2, .int .i64 n2, .int .i64 s2, .slice P2 L2 C2] 89)).cell? ⟨W.heap.size + 1, 2, none⟩ = some (.int .i64 n2) := by simp [go_sem]
  have m3 : ((W.alloc (.cells #[.int .u8 q, .int .i64 f, .int .i64 n, .int .i64 s, .slice P L C] 89)).alloc (.cells #[.int .u8 q2, .int .i64 f2, .int .i64 n2, .int .i64 s2, .slice P2 L2 C2] 89)).cell? ⟨W.heap.size + 1, 3, none⟩ = some (.int .i64 s2) := by simp [go_sem]
  have m4 : ((W.alloc (.cells #[.int .u8 q, .int .i64 f, .int .i64 n, .int .i64 s, .slice P L C] 89)).alloc (.cells #[.int .u8 q2, .int .i64 f2, .int .i64 n2, .int .i64 s2, .slice P2 L2 C2] 89)).cell? ⟨W.heap.size + 1, 4, none⟩ = some (.slice P2 L2 C2) := by simp [go_sem]
  have HX := Lib.hid (hx.later hb)
  have HY := Lib.hid (hy.later hb)
  have HB := Lib.hid hb
  clear hx hy hb
  unfold ndA
  go_enter Try.func41, Try.ntmps41
  go_upto_region 1 with (fail)
  generalize (W.alloc (.cells #[.int .u8 q, .int .i64 f, .int .i64 n, .int .i64 s, .slice P L C] 89)).alloc (.cells #[.int .u8 q2, .int .i64 f2, .int .i64 n2, .int .i64 s2, .slice P2 L2 C2] 89) = w1 at *
  generalize hbb : W.heap.size = bb at *
  have HBE := Lib.hid hbb
  clear hbb
  by_cases e0 : q = q2
  rotate_left
  · have u0 : (q != q2) = true := by simpa using e0
    go_wp2_with fail
    go_ret
    refine BoolP.no (fun h => e0 h.q) ?_
    rw [HBE.out]; exact HB.out
  subst e0
  have u0 : (q != q) = false := by simp
  by_cases e1 : f = f2
  rotate_left
  · have u1 : (f != f2) = true := by simpa using e1
    go_wp2_with fail
    go_ret
    refine BoolP.no (fun h => e1 h.f) ?_
    rw [HBE.out]; exact HB.out
  subst e1
  have u1 : (f != f) = false := by simp
  by_cases e2 : n = n2
  rotate_left
  · have u2 : (n != n2) = true := by simpa using e2
    go_wp2_with fail
    go_ret
    refine BoolP.no (fun h => e2 h.n) ?_
    rw [HBE.out]; exact HB.out
  subst e2
  have u2 : (n != n) = false := by simp
  by_cases e3 : s = s2
  rotate_left
  · have u3 : (s != s2) = true := by simpa using e3
    go_wp2_with fail
    go_ret
    refine BoolP.no (fun h => e3 h.s) ?_
    rw [HBE.out]; exact HB.out
  subst e3
  have u3 : (s != s) = false := by simp
  by_cases e4 : L = L2
  rotate_left
  · have u4 : ((L : Int) != (L2 : Int)) = true := by rw [bne_iff_ne]; omega
    go_wp2_with fail
    go_ret
    refine BoolP.no (fun h => e4 h.L) ?_
    rw [HBE.out]; exact HB.out
  subst e4
  have u4 : ((L : Int) != (L : Int)) = false := by simp
  go_wp2_with fail
  clear u0 u1 u2 u3 u4
  have HB2 := Lib.hid (show Below W.heap.size W w1 by rw [HBE.out]; exact HB.out)
  have HBF := Lib.hid (show Below w1.heap.size w1 w1 from Below.refl _ _)
  go_loopw [5] (fun i wr => ∃ k : Nat, k ≤ L ∧ i = .int .i64 k ∧ Below w1.heap.size w1 wr ∧ ∀ j, j < k → V j = V2 j) (fun i _ => L - (intOf i).toNat)
  case atStart => exact ⟨0, Nat.zero_le _, rfl, Below.refl _ _, fun j hj => absurd hj (Nat.not_lt_zero _)⟩
  case round =>
    obtain ⟨k, hk, rfl, hbr, hall⟩ := hrel
    have HA := Lib.hid hall
    have HBR := Lib.hid hbr
    replace k4 := cell_later hbr k4
    replace m4 := cell_later hbr m4
    clear hall k0 k1 k2 k3 m0 m1 m2 m3
    by_cases hlt : k < L
    · obtain ⟨b, off, rfl, ha⟩ := HX.out (by omega)
      obtain ⟨b2, off2, rfl, ha2⟩ := HY.out (by omega)
      have ck := cell_later hbr (ha k hlt)
      have ck2 := cell_later hbr (ha2 k hlt)
      have hk0 : (0 : Int) ≤ (k : Int) := by omega
      have hk1 : (k : Int) < (L : Int) := by omega
      have HN := Lib.hid (show V k = V2 k → ∀ j, j < k + 1 → V j = V2 j from fun h j hj => by
        by_cases e : j = k
        · subst e; exact h
        · exact HA.out j (by omega))
      have HNO := Lib.hid (show ¬ V k = V2 k → ¬ ∀ j, j < L → V j = V2 j from fun h h2 => h (h2 k hlt))
      clear ha ha2 hbr
      generalize V k = x1 at *
      generalize V2 k = x2 at *
      by_cases e : x1 = x2
      · have u0 : (x1 != x2) = false := by simpa using e
        go_wp2_with fail
        go_quiet (fail)
        go_wp2_with fail
        go_roundw
        case rel => exact ⟨k + 1, by omega, by go_num, HBR.out.trans ((below_drewN _ _).mono HBR.out.size), HN.out e⟩
        case measure => simp [intOf]; omega
      · have u0 : (x1 != x2) = true := by simpa using e
        go_wp2_with fail
        go_quiet (fail)
        go_wp2_with fail
        go_ret
        exact BoolP.no (fun h => HNO.out e h.V) (HB2.out.trans ((HBR.out.trans ((below_drewN _ _).mono HBR.out.size)).mono HB2.out.size))
    · obtain rfl : k = L := by omega
      clear hbr
      go_wp2_with fail
      go_ret
      exact BoolP.yes ⟨rfl, rfl, rfl, rfl, rfl, HA.out⟩ (HB2.out.trans (HBR.out.mono HB2.out.size))
set_option maxRecDepth 100000 in
set_option maxHeartbeats 8000000 in
theorem there_any (h : RefS W K base r N) (hN : N.length ≤ 20000) (p : Option Addr) (n z : Nat) (V : Nat → Int) (hV : IntsIn W p n V) (hn : n ≤ 1000000) :
    Calls Try.prog 94 #[.pointer (some ⟨r, 0, none⟩), .slice p n z] W (BoolP (∀ i, i < n → InL N (V i)) W) := by
  obtain ⟨p0, z0, x0, o0⟩ := h.row0
  have H := Lib.hid hV
  clear h o0 hV
  go_enter Try.func94, Try.ntmps94
  go_wp2_with fail
  go_loopw [5] (fun i wr => ∃ k : Nat, k ≤ n ∧ i = .int .i64 k ∧ Below W.heap.size W wr ∧ ∀ j, j < k → InL N (V j)) (fun i _ => n - (intOf i).toNat)
  case atStart => exact ⟨0, Nat.zero_le _, rfl, Below.refl _ _, fun j hj => absurd hj (Nat.not_lt_zero _)⟩
  case round =>
    obtain ⟨k, hk, rfl, hbr, hall⟩ := hrel
    have HA := Lib.hid hall
    have HBR := Lib.hid hbr
    replace x0 := cell_later hbr x0
    clear hall
    by_cases hlt : k < n
    · obtain ⟨b, off, rfl, ha⟩ := H.out (by omega)
      have ck := cell_later hbr (ha k hlt)
      have hk0 : (0 : Int) ≤ (k : Int) := by omega
      have hk1 : (k : Int) < (n : Int) := by omega
      have HN := Lib.hid (show InL N (V k) → ∀ j, j < k + 1 → InL N (V j) from fun h j hj => by
        by_cases e : j = k
        · subst e; exact h
        · exact HA.out j (by omega))
      have HNO := Lib.hid (show ¬ InL N (V k) → ¬ ∀ i, i < n → InL N (V i) from fun h h2 => h (h2 k hlt))
      clear ha hbr
      generalize V k = x at *
      by_cases h1 : x < 0
      · have u0 : decide (x < 0) = true := by simpa using h1
        go_wp2_with fail
        go_quiet (fail)
        go_wp2_with fail
        go_ret
        exact BoolP.no (HNO.out (fun h => by have := h.1; omega)) (HBR.out.trans ((below_drewN _ _).mono HBR.out.size))
      · have u0 : decide (x < 0) = false := by simpa using h1
        by_cases h2 : (N.length : Int) ≤ x
        · have u1 : decide ((N.length : Int) ≤ x) = true := by simpa using h2
          go_wp2_with fail
          go_quiet (fail)
          go_wp2_with fail
          go_ret
          exact BoolP.no (HNO.out (fun h => by have := h.2; omega)) (HBR.out.trans ((below_drewN _ _).mono HBR.out.size))
        · have u1 : decide ((N.length : Int) ≤ x) = false := by simpa using h2
          go_wp2_with fail
          go_quiet (fail)
          go_wp2_with fail
          go_roundw
          case rel => exact ⟨k + 1, by omega, by go_num, HBR.out.trans ((below_drewN _ _).mono HBR.out.size), HN.out ⟨by omega, by omega⟩⟩
          case measure => simp [intOf]; omega
    · obtain rfl : k = n := by omega
      clear hbr
      go_wp2_with fail
      go_ret
      exact BoolP.yes HA.out HBR.out
set_option maxRecDepth 100000 in
set_option maxHeartbeats 8000000 in
theorem of_any (h : RefS W K base r N) (hN : N.length ≤ 20000) (p : Option Addr) (n z : Nat) (V : Nat → Int) (so : Int) (hV : IntsIn W p n V) (hn : n ≤ 1000000) (hin : ∀ i, i < n → InL N (V i)) :
    Calls Try.prog 95 #[.pointer (some ⟨r, 0, none⟩), .slice p n z, .int .i64 so] W (BoolP (∀ i, i < n → stL N (V i) = so) W) := by
  have HR := Lib.hid h
  have H := Lib.hid hV
  have HI := Lib.hid hin
  clear h hV hin
  go_enter Try.func95, Try.ntmps95
  go_wp2_with fail
  go_loopw [7] (fun i wr => ∃ k : Nat, k ≤ n ∧ i = .int .i64 k ∧ Below W.heap.size W wr ∧ ∀ j, j < k → stL N (V j) = so) (fun i _ => n - (intOf i).toNat)
  case atStart => exact ⟨0, Nat.zero_le _, rfl, Below.refl _ _, fun j hj => absurd hj (Nat.not_lt_zero _)⟩
  case round =>
    obtain ⟨k, hk, rfl, hbr, hall⟩ := hrel
    have HA := Lib.hid hall
    have HBR := Lib.hid hbr
    clear hall
    by_cases hlt : k < n
    · obtain ⟨b, off, rfl, ha⟩ := H.out (by omega)
      have ck := cell_later hbr (ha k hlt)
      have hk0 : (0 : Int) ≤ (k : Int) := by omega
      have hk1 : (k : Int) < (n : Int) := by omega
      obtain ⟨m, x, hm, hml, hx⟩ := inS_get (HI.out k hlt)
      have HN := Lib.hid (show stL N (V k) = so → ∀ j, j < k + 1 → stL N (V j) = so from fun h j hj => by
        by_cases e : j = k
        · subst e; exact h
        · exact HA.out j (by omega))
      have HNO := Lib.hid (show ¬ stL N (V k) = so → ¬ ∀ i, i < n → stL N (V i) = so from fun h h2 => h (h2 k hlt))
      rw [hm] at ck HN HNO
      have HX := Lib.hid (stL_of hx)
      obtain ⟨gg, z1, y0, _, _, _, _, y4, _⟩ := (HR.out.later hbr).cells hx
      have hm0 : (0 : Int) ≤ (m : Int) := by omega
      have hm1 : (m : Int) < (N.length : Int) := by omega
      clear ha hm hx hbr
      generalize hxs : x.s = s at *
      by_cases hs : s = so
      · have u0 : (s != so) = false := by simpa using hs
        go_wp2_with fail
        go_quiet (fail)
        go_wp2_with fail
        go_roundw
        case rel => exact ⟨k + 1, by omega, by go_num, HBR.out.trans ((below_drewN _ _).mono HBR.out.size), HN.out (by rw [HX.out]; exact hs)⟩
        case measure => simp [intOf]; omega
      · have u0 : (s != so) = true := by simpa using hs
        go_wp2_with fail
        go_quiet (fail)
        go_wp2_with fail
        go_ret
        exact BoolP.no (HNO.out (by rw [HX.out]; exact hs)) (HBR.out.trans ((below_drewN _ _).mono HBR.out.size))
    · obtain rfl : k = n := by omega
      clear hbr
      go_wp2_with fail
      go_ret
      exact BoolP.yes HA.out HBR.out
end Go.Proofs.Ytkjmmdffelhkiaa
