/- Stage 6: Not, And, Or, Eq, Ite. -/
import Derived.Test.YtkjmmdffelhkiaaT19
namespace Go.Proofs.Ytkjmmdffelhkiaa
open Go Go.RowKit Go.Maps

variable {W : World} {K : Nat → Nat} {base c : Nat} {T : Sto} {e : Ending} {w' : World}
theorem stL_of {N : List Nd} {t : Nat} {x : Nd} (h : N[t]? = some x) : stL N (t : Int) = x.s := by unfold stL; rw [Int.toNat_natCast, h]
theorem inS_get {N : List Nd} {t : Int} (h : InL N t) : ∃ (k : Nat) (x : Nd), t = (k : Int) ∧ k < N.length ∧ N[k]? = some x := by
  obtain ⟨k, rfl⟩ := Int.eq_ofNat_of_zero_le h.1
  have hk : k < N.length := by have := h.2; omega
  exact ⟨k, _, rfl, hk, List.getElem?_eq_getElem hk⟩
set_option maxRecDepth 100000 in
set_option maxHeartbeats 4000000 in
theorem not_run (h : StoAt W K base c T) (g : GoodS T) (h0 : 0 < T.nodes.length) (a : Int) :
    Calls Try.prog 44 #[.pointer (some ⟨c, 0, none⟩), .int .i64 a] W (RunS T (notQ (view T.nodes) a) base c K W) := by
  have hb1 := below1 W (.cells #[.int .i64 a] 73)
  have HC := check_any (h.later hb1) g h0 (some ⟨W.heap.size, 0, none⟩) 1 1 (fun _ => a) (one_ints W a) (by omega)
  have hb0 := g.b0
  have H := Lib.hid h
  have H1 := Lib.hid (h.later hb1)
  have HG := Lib.hid g
  have HB1 := Lib.hid hb1
  clear h g hb1
  go_enter Try.func44, Try.ntmps44
  go_wp2_with fail
  refine HC.mono ?_
  rintro e w2 ⟨er, rfl, hw, hcase⟩
  obtain rfl := hw.symm
  clear HC hw
  rcases hcase with ⟨rfl, hin⟩ | ⟨rfl, i, hi, hn⟩
  rotate_left
  · go_wp2_with fail
    go_ret2
    refine (show notQ (view T.nodes) a = .no 7 from if_neg hn) ▸ NoP.run H.out HG.out ⟨rfl, HB1.out⟩
  have hin0 : InL T.nodes a := hin 0 (by omega)
  clear hin
  have HIN := Lib.hid hin0
  obtain ⟨k, x, rfl, hk, hx⟩ := inS_get hin0
  have HX := Lib.hid (stL_of hx)
  obtain ⟨gg, z, y0, _, y1, y2, y3, y4, y5⟩ := H1.out.cells hx
  have hk0 : (0 : Int) ≤ (k : Int) := by omega
  have hk1 : (k : Int) < (T.nodes.length : Int) := by omega
  clear hx hin0 y1 y2 y3 y5
  generalize hxs : x.s = s at *
  by_cases hs : s = 0
  rotate_left
  · have q1 : (s != 0) = true := by simpa using hs
    go_wp2_with fail
    go_ret2
    refine (show notQ (view T.nodes) (k : Int) = .no 60 from ?_) ▸ NoP.run H.out HG.out ⟨rfl, HB1.out⟩
    unfold notQ
    rw [if_pos (show (view T.nodes).ok _ from HIN.out), if_neg (by show ¬ stL T.nodes _ = 0; rw [HX.out]; exact hs)]
  subst hs
  generalize W.alloc (.cells #[.int .i64 (k : Int)] 73) = w1 at *
  have hbx := below1 w1 (.cells #[.int .i64 (k : Int)] 73)
  have HM := make_any (H.out.later (HB1.out.trans (hbx.mono HB1.out.size))) HG.out ⟨9, 0, 0, 0, some ⟨w1.heap.size, 0, none⟩, 1, 1, fun _ => (k : Int)⟩ (one_ints w1 _) (nd_ok (by decide) i0 i0 i0 (by omega) (fun i _ => HIN.out) (fun h => absurd h (by decide)) (fun h => absurd h (by decide)))
  simp only [ndA] at HM
  have HBX := Lib.hid (HB1.out.trans (hbx.mono HB1.out.size))
  clear hbx
  go_wp2_with fail
  refine HM.mono ?_
  rintro e w4 hm
  have HMM := Lib.hid (hm.from HBX.out)
  obtain ⟨K', T', t', er', rfl, _⟩ := hm
  clear HM
  go_wp2_with fail
  go_ret2
  refine (show notQ (view T.nodes) (k : Int) = .mk ⟨9, 0, 0, 0, none, 1, 1, fun _ => (k : Int)⟩ from ?_) ▸ MakeP.run HMM.out
  unfold notQ
  rw [if_pos (show (view T.nodes).ok _ from HIN.out), if_pos (by show stL T.nodes _ = 0; exact HX.out)]
set_option maxRecDepth 100000 in
set_option maxHeartbeats 8000000 in
theorem eq_run (h : StoAt W K base c T) (g : GoodS T) (h0 : 0 < T.nodes.length) (a b : Int) :
    Calls Try.prog 47 #[.pointer (some ⟨c, 0, none⟩), .int .i64 a, .int .i64 b] W (RunS T (eqQ (view T.nodes) a b) base c K W) := by
  have hb1 := below1 W (.cells #[.int .i64 a, .int .i64 b] 73)
  have HC := check_any (h.later hb1) g h0 (some ⟨W.heap.size, 0, none⟩) 2 2 (twoV a b) (two_ints W a b) (by omega)
  have hb0 := g.b0
  have H := Lib.hid h
  have H1 := Lib.hid (h.later hb1)
  have HG := Lib.hid g
  have HB1 := Lib.hid hb1
  clear h g hb1
  go_enter Try.func47, Try.ntmps47
  go_wp2_with fail
  refine HC.mono ?_
  rintro e w2 ⟨er, rfl, hw, hcase⟩
  obtain rfl := hw.symm
  clear HC hw
  rcases hcase with ⟨rfl, hin⟩ | ⟨rfl, i, hi, hn⟩
  rotate_left
  · have hno : ¬ ((view T.nodes).ok a ∧ (view T.nodes).ok b) := by
      have : i = 0 ∨ i = 1 := by omega
      rcases this with rfl | rfl
      · exact fun h => hn h.1
      · exact fun h => hn h.2
    go_wp2_with fail
    go_ret2
    refine (show eqQ (view T.nodes) a b = .no 7 from if_neg hno) ▸ NoP.run H.out HG.out ⟨rfl, HB1.out⟩
  have ha0 : InL T.nodes a := hin 0 (by omega)
  have hb0' : InL T.nodes b := hin 1 (by omega)
  clear hin
  have HIA := Lib.hid ha0
  have HIB := Lib.hid hb0'
  obtain ⟨k, x, rfl, hk, hx⟩ := inS_get ha0
  obtain ⟨k2, y, rfl, hk2, hy⟩ := inS_get hb0'
  have HX := Lib.hid (stL_of hx)
  have HY := Lib.hid (stL_of hy)
  obtain ⟨gg, z, y0, _, _, _, _, y4, _⟩ := H1.out.cells hx
  obtain ⟨gg2, z2, y0', _, _, _, _, y4', _⟩ := H1.out.cells hy
  rw [y0] at y0'
  cases y0'
  have hk0 : (0 : Int) ≤ (k : Int) := by omega
  have hk1 : (k : Int) < (T.nodes.length : Int) := by omega
  have hk20 : (0 : Int) ≤ (k2 : Int) := by omega
  have hk21 : (k2 : Int) < (T.nodes.length : Int) := by omega
  clear hx hy ha0 hb0'
  generalize hxs : x.s = s at *
  generalize hys : y.s = s2 at *
  generalize W.alloc (.cells #[.int .i64 (k : Int), .int .i64 (k2 : Int)] 73) = w1 at *
  by_cases hs : s = s2
  rotate_left
  · have q1 : (s != s2) = true := by simpa using hs
    go_wp2_with fail
    go_quiet (fail)
    go_wp2_with fail
    go_ret2
    refine (show eqQ (view T.nodes) (k : Int) (k2 : Int) = .no 60 from ?_) ▸ NoP.run H.out HG.out ⟨rfl, HB1.out.trans ((below_drewN _ _).mono HB1.out.size)⟩
    unfold eqQ
    rw [if_pos (show (view T.nodes).ok _ ∧ (view T.nodes).ok _ from ⟨HIA.out, HIB.out⟩), if_neg (by show ¬ stL T.nodes _ = stL T.nodes _; rw [HX.out, HY.out]; exact hs)]
  subst hs
  go_wp2_with fail
  go_quiet (fail)
  have hd := below_drewN w1 nq
  generalize w1.drewN nq = w2 at *
  have hbx := hd.trans ((below1 w2 (.cells #[.int .i64 (k : Int), .int .i64 (k2 : Int)] 73)).mono hd.size)
  have HM := make_any (H.out.later (HB1.out.trans (hbx.mono HB1.out.size))) HG.out ⟨7, 0, 0, 0, some ⟨w2.heap.size, 0, none⟩, 2, 2, twoV (k : Int) (k2 : Int)⟩ (two_ints w2 _ _) (nd_ok (by decide) i0 i0 i0 (by omega) (fun i _ => by
    unfold twoV
    split
    · exact HIA.out
    · exact HIB.out) (fun h => absurd h (by decide)) (fun h => absurd h (by decide)))
  simp only [ndA] at HM
  have HBX := Lib.hid (HB1.out.trans (hbx.mono HB1.out.size))
  clear hbx hd
  go_wp2_with fail
  refine HM.mono ?_
  rintro e w4 hm
  have HMM := Lib.hid (hm.from HBX.out)
  obtain ⟨K', T', t', er', rfl, _⟩ := hm
  clear HM
  go_wp2_with fail
  go_ret2
  refine (show eqQ (view T.nodes) (k : Int) (k2 : Int) = .mk ⟨7, 0, 0, 0, none, 2, 2, twoV (k : Int) (k2 : Int)⟩ from ?_) ▸ MakeP.run HMM.out
  unfold eqQ
  rw [if_pos (show (view T.nodes).ok _ ∧ (view T.nodes).ok _ from ⟨HIA.out, HIB.out⟩), if_pos (by show stL T.nodes _ = stL T.nodes _; rw [HX.out, HY.out])]
def threeI (W : World) (c a b : Int) : World := W.alloc (.cells #[.int .i64 c, .int .i64 a, .int .i64 b] 73)
theorem three_ints (W : World) (c a b : Int) : IntsIn (W.alloc (.cells #[.int .i64 c, .int .i64 a, .int .i64 b] 73)) (some ⟨W.heap.size, 0, none⟩) 3 (threeV c a b) := fun _ => ⟨W.heap.size, 0, rfl, fun i hi => by
  have : i = 0 ∨ i = 1 ∨ i = 2 := by omega
  rcases this with rfl | rfl | rfl <;> simp [go_sem, threeV]⟩
set_option maxRecDepth 100000 in
set_option maxHeartbeats 8000000 in
theorem ite_run (h : StoAt W K base c T) (g : GoodS T) (h0 : 0 < T.nodes.length) (d a b : Int) :
    Calls Try.prog 48 #[.pointer (some ⟨c, 0, none⟩), .int .i64 d, .int .i64 a, .int .i64 b] W (RunS T (iteQ (view T.nodes) d a b) base c K W) := by
  have hb1 := below1 W (.cells #[.int .i64 d, .int .i64 a, .int .i64 b] 73)
  have HC := check_any (h.later hb1) g h0 (some ⟨W.heap.size, 0, none⟩) 3 3 (threeV d a b) (three_ints W d a b) (by omega)
  have hb0 := g.b0
  have H := Lib.hid h
  have H1 := Lib.hid (h.later hb1)
  have HG := Lib.hid g
  have HB1 := Lib.hid hb1
  clear h g hb1
  go_enter Try.func48, Try.ntmps48
  go_wp2_with fail
  refine HC.mono ?_
  rintro e w2 ⟨er, rfl, hw, hcase⟩
  obtain rfl := hw.symm
  clear HC hw
  rcases hcase with ⟨rfl, hin⟩ | ⟨rfl, i, hi, hn⟩
  rotate_left
  · have hno : ¬ ((view T.nodes).ok d ∧ (view T.nodes).ok a ∧ (view T.nodes).ok b) := by
      have : i = 0 ∨ i = 1 ∨ i = 2 := by omega
      rcases this with rfl | rfl | rfl
      · exact fun h => hn h.1
      · exact fun h => hn h.2.1
      · exact fun h => hn h.2.2
    go_wp2_with fail
    go_ret2
    refine (show iteQ (view T.nodes) d a b = .no 7 from if_neg hno) ▸ NoP.run H.out HG.out ⟨rfl, HB1.out⟩
  have hc0 : InL T.nodes d := hin 0 (by omega)
  have ha0 : InL T.nodes a := hin 1 (by omega)
  have hb0' : InL T.nodes b := hin 2 (by omega)
  clear hin
  have HIC := Lib.hid hc0
  have HIA := Lib.hid ha0
  have HIB := Lib.hid hb0'
  have HOK := Lib.hid (show (view T.nodes).ok d ∧ (view T.nodes).ok a ∧ (view T.nodes).ok b from ⟨hc0, ha0, hb0'⟩)
  obtain ⟨k3, u, rfl, hk3, hu⟩ := inS_get hc0
  obtain ⟨k, x, rfl, hk, hx⟩ := inS_get ha0
  obtain ⟨k2, y, rfl, hk2, hy⟩ := inS_get hb0'
  have HU := Lib.hid (stL_of hu)
  have HX := Lib.hid (stL_of hx)
  have HY := Lib.hid (stL_of hy)
  have HXO := Lib.hid ((HG.out.gn _ _ hx).s)
  obtain ⟨gg, z, y0, _, _, _, _, y4, _⟩ := H1.out.cells hx
  obtain ⟨gg2, z2, y0', _, _, _, _, y4', _⟩ := H1.out.cells hy
  obtain ⟨gg3, z3, y0'', _, _, _, _, y4'', _⟩ := H1.out.cells hu
  rw [y0] at y0' y0''
  cases y0'
  cases y0''
  have hk0 : (0 : Int) ≤ (k : Int) := by omega
  have hk1 : (k : Int) < (T.nodes.length : Int) := by omega
  have hk20 : (0 : Int) ≤ (k2 : Int) := by omega
  have hk21 : (k2 : Int) < (T.nodes.length : Int) := by omega
  have hk30 : (0 : Int) ≤ (k3 : Int) := by omega
  have hk31 : (k3 : Int) < (T.nodes.length : Int) := by omega
  clear hx hy hu ha0 hb0' hc0
  generalize hxs : x.s = s at *
  generalize hys : y.s = s2 at *
  generalize hus : u.s = s3 at *
  generalize W.alloc (.cells #[.int .i64 (k3 : Int), .int .i64 (k : Int), .int .i64 (k2 : Int)] 73) = w1 at *
  by_cases hs3 : s3 = 0
  rotate_left
  · have q1 : (s3 != 0) = true := by simpa using hs3
    go_wp2_with fail
    (try go_quiet (fail))
    go_wp2_with fail
    go_ret2
    refine (show iteQ (view T.nodes) (k3 : Int) (k : Int) (k2 : Int) = .no 60 from ?_) ▸ NoP.run H.out HG.out ⟨rfl, HB1.out⟩
    unfold iteQ
    rw [if_pos HOK.out, if_neg (by show ¬ (stL T.nodes _ = 0 ∧ _); rw [HU.out]; exact fun h => hs3 h.1)]
  subst hs3
  by_cases hs : s = s2
  rotate_left
  · have q1 : (s2 != s) = true := by simpa using fun h : s2 = s => hs h.symm
    go_wp2_with fail
    (try go_quiet (fail))
    go_wp2_with fail
    go_ret2
    refine (show iteQ (view T.nodes) (k3 : Int) (k : Int) (k2 : Int) = .no 60 from ?_) ▸ NoP.run H.out HG.out ⟨rfl, HB1.out⟩
    unfold iteQ
    rw [if_pos HOK.out, if_neg (by show ¬ (stL T.nodes _ = 0 ∧ stL T.nodes _ = stL T.nodes _); rw [HX.out, HY.out]; exact fun h => hs h.2)]
  subst hs
  have hbx := below1 w1 (.cells #[.int .i64 (k3 : Int), .int .i64 (k : Int), .int .i64 (k2 : Int)] 73)
  have HM := make_any (H.out.later (HB1.out.trans (hbx.mono HB1.out.size))) HG.out ⟨6, 0, 0, s, some ⟨w1.heap.size, 0, none⟩, 3, 3, threeV (k3 : Int) (k : Int) (k2 : Int)⟩ (three_ints w1 _ _ _) (nd_ok (by decide) i0 i0 HXO.out (by omega) (fun i _ => by
    unfold threeV
    split
    · exact HIC.out
    · split
      · exact HIA.out
      · exact HIB.out) (fun h => absurd h (by decide)) (fun h => absurd h (by decide)))
  simp only [ndA] at HM
  have HBX := Lib.hid (HB1.out.trans (hbx.mono HB1.out.size))
  clear hbx
  go_wp2_with fail
  refine HM.mono ?_
  rintro e w4 hm
  have HMM := Lib.hid (hm.from HBX.out)
  obtain ⟨K', T', t', er', rfl, _⟩ := hm
  clear HM
  go_wp2_with fail
  go_ret2
  refine (show iteQ (view T.nodes) (k3 : Int) (k : Int) (k2 : Int) = .mk ⟨6, 0, 0, s, none, 3, 3, threeV (k3 : Int) (k : Int) (k2 : Int)⟩ from ?_) ▸ MakeP.run HMM.out
  unfold iteQ
  rw [if_pos HOK.out, if_pos (by show stL T.nodes _ = 0 ∧ stL T.nodes _ = stL T.nodes _; rw [HX.out, HY.out]; exact ⟨HU.out, rfl⟩), show (view T.nodes).st (k : Int) = s from HX.out]
set_option maxRecDepth 100000 in
set_option maxHeartbeats 8000000 in
theorem junction_run (h : StoAt W K base c T) (g : GoodS T) (h0 : 0 < T.nodes.length) (q em : Int) (hq : 0 ≤ q ∧ q ≤ 255) (hq4 : q ≠ 3 ∧ q ≠ 4) (p : Option Addr) (n z : Nat) (V : Nat → Int) (hV : IntsIn W p n V) (hn : n ≤ 9223372036854775807) :
    Calls Try.prog 85 #[.pointer (some ⟨c, 0, none⟩), .int .u8 q, .int .i64 em, .slice p n z] W (RunS T (manyQ (view T.nodes) q em n V) base c K W) := by
  have HC := check_any h g h0 p n z V hV hn
  have hb0 := g.b0
  have H := Lib.hid h
  have HG := Lib.hid g
  have HV := Lib.hid hV
  have HQ := Lib.hid hq
  have HQ4 := Lib.hid hq4
  clear h g hV hq hq4
  go_enter Try.func85, Try.ntmps85
  go_wp2_with fail
  refine HC.mono ?_
  rintro e w2 ⟨er, rfl, hw, hcase⟩
  obtain rfl := hw.symm
  clear HC hw
  rcases hcase with ⟨rfl, hin⟩ | ⟨rfl, i, hi, hno⟩
  rotate_left
  · go_wp2_with fail
    go_ret2
    refine (show manyQ (view T.nodes) q em n V = .no 7 from if_neg (fun h => hno (h i hi))) ▸ NoP.run H.out HG.out ⟨rfl, Below.refl _ _⟩
  have HIN := Lib.hid (show ∀ i, i < n → (view T.nodes).ok (V i) from hin)
  clear hin
  by_cases h2 : 2000 < n
  · go_wp2_with fail
    go_ret2
    refine (show manyQ (view T.nodes) q em n V = .no 3 from ?_) ▸ NoP.run H.out HG.out ⟨rfl, Below.refl _ _⟩
    unfold manyQ
    rw [if_pos HIN.out, if_pos h2]
  go_wp2_with fail
  go_loop [24] (fun i => ∃ k : Nat, k ≤ n ∧ i = .int .i64 k ∧ ∀ j, j < k → stL T.nodes (V j) = 0) (fun i => n - (intOf i).toNat)
  case atStart => exact ⟨0, Nat.zero_le _, rfl, fun j hj => absurd hj (Nat.not_lt_zero _)⟩
  case round =>
    obtain ⟨k, hk, rfl, hall⟩ := hrel
    have HA := Lib.hid hall
    clear hall
    by_cases hlt : k < n
    · obtain ⟨b, off, rfl, ha⟩ := HV.out (by omega)
      have ck := ha k hlt
      have hk0 : (0 : Int) ≤ (k : Int) := by omega
      have hk1 : (k : Int) < (n : Int) := by omega
      obtain ⟨m, x, hm, hml, hx⟩ := inS_get (HIN.out k hlt)
      have HN := Lib.hid (show stL T.nodes (V k) = 0 → ∀ j, j < k + 1 → stL T.nodes (V j) = 0 from fun h j hj => by
        by_cases e : j = k
        · subst e; exact h
        · exact HA.out j (by omega))
      have HB := Lib.hid (show ¬ stL T.nodes (V k) = 0 → ¬ ∀ i, i < n → (view T.nodes).st (V i) = 0 from fun h h2 => h (h2 k hlt))
      rw [hm] at ck HN HB
      have HX := Lib.hid (stL_of hx)
      obtain ⟨gg, z1, y0, _, _, _, _, y4, _⟩ := H.out.cells hx
      have hm0 : (0 : Int) ≤ (m : Int) := by omega
      have hm1 : (m : Int) < (T.nodes.length : Int) := by omega
      clear ha hm hx
      generalize hxs : x.s = s at *
      by_cases hs : s = 0
      · subst hs
        go_wp2_with fail
        go_round
        case rel => exact ⟨k + 1, by omega, by go_num, HN.out HX.out⟩
        case measure => simp [intOf]; omega
      · have q1 : (s != 0) = true := by simpa using hs
        go_wp2_with fail
        go_ret2
        refine (show manyQ (view T.nodes) q em n V = .no 60 from ?_) ▸ NoP.run H.out HG.out ⟨rfl, Below.refl _ _⟩
        unfold manyQ
        rw [if_pos HIN.out, if_neg h2, if_neg (HB.out (by rw [HX.out]; exact hs))]
    · obtain rfl : k = n := by omega
      have HALL := Lib.hid (show ∀ i, i < k → (view T.nodes).st (V i) = 0 from HA.out)
      clear HA
      by_cases hk0 : k = 0
      · subst hk0
        go_wp2_with fail
        go_ret2
        refine (show manyQ (view T.nodes) q em 0 V = .is em from ?_) ▸ is_run H.out HG.out rfl (Below.refl _ _)
        unfold manyQ
        rw [if_pos HIN.out, if_neg h2, if_pos HALL.out, if_pos rfl]
      by_cases hk1 : k = 1
      · subst hk1
        obtain ⟨b, off, rfl, ha⟩ := HV.out (by omega)
        have ck := ha 0 (by omega)
        rw [Nat.add_zero] at ck
        have HV0 := Lib.hid (show manyQ (view T.nodes) q em 1 V = .is (V 0) by unfold manyQ; rw [if_pos HIN.out, if_neg h2, if_pos HALL.out, if_neg (by decide), if_pos rfl])
        clear ha
        generalize V 0 = v0 at *
        go_wp2_with fail
        go_ret2
        exact HV0.out ▸ is_run H.out HG.out rfl (Below.refl _ _)
      have q0 : ((k : Int) == 0) = false := by rw [beq_eq_false_iff_ne]; omega
      have q1 : ((k : Int) == 1) = false := by rw [beq_eq_false_iff_ne]; omega
      have HM := make_any H.out HG.out ⟨q, 0, 0, 0, p, k, z, V⟩ HV.out (nd_ok HQ.out i0 i0 i0 (by omega) (fun i hi => HIN.out i hi) (fun h => absurd h HQ4.out.2) (fun h => h.elim (fun k => absurd k HQ4.out.1) (fun k => absurd k HQ4.out.2)))
      simp only [ndA] at HM
      go_wp2_with fail
      refine HM.mono ?_
      rintro e w4 hm
      have HMM := Lib.hid hm
      obtain ⟨K', T', t', er', rfl, _⟩ := hm
      clear HM
      go_wp2_with fail
      go_ret2
      refine (show manyQ (view T.nodes) q em k V = .mk ⟨q, 0, 0, 0, none, k, k, V⟩ from ?_) ▸ MakeP.run (P := p) (C := z) HMM.out
      unfold manyQ
      rw [if_pos HIN.out, if_neg h2, if_pos HALL.out, if_neg hk0, if_neg hk1]
set_option maxRecDepth 100000 in
theorem and_run (h : StoAt W K base c T) (g : GoodS T) (h0 : 0 < T.nodes.length) (p : Option Addr) (n z : Nat) (V : Nat → Int) (hV : IntsIn W p n V) (hn : n ≤ 9223372036854775807) :
    Calls Try.prog 45 #[.pointer (some ⟨c, 0, none⟩), .slice p n z] W (RunS T (manyQ (view T.nodes) 10 0 n V) base c K W) := by
  have HC := junction_run h g h0 10 0 (by decide) (by decide) p n z V hV hn
  clear h g hV
  go_enter Try.func45, Try.ntmps45
  go_wp2_with fail
  refine HC.mono ?_
  rintro e w4 hm
  have HMM := Lib.hid hm
  obtain ⟨K', T', t', er', rfl, _⟩ := hm
  clear HC
  go_wp2_with fail
  go_ret2
  exact HMM.out
set_option maxRecDepth 100000 in
theorem or_run (h : StoAt W K base c T) (g : GoodS T) (h0 : 0 < T.nodes.length) (p : Option Addr) (n z : Nat) (V : Nat → Int) (hV : IntsIn W p n V) (hn : n ≤ 9223372036854775807) :
    Calls Try.prog 46 #[.pointer (some ⟨c, 0, none⟩), .slice p n z] W (RunS T (manyQ (view T.nodes) 11 1 n V) base c K W) := by
  have HC := junction_run h g h0 11 1 (by decide) (by decide) p n z V hV hn
  clear h g hV
  go_enter Try.func46, Try.ntmps46
  go_wp2_with fail
  refine HC.mono ?_
  rintro e w4 hm
  have HMM := Lib.hid hm
  obtain ⟨K', T', t', er', rfl, _⟩ := hm
  clear HC
  go_wp2_with fail
  go_ret2
  exact HMM.out
end Go.Proofs.Ytkjmmdffelhkiaa
