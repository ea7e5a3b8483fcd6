/- SortsRise: its walk. -/
import Derived.Test.YtkjmmdffelhkiaaS16
namespace Go.Proofs.Ytkjmmdffelhkiaa
open Go Go.RowKit Go.Maps

structure RiseR (W wr : World) (c : Nat) (ss ff : Int) (T : Tab) (K : Nat → Nat) : Prop where
  tab : TabAt wr K W.heap.size c T
  good : Good T
  s : ss ≤ 1 + (T.names.length : Int)
  f : ff < (T.infos.length : Int)
  f0 : -1 ≤ ff
  s0 : 0 ≤ ss
  b : Below W.heap.size W wr
theorem StepT.keep {W W' : World} {K K' : Nat → Nat} (h : StepT W W' K K') {a : Addr} {v : Value} (hc : W.cell? a = some v) (h0 : K a.block = 0) : W'.cell? a = some v := h.only.cell hc (by omega)
theorem RiseR.later {W wr w' : World} {c : Nat} {ss ff : Int} {T : Tab} {K : Nat → Nat} (h : RiseR W wr c ss ff T K) (hb : Below wr.heap.size wr w') : RiseR W w' c ss ff T K :=
  ⟨h.tab.later hb, h.good, h.s, h.f, h.f0, h.s0, h.b.trans (hb.mono h.b.size)⟩
set_option maxRecDepth 100000 in
set_option maxHeartbeats 8000000 in
theorem rise_any (p : Option Addr) (n z : Nat) (d : OD) (W : World) (h : OpsIn W p n d) (hn : n ≤ 9223372036854775807) :
    Calls Try.prog 5 #[.slice p n z] W fun e w' => e = .returned (.bool true) ∧ Below W.heap.size W w' := by
  have HT := tame_any p n z d 100 W h hn (by omega) (by omega)
  have H := Lib.hid h
  clear h
  go_enter Try.func5, Try.ntmps5
  go_wp2_with fail
  refine HT.mono ?_
  rintro e w1 ⟨b, rfl, hw, ht⟩
  obtain rfl := hw.symm
  clear HT
  cases b
  · clear ht
    go_wp2_with fail
    refine (known_any _).mono ?_
    rintro e w2 ⟨rfl, hb⟩
    go_wp2_with fail
    go_ret
    exact ⟨rfl, hb⟩
  have HTM := Lib.hid (ht rfl)
  have hn100 : n ≤ 100 := by have := HTM.out.1; omega
  clear ht
  go_wp2_with fail
  refine (new_any _).mono ?_
  rintro e w2 ⟨c, K1, rfl, h1, hcc, hb1⟩
  have HR0 := Lib.hid (show RiseR W w2 c 1 (-1) tab0 K1 from ⟨h1, good0, by decide, by decide, by omega, by omega, hb1⟩)
  clear h1 hb1 hcc
  go_wp2_with fail
  go_loopw [4, 5, 6] (fun s f i wr => ∃ (k : Nat) (K : Nat → Nat) (T : Tab) (ss ff : Int), k ≤ n ∧ s = .int .i64 ss ∧ f = .int .i64 ff ∧ i = .int .i64 k ∧ RiseR W wr c ss ff T K) (fun _ _ i _ => n - (intOf i).toNat)
  case atStart => exact ⟨0, _, _, _, _, Nat.zero_le _, rfl, rfl, rfl, HR0.out⟩
  case round =>
    obtain ⟨k, K, T, ss, ff, hk, rfl, rfl, rfl, hr⟩ := hrel
    clear HR0
    by_cases hlt : k < n
    rotate_left
    · obtain rfl : k = n := by omega
      have HR := Lib.hid hr
      clear hr
      go_wp2_with fail
      refine (known_any _).mono ?_
      rintro e w3 ⟨rfl, hb⟩
      have HB := Lib.hid (HR.out.b.trans (hb.mono HR.out.b.size))
      clear hb
      go_wp2_with fail
      go_ret
      exact ⟨rfl, HB.out⟩
    have hop := H.out.later hr.b
    obtain ⟨b, off, rfl, ha⟩ := hop.at_ (by omega)
    obtain ⟨hI, _, hZ, _, hN64, _, _⟩ := H.out.args k hlt
    obtain ⟨hS, hL⟩ := HTM.out.2 k hlt
    have c0 := ha.k k hlt
    have c1 := ha.nn k hlt
    have c2 := ha.s k hlt
    have c3 := ha.p k hlt
    have c4 := ha.r k hlt
    have c5 := ha.dd k hlt
    have hk0 : (0 : Int) ≤ (k : Int) := by omega
    have hk1 : (k : Int) < (n : Int) := by omega
    obtain ⟨x, hx⟩ : ∃ x, x = d.F k := ⟨_, rfl⟩
    rw [← hx] at hI hZ hS hL c2 c3 c4 c5
    generalize d.K k = kd at *
    generalize d.N k = kn at *
    obtain ⟨N, P, L, C, V, R, D⟩ := x
    simp only at hI hZ hS hL c2 c3 c4 c5
    clear ha hop hx
    have hbx := below1 wr (.cells #[.int .i64 kd, .int .i64 kn, .string N, .slice P L C, .int .i64 R, .bool D] 37)
    have HR := Lib.hid (hr.later hbx)
    have HI := Lib.hid hI
    have HZ := Lib.hid hZ
    have HN64 := Lib.hid hN64
    have hs0 := hr.s0
    have hf0 := hr.f0
    have hsb := hr.s
    have hfb := hr.f
    have hg1 := hr.good.b1
    have hg2 := hr.good.b2
    have HKB := Lib.hid (show K wr.heap.size = 0 from hr.tab.fr _ (Nat.le_refl _))
    clear hr hbx hI hZ hN64
    have HK := Lib.hid (show kd = 0 ∨ kd = 1 ∨ kd = 2 ∨ kd = 3 ∨ (kd ≠ 0 ∧ kd ≠ 1 ∧ kd ≠ 2 ∧ kd ≠ 3) by omega)
    rcases HK.out with rfl | rfl | rfl | rfl | ⟨k0, k1, k2, k3⟩
    · clear HK
      have y1 : (wr.alloc (.cells #[.int .i64 0, .int .i64 kn, .string N, .slice P L C, .int .i64 R, .bool D] 37)).cell? ⟨wr.heap.size, 1, none⟩ = some (.int .i64 kn) := by simp [go_sem]
      have y2 : (wr.alloc (.cells #[.int .i64 0, .int .i64 kn, .string N, .slice P L C, .int .i64 R, .bool D] 37)).cell? ⟨wr.heap.size, 2, none⟩ = some (.string N) := by simp [go_sem]
      have y3 : (wr.alloc (.cells #[.int .i64 0, .int .i64 kn, .string N, .slice P L C, .int .i64 R, .bool D] 37)).cell? ⟨wr.heap.size, 3, none⟩ = some (.slice P L C) := by simp [go_sem]
      have y4 : (wr.alloc (.cells #[.int .i64 0, .int .i64 kn, .string N, .slice P L C, .int .i64 R, .bool D] 37)).cell? ⟨wr.heap.size, 4, none⟩ = some (.int .i64 R) := by simp [go_sem]
      have y5 : (wr.alloc (.cells #[.int .i64 0, .int .i64 kn, .string N, .slice P L C, .int .i64 R, .bool D] 37)).cell? ⟨wr.heap.size, 5, none⟩ = some (.bool D) := by simp [go_sem]
      go_upto_region 11 with (fail)
      generalize wr.alloc (.cells #[.int .i64 0, .int .i64 kn, .string N, .slice P L C, .int .i64 R, .bool D] 37) = w3 at *
      generalize wr.heap.size = bb at *
      have H1 := declareSort_any HR.out.tab HR.out.good N (by omega)
      go_wp2_with fail
      refine H1.mono ?_
      rintro e w4 ⟨K', T', s, er, rfl, ht, hg, hst, hp⟩
      clear H1
      have hb4 := hst.toBelow HR.out.tab
      replace y2 := hst.keep y2 HKB.out
      rcases hp with ⟨her, rfl, _⟩ | ⟨rfl, rfl, hng, rfl⟩
      · have q1 : (er != 0) = true := by simpa using her
        have HQ := Lib.hid (show RiseR W w4 c ss ff T' K' from ⟨ht, hg, hsb, hfb, hf0, hs0, HR.out.b.trans hb4⟩)
        clear ht hg hst hb4 her
        go_wp2_with fail
        go_roundw
        case rel => exact ⟨k + 1, _, _, _, _, by omega, rfl, rfl, by go_num, HQ.out⟩
        case measure => simp [intOf]; omega
      · have H2 := sort_any ht N (by omega)
        have hln : (addS T N).names.length = T.names.length + 1 := by show (T.names ++ [N]).length = _; simp
        have HQ := Lib.hid (show RiseR W w4 c (2 + (T.names.length : Int)) ff (addS T N) K' from ⟨ht, hg, by rw [hln]; omega, hfb, hf0, by omega, HR.out.b.trans hb4⟩)
        have HF := Lib.hid (show (addS T N).f1 (keyS N) = some (sV T.names.length) by show updF _ _ _ _ = _; unfold updF; rw [if_pos rfl])
        have HNG := Lib.hid hng
        clear ht hg hst hb4 hng hln
        go_wp2_with fail
        refine H2.mono ?_
        rintro e w5 ⟨v, er2, rfl, hw, h2⟩
        obtain rfl := hw.symm
        obtain ⟨rfl, rfl⟩ := (h2 HNG.out).1 _ HF.out
        clear h2 H2
        unfold sV
        have q2 : decide (2 + (T.names.length : Int) ≤ ss) = false := by rw [decide_eq_false_iff_not]; omega
        go_wp2_with fail
        go_roundw
        case rel => exact ⟨k + 1, _, _, _, _, by omega, rfl, rfl, by go_num, HQ.out⟩
        case measure => simp [intOf]; omega
    · clear HK
      have y1 : (wr.alloc (.cells #[.int .i64 1, .int .i64 kn, .string N, .slice P L C, .int .i64 R, .bool D] 37)).cell? ⟨wr.heap.size, 1, none⟩ = some (.int .i64 kn) := by simp [go_sem]
      have y2 : (wr.alloc (.cells #[.int .i64 1, .int .i64 kn, .string N, .slice P L C, .int .i64 R, .bool D] 37)).cell? ⟨wr.heap.size, 2, none⟩ = some (.string N) := by simp [go_sem]
      have y3 : (wr.alloc (.cells #[.int .i64 1, .int .i64 kn, .string N, .slice P L C, .int .i64 R, .bool D] 37)).cell? ⟨wr.heap.size, 3, none⟩ = some (.slice P L C) := by simp [go_sem]
      have y4 : (wr.alloc (.cells #[.int .i64 1, .int .i64 kn, .string N, .slice P L C, .int .i64 R, .bool D] 37)).cell? ⟨wr.heap.size, 4, none⟩ = some (.int .i64 R) := by simp [go_sem]
      have y5 : (wr.alloc (.cells #[.int .i64 1, .int .i64 kn, .string N, .slice P L C, .int .i64 R, .bool D] 37)).cell? ⟨wr.heap.size, 5, none⟩ = some (.bool D) := by simp [go_sem]
      go_upto_region 18 with (fail)
      generalize wr.alloc (.cells #[.int .i64 1, .int .i64 kn, .string N, .slice P L C, .int .i64 R, .bool D] 37) = w3 at *
      generalize wr.heap.size = bb at *
      have H0 := names_any ⟨N, P, L, C, V, R, D⟩ w3 (HI.out.later HR.out.b) (by simp only; omega) HZ.out
      unfold infoA at H0
      simp only at H0
      go_wp2_with fail
      refine H0.mono ?_
      rintro e w4 ⟨P4, C4, rfl, hI4, hb4, h94⟩
      clear H0
      have H1 := declareFun_any (HR.out.tab.later hb4) HR.out.good ⟨N, P4, L, C4, V, R, D⟩ hI4 (by simp only; omega) (by simp only; omega)
      unfold infoA at H1
      have HT4 := Lib.hid (HR.out.later hb4)
      replace y2 := cell_later hb4 y2
      replace y3 := cell_later hb4 y3
      replace y4 := cell_later hb4 y4
      replace y5 := cell_later hb4 y5
      clear hI4 hb4 h94
      go_wp2_with fail
      refine H1.mono ?_
      rintro e w5 ⟨K', T', s, er, rfl, ht, hg, hst, hp⟩
      clear H1
      have hb5 := hst.toBelow HT4.out.tab
      replace y2 := hst.keep y2 HKB.out
      replace y3 := hst.keep y3 HKB.out
      replace y4 := hst.keep y4 HKB.out
      replace y5 := hst.keep y5 HKB.out
      rcases hp with ⟨her, rfl⟩ | ⟨rfl, rfl, hL20, P5, C5, rfl⟩
      · have q1 : (er != 0) = true := by simpa using her
        have HQ := Lib.hid (show RiseR W w5 c ss ff T' K' from ⟨ht, hg, hsb, hfb, hf0, hs0, HT4.out.b.trans hb5⟩)
        clear ht hg hst hb5 her
        go_wp2_with fail
        go_roundw
        case rel => exact ⟨k + 1, _, _, _, _, by omega, rfl, rfl, by go_num, HQ.out⟩
        case measure => simp [intOf]; omega
      · have H2 := fun_any ht N (by omega)
        have H3 := info_any ht hg T.infos.length ⟨N, P5, L, C5, V, R, D⟩ (by show (T.infos ++ [_])[T.infos.length]? = _; simp)
        unfold infoA at H3
        simp only at H3
        have hln : (addF T ⟨N, P5, L, C5, V, R, D⟩).infos.length = T.infos.length + 1 := by show (T.infos ++ [_]).length = _; simp
        have HQ := Lib.hid (show RiseR W w5 c ss (T.infos.length : Int) (addF T ⟨N, P5, L, C5, V, R, D⟩) K' from ⟨ht, hg, hsb, by rw [hln]; omega, by omega, hs0, HT4.out.b.trans hb5⟩)
        have HF := Lib.hid (show (addF T ⟨N, P5, L, C5, V, R, D⟩).f2 (keyS N) = some (nV T.infos.length) by show updF _ _ _ _ = _; unfold updF; rw [if_pos rfl])
        clear ht hg hst hb5 hln
        go_wp2_with fail
        refine H2.mono ?_
        rintro e w6 ⟨v, er2, rfl, hw, h2, _⟩
        obtain rfl := hw.symm
        obtain ⟨rfl, rfl⟩ := h2 _ HF.out
        clear h2 H2
        unfold nV
        go_wp2_with fail
        refine H3.mono ?_
        rintro e w7 ⟨P7, C7, rfl, hI7, hb7, h97⟩
        clear H3
        have hbA := below1 w7 (.cells #[.string N, .slice P7 L C7, .int .i64 R, .bool D] 35)
        have hb8 := chain hb7 hbA
        have H4 := sameFun_any ⟨N, P7, L, C7, V, R, D⟩ ⟨N, P, L, C, V, R, D⟩ _ ⟨rfl, rfl, fun _ _ => rfl, rfl, rfl⟩ (hI7.later hbA) (HI.out.later (HQ.out.b.trans (hb8.mono HQ.out.b.size))) (by simp only; omega)
        unfold infoA at H4
        simp only at H4
        have HQ8 := Lib.hid (HQ.out.later hb8)
        replace y2 := cell_later hb8 y2
        replace y3 := cell_later hb8 y3
        replace y4 := cell_later hb8 y4
        replace y5 := cell_later hb8 y5
        have q2 : decide ((T.infos.length : Int) ≤ ff) = false := by rw [decide_eq_false_iff_not]; omega
        clear hI7 hb7 h97 hbA hb8
        go_wp2_with fail
        refine H4.mono ?_
        rintro e w9 ⟨rfl, hb9⟩
        have HQ9 := Lib.hid (HQ8.out.later hb9)
        clear H4 hb9
        go_wp2_with fail
        go_roundw
        case rel => exact ⟨k + 1, _, _, _, _, by omega, rfl, rfl, by go_num, HQ9.out⟩
        case measure => simp [intOf]; omega
    · clear HK
      have y1 : (wr.alloc (.cells #[.int .i64 2, .int .i64 kn, .string N, .slice P L C, .int .i64 R, .bool D] 37)).cell? ⟨wr.heap.size, 1, none⟩ = some (.int .i64 kn) := by simp [go_sem]
      have y2 : (wr.alloc (.cells #[.int .i64 2, .int .i64 kn, .string N, .slice P L C, .int .i64 R, .bool D] 37)).cell? ⟨wr.heap.size, 2, none⟩ = some (.string N) := by simp [go_sem]
      have y3 : (wr.alloc (.cells #[.int .i64 2, .int .i64 kn, .string N, .slice P L C, .int .i64 R, .bool D] 37)).cell? ⟨wr.heap.size, 3, none⟩ = some (.slice P L C) := by simp [go_sem]
      have y4 : (wr.alloc (.cells #[.int .i64 2, .int .i64 kn, .string N, .slice P L C, .int .i64 R, .bool D] 37)).cell? ⟨wr.heap.size, 4, none⟩ = some (.int .i64 R) := by simp [go_sem]
      have y5 : (wr.alloc (.cells #[.int .i64 2, .int .i64 kn, .string N, .slice P L C, .int .i64 R, .bool D] 37)).cell? ⟨wr.heap.size, 5, none⟩ = some (.bool D) := by simp [go_sem]
      go_upto_region 26 with (fail)
      generalize wr.alloc (.cells #[.int .i64 2, .int .i64 kn, .string N, .slice P L C, .int .i64 R, .bool D] 37) = w3 at *
      generalize wr.heap.size = bb at *
      have H1 := push_any HR.out.tab HR.out.good
      go_wp2_with fail
      refine H1.mono ?_
      rintro e w4 ⟨K', T', er, rfl, ht, hg, hst, hp⟩
      clear H1
      have HQ := Lib.hid (show RiseR W w4 c ss ff T' K' from ⟨ht, hg, by rcases hp with ⟨_, rfl, _⟩ | ⟨_, _, rfl⟩ <;> exact hsb, by rcases hp with ⟨_, rfl, _⟩ | ⟨_, _, rfl⟩ <;> exact hfb, hf0, hs0, HR.out.b.trans (hst.toBelow HR.out.tab)⟩)
      clear ht hg hst hp
      go_wp2_with fail
      go_roundw
      case rel => exact ⟨k + 1, _, _, _, _, by omega, rfl, rfl, by go_num, HQ.out⟩
      case measure => simp [intOf]; omega
    · clear HK
      have y1 : (wr.alloc (.cells #[.int .i64 3, .int .i64 kn, .string N, .slice P L C, .int .i64 R, .bool D] 37)).cell? ⟨wr.heap.size, 1, none⟩ = some (.int .i64 kn) := by simp [go_sem]
      have y2 : (wr.alloc (.cells #[.int .i64 3, .int .i64 kn, .string N, .slice P L C, .int .i64 R, .bool D] 37)).cell? ⟨wr.heap.size, 2, none⟩ = some (.string N) := by simp [go_sem]
      have y3 : (wr.alloc (.cells #[.int .i64 3, .int .i64 kn, .string N, .slice P L C, .int .i64 R, .bool D] 37)).cell? ⟨wr.heap.size, 3, none⟩ = some (.slice P L C) := by simp [go_sem]
      have y4 : (wr.alloc (.cells #[.int .i64 3, .int .i64 kn, .string N, .slice P L C, .int .i64 R, .bool D] 37)).cell? ⟨wr.heap.size, 4, none⟩ = some (.int .i64 R) := by simp [go_sem]
      have y5 : (wr.alloc (.cells #[.int .i64 3, .int .i64 kn, .string N, .slice P L C, .int .i64 R, .bool D] 37)).cell? ⟨wr.heap.size, 5, none⟩ = some (.bool D) := by simp [go_sem]
      go_upto_region 28 with (fail)
      generalize wr.alloc (.cells #[.int .i64 3, .int .i64 kn, .string N, .slice P L C, .int .i64 R, .bool D] 37) = w3 at *
      generalize wr.heap.size = bb at *
      have H1 := pop_any HR.out.tab HR.out.good kn HN64.out
      go_wp2_with fail
      refine H1.mono ?_
      rintro e w4 ⟨T', er, rfl, ht, hg, hst, hp⟩
      clear H1
      have HQ := Lib.hid (show RiseR W w4 c ss ff T' K from ⟨ht, hg, by rcases hp with ⟨_, rfl, _⟩ | ⟨_, _, rfl⟩ | ⟨_, _, _, _, _, _, _, _, _, _, _, rfl, _⟩ <;> exact hsb, by rcases hp with ⟨_, rfl, _⟩ | ⟨_, _, rfl⟩ | ⟨_, _, _, _, _, _, _, _, _, _, _, rfl, _⟩ <;> exact hfb, hf0, hs0, HR.out.b.trans (hst.toBelow HR.out.tab)⟩)
      clear ht hg hst hp
      go_wp2_with fail
      go_roundw
      case rel => exact ⟨k + 1, _, _, _, _, by omega, rfl, rfl, by go_num, HQ.out⟩
      case measure => simp [intOf]; omega
    · clear HK
      have q0 : (kd == 0) = false := by simpa using k0
      have q1 : (kd == 1) = false := by simpa using k1
      have q2 : (kd == 2) = false := by simpa using k2
      have q3 : (kd == 3) = false := by simpa using k3
      clear k0 k1 k2 k3
      go_wp2_with fail
      go_roundw
      case rel => exact ⟨k + 1, _, _, _, _, by omega, rfl, rfl, by go_num, HR.out⟩
      case measure => simp [intOf]; omega
end Go.Proofs.Ytkjmmdffelhkiaa
