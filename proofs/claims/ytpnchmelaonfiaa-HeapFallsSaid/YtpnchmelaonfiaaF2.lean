/- HeapFalls: the law's walk. -/
import Derived.Test.YtpnchmelaonfiaaF1
namespace Go.Proofs.Ytpnchmelaonfiaa
open Go Go.RowKit

theorem chain2 {w w1 w2 : World} {B : Nat} (h : Below B w w1) (k : Below w1.heap.size w1 w2) (hB : B ≤ w1.heap.size) : Below B w w2 := h.trans (k.mono hB)
set_option maxRecDepth 100000 in
set_option maxHeartbeats 1000000 in
theorem falls_any (p : Option Addr) (m c : Nat) (V : Nat → Int) (q : Option Addr) (r c2 : Nat) (U : Nat → Int) (W : World) (hp : NumsIn W p m V) (hq : NumsIn W q r U) (hm : m ≤ 9223372036854775807) (hr : r ≤ 9223372036854775807) :
    Calls Try.prog 6 #[.slice p m c, .slice q r c2] W fun e w' => e = .returned (.bool true) ∧ Below W.heap.size W w' := by
  have HP := Lib.hid hp
  have HQ := Lib.hid hq
  have HK := Lib.hid (fun W => known_any W)
  clear hp hq
  have key : 300 < m ∨ (m ≤ 300 ∧ 1000 < r) ∨ (m ≤ 300 ∧ r ≤ 1000) := by omega
  rcases key with g1 | ⟨g1, g2⟩ | ⟨g1, g2⟩
  · have u1 : (300 : Int) < (m : Int) := by omega
    go_enter Try.func6, Try.ntmps6
    go_wp2_with fail
    refine (HK.out _).mono ?_
    rintro e w1 ⟨rfl, hb⟩
    go_wp2_with fail
    go_ret
    exact ⟨rfl, hb⟩
  · have u1 : ¬ (300 : Int) < (m : Int) := by omega
    have u2 : (1000 : Int) < (r : Int) := by omega
    go_enter Try.func6, Try.ntmps6
    go_wp2_with fail
    refine (HK.out _).mono ?_
    rintro e w1 ⟨rfl, hb⟩
    go_wp2_with fail
    go_ret
    exact ⟨rfl, hb⟩
  have u1 : ¬ (300 : Int) < (m : Int) := by omega
  have u2 : ¬ (1000 : Int) < (r : Int) := by omega
  go_enter Try.func6, Try.ntmps6
  go_wp2_with fail
  refine (mine_new m (by omega) W).mono ?_
  rintro e w1 ⟨⟨a, bw, bp, base, rfl, hM⟩, hb1⟩
  have HM := Lib.hid hM
  have HB1 := Lib.hid hb1
  clear hM hb1
  have HPL := Lib.hid (play_new m g1 HM.out HB1.out.size)
  have HBA := Lib.hid (HB1.out.trans ((below1 w1 (.cells Try.zeroCells66 66)).mono HB1.out.size))
  clear HM HB1
  go_wp2_with fail
  generalize w1.alloc (.cells Try.zeroCells66 66) = w2 at *
  generalize w1.heap.size = z at *
  go_loopw [7, 31] (fun v i wr => ∃ (j len : Nat) (In : Nat → Bool) (R : Option Nat), j ≤ r ∧ len ≤ j ∧ v = .int .i64 len ∧ i = .int .i64 j ∧ Below W.heap.size W wr ∧ Play W.heap.size wr a m len (fun _ => 0) In bw bp base R z In) (fun _ i _ => r - (intOf i).toNat)
  case atStart => exact ⟨0, 0, _, none, by omega, by omega, rfl, rfl, HBA.out, HPL.out⟩
  case round =>
    obtain ⟨j, len, In, R, hj, hl, rfl, rfl, hb, hr⟩ := hrel
    obtain ⟨wo, rfl⟩ : ∃ wo : World, wo = wr := ⟨_, rfl⟩
    have HB := Lib.hid hb
    have HR := Lib.hid hr
    clear hb hr HPL HBA
    by_cases hlt : j < r
    · have j0 : (0 : Int) ≤ (j : Int) := by omega
      have j1 : (j : Int) < (r : Int) := by omega
      obtain ⟨b, off, rfl, hU⟩ := HQ.out (by omega)
      have HU := Lib.hid hU
      have x1 := cell_later HB.out (hU j hlt)
      clear hU
      rcases own_cases m (U j) with ho | ⟨i, hi, hUi⟩
      · have H1 := push_out HR.out.m.1 (U j) ho (by omega)
        clear ho
        go_wp2_with fail
        refine H1.mono ?_
        rintro e wx ⟨rfl, rfl⟩
        clear H1
        go_wp2_with fail
        go_roundw
        case rel => exact ⟨j + 1, len, In, R, by omega, by omega, by go_num, by go_num, HB.out, HR.out⟩
        case measure => simp [intOf]; omega
      · rw [hUi] at x1
        cases hIn : In i with
        | true =>
          have H1 := push_twice HR.out.m.1 i hi hIn (by omega)
          clear hIn
          go_wp2_with fail
          refine H1.mono ?_
          rintro e wx ⟨rfl, rfl⟩
          clear H1
          go_wp2_with fail
          go_roundw
          case rel => exact ⟨j + 1, len, In, R, by omega, by omega, by go_num, by go_num, HB.out, HR.out⟩
          case measure => simp [intOf]; omega
        | false =>
          have H1 := play_push HR.out i hi hIn (by omega) (by omega)
          clear hIn
          go_wp2_with fail
          refine H1.mono ?_
          rintro e w3 ⟨rfl, R', hpl, hbl⟩
          have x2 := cell_later (HB.out.trans hbl) (HU.out j hlt)
          rw [hUi] at x2
          obtain ⟨hps, hbs⟩ := play_set hpl i hi true
          have y1 := hpl.arr i hi
          have y2 := hpl.fz i
          have i0 : (0 : Int) ≤ (i : Int) := by omega
          have i1 : (i : Int) < 300 := by omega
          have HS := Lib.hid hps
          have HBS := Lib.hid ((HB.out.trans hbl).trans hbs)
          clear H1 hpl hbl hps hbs HR HB x1
          go_wp2_with fail
          go_roundw
          case rel => exact ⟨j + 1, len + 1, up1 In i true, R', by omega, by omega, by go_num, by go_num, HBS.out, HS.out⟩
          case measure => simp [intOf]; omega
    · obtain rfl : j = r := by omega
      clear hlt
      go_wp2_with fail
      have HV := Lib.hid hl
      have ln0 : len ≤ 1000 := by omega
      clear hl u2 hj
      go_loopw [51] (fun i wr => ∃ (k : Nat) (Wt : Nat → Int), k ≤ m ∧ i = .int .i64 k ∧ Below W.heap.size W wr ∧ Play W.heap.size wr a m len Wt In bw bp base R z In) (fun i _ => m - (intOf i).toNat)
      case atStart => exact ⟨0, _, by omega, rfl, HB.out, HR.out⟩
      case round =>
        obtain ⟨k, Wt, hk, rfl, hb, hr⟩ := hrel
        obtain ⟨wp, rfl⟩ : ∃ wp : World, wp = wr := ⟨_, rfl⟩
        clear HB HR
        have HB := Lib.hid hb
        have HR := Lib.hid hr
        clear hb hr
        by_cases hlt : k < m
        · have k0 : (0 : Int) ≤ (k : Int) := by omega
          have k1 : (k : Int) < (m : Int) := by omega
          obtain ⟨b, off, rfl, hV⟩ := HP.out (by omega)
          have x1 := cell_later HB.out (hV k hlt)
          clear hV
          have H1 := play_raise HR.out k hlt (V k) (by omega) (by have := HV.out; omega)
          generalize raised Wt k (V k) = Wt' at *
          go_wp2_with fail
          refine H1.mono ?_
          rintro e w3 ⟨x, rfl, hpl, hbl⟩
          clear H1
          go_wp2_with fail
          go_roundw
          case rel => exact ⟨k + 1, Wt', by omega, by go_num, HB.out.trans hbl, hpl⟩
          case measure => simp [intOf]; omega
        · obtain rfl : k = m := by omega
          clear hlt hk
          go_wp2_with fail
          go_loopw [10, 63] (fun v i wr => ∃ (j : Nat) (In : Nat → Bool) (last : Int), j ≤ len ∧ v = .int .i64 last ∧ i = .int .i64 j ∧ Below W.heap.size W wr ∧ Play W.heap.size wr a k (len - j) Wt In bw bp base R z In ∧ (last = -1 ∨ ∃ l : Nat, last = l ∧ l < k ∧ ∀ y, y < k → In y = true → ¬ Ahead Wt y l)) (fun _ i _ => len - (intOf i).toNat)
          case atStart => exact ⟨0, _, -1, by omega, rfl, rfl, HB.out, HR.out, .inl rfl⟩
          case round =>
            obtain ⟨j, In, last, hj, rfl, rfl, hb, hr, hlast⟩ := hrel
            obtain ⟨wq, rfl⟩ : ∃ wq : World, wq = wr := ⟨_, rfl⟩
            clear HB HR
            have HB := Lib.hid hb
            have HR := Lib.hid hr
            have HLA := Lib.hid hlast
            clear hb hr hlast
            by_cases hlt : j < len
            · have k0 : (0 : Int) ≤ (j : Int) := by omega
              have k1 : (j : Int) < (len : Int) := by omega
              have hr := HR.out
              rw [show len - j = (len - (j + 1)) + 1 by omega] at hr
              have H1 := play_pop hr (by omega) (by have := HV.out; omega)
              clear hr
              go_wp2_with fail
              refine H1.mono ?_
              rintro e w3 ⟨x, rfl, hx, hin, hbest, hpl, hbl⟩
              clear H1 HR
              have x0 : ¬ (x : Int) < 0 := by omega
              have x1 : ¬ (k : Int) ≤ (x : Int) := by omega
              have x2 : (0 : Int) ≤ (x : Int) := by omega
              have x3 : (x : Int) < 300 := by omega
              have y1 := hpl.arr x hx
              rw [hin] at y1
              have y2 := hpl.fz x
              obtain ⟨hps, hbs⟩ := play_set hpl x hx false
              have HBA := Lib.hid ((HB.out.trans hbl).trans hbs)
              have HPA := Lib.hid hps
              have HBE := Lib.hid hbest
              have hlast : last = -1 ∨ ∃ l : Nat, last = l ∧ l < k ∧ (Wt x < Wt l ∨ (Wt x = Wt l ∧ ¬ (x : Int) < (l : Int))) := by
                rcases HLA.out with h | ⟨l, h1, h2, h3⟩
                · exact .inl h
                · have := h3 x hx hin
                  unfold Ahead at this
                  exact .inr ⟨l, h1, h2, by omega⟩
              clear hps hbs hbl hpl hbest hin HB HLA
              rcases hlast with rfl | ⟨l, rfl, hl2, hw⟩
              · go_wp2_with fail
                go_roundw
                case rel => exact ⟨j + 1, up1 In x false, (x : Int), by omega, rfl, by go_num, HBA.out, by rw [show len - (j + 1) = len - (j + 1) from rfl]; exact HPA.out, .inr ⟨x, rfl, hx, fun y hy hin => HBE.out y hy (by
                  by_cases e : y = x
                  · subst e; rw [up1_same] at hin; cases hin
                  · rw [up1_ne _ _ e] at hin; exact hin)⟩⟩
                case measure => simp [intOf]; omega
              · have l0 : (0 : Int) ≤ (l : Int) := by omega
                have HW1 := play_weight HPA.out x hx (by omega)
                have HW2 := play_weight HPA.out l hl2 (by omega)
                rcases hw with hw | ⟨hw, hxl⟩
                · have t1 : ¬ Wt l < Wt x := by omega
                  have t2 : (Wt x == Wt l) = false := by rw [beq_eq_false_iff_ne]; omega
                  clear hw
                  generalize Wt x = u at HW1 t1 t2
                  generalize Wt l = v at HW2 t1 t2
                  go_wp2_with fail
                  refine HW1.mono ?_
                  rintro e w4 ⟨rfl, rfl⟩
                  go_wp2_with fail
                  refine HW2.mono ?_
                  rintro e w4 ⟨rfl, rfl⟩
                  go_wp2_with fail
                  refine HW1.mono ?_
                  rintro e w4 ⟨rfl, rfl⟩
                  go_wp2_with fail
                  refine HW2.mono ?_
                  rintro e w4 ⟨rfl, rfl⟩
                  go_wp2_with fail
                  go_roundw
                  case rel => exact ⟨j + 1, up1 In x false, (x : Int), by omega, rfl, by go_num, HBA.out, HPA.out, .inr ⟨x, rfl, hx, fun y hy hin => HBE.out y hy (by
                    by_cases e : y = x
                    · subst e; rw [up1_same] at hin; cases hin
                    · rw [up1_ne _ _ e] at hin; exact hin)⟩⟩
                  case measure => simp [intOf]; omega
                · rw [← hw] at HW2
                  have t1 : ¬ Wt x < Wt x := by omega
                  have HWX := Lib.hid hw
                  clear hw
                  generalize Wt x = u at HW1 HW2 t1
                  go_wp2_with fail
                  refine HW1.mono ?_
                  rintro e w4 ⟨rfl, rfl⟩
                  go_wp2_with fail
                  refine HW2.mono ?_
                  rintro e w4 ⟨rfl, rfl⟩
                  go_wp2_with fail
                  refine HW1.mono ?_
                  rintro e w4 ⟨rfl, rfl⟩
                  go_wp2_with fail
                  refine HW2.mono ?_
                  rintro e w4 ⟨rfl, rfl⟩
                  go_wp2_with fail
                  go_roundw
                  case rel => exact ⟨j + 1, up1 In x false, (x : Int), by omega, rfl, by go_num, HBA.out, HPA.out, .inr ⟨x, rfl, hx, fun y hy hin => HBE.out y hy (by
                    by_cases e : y = x
                    · subst e; rw [up1_same] at hin; cases hin
                    · rw [up1_ne _ _ e] at hin; exact hin)⟩⟩
                  case measure => simp [intOf]; omega
            · obtain rfl : j = len := by omega
              obtain ⟨hm, _, _, _, _, _, _⟩ := HR.out
              rw [Nat.sub_self] at hm
              have H1 := pop_none hm.1
              go_wp2_with fail
              refine H1.mono ?_
              rintro e w3 ⟨rfl, rfl⟩
              go_wp2_with fail
              refine (HK.out _).mono ?_
              rintro e w4 ⟨rfl, hbk⟩
              go_wp2_with fail
              go_ret
              exact ⟨rfl, chain2 HB.out hbk HB.out.size⟩
end Go.Proofs.Ytpnchmelaonfiaa
