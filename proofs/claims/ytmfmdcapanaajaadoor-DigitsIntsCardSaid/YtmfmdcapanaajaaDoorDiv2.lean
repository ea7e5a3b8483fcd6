/- bits.Div64 by 10^19. -/
import Derived.Test.YtmfmdcapanaajaaDoorDiv
import Derived.LoopTactic
namespace Go.Proofs.YtmfmdcapanaajaaDoor
open Go Go.RowKit Go.Sort

set_option maxRecDepth 100000 in
set_option maxHeartbeats 4000000 in
theorem div_any (hi lo : Int) (w : World) (h0 : 1 ≤ hi) (h1 : hi < 10000000000000000000) (l0 : 0 ≤ lo) (l1 : lo ≤ 18446744073709551615) :
    Calls Tryd.prog 42 #[.int .u64 hi, .int .u64 lo, .int .u64 10000000000000000000] w fun e w' => e = .returned (.tuple #[.int .u64 ((hi * 18446744073709551616 + lo) / 10000000000000000000), .int .u64 ((hi * 18446744073709551616 + lo) % 10000000000000000000)]) ∧ ∃ n, w' = w.drewN n := by
  have hbl : Lib.bitLen (10000000000000000000 : Int).toNat = 64 := by decide +kernel
  have b1 : bits .and .u64 10000000000000000000 4294967295 = 2313682944 := by decide +kernel
  have b2 : bits .or .u64 hi (lo / 18446744073709551616) = hi := by rw [show lo / 18446744073709551616 = 0 by omega]; exact u64_or0 hi (by omega) (by omega)
  have b3 := u64_and32 lo l0 l1
  have b4 : hi.tdiv 2328306436 = hi / 2328306436 := Int.tdiv_eq_ediv_of_nonneg (by omega)
  have e1 : (hi == 0) = false := by rw [beq_eq_false_iff_ne]; omega
  have e2 : decide ((10000000000000000000 : Int) ≤ hi) = false := by rw [decide_eq_false_iff_not]; omega
  obtain ⟨Q, hQ⟩ : ∃ Q, Q = (hi * 4294967296 + lo / 4294967296) / 10000000000000000000 := ⟨_, rfl⟩
  obtain ⟨R, hR⟩ : ∃ R, R = (hi * 4294967296 + lo / 4294967296) % 10000000000000000000 := ⟨_, rfl⟩
  have R0 : 0 ≤ R := by omega
  have R1 : R < 10000000000000000000 := by omega
  have hwr : IntKind.u64.wrap (IntKind.u64.wrap (IntKind.u64.wrap (hi * 4294967296) + lo / 4294967296) - IntKind.u64.wrap (Q * 10000000000000000000)) = R := by
    rw [wrap_u, wrap_u, wrap_u, wrap_u]; omega
  have b5 : R.tdiv 2328306436 = R / 2328306436 := Int.tdiv_eq_ediv_of_nonneg (by omega)
  obtain ⟨P, hP⟩ : ∃ P, P = (R * 4294967296 + lo % 4294967296) / 10000000000000000000 := ⟨_, rfl⟩
  obtain ⟨S, hS⟩ : ∃ S, S = (R * 4294967296 + lo % 4294967296) % 10000000000000000000 := ⟨_, rfl⟩
  have hwp : IntKind.u64.wrap (IntKind.u64.wrap (IntKind.u64.wrap (R * 4294967296) + lo % 4294967296) - IntKind.u64.wrap (P * 10000000000000000000)) = S := by
    rw [wrap_u, wrap_u, wrap_u, wrap_u]; omega
  have P0 : 0 ≤ P := by omega
  have P1 : P < 4294967296 := by omega
  have Q0 : 0 ≤ Q := by omega
  have Q1 : Q < 4294967296 := by omega
  have S0 : 0 ≤ S := by omega
  have S1 : S < 10000000000000000000 := by omega
  have HF := Lib.hid (show (hi * 18446744073709551616 + lo) / 10000000000000000000 = Q * 4294967296 + P ∧ (hi * 18446744073709551616 + lo) % 10000000000000000000 = S by omega)
  have GA := Lib.hid (gs_start hi (lo / 4294967296) (by omega) h1 (by omega) (by omega))
  have GB := Lib.hid (gs_start R (lo % 4294967296) (by omega) R1 (by omega) (by omega))
  have HQ := Lib.hid hQ
  have HP := Lib.hid hP
  clear hQ hR hP hS
  go_enter Tryd.func42, Tryd.ntmps42
  go_wp2_with fail
  refine (Tryd.bits_LeadingZeros64 _ _ (by omega) (by omega)).mono ?_
  rintro e w1 ⟨rfl, rfl⟩
  rw [hbl]
  go_wp2_with fail
  go_loop [15, 16] (fun q r => ∃ a b : Int, q = .int .u64 a ∧ r = .int .u64 b ∧ GS hi (lo / 4294967296) a b) (fun q _ => (intOf q).toNat)
  case atStart => exact ⟨_, _, rfl, rfl, GA.out⟩
  case round =>
    obtain ⟨a, b, rfl, rfl, hG⟩ := hrel
    have g1 : 0 ≤ b := hG.2.1
    have g2 : b < 4294967296 := hG.2.2.1
    have g3 : a ≤ 4294967296 := hG.2.2.2.2.1
    have g4 : Q ≤ a := by rw [HQ.out]; exact hG.2.2.2.1
    have HG := Lib.hid hG
    clear hG
    by_cases ha : 4294967296 ≤ a
    · by_cases hb : b + 2328306436 < 4294967296
      · have HN := Lib.hid (gs_next _ _ _ _ HG.out (.inl ha) hb)
        go_wp2_with fail
        go_round
        case rel => exact ⟨_, _, rfl, rfl, HN.out⟩
        case measure => simp [intOf]; omega
      · have hN := gs_break _ _ _ _ HG.out (.inl ha) (by omega)
        rw [← HQ.out] at hN
        go_wp2_with fail
        go_loop [18, 16] (fun q r => ∃ a b : Int, q = .int .u64 a ∧ r = .int .u64 b ∧ GS R (lo % 4294967296) a b) (fun q _ => (intOf q).toNat)
        case atStart => exact ⟨_, _, rfl, rfl, GB.out⟩
        case round =>
          obtain ⟨a, b, rfl, rfl, hG⟩ := hrel
          have g1 : 0 ≤ b := hG.2.1
          have g2 : b < 4294967296 := hG.2.2.1
          have g3 : a ≤ 4294967296 := hG.2.2.2.2.1
          have g4 : P ≤ a := by rw [HP.out]; exact hG.2.2.2.1
          have HG := Lib.hid hG
          clear hG
          by_cases ha : 4294967296 ≤ a
          · by_cases hb : b + 2328306436 < 4294967296
            · have HN := Lib.hid (gs_next _ _ _ _ HG.out (.inl ha) hb)
              go_wp2_with fail
              go_round
              case rel => exact ⟨_, _, rfl, rfl, HN.out⟩
              case measure => simp [intOf]; omega
            · have hN := gs_break _ _ _ _ HG.out (.inl ha) (by omega)
              rw [← HP.out] at hN
              go_wp2_with fail
              go_ret2
              exact ⟨by rw [HF.out.1, HF.out.2]; first | rfl | (rw [hN]; rfl), 0, by simp [World.drewN_zero]⟩
          · by_cases hc : b * 4294967296 + (lo % 4294967296) < a * 2313682944
            · by_cases hb : b + 2328306436 < 4294967296
              · have HN := Lib.hid (gs_next _ _ _ _ HG.out (.inr hc) hb)
                go_wp2_with fail
                go_round
                case rel => exact ⟨_, _, rfl, rfl, HN.out⟩
                case measure => simp [intOf]; omega
              · have hN := gs_break _ _ _ _ HG.out (.inr hc) (by omega)
                rw [← HP.out] at hN
                go_wp2_with fail
                go_ret2
                exact ⟨by rw [HF.out.1, HF.out.2]; first | rfl | (rw [hN]; rfl), 0, by simp [World.drewN_zero]⟩
            · have hN := gs_end _ _ _ _ HG.out (by omega) (by omega)
              rw [← HP.out] at hN
              subst hN
              go_wp2_with fail
              go_ret2
              exact ⟨by rw [HF.out.1, HF.out.2]; first | rfl | (rw [hN]; rfl), 0, by simp [World.drewN_zero]⟩
    · by_cases hc : b * 4294967296 + (lo / 4294967296) < a * 2313682944
      · by_cases hb : b + 2328306436 < 4294967296
        · have HN := Lib.hid (gs_next _ _ _ _ HG.out (.inr hc) hb)
          go_wp2_with fail
          go_round
          case rel => exact ⟨_, _, rfl, rfl, HN.out⟩
          case measure => simp [intOf]; omega
        · have hN := gs_break _ _ _ _ HG.out (.inr hc) (by omega)
          rw [← HQ.out] at hN
          go_wp2_with fail
          go_loop [18, 16] (fun q r => ∃ a b : Int, q = .int .u64 a ∧ r = .int .u64 b ∧ GS R (lo % 4294967296) a b) (fun q _ => (intOf q).toNat)
          case atStart => exact ⟨_, _, rfl, rfl, GB.out⟩
          case round =>
            obtain ⟨a, b, rfl, rfl, hG⟩ := hrel
            have g1 : 0 ≤ b := hG.2.1
            have g2 : b < 4294967296 := hG.2.2.1
            have g3 : a ≤ 4294967296 := hG.2.2.2.2.1
            have g4 : P ≤ a := by rw [HP.out]; exact hG.2.2.2.1
            have HG := Lib.hid hG
            clear hG
            by_cases ha : 4294967296 ≤ a
            · by_cases hb : b + 2328306436 < 4294967296
              · have HN := Lib.hid (gs_next _ _ _ _ HG.out (.inl ha) hb)
                go_wp2_with fail
                go_round
                case rel => exact ⟨_, _, rfl, rfl, HN.out⟩
                case measure => simp [intOf]; omega
              · have hN := gs_break _ _ _ _ HG.out (.inl ha) (by omega)
                rw [← HP.out] at hN
                go_wp2_with fail
                go_ret2
                exact ⟨by rw [HF.out.1, HF.out.2]; first | rfl | (rw [hN]; rfl), 0, by simp [World.drewN_zero]⟩
            · by_cases hc : b * 4294967296 + (lo % 4294967296) < a * 2313682944
              · by_cases hb : b + 2328306436 < 4294967296
                · have HN := Lib.hid (gs_next _ _ _ _ HG.out (.inr hc) hb)
                  go_wp2_with fail
                  go_round
                  case rel => exact ⟨_, _, rfl, rfl, HN.out⟩
                  case measure => simp [intOf]; omega
                · have hN := gs_break _ _ _ _ HG.out (.inr hc) (by omega)
                  rw [← HP.out] at hN
                  go_wp2_with fail
                  go_ret2
                  exact ⟨by rw [HF.out.1, HF.out.2]; first | rfl | (rw [hN]; rfl), 0, by simp [World.drewN_zero]⟩
              · have hN := gs_end _ _ _ _ HG.out (by omega) (by omega)
                rw [← HP.out] at hN
                subst hN
                go_wp2_with fail
                go_ret2
                exact ⟨by rw [HF.out.1, HF.out.2]; first | rfl | (rw [hN]; rfl), 0, by simp [World.drewN_zero]⟩
      · have hN := gs_end _ _ _ _ HG.out (by omega) (by omega)
        rw [← HQ.out] at hN
        subst hN
        go_wp2_with fail
        go_loop [18, 16] (fun q r => ∃ a b : Int, q = .int .u64 a ∧ r = .int .u64 b ∧ GS R (lo % 4294967296) a b) (fun q _ => (intOf q).toNat)
        case atStart => exact ⟨_, _, rfl, rfl, GB.out⟩
        case round =>
          obtain ⟨a, b, rfl, rfl, hG⟩ := hrel
          have g1 : 0 ≤ b := hG.2.1
          have g2 : b < 4294967296 := hG.2.2.1
          have g3 : a ≤ 4294967296 := hG.2.2.2.2.1
          have g4 : P ≤ a := by rw [HP.out]; exact hG.2.2.2.1
          have HG := Lib.hid hG
          clear hG
          by_cases ha : 4294967296 ≤ a
          · by_cases hb : b + 2328306436 < 4294967296
            · have HN := Lib.hid (gs_next _ _ _ _ HG.out (.inl ha) hb)
              go_wp2_with fail
              go_round
              case rel => exact ⟨_, _, rfl, rfl, HN.out⟩
              case measure => simp [intOf]; omega
            · have hN := gs_break _ _ _ _ HG.out (.inl ha) (by omega)
              rw [← HP.out] at hN
              go_wp2_with fail
              go_ret2
              exact ⟨by rw [HF.out.1, HF.out.2]; first | rfl | (rw [hN]; rfl), 0, by simp [World.drewN_zero]⟩
          · by_cases hc : b * 4294967296 + (lo % 4294967296) < a * 2313682944
            · by_cases hb : b + 2328306436 < 4294967296
              · have HN := Lib.hid (gs_next _ _ _ _ HG.out (.inr hc) hb)
                go_wp2_with fail
                go_round
                case rel => exact ⟨_, _, rfl, rfl, HN.out⟩
                case measure => simp [intOf]; omega
              · have hN := gs_break _ _ _ _ HG.out (.inr hc) (by omega)
                rw [← HP.out] at hN
                go_wp2_with fail
                go_ret2
                exact ⟨by rw [HF.out.1, HF.out.2]; first | rfl | (rw [hN]; rfl), 0, by simp [World.drewN_zero]⟩
            · have hN := gs_end _ _ _ _ HG.out (by omega) (by omega)
              rw [← HP.out] at hN
              subst hN
              go_wp2_with fail
              go_ret2
              exact ⟨by rw [HF.out.1, HF.out.2]; first | rfl | (rw [hN]; rfl), 0, by simp [World.drewN_zero]⟩
end Go.Proofs.YtmfmdcapanaajaaDoor
