/- TermsPlays: its walk. -/
import Derived.Test.YtkjmmdffelhkiaaT28
import Derived.Test.YtkjmmdffelhkiaaT31
import Derived.Test.YtkjmmdffelhkiaaT32
namespace Go.Proofs.Ytkjmmdffelhkiaa
open Go Go.RowKit Go.Maps

variable {W W' : World} {K K' : Nat → Nat} {base c r : Nat} {T : Sto} {N : List Nd} {e : Ending} {w' : World}
theorem MadeP.plain {o : OpV} (h : MadeP T o base c r K W e w') :
    ∃ K' T' N' t er, e = .returned (.tuple #[.int .i64 t, .int .i64 er, .bool true]) ∧ Two w' K' base c r T' N' ∧ StepZ W w' K K' := by
  obtain ⟨K', T', N', t, er, he, ht, hz, _⟩ := h
  exact ⟨K', T', N', t, er, he, ht, hz⟩
set_option maxRecDepth 100000 in
set_option maxHeartbeats 64000000 in
theorem plays_any (p : Option Addr) (n z : Nat) (D : Nat → OpV) (W : World) (h : MOps W p n D) (hn : n ≤ 9223372036854775807) :
    Calls Try.prog 6 #[.slice p n z] W fun e w' => e = .returned (.bool true) ∧ Below W.heap.size W w' := by
  have HT := tameM_any p n z D 200 W h hn (by omega) (by omega)
  have H := Lib.hid h
  clear h
  go_enter Try.func6, Try.ntmps6
  go_wp2_with fail
  refine HT.mono ?_
  rintro e w1 ⟨b, rfl, hw, htm⟩
  obtain rfl := hw.symm
  have HTM := Lib.hid htm
  clear HT hw htm
  cases b
  · go_wp2_with fail
    refine (knownS_any _).mono ?_
    rintro e w6 ⟨rfl, hb⟩
    have HB6 := Lib.hid hb
    clear hb
    go_wp2_with fail
    go_ret
    exact ⟨rfl, HB6.out⟩
  have hn100 : n ≤ 200 := by have := (HTM.out rfl).1; omega
  have HL := Lib.hid (HTM.out rfl).2
  clear HTM
  have HN := newS_any W
  go_wp2_with fail
  refine HN.mono ?_
  rintro e w1 ⟨c0, K1, T1, rfl, st1, g1, f1, hb1⟩
  have HR := refNew_any w1 st1 g1 f1
  have HB1 := Lib.hid hb1
  clear HN st1 g1 f1 hb1
  go_wp2_with fail
  refine HR.mono ?_
  rintro e w2 ⟨K2, r, rfl, tw, hb2⟩
  have HTW := Lib.hid tw
  have HB2 := Lib.hid (HB1.out.trans (hb2.mono HB1.out.size))
  clear HR tw hb2 HB1
  go_wp2_with fail
  go_loopw [3, 5] (fun sv i wr => ∃ (k c : Nat) (K : Nat → Nat) (T : Sto) (N : List Nd), k ≤ n ∧ sv = .pointer (some ⟨c, 0, none⟩) ∧ i = .int .i64 k ∧ Two wr K W.heap.size c r T N ∧ Below W.heap.size W wr) (fun _ i _ => n - (intOf i).toNat)
  case atStart => exact ⟨0, c0, K2, T1, _, Nat.zero_le _, rfl, rfl, HTW.out, HB2.out⟩
  case round =>
    obtain ⟨k, c, K, T, N, hk, rfl, rfl, htw, hbw⟩ := hrel
    clear HTW HB2
    have HBW := Lib.hid hbw
    have HTW := Lib.hid htw
    clear hbw htw
    by_cases hlt : k < n
    · have hk0 : (0 : Int) ≤ (k : Int) := by omega
      have hk1 : (k : Int) < (n : Int) := by omega
      obtain ⟨b, off, hp, ha⟩ := (H.out.later HBW.out).at_ (by omega)
      have a0 := (ha k hlt).c0
      have HOL := Lib.hid (HL.out k hlt)
      have HMO := Lib.hid H.out
      subst hp
      have HRND : ∀ (wz : World) (c5 : Nat) (K5 : Nat → Nat) (T5 : Sto) (N5 : List Nd), Two wz K5 W.heap.size c5 r T5 N5 → Below W.heap.size W wz → True := fun _ _ _ _ _ _ _ => trivial
      clear ha HRND
      have TAIL : ∀ (x : Int) , True := fun _ => trivial
      clear TAIL
      by_cases h9 : (D k).k = 9
      · rw [h9] at a0
        have HC := copy_any HTW.out.st HTW.out.g (by have := HTW.out.l3; omega)
        go_wp2_with fail
        refine HC.mono ?_
        rintro e w3 ⟨c2, m1, m2, v, rfl, hb3, hf3⟩
        have HF3 := Lib.hid hf3
        have HB3 := Lib.hid hb3
        have HA := app_run (HTW.out.st.later hb3) HTW.out.g (by have := HTW.out.l3; omega) 77 0 (by unfold I64; omega) (by unfold I64; omega) none 0 0 (fun _ => 0) (fun h => absurd h (Nat.not_lt_zero _)) (by omega)
        clear HC hf3 hb3 a0
        go_wp2_with fail
        refine HA.mono ?_
        rintro e w4 ⟨K4, T4, t4, er4, rfl, st4, _, s4, _⟩
        have HTW4 := Lib.hid (HF3.out.two HTW.out HB3.out st4 s4)
        have HB4 := Lib.hid (HBW.out.trans ((HB3.out.mono HBW.out.size).trans (s4.toBelowS (HTW.out.st.later HB3.out))))
        clear HA st4 s4 HF3 HB3 HTW HBW
        obtain ⟨K5, htw5⟩ := HTW4.out
        have HTW := Lib.hid htw5
        have HBW := HB4
        clear htw5 HTW4 HB4
        obtain ⟨b', off', hp, ha⟩ := (HMO.out.later HBW.out).at_ (by omega)
        cases hp
        obtain ⟨a0, a1, a2, a3, a4, a5, a6, a7, a8⟩ := ha k hlt
        obtain ⟨hx, hoi⟩ := (HMO.out.later HBW.out).args k hlt
        have HM := (made_any HTW.out (D k) (hoi.ok HOL.out) hx).mono fun e w' hm => MadeP.plain hm
        clear ha hx hoi
        unfold mA at HM
        generalize D k = o at *
        rw [h9] at HM a0
        clear h9
        go_wp2_with fail
        refine HM.mono ?_
        rintro e w5 ⟨K6, T6, N6, t6, er6, rfl, tw6, z6⟩
        have HQ := Lib.hid (show Two w5 K6 W.heap.size c2 r T6 N6 ∧ Below W.heap.size W w5 from ⟨tw6, HBW.out.trans (z6.toBelow HTW.out)⟩)
        clear tw6 z6 HM a0 a1 a2 a3 a4 a5 a6 a7 a8
        have em : (k : Int).tmod 8 = (k : Int) % 8 := Int.tmod_eq_emod_of_nonneg hk0
        by_cases h8 : (k : Int) % 8 = 7
        rotate_left
        · have h8b : ((k : Int) % 8 == 7) = false := by simpa using h8
          go_wp2_with fail
          go_roundw
          case rel => exact ⟨k + 1, c2, K6, T6, N6, by omega, rfl, by go_num, HQ.out⟩
          case measure => simp [intOf]; omega
        · have h8b : ((k : Int) % 8 == 7) = true := by simpa using h8
          have HSM := same2_any HQ.out.1
          go_wp2_with fail
          refine HSM.mono ?_
          rintro e w7 ⟨rfl, tw7, hb7⟩
          have HQ7 := Lib.hid (show Two w7 K6 W.heap.size c2 r T6 N6 ∧ Below W.heap.size W w7 from ⟨tw7, HQ.out.2.trans (hb7.mono HQ.out.2.size)⟩)
          clear HSM tw7 hb7
          go_wp2_with fail
          go_roundw
          case rel => exact ⟨k + 1, c2, K6, T6, N6, by omega, rfl, by go_num, HQ7.out⟩
          case measure => simp [intOf]; omega
      · have q9 : ((D k).k == 9) = false := by simpa using h9
        clear h9 a0
        obtain ⟨b', off', hp, ha⟩ := (HMO.out.later HBW.out).at_ (by omega)
        cases hp
        obtain ⟨a0, a1, a2, a3, a4, a5, a6, a7, a8⟩ := ha k hlt
        obtain ⟨hx, hoi⟩ := (HMO.out.later HBW.out).args k hlt
        have HM := (made_any HTW.out (D k) (hoi.ok HOL.out) hx).mono fun e w' hm => MadeP.plain hm
        clear ha hx hoi
        unfold mA at HM
        generalize D k = o at *
        go_wp2_with fail
        refine HM.mono ?_
        rintro e w5 ⟨K6, T6, N6, t6, er6, rfl, tw6, z6⟩
        have HQ := Lib.hid (show Two w5 K6 W.heap.size c r T6 N6 ∧ Below W.heap.size W w5 from ⟨tw6, HBW.out.trans (z6.toBelow HTW.out)⟩)
        clear tw6 z6 HM a0 a1 a2 a3 a4 a5 a6 a7 a8
        have em : (k : Int).tmod 8 = (k : Int) % 8 := Int.tmod_eq_emod_of_nonneg hk0
        by_cases h8 : (k : Int) % 8 = 7
        rotate_left
        · have h8b : ((k : Int) % 8 == 7) = false := by simpa using h8
          go_wp2_with fail
          go_roundw
          case rel => exact ⟨k + 1, c, K6, T6, N6, by omega, rfl, by go_num, HQ.out⟩
          case measure => simp [intOf]; omega
        · have h8b : ((k : Int) % 8 == 7) = true := by simpa using h8
          have HSM := same2_any HQ.out.1
          go_wp2_with fail
          refine HSM.mono ?_
          rintro e w7 ⟨rfl, tw7, hb7⟩
          have HQ7 := Lib.hid (show Two w7 K6 W.heap.size c r T6 N6 ∧ Below W.heap.size W w7 from ⟨tw7, HQ.out.2.trans (hb7.mono HQ.out.2.size)⟩)
          clear HSM tw7 hb7
          go_wp2_with fail
          go_roundw
          case rel => exact ⟨k + 1, c, K6, T6, N6, by omega, rfl, by go_num, HQ7.out⟩
          case measure => simp [intOf]; omega
    · obtain rfl : k = n := by omega
      have HSM := same2_any HTW.out
      clear HL
      go_wp2_with fail
      refine HSM.mono ?_
      rintro e w3 ⟨rfl, _, hb3⟩
      have HB3 := Lib.hid (HBW.out.trans (hb3.mono HBW.out.size))
      clear HSM hb3
      go_wp2_with fail
      refine (knownS_any _).mono ?_
      rintro e w6 ⟨rfl, hb⟩
      have HB6 := Lib.hid (HB3.out.trans (hb.mono HB3.out.size))
      clear hb
      go_wp2_with fail
      go_ret
      exact ⟨rfl, HB6.out⟩
end Go.Proofs.Ytkjmmdffelhkiaa
