/- TermsFull: its walk. -/
import Derived.Test.YtkjmmdffelhkiaaT13
namespace Go.Proofs.Ytkjmmdffelhkiaa
open Go Go.RowKit Go.Maps

theorem Firsts.full {W wr : World} {K : Nat → Nat} {c : Nat} {m : Int} {T : Sto} (h : KR W wr K c T) (hf : Firsts T 3) : FullR W wr K c m 3 T := ⟨h, hf.1, hf.2, fun j h3 hj => absurd hj (by omega)⟩
set_option maxRecDepth 100000 in
set_option maxHeartbeats 8000000 in
theorem full_any (x : Int) (W : World) (hx : I64 x) :
    Calls Try.prog 11 #[.int .i64 x] W fun e w' => e = .returned (.bool true) ∧ Below W.heap.size W w' := by
  have hlo : -1152921504606846976 < x.tmod 1152921504606846976 := Int.lt_tmod_of_pos x (by omega)
  have hhi : x.tmod 1152921504606846976 < 1152921504606846976 := Int.tmod_lt_of_pos x (by omega)
  by_cases hneg : x.tmod 1152921504606846976 < 0

  · obtain ⟨m, hm⟩ : ∃ m, m = -(x.tmod 1152921504606846976) + 1 := ⟨_, rfl⟩
    have hm1 : 0 < m := by omega
    have hm2 : m ≤ 1152921504606846976 := by omega
    go_enter Try.func11, Try.ntmps11
    go_wp2_with fail
    rw [← hm]
    clear hm
    generalize x.tmod 1152921504606846976 = xr at *
    refine (newS_any W).mono ?_
    rintro e w1 ⟨c, K1, T1, rfl, hst, hg, hf, hb⟩
    have HR := Lib.hid (Firsts.full (m := m) (show KR W w1 K1 c T1 from ⟨hst, hg, hb⟩) hf)
    clear hst hg hf hb hlo hhi hneg
    go_wp2_with fail
    go_loopw [5] (fun i wr => ∃ (k : Nat) (K : Nat → Nat) (T : Sto), 3 ≤ k ∧ k ≤ 20000 ∧ i = .int .i64 k ∧ FullR W wr K c m k T) (fun i _ => 20000 - (intOf i).toNat)
    case atStart => exact ⟨3, _, _, Nat.le_refl _, by omega, rfl, HR.out⟩
    case round =>
      obtain ⟨k, K, T, hk3, hk, rfl, hr⟩ := hrel
      clear HR
      have HR := Lib.hid hr
      clear hr
      by_cases hlt : k < 20000
      · have HN := (num_any HR.out.kr.st HR.out.kr.g (by have := HR.out.l; omega) (m + (k : Int)) (by unfold I64; omega)).mono fun e w' h => HR.out.next hm1 hm2 hlt hk3 h
        go_wp2_with fail
        refine HN.mono ?_
        rintro e w2 ⟨K2, T2, rfl, hr⟩
        have HR2 := Lib.hid hr
        clear HN hr
        go_wp2_with fail
        go_roundw
        case rel => exact ⟨k + 1, _, _, by omega, by omega, by go_num, HR2.out⟩
        case measure => simp [intOf]; omega
      · obtain rfl : k = 20000 := by omega
        have HN := (num_any HR.out.kr.st HR.out.kr.g (by have := HR.out.l; omega) (m + 20000) (by unfold I64; omega)).mono fun e w' h => HR.out.over hm1 hm2 h
        go_wp2_with fail
        refine HN.mono ?_
        rintro e w2 ⟨K2, T2, rfl, hr⟩
        have HR2 := Lib.hid hr
        clear HN hr HR
        have HN := (num_any HR2.out.kr.st HR2.out.kr.g (by have := HR2.out.l; omega) (m + 3) (by unfold I64; omega)).mono fun e w' h => HR2.out.again hm1 hm2 h
        go_wp2_with fail
        refine HN.mono ?_
        rintro e w3 ⟨K3, T3, rfl, hr⟩
        have HR3 := Lib.hid hr
        clear HN hr HR2
        have HN := (plus_any HR3.out.kr.st HR3.out.kr.g (by have := HR3.out.l; omega) 2 0 i0).mono fun e w' h => HR3.out.zero hm1 h
        go_wp2_with fail
        refine HN.mono ?_
        rintro e w4 ⟨K4, T4, rfl, hr⟩
        have HR4 := Lib.hid hr
        clear HN hr HR3
        have HL := (len_any HR4.out.kr.st).mono (R' := fun e w' => e = .returned (.int .i64 20000) ∧ w' = w4) fun e w' h => ⟨by rw [h.1, HR4.out.l]; rfl, h.2⟩
        go_wp2_with fail
        refine HL.mono ?_
        rintro e w5 ⟨rfl, hw⟩
        obtain rfl := hw.symm
        clear HL hw
        go_wp2_with fail
        refine (knownS_any _).mono ?_
        rintro e w6 ⟨rfl, hb⟩
        have HB := Lib.hid (HR4.out.kr.b.trans (hb.mono HR4.out.kr.b.size))
        clear hb
        go_wp2_with fail
        go_ret
        exact ⟨rfl, HB.out⟩
  · obtain ⟨m, hm⟩ : ∃ m, m = x.tmod 1152921504606846976 + 1 := ⟨_, rfl⟩
    have hm1 : 0 < m := by omega
    have hm2 : m ≤ 1152921504606846976 := by omega
    go_enter Try.func11, Try.ntmps11
    go_wp2_with fail
    rw [← hm]
    clear hm
    generalize x.tmod 1152921504606846976 = xr at *
    refine (newS_any W).mono ?_
    rintro e w1 ⟨c, K1, T1, rfl, hst, hg, hf, hb⟩
    have HR := Lib.hid (Firsts.full (m := m) (show KR W w1 K1 c T1 from ⟨hst, hg, hb⟩) hf)
    clear hst hg hf hb hlo hhi hneg
    go_wp2_with fail
    go_loopw [5] (fun i wr => ∃ (k : Nat) (K : Nat → Nat) (T : Sto), 3 ≤ k ∧ k ≤ 20000 ∧ i = .int .i64 k ∧ FullR W wr K c m k T) (fun i _ => 20000 - (intOf i).toNat)
    case atStart => exact ⟨3, _, _, Nat.le_refl _, by omega, rfl, HR.out⟩
    case round =>
      obtain ⟨k, K, T, hk3, hk, rfl, hr⟩ := hrel
      clear HR
      have HR := Lib.hid hr
      clear hr
      by_cases hlt : k < 20000
      · have HN := (num_any HR.out.kr.st HR.out.kr.g (by have := HR.out.l; omega) (m + (k : Int)) (by unfold I64; omega)).mono fun e w' h => HR.out.next hm1 hm2 hlt hk3 h
        go_wp2_with fail
        refine HN.mono ?_
        rintro e w2 ⟨K2, T2, rfl, hr⟩
        have HR2 := Lib.hid hr
        clear HN hr
        go_wp2_with fail
        go_roundw
        case rel => exact ⟨k + 1, _, _, by omega, by omega, by go_num, HR2.out⟩
        case measure => simp [intOf]; omega
      · obtain rfl : k = 20000 := by omega
        have HN := (num_any HR.out.kr.st HR.out.kr.g (by have := HR.out.l; omega) (m + 20000) (by unfold I64; omega)).mono fun e w' h => HR.out.over hm1 hm2 h
        go_wp2_with fail
        refine HN.mono ?_
        rintro e w2 ⟨K2, T2, rfl, hr⟩
        have HR2 := Lib.hid hr
        clear HN hr HR
        have HN := (num_any HR2.out.kr.st HR2.out.kr.g (by have := HR2.out.l; omega) (m + 3) (by unfold I64; omega)).mono fun e w' h => HR2.out.again hm1 hm2 h
        go_wp2_with fail
        refine HN.mono ?_
        rintro e w3 ⟨K3, T3, rfl, hr⟩
        have HR3 := Lib.hid hr
        clear HN hr HR2
        have HN := (plus_any HR3.out.kr.st HR3.out.kr.g (by have := HR3.out.l; omega) 2 0 i0).mono fun e w' h => HR3.out.zero hm1 h
        go_wp2_with fail
        refine HN.mono ?_
        rintro e w4 ⟨K4, T4, rfl, hr⟩
        have HR4 := Lib.hid hr
        clear HN hr HR3
        have HL := (len_any HR4.out.kr.st).mono (R' := fun e w' => e = .returned (.int .i64 20000) ∧ w' = w4) fun e w' h => ⟨by rw [h.1, HR4.out.l]; rfl, h.2⟩
        go_wp2_with fail
        refine HL.mono ?_
        rintro e w5 ⟨rfl, hw⟩
        obtain rfl := hw.symm
        clear HL hw
        go_wp2_with fail
        refine (knownS_any _).mono ?_
        rintro e w6 ⟨rfl, hb⟩
        have HB := Lib.hid (HR4.out.kr.b.trans (hb.mono HR4.out.kr.b.size))
        clear hb
        go_wp2_with fail
        go_ret
        exact ⟨rfl, HB.out⟩
end Go.Proofs.Ytkjmmdffelhkiaa
