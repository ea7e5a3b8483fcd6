/- The reference's May. -/
import Derived.Test.YtgdncnalahdjeaaN1
import Derived.Test.YtgdncnalahdjeaaL2
namespace Go.Proofs.Ytgdncnalahdjeaa
open Go Go.RowKit

set_option maxRecDepth 100000 in
set_option maxHeartbeats 800000 in
theorem refMay_no (p : Option Addr) (n c : Nat) (d : VD) (q : Option Addr) (m e : Nat) (a : AD) (w : World) (hd : VertsIn w p n d) (hn : n ≤ 9223372036854775807) (h : n < 2 ∨ 20000 < n ∨ d.F 0 ≠ -1 ∨ d.F 1 ≠ -2) :
    Calls Try.prog 40 #[.slice p n c, .slice q m e] w fun e w' => e = .returned (.bool (mayB n d m a)) ∧ w' = w := by
  rw [mayB_false1 h]
  by_cases h1 : n < 2
  · clear hd h
    go_enter Try.func40, Try.ntmps40
    go_wp2_with fail
    go_ret
    exact ⟨rfl, rfl⟩
  · have h2 : 2 ≤ n := by omega
    by_cases h3 : 20000 < n
    · clear hd h h1
      go_enter Try.func40, Try.ntmps40
      go_wp2_with fail
      go_ret
      exact ⟨rfl, rfl⟩
    · obtain ⟨b, off, rfl, hv⟩ := hd (by omega)
      have c0 := hv.f 0 (by omega)
      have c1 := hv.f 1 (by omega)
      simp only [Nat.zero_mul, Nat.add_zero, Nat.one_mul] at c0 c1
      have h4 : n ≤ 20000 := by omega
      have hk : d.F 0 ≠ -1 ∨ (d.F 0 = -1 ∧ d.F 1 ≠ -2) := by omega
      clear hv hd h h1 h3
      generalize d.F 0 = x at *
      generalize d.F 1 = y at *
      have n0 : 0 < n := by omega
      have n1 : 1 < n := by omega
      rcases hk with hk | ⟨hk, hk2⟩
      · have q1 : (x == -1) = false := by simpa using hk
        have q2 : (x != -1) = true := by simpa using hk
        clear hk
        go_enter Try.func40, Try.ntmps40
        go_wp2_with fail
        go_ret
        exact ⟨rfl, rfl⟩
      · subst hk
        have q1 : (y == -2) = false := by simpa using hk2
        have q2 : (y != -2) = true := by simpa using hk2
        clear hk2
        go_enter Try.func40, Try.ntmps40
        go_wp2_with fail
        go_ret
        exact ⟨rfl, rfl⟩
set_option maxRecDepth 100000 in
set_option maxHeartbeats 4000000 in
theorem refMay_yes (p : Option Addr) (n c : Nat) (d : VD) (q : Option Addr) (m e : Nat) (a : AD) (w : World) (hd : VertsIn w p n d) (h2 : 2 ≤ n) (h3 : n ≤ 20000) (h4 : d.F 0 = -1) (h5 : d.F 1 = -2) (ha : AtomsIn w q m a) (hm : m ≤ 9223372036854775807) :
    Calls Try.prog 40 #[.slice p n c, .slice q m e] w fun e w' => e = .returned (.bool (mayB n d m a)) ∧ w' = w := by
  obtain ⟨b, off, rfl, hv⟩ := hd (by omega)
  have c0 := hv.f 0 (by omega)
  have c1 := hv.f 1 (by omega)
  simp only [Nat.zero_mul, Nat.add_zero, Nat.one_mul] at c0 c1
  rw [h4] at c0
  rw [h5] at c1
  have n0 : 0 < n := by omega
  have n1 : 1 < n := by omega
  have HV := Lib.hid hv
  have HA := Lib.hid ha
  have HF := Lib.hid (And.intro h4 h5)
  clear hv hd ha h4 h5
  go_enter Try.func40, Try.ntmps40
  go_wp2_with fail
  clear c0 c1
  go_loopw [5] (fun i wr => ∃ j : Nat, j ≤ n ∧ i = .int .i64 j ∧ wr = w ∧ ∀ t, t < j → vertOK n d t = true) (fun i _ => n - (intOf i).toNat)
  case atStart => exact ⟨0, by omega, rfl, rfl, fun t ht => by omega⟩
  case round =>
    obtain ⟨j, hj, rfl, hww, hall⟩ := hrel
    replace hww := hww.symm
    subst hww
    have HALL := Lib.hid hall
    clear hall
    by_cases hlt : j < n
    · have hj0 : (0 : Int) ≤ (j : Int) := by omega
      have hj1 : (j : Int) < (n : Int) := by omega
      have hw := HV.out
      have cf := hw.f j hlt
      have cp := hw.p j hlt
      have HL := Lib.hid (hw.v j hlt)
      clear hw
      have HNEW := Lib.hid (show vertOK n d j = true → ∀ t, t < j + 1 → vertOK n d t = true from fun h t ht => by
        by_cases htj : t < j
        · exact HALL.out t htj
        · obtain rfl : t = j := by omega
          exact h)
      have HNO := Lib.hid (show vertOK n d j = false → mayB n d m a = false from mayB_false2 j hlt)
      have HDEF := Lib.hid (show vertOK n d j = ((decide (j ≤ 1) || decide (0 ≤ d.F j) || d.F j == -3) && !anyB (d.L j) (fun k => !isV n (d.V j k))) from rfl)
      obtain ⟨x, hx⟩ : ∃ x, x = d.F j := ⟨_, rfl⟩
      rw [← hx] at cf
      have HX := Lib.hid hx
      clear hx
      obtain ⟨P, hP⟩ : ∃ P, P = d.P j := ⟨_, rfl⟩
      obtain ⟨L, hL⟩ : ∃ L, L = d.L j := ⟨_, rfl⟩
      obtain ⟨C, hC⟩ : ∃ C, C = d.C j := ⟨_, rfl⟩
      rw [← hP, ← hL, ← hC] at cp
      have HPL := Lib.hid (And.intro hP hL)
      clear hP hL hC
      have key : j ≤ 1 ∨ (1 < j ∧ 0 ≤ x) ∨ (1 < j ∧ x < 0 ∧ x = -3) ∨ (1 < j ∧ x < 0 ∧ x ≠ -3) := by omega
      rcases key with k0 | ⟨k0, k1⟩ | ⟨k0, k1, k2⟩ | ⟨k0, k1, k2⟩
      · have HG := Lib.hid (show (decide (j ≤ 1) || decide (0 ≤ d.F j) || d.F j == -3) = true by rw [← HX.out]; rw [decide_eq_true k0]; rfl)
        have k3 : (j : Int) ≤ 1 := by omega
        clear k0
        go_wp2_with fail
        skip
        go_loopw [6] (fun i wi => ∃ k : Nat, k ≤ L ∧ i = .int .i64 k ∧ wi = w ∧ ∀ t, t < k → isV n (d.V j t) = true) (fun i _ => L - (intOf i).toNat)
        case atStart => exact ⟨0, by omega, rfl, rfl, fun t ht => by omega⟩
        case round =>
          obtain ⟨k, hk, rfl, hww, hin⟩ := hrel
          replace hww := hww.symm
          subst hww
          have HIN := Lib.hid hin
          clear hin
          have hLb : (L : Int) ≤ 9223372036854775807 := by have := HL.out.2; have := HPL.out.2; omega
          by_cases hlt2 : k < L
          · have hk0 : (0 : Int) ≤ (k : Int) := by omega
            have hk1 : (k : Int) < (L : Int) := by omega
            obtain ⟨b2, off2, hP2, hw2⟩ := HV.out.v j hlt |>.1 (by rw [← HPL.out.2]; omega)
            rw [← HPL.out.1] at hP2
            subst hP2
            have cv := hw2 k (by rw [← HPL.out.2]; exact hlt2)
            clear hw2
            have HIVD := Lib.hid (show isV n (d.V j k) = true ↔ 0 ≤ d.V j k ∧ d.V j k < (n : Int) from isV_iff n _)
            have HNV := Lib.hid (show isV n (d.V j k) = false → vertOK n d j = false from fun hiv => by rw [HDEF.out, anyB_yes (f := fun k => !isV n (d.V j k)) k (by rw [← HPL.out.2]; exact hlt2) (by simp [hiv])]; simp)
            obtain ⟨y, hy⟩ : ∃ y, y = d.V j k := ⟨_, rfl⟩
            rw [← hy] at cv
            have HY := Lib.hid hy
            clear hy
            have hcase : y < 0 ∨ (0 ≤ y ∧ (n : Int) ≤ y) ∨ (0 ≤ y ∧ y < (n : Int)) := by omega
            rcases hcase with h6 | ⟨h6, h7⟩ | ⟨h6, h7⟩
            · have HR := Lib.hid (HNO.out (HNV.out (by cases hc : isV n (d.V j k) with | false => rfl | true => exact absurd (HIVD.out.mp hc) (by rw [← HY.out]; omega))))
              go_wp2_with fail
              go_ret
              exact ⟨by rw [HR.out]; rfl, rfl⟩
            · have HR := Lib.hid (HNO.out (HNV.out (by cases hc : isV n (d.V j k) with | false => rfl | true => exact absurd (HIVD.out.mp hc) (by rw [← HY.out]; omega))))
              have q7 := decide_eq_true h7
              go_wp2_with fail
              go_ret
              exact ⟨by rw [HR.out]; rfl, rfl⟩
            · have HIV := Lib.hid (HIVD.out.mpr (by rw [← HY.out]; exact ⟨h6, h7⟩))
              have q7 := decide_eq_false (show ¬ (n : Int) ≤ y by omega)
              go_wp2_with fail
              go_roundw
              case rel => exact ⟨k + 1, by omega, by go_num, by trivial, fun t ht => by
                by_cases htj : t < k
                · exact HIN.out t htj
                · obtain rfl : t = k := by omega
                  exact HIV.out⟩
              case measure => simp [intOf]; omega
          · obtain rfl : k = L := by omega
            have HOKV := Lib.hid (HNEW.out (by rw [HDEF.out, HG.out, anyB_no (fun i hi => by rw [HIN.out i (by rw [HPL.out.2]; exact hi)]; rfl)]; rfl))
            go_wp2_with fail
            go_roundw
            case rel => exact ⟨j + 1, by omega, by go_num, by trivial, HOKV.out⟩
            case measure => simp [intOf]; omega
      · have HG := Lib.hid (show (decide (j ≤ 1) || decide (0 ≤ d.F j) || d.F j == -3) = true by rw [← HX.out]; rw [decide_eq_true k1]; simp)
        have k3 : (1 : Int) < (j : Int) := by omega
        clear k0
        go_wp2_with fail
        skip
        go_loopw [6] (fun i wi => ∃ k : Nat, k ≤ L ∧ i = .int .i64 k ∧ wi = w ∧ ∀ t, t < k → isV n (d.V j t) = true) (fun i _ => L - (intOf i).toNat)
        case atStart => exact ⟨0, by omega, rfl, rfl, fun t ht => by omega⟩
        case round =>
          obtain ⟨k, hk, rfl, hww, hin⟩ := hrel
          replace hww := hww.symm
          subst hww
          have HIN := Lib.hid hin
          clear hin
          have hLb : (L : Int) ≤ 9223372036854775807 := by have := HL.out.2; have := HPL.out.2; omega
          by_cases hlt2 : k < L
          · have hk0 : (0 : Int) ≤ (k : Int) := by omega
            have hk1 : (k : Int) < (L : Int) := by omega
            obtain ⟨b2, off2, hP2, hw2⟩ := HV.out.v j hlt |>.1 (by rw [← HPL.out.2]; omega)
            rw [← HPL.out.1] at hP2
            subst hP2
            have cv := hw2 k (by rw [← HPL.out.2]; exact hlt2)
            clear hw2
            have HIVD := Lib.hid (show isV n (d.V j k) = true ↔ 0 ≤ d.V j k ∧ d.V j k < (n : Int) from isV_iff n _)
            have HNV := Lib.hid (show isV n (d.V j k) = false → vertOK n d j = false from fun hiv => by rw [HDEF.out, anyB_yes (f := fun k => !isV n (d.V j k)) k (by rw [← HPL.out.2]; exact hlt2) (by simp [hiv])]; simp)
            obtain ⟨y, hy⟩ : ∃ y, y = d.V j k := ⟨_, rfl⟩
            rw [← hy] at cv
            have HY := Lib.hid hy
            clear hy
            have hcase : y < 0 ∨ (0 ≤ y ∧ (n : Int) ≤ y) ∨ (0 ≤ y ∧ y < (n : Int)) := by omega
            rcases hcase with h6 | ⟨h6, h7⟩ | ⟨h6, h7⟩
            · have HR := Lib.hid (HNO.out (HNV.out (by cases hc : isV n (d.V j k) with | false => rfl | true => exact absurd (HIVD.out.mp hc) (by rw [← HY.out]; omega))))
              go_wp2_with fail
              go_ret
              exact ⟨by rw [HR.out]; rfl, rfl⟩
            · have HR := Lib.hid (HNO.out (HNV.out (by cases hc : isV n (d.V j k) with | false => rfl | true => exact absurd (HIVD.out.mp hc) (by rw [← HY.out]; omega))))
              have q7 := decide_eq_true h7
              go_wp2_with fail
              go_ret
              exact ⟨by rw [HR.out]; rfl, rfl⟩
            · have HIV := Lib.hid (HIVD.out.mpr (by rw [← HY.out]; exact ⟨h6, h7⟩))
              have q7 := decide_eq_false (show ¬ (n : Int) ≤ y by omega)
              go_wp2_with fail
              go_roundw
              case rel => exact ⟨k + 1, by omega, by go_num, by trivial, fun t ht => by
                by_cases htj : t < k
                · exact HIN.out t htj
                · obtain rfl : t = k := by omega
                  exact HIV.out⟩
              case measure => simp [intOf]; omega
          · obtain rfl : k = L := by omega
            have HOKV := Lib.hid (HNEW.out (by rw [HDEF.out, HG.out, anyB_no (fun i hi => by rw [HIN.out i (by rw [HPL.out.2]; exact hi)]; rfl)]; rfl))
            go_wp2_with fail
            go_roundw
            case rel => exact ⟨j + 1, by omega, by go_num, by trivial, HOKV.out⟩
            case measure => simp [intOf]; omega
      · have HG := Lib.hid (show (decide (j ≤ 1) || decide (0 ≤ d.F j) || d.F j == -3) = true by rw [← HX.out]; rw [k2]; simp)
        have k3 : (1 : Int) < (j : Int) := by omega
        clear k0 HX
        subst k2
        go_wp2_with fail
        skip
        go_loopw [6] (fun i wi => ∃ k : Nat, k ≤ L ∧ i = .int .i64 k ∧ wi = w ∧ ∀ t, t < k → isV n (d.V j t) = true) (fun i _ => L - (intOf i).toNat)
        case atStart => exact ⟨0, by omega, rfl, rfl, fun t ht => by omega⟩
        case round =>
          obtain ⟨k, hk, rfl, hww, hin⟩ := hrel
          replace hww := hww.symm
          subst hww
          have HIN := Lib.hid hin
          clear hin
          have hLb : (L : Int) ≤ 9223372036854775807 := by have := HL.out.2; have := HPL.out.2; omega
          by_cases hlt2 : k < L
          · have hk0 : (0 : Int) ≤ (k : Int) := by omega
            have hk1 : (k : Int) < (L : Int) := by omega
            obtain ⟨b2, off2, hP2, hw2⟩ := HV.out.v j hlt |>.1 (by rw [← HPL.out.2]; omega)
            rw [← HPL.out.1] at hP2
            subst hP2
            have cv := hw2 k (by rw [← HPL.out.2]; exact hlt2)
            clear hw2
            have HIVD := Lib.hid (show isV n (d.V j k) = true ↔ 0 ≤ d.V j k ∧ d.V j k < (n : Int) from isV_iff n _)
            have HNV := Lib.hid (show isV n (d.V j k) = false → vertOK n d j = false from fun hiv => by rw [HDEF.out, anyB_yes (f := fun k => !isV n (d.V j k)) k (by rw [← HPL.out.2]; exact hlt2) (by simp [hiv])]; simp)
            obtain ⟨y, hy⟩ : ∃ y, y = d.V j k := ⟨_, rfl⟩
            rw [← hy] at cv
            have HY := Lib.hid hy
            clear hy
            have hcase : y < 0 ∨ (0 ≤ y ∧ (n : Int) ≤ y) ∨ (0 ≤ y ∧ y < (n : Int)) := by omega
            rcases hcase with h6 | ⟨h6, h7⟩ | ⟨h6, h7⟩
            · have HR := Lib.hid (HNO.out (HNV.out (by cases hc : isV n (d.V j k) with | false => rfl | true => exact absurd (HIVD.out.mp hc) (by rw [← HY.out]; omega))))
              go_wp2_with fail
              go_ret
              exact ⟨by rw [HR.out]; rfl, rfl⟩
            · have HR := Lib.hid (HNO.out (HNV.out (by cases hc : isV n (d.V j k) with | false => rfl | true => exact absurd (HIVD.out.mp hc) (by rw [← HY.out]; omega))))
              have q7 := decide_eq_true h7
              go_wp2_with fail
              go_ret
              exact ⟨by rw [HR.out]; rfl, rfl⟩
            · have HIV := Lib.hid (HIVD.out.mpr (by rw [← HY.out]; exact ⟨h6, h7⟩))
              have q7 := decide_eq_false (show ¬ (n : Int) ≤ y by omega)
              go_wp2_with fail
              go_roundw
              case rel => exact ⟨k + 1, by omega, by go_num, by trivial, fun t ht => by
                by_cases htj : t < k
                · exact HIN.out t htj
                · obtain rfl : t = k := by omega
                  exact HIV.out⟩
              case measure => simp [intOf]; omega
          · obtain rfl : k = L := by omega
            have HOKV := Lib.hid (HNEW.out (by rw [HDEF.out, HG.out, anyB_no (fun i hi => by rw [HIN.out i (by rw [HPL.out.2]; exact hi)]; rfl)]; rfl))
            go_wp2_with fail
            go_roundw
            case rel => exact ⟨j + 1, by omega, by go_num, by trivial, HOKV.out⟩
            case measure => simp [intOf]; omega
      · have HG := Lib.hid (show (decide (j ≤ 1) || decide (0 ≤ d.F j) || d.F j == -3) = false by rw [← HX.out]; rw [decide_eq_false (show ¬ j ≤ 1 by omega), decide_eq_false (show ¬ 0 ≤ x by omega)]; simpa using k2)
        have k3 : (1 : Int) < (j : Int) := by omega
        clear k0
        have q1 : (x == -3) = false := by simpa using k2
        have q2 : (x != -3) = true := by simpa using k2
        clear k2
        go_wp2_with fail
        go_ret
        exact ⟨by rw [HNO.out (by rw [HDEF.out, HG.out]; rfl)]; rfl, rfl⟩
    · obtain rfl : j = n := by omega
      go_wp2_with fail
      go_loopw [7] (fun i wr => ∃ k : Nat, k ≤ m ∧ i = .int .i64 k ∧ wr = w ∧ ∀ t, t < k → atomOK j a t = true) (fun i _ => m - (intOf i).toNat)
      case atStart => exact ⟨0, by omega, rfl, rfl, fun t ht => by omega⟩
      case round =>
        obtain ⟨k, hk, rfl, hww, hin⟩ := hrel
        replace hww := hww.symm
        subst hww
        have HIN := Lib.hid hin
        clear hin
        by_cases hlt2 : k < m
        · have hk0 : (0 : Int) ≤ (k : Int) := by omega
          have hk1 : (k : Int) < (m : Int) := by omega
          obtain ⟨b2, off2, rfl, hw2⟩ := HA.out (by omega)
          have ck := hw2.k k hlt2
          have ca := hw2.a k hlt2
          have cb := hw2.bb k hlt2
          clear hw2
          have HNEW := Lib.hid (show atomOK j a k = true → ∀ t, t < k + 1 → atomOK j a t = true from fun h t ht => by
            by_cases htj : t < k
            · exact HIN.out t htj
            · obtain rfl : t = k := by omega
              exact h)
          have HNO := Lib.hid (show atomOK j a k = false → mayB j d m a = false from mayB_false3 k hlt2)
          have hdef : atomOK j a k = (if a.K k = 1 then isV j (a.A k) && isV j (a.B k) else if a.K k = 3 then isV j (a.A k) else true) := rfl
          generalize a.K k = kk at *
          generalize a.A k = xa at *
          generalize a.B k = xb at *
          have key : kk = 1 ∨ (kk ≠ 1 ∧ kk = 3) ∨ (kk ≠ 1 ∧ kk ≠ 3) := by omega
          have ka : xa < 0 ∨ (0 ≤ xa ∧ (j : Int) ≤ xa) ∨ (0 ≤ xa ∧ xa < (j : Int)) := by omega
          have kb : xb < 0 ∨ (0 ≤ xb ∧ (j : Int) ≤ xb) ∨ (0 ≤ xb ∧ xb < (j : Int)) := by omega
          have no : ∀ y : Int, y < 0 ∨ (j : Int) ≤ y → isV j y = false := fun y hy => by
            cases hc : isV j y with
            | false => rfl
            | true => exact absurd ((isV_iff j y).mp hc) (by omega)
          have yes : ∀ y : Int, 0 ≤ y → y < (j : Int) → isV j y = true := fun y h6 h7 => (isV_iff j y).mpr ⟨h6, h7⟩
          rcases key with rfl | ⟨k1, rfl⟩ | ⟨k1, k2⟩
          · rcases ka with h6 | ⟨h6, h7⟩ | ⟨h6, h7⟩
            · have HV2 := Lib.hid (show atomOK j a k = false by rw [hdef]; rw [if_pos rfl, no xa (by omega)]; rfl)
              clear hdef no yes
              clear kb
              go_wp2_with fail
              go_ret
              exact ⟨by rw [HNO.out HV2.out]; rfl, rfl⟩
            · have HV2 := Lib.hid (show atomOK j a k = false by rw [hdef]; rw [if_pos rfl, no xa (by omega)]; rfl)
              clear hdef no yes
              clear kb
              have q7 := decide_eq_true (show (j : Int) ≤ xa by omega)
              go_wp2_with fail
              go_ret
              exact ⟨by rw [HNO.out HV2.out]; rfl, rfl⟩
            · rcases kb with h8 | ⟨h8, h9⟩ | ⟨h8, h9⟩
              · have HV2 := Lib.hid (show atomOK j a k = false by rw [hdef]; rw [if_pos rfl, no xb (by omega)]; simp)
                clear hdef no yes
                have q7 := decide_eq_false (show ¬ (j : Int) ≤ xa by omega)
                go_wp2_with fail
                go_ret
                exact ⟨by rw [HNO.out HV2.out]; rfl, rfl⟩
              · have HV2 := Lib.hid (show atomOK j a k = false by rw [hdef]; rw [if_pos rfl, no xb (by omega)]; simp)
                clear hdef no yes
                have q7 := decide_eq_false (show ¬ (j : Int) ≤ xa by omega)
                have q9 := decide_eq_true (show (j : Int) ≤ xb by omega)
                go_wp2_with fail
                go_ret
                exact ⟨by rw [HNO.out HV2.out]; rfl, rfl⟩
              · have HV2 := Lib.hid (show atomOK j a k = true by rw [hdef]; rw [if_pos rfl, yes xa h6 h7, yes xb h8 h9]; rfl)
                clear hdef no yes
                have q7 := decide_eq_false (show ¬ (j : Int) ≤ xa by omega)
                have q9 := decide_eq_false (show ¬ (j : Int) ≤ xb by omega)
                go_wp2_with fail
                go_roundw
                case rel => exact ⟨k + 1, by omega, by go_num, by trivial, HNEW.out HV2.out⟩
                case measure => simp [intOf]; omega
          · clear kb
            rcases ka with h6 | ⟨h6, h7⟩ | ⟨h6, h7⟩
            · have HV2 := Lib.hid (show atomOK j a k = false by rw [hdef]; rw [if_neg k1, if_pos rfl, no xa (by omega)])
              clear hdef no yes
              go_wp2_with fail
              go_ret
              exact ⟨by rw [HNO.out HV2.out]; rfl, rfl⟩
            · have HV2 := Lib.hid (show atomOK j a k = false by rw [hdef]; rw [if_neg k1, if_pos rfl, no xa (by omega)])
              clear hdef no yes
              have q7 := decide_eq_true (show (j : Int) ≤ xa by omega)
              go_wp2_with fail
              go_ret
              exact ⟨by rw [HNO.out HV2.out]; rfl, rfl⟩
            · have HV2 := Lib.hid (show atomOK j a k = true by rw [hdef]; rw [if_neg k1, if_pos rfl, yes xa h6 h7])
              clear hdef no yes
              have q7 := decide_eq_false (show ¬ (j : Int) ≤ xa by omega)
              go_wp2_with fail
              go_roundw
              case rel => exact ⟨k + 1, by omega, by go_num, by trivial, HNEW.out HV2.out⟩
              case measure => simp [intOf]; omega
          · clear ka kb
            have q1 : (kk == 1) = false := by simpa using k1
            have q3 : (kk == 3) = false := by simpa using k2
            have HV2 := Lib.hid (show atomOK j a k = true by rw [hdef, if_neg k1, if_neg k2])
            clear hdef no yes k1 k2
            go_wp2_with fail
            go_roundw
            case rel => exact ⟨k + 1, by omega, by go_num, by trivial, HNEW.out HV2.out⟩
            case measure => simp [intOf]; omega
        · obtain rfl : k = m := by omega
          have HT := Lib.hid (mayB_true h2 h3 HF.out.1 HF.out.2 HALL.out HIN.out)
          go_wp2_with fail
          go_ret
          exact ⟨by rw [HT.out]; rfl, rfl⟩
theorem refMay17_any (p : Option Addr) (n c : Nat) (d : VD) (q : Option Addr) (m e : Nat) (a : AD) (w : World) (hd : VertsIn w p n d) (hn : n ≤ 9223372036854775807) (ha : AtomsIn w q m a) (hm : m ≤ 9223372036854775807) :
    Calls Try.prog 40 #[.slice p n c, .slice q m e] w fun e w' => e = .returned (.bool (mayB n d m a)) ∧ w' = w := by
  by_cases h : n < 2 ∨ 20000 < n ∨ d.F 0 ≠ -1 ∨ d.F 1 ≠ -2
  · exact refMay_no p n c d q m e a w hd hn h
  · exact refMay_yes p n c d q m e a w hd (by omega) (by omega) (by omega) (by omega) ha hm
end Go.Proofs.Ytgdncnalahdjeaa
