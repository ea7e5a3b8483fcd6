/- links.May. -/
import Derived.Test.YtgdncnalahdjeaaL1
namespace Go.Proofs.Ytgdncnalahdjeaa
open Go Go.RowKit

theorem mayB_false1 {n m : Nat} {d : VD} {a : AD} (h : n < 2 ∨ 20000 < n ∨ d.F 0 ≠ -1 ∨ d.F 1 ≠ -2) : mayB n d m a = false := by
  unfold mayB
  rcases h with h | h | h | h
  · rw [decide_eq_false (show ¬ 2 ≤ n by omega)]; rfl
  · rw [decide_eq_false (show ¬ n ≤ 20000 by omega)]; simp
  · rw [show (d.F 0 == -1) = false by simpa using h]; simp
  · rw [show (d.F 1 == -2) = false by simpa using h]; simp
theorem mayB_false2 {n m : Nat} {d : VD} {a : AD} (i : Nat) (hi : i < n) (h : vertOK n d i = false) : mayB n d m a = false := by
  unfold mayB
  rw [anyB_yes (f := fun i => !vertOK n d i) i hi (by simp [h])]
  simp
theorem mayB_false3 {n m : Nat} {d : VD} {a : AD} (i : Nat) (hi : i < m) (h : atomOK n a i = false) : mayB n d m a = false := by
  unfold mayB
  rw [anyB_yes (f := fun i => !atomOK n a i) i hi (by simp [h])]
  simp
theorem mayB_true {n m : Nat} {d : VD} {a : AD} (h2 : 2 ≤ n) (h3 : n ≤ 20000) (h4 : d.F 0 = -1) (h5 : d.F 1 = -2) (h6 : ∀ i, i < n → vertOK n d i = true) (h7 : ∀ i, i < m → atomOK n a i = true) : mayB n d m a = true := by
  unfold mayB
  rw [decide_eq_true h2, decide_eq_true h3, h4, h5, anyB_no (fun i hi => by simp [h6 i hi]), anyB_no (fun i hi => by simp [h7 i hi])]
  rfl
set_option maxRecDepth 100000 in
set_option maxHeartbeats 800000 in
theorem may_no (p : Option Addr) (n c : Nat) (d : VD) (q : Option Addr) (m e : Nat) (a : AD) (w : World) (hd : VertsIn w p n d) (hn : n ≤ 9223372036854775807) (h : n < 2 ∨ 20000 < n ∨ d.F 0 ≠ -1 ∨ d.F 1 ≠ -2) :
    Calls Try.prog 39 #[.slice p n c, .slice q m e] w fun e w' => e = .returned (.bool (mayB n d m a)) ∧ Below w.heap.size w w' := by
  rw [mayB_false1 h]
  by_cases h1 : n < 2
  · clear hd h
    go_enter Try.func39, Try.ntmps39
    go_wp2_with fail
    go_ret
    exact ⟨rfl, Below.refl _ _⟩
  · have h2 : 2 ≤ n := by omega
    by_cases h3 : 20000 < n
    · clear hd h h1
      go_enter Try.func39, Try.ntmps39
      go_wp2_with fail
      go_ret
      exact ⟨rfl, Below.refl _ _⟩
    · obtain ⟨b, off, rfl, hv⟩ := hd (by omega)
      have c0 := hv.f 0 (by omega)
      have c1 := hv.f 1 (by omega)
      simp only [Nat.zero_mul, Nat.add_zero, Nat.one_mul] at c0 c1
      have h4 : n ≤ 20000 := by omega
      have hk : d.F 0 ≠ -1 ∨ (d.F 0 = -1 ∧ d.F 1 ≠ -2) := by omega
      clear hv hd h h1 h3
      generalize d.F 0 = x at *
      generalize d.F 1 = y at *
      have n0 : 0 < n := by omega
      have n1 : 1 < n := by omega
      rcases hk with hk | ⟨hk, hk2⟩
      · have q1 : (x == -1) = false := by simpa using hk
        have q2 : (x != -1) = true := by simpa using hk
        clear hk
        go_enter Try.func39, Try.ntmps39
        go_wp2_with fail
        go_ret
        exact ⟨rfl, Below.refl _ _⟩
      · subst hk
        have q1 : (y == -2) = false := by simpa using hk2
        have q2 : (y != -2) = true := by simpa using hk2
        clear hk2
        go_enter Try.func39, Try.ntmps39
        go_wp2_with fail
        go_ret
        exact ⟨rfl, Below.refl _ _⟩
set_option maxRecDepth 100000 in
set_option maxHeartbeats 4000000 in
theorem may_yes (p : Option Addr) (n c : Nat) (d : VD) (q : Option Addr) (m e : Nat) (a : AD) (w : World) (hd : VertsIn w p n d) (h2 : 2 ≤ n) (h3 : n ≤ 20000) (h4 : d.F 0 = -1) (h5 : d.F 1 = -2) (ha : AtomsIn w q m a) (hm : m ≤ 9223372036854775807) :
    Calls Try.prog 39 #[.slice p n c, .slice q m e] w fun e w' => e = .returned (.bool (mayB n d m a)) ∧ Below w.heap.size w w' := by
  obtain ⟨b, off, rfl, hv⟩ := hd (by omega)
  have c0 := hv.f 0 (by omega)
  have c1 := hv.f 1 (by omega)
  simp only [Nat.zero_mul, Nat.add_zero, Nat.one_mul] at c0 c1
  rw [h4] at c0
  rw [h5] at c1
  have n0 : 0 < n := by omega
  have n1 : 1 < n := by omega
  have HV := Lib.hid hv
  have HA := Lib.hid ha
  have HF := Lib.hid (And.intro h4 h5)
  clear hv hd ha h4 h5
  go_enter Try.func39, Try.ntmps39
  go_wp2_with fail
  clear c0 c1
  go_loopw [35] (fun i wr => ∃ j : Nat, j ≤ n ∧ i = .int .i64 j ∧ Below w.heap.size w wr ∧ ∀ t, t < j → vertOK n d t = true) (fun i _ => n - (intOf i).toNat)
  case atStart => exact ⟨0, by omega, rfl, Below.refl _ _, fun t ht => by omega⟩
  case round =>
    obtain ⟨j, hj, rfl, hb, hall⟩ := hrel
    have HALL := Lib.hid hall
    have HB := Lib.hid hb
    clear hall hb
    by_cases hlt : j < n
    · have hj0 : (0 : Int) ≤ (j : Int) := by omega
      have hj1 : (j : Int) < (n : Int) := by omega
      have hw := HV.out.later HB.out
      have cf := hw.f j hlt
      have cp := hw.p j hlt
      obtain ⟨ks, cs, hks⟩ := hw.s j hlt
      subst hks
      have cx := hw.x j hlt
      have co := hw.o j hlt
      have HL := Lib.hid (hw.v j hlt)
      clear hw
      have HNEW := Lib.hid (show vertOK n d j = true → ∀ t, t < j + 1 → vertOK n d t = true from fun h t ht => by
        by_cases htj : t < j
        · exact HALL.out t htj
        · obtain rfl : t = j := by omega
          exact h)
      have HNO := Lib.hid (show vertOK n d j = false → mayB n d m a = false from mayB_false2 j hlt)
      have HDEF := Lib.hid (show vertOK n d j = ((decide (j ≤ 1) || decide (0 ≤ d.F j) || d.F j == -3) && !anyB (d.L j) (fun k => !isV n (d.V j k))) from rfl)
      obtain ⟨x, hx⟩ : ∃ x, x = d.F j := ⟨_, rfl⟩
      rw [← hx] at cf
      have HX := Lib.hid hx
      clear hx
      obtain ⟨P, hP⟩ : ∃ P, P = d.P j := ⟨_, rfl⟩
      obtain ⟨L, hL⟩ : ∃ L, L = d.L j := ⟨_, rfl⟩
      obtain ⟨C, hC⟩ : ∃ C, C = d.C j := ⟨_, rfl⟩
      rw [← hP, ← hL, ← hC] at cp
      have HPL := Lib.hid (And.intro hP hL)
      clear hP hL hC
      generalize d.S j = sj at *
      generalize d.X j = xj at *
      generalize d.O j = oj at *
      have key : j ≤ 1 ∨ (1 < j ∧ 0 ≤ x) ∨ (1 < j ∧ x < 0 ∧ x = -3) ∨ (1 < j ∧ x < 0 ∧ x ≠ -3) := by omega
      rcases key with k0 | ⟨k0, k1⟩ | ⟨k0, k1, k2⟩ | ⟨k0, k1, k2⟩
      · have HG := Lib.hid (show (decide (j ≤ 1) || decide (0 ≤ d.F j) || d.F j == -3) = true by rw [← HX.out]; rw [decide_eq_true k0]; rfl)
        have k3 : (j : Int) ≤ 1 := by omega
        clear k0
        go_wp2_with fail
        skip
        go_loopw [55] (fun i wi => ∃ k : Nat, k ≤ L ∧ i = .int .i64 k ∧ Below w.heap.size w wi ∧ ∀ t, t < k → isV n (d.V j t) = true) (fun i _ => L - (intOf i).toNat)
        case atStart => exact ⟨0, by omega, rfl, HB.out.alloc HB.out.size _, fun t ht => by omega⟩
        case round =>
          obtain ⟨k, hk, rfl, hb, hin⟩ := hrel
          have HIN := Lib.hid hin
          have HB := Lib.hid hb
          clear hin hb
          by_cases hlt2 : k < L
          · have hk0 : (0 : Int) ≤ (k : Int) := by omega
            have hk1 : (k : Int) < (L : Int) := by omega
            have hLb : (L : Int) ≤ 9223372036854775807 := by have := HL.out.2; have := HPL.out.2; omega
            obtain ⟨b2, off2, hP2, hw2⟩ := (HV.out.later HB.out).v j hlt |>.1 (by rw [← HPL.out.2]; omega)
            rw [← HPL.out.1] at hP2
            subst hP2
            have cv := hw2 k (by rw [← HPL.out.2]; exact hlt2)
            clear hw2
            have H1 := fun W => isVertex_any (some ⟨b, off, none⟩) n c (d.V j k) W
            cases hiv : isV n (d.V j k) with
            | false =>
              rw [hiv] at H1
              have HNV := Lib.hid (show vertOK n d j = false by rw [HDEF.out, anyB_yes (f := fun k => !isV n (d.V j k)) k (by rw [← HPL.out.2]; exact hlt2) (by simp [hiv])]; simp)
              clear hiv
              go_wp2_with fail
              refine (H1 _).mono ?_
              rintro e w1 ⟨rfl, rfl⟩
              have hbz := HB.out
              go_wp2_with fail
              go_ret
              exact ⟨by rw [HNO.out HNV.out]; rfl, hbz⟩
            | true =>
              rw [hiv] at H1
              have HIV := Lib.hid hiv
              clear hiv
              go_wp2_with fail
              refine (H1 _).mono ?_
              rintro e w1 ⟨rfl, rfl⟩
              have hbz := HB.out
              go_wp2_with fail
              go_roundw
              case rel => exact ⟨k + 1, by omega, by go_num, hbz, fun t ht => by
                by_cases htj : t < k
                · exact HIN.out t htj
                · obtain rfl : t = k := by omega
                  exact HIV.out⟩
              case measure => simp [intOf]; omega
          · obtain rfl : k = L := by omega
            have HOKV := Lib.hid (HNEW.out (by rw [HDEF.out, HG.out, anyB_no (fun i hi => by rw [HIN.out i (by rw [HPL.out.2]; exact hi)]; rfl)]; rfl))
            have hbz := HB.out
            go_wp2_with fail
            go_roundw
            case rel => exact ⟨j + 1, by omega, by go_num, hbz, HOKV.out⟩
            case measure => simp [intOf]; omega
      · have HG := Lib.hid (show (decide (j ≤ 1) || decide (0 ≤ d.F j) || d.F j == -3) = true by rw [← HX.out]; rw [decide_eq_true k1]; simp)
        have k3 : (1 : Int) < (j : Int) := by omega
        clear k0
        go_wp2_with fail
        skip
        go_loopw [55] (fun i wi => ∃ k : Nat, k ≤ L ∧ i = .int .i64 k ∧ Below w.heap.size w wi ∧ ∀ t, t < k → isV n (d.V j t) = true) (fun i _ => L - (intOf i).toNat)
        case atStart => exact ⟨0, by omega, rfl, HB.out.alloc HB.out.size _, fun t ht => by omega⟩
        case round =>
          obtain ⟨k, hk, rfl, hb, hin⟩ := hrel
          have HIN := Lib.hid hin
          have HB := Lib.hid hb
          clear hin hb
          by_cases hlt2 : k < L
          · have hk0 : (0 : Int) ≤ (k : Int) := by omega
            have hk1 : (k : Int) < (L : Int) := by omega
            have hLb : (L : Int) ≤ 9223372036854775807 := by have := HL.out.2; have := HPL.out.2; omega
            obtain ⟨b2, off2, hP2, hw2⟩ := (HV.out.later HB.out).v j hlt |>.1 (by rw [← HPL.out.2]; omega)
            rw [← HPL.out.1] at hP2
            subst hP2
            have cv := hw2 k (by rw [← HPL.out.2]; exact hlt2)
            clear hw2
            have H1 := fun W => isVertex_any (some ⟨b, off, none⟩) n c (d.V j k) W
            cases hiv : isV n (d.V j k) with
            | false =>
              rw [hiv] at H1
              have HNV := Lib.hid (show vertOK n d j = false by rw [HDEF.out, anyB_yes (f := fun k => !isV n (d.V j k)) k (by rw [← HPL.out.2]; exact hlt2) (by simp [hiv])]; simp)
              clear hiv
              go_wp2_with fail
              refine (H1 _).mono ?_
              rintro e w1 ⟨rfl, rfl⟩
              have hbz := HB.out
              go_wp2_with fail
              go_ret
              exact ⟨by rw [HNO.out HNV.out]; rfl, hbz⟩
            | true =>
              rw [hiv] at H1
              have HIV := Lib.hid hiv
              clear hiv
              go_wp2_with fail
              refine (H1 _).mono ?_
              rintro e w1 ⟨rfl, rfl⟩
              have hbz := HB.out
              go_wp2_with fail
              go_roundw
              case rel => exact ⟨k + 1, by omega, by go_num, hbz, fun t ht => by
                by_cases htj : t < k
                · exact HIN.out t htj
                · obtain rfl : t = k := by omega
                  exact HIV.out⟩
              case measure => simp [intOf]; omega
          · obtain rfl : k = L := by omega
            have HOKV := Lib.hid (HNEW.out (by rw [HDEF.out, HG.out, anyB_no (fun i hi => by rw [HIN.out i (by rw [HPL.out.2]; exact hi)]; rfl)]; rfl))
            have hbz := HB.out
            go_wp2_with fail
            go_roundw
            case rel => exact ⟨j + 1, by omega, by go_num, hbz, HOKV.out⟩
            case measure => simp [intOf]; omega
      · have HG := Lib.hid (show (decide (j ≤ 1) || decide (0 ≤ d.F j) || d.F j == -3) = true by rw [← HX.out]; rw [k2]; simp)
        have k3 : (1 : Int) < (j : Int) := by omega
        clear k0
        subst k2
        clear k1
        go_wp2_with fail
        skip
        go_loopw [55] (fun i wi => ∃ k : Nat, k ≤ L ∧ i = .int .i64 k ∧ Below w.heap.size w wi ∧ ∀ t, t < k → isV n (d.V j t) = true) (fun i _ => L - (intOf i).toNat)
        case atStart => exact ⟨0, by omega, rfl, HB.out.alloc HB.out.size _, fun t ht => by omega⟩
        case round =>
          obtain ⟨k, hk, rfl, hb, hin⟩ := hrel
          have HIN := Lib.hid hin
          have HB := Lib.hid hb
          clear hin hb
          by_cases hlt2 : k < L
          · have hk0 : (0 : Int) ≤ (k : Int) := by omega
            have hk1 : (k : Int) < (L : Int) := by omega
            have hLb : (L : Int) ≤ 9223372036854775807 := by have := HL.out.2; have := HPL.out.2; omega
            obtain ⟨b2, off2, hP2, hw2⟩ := (HV.out.later HB.out).v j hlt |>.1 (by rw [← HPL.out.2]; omega)
            rw [← HPL.out.1] at hP2
            subst hP2
            have cv := hw2 k (by rw [← HPL.out.2]; exact hlt2)
            clear hw2
            have H1 := fun W => isVertex_any (some ⟨b, off, none⟩) n c (d.V j k) W
            cases hiv : isV n (d.V j k) with
            | false =>
              rw [hiv] at H1
              have HNV := Lib.hid (show vertOK n d j = false by rw [HDEF.out, anyB_yes (f := fun k => !isV n (d.V j k)) k (by rw [← HPL.out.2]; exact hlt2) (by simp [hiv])]; simp)
              clear hiv
              go_wp2_with fail
              refine (H1 _).mono ?_
              rintro e w1 ⟨rfl, rfl⟩
              have hbz := HB.out
              go_wp2_with fail
              go_ret
              exact ⟨by rw [HNO.out HNV.out]; rfl, hbz⟩
            | true =>
              rw [hiv] at H1
              have HIV := Lib.hid hiv
              clear hiv
              go_wp2_with fail
              refine (H1 _).mono ?_
              rintro e w1 ⟨rfl, rfl⟩
              have hbz := HB.out
              go_wp2_with fail
              go_roundw
              case rel => exact ⟨k + 1, by omega, by go_num, hbz, fun t ht => by
                by_cases htj : t < k
                · exact HIN.out t htj
                · obtain rfl : t = k := by omega
                  exact HIV.out⟩
              case measure => simp [intOf]; omega
          · obtain rfl : k = L := by omega
            have HOKV := Lib.hid (HNEW.out (by rw [HDEF.out, HG.out, anyB_no (fun i hi => by rw [HIN.out i (by rw [HPL.out.2]; exact hi)]; rfl)]; rfl))
            have hbz := HB.out
            go_wp2_with fail
            go_roundw
            case rel => exact ⟨j + 1, by omega, by go_num, hbz, HOKV.out⟩
            case measure => simp [intOf]; omega
      · have HG := Lib.hid (show (decide (j ≤ 1) || decide (0 ≤ d.F j) || d.F j == -3) = false by rw [← HX.out]; rw [decide_eq_false (show ¬ j ≤ 1 by omega), decide_eq_false (show ¬ 0 ≤ x by omega)]; simpa using k2)
        have k3 : (1 : Int) < (j : Int) := by omega
        clear k0
        have q1 : (x == -3) = false := by simpa using k2
        have q2 : (x != -3) = true := by simpa using k2
        clear k2
        go_wp2_with fail
        go_ret
        exact ⟨by rw [HNO.out (by rw [HDEF.out, HG.out]; rfl)]; rfl, HB.out.alloc HB.out.size _⟩
    · obtain rfl : j = n := by omega
      have hbz := HB.out
      go_wp2_with fail
      go_loopw [67] (fun i wr => ∃ k : Nat, k ≤ m ∧ i = .int .i64 k ∧ Below w.heap.size w wr ∧ ∀ t, t < k → atomOK j a t = true) (fun i _ => m - (intOf i).toNat)
      case atStart => exact ⟨0, by omega, rfl, hbz, fun t ht => by omega⟩
      case round =>
        clear hbz
        obtain ⟨k, hk, rfl, hb, hin⟩ := hrel
        have HIN := Lib.hid hin
        have HB := Lib.hid hb
        clear hin hb
        by_cases hlt2 : k < m
        · have hk0 : (0 : Int) ≤ (k : Int) := by omega
          have hk1 : (k : Int) < (m : Int) := by omega
          obtain ⟨b2, off2, rfl, hw2⟩ := (HA.out.later HB.out) (by omega)
          have ck := hw2.k k hlt2
          have ca := hw2.a k hlt2
          have cb := hw2.bb k hlt2
          have cc := hw2.c k hlt2
          clear hw2
          have HNEW := Lib.hid (show atomOK j a k = true → ∀ t, t < k + 1 → atomOK j a t = true from fun h t ht => by
            by_cases htj : t < k
            · exact HIN.out t htj
            · obtain rfl : t = k := by omega
              exact h)
          have HNO := Lib.hid (show atomOK j a k = false → mayB j d m a = false from mayB_false3 k hlt2)
          have HDEF := Lib.hid (show atomOK j a k = (if a.K k = 1 then isV j (a.A k) && isV j (a.B k) else if a.K k = 3 then isV j (a.A k) else true) from rfl)
          have H1 := fun W => isVertex_any (some ⟨b, off, none⟩) j c (a.A k) W
          have H2 := fun W => isVertex_any (some ⟨b, off, none⟩) j c (a.B k) W
          generalize a.K k = kk at *
          generalize a.A k = xa at *
          generalize a.B k = xb at *
          generalize a.C k = xc at *
          generalize isV j xa = g1 at *
          generalize isV j xb = g2 at *
          have key : kk = 1 ∨ (kk ≠ 1 ∧ kk = 3) ∨ (kk ≠ 1 ∧ kk ≠ 3) := by omega
          rcases key with rfl | ⟨k1, rfl⟩ | ⟨k1, k2⟩
          · cases g1
            · skip
              have HV2 := Lib.hid (show atomOK j a k = false by rw [HDEF.out]; rw [if_pos rfl]; rfl)
              clear HDEF
              go_wp2_with fail
              refine (H1 _).mono ?_
              rintro e w1 ⟨rfl, rfl⟩
              have hbz := HB.out.alloc HB.out.size (.cells #[.int .u8 1, .int .i64 xa, .int .i64 xb, .int .i64 xc] 99)
              go_wp2_with fail
              go_ret
              exact ⟨by rw [HNO.out HV2.out]; rfl, HB.out.alloc HB.out.size _⟩
            · cases g2
              · skip
                have HV2 := Lib.hid (show atomOK j a k = false by rw [HDEF.out]; rw [if_pos rfl]; rfl)
                clear HDEF
                go_wp2_with fail
                refine (H1 _).mono ?_
                rintro e w1 ⟨rfl, rfl⟩
                go_wp2_with fail
                refine (H2 _).mono ?_
                rintro e w2 ⟨rfl, rfl⟩
                have hbz := HB.out.alloc HB.out.size (.cells #[.int .u8 1, .int .i64 xa, .int .i64 xb, .int .i64 xc] 99)
                go_wp2_with fail
                go_ret
                exact ⟨by rw [HNO.out HV2.out]; rfl, HB.out.alloc HB.out.size _⟩
              · skip
                have HV2 := Lib.hid (show atomOK j a k = true by rw [HDEF.out]; rw [if_pos rfl]; rfl)
                clear HDEF
                go_wp2_with fail
                refine (H1 _).mono ?_
                rintro e w1 ⟨rfl, rfl⟩
                go_wp2_with fail
                refine (H2 _).mono ?_
                rintro e w2 ⟨rfl, rfl⟩
                have hbz := HB.out.alloc HB.out.size (.cells #[.int .u8 1, .int .i64 xa, .int .i64 xb, .int .i64 xc] 99)
                go_wp2_with fail
                go_roundw
                case rel => exact ⟨k + 1, by omega, by go_num, HB.out.alloc HB.out.size _, HNEW.out HV2.out⟩
                case measure => simp [intOf]; omega
          · cases g1
            · skip
              have HV2 := Lib.hid (show atomOK j a k = false by rw [HDEF.out]; rw [if_neg k1, if_pos rfl])
              clear HDEF
              go_wp2_with fail
              refine (H1 _).mono ?_
              rintro e w1 ⟨rfl, rfl⟩
              have hbz := HB.out.alloc HB.out.size (.cells #[.int .u8 1, .int .i64 xa, .int .i64 xb, .int .i64 xc] 99)
              go_wp2_with fail
              go_ret
              exact ⟨by rw [HNO.out HV2.out]; rfl, HB.out.alloc HB.out.size _⟩
            · skip
              have HV2 := Lib.hid (show atomOK j a k = true by rw [HDEF.out]; rw [if_neg k1, if_pos rfl])
              clear HDEF
              go_wp2_with fail
              refine (H1 _).mono ?_
              rintro e w1 ⟨rfl, rfl⟩
              have hbz := HB.out.alloc HB.out.size (.cells #[.int .u8 1, .int .i64 xa, .int .i64 xb, .int .i64 xc] 99)
              go_wp2_with fail
              go_roundw
              case rel => exact ⟨k + 1, by omega, by go_num, HB.out.alloc HB.out.size _, HNEW.out HV2.out⟩
              case measure => simp [intOf]; omega
          · have q1 : (kk == 1) = false := by simpa using k1
            have q3 : (kk == 3) = false := by simpa using k2
            have HK1 := Lib.hid (And.intro k1 k2)
            clear k1 k2
            have HV2 := Lib.hid (show atomOK j a k = true by rw [HDEF.out]; rw [if_neg HK1.out.1, if_neg HK1.out.2])
            clear HDEF
            go_wp2_with fail
            go_roundw
            case rel => exact ⟨k + 1, by omega, by go_num, HB.out.alloc HB.out.size _, HNEW.out HV2.out⟩
            case measure => simp [intOf]; omega
        · obtain rfl : k = m := by omega
          have hbz := HB.out
          have HT := Lib.hid (mayB_true h2 h3 HF.out.1 HF.out.2 HALL.out HIN.out)
          go_wp2_with fail
          go_ret
          exact ⟨by rw [HT.out]; rfl, hbz⟩
end Go.Proofs.Ytgdncnalahdjeaa
