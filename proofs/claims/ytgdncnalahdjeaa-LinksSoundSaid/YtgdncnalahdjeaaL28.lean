/- juristref17.Fits. -/
import Derived.Test.YtgdncnalahdjeaaL27
namespace Go.Proofs.Ytgdncnalahdjeaa
open Go Go.RowKit

/-- the arguments agree so far. -/
def sameB (d : VD) (U : Nat → Int) (i j k : Nat) : Bool := !anyB k (fun t => !(U (d.V i t).toNat == U (d.V j t).toNat))
theorem sameB_iff (d : VD) (U : Nat → Int) (i j k : Nat) : sameB d U i j k = true ↔ ∀ t, t < k → U (d.V i t).toNat = U (d.V j t).toNat := by
  unfold sameB
  constructor
  · intro h t ht
    cases hx : (U (d.V i t).toNat == U (d.V j t).toNat) with
    | true => simpa using hx
    | false =>
      rw [anyB_yes (f := fun t => !(U (d.V i t).toNat == U (d.V j t).toNat)) t ht (by rw [hx]; rfl)] at h
      cases h
  · intro h
    rw [anyB_no (fun t ht => by rw [show (U (d.V i t).toNat == U (d.V j t).toNat) = true by simpa using h t ht]; rfl)]
    rfl
theorem sameB_succ (d : VD) (U : Nat → Int) (i j k : Nat) : sameB d U i j (k + 1) = (sameB d U i j k && (U (d.V i k).toNat == U (d.V j k).toNat)) := by
  rw [Bool.eq_iff_iff, Bool.and_eq_true, sameB_iff, sameB_iff, beq_iff_eq]
  constructor
  · intro h
    exact ⟨fun t ht => h t (by omega), h k (by omega)⟩
  · rintro ⟨h1, h2⟩ t ht
    by_cases hk : t < k
    · exact h1 t hk
    · obtain rfl : t = k := by omega
      exact h2
/-- so far, the values fit. -/
def FitTo (d : VD) (U : Nat → Int) (i j : Nat) : Prop := 0 ≤ d.F i → d.F i = d.F j → d.L i = d.L j → (∀ k, k < d.L i → U (d.V i k).toNat = U (d.V j k).toNat) → U i = U j
set_option maxRecDepth 100000 in
set_option maxHeartbeats 300000 in
theorem fits_any (n : Nat) (d : VD) (p : Option Addr) (cv : Nat) (u : Option Addr) (nv cu : Nat) (U : Nat → Int) (w : World) (hd : VertsIn w p n d) (hu : LitsIn w u nv U) (hn2 : 2 ≤ n) (hn : n ≤ 1000) (hnv : nv ≤ 9223372036854775807) (hV : ∀ i, i < n → ∀ k, k < d.L i → isV n (d.V i k) = true) :
    Calls Try.prog 41 #[.slice p n cv, .slice u nv cu] w fun e w' => ∃ g, e = .returned (.bool g) ∧ (g = true → n ≤ nv ∧ FitsP n d U) ∧ Below w.heap.size w w' := by
  by_cases hlen : nv < n
  · have t1 : (nv : Int) < (n : Int) := by omega
    clear hd hu hV hlen
    go_enter Try.func41, Try.ntmps41
    go_wp2_with fail
    go_quiet (fail)
    go_wp2_with fail
    go_ret
    exact ⟨false, rfl, (fun h => by cases h), below_drewN _ _⟩
  have t1 : ¬ (nv : Int) < (n : Int) := by omega
  obtain ⟨b, off, rfl, hv⟩ := hd (by omega)
  obtain ⟨bu, ou, rfl, hu2⟩ := hu (by omega)
  have y0 := hu2 0 (by omega)
  have y1 := hu2 1 (by omega)
  rw [Nat.add_zero] at y0
  have t2 : (0 : Int) < (nv : Int) := by omega
  have t3 : (1 : Int) < (nv : Int) := by omega
  have HV := Lib.hid hv
  have HU := Lib.hid hu2
  have HI := Lib.hid hV
  clear hd hu hv hu2 hV
  by_cases hne : U 0 = U 1
  · have t4 : (U 0 == U 1) = true := by simpa using hne
    clear hne
    generalize U 0 = a0 at *
    generalize U 1 = a1 at *
    go_enter Try.func41, Try.ntmps41
    go_wp2_with fail
    go_quiet (fail)
    go_wp2_with fail
    go_ret
    exact ⟨false, rfl, (fun h => by cases h), below_drewN _ _⟩
  have t4 : (U 0 == U 1) = false := by simpa using hne
  have HNE := Lib.hid hne
  clear hne
  go_enter Try.func41, Try.ntmps41
  go_wp2_with fail
  go_quiet (fail)
  clear y0 y1 t4
  go_wp2_with fail
  go_loopw [5] (fun i wr => ∃ i0 : Nat, i0 ≤ n ∧ i = .int .i64 i0 ∧ Below w.heap.size w wr ∧ ∀ i, i < i0 → ∀ j, j < i → FitTo d U i j) (fun i _ => n - (intOf i).toNat)
  case atStart => exact ⟨0, by omega, rfl, below_drewN _ _, fun i hi => by omega⟩
  case round =>
    obtain ⟨i0, hi0, rfl, hb, hall⟩ := hrel
    have HALL := Lib.hid hall
    have HB := Lib.hid hb
    clear hall hb
    by_cases hlt : i0 < n
    · have j0 : (0 : Int) ≤ (i0 : Int) := by omega
      have j1 : (i0 : Int) < (n : Int) := by omega
      have hbz := HB.out
      go_wp2_with fail
      go_loopw [6] (fun i wi => ∃ k0 : Nat, k0 ≤ i0 ∧ i = .int .i64 k0 ∧ Below w.heap.size w wi ∧ ∀ j, j < k0 → FitTo d U i0 j) (fun i _ => i0 - (intOf i).toNat)
      case atStart => exact ⟨0, by omega, rfl, hbz, fun j hj => by omega⟩
      case round =>
        obtain ⟨k0, hk0, rfl, hb, hin⟩ := hrel
        have HIN := Lib.hid hin
        clear HB hbz
        have HB := Lib.hid hb
        clear hin hb
        by_cases hlt2 : k0 < i0
        · have l0 : (0 : Int) ≤ (k0 : Int) := by omega
          have l1 : (k0 : Int) < (i0 : Int) := by omega
          have l2 : (k0 : Int) < (n : Int) := by omega
          have HNEW := Lib.hid (show FitTo d U i0 k0 → ∀ j, j < k0 + 1 → FitTo d U i0 j from fun h j hj => by
            by_cases hjk : j < k0
            · exact HIN.out j hjk
            · obtain rfl : j = k0 := by omega
              exact h)
          have hat := HV.out.later HB.out
          have cf1 := hat.f i0 hlt
          have cf2 := hat.f k0 (by omega)
          have cp1 := hat.p i0 hlt
          have cp2 := hat.p k0 (by omega)
          have V1 := Lib.hid (hat.v i0 hlt)
          have V2 := Lib.hid (hat.v k0 (by omega))
          clear hat
          obtain ⟨F1, hF1⟩ : ∃ x, d.F i0 = x := ⟨_, rfl⟩
          obtain ⟨F2, hF2⟩ : ∃ x, d.F k0 = x := ⟨_, rfl⟩
          obtain ⟨L1, hL1⟩ : ∃ x, d.L i0 = x := ⟨_, rfl⟩
          obtain ⟨L2, hL2⟩ : ∃ x, d.L k0 = x := ⟨_, rfl⟩
          obtain ⟨P1, hP1⟩ : ∃ x, d.P i0 = x := ⟨_, rfl⟩
          obtain ⟨P2, hP2⟩ : ∃ x, d.P k0 = x := ⟨_, rfl⟩
          obtain ⟨C1, hC1⟩ : ∃ x, d.C i0 = x := ⟨_, rfl⟩
          obtain ⟨C2, hC2⟩ : ∃ x, d.C k0 = x := ⟨_, rfl⟩
          rw [hF1] at cf1
          rw [hF2] at cf2
          rw [hP1, hL1, hC1] at cp1
          rw [hP2, hL2, hC2] at cp2
          rw [hP1, hL1] at V1
          rw [hP2, hL2] at V2
          have HF := Lib.hid (And.intro hF1 (And.intro hF2 (And.intro hL1 hL2)))
          clear hF1 hF2 hL1 hL2 hP1 hP2 hC1 hC2
          have key : F1 < 0 ∨ (¬ F1 < 0 ∧ F1 ≠ F2) ∨ (¬ F1 < 0 ∧ F1 = F2 ∧ L1 ≠ L2) ∨ (¬ F1 < 0 ∧ F1 = F2 ∧ L1 = L2) := by omega
          rcases key with f0 | ⟨f0, f1⟩ | ⟨f0, f1, f2⟩ | ⟨f0, f1, f2⟩
          · have HFT := Lib.hid (show FitTo d U i0 k0 from fun h0 h1 h2 h3 => by
              have := HF.out.1
              omega)
            have hbz := HB.out
            go_wp2_with fail
            go_quiet (fail)
            go_wp2_with fail
            go_roundw
            case rel => exact ⟨k0 + 1, by omega, by go_num, hbz.trans ((below_drewN _ _).mono hbz.size), HNEW.out HFT.out⟩
            case measure => simp [intOf]; omega
          · have HFT := Lib.hid (show FitTo d U i0 k0 from fun h0 h1 h2 h3 => by
              have h5 := HF.out
              exact absurd (h5.1.symm.trans (h1.trans h5.2.1)) f1)
            have g0 := decide_eq_false f0
            have g00 : (0 : Int) ≤ F1 := by omega
            have g1 : (F1 != F2) = true := by simpa using f1
            have g2 : (F1 == F2) = false := by simpa using f1
            clear f1
            have hbz := HB.out
            go_wp2_with fail
            go_quiet (fail)
            go_wp2_with fail
            go_roundw
            case rel => exact ⟨k0 + 1, by omega, by go_num, hbz.trans ((below_drewN _ _).mono hbz.size), HNEW.out HFT.out⟩
            case measure => simp [intOf]; omega
          · have HFT := Lib.hid (show FitTo d U i0 k0 from fun h0 h1 h2 h3 => by
              have h5 := HF.out
              exact absurd (h5.2.2.1.symm.trans (h2.trans h5.2.2.2)) f2)
            subst f1
            have g0 := decide_eq_false f0
            have g00 : (0 : Int) ≤ F1 := by omega
            have g3 : (F1 != F1) = false := by simp
            have g4 : (F1 == F1) = true := by simp
            have g1 : ((L1 : Int) != (L2 : Int)) = true := by simp; omega
            have g2 : ((L1 : Int) == (L2 : Int)) = false := by simp; omega
            clear f2
            have hbz := HB.out
            go_wp2_with fail
            go_quiet (fail)
            go_wp2_with fail
            go_roundw
            case rel => exact ⟨k0 + 1, by omega, by go_num, hbz.trans ((below_drewN _ _).mono hbz.size), HNEW.out HFT.out⟩
            case measure => simp [intOf]; omega
          · subst f1
            subst f2
            have g0 := decide_eq_false f0
            have g00 : (0 : Int) ≤ F1 := by omega
            have g3 : (F1 != F1) = false := by simp
            have g5 : ((L1 : Int) != (L1 : Int)) = false := by simp
            have hbz := HB.out
            go_wp2_with fail
            go_quiet (fail)
            go_wp2_with fail
            go_loopw [7, 8] (fun gg i wi => ∃ (t0 : Nat) (g : Bool), t0 ≤ L1 ∧ gg = .bool g ∧ i = .int .i64 t0 ∧ Below w.heap.size w wi ∧ g = sameB d U i0 k0 t0) (fun _ i _ => L1 - (intOf i).toNat)
            case atStart => exact ⟨0, true, by omega, rfl, rfl, hbz.trans ((below_drewN _ _).mono hbz.size), ((sameB_iff d U i0 k0 0).2 (fun t ht => by omega)).symm⟩
            case round =>
              clear HB hbz cf1 cf2 cp1 cp2
              obtain ⟨t0, g, ht0, rfl, rfl, hb, hg⟩ := hrel
              have HB := Lib.hid hb
              have HG := Lib.hid hg
              clear hb hg
              have hat := HV.out.later HB.out
              have cp1 := hat.p i0 hlt
              have cp2 := hat.p k0 (by omega)
              have V1 := Lib.hid (hat.v i0 hlt)
              have V2 := Lib.hid (hat.v k0 (by omega))
              clear hat
              have e1 := HF.out.2.2.1
              have e2 := HF.out.2.2.2
              obtain ⟨P1, hP1⟩ : ∃ x, d.P i0 = x := ⟨_, rfl⟩
              obtain ⟨P2, hP2⟩ : ∃ x, d.P k0 = x := ⟨_, rfl⟩
              generalize d.C i0 = C1 at *
              generalize d.C k0 = C2 at *
              rw [hP1, e1] at cp1 V1
              rw [hP2, e2] at cp2 V2
              clear hP1 hP2
              by_cases hlt3 : t0 < L1
              · have n0 : (0 : Int) ≤ (t0 : Int) := by omega
                have hLb : (L1 : Int) ≤ 9223372036854775807 := by have := V1.out.2; omega
                have n1 : (t0 : Int) < (L1 : Int) := by omega
                obtain ⟨b1, o1, rfl, g1⟩ := V1.out.1 (by omega)
                obtain ⟨b2, o2, rfl, g2⟩ := V2.out.1 (by omega)
                have x1 := g1 t0 hlt3
                have x2 := g2 t0 hlt3
                clear g1 g2
                have r1 := (isV_iff n _).1 (HI.out i0 hlt t0 (by omega))
                have r2 := (isV_iff n _).1 (HI.out k0 (by omega) t0 (by omega))
                clear e1 e2
                obtain ⟨va, hva⟩ : ∃ va : Nat, d.V i0 t0 = va := ⟨(d.V i0 t0).toNat, by omega⟩
                obtain ⟨vb, hvb⟩ : ∃ vb : Nat, d.V k0 t0 = vb := ⟨(d.V k0 t0).toNat, by omega⟩
                have HS := Lib.hid (sameB_succ d U i0 k0 t0)
                rw [hva, hvb, ← HG.out] at HS
                rw [hva] at x1 r1
                rw [hvb] at x2 r2
                simp only [Int.toNat_natCast] at HS
                have y1 := cell_later HB.out (HU.out va (by omega))
                have y2 := cell_later HB.out (HU.out vb (by omega))
                have s1 : (0 : Int) ≤ (va : Int) := by omega
                have s2 : (va : Int) < (nv : Int) := by omega
                have s3 : (0 : Int) ≤ (vb : Int) := by omega
                have s4 : (vb : Int) < (nv : Int) := by omega
                clear r1 r2 hva hvb
                generalize U va = ua at *
                generalize U vb = ub at *
                have hbz := HB.out
                clear HG
                cases g
                · go_wp2_with fail
                  go_quiet (fail)
                  go_wp2_with fail
                  go_roundw
                  case rel => exact ⟨t0 + 1, false, by omega, rfl, by go_num, hbz.trans ((below_drewN _ _).mono hbz.size), HS.out.symm⟩
                  case measure => simp [intOf]; omega
                · rw [Bool.true_and] at HS
                  go_wp2_with fail
                  go_quiet (fail)
                  go_wp2_with fail
                  go_roundw
                  case rel => exact ⟨t0 + 1, (ua == ub), by omega, rfl, by go_num, hbz.trans ((below_drewN _ _).mono hbz.size), HS.out.symm⟩
                  case measure => simp [intOf]; omega
              · obtain rfl : t0 = L1 := by omega
                have y1 := cell_later HB.out (HU.out i0 (by omega))
                have y2 := cell_later HB.out (HU.out k0 (by omega))
                have s2 : (i0 : Int) < (nv : Int) := by omega
                have s4 : (k0 : Int) < (nv : Int) := by omega
                have hbz := HB.out
                cases g
                · have HFT := Lib.hid (show FitTo d U i0 k0 from fun _ _ _ h3 => by
                      have h9 := HG.out
                      rw [(sameB_iff d U i0 k0 t0).2 (fun t ht => h3 t (by omega))] at h9
                      cases h9)
                  generalize U i0 = ui at *
                  generalize U k0 = uk at *
                  clear e1 e2
                  go_wp2_with fail
                  go_quiet (fail)
                  go_wp2_with fail
                  go_roundw
                  case rel => exact ⟨k0 + 1, by omega, by go_num, hbz.trans ((below_drewN _ _).mono hbz.size), HNEW.out HFT.out⟩
                  case measure => simp [intOf]; omega
                · by_cases hue : U i0 = U k0
                  · have HFT := Lib.hid (show FitTo d U i0 k0 from fun _ _ _ _ => hue)
                    have g9 : (U i0 != U k0) = false := by simpa using hue
                    clear hue e1 e2
                    generalize U i0 = ui at *
                    generalize U k0 = uk at *
                    go_wp2_with fail
                    go_quiet (fail)
                    go_wp2_with fail
                    go_roundw
                    case rel => exact ⟨k0 + 1, by omega, by go_num, hbz.trans ((below_drewN _ _).mono hbz.size), HNEW.out HFT.out⟩
                    case measure => simp [intOf]; omega
                  · have g9 : (U i0 != U k0) = true := by simpa using hue
                    clear hue e1 e2
                    generalize U i0 = ui at *
                    generalize U k0 = uk at *
                    go_wp2_with fail
                    go_quiet (fail)
                    go_wp2_with fail
                    go_ret
                    exact ⟨false, rfl, (fun h => by cases h), hbz.trans ((below_drewN _ _).mono hbz.size)⟩
        · obtain rfl : k0 = i0 := by omega
          have hbz := HB.out
          go_wp2_with fail
          go_roundw
          case rel => exact ⟨k0 + 1, by omega, by go_num, hbz, fun i hi j hj => by
            by_cases hik : i < k0
            · exact HALL.out i hik j hj
            · obtain rfl : i = k0 := by omega
              exact HIN.out j hj⟩
          case measure => simp [intOf]; omega
    · obtain rfl : i0 = n := by omega
      have hbz := HB.out
      go_wp2_with fail
      go_ret
      exact ⟨true, rfl, fun _ => ⟨by omega, HNE.out, fun i j hi hj => HALL.out i hi j hj⟩, hbz⟩
end Go.Proofs.Ytgdncnalahdjeaa
