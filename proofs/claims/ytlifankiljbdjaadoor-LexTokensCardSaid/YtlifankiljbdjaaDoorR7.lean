/- The document's texts between double quotes. -/
import Derived.Test.YtlifankiljbdjaaDoorR6
namespace Go.Proofs.YtlifankiljbdjaaDoor
open Go Go.RowKit

set_option maxRecDepth 100000 in
set_option maxHeartbeats 3200000 in
theorem refmark_any (p : Option Addr) (c : Nat) (bs : List UInt8) (a : Nat) (W : World) (hb : BytesIn W p bs) (hk : bs.length ≤ c) (ha : a < bs.length) (hn : bs.length ≤ 1048576) :
    Calls Tryd.prog 62 #[.slice p bs.length c, .int .i64 (a : Int), .int .u8 34] W (QuoP (lit false [] 1 (bs.drop (a + 1))) W) := by
  have HB := Lib.hid hb
  have HKc := Lib.hid hk
  generalize hQ : lit false [] 1 (bs.drop (a + 1)) = Q
  have HQ := Lib.hid hQ
  obtain ⟨n, hnl⟩ : ∃ n, n = bs.length := ⟨_, rfl⟩
  have HL := Lib.hid hnl
  rw [← hnl] at ha hn hk ⊢
  clear hb hnl hQ
  go_enter Tryd.func62, Tryd.ntmps62
  go_wp2_with fail
  obtain ⟨P, hP⟩ : ∃ P, P = a + 1 := ⟨_, rfl⟩
  have hPi : (a : Int) + 1 = (P : Int) := by omega
  rw [hPi]
  have HP := Lib.hid hP
  have HQ2 := Lib.hid (show lit false [] (P - a) (bs.drop P) = Q by rw [hP, Nat.add_sub_cancel_left]; exact HQ.out)
  clear hP hPi HQ
  go_loopg [9, 10, 11] (n + 1) (fun gk s9 s10 s11 wx => ∃ (i : Nat) (Y : ByteArray), n + 1 ≤ i + gk ∧ i ≤ n ∧ s10 = .int .i64 (i : Int) ∧ s9 = .string Y ∧ Hid (wx = W ∧ P ≤ i ∧ Y.data.toList.length + P ≤ i ∧ lit false Y.data.toList (i - a) (bs.drop i) = Q))
  case atStart => exact ⟨P, ⟨#[]⟩, by omega, by have := HP.out; omega, rfl, rfl, Lib.hid ⟨rfl, Nat.le_refl _, by simp, HQ2.out⟩⟩
  case round =>
    obtain ⟨i, Y, hg, hi, rfl, rfl, HI⟩ := hrel
    obtain ⟨hw, hPi, hYl, hq⟩ := HI.out
    subst hw
    have HG := Lib.hid hg
    have HE := Lib.hid hq
    have HY := Lib.hid hYl
    have HPI := Lib.hid hPi
    have hYs : Y.size ≤ 1048576 := by
      have h1 : Y.data.toList.length = Y.size := by simp
      omega
    clear hg hq hYl hPi HI
    by_cases hlt : i < n
    · have i0 : (0 : Int) ≤ (i : Int) := by omega
      have i1 : (i : Int) < (n : Int) := by omega
      have hib : i < bs.length := by have := HL.out; omega
      have hd := drop_at hib
      obtain ⟨b, off, rfl, cb⟩ := HB.out i hib
      obtain ⟨V, hsl, hcv0⟩ := slice_conv wr _ bs c i (i + 1) HB.out (by omega) (by omega) HKc.out
      have hcv := hcv0 wr (Below.refl _ _)
      have hos := one_str hib
      rw [← HL.out, show ((i + 1 : Nat) : Int) = (i : Int) + 1 by omega] at hsl
      generalize hZ : (⟨((bs.drop i).take (i + 1 - i)).toArray⟩ : ByteArray) = Z at hcv hos
      obtain ⟨hz, hz0⟩ := byte_gt (x := bs[i])
      have e34 : ((bs[i].toNat : Int) == 34) = (bs[i] == 34) := eq_u8 34 (by decide +kernel) _
      generalize bs[i] = x at *
      have HD := Lib.hid hd
      have HOS := Lib.hid hos
      have HIN := Lib.hid (fun W => inner_any x W)
      have hZs : Z.size ≤ 1 := by
        have h1 : Z.data.toList.length = Z.size := by simp
        rw [← h1, hos]; simp
      clear hd hos hcv0 hZ
      have hai : a < i := by have := HPI.out; have := HP.out; omega
      cases q1 : (x == 34) with
      | true =>
        rw [q1] at e34
        have hx : x = 34 := eq_of_beq q1
        have ht34 : txB 34 = true := by decide
        have HE2 := Lib.hid (show lit true Y.data.toList (i + 1 - a) (bs.drop (i + 1)) = Q by
          have := HE.out; rw [HD.out, hx] at this; simp only [lit, ht34] at this
          rw [show i + 1 - a = i - a + 1 by omega]; simpa using this)
        have hle : (a : Int) ≤ (i : Int) := by omega
        have HX := Lib.hid hx
        clear q1 hx ht34
        by_cases hlt2 : i + 1 < n
        · have hib2 : i + 1 < bs.length := by have := HL.out; omega
          have hd2 := drop_at hib2
          obtain ⟨b2, off2, e2, cb2⟩ := HB.out (i + 1) hib2
          cases e2
          have i2 : (i : Int) + 1 < (n : Int) := by omega
          have i3 : ((i : Int) + 1).toNat = i + 1 := by omega
          obtain ⟨hz2, hz3⟩ := byte_gt (x := bs[i + 1])
          have e342 : ((bs[i + 1].toNat : Int) == 34) = (bs[i + 1] == 34) := eq_u8 34 (by decide +kernel) _
          generalize bs[i + 1] = x2 at *
          have HD2 := Lib.hid hd2
          clear hd2
          cases q2 : (x2 == 34) with
          | true =>
            rw [q2] at e342
            have HRES := Lib.hid (show lit false (Y.data.toList ++ [x]) (i + 2 - a) (bs.drop (i + 2)) = Q by
              have := HE2.out; rw [HD2.out] at this; simp only [lit, q2] at this
              rw [HX.out, show i + 2 - a = i + 1 - a + 1 by omega]; simpa using this)
            clear q2
            go_wp2_with fail
            go_roundg (gk - 2)
            case measure => have := HG.out; omega
            case rel =>
              obtain ⟨i', hi'⟩ : ∃ i', i' = i + 2 := ⟨_, rfl⟩
              have h1 := HY.out
              have h2 := HPI.out
              refine ⟨i', _, by have := HG.out; omega, by omega, by rw [hi']; go_num, rfl, Lib.hid ⟨rfl, by omega, ?_, ?_⟩⟩
              · rw [app_dataY, HOS.out]; simp only [List.length_append, List.length_cons, List.length_nil]; omega
              · rw [app_dataY, HOS.out, hi']; exact HRES.out
          | false =>
            rw [q2] at e342
            have HRES := Lib.hid (show Q = .tok 5 Y.data.toList (i + 1 - a) by
              have := HE2.out; rw [HD2.out] at this; simp only [lit, q2] at this; simpa using this.symm)
            clear q2
            go_wp2_with fail
            go_ret3
            refine ⟨rfl, ?_⟩
            rw [HRES.out]
            refine ⟨Y, ?_, rfl⟩
            have hnum : ((i + 1 - a : Nat) : Int) = (i : Int) + 1 - (a : Int) := by omega
            rw [hnum]; rfl
        · have HRES := Lib.hid (show Q = .tok 5 Y.data.toList (i + 1 - a) by
            have := HE2.out; rw [List.drop_of_length_le (show bs.length ≤ i + 1 by have := HL.out; omega)] at this; simp only [lit] at this; exact this.symm)
          have i2 : ¬ (i : Int) + 1 < (n : Int) := by omega
          have i3 : decide ((i : Int) + 1 < (n : Int)) = false := by simpa using i2
          go_wp2_with fail
          go_ret3
          refine ⟨rfl, ?_⟩
          rw [HRES.out]
          refine ⟨Y, ?_, rfl⟩
          have hnum : ((i + 1 - a : Nat) : Int) = (i : Int) + 1 - (a : Int) := by omega
          rw [hnum]; rfl
      | false =>
        rw [q1] at e34
        cases q3 : txB x with
        | false =>
          have HRES := Lib.hid (show Q = .err 30 by
            have := HE.out; rw [HD.out] at this; simp only [lit, q3] at this; simpa using this.symm)
          have HQ3 := Lib.hid q3
          clear q1 q3
          go_wp2_with fail
          refine (HIN.out _).mono ?_
          rintro e w1 ⟨rfl, rfl⟩
          rw [HQ3.out]
          go_wp2_with fail
          go_ret3
          exact ⟨rfl, by rw [HRES.out]; exact ⟨_, rfl⟩⟩
        | true =>
          have HQ3 := Lib.hid q3
          have HRES := Lib.hid (show lit false (Y.data.toList ++ [x]) (i + 1 - a) (bs.drop (i + 1)) = Q by
            have := HE.out; rw [HD.out] at this; simp only [lit, q1, q3] at this
            rw [show i + 1 - a = i - a + 1 by omega]; simpa using this)
          clear q1 q3
          go_wp2_with fail
          refine (HIN.out _).mono ?_
          rintro e w1 ⟨rfl, rfl⟩
          rw [HQ3.out]
          go_wp2_with fail
          go_roundg (gk - 1)
          case measure => have := HG.out; omega
          case rel =>
            obtain ⟨i', hi'⟩ : ∃ i', i' = i + 1 := ⟨_, rfl⟩
            have h1 := HY.out
            have h2 := HPI.out
            refine ⟨i', _, by have := HG.out; omega, by omega, by rw [hi']; go_num, rfl, Lib.hid ⟨rfl, by omega, ?_, ?_⟩⟩
            · rw [app_dataY, HOS.out]; simp only [List.length_append, List.length_cons, List.length_nil]; omega
            · rw [app_dataY, HOS.out, hi']; exact HRES.out
    · have HRES := Lib.hid (show Q = .err 31 by
        have := HE.out; rw [List.drop_of_length_le (show bs.length ≤ i by have := HL.out; omega)] at this; simp only [lit] at this; exact this.symm)
      have i1 : ¬ (i : Int) < (n : Int) := by omega
      go_wp2_with fail
      go_ret3
      exact ⟨rfl, by rw [HRES.out]; exact ⟨_, rfl⟩⟩
end Go.Proofs.YtlifankiljbdjaaDoor
