/- The document's quoted texts. -/
import Derived.Test.YtlifankiljbdjaaDoorR5
import Derived.Test.YtlifankiljbdjaaDoorW4
namespace Go.Proofs.YtlifankiljbdjaaDoor
open Go Go.RowKit

/-- what a text between two marks answers -/
def QuoP (r : Res) (W : World) (e : Ending) (w' : World) : Prop := W = w' ∧ match r with
  | .tok _ t n => ∃ X : ByteArray, e = .returned (.tuple #[.string X, .int .i64 (n : Int), .int .i64 0]) ∧ X.data.toList = t
  | .err er => ∃ X : ByteArray, e = .returned (.tuple #[.string X, .int .i64 0, .int .i64 (er : Int)])
theorem app_dataY (A B : ByteArray) : (A ++ B).data.toList = A.data.toList ++ B.data.toList := by simp
theorem one_str {bs : List UInt8} {i : Nat} (h : i < bs.length) : (⟨((bs.drop i).take (i + 1 - i)).toArray⟩ : ByteArray).data.toList = [bs[i]] := by
  have e : (bs.drop i).take (i + 1 - i) = [bs[i]] := by rw [show i + 1 - i = 1 by omega, List.drop_eq_getElem_cons h]; rfl
  rw [e]
set_option maxRecDepth 100000 in
set_option maxHeartbeats 3200000 in
theorem refbar_any (p : Option Addr) (c : Nat) (bs : List UInt8) (a : Nat) (W : World) (hb : BytesIn W p bs) (hk : bs.length ≤ c) (ha : a < bs.length) (hn : bs.length ≤ 1048576) :
    Calls Tryd.prog 62 #[.slice p bs.length c, .int .i64 (a : Int), .int .u8 124] W (QuoP (quo [] (bs.drop (a + 1))) W) := by
  have HB := Lib.hid hb
  have HKc := Lib.hid hk
  generalize hQ : quo [] (bs.drop (a + 1)) = Q
  have HQ := Lib.hid hQ
  obtain ⟨n, hnl⟩ : ∃ n, n = bs.length := ⟨_, rfl⟩
  have HL := Lib.hid hnl
  rw [← hnl] at ha hn hk ⊢
  clear hb hnl hQ
  go_enter Tryd.func62, Tryd.ntmps62
  go_wp2_with fail
  obtain ⟨P, hP⟩ : ∃ P, P = a + 1 := ⟨_, rfl⟩
  have hPi : (a : Int) + 1 = (P : Int) := by omega
  rw [hPi]
  have HP := Lib.hid hP
  have HQ2 := Lib.hid (show quo [] (bs.drop P) = Q by rw [hP]; exact HQ.out)
  clear hP hPi HQ
  go_loopg [9, 10, 11] (n + 1) (fun gk s9 s10 s11 wx => ∃ (i : Nat) (Y : ByteArray), n + 1 ≤ i + gk ∧ i ≤ n ∧ s10 = .int .i64 (i : Int) ∧ s9 = .string Y ∧ Hid (wx = W ∧ P ≤ i ∧ Y.data.toList.length + P = i ∧ quo Y.data.toList (bs.drop i) = Q))
  case atStart => exact ⟨P, ⟨#[]⟩, by omega, by have := HP.out; omega, rfl, rfl, Lib.hid ⟨rfl, Nat.le_refl _, by simp, HQ2.out⟩⟩
  case round =>
    obtain ⟨i, Y, hg, hi, rfl, rfl, HI⟩ := hrel
    obtain ⟨hw, hPi, hYl, hq⟩ := HI.out
    subst hw
    have HG := Lib.hid hg
    have HE := Lib.hid hq
    have HY := Lib.hid hYl
    have HPI := Lib.hid hPi
    have hYs : Y.size ≤ 1048576 := by
      have h1 : Y.data.toList.length = Y.size := by simp
      omega
    clear hg hq hYl hPi HI
    by_cases hlt : i < n
    · have i0 : (0 : Int) ≤ (i : Int) := by omega
      have i1 : (i : Int) < (n : Int) := by omega
      have hib : i < bs.length := by have := HL.out; omega
      have hd := drop_at hib
      obtain ⟨b, off, rfl, cb⟩ := HB.out i hib
      obtain ⟨V, hsl, hcv0⟩ := slice_conv wr _ bs c i (i + 1) HB.out (by omega) (by omega) HKc.out
      have hcv := hcv0 wr (Below.refl _ _)
      have hos := one_str hib
      rw [← HL.out, show ((i + 1 : Nat) : Int) = (i : Int) + 1 by omega] at hsl
      generalize hZ : (⟨((bs.drop i).take (i + 1 - i)).toArray⟩ : ByteArray) = Z at hcv hos
      obtain ⟨hz, hz0⟩ := byte_gt (x := bs[i])
      have e124 : ((bs[i].toNat : Int) == 124) = (bs[i] == 124) := eq_u8 124 (by decide +kernel) _
      have e92 : ((bs[i].toNat : Int) == 92) = (bs[i] == 92) := eq_u8 92 (by decide +kernel) _
      generalize bs[i] = x at *
      have HD := Lib.hid hd
      have HOS := Lib.hid hos
      have HIN := Lib.hid (fun W => inner_any x W)
      have hZs : Z.size ≤ 1 := by
        have h1 : Z.data.toList.length = Z.size := by simp
        rw [← h1, hos]; simp
      clear hd hos hcv0 hZ
      cases q1 : (x == 124) with
      | true =>
        rw [q1] at e124
        have HRES := Lib.hid (show Q = .tok 3 Y.data.toList (Y.data.toList.length + 2) by
          have := HE.out; rw [HD.out] at this; simp only [quo, q1, if_true] at this; exact this.symm)
        clear q1 e92
        have hle : (a : Int) ≤ (i : Int) := by have := HPI.out; have := HP.out; omega
        go_wp2_with fail
        go_ret3
        refine ⟨rfl, ?_⟩
        rw [HRES.out]
        refine ⟨Y, ?_, rfl⟩
        have hnum : ((Y.data.toList.length + 2 : Nat) : Int) = (i : Int) + 1 - (a : Int) := by have := HY.out; have := HP.out; omega
        rw [hnum]; rfl
      | false =>
        rw [q1] at e124
        cases q3 : txB x with
        | false =>
          have HRES := Lib.hid (show Q = .err 30 by
            have := HE.out; rw [HD.out] at this; simp only [quo, q1, q3] at this; simpa using this.symm)
          have HQ3 := Lib.hid q3
          clear q1 q3
          go_wp2_with fail
          refine (HIN.out _).mono ?_
          rintro e w1 ⟨rfl, rfl⟩
          rw [HQ3.out]
          go_wp2_with fail
          go_ret3
          exact ⟨rfl, by rw [HRES.out]; exact ⟨_, rfl⟩⟩
        | true =>
          have HQ3 := Lib.hid q3
          cases q2 : (x == 92) with
          | true =>
            rw [q2] at e92
            have HRES := Lib.hid (show Q = .err 30 by
              have := HE.out; rw [HD.out] at this; simp only [quo, q1, q2] at this; simpa using this.symm)
            clear q1 q2 q3
            go_wp2_with fail
            refine (HIN.out _).mono ?_
            rintro e w1 ⟨rfl, rfl⟩
            rw [HQ3.out]
            go_wp2_with fail
            go_ret3
            exact ⟨rfl, by rw [HRES.out]; exact ⟨_, rfl⟩⟩
          | false =>
            rw [q2] at e92
            have HRES := Lib.hid (show quo (Y.data.toList ++ [x]) (bs.drop (i + 1)) = Q by
              have := HE.out; rw [HD.out] at this; simp only [quo, q1, q2, q3] at this; simpa using this)
            clear q1 q2 q3
            go_wp2_with fail
            refine (HIN.out _).mono ?_
            rintro e w1 ⟨rfl, rfl⟩
            rw [HQ3.out]
            go_wp2_with fail
            go_roundg (gk - 1)
            case measure => have := HG.out; omega
            case rel =>
              obtain ⟨i', hi'⟩ : ∃ i', i' = i + 1 := ⟨_, rfl⟩
              have h1 := HY.out
              have h2 := HPI.out
              refine ⟨i', _, by have := HG.out; omega, by omega, by rw [hi']; go_num, rfl, Lib.hid ⟨rfl, by omega, ?_, ?_⟩⟩
              · rw [app_dataY, HOS.out]; simp only [List.length_append, List.length_cons, List.length_nil]; omega
              · rw [app_dataY, HOS.out, hi']; exact HRES.out
    · have HRES := Lib.hid (show Q = .err 31 by
        have := HE.out; rw [List.drop_of_length_le (show bs.length ≤ i by have := HL.out; omega)] at this; simp only [quo] at this; exact this.symm)
      have i1 : ¬ (i : Int) < (n : Int) := by omega
      go_wp2_with fail
      go_ret3
      exact ⟨rfl, by rw [HRES.out]; exact ⟨_, rfl⟩⟩
end Go.Proofs.YtlifankiljbdjaaDoor
