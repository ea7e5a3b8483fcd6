/- text: a token's bytes. -/
import Derived.Test.YtlifankiljbdjaaDoorX1
namespace Go.Proofs.YtlifankiljbdjaaDoor
open Go Go.RowKit

/-- a token's bytes, as the law writes them. -/
def TextP (k : Nat) (t : List UInt8) (W : World) (e : Ending) (w' : World) : Prop := ∃ X : ByteArray, e = .returned (.string X) ∧ X.data.toList = rendL k t ∧ Below W.heap.size W w'
theorem app_data (A B : ByteArray) : (A ++ B).data.toList = A.data.toList ++ B.data.toList := by simp
theorem dbl_snoc (l : List UInt8) (c : UInt8) : dblL (l ++ [c]) = dblL l ++ (if c == 34 then [34, 34] else [c]) := by
  induction l with
  | nil => simp only [List.nil_append, dblL]
  | cons d l ih => simp only [List.cons_append, dblL]; split <;> simp [ih]
theorem dbl_len (l : List UInt8) : (dblL l).length ≤ 2 * l.length := by
  induction l with
  | nil => simp [dblL]
  | cons c l ih => simp only [dblL]; split <;> simp <;> omega
theorem ext_one {S : ByteArray} {k : Nat} (h : k < S.size) : (S.extract k (k + 1)).data.toList = [S[k]] := by
  rw [Lib.extract_data]
  have h' : k < S.data.toList.length := by simpa using h
  rw [show k + 1 - k = 1 by omega, List.drop_eq_getElem_cons h']
  have := str_get' h
  rw [List.getElem?_eq_getElem h'] at this
  cases this
  rfl
set_option maxRecDepth 100000 in
set_option maxHeartbeats 3200000 in
theorem text_any (k a : Nat) (t : List UInt8) (S : ByteArray) (hS : S.data.toList = t) (hs : S.size ≤ 1048576) (W : World) :
    Calls Tryd.prog 19 #[.agg #[.int .u8 (k : Int), .string S, .int .i64 (a : Int)]] W (TextP k t W) := by
  have hB1 := below1 W (.cells #[.int .u8 (k : Int), .string S, .int .i64 (a : Int)] 33)
  have HB1 := Lib.hid hB1
  have c0 : (W.alloc (.cells #[.int .u8 (k : Int), .string S, .int .i64 (a : Int)] 33)).cell? ⟨W.heap.size, 0, none⟩ = some (.int .u8 (k : Int)) := by simp [go_sem]
  have c1 : (W.alloc (.cells #[.int .u8 (k : Int), .string S, .int .i64 (a : Int)] 33)).cell? ⟨W.heap.size, 1, none⟩ = some (.string S) := by simp [go_sem]
  have HS := Lib.hid hS
  clear hB1 hS
  by_cases h3 : k = 3
  · subst h3
    cases hp : plainB t with
    | true =>
      have HP := Lib.hid hp
      clear hp
      go_enter Tryd.func19, Tryd.ntmps19
      go_wp2_with fail
      refine (refplain_any S _ hs).mono ?_
      rintro e w1 ⟨rfl, hb⟩
      rw [HS.out, HP.out]
      have d1 := cell_later hb c1
      have HB := Lib.hid (HB1.out.trans (hb.mono HB1.out.size))
      clear hb c0 c1
      go_wp2_with fail
      go_ret
      exact ⟨S, rfl, by rw [HS.out]; unfold rendL; rw [HP.out]; rfl, HB.out⟩
    | false =>
      have HP := Lib.hid hp
      clear hp
      go_enter Tryd.func19, Tryd.ntmps19
      go_wp2_with fail
      refine (refplain_any S _ hs).mono ?_
      rintro e w1 ⟨rfl, hb⟩
      rw [HS.out, HP.out]
      have d1 := cell_later hb c1
      have HB := Lib.hid (HB1.out.trans (hb.mono HB1.out.size))
      clear hb c0 c1
      go_wp2_with fail
      go_ret
      refine ⟨_, rfl, ?_, HB.out⟩
      rw [app_data, app_data, HS.out]; unfold rendL; rw [HP.out]; rfl
  · have e3 : ((k : Int) == 3) = false := by simp; omega
    by_cases h5 : k = 5
    · subst h5
      go_enter Tryd.func19, Tryd.ntmps19
      go_wp2_with fail
      generalize hW1 : W.alloc _ = W1
      rw [show (W.alloc (.cells #[.int .u8 ((5 : Nat) : Int), .string S, .int .i64 (a : Int)] 33)) = W1 from hW1] at HB1 c0 c1
      have HW1 := Lib.hid hW1
      clear hW1
      go_loopg [3, 4] S.size (fun gk s3 s4 wx => ∃ (j : Nat) (Y : ByteArray), j + gk = S.size ∧ s3 = .string Y ∧ s4 = .int .i64 (j : Int) ∧ Hid (wx = W1 ∧ Y.data.toList = dblL (t.take j)))
      case atStart => exact ⟨0, ⟨#[]⟩, by omega, rfl, rfl, Lib.hid ⟨rfl, rfl⟩⟩
      case round =>
        obtain ⟨j, Y, hj, rfl, rfl, HI⟩ := hrel
        obtain ⟨hw, hY⟩ := HI.out
        subst hw
        have HG := Lib.hid hj
        have HY := Lib.hid hY
        have hj2 : j ≤ S.size := by omega
        clear hj hY HI
        by_cases hlt : j < S.size
        · have i0 : (0 : Int) ≤ (j : Int) := by omega
          have i1 : (j : Int) < (S.size : Int) := by omega
          have i2 : (j : Int) + 1 ≤ (S.size : Int) := by omega
          have i3 : ((j : Int) + 1).toNat = j + 1 := by omega
          have e34 : ((S[j].toNat : Int) == 34) = (S[j] == 34) := eq_u8 34 (by decide +kernel) _
          have HX := Lib.hid (ext_one hlt)
          have hts : t.take (j + 1) = t.take j ++ [S[j]] := by
            have := str_get' hlt
            rw [HS.out] at this
            obtain ⟨h1, h2⟩ := List.getElem?_eq_some_iff.1 this
            rw [List.take_succ_eq_append_getElem h1, h2]
          have HD := Lib.hid (show dblL (t.take (j + 1)) = dblL (t.take j) ++ (if S[j] == 34 then [34, 34] else [S[j]]) by rw [hts]; exact dbl_snoc _ _)
          obtain ⟨hz, hz0⟩ := byte_gt (x := S[j])
          have hYs : Y.size ≤ 2097152 := by
            have h1 : Y.data.toList.length = Y.size := by simp
            have h2 := dbl_len (t.take j)
            rw [← HY.out, h1, List.length_take] at h2
            omega
          have hXs : (S.extract j (j + 1)).size ≤ 1 := by
            have h1 : ∀ Z : ByteArray, Z.data.toList.length = Z.size := fun Z => by simp
            have h2 : (S.extract j (j + 1)).data.toList.length = 1 := by rw [HX.out]; rfl
            have h3 := h1 (S.extract j (j + 1))
            omega
          clear hts
          cases q : (S[j] == 34) with
          | true =>
            rw [q] at e34
            have HQ := Lib.hid q
            clear q
            go_wp2_with fail
            go_roundg (gk - 1)
            case measure => have := HG.out; omega
            case rel =>
              obtain ⟨j', hj'⟩ : ∃ j', j' = j + 1 := ⟨_, rfl⟩
              refine ⟨j', _, by have := HG.out; omega, rfl, by rw [hj']; go_num, Lib.hid ⟨rfl, ?_⟩⟩
              rw [hj', HD.out, HQ.out, app_data, app_data, HY.out, HX.out]
              have := eq_of_beq HQ.out
              simp [this]
          | false =>
            rw [q] at e34
            have HQ := Lib.hid q
            clear q
            go_wp2_with fail
            go_roundg (gk - 1)
            case measure => have := HG.out; omega
            case rel =>
              obtain ⟨j', hj'⟩ : ∃ j', j' = j + 1 := ⟨_, rfl⟩
              refine ⟨j', _, by have := HG.out; omega, rfl, by rw [hj']; go_num, Lib.hid ⟨rfl, ?_⟩⟩
              rw [hj', HD.out, HQ.out, app_data, HY.out, HX.out]
              simp
        · have hjs : j = S.size := by omega
          have HJ := Lib.hid (show t.take j = t by rw [hjs, ← HS.out, List.take_of_length_le (by simp)])
          have hYs : Y.size ≤ 2097152 := by
            have h1 : Y.data.toList.length = Y.size := by simp
            have h2 := dbl_len (t.take j)
            rw [← HY.out, h1, List.length_take] at h2
            omega
          clear hjs
          go_wp2_with fail
          go_ret
          refine ⟨_, rfl, ?_, HB1.out⟩
          rw [app_data, app_data, HY.out, HJ.out]
          unfold rendL
          rfl
    · have e5 : ((k : Int) == 5) = false := by simp; omega
      by_cases h6 : k = 6
      · subst h6
        go_enter Tryd.func19, Tryd.ntmps19
        go_wp2_with fail
        go_ret
        refine ⟨_, rfl, ?_, HB1.out⟩
        rw [app_data, HS.out]; unfold rendL; rfl
      · have e6 : ((k : Int) == 6) = false := by simp; omega
        go_enter Tryd.func19, Tryd.ntmps19
        go_wp2_with fail
        go_ret
        refine ⟨_, rfl, ?_, HB1.out⟩
        rw [HS.out]; unfold rendL
        simp [h3, h5, h6]
end Go.Proofs.YtlifankiljbdjaaDoor
