/- strings.Cut at a point. -/
import Derived.Test.YtlifankiljbdjaaDoorShelf
import Derived.Test.YtlifankiljbdjaaDoorW5
namespace Go.Proofs.YtlifankiljbdjaaDoor
open Go Go.RowKit

theorem index_tw (c : UInt8) : ∀ l : List UInt8, (l.contains c = false ∧ Lib.indexByte l c = -1 ∧ l.takeWhile (· != c) = l) ∨ (l.contains c = true ∧ Lib.indexByte l c = ((l.takeWhile (· != c)).length : Int) ∧ (l.takeWhile (· != c)).length + 1 ≤ l.length ∧ l.dropWhile (· != c) = l.drop (l.takeWhile (· != c)).length)
  | [] => .inl ⟨rfl, rfl, rfl⟩
  | b :: l => by
    by_cases h : b = c
    · subst h
      right
      simp [Lib.indexByte]
    · have hb : (b == c) = false := by simpa using h
      have hn : (b != c) = true := by simpa using h
      have hc : (c == b) = false := by simp; exact fun e => h e.symm
      rcases index_tw c l with ⟨h1, h2, h3⟩ | ⟨h1, h2, h3, h4⟩
      · left
        refine ⟨by rw [List.contains_cons, hc, h1]; rfl, ?_, ?_⟩
        · rw [Lib.indexByte, hb, h2]; rfl
        · rw [List.takeWhile_cons, if_pos hn, h3]
      · right
        refine ⟨by rw [List.contains_cons, h1]; simp, ?_, ?_, ?_⟩
        · rw [Lib.indexByte, hb, h2, List.takeWhile_cons, if_pos hn]
          have : (((l.takeWhile (· != c)).length : Int) == -1) = false := by first | (simp; done) | (simp; omega)
          simp only [this]
          simp
        · rw [List.takeWhile_cons, if_pos hn]; simp; exact h3
        · rw [List.takeWhile_cons, if_pos hn, List.dropWhile_cons, if_pos hn, h4]; rfl
theorem ext_take (s : ByteArray) (k : Nat) : s.extract 0 k = ⟨(s.data.toList.take k).toArray⟩ := by
  apply ByteArray.ext
  apply Array.toList_inj.1
  simp
theorem ext_drop (s : ByteArray) (k : Nat) : s.extract k s.size = ⟨(s.data.toList.drop k).toArray⟩ := by
  apply ByteArray.ext
  apply Array.toList_inj.1
  rw [Lib.extract_data]
  simp
  rw [List.take_of_length_le (by simp)]
def cutP (s : ByteArray) (W : World) (e : Ending) (w' : World) : Prop := ∃ (A B : ByteArray) (x : Bool), e = .returned (.tuple #[.string A, .string B, .bool x]) ∧ A.data.toList = s.data.toList.takeWhile (· != 46) ∧ B.data.toList = (s.data.toList.dropWhile (· != 46)).drop 1 ∧ x = s.data.toList.contains 46 ∧ ∃ n, w' = W.drewN n
theorem mk_toList (s : ByteArray) : (⟨s.data.toList.toArray⟩ : ByteArray) = s := by
  apply ByteArray.ext; simp
set_option maxRecDepth 100000 in
set_option maxHeartbeats 800000 in
theorem cut89_any (s : ByteArray) (W : World) (hs : s.size ≤ 1048576) : Calls Tryd.prog 89 #[.string s, .string ⟨#[46]⟩] W (cutP s W) := by
  have hl : s.data.toList.length = s.size := by simp
  rcases index_tw 46 s.data.toList with ⟨h1, h2, h3⟩ | ⟨h1, h2, h3, h4⟩
  · have H1 := Lib.hid h1
    have H2 := Lib.hid h2
    have H3 := Lib.hid h3
    clear h1 h2 h3 hl
    go_enter Tryd.func89, Tryd.ntmps89
    go_wp2_with fail
    go_at_call 96
    refine (Tryd.stringslite_Index_one _ _ _).mono ?_
    rintro e w1 ⟨rfl, rfl⟩
    rw [H2.out]
    go_wp2_with fail
    go_ret3
    refine ⟨s, ByteArray.empty, false, rfl, H3.out.symm, ?_, H1.out.symm, 0, rfl⟩
    have : s.data.toList.dropWhile (· != 46) = [] := by
      have := List.takeWhile_append_dropWhile (p := (· != (46 : UInt8))) (l := s.data.toList)
      rw [H3.out] at this
      simpa using this
    rw [this]; rfl
  · rw [hl] at h3
    generalize hk : (s.data.toList.takeWhile (· != 46)).length = k at *
    have e1 : s.extract 0 k = ⟨(s.data.toList.takeWhile (· != 46)).toArray⟩ := by rw [ext_take, ← hk, ← List.prefix_iff_eq_take.1 (List.takeWhile_prefix _)]
    have e2 : s.extract (k + 1) s.size = ⟨((s.data.toList.dropWhile (· != 46)).drop 1).toArray⟩ := by rw [ext_drop, h4, List.drop_drop]
    have H1 := Lib.hid h1
    have H2 := Lib.hid h2
    have E1 := Lib.hid e1
    have E2 := Lib.hid e2
    clear h1 h2 h4 hl hk e1 e2
    have i0 : (0 : Int) ≤ (k : Int) := by omega
    have i1 : (k : Int) ≤ (s.size : Int) := by omega
    have i2 : (k : Int) + 1 ≤ (s.size : Int) := by omega
    have i3 : (0 : Int) ≤ (k : Int) + 1 := by omega
    have i4 : IntKind.i64.wrap ((k : Int) + 1) = (k : Int) + 1 := IntWalk.i64_in _ (by omega)
    have i5 : ((k : Int) + 1).toNat = k + 1 := by omega
    go_enter Tryd.func89, Tryd.ntmps89
    go_wp2_with fail
    go_at_call 96
    refine (Tryd.stringslite_Index_one _ _ _).mono ?_
    rintro e w1 ⟨rfl, rfl⟩
    rw [H2.out]
    go_wp2_with fail
    go_quiet (fail)
    go_wp2_with fail
    go_ret3
    exact ⟨s.extract 0 k, s.extract (k + 1) s.size, true, rfl, by rw [E1.out], by rw [E2.out], H1.out.symm, nq, rfl⟩
set_option maxRecDepth 100000 in
set_option maxHeartbeats 800000 in
theorem cut_any (s : ByteArray) (W : World) (hs : s.size ≤ 1048576) : Calls Tryd.prog 76 #[.string s, .string ⟨#[46]⟩] W (cutP s W) := by
  go_enter Tryd.func76, Tryd.ntmps76
  go_wp2_with fail
  refine (cut89_any s _ hs).mono ?_
  rintro e w1 ⟨A, B, x, rfl, h1, h2, h3, n, rfl⟩
  have H := Lib.hid (And.intro h1 (And.intro h2 h3))
  clear h1 h2 h3
  go_wp2_with fail
  go_ret3
  exact ⟨A, B, x, rfl, H.out.1, H.out.2.1, H.out.2.2, n, rfl⟩
end Go.Proofs.YtlifankiljbdjaaDoor
