/- The reader: words, tokens. -/
import Derived.Test.YtlifankiljbdjaaDoorShelf
import Derived.Test.YtlifankiljbdjaaDoorJW2
namespace Go.Proofs.YtlifankiljbdjaaDoor
open Go Go.RowKit

theorem index_tw (c : UInt8) : ∀ l : List UInt8, (l.contains c = false ∧ Lib.indexByte l c = -1 ∧ l.takeWhile (· != c) = l) ∨ (l.contains c = true ∧ Lib.indexByte l c = ((l.takeWhile (· != c)).length : Int) ∧ (l.takeWhile (· != c)).length + 1 ≤ l.length ∧ l.dropWhile (· != c) = l.drop (l.takeWhile (· != c)).length)
  | [] => .inl ⟨rfl, rfl, rfl⟩
  | b :: l => by
    by_cases h : b = c
    · subst h
      right
      simp [Lib.indexByte]
    · have hb : (b == c) = false := by simpa using h
      have hn : (b != c) = true := by simpa using h
      have hc : (c == b) = false := by simp; exact fun e => h e.symm
      rcases index_tw c l with ⟨h1, h2, h3⟩ | ⟨h1, h2, h3, h4⟩
      · left
        refine ⟨by rw [List.contains_cons, hc, h1]; rfl, ?_, ?_⟩
        · rw [Lib.indexByte, hb, h2]; rfl
        · rw [List.takeWhile_cons, if_pos hn, h3]
      · right
        refine ⟨by rw [List.contains_cons, h1]; simp, ?_, ?_, ?_⟩
        · rw [Lib.indexByte, hb, h2, List.takeWhile_cons, if_pos hn]
          have : (((l.takeWhile (· != c)).length : Int) == -1) = false := by first | (simp; done) | (simp; omega)
          simp only [this]
          simp
        · rw [List.takeWhile_cons, if_pos hn]; simp; exact h3
        · rw [List.takeWhile_cons, if_pos hn, List.dropWhile_cons, if_pos hn, h4]; rfl
theorem ext_take (s : ByteArray) (k : Nat) : s.extract 0 k = ⟨(s.data.toList.take k).toArray⟩ := by
  apply ByteArray.ext
  apply Array.toList_inj.1
  simp
theorem ext_drop (s : ByteArray) (k : Nat) : s.extract k s.size = ⟨(s.data.toList.drop k).toArray⟩ := by
  apply ByteArray.ext
  apply Array.toList_inj.1
  rw [Lib.extract_data]
  simp
  rw [List.take_of_length_le (by simp)]
def cutP (s : ByteArray) (W : World) (e : Ending) (w' : World) : Prop := ∃ (A B : ByteArray) (x : Bool), e = .returned (.tuple #[.string A, .string B, .bool x]) ∧ A.data.toList = s.data.toList.takeWhile (· != 46) ∧ B.data.toList = (s.data.toList.dropWhile (· != 46)).drop 1 ∧ x = s.data.toList.contains 46 ∧ ∃ n, w' = W.drewN n
theorem mk_toList (s : ByteArray) : (⟨s.data.toList.toArray⟩ : ByteArray) = s := by
  apply ByteArray.ext; simp
set_option maxRecDepth 100000 in
set_option maxHeartbeats 800000 in
theorem cut89_any (s : ByteArray) (W : World) (hs : s.size ≤ 1048576) : Calls Tryd.prog 89 #[.string s, .string ⟨#[46]⟩] W (cutP s W) := by
  have hl : s.data.toList.length = s.size := by simp
  rcases index_tw 46 s.data.toList with ⟨h1, h2, h3⟩ | ⟨h1, h2, h3, h4⟩
  · have H1 := Lib.hid h1
    have H2 := Lib.hid h2
    have H3 := Lib.hid h3
    clear h1 h2 h3 hl
    go_enter Tryd.func89, Tryd.ntmps89
    go_wp2_with fail
    go_at_call 96
    refine (Tryd.stringslite_Index_one _ _ _).mono ?_
    rintro e w1 ⟨rfl, rfl⟩
    rw [H2.out]
    go_wp2_with fail
    go_ret3
    refine ⟨s, ByteArray.empty, false, rfl, H3.out.symm, ?_, H1.out.symm, 0, rfl⟩
    have : s.data.toList.dropWhile (· != 46) = [] := by
      have := List.takeWhile_append_dropWhile (p := (· != (46 : UInt8))) (l := s.data.toList)
      rw [H3.out] at this
      simpa using this
    rw [this]; rfl
  · rw [hl] at h3
    generalize hk : (s.data.toList.takeWhile (· != 46)).length = k at *
    have e1 : s.extract 0 k = ⟨(s.data.toList.takeWhile (· != 46)).toArray⟩ := by rw [ext_take, ← hk, ← List.prefix_iff_eq_take.1 (List.takeWhile_prefix _)]
    have e2 : s.extract (k + 1) s.size = ⟨((s.data.toList.dropWhile (· != 46)).drop 1).toArray⟩ := by rw [ext_drop, h4, List.drop_drop]
    have H1 := Lib.hid h1
    have H2 := Lib.hid h2
    have E1 := Lib.hid e1
    have E2 := Lib.hid e2
    clear h1 h2 h4 hl hk e1 e2
    have i0 : (0 : Int) ≤ (k : Int) := by omega
    have i1 : (k : Int) ≤ (s.size : Int) := by omega
    have i2 : (k : Int) + 1 ≤ (s.size : Int) := by omega
    have i3 : (0 : Int) ≤ (k : Int) + 1 := by omega
    have i4 : IntKind.i64.wrap ((k : Int) + 1) = (k : Int) + 1 := IntWalk.i64_in _ (by omega)
    have i5 : ((k : Int) + 1).toNat = k + 1 := by omega
    go_enter Tryd.func89, Tryd.ntmps89
    go_wp2_with fail
    go_at_call 96
    refine (Tryd.stringslite_Index_one _ _ _).mono ?_
    rintro e w1 ⟨rfl, rfl⟩
    rw [H2.out]
    go_wp2_with fail
    go_quiet (fail)
    go_wp2_with fail
    go_ret3
    exact ⟨s.extract 0 k, s.extract (k + 1) s.size, true, rfl, by rw [E1.out], by rw [E2.out], H1.out.symm, nq, rfl⟩
set_option maxRecDepth 100000 in
set_option maxHeartbeats 800000 in
theorem cut_any (s : ByteArray) (W : World) (hs : s.size ≤ 1048576) : Calls Tryd.prog 76 #[.string s, .string ⟨#[46]⟩] W (cutP s W) := by
  go_enter Tryd.func76, Tryd.ntmps76
  go_wp2_with fail
  refine (cut89_any s _ hs).mono ?_
  rintro e w1 ⟨A, B, x, rfl, h1, h2, h3, n, rfl⟩
  have H := Lib.hid (And.intro h1 (And.intro h2 h3))
  clear h1 h2 h3
  go_wp2_with fail
  go_ret3
  exact ⟨A, B, x, rfl, H.out.1, H.out.2.1, H.out.2.2, n, rfl⟩
end Go.Proofs.YtlifankiljbdjaaDoor
namespace Go.Proofs.YtlifankiljbdjaaDoor
open Go Go.RowKit

theorem str_of (l : List UInt8) : ∃ S : ByteArray, (⟨l.toArray⟩ : ByteArray) = S ∧ S.data.toList = l ∧ S.size = l.length := ⟨_, rfl, by simp, by simp [ByteArray.size]⟩
theorem str_get {S : ByteArray} {i : Nat} (h : i < S.size) : S.data.toList.getD i 0 = S[i] := by
  have : i < S.data.toList.length := by simpa using h
  rw [List.getD_eq_getElem?_getD, List.getElem?_eq_getElem this]
  rfl
theorem tokB_new' (W : World) : TokB (W.alloc (.cells #[.int .u8 0, .string ByteArray.empty, .int .i64 0] 33)) W.heap.size := tokB_new W
/-- a token's cells are laid, and the call's world is told -/
theorem tok_end {R : Nat} {p : Option Addr} {c : Nat} {bs : List UInt8} {a B : Nat} {W W5 : World} {v0 v1 v2 : Value} (hB : W.heap.size ≤ B) (hR : RdAt W5 R p c bs a) (hO : Only (· = R) W W5) (hRB : R ≠ B) (hp : 0 < bs.length → ∀ b off, p = some ⟨b, off, none⟩ → b < B) :
    Only (· = R) W (((W5.setCell ⟨B, 0, none⟩ v0).setCell ⟨B, 1, none⟩ v1).setCell ⟨B, 2, none⟩ v2) ∧ RdAt (((W5.setCell ⟨B, 0, none⟩ v0).setCell ⟨B, 1, none⟩ v1).setCell ⟨B, 2, none⟩ v2) R p c bs a := by
  have hset : Only (· = B) W5 (((W5.setCell ⟨B, 0, none⟩ v0).setCell ⟨B, 1, none⟩ v1).setCell ⟨B, 2, none⟩ v2) := ((only_set _ B 0 _).trans (only_set _ B 1 _)).trans (only_set _ B 2 _)
  exact ⟨((hO.new hB).new hB).new hB, hR.only hset hRB (fun h0 b off e => by have := hp h0 b off e; show ¬ b = B; omega)⟩
set_option maxRecDepth 100000 in
set_option maxHeartbeats 3200000 in
theorem plain_any (R : Nat) (p : Option Addr) (c : Nat) (bs : List UInt8) (a0 : Nat) (W : World) (h : RdAt W R p c bs a0) (hlt0 : a0 < bs.length) (hsy : syB bs[a0] = true) :
    Calls Tryd.prog 61 #[.pointer (some ⟨R, 0, none⟩)] W (TokRes R p c bs a0 W (plainR (wordL (bs.drop a0)))) := by
  have hpos : 0 < (wordL (bs.drop a0)).length := by rw [tw_drop bs a0 hlt0 hsy]; omega
  have hle := word_le (bs.drop a0)
  rw [List.length_drop] at hle
  have H := Lib.hid h
  have hn := h.hn
  have HPB := Lib.hid (h.bi.lt (by omega))
  have HRB := Lib.hid (show R ≠ W.heap.size by have := h.hl; omega)
  have hB1 := below1 W (.cells #[.int .u8 0, .string ByteArray.empty, .int .i64 0] 33)
  have HR1 := Lib.hid (h.later hB1)
  have HT1 := Lib.hid (tokB_new W)
  have HB1 := Lib.hid hB1
  have hw := word_any R p c bs a0 _ HR1.out
  have hBB : W.heap.size ≤ W.heap.size := Nat.le_refl _
  generalize wordL (bs.drop a0) = w at *
  have HW := Lib.hid hw
  clear h hsy hB1 hw
  go_enter Tryd.func61, Tryd.ntmps61
  go_wp2_with fail
  generalize hW1 : W.alloc _ = W1
  rw [show (W.alloc (.cells #[.int .u8 0, .string ByteArray.empty, .int .i64 0] 33)) = W1 from hW1] at HW HR1 HT1 HB1
  generalize hB : W.heap.size = B at *
  have HBB := Lib.hid hB
  clear hW1 hB H
  refine HW.out.mono ?_
  rintro e w2 ⟨rfl, hr2, ho2⟩
  have HR2 := Lib.hid hr2
  have HO2 := Lib.hid ((Only.of_below (T := (· = R)) (by rw [HBB.out]; exact HB1.out)).trans ho2)
  have HT2 := Lib.hid (HT1.out.only ho2 (fun e => HRB.out e.symm))
  obtain ⟨S, hS, hS1, hS2⟩ := str_of w
  rw [hS]
  rw [← hS2] at hpos hle
  have h0 : S[0] = w.getD 0 0 := by rw [← hS1]; exact (str_get hpos).symm
  have ccl := hr2.cl S[0]
  obtain ⟨hz, hz0⟩ := byte_gt (x := S[0])
  have an := not_ne (and4 S[0])
  have HS := Lib.hid (And.intro hS (And.intro hS1 hS2))
  have H0 := Lib.hid h0
  clear hr2 ho2 HW HR1 HT1 HB1 hS hS1 hS2 h0
  go_wp2_with fail
  go_quiet (fail)
  generalize hW3 : w2.drewN _ = w3
  have HR3 := Lib.hid (show RdAt w3 R p c bs (a0 + w.length) by rw [← hW3]; exact HR2.out.later (by first | exact below_drewN _ _ | exact Below.refl _ _ | (repeat (first | exact Below.refl _ _ | apply bdd))))
  have HO3 := Lib.hid (show Only (· = R) W w3 by rw [← hW3]; exact HO2.out.trans (Only.of_below (by first | exact below_drewN _ _ | exact Below.refl _ _ | (repeat (first | exact Below.refl _ _ | apply bdd)))))
  have hT3 : TokB w3 B := by rw [← hW3]; exact HT2.out.later (by first | exact below_drewN _ _ | exact Below.refl _ _ | (repeat (first | exact Below.refl _ _ | apply bdd)))
  obtain ⟨v0, t0⟩ := hT3.c0
  obtain ⟨v1, t1⟩ := hT3.c1
  obtain ⟨v2, t2⟩ := hT3.c2
  have tf0 := hT3.fz 0
  have tf1 := hT3.fz 1
  have tf2 := hT3.fz 2
  clear hW3 hT3
  clear HR2 HO2 HT2
  cases q0 : dgB S[0] with
  | false =>
    rw [q0] at an
    have HRES := Lib.hid (show plainR w = .tok 3 w w.length by
      unfold plainR; rw [if_pos (by rw [← H0.out, q0]; decide)])
    clear q0
    go_wp2_with fail
    obtain ⟨hO5, hR5⟩ := tok_end (v0 := .int .u8 3) (v1 := .string S) (v2 := .int .i64 0) (Nat.le_of_eq HBB.out) HR3.out HO3.out HRB.out (fun _ => HPB.out)
    refine bodyPost_ret (v := .tuple #[.agg #[.int .u8 3, .string S, .int .i64 0], .int .i64 0]) (by simp [results, Tryd.results61, go_sem, t0, t1, t2]) rfl ⟨hO5, ?_⟩
    rw [HRES.out]
    exact ⟨by unfold tokV; rw [HS.out.1]; rfl, hR5⟩
  | true =>
    rw [q0] at an
    have an2 : (bits BinOp.and IntKind.u8 (clB S[0] : Int) 4 == 0) = false := an
    have HQ0 := Lib.hid (show ¬ (!(dgB (w.getD 0 0))) = true by rw [← H0.out, q0]; decide)
    clear an ccl q0
    go_wp2_with fail
    refine (cut_any S _ (by omega)).mono ?_
    rintro e w4 ⟨A, C, x, rfl, hA, hC, hx, nq4, rfl⟩
    rw [HS.out.2.1] at hA hC hx
    have hAl : A.size ≤ S.size := by
      have : A.data.toList.length = A.size := by simp
      rw [← this, hA, HS.out.2.2]; exact (List.takeWhile_sublist _).length_le
    have hCl : C.size ≤ S.size := by
      have : C.data.toList.length = C.size := by simp
      rw [← this, hC, HS.out.2.2]; simp only [List.length_drop]; have := (List.dropWhile_sublist (p := (· != (46 : UInt8))) (l := w)).length_le; omega
    have HPW := Lib.hid (show plainR w = (if !allB dgB A.data.toList || (A.data.toList.getD 0 0 == 48 && decide (1 < A.data.toList.length)) then .err 5 else if !x then .tok 4 w w.length else if !allB dgB C.data.toList then .err 5 else .tok 7 w w.length) by
      unfold plainR; rw [if_neg HQ0.out, hA, hC, hx])
    have HCL := Lib.hid (show ∀ b : UInt8, (w3.drewN nq4).cell? ⟨R, 2 + b.toNat, none⟩ = some (.int .u8 (clB b : Int)) from fun b => (HR3.out.later (below_drewN _ _)).cl b)
    have HCL2 := Lib.hid (show ∀ k, ∀ b : UInt8, (w3.drewN k).cell? ⟨R, 2 + b.toNat, none⟩ = some (.int .u8 (clB b : Int)) from fun k b => (HR3.out.later (below_drewN _ _)).cl b)
    have HX := Lib.hid (And.intro hA (And.intro hC hx))
    clear hA hC hx HQ0
    cases q1 : allB dgB A.data.toList with
    | false =>
      have HRES := Lib.hid (show plainR w = .err 5 by rw [HPW.out, q1]; rfl)
      have Q1 := Lib.hid q1
      clear q1
      go_wp2_with fail
      go_at_call 74
      refine (all_any 4 dgB (fun c => not_ne (and4 c)) R A _ HCL.out (by omega)).mono ?_
      rintro e w' ⟨rfl, n7, rfl⟩
      rw [Q1.out]
      go_wp2_with fail
      generalize hW5 : World.drewN _ _ = w5
      have hb5 : Below w3.heap.size w3 w5 := by rw [← hW5]; exact (by first | exact below_drewN _ _ | exact Below.refl _ _ | (repeat (first | exact Below.refl _ _ | apply bdd)))
      obtain ⟨hO5, hR5⟩ := tok_end (v0 := .int .u8 0) (v1 := .string ⟨#[]⟩) (v2 := .int .i64 0) (Nat.le_of_eq HBB.out) (HR3.out.later hb5) (HO3.out.trans (Only.of_below hb5)) HRB.out (fun _ => HPB.out)
      have u0 := cell_later hb5 t0
      have u1 := cell_later hb5 t1
      have u2 := cell_later hb5 t2
      refine bodyPost_ret (v := .tuple #[tokV 0 [] 0, .int .i64 5]) (by simp [results, Tryd.results61, go_sem, u0, u1, u2, tokV]) rfl ⟨hO5, ?_⟩
      rw [HRES.out]
      rfl
    | true =>
      have hA0 : 0 < A.size := by
        have : A.data.toList ≠ [] := fun e => by rw [e] at q1; exact absurd q1 (by decide)
        have h2 : A.data.toList.length = A.size := by simp
        have := List.length_pos_iff.2 this; omega
      have e48 : ((A[0].toNat : Int) == 48) = (A[0] == 48) := eq_u8 48 (by decide +kernel) _
      have HA0 := Lib.hid (str_get (S := A) hA0)
      obtain ⟨hz', hz0'⟩ := byte_gt (x := A[0])
      cases q2 : (A[0] == 48 && decide (1 < A.size)) with
      | true =>
        have HRES := Lib.hid (show plainR w = .err 5 by
          rw [HPW.out, q1, HA0.out, show A.data.toList.length = A.size by simp, q2]; rfl)
        have Q1 := Lib.hid q1
        simp only [Bool.and_eq_true, decide_eq_true_eq] at q2
        rw [q2.1] at e48
        have g1 : (1 : Int) < (A.size : Int) := by omega
        clear q1 q2
        go_wp2_with fail
        go_at_call 74
        refine (all_any 4 dgB (fun c => not_ne (and4 c)) R A _ HCL.out (by omega)).mono ?_
        rintro e w' ⟨rfl, n7, rfl⟩
        rw [Q1.out]
        go_wp2_with fail
        generalize hW5 : World.drewN _ _ = w5
        have hb5 : Below w3.heap.size w3 w5 := by rw [← hW5]; exact (by first | exact below_drewN _ _ | exact Below.refl _ _ | (repeat (first | exact Below.refl _ _ | apply bdd)))
        obtain ⟨hO5, hR5⟩ := tok_end (v0 := .int .u8 0) (v1 := .string ⟨#[]⟩) (v2 := .int .i64 0) (Nat.le_of_eq HBB.out) (HR3.out.later hb5) (HO3.out.trans (Only.of_below hb5)) HRB.out (fun _ => HPB.out)
        have u0 := cell_later hb5 t0
        have u1 := cell_later hb5 t1
        have u2 := cell_later hb5 t2
        refine bodyPost_ret (v := .tuple #[tokV 0 [] 0, .int .i64 5]) (by simp [results, Tryd.results61, go_sem, u0, u1, u2, tokV]) rfl ⟨hO5, ?_⟩
        rw [HRES.out]
        rfl
      | false =>
        have HPW2 := Lib.hid (show plainR w = (if !x then .tok 4 w w.length else if !allB dgB C.data.toList then .err 5 else .tok 7 w w.length) by
          rw [HPW.out, q1, HA0.out, show A.data.toList.length = A.size by simp, q2]; rfl)
        have Q1 := Lib.hid q1
        have hcase : (A[0] == 48) = false ∨ ((A[0] == 48) = true ∧ decide (1 < A.size) = false) := by
          cases h : (A[0] == 48) with
          | false => exact .inl rfl
          | true => rw [h] at q2; exact .inr ⟨rfl, by simpa using q2⟩
        clear q1 q2 HPW
        rcases hcase with hc | ⟨hc, hc2⟩
        · rw [hc] at e48
          clear hc
          cases x with
          | false =>
            have HRES := Lib.hid (show plainR w = .tok 4 w w.length by rw [HPW2.out]; rfl)
            go_wp2_with fail
            go_at_call 74
            refine (all_any 4 dgB (fun c => not_ne (and4 c)) R A _ HCL.out (by omega)).mono ?_
            rintro e w' ⟨rfl, n7, rfl⟩
            rw [Q1.out]
            go_wp2_with fail
            generalize hW5 : World.drewN _ _ = w5
            have hb5 : Below w3.heap.size w3 w5 := by rw [← hW5]; exact (by first | exact below_drewN _ _ | exact Below.refl _ _ | (repeat (first | exact Below.refl _ _ | apply bdd)))
            obtain ⟨hO5, hR5⟩ := tok_end (v0 := .int .u8 4) (v1 := .string S) (v2 := .int .i64 0) (Nat.le_of_eq HBB.out) (HR3.out.later hb5) (HO3.out.trans (Only.of_below hb5)) HRB.out (fun _ => HPB.out)
            have u0 := cell_later hb5 t0
            have u1 := cell_later hb5 t1
            have u2 := cell_later hb5 t2
            refine bodyPost_ret (v := .tuple #[.agg #[.int .u8 4, .string S, .int .i64 0], .int .i64 0]) (by simp [results, Tryd.results61, go_sem, u0, u1, u2]) rfl ⟨hO5, ?_⟩
            rw [HRES.out]
            exact ⟨by unfold tokV; rw [HS.out.1]; rfl, hR5⟩
          | true =>
            cases q3 : allB dgB C.data.toList with
            | false =>
              have HRES := Lib.hid (show plainR w = .err 5 by rw [HPW2.out, q3]; rfl)
              have Q3 := Lib.hid q3
              clear q3
              go_wp2_with fail
              go_at_call 74
              refine (all_any 4 dgB (fun c => not_ne (and4 c)) R A _ HCL.out (by omega)).mono ?_
              rintro e w' ⟨rfl, n7, rfl⟩
              rw [Q1.out]
              go_wp2_with fail
              go_at_call 74
              refine (all_any 4 dgB (fun c => not_ne (and4 c)) R C _ (HCL2.out _) (by omega)).mono ?_
              rintro e w' ⟨rfl, n7, rfl⟩
              rw [Q3.out]
              go_wp2_with fail
              generalize hW5 : World.drewN _ _ = w5
              have hb5 : Below w3.heap.size w3 w5 := by rw [← hW5]; exact (by first | exact below_drewN _ _ | exact Below.refl _ _ | (repeat (first | exact Below.refl _ _ | apply bdd)))
              obtain ⟨hO5, hR5⟩ := tok_end (v0 := .int .u8 0) (v1 := .string ⟨#[]⟩) (v2 := .int .i64 0) (Nat.le_of_eq HBB.out) (HR3.out.later hb5) (HO3.out.trans (Only.of_below hb5)) HRB.out (fun _ => HPB.out)
              have u0 := cell_later hb5 t0
              have u1 := cell_later hb5 t1
              have u2 := cell_later hb5 t2
              refine bodyPost_ret (v := .tuple #[tokV 0 [] 0, .int .i64 5]) (by simp [results, Tryd.results61, go_sem, u0, u1, u2, tokV]) rfl ⟨hO5, ?_⟩
              rw [HRES.out]
              rfl
            | true =>
              have HRES := Lib.hid (show plainR w = .tok 7 w w.length by rw [HPW2.out, q3]; rfl)
              have Q3 := Lib.hid q3
              clear q3
              go_wp2_with fail
              go_at_call 74
              refine (all_any 4 dgB (fun c => not_ne (and4 c)) R A _ HCL.out (by omega)).mono ?_
              rintro e w' ⟨rfl, n7, rfl⟩
              rw [Q1.out]
              go_wp2_with fail
              go_at_call 74
              refine (all_any 4 dgB (fun c => not_ne (and4 c)) R C _ (HCL2.out _) (by omega)).mono ?_
              rintro e w' ⟨rfl, n7, rfl⟩
              rw [Q3.out]
              go_wp2_with fail
              generalize hW5 : World.drewN _ _ = w5
              have hb5 : Below w3.heap.size w3 w5 := by rw [← hW5]; exact (by first | exact below_drewN _ _ | exact Below.refl _ _ | (repeat (first | exact Below.refl _ _ | apply bdd)))
              obtain ⟨hO5, hR5⟩ := tok_end (v0 := .int .u8 7) (v1 := .string S) (v2 := .int .i64 0) (Nat.le_of_eq HBB.out) (HR3.out.later hb5) (HO3.out.trans (Only.of_below hb5)) HRB.out (fun _ => HPB.out)
              have u0 := cell_later hb5 t0
              have u1 := cell_later hb5 t1
              have u2 := cell_later hb5 t2
              refine bodyPost_ret (v := .tuple #[.agg #[.int .u8 7, .string S, .int .i64 0], .int .i64 0]) (by simp [results, Tryd.results61, go_sem, u0, u1, u2]) rfl ⟨hO5, ?_⟩
              rw [HRES.out]
              exact ⟨by unfold tokV; rw [HS.out.1]; rfl, hR5⟩
        · rw [hc] at e48
          have g1 : ¬ (1 : Int) < (A.size : Int) := by simp at hc2; omega
          have g2 : decide ((1 : Int) < (A.size : Int)) = false := by simpa using g1
          have g3 : decide (1 < A.size) = false := hc2
          clear hc hc2
          cases x with
          | false =>
            have HRES := Lib.hid (show plainR w = .tok 4 w w.length by rw [HPW2.out]; rfl)
            go_wp2_with fail
            go_at_call 74
            refine (all_any 4 dgB (fun c => not_ne (and4 c)) R A _ HCL.out (by omega)).mono ?_
            rintro e w' ⟨rfl, n7, rfl⟩
            rw [Q1.out]
            go_wp2_with fail
            generalize hW5 : World.drewN _ _ = w5
            have hb5 : Below w3.heap.size w3 w5 := by rw [← hW5]; exact (by first | exact below_drewN _ _ | exact Below.refl _ _ | (repeat (first | exact Below.refl _ _ | apply bdd)))
            obtain ⟨hO5, hR5⟩ := tok_end (v0 := .int .u8 4) (v1 := .string S) (v2 := .int .i64 0) (Nat.le_of_eq HBB.out) (HR3.out.later hb5) (HO3.out.trans (Only.of_below hb5)) HRB.out (fun _ => HPB.out)
            have u0 := cell_later hb5 t0
            have u1 := cell_later hb5 t1
            have u2 := cell_later hb5 t2
            refine bodyPost_ret (v := .tuple #[.agg #[.int .u8 4, .string S, .int .i64 0], .int .i64 0]) (by simp [results, Tryd.results61, go_sem, u0, u1, u2]) rfl ⟨hO5, ?_⟩
            rw [HRES.out]
            exact ⟨by unfold tokV; rw [HS.out.1]; rfl, hR5⟩
          | true =>
            cases q3 : allB dgB C.data.toList with
            | false =>
              have HRES := Lib.hid (show plainR w = .err 5 by rw [HPW2.out, q3]; rfl)
              have Q3 := Lib.hid q3
              clear q3
              go_wp2_with fail
              go_at_call 74
              refine (all_any 4 dgB (fun c => not_ne (and4 c)) R A _ HCL.out (by omega)).mono ?_
              rintro e w' ⟨rfl, n7, rfl⟩
              rw [Q1.out]
              go_wp2_with fail
              go_at_call 74
              refine (all_any 4 dgB (fun c => not_ne (and4 c)) R C _ (HCL2.out _) (by omega)).mono ?_
              rintro e w' ⟨rfl, n7, rfl⟩
              rw [Q3.out]
              go_wp2_with fail
              generalize hW5 : World.drewN _ _ = w5
              have hb5 : Below w3.heap.size w3 w5 := by rw [← hW5]; exact (by first | exact below_drewN _ _ | exact Below.refl _ _ | (repeat (first | exact Below.refl _ _ | apply bdd)))
              obtain ⟨hO5, hR5⟩ := tok_end (v0 := .int .u8 0) (v1 := .string ⟨#[]⟩) (v2 := .int .i64 0) (Nat.le_of_eq HBB.out) (HR3.out.later hb5) (HO3.out.trans (Only.of_below hb5)) HRB.out (fun _ => HPB.out)
              have u0 := cell_later hb5 t0
              have u1 := cell_later hb5 t1
              have u2 := cell_later hb5 t2
              refine bodyPost_ret (v := .tuple #[tokV 0 [] 0, .int .i64 5]) (by simp [results, Tryd.results61, go_sem, u0, u1, u2, tokV]) rfl ⟨hO5, ?_⟩
              rw [HRES.out]
              rfl
            | true =>
              have HRES := Lib.hid (show plainR w = .tok 7 w w.length by rw [HPW2.out, q3]; rfl)
              have Q3 := Lib.hid q3
              clear q3
              go_wp2_with fail
              go_at_call 74
              refine (all_any 4 dgB (fun c => not_ne (and4 c)) R A _ HCL.out (by omega)).mono ?_
              rintro e w' ⟨rfl, n7, rfl⟩
              rw [Q1.out]
              go_wp2_with fail
              go_at_call 74
              refine (all_any 4 dgB (fun c => not_ne (and4 c)) R C _ (HCL2.out _) (by omega)).mono ?_
              rintro e w' ⟨rfl, n7, rfl⟩
              rw [Q3.out]
              go_wp2_with fail
              generalize hW5 : World.drewN _ _ = w5
              have hb5 : Below w3.heap.size w3 w5 := by rw [← hW5]; exact (by first | exact below_drewN _ _ | exact Below.refl _ _ | (repeat (first | exact Below.refl _ _ | apply bdd)))
              obtain ⟨hO5, hR5⟩ := tok_end (v0 := .int .u8 7) (v1 := .string S) (v2 := .int .i64 0) (Nat.le_of_eq HBB.out) (HR3.out.later hb5) (HO3.out.trans (Only.of_below hb5)) HRB.out (fun _ => HPB.out)
              have u0 := cell_later hb5 t0
              have u1 := cell_later hb5 t1
              have u2 := cell_later hb5 t2
              refine bodyPost_ret (v := .tuple #[.agg #[.int .u8 7, .string S, .int .i64 0], .int .i64 0]) (by simp [results, Tryd.results61, go_sem, u0, u1, u2]) rfl ⟨hO5, ?_⟩
              rw [HRES.out]
              exact ⟨by unfold tokV; rw [HS.out.1]; rfl, hR5⟩
end Go.Proofs.YtlifankiljbdjaaDoor
namespace Go.Proofs.YtlifankiljbdjaaDoor
open Go Go.RowKit

theorem str_empty {S : ByteArray} {w : List UInt8} (h : S.data.toList = w) {b : Bool} (hb : w.isEmpty = b) : S.toList.isEmpty = b ∧ (S.toList == []) = b := by
  rw [toList_data, h]
  refine ⟨hb, ?_⟩
  cases w <;> simpa using hb
set_option maxRecDepth 100000 in
set_option maxHeartbeats 1600000 in
theorem keyword_any (R : Nat) (p : Option Addr) (c : Nat) (bs : List UInt8) (a0 : Nat) (W : World) (h : RdAt W R p c bs a0) (hlt0 : a0 < bs.length) :
    Calls Tryd.prog 59 #[.pointer (some ⟨R, 0, none⟩)] W (TokRes R p c bs a0 W (keyR (wordL (bs.drop (a0 + 1))))) := by
  have hle := word_le (bs.drop (a0 + 1))
  rw [List.length_drop] at hle
  have H := Lib.hid h
  have hn := h.hn
  have hc1 := h.ca
  have hf1 := h.fz
  have HPB := Lib.hid (h.bi.lt (by omega))
  have HRB := Lib.hid (show R ≠ W.heap.size by have := h.hl; omega)
  have hR := h.hl
  clear h
  go_enter Tryd.func59, Tryd.ntmps59
  go_wp2_with fail
  generalize hW1 : (W.setCell _ _).alloc _ = W1
  obtain ⟨P, hP⟩ : ∃ P, P = a0 + 1 := ⟨_, rfl⟩
  have hPi : (a0 : Int) + 1 = (P : Int) := by omega
  rw [hPi] at hW1
  have h1 := H.out.set (v := (P : Int)) (a' := P) rfl (by omega)
  have hOW := only_set W R 1 (.int .i64 (P : Int))
  have hB1 := below1 (W.setCell ⟨R, 1, none⟩ (.int .i64 (P : Int))) (.cells #[.int .u8 0, .string ByteArray.empty, .int .i64 0] 33)
  have hTB := tokB_new (W.setCell ⟨R, 1, none⟩ (.int .i64 (P : Int)))
  rw [World.size_setCell] at hTB
  have HI0 := Lib.hid (show RdAt W1 R p c bs P ∧ Only (· = R) W W1 ∧ TokB W1 W.heap.size by
    rw [← hW1]
    exact ⟨h1.later hB1, hOW.trans (Only.of_below hB1), hTB⟩)
  have hw := word_any R p c bs P _ HI0.out.1
  rw [hP] at hw
  rw [← hP] at hle
  have HP := Lib.hid hP
  generalize hwd : wordL (bs.drop (a0 + 1)) = w at *
  rw [hP, hwd] at hle
  have HW := Lib.hid hw
  clear hP hPi hW1 h1 hOW hB1 hTB hc1 hf1 H hw hwd hR
  generalize hB : W.heap.size = B at *
  have HBB := Lib.hid hB
  clear hB
  refine HW.out.mono ?_
  rintro e w3 ⟨rfl, hr2, ho2⟩
  have HR3 := Lib.hid (show RdAt w3 R p c bs (a0 + (w.length + 1)) by rw [show a0 + (w.length + 1) = a0 + 1 + w.length by omega]; exact hr2)
  have HO3 := Lib.hid (HI0.out.2.1.trans ho2)
  have hT3 := HI0.out.2.2.only ho2 (fun e => HRB.out e.symm)
  have HT3 := Lib.hid hT3
  obtain ⟨v0, t0⟩ := hT3.c0
  obtain ⟨v1, t1⟩ := hT3.c1
  obtain ⟨v2, t2⟩ := hT3.c2
  have tf0 := hT3.fz 0
  have tf1 := hT3.fz 1
  have tf2 := hT3.fz 2
  obtain ⟨S, hS, hS1, hS2⟩ := str_of w
  rw [hS]
  rw [← hS2] at hle
  have HS := Lib.hid (And.intro hS (And.intro hS1 hS2))
  clear hr2 ho2 HW HI0 hT3 hS hS1 hS2
  cases q : w.isEmpty with
  | true =>
    obtain ⟨e1, e2⟩ := str_empty HS.out.2.1 q
    have HRES := Lib.hid (show keyR w = .err 30 by unfold keyR; rw [q]; rfl)
    clear q
    go_wp2_with fail
    obtain ⟨hO5, hR5⟩ := tok_end (v0 := .int .u8 0) (v1 := .string ⟨#[]⟩) (v2 := .int .i64 0) (Nat.le_of_eq HBB.out) HR3.out HO3.out HRB.out (fun _ => HPB.out)
    refine bodyPost_ret (v := .tuple #[tokV 0 [] 0, .int .i64 30]) (by simp [results, Tryd.results59, go_sem, t0, t1, t2, tokV]) rfl ⟨hO5, ?_⟩
    rw [HRES.out]
    rfl
  | false =>
    obtain ⟨e1, e2⟩ := str_empty HS.out.2.1 q
    have HRES := Lib.hid (show keyR w = .tok 6 w (w.length + 1) by unfold keyR; rw [q]; rfl)
    clear q
    go_wp2_with fail
    obtain ⟨hO5, hR5⟩ := tok_end (v0 := .int .u8 6) (v1 := .string S) (v2 := .int .i64 0) (Nat.le_of_eq HBB.out) HR3.out HO3.out HRB.out (fun _ => HPB.out)
    refine bodyPost_ret (v := .tuple #[.agg #[.int .u8 6, .string S, .int .i64 0], .int .i64 0]) (by simp [results, Tryd.results59, go_sem, t0, t1, t2]) rfl ⟨hO5, ?_⟩
    rw [HRES.out]
    exact ⟨by unfold tokV; rw [HS.out.1]; rfl, hR5⟩
theorem hash_app {S : ByteArray} {w : List UInt8} (h : S.data.toList = w) : ((⟨#[35]⟩ : ByteArray) ++ S) = ⟨(35 :: w).toArray⟩ := by
  apply ByteArray.ext
  apply Array.toList_inj.1
  rw [← h]
  simp
theorem trim_any (D : ByteArray) (hD : D.size ≤ 1048576) (w : World) : Calls Tryd.prog 75 #[.string D, .string ⟨#[48, 49]⟩] w fun e w' => ∃ T : ByteArray, e = .returned (.string T) ∧ T.data.toList = Lib.trimS D.data.toList [48, 49] ∧ Below w.heap.size w w' := by
  have h : Calls Tryd.prog 75 #[.string D, .string ⟨#[48, 49]⟩] w fun e w' => e = .returned (.string ⟨(Lib.trimS D.data.toList [48, 49]).toArray⟩) ∧ Below w.heap.size w w' :=
    Any.strings_Trim_laid Tryd.lays160 (by kernel_rfl) D ⟨#[48, 49]⟩ w (by omega) (by decide) (ascii_of_all (by decide))
  refine h.mono ?_
  rintro e w' ⟨rfl, hb⟩
  exact ⟨_, rfl, by simp, hb⟩
theorem dw_nil (p : UInt8 → Bool) : ∀ l : List UInt8, l.dropWhile p = [] ↔ ∀ x ∈ l, p x = true
  | [] => by simp
  | a :: l => by
    cases h : p a with
    | true => simp [List.dropWhile_cons, h, dw_nil p l]
    | false => simp [List.dropWhile_cons, h]
theorem trim_all (l : List UInt8) : (Lib.trimS l [48, 49]).isEmpty = l.all (fun c => c == 48 || c == 49) := by
  have hf : ∀ x : UInt8, ([48, 49] : List UInt8).contains x = (x == 48 || x == 49) := fun x => by simp only [List.contains_cons, List.contains_nil, Bool.or_false]
  unfold Lib.trimS Lib.trimLeftS Lib.trimRightS
  cases h : l.all (fun c => c == 48 || c == 49) with
  | true =>
    have h1 : l.reverse.dropWhile (fun x => ([48, 49] : List UInt8).contains x) = [] := by
      rw [dw_nil]
      intro x hx
      rw [hf]
      exact List.all_eq_true.1 h x (by simpa using hx)
    rw [h1]; rfl
  | false =>
    obtain ⟨x, hx, hn⟩ := List.all_eq_false.1 h
    rw [Bool.eq_false_iff]
    intro he
    have h0 : (l.reverse.dropWhile (fun x => ([48, 49] : List UInt8).contains x)).reverse.dropWhile (fun x => ([48, 49] : List UInt8).contains x) = [] := by simpa using he
    have h1 : ∀ y ∈ l.reverse.dropWhile (fun x => ([48, 49] : List UInt8).contains x), ([48, 49] : List UInt8).contains y = true := fun y hy => by
      have := ((dw_nil _ _).1 h0) y (by simpa using hy)
      exact this
    have h2 : ∀ y ∈ l.reverse, ([48, 49] : List UInt8).contains y = true := fun y hy => by
      rw [← List.takeWhile_append_dropWhile (p := fun x => ([48, 49] : List UInt8).contains x) (l := l.reverse)] at hy
      rcases List.mem_append.1 hy with h | h
      · exact List.all_eq_true.1 (List.all_takeWhile (p := fun x => ([48, 49] : List UInt8).contains x)) y h
      · exact h1 y h
    have := h2 x (by simpa using hx)
    rw [hf] at this
    exact hn this
set_option maxRecDepth 100000 in
set_option maxHeartbeats 3200000 in
theorem based_any (R : Nat) (p : Option Addr) (c : Nat) (bs : List UInt8) (a0 : Nat) (W : World) (h : RdAt W R p c bs a0) (hlt0 : a0 < bs.length) :
    Calls Tryd.prog 60 #[.pointer (some ⟨R, 0, none⟩)] W (TokRes R p c bs a0 W (basedR (wordL (bs.drop (a0 + 1))))) := by
  have hle := word_le (bs.drop (a0 + 1))
  rw [List.length_drop] at hle
  have H := Lib.hid h
  have hn := h.hn
  have hc1 := h.ca
  have hf1 := h.fz
  have HPB := Lib.hid (h.bi.lt (by omega))
  have HRB := Lib.hid (show R ≠ W.heap.size by have := h.hl; omega)
  have hR := h.hl
  clear h
  go_enter Tryd.func60, Tryd.ntmps60
  go_wp2_with fail
  generalize hW1 : (W.setCell _ _).alloc _ = W1
  obtain ⟨P, hP⟩ : ∃ P, P = a0 + 1 := ⟨_, rfl⟩
  have hPi : (a0 : Int) + 1 = (P : Int) := by omega
  rw [hPi] at hW1
  have h1 := H.out.set (v := (P : Int)) (a' := P) rfl (by omega)
  have hOW := only_set W R 1 (.int .i64 (P : Int))
  have hB1 := below1 (W.setCell ⟨R, 1, none⟩ (.int .i64 (P : Int))) (.cells #[.int .u8 0, .string ByteArray.empty, .int .i64 0] 33)
  have hTB := tokB_new (W.setCell ⟨R, 1, none⟩ (.int .i64 (P : Int)))
  rw [World.size_setCell] at hTB
  have HI0 := Lib.hid (show RdAt W1 R p c bs P ∧ Only (· = R) W W1 ∧ TokB W1 W.heap.size by
    rw [← hW1]
    exact ⟨h1.later hB1, hOW.trans (Only.of_below hB1), hTB⟩)
  have hw := word_any R p c bs P _ HI0.out.1
  rw [hP] at hw
  rw [← hP] at hle
  have HP := Lib.hid hP
  generalize hwd : wordL (bs.drop (a0 + 1)) = w at *
  rw [hP, hwd] at hle
  have HW := Lib.hid hw
  clear hP hPi hW1 h1 hOW hB1 hTB hc1 hf1 H hw hwd hR
  generalize hB : W.heap.size = B at *
  have HBB := Lib.hid hB
  clear hB
  refine HW.out.mono ?_
  rintro e w3 ⟨rfl, hr2, ho2⟩
  have HR3 := Lib.hid (show RdAt w3 R p c bs (a0 + (w.length + 1)) by rw [show a0 + (w.length + 1) = a0 + 1 + w.length by omega]; exact hr2)
  have HO3 := Lib.hid (HI0.out.2.1.trans ho2)
  have hT3 := HI0.out.2.2.only ho2 (fun e => HRB.out e.symm)
  have HT3 := Lib.hid hT3
  obtain ⟨v0, t0⟩ := hT3.c0
  obtain ⟨v1, t1⟩ := hT3.c1
  obtain ⟨v2, t2⟩ := hT3.c2
  have tf0 := hT3.fz 0
  have tf1 := hT3.fz 1
  have tf2 := hT3.fz 2
  obtain ⟨S, hS, hS1, hS2⟩ := str_of w
  rw [hS]
  rw [← hS2] at hle
  have HS := Lib.hid (And.intro hS (And.intro hS1 hS2))
  clear hr2 ho2 HW HI0 hT3 hS hS1 hS2
  cases q : w.isEmpty with
  | true =>
    obtain ⟨e1, e2⟩ := str_empty HS.out.2.1 q
    have HRES := Lib.hid (show basedR w = .err 30 by unfold basedR; rw [q]; rfl)
    clear q
    go_wp2_with fail
    obtain ⟨hO5, hR5⟩ := tok_end (v0 := .int .u8 0) (v1 := .string ⟨#[]⟩) (v2 := .int .i64 0) (Nat.le_of_eq HBB.out) HR3.out HO3.out HRB.out (fun _ => HPB.out)
    refine bodyPost_ret (v := .tuple #[tokV 0 [] 0, .int .i64 30]) (by simp [results, Tryd.results60, go_sem, t0, t1, t2, tokV]) rfl ⟨hO5, ?_⟩
    rw [HRES.out]
    rfl
  | false =>
    obtain ⟨e1, e2⟩ := str_empty HS.out.2.1 q
    have hpos : 0 < S.size := by
      rw [HS.out.2.2]; cases w with
      | nil => cases q
      | cons => simp
    have h1le : 1 ≤ S.size := hpos
    have i1 : (1 : Int) ≤ (S.size : Int) := by omega
    have h0 : S[0] = w.getD 0 0 := by rw [← HS.out.2.1]; exact (str_get hpos).symm
    have hD : (S.extract 1 S.size).data.toList = w.drop 1 := by rw [ext_drop, HS.out.2.1]
    have hDs : (S.extract 1 S.size).size ≤ 1048576 := by
      have : (S.extract 1 S.size).data.toList.length = (S.extract 1 S.size).size := by simp
      rw [← this, hD, List.length_drop, ← HS.out.2.2]; omega
    have e120 : ((S[0].toNat : Int) == 120) = (S[0] == 120) := eq_u8 120 (by decide +kernel) _
    have e98 : ((S[0].toNat : Int) == 98) = (S[0] == 98) := eq_u8 98 (by decide +kernel) _
    obtain ⟨hz, hz0⟩ := byte_gt (x := S[0])
    have HBR := Lib.hid (show basedR w = if (S[0] == 120 && allB hxB (w.drop 1)) || (S[0] == 98 && allB (fun c => c == 48 || c == 49) (w.drop 1)) then .tok 7 (35 :: w) (w.length + 1) else .err 5 by
      unfold basedR; rw [q, h0]; rfl)
    generalize hDD : S.extract 1 S.size = D at *
    have HDD := Lib.hid hDD
    have HD := Lib.hid hD
    have HCL := Lib.hid HR3.out.cl
    clear q h0 hD hDD
    cases q1 : (S[0] == 120) with
    | true =>
      have hx98 : (S[0] == 98) = false := by rw [eq_of_beq q1]; decide
      rw [q1] at e120
      rw [hx98] at e98
      cases q2 : allB hxB (w.drop 1) with
      | true =>
        have HRES := Lib.hid (show basedR w = .tok 7 (35 :: w) (w.length + 1) by rw [HBR.out, q1, q2]; rfl)
        have Q2 := Lib.hid q2
        clear q1 q2 hx98
        go_wp2_with fail
        rw [HDD.out]
        refine (all_any 8 hxB (fun c => not_ne (and8 c)) R D _ HCL.out (by omega)).mono ?_
        rintro e w' ⟨rfl, n7, rfl⟩
        rw [HD.out, Q2.out]
        go_wp2_with fail
        generalize hW5 : World.drewN _ _ = w5
        have hb5 : Below w3.heap.size w3 w5 := by rw [← hW5]; exact (by first | exact below_drewN _ _ | exact Below.refl _ _ | (repeat (first | exact Below.refl _ _ | apply bdd)))
        obtain ⟨hO5, hR5⟩ := tok_end (v0 := .int .u8 7) (v1 := .string (⟨#[35]⟩ ++ S)) (v2 := .int .i64 0) (Nat.le_of_eq HBB.out) (HR3.out.later hb5) (HO3.out.trans (Only.of_below hb5)) HRB.out (fun _ => HPB.out)
        have u0 := cell_later hb5 t0
        have u1 := cell_later hb5 t1
        have u2 := cell_later hb5 t2
        refine bodyPost_ret (v := .tuple #[.agg #[.int .u8 7, .string (⟨#[35]⟩ ++ S), .int .i64 0], .int .i64 0]) (by simp [results, Tryd.results60, go_sem, u0, u1, u2]) rfl ⟨hO5, ?_⟩
        rw [HRES.out]
        exact ⟨by unfold tokV; rw [hash_app HS.out.2.1]; rfl, hR5⟩
      | false =>
        have HRES := Lib.hid (show basedR w = .err 5 by rw [HBR.out, q1, q2, hx98]; rfl)
        have Q2 := Lib.hid q2
        clear q1 q2 hx98
        go_wp2_with fail
        rw [HDD.out]
        refine (all_any 8 hxB (fun c => not_ne (and8 c)) R D _ HCL.out (by omega)).mono ?_
        rintro e w' ⟨rfl, n7, rfl⟩
        rw [HD.out, Q2.out]
        go_wp2_with fail
        generalize hW5 : World.drewN _ _ = w5
        have hb5 : Below w3.heap.size w3 w5 := by rw [← hW5]; exact (by first | exact below_drewN _ _ | exact Below.refl _ _ | (repeat (first | exact Below.refl _ _ | apply bdd)))
        obtain ⟨hO5, hR5⟩ := tok_end (v0 := .int .u8 0) (v1 := .string ⟨#[]⟩) (v2 := .int .i64 0) (Nat.le_of_eq HBB.out) (HR3.out.later hb5) (HO3.out.trans (Only.of_below hb5)) HRB.out (fun _ => HPB.out)
        have u0 := cell_later hb5 t0
        have u1 := cell_later hb5 t1
        have u2 := cell_later hb5 t2
        refine bodyPost_ret (v := .tuple #[tokV 0 [] 0, .int .i64 5]) (by simp [results, Tryd.results60, go_sem, u0, u1, u2, tokV]) rfl ⟨hO5, ?_⟩
        rw [HRES.out]
        rfl
    | false =>
      rw [q1] at e120
      cases q3 : (S[0] == 98) with
      | false =>
        rw [q3] at e98
        have HRES := Lib.hid (show basedR w = .err 5 by rw [HBR.out, q1, q3]; rfl)
        clear q1 q3
        go_wp2_with fail
        obtain ⟨hO5, hR5⟩ := tok_end (v0 := .int .u8 0) (v1 := .string ⟨#[]⟩) (v2 := .int .i64 0) (Nat.le_of_eq HBB.out) HR3.out HO3.out HRB.out (fun _ => HPB.out)
        refine bodyPost_ret (v := .tuple #[tokV 0 [] 0, .int .i64 5]) (by simp [results, Tryd.results60, go_sem, t0, t1, t2, tokV]) rfl ⟨hO5, ?_⟩
        rw [HRES.out]
        rfl
      | true =>
        rw [q3] at e98
        cases q4 : (w.drop 1).isEmpty with
        | true =>
          have HRES := Lib.hid (show basedR w = .err 5 by rw [HBR.out, q1, q3]; unfold allB; rw [q4]; simp)
          obtain ⟨g1, g2⟩ := str_empty HD.out q4
          have hE : (S.extract 1 S.size).toList.isEmpty = true := by rw [HDD.out]; exact g1
          clear q1 q3 q4
          go_wp2_with fail
          obtain ⟨hO5, hR5⟩ := tok_end (v0 := .int .u8 0) (v1 := .string ⟨#[]⟩) (v2 := .int .i64 0) (Nat.le_of_eq HBB.out) HR3.out HO3.out HRB.out (fun _ => HPB.out)
          refine bodyPost_ret (v := .tuple #[tokV 0 [] 0, .int .i64 5]) (by simp [results, Tryd.results60, go_sem, t0, t1, t2, tokV]) rfl ⟨hO5, ?_⟩
          rw [HRES.out]
          rfl
        | false =>
          obtain ⟨g1, g2⟩ := str_empty HD.out q4
          have hE : (S.extract 1 S.size).toList.isEmpty = false := by rw [HDD.out]; exact g1
          have HT := fun w' => trim_any D hDs w'
          have HTR := Lib.hid HT
          clear HT
          cases q5 : (w.drop 1).all (fun c => c == 48 || c == 49) with
          | true =>
            have HRES := Lib.hid (show basedR w = .tok 7 (35 :: w) (w.length + 1) by rw [HBR.out, q1, q3]; unfold allB; rw [q4, q5]; rfl)
            have HQ := Lib.hid (show (Lib.trimS D.data.toList [48, 49]).isEmpty = true by rw [trim_all, HD.out]; exact q5)
            clear q1 q3 q4 q5
            go_wp2_with fail
            rw [HDD.out]
            refine (HTR.out _).mono ?_
            rintro e w5 ⟨T, rfl, hT, hb5⟩
            obtain ⟨g3, g4⟩ := str_empty hT HQ.out
            have hb5 : Below w3.heap.size w3 w5 := hb5
            clear hT
            have hT5 := HT3.out.later hb5
            obtain ⟨x0, u0⟩ := hT5.c0
            obtain ⟨x1, u1⟩ := hT5.c1
            obtain ⟨x2, u2⟩ := hT5.c2
            have uf0 := hT5.fz 0
            have uf1 := hT5.fz 1
            have uf2 := hT5.fz 2
            have HB5 := Lib.hid hb5
            clear hb5 hT5
            go_wp2_with fail
            have hb5 := HB5.out
            obtain ⟨hO5, hR5⟩ := tok_end (v0 := .int .u8 7) (v1 := .string (⟨#[35]⟩ ++ S)) (v2 := .int .i64 0) (Nat.le_of_eq HBB.out) (HR3.out.later hb5) (HO3.out.trans (Only.of_below hb5)) HRB.out (fun _ => HPB.out)
            refine bodyPost_ret (v := .tuple #[.agg #[.int .u8 7, .string (⟨#[35]⟩ ++ S), .int .i64 0], .int .i64 0]) (by simp [results, Tryd.results60, go_sem, u0, u1, u2]) rfl ⟨hO5, ?_⟩
            rw [HRES.out]
            exact ⟨by unfold tokV; rw [hash_app HS.out.2.1]; rfl, hR5⟩
          | false =>
            have HRES := Lib.hid (show basedR w = .err 5 by rw [HBR.out, q1, q3]; unfold allB; rw [q4, q5]; rfl)
            have HQ := Lib.hid (show (Lib.trimS D.data.toList [48, 49]).isEmpty = false by rw [trim_all, HD.out]; exact q5)
            clear q1 q3 q4 q5
            go_wp2_with fail
            rw [HDD.out]
            refine (HTR.out _).mono ?_
            rintro e w5 ⟨T, rfl, hT, hb5⟩
            obtain ⟨g3, g4⟩ := str_empty hT HQ.out
            have hb5 : Below w3.heap.size w3 w5 := hb5
            clear hT
            have hT5 := HT3.out.later hb5
            obtain ⟨x0, u0⟩ := hT5.c0
            obtain ⟨x1, u1⟩ := hT5.c1
            obtain ⟨x2, u2⟩ := hT5.c2
            have uf0 := hT5.fz 0
            have uf1 := hT5.fz 1
            have uf2 := hT5.fz 2
            have HB5 := Lib.hid hb5
            clear hb5 hT5
            go_wp2_with fail
            have hb5 := HB5.out
            obtain ⟨hO5, hR5⟩ := tok_end (v0 := .int .u8 0) (v1 := .string ⟨#[]⟩) (v2 := .int .i64 0) (Nat.le_of_eq HBB.out) (HR3.out.later hb5) (HO3.out.trans (Only.of_below hb5)) HRB.out (fun _ => HPB.out)
            refine bodyPost_ret (v := .tuple #[tokV 0 [] 0, .int .i64 5]) (by simp [results, Tryd.results60, go_sem, u0, u1, u2, tokV]) rfl ⟨hO5, ?_⟩
            rw [HRES.out]
            rfl
end Go.Proofs.YtlifankiljbdjaaDoor
namespace Go.Proofs.YtlifankiljbdjaaDoor
open Go Go.RowKit

set_option maxRecDepth 100000 in
set_option maxHeartbeats 3200000 in
theorem token_any (R : Nat) (p : Option Addr) (c : Nat) (bs : List UInt8) (a0 : Nat) (W : World) (h : RdAt W R p c bs a0) (hlt0 : a0 < bs.length) :
    Calls Tryd.prog 36 #[.pointer (some ⟨R, 0, none⟩)] W (TokRes R p c bs a0 W (oneR (bs.drop a0))) := by
  have HDR := Lib.hid (drop_at hlt0)
  have hn := h.hn
  have HPB := Lib.hid (h.bi.lt (by omega))
  have HRB := Lib.hid (show R ≠ W.heap.size by have := h.hl; omega)
  have hB1 := below1 W (.cells #[.int .u8 0, .string ByteArray.empty, .int .i64 0] 33)
  have HR1 := Lib.hid (h.later hB1)
  have HT1 := Lib.hid (tokB_new W)
  have HB1 := Lib.hid hB1
  have hsy := fun hs => plain_any R p c bs a0 (W.alloc (.cells #[.int .u8 0, .string ByteArray.empty, .int .i64 0] 33)) HR1.out hlt0 hs
  clear h hB1 hsy
  go_enter Tryd.func36, Tryd.ntmps36
  go_wp2_with fail
  generalize hW1 : W.alloc _ = W1
  rw [show (W.alloc (.cells #[.int .u8 0, .string ByteArray.empty, .int .i64 0] 33)) = W1 from hW1] at HR1 HT1 HB1
  generalize hB : W.heap.size = B at *
  have HBB := Lib.hid hB
  clear hW1 hB
  have c0 := HR1.out.cb
  have c1 := HR1.out.ca
  obtain ⟨n, hnl⟩ : ∃ n, n = bs.length := ⟨_, rfl⟩
  have HL := Lib.hid hnl
  rw [← hnl] at c0
  clear hnl
  have i1 : (a0 : Int) < (n : Int) := by have := HL.out; omega
  have i0 : (0 : Int) ≤ (a0 : Int) := by omega
  have i2 : (a0 : Int) ≤ 1048576 := by omega
  obtain ⟨b, off, hpe, cb⟩ := HR1.out.bi a0 hlt0
  rw [hpe] at c0
  have HPE := Lib.hid hpe
  have HLT := Lib.hid hlt0
  clear hpe
  obtain ⟨hz, hz0⟩ := byte_gt (x := bs[a0])
  have e40 : ((bs[a0].toNat : Int) == 40) = (bs[a0] == 40) := eq_u8 40 (by decide +kernel) _
  have e41 : ((bs[a0].toNat : Int) == 41) = (bs[a0] == 41) := eq_u8 41 (by decide +kernel) _
  have e124 : ((bs[a0].toNat : Int) == 124) = (bs[a0] == 124) := eq_u8 124 (by decide +kernel) _
  have e34 : ((bs[a0].toNat : Int) == 34) = (bs[a0] == 34) := eq_u8 34 (by decide +kernel) _
  have e58 : ((bs[a0].toNat : Int) == 58) = (bs[a0] == 58) := eq_u8 58 (by decide +kernel) _
  have e35 : ((bs[a0].toNat : Int) == 35) = (bs[a0] == 35) := eq_u8 35 (by decide +kernel) _
  have an := and2 bs[a0]
  have ccl0 := HR1.out.cl bs[a0]
  generalize hx : bs[a0] = x at *
  generalize x.toNat = y at *
  generalize clB x = z at *
  have HX := Lib.hid hx
  clear hx
  go_quiet (fail)
  generalize hW2 : W1.drewN _ = W2
  have HR2 := Lib.hid (show RdAt W2 R p c bs a0 by rw [← hW2]; exact HR1.out.later (by first | exact below_drewN _ _ | exact Below.refl _ _ | (repeat (first | exact Below.refl _ _ | apply bdd))))
  have HO2 := Lib.hid (show Only (· = R) W W2 by rw [← hW2]; exact (Only.of_below (T := (· = R)) (by rw [HBB.out]; exact HB1.out)).trans (Only.of_below (by first | exact below_drewN _ _ | exact Below.refl _ _ | (repeat (first | exact Below.refl _ _ | apply bdd)))))
  have HT2 := Lib.hid (show TokB W2 B by rw [← hW2]; exact HT1.out.later (by first | exact below_drewN _ _ | exact Below.refl _ _ | (repeat (first | exact Below.refl _ _ | apply bdd))))
  have ccl : W2.cell? ⟨R, 2 + y, none⟩ = some (.int .u8 (z : Int)) := by rw [← hW2]; simpa using ccl0
  have d1 := HR2.out.ca
  have df := HR2.out.fz
  clear hW2 HR1 HT1 HB1 c0 c1 cb hlt0 ccl0
  cases q1 : (x == 40) with
  | true =>
    rw [q1] at e40
    have HONE := Lib.hid (show oneR (bs.drop a0) = .tok 1 [40] 1 by rw [HDR.out]; simp only [oneR, q1]; simp)
    clear q1
    have hst : ∀ v : Int, v = (a0 : Int) + 1 → RdAt (W2.setCell ⟨R, 1, none⟩ (.int .i64 v)) R p c bs (a0 + 1) ∧ Only (· = R) W (W2.setCell ⟨R, 1, none⟩ (.int .i64 v)) ∧ TokB (W2.setCell ⟨R, 1, none⟩ (.int .i64 v)) B := fun v hv => ⟨HR2.out.set (by omega) (by have := HLT.out; omega), HO2.out.trans (only_set _ _ _ _), HT2.out.only (only_set _ _ _ _) (fun e => HRB.out e.symm)⟩
    obtain ⟨hr3, ho3, hT3⟩ := hst ((a0 : Int) + 1) rfl
    have HR3 := Lib.hid hr3
    have HO3 := Lib.hid ho3
    obtain ⟨v0, t0⟩ := hT3.c0
    obtain ⟨v1, t1⟩ := hT3.c1
    obtain ⟨v2, t2⟩ := hT3.c2
    have tf0 := hT3.fz 0
    have tf1 := hT3.fz 1
    have tf2 := hT3.fz 2
    clear hT3
    have hne1 : ¬ R = B := HRB.out
    have hne2 : ¬ B = R := fun e => HRB.out e.symm
    obtain ⟨x0, u0⟩ := HT2.out.c0
    obtain ⟨x1, u1⟩ := HT2.out.c1
    obtain ⟨x2, u2⟩ := HT2.out.c2
    have uf0 := HT2.out.fz 0
    have uf1 := HT2.out.fz 1
    have uf2 := HT2.out.fz 2
    clear hst hr3 ho3
    go_wp2_with fail
    obtain ⟨hO5, hR5⟩ := tok_end (v0 := .int .u8 1) (v1 := .string ⟨#[40]⟩) (v2 := .int .i64 0) (Nat.le_of_eq HBB.out) HR3.out HO3.out HRB.out (fun _ => HPB.out)
    refine bodyPost_ret (v := .tuple #[.agg #[.int .u8 1, .string ⟨#[40]⟩, .int .i64 0], .int .i64 0]) (by simp [results, Tryd.results36, go_sem, t0, t1, t2]) rfl ⟨hO5, ?_⟩
    rw [HONE.out]
    exact ⟨rfl, hR5⟩
  | false =>
    rw [q1] at e40
    cases q2 : (x == 41) with
    | true =>
      rw [q2] at e41
      have HONE := Lib.hid (show oneR (bs.drop a0) = .tok 2 [41] 1 by rw [HDR.out]; simp only [oneR, q1, q2]; simp)
      clear q1 q2
      have hst : ∀ v : Int, v = (a0 : Int) + 1 → RdAt (W2.setCell ⟨R, 1, none⟩ (.int .i64 v)) R p c bs (a0 + 1) ∧ Only (· = R) W (W2.setCell ⟨R, 1, none⟩ (.int .i64 v)) ∧ TokB (W2.setCell ⟨R, 1, none⟩ (.int .i64 v)) B := fun v hv => ⟨HR2.out.set (by omega) (by have := HLT.out; omega), HO2.out.trans (only_set _ _ _ _), HT2.out.only (only_set _ _ _ _) (fun e => HRB.out e.symm)⟩
      obtain ⟨hr3, ho3, hT3⟩ := hst ((a0 : Int) + 1) rfl
      have HR3 := Lib.hid hr3
      have HO3 := Lib.hid ho3
      obtain ⟨v0, t0⟩ := hT3.c0
      obtain ⟨v1, t1⟩ := hT3.c1
      obtain ⟨v2, t2⟩ := hT3.c2
      have tf0 := hT3.fz 0
      have tf1 := hT3.fz 1
      have tf2 := hT3.fz 2
      clear hT3
      have hne1 : ¬ R = B := HRB.out
      have hne2 : ¬ B = R := fun e => HRB.out e.symm
      obtain ⟨x0, u0⟩ := HT2.out.c0
      obtain ⟨x1, u1⟩ := HT2.out.c1
      obtain ⟨x2, u2⟩ := HT2.out.c2
      have uf0 := HT2.out.fz 0
      have uf1 := HT2.out.fz 1
      have uf2 := HT2.out.fz 2
      clear hst hr3 ho3
      go_wp2_with fail
      obtain ⟨hO5, hR5⟩ := tok_end (v0 := .int .u8 2) (v1 := .string ⟨#[41]⟩) (v2 := .int .i64 0) (Nat.le_of_eq HBB.out) HR3.out HO3.out HRB.out (fun _ => HPB.out)
      refine bodyPost_ret (v := .tuple #[.agg #[.int .u8 2, .string ⟨#[41]⟩, .int .i64 0], .int .i64 0]) (by simp [results, Tryd.results36, go_sem, t0, t1, t2]) rfl ⟨hO5, ?_⟩
      rw [HONE.out]
      exact ⟨rfl, hR5⟩
    | false =>
      rw [q2] at e41
      cases q3 : (x == 124) with
      | true =>
        rw [q3] at e124
        have hone := (show oneR (bs.drop a0) = quo [] (bs.drop (a0 + 1)) by rw [HDR.out]; simp only [oneR, q1, q2, q3]; simp)
        have hcall := quoted_any R p c bs a0 W2 HR2.out HLT.out
        clear q1 q2 q3
        generalize quo [] (bs.drop (a0 + 1)) = Q at *
        have HONE := Lib.hid hone
        have HC := Lib.hid hcall
        clear hone hcall
        go_wp2_with fail
        refine (HC.out).mono ?_
        rintro e w3 ⟨ho, hres⟩
        have HO3 := Lib.hid (HO2.out.trans ho)
        have hT3 := HT2.out.only ho (fun e => HRB.out e.symm)
        obtain ⟨v0, t0⟩ := hT3.c0
        obtain ⟨v1, t1⟩ := hT3.c1
        obtain ⟨v2, t2⟩ := hT3.c2
        have tf0 := hT3.fz 0
        have tf1 := hT3.fz 1
        have tf2 := hT3.fz 2
        clear hT3
        clear ho
        match Q, HONE, hres with
        | .tok k t n, HONE, hres =>
          obtain ⟨rfl, hr⟩ := hres
          have HR3 := Lib.hid hr
          clear hr
          unfold tokV
          go_wp2_with fail
          obtain ⟨hO5, hR5⟩ := tok_end (v0 := .int .u8 (k : Int)) (v1 := .string ⟨t.toArray⟩) (v2 := .int .i64 0) (Nat.le_of_eq HBB.out) HR3.out HO3.out HRB.out (fun _ => HPB.out)
          refine bodyPost_ret (v := .tuple #[.agg #[.int .u8 (k : Int), .string ⟨t.toArray⟩, .int .i64 0], .int .i64 0]) (by simp [results, Tryd.results36, go_sem, t0, t1, t2]) rfl ⟨hO5, ?_⟩
          rw [HONE.out]
          exact ⟨rfl, hR5⟩
        | .err er, HONE, hres =>
          subst hres
          unfold tokV
          go_wp2_with fail
          refine bodyPost_ret (v := .tuple #[tokV 0 [] 0, .int .i64 (er : Int)]) (by simp [results, Tryd.results36, go_sem, t0, t1, t2, tokV]) rfl ⟨?_, ?_⟩
          · exact (((HO3.out).new (Nat.le_of_eq HBB.out)).new (Nat.le_of_eq HBB.out)).new (Nat.le_of_eq HBB.out)
          · rw [HONE.out]; try rfl
      | false =>
        rw [q3] at e124
        cases q4 : (x == 34) with
        | true =>
          rw [q4] at e34
          have hone := (show oneR (bs.drop a0) = lit false [] 1 (bs.drop (a0 + 1)) by rw [HDR.out]; simp only [oneR, q1, q2, q3, q4]; simp)
          have hcall := literal_any R p c bs a0 W2 HR2.out HLT.out
          clear q1 q2 q3 q4
          generalize lit false [] 1 (bs.drop (a0 + 1)) = Q at *
          have HONE := Lib.hid hone
          have HC := Lib.hid hcall
          clear hone hcall
          go_wp2_with fail
          refine (HC.out).mono ?_
          rintro e w3 ⟨ho, hres⟩
          have HO3 := Lib.hid (HO2.out.trans ho)
          have hT3 := HT2.out.only ho (fun e => HRB.out e.symm)
          obtain ⟨v0, t0⟩ := hT3.c0
          obtain ⟨v1, t1⟩ := hT3.c1
          obtain ⟨v2, t2⟩ := hT3.c2
          have tf0 := hT3.fz 0
          have tf1 := hT3.fz 1
          have tf2 := hT3.fz 2
          clear hT3
          clear ho
          match Q, HONE, hres with
          | .tok k t n, HONE, hres =>
            obtain ⟨rfl, hr⟩ := hres
            have HR3 := Lib.hid hr
            clear hr
            unfold tokV
            go_wp2_with fail
            obtain ⟨hO5, hR5⟩ := tok_end (v0 := .int .u8 (k : Int)) (v1 := .string ⟨t.toArray⟩) (v2 := .int .i64 0) (Nat.le_of_eq HBB.out) HR3.out HO3.out HRB.out (fun _ => HPB.out)
            refine bodyPost_ret (v := .tuple #[.agg #[.int .u8 (k : Int), .string ⟨t.toArray⟩, .int .i64 0], .int .i64 0]) (by simp [results, Tryd.results36, go_sem, t0, t1, t2]) rfl ⟨hO5, ?_⟩
            rw [HONE.out]
            exact ⟨rfl, hR5⟩
          | .err er, HONE, hres =>
            subst hres
            unfold tokV
            go_wp2_with fail
            refine bodyPost_ret (v := .tuple #[tokV 0 [] 0, .int .i64 (er : Int)]) (by simp [results, Tryd.results36, go_sem, t0, t1, t2, tokV]) rfl ⟨?_, ?_⟩
            · exact (((HO3.out).new (Nat.le_of_eq HBB.out)).new (Nat.le_of_eq HBB.out)).new (Nat.le_of_eq HBB.out)
            · rw [HONE.out]; try rfl
        | false =>
          rw [q4] at e34
          cases q5 : (x == 58) with
          | true =>
            rw [q5] at e58
            have hone := (show oneR (bs.drop a0) = keyR (wordL (bs.drop (a0 + 1))) by rw [HDR.out]; simp only [oneR, q1, q2, q3, q4, q5]; simp)
            have hcall := keyword_any R p c bs a0 W2 HR2.out HLT.out
            clear q1 q2 q3 q4 q5
            generalize keyR (wordL (bs.drop (a0 + 1))) = Q at *
            have HONE := Lib.hid hone
            have HC := Lib.hid hcall
            clear hone hcall
            go_wp2_with fail
            refine (HC.out).mono ?_
            rintro e w3 ⟨ho, hres⟩
            have HO3 := Lib.hid (HO2.out.trans ho)
            have hT3 := HT2.out.only ho (fun e => HRB.out e.symm)
            obtain ⟨v0, t0⟩ := hT3.c0
            obtain ⟨v1, t1⟩ := hT3.c1
            obtain ⟨v2, t2⟩ := hT3.c2
            have tf0 := hT3.fz 0
            have tf1 := hT3.fz 1
            have tf2 := hT3.fz 2
            clear hT3
            clear ho
            match Q, HONE, hres with
            | .tok k t n, HONE, hres =>
              obtain ⟨rfl, hr⟩ := hres
              have HR3 := Lib.hid hr
              clear hr
              unfold tokV
              go_wp2_with fail
              obtain ⟨hO5, hR5⟩ := tok_end (v0 := .int .u8 (k : Int)) (v1 := .string ⟨t.toArray⟩) (v2 := .int .i64 0) (Nat.le_of_eq HBB.out) HR3.out HO3.out HRB.out (fun _ => HPB.out)
              refine bodyPost_ret (v := .tuple #[.agg #[.int .u8 (k : Int), .string ⟨t.toArray⟩, .int .i64 0], .int .i64 0]) (by simp [results, Tryd.results36, go_sem, t0, t1, t2]) rfl ⟨hO5, ?_⟩
              rw [HONE.out]
              exact ⟨rfl, hR5⟩
            | .err er, HONE, hres =>
              subst hres
              unfold tokV
              go_wp2_with fail
              refine bodyPost_ret (v := .tuple #[tokV 0 [] 0, .int .i64 (er : Int)]) (by simp [results, Tryd.results36, go_sem, t0, t1, t2, tokV]) rfl ⟨?_, ?_⟩
              · exact (((HO3.out).new (Nat.le_of_eq HBB.out)).new (Nat.le_of_eq HBB.out)).new (Nat.le_of_eq HBB.out)
              · rw [HONE.out]; try rfl
          | false =>
            rw [q5] at e58
            cases q6 : (x == 35) with
            | true =>
              rw [q6] at e35
              have hone := (show oneR (bs.drop a0) = basedR (wordL (bs.drop (a0 + 1))) by rw [HDR.out]; simp only [oneR, q1, q2, q3, q4, q5, q6]; simp)
              have hcall := based_any R p c bs a0 W2 HR2.out HLT.out
              clear q1 q2 q3 q4 q5 q6
              generalize basedR (wordL (bs.drop (a0 + 1))) = Q at *
              have HONE := Lib.hid hone
              have HC := Lib.hid hcall
              clear hone hcall
              go_wp2_with fail
              refine (HC.out).mono ?_
              rintro e w3 ⟨ho, hres⟩
              have HO3 := Lib.hid (HO2.out.trans ho)
              have hT3 := HT2.out.only ho (fun e => HRB.out e.symm)
              obtain ⟨v0, t0⟩ := hT3.c0
              obtain ⟨v1, t1⟩ := hT3.c1
              obtain ⟨v2, t2⟩ := hT3.c2
              have tf0 := hT3.fz 0
              have tf1 := hT3.fz 1
              have tf2 := hT3.fz 2
              clear hT3
              clear ho
              match Q, HONE, hres with
              | .tok k t n, HONE, hres =>
                obtain ⟨rfl, hr⟩ := hres
                have HR3 := Lib.hid hr
                clear hr
                unfold tokV
                go_wp2_with fail
                obtain ⟨hO5, hR5⟩ := tok_end (v0 := .int .u8 (k : Int)) (v1 := .string ⟨t.toArray⟩) (v2 := .int .i64 0) (Nat.le_of_eq HBB.out) HR3.out HO3.out HRB.out (fun _ => HPB.out)
                refine bodyPost_ret (v := .tuple #[.agg #[.int .u8 (k : Int), .string ⟨t.toArray⟩, .int .i64 0], .int .i64 0]) (by simp [results, Tryd.results36, go_sem, t0, t1, t2]) rfl ⟨hO5, ?_⟩
                rw [HONE.out]
                exact ⟨rfl, hR5⟩
              | .err er, HONE, hres =>
                subst hres
                unfold tokV
                go_wp2_with fail
                refine bodyPost_ret (v := .tuple #[tokV 0 [] 0, .int .i64 (er : Int)]) (by simp [results, Tryd.results36, go_sem, t0, t1, t2, tokV]) rfl ⟨?_, ?_⟩
                · exact (((HO3.out).new (Nat.le_of_eq HBB.out)).new (Nat.le_of_eq HBB.out)).new (Nat.le_of_eq HBB.out)
                · rw [HONE.out]; try rfl
            | false =>
              rw [q6] at e35
              cases q7 : syB x with
              | true =>
                rw [q7] at an
                have hone : oneR (bs.drop a0) = plainR (wordL (bs.drop a0)) := by
                  rw [HDR.out]
                  simp only [oneR, q1, q2, q3, q4, q5, q6, q7]
                  simp
                have hcall := plain_any R p c bs a0 W2 HR2.out HLT.out (by have := HX.out; rw [← this] at q7; exact q7)
                clear q1 q2 q3 q4 q5 q6 q7
                generalize plainR (wordL (bs.drop a0)) = Q at *
                have HONE := Lib.hid hone
                have HC := Lib.hid hcall
                clear hone hcall
                go_wp2_with fail
                refine (HC.out).mono ?_
                rintro e w3 ⟨ho, hres⟩
                have HO3 := Lib.hid (HO2.out.trans ho)
                have hT3 := HT2.out.only ho (fun e => HRB.out e.symm)
                obtain ⟨v0, t0⟩ := hT3.c0
                obtain ⟨v1, t1⟩ := hT3.c1
                obtain ⟨v2, t2⟩ := hT3.c2
                have tf0 := hT3.fz 0
                have tf1 := hT3.fz 1
                have tf2 := hT3.fz 2
                clear hT3
                clear ho
                match Q, HONE, hres with
                | .tok k t n, HONE, hres =>
                  obtain ⟨rfl, hr⟩ := hres
                  have HR3 := Lib.hid hr
                  clear hr
                  unfold tokV
                  go_wp2_with fail
                  obtain ⟨hO5, hR5⟩ := tok_end (v0 := .int .u8 (k : Int)) (v1 := .string ⟨t.toArray⟩) (v2 := .int .i64 0) (Nat.le_of_eq HBB.out) HR3.out HO3.out HRB.out (fun _ => HPB.out)
                  refine bodyPost_ret (v := .tuple #[.agg #[.int .u8 (k : Int), .string ⟨t.toArray⟩, .int .i64 0], .int .i64 0]) (by simp [results, Tryd.results36, go_sem, t0, t1, t2]) rfl ⟨hO5, ?_⟩
                  rw [HONE.out]
                  exact ⟨rfl, hR5⟩
                | .err er, HONE, hres =>
                  subst hres
                  unfold tokV
                  go_wp2_with fail
                  refine bodyPost_ret (v := .tuple #[tokV 0 [] 0, .int .i64 (er : Int)]) (by simp [results, Tryd.results36, go_sem, t0, t1, t2, tokV]) rfl ⟨?_, ?_⟩
                  · exact (((HO3.out).new (Nat.le_of_eq HBB.out)).new (Nat.le_of_eq HBB.out)).new (Nat.le_of_eq HBB.out)
                  · rw [HONE.out]; try rfl
              | false =>
                rw [q7] at an
                have HONE := Lib.hid (show oneR (bs.drop a0) = .err 30 by rw [HDR.out]; simp only [oneR, q1, q2, q3, q4, q5, q6, q7]; simp)
                clear q1 q2 q3 q4 q5 q6 q7
                have HR3 := HR2
                have HO3 := HO2
                have hT3 := HT2.out
                obtain ⟨v0, t0⟩ := hT3.c0
                obtain ⟨v1, t1⟩ := hT3.c1
                obtain ⟨v2, t2⟩ := hT3.c2
                have tf0 := hT3.fz 0
                have tf1 := hT3.fz 1
                have tf2 := hT3.fz 2
                clear hT3
                go_wp2_with fail
                refine bodyPost_ret (v := .tuple #[tokV 0 [] 0, .int .i64 30]) (by simp [results, Tryd.results36, go_sem, t0, t1, t2, tokV]) rfl ⟨?_, ?_⟩
                · exact (((HO3.out).new (Nat.le_of_eq HBB.out)).new (Nat.le_of_eq HBB.out)).new (Nat.le_of_eq HBB.out)
                · rw [HONE.out]; try rfl
end Go.Proofs.YtlifankiljbdjaaDoor
