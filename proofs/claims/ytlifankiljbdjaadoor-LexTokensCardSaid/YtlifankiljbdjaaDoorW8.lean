/- keyword, based. -/
import Derived.Test.YtlifankiljbdjaaDoorW7
namespace Go.Proofs.YtlifankiljbdjaaDoor
open Go Go.RowKit

theorem str_empty {S : ByteArray} {w : List UInt8} (h : S.data.toList = w) {b : Bool} (hb : w.isEmpty = b) : S.toList.isEmpty = b ∧ (S.toList == []) = b := by
  rw [toList_data, h]
  refine ⟨hb, ?_⟩
  cases w <;> simpa using hb
set_option maxRecDepth 100000 in
set_option maxHeartbeats 1600000 in
theorem keyword_any (R : Nat) (p : Option Addr) (c : Nat) (bs : List UInt8) (a0 : Nat) (W : World) (h : RdAt W R p c bs a0) (hlt0 : a0 < bs.length) :
    Calls Tryd.prog 59 #[.pointer (some ⟨R, 0, none⟩)] W (TokRes R p c bs a0 W (keyR (wordL (bs.drop (a0 + 1))))) := by
  have hle := word_le (bs.drop (a0 + 1))
  rw [List.length_drop] at hle
  have H := Lib.hid h
  have hn := h.hn
  have hc1 := h.ca
  have hf1 := h.fz
  have HPB := Lib.hid (h.bi.lt (by omega))
  have HRB := Lib.hid (show R ≠ W.heap.size by have := h.hl; omega)
  have hR := h.hl
  clear h
  go_enter Tryd.func59, Tryd.ntmps59
  go_wp2_with fail
  generalize hW1 : (W.setCell _ _).alloc _ = W1
  obtain ⟨P, hP⟩ : ∃ P, P = a0 + 1 := ⟨_, rfl⟩
  have hPi : (a0 : Int) + 1 = (P : Int) := by omega
  rw [hPi] at hW1
  have h1 := H.out.set (v := (P : Int)) (a' := P) rfl (by omega)
  have hOW := only_set W R 1 (.int .i64 (P : Int))
  have hB1 := below1 (W.setCell ⟨R, 1, none⟩ (.int .i64 (P : Int))) (.cells #[.int .u8 0, .string ByteArray.empty, .int .i64 0] 33)
  have hTB := tokB_new (W.setCell ⟨R, 1, none⟩ (.int .i64 (P : Int)))
  rw [World.size_setCell] at hTB
  have HI0 := Lib.hid (show RdAt W1 R p c bs P ∧ Only (· = R) W W1 ∧ TokB W1 W.heap.size by
    rw [← hW1]
    exact ⟨h1.later hB1, hOW.trans (Only.of_below hB1), hTB⟩)
  have hw := word_any R p c bs P _ HI0.out.1
  rw [hP] at hw
  rw [← hP] at hle
  have HP := Lib.hid hP
  generalize hwd : wordL (bs.drop (a0 + 1)) = w at *
  rw [hP, hwd] at hle
  have HW := Lib.hid hw
  clear hP hPi hW1 h1 hOW hB1 hTB hc1 hf1 H hw hwd hR
  generalize hB : W.heap.size = B at *
  have HBB := Lib.hid hB
  clear hB
  refine HW.out.mono ?_
  rintro e w3 ⟨rfl, hr2, ho2⟩
  have HR3 := Lib.hid (show RdAt w3 R p c bs (a0 + (w.length + 1)) by rw [show a0 + (w.length + 1) = a0 + 1 + w.length by omega]; exact hr2)
  have HO3 := Lib.hid (HI0.out.2.1.trans ho2)
  have hT3 := HI0.out.2.2.only ho2 (fun e => HRB.out e.symm)
  have HT3 := Lib.hid hT3
  obtain ⟨v0, t0⟩ := hT3.c0
  obtain ⟨v1, t1⟩ := hT3.c1
  obtain ⟨v2, t2⟩ := hT3.c2
  have tf0 := hT3.fz 0
  have tf1 := hT3.fz 1
  have tf2 := hT3.fz 2
  obtain ⟨S, hS, hS1, hS2⟩ := str_of w
  rw [hS]
  rw [← hS2] at hle
  have HS := Lib.hid (And.intro hS (And.intro hS1 hS2))
  clear hr2 ho2 HW HI0 hT3 hS hS1 hS2
  cases q : w.isEmpty with
  | true =>
    obtain ⟨e1, e2⟩ := str_empty HS.out.2.1 q
    have HRES := Lib.hid (show keyR w = .err 30 by unfold keyR; rw [q]; rfl)
    clear q
    go_wp2_with fail
    obtain ⟨hO5, hR5⟩ := tok_end (v0 := .int .u8 0) (v1 := .string ⟨#[]⟩) (v2 := .int .i64 0) (Nat.le_of_eq HBB.out) HR3.out HO3.out HRB.out (fun _ => HPB.out)
    refine bodyPost_ret (v := .tuple #[tokV 0 [] 0, .int .i64 30]) (by simp [results, Tryd.results59, go_sem, t0, t1, t2, tokV]) rfl ⟨hO5, ?_⟩
    rw [HRES.out]
    rfl
  | false =>
    obtain ⟨e1, e2⟩ := str_empty HS.out.2.1 q
    have HRES := Lib.hid (show keyR w = .tok 6 w (w.length + 1) by unfold keyR; rw [q]; rfl)
    clear q
    go_wp2_with fail
    obtain ⟨hO5, hR5⟩ := tok_end (v0 := .int .u8 6) (v1 := .string S) (v2 := .int .i64 0) (Nat.le_of_eq HBB.out) HR3.out HO3.out HRB.out (fun _ => HPB.out)
    refine bodyPost_ret (v := .tuple #[.agg #[.int .u8 6, .string S, .int .i64 0], .int .i64 0]) (by simp [results, Tryd.results59, go_sem, t0, t1, t2]) rfl ⟨hO5, ?_⟩
    rw [HRES.out]
    exact ⟨by unfold tokV; rw [HS.out.1]; rfl, hR5⟩
theorem hash_app {S : ByteArray} {w : List UInt8} (h : S.data.toList = w) : ((⟨#[35]⟩ : ByteArray) ++ S) = ⟨(35 :: w).toArray⟩ := by
  apply ByteArray.ext
  apply Array.toList_inj.1
  rw [← h]
  simp
theorem trim_any (D : ByteArray) (hD : D.size ≤ 1048576) (w : World) : Calls Tryd.prog 75 #[.string D, .string ⟨#[48, 49]⟩] w fun e w' => ∃ T : ByteArray, e = .returned (.string T) ∧ T.data.toList = Lib.trimS D.data.toList [48, 49] ∧ Below w.heap.size w w' := by
  have h : Calls Tryd.prog 75 #[.string D, .string ⟨#[48, 49]⟩] w fun e w' => e = .returned (.string ⟨(Lib.trimS D.data.toList [48, 49]).toArray⟩) ∧ Below w.heap.size w w' :=
    Any.strings_Trim_laid Tryd.lays160 (by kernel_rfl) D ⟨#[48, 49]⟩ w (by omega) (by decide) (ascii_of_all (by decide))
  refine h.mono ?_
  rintro e w' ⟨rfl, hb⟩
  exact ⟨_, rfl, by simp, hb⟩
theorem dw_nil (p : UInt8 → Bool) : ∀ l : List UInt8, l.dropWhile p = [] ↔ ∀ x ∈ l, p x = true
  | [] => by simp
  | a :: l => by
    cases h : p a with
    | true => simp [List.dropWhile_cons, h, dw_nil p l]
    | false => simp [List.dropWhile_cons, h]
theorem trim_all (l : List UInt8) : (Lib.trimS l [48, 49]).isEmpty = l.all (fun c => c == 48 || c == 49) := by
  have hf : ∀ x : UInt8, ([48, 49] : List UInt8).contains x = (x == 48 || x == 49) := fun x => by simp only [List.contains_cons, List.contains_nil, Bool.or_false]
  unfold Lib.trimS Lib.trimLeftS Lib.trimRightS
  cases h : l.all (fun c => c == 48 || c == 49) with
  | true =>
    have h1 : l.reverse.dropWhile (fun x => ([48, 49] : List UInt8).contains x) = [] := by
      rw [dw_nil]
      intro x hx
      rw [hf]
      exact List.all_eq_true.1 h x (by simpa using hx)
    rw [h1]; rfl
  | false =>
    obtain ⟨x, hx, hn⟩ := List.all_eq_false.1 h
    rw [Bool.eq_false_iff]
    intro he
    have h0 : (l.reverse.dropWhile (fun x => ([48, 49] : List UInt8).contains x)).reverse.dropWhile (fun x => ([48, 49] : List UInt8).contains x) = [] := by simpa using he
    have h1 : ∀ y ∈ l.reverse.dropWhile (fun x => ([48, 49] : List UInt8).contains x), ([48, 49] : List UInt8).contains y = true := fun y hy => by
      have := ((dw_nil _ _).1 h0) y (by simpa using hy)
      exact this
    have h2 : ∀ y ∈ l.reverse, ([48, 49] : List UInt8).contains y = true := fun y hy => by
      rw [← List.takeWhile_append_dropWhile (p := fun x => ([48, 49] : List UInt8).contains x) (l := l.reverse)] at hy
      rcases List.mem_append.1 hy with h | h
      · exact List.all_eq_true.1 (List.all_takeWhile (p := fun x => ([48, 49] : List UInt8).contains x)) y h
      · exact h1 y h
    have := h2 x (by simpa using hx)
    rw [hf] at this
    exact hn this
set_option maxRecDepth 100000 in
set_option maxHeartbeats 3200000 in
theorem based_any (R : Nat) (p : Option Addr) (c : Nat) (bs : List UInt8) (a0 : Nat) (W : World) (h : RdAt W R p c bs a0) (hlt0 : a0 < bs.length) :
    Calls Tryd.prog 60 #[.pointer (some ⟨R, 0, none⟩)] W (TokRes R p c bs a0 W (basedR (wordL (bs.drop (a0 + 1))))) := by
  have hle := word_le (bs.drop (a0 + 1))
  rw [List.length_drop] at hle
  have H := Lib.hid h
  have hn := h.hn
  have hc1 := h.ca
  have hf1 := h.fz
  have HPB := Lib.hid (h.bi.lt (by omega))
  have HRB := Lib.hid (show R ≠ W.heap.size by have := h.hl; omega)
  have hR := h.hl
  clear h
  go_enter Tryd.func60, Tryd.ntmps60
  go_wp2_with fail
  generalize hW1 : (W.setCell _ _).alloc _ = W1
  obtain ⟨P, hP⟩ : ∃ P, P = a0 + 1 := ⟨_, rfl⟩
  have hPi : (a0 : Int) + 1 = (P : Int) := by omega
  rw [hPi] at hW1
  have h1 := H.out.set (v := (P : Int)) (a' := P) rfl (by omega)
  have hOW := only_set W R 1 (.int .i64 (P : Int))
  have hB1 := below1 (W.setCell ⟨R, 1, none⟩ (.int .i64 (P : Int))) (.cells #[.int .u8 0, .string ByteArray.empty, .int .i64 0] 33)
  have hTB := tokB_new (W.setCell ⟨R, 1, none⟩ (.int .i64 (P : Int)))
  rw [World.size_setCell] at hTB
  have HI0 := Lib.hid (show RdAt W1 R p c bs P ∧ Only (· = R) W W1 ∧ TokB W1 W.heap.size by
    rw [← hW1]
    exact ⟨h1.later hB1, hOW.trans (Only.of_below hB1), hTB⟩)
  have hw := word_any R p c bs P _ HI0.out.1
  rw [hP] at hw
  rw [← hP] at hle
  have HP := Lib.hid hP
  generalize hwd : wordL (bs.drop (a0 + 1)) = w at *
  rw [hP, hwd] at hle
  have HW := Lib.hid hw
  clear hP hPi hW1 h1 hOW hB1 hTB hc1 hf1 H hw hwd hR
  generalize hB : W.heap.size = B at *
  have HBB := Lib.hid hB
  clear hB
  refine HW.out.mono ?_
  rintro e w3 ⟨rfl, hr2, ho2⟩
  have HR3 := Lib.hid (show RdAt w3 R p c bs (a0 + (w.length + 1)) by rw [show a0 + (w.length + 1) = a0 + 1 + w.length by omega]; exact hr2)
  have HO3 := Lib.hid (HI0.out.2.1.trans ho2)
  have hT3 := HI0.out.2.2.only ho2 (fun e => HRB.out e.symm)
  have HT3 := Lib.hid hT3
  obtain ⟨v0, t0⟩ := hT3.c0
  obtain ⟨v1, t1⟩ := hT3.c1
  obtain ⟨v2, t2⟩ := hT3.c2
  have tf0 := hT3.fz 0
  have tf1 := hT3.fz 1
  have tf2 := hT3.fz 2
  obtain ⟨S, hS, hS1, hS2⟩ := str_of w
  rw [hS]
  rw [← hS2] at hle
  have HS := Lib.hid (And.intro hS (And.intro hS1 hS2))
  clear hr2 ho2 HW HI0 hT3 hS hS1 hS2
  cases q : w.isEmpty with
  | true =>
    obtain ⟨e1, e2⟩ := str_empty HS.out.2.1 q
    have HRES := Lib.hid (show basedR w = .err 30 by unfold basedR; rw [q]; rfl)
    clear q
    go_wp2_with fail
    obtain ⟨hO5, hR5⟩ := tok_end (v0 := .int .u8 0) (v1 := .string ⟨#[]⟩) (v2 := .int .i64 0) (Nat.le_of_eq HBB.out) HR3.out HO3.out HRB.out (fun _ => HPB.out)
    refine bodyPost_ret (v := .tuple #[tokV 0 [] 0, .int .i64 30]) (by simp [results, Tryd.results60, go_sem, t0, t1, t2, tokV]) rfl ⟨hO5, ?_⟩
    rw [HRES.out]
    rfl
  | false =>
    obtain ⟨e1, e2⟩ := str_empty HS.out.2.1 q
    have hpos : 0 < S.size := by
      rw [HS.out.2.2]; cases w with
      | nil => cases q
      | cons => simp
    have h1le : 1 ≤ S.size := hpos
    have i1 : (1 : Int) ≤ (S.size : Int) := by omega
    have h0 : S[0] = w.getD 0 0 := by rw [← HS.out.2.1]; exact (str_get hpos).symm
    have hD : (S.extract 1 S.size).data.toList = w.drop 1 := by rw [ext_drop, HS.out.2.1]
    have hDs : (S.extract 1 S.size).size ≤ 1048576 := by
      have : (S.extract 1 S.size).data.toList.length = (S.extract 1 S.size).size := by simp
      rw [← this, hD, List.length_drop, ← HS.out.2.2]; omega
    have e120 : ((S[0].toNat : Int) == 120) = (S[0] == 120) := eq_u8 120 (by decide +kernel) _
    have e98 : ((S[0].toNat : Int) == 98) = (S[0] == 98) := eq_u8 98 (by decide +kernel) _
    obtain ⟨hz, hz0⟩ := byte_gt (x := S[0])
    have HBR := Lib.hid (show basedR w = if (S[0] == 120 && allB hxB (w.drop 1)) || (S[0] == 98 && allB (fun c => c == 48 || c == 49) (w.drop 1)) then .tok 7 (35 :: w) (w.length + 1) else .err 5 by
      unfold basedR; rw [q, h0]; rfl)
    generalize hDD : S.extract 1 S.size = D at *
    have HDD := Lib.hid hDD
    have HD := Lib.hid hD
    have HCL := Lib.hid HR3.out.cl
    clear q h0 hD hDD
    cases q1 : (S[0] == 120) with
    | true =>
      have hx98 : (S[0] == 98) = false := by rw [eq_of_beq q1]; decide
      rw [q1] at e120
      rw [hx98] at e98
      cases q2 : allB hxB (w.drop 1) with
      | true =>
        have HRES := Lib.hid (show basedR w = .tok 7 (35 :: w) (w.length + 1) by rw [HBR.out, q1, q2]; rfl)
        have Q2 := Lib.hid q2
        clear q1 q2 hx98
        go_wp2_with fail
        rw [HDD.out]
        refine (all_any 8 hxB (fun c => not_ne (and8 c)) R D _ HCL.out (by omega)).mono ?_
        rintro e w' ⟨rfl, n7, rfl⟩
        rw [HD.out, Q2.out]
        go_wp2_with fail
        generalize hW5 : World.drewN _ _ = w5
        have hb5 : Below w3.heap.size w3 w5 := by rw [← hW5]; exact (by first | exact below_drewN _ _ | exact Below.refl _ _ | (repeat (first | exact Below.refl _ _ | apply bdd)))
        obtain ⟨hO5, hR5⟩ := tok_end (v0 := .int .u8 7) (v1 := .string (⟨#[35]⟩ ++ S)) (v2 := .int .i64 0) (Nat.le_of_eq HBB.out) (HR3.out.later hb5) (HO3.out.trans (Only.of_below hb5)) HRB.out (fun _ => HPB.out)
        have u0 := cell_later hb5 t0
        have u1 := cell_later hb5 t1
        have u2 := cell_later hb5 t2
        refine bodyPost_ret (v := .tuple #[.agg #[.int .u8 7, .string (⟨#[35]⟩ ++ S), .int .i64 0], .int .i64 0]) (by simp [results, Tryd.results60, go_sem, u0, u1, u2]) rfl ⟨hO5, ?_⟩
        rw [HRES.out]
        exact ⟨by unfold tokV; rw [hash_app HS.out.2.1]; rfl, hR5⟩
      | false =>
        have HRES := Lib.hid (show basedR w = .err 5 by rw [HBR.out, q1, q2, hx98]; rfl)
        have Q2 := Lib.hid q2
        clear q1 q2 hx98
        go_wp2_with fail
        rw [HDD.out]
        refine (all_any 8 hxB (fun c => not_ne (and8 c)) R D _ HCL.out (by omega)).mono ?_
        rintro e w' ⟨rfl, n7, rfl⟩
        rw [HD.out, Q2.out]
        go_wp2_with fail
        generalize hW5 : World.drewN _ _ = w5
        have hb5 : Below w3.heap.size w3 w5 := by rw [← hW5]; exact (by first | exact below_drewN _ _ | exact Below.refl _ _ | (repeat (first | exact Below.refl _ _ | apply bdd)))
        obtain ⟨hO5, hR5⟩ := tok_end (v0 := .int .u8 0) (v1 := .string ⟨#[]⟩) (v2 := .int .i64 0) (Nat.le_of_eq HBB.out) (HR3.out.later hb5) (HO3.out.trans (Only.of_below hb5)) HRB.out (fun _ => HPB.out)
        have u0 := cell_later hb5 t0
        have u1 := cell_later hb5 t1
        have u2 := cell_later hb5 t2
        refine bodyPost_ret (v := .tuple #[tokV 0 [] 0, .int .i64 5]) (by simp [results, Tryd.results60, go_sem, u0, u1, u2, tokV]) rfl ⟨hO5, ?_⟩
        rw [HRES.out]
        rfl
    | false =>
      rw [q1] at e120
      cases q3 : (S[0] == 98) with
      | false =>
        rw [q3] at e98
        have HRES := Lib.hid (show basedR w = .err 5 by rw [HBR.out, q1, q3]; rfl)
        clear q1 q3
        go_wp2_with fail
        obtain ⟨hO5, hR5⟩ := tok_end (v0 := .int .u8 0) (v1 := .string ⟨#[]⟩) (v2 := .int .i64 0) (Nat.le_of_eq HBB.out) HR3.out HO3.out HRB.out (fun _ => HPB.out)
        refine bodyPost_ret (v := .tuple #[tokV 0 [] 0, .int .i64 5]) (by simp [results, Tryd.results60, go_sem, t0, t1, t2, tokV]) rfl ⟨hO5, ?_⟩
        rw [HRES.out]
        rfl
      | true =>
        rw [q3] at e98
        cases q4 : (w.drop 1).isEmpty with
        | true =>
          have HRES := Lib.hid (show basedR w = .err 5 by rw [HBR.out, q1, q3]; unfold allB; rw [q4]; simp)
          obtain ⟨g1, g2⟩ := str_empty HD.out q4
          have hE : (S.extract 1 S.size).toList.isEmpty = true := by rw [HDD.out]; exact g1
          clear q1 q3 q4
          go_wp2_with fail
          obtain ⟨hO5, hR5⟩ := tok_end (v0 := .int .u8 0) (v1 := .string ⟨#[]⟩) (v2 := .int .i64 0) (Nat.le_of_eq HBB.out) HR3.out HO3.out HRB.out (fun _ => HPB.out)
          refine bodyPost_ret (v := .tuple #[tokV 0 [] 0, .int .i64 5]) (by simp [results, Tryd.results60, go_sem, t0, t1, t2, tokV]) rfl ⟨hO5, ?_⟩
          rw [HRES.out]
          rfl
        | false =>
          obtain ⟨g1, g2⟩ := str_empty HD.out q4
          have hE : (S.extract 1 S.size).toList.isEmpty = false := by rw [HDD.out]; exact g1
          have HT := fun w' => trim_any D hDs w'
          have HTR := Lib.hid HT
          clear HT
          cases q5 : (w.drop 1).all (fun c => c == 48 || c == 49) with
          | true =>
            have HRES := Lib.hid (show basedR w = .tok 7 (35 :: w) (w.length + 1) by rw [HBR.out, q1, q3]; unfold allB; rw [q4, q5]; rfl)
            have HQ := Lib.hid (show (Lib.trimS D.data.toList [48, 49]).isEmpty = true by rw [trim_all, HD.out]; exact q5)
            clear q1 q3 q4 q5
            go_wp2_with fail
            rw [HDD.out]
            refine (HTR.out _).mono ?_
            rintro e w5 ⟨T, rfl, hT, hb5⟩
            obtain ⟨g3, g4⟩ := str_empty hT HQ.out
            have hb5 : Below w3.heap.size w3 w5 := hb5
            clear hT
            have hT5 := HT3.out.later hb5
            obtain ⟨x0, u0⟩ := hT5.c0
            obtain ⟨x1, u1⟩ := hT5.c1
            obtain ⟨x2, u2⟩ := hT5.c2
            have uf0 := hT5.fz 0
            have uf1 := hT5.fz 1
            have uf2 := hT5.fz 2
            have HB5 := Lib.hid hb5
            clear hb5 hT5
            go_wp2_with fail
            have hb5 := HB5.out
            obtain ⟨hO5, hR5⟩ := tok_end (v0 := .int .u8 7) (v1 := .string (⟨#[35]⟩ ++ S)) (v2 := .int .i64 0) (Nat.le_of_eq HBB.out) (HR3.out.later hb5) (HO3.out.trans (Only.of_below hb5)) HRB.out (fun _ => HPB.out)
            refine bodyPost_ret (v := .tuple #[.agg #[.int .u8 7, .string (⟨#[35]⟩ ++ S), .int .i64 0], .int .i64 0]) (by simp [results, Tryd.results60, go_sem, u0, u1, u2]) rfl ⟨hO5, ?_⟩
            rw [HRES.out]
            exact ⟨by unfold tokV; rw [hash_app HS.out.2.1]; rfl, hR5⟩
          | false =>
            have HRES := Lib.hid (show basedR w = .err 5 by rw [HBR.out, q1, q3]; unfold allB; rw [q4, q5]; rfl)
            have HQ := Lib.hid (show (Lib.trimS D.data.toList [48, 49]).isEmpty = false by rw [trim_all, HD.out]; exact q5)
            clear q1 q3 q4 q5
            go_wp2_with fail
            rw [HDD.out]
            refine (HTR.out _).mono ?_
            rintro e w5 ⟨T, rfl, hT, hb5⟩
            obtain ⟨g3, g4⟩ := str_empty hT HQ.out
            have hb5 : Below w3.heap.size w3 w5 := hb5
            clear hT
            have hT5 := HT3.out.later hb5
            obtain ⟨x0, u0⟩ := hT5.c0
            obtain ⟨x1, u1⟩ := hT5.c1
            obtain ⟨x2, u2⟩ := hT5.c2
            have uf0 := hT5.fz 0
            have uf1 := hT5.fz 1
            have uf2 := hT5.fz 2
            have HB5 := Lib.hid hb5
            clear hb5 hT5
            go_wp2_with fail
            have hb5 := HB5.out
            obtain ⟨hO5, hR5⟩ := tok_end (v0 := .int .u8 0) (v1 := .string ⟨#[]⟩) (v2 := .int .i64 0) (Nat.le_of_eq HBB.out) (HR3.out.later hb5) (HO3.out.trans (Only.of_below hb5)) HRB.out (fun _ => HPB.out)
            refine bodyPost_ret (v := .tuple #[tokV 0 [] 0, .int .i64 5]) (by simp [results, Tryd.results60, go_sem, u0, u1, u2, tokV]) rfl ⟨hO5, ?_⟩
            rw [HRES.out]
            rfl
end Go.Proofs.YtlifankiljbdjaaDoor
