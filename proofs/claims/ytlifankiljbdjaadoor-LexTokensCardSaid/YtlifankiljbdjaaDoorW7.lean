/- plain: words and numbers. -/
import Derived.Test.YtlifankiljbdjaaDoorW6
namespace Go.Proofs.YtlifankiljbdjaaDoor
open Go Go.RowKit

theorem str_of (l : List UInt8) : ∃ S : ByteArray, (⟨l.toArray⟩ : ByteArray) = S ∧ S.data.toList = l ∧ S.size = l.length := ⟨_, rfl, by simp, by simp [ByteArray.size]⟩
theorem str_get {S : ByteArray} {i : Nat} (h : i < S.size) : S.data.toList.getD i 0 = S[i] := by
  have : i < S.data.toList.length := by simpa using h
  rw [List.getD_eq_getElem?_getD, List.getElem?_eq_getElem this]
  rfl
theorem tokB_new' (W : World) : TokB (W.alloc (.cells #[.int .u8 0, .string ByteArray.empty, .int .i64 0] 33)) W.heap.size := tokB_new W
/-- a token's cells are laid, and the call's world is told -/
theorem tok_end {R : Nat} {p : Option Addr} {c : Nat} {bs : List UInt8} {a B : Nat} {W W5 : World} {v0 v1 v2 : Value} (hB : W.heap.size ≤ B) (hR : RdAt W5 R p c bs a) (hO : Only (· = R) W W5) (hRB : R ≠ B) (hp : 0 < bs.length → ∀ b off, p = some ⟨b, off, none⟩ → b < B) :
    Only (· = R) W (((W5.setCell ⟨B, 0, none⟩ v0).setCell ⟨B, 1, none⟩ v1).setCell ⟨B, 2, none⟩ v2) ∧ RdAt (((W5.setCell ⟨B, 0, none⟩ v0).setCell ⟨B, 1, none⟩ v1).setCell ⟨B, 2, none⟩ v2) R p c bs a := by
  have hset : Only (· = B) W5 (((W5.setCell ⟨B, 0, none⟩ v0).setCell ⟨B, 1, none⟩ v1).setCell ⟨B, 2, none⟩ v2) := ((only_set _ B 0 _).trans (only_set _ B 1 _)).trans (only_set _ B 2 _)
  exact ⟨((hO.new hB).new hB).new hB, hR.only hset hRB (fun h0 b off e => by have := hp h0 b off e; show ¬ b = B; omega)⟩
set_option maxRecDepth 100000 in
set_option maxHeartbeats 3200000 in
theorem plain_any (R : Nat) (p : Option Addr) (c : Nat) (bs : List UInt8) (a0 : Nat) (W : World) (h : RdAt W R p c bs a0) (hlt0 : a0 < bs.length) (hsy : syB bs[a0] = true) :
    Calls Tryd.prog 61 #[.pointer (some ⟨R, 0, none⟩)] W (TokRes R p c bs a0 W (plainR (wordL (bs.drop a0)))) := by
  have hpos : 0 < (wordL (bs.drop a0)).length := by rw [tw_drop bs a0 hlt0 hsy]; omega
  have hle := word_le (bs.drop a0)
  rw [List.length_drop] at hle
  have H := Lib.hid h
  have hn := h.hn
  have HPB := Lib.hid (h.bi.lt (by omega))
  have HRB := Lib.hid (show R ≠ W.heap.size by have := h.hl; omega)
  have hB1 := below1 W (.cells #[.int .u8 0, .string ByteArray.empty, .int .i64 0] 33)
  have HR1 := Lib.hid (h.later hB1)
  have HT1 := Lib.hid (tokB_new W)
  have HB1 := Lib.hid hB1
  have hw := word_any R p c bs a0 _ HR1.out
  have hBB : W.heap.size ≤ W.heap.size := Nat.le_refl _
  generalize wordL (bs.drop a0) = w at *
  have HW := Lib.hid hw
  clear h hsy hB1 hw
  go_enter Tryd.func61, Tryd.ntmps61
  go_wp2_with fail
  generalize hW1 : W.alloc _ = W1
  rw [show (W.alloc (.cells #[.int .u8 0, .string ByteArray.empty, .int .i64 0] 33)) = W1 from hW1] at HW HR1 HT1 HB1
  generalize hB : W.heap.size = B at *
  have HBB := Lib.hid hB
  clear hW1 hB H
  refine HW.out.mono ?_
  rintro e w2 ⟨rfl, hr2, ho2⟩
  have HR2 := Lib.hid hr2
  have HO2 := Lib.hid ((Only.of_below (T := (· = R)) (by rw [HBB.out]; exact HB1.out)).trans ho2)
  have HT2 := Lib.hid (HT1.out.only ho2 (fun e => HRB.out e.symm))
  obtain ⟨S, hS, hS1, hS2⟩ := str_of w
  rw [hS]
  rw [← hS2] at hpos hle
  have h0 : S[0] = w.getD 0 0 := by rw [← hS1]; exact (str_get hpos).symm
  have ccl := hr2.cl S[0]
  obtain ⟨hz, hz0⟩ := byte_gt (x := S[0])
  have an := not_ne (and4 S[0])
  have HS := Lib.hid (And.intro hS (And.intro hS1 hS2))
  have H0 := Lib.hid h0
  clear hr2 ho2 HW HR1 HT1 HB1 hS hS1 hS2 h0
  go_wp2_with fail
  go_quiet (fail)
  generalize hW3 : w2.drewN _ = w3
  have HR3 := Lib.hid (show RdAt w3 R p c bs (a0 + w.length) by rw [← hW3]; exact HR2.out.later (by first | exact below_drewN _ _ | exact Below.refl _ _ | (repeat (first | exact Below.refl _ _ | apply bdd))))
  have HO3 := Lib.hid (show Only (· = R) W w3 by rw [← hW3]; exact HO2.out.trans (Only.of_below (by first | exact below_drewN _ _ | exact Below.refl _ _ | (repeat (first | exact Below.refl _ _ | apply bdd)))))
  have hT3 : TokB w3 B := by rw [← hW3]; exact HT2.out.later (by first | exact below_drewN _ _ | exact Below.refl _ _ | (repeat (first | exact Below.refl _ _ | apply bdd)))
  obtain ⟨v0, t0⟩ := hT3.c0
  obtain ⟨v1, t1⟩ := hT3.c1
  obtain ⟨v2, t2⟩ := hT3.c2
  have tf0 := hT3.fz 0
  have tf1 := hT3.fz 1
  have tf2 := hT3.fz 2
  clear hW3 hT3
  clear HR2 HO2 HT2
  cases q0 : dgB S[0] with
  | false =>
    rw [q0] at an
    have HRES := Lib.hid (show plainR w = .tok 3 w w.length by
      unfold plainR; rw [if_pos (by rw [← H0.out, q0]; decide)])
    clear q0
    go_wp2_with fail
    obtain ⟨hO5, hR5⟩ := tok_end (v0 := .int .u8 3) (v1 := .string S) (v2 := .int .i64 0) (Nat.le_of_eq HBB.out) HR3.out HO3.out HRB.out (fun _ => HPB.out)
    refine bodyPost_ret (v := .tuple #[.agg #[.int .u8 3, .string S, .int .i64 0], .int .i64 0]) (by simp [results, Tryd.results61, go_sem, t0, t1, t2]) rfl ⟨hO5, ?_⟩
    rw [HRES.out]
    exact ⟨by unfold tokV; rw [HS.out.1]; rfl, hR5⟩
  | true =>
    rw [q0] at an
    have an2 : (bits BinOp.and IntKind.u8 (clB S[0] : Int) 4 == 0) = false := an
    have HQ0 := Lib.hid (show ¬ (!(dgB (w.getD 0 0))) = true by rw [← H0.out, q0]; decide)
    clear an ccl q0
    go_wp2_with fail
    refine (cut_any S _ (by omega)).mono ?_
    rintro e w4 ⟨A, C, x, rfl, hA, hC, hx, nq4, rfl⟩
    rw [HS.out.2.1] at hA hC hx
    have hAl : A.size ≤ S.size := by
      have : A.data.toList.length = A.size := by simp
      rw [← this, hA, HS.out.2.2]; exact (List.takeWhile_sublist _).length_le
    have hCl : C.size ≤ S.size := by
      have : C.data.toList.length = C.size := by simp
      rw [← this, hC, HS.out.2.2]; simp only [List.length_drop]; have := (List.dropWhile_sublist (p := (· != (46 : UInt8))) (l := w)).length_le; omega
    have HPW := Lib.hid (show plainR w = (if !allB dgB A.data.toList || (A.data.toList.getD 0 0 == 48 && decide (1 < A.data.toList.length)) then .err 5 else if !x then .tok 4 w w.length else if !allB dgB C.data.toList then .err 5 else .tok 7 w w.length) by
      unfold plainR; rw [if_neg HQ0.out, hA, hC, hx])
    have HCL := Lib.hid (show ∀ b : UInt8, (w3.drewN nq4).cell? ⟨R, 2 + b.toNat, none⟩ = some (.int .u8 (clB b : Int)) from fun b => (HR3.out.later (below_drewN _ _)).cl b)
    have HCL2 := Lib.hid (show ∀ k, ∀ b : UInt8, (w3.drewN k).cell? ⟨R, 2 + b.toNat, none⟩ = some (.int .u8 (clB b : Int)) from fun k b => (HR3.out.later (below_drewN _ _)).cl b)
    have HX := Lib.hid (And.intro hA (And.intro hC hx))
    clear hA hC hx HQ0
    cases q1 : allB dgB A.data.toList with
    | false =>
      have HRES := Lib.hid (show plainR w = .err 5 by rw [HPW.out, q1]; rfl)
      have Q1 := Lib.hid q1
      clear q1
      go_wp2_with fail
      go_at_call 74
      refine (all_any 4 dgB (fun c => not_ne (and4 c)) R A _ HCL.out (by omega)).mono ?_
      rintro e w' ⟨rfl, n7, rfl⟩
      rw [Q1.out]
      go_wp2_with fail
      generalize hW5 : World.drewN _ _ = w5
      have hb5 : Below w3.heap.size w3 w5 := by rw [← hW5]; exact (by first | exact below_drewN _ _ | exact Below.refl _ _ | (repeat (first | exact Below.refl _ _ | apply bdd)))
      obtain ⟨hO5, hR5⟩ := tok_end (v0 := .int .u8 0) (v1 := .string ⟨#[]⟩) (v2 := .int .i64 0) (Nat.le_of_eq HBB.out) (HR3.out.later hb5) (HO3.out.trans (Only.of_below hb5)) HRB.out (fun _ => HPB.out)
      have u0 := cell_later hb5 t0
      have u1 := cell_later hb5 t1
      have u2 := cell_later hb5 t2
      refine bodyPost_ret (v := .tuple #[tokV 0 [] 0, .int .i64 5]) (by simp [results, Tryd.results61, go_sem, u0, u1, u2, tokV]) rfl ⟨hO5, ?_⟩
      rw [HRES.out]
      rfl
    | true =>
      have hA0 : 0 < A.size := by
        have : A.data.toList ≠ [] := fun e => by rw [e] at q1; exact absurd q1 (by decide)
        have h2 : A.data.toList.length = A.size := by simp
        have := List.length_pos_iff.2 this; omega
      have e48 : ((A[0].toNat : Int) == 48) = (A[0] == 48) := eq_u8 48 (by decide +kernel) _
      have HA0 := Lib.hid (str_get (S := A) hA0)
      obtain ⟨hz', hz0'⟩ := byte_gt (x := A[0])
      cases q2 : (A[0] == 48 && decide (1 < A.size)) with
      | true =>
        have HRES := Lib.hid (show plainR w = .err 5 by
          rw [HPW.out, q1, HA0.out, show A.data.toList.length = A.size by simp, q2]; rfl)
        have Q1 := Lib.hid q1
        simp only [Bool.and_eq_true, decide_eq_true_eq] at q2
        rw [q2.1] at e48
        have g1 : (1 : Int) < (A.size : Int) := by omega
        clear q1 q2
        go_wp2_with fail
        go_at_call 74
        refine (all_any 4 dgB (fun c => not_ne (and4 c)) R A _ HCL.out (by omega)).mono ?_
        rintro e w' ⟨rfl, n7, rfl⟩
        rw [Q1.out]
        go_wp2_with fail
        generalize hW5 : World.drewN _ _ = w5
        have hb5 : Below w3.heap.size w3 w5 := by rw [← hW5]; exact (by first | exact below_drewN _ _ | exact Below.refl _ _ | (repeat (first | exact Below.refl _ _ | apply bdd)))
        obtain ⟨hO5, hR5⟩ := tok_end (v0 := .int .u8 0) (v1 := .string ⟨#[]⟩) (v2 := .int .i64 0) (Nat.le_of_eq HBB.out) (HR3.out.later hb5) (HO3.out.trans (Only.of_below hb5)) HRB.out (fun _ => HPB.out)
        have u0 := cell_later hb5 t0
        have u1 := cell_later hb5 t1
        have u2 := cell_later hb5 t2
        refine bodyPost_ret (v := .tuple #[tokV 0 [] 0, .int .i64 5]) (by simp [results, Tryd.results61, go_sem, u0, u1, u2, tokV]) rfl ⟨hO5, ?_⟩
        rw [HRES.out]
        rfl
      | false =>
        have HPW2 := Lib.hid (show plainR w = (if !x then .tok 4 w w.length else if !allB dgB C.data.toList then .err 5 else .tok 7 w w.length) by
          rw [HPW.out, q1, HA0.out, show A.data.toList.length = A.size by simp, q2]; rfl)
        have Q1 := Lib.hid q1
        have hcase : (A[0] == 48) = false ∨ ((A[0] == 48) = true ∧ decide (1 < A.size) = false) := by
          cases h : (A[0] == 48) with
          | false => exact .inl rfl
          | true => rw [h] at q2; exact .inr ⟨rfl, by simpa using q2⟩
        clear q1 q2 HPW
        rcases hcase with hc | ⟨hc, hc2⟩
        · rw [hc] at e48
          clear hc
          cases x with
          | false =>
            have HRES := Lib.hid (show plainR w = .tok 4 w w.length by rw [HPW2.out]; rfl)
            go_wp2_with fail
            go_at_call 74
            refine (all_any 4 dgB (fun c => not_ne (and4 c)) R A _ HCL.out (by omega)).mono ?_
            rintro e w' ⟨rfl, n7, rfl⟩
            rw [Q1.out]
            go_wp2_with fail
            generalize hW5 : World.drewN _ _ = w5
            have hb5 : Below w3.heap.size w3 w5 := by rw [← hW5]; exact (by first | exact below_drewN _ _ | exact Below.refl _ _ | (repeat (first | exact Below.refl _ _ | apply bdd)))
            obtain ⟨hO5, hR5⟩ := tok_end (v0 := .int .u8 4) (v1 := .string S) (v2 := .int .i64 0) (Nat.le_of_eq HBB.out) (HR3.out.later hb5) (HO3.out.trans (Only.of_below hb5)) HRB.out (fun _ => HPB.out)
            have u0 := cell_later hb5 t0
            have u1 := cell_later hb5 t1
            have u2 := cell_later hb5 t2
            refine bodyPost_ret (v := .tuple #[.agg #[.int .u8 4, .string S, .int .i64 0], .int .i64 0]) (by simp [results, Tryd.results61, go_sem, u0, u1, u2]) rfl ⟨hO5, ?_⟩
            rw [HRES.out]
            exact ⟨by unfold tokV; rw [HS.out.1]; rfl, hR5⟩
          | true =>
            cases q3 : allB dgB C.data.toList with
            | false =>
              have HRES := Lib.hid (show plainR w = .err 5 by rw [HPW2.out, q3]; rfl)
              have Q3 := Lib.hid q3
              clear q3
              go_wp2_with fail
              go_at_call 74
              refine (all_any 4 dgB (fun c => not_ne (and4 c)) R A _ HCL.out (by omega)).mono ?_
              rintro e w' ⟨rfl, n7, rfl⟩
              rw [Q1.out]
              go_wp2_with fail
              go_at_call 74
              refine (all_any 4 dgB (fun c => not_ne (and4 c)) R C _ (HCL2.out _) (by omega)).mono ?_
              rintro e w' ⟨rfl, n7, rfl⟩
              rw [Q3.out]
              go_wp2_with fail
              generalize hW5 : World.drewN _ _ = w5
              have hb5 : Below w3.heap.size w3 w5 := by rw [← hW5]; exact (by first | exact below_drewN _ _ | exact Below.refl _ _ | (repeat (first | exact Below.refl _ _ | apply bdd)))
              obtain ⟨hO5, hR5⟩ := tok_end (v0 := .int .u8 0) (v1 := .string ⟨#[]⟩) (v2 := .int .i64 0) (Nat.le_of_eq HBB.out) (HR3.out.later hb5) (HO3.out.trans (Only.of_below hb5)) HRB.out (fun _ => HPB.out)
              have u0 := cell_later hb5 t0
              have u1 := cell_later hb5 t1
              have u2 := cell_later hb5 t2
              refine bodyPost_ret (v := .tuple #[tokV 0 [] 0, .int .i64 5]) (by simp [results, Tryd.results61, go_sem, u0, u1, u2, tokV]) rfl ⟨hO5, ?_⟩
              rw [HRES.out]
              rfl
            | true =>
              have HRES := Lib.hid (show plainR w = .tok 7 w w.length by rw [HPW2.out, q3]; rfl)
              have Q3 := Lib.hid q3
              clear q3
              go_wp2_with fail
              go_at_call 74
              refine (all_any 4 dgB (fun c => not_ne (and4 c)) R A _ HCL.out (by omega)).mono ?_
              rintro e w' ⟨rfl, n7, rfl⟩
              rw [Q1.out]
              go_wp2_with fail
              go_at_call 74
              refine (all_any 4 dgB (fun c => not_ne (and4 c)) R C _ (HCL2.out _) (by omega)).mono ?_
              rintro e w' ⟨rfl, n7, rfl⟩
              rw [Q3.out]
              go_wp2_with fail
              generalize hW5 : World.drewN _ _ = w5
              have hb5 : Below w3.heap.size w3 w5 := by rw [← hW5]; exact (by first | exact below_drewN _ _ | exact Below.refl _ _ | (repeat (first | exact Below.refl _ _ | apply bdd)))
              obtain ⟨hO5, hR5⟩ := tok_end (v0 := .int .u8 7) (v1 := .string S) (v2 := .int .i64 0) (Nat.le_of_eq HBB.out) (HR3.out.later hb5) (HO3.out.trans (Only.of_below hb5)) HRB.out (fun _ => HPB.out)
              have u0 := cell_later hb5 t0
              have u1 := cell_later hb5 t1
              have u2 := cell_later hb5 t2
              refine bodyPost_ret (v := .tuple #[.agg #[.int .u8 7, .string S, .int .i64 0], .int .i64 0]) (by simp [results, Tryd.results61, go_sem, u0, u1, u2]) rfl ⟨hO5, ?_⟩
              rw [HRES.out]
              exact ⟨by unfold tokV; rw [HS.out.1]; rfl, hR5⟩
        · rw [hc] at e48
          have g1 : ¬ (1 : Int) < (A.size : Int) := by simp at hc2; omega
          have g2 : decide ((1 : Int) < (A.size : Int)) = false := by simpa using g1
          have g3 : decide (1 < A.size) = false := hc2
          clear hc hc2
          cases x with
          | false =>
            have HRES := Lib.hid (show plainR w = .tok 4 w w.length by rw [HPW2.out]; rfl)
            go_wp2_with fail
            go_at_call 74
            refine (all_any 4 dgB (fun c => not_ne (and4 c)) R A _ HCL.out (by omega)).mono ?_
            rintro e w' ⟨rfl, n7, rfl⟩
            rw [Q1.out]
            go_wp2_with fail
            generalize hW5 : World.drewN _ _ = w5
            have hb5 : Below w3.heap.size w3 w5 := by rw [← hW5]; exact (by first | exact below_drewN _ _ | exact Below.refl _ _ | (repeat (first | exact Below.refl _ _ | apply bdd)))
            obtain ⟨hO5, hR5⟩ := tok_end (v0 := .int .u8 4) (v1 := .string S) (v2 := .int .i64 0) (Nat.le_of_eq HBB.out) (HR3.out.later hb5) (HO3.out.trans (Only.of_below hb5)) HRB.out (fun _ => HPB.out)
            have u0 := cell_later hb5 t0
            have u1 := cell_later hb5 t1
            have u2 := cell_later hb5 t2
            refine bodyPost_ret (v := .tuple #[.agg #[.int .u8 4, .string S, .int .i64 0], .int .i64 0]) (by simp [results, Tryd.results61, go_sem, u0, u1, u2]) rfl ⟨hO5, ?_⟩
            rw [HRES.out]
            exact ⟨by unfold tokV; rw [HS.out.1]; rfl, hR5⟩
          | true =>
            cases q3 : allB dgB C.data.toList with
            | false =>
              have HRES := Lib.hid (show plainR w = .err 5 by rw [HPW2.out, q3]; rfl)
              have Q3 := Lib.hid q3
              clear q3
              go_wp2_with fail
              go_at_call 74
              refine (all_any 4 dgB (fun c => not_ne (and4 c)) R A _ HCL.out (by omega)).mono ?_
              rintro e w' ⟨rfl, n7, rfl⟩
              rw [Q1.out]
              go_wp2_with fail
              go_at_call 74
              refine (all_any 4 dgB (fun c => not_ne (and4 c)) R C _ (HCL2.out _) (by omega)).mono ?_
              rintro e w' ⟨rfl, n7, rfl⟩
              rw [Q3.out]
              go_wp2_with fail
              generalize hW5 : World.drewN _ _ = w5
              have hb5 : Below w3.heap.size w3 w5 := by rw [← hW5]; exact (by first | exact below_drewN _ _ | exact Below.refl _ _ | (repeat (first | exact Below.refl _ _ | apply bdd)))
              obtain ⟨hO5, hR5⟩ := tok_end (v0 := .int .u8 0) (v1 := .string ⟨#[]⟩) (v2 := .int .i64 0) (Nat.le_of_eq HBB.out) (HR3.out.later hb5) (HO3.out.trans (Only.of_below hb5)) HRB.out (fun _ => HPB.out)
              have u0 := cell_later hb5 t0
              have u1 := cell_later hb5 t1
              have u2 := cell_later hb5 t2
              refine bodyPost_ret (v := .tuple #[tokV 0 [] 0, .int .i64 5]) (by simp [results, Tryd.results61, go_sem, u0, u1, u2, tokV]) rfl ⟨hO5, ?_⟩
              rw [HRES.out]
              rfl
            | true =>
              have HRES := Lib.hid (show plainR w = .tok 7 w w.length by rw [HPW2.out, q3]; rfl)
              have Q3 := Lib.hid q3
              clear q3
              go_wp2_with fail
              go_at_call 74
              refine (all_any 4 dgB (fun c => not_ne (and4 c)) R A _ HCL.out (by omega)).mono ?_
              rintro e w' ⟨rfl, n7, rfl⟩
              rw [Q1.out]
              go_wp2_with fail
              go_at_call 74
              refine (all_any 4 dgB (fun c => not_ne (and4 c)) R C _ (HCL2.out _) (by omega)).mono ?_
              rintro e w' ⟨rfl, n7, rfl⟩
              rw [Q3.out]
              go_wp2_with fail
              generalize hW5 : World.drewN _ _ = w5
              have hb5 : Below w3.heap.size w3 w5 := by rw [← hW5]; exact (by first | exact below_drewN _ _ | exact Below.refl _ _ | (repeat (first | exact Below.refl _ _ | apply bdd)))
              obtain ⟨hO5, hR5⟩ := tok_end (v0 := .int .u8 7) (v1 := .string S) (v2 := .int .i64 0) (Nat.le_of_eq HBB.out) (HR3.out.later hb5) (HO3.out.trans (Only.of_below hb5)) HRB.out (fun _ => HPB.out)
              have u0 := cell_later hb5 t0
              have u1 := cell_later hb5 t1
              have u2 := cell_later hb5 t2
              refine bodyPost_ret (v := .tuple #[.agg #[.int .u8 7, .string S, .int .i64 0], .int .i64 0]) (by simp [results, Tryd.results61, go_sem, u0, u1, u2]) rfl ⟨hO5, ?_⟩
              rw [HRES.out]
              exact ⟨by unfold tokV; rw [HS.out.1]; rfl, hR5⟩
end Go.Proofs.YtlifankiljbdjaaDoor
