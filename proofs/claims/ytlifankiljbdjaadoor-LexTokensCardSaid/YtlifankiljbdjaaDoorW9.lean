/- token: the token that begins here. -/
import Derived.Test.YtlifankiljbdjaaDoorW8
namespace Go.Proofs.YtlifankiljbdjaaDoor
open Go Go.RowKit

set_option maxRecDepth 100000 in
set_option maxHeartbeats 3200000 in
theorem token_any (R : Nat) (p : Option Addr) (c : Nat) (bs : List UInt8) (a0 : Nat) (W : World) (h : RdAt W R p c bs a0) (hlt0 : a0 < bs.length) :
    Calls Tryd.prog 36 #[.pointer (some ⟨R, 0, none⟩)] W (TokRes R p c bs a0 W (oneR (bs.drop a0))) := by
  have HDR := Lib.hid (drop_at hlt0)
  have hn := h.hn
  have HPB := Lib.hid (h.bi.lt (by omega))
  have HRB := Lib.hid (show R ≠ W.heap.size by have := h.hl; omega)
  have hB1 := below1 W (.cells #[.int .u8 0, .string ByteArray.empty, .int .i64 0] 33)
  have HR1 := Lib.hid (h.later hB1)
  have HT1 := Lib.hid (tokB_new W)
  have HB1 := Lib.hid hB1
  have hsy := fun hs => plain_any R p c bs a0 (W.alloc (.cells #[.int .u8 0, .string ByteArray.empty, .int .i64 0] 33)) HR1.out hlt0 hs
  clear h hB1 hsy
  go_enter Tryd.func36, Tryd.ntmps36
  go_wp2_with fail
  generalize hW1 : W.alloc _ = W1
  rw [show (W.alloc (.cells #[.int .u8 0, .string ByteArray.empty, .int .i64 0] 33)) = W1 from hW1] at HR1 HT1 HB1
  generalize hB : W.heap.size = B at *
  have HBB := Lib.hid hB
  clear hW1 hB
  have c0 := HR1.out.cb
  have c1 := HR1.out.ca
  obtain ⟨n, hnl⟩ : ∃ n, n = bs.length := ⟨_, rfl⟩
  have HL := Lib.hid hnl
  rw [← hnl] at c0
  clear hnl
  have i1 : (a0 : Int) < (n : Int) := by have := HL.out; omega
  have i0 : (0 : Int) ≤ (a0 : Int) := by omega
  have i2 : (a0 : Int) ≤ 1048576 := by omega
  obtain ⟨b, off, hpe, cb⟩ := HR1.out.bi a0 hlt0
  rw [hpe] at c0
  have HPE := Lib.hid hpe
  have HLT := Lib.hid hlt0
  clear hpe
  obtain ⟨hz, hz0⟩ := byte_gt (x := bs[a0])
  have e40 : ((bs[a0].toNat : Int) == 40) = (bs[a0] == 40) := eq_u8 40 (by decide +kernel) _
  have e41 : ((bs[a0].toNat : Int) == 41) = (bs[a0] == 41) := eq_u8 41 (by decide +kernel) _
  have e124 : ((bs[a0].toNat : Int) == 124) = (bs[a0] == 124) := eq_u8 124 (by decide +kernel) _
  have e34 : ((bs[a0].toNat : Int) == 34) = (bs[a0] == 34) := eq_u8 34 (by decide +kernel) _
  have e58 : ((bs[a0].toNat : Int) == 58) = (bs[a0] == 58) := eq_u8 58 (by decide +kernel) _
  have e35 : ((bs[a0].toNat : Int) == 35) = (bs[a0] == 35) := eq_u8 35 (by decide +kernel) _
  have an := and2 bs[a0]
  have ccl0 := HR1.out.cl bs[a0]
  generalize hx : bs[a0] = x at *
  generalize x.toNat = y at *
  generalize clB x = z at *
  have HX := Lib.hid hx
  clear hx
  go_quiet (fail)
  generalize hW2 : W1.drewN _ = W2
  have HR2 := Lib.hid (show RdAt W2 R p c bs a0 by rw [← hW2]; exact HR1.out.later (by first | exact below_drewN _ _ | exact Below.refl _ _ | (repeat (first | exact Below.refl _ _ | apply bdd))))
  have HO2 := Lib.hid (show Only (· = R) W W2 by rw [← hW2]; exact (Only.of_below (T := (· = R)) (by rw [HBB.out]; exact HB1.out)).trans (Only.of_below (by first | exact below_drewN _ _ | exact Below.refl _ _ | (repeat (first | exact Below.refl _ _ | apply bdd)))))
  have HT2 := Lib.hid (show TokB W2 B by rw [← hW2]; exact HT1.out.later (by first | exact below_drewN _ _ | exact Below.refl _ _ | (repeat (first | exact Below.refl _ _ | apply bdd))))
  have ccl : W2.cell? ⟨R, 2 + y, none⟩ = some (.int .u8 (z : Int)) := by rw [← hW2]; simpa using ccl0
  have d1 := HR2.out.ca
  have df := HR2.out.fz
  clear hW2 HR1 HT1 HB1 c0 c1 cb hlt0 ccl0
  cases q1 : (x == 40) with
  | true =>
    rw [q1] at e40
    have HONE := Lib.hid (show oneR (bs.drop a0) = .tok 1 [40] 1 by rw [HDR.out]; simp only [oneR, q1]; simp)
    clear q1
    have hst : ∀ v : Int, v = (a0 : Int) + 1 → RdAt (W2.setCell ⟨R, 1, none⟩ (.int .i64 v)) R p c bs (a0 + 1) ∧ Only (· = R) W (W2.setCell ⟨R, 1, none⟩ (.int .i64 v)) ∧ TokB (W2.setCell ⟨R, 1, none⟩ (.int .i64 v)) B := fun v hv => ⟨HR2.out.set (by omega) (by have := HLT.out; omega), HO2.out.trans (only_set _ _ _ _), HT2.out.only (only_set _ _ _ _) (fun e => HRB.out e.symm)⟩
    obtain ⟨hr3, ho3, hT3⟩ := hst ((a0 : Int) + 1) rfl
    have HR3 := Lib.hid hr3
    have HO3 := Lib.hid ho3
    obtain ⟨v0, t0⟩ := hT3.c0
    obtain ⟨v1, t1⟩ := hT3.c1
    obtain ⟨v2, t2⟩ := hT3.c2
    have tf0 := hT3.fz 0
    have tf1 := hT3.fz 1
    have tf2 := hT3.fz 2
    clear hT3
    have hne1 : ¬ R = B := HRB.out
    have hne2 : ¬ B = R := fun e => HRB.out e.symm
    obtain ⟨x0, u0⟩ := HT2.out.c0
    obtain ⟨x1, u1⟩ := HT2.out.c1
    obtain ⟨x2, u2⟩ := HT2.out.c2
    have uf0 := HT2.out.fz 0
    have uf1 := HT2.out.fz 1
    have uf2 := HT2.out.fz 2
    clear hst hr3 ho3
    go_wp2_with fail
    obtain ⟨hO5, hR5⟩ := tok_end (v0 := .int .u8 1) (v1 := .string ⟨#[40]⟩) (v2 := .int .i64 0) (Nat.le_of_eq HBB.out) HR3.out HO3.out HRB.out (fun _ => HPB.out)
    refine bodyPost_ret (v := .tuple #[.agg #[.int .u8 1, .string ⟨#[40]⟩, .int .i64 0], .int .i64 0]) (by simp [results, Tryd.results36, go_sem, t0, t1, t2]) rfl ⟨hO5, ?_⟩
    rw [HONE.out]
    exact ⟨rfl, hR5⟩
  | false =>
    rw [q1] at e40
    cases q2 : (x == 41) with
    | true =>
      rw [q2] at e41
      have HONE := Lib.hid (show oneR (bs.drop a0) = .tok 2 [41] 1 by rw [HDR.out]; simp only [oneR, q1, q2]; simp)
      clear q1 q2
      have hst : ∀ v : Int, v = (a0 : Int) + 1 → RdAt (W2.setCell ⟨R, 1, none⟩ (.int .i64 v)) R p c bs (a0 + 1) ∧ Only (· = R) W (W2.setCell ⟨R, 1, none⟩ (.int .i64 v)) ∧ TokB (W2.setCell ⟨R, 1, none⟩ (.int .i64 v)) B := fun v hv => ⟨HR2.out.set (by omega) (by have := HLT.out; omega), HO2.out.trans (only_set _ _ _ _), HT2.out.only (only_set _ _ _ _) (fun e => HRB.out e.symm)⟩
      obtain ⟨hr3, ho3, hT3⟩ := hst ((a0 : Int) + 1) rfl
      have HR3 := Lib.hid hr3
      have HO3 := Lib.hid ho3
      obtain ⟨v0, t0⟩ := hT3.c0
      obtain ⟨v1, t1⟩ := hT3.c1
      obtain ⟨v2, t2⟩ := hT3.c2
      have tf0 := hT3.fz 0
      have tf1 := hT3.fz 1
      have tf2 := hT3.fz 2
      clear hT3
      have hne1 : ¬ R = B := HRB.out
      have hne2 : ¬ B = R := fun e => HRB.out e.symm
      obtain ⟨x0, u0⟩ := HT2.out.c0
      obtain ⟨x1, u1⟩ := HT2.out.c1
      obtain ⟨x2, u2⟩ := HT2.out.c2
      have uf0 := HT2.out.fz 0
      have uf1 := HT2.out.fz 1
      have uf2 := HT2.out.fz 2
      clear hst hr3 ho3
      go_wp2_with fail
      obtain ⟨hO5, hR5⟩ := tok_end (v0 := .int .u8 2) (v1 := .string ⟨#[41]⟩) (v2 := .int .i64 0) (Nat.le_of_eq HBB.out) HR3.out HO3.out HRB.out (fun _ => HPB.out)
      refine bodyPost_ret (v := .tuple #[.agg #[.int .u8 2, .string ⟨#[41]⟩, .int .i64 0], .int .i64 0]) (by simp [results, Tryd.results36, go_sem, t0, t1, t2]) rfl ⟨hO5, ?_⟩
      rw [HONE.out]
      exact ⟨rfl, hR5⟩
    | false =>
      rw [q2] at e41
      cases q3 : (x == 124) with
      | true =>
        rw [q3] at e124
        have hone := (show oneR (bs.drop a0) = quo [] (bs.drop (a0 + 1)) by rw [HDR.out]; simp only [oneR, q1, q2, q3]; simp)
        have hcall := quoted_any R p c bs a0 W2 HR2.out HLT.out
        clear q1 q2 q3
        generalize quo [] (bs.drop (a0 + 1)) = Q at *
        have HONE := Lib.hid hone
        have HC := Lib.hid hcall
        clear hone hcall
        go_wp2_with fail
        refine (HC.out).mono ?_
        rintro e w3 ⟨ho, hres⟩
        have HO3 := Lib.hid (HO2.out.trans ho)
        have hT3 := HT2.out.only ho (fun e => HRB.out e.symm)
        obtain ⟨v0, t0⟩ := hT3.c0
        obtain ⟨v1, t1⟩ := hT3.c1
        obtain ⟨v2, t2⟩ := hT3.c2
        have tf0 := hT3.fz 0
        have tf1 := hT3.fz 1
        have tf2 := hT3.fz 2
        clear hT3
        clear ho
        match Q, HONE, hres with
        | .tok k t n, HONE, hres =>
          obtain ⟨rfl, hr⟩ := hres
          have HR3 := Lib.hid hr
          clear hr
          unfold tokV
          go_wp2_with fail
          obtain ⟨hO5, hR5⟩ := tok_end (v0 := .int .u8 (k : Int)) (v1 := .string ⟨t.toArray⟩) (v2 := .int .i64 0) (Nat.le_of_eq HBB.out) HR3.out HO3.out HRB.out (fun _ => HPB.out)
          refine bodyPost_ret (v := .tuple #[.agg #[.int .u8 (k : Int), .string ⟨t.toArray⟩, .int .i64 0], .int .i64 0]) (by simp [results, Tryd.results36, go_sem, t0, t1, t2]) rfl ⟨hO5, ?_⟩
          rw [HONE.out]
          exact ⟨rfl, hR5⟩
        | .err er, HONE, hres =>
          subst hres
          unfold tokV
          go_wp2_with fail
          refine bodyPost_ret (v := .tuple #[tokV 0 [] 0, .int .i64 (er : Int)]) (by simp [results, Tryd.results36, go_sem, t0, t1, t2, tokV]) rfl ⟨?_, ?_⟩
          · exact (((HO3.out).new (Nat.le_of_eq HBB.out)).new (Nat.le_of_eq HBB.out)).new (Nat.le_of_eq HBB.out)
          · rw [HONE.out]; try rfl
      | false =>
        rw [q3] at e124
        cases q4 : (x == 34) with
        | true =>
          rw [q4] at e34
          have hone := (show oneR (bs.drop a0) = lit false [] 1 (bs.drop (a0 + 1)) by rw [HDR.out]; simp only [oneR, q1, q2, q3, q4]; simp)
          have hcall := literal_any R p c bs a0 W2 HR2.out HLT.out
          clear q1 q2 q3 q4
          generalize lit false [] 1 (bs.drop (a0 + 1)) = Q at *
          have HONE := Lib.hid hone
          have HC := Lib.hid hcall
          clear hone hcall
          go_wp2_with fail
          refine (HC.out).mono ?_
          rintro e w3 ⟨ho, hres⟩
          have HO3 := Lib.hid (HO2.out.trans ho)
          have hT3 := HT2.out.only ho (fun e => HRB.out e.symm)
          obtain ⟨v0, t0⟩ := hT3.c0
          obtain ⟨v1, t1⟩ := hT3.c1
          obtain ⟨v2, t2⟩ := hT3.c2
          have tf0 := hT3.fz 0
          have tf1 := hT3.fz 1
          have tf2 := hT3.fz 2
          clear hT3
          clear ho
          match Q, HONE, hres with
          | .tok k t n, HONE, hres =>
            obtain ⟨rfl, hr⟩ := hres
            have HR3 := Lib.hid hr
            clear hr
            unfold tokV
            go_wp2_with fail
            obtain ⟨hO5, hR5⟩ := tok_end (v0 := .int .u8 (k : Int)) (v1 := .string ⟨t.toArray⟩) (v2 := .int .i64 0) (Nat.le_of_eq HBB.out) HR3.out HO3.out HRB.out (fun _ => HPB.out)
            refine bodyPost_ret (v := .tuple #[.agg #[.int .u8 (k : Int), .string ⟨t.toArray⟩, .int .i64 0], .int .i64 0]) (by simp [results, Tryd.results36, go_sem, t0, t1, t2]) rfl ⟨hO5, ?_⟩
            rw [HONE.out]
            exact ⟨rfl, hR5⟩
          | .err er, HONE, hres =>
            subst hres
            unfold tokV
            go_wp2_with fail
            refine bodyPost_ret (v := .tuple #[tokV 0 [] 0, .int .i64 (er : Int)]) (by simp [results, Tryd.results36, go_sem, t0, t1, t2, tokV]) rfl ⟨?_, ?_⟩
            · exact (((HO3.out).new (Nat.le_of_eq HBB.out)).new (Nat.le_of_eq HBB.out)).new (Nat.le_of_eq HBB.out)
            · rw [HONE.out]; try rfl
        | false =>
          rw [q4] at e34
          cases q5 : (x == 58) with
          | true =>
            rw [q5] at e58
            have hone := (show oneR (bs.drop a0) = keyR (wordL (bs.drop (a0 + 1))) by rw [HDR.out]; simp only [oneR, q1, q2, q3, q4, q5]; simp)
            have hcall := keyword_any R p c bs a0 W2 HR2.out HLT.out
            clear q1 q2 q3 q4 q5
            generalize keyR (wordL (bs.drop (a0 + 1))) = Q at *
            have HONE := Lib.hid hone
            have HC := Lib.hid hcall
            clear hone hcall
            go_wp2_with fail
            refine (HC.out).mono ?_
            rintro e w3 ⟨ho, hres⟩
            have HO3 := Lib.hid (HO2.out.trans ho)
            have hT3 := HT2.out.only ho (fun e => HRB.out e.symm)
            obtain ⟨v0, t0⟩ := hT3.c0
            obtain ⟨v1, t1⟩ := hT3.c1
            obtain ⟨v2, t2⟩ := hT3.c2
            have tf0 := hT3.fz 0
            have tf1 := hT3.fz 1
            have tf2 := hT3.fz 2
            clear hT3
            clear ho
            match Q, HONE, hres with
            | .tok k t n, HONE, hres =>
              obtain ⟨rfl, hr⟩ := hres
              have HR3 := Lib.hid hr
              clear hr
              unfold tokV
              go_wp2_with fail
              obtain ⟨hO5, hR5⟩ := tok_end (v0 := .int .u8 (k : Int)) (v1 := .string ⟨t.toArray⟩) (v2 := .int .i64 0) (Nat.le_of_eq HBB.out) HR3.out HO3.out HRB.out (fun _ => HPB.out)
              refine bodyPost_ret (v := .tuple #[.agg #[.int .u8 (k : Int), .string ⟨t.toArray⟩, .int .i64 0], .int .i64 0]) (by simp [results, Tryd.results36, go_sem, t0, t1, t2]) rfl ⟨hO5, ?_⟩
              rw [HONE.out]
              exact ⟨rfl, hR5⟩
            | .err er, HONE, hres =>
              subst hres
              unfold tokV
              go_wp2_with fail
              refine bodyPost_ret (v := .tuple #[tokV 0 [] 0, .int .i64 (er : Int)]) (by simp [results, Tryd.results36, go_sem, t0, t1, t2, tokV]) rfl ⟨?_, ?_⟩
              · exact (((HO3.out).new (Nat.le_of_eq HBB.out)).new (Nat.le_of_eq HBB.out)).new (Nat.le_of_eq HBB.out)
              · rw [HONE.out]; try rfl
          | false =>
            rw [q5] at e58
            cases q6 : (x == 35) with
            | true =>
              rw [q6] at e35
              have hone := (show oneR (bs.drop a0) = basedR (wordL (bs.drop (a0 + 1))) by rw [HDR.out]; simp only [oneR, q1, q2, q3, q4, q5, q6]; simp)
              have hcall := based_any R p c bs a0 W2 HR2.out HLT.out
              clear q1 q2 q3 q4 q5 q6
              generalize basedR (wordL (bs.drop (a0 + 1))) = Q at *
              have HONE := Lib.hid hone
              have HC := Lib.hid hcall
              clear hone hcall
              go_wp2_with fail
              refine (HC.out).mono ?_
              rintro e w3 ⟨ho, hres⟩
              have HO3 := Lib.hid (HO2.out.trans ho)
              have hT3 := HT2.out.only ho (fun e => HRB.out e.symm)
              obtain ⟨v0, t0⟩ := hT3.c0
              obtain ⟨v1, t1⟩ := hT3.c1
              obtain ⟨v2, t2⟩ := hT3.c2
              have tf0 := hT3.fz 0
              have tf1 := hT3.fz 1
              have tf2 := hT3.fz 2
              clear hT3
              clear ho
              match Q, HONE, hres with
              | .tok k t n, HONE, hres =>
                obtain ⟨rfl, hr⟩ := hres
                have HR3 := Lib.hid hr
                clear hr
                unfold tokV
                go_wp2_with fail
                obtain ⟨hO5, hR5⟩ := tok_end (v0 := .int .u8 (k : Int)) (v1 := .string ⟨t.toArray⟩) (v2 := .int .i64 0) (Nat.le_of_eq HBB.out) HR3.out HO3.out HRB.out (fun _ => HPB.out)
                refine bodyPost_ret (v := .tuple #[.agg #[.int .u8 (k : Int), .string ⟨t.toArray⟩, .int .i64 0], .int .i64 0]) (by simp [results, Tryd.results36, go_sem, t0, t1, t2]) rfl ⟨hO5, ?_⟩
                rw [HONE.out]
                exact ⟨rfl, hR5⟩
              | .err er, HONE, hres =>
                subst hres
                unfold tokV
                go_wp2_with fail
                refine bodyPost_ret (v := .tuple #[tokV 0 [] 0, .int .i64 (er : Int)]) (by simp [results, Tryd.results36, go_sem, t0, t1, t2, tokV]) rfl ⟨?_, ?_⟩
                · exact (((HO3.out).new (Nat.le_of_eq HBB.out)).new (Nat.le_of_eq HBB.out)).new (Nat.le_of_eq HBB.out)
                · rw [HONE.out]; try rfl
            | false =>
              rw [q6] at e35
              cases q7 : syB x with
              | true =>
                rw [q7] at an
                have hone : oneR (bs.drop a0) = plainR (wordL (bs.drop a0)) := by
                  rw [HDR.out]
                  simp only [oneR, q1, q2, q3, q4, q5, q6, q7]
                  simp
                have hcall := plain_any R p c bs a0 W2 HR2.out HLT.out (by have := HX.out; rw [← this] at q7; exact q7)
                clear q1 q2 q3 q4 q5 q6 q7
                generalize plainR (wordL (bs.drop a0)) = Q at *
                have HONE := Lib.hid hone
                have HC := Lib.hid hcall
                clear hone hcall
                go_wp2_with fail
                refine (HC.out).mono ?_
                rintro e w3 ⟨ho, hres⟩
                have HO3 := Lib.hid (HO2.out.trans ho)
                have hT3 := HT2.out.only ho (fun e => HRB.out e.symm)
                obtain ⟨v0, t0⟩ := hT3.c0
                obtain ⟨v1, t1⟩ := hT3.c1
                obtain ⟨v2, t2⟩ := hT3.c2
                have tf0 := hT3.fz 0
                have tf1 := hT3.fz 1
                have tf2 := hT3.fz 2
                clear hT3
                clear ho
                match Q, HONE, hres with
                | .tok k t n, HONE, hres =>
                  obtain ⟨rfl, hr⟩ := hres
                  have HR3 := Lib.hid hr
                  clear hr
                  unfold tokV
                  go_wp2_with fail
                  obtain ⟨hO5, hR5⟩ := tok_end (v0 := .int .u8 (k : Int)) (v1 := .string ⟨t.toArray⟩) (v2 := .int .i64 0) (Nat.le_of_eq HBB.out) HR3.out HO3.out HRB.out (fun _ => HPB.out)
                  refine bodyPost_ret (v := .tuple #[.agg #[.int .u8 (k : Int), .string ⟨t.toArray⟩, .int .i64 0], .int .i64 0]) (by simp [results, Tryd.results36, go_sem, t0, t1, t2]) rfl ⟨hO5, ?_⟩
                  rw [HONE.out]
                  exact ⟨rfl, hR5⟩
                | .err er, HONE, hres =>
                  subst hres
                  unfold tokV
                  go_wp2_with fail
                  refine bodyPost_ret (v := .tuple #[tokV 0 [] 0, .int .i64 (er : Int)]) (by simp [results, Tryd.results36, go_sem, t0, t1, t2, tokV]) rfl ⟨?_, ?_⟩
                  · exact (((HO3.out).new (Nat.le_of_eq HBB.out)).new (Nat.le_of_eq HBB.out)).new (Nat.le_of_eq HBB.out)
                  · rw [HONE.out]; try rfl
              | false =>
                rw [q7] at an
                have HONE := Lib.hid (show oneR (bs.drop a0) = .err 30 by rw [HDR.out]; simp only [oneR, q1, q2, q3, q4, q5, q6, q7]; simp)
                clear q1 q2 q3 q4 q5 q6 q7
                have HR3 := HR2
                have HO3 := HO2
                have hT3 := HT2.out
                obtain ⟨v0, t0⟩ := hT3.c0
                obtain ⟨v1, t1⟩ := hT3.c1
                obtain ⟨v2, t2⟩ := hT3.c2
                have tf0 := hT3.fz 0
                have tf1 := hT3.fz 1
                have tf2 := hT3.fz 2
                clear hT3
                go_wp2_with fail
                refine bodyPost_ret (v := .tuple #[tokV 0 [] 0, .int .i64 30]) (by simp [results, Tryd.results36, go_sem, t0, t1, t2, tokV]) rfl ⟨?_, ?_⟩
                · exact (((HO3.out).new (Nat.le_of_eq HBB.out)).new (Nat.le_of_eq HBB.out)).new (Nat.le_of_eq HBB.out)
                · rw [HONE.out]; try rfl
end Go.Proofs.YtlifankiljbdjaaDoor
