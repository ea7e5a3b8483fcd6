/- quoted. -/
import Derived.Test.YtlifankiljbdjaaDoorW3
import Derived.Deep.RegionHeld3
namespace Go.Proofs.YtlifankiljbdjaaDoor
open Go Go.RowKit

def tokV (k : Nat) (t : List UInt8) (a : Nat) : Value := .agg #[.int .u8 (k : Int), .string ⟨t.toArray⟩, .int .i64 (a : Int)]
/-- what a reader's reading of one token answers. -/
def TokRes (R : Nat) (p : Option Addr) (c : Nat) (bs : List UInt8) (a0 : Nat) (W : World) (r : Res) (e : Ending) (w' : World) : Prop :=
  Only (· = R) W w' ∧ match r with
  | .tok k t n => e = .returned (.tuple #[tokV k t 0, .int .i64 0]) ∧ RdAt w' R p c bs (a0 + n)
  | .err er => e = .returned (.tuple #[tokV 0 [] 0, .int .i64 (er : Int)])
/-- the text so far: nil, or a row of the call's own -/
def u8v (x : UInt8) : Value := .int .u8 (x.toNat : Int)
/-- a token that is being made, in block b. -/
structure TokB (W : World) (b : Nat) : Prop where
  c0 : ∃ v, W.cell? ⟨b, 0, none⟩ = some (.int .u8 v)
  c1 : ∃ v, W.cell? ⟨b, 1, none⟩ = some (.string v)
  c2 : ∃ v, W.cell? ⟨b, 2, none⟩ = some (.int .i64 v)
  fz : ∀ o, W.frozen? ⟨b, o, none⟩ = false
theorem tokB_new (W : World) : TokB (W.alloc (.cells #[.int .u8 0, .string ByteArray.empty, .int .i64 0] 33)) W.heap.size :=
  ⟨⟨0, by simp [go_sem]⟩, ⟨ByteArray.empty, by simp [go_sem]⟩, ⟨0, by simp [go_sem]⟩, fun o => by simp [go_sem]⟩
theorem TokB.later {W W' : World} {b : Nat} (h : TokB W b) (hb : Below W.heap.size W W') : TokB W' b := by
  obtain ⟨v0, h0⟩ := h.c0
  obtain ⟨v1, h1⟩ := h.c1
  obtain ⟨v2, h2⟩ := h.c2
  exact ⟨⟨v0, cell_later hb h0⟩, ⟨v1, cell_later hb h1⟩, ⟨v2, cell_later hb h2⟩, fun o => by rw [hb.frozen (p := ⟨b, o, none⟩) (World.block_lt_of_cell? W ⟨b, 0, none⟩ h0)]; exact h.fz o⟩
theorem TokB.only {W W' : World} {b : Nat} {T : Nat → Prop} (h : TokB W b) (ho : Only T W W') (hn : ¬ T b) : TokB W' b := by
  obtain ⟨v0, h0⟩ := h.c0
  obtain ⟨v1, h1⟩ := h.c1
  obtain ⟨v2, h2⟩ := h.c2
  exact ⟨⟨v0, ho.cell h0 hn⟩, ⟨v1, ho.cell h1 hn⟩, ⟨v2, ho.cell h2 hn⟩, fun o => by rw [ho.frozen (a := ⟨b, o, none⟩) (World.block_lt_of_cell? W ⟨b, 0, none⟩ h0) hn]; exact h.fz o⟩
theorem eq_u8 (n : Nat) (h : (List.range 256).all (fun m => ((UInt8.ofNat m).toNat == n) == (UInt8.ofNat m == UInt8.ofNat n)) = true) (c : UInt8) : ((c.toNat : Int) == (n : Int)) = (c == UInt8.ofNat n) := by
  have := u8_all (p := fun c => (c.toNat == n) == (c == UInt8.ofNat n)) h c
  rw [← eq_of_beq this]
  rw [Bool.eq_iff_iff]; simp; omega
theorem take_more {bs : List UInt8} {P a : Nat} (h1 : P ≤ a) (h : a < bs.length) : (bs.drop P).take (a + 1 - P) = (bs.drop P).take (a - P) ++ [bs[a]] := by
  rw [show a + 1 - P = a - P + 1 by omega, List.take_succ_eq_append_getElem (by simp; omega)]
  simp only [List.getElem_drop]
  congr 3
  omega
set_option maxRecDepth 100000 in
set_option maxHeartbeats 3200000 in
theorem quoted_any (R : Nat) (p : Option Addr) (c : Nat) (bs : List UInt8) (a0 : Nat) (W : World) (h : RdAt W R p c bs a0) (hlt0 : a0 < bs.length) :
    Calls Tryd.prog 57 #[.pointer (some ⟨R, 0, none⟩)] W (TokRes R p c bs a0 W (quo [] (bs.drop (a0 + 1)))) := by
  have H := Lib.hid h
  have hn := h.hn
  have hc1 := h.ca
  have hf1 := h.fz
  have hR := h.hl
  generalize hQ : quo [] (bs.drop (a0 + 1)) = Q
  have HQ := Lib.hid hQ
  clear h hQ
  go_enter Tryd.func57, Tryd.ntmps57
  go_wp2_with fail
  generalize hW1 : (W.setCell _ _).alloc _ = W1
  obtain ⟨P, hP⟩ : ∃ P, P = a0 + 1 := ⟨_, rfl⟩
  have hPi : (a0 : Int) + 1 = (P : Int) := by omega
  rw [hPi] at hW1 ⊢
  have h1 := H.out.set (v := (P : Int)) (a' := P) rfl (by omega)
  have hOW := only_set W R 1 (.int .i64 (P : Int))
  have hB1 := below1 (W.setCell ⟨R, 1, none⟩ (.int .i64 (P : Int))) (.cells #[.int .u8 0, .string ByteArray.empty, .int .i64 0] 33)
  have hTB := tokB_new (W.setCell ⟨R, 1, none⟩ (.int .i64 (P : Int)))
  rw [World.size_setCell] at hTB
  have HI0 := Lib.hid (show RdAt W1 R p c bs P ∧ Only (· = R) W W1 ∧ TokB W1 W.heap.size by
    rw [← hW1]
    exact ⟨h1.later hB1, hOW.trans (Only.of_below hB1), hTB⟩)
  have HQ2 := Lib.hid (show quo ((bs.drop P).take (P - P)) (bs.drop P) = Q by rw [Nat.sub_self, List.take_zero, hP]; exact HQ.out)
  have HRB := Lib.hid (show R ≠ W.heap.size by omega)
  have HP := Lib.hid hP
  have HPB := Lib.hid (H.out.bi.lt (by omega))
  clear hP hPi hW1 h1 hOW hB1 hTB hc1 hf1 HQ H hR
  generalize hB : W.heap.size = B at *
  have HBB := Lib.hid hB
  clear hB
  go_loopg [5] (bs.length + 1) (fun gk s5 wx => ∃ a : Nat, Hid (P ≤ a ∧ a ≤ bs.length ∧ bs.length + 1 ≤ a + gk ∧ quo ((bs.drop P).take (a - P)) (bs.drop a) = Q ∧ RdAt wx R p c bs a ∧ Only (· = R) W wx ∧ TokB wx B))
  case atStart => exact ⟨P, Lib.hid ⟨Nat.le_refl _, HI0.out.1.ha, by omega, HQ2.out, HI0.out.1, HI0.out.2.1, HI0.out.2.2⟩⟩
  case round =>
    obtain ⟨a, HI⟩ := hrel
    clear HI0 HQ2
    obtain ⟨h0, h1, h2, h3, hr, ho, ht⟩ := HI.out
    have c0 := hr.cb
    have c1 := hr.ca
    have f1 := hr.fz
    have HG := Lib.hid h2
    have HE := Lib.hid h3
    have HO := Lib.hid ho
    have HR := Lib.hid hr
    have HT := Lib.hid ht
    clear h2 h3 ho HI ht
    obtain ⟨n, hnl⟩ : ∃ n, n = bs.length := ⟨_, rfl⟩
    have HL := Lib.hid hnl
    rw [← hnl] at c0 hn h1 hlt0
    clear hnl
    by_cases hlt : a < n
    · obtain ⟨G, rfl⟩ : ∃ G, gk = G + 1 := ⟨gk - 1, by have := HG.out; have := HL.out; omega⟩
      have i1 : (a : Int) < (n : Int) := by omega
      have i0 : (0 : Int) ≤ (a : Int) := by omega
      have hab : a < bs.length := by have := HL.out; omega
      have hd := drop_at hab
      have htm := take_more h0 hab
      obtain ⟨b, off, rfl, cb⟩ := hr.bi a hab
      have ccl := hr.cl bs[a]
      obtain ⟨hz, hz0⟩ := byte_gt (x := bs[a])
      have an := not_ne (and16 bs[a])
      have e124 : ((bs[a].toNat : Int) == 124) = (bs[a] == 124) := eq_u8 124 (by decide +kernel) _
      have e92 : ((bs[a].toNat : Int) == 92) = (bs[a] == 92) := eq_u8 92 (by decide +kernel) _
      generalize bs[a] = x at *
      generalize x.toNat = y at *
      generalize clB x = z at *
      have HD := Lib.hid hd
      have HTM := Lib.hid htm
      clear hr hd htm
      cases q1 : (x == 124) with
      | true =>
        rw [q1] at e124
        have hres : Q = .tok 3 ((bs.drop P).take (a - P)) (a - P + 2) := by
          have := HE.out; rw [HD.out] at this; simp only [quo, q1, if_true] at this
          rw [← this]; congr 1; simp; omega
        have HRES := Lib.hid hres
        clear q1 hres e92 an
        go_wp2_with fail
        go_quiet (fail)
        go_wp2_with fail
        go_quiet (fail)
        go_wp2_with fail
        obtain ⟨A1, hA1⟩ : ∃ A1, A1 = a + 1 := ⟨_, rfl⟩
        have hA1i : (a : Int) + 1 = (A1 : Int) := by omega
        rw [hA1i]
        generalize hW2 : (wr.drewN _).setCell _ _ = W2
        have HR2 := Lib.hid (show RdAt W2 R (some ⟨b, off, none⟩) c bs A1 from by rw [← hW2]; exact (HR.out.later (by first | exact below_drewN _ _ | exact Below.refl _ _ | (repeat (first | exact Below.refl _ _ | apply bdd)))).set rfl (by omega))
        have HO2 := Lib.hid (show Only (· = R) W W2 from by rw [← hW2]; exact (HO.out.trans (Only.of_below (by first | exact below_drewN _ _ | exact Below.refl _ _ | (repeat (first | exact Below.refl _ _ | apply bdd))))).trans (only_set _ _ _ _))
        have HT2 := Lib.hid (show TokB W2 B from by rw [← hW2]; exact (HT.out.later (by first | exact below_drewN _ _ | exact Below.refl _ _ | (repeat (first | exact Below.refl _ _ | apply bdd)))).only (only_set _ _ _ _) (fun e => HRB.out e.symm))
        have HA1 := Lib.hid hA1
        clear hW2 c0 c1 f1 ccl cb HR HO HT hA1 hA1i
        have d0 := HR2.out.cb
        have d1 := HR2.out.ca
        obtain ⟨V, hsl, hcv0⟩ := slice_conv W2 _ bs c P a HR2.out.bi h0 (by have := HL.out; omega) HR2.out.hk
        have hcv := fun n => hcv0 (W2.drewN n) (below_drewN _ _)
        have hcv1 := hcv0 W2.drew (below_drew _)
        have hcv2 := hcv0 W2 (Below.refl _ _)
        rw [← HL.out] at d0 hsl
        have hA2 : IntKind.i64.wrap ((A1 : Int) - 1) = (a : Int) := by rw [IntWalk.i64_in _ (by have := HA1.out; omega)]; have := HA1.out; omega
        obtain ⟨v0, t0⟩ := HT2.out.c0
        obtain ⟨v1, t1⟩ := HT2.out.c1
        obtain ⟨v2, t2⟩ := HT2.out.c2
        have tf0 := HT2.out.fz 0
        have tf1 := HT2.out.fz 1
        have tf2 := HT2.out.fz 2
        clear hcv0
        go_region
        all_goals go_wp2_with fail
        have hO3 := ((HO2.out.new (b := B) (o := 0) (v := .int .u8 3) (Nat.le_of_eq HBB.out)).new (b := B) (o := 1) (v := .string ⟨((bs.drop P).take (a - P)).toArray⟩) (Nat.le_of_eq HBB.out)).new (b := B) (o := 2) (v := .int .i64 0) (Nat.le_of_eq HBB.out)
        have hset : Only (· = B) W2 (((W2.setCell ⟨B, 0, none⟩ (.int .u8 3)).setCell ⟨B, 1, none⟩ (.string ⟨((bs.drop P).take (a - P)).toArray⟩)).setCell ⟨B, 2, none⟩ (.int .i64 0)) := ((only_set _ B 0 _).trans (only_set _ B 1 _)).trans (only_set _ B 2 _)
        have hfin := (HR2.out.only hset HRB.out (fun hp b off e => by have := HPB.out b off e; show ¬ b = B; omega)).later (below_drew _)
        refine bodyPost_ret (v := .tuple #[tokV 3 ((bs.drop P).take (a - P)) 0, .int .i64 0]) (by simp [results, Tryd.results57, go_sem, t0, t1, t2, tokV]) rfl ⟨hO3.trans (Only.of_below (below_drew _)), ?_⟩
        rw [HRES.out]
        refine ⟨rfl, ?_⟩
        have e : a0 + (a - P + 2) = A1 := by have := HA1.out; have := HP.out; omega
        rw [e]; exact hfin
      | false =>
        rw [q1] at e124
        cases q2 : (x == 92) with
        | true =>
          rw [q2] at e92
          have HRES := Lib.hid (show Q = .err 30 by
            have := HE.out; rw [HD.out] at this; simp only [quo, q1, q2] at this; simpa using this.symm)
          clear q1 q2 an
          obtain ⟨v0, t0⟩ := HT.out.c0
          obtain ⟨v1, t1⟩ := HT.out.c1
          obtain ⟨v2, t2⟩ := HT.out.c2
          have tf0 := HT.out.fz 0
          have tf1 := HT.out.fz 1
          have tf2 := HT.out.fz 2
          go_wp2_with fail
          go_quiet (fail)
          go_wp2_with fail
          go_quiet (fail)
          go_wp2_with fail
          refine bodyPost_ret (v := .tuple #[tokV 0 [] 0, .int .i64 30]) (by simp [results, Tryd.results57, go_sem, t0, t1, t2, tokV]) rfl ⟨?_, ?_⟩
          · exact (((HO.out.trans (Only.of_below (by first | exact below_drewN _ _ | exact Below.refl _ _ | (repeat (first | exact Below.refl _ _ | apply bdd))))).new (Nat.le_of_eq HBB.out)).new (Nat.le_of_eq HBB.out)).new (Nat.le_of_eq HBB.out)
          · rw [HRES.out]; rfl
        | false =>
          rw [q2] at e92
          cases q3 : txB x with
          | false =>
            rw [q3] at an
            have an2 : (bits BinOp.and IntKind.u8 (z : Int) 16 == 0) = true := an
            clear an
            have HRES := Lib.hid (show Q = .err 30 by
              have := HE.out; rw [HD.out] at this; simp only [quo, q1, q2, q3] at this; simpa using this.symm)
            clear q1 q2 q3
            obtain ⟨v0, t0⟩ := HT.out.c0
            obtain ⟨v1, t1⟩ := HT.out.c1
            obtain ⟨v2, t2⟩ := HT.out.c2
            have tf0 := HT.out.fz 0
            have tf1 := HT.out.fz 1
            have tf2 := HT.out.fz 2
            go_wp2_with fail
            go_quiet (fail)
            go_wp2_with fail
            go_quiet (fail)
            go_wp2_with fail
            refine bodyPost_ret (v := .tuple #[tokV 0 [] 0, .int .i64 30]) (by simp [results, Tryd.results57, go_sem, t0, t1, t2, tokV]) rfl ⟨?_, ?_⟩
            · exact (((HO.out.trans (Only.of_below (by first | exact below_drewN _ _ | exact Below.refl _ _ | (repeat (first | exact Below.refl _ _ | apply bdd))))).new (Nat.le_of_eq HBB.out)).new (Nat.le_of_eq HBB.out)).new (Nat.le_of_eq HBB.out)
            · rw [HRES.out]; rfl
          | true =>
            rw [q3] at an
            have an2 : (bits BinOp.and IntKind.u8 (z : Int) 16 == 0) = false := an
            clear an
            have HRES := Lib.hid (show quo ((bs.drop P).take (a + 1 - P)) (bs.drop (a + 1)) = Q by
              have := HE.out; rw [HD.out] at this; simp only [quo, q1, q2, q3] at this; rw [HTM.out]; simpa using this)
            clear q1 q2 q3
            go_wp2_with fail
            go_quiet (fail)
            go_wp2_with fail
            go_quiet (fail)
            go_wp2_with fail
            go_roundg G
            case measure => omega
            case rel =>
              have hl := HL.out
              have hg := HG.out
              obtain ⟨a', ha'⟩ : ∃ a', a' = a + 1 := ⟨_, rfl⟩
              refine ⟨a', Lib.hid ⟨by omega, by omega, by omega, by rw [ha']; exact HRES.out, ?_, ?_, ?_⟩⟩
              all_goals (try rw [ha'])
              · exact (HR.out.later (by first | exact below_drewN _ _ | exact Below.refl _ _ | (repeat (first | exact Below.refl _ _ | apply bdd)))).set (by omega) (by omega)
              · exact (HO.out.trans (Only.of_below (by first | exact below_drewN _ _ | exact Below.refl _ _ | (repeat (first | exact Below.refl _ _ | apply bdd))))).trans (only_set _ _ _ _)
              · exact (HT.out.later (by first | exact below_drewN _ _ | exact Below.refl _ _ | (repeat (first | exact Below.refl _ _ | apply bdd)))).only (only_set _ _ _ _) (fun e => HRB.out e.symm)
    · have HRES := Lib.hid (show Q = .err 31 by
        have hl := HL.out
        have := HE.out; rw [List.drop_of_length_le (show bs.length ≤ a by omega)] at this; simp only [quo] at this; exact this.symm)
      clear hr
      obtain ⟨v0, t0⟩ := HT.out.c0
      obtain ⟨v1, t1⟩ := HT.out.c1
      obtain ⟨v2, t2⟩ := HT.out.c2
      have tf0 := HT.out.fz 0
      have tf1 := HT.out.fz 1
      have tf2 := HT.out.fz 2
      go_wp2_with fail
      go_quiet (fail)
      go_wp2_with fail
      refine bodyPost_ret (v := .tuple #[tokV 0 [] 0, .int .i64 31]) (by simp [results, Tryd.results57, go_sem, t0, t1, t2, tokV]) rfl ⟨?_, ?_⟩
      · exact (((HO.out.trans (Only.of_below (by first | exact below_drewN _ _ | exact Below.refl _ _ | (repeat (first | exact Below.refl _ _ | apply bdd))))).new (Nat.le_of_eq HBB.out)).new (Nat.le_of_eq HBB.out)).new (Nat.le_of_eq HBB.out)
      · rw [HRES.out]; rfl
end Go.Proofs.YtlifankiljbdjaaDoor
