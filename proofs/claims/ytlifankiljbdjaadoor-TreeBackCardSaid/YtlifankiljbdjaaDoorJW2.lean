/- The reader: quoted texts. -/
import Derived.Test.YtlifankiljbdjaaDoorJW1
import Derived.Deep.RegionHeld3
namespace Go.Proofs.YtlifankiljbdjaaDoor
open Go Go.RowKit

def tokV (k : Nat) (t : List UInt8) (a : Nat) : Value := .agg #[.int .u8 (k : Int), .string ⟨t.toArray⟩, .int .i64 (a : Int)]
/-- what a reader's reading of one token answers. -/
def TokRes (R : Nat) (p : Option Addr) (c : Nat) (bs : List UInt8) (a0 : Nat) (W : World) (r : Res) (e : Ending) (w' : World) : Prop :=
  Only (· = R) W w' ∧ match r with
  | .tok k t n => e = .returned (.tuple #[tokV k t 0, .int .i64 0]) ∧ RdAt w' R p c bs (a0 + n)
  | .err er => e = .returned (.tuple #[tokV 0 [] 0, .int .i64 (er : Int)])
/-- the text so far: nil, or a row of the call's own -/
def u8v (x : UInt8) : Value := .int .u8 (x.toNat : Int)
/-- a token that is being made, in block b. -/
structure TokB (W : World) (b : Nat) : Prop where
  c0 : ∃ v, W.cell? ⟨b, 0, none⟩ = some (.int .u8 v)
  c1 : ∃ v, W.cell? ⟨b, 1, none⟩ = some (.string v)
  c2 : ∃ v, W.cell? ⟨b, 2, none⟩ = some (.int .i64 v)
  fz : ∀ o, W.frozen? ⟨b, o, none⟩ = false
theorem tokB_new (W : World) : TokB (W.alloc (.cells #[.int .u8 0, .string ByteArray.empty, .int .i64 0] 33)) W.heap.size :=
  ⟨⟨0, by simp [go_sem]⟩, ⟨ByteArray.empty, by simp [go_sem]⟩, ⟨0, by simp [go_sem]⟩, fun o => by simp [go_sem]⟩
theorem TokB.later {W W' : World} {b : Nat} (h : TokB W b) (hb : Below W.heap.size W W') : TokB W' b := by
  obtain ⟨v0, h0⟩ := h.c0
  obtain ⟨v1, h1⟩ := h.c1
  obtain ⟨v2, h2⟩ := h.c2
  exact ⟨⟨v0, cell_later hb h0⟩, ⟨v1, cell_later hb h1⟩, ⟨v2, cell_later hb h2⟩, fun o => by rw [hb.frozen (p := ⟨b, o, none⟩) (World.block_lt_of_cell? W ⟨b, 0, none⟩ h0)]; exact h.fz o⟩
theorem TokB.only {W W' : World} {b : Nat} {T : Nat → Prop} (h : TokB W b) (ho : Only T W W') (hn : ¬ T b) : TokB W' b := by
  obtain ⟨v0, h0⟩ := h.c0
  obtain ⟨v1, h1⟩ := h.c1
  obtain ⟨v2, h2⟩ := h.c2
  exact ⟨⟨v0, ho.cell h0 hn⟩, ⟨v1, ho.cell h1 hn⟩, ⟨v2, ho.cell h2 hn⟩, fun o => by rw [ho.frozen (a := ⟨b, o, none⟩) (World.block_lt_of_cell? W ⟨b, 0, none⟩ h0) hn]; exact h.fz o⟩
theorem eq_u8 (n : Nat) (h : (List.range 256).all (fun m => ((UInt8.ofNat m).toNat == n) == (UInt8.ofNat m == UInt8.ofNat n)) = true) (c : UInt8) : ((c.toNat : Int) == (n : Int)) = (c == UInt8.ofNat n) := by
  have := u8_all (p := fun c => (c.toNat == n) == (c == UInt8.ofNat n)) h c
  rw [← eq_of_beq this]
  rw [Bool.eq_iff_iff]; simp; omega
theorem take_more {bs : List UInt8} {P a : Nat} (h1 : P ≤ a) (h : a < bs.length) : (bs.drop P).take (a + 1 - P) = (bs.drop P).take (a - P) ++ [bs[a]] := by
  rw [show a + 1 - P = a - P + 1 by omega, List.take_succ_eq_append_getElem (by simp; omega)]
  simp only [List.getElem_drop]
  congr 3
  omega
set_option maxRecDepth 100000 in
set_option maxHeartbeats 3200000 in
theorem quoted_any (R : Nat) (p : Option Addr) (c : Nat) (bs : List UInt8) (a0 : Nat) (W : World) (h : RdAt W R p c bs a0) (hlt0 : a0 < bs.length) :
    Calls Tryd.prog 57 #[.pointer (some ⟨R, 0, none⟩)] W (TokRes R p c bs a0 W (quo [] (bs.drop (a0 + 1)))) := by
  have H := Lib.hid h
  have hn := h.hn
  have hc1 := h.ca
  have hf1 := h.fz
  have hR := h.hl
  generalize hQ : quo [] (bs.drop (a0 + 1)) = Q
  have HQ := Lib.hid hQ
  clear h hQ
  go_enter Tryd.func57, Tryd.ntmps57
  go_wp2_with fail
  generalize hW1 : (W.setCell _ _).alloc _ = W1
  obtain ⟨P, hP⟩ : ∃ P, P = a0 + 1 := ⟨_, rfl⟩
  have hPi : (a0 : Int) + 1 = (P : Int) := by omega
  rw [hPi] at hW1 ⊢
  have h1 := H.out.set (v := (P : Int)) (a' := P) rfl (by omega)
  have hOW := only_set W R 1 (.int .i64 (P : Int))
  have hB1 := below1 (W.setCell ⟨R, 1, none⟩ (.int .i64 (P : Int))) (.cells #[.int .u8 0, .string ByteArray.empty, .int .i64 0] 33)
  have hTB := tokB_new (W.setCell ⟨R, 1, none⟩ (.int .i64 (P : Int)))
  rw [World.size_setCell] at hTB
  have HI0 := Lib.hid (show RdAt W1 R p c bs P ∧ Only (· = R) W W1 ∧ TokB W1 W.heap.size by
    rw [← hW1]
    exact ⟨h1.later hB1, hOW.trans (Only.of_below hB1), hTB⟩)
  have HQ2 := Lib.hid (show quo ((bs.drop P).take (P - P)) (bs.drop P) = Q by rw [Nat.sub_self, List.take_zero, hP]; exact HQ.out)
  have HRB := Lib.hid (show R ≠ W.heap.size by omega)
  have HP := Lib.hid hP
  have HPB := Lib.hid (H.out.bi.lt (by omega))
  clear hP hPi hW1 h1 hOW hB1 hTB hc1 hf1 HQ H hR
  generalize hB : W.heap.size = B at *
  have HBB := Lib.hid hB
  clear hB
  go_loopg [5] (bs.length + 1) (fun gk s5 wx => ∃ a : Nat, Hid (P ≤ a ∧ a ≤ bs.length ∧ bs.length + 1 ≤ a + gk ∧ quo ((bs.drop P).take (a - P)) (bs.drop a) = Q ∧ RdAt wx R p c bs a ∧ Only (· = R) W wx ∧ TokB wx B))
  case atStart => exact ⟨P, Lib.hid ⟨Nat.le_refl _, HI0.out.1.ha, by omega, HQ2.out, HI0.out.1, HI0.out.2.1, HI0.out.2.2⟩⟩
  case round =>
    obtain ⟨a, HI⟩ := hrel
    clear HI0 HQ2
    obtain ⟨h0, h1, h2, h3, hr, ho, ht⟩ := HI.out
    have c0 := hr.cb
    have c1 := hr.ca
    have f1 := hr.fz
    have HG := Lib.hid h2
    have HE := Lib.hid h3
    have HO := Lib.hid ho
    have HR := Lib.hid hr
    have HT := Lib.hid ht
    clear h2 h3 ho HI ht
    obtain ⟨n, hnl⟩ : ∃ n, n = bs.length := ⟨_, rfl⟩
    have HL := Lib.hid hnl
    rw [← hnl] at c0 hn h1 hlt0
    clear hnl
    by_cases hlt : a < n
    · obtain ⟨G, rfl⟩ : ∃ G, gk = G + 1 := ⟨gk - 1, by have := HG.out; have := HL.out; omega⟩
      have i1 : (a : Int) < (n : Int) := by omega
      have i0 : (0 : Int) ≤ (a : Int) := by omega
      have hab : a < bs.length := by have := HL.out; omega
      have hd := drop_at hab
      have htm := take_more h0 hab
      obtain ⟨b, off, rfl, cb⟩ := hr.bi a hab
      have ccl := hr.cl bs[a]
      obtain ⟨hz, hz0⟩ := byte_gt (x := bs[a])
      have an := not_ne (and16 bs[a])
      have e124 : ((bs[a].toNat : Int) == 124) = (bs[a] == 124) := eq_u8 124 (by decide +kernel) _
      have e92 : ((bs[a].toNat : Int) == 92) = (bs[a] == 92) := eq_u8 92 (by decide +kernel) _
      generalize bs[a] = x at *
      generalize x.toNat = y at *
      generalize clB x = z at *
      have HD := Lib.hid hd
      have HTM := Lib.hid htm
      clear hr hd htm
      cases q1 : (x == 124) with
      | true =>
        rw [q1] at e124
        have hres : Q = .tok 3 ((bs.drop P).take (a - P)) (a - P + 2) := by
          have := HE.out; rw [HD.out] at this; simp only [quo, q1, if_true] at this
          rw [← this]; congr 1; simp; omega
        have HRES := Lib.hid hres
        clear q1 hres e92 an
        go_wp2_with fail
        go_quiet (fail)
        go_wp2_with fail
        go_quiet (fail)
        go_wp2_with fail
        obtain ⟨A1, hA1⟩ : ∃ A1, A1 = a + 1 := ⟨_, rfl⟩
        have hA1i : (a : Int) + 1 = (A1 : Int) := by omega
        rw [hA1i]
        generalize hW2 : (wr.drewN _).setCell _ _ = W2
        have HR2 := Lib.hid (show RdAt W2 R (some ⟨b, off, none⟩) c bs A1 from by rw [← hW2]; exact (HR.out.later (by first | exact below_drewN _ _ | exact Below.refl _ _ | (repeat (first | exact Below.refl _ _ | apply bdd)))).set rfl (by omega))
        have HO2 := Lib.hid (show Only (· = R) W W2 from by rw [← hW2]; exact (HO.out.trans (Only.of_below (by first | exact below_drewN _ _ | exact Below.refl _ _ | (repeat (first | exact Below.refl _ _ | apply bdd))))).trans (only_set _ _ _ _))
        have HT2 := Lib.hid (show TokB W2 B from by rw [← hW2]; exact (HT.out.later (by first | exact below_drewN _ _ | exact Below.refl _ _ | (repeat (first | exact Below.refl _ _ | apply bdd)))).only (only_set _ _ _ _) (fun e => HRB.out e.symm))
        have HA1 := Lib.hid hA1
        clear hW2 c0 c1 f1 ccl cb HR HO HT hA1 hA1i
        have d0 := HR2.out.cb
        have d1 := HR2.out.ca
        obtain ⟨V, hsl, hcv0⟩ := slice_conv W2 _ bs c P a HR2.out.bi h0 (by have := HL.out; omega) HR2.out.hk
        have hcv := fun n => hcv0 (W2.drewN n) (below_drewN _ _)
        have hcv1 := hcv0 W2.drew (below_drew _)
        have hcv2 := hcv0 W2 (Below.refl _ _)
        rw [← HL.out] at d0 hsl
        have hA2 : IntKind.i64.wrap ((A1 : Int) - 1) = (a : Int) := by rw [IntWalk.i64_in _ (by have := HA1.out; omega)]; have := HA1.out; omega
        obtain ⟨v0, t0⟩ := HT2.out.c0
        obtain ⟨v1, t1⟩ := HT2.out.c1
        obtain ⟨v2, t2⟩ := HT2.out.c2
        have tf0 := HT2.out.fz 0
        have tf1 := HT2.out.fz 1
        have tf2 := HT2.out.fz 2
        clear hcv0
        go_region
        all_goals go_wp2_with fail
        have hO3 := ((HO2.out.new (b := B) (o := 0) (v := .int .u8 3) (Nat.le_of_eq HBB.out)).new (b := B) (o := 1) (v := .string ⟨((bs.drop P).take (a - P)).toArray⟩) (Nat.le_of_eq HBB.out)).new (b := B) (o := 2) (v := .int .i64 0) (Nat.le_of_eq HBB.out)
        have hset : Only (· = B) W2 (((W2.setCell ⟨B, 0, none⟩ (.int .u8 3)).setCell ⟨B, 1, none⟩ (.string ⟨((bs.drop P).take (a - P)).toArray⟩)).setCell ⟨B, 2, none⟩ (.int .i64 0)) := ((only_set _ B 0 _).trans (only_set _ B 1 _)).trans (only_set _ B 2 _)
        have hfin := (HR2.out.only hset HRB.out (fun hp b off e => by have := HPB.out b off e; show ¬ b = B; omega)).later (below_drew _)
        refine bodyPost_ret (v := .tuple #[tokV 3 ((bs.drop P).take (a - P)) 0, .int .i64 0]) (by simp [results, Tryd.results57, go_sem, t0, t1, t2, tokV]) rfl ⟨hO3.trans (Only.of_below (below_drew _)), ?_⟩
        rw [HRES.out]
        refine ⟨rfl, ?_⟩
        have e : a0 + (a - P + 2) = A1 := by have := HA1.out; have := HP.out; omega
        rw [e]; exact hfin
      | false =>
        rw [q1] at e124
        cases q2 : (x == 92) with
        | true =>
          rw [q2] at e92
          have HRES := Lib.hid (show Q = .err 30 by
            have := HE.out; rw [HD.out] at this; simp only [quo, q1, q2] at this; simpa using this.symm)
          clear q1 q2 an
          obtain ⟨v0, t0⟩ := HT.out.c0
          obtain ⟨v1, t1⟩ := HT.out.c1
          obtain ⟨v2, t2⟩ := HT.out.c2
          have tf0 := HT.out.fz 0
          have tf1 := HT.out.fz 1
          have tf2 := HT.out.fz 2
          go_wp2_with fail
          go_quiet (fail)
          go_wp2_with fail
          go_quiet (fail)
          go_wp2_with fail
          refine bodyPost_ret (v := .tuple #[tokV 0 [] 0, .int .i64 30]) (by simp [results, Tryd.results57, go_sem, t0, t1, t2, tokV]) rfl ⟨?_, ?_⟩
          · exact (((HO.out.trans (Only.of_below (by first | exact below_drewN _ _ | exact Below.refl _ _ | (repeat (first | exact Below.refl _ _ | apply bdd))))).new (Nat.le_of_eq HBB.out)).new (Nat.le_of_eq HBB.out)).new (Nat.le_of_eq HBB.out)
          · rw [HRES.out]; rfl
        | false =>
          rw [q2] at e92
          cases q3 : txB x with
          | false =>
            rw [q3] at an
            have an2 : (bits BinOp.and IntKind.u8 (z : Int) 16 == 0) = true := an
            clear an
            have HRES := Lib.hid (show Q = .err 30 by
              have := HE.out; rw [HD.out] at this; simp only [quo, q1, q2, q3] at this; simpa using this.symm)
            clear q1 q2 q3
            obtain ⟨v0, t0⟩ := HT.out.c0
            obtain ⟨v1, t1⟩ := HT.out.c1
            obtain ⟨v2, t2⟩ := HT.out.c2
            have tf0 := HT.out.fz 0
            have tf1 := HT.out.fz 1
            have tf2 := HT.out.fz 2
            go_wp2_with fail
            go_quiet (fail)
            go_wp2_with fail
            go_quiet (fail)
            go_wp2_with fail
            refine bodyPost_ret (v := .tuple #[tokV 0 [] 0, .int .i64 30]) (by simp [results, Tryd.results57, go_sem, t0, t1, t2, tokV]) rfl ⟨?_, ?_⟩
            · exact (((HO.out.trans (Only.of_below (by first | exact below_drewN _ _ | exact Below.refl _ _ | (repeat (first | exact Below.refl _ _ | apply bdd))))).new (Nat.le_of_eq HBB.out)).new (Nat.le_of_eq HBB.out)).new (Nat.le_of_eq HBB.out)
            · rw [HRES.out]; rfl
          | true =>
            rw [q3] at an
            have an2 : (bits BinOp.and IntKind.u8 (z : Int) 16 == 0) = false := an
            clear an
            have HRES := Lib.hid (show quo ((bs.drop P).take (a + 1 - P)) (bs.drop (a + 1)) = Q by
              have := HE.out; rw [HD.out] at this; simp only [quo, q1, q2, q3] at this; rw [HTM.out]; simpa using this)
            clear q1 q2 q3
            go_wp2_with fail
            go_quiet (fail)
            go_wp2_with fail
            go_quiet (fail)
            go_wp2_with fail
            go_roundg G
            case measure => omega
            case rel =>
              have hl := HL.out
              have hg := HG.out
              obtain ⟨a', ha'⟩ : ∃ a', a' = a + 1 := ⟨_, rfl⟩
              refine ⟨a', Lib.hid ⟨by omega, by omega, by omega, by rw [ha']; exact HRES.out, ?_, ?_, ?_⟩⟩
              all_goals (try rw [ha'])
              · exact (HR.out.later (by first | exact below_drewN _ _ | exact Below.refl _ _ | (repeat (first | exact Below.refl _ _ | apply bdd)))).set (by omega) (by omega)
              · exact (HO.out.trans (Only.of_below (by first | exact below_drewN _ _ | exact Below.refl _ _ | (repeat (first | exact Below.refl _ _ | apply bdd))))).trans (only_set _ _ _ _)
              · exact (HT.out.later (by first | exact below_drewN _ _ | exact Below.refl _ _ | (repeat (first | exact Below.refl _ _ | apply bdd)))).only (only_set _ _ _ _) (fun e => HRB.out e.symm)
    · have HRES := Lib.hid (show Q = .err 31 by
        have hl := HL.out
        have := HE.out; rw [List.drop_of_length_le (show bs.length ≤ a by omega)] at this; simp only [quo] at this; exact this.symm)
      clear hr
      obtain ⟨v0, t0⟩ := HT.out.c0
      obtain ⟨v1, t1⟩ := HT.out.c1
      obtain ⟨v2, t2⟩ := HT.out.c2
      have tf0 := HT.out.fz 0
      have tf1 := HT.out.fz 1
      have tf2 := HT.out.fz 2
      go_wp2_with fail
      go_quiet (fail)
      go_wp2_with fail
      refine bodyPost_ret (v := .tuple #[tokV 0 [] 0, .int .i64 31]) (by simp [results, Tryd.results57, go_sem, t0, t1, t2, tokV]) rfl ⟨?_, ?_⟩
      · exact (((HO.out.trans (Only.of_below (by first | exact below_drewN _ _ | exact Below.refl _ _ | (repeat (first | exact Below.refl _ _ | apply bdd))))).new (Nat.le_of_eq HBB.out)).new (Nat.le_of_eq HBB.out)).new (Nat.le_of_eq HBB.out)
      · rw [HRES.out]; rfl
end Go.Proofs.YtlifankiljbdjaaDoor
namespace Go.Proofs.YtlifankiljbdjaaDoor
open Go Go.RowKit

theorem own_cell {w : World} {base n c : Nat} {e : TypeId} {g : Nat} {xs : List Value} (h : w.ownsRow base e 1 (.slice (some ⟨g, 0, none⟩) n c) n xs) (i : Nat) (u : Value) (hu : xs[i]? = some u) : w.cell? ⟨g, i, none⟩ = some u ∧ w.frozen? ⟨g, i, none⟩ = false := by
  obtain ⟨h0, ⟨h1, _⟩ | ⟨g', cap, cur, hv, hg, hh, hn, hm, hs, ht⟩⟩ := h
  · cases h1
  · cases hv
    have hlt := (List.getElem?_eq_some_iff.1 hu).1
    rw [← ht, List.getElem?_take_of_lt (by omega)] at hu
    have e' : cur[i]? = some u := by simpa using hu
    exact ⟨by simp [World.cell?, hh, e'], by simp [World.frozen?, hh]⟩
/-- a row of bytes of the call's own, as text. -/
theorem own_conv (W : World) {base : Nat} {v : Value} {acc : List UInt8} (h : W.ownsRow base 5 1 v acc.length (acc.map u8v)) : ∀ W', Below W.heap.size W W' → (convert 22 9 v).run Tryd.prog W' = .ok (.string ⟨acc.toArray⟩) W' := by
  intro W' hb
  replace h := own_later h hb
  have h' := h
  rcases h.2 with ⟨rfl, hx⟩ | ⟨g, cap, cur, rfl, hg, _⟩
  · have : acc = [] := by simpa using hx
    subst this
    exact run_convert_bytes_nil W' 22 5 Tryd.underlying22 Tryd.underlying5 0 _ 9 Tryd.underlying9
  · refine run_convert_bytes_back W' 22 9 5 ⟨g, 0, none⟩ cap acc Tryd.underlying22 Tryd.underlying5 Tryd.underlying9 fun j hj => ?_
    rw [Lib.add_plain, Nat.zero_add]
    exact (own_cell h' j _ (by rw [List.getElem?_map, List.getElem?_eq_getElem hj]; rfl)).1
set_option maxRecDepth 100000 in
set_option maxHeartbeats 3200000 in
theorem literal_any (R : Nat) (p : Option Addr) (c : Nat) (bs : List UInt8) (a0 : Nat) (W : World) (h : RdAt W R p c bs a0) (hlt0 : a0 < bs.length) :
    Calls Tryd.prog 58 #[.pointer (some ⟨R, 0, none⟩)] W (TokRes R p c bs a0 W (lit false [] 1 (bs.drop (a0 + 1)))) := by
  obtain ⟨i5, hi5, hz0, hz1, hz2⟩ := info5
  have H := Lib.hid h
  have hn := h.hn
  have hc1 := h.ca
  have hf1 := h.fz
  have hR := h.hl
  generalize hQ : lit false [] 1 (bs.drop (a0 + 1)) = Q
  have HQ := Lib.hid hQ
  clear h hQ
  go_enter Tryd.func58, Tryd.ntmps58
  go_wp2_with fail
  generalize hW1 : (W.setCell _ _).alloc _ = W1
  obtain ⟨P, hP⟩ : ∃ P, P = a0 + 1 := ⟨_, rfl⟩
  have hPi : (a0 : Int) + 1 = (P : Int) := by omega
  rw [hPi] at hW1 ⊢
  have h1 := H.out.set (v := (P : Int)) (a' := P) rfl (by omega)
  have hOW := only_set W R 1 (.int .i64 (P : Int))
  have hB1 := below1 (W.setCell ⟨R, 1, none⟩ (.int .i64 (P : Int))) (.cells #[.int .u8 0, .string ByteArray.empty, .int .i64 0] 33)
  have hTB := tokB_new (W.setCell ⟨R, 1, none⟩ (.int .i64 (P : Int)))
  rw [World.size_setCell] at hTB
  have HI0 := Lib.hid (show RdAt W1 R p c bs P ∧ Only (· = R) W W1 ∧ TokB W1 W.heap.size ∧ W.heap.size < W1.heap.size by
    rw [← hW1]
    exact ⟨h1.later hB1, hOW.trans (Only.of_below hB1), hTB, by simp⟩)
  have HQ2 := Lib.hid (show lit false [] (P - a0) (bs.drop P) = Q by rw [hP, Nat.add_sub_cancel_left]; exact HQ.out)
  have HRB := Lib.hid (show R < W.heap.size by omega)
  have HP := Lib.hid hP
  have HPB := Lib.hid (H.out.bi.lt (by omega))
  clear hP hPi hW1 h1 hOW hB1 hTB hc1 hf1 HQ H hR
  generalize hB : W.heap.size = B at *
  have HBB := Lib.hid hB
  clear hB
  go_loopg [4, 5] (bs.length + 1) (fun gk s4 s5 wx => ∃ (a : Nat) (acc : List UInt8), Hid (P ≤ a ∧ a ≤ bs.length ∧ bs.length + 1 ≤ a + gk ∧ acc.length ≤ a ∧ lit false acc (a - a0) (bs.drop a) = Q ∧ RdAt wx R p c bs a ∧ Only (· = R) W wx ∧ TokB wx B ∧ wx.ownsRow (B + 1) 5 1 s4 acc.length (acc.map u8v) ∧ B < wx.heap.size))
  case atStart => exact ⟨P, [], Lib.hid ⟨Nat.le_refl _, HI0.out.1.ha, by omega, Nat.zero_le _, HQ2.out, HI0.out.1, HI0.out.2.1, HI0.out.2.2.1, World.ownsRow_nil _ _ _ _, HI0.out.2.2.2⟩⟩
  case round =>
    obtain ⟨a, acc, HI⟩ := hrel
    clear HI0 HQ2
    obtain ⟨h0, h1, h2, hac, h3, hr, ho, ht, hw, hsz⟩ := HI.out
    obtain ⟨pr, cr, rfl, hB_⟩ := own_shape hw
    clear hB_
    have c0 := hr.cb
    have c1 := hr.ca
    have f1 := hr.fz
    have HG := Lib.hid h2
    have HE := Lib.hid h3
    have HO := Lib.hid ho
    have HR := Lib.hid hr
    have HT := Lib.hid ht
    have HW := Lib.hid hw
    have HSZ := Lib.hid hsz
    clear h2 h3 ho HI ht hw hsz
    obtain ⟨n, hnl⟩ : ∃ n, n = bs.length := ⟨_, rfl⟩
    have HL := Lib.hid hnl
    rw [← hnl] at c0 hn h1 hlt0
    clear hnl
    by_cases hlt : a < n
    · obtain ⟨G, rfl⟩ : ∃ G, gk = G + 1 := ⟨gk - 1, by have := HG.out; have := HL.out; omega⟩
      have i1 : (a : Int) < (n : Int) := by omega
      have i0 : (0 : Int) ≤ (a : Int) := by omega
      have hab : a < bs.length := by have := HL.out; omega
      have hd := drop_at hab
      obtain ⟨b, off, rfl, cb⟩ := hr.bi a hab
      have ccl := hr.cl bs[a]
      obtain ⟨hz, hz0'⟩ := byte_gt (x := bs[a])
      have an := not_ne (and16 bs[a])
      have e34 : ((bs[a].toNat : Int) == 34) = (bs[a] == 34) := eq_u8 34 (by decide +kernel) _
      generalize hx : bs[a] = x at *
      have HD := Lib.hid hd
      have HX := Lib.hid hx
      clear hr hd hx
      cases q1 : txB x with
      | false =>
        rw [q1] at an
        obtain ⟨y, hy⟩ : ∃ y, y = x.toNat := ⟨_, rfl⟩
        rw [← hy] at *
        clear hy
        generalize clB x = z at *
        have an2 : (bits BinOp.and IntKind.u8 (z : Int) 16 == 0) = true := an
        clear an e34
        have HRES := Lib.hid (show Q = .err 30 by
          have := HE.out; rw [HD.out] at this; simp only [lit, q1] at this; simpa using this.symm)
        clear q1
        obtain ⟨v0, t0⟩ := HT.out.c0
        obtain ⟨v1, t1⟩ := HT.out.c1
        obtain ⟨v2, t2⟩ := HT.out.c2
        have tf0 := HT.out.fz 0
        have tf1 := HT.out.fz 1
        have tf2 := HT.out.fz 2
        go_wp2_with fail
        go_quiet (fail)
        go_wp2_with fail
        go_quiet (fail)
        go_wp2_with fail
        refine bodyPost_ret (v := .tuple #[tokV 0 [] 0, .int .i64 30]) (by simp [results, Tryd.results58, go_sem, t0, t1, t2, tokV]) rfl ⟨?_, ?_⟩
        · exact (((HO.out.trans (Only.of_below (by first | exact below_drewN _ _ | exact Below.refl _ _ | (repeat (first | exact Below.refl _ _ | apply bdd))))).new (Nat.le_of_eq HBB.out)).new (Nat.le_of_eq HBB.out)).new (Nat.le_of_eq HBB.out)
        · rw [HRES.out]; rfl
      | true =>
        rw [q1] at an
        have an2 : (bits BinOp.and IntKind.u8 (clB x : Int) 16 == 0) = false := an
        clear an
        cases q2 : (x == 34) with
        | false =>
          rw [q2] at e34
          have HRES := Lib.hid (show lit false (acc ++ [x]) (a + 1 - a0) (bs.drop (a + 1)) = Q by
            have := HE.out; rw [HD.out] at this; simp only [lit, q1, q2] at this
            rw [show a + 1 - a0 = a - a0 + 1 by have := HP.out; omega]; simpa using this)
          clear q1 q2
          generalize hy : x.toNat = y at *
          go_wp2_with fail
          go_quiet (fail)
          go_wp2_with fail
          go_quiet (fail)
          generalize hWq : (wr.drewN _).drewN _ = Wq
          have hBq : Below wr.heap.size wr Wq := by rw [← hWq]; exact (by first | exact below_drewN _ _ | exact Below.refl _ _ | (repeat (first | exact Below.refl _ _ | apply bdd)))
          have hB3 := hBq.trans ((below1 Wq (.cells #[.int .u8 (y : Int)] 5)).mono hBq.size)
          have hnew : (Wq.alloc (.cells #[.int .u8 (y : Int)] 5)).cell? ⟨Wq.heap.size, 0, none⟩ = some (.int .u8 (y : Int)) := by simp [go_sem]
          have HR3 := Lib.hid (HR.out.later hB3)
          have HO3 := Lib.hid (HO.out.trans (Only.of_below hB3))
          have HT3 := Lib.hid (HT.out.later hB3)
          have HW3 := Lib.hid (own_later HW.out hB3)
          have hs3 : B + 1 ≤ (Wq.alloc (.cells #[.int .u8 (y : Int)] 5)).heap.size := by have := hB3.size; have := HSZ.out; omega
          have HS3 := Lib.hid hs3
          have ccl := (HR.out.later hBq).cl x
          rw [hy] at ccl
          clear hWq c0 c1 f1 cb hs3
          go_wp2_with (at_builtin; refine wpList_append_own_at _ rfl _ _ 22 rfl (B + 1) 5 i5 (.int .u8 0) 1 1 Tryd.underlying22 hi5 hz0 hz1 hz2 rfl (by omega) _ acc.length (acc.map u8v) rfl HW3.out ⟨Wq.heap.size, 0, none⟩ 1 1 [.int .u8 (y : Int)] rfl rfl ?qc2 ?qc3 ?qc4 ?qc5 ?qc6 ?_)
          case qc2 =>
            intro jj u hjj
            rw [Lib.add_plain]
            match jj, hjj with
            | 0, hjj => cases hjj; exact hnew
          case qc3 => intro u hu; simp at hu; rcases hu with rfl; rfl
          case qc4 => have hml : maxLen = 9223372036854775807 := rfl; omega
          case qc5 => omega
          case qc6 => exact HS3.out
          intro v' w4 hown hgrow hnil hloc
          obtain ⟨pn, cn, hv, hB_⟩ := own_shape hown
          subst hv
          have ho4 := Only.of_grown hgrow
          have hge : ∀ k, (Value.slice pr acc.length cr).ownBlock = some k → B + 1 ≤ k := fun k hk => (own_lt HW3.out hk).1
          have hlen : acc.length + 1 = (acc ++ [x]).length := by simp
          have hown2 : w4.ownsRow (B + 1) 5 1 (.slice pn (acc ++ [x]).length cn) (acc ++ [x]).length ((acc ++ [x]).map u8v) := by
            rw [← hlen, List.map_append]
            have : [u8v x] = [.int .u8 (y : Int)] := by rw [← hy]; rfl
            show w4.ownsRow (B + 1) 5 1 (.slice pn (acc.length + 1) cn) (acc.length + 1) (acc.map u8v ++ [u8v x])
            rw [this]; exact hown
          have HR4 := Lib.hid (HR3.out.only ho4 (fun e => by have := hge _ e; have := HRB.out; omega) (fun hp b off e ek => by have := hge _ ek; have := HPB.out b off e; omega))
          have HO4 := Lib.hid (HO3.out.transNew ho4 (fun k hk => by have := hge k hk; have := HBB.out; omega))
          have HT4 := Lib.hid (HT3.out.only ho4 (fun e => by have := hge _ e; omega))
          have HW4 := Lib.hid hown2
          have hs4 : B < w4.heap.size := by have := ho4.size; have := HS3.out; omega
          rw [hlen]
          clear hown hown2 hgrow hnil hloc hB_ ho4 hge hnew hlen
          have c1 := HR4.out.ca
          have f1 := HR4.out.fz
          go_wp2_with fail
          go_roundg G
          case measure => omega
          case rel =>
            have hl := HL.out
            have hg := HG.out
            obtain ⟨a', ha'⟩ : ∃ a', a' = a + 1 := ⟨_, rfl⟩
            refine ⟨a', acc ++ [x], Lib.hid ⟨by omega, by omega, by omega, by simp; omega, by rw [ha']; exact HRES.out, ?_, ?_, ?_, ?_, ?_⟩⟩
            all_goals (try rw [ha'])
            · exact HR4.out.set (by omega) (by omega)
            · exact HO4.out.trans (only_set _ _ _ _)
            · exact HT4.out.only (only_set _ _ _ _) (fun e => by have := HRB.out; omega)
            · exact own_only HW4.out (only_set _ _ _ _) (fun k hk e => by have := (own_lt HW4.out hk).1; have := HRB.out; have e : k = R := e; omega)
            · rw [World.size_setCell]; exact hs4
        | true =>
          rw [q2] at e34
          have hx34 : x = 34 := by simpa using q2
          have HE2 := Lib.hid (show lit true acc (a + 1 - a0) (bs.drop (a + 1)) = Q by
            have := HE.out; rw [HD.out] at this; simp only [lit, q1, q2] at this
            rw [show a + 1 - a0 = a - a0 + 1 by have := HP.out; omega]; simpa using this)
          clear q1 q2 HE
          generalize hy : x.toNat = y at *
          have HX34 := Lib.hid hx34
          have HY := Lib.hid hy
          clear hx34 hy
          go_wp2_with fail
          go_quiet (fail)
          go_wp2_with fail
          go_quiet (fail)
          go_wp2_with fail
          obtain ⟨A1, hA1⟩ : ∃ A1, A1 = a + 1 := ⟨_, rfl⟩
          have hA1i : (a : Int) + 1 = (A1 : Int) := by omega
          rw [hA1i]
          generalize hW2 : (wr.drewN _).setCell _ _ = W2
          have HR2 := Lib.hid (show RdAt W2 R (some ⟨b, off, none⟩) c bs A1 from by rw [← hW2]; exact (HR.out.later (by first | exact below_drewN _ _ | exact Below.refl _ _ | (repeat (first | exact Below.refl _ _ | apply bdd)))).set rfl (by omega))
          have HO2 := Lib.hid (show Only (· = R) W W2 from by rw [← hW2]; exact (HO.out.trans (Only.of_below (by first | exact below_drewN _ _ | exact Below.refl _ _ | (repeat (first | exact Below.refl _ _ | apply bdd))))).trans (only_set _ _ _ _))
          have HT2 := Lib.hid (show TokB W2 B from by rw [← hW2]; exact (HT.out.later (by first | exact below_drewN _ _ | exact Below.refl _ _ | (repeat (first | exact Below.refl _ _ | apply bdd)))).only (only_set _ _ _ _) (fun e => by have := HRB.out; have e : B = R := e; omega))
          have HW2 := Lib.hid (show W2.ownsRow (B + 1) 5 1 (.slice pr acc.length cr) acc.length (acc.map u8v) by
            rw [← hW2]
            exact own_only (own_later HW.out (by first | exact below_drewN _ _ | exact Below.refl _ _ | (repeat (first | exact Below.refl _ _ | apply bdd)))) (only_set _ _ _ _) (fun k hk e => by have := (own_lt HW.out hk).1; have := HRB.out; have e : k = R := e; omega))
          have HS2 := Lib.hid (show B < W2.heap.size by rw [← hW2, World.size_setCell]; exact HSZ.out)
          have HA1 := Lib.hid hA1
          clear hW2 c0 c1 f1 ccl cb HR HO HT HW HSZ hA1i
          have d0 := HR2.out.cb
          have d1 := HR2.out.ca
          have df := HR2.out.fz
          rw [← HL.out] at d0
          clear hA1
          by_cases hlt2 : A1 < n
          · have hab2 : A1 < bs.length := by have := HL.out; omega
            have hd2 := drop_at hab2
            have n1 : ((A1 : Int) == (n : Int)) = false := by simp; omega
            have n2 : (A1 : Int) < (n : Int) := by omega
            have n3 : (0 : Int) ≤ (A1 : Int) := by omega
            obtain ⟨b2, off2, e2, cb2⟩ := HR2.out.bi A1 hab2
            cases e2
            obtain ⟨hz2', hz3'⟩ := byte_gt (x := bs[A1])
            have e342 : ((bs[A1].toNat : Int) == 34) = (bs[A1] == 34) := eq_u8 34 (by decide +kernel) _
            generalize bs[A1] = x2 at *
            generalize x2.toNat = y2 at *
            cases q3 : (x2 == 34) with
            | true =>
              rw [q3] at e342
              have e343 : ((y2 : Int) != 34) = false := by rw [bne, e342]; rfl
              have HRES := Lib.hid (show lit false (acc ++ [x]) (A1 + 1 - a0) (bs.drop (A1 + 1)) = Q by
                have := HE2.out; rw [← HA1.out, hd2] at this; simp only [lit, q3] at this
                rw [HX34.out, show A1 + 1 - a0 = A1 - a0 + 1 by have := HP.out; have := HA1.out; omega]; simpa using this)
              clear q3 hd2
              go_quiet (fail)
              generalize hWq : W2.drewN _ = Wq
              have hBq : Below W2.heap.size W2 Wq := by rw [← hWq]; exact (by first | exact below_drewN _ _ | exact Below.refl _ _ | (repeat (first | exact Below.refl _ _ | apply bdd)))
              have hB3 := hBq.trans ((below1 Wq (.cells #[.int .u8 (y : Int)] 5)).mono hBq.size)
              have hnew : (Wq.alloc (.cells #[.int .u8 (y : Int)] 5)).cell? ⟨Wq.heap.size, 0, none⟩ = some (.int .u8 (y : Int)) := by simp [go_sem]
              have HR3 := Lib.hid (HR2.out.later hB3)
              have HO3 := Lib.hid (HO2.out.trans (Only.of_below hB3))
              have HT3 := Lib.hid (HT2.out.later hB3)
              have HW3 := Lib.hid (own_later HW2.out hB3)
              have hs3 : B + 1 ≤ (Wq.alloc (.cells #[.int .u8 (y : Int)] 5)).heap.size := by have := hB3.size; have := HS2.out; omega
              have HS3 := Lib.hid hs3
              clear hWq d0 d1 df cb2 hs3
              go_wp2_with (at_builtin; refine wpList_append_own_at _ rfl _ _ 22 rfl (B + 1) 5 i5 (.int .u8 0) 1 1 Tryd.underlying22 hi5 hz0 hz1 hz2 rfl (by omega) _ acc.length (acc.map u8v) rfl HW3.out ⟨Wq.heap.size, 0, none⟩ 1 1 [.int .u8 (y : Int)] rfl rfl ?qc2 ?qc3 ?qc4 ?qc5 ?qc6 ?_)
              case qc2 =>
                intro jj u hjj
                rw [Lib.add_plain]
                match jj, hjj with
                | 0, hjj => cases hjj; exact hnew
              case qc3 => intro u hu; simp at hu; rcases hu with rfl; rfl
              case qc4 => have hml : maxLen = 9223372036854775807 := rfl; omega
              case qc5 => omega
              case qc6 => exact HS3.out
              intro v' w4 hown hgrow hnil hloc
              obtain ⟨pn, cn, hv, hB_⟩ := own_shape hown
              subst hv
              have ho4 := Only.of_grown hgrow
              have hge : ∀ k, (Value.slice pr acc.length cr).ownBlock = some k → B + 1 ≤ k := fun k hk => (own_lt HW3.out hk).1
              have hlen : acc.length + 1 = (acc ++ [x]).length := by simp
              have hown2 : w4.ownsRow (B + 1) 5 1 (.slice pn (acc ++ [x]).length cn) (acc ++ [x]).length ((acc ++ [x]).map u8v) := by
                rw [← hlen, List.map_append]
                have : [u8v x] = [.int .u8 (y : Int)] := by rw [← HY.out]; rfl
                show w4.ownsRow (B + 1) 5 1 (.slice pn (acc.length + 1) cn) (acc.length + 1) (acc.map u8v ++ [u8v x])
                rw [this]; exact hown
              have HR4 := Lib.hid (HR3.out.only ho4 (fun e => by have := hge _ e; have := HRB.out; omega) (fun hp b off e ek => by have := hge _ ek; have := HPB.out b off e; omega))
              have HO4 := Lib.hid (HO3.out.transNew ho4 (fun k hk => by have := hge k hk; have := HBB.out; omega))
              have HT4 := Lib.hid (HT3.out.only ho4 (fun e => by have := hge _ e; omega))
              have HW4 := Lib.hid hown2
              have hs4 : B < w4.heap.size := by have := ho4.size; have := HS3.out; omega
              rw [hlen]
              clear hown hown2 hgrow hnil hloc hB_ ho4 hge hnew hlen
              clear n1 n2 n3
              have c1 := HR4.out.ca
              have f1 := HR4.out.fz
              go_wp2_with fail
              go_roundg G
              case measure => omega
              case rel =>
                have hl := HL.out
                have ha1 := HA1.out
                have hg := HG.out
                obtain ⟨a', ha'⟩ : ∃ a', a' = A1 + 1 := ⟨_, rfl⟩
                refine ⟨a', acc ++ [x], Lib.hid ⟨by omega, by omega, by omega, by simp; omega, by rw [ha']; exact HRES.out, ?_, ?_, ?_, ?_, ?_⟩⟩
                all_goals (try rw [ha'])
                · exact HR4.out.set (by omega) (by omega)
                · exact HO4.out.trans (only_set _ _ _ _)
                · exact HT4.out.only (only_set _ _ _ _) (fun e => by have := HRB.out; omega)
                · exact own_only HW4.out (only_set _ _ _ _) (fun k hk e => by have := (own_lt HW4.out hk).1; have := HRB.out; have e : k = R := e; omega)
                · rw [World.size_setCell]; exact hs4
            | false =>
              rw [q3] at e342
              have e343 : ((y2 : Int) != 34) = true := by rw [bne, e342]; rfl
              have hres : Q = .tok 5 acc (a + 1 - a0) := by
                have := HE2.out; rw [← HA1.out, hd2] at this; simp only [lit, q3] at this
                rw [← HA1.out]; simpa using this.symm
              clear q3 hd2
              have hcv0 := own_conv W2 HW2.out
              have hcv := fun n => hcv0 (W2.drewN n) (below_drewN _ _)
              clear hcv0
              have HRES := Lib.hid hres
              obtain ⟨v0, t0⟩ := HT2.out.c0
              obtain ⟨v1, t1⟩ := HT2.out.c1
              obtain ⟨v2, t2⟩ := HT2.out.c2
              have tf0 := HT2.out.fz 0
              have tf1 := HT2.out.fz 1
              have tf2 := HT2.out.fz 2
              clear hres
              go_quiet (fail)
              go_wp2_with fail
              generalize hW5 : W2.drewN _ = W5
              have hb5 : Below W2.heap.size W2 W5 := by rw [← hW5]; exact below_drewN _ _
              have hO5 := (((HO2.out.trans (Only.of_below hb5)).new (b := B) (o := 0) (v := .int .u8 5) (Nat.le_of_eq HBB.out)).new (b := B) (o := 1) (v := .string ⟨acc.toArray⟩) (Nat.le_of_eq HBB.out)).new (b := B) (o := 2) (v := .int .i64 0) (Nat.le_of_eq HBB.out)
              have hset : Only (· = B) W5 (((W5.setCell ⟨B, 0, none⟩ (.int .u8 5)).setCell ⟨B, 1, none⟩ (.string ⟨acc.toArray⟩)).setCell ⟨B, 2, none⟩ (.int .i64 0)) := ((only_set _ B 0 _).trans (only_set _ B 1 _)).trans (only_set _ B 2 _)
              have hfin := (HR2.out.later hb5).only hset (fun e => by have := HRB.out; have e : R = B := e; omega) (fun hp b off e => by have := HPB.out b off e; show ¬ b = B; omega)
              have hT5 := HT2.out.later hb5
              clear t0 t1 t2
              obtain ⟨v0, t0⟩ := hT5.c0
              obtain ⟨v1, t1⟩ := hT5.c1
              obtain ⟨v2, t2⟩ := hT5.c2
              refine bodyPost_ret (v := .tuple #[tokV 5 acc 0, .int .i64 0]) (by simp [results, Tryd.results58, go_sem, t0, t1, t2, tokV]) rfl ⟨hO5, ?_⟩
              rw [HRES.out]
              refine ⟨rfl, ?_⟩
              have e : a0 + (a + 1 - a0) = A1 := by have := HA1.out; have := HP.out; omega
              rw [e]; exact hfin
          · have hres : Q = .tok 5 acc (a + 1 - a0) := by
              have := HE2.out; rw [List.drop_of_length_le (show bs.length ≤ a + 1 by have := HL.out; have := HA1.out; omega)] at this; simp only [lit] at this; exact this.symm
            have n1 : ((A1 : Int) == (n : Int)) = true := by have := HR2.out.ha; have := HL.out; simp; omega
            have hcv0 := own_conv W2 HW2.out
            have hcv := fun n => hcv0 (W2.drewN n) (below_drewN _ _)
            clear hcv0
            have HRES := Lib.hid hres
            obtain ⟨v0, t0⟩ := HT2.out.c0
            obtain ⟨v1, t1⟩ := HT2.out.c1
            obtain ⟨v2, t2⟩ := HT2.out.c2
            have tf0 := HT2.out.fz 0
            have tf1 := HT2.out.fz 1
            have tf2 := HT2.out.fz 2
            clear hres
            go_quiet (fail)
            go_wp2_with fail
            generalize hW5 : W2.drewN _ = W5
            have hb5 : Below W2.heap.size W2 W5 := by rw [← hW5]; exact below_drewN _ _
            have hO5 := (((HO2.out.trans (Only.of_below hb5)).new (b := B) (o := 0) (v := .int .u8 5) (Nat.le_of_eq HBB.out)).new (b := B) (o := 1) (v := .string ⟨acc.toArray⟩) (Nat.le_of_eq HBB.out)).new (b := B) (o := 2) (v := .int .i64 0) (Nat.le_of_eq HBB.out)
            have hset : Only (· = B) W5 (((W5.setCell ⟨B, 0, none⟩ (.int .u8 5)).setCell ⟨B, 1, none⟩ (.string ⟨acc.toArray⟩)).setCell ⟨B, 2, none⟩ (.int .i64 0)) := ((only_set _ B 0 _).trans (only_set _ B 1 _)).trans (only_set _ B 2 _)
            have hfin := (HR2.out.later hb5).only hset (fun e => by have := HRB.out; have e : R = B := e; omega) (fun hp b off e => by have := HPB.out b off e; show ¬ b = B; omega)
            have hT5 := HT2.out.later hb5
            clear t0 t1 t2
            obtain ⟨v0, t0⟩ := hT5.c0
            obtain ⟨v1, t1⟩ := hT5.c1
            obtain ⟨v2, t2⟩ := hT5.c2
            refine bodyPost_ret (v := .tuple #[tokV 5 acc 0, .int .i64 0]) (by simp [results, Tryd.results58, go_sem, t0, t1, t2, tokV]) rfl ⟨hO5, ?_⟩
            rw [HRES.out]
            refine ⟨rfl, ?_⟩
            have e : a0 + (a + 1 - a0) = A1 := by have := HA1.out; have := HP.out; omega
            rw [e]; exact hfin
    · have HRES := Lib.hid (show Q = .err 31 by
        have hl := HL.out
        have := HE.out; rw [List.drop_of_length_le (show bs.length ≤ a by omega)] at this; simp only [lit] at this; exact this.symm)
      clear hr
      obtain ⟨v0, t0⟩ := HT.out.c0
      obtain ⟨v1, t1⟩ := HT.out.c1
      obtain ⟨v2, t2⟩ := HT.out.c2
      have tf0 := HT.out.fz 0
      have tf1 := HT.out.fz 1
      have tf2 := HT.out.fz 2
      go_wp2_with fail
      go_quiet (fail)
      go_wp2_with fail
      refine bodyPost_ret (v := .tuple #[tokV 0 [] 0, .int .i64 31]) (by simp [results, Tryd.results58, go_sem, t0, t1, t2, tokV]) rfl ⟨?_, ?_⟩
      · exact (((HO.out.trans (Only.of_below (by first | exact below_drewN _ _ | exact Below.refl _ _ | (repeat (first | exact Below.refl _ _ | apply bdd))))).new (Nat.le_of_eq HBB.out)).new (Nat.le_of_eq HBB.out)).new (Nat.le_of_eq HBB.out)
      · rw [HRES.out]; rfl
end Go.Proofs.YtlifankiljbdjaaDoor
