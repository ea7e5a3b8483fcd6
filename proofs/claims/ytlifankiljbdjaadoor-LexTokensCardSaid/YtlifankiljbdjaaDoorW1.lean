/- A reader in memory; skip. -/
import Derived.Test.YtlifankiljbdjaaDoorP1
import Derived.Test.YtlifankiljbdjaaDoorM0
namespace Go.Proofs.YtlifankiljbdjaaDoor
open Go Go.RowKit

/-- a reader: its struct in block R: the bytes, the place, the classes. -/
structure RdAt (W : World) (R : Nat) (p : Option Addr) (c : Nat) (bs : List UInt8) (a : Nat) : Prop where
  cb : W.cell? ⟨R, 0, none⟩ = some (.slice p bs.length c)
  ca : W.cell? ⟨R, 1, none⟩ = some (.int .i64 (a : Int))
  cl : ∀ b : UInt8, W.cell? ⟨R, 2 + b.toNat, none⟩ = some (.int .u8 (clB b : Int))
  fz : W.frozen? ⟨R, 1, none⟩ = false
  bi : BytesIn W p bs
  ne : 0 < bs.length → ∀ b off, p = some ⟨b, off, none⟩ → b ≠ R
  hl : R < W.heap.size
  hn : bs.length ≤ 1048576
  hk : bs.length ≤ c
  ha : a ≤ bs.length
section
variable {W W' : World} {R : Nat} {p : Option Addr} {c : Nat} {bs : List UInt8} {a : Nat}
theorem RdAt.only {T : Nat → Prop} (h : RdAt W R p c bs a) (ho : Only T W W') (h1 : ¬ T R) (h2 : 0 < bs.length → ∀ b off, p = some ⟨b, off, none⟩ → ¬ T b) : RdAt W' R p c bs a :=
  ⟨ho.cell h.cb h1, ho.cell h.ca h1, fun b => ho.cell (h.cl b) h1, by rw [ho.frozen h.hl h1]; exact h.fz, h.bi.only ho h2, h.ne, Nat.lt_of_lt_of_le h.hl ho.size, h.hn, h.hk, h.ha⟩
theorem RdAt.later (h : RdAt W R p c bs a) (hb : Below W.heap.size W W') : RdAt W' R p c bs a :=
  h.only (Only.of_below (T := fun _ => False) hb) (fun h => h) (fun _ _ _ _ h => h)
theorem RdAt.set (h : RdAt W R p c bs a) {v : Int} {a' : Nat} (hv : v = (a' : Int)) (ha : a' ≤ bs.length) : RdAt (W.setCell ⟨R, 1, none⟩ (.int .i64 v)) R p c bs a' := by
  subst hv
  have hs := Only.of_setCell W ⟨R, 1, none⟩ (.int .i64 (a' : Int))
  have far : ∀ o v, o ≠ 1 → W.cell? ⟨R, o, none⟩ = some v → (W.setCell ⟨R, 1, none⟩ (.int .i64 (a' : Int))).cell? ⟨R, o, none⟩ = some v := fun o v h3 h4 => by
    rw [World.cell?_setCell_other _ _ _ _ (by intro e; cases e; exact h3 rfl)]; exact h4
  exact ⟨far 0 _ (by omega) h.cb, World.cell?_setCell_same _ _ _ h.ca, fun b => far _ _ (by omega) (h.cl b), by rw [World.frozen?_setCell]; exact h.fz,
    h.bi.only hs h.ne, h.ne, by rw [World.size_setCell]; exact h.hl, h.hn, h.hk, ha⟩
theorem only_set (W : World) (R o : Nat) (v : Value) : Only (· = R) W (W.setCell ⟨R, o, none⟩ v) := Only.of_setCell W ⟨R, o, none⟩ v
end
/-- a byte's class and a mask -/
theorem and_all (m : Nat) (f : UInt8 → Bool) (h : (List.range 256).all (fun n => (bits BinOp.and IntKind.u8 (clB (UInt8.ofNat n) : Int) (m : Int) != 0) == f (UInt8.ofNat n)) = true) (c : UInt8) : (bits BinOp.and IntKind.u8 (clB c : Int) (m : Int) != 0) = f c := by
  have := u8_all (p := fun c => (bits BinOp.and IntKind.u8 (clB c : Int) (m : Int) != 0) == f c) h c
  exact eq_of_beq this
theorem and1 (c : UInt8) : (bits BinOp.and IntKind.u8 (clB c : Int) 1 != 0) = spB c := and_all 1 spB (by decide +kernel) c
theorem and2 (c : UInt8) : (bits BinOp.and IntKind.u8 (clB c : Int) 2 != 0) = syB c := and_all 2 syB (by decide +kernel) c
theorem and4 (c : UInt8) : (bits BinOp.and IntKind.u8 (clB c : Int) 4 != 0) = dgB c := and_all 4 dgB (by decide +kernel) c
theorem and8 (c : UInt8) : (bits BinOp.and IntKind.u8 (clB c : Int) 8 != 0) = hxB c := and_all 8 hxB (by decide +kernel) c
theorem and16 (c : UInt8) : (bits BinOp.and IntKind.u8 (clB c : Int) 16 != 0) = txB c := and_all 16 txB (by decide +kernel) c
theorem not_ne {x : Int} {b : Bool} (h : (x != 0) = b) : (x == 0) = !b := by rw [← h, bne, Bool.not_not]
theorem cl_lt (c : UInt8) : clB c < 32 := by
  have := u8_all (p := fun c => decide (clB c < 32)) (by decide +kernel) c
  simpa using this
theorem drop_at {bs : List UInt8} {a : Nat} (h : a < bs.length) : bs.drop a = bs[a] :: bs.drop (a + 1) := List.drop_eq_getElem_cons h

set_option maxRecDepth 100000 in
set_option maxHeartbeats 1600000 in
theorem skip_any (R : Nat) (p : Option Addr) (c : Nat) (bs : List UInt8) (a0 : Nat) (W : World) (h : RdAt W R p c bs a0) :
    Calls Tryd.prog 35 #[.pointer (some ⟨R, 0, none⟩)] W fun e w' => e = .returned (.tuple #[]) ∧ RdAt w' R p c bs (a0 + skipM false (bs.drop a0)) ∧ Only (· = R) W w' := by
  have H := Lib.hid h
  have hn := h.hn
  generalize hN : a0 + skipM false (bs.drop a0) = N0
  have HN := Lib.hid hN
  clear h hN
  go_enter Tryd.func35, Tryd.ntmps35
  go_wp2_with fail
  go_loopg [12] (bs.length + 1) (fun gk s12 wx => ∃ a : Nat, Hid (a ≤ bs.length ∧ bs.length + 1 ≤ a + gk ∧ a + skipM false (bs.drop a) = N0 ∧ RdAt wx R p c bs a ∧ Only (· = R) W wx))
  case atStart => exact ⟨a0, Lib.hid ⟨H.out.ha, by omega, HN.out, H.out, Only.refl _ _⟩⟩
  case round =>
    obtain ⟨a, HI⟩ := hrel
    clear H HN
    obtain ⟨h1, h2, h3, hr, ho⟩ := HI.out
    have c0 := hr.cb
    have c1 := hr.ca
    have f1 := hr.fz
    have HG := Lib.hid h2
    have HE := Lib.hid h3
    have HO := Lib.hid ho
    have HR := Lib.hid hr
    clear h2 h3 ho HI
    obtain ⟨n, hnl⟩ : ∃ n, n = bs.length := ⟨_, rfl⟩
    have HL := Lib.hid hnl
    rw [← hnl] at c0 hn h1
    clear hnl
    by_cases hlt : a < n
    · obtain ⟨G, rfl⟩ : ∃ G, gk = G + 1 := ⟨gk - 1, by have := HG.out; have := HL.out; omega⟩
      have i1 : (a : Int) < (n : Int) := by omega
      have i0 : (0 : Int) ≤ (a : Int) := by omega
      have hab : a < bs.length := by have := HL.out; omega
      have hd := drop_at hab
      obtain ⟨b, off, rfl, cb⟩ := hr.bi a hab
      have ccl := hr.cl bs[a]
      have hz : (bs[a].toNat : Int) < 256 := by have := bs[a].toNat_lt; omega
      have hz0 : (0 : Int) ≤ (bs[a].toNat : Int) := by omega
      have an := and1 bs[a]
      have eq59 : ((bs[a].toNat : Int) == 59) = (bs[a] == 59) := by
        have := u8_all (p := fun c => ((c.toNat : Int) == 59) == (c == 59)) (by decide +kernel) bs[a]
        simpa using this
      generalize bs[a] = x at *
      generalize x.toNat = y at *
      generalize clB x = z at *
      have HD := Lib.hid hd
      clear hr hd
      cases hs : spB x with
      | true =>
        rw [hs] at an
        have HS := Lib.hid hs
        clear hs eq59
        go_wp2_with fail
        go_quiet (fail)
        go_wp2_with fail
        go_quiet (fail)
        go_wp2_with fail
        go_roundg G
        case measure => have := HG.out; have := HL.out; omega
        case rel =>
          have hl := HL.out
          have hg := HG.out
          obtain ⟨a', ha'⟩ : ∃ a', a' = a + 1 := ⟨_, rfl⟩
          refine ⟨a', Lib.hid ⟨by omega, by omega, ?_, ?_, ?_⟩⟩
          all_goals (try rw [ha'])
          · have := HE.out; rw [HD.out] at this; simp only [skipM, HS.out, if_true] at this; omega
          · exact (HR.out.later (by first | exact below_drewN _ _ | exact Below.refl _ _ | (repeat (first | exact Below.refl _ _ | apply bdd)))).set (by omega) (by omega)
          · exact (HO.out.trans (Only.of_below (by first | exact below_drewN _ _ | exact Below.refl _ _ | (repeat (first | exact Below.refl _ _ | apply bdd))))).trans (only_set _ _ _ _)
      | false =>
        rw [hs] at an
        cases hc : (x == 59) with
        | false =>
          rw [hc] at eq59
          have hend : a = N0 := by have := HE.out; rw [HD.out] at this; simp [skipM, hs, hc] at this; exact this
          have HN := Lib.hid hend
          clear hs hc hend
          go_wp2_with fail
          go_quiet (fail)
          go_wp2_with fail
          go_quiet (fail)
          go_wp2_with fail
          go_quiet (fail)
          go_wp2_with fail
          exact bodyPost_ret (v := .tuple #[]) (by simp [results, Tryd.results35, go_sem]) rfl ⟨rfl, by rw [← HN.out]; exact HR.out.later (by first | exact below_drewN _ _ | exact Below.refl _ _ | (repeat (first | exact Below.refl _ _ | apply bdd))), HO.out.trans (Only.of_below (by first | exact below_drewN _ _ | exact Below.refl _ _ | (repeat (first | exact Below.refl _ _ | apply bdd))))⟩
        | true =>
          rw [hc] at eq59
          have hx : x = 59 := by simpa using hc
          have HE2 := Lib.hid (show a + skipM true (bs.drop a) = N0 by
            have := HE.out; rw [HD.out] at this ⊢; subst hx; simpa [skipM, hs] using this)
          have HX := Lib.hid hx
          clear hs hc hx HE
          go_wp2_with fail
          go_quiet (fail)
          go_wp2_with fail
          go_quiet (fail)
          go_wp2_with fail
          go_quiet (fail)
          go_wp2_with fail
          generalize hW1 : ((wr.drewN _).drewN _).drewN _ = W1
          have HR1 := Lib.hid (show RdAt W1 R (some ⟨b, off, none⟩) c bs a from by rw [← hW1]; exact HR.out.later (by first | exact below_drewN _ _ | exact Below.refl _ _ | (repeat (first | exact Below.refl _ _ | apply bdd))))
          have HO1 := Lib.hid (show Only (· = R) W W1 from by rw [← hW1]; exact HO.out.trans (Only.of_below (by first | exact below_drewN _ _ | exact Below.refl _ _ | (repeat (first | exact Below.refl _ _ | apply bdd)))))
          clear hW1 c0 c1 f1 ccl cb HR HO
          go_loopg [71] (bs.length + 1) (fun ik s12 wx => ∃ a2 : Nat, Hid (a ≤ a2 ∧ a2 ≤ n ∧ n + 1 ≤ a2 + ik ∧ a2 + skipM true (bs.drop a2) = N0 ∧ RdAt wx R (some ⟨b, off, none⟩) c bs a2 ∧ Only (· = R) W wx))
          case atStart => exact ⟨a, Lib.hid ⟨Nat.le_refl _, h1, by have := HL.out; omega, HE2.out, HR1.out, HO1.out⟩⟩
          case round =>
            obtain ⟨a2, HI⟩ := hrel
            clear HR1 HO1 HE2
            obtain ⟨j0, j1, j2, j3, hr, ho⟩ := HI.out
            have c0 := hr.cb
            have c1 := hr.ca
            have f1 := hr.fz
            have HE := Lib.hid j3
            have HO := Lib.hid ho
            have HR := Lib.hid hr
            have HA := Lib.hid j0
            have HG2 := Lib.hid j2
            rw [← HL.out] at c0
            clear j0 j2 j3 ho HI
            by_cases hlt2 : a2 < n
            · have i1 : (a2 : Int) < (n : Int) := by omega
              have i0 : (0 : Int) ≤ (a2 : Int) := by omega
              have hab : a2 < bs.length := by have := HL.out; omega
              have hd := drop_at hab
              obtain ⟨b2, off2, e2, cb⟩ := hr.bi a2 hab
              cases e2
              have hz : (bs[a2].toNat : Int) < 256 := by have := bs[a2].toNat_lt; omega
              have hz0 : (0 : Int) ≤ (bs[a2].toNat : Int) := by omega
              have eq10 : ((bs[a2].toNat : Int) != 10) = (bs[a2] != 10) := by
                have := u8_all (p := fun c => ((c.toNat : Int) != 10) == (c != 10)) (by decide +kernel) bs[a2]
                simpa using this
              generalize bs[a2] = x2 at *
              generalize x2.toNat = y2 at *
              have HD2 := Lib.hid hd
              clear hr hd
              cases hc : (x2 != 10) with
              | true =>
                rw [hc] at eq10
                have HC := Lib.hid hc
                clear hc
                go_wp2_with fail
                go_quiet (fail)
                go_wp2_with fail
                go_roundg (gk - 1)
                case measure => have := HG2.out; omega
                case rel =>
                  have hg := HG2.out
                  obtain ⟨a', ha'⟩ : ∃ a', a' = a2 + 1 := ⟨_, rfl⟩
                  refine ⟨a', Lib.hid ⟨by have := HA.out; omega, by omega, by omega, ?_, ?_, ?_⟩⟩
                  all_goals (try rw [ha'])
                  · have hne : (x2 == 10) = false := by have := HC.out; simpa using this
                    have := HE.out; rw [HD2.out] at this; simp only [skipM, hne] at this; simp at this; omega
                  · exact (HR.out.later (by first | exact below_drewN _ _ | exact Below.refl _ _ | (repeat (first | exact Below.refl _ _ | apply bdd)))).set (by omega) (by have := HL.out; omega)
                  · exact (HO.out.trans (Only.of_below (by first | exact below_drewN _ _ | exact Below.refl _ _ | (repeat (first | exact Below.refl _ _ | apply bdd))))).trans (only_set _ _ _ _)
              | false =>
                rw [hc] at eq10
                have hx : x2 = 10 := by simpa using hc
                have hne : a ≠ a2 := fun e => by
                  subst e
                  have h1 := HD.out; have h2 := HD2.out
                  rw [h1] at h2
                  have h3 := HX.out
                  simp only [List.cons.injEq] at h2
                  rw [hx, h3] at h2
                  exact absurd h2.1 (by decide)
                have HX2 := Lib.hid (show a2 + skipM false (bs.drop a2) = N0 by
                  have := HE.out; rw [HD2.out] at this ⊢; subst hx; simpa [skipM, spB] using this)
                have HNE := Lib.hid hne
                clear hc hx hne
                go_wp2_with fail
                go_quiet (fail)
                go_wp2_with fail
                go_roundg G
                case measure => omega
                case rel =>
                  refine ⟨a2, Lib.hid ⟨by have := HL.out; omega, ?_, HX2.out, HR.out.later (by first | exact below_drewN _ _ | exact Below.refl _ _ | (repeat (first | exact Below.refl _ _ | apply bdd))), HO.out.trans (Only.of_below (by first | exact below_drewN _ _ | exact Below.refl _ _ | (repeat (first | exact Below.refl _ _ | apply bdd))))⟩⟩
                  have := HG.out; have := HA.out; have := HNE.out; omega
            · have HX2 := Lib.hid (show a2 + skipM false (bs.drop a2) = N0 by
                have hl := HL.out
                have := HE.out; rw [List.drop_of_length_le (by omega)] at this ⊢; simpa [skipM] using this)
              have d1 : ((a2 : Int) < (n : Int)) = False := by simp; omega
              have d2 : decide ((a2 : Int) < (n : Int)) = false := by simp; omega
              clear hr
              go_wp2_with fail
              go_quiet (fail)
              go_wp2_with fail
              go_roundg G
              case measure => omega
              case rel =>
                refine ⟨a2, Lib.hid ⟨by have := HL.out; omega, ?_, HX2.out, HR.out.later (by first | exact below_drewN _ _ | exact Below.refl _ _ | (repeat (first | exact Below.refl _ _ | apply bdd))), HO.out.trans (Only.of_below (by first | exact below_drewN _ _ | exact Below.refl _ _ | (repeat (first | exact Below.refl _ _ | apply bdd))))⟩⟩
                have := HG.out; have := HA.out; omega
    · have hend : a = N0 := by
        have hl := HL.out
        have := HE.out; rw [List.drop_of_length_le (by omega)] at this; simpa [skipM] using this
      have HN := Lib.hid hend
      clear hend hr
      go_wp2_with fail
      go_quiet (fail)
      go_wp2_with fail
      go_end0
      exact ⟨rfl, by rw [← HN.out]; exact HR.out.later (by first | exact below_drewN _ _ | exact Below.refl _ _ | (repeat (first | exact Below.refl _ _ | apply bdd))), HO.out.trans (Only.of_below (by first | exact below_drewN _ _ | exact Below.refl _ _ | (repeat (first | exact Below.refl _ _ | apply bdd))))⟩
end Go.Proofs.YtlifankiljbdjaaDoor
