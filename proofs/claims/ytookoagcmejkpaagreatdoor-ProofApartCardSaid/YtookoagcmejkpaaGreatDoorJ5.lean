/- A reader in memory; skip. word, all. all. quoted. literal. strings.Cut at a point. plain: words and numbers. keyword, based. token: the token that begins here. The texts of numbers: FormatUint at base -/
import Derived.Test.YtookoagcmejkpaaGreatDoorJ4
import Derived.Test.YtookoagcmejkpaaGreatDoorProg
import Derived.WalkKit
import Derived.WalkSpells
import Derived.WalkLawsBesides
import Derived.Below
import Derived.Outline
import Derived.Lib.Hide
import Derived.Lib.Walk
import Derived.Deep.QuietTactic
import Derived.BigQuiet
import Derived.Maps.AppendAt
import Derived.Laws.Externs
import Derived.Lib.ItoaMem
import Derived.Deep.LoopGhost
import Derived.Laws.BytesArg
import Derived.Laws.IdiomStrings
import Derived.Deep.RegionHeld3
import Derived.Laws.Bits128
import Derived.RegionTactic
import Derived.BigCall
import Derived.BigGuard
namespace Go.Proofs.YtookoagcmejkpaaGreatDoor.Lx
set_option maxRecDepth 100000
open Go Go.RowKit
structure RdAt (W : World) (R : Nat) (p : Option Addr) (c : Nat) (bs : List UInt8) (a : Nat) : Prop where
 cb : W.cell? ⟨R, 0, none⟩ = some (.slice p bs.length c)
 ca : W.cell? ⟨R, 1, none⟩ = some (.int .i64 (a : Int))
 cl : ∀ b : UInt8, W.cell? ⟨R, 2 + b.toNat, none⟩ = some (.int .u8 (clB b : Int))
 fz : W.frozen? ⟨R, 1, none⟩ = false
 bi : BytesIn W p bs
 ne : 0 < bs.length → ∀ b off, p = some ⟨b, off, none⟩ → b ≠ R
 hl : R < W.heap.size
 hn : bs.length ≤ 1048576
 hk : bs.length ≤ c
 ha : a ≤ bs.length
section
variable {W W' : World} {R : Nat} {p : Option Addr} {c : Nat} {bs : List UInt8} {a : Nat}
theorem RdAt.only {T : Nat → Prop} (h : RdAt W R p c bs a) (ho : Only T W W') (h1 : ¬ T R) (h2 : 0 < bs.length → ∀ b off, p = some ⟨b, off, none⟩ → ¬ T b) : RdAt W' R p c bs a :=
 ⟨ho.cell h.cb h1, ho.cell h.ca h1, fun b => ho.cell (h.cl b) h1, by rw [ho.frozen h.hl h1]; exact h.fz, h.bi.only ho h2, h.ne, Nat.lt_of_lt_of_le h.hl ho.size, h.hn, h.hk, h.ha⟩
theorem RdAt.later (h : RdAt W R p c bs a) (hb : Below W.heap.size W W') : RdAt W' R p c bs a :=
 h.only (Only.of_below (T := fun _ => False) hb) (fun h => h) (fun _ _ _ _ h => h)
theorem RdAt.set (h : RdAt W R p c bs a) {v : Int} {a' : Nat} (hv : v = (a' : Int)) (ha : a' ≤ bs.length) : RdAt (W.setCell ⟨R, 1, none⟩ (.int .i64 v)) R p c bs a' := by
 subst hv
 have hs := Only.of_setCell W ⟨R, 1, none⟩ (.int .i64 (a' : Int))
 have far : ∀ o v, o ≠ 1 → W.cell? ⟨R, o, none⟩ = some v → (W.setCell ⟨R, 1, none⟩ (.int .i64 (a' : Int))).cell? ⟨R, o, none⟩ = some v := fun o v h3 h4 => by
  rw [World.cell?_setCell_other _ _ _ _ (by intro e; cases e; exact h3 rfl)]; exact h4
 exact ⟨far 0 _ (by omega) h.cb, World.cell?_setCell_same _ _ _ h.ca, fun b => far _ _ (by omega) (h.cl b), by rw [World.frozen?_setCell]; exact h.fz,
  h.bi.only hs h.ne, h.ne, by rw [World.size_setCell]; exact h.hl, h.hn, h.hk, ha⟩
theorem only_set (W : World) (R o : Nat) (v : Value) : Only (· = R) W (W.setCell ⟨R, o, none⟩ v) := Only.of_setCell W ⟨R, o, none⟩ v
end
theorem and_all (m : Nat) (f : UInt8 → Bool) (h : (List.range 256).all (fun n => (bits BinOp.and IntKind.u8 (clB (UInt8.ofNat n) : Int) (m : Int) != 0) == f (UInt8.ofNat n)) = true) (c : UInt8) : (bits BinOp.and IntKind.u8 (clB c : Int) (m : Int) != 0) = f c := by
 have := u8_all (p := fun c => (bits BinOp.and IntKind.u8 (clB c : Int) (m : Int) != 0) == f c) h c
 exact eq_of_beq this
theorem and1 (c : UInt8) : (bits BinOp.and IntKind.u8 (clB c : Int) 1 != 0) = spB c := and_all 1 spB (by decide +kernel) c
theorem and2 (c : UInt8) : (bits BinOp.and IntKind.u8 (clB c : Int) 2 != 0) = syB c := and_all 2 syB (by decide +kernel) c
theorem and4 (c : UInt8) : (bits BinOp.and IntKind.u8 (clB c : Int) 4 != 0) = dgB c := and_all 4 dgB (by decide +kernel) c
theorem and8 (c : UInt8) : (bits BinOp.and IntKind.u8 (clB c : Int) 8 != 0) = hxB c := and_all 8 hxB (by decide +kernel) c
theorem and16 (c : UInt8) : (bits BinOp.and IntKind.u8 (clB c : Int) 16 != 0) = txB c := and_all 16 txB (by decide +kernel) c
theorem not_ne {x : Int} {b : Bool} (h : (x != 0) = b) : (x == 0) = !b := by rw [← h, bne, Bool.not_not]
theorem drop_at {bs : List UInt8} {a : Nat} (h : a < bs.length) : bs.drop a = bs[a] :: bs.drop (a + 1) := List.drop_eq_getElem_cons h

set_option maxHeartbeats 1600000 in
theorem skip_any (R : Nat) (p : Option Addr) (c : Nat) (bs : List UInt8) (a0 : Nat) (W : World) (h : RdAt W R p c bs a0) :
  Calls Tryz.prog 134 #[.pointer (some ⟨R, 0, none⟩)] W fun e w' => e = .returned (.tuple #[]) ∧ RdAt w' R p c bs (a0 + skipM false (bs.drop a0)) ∧ Only (· = R) W w' := by
 have H := Lib.hid h
 have hn := h.hn
 generalize hN : a0 + skipM false (bs.drop a0) = N0
 have HN := Lib.hid hN
 clear h hN
 go_enter Tryz.func134, Tryz.ntmps134
 go_wp2_with fail
 go_loopg [12] (bs.length + 1) (fun gk s12 wx => ∃ a : Nat, Hid (a ≤ bs.length ∧ bs.length + 1 ≤ a + gk ∧ a + skipM false (bs.drop a) = N0 ∧ RdAt wx R p c bs a ∧ Only (· = R) W wx))
 case atStart => exact ⟨a0, Lib.hid ⟨H.out.ha, by omega, HN.out, H.out, Only.refl _ _⟩⟩
 case round =>
  obtain ⟨a, HI⟩ := hrel
  clear H HN
  obtain ⟨h1, h2, h3, hr, ho⟩ := HI.out
  have c0 := hr.cb
  have c1 := hr.ca
  have f1 := hr.fz
  have HG := Lib.hid h2
  have HE := Lib.hid h3
  have HO := Lib.hid ho
  have HR := Lib.hid hr
  clear h2 h3 ho HI
  obtain ⟨n, hnl⟩ : ∃ n, n = bs.length := ⟨_, rfl⟩
  have HL := Lib.hid hnl
  rw [← hnl] at c0 hn h1
  clear hnl
  by_cases hlt : a < n
  ·obtain ⟨G, rfl⟩ : ∃ G, gk = G + 1 := ⟨gk - 1, by have := HG.out; have := HL.out; omega⟩
   have i1 : (a : Int) < (n : Int) := by omega
   have i0 : (0 : Int) ≤ (a : Int) := by omega
   have hab : a < bs.length := by have := HL.out; omega
   have hd := drop_at hab
   obtain ⟨b, off, rfl, cb⟩ := hr.bi a hab
   have ccl := hr.cl bs[a]
   have hz : (bs[a].toNat : Int) < 256 := by have := bs[a].toNat_lt; omega
   have hz0 : (0 : Int) ≤ (bs[a].toNat : Int) := by omega
   have an := and1 bs[a]
   have eq59 : ((bs[a].toNat : Int) == 59) = (bs[a] == 59) := by
    have := u8_all (p := fun c => ((c.toNat : Int) == 59) == (c == 59)) (by decide +kernel) bs[a]
    simpa using this
   generalize bs[a] = x at *
   generalize x.toNat = y at *
   generalize clB x = z at *
   have HD := Lib.hid hd
   clear hr hd
   cases hs : spB x with
   | true =>
    rw [hs] at an
    have HS := Lib.hid hs
    clear hs eq59
    go_wp2_with fail
    go_quiet (fail)
    go_wp2_with fail
    go_quiet (fail)
    go_wp2_with fail
    go_roundg G
    case measure => have := HG.out; have := HL.out; omega
    case rel =>
     have hl := HL.out
     have hg := HG.out
     obtain ⟨a', ha'⟩ : ∃ a', a' = a + 1 := ⟨_, rfl⟩
     refine ⟨a', Lib.hid ⟨by omega, by omega, ?_, ?_, ?_⟩⟩
     all_goals (try rw [ha'])
     ·have := HE.out; rw [HD.out] at this; simp only [skipM, HS.out, if_true] at this; omega
     ·exact (HR.out.later (by first | exact below_drewN _ _ | exact Below.refl _ _ | (repeat (first | exact Below.refl _ _ | apply bdd)))).set (by omega) (by omega)
     ·exact (HO.out.trans (Only.of_below (by first | exact below_drewN _ _ | exact Below.refl _ _ | (repeat (first | exact Below.refl _ _ | apply bdd))))).trans (only_set _ _ _ _)
   | false =>
    rw [hs] at an
    cases hc : (x == 59) with
    | false =>
     rw [hc] at eq59
     have hend : a = N0 := by have := HE.out; rw [HD.out] at this; simp [skipM, hs, hc] at this; exact this
     have HN := Lib.hid hend
     clear hs hc hend
     go_wp2_with fail
     go_quiet (fail)
     go_wp2_with fail
     go_quiet (fail)
     go_wp2_with fail
     go_quiet (fail)
     go_wp2_with fail
     exact bodyPost_ret (v := .tuple #[]) (by simp [results, Tryz.results134, go_sem]) rfl ⟨rfl, by rw [← HN.out]; exact HR.out.later (by first | exact below_drewN _ _ | exact Below.refl _ _ | (repeat (first | exact Below.refl _ _ | apply bdd))), HO.out.trans (Only.of_below (by first | exact below_drewN _ _ | exact Below.refl _ _ | (repeat (first | exact Below.refl _ _ | apply bdd))))⟩
    | true =>
     rw [hc] at eq59
     have hx : x = 59 := by simpa using hc
     have HE2 := Lib.hid (show a + skipM true (bs.drop a) = N0 by
      have := HE.out; rw [HD.out] at this ⊢; subst hx; simpa [skipM, hs] using this)
     have HX := Lib.hid hx
     clear hs hc hx HE
     go_wp2_with fail
     go_quiet (fail)
     go_wp2_with fail
     go_quiet (fail)
     go_wp2_with fail
     go_quiet (fail)
     go_wp2_with fail
     generalize hW1 : ((wr.drewN _).drewN _).drewN _ = W1
     have HR1 := Lib.hid (show RdAt W1 R (some ⟨b, off, none⟩) c bs a from by rw [← hW1]; exact HR.out.later (by first | exact below_drewN _ _ | exact Below.refl _ _ | (repeat (first | exact Below.refl _ _ | apply bdd))))
     have HO1 := Lib.hid (show Only (· = R) W W1 from by rw [← hW1]; exact HO.out.trans (Only.of_below (by first | exact below_drewN _ _ | exact Below.refl _ _ | (repeat (first | exact Below.refl _ _ | apply bdd)))))
     clear hW1 c0 c1 f1 ccl cb HR HO
     go_loopg [71] (bs.length + 1) (fun ik s12 wx => ∃ a2 : Nat, Hid (a ≤ a2 ∧ a2 ≤ n ∧ n + 1 ≤ a2 + ik ∧ a2 + skipM true (bs.drop a2) = N0 ∧ RdAt wx R (some ⟨b, off, none⟩) c bs a2 ∧ Only (· = R) W wx))
     case atStart => exact ⟨a, Lib.hid ⟨Nat.le_refl _, h1, by have := HL.out; omega, HE2.out, HR1.out, HO1.out⟩⟩
     case round =>
      obtain ⟨a2, HI⟩ := hrel
      clear HR1 HO1 HE2
      obtain ⟨j0, j1, j2, j3, hr, ho⟩ := HI.out
      have c0 := hr.cb
      have c1 := hr.ca
      have f1 := hr.fz
      have HE := Lib.hid j3
      have HO := Lib.hid ho
      have HR := Lib.hid hr
      have HA := Lib.hid j0
      have HG2 := Lib.hid j2
      rw [← HL.out] at c0
      clear j0 j2 j3 ho HI
      by_cases hlt2 : a2 < n
      ·have i1 : (a2 : Int) < (n : Int) := by omega
       have i0 : (0 : Int) ≤ (a2 : Int) := by omega
       have hab : a2 < bs.length := by have := HL.out; omega
       have hd := drop_at hab
       obtain ⟨b2, off2, e2, cb⟩ := hr.bi a2 hab
       cases e2
       have hz : (bs[a2].toNat : Int) < 256 := by have := bs[a2].toNat_lt; omega
       have hz0 : (0 : Int) ≤ (bs[a2].toNat : Int) := by omega
       have eq10 : ((bs[a2].toNat : Int) != 10) = (bs[a2] != 10) := by
        have := u8_all (p := fun c => ((c.toNat : Int) != 10) == (c != 10)) (by decide +kernel) bs[a2]
        simpa using this
       generalize bs[a2] = x2 at *
       generalize x2.toNat = y2 at *
       have HD2 := Lib.hid hd
       clear hr hd
       cases hc : (x2 != 10) with
       | true =>
        rw [hc] at eq10
        have HC := Lib.hid hc
        clear hc
        go_wp2_with fail
        go_quiet (fail)
        go_wp2_with fail
        go_roundg (gk - 1)
        case measure => have := HG2.out; omega
        case rel =>
         have hg := HG2.out
         obtain ⟨a', ha'⟩ : ∃ a', a' = a2 + 1 := ⟨_, rfl⟩
         refine ⟨a', Lib.hid ⟨by have := HA.out; omega, by omega, by omega, ?_, ?_, ?_⟩⟩
         all_goals (try rw [ha'])
         ·have hne : (x2 == 10) = false := by have := HC.out; simpa using this
          have := HE.out; rw [HD2.out] at this; simp only [skipM, hne] at this; simp at this; omega
         ·exact (HR.out.later (by first | exact below_drewN _ _ | exact Below.refl _ _ | (repeat (first | exact Below.refl _ _ | apply bdd)))).set (by omega) (by have := HL.out; omega)
         ·exact (HO.out.trans (Only.of_below (by first | exact below_drewN _ _ | exact Below.refl _ _ | (repeat (first | exact Below.refl _ _ | apply bdd))))).trans (only_set _ _ _ _)
       | false =>
        rw [hc] at eq10
        have hx : x2 = 10 := by simpa using hc
        have hne : a ≠ a2 := fun e => by
         subst e
         have h1 := HD.out; have h2 := HD2.out
         rw [h1] at h2
         have h3 := HX.out
         simp only [List.cons.injEq] at h2
         rw [hx, h3] at h2
         exact absurd h2.1 (by decide)
        have HX2 := Lib.hid (show a2 + skipM false (bs.drop a2) = N0 by
         have := HE.out; rw [HD2.out] at this ⊢; subst hx; simpa [skipM, spB] using this)
        have HNE := Lib.hid hne
        clear hc hx hne
        go_wp2_with fail
        go_quiet (fail)
        go_wp2_with fail
        go_roundg G
        case measure => omega
        case rel =>
         refine ⟨a2, Lib.hid ⟨by have := HL.out; omega, ?_, HX2.out, HR.out.later (by first | exact below_drewN _ _ | exact Below.refl _ _ | (repeat (first | exact Below.refl _ _ | apply bdd))), HO.out.trans (Only.of_below (by first | exact below_drewN _ _ | exact Below.refl _ _ | (repeat (first | exact Below.refl _ _ | apply bdd))))⟩⟩
         have := HG.out; have := HA.out; have := HNE.out; omega
      ·have HX2 := Lib.hid (show a2 + skipM false (bs.drop a2) = N0 by
        have hl := HL.out
        have := HE.out; rw [List.drop_of_length_le (by omega)] at this ⊢; simpa [skipM] using this)
       have d1 : ((a2 : Int) < (n : Int)) = False := by simp; omega
       have d2 : decide ((a2 : Int) < (n : Int)) = false := by simp; omega
       clear hr
       go_wp2_with fail
       go_quiet (fail)
       go_wp2_with fail
       go_roundg G
       case measure => omega
       case rel =>
        refine ⟨a2, Lib.hid ⟨by have := HL.out; omega, ?_, HX2.out, HR.out.later (by first | exact below_drewN _ _ | exact Below.refl _ _ | (repeat (first | exact Below.refl _ _ | apply bdd))), HO.out.trans (Only.of_below (by first | exact below_drewN _ _ | exact Below.refl _ _ | (repeat (first | exact Below.refl _ _ | apply bdd))))⟩⟩
        have := HG.out; have := HA.out; omega
  ·have hend : a = N0 := by
    have hl := HL.out
    have := HE.out; rw [List.drop_of_length_le (by omega)] at this; simpa [skipM] using this
   have HN := Lib.hid hend
   clear hend hr
   go_wp2_with fail
   go_quiet (fail)
   go_wp2_with fail
   go_end0
   exact ⟨rfl, by rw [← HN.out]; exact HR.out.later (by first | exact below_drewN _ _ | exact Below.refl _ _ | (repeat (first | exact Below.refl _ _ | apply bdd))), HO.out.trans (Only.of_below (by first | exact below_drewN _ _ | exact Below.refl _ _ | (repeat (first | exact Below.refl _ _ | apply bdd))))⟩
theorem tw_drop (bs : List UInt8) (a : Nat) (h : a < bs.length) (hs : syB bs[a] = true) : (wordL (bs.drop a)).length = 1 + (wordL (bs.drop (a + 1))).length := by
 unfold wordL
 rw [drop_at h, List.takeWhile_cons, if_pos hs]; simp; omega
theorem tw_stop (bs : List UInt8) (a : Nat) (h : a < bs.length) (hs : syB bs[a] = false) : (wordL (bs.drop a)).length = 0 := by
 unfold wordL
 rw [drop_at h, List.takeWhile_cons, if_neg (by rw [hs]; decide)]; rfl
theorem tw_end (bs : List UInt8) (a : Nat) (h : bs.length ≤ a) : (wordL (bs.drop a)).length = 0 := by
 rw [List.drop_of_length_le h]; rfl
theorem word_take (s : List UInt8) : s.take (wordL s).length = wordL s := by
 unfold wordL
 exact (List.prefix_iff_eq_take.1 (List.takeWhile_prefix syB)).symm
theorem byte_gt {x : UInt8} : (x.toNat : Int) < 256 ∧ (0 : Int) ≤ (x.toNat : Int) := by have := x.toNat_lt; omega
set_option maxHeartbeats 1600000 in
theorem word_any (R : Nat) (p : Option Addr) (c : Nat) (bs : List UInt8) (a0 : Nat) (W : World) (h : RdAt W R p c bs a0) :
  Calls Tryz.prog 156 #[.pointer (some ⟨R, 0, none⟩)] W fun e w' => e = .returned (.string ⟨(wordL (bs.drop a0)).toArray⟩) ∧ RdAt w' R p c bs (a0 + (wordL (bs.drop a0)).length) ∧ Only (· = R) W w' := by
 have H := Lib.hid h
 have hn := h.hn
 have hc1 := h.ca
 have h00 := h.ha
 generalize hN : a0 + (wordL (bs.drop a0)).length = N0
 have HN := Lib.hid hN
 have HNN := Lib.hid hN
 clear h hN
 go_enter Tryz.func156, Tryz.ntmps156
 go_wp2_with fail
 go_loopg [36] (bs.length + 1) (fun gk s12 wx => ∃ a : Nat, Hid (a0 ≤ a ∧ a ≤ bs.length ∧ bs.length + 1 ≤ a + gk ∧ a + (wordL (bs.drop a)).length = N0 ∧ RdAt wx R p c bs a ∧ Only (· = R) W wx))
 case atStart => exact ⟨a0, Lib.hid ⟨Nat.le_refl _, H.out.ha, by omega, HN.out, H.out, Only.refl _ _⟩⟩
 case round =>
  obtain ⟨a, HI⟩ := hrel
  clear H hc1
  obtain ⟨h0, h1, h2, h3, hr, ho⟩ := HI.out
  have c0 := hr.cb
  have c1 := hr.ca
  have f1 := hr.fz
  have HG := Lib.hid h2
  have HE := Lib.hid h3
  have HO := Lib.hid ho
  have HR := Lib.hid hr
  clear h2 h3 ho HI
  obtain ⟨n, hnl⟩ : ∃ n, n = bs.length := ⟨_, rfl⟩
  have HL := Lib.hid hnl
  rw [← hnl] at c0 hn h1 h00
  clear hnl
  by_cases hlt : a < n
  ·obtain ⟨G, rfl⟩ : ∃ G, gk = G + 1 := ⟨gk - 1, by have := HG.out; have := HL.out; omega⟩
   have i1 : (a : Int) < (n : Int) := by omega
   have i0 : (0 : Int) ≤ (a : Int) := by omega
   have hab : a < bs.length := by have := HL.out; omega
   obtain ⟨b, off, rfl, cb⟩ := hr.bi a hab
   have ccl := hr.cl bs[a]
   obtain ⟨hz, hz0⟩ := byte_gt (x := bs[a])
   have an := and2 bs[a]
   have hs1 := tw_drop bs a hab
   have hs2 := tw_stop bs a hab
   cases hs : syB bs[a] with
   | true =>
    rw [hs] at an
    have HS := Lib.hid (hs1 hs)
    generalize bs[a] = x at *
    generalize x.toNat = y at *
    generalize clB x = z at *
    clear hs hs1 hs2 hr
    go_wp2_with fail
    go_quiet (fail)
    go_wp2_with fail
    go_roundg G
    case measure => have := HG.out; have := HL.out; omega
    case rel =>
     have hl := HL.out
     have hg := HG.out
     obtain ⟨a', ha'⟩ : ∃ a', a' = a + 1 := ⟨_, rfl⟩
     refine ⟨a', Lib.hid ⟨by omega, by omega, by omega, ?_, ?_, ?_⟩⟩
     all_goals (try rw [ha'])
     ·have := HE.out; have := HS.out; omega
     ·exact (HR.out.later (by first | exact below_drewN _ _ | exact Below.refl _ _ | (repeat (first | exact Below.refl _ _ | apply bdd)))).set (by omega) (by omega)
     ·exact (HO.out.trans (Only.of_below (by first | exact below_drewN _ _ | exact Below.refl _ _ | (repeat (first | exact Below.refl _ _ | apply bdd))))).trans (only_set _ _ _ _)
   | false =>
    rw [hs] at an
    have HS := Lib.hid (show a = N0 by have := HE.out; have := hs2 hs; omega)
    generalize bs[a] = x at *
    generalize x.toNat = y at *
    generalize clB x = z at *
    clear hs hs1 hs2 hr
    go_wp2_with fail
    go_quiet (fail)
    go_wp2_with fail
    generalize hW1 : wr.drewN _ = W1
    have HR1 := Lib.hid (show RdAt W1 R (some ⟨b, off, none⟩) c bs a from by rw [← hW1]; exact HR.out.later (by first | exact below_drewN _ _ | exact Below.refl _ _ | (repeat (first | exact Below.refl _ _ | apply bdd))))
    have HO1 := Lib.hid (show Only (· = R) W W1 from by rw [← hW1]; exact HO.out.trans (Only.of_below (by first | exact below_drewN _ _ | exact Below.refl _ _ | (repeat (first | exact Below.refl _ _ | apply bdd)))))
    have d0 := HR1.out.cb
    have d1 := HR1.out.ca
    obtain ⟨V, hsl, hcv0⟩ := slice_conv W1 _ bs c a0 a HR1.out.bi h0 (by have := HL.out; omega) HR1.out.hk
    rw [← HL.out] at d0 hsl
    have HCV := Lib.hid (show (bs.drop a0).take (a - a0) = wordL (bs.drop a0) by
     have e : a - a0 = (wordL (bs.drop a0)).length := by have := HS.out; have := HNN.out; omega
     rw [e]; exact word_take _)
    rw [HCV.out] at hcv0
    have hcv := fun n => hcv0 (W1.drewN n) (below_drewN _ _)
    clear hcv0
    clear hW1 c0 c1 f1 HR HO
    go_quiet (fail)
    go_wp2_with fail
    go_ret
    exact ⟨rfl, by rw [← HS.out]; exact HR1.out.later (by first | exact below_drewN _ _ | exact Below.refl _ _ | (repeat (first | exact Below.refl _ _ | apply bdd))), HO1.out.trans (Only.of_below (by first | exact below_drewN _ _ | exact Below.refl _ _ | (repeat (first | exact Below.refl _ _ | apply bdd))))⟩
  ·have hend : a = N0 := by
    have hl := HL.out
    have := HE.out; have := tw_end bs a (by omega); omega
   have HN := Lib.hid hend
   clear hend hr
   go_wp2_with fail
   go_quiet (fail)
   go_wp2_with fail
   generalize hW1 : wr.drewN _ = W1
   have HR1 := Lib.hid (show RdAt W1 R p c bs a from by rw [← hW1]; exact HR.out.later (by first | exact below_drewN _ _ | exact Below.refl _ _ | (repeat (first | exact Below.refl _ _ | apply bdd))))
   have HO1 := Lib.hid (show Only (· = R) W W1 from by rw [← hW1]; exact HO.out.trans (Only.of_below (by first | exact below_drewN _ _ | exact Below.refl _ _ | (repeat (first | exact Below.refl _ _ | apply bdd)))))
   have d0 := HR1.out.cb
   have d1 := HR1.out.ca
   obtain ⟨V, hsl, hcv0⟩ := slice_conv W1 _ bs c a0 a HR1.out.bi h0 (by have := HL.out; omega) HR1.out.hk
   rw [← HL.out] at d0 hsl
   have HCV := Lib.hid (show (bs.drop a0).take (a - a0) = wordL (bs.drop a0) by
    have e : a - a0 = (wordL (bs.drop a0)).length := by have := HN.out; have := HNN.out; omega
    rw [e]; exact word_take _)
   rw [HCV.out] at hcv0
   have hcv := fun n => hcv0 (W1.drewN n) (below_drewN _ _)
   clear hcv0
   clear hW1 c0 c1 f1 HR HO
   go_quiet (fail)
   go_wp2_with fail
   go_ret
   exact ⟨rfl, by rw [← HN.out]; exact HR1.out.later (by first | exact below_drewN _ _ | exact Below.refl _ _ | (repeat (first | exact Below.refl _ _ | apply bdd))), HO1.out.trans (Only.of_below (by first | exact below_drewN _ _ | exact Below.refl _ _ | (repeat (first | exact Below.refl _ _ | apply bdd))))⟩
theorem toList_data (s : ByteArray) : s.toList = s.data.toList := ByteArray.toList_eq s
set_option maxHeartbeats 1600000 in
theorem all_any (m : Int) (f : UInt8 → Bool) (hm : ∀ c, (bits BinOp.and IntKind.u8 (clB c : Int) m == 0) = !(f c)) (R : Nat) (s : ByteArray) (W : World) (hcl : ∀ b : UInt8, W.cell? ⟨R, 2 + b.toNat, none⟩ = some (.int .u8 (clB b : Int))) (hs : s.size ≤ 1048576) :
  Calls Tryz.prog 157 #[.pointer (some ⟨R, 0, none⟩), .string s, .int .u8 m] W fun e w' => e = .returned (.bool (allB f s.data.toList)) ∧ ∃ n, w' = W.drewN n := by
 have HCL := Lib.hid hcl
 have HM := Lib.hid hm
 clear hcl hm
 go_enter Tryz.func157, Tryz.ntmps157
 go_wp2_with fail
 go_loopg [7] s.size (fun gk s7 wx => ∃ k : Nat, k + gk = s.size ∧ s7 = .int .i64 (k : Int) ∧ Hid ((∃ n, wx = W.drewN n) ∧ ∀ x ∈ s.data.toList.take k, f x = true))
 case atStart => exact ⟨0, by omega, rfl, Lib.hid ⟨⟨0, rfl⟩, by simp⟩⟩
 case round =>
  obtain ⟨k, hk, rfl, HI⟩ := hrel
  obtain ⟨nw, hwr⟩ := HI.out.1
  have HW := Lib.hid hwr
  have HG := Lib.hid hk
  have hk2 : k ≤ s.size := by omega
  clear hk hwr
  by_cases hlt : k < s.size
  ·have i1 : (k : Int) < (s.size : Int) := by omega
   have i0 : (0 : Int) ≤ (k : Int) := by omega
   have ccl : wr.cell? ⟨R, 2 + s[k].toNat, none⟩ = some (.int .u8 (clB s[k] : Int)) := by rw [HW.out]; simpa using HCL.out s[k]
   obtain ⟨hz, hz0⟩ := byte_gt (x := s[k])
   have an := HM.out s[k]
   have hts : s.data.toList.take (k + 1) = s.data.toList.take k ++ [s[k]] := by
    rw [List.take_succ_eq_append_getElem (by simpa using hlt)]; rfl
   have HTS := Lib.hid hts
   have hmem : s[k] ∈ s.data.toList := by simp [ByteArray.getElem_eq_getElem_data]
   have HME := Lib.hid hmem
   clear hts hmem
   cases hs : f s[k] with
   | true =>
    rw [hs] at an
    have an2 : (bits BinOp.and IntKind.u8 (clB s[k] : Int) m == 0) = false := an
    clear an
    have HS := Lib.hid hs
    clear hs
    go_wp2_with fail
    go_quiet (fail)
    go_wp2_with fail
    obtain ⟨G, rfl⟩ : ∃ G, gk = G + 1 := ⟨gk - 1, by have := HG.out; omega⟩
    go_roundg G
    case measure => omega
    case rel =>
     obtain ⟨k', hk'⟩ : ∃ k', k' = k + 1 := ⟨_, rfl⟩
     refine ⟨k', by have := HG.out; omega, by rw [hk']; go_num, Lib.hid ⟨⟨nw + nq, by rw [HW.out]; simp⟩, fun x hx => ?_⟩⟩
     rw [hk', HTS.out] at hx
     rcases List.mem_append.1 hx with h | h
     ·exact HI.out.2 x h
     ·have : x = s[k] := by simpa using h
      rw [this]; exact HS.out
   | false =>
    rw [hs] at an
    have an2 : (bits BinOp.and IntKind.u8 (clB s[k] : Int) m == 0) = true := an
    clear an
    have HS := Lib.hid hs
    clear hs
    go_wp2_with fail
    go_quiet (fail)
    go_wp2_with fail
    go_ret
    refine ⟨?_, nw + nq, by rw [HW.out]; simp⟩
    have : allB f s.data.toList = false := by
     unfold allB
     rw [List.all_eq_false.2 ⟨_, HME.out, by rw [HS.out]; decide⟩]; rfl
    rw [this]
    rfl
  ·go_wp2_with fail
   go_ret
   refine ⟨?_, nw, HW.out⟩
   have hk3 : k = s.size := by omega
   subst hk3
   have hall : s.data.toList.all f = true := by
    rw [List.all_eq_true]
    intro x hx
    refine HI.out.2 x ?_
    rw [List.take_of_length_le (by simp)]; exact hx
   show Ending.returned (Value.bool !s.toList.isEmpty) = _
   rw [toList_data]
   unfold allB
   rw [hall]; rfl
def tokV (k : Nat) (t : List UInt8) (a : Nat) : Value := .agg #[.int .u8 (k : Int), .string ⟨t.toArray⟩, .int .i64 (a : Int)]
def TokRes (R : Nat) (p : Option Addr) (c : Nat) (bs : List UInt8) (a0 : Nat) (W : World) (r : Res) (e : Ending) (w' : World) : Prop :=
 Only (· = R) W w' ∧ match r with
 | .tok k t n => e = .returned (.tuple #[tokV k t 0, .int .i64 0]) ∧ RdAt w' R p c bs (a0 + n)
 | .err er => e = .returned (.tuple #[tokV 0 [] 0, .int .i64 (er : Int)])
def u8v (x : UInt8) : Value := .int .u8 (x.toNat : Int)
structure TokB (W : World) (b : Nat) : Prop where
 c0 : ∃ v, W.cell? ⟨b, 0, none⟩ = some (.int .u8 v)
 c1 : ∃ v, W.cell? ⟨b, 1, none⟩ = some (.string v)
 c2 : ∃ v, W.cell? ⟨b, 2, none⟩ = some (.int .i64 v)
 fz : ∀ o, W.frozen? ⟨b, o, none⟩ = false
theorem tokB_new (W : World) : TokB (W.alloc (.cells #[.int .u8 0, .string ByteArray.empty, .int .i64 0] 32)) W.heap.size :=
 ⟨⟨0, by simp [go_sem]⟩, ⟨ByteArray.empty, by simp [go_sem]⟩, ⟨0, by simp [go_sem]⟩, fun o => by simp [go_sem]⟩
theorem TokB.later {W W' : World} {b : Nat} (h : TokB W b) (hb : Below W.heap.size W W') : TokB W' b := by
 obtain ⟨v0, h0⟩ := h.c0
 obtain ⟨v1, h1⟩ := h.c1
 obtain ⟨v2, h2⟩ := h.c2
 exact ⟨⟨v0, cell_later hb h0⟩, ⟨v1, cell_later hb h1⟩, ⟨v2, cell_later hb h2⟩, fun o => by rw [hb.frozen (p := ⟨b, o, none⟩) (World.block_lt_of_cell? W ⟨b, 0, none⟩ h0)]; exact h.fz o⟩
theorem TokB.only {W W' : World} {b : Nat} {T : Nat → Prop} (h : TokB W b) (ho : Only T W W') (hn : ¬ T b) : TokB W' b := by
 obtain ⟨v0, h0⟩ := h.c0
 obtain ⟨v1, h1⟩ := h.c1
 obtain ⟨v2, h2⟩ := h.c2
 exact ⟨⟨v0, ho.cell h0 hn⟩, ⟨v1, ho.cell h1 hn⟩, ⟨v2, ho.cell h2 hn⟩, fun o => by rw [ho.frozen (a := ⟨b, o, none⟩) (World.block_lt_of_cell? W ⟨b, 0, none⟩ h0) hn]; exact h.fz o⟩
theorem eq_u8 (n : Nat) (h : (List.range 256).all (fun m => ((UInt8.ofNat m).toNat == n) == (UInt8.ofNat m == UInt8.ofNat n)) = true) (c : UInt8) : ((c.toNat : Int) == (n : Int)) = (c == UInt8.ofNat n) := by
 have := u8_all (p := fun c => (c.toNat == n) == (c == UInt8.ofNat n)) h c
 rw [← eq_of_beq this]
 rw [Bool.eq_iff_iff]; simp; omega
theorem take_more {bs : List UInt8} {P a : Nat} (h1 : P ≤ a) (h : a < bs.length) : (bs.drop P).take (a + 1 - P) = (bs.drop P).take (a - P) ++ [bs[a]] := by
 rw [show a + 1 - P = a - P + 1 by omega, List.take_succ_eq_append_getElem (by simp; omega)]
 simp only [List.getElem_drop]
 congr 3
 omega
set_option maxHeartbeats 3200000 in
theorem quoted_any (R : Nat) (p : Option Addr) (c : Nat) (bs : List UInt8) (a0 : Nat) (W : World) (h : RdAt W R p c bs a0) (hlt0 : a0 < bs.length) :
  Calls Tryz.prog 145 #[.pointer (some ⟨R, 0, none⟩)] W (TokRes R p c bs a0 W (quo [] (bs.drop (a0 + 1)))) := by
 have H := Lib.hid h
 have hn := h.hn
 have hc1 := h.ca
 have hf1 := h.fz
 have hR := h.hl
 generalize hQ : quo [] (bs.drop (a0 + 1)) = Q
 have HQ := Lib.hid hQ
 clear h hQ
 go_enter Tryz.func145, Tryz.ntmps145
 go_wp2_with fail
 generalize hW1 : (W.setCell _ _).alloc _ = W1
 obtain ⟨P, hP⟩ : ∃ P, P = a0 + 1 := ⟨_, rfl⟩
 have hPi : (a0 : Int) + 1 = (P : Int) := by omega
 rw [hPi] at hW1 ⊢
 have h1 := H.out.set (v := (P : Int)) (a' := P) rfl (by omega)
 have hOW := only_set W R 1 (.int .i64 (P : Int))
 have hB1 := below1 (W.setCell ⟨R, 1, none⟩ (.int .i64 (P : Int))) (.cells #[.int .u8 0, .string ByteArray.empty, .int .i64 0] 32)
 have hTB := tokB_new (W.setCell ⟨R, 1, none⟩ (.int .i64 (P : Int)))
 rw [World.size_setCell] at hTB
 have HI0 := Lib.hid (show RdAt W1 R p c bs P ∧ Only (· = R) W W1 ∧ TokB W1 W.heap.size by
  rw [← hW1]
  exact ⟨h1.later hB1, hOW.trans (Only.of_below hB1), hTB⟩)
 have HQ2 := Lib.hid (show quo ((bs.drop P).take (P - P)) (bs.drop P) = Q by rw [Nat.sub_self, List.take_zero, hP]; exact HQ.out)
 have HRB := Lib.hid (show R ≠ W.heap.size by omega)
 have HP := Lib.hid hP
 have HPB := Lib.hid (H.out.bi.lt (by omega))
 clear hP hPi hW1 h1 hOW hB1 hTB hc1 hf1 HQ H hR
 generalize hB : W.heap.size = B at *
 have HBB := Lib.hid hB
 clear hB
 go_loopg [5] (bs.length + 1) (fun gk s5 wx => ∃ a : Nat, Hid (P ≤ a ∧ a ≤ bs.length ∧ bs.length + 1 ≤ a + gk ∧ quo ((bs.drop P).take (a - P)) (bs.drop a) = Q ∧ RdAt wx R p c bs a ∧ Only (· = R) W wx ∧ TokB wx B))
 case atStart => exact ⟨P, Lib.hid ⟨Nat.le_refl _, HI0.out.1.ha, by omega, HQ2.out, HI0.out.1, HI0.out.2.1, HI0.out.2.2⟩⟩
 case round =>
  obtain ⟨a, HI⟩ := hrel
  clear HI0 HQ2
  obtain ⟨h0, h1, h2, h3, hr, ho, ht⟩ := HI.out
  have c0 := hr.cb
  have c1 := hr.ca
  have f1 := hr.fz
  have HG := Lib.hid h2
  have HE := Lib.hid h3
  have HO := Lib.hid ho
  have HR := Lib.hid hr
  have HT := Lib.hid ht
  clear h2 h3 ho HI ht
  obtain ⟨n, hnl⟩ : ∃ n, n = bs.length := ⟨_, rfl⟩
  have HL := Lib.hid hnl
  rw [← hnl] at c0 hn h1 hlt0
  clear hnl
  by_cases hlt : a < n
  ·obtain ⟨G, rfl⟩ : ∃ G, gk = G + 1 := ⟨gk - 1, by have := HG.out; have := HL.out; omega⟩
   have i1 : (a : Int) < (n : Int) := by omega
   have i0 : (0 : Int) ≤ (a : Int) := by omega
   have hab : a < bs.length := by have := HL.out; omega
   have hd := drop_at hab
   have htm := take_more h0 hab
   obtain ⟨b, off, rfl, cb⟩ := hr.bi a hab
   have ccl := hr.cl bs[a]
   obtain ⟨hz, hz0⟩ := byte_gt (x := bs[a])
   have an := not_ne (and16 bs[a])
   have e124 : ((bs[a].toNat : Int) == 124) = (bs[a] == 124) := eq_u8 124 (by decide +kernel) _
   have e92 : ((bs[a].toNat : Int) == 92) = (bs[a] == 92) := eq_u8 92 (by decide +kernel) _
   generalize bs[a] = x at *
   generalize x.toNat = y at *
   generalize clB x = z at *
   have HD := Lib.hid hd
   have HTM := Lib.hid htm
   clear hr hd htm
   cases q1 : (x == 124) with
   | true =>
    rw [q1] at e124
    have hres : Q = .tok 3 ((bs.drop P).take (a - P)) (a - P + 2) := by
     have := HE.out; rw [HD.out] at this; simp only [quo, q1, if_true] at this
     rw [← this]; congr 1; simp; omega
    have HRES := Lib.hid hres
    clear q1 hres e92 an
    go_wp2_with fail
    go_quiet (fail)
    go_wp2_with fail
    go_quiet (fail)
    go_wp2_with fail
    obtain ⟨A1, hA1⟩ : ∃ A1, A1 = a + 1 := ⟨_, rfl⟩
    have hA1i : (a : Int) + 1 = (A1 : Int) := by omega
    rw [hA1i]
    generalize hW2 : (wr.drewN _).setCell _ _ = W2
    have HR2 := Lib.hid (show RdAt W2 R (some ⟨b, off, none⟩) c bs A1 from by rw [← hW2]; exact (HR.out.later (by first | exact below_drewN _ _ | exact Below.refl _ _ | (repeat (first | exact Below.refl _ _ | apply bdd)))).set rfl (by omega))
    have HO2 := Lib.hid (show Only (· = R) W W2 from by rw [← hW2]; exact (HO.out.trans (Only.of_below (by first | exact below_drewN _ _ | exact Below.refl _ _ | (repeat (first | exact Below.refl _ _ | apply bdd))))).trans (only_set _ _ _ _))
    have HT2 := Lib.hid (show TokB W2 B from by rw [← hW2]; exact (HT.out.later (by first | exact below_drewN _ _ | exact Below.refl _ _ | (repeat (first | exact Below.refl _ _ | apply bdd)))).only (only_set _ _ _ _) (fun e => HRB.out e.symm))
    have HA1 := Lib.hid hA1
    clear hW2 c0 c1 f1 ccl cb HR HO HT hA1 hA1i
    have d0 := HR2.out.cb
    have d1 := HR2.out.ca
    obtain ⟨V, hsl, hcv0⟩ := slice_conv W2 _ bs c P a HR2.out.bi h0 (by have := HL.out; omega) HR2.out.hk
    have hcv := fun n => hcv0 (W2.drewN n) (below_drewN _ _)
    have hcv1 := hcv0 W2.drew (below_drew _)
    have hcv2 := hcv0 W2 (Below.refl _ _)
    rw [← HL.out] at d0 hsl
    have hA2 : IntKind.i64.wrap ((A1 : Int) - 1) = (a : Int) := by rw [IntWalk.i64_in _ (by have := HA1.out; omega)]; have := HA1.out; omega
    obtain ⟨v0, t0⟩ := HT2.out.c0
    obtain ⟨v1, t1⟩ := HT2.out.c1
    obtain ⟨v2, t2⟩ := HT2.out.c2
    have tf0 := HT2.out.fz 0
    have tf1 := HT2.out.fz 1
    have tf2 := HT2.out.fz 2
    clear hcv0
    go_region
    all_goals go_wp2_with fail
    have hO3 := ((HO2.out.new (b := B) (o := 0) (v := .int .u8 3) (Nat.le_of_eq HBB.out)).new (b := B) (o := 1) (v := .string ⟨((bs.drop P).take (a - P)).toArray⟩) (Nat.le_of_eq HBB.out)).new (b := B) (o := 2) (v := .int .i64 0) (Nat.le_of_eq HBB.out)
    have hset : Only (· = B) W2 (((W2.setCell ⟨B, 0, none⟩ (.int .u8 3)).setCell ⟨B, 1, none⟩ (.string ⟨((bs.drop P).take (a - P)).toArray⟩)).setCell ⟨B, 2, none⟩ (.int .i64 0)) := ((only_set _ B 0 _).trans (only_set _ B 1 _)).trans (only_set _ B 2 _)
    have hfin := (HR2.out.only hset HRB.out (fun hp b off e => by have := HPB.out b off e; show ¬ b = B; omega)).later (below_drew _)
    refine bodyPost_ret (v := .tuple #[tokV 3 ((bs.drop P).take (a - P)) 0, .int .i64 0]) (by simp [results, Tryz.results145, go_sem, t0, t1, t2, tokV]) rfl ⟨hO3.trans (Only.of_below (below_drew _)), ?_⟩
    rw [HRES.out]
    refine ⟨rfl, ?_⟩
    have e : a0 + (a - P + 2) = A1 := by have := HA1.out; have := HP.out; omega
    rw [e]; exact hfin
   | false =>
    rw [q1] at e124
    cases q2 : (x == 92) with
    | true =>
     rw [q2] at e92
     have HRES := Lib.hid (show Q = .err 30 by
      have := HE.out; rw [HD.out] at this; simp only [quo, q1, q2] at this; simpa using this.symm)
     clear q1 q2 an
     obtain ⟨v0, t0⟩ := HT.out.c0
     obtain ⟨v1, t1⟩ := HT.out.c1
     obtain ⟨v2, t2⟩ := HT.out.c2
     have tf0 := HT.out.fz 0
     have tf1 := HT.out.fz 1
     have tf2 := HT.out.fz 2
     go_wp2_with fail
     go_quiet (fail)
     go_wp2_with fail
     go_quiet (fail)
     go_wp2_with fail
     refine bodyPost_ret (v := .tuple #[tokV 0 [] 0, .int .i64 30]) (by simp [results, Tryz.results145, go_sem, t0, t1, t2, tokV]) rfl ⟨?_, ?_⟩
     ·exact (((HO.out.trans (Only.of_below (by first | exact below_drewN _ _ | exact Below.refl _ _ | (repeat (first | exact Below.refl _ _ | apply bdd))))).new (Nat.le_of_eq HBB.out)).new (Nat.le_of_eq HBB.out)).new (Nat.le_of_eq HBB.out)
     ·rw [HRES.out]; rfl
    | false =>
     rw [q2] at e92
     cases q3 : txB x with
     | false =>
      rw [q3] at an
      have an2 : (bits BinOp.and IntKind.u8 (z : Int) 16 == 0) = true := an
      clear an
      have HRES := Lib.hid (show Q = .err 30 by
       have := HE.out; rw [HD.out] at this; simp only [quo, q1, q2, q3] at this; simpa using this.symm)
      clear q1 q2 q3
      obtain ⟨v0, t0⟩ := HT.out.c0
      obtain ⟨v1, t1⟩ := HT.out.c1
      obtain ⟨v2, t2⟩ := HT.out.c2
      have tf0 := HT.out.fz 0
      have tf1 := HT.out.fz 1
      have tf2 := HT.out.fz 2
      go_wp2_with fail
      go_quiet (fail)
      go_wp2_with fail
      go_quiet (fail)
      go_wp2_with fail
      refine bodyPost_ret (v := .tuple #[tokV 0 [] 0, .int .i64 30]) (by simp [results, Tryz.results145, go_sem, t0, t1, t2, tokV]) rfl ⟨?_, ?_⟩
      ·exact (((HO.out.trans (Only.of_below (by first | exact below_drewN _ _ | exact Below.refl _ _ | (repeat (first | exact Below.refl _ _ | apply bdd))))).new (Nat.le_of_eq HBB.out)).new (Nat.le_of_eq HBB.out)).new (Nat.le_of_eq HBB.out)
      ·rw [HRES.out]; rfl
     | true =>
      rw [q3] at an
      have an2 : (bits BinOp.and IntKind.u8 (z : Int) 16 == 0) = false := an
      clear an
      have HRES := Lib.hid (show quo ((bs.drop P).take (a + 1 - P)) (bs.drop (a + 1)) = Q by
       have := HE.out; rw [HD.out] at this; simp only [quo, q1, q2, q3] at this; rw [HTM.out]; simpa using this)
      clear q1 q2 q3
      go_wp2_with fail
      go_quiet (fail)
      go_wp2_with fail
      go_quiet (fail)
      go_wp2_with fail
      go_roundg G
      case measure => omega
      case rel =>
       have hl := HL.out
       have hg := HG.out
       obtain ⟨a', ha'⟩ : ∃ a', a' = a + 1 := ⟨_, rfl⟩
       refine ⟨a', Lib.hid ⟨by omega, by omega, by omega, by rw [ha']; exact HRES.out, ?_, ?_, ?_⟩⟩
       all_goals (try rw [ha'])
       ·exact (HR.out.later (by first | exact below_drewN _ _ | exact Below.refl _ _ | (repeat (first | exact Below.refl _ _ | apply bdd)))).set (by omega) (by omega)
       ·exact (HO.out.trans (Only.of_below (by first | exact below_drewN _ _ | exact Below.refl _ _ | (repeat (first | exact Below.refl _ _ | apply bdd))))).trans (only_set _ _ _ _)
       ·exact (HT.out.later (by first | exact below_drewN _ _ | exact Below.refl _ _ | (repeat (first | exact Below.refl _ _ | apply bdd)))).only (only_set _ _ _ _) (fun e => HRB.out e.symm)
  ·have HRES := Lib.hid (show Q = .err 31 by
    have hl := HL.out
    have := HE.out; rw [List.drop_of_length_le (show bs.length ≤ a by omega)] at this; simp only [quo] at this; exact this.symm)
   clear hr
   obtain ⟨v0, t0⟩ := HT.out.c0
   obtain ⟨v1, t1⟩ := HT.out.c1
   obtain ⟨v2, t2⟩ := HT.out.c2
   have tf0 := HT.out.fz 0
   have tf1 := HT.out.fz 1
   have tf2 := HT.out.fz 2
   go_wp2_with fail
   go_quiet (fail)
   go_wp2_with fail
   refine bodyPost_ret (v := .tuple #[tokV 0 [] 0, .int .i64 31]) (by simp [results, Tryz.results145, go_sem, t0, t1, t2, tokV]) rfl ⟨?_, ?_⟩
   ·exact (((HO.out.trans (Only.of_below (by first | exact below_drewN _ _ | exact Below.refl _ _ | (repeat (first | exact Below.refl _ _ | apply bdd))))).new (Nat.le_of_eq HBB.out)).new (Nat.le_of_eq HBB.out)).new (Nat.le_of_eq HBB.out)
   ·rw [HRES.out]; rfl
theorem own_cell {w : World} {base n c : Nat} {e : TypeId} {g : Nat} {xs : List Value} (h : w.ownsRow base e 1 (.slice (some ⟨g, 0, none⟩) n c) n xs) (i : Nat) (u : Value) (hu : xs[i]? = some u) : w.cell? ⟨g, i, none⟩ = some u ∧ w.frozen? ⟨g, i, none⟩ = false := by
 obtain ⟨h0, ⟨h1, _⟩ | ⟨g', cap, cur, hv, hg, hh, hn, hm, hs, ht⟩⟩ := h
 ·cases h1
 ·cases hv
  have hlt := (List.getElem?_eq_some_iff.1 hu).1
  rw [← ht, List.getElem?_take_of_lt (by omega)] at hu
  have e' : cur[i]? = some u := by simpa using hu
  exact ⟨by simp [World.cell?, hh, e'], by simp [World.frozen?, hh]⟩
theorem own_conv (W : World) {base : Nat} {v : Value} {acc : List UInt8} (h : W.ownsRow base 5 1 v acc.length (acc.map u8v)) : ∀ W', Below W.heap.size W W' → (convert 57 9 v).run Tryz.prog W' = .ok (.string ⟨acc.toArray⟩) W' := by
 intro W' hb
 replace h := own_later h hb
 have h' := h
 rcases h.2 with ⟨rfl, hx⟩ | ⟨g, cap, cur, rfl, hg, _⟩
 ·have : acc = [] := by simpa using hx
  subst this
  exact run_convert_bytes_nil W' 57 5 Tryz.underlying57 Tryz.underlying5 0 _ 9 Tryz.underlying9
 ·refine run_convert_bytes_back W' 57 9 5 ⟨g, 0, none⟩ cap acc Tryz.underlying57 Tryz.underlying5 Tryz.underlying9 fun j hj => ?_
  rw [Lib.add_plain, Nat.zero_add]
  exact (own_cell h' j _ (by rw [List.getElem?_map, List.getElem?_eq_getElem hj]; rfl)).1
set_option maxHeartbeats 3200000 in
theorem literal_any (R : Nat) (p : Option Addr) (c : Nat) (bs : List UInt8) (a0 : Nat) (W : World) (h : RdAt W R p c bs a0) (hlt0 : a0 < bs.length) :
  Calls Tryz.prog 146 #[.pointer (some ⟨R, 0, none⟩)] W (TokRes R p c bs a0 W (lit false [] 1 (bs.drop (a0 + 1)))) := by
 obtain ⟨i5, hi5, hz0, hz1, hz2⟩ := info5
 have H := Lib.hid h
 have hn := h.hn
 have hc1 := h.ca
 have hf1 := h.fz
 have hR := h.hl
 generalize hQ : lit false [] 1 (bs.drop (a0 + 1)) = Q
 have HQ := Lib.hid hQ
 clear h hQ
 go_enter Tryz.func146, Tryz.ntmps146
 go_wp2_with fail
 generalize hW1 : (W.setCell _ _).alloc _ = W1
 obtain ⟨P, hP⟩ : ∃ P, P = a0 + 1 := ⟨_, rfl⟩
 have hPi : (a0 : Int) + 1 = (P : Int) := by omega
 rw [hPi] at hW1 ⊢
 have h1 := H.out.set (v := (P : Int)) (a' := P) rfl (by omega)
 have hOW := only_set W R 1 (.int .i64 (P : Int))
 have hB1 := below1 (W.setCell ⟨R, 1, none⟩ (.int .i64 (P : Int))) (.cells #[.int .u8 0, .string ByteArray.empty, .int .i64 0] 32)
 have hTB := tokB_new (W.setCell ⟨R, 1, none⟩ (.int .i64 (P : Int)))
 rw [World.size_setCell] at hTB
 have HI0 := Lib.hid (show RdAt W1 R p c bs P ∧ Only (· = R) W W1 ∧ TokB W1 W.heap.size ∧ W.heap.size < W1.heap.size by
  rw [← hW1]
  exact ⟨h1.later hB1, hOW.trans (Only.of_below hB1), hTB, by simp⟩)
 have HQ2 := Lib.hid (show lit false [] (P - a0) (bs.drop P) = Q by rw [hP, Nat.add_sub_cancel_left]; exact HQ.out)
 have HRB := Lib.hid (show R < W.heap.size by omega)
 have HP := Lib.hid hP
 have HPB := Lib.hid (H.out.bi.lt (by omega))
 clear hP hPi hW1 h1 hOW hB1 hTB hc1 hf1 HQ H hR
 generalize hB : W.heap.size = B at *
 have HBB := Lib.hid hB
 clear hB
 go_loopg [4, 5] (bs.length + 1) (fun gk s4 s5 wx => ∃ (a : Nat) (acc : List UInt8), Hid (P ≤ a ∧ a ≤ bs.length ∧ bs.length + 1 ≤ a + gk ∧ acc.length ≤ a ∧ lit false acc (a - a0) (bs.drop a) = Q ∧ RdAt wx R p c bs a ∧ Only (· = R) W wx ∧ TokB wx B ∧ wx.ownsRow (B + 1) 5 1 s4 acc.length (acc.map u8v) ∧ B < wx.heap.size))
 case atStart => exact ⟨P, [], Lib.hid ⟨Nat.le_refl _, HI0.out.1.ha, by omega, Nat.zero_le _, HQ2.out, HI0.out.1, HI0.out.2.1, HI0.out.2.2.1, World.ownsRow_nil _ _ _ _, HI0.out.2.2.2⟩⟩
 case round =>
  obtain ⟨a, acc, HI⟩ := hrel
  clear HI0 HQ2
  obtain ⟨h0, h1, h2, hac, h3, hr, ho, ht, hw, hsz⟩ := HI.out
  obtain ⟨pr, cr, rfl, hB_⟩ := own_shape hw
  clear hB_
  have c0 := hr.cb
  have c1 := hr.ca
  have f1 := hr.fz
  have HG := Lib.hid h2
  have HE := Lib.hid h3
  have HO := Lib.hid ho
  have HR := Lib.hid hr
  have HT := Lib.hid ht
  have HW := Lib.hid hw
  have HSZ := Lib.hid hsz
  clear h2 h3 ho HI ht hw hsz
  obtain ⟨n, hnl⟩ : ∃ n, n = bs.length := ⟨_, rfl⟩
  have HL := Lib.hid hnl
  rw [← hnl] at c0 hn h1 hlt0
  clear hnl
  by_cases hlt : a < n
  ·obtain ⟨G, rfl⟩ : ∃ G, gk = G + 1 := ⟨gk - 1, by have := HG.out; have := HL.out; omega⟩
   have i1 : (a : Int) < (n : Int) := by omega
   have i0 : (0 : Int) ≤ (a : Int) := by omega
   have hab : a < bs.length := by have := HL.out; omega
   have hd := drop_at hab
   obtain ⟨b, off, rfl, cb⟩ := hr.bi a hab
   have ccl := hr.cl bs[a]
   obtain ⟨hz, hz0'⟩ := byte_gt (x := bs[a])
   have an := not_ne (and16 bs[a])
   have e34 : ((bs[a].toNat : Int) == 34) = (bs[a] == 34) := eq_u8 34 (by decide +kernel) _
   generalize hx : bs[a] = x at *
   have HD := Lib.hid hd
   have HX := Lib.hid hx
   clear hr hd hx
   cases q1 : txB x with
   | false =>
    rw [q1] at an
    obtain ⟨y, hy⟩ : ∃ y, y = x.toNat := ⟨_, rfl⟩
    rw [← hy] at *
    clear hy
    generalize clB x = z at *
    have an2 : (bits BinOp.and IntKind.u8 (z : Int) 16 == 0) = true := an
    clear an e34
    have HRES := Lib.hid (show Q = .err 30 by
     have := HE.out; rw [HD.out] at this; simp only [lit, q1] at this; simpa using this.symm)
    clear q1
    obtain ⟨v0, t0⟩ := HT.out.c0
    obtain ⟨v1, t1⟩ := HT.out.c1
    obtain ⟨v2, t2⟩ := HT.out.c2
    have tf0 := HT.out.fz 0
    have tf1 := HT.out.fz 1
    have tf2 := HT.out.fz 2
    go_wp2_with fail
    go_quiet (fail)
    go_wp2_with fail
    go_quiet (fail)
    go_wp2_with fail
    refine bodyPost_ret (v := .tuple #[tokV 0 [] 0, .int .i64 30]) (by simp [results, Tryz.results146, go_sem, t0, t1, t2, tokV]) rfl ⟨?_, ?_⟩
    ·exact (((HO.out.trans (Only.of_below (by first | exact below_drewN _ _ | exact Below.refl _ _ | (repeat (first | exact Below.refl _ _ | apply bdd))))).new (Nat.le_of_eq HBB.out)).new (Nat.le_of_eq HBB.out)).new (Nat.le_of_eq HBB.out)
    ·rw [HRES.out]; rfl
   | true =>
    rw [q1] at an
    have an2 : (bits BinOp.and IntKind.u8 (clB x : Int) 16 == 0) = false := an
    clear an
    cases q2 : (x == 34) with
    | false =>
     rw [q2] at e34
     have HRES := Lib.hid (show lit false (acc ++ [x]) (a + 1 - a0) (bs.drop (a + 1)) = Q by
      have := HE.out; rw [HD.out] at this; simp only [lit, q1, q2] at this
      rw [show a + 1 - a0 = a - a0 + 1 by have := HP.out; omega]; simpa using this)
     clear q1 q2
     generalize hy : x.toNat = y at *
     go_wp2_with fail
     go_quiet (fail)
     go_wp2_with fail
     go_quiet (fail)
     generalize hWq : (wr.drewN _).drewN _ = Wq
     have hBq : Below wr.heap.size wr Wq := by rw [← hWq]; exact (by first | exact below_drewN _ _ | exact Below.refl _ _ | (repeat (first | exact Below.refl _ _ | apply bdd)))
     have hB3 := hBq.trans ((below1 Wq (.cells #[.int .u8 (y : Int)] 5)).mono hBq.size)
     have hnew : (Wq.alloc (.cells #[.int .u8 (y : Int)] 5)).cell? ⟨Wq.heap.size, 0, none⟩ = some (.int .u8 (y : Int)) := by simp [go_sem]
     have HR3 := Lib.hid (HR.out.later hB3)
     have HO3 := Lib.hid (HO.out.trans (Only.of_below hB3))
     have HT3 := Lib.hid (HT.out.later hB3)
     have HW3 := Lib.hid (own_later HW.out hB3)
     have hs3 : B + 1 ≤ (Wq.alloc (.cells #[.int .u8 (y : Int)] 5)).heap.size := by have := hB3.size; have := HSZ.out; omega
     have HS3 := Lib.hid hs3
     have ccl := (HR.out.later hBq).cl x
     rw [hy] at ccl
     clear hWq c0 c1 f1 cb hs3
     go_wp2_with (at_builtin; refine wpList_append_own_at _ rfl _ _ 57 rfl (B + 1) 5 i5 (.int .u8 0) 1 1 Tryz.underlying57 hi5 hz0 hz1 hz2 rfl (by omega) _ acc.length (acc.map u8v) rfl HW3.out ⟨Wq.heap.size, 0, none⟩ 1 1 [.int .u8 (y : Int)] rfl rfl ?qc2 ?qc3 ?qc4 ?qc5 ?qc6 ?_)
     case qc2 =>
      intro jj u hjj
      rw [Lib.add_plain]
      match jj, hjj with
      | 0, hjj => cases hjj; exact hnew
     case qc3 => intro u hu; simp at hu; rcases hu with rfl; rfl
     case qc4 => have hml : maxLen = 9223372036854775807 := rfl; omega
     case qc5 => omega
     case qc6 => exact HS3.out
     intro v' w4 hown hgrow hnil hloc
     obtain ⟨pn, cn, hv, hB_⟩ := own_shape hown
     subst hv
     have ho4 := Only.of_grown hgrow
     have hge : ∀ k, (Value.slice pr acc.length cr).ownBlock = some k → B + 1 ≤ k := fun k hk => (own_lt HW3.out hk).1
     have hlen : acc.length + 1 = (acc ++ [x]).length := by simp
     have hown2 : w4.ownsRow (B + 1) 5 1 (.slice pn (acc ++ [x]).length cn) (acc ++ [x]).length ((acc ++ [x]).map u8v) := by
      rw [← hlen, List.map_append]
      have : [u8v x] = [.int .u8 (y : Int)] := by rw [← hy]; rfl
      show w4.ownsRow (B + 1) 5 1 (.slice pn (acc.length + 1) cn) (acc.length + 1) (acc.map u8v ++ [u8v x])
      rw [this]; exact hown
     have HR4 := Lib.hid (HR3.out.only ho4 (fun e => by have := hge _ e; have := HRB.out; omega) (fun hp b off e ek => by have := hge _ ek; have := HPB.out b off e; omega))
     have HO4 := Lib.hid (HO3.out.transNew ho4 (fun k hk => by have := hge k hk; have := HBB.out; omega))
     have HT4 := Lib.hid (HT3.out.only ho4 (fun e => by have := hge _ e; omega))
     have HW4 := Lib.hid hown2
     have hs4 : B < w4.heap.size := by have := ho4.size; have := HS3.out; omega
     rw [hlen]
     clear hown hown2 hgrow hnil hloc hB_ ho4 hge hnew hlen
     have c1 := HR4.out.ca
     have f1 := HR4.out.fz
     go_wp2_with fail
     go_roundg G
     case measure => omega
     case rel =>
      have hl := HL.out
      have hg := HG.out
      obtain ⟨a', ha'⟩ : ∃ a', a' = a + 1 := ⟨_, rfl⟩
      refine ⟨a', acc ++ [x], Lib.hid ⟨by omega, by omega, by omega, by simp; omega, by rw [ha']; exact HRES.out, ?_, ?_, ?_, ?_, ?_⟩⟩
      all_goals (try rw [ha'])
      ·exact HR4.out.set (by omega) (by omega)
      ·exact HO4.out.trans (only_set _ _ _ _)
      ·exact HT4.out.only (only_set _ _ _ _) (fun e => by have := HRB.out; omega)
      ·exact own_only HW4.out (only_set _ _ _ _) (fun k hk e => by have := (own_lt HW4.out hk).1; have := HRB.out; have e : k = R := e; omega)
      ·rw [World.size_setCell]; exact hs4
    | true =>
     rw [q2] at e34
     have hx34 : x = 34 := by simpa using q2
     have HE2 := Lib.hid (show lit true acc (a + 1 - a0) (bs.drop (a + 1)) = Q by
      have := HE.out; rw [HD.out] at this; simp only [lit, q1, q2] at this
      rw [show a + 1 - a0 = a - a0 + 1 by have := HP.out; omega]; simpa using this)
     clear q1 q2 HE
     generalize hy : x.toNat = y at *
     have HX34 := Lib.hid hx34
     have HY := Lib.hid hy
     clear hx34 hy
     go_wp2_with fail
     go_quiet (fail)
     go_wp2_with fail
     go_quiet (fail)
     go_wp2_with fail
     obtain ⟨A1, hA1⟩ : ∃ A1, A1 = a + 1 := ⟨_, rfl⟩
     have hA1i : (a : Int) + 1 = (A1 : Int) := by omega
     rw [hA1i]
     generalize hW2 : (wr.drewN _).setCell _ _ = W2
     have HR2 := Lib.hid (show RdAt W2 R (some ⟨b, off, none⟩) c bs A1 from by rw [← hW2]; exact (HR.out.later (by first | exact below_drewN _ _ | exact Below.refl _ _ | (repeat (first | exact Below.refl _ _ | apply bdd)))).set rfl (by omega))
     have HO2 := Lib.hid (show Only (· = R) W W2 from by rw [← hW2]; exact (HO.out.trans (Only.of_below (by first | exact below_drewN _ _ | exact Below.refl _ _ | (repeat (first | exact Below.refl _ _ | apply bdd))))).trans (only_set _ _ _ _))
     have HT2 := Lib.hid (show TokB W2 B from by rw [← hW2]; exact (HT.out.later (by first | exact below_drewN _ _ | exact Below.refl _ _ | (repeat (first | exact Below.refl _ _ | apply bdd)))).only (only_set _ _ _ _) (fun e => by have := HRB.out; have e : B = R := e; omega))
     have HW2 := Lib.hid (show W2.ownsRow (B + 1) 5 1 (.slice pr acc.length cr) acc.length (acc.map u8v) by
      rw [← hW2]
      exact own_only (own_later HW.out (by first | exact below_drewN _ _ | exact Below.refl _ _ | (repeat (first | exact Below.refl _ _ | apply bdd)))) (only_set _ _ _ _) (fun k hk e => by have := (own_lt HW.out hk).1; have := HRB.out; have e : k = R := e; omega))
     have HS2 := Lib.hid (show B < W2.heap.size by rw [← hW2, World.size_setCell]; exact HSZ.out)
     have HA1 := Lib.hid hA1
     clear hW2 c0 c1 f1 ccl cb HR HO HT HW HSZ hA1i
     have d0 := HR2.out.cb
     have d1 := HR2.out.ca
     have df := HR2.out.fz
     rw [← HL.out] at d0
     clear hA1
     by_cases hlt2 : A1 < n
     ·have hab2 : A1 < bs.length := by have := HL.out; omega
      have hd2 := drop_at hab2
      have n1 : ((A1 : Int) == (n : Int)) = false := by simp; omega
      have n2 : (A1 : Int) < (n : Int) := by omega
      have n3 : (0 : Int) ≤ (A1 : Int) := by omega
      obtain ⟨b2, off2, e2, cb2⟩ := HR2.out.bi A1 hab2
      cases e2
      obtain ⟨hz2', hz3'⟩ := byte_gt (x := bs[A1])
      have e342 : ((bs[A1].toNat : Int) == 34) = (bs[A1] == 34) := eq_u8 34 (by decide +kernel) _
      generalize bs[A1] = x2 at *
      generalize x2.toNat = y2 at *
      cases q3 : (x2 == 34) with
      | true =>
       rw [q3] at e342
       have e343 : ((y2 : Int) != 34) = false := by rw [bne, e342]; rfl
       have HRES := Lib.hid (show lit false (acc ++ [x]) (A1 + 1 - a0) (bs.drop (A1 + 1)) = Q by
        have := HE2.out; rw [← HA1.out, hd2] at this; simp only [lit, q3] at this
        rw [HX34.out, show A1 + 1 - a0 = A1 - a0 + 1 by have := HP.out; have := HA1.out; omega]; simpa using this)
       clear q3 hd2
       go_quiet (fail)
       generalize hWq : W2.drewN _ = Wq
       have hBq : Below W2.heap.size W2 Wq := by rw [← hWq]; exact (by first | exact below_drewN _ _ | exact Below.refl _ _ | (repeat (first | exact Below.refl _ _ | apply bdd)))
       have hB3 := hBq.trans ((below1 Wq (.cells #[.int .u8 (y : Int)] 5)).mono hBq.size)
       have hnew : (Wq.alloc (.cells #[.int .u8 (y : Int)] 5)).cell? ⟨Wq.heap.size, 0, none⟩ = some (.int .u8 (y : Int)) := by simp [go_sem]
       have HR3 := Lib.hid (HR2.out.later hB3)
       have HO3 := Lib.hid (HO2.out.trans (Only.of_below hB3))
       have HT3 := Lib.hid (HT2.out.later hB3)
       have HW3 := Lib.hid (own_later HW2.out hB3)
       have hs3 : B + 1 ≤ (Wq.alloc (.cells #[.int .u8 (y : Int)] 5)).heap.size := by have := hB3.size; have := HS2.out; omega
       have HS3 := Lib.hid hs3
       clear hWq d0 d1 df cb2 hs3
       go_wp2_with (at_builtin; refine wpList_append_own_at _ rfl _ _ 57 rfl (B + 1) 5 i5 (.int .u8 0) 1 1 Tryz.underlying57 hi5 hz0 hz1 hz2 rfl (by omega) _ acc.length (acc.map u8v) rfl HW3.out ⟨Wq.heap.size, 0, none⟩ 1 1 [.int .u8 (y : Int)] rfl rfl ?qc2 ?qc3 ?qc4 ?qc5 ?qc6 ?_)
       case qc2 =>
        intro jj u hjj
        rw [Lib.add_plain]
        match jj, hjj with
        | 0, hjj => cases hjj; exact hnew
       case qc3 => intro u hu; simp at hu; rcases hu with rfl; rfl
       case qc4 => have hml : maxLen = 9223372036854775807 := rfl; omega
       case qc5 => omega
       case qc6 => exact HS3.out
       intro v' w4 hown hgrow hnil hloc
       obtain ⟨pn, cn, hv, hB_⟩ := own_shape hown
       subst hv
       have ho4 := Only.of_grown hgrow
       have hge : ∀ k, (Value.slice pr acc.length cr).ownBlock = some k → B + 1 ≤ k := fun k hk => (own_lt HW3.out hk).1
       have hlen : acc.length + 1 = (acc ++ [x]).length := by simp
       have hown2 : w4.ownsRow (B + 1) 5 1 (.slice pn (acc ++ [x]).length cn) (acc ++ [x]).length ((acc ++ [x]).map u8v) := by
        rw [← hlen, List.map_append]
        have : [u8v x] = [.int .u8 (y : Int)] := by rw [← HY.out]; rfl
        show w4.ownsRow (B + 1) 5 1 (.slice pn (acc.length + 1) cn) (acc.length + 1) (acc.map u8v ++ [u8v x])
        rw [this]; exact hown
       have HR4 := Lib.hid (HR3.out.only ho4 (fun e => by have := hge _ e; have := HRB.out; omega) (fun hp b off e ek => by have := hge _ ek; have := HPB.out b off e; omega))
       have HO4 := Lib.hid (HO3.out.transNew ho4 (fun k hk => by have := hge k hk; have := HBB.out; omega))
       have HT4 := Lib.hid (HT3.out.only ho4 (fun e => by have := hge _ e; omega))
       have HW4 := Lib.hid hown2
       have hs4 : B < w4.heap.size := by have := ho4.size; have := HS3.out; omega
       rw [hlen]
       clear hown hown2 hgrow hnil hloc hB_ ho4 hge hnew hlen
       clear n1 n2 n3
       have c1 := HR4.out.ca
       have f1 := HR4.out.fz
       go_wp2_with fail
       go_roundg G
       case measure => omega
       case rel =>
        have hl := HL.out
        have ha1 := HA1.out
        have hg := HG.out
        obtain ⟨a', ha'⟩ : ∃ a', a' = A1 + 1 := ⟨_, rfl⟩
        refine ⟨a', acc ++ [x], Lib.hid ⟨by omega, by omega, by omega, by simp; omega, by rw [ha']; exact HRES.out, ?_, ?_, ?_, ?_, ?_⟩⟩
        all_goals (try rw [ha'])
        ·exact HR4.out.set (by omega) (by omega)
        ·exact HO4.out.trans (only_set _ _ _ _)
        ·exact HT4.out.only (only_set _ _ _ _) (fun e => by have := HRB.out; omega)
        ·exact own_only HW4.out (only_set _ _ _ _) (fun k hk e => by have := (own_lt HW4.out hk).1; have := HRB.out; have e : k = R := e; omega)
        ·rw [World.size_setCell]; exact hs4
      | false =>
       rw [q3] at e342
       have e343 : ((y2 : Int) != 34) = true := by rw [bne, e342]; rfl
       have hres : Q = .tok 5 acc (a + 1 - a0) := by
        have := HE2.out; rw [← HA1.out, hd2] at this; simp only [lit, q3] at this
        rw [← HA1.out]; simpa using this.symm
       clear q3 hd2
       have hcv0 := own_conv W2 HW2.out
       have hcv := fun n => hcv0 (W2.drewN n) (below_drewN _ _)
       clear hcv0
       have HRES := Lib.hid hres
       obtain ⟨v0, t0⟩ := HT2.out.c0
       obtain ⟨v1, t1⟩ := HT2.out.c1
       obtain ⟨v2, t2⟩ := HT2.out.c2
       have tf0 := HT2.out.fz 0
       have tf1 := HT2.out.fz 1
       have tf2 := HT2.out.fz 2
       clear hres
       go_quiet (fail)
       go_wp2_with fail
       generalize hW5 : W2.drewN _ = W5
       have hb5 : Below W2.heap.size W2 W5 := by rw [← hW5]; exact below_drewN _ _
       have hO5 := (((HO2.out.trans (Only.of_below hb5)).new (b := B) (o := 0) (v := .int .u8 5) (Nat.le_of_eq HBB.out)).new (b := B) (o := 1) (v := .string ⟨acc.toArray⟩) (Nat.le_of_eq HBB.out)).new (b := B) (o := 2) (v := .int .i64 0) (Nat.le_of_eq HBB.out)
       have hset : Only (· = B) W5 (((W5.setCell ⟨B, 0, none⟩ (.int .u8 5)).setCell ⟨B, 1, none⟩ (.string ⟨acc.toArray⟩)).setCell ⟨B, 2, none⟩ (.int .i64 0)) := ((only_set _ B 0 _).trans (only_set _ B 1 _)).trans (only_set _ B 2 _)
       have hfin := (HR2.out.later hb5).only hset (fun e => by have := HRB.out; have e : R = B := e; omega) (fun hp b off e => by have := HPB.out b off e; show ¬ b = B; omega)
       have hT5 := HT2.out.later hb5
       clear t0 t1 t2
       obtain ⟨v0, t0⟩ := hT5.c0
       obtain ⟨v1, t1⟩ := hT5.c1
       obtain ⟨v2, t2⟩ := hT5.c2
       refine bodyPost_ret (v := .tuple #[tokV 5 acc 0, .int .i64 0]) (by simp [results, Tryz.results146, go_sem, t0, t1, t2, tokV]) rfl ⟨hO5, ?_⟩
       rw [HRES.out]
       refine ⟨rfl, ?_⟩
       have e : a0 + (a + 1 - a0) = A1 := by have := HA1.out; have := HP.out; omega
       rw [e]; exact hfin
     ·have hres : Q = .tok 5 acc (a + 1 - a0) := by
       have := HE2.out; rw [List.drop_of_length_le (show bs.length ≤ a + 1 by have := HL.out; have := HA1.out; omega)] at this; simp only [lit] at this; exact this.symm
      have n1 : ((A1 : Int) == (n : Int)) = true := by have := HR2.out.ha; have := HL.out; simp; omega
      have hcv0 := own_conv W2 HW2.out
      have hcv := fun n => hcv0 (W2.drewN n) (below_drewN _ _)
      clear hcv0
      have HRES := Lib.hid hres
      obtain ⟨v0, t0⟩ := HT2.out.c0
      obtain ⟨v1, t1⟩ := HT2.out.c1
      obtain ⟨v2, t2⟩ := HT2.out.c2
      have tf0 := HT2.out.fz 0
      have tf1 := HT2.out.fz 1
      have tf2 := HT2.out.fz 2
      clear hres
      go_quiet (fail)
      go_wp2_with fail
      generalize hW5 : W2.drewN _ = W5
      have hb5 : Below W2.heap.size W2 W5 := by rw [← hW5]; exact below_drewN _ _
      have hO5 := (((HO2.out.trans (Only.of_below hb5)).new (b := B) (o := 0) (v := .int .u8 5) (Nat.le_of_eq HBB.out)).new (b := B) (o := 1) (v := .string ⟨acc.toArray⟩) (Nat.le_of_eq HBB.out)).new (b := B) (o := 2) (v := .int .i64 0) (Nat.le_of_eq HBB.out)
      have hset : Only (· = B) W5 (((W5.setCell ⟨B, 0, none⟩ (.int .u8 5)).setCell ⟨B, 1, none⟩ (.string ⟨acc.toArray⟩)).setCell ⟨B, 2, none⟩ (.int .i64 0)) := ((only_set _ B 0 _).trans (only_set _ B 1 _)).trans (only_set _ B 2 _)
      have hfin := (HR2.out.later hb5).only hset (fun e => by have := HRB.out; have e : R = B := e; omega) (fun hp b off e => by have := HPB.out b off e; show ¬ b = B; omega)
      have hT5 := HT2.out.later hb5
      clear t0 t1 t2
      obtain ⟨v0, t0⟩ := hT5.c0
      obtain ⟨v1, t1⟩ := hT5.c1
      obtain ⟨v2, t2⟩ := hT5.c2
      refine bodyPost_ret (v := .tuple #[tokV 5 acc 0, .int .i64 0]) (by simp [results, Tryz.results146, go_sem, t0, t1, t2, tokV]) rfl ⟨hO5, ?_⟩
      rw [HRES.out]
      refine ⟨rfl, ?_⟩
      have e : a0 + (a + 1 - a0) = A1 := by have := HA1.out; have := HP.out; omega
      rw [e]; exact hfin
  ·have HRES := Lib.hid (show Q = .err 31 by
    have hl := HL.out
    have := HE.out; rw [List.drop_of_length_le (show bs.length ≤ a by omega)] at this; simp only [lit] at this; exact this.symm)
   clear hr
   obtain ⟨v0, t0⟩ := HT.out.c0
   obtain ⟨v1, t1⟩ := HT.out.c1
   obtain ⟨v2, t2⟩ := HT.out.c2
   have tf0 := HT.out.fz 0
   have tf1 := HT.out.fz 1
   have tf2 := HT.out.fz 2
   go_wp2_with fail
   go_quiet (fail)
   go_wp2_with fail
   refine bodyPost_ret (v := .tuple #[tokV 0 [] 0, .int .i64 31]) (by simp [results, Tryz.results146, go_sem, t0, t1, t2, tokV]) rfl ⟨?_, ?_⟩
   ·exact (((HO.out.trans (Only.of_below (by first | exact below_drewN _ _ | exact Below.refl _ _ | (repeat (first | exact Below.refl _ _ | apply bdd))))).new (Nat.le_of_eq HBB.out)).new (Nat.le_of_eq HBB.out)).new (Nat.le_of_eq HBB.out)
   ·rw [HRES.out]; rfl
theorem index_tw (c : UInt8) : ∀ l : List UInt8, (l.contains c = false ∧ Lib.indexByte l c = -1 ∧ l.takeWhile (· != c) = l) ∨ (l.contains c = true ∧ Lib.indexByte l c = ((l.takeWhile (· != c)).length : Int) ∧ (l.takeWhile (· != c)).length + 1 ≤ l.length ∧ l.dropWhile (· != c) = l.drop (l.takeWhile (· != c)).length)
 | [] => .inl ⟨rfl, rfl, rfl⟩
 | b :: l => by
  by_cases h : b = c
  ·subst h
   right
   simp [Lib.indexByte]
  ·have hb : (b == c) = false := by simpa using h
   have hn : (b != c) = true := by simpa using h
   have hc : (c == b) = false := by simp; exact fun e => h e.symm
   rcases index_tw c l with ⟨h1, h2, h3⟩ | ⟨h1, h2, h3, h4⟩
   ·left
    refine ⟨by rw [List.contains_cons, hc, h1]; rfl, ?_, ?_⟩
    ·rw [Lib.indexByte, hb, h2]; rfl
    ·rw [List.takeWhile_cons, if_pos hn, h3]
   ·right
    refine ⟨by rw [List.contains_cons, h1]; simp, ?_, ?_, ?_⟩
    ·rw [Lib.indexByte, hb, h2, List.takeWhile_cons, if_pos hn]
     have : (((l.takeWhile (· != c)).length : Int) == -1) = false := by first | (simp; done) | (simp; omega)
     simp only [this]
     simp
    ·rw [List.takeWhile_cons, if_pos hn]; simp; exact h3
    ·rw [List.takeWhile_cons, if_pos hn, List.dropWhile_cons, if_pos hn, h4]; rfl
theorem ext_take (s : ByteArray) (k : Nat) : s.extract 0 k = ⟨(s.data.toList.take k).toArray⟩ := by
 apply ByteArray.ext
 apply Array.toList_inj.1
 simp
theorem ext_drop (s : ByteArray) (k : Nat) : s.extract k s.size = ⟨(s.data.toList.drop k).toArray⟩ := by
 apply ByteArray.ext
 apply Array.toList_inj.1
 rw [Lib.extract_data]
 simp
 rw [List.take_of_length_le (by simp)]
def cutP (s : ByteArray) (W : World) (e : Ending) (w' : World) : Prop := ∃ (A B : ByteArray) (x : Bool), e = .returned (.tuple #[.string A, .string B, .bool x]) ∧ A.data.toList = s.data.toList.takeWhile (· != 46) ∧ B.data.toList = (s.data.toList.dropWhile (· != 46)).drop 1 ∧ x = s.data.toList.contains 46 ∧ ∃ n, w' = W.drewN n
set_option maxHeartbeats 800000 in
theorem cut89_any (s : ByteArray) (W : World) (hs : s.size ≤ 1048576) : Calls Tryz.prog 169 #[.string s, .string ⟨#[46]⟩] W (cutP s W) := by
 have hl : s.data.toList.length = s.size := by simp
 rcases index_tw 46 s.data.toList with ⟨h1, h2, h3⟩ | ⟨h1, h2, h3, h4⟩
 ·have H1 := Lib.hid h1
  have H2 := Lib.hid h2
  have H3 := Lib.hid h3
  clear h1 h2 h3 hl
  go_enter Tryz.func169, Tryz.ntmps169
  go_wp2_with fail
  go_at_call 143
  refine (Tryz.stringslite_Index_one _ _ _).mono ?_
  rintro e w1 ⟨rfl, rfl⟩
  rw [H2.out]
  go_wp2_with fail
  go_ret3
  refine ⟨s, ByteArray.empty, false, rfl, H3.out.symm, ?_, H1.out.symm, 0, rfl⟩
  have : s.data.toList.dropWhile (· != 46) = [] := by
   have := List.takeWhile_append_dropWhile (p := (· != (46 : UInt8))) (l := s.data.toList)
   rw [H3.out] at this
   simpa using this
  rw [this]; rfl
 ·rw [hl] at h3
  generalize hk : (s.data.toList.takeWhile (· != 46)).length = k at *
  have e1 : s.extract 0 k = ⟨(s.data.toList.takeWhile (· != 46)).toArray⟩ := by rw [ext_take, ← hk, ← List.prefix_iff_eq_take.1 (List.takeWhile_prefix _)]
  have e2 : s.extract (k + 1) s.size = ⟨((s.data.toList.dropWhile (· != 46)).drop 1).toArray⟩ := by rw [ext_drop, h4, List.drop_drop]
  have H1 := Lib.hid h1
  have H2 := Lib.hid h2
  have E1 := Lib.hid e1
  have E2 := Lib.hid e2
  clear h1 h2 h4 hl hk e1 e2
  have i0 : (0 : Int) ≤ (k : Int) := by omega
  have i1 : (k : Int) ≤ (s.size : Int) := by omega
  have i2 : (k : Int) + 1 ≤ (s.size : Int) := by omega
  have i3 : (0 : Int) ≤ (k : Int) + 1 := by omega
  have i4 : IntKind.i64.wrap ((k : Int) + 1) = (k : Int) + 1 := IntWalk.i64_in _ (by omega)
  have i5 : ((k : Int) + 1).toNat = k + 1 := by omega
  go_enter Tryz.func169, Tryz.ntmps169
  go_wp2_with fail
  go_at_call 143
  refine (Tryz.stringslite_Index_one _ _ _).mono ?_
  rintro e w1 ⟨rfl, rfl⟩
  rw [H2.out]
  go_wp2_with fail
  go_quiet (fail)
  go_wp2_with fail
  go_ret3
  exact ⟨s.extract 0 k, s.extract (k + 1) s.size, true, rfl, by rw [E1.out], by rw [E2.out], H1.out.symm, nq, rfl⟩
set_option maxHeartbeats 800000 in
theorem cut_any (s : ByteArray) (W : World) (hs : s.size ≤ 1048576) : Calls Tryz.prog 159 #[.string s, .string ⟨#[46]⟩] W (cutP s W) := by
 go_enter Tryz.func159, Tryz.ntmps159
 go_wp2_with fail
 refine (cut89_any s _ hs).mono ?_
 rintro e w1 ⟨A, B, x, rfl, h1, h2, h3, n, rfl⟩
 have H := Lib.hid (And.intro h1 (And.intro h2 h3))
 clear h1 h2 h3
 go_wp2_with fail
 go_ret3
 exact ⟨A, B, x, rfl, H.out.1, H.out.2.1, H.out.2.2, n, rfl⟩
theorem str_of (l : List UInt8) : ∃ S : ByteArray, (⟨l.toArray⟩ : ByteArray) = S ∧ S.data.toList = l ∧ S.size = l.length := ⟨_, rfl, by simp, by simp [ByteArray.size]⟩
theorem str_get {S : ByteArray} {i : Nat} (h : i < S.size) : S.data.toList.getD i 0 = S[i] := by
 have : i < S.data.toList.length := by simpa using h
 rw [List.getD_eq_getElem?_getD, List.getElem?_eq_getElem this]
 rfl
theorem tok_end {R : Nat} {p : Option Addr} {c : Nat} {bs : List UInt8} {a B : Nat} {W W5 : World} {v0 v1 v2 : Value} (hB : W.heap.size ≤ B) (hR : RdAt W5 R p c bs a) (hO : Only (· = R) W W5) (hRB : R ≠ B) (hp : 0 < bs.length → ∀ b off, p = some ⟨b, off, none⟩ → b < B) :
  Only (· = R) W (((W5.setCell ⟨B, 0, none⟩ v0).setCell ⟨B, 1, none⟩ v1).setCell ⟨B, 2, none⟩ v2) ∧ RdAt (((W5.setCell ⟨B, 0, none⟩ v0).setCell ⟨B, 1, none⟩ v1).setCell ⟨B, 2, none⟩ v2) R p c bs a := by
 have hset : Only (· = B) W5 (((W5.setCell ⟨B, 0, none⟩ v0).setCell ⟨B, 1, none⟩ v1).setCell ⟨B, 2, none⟩ v2) := ((only_set _ B 0 _).trans (only_set _ B 1 _)).trans (only_set _ B 2 _)
 exact ⟨((hO.new hB).new hB).new hB, hR.only hset hRB (fun h0 b off e => by have := hp h0 b off e; show ¬ b = B; omega)⟩
set_option maxHeartbeats 3200000 in
theorem plain_any (R : Nat) (p : Option Addr) (c : Nat) (bs : List UInt8) (a0 : Nat) (W : World) (h : RdAt W R p c bs a0) (hlt0 : a0 < bs.length) (hsy : syB bs[a0] = true) :
  Calls Tryz.prog 149 #[.pointer (some ⟨R, 0, none⟩)] W (TokRes R p c bs a0 W (plainR (wordL (bs.drop a0)))) := by
 have hpos : 0 < (wordL (bs.drop a0)).length := by rw [tw_drop bs a0 hlt0 hsy]; omega
 have hle := word_le (bs.drop a0)
 rw [List.length_drop] at hle
 have H := Lib.hid h
 have hn := h.hn
 have HPB := Lib.hid (h.bi.lt (by omega))
 have HRB := Lib.hid (show R ≠ W.heap.size by have := h.hl; omega)
 have hB1 := below1 W (.cells #[.int .u8 0, .string ByteArray.empty, .int .i64 0] 32)
 have HR1 := Lib.hid (h.later hB1)
 have HT1 := Lib.hid (tokB_new W)
 have HB1 := Lib.hid hB1
 have hw := word_any R p c bs a0 _ HR1.out
 have hBB : W.heap.size ≤ W.heap.size := Nat.le_refl _
 generalize wordL (bs.drop a0) = w at *
 have HW := Lib.hid hw
 clear h hsy hB1 hw
 go_enter Tryz.func149, Tryz.ntmps149
 go_wp2_with fail
 generalize hW1 : W.alloc _ = W1
 rw [show (W.alloc (.cells #[.int .u8 0, .string ByteArray.empty, .int .i64 0] 32)) = W1 from hW1] at HW HR1 HT1 HB1
 generalize hB : W.heap.size = B at *
 have HBB := Lib.hid hB
 clear hW1 hB H
 refine HW.out.mono ?_
 rintro e w2 ⟨rfl, hr2, ho2⟩
 have HR2 := Lib.hid hr2
 have HO2 := Lib.hid ((Only.of_below (T := (· = R)) (by rw [HBB.out]; exact HB1.out)).trans ho2)
 have HT2 := Lib.hid (HT1.out.only ho2 (fun e => HRB.out e.symm))
 obtain ⟨S, hS, hS1, hS2⟩ := str_of w
 rw [hS]
 rw [← hS2] at hpos hle
 have h0 : S[0] = w.getD 0 0 := by rw [← hS1]; exact (str_get hpos).symm
 have ccl := hr2.cl S[0]
 obtain ⟨hz, hz0⟩ := byte_gt (x := S[0])
 have an := not_ne (and4 S[0])
 have HS := Lib.hid (And.intro hS (And.intro hS1 hS2))
 have H0 := Lib.hid h0
 clear hr2 ho2 HW HR1 HT1 HB1 hS hS1 hS2 h0
 go_wp2_with fail
 go_quiet (fail)
 generalize hW3 : w2.drewN _ = w3
 have HR3 := Lib.hid (show RdAt w3 R p c bs (a0 + w.length) by rw [← hW3]; exact HR2.out.later (by first | exact below_drewN _ _ | exact Below.refl _ _ | (repeat (first | exact Below.refl _ _ | apply bdd))))
 have HO3 := Lib.hid (show Only (· = R) W w3 by rw [← hW3]; exact HO2.out.trans (Only.of_below (by first | exact below_drewN _ _ | exact Below.refl _ _ | (repeat (first | exact Below.refl _ _ | apply bdd)))))
 have hT3 : TokB w3 B := by rw [← hW3]; exact HT2.out.later (by first | exact below_drewN _ _ | exact Below.refl _ _ | (repeat (first | exact Below.refl _ _ | apply bdd)))
 obtain ⟨v0, t0⟩ := hT3.c0
 obtain ⟨v1, t1⟩ := hT3.c1
 obtain ⟨v2, t2⟩ := hT3.c2
 have tf0 := hT3.fz 0
 have tf1 := hT3.fz 1
 have tf2 := hT3.fz 2
 clear hW3 hT3
 clear HR2 HO2 HT2
 cases q0 : dgB S[0] with
 | false =>
  rw [q0] at an
  have HRES := Lib.hid (show plainR w = .tok 3 w w.length by
   unfold plainR; rw [if_pos (by rw [← H0.out, q0]; decide)])
  clear q0
  go_wp2_with fail
  obtain ⟨hO5, hR5⟩ := tok_end (v0 := .int .u8 3) (v1 := .string S) (v2 := .int .i64 0) (Nat.le_of_eq HBB.out) HR3.out HO3.out HRB.out (fun _ => HPB.out)
  refine bodyPost_ret (v := .tuple #[.agg #[.int .u8 3, .string S, .int .i64 0], .int .i64 0]) (by simp [results, Tryz.results149, go_sem, t0, t1, t2]) rfl ⟨hO5, ?_⟩
  rw [HRES.out]
  exact ⟨by unfold tokV; rw [HS.out.1]; rfl, hR5⟩
 | true =>
  rw [q0] at an
  have an2 : (bits BinOp.and IntKind.u8 (clB S[0] : Int) 4 == 0) = false := an
  have HQ0 := Lib.hid (show ¬ (!(dgB (w.getD 0 0))) = true by rw [← H0.out, q0]; decide)
  clear an ccl q0
  go_wp2_with fail
  refine (cut_any S _ (by omega)).mono ?_
  rintro e w4 ⟨A, C, x, rfl, hA, hC, hx, nq4, rfl⟩
  rw [HS.out.2.1] at hA hC hx
  have hAl : A.size ≤ S.size := by
   have : A.data.toList.length = A.size := by simp
   rw [← this, hA, HS.out.2.2]; exact (List.takeWhile_sublist _).length_le
  have hCl : C.size ≤ S.size := by
   have : C.data.toList.length = C.size := by simp
   rw [← this, hC, HS.out.2.2]; simp only [List.length_drop]; have := (List.dropWhile_sublist (p := (· != (46 : UInt8))) (l := w)).length_le; omega
  have HPW := Lib.hid (show plainR w = (if !allB dgB A.data.toList || (A.data.toList.getD 0 0 == 48 && decide (1 < A.data.toList.length)) then .err 5 else if !x then .tok 4 w w.length else if !allB dgB C.data.toList then .err 5 else .tok 7 w w.length) by
   unfold plainR; rw [if_neg HQ0.out, hA, hC, hx])
  have HCL := Lib.hid (show ∀ b : UInt8, (w3.drewN nq4).cell? ⟨R, 2 + b.toNat, none⟩ = some (.int .u8 (clB b : Int)) from fun b => (HR3.out.later (below_drewN _ _)).cl b)
  have HCL2 := Lib.hid (show ∀ k, ∀ b : UInt8, (w3.drewN k).cell? ⟨R, 2 + b.toNat, none⟩ = some (.int .u8 (clB b : Int)) from fun k b => (HR3.out.later (below_drewN _ _)).cl b)
  have HX := Lib.hid (And.intro hA (And.intro hC hx))
  clear hA hC hx HQ0
  cases q1 : allB dgB A.data.toList with
  | false =>
   have HRES := Lib.hid (show plainR w = .err 5 by rw [HPW.out, q1]; rfl)
   have Q1 := Lib.hid q1
   clear q1
   go_wp2_with fail
   go_at_call 157
   refine (all_any 4 dgB (fun c => not_ne (and4 c)) R A _ HCL.out (by omega)).mono ?_
   rintro e w' ⟨rfl, n7, rfl⟩
   rw [Q1.out]
   go_wp2_with fail
   generalize hW5 : World.drewN _ _ = w5
   have hb5 : Below w3.heap.size w3 w5 := by rw [← hW5]; exact (by first | exact below_drewN _ _ | exact Below.refl _ _ | (repeat (first | exact Below.refl _ _ | apply bdd)))
   obtain ⟨hO5, hR5⟩ := tok_end (v0 := .int .u8 0) (v1 := .string ⟨#[]⟩) (v2 := .int .i64 0) (Nat.le_of_eq HBB.out) (HR3.out.later hb5) (HO3.out.trans (Only.of_below hb5)) HRB.out (fun _ => HPB.out)
   have u0 := cell_later hb5 t0
   have u1 := cell_later hb5 t1
   have u2 := cell_later hb5 t2
   refine bodyPost_ret (v := .tuple #[tokV 0 [] 0, .int .i64 5]) (by simp [results, Tryz.results149, go_sem, u0, u1, u2, tokV]) rfl ⟨hO5, ?_⟩
   rw [HRES.out]
   rfl
  | true =>
   have hA0 : 0 < A.size := by
    have : A.data.toList ≠ [] := fun e => by rw [e] at q1; exact absurd q1 (by decide)
    have h2 : A.data.toList.length = A.size := by simp
    have := List.length_pos_iff.2 this; omega
   have e48 : ((A[0].toNat : Int) == 48) = (A[0] == 48) := eq_u8 48 (by decide +kernel) _
   have HA0 := Lib.hid (str_get (S := A) hA0)
   obtain ⟨hz', hz0'⟩ := byte_gt (x := A[0])
   cases q2 : (A[0] == 48 && decide (1 < A.size)) with
   | true =>
    have HRES := Lib.hid (show plainR w = .err 5 by
     rw [HPW.out, q1, HA0.out, show A.data.toList.length = A.size by simp, q2]; rfl)
    have Q1 := Lib.hid q1
    simp only [Bool.and_eq_true, decide_eq_true_eq] at q2
    rw [q2.1] at e48
    have g1 : (1 : Int) < (A.size : Int) := by omega
    clear q1 q2
    go_wp2_with fail
    go_at_call 157
    refine (all_any 4 dgB (fun c => not_ne (and4 c)) R A _ HCL.out (by omega)).mono ?_
    rintro e w' ⟨rfl, n7, rfl⟩
    rw [Q1.out]
    go_wp2_with fail
    generalize hW5 : World.drewN _ _ = w5
    have hb5 : Below w3.heap.size w3 w5 := by rw [← hW5]; exact (by first | exact below_drewN _ _ | exact Below.refl _ _ | (repeat (first | exact Below.refl _ _ | apply bdd)))
    obtain ⟨hO5, hR5⟩ := tok_end (v0 := .int .u8 0) (v1 := .string ⟨#[]⟩) (v2 := .int .i64 0) (Nat.le_of_eq HBB.out) (HR3.out.later hb5) (HO3.out.trans (Only.of_below hb5)) HRB.out (fun _ => HPB.out)
    have u0 := cell_later hb5 t0
    have u1 := cell_later hb5 t1
    have u2 := cell_later hb5 t2
    refine bodyPost_ret (v := .tuple #[tokV 0 [] 0, .int .i64 5]) (by simp [results, Tryz.results149, go_sem, u0, u1, u2, tokV]) rfl ⟨hO5, ?_⟩
    rw [HRES.out]
    rfl
   | false =>
    have HPW2 := Lib.hid (show plainR w = (if !x then .tok 4 w w.length else if !allB dgB C.data.toList then .err 5 else .tok 7 w w.length) by
     rw [HPW.out, q1, HA0.out, show A.data.toList.length = A.size by simp, q2]; rfl)
    have Q1 := Lib.hid q1
    have hcase : (A[0] == 48) = false ∨ ((A[0] == 48) = true ∧ decide (1 < A.size) = false) := by
     cases h : (A[0] == 48) with
     | false => exact .inl rfl
     | true => rw [h] at q2; exact .inr ⟨rfl, by simpa using q2⟩
    clear q1 q2 HPW
    rcases hcase with hc | ⟨hc, hc2⟩
    ·rw [hc] at e48
     clear hc
     cases x with
     | false =>
      have HRES := Lib.hid (show plainR w = .tok 4 w w.length by rw [HPW2.out]; rfl)
      go_wp2_with fail
      go_at_call 157
      refine (all_any 4 dgB (fun c => not_ne (and4 c)) R A _ HCL.out (by omega)).mono ?_
      rintro e w' ⟨rfl, n7, rfl⟩
      rw [Q1.out]
      go_wp2_with fail
      generalize hW5 : World.drewN _ _ = w5
      have hb5 : Below w3.heap.size w3 w5 := by rw [← hW5]; exact (by first | exact below_drewN _ _ | exact Below.refl _ _ | (repeat (first | exact Below.refl _ _ | apply bdd)))
      obtain ⟨hO5, hR5⟩ := tok_end (v0 := .int .u8 4) (v1 := .string S) (v2 := .int .i64 0) (Nat.le_of_eq HBB.out) (HR3.out.later hb5) (HO3.out.trans (Only.of_below hb5)) HRB.out (fun _ => HPB.out)
      have u0 := cell_later hb5 t0
      have u1 := cell_later hb5 t1
      have u2 := cell_later hb5 t2
      refine bodyPost_ret (v := .tuple #[.agg #[.int .u8 4, .string S, .int .i64 0], .int .i64 0]) (by simp [results, Tryz.results149, go_sem, u0, u1, u2]) rfl ⟨hO5, ?_⟩
      rw [HRES.out]
      exact ⟨by unfold tokV; rw [HS.out.1]; rfl, hR5⟩
     | true =>
      cases q3 : allB dgB C.data.toList with
      | false =>
       have HRES := Lib.hid (show plainR w = .err 5 by rw [HPW2.out, q3]; rfl)
       have Q3 := Lib.hid q3
       clear q3
       go_wp2_with fail
       go_at_call 157
       refine (all_any 4 dgB (fun c => not_ne (and4 c)) R A _ HCL.out (by omega)).mono ?_
       rintro e w' ⟨rfl, n7, rfl⟩
       rw [Q1.out]
       go_wp2_with fail
       go_at_call 157
       refine (all_any 4 dgB (fun c => not_ne (and4 c)) R C _ (HCL2.out _) (by omega)).mono ?_
       rintro e w' ⟨rfl, n7, rfl⟩
       rw [Q3.out]
       go_wp2_with fail
       generalize hW5 : World.drewN _ _ = w5
       have hb5 : Below w3.heap.size w3 w5 := by rw [← hW5]; exact (by first | exact below_drewN _ _ | exact Below.refl _ _ | (repeat (first | exact Below.refl _ _ | apply bdd)))
       obtain ⟨hO5, hR5⟩ := tok_end (v0 := .int .u8 0) (v1 := .string ⟨#[]⟩) (v2 := .int .i64 0) (Nat.le_of_eq HBB.out) (HR3.out.later hb5) (HO3.out.trans (Only.of_below hb5)) HRB.out (fun _ => HPB.out)
       have u0 := cell_later hb5 t0
       have u1 := cell_later hb5 t1
       have u2 := cell_later hb5 t2
       refine bodyPost_ret (v := .tuple #[tokV 0 [] 0, .int .i64 5]) (by simp [results, Tryz.results149, go_sem, u0, u1, u2, tokV]) rfl ⟨hO5, ?_⟩
       rw [HRES.out]
       rfl
      | true =>
       have HRES := Lib.hid (show plainR w = .tok 7 w w.length by rw [HPW2.out, q3]; rfl)
       have Q3 := Lib.hid q3
       clear q3
       go_wp2_with fail
       go_at_call 157
       refine (all_any 4 dgB (fun c => not_ne (and4 c)) R A _ HCL.out (by omega)).mono ?_
       rintro e w' ⟨rfl, n7, rfl⟩
       rw [Q1.out]
       go_wp2_with fail
       go_at_call 157
       refine (all_any 4 dgB (fun c => not_ne (and4 c)) R C _ (HCL2.out _) (by omega)).mono ?_
       rintro e w' ⟨rfl, n7, rfl⟩
       rw [Q3.out]
       go_wp2_with fail
       generalize hW5 : World.drewN _ _ = w5
       have hb5 : Below w3.heap.size w3 w5 := by rw [← hW5]; exact (by first | exact below_drewN _ _ | exact Below.refl _ _ | (repeat (first | exact Below.refl _ _ | apply bdd)))
       obtain ⟨hO5, hR5⟩ := tok_end (v0 := .int .u8 7) (v1 := .string S) (v2 := .int .i64 0) (Nat.le_of_eq HBB.out) (HR3.out.later hb5) (HO3.out.trans (Only.of_below hb5)) HRB.out (fun _ => HPB.out)
       have u0 := cell_later hb5 t0
       have u1 := cell_later hb5 t1
       have u2 := cell_later hb5 t2
       refine bodyPost_ret (v := .tuple #[.agg #[.int .u8 7, .string S, .int .i64 0], .int .i64 0]) (by simp [results, Tryz.results149, go_sem, u0, u1, u2]) rfl ⟨hO5, ?_⟩
       rw [HRES.out]
       exact ⟨by unfold tokV; rw [HS.out.1]; rfl, hR5⟩
    ·rw [hc] at e48
     have g1 : ¬ (1 : Int) < (A.size : Int) := by simp at hc2; omega
     have g2 : decide ((1 : Int) < (A.size : Int)) = false := by simpa using g1
     have g3 : decide (1 < A.size) = false := hc2
     clear hc hc2
     cases x with
     | false =>
      have HRES := Lib.hid (show plainR w = .tok 4 w w.length by rw [HPW2.out]; rfl)
      go_wp2_with fail
      go_at_call 157
      refine (all_any 4 dgB (fun c => not_ne (and4 c)) R A _ HCL.out (by omega)).mono ?_
      rintro e w' ⟨rfl, n7, rfl⟩
      rw [Q1.out]
      go_wp2_with fail
      generalize hW5 : World.drewN _ _ = w5
      have hb5 : Below w3.heap.size w3 w5 := by rw [← hW5]; exact (by first | exact below_drewN _ _ | exact Below.refl _ _ | (repeat (first | exact Below.refl _ _ | apply bdd)))
      obtain ⟨hO5, hR5⟩ := tok_end (v0 := .int .u8 4) (v1 := .string S) (v2 := .int .i64 0) (Nat.le_of_eq HBB.out) (HR3.out.later hb5) (HO3.out.trans (Only.of_below hb5)) HRB.out (fun _ => HPB.out)
      have u0 := cell_later hb5 t0
      have u1 := cell_later hb5 t1
      have u2 := cell_later hb5 t2
      refine bodyPost_ret (v := .tuple #[.agg #[.int .u8 4, .string S, .int .i64 0], .int .i64 0]) (by simp [results, Tryz.results149, go_sem, u0, u1, u2]) rfl ⟨hO5, ?_⟩
      rw [HRES.out]
      exact ⟨by unfold tokV; rw [HS.out.1]; rfl, hR5⟩
     | true =>
      cases q3 : allB dgB C.data.toList with
      | false =>
       have HRES := Lib.hid (show plainR w = .err 5 by rw [HPW2.out, q3]; rfl)
       have Q3 := Lib.hid q3
       clear q3
       go_wp2_with fail
       go_at_call 157
       refine (all_any 4 dgB (fun c => not_ne (and4 c)) R A _ HCL.out (by omega)).mono ?_
       rintro e w' ⟨rfl, n7, rfl⟩
       rw [Q1.out]
       go_wp2_with fail
       go_at_call 157
       refine (all_any 4 dgB (fun c => not_ne (and4 c)) R C _ (HCL2.out _) (by omega)).mono ?_
       rintro e w' ⟨rfl, n7, rfl⟩
       rw [Q3.out]
       go_wp2_with fail
       generalize hW5 : World.drewN _ _ = w5
       have hb5 : Below w3.heap.size w3 w5 := by rw [← hW5]; exact (by first | exact below_drewN _ _ | exact Below.refl _ _ | (repeat (first | exact Below.refl _ _ | apply bdd)))
       obtain ⟨hO5, hR5⟩ := tok_end (v0 := .int .u8 0) (v1 := .string ⟨#[]⟩) (v2 := .int .i64 0) (Nat.le_of_eq HBB.out) (HR3.out.later hb5) (HO3.out.trans (Only.of_below hb5)) HRB.out (fun _ => HPB.out)
       have u0 := cell_later hb5 t0
       have u1 := cell_later hb5 t1
       have u2 := cell_later hb5 t2
       refine bodyPost_ret (v := .tuple #[tokV 0 [] 0, .int .i64 5]) (by simp [results, Tryz.results149, go_sem, u0, u1, u2, tokV]) rfl ⟨hO5, ?_⟩
       rw [HRES.out]
       rfl
      | true =>
       have HRES := Lib.hid (show plainR w = .tok 7 w w.length by rw [HPW2.out, q3]; rfl)
       have Q3 := Lib.hid q3
       clear q3
       go_wp2_with fail
       go_at_call 157
       refine (all_any 4 dgB (fun c => not_ne (and4 c)) R A _ HCL.out (by omega)).mono ?_
       rintro e w' ⟨rfl, n7, rfl⟩
       rw [Q1.out]
       go_wp2_with fail
       go_at_call 157
       refine (all_any 4 dgB (fun c => not_ne (and4 c)) R C _ (HCL2.out _) (by omega)).mono ?_
       rintro e w' ⟨rfl, n7, rfl⟩
       rw [Q3.out]
       go_wp2_with fail
       generalize hW5 : World.drewN _ _ = w5
       have hb5 : Below w3.heap.size w3 w5 := by rw [← hW5]; exact (by first | exact below_drewN _ _ | exact Below.refl _ _ | (repeat (first | exact Below.refl _ _ | apply bdd)))
       obtain ⟨hO5, hR5⟩ := tok_end (v0 := .int .u8 7) (v1 := .string S) (v2 := .int .i64 0) (Nat.le_of_eq HBB.out) (HR3.out.later hb5) (HO3.out.trans (Only.of_below hb5)) HRB.out (fun _ => HPB.out)
       have u0 := cell_later hb5 t0
       have u1 := cell_later hb5 t1
       have u2 := cell_later hb5 t2
       refine bodyPost_ret (v := .tuple #[.agg #[.int .u8 7, .string S, .int .i64 0], .int .i64 0]) (by simp [results, Tryz.results149, go_sem, u0, u1, u2]) rfl ⟨hO5, ?_⟩
       rw [HRES.out]
       exact ⟨by unfold tokV; rw [HS.out.1]; rfl, hR5⟩
theorem str_empty {S : ByteArray} {w : List UInt8} (h : S.data.toList = w) {b : Bool} (hb : w.isEmpty = b) : S.toList.isEmpty = b ∧ (S.toList == []) = b := by
 rw [toList_data, h]
 refine ⟨hb, ?_⟩
 cases w <;> simpa using hb
set_option maxHeartbeats 1600000 in
theorem keyword_any (R : Nat) (p : Option Addr) (c : Nat) (bs : List UInt8) (a0 : Nat) (W : World) (h : RdAt W R p c bs a0) (hlt0 : a0 < bs.length) :
  Calls Tryz.prog 147 #[.pointer (some ⟨R, 0, none⟩)] W (TokRes R p c bs a0 W (keyR (wordL (bs.drop (a0 + 1))))) := by
 have hle := word_le (bs.drop (a0 + 1))
 rw [List.length_drop] at hle
 have H := Lib.hid h
 have hn := h.hn
 have hc1 := h.ca
 have hf1 := h.fz
 have HPB := Lib.hid (h.bi.lt (by omega))
 have HRB := Lib.hid (show R ≠ W.heap.size by have := h.hl; omega)
 have hR := h.hl
 clear h
 go_enter Tryz.func147, Tryz.ntmps147
 go_wp2_with fail
 generalize hW1 : (W.setCell _ _).alloc _ = W1
 obtain ⟨P, hP⟩ : ∃ P, P = a0 + 1 := ⟨_, rfl⟩
 have hPi : (a0 : Int) + 1 = (P : Int) := by omega
 rw [hPi] at hW1
 have h1 := H.out.set (v := (P : Int)) (a' := P) rfl (by omega)
 have hOW := only_set W R 1 (.int .i64 (P : Int))
 have hB1 := below1 (W.setCell ⟨R, 1, none⟩ (.int .i64 (P : Int))) (.cells #[.int .u8 0, .string ByteArray.empty, .int .i64 0] 32)
 have hTB := tokB_new (W.setCell ⟨R, 1, none⟩ (.int .i64 (P : Int)))
 rw [World.size_setCell] at hTB
 have HI0 := Lib.hid (show RdAt W1 R p c bs P ∧ Only (· = R) W W1 ∧ TokB W1 W.heap.size by
  rw [← hW1]
  exact ⟨h1.later hB1, hOW.trans (Only.of_below hB1), hTB⟩)
 have hw := word_any R p c bs P _ HI0.out.1
 rw [hP] at hw
 rw [← hP] at hle
 have HP := Lib.hid hP
 generalize hwd : wordL (bs.drop (a0 + 1)) = w at *
 rw [hP, hwd] at hle
 have HW := Lib.hid hw
 clear hP hPi hW1 h1 hOW hB1 hTB hc1 hf1 H hw hwd hR
 generalize hB : W.heap.size = B at *
 have HBB := Lib.hid hB
 clear hB
 refine HW.out.mono ?_
 rintro e w3 ⟨rfl, hr2, ho2⟩
 have HR3 := Lib.hid (show RdAt w3 R p c bs (a0 + (w.length + 1)) by rw [show a0 + (w.length + 1) = a0 + 1 + w.length by omega]; exact hr2)
 have HO3 := Lib.hid (HI0.out.2.1.trans ho2)
 have hT3 := HI0.out.2.2.only ho2 (fun e => HRB.out e.symm)
 have HT3 := Lib.hid hT3
 obtain ⟨v0, t0⟩ := hT3.c0
 obtain ⟨v1, t1⟩ := hT3.c1
 obtain ⟨v2, t2⟩ := hT3.c2
 have tf0 := hT3.fz 0
 have tf1 := hT3.fz 1
 have tf2 := hT3.fz 2
 obtain ⟨S, hS, hS1, hS2⟩ := str_of w
 rw [hS]
 rw [← hS2] at hle
 have HS := Lib.hid (And.intro hS (And.intro hS1 hS2))
 clear hr2 ho2 HW HI0 hT3 hS hS1 hS2
 cases q : w.isEmpty with
 | true =>
  obtain ⟨e1, e2⟩ := str_empty HS.out.2.1 q
  have HRES := Lib.hid (show keyR w = .err 30 by unfold keyR; rw [q]; rfl)
  clear q
  go_wp2_with fail
  obtain ⟨hO5, hR5⟩ := tok_end (v0 := .int .u8 0) (v1 := .string ⟨#[]⟩) (v2 := .int .i64 0) (Nat.le_of_eq HBB.out) HR3.out HO3.out HRB.out (fun _ => HPB.out)
  refine bodyPost_ret (v := .tuple #[tokV 0 [] 0, .int .i64 30]) (by simp [results, Tryz.results147, go_sem, t0, t1, t2, tokV]) rfl ⟨hO5, ?_⟩
  rw [HRES.out]
  rfl
 | false =>
  obtain ⟨e1, e2⟩ := str_empty HS.out.2.1 q
  have HRES := Lib.hid (show keyR w = .tok 6 w (w.length + 1) by unfold keyR; rw [q]; rfl)
  clear q
  go_wp2_with fail
  obtain ⟨hO5, hR5⟩ := tok_end (v0 := .int .u8 6) (v1 := .string S) (v2 := .int .i64 0) (Nat.le_of_eq HBB.out) HR3.out HO3.out HRB.out (fun _ => HPB.out)
  refine bodyPost_ret (v := .tuple #[.agg #[.int .u8 6, .string S, .int .i64 0], .int .i64 0]) (by simp [results, Tryz.results147, go_sem, t0, t1, t2]) rfl ⟨hO5, ?_⟩
  rw [HRES.out]
  exact ⟨by unfold tokV; rw [HS.out.1]; rfl, hR5⟩
theorem hash_app {S : ByteArray} {w : List UInt8} (h : S.data.toList = w) : ((⟨#[35]⟩ : ByteArray) ++ S) = ⟨(35 :: w).toArray⟩ := by
 apply ByteArray.ext
 apply Array.toList_inj.1
 rw [← h]
 simp
theorem trim_any (D : ByteArray) (hD : D.size ≤ 1048576) (w : World) : Calls Tryz.prog 158 #[.string D, .string ⟨#[48, 49]⟩] w fun e w' => ∃ T : ByteArray, e = .returned (.string T) ∧ T.data.toList = Lib.trimS D.data.toList [48, 49] ∧ Below w.heap.size w w' := by
 have h : Calls Tryz.prog 158 #[.string D, .string ⟨#[48, 49]⟩] w fun e w' => e = .returned (.string ⟨(Lib.trimS D.data.toList [48, 49]).toArray⟩) ∧ Below w.heap.size w w' :=
  Any.strings_Trim_laid Tryz.lays160 (by kernel_rfl) D ⟨#[48, 49]⟩ w (by omega) (by decide) (ascii_of_all (by decide))
 refine h.mono ?_
 rintro e w' ⟨rfl, hb⟩
 exact ⟨_, rfl, by simp, hb⟩
theorem dw_nil (p : UInt8 → Bool) : ∀ l : List UInt8, l.dropWhile p = [] ↔ ∀ x ∈ l, p x = true
 | [] => by simp
 | a :: l => by
  cases h : p a with
  | true => simp [h, dw_nil p l]
  | false => simp [h]
theorem trim_all (l : List UInt8) : (Lib.trimS l [48, 49]).isEmpty = l.all (fun c => c == 48 || c == 49) := by
 have hf : ∀ x : UInt8, ([48, 49] : List UInt8).contains x = (x == 48 || x == 49) := fun x => by simp only [List.contains_cons, List.contains_nil, Bool.or_false]
 unfold Lib.trimS Lib.trimLeftS Lib.trimRightS
 cases h : l.all (fun c => c == 48 || c == 49) with
 | true =>
  have h1 : l.reverse.dropWhile (fun x => ([48, 49] : List UInt8).contains x) = [] := by
   rw [dw_nil]
   intro x hx
   rw [hf]
   exact List.all_eq_true.1 h x (by simpa using hx)
  rw [h1]; rfl
 | false =>
  obtain ⟨x, hx, hn⟩ := List.all_eq_false.1 h
  rw [Bool.eq_false_iff]
  intro he
  have h0 : (l.reverse.dropWhile (fun x => ([48, 49] : List UInt8).contains x)).reverse.dropWhile (fun x => ([48, 49] : List UInt8).contains x) = [] := by simpa using he
  have h1 : ∀ y ∈ l.reverse.dropWhile (fun x => ([48, 49] : List UInt8).contains x), ([48, 49] : List UInt8).contains y = true := fun y hy => by
   have := ((dw_nil _ _).1 h0) y (by simpa using hy)
   exact this
  have h2 : ∀ y ∈ l.reverse, ([48, 49] : List UInt8).contains y = true := fun y hy => by
   rw [← List.takeWhile_append_dropWhile (p := fun x => ([48, 49] : List UInt8).contains x) (l := l.reverse)] at hy
   rcases List.mem_append.1 hy with h | h
   ·exact List.all_eq_true.1 (List.all_takeWhile (p := fun x => ([48, 49] : List UInt8).contains x)) y h
   ·exact h1 y h
  have := h2 x (by simpa using hx)
  rw [hf] at this
  exact hn this
set_option maxHeartbeats 3200000 in
theorem based_any (R : Nat) (p : Option Addr) (c : Nat) (bs : List UInt8) (a0 : Nat) (W : World) (h : RdAt W R p c bs a0) (hlt0 : a0 < bs.length) :
  Calls Tryz.prog 148 #[.pointer (some ⟨R, 0, none⟩)] W (TokRes R p c bs a0 W (basedR (wordL (bs.drop (a0 + 1))))) := by
 have hle := word_le (bs.drop (a0 + 1))
 rw [List.length_drop] at hle
 have H := Lib.hid h
 have hn := h.hn
 have hc1 := h.ca
 have hf1 := h.fz
 have HPB := Lib.hid (h.bi.lt (by omega))
 have HRB := Lib.hid (show R ≠ W.heap.size by have := h.hl; omega)
 have hR := h.hl
 clear h
 go_enter Tryz.func148, Tryz.ntmps148
 go_wp2_with fail
 generalize hW1 : (W.setCell _ _).alloc _ = W1
 obtain ⟨P, hP⟩ : ∃ P, P = a0 + 1 := ⟨_, rfl⟩
 have hPi : (a0 : Int) + 1 = (P : Int) := by omega
 rw [hPi] at hW1
 have h1 := H.out.set (v := (P : Int)) (a' := P) rfl (by omega)
 have hOW := only_set W R 1 (.int .i64 (P : Int))
 have hB1 := below1 (W.setCell ⟨R, 1, none⟩ (.int .i64 (P : Int))) (.cells #[.int .u8 0, .string ByteArray.empty, .int .i64 0] 32)
 have hTB := tokB_new (W.setCell ⟨R, 1, none⟩ (.int .i64 (P : Int)))
 rw [World.size_setCell] at hTB
 have HI0 := Lib.hid (show RdAt W1 R p c bs P ∧ Only (· = R) W W1 ∧ TokB W1 W.heap.size by
  rw [← hW1]
  exact ⟨h1.later hB1, hOW.trans (Only.of_below hB1), hTB⟩)
 have hw := word_any R p c bs P _ HI0.out.1
 rw [hP] at hw
 rw [← hP] at hle
 have HP := Lib.hid hP
 generalize hwd : wordL (bs.drop (a0 + 1)) = w at *
 rw [hP, hwd] at hle
 have HW := Lib.hid hw
 clear hP hPi hW1 h1 hOW hB1 hTB hc1 hf1 H hw hwd hR
 generalize hB : W.heap.size = B at *
 have HBB := Lib.hid hB
 clear hB
 refine HW.out.mono ?_
 rintro e w3 ⟨rfl, hr2, ho2⟩
 have HR3 := Lib.hid (show RdAt w3 R p c bs (a0 + (w.length + 1)) by rw [show a0 + (w.length + 1) = a0 + 1 + w.length by omega]; exact hr2)
 have HO3 := Lib.hid (HI0.out.2.1.trans ho2)
 have hT3 := HI0.out.2.2.only ho2 (fun e => HRB.out e.symm)
 have HT3 := Lib.hid hT3
 obtain ⟨v0, t0⟩ := hT3.c0
 obtain ⟨v1, t1⟩ := hT3.c1
 obtain ⟨v2, t2⟩ := hT3.c2
 have tf0 := hT3.fz 0
 have tf1 := hT3.fz 1
 have tf2 := hT3.fz 2
 obtain ⟨S, hS, hS1, hS2⟩ := str_of w
 rw [hS]
 rw [← hS2] at hle
 have HS := Lib.hid (And.intro hS (And.intro hS1 hS2))
 clear hr2 ho2 HW HI0 hT3 hS hS1 hS2
 cases q : w.isEmpty with
 | true =>
  obtain ⟨e1, e2⟩ := str_empty HS.out.2.1 q
  have HRES := Lib.hid (show basedR w = .err 30 by unfold basedR; rw [q]; rfl)
  clear q
  go_wp2_with fail
  obtain ⟨hO5, hR5⟩ := tok_end (v0 := .int .u8 0) (v1 := .string ⟨#[]⟩) (v2 := .int .i64 0) (Nat.le_of_eq HBB.out) HR3.out HO3.out HRB.out (fun _ => HPB.out)
  refine bodyPost_ret (v := .tuple #[tokV 0 [] 0, .int .i64 30]) (by simp [results, Tryz.results148, go_sem, t0, t1, t2, tokV]) rfl ⟨hO5, ?_⟩
  rw [HRES.out]
  rfl
 | false =>
  obtain ⟨e1, e2⟩ := str_empty HS.out.2.1 q
  have hpos : 0 < S.size := by
   rw [HS.out.2.2]; cases w with
   | nil => cases q
   | cons => simp
  have h1le : 1 ≤ S.size := hpos
  have i1 : (1 : Int) ≤ (S.size : Int) := by omega
  have h0 : S[0] = w.getD 0 0 := by rw [← HS.out.2.1]; exact (str_get hpos).symm
  have hD : (S.extract 1 S.size).data.toList = w.drop 1 := by rw [ext_drop, HS.out.2.1]
  have hDs : (S.extract 1 S.size).size ≤ 1048576 := by
   have : (S.extract 1 S.size).data.toList.length = (S.extract 1 S.size).size := by simp
   rw [← this, hD, List.length_drop, ← HS.out.2.2]; omega
  have e120 : ((S[0].toNat : Int) == 120) = (S[0] == 120) := eq_u8 120 (by decide +kernel) _
  have e98 : ((S[0].toNat : Int) == 98) = (S[0] == 98) := eq_u8 98 (by decide +kernel) _
  obtain ⟨hz, hz0⟩ := byte_gt (x := S[0])
  have HBR := Lib.hid (show basedR w = if (S[0] == 120 && allB hxB (w.drop 1)) || (S[0] == 98 && allB (fun c => c == 48 || c == 49) (w.drop 1)) then .tok 7 (35 :: w) (w.length + 1) else .err 5 by
   unfold basedR; rw [q, h0]; rfl)
  generalize hDD : S.extract 1 S.size = D at *
  have HDD := Lib.hid hDD
  have HD := Lib.hid hD
  have HCL := Lib.hid HR3.out.cl
  clear q h0 hD hDD
  cases q1 : (S[0] == 120) with
  | true =>
   have hx98 : (S[0] == 98) = false := by rw [eq_of_beq q1]; decide
   rw [q1] at e120
   rw [hx98] at e98
   cases q2 : allB hxB (w.drop 1) with
   | true =>
    have HRES := Lib.hid (show basedR w = .tok 7 (35 :: w) (w.length + 1) by rw [HBR.out, q1, q2]; rfl)
    have Q2 := Lib.hid q2
    clear q1 q2 hx98
    go_wp2_with fail
    rw [HDD.out]
    refine (all_any 8 hxB (fun c => not_ne (and8 c)) R D _ HCL.out (by omega)).mono ?_
    rintro e w' ⟨rfl, n7, rfl⟩
    rw [HD.out, Q2.out]
    go_wp2_with fail
    generalize hW5 : World.drewN _ _ = w5
    have hb5 : Below w3.heap.size w3 w5 := by rw [← hW5]; exact (by first | exact below_drewN _ _ | exact Below.refl _ _ | (repeat (first | exact Below.refl _ _ | apply bdd)))
    obtain ⟨hO5, hR5⟩ := tok_end (v0 := .int .u8 7) (v1 := .string (⟨#[35]⟩ ++ S)) (v2 := .int .i64 0) (Nat.le_of_eq HBB.out) (HR3.out.later hb5) (HO3.out.trans (Only.of_below hb5)) HRB.out (fun _ => HPB.out)
    have u0 := cell_later hb5 t0
    have u1 := cell_later hb5 t1
    have u2 := cell_later hb5 t2
    refine bodyPost_ret (v := .tuple #[.agg #[.int .u8 7, .string (⟨#[35]⟩ ++ S), .int .i64 0], .int .i64 0]) (by simp [results, Tryz.results148, go_sem, u0, u1, u2]) rfl ⟨hO5, ?_⟩
    rw [HRES.out]
    exact ⟨by unfold tokV; rw [hash_app HS.out.2.1]; rfl, hR5⟩
   | false =>
    have HRES := Lib.hid (show basedR w = .err 5 by rw [HBR.out, q1, q2, hx98]; rfl)
    have Q2 := Lib.hid q2
    clear q1 q2 hx98
    go_wp2_with fail
    rw [HDD.out]
    refine (all_any 8 hxB (fun c => not_ne (and8 c)) R D _ HCL.out (by omega)).mono ?_
    rintro e w' ⟨rfl, n7, rfl⟩
    rw [HD.out, Q2.out]
    go_wp2_with fail
    generalize hW5 : World.drewN _ _ = w5
    have hb5 : Below w3.heap.size w3 w5 := by rw [← hW5]; exact (by first | exact below_drewN _ _ | exact Below.refl _ _ | (repeat (first | exact Below.refl _ _ | apply bdd)))
    obtain ⟨hO5, hR5⟩ := tok_end (v0 := .int .u8 0) (v1 := .string ⟨#[]⟩) (v2 := .int .i64 0) (Nat.le_of_eq HBB.out) (HR3.out.later hb5) (HO3.out.trans (Only.of_below hb5)) HRB.out (fun _ => HPB.out)
    have u0 := cell_later hb5 t0
    have u1 := cell_later hb5 t1
    have u2 := cell_later hb5 t2
    refine bodyPost_ret (v := .tuple #[tokV 0 [] 0, .int .i64 5]) (by simp [results, Tryz.results148, go_sem, u0, u1, u2, tokV]) rfl ⟨hO5, ?_⟩
    rw [HRES.out]
    rfl
  | false =>
   rw [q1] at e120
   cases q3 : (S[0] == 98) with
   | false =>
    rw [q3] at e98
    have HRES := Lib.hid (show basedR w = .err 5 by rw [HBR.out, q1, q3]; rfl)
    clear q1 q3
    go_wp2_with fail
    obtain ⟨hO5, hR5⟩ := tok_end (v0 := .int .u8 0) (v1 := .string ⟨#[]⟩) (v2 := .int .i64 0) (Nat.le_of_eq HBB.out) HR3.out HO3.out HRB.out (fun _ => HPB.out)
    refine bodyPost_ret (v := .tuple #[tokV 0 [] 0, .int .i64 5]) (by simp [results, Tryz.results148, go_sem, t0, t1, t2, tokV]) rfl ⟨hO5, ?_⟩
    rw [HRES.out]
    rfl
   | true =>
    rw [q3] at e98
    cases q4 : (w.drop 1).isEmpty with
    | true =>
     have HRES := Lib.hid (show basedR w = .err 5 by rw [HBR.out, q1, q3]; unfold allB; rw [q4]; simp)
     obtain ⟨g1, g2⟩ := str_empty HD.out q4
     have hE : (S.extract 1 S.size).toList.isEmpty = true := by rw [HDD.out]; exact g1
     clear q1 q3 q4
     go_wp2_with fail
     obtain ⟨hO5, hR5⟩ := tok_end (v0 := .int .u8 0) (v1 := .string ⟨#[]⟩) (v2 := .int .i64 0) (Nat.le_of_eq HBB.out) HR3.out HO3.out HRB.out (fun _ => HPB.out)
     refine bodyPost_ret (v := .tuple #[tokV 0 [] 0, .int .i64 5]) (by simp [results, Tryz.results148, go_sem, t0, t1, t2, tokV]) rfl ⟨hO5, ?_⟩
     rw [HRES.out]
     rfl
    | false =>
     obtain ⟨g1, g2⟩ := str_empty HD.out q4
     have hE : (S.extract 1 S.size).toList.isEmpty = false := by rw [HDD.out]; exact g1
     have HT := fun w' => trim_any D hDs w'
     have HTR := Lib.hid HT
     clear HT
     cases q5 : (w.drop 1).all (fun c => c == 48 || c == 49) with
     | true =>
      have HRES := Lib.hid (show basedR w = .tok 7 (35 :: w) (w.length + 1) by rw [HBR.out, q1, q3]; unfold allB; rw [q4, q5]; rfl)
      have HQ := Lib.hid (show (Lib.trimS D.data.toList [48, 49]).isEmpty = true by rw [trim_all, HD.out]; exact q5)
      clear q1 q3 q4 q5
      go_wp2_with fail
      rw [HDD.out]
      refine (HTR.out _).mono ?_
      rintro e w5 ⟨T, rfl, hT, hb5⟩
      obtain ⟨g3, g4⟩ := str_empty hT HQ.out
      have hb5 : Below w3.heap.size w3 w5 := hb5
      clear hT
      have hT5 := HT3.out.later hb5
      obtain ⟨x0, u0⟩ := hT5.c0
      obtain ⟨x1, u1⟩ := hT5.c1
      obtain ⟨x2, u2⟩ := hT5.c2
      have uf0 := hT5.fz 0
      have uf1 := hT5.fz 1
      have uf2 := hT5.fz 2
      have HB5 := Lib.hid hb5
      clear hb5 hT5
      go_wp2_with fail
      have hb5 := HB5.out
      obtain ⟨hO5, hR5⟩ := tok_end (v0 := .int .u8 7) (v1 := .string (⟨#[35]⟩ ++ S)) (v2 := .int .i64 0) (Nat.le_of_eq HBB.out) (HR3.out.later hb5) (HO3.out.trans (Only.of_below hb5)) HRB.out (fun _ => HPB.out)
      refine bodyPost_ret (v := .tuple #[.agg #[.int .u8 7, .string (⟨#[35]⟩ ++ S), .int .i64 0], .int .i64 0]) (by simp [results, Tryz.results148, go_sem, u0, u1, u2]) rfl ⟨hO5, ?_⟩
      rw [HRES.out]
      exact ⟨by unfold tokV; rw [hash_app HS.out.2.1]; rfl, hR5⟩
     | false =>
      have HRES := Lib.hid (show basedR w = .err 5 by rw [HBR.out, q1, q3]; unfold allB; rw [q4, q5]; rfl)
      have HQ := Lib.hid (show (Lib.trimS D.data.toList [48, 49]).isEmpty = false by rw [trim_all, HD.out]; exact q5)
      clear q1 q3 q4 q5
      go_wp2_with fail
      rw [HDD.out]
      refine (HTR.out _).mono ?_
      rintro e w5 ⟨T, rfl, hT, hb5⟩
      obtain ⟨g3, g4⟩ := str_empty hT HQ.out
      have hb5 : Below w3.heap.size w3 w5 := hb5
      clear hT
      have hT5 := HT3.out.later hb5
      obtain ⟨x0, u0⟩ := hT5.c0
      obtain ⟨x1, u1⟩ := hT5.c1
      obtain ⟨x2, u2⟩ := hT5.c2
      have uf0 := hT5.fz 0
      have uf1 := hT5.fz 1
      have uf2 := hT5.fz 2
      have HB5 := Lib.hid hb5
      clear hb5 hT5
      go_wp2_with fail
      have hb5 := HB5.out
      obtain ⟨hO5, hR5⟩ := tok_end (v0 := .int .u8 0) (v1 := .string ⟨#[]⟩) (v2 := .int .i64 0) (Nat.le_of_eq HBB.out) (HR3.out.later hb5) (HO3.out.trans (Only.of_below hb5)) HRB.out (fun _ => HPB.out)
      refine bodyPost_ret (v := .tuple #[tokV 0 [] 0, .int .i64 5]) (by simp [results, Tryz.results148, go_sem, u0, u1, u2, tokV]) rfl ⟨hO5, ?_⟩
      rw [HRES.out]
      rfl
theorem token_any (R : Nat) (p : Option Addr) (c : Nat) (bs : List UInt8) (a0 : Nat) (W : World) (h : RdAt W R p c bs a0) (hlt0 : a0 < bs.length) :
  Calls Tryz.prog 135 #[.pointer (some ⟨R, 0, none⟩)] W (TokRes R p c bs a0 W (oneR (bs.drop a0))) := by
 have HDR := Lib.hid (drop_at hlt0)
 have hn := h.hn
 have HPB := Lib.hid (h.bi.lt (by omega))
 have HRB := Lib.hid (show R ≠ W.heap.size by have := h.hl; omega)
 have hB1 := below1 W (.cells #[.int .u8 0, .string ByteArray.empty, .int .i64 0] 32)
 have HR1 := Lib.hid (h.later hB1)
 have HT1 := Lib.hid (tokB_new W)
 have HB1 := Lib.hid hB1
 have hsy := fun hs => plain_any R p c bs a0 (W.alloc (.cells #[.int .u8 0, .string ByteArray.empty, .int .i64 0] 32)) HR1.out hlt0 hs
 clear h hB1 hsy
 go_enter Tryz.func135, Tryz.ntmps135
 go_wp2_with fail
 generalize hW1 : W.alloc _ = W1
 rw [show (W.alloc (.cells #[.int .u8 0, .string ByteArray.empty, .int .i64 0] 32)) = W1 from hW1] at HR1 HT1 HB1
 generalize hB : W.heap.size = B at *
 have HBB := Lib.hid hB
 clear hW1 hB
 have c0 := HR1.out.cb
 have c1 := HR1.out.ca
 obtain ⟨n, hnl⟩ : ∃ n, n = bs.length := ⟨_, rfl⟩
 have HL := Lib.hid hnl
 rw [← hnl] at c0
 clear hnl
 have i1 : (a0 : Int) < (n : Int) := by have := HL.out; omega
 have i0 : (0 : Int) ≤ (a0 : Int) := by omega
 have i2 : (a0 : Int) ≤ 1048576 := by omega
 obtain ⟨b, off, hpe, cb⟩ := HR1.out.bi a0 hlt0
 rw [hpe] at c0
 have HPE := Lib.hid hpe
 have HLT := Lib.hid hlt0
 clear hpe
 obtain ⟨hz, hz0⟩ := byte_gt (x := bs[a0])
 have e40 : ((bs[a0].toNat : Int) == 40) = (bs[a0] == 40) := eq_u8 40 (by decide +kernel) _
 have e41 : ((bs[a0].toNat : Int) == 41) = (bs[a0] == 41) := eq_u8 41 (by decide +kernel) _
 have e124 : ((bs[a0].toNat : Int) == 124) = (bs[a0] == 124) := eq_u8 124 (by decide +kernel) _
 have e34 : ((bs[a0].toNat : Int) == 34) = (bs[a0] == 34) := eq_u8 34 (by decide +kernel) _
 have e58 : ((bs[a0].toNat : Int) == 58) = (bs[a0] == 58) := eq_u8 58 (by decide +kernel) _
 have e35 : ((bs[a0].toNat : Int) == 35) = (bs[a0] == 35) := eq_u8 35 (by decide +kernel) _
 have an := and2 bs[a0]
 have ccl0 := HR1.out.cl bs[a0]
 generalize hx : bs[a0] = x at *
 generalize x.toNat = y at *
 generalize clB x = z at *
 have HX := Lib.hid hx
 clear hx
 go_quiet (fail)
 generalize hW2 : W1.drewN _ = W2
 have HR2 := Lib.hid (show RdAt W2 R p c bs a0 by rw [← hW2]; exact HR1.out.later (by first | exact below_drewN _ _ | exact Below.refl _ _ | (repeat (first | exact Below.refl _ _ | apply bdd))))
 have HO2 := Lib.hid (show Only (· = R) W W2 by rw [← hW2]; exact (Only.of_below (T := (· = R)) (by rw [HBB.out]; exact HB1.out)).trans (Only.of_below (by first | exact below_drewN _ _ | exact Below.refl _ _ | (repeat (first | exact Below.refl _ _ | apply bdd)))))
 have HT2 := Lib.hid (show TokB W2 B by rw [← hW2]; exact HT1.out.later (by first | exact below_drewN _ _ | exact Below.refl _ _ | (repeat (first | exact Below.refl _ _ | apply bdd))))
 have ccl : W2.cell? ⟨R, 2 + y, none⟩ = some (.int .u8 (z : Int)) := by rw [← hW2]; simpa using ccl0
 have d1 := HR2.out.ca
 have df := HR2.out.fz
 clear hW2 HR1 HT1 HB1 c0 c1 cb hlt0 ccl0
 cases q1 : (x == 40) with
 | true =>
  rw [q1] at e40
  have HONE := Lib.hid (show oneR (bs.drop a0) = .tok 1 [40] 1 by rw [HDR.out]; simp only [oneR, q1]; simp)
  clear q1
  have hst : ∀ v : Int, v = (a0 : Int) + 1 → RdAt (W2.setCell ⟨R, 1, none⟩ (.int .i64 v)) R p c bs (a0 + 1) ∧ Only (· = R) W (W2.setCell ⟨R, 1, none⟩ (.int .i64 v)) ∧ TokB (W2.setCell ⟨R, 1, none⟩ (.int .i64 v)) B := fun v hv => ⟨HR2.out.set (by omega) (by have := HLT.out; omega), HO2.out.trans (only_set _ _ _ _), HT2.out.only (only_set _ _ _ _) (fun e => HRB.out e.symm)⟩
  obtain ⟨hr3, ho3, hT3⟩ := hst ((a0 : Int) + 1) rfl
  have HR3 := Lib.hid hr3
  have HO3 := Lib.hid ho3
  obtain ⟨v0, t0⟩ := hT3.c0
  obtain ⟨v1, t1⟩ := hT3.c1
  obtain ⟨v2, t2⟩ := hT3.c2
  have tf0 := hT3.fz 0
  have tf1 := hT3.fz 1
  have tf2 := hT3.fz 2
  clear hT3
  have hne1 : ¬ R = B := HRB.out
  have hne2 : ¬ B = R := fun e => HRB.out e.symm
  obtain ⟨x0, u0⟩ := HT2.out.c0
  obtain ⟨x1, u1⟩ := HT2.out.c1
  obtain ⟨x2, u2⟩ := HT2.out.c2
  have uf0 := HT2.out.fz 0
  have uf1 := HT2.out.fz 1
  have uf2 := HT2.out.fz 2
  clear hst hr3 ho3
  go_wp2_with fail
  obtain ⟨hO5, hR5⟩ := tok_end (v0 := .int .u8 1) (v1 := .string ⟨#[40]⟩) (v2 := .int .i64 0) (Nat.le_of_eq HBB.out) HR3.out HO3.out HRB.out (fun _ => HPB.out)
  refine bodyPost_ret (v := .tuple #[.agg #[.int .u8 1, .string ⟨#[40]⟩, .int .i64 0], .int .i64 0]) (by simp [results, Tryz.results135, go_sem, t0, t1, t2]) rfl ⟨hO5, ?_⟩
  rw [HONE.out]
  exact ⟨rfl, hR5⟩
 | false =>
  rw [q1] at e40
  cases q2 : (x == 41) with
  | true =>
   rw [q2] at e41
   have HONE := Lib.hid (show oneR (bs.drop a0) = .tok 2 [41] 1 by rw [HDR.out]; simp only [oneR, q1, q2]; simp)
   clear q1 q2
   have hst : ∀ v : Int, v = (a0 : Int) + 1 → RdAt (W2.setCell ⟨R, 1, none⟩ (.int .i64 v)) R p c bs (a0 + 1) ∧ Only (· = R) W (W2.setCell ⟨R, 1, none⟩ (.int .i64 v)) ∧ TokB (W2.setCell ⟨R, 1, none⟩ (.int .i64 v)) B := fun v hv => ⟨HR2.out.set (by omega) (by have := HLT.out; omega), HO2.out.trans (only_set _ _ _ _), HT2.out.only (only_set _ _ _ _) (fun e => HRB.out e.symm)⟩
   obtain ⟨hr3, ho3, hT3⟩ := hst ((a0 : Int) + 1) rfl
   have HR3 := Lib.hid hr3
   have HO3 := Lib.hid ho3
   obtain ⟨v0, t0⟩ := hT3.c0
   obtain ⟨v1, t1⟩ := hT3.c1
   obtain ⟨v2, t2⟩ := hT3.c2
   have tf0 := hT3.fz 0
   have tf1 := hT3.fz 1
   have tf2 := hT3.fz 2
   clear hT3
   have hne1 : ¬ R = B := HRB.out
   have hne2 : ¬ B = R := fun e => HRB.out e.symm
   obtain ⟨x0, u0⟩ := HT2.out.c0
   obtain ⟨x1, u1⟩ := HT2.out.c1
   obtain ⟨x2, u2⟩ := HT2.out.c2
   have uf0 := HT2.out.fz 0
   have uf1 := HT2.out.fz 1
   have uf2 := HT2.out.fz 2
   clear hst hr3 ho3
   go_wp2_with fail
   obtain ⟨hO5, hR5⟩ := tok_end (v0 := .int .u8 2) (v1 := .string ⟨#[41]⟩) (v2 := .int .i64 0) (Nat.le_of_eq HBB.out) HR3.out HO3.out HRB.out (fun _ => HPB.out)
   refine bodyPost_ret (v := .tuple #[.agg #[.int .u8 2, .string ⟨#[41]⟩, .int .i64 0], .int .i64 0]) (by simp [results, Tryz.results135, go_sem, t0, t1, t2]) rfl ⟨hO5, ?_⟩
   rw [HONE.out]
   exact ⟨rfl, hR5⟩
  | false =>
   rw [q2] at e41
   cases q3 : (x == 124) with
   | true =>
    rw [q3] at e124
    have hone := (show oneR (bs.drop a0) = quo [] (bs.drop (a0 + 1)) by rw [HDR.out]; simp only [oneR, q1, q2, q3]; simp)
    have hcall := quoted_any R p c bs a0 W2 HR2.out HLT.out
    clear q1 q2 q3
    generalize quo [] (bs.drop (a0 + 1)) = Q at *
    have HONE := Lib.hid hone
    have HC := Lib.hid hcall
    clear hone hcall
    go_wp2_with fail
    refine (HC.out).mono ?_
    rintro e w3 ⟨ho, hres⟩
    have HO3 := Lib.hid (HO2.out.trans ho)
    have hT3 := HT2.out.only ho (fun e => HRB.out e.symm)
    obtain ⟨v0, t0⟩ := hT3.c0
    obtain ⟨v1, t1⟩ := hT3.c1
    obtain ⟨v2, t2⟩ := hT3.c2
    have tf0 := hT3.fz 0
    have tf1 := hT3.fz 1
    have tf2 := hT3.fz 2
    clear hT3
    clear ho
    match Q, HONE, hres with
    | .tok k t n, HONE, hres =>
     obtain ⟨rfl, hr⟩ := hres
     have HR3 := Lib.hid hr
     clear hr
     unfold tokV
     go_wp2_with fail
     obtain ⟨hO5, hR5⟩ := tok_end (v0 := .int .u8 (k : Int)) (v1 := .string ⟨t.toArray⟩) (v2 := .int .i64 0) (Nat.le_of_eq HBB.out) HR3.out HO3.out HRB.out (fun _ => HPB.out)
     refine bodyPost_ret (v := .tuple #[.agg #[.int .u8 (k : Int), .string ⟨t.toArray⟩, .int .i64 0], .int .i64 0]) (by simp [results, Tryz.results135, go_sem, t0, t1, t2]) rfl ⟨hO5, ?_⟩
     rw [HONE.out]
     exact ⟨rfl, hR5⟩
    | .err er, HONE, hres =>
     subst hres
     unfold tokV
     go_wp2_with fail
     refine bodyPost_ret (v := .tuple #[tokV 0 [] 0, .int .i64 (er : Int)]) (by simp [results, Tryz.results135, go_sem, t0, t1, t2, tokV]) rfl ⟨?_, ?_⟩
     ·exact (((HO3.out).new (Nat.le_of_eq HBB.out)).new (Nat.le_of_eq HBB.out)).new (Nat.le_of_eq HBB.out)
     ·rw [HONE.out]; try rfl
   | false =>
    rw [q3] at e124
    cases q4 : (x == 34) with
    | true =>
     rw [q4] at e34
     have hone := (show oneR (bs.drop a0) = lit false [] 1 (bs.drop (a0 + 1)) by rw [HDR.out]; simp only [oneR, q1, q2, q3, q4]; simp)
     have hcall := literal_any R p c bs a0 W2 HR2.out HLT.out
     clear q1 q2 q3 q4
     generalize lit false [] 1 (bs.drop (a0 + 1)) = Q at *
     have HONE := Lib.hid hone
     have HC := Lib.hid hcall
     clear hone hcall
     go_wp2_with fail
     refine (HC.out).mono ?_
     rintro e w3 ⟨ho, hres⟩
     have HO3 := Lib.hid (HO2.out.trans ho)
     have hT3 := HT2.out.only ho (fun e => HRB.out e.symm)
     obtain ⟨v0, t0⟩ := hT3.c0
     obtain ⟨v1, t1⟩ := hT3.c1
     obtain ⟨v2, t2⟩ := hT3.c2
     have tf0 := hT3.fz 0
     have tf1 := hT3.fz 1
     have tf2 := hT3.fz 2
     clear hT3
     clear ho
     match Q, HONE, hres with
     | .tok k t n, HONE, hres =>
      obtain ⟨rfl, hr⟩ := hres
      have HR3 := Lib.hid hr
      clear hr
      unfold tokV
      go_wp2_with fail
      obtain ⟨hO5, hR5⟩ := tok_end (v0 := .int .u8 (k : Int)) (v1 := .string ⟨t.toArray⟩) (v2 := .int .i64 0) (Nat.le_of_eq HBB.out) HR3.out HO3.out HRB.out (fun _ => HPB.out)
      refine bodyPost_ret (v := .tuple #[.agg #[.int .u8 (k : Int), .string ⟨t.toArray⟩, .int .i64 0], .int .i64 0]) (by simp [results, Tryz.results135, go_sem, t0, t1, t2]) rfl ⟨hO5, ?_⟩
      rw [HONE.out]
      exact ⟨rfl, hR5⟩
     | .err er, HONE, hres =>
      subst hres
      unfold tokV
      go_wp2_with fail
      refine bodyPost_ret (v := .tuple #[tokV 0 [] 0, .int .i64 (er : Int)]) (by simp [results, Tryz.results135, go_sem, t0, t1, t2, tokV]) rfl ⟨?_, ?_⟩
      ·exact (((HO3.out).new (Nat.le_of_eq HBB.out)).new (Nat.le_of_eq HBB.out)).new (Nat.le_of_eq HBB.out)
      ·rw [HONE.out]; try rfl
    | false =>
     rw [q4] at e34
     cases q5 : (x == 58) with
     | true =>
      rw [q5] at e58
      have hone := (show oneR (bs.drop a0) = keyR (wordL (bs.drop (a0 + 1))) by rw [HDR.out]; simp only [oneR, q1, q2, q3, q4, q5]; simp)
      have hcall := keyword_any R p c bs a0 W2 HR2.out HLT.out
      clear q1 q2 q3 q4 q5
      generalize keyR (wordL (bs.drop (a0 + 1))) = Q at *
      have HONE := Lib.hid hone
      have HC := Lib.hid hcall
      clear hone hcall
      go_wp2_with fail
      refine (HC.out).mono ?_
      rintro e w3 ⟨ho, hres⟩
      have HO3 := Lib.hid (HO2.out.trans ho)
      have hT3 := HT2.out.only ho (fun e => HRB.out e.symm)
      obtain ⟨v0, t0⟩ := hT3.c0
      obtain ⟨v1, t1⟩ := hT3.c1
      obtain ⟨v2, t2⟩ := hT3.c2
      have tf0 := hT3.fz 0
      have tf1 := hT3.fz 1
      have tf2 := hT3.fz 2
      clear hT3
      clear ho
      match Q, HONE, hres with
      | .tok k t n, HONE, hres =>
       obtain ⟨rfl, hr⟩ := hres
       have HR3 := Lib.hid hr
       clear hr
       unfold tokV
       go_wp2_with fail
       obtain ⟨hO5, hR5⟩ := tok_end (v0 := .int .u8 (k : Int)) (v1 := .string ⟨t.toArray⟩) (v2 := .int .i64 0) (Nat.le_of_eq HBB.out) HR3.out HO3.out HRB.out (fun _ => HPB.out)
       refine bodyPost_ret (v := .tuple #[.agg #[.int .u8 (k : Int), .string ⟨t.toArray⟩, .int .i64 0], .int .i64 0]) (by simp [results, Tryz.results135, go_sem, t0, t1, t2]) rfl ⟨hO5, ?_⟩
       rw [HONE.out]
       exact ⟨rfl, hR5⟩
      | .err er, HONE, hres =>
       subst hres
       unfold tokV
       go_wp2_with fail
       refine bodyPost_ret (v := .tuple #[tokV 0 [] 0, .int .i64 (er : Int)]) (by simp [results, Tryz.results135, go_sem, t0, t1, t2, tokV]) rfl ⟨?_, ?_⟩
       ·exact (((HO3.out).new (Nat.le_of_eq HBB.out)).new (Nat.le_of_eq HBB.out)).new (Nat.le_of_eq HBB.out)
       ·rw [HONE.out]; try rfl
     | false =>
      rw [q5] at e58
      cases q6 : (x == 35) with
      | true =>
       rw [q6] at e35
       have hone := (show oneR (bs.drop a0) = basedR (wordL (bs.drop (a0 + 1))) by rw [HDR.out]; simp only [oneR, q1, q2, q3, q4, q5, q6]; simp)
       have hcall := based_any R p c bs a0 W2 HR2.out HLT.out
       clear q1 q2 q3 q4 q5 q6
       generalize basedR (wordL (bs.drop (a0 + 1))) = Q at *
       have HONE := Lib.hid hone
       have HC := Lib.hid hcall
       clear hone hcall
       go_wp2_with fail
       refine (HC.out).mono ?_
       rintro e w3 ⟨ho, hres⟩
       have HO3 := Lib.hid (HO2.out.trans ho)
       have hT3 := HT2.out.only ho (fun e => HRB.out e.symm)
       obtain ⟨v0, t0⟩ := hT3.c0
       obtain ⟨v1, t1⟩ := hT3.c1
       obtain ⟨v2, t2⟩ := hT3.c2
       have tf0 := hT3.fz 0
       have tf1 := hT3.fz 1
       have tf2 := hT3.fz 2
       clear hT3
       clear ho
       match Q, HONE, hres with
       | .tok k t n, HONE, hres =>
        obtain ⟨rfl, hr⟩ := hres
        have HR3 := Lib.hid hr
        clear hr
        unfold tokV
        go_wp2_with fail
        obtain ⟨hO5, hR5⟩ := tok_end (v0 := .int .u8 (k : Int)) (v1 := .string ⟨t.toArray⟩) (v2 := .int .i64 0) (Nat.le_of_eq HBB.out) HR3.out HO3.out HRB.out (fun _ => HPB.out)
        refine bodyPost_ret (v := .tuple #[.agg #[.int .u8 (k : Int), .string ⟨t.toArray⟩, .int .i64 0], .int .i64 0]) (by simp [results, Tryz.results135, go_sem, t0, t1, t2]) rfl ⟨hO5, ?_⟩
        rw [HONE.out]
        exact ⟨rfl, hR5⟩
       | .err er, HONE, hres =>
        subst hres
        unfold tokV
        go_wp2_with fail
        refine bodyPost_ret (v := .tuple #[tokV 0 [] 0, .int .i64 (er : Int)]) (by simp [results, Tryz.results135, go_sem, t0, t1, t2, tokV]) rfl ⟨?_, ?_⟩
        ·exact (((HO3.out).new (Nat.le_of_eq HBB.out)).new (Nat.le_of_eq HBB.out)).new (Nat.le_of_eq HBB.out)
        ·rw [HONE.out]; try rfl
      | false =>
       rw [q6] at e35
       cases q7 : syB x with
       | true =>
        rw [q7] at an
        have hone : oneR (bs.drop a0) = plainR (wordL (bs.drop a0)) := by
         rw [HDR.out]
         simp only [oneR, q1, q2, q3, q4, q5, q6, q7]
         simp
        have hcall := plain_any R p c bs a0 W2 HR2.out HLT.out (by have := HX.out; rw [← this] at q7; exact q7)
        clear q1 q2 q3 q4 q5 q6 q7
        generalize plainR (wordL (bs.drop a0)) = Q at *
        have HONE := Lib.hid hone
        have HC := Lib.hid hcall
        clear hone hcall
        go_wp2_with fail
        refine (HC.out).mono ?_
        rintro e w3 ⟨ho, hres⟩
        have HO3 := Lib.hid (HO2.out.trans ho)
        have hT3 := HT2.out.only ho (fun e => HRB.out e.symm)
        obtain ⟨v0, t0⟩ := hT3.c0
        obtain ⟨v1, t1⟩ := hT3.c1
        obtain ⟨v2, t2⟩ := hT3.c2
        have tf0 := hT3.fz 0
        have tf1 := hT3.fz 1
        have tf2 := hT3.fz 2
        clear hT3
        clear ho
        match Q, HONE, hres with
        | .tok k t n, HONE, hres =>
         obtain ⟨rfl, hr⟩ := hres
         have HR3 := Lib.hid hr
         clear hr
         unfold tokV
         go_wp2_with fail
         obtain ⟨hO5, hR5⟩ := tok_end (v0 := .int .u8 (k : Int)) (v1 := .string ⟨t.toArray⟩) (v2 := .int .i64 0) (Nat.le_of_eq HBB.out) HR3.out HO3.out HRB.out (fun _ => HPB.out)
         refine bodyPost_ret (v := .tuple #[.agg #[.int .u8 (k : Int), .string ⟨t.toArray⟩, .int .i64 0], .int .i64 0]) (by simp [results, Tryz.results135, go_sem, t0, t1, t2]) rfl ⟨hO5, ?_⟩
         rw [HONE.out]
         exact ⟨rfl, hR5⟩
        | .err er, HONE, hres =>
         subst hres
         unfold tokV
         go_wp2_with fail
         refine bodyPost_ret (v := .tuple #[tokV 0 [] 0, .int .i64 (er : Int)]) (by simp [results, Tryz.results135, go_sem, t0, t1, t2, tokV]) rfl ⟨?_, ?_⟩
         ·exact (((HO3.out).new (Nat.le_of_eq HBB.out)).new (Nat.le_of_eq HBB.out)).new (Nat.le_of_eq HBB.out)
         ·rw [HONE.out]; try rfl
       | false =>
        rw [q7] at an
        have HONE := Lib.hid (show oneR (bs.drop a0) = .err 30 by rw [HDR.out]; simp only [oneR, q1, q2, q3, q4, q5, q6, q7]; simp)
        clear q1 q2 q3 q4 q5 q6 q7
        have HR3 := HR2
        have HO3 := HO2
        have hT3 := HT2.out
        obtain ⟨v0, t0⟩ := hT3.c0
        obtain ⟨v1, t1⟩ := hT3.c1
        obtain ⟨v2, t2⟩ := hT3.c2
        have tf0 := hT3.fz 0
        have tf1 := hT3.fz 1
        have tf2 := hT3.fz 2
        clear hT3
        go_wp2_with fail
        refine bodyPost_ret (v := .tuple #[tokV 0 [] 0, .int .i64 30]) (by simp [results, Tryz.results135, go_sem, t0, t1, t2, tokV]) rfl ⟨?_, ?_⟩
        ·exact (((HO3.out).new (Nat.le_of_eq HBB.out)).new (Nat.le_of_eq HBB.out)).new (Nat.le_of_eq HBB.out)
        ·rw [HONE.out]; try rfl
end Go.Proofs.YtookoagcmejkpaaGreatDoor.Lx
namespace Go.Proofs.YtookoagcmejkpaaGreatDoor
set_option maxRecDepth 100000
open Go Go.RowKit Go.Sort
theorem below_grow (w : World) (k : Nat) (os : Array Obj) : Below w.heap.size w (grow (w.drewN k) os) :=
 ⟨rfl, rfl, rfl, by simp [grow], fun j hj => by simp [grow, Array.getElem?_append_left, hj]⟩

theorem tabIs_below {w w' : World} {name : String} {k : IntKind} {zs : List Int} (h : Lib.TabIs Tryz.prog w name k zs) (hb : Below w.heap.size w w') : Lib.TabIs Tryz.prog w' name k zs := by
 unfold Lib.TabIs World.var? at *
 cases hg : Tryz.prog.globalNamed name with
 | none => simp [hg] at h
 | some g =>
  simp only [hg, Option.bind_some] at h ⊢
  have hlt : g < w.heap.size := by
   rcases Nat.lt_or_ge g w.heap.size with h' | h'
   ·exact h'
   ·rw [Array.getElem?_eq_none h'] at h; simp at h
  rw [hb.block g hlt]
  exact h

end Go.Proofs.YtookoagcmejkpaaGreatDoor
