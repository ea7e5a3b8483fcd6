/- quoted. literal. strings.Cut at a point. plain: words and numbers. keyword, based. token: the token that begins here. Contracts of the two-word arithmetic, by walking the text. The texts of numbers: F -/
import Derived.Test.YtookoagcmejkpaaGreatDoorJ0
import Derived.Deep.RegionHeld3
import Derived.Test.YtookoagcmejkpaaGreatDoorProg
import Derived.WalkKit
import Derived.WalkSpells
import Derived.WalkLawsBesides
import Derived.Below
import Derived.Laws.Externs
import Derived.Outline
import Derived.Lib.Hide
import Derived.Laws.Bits128
import Derived.RegionTactic
import Derived.Deep.QuietTactic
import Derived.BigQuiet
import Derived.Lib.Walk
import Derived.BigCall
import Derived.BigGuard
import Derived.Maps.OwnOps
import Derived.Maps.RangeWalk
import Derived.Deep.MidRow
set_option maxHeartbeats 3200000
namespace Go.Proofs.YtookoagcmejkpaaGreatDoor.Lx
set_option maxRecDepth 100000
open Go Go.RowKit
def tokV (k : Nat) (t : List UInt8) (a : Nat) : Value := .agg #[.int .u8 (k : Int), .string ⟨t.toArray⟩, .int .i64 (a : Int)]
def qgx (R : Nat) (p : Option Addr) (c : Nat) (bs : List UInt8) (a0 : Nat) (W : World) (r : Res) (e : Ending) (w' : World) : Prop :=
 Only (· = R) W w' /\ match r with
 | .tok k t n => e = .returned (.tuple #[tokV k t 0, .int .i64 0]) /\ RdAt w' R p c bs (a0 + n)
 | .err er => e = .returned (.tuple #[tokV 0 [] 0, .int .i64 (er : Int)])
def u8v (x : UInt8) : Value := .int .u8 (x.toNat : Int)
structure TokB (W : World) (b : Nat) : Prop where
 c0 : ∃ v, W.cell? ⟨b, 0, none⟩ = some (.int .u8 v)
 c1 : ∃ v, W.cell? ⟨b, 1, none⟩ = some (.string v)
 c2 : ∃ v, W.cell? ⟨b, 2, none⟩ = some (.int .i64 v)
 fz : ∀ o, W.frozen? ⟨b, o, none⟩ = false
theorem qd4 (W : World) : TokB (W.alloc (.cells #[.int .u8 0, .string ByteArray.empty, .int .i64 0] 32)) W.heap.size :=
 ⟨⟨0, by simp [go_sem]⟩, ⟨ByteArray.empty, by simp [go_sem]⟩, ⟨0, by simp [go_sem]⟩, fun o => by simp [go_sem]⟩
theorem TokB.later {W W' : World} {b : Nat} (h : TokB W b) (hb : Below W.heap.size W W') : TokB W' b := by
 obtain ⟨v0, h0⟩ := h.c0;obtain ⟨v1, h1⟩ := h.c1;obtain ⟨v2, h2⟩ := h.c2;exact ⟨⟨v0, qaa hb h0⟩, ⟨v1, qaa hb h1⟩, ⟨v2, qaa hb h2⟩, fun o => by rw [hb.frozen (p := ⟨b, o, none⟩) (World.block_lt_of_cell? W ⟨b, 0, none⟩ h0)]; exact h.fz o⟩
theorem TokB.only {W W' : World} {b : Nat} {T : Nat -> Prop} (h : TokB W b) (ho : Only T W W') (hn : ¬ T b) : TokB W' b := by
 obtain ⟨v0, h0⟩ := h.c0;obtain ⟨v1, h1⟩ := h.c1;obtain ⟨v2, h2⟩ := h.c2;exact ⟨⟨v0, ho.cell h0 hn⟩, ⟨v1, ho.cell h1 hn⟩, ⟨v2, ho.cell h2 hn⟩, fun o => by rw [ho.frozen (a := ⟨b, o, none⟩) (World.block_lt_of_cell? W ⟨b, 0, none⟩ h0) hn]; exact h.fz o⟩
theorem qbz (n : Nat) (h : (List.range 256).all (fun m => ((UInt8.ofNat m).toNat == n) == (UInt8.ofNat m == UInt8.ofNat n)) = true) (c : UInt8) : ((c.toNat : Int) == (n : Int)) = (c == UInt8.ofNat n) := by
 have := qdm (p := fun c => (c.toNat == n) == (c == UInt8.ofNat n)) h c;rw [<- eq_of_beq this];rw [Bool.eq_iff_iff]; simp; omega
theorem qmr {bs : List UInt8} {P a : Nat} (h1 : P <= a) (h : a < bs.length) : (bs.drop P).take (a + 1 - P) = (bs.drop P).take (a - P) ++ [bs[a]] := by
 rw [show a + 1 - P = a - P + 1 by omega, List.take_succ_eq_append_getElem (by simp; omega)];simp only [List.getElem_drop]
 congr 3
 omega
theorem qlq (R : Nat) (p : Option Addr) (c : Nat) (bs : List UInt8) (a0 : Nat) (W : World) (h : RdAt W R p c bs a0) (hlt0 : a0 < bs.length) :
  Calls Tryz.prog 145 #[.pointer (some ⟨R, 0, none⟩)] W (qgx R p c bs a0 W (quo [] (bs.drop (a0 + 1)))) := by
 have H := Zh h;have hn := h.hn;have hc1 := h.ca;have hf1 := h.fz;have hR := h.hl;generalize hQ : quo [] (bs.drop (a0 + 1)) = Q;have HQ := Zh hQ;clear h hQ;go_enter Tryz.func145, Tryz.ntmps145
 go_wp2_with fail
 generalize hW1 : (W.setCell _ _).alloc _ = W1;obtain ⟨P, hP⟩ : ∃ P, P = a0 + 1 := ⟨_, rfl⟩;have hPi : (a0 : Int) + 1 = (P : Int) := by omega
 rw [hPi] at hW1 ⊢;have h1 := H.o.set (v := (P : Int)) (a' := P) rfl (by omega);have hOW := qap W R 1 (.int .i64 (P : Int));have hB1 := qab (W.setCell ⟨R, 1, none⟩ (.int .i64 (P : Int))) (.cells #[.int .u8 0, .string ByteArray.empty, .int .i64 0] 32);have hTB := qd4 (W.setCell ⟨R, 1, none⟩ (.int .i64 (P : Int)));rw [World.size_setCell] at hTB
 have HI0 := Zh (show RdAt W1 R p c bs P /\ Only (· = R) W W1 /\ TokB W1 W.heap.size by
  rw [<- hW1]
  exact ⟨h1.later hB1, hOW.trans (Only.of_below hB1), hTB⟩)
 have HQ2 := Zh (show quo ((bs.drop P).take (P - P)) (bs.drop P) = Q by rw [Nat.sub_self, List.take_zero, hP]; exact HQ.o);have HRB := Zh (show R ≠ W.heap.size by omega);have HP := Zh hP;have HPB := Zh (H.o.bi.lt (by omega));clear hP hPi hW1 h1 hOW hB1 hTB hc1 hf1 HQ H hR;generalize hB : W.heap.size = B at *;have HBB := Zh hB;clear hB
 go_loopg [5] (bs.length + 1) (fun gk s5 wx => ∃ a : Nat, Hid (P <= a /\ a <= bs.length /\ bs.length + 1 <= a + gk /\ quo ((bs.drop P).take (a - P)) (bs.drop a) = Q /\ RdAt wx R p c bs a /\ Only (· = R) W wx /\ TokB wx B))
 case atStart => exact ⟨P, Zh ⟨Nat.le_refl _, HI0.o.1.ha, by omega, HQ2.o, HI0.o.1, HI0.o.2.1, HI0.o.2.2⟩⟩
 case round =>
  obtain ⟨a, HI⟩ := hrel;clear HI0 HQ2;obtain ⟨h0, h1, h2, h3, hr, ho, ht⟩ := HI.o;have c0 := hr.cb;have c1 := hr.ca;have f1 := hr.fz;have HG := Zh h2;have HE := Zh h3;have HO := Zh ho;have HR := Zh hr;have HT := Zh ht;clear h2 h3 ho HI ht;obtain ⟨n, hnl⟩ : ∃ n, n = bs.length := ⟨_, rfl⟩;have HL := Zh hnl;rw [<- hnl] at c0 hn h1 hlt0;clear hnl
  by_cases hlt : a < n
  ·obtain ⟨G, rfl⟩ : ∃ G, gk = G + 1 := ⟨gk - 1, by have := HG.o; have := HL.o; omega⟩
   have i1 : (a : Int) < (n : Int) := by omega
   have i0 : (0 : Int) <= (a : Int) := by omega
   have hab : a < bs.length := by have := HL.o; omega
   have hd := qbf hab;have htm := qmr h0 hab;obtain ⟨b, off, rfl, cb⟩ := hr.bi a hab;have ccl := hr.cl bs[a];obtain ⟨hz, hz0⟩ := qbe (x := bs[a]);have an := qb4 (qtu bs[a]);have e124 : ((bs[a].toNat : Int) == 124) = (bs[a] == 124) := qbz 124 (by decide +kernel) _;have e92 : ((bs[a].toNat : Int) == 92) = (bs[a] == 92) := qbz 92 (by decide +kernel) _;generalize bs[a] = x at *;generalize x.toNat = y at *;generalize clB x = z at *;have HD := Zh hd;have HTM := Zh htm;clear hr hd htm
   cases q1 : (x == 124) with
   | true =>
    rw [q1] at e124
    have hres : Q = .tok 3 ((bs.drop P).take (a - P)) (a - P + 2) := by
     have := HE.o; rw [HD.o] at this; simp only [quo, q1, if_true] at this;rw [<- this]; congr 1; simp; omega
    have HRES := Zh hres;clear q1 hres e92 an
    go_wp2_with fail
    go_quiet (fail)
    go_wp2_with fail
    go_quiet (fail)
    go_wp2_with fail
    obtain ⟨A1, hA1⟩ : ∃ A1, A1 = a + 1 := ⟨_, rfl⟩;have hA1i : (a : Int) + 1 = (A1 : Int) := by omega
    rw [hA1i];generalize hW2 : (wr.drewN _).setCell _ _ = W2;have HR2 := Zh (show RdAt W2 R (some ⟨b, off, none⟩) c bs A1 from by rw [<- hW2]; exact (HR.o.later (by first | exact qad _ _ | exact Below.refl _ _ | (repeat (first | exact Below.refl _ _ | apply bdd)))).set rfl (by omega));have HO2 := Zh (show Only (· = R) W W2 from by rw [<- hW2]; exact (HO.o.trans (Only.of_below (by first | exact qad _ _ | exact Below.refl _ _ | (repeat (first | exact Below.refl _ _ | apply bdd))))).trans (qap _ _ _ _));have HT2 := Zh (show TokB W2 B from by rw [<- hW2]; exact (HT.o.later (by first | exact qad _ _ | exact Below.refl _ _ | (repeat (first | exact Below.refl _ _ | apply bdd)))).only (qap _ _ _ _) (fun e => HRB.o e.symm));have HA1 := Zh hA1;clear hW2 c0 c1 f1 ccl cb HR HO HT hA1 hA1i;have d0 := HR2.o.cb;have d1 := HR2.o.ca;obtain ⟨V, hsl, hcv0⟩ := qb2 W2 _ bs c P a HR2.o.bi h0 (by have := HL.o; omega) HR2.o.hk;have hcv := fun n => hcv0 (W2.drewN n) (qad _ _)
    have hcv1 := hcv0 W2.drew (qae _);have hcv2 := hcv0 W2 (Below.refl _ _);rw [<- HL.o] at d0 hsl;have hA2 : IntKind.i64.wrap ((A1 : Int) - 1) = (a : Int) := by rw [IntWalk.i64_in _ (by have := HA1.o; omega)]; have := HA1.o; omega
    obtain ⟨v0, t0⟩ := HT2.o.c0;obtain ⟨v1, t1⟩ := HT2.o.c1;obtain ⟨v2, t2⟩ := HT2.o.c2;have tf0 := HT2.o.fz 0;have tf1 := HT2.o.fz 1;have tf2 := HT2.o.fz 2;clear hcv0
    go_region
    all_goals go_wp2_with fail
    have hO3 := ((HO2.o.new (b := B) (o := 0) (v := .int .u8 3) (Nat.le_of_eq HBB.o)).new (b := B) (o := 1) (v := .string ⟨((bs.drop P).take (a - P)).toArray⟩) (Nat.le_of_eq HBB.o)).new (b := B) (o := 2) (v := .int .i64 0) (Nat.le_of_eq HBB.o);have hset : Only (· = B) W2 (((W2.setCell ⟨B, 0, none⟩ (.int .u8 3)).setCell ⟨B, 1, none⟩ (.string ⟨((bs.drop P).take (a - P)).toArray⟩)).setCell ⟨B, 2, none⟩ (.int .i64 0)) := ((qap _ B 0 _).trans (qap _ B 1 _)).trans (qap _ B 2 _);have hfin := (HR2.o.only hset HRB.o (fun hp b off e => by have := HPB.o b off e; show ¬ b = B; omega)).later (qae _);refine bodyPost_ret (v := .tuple #[tokV 3 ((bs.drop P).take (a - P)) 0, .int .i64 0]) (by simp [results, Tryz.results145, go_sem, t0, t1, t2, tokV]) rfl ⟨hO3.trans (Only.of_below (qae _)), ?_⟩;rw [HRES.o];refine ⟨rfl, ?_⟩;have e : a0 + (a - P + 2) = A1 := by have := HA1.o; have := HP.o; omega
    rw [e]; exact hfin
   | false =>
    rw [q1] at e124
    cases q2 : (x == 92) with
    | true =>
     rw [q2] at e92
     have HRES := Zh (show Q = .err 30 by
      have := HE.o; rw [HD.o] at this; simp only [quo, q1, q2] at this; simpa using this.symm)
     clear q1 q2 an;obtain ⟨v0, t0⟩ := HT.o.c0;obtain ⟨v1, t1⟩ := HT.o.c1;obtain ⟨v2, t2⟩ := HT.o.c2;have tf0 := HT.o.fz 0;have tf1 := HT.o.fz 1;have tf2 := HT.o.fz 2
     go_wp2_with fail
     go_quiet (fail)
     go_wp2_with fail
     go_quiet (fail)
     go_wp2_with fail
     refine bodyPost_ret (v := .tuple #[tokV 0 [] 0, .int .i64 30]) (by simp [results, Tryz.results145, go_sem, t0, t1, t2, tokV]) rfl ⟨?_, ?_⟩
     ·exact (((HO.o.trans (Only.of_below (by first | exact qad _ _ | exact Below.refl _ _ | (repeat (first | exact Below.refl _ _ | apply bdd))))).new (Nat.le_of_eq HBB.o)).new (Nat.le_of_eq HBB.o)).new (Nat.le_of_eq HBB.o)
     ·rw [HRES.o]; rfl
    | false =>
     rw [q2] at e92
     cases q3 : txB x with
     | false =>
      rw [q3] at an;have an2 : (bits BinOp.and IntKind.u8 (z : Int) 16 == 0) = true := an;clear an
      have HRES := Zh (show Q = .err 30 by
       have := HE.o; rw [HD.o] at this; simp only [quo, q1, q2, q3] at this; simpa using this.symm)
      clear q1 q2 q3;obtain ⟨v0, t0⟩ := HT.o.c0;obtain ⟨v1, t1⟩ := HT.o.c1;obtain ⟨v2, t2⟩ := HT.o.c2;have tf0 := HT.o.fz 0;have tf1 := HT.o.fz 1;have tf2 := HT.o.fz 2
      go_wp2_with fail
      go_quiet (fail)
      go_wp2_with fail
      go_quiet (fail)
      go_wp2_with fail
      refine bodyPost_ret (v := .tuple #[tokV 0 [] 0, .int .i64 30]) (by simp [results, Tryz.results145, go_sem, t0, t1, t2, tokV]) rfl ⟨?_, ?_⟩
      ·exact (((HO.o.trans (Only.of_below (by first | exact qad _ _ | exact Below.refl _ _ | (repeat (first | exact Below.refl _ _ | apply bdd))))).new (Nat.le_of_eq HBB.o)).new (Nat.le_of_eq HBB.o)).new (Nat.le_of_eq HBB.o)
      ·rw [HRES.o]; rfl
     | true =>
      rw [q3] at an;have an2 : (bits BinOp.and IntKind.u8 (z : Int) 16 == 0) = false := an;clear an
      have HRES := Zh (show quo ((bs.drop P).take (a + 1 - P)) (bs.drop (a + 1)) = Q by
       have := HE.o; rw [HD.o] at this; simp only [quo, q1, q2, q3] at this; rw [HTM.o]; simpa using this)
      clear q1 q2 q3
      go_wp2_with fail
      go_quiet (fail)
      go_wp2_with fail
      go_quiet (fail)
      go_wp2_with fail
      go_roundg G
      case measure => omega
      case rel =>
       have hl := HL.o;have hg := HG.o;obtain ⟨a', ha'⟩ : ∃ a', a' = a + 1 := ⟨_, rfl⟩;refine ⟨a', Zh ⟨by omega, by omega, by omega, by rw [ha']; exact HRES.o, ?_, ?_, ?_⟩⟩
       all_goals (try rw [ha'])
       ·exact (HR.o.later (by first | exact qad _ _ | exact Below.refl _ _ | (repeat (first | exact Below.refl _ _ | apply bdd)))).set (by omega) (by omega)
       ·exact (HO.o.trans (Only.of_below (by first | exact qad _ _ | exact Below.refl _ _ | (repeat (first | exact Below.refl _ _ | apply bdd))))).trans (qap _ _ _ _)
       ·exact (HT.o.later (by first | exact qad _ _ | exact Below.refl _ _ | (repeat (first | exact Below.refl _ _ | apply bdd)))).only (qap _ _ _ _) (fun e => HRB.o e.symm)
  ·have HRES := Zh (show Q = .err 31 by
    have hl := HL.o
    have := HE.o; rw [List.drop_of_length_le (show bs.length <= a by omega)] at this; simp only [quo] at this; exact this.symm)
   clear hr;obtain ⟨v0, t0⟩ := HT.o.c0;obtain ⟨v1, t1⟩ := HT.o.c1;obtain ⟨v2, t2⟩ := HT.o.c2;have tf0 := HT.o.fz 0;have tf1 := HT.o.fz 1;have tf2 := HT.o.fz 2
   go_wp2_with fail
   go_quiet (fail)
   go_wp2_with fail
   refine bodyPost_ret (v := .tuple #[tokV 0 [] 0, .int .i64 31]) (by simp [results, Tryz.results145, go_sem, t0, t1, t2, tokV]) rfl ⟨?_, ?_⟩
   ·exact (((HO.o.trans (Only.of_below (by first | exact qad _ _ | exact Below.refl _ _ | (repeat (first | exact Below.refl _ _ | apply bdd))))).new (Nat.le_of_eq HBB.o)).new (Nat.le_of_eq HBB.o)).new (Nat.le_of_eq HBB.o)
   ·rw [HRES.o]; rfl
theorem qkm {w : World} {base n c : Nat} {e : TypeId} {g : Nat} {xs : List Value} (h : w.ownsRow base e 1 (.slice (some ⟨g, 0, none⟩) n c) n xs) (i : Nat) (u : Value) (hu : xs[i]? = some u) : w.cell? ⟨g, i, none⟩ = some u /\ w.frozen? ⟨g, i, none⟩ = false := by
 obtain ⟨h0, ⟨h1, _⟩ | ⟨g', cap, cur, hv, hg, hh, hn, hm, hs, ht⟩⟩ := h
 ·cases h1
 ·cases hv
  have hlt := (List.getElem?_eq_some_iff.1 hu).1;rw [<- ht, List.getElem?_take_of_lt (by omega)] at hu;have e' : cur[i]? = some u := by simpa using hu
  exact ⟨by simp [World.cell?, hh, e'], by simp [World.frozen?, hh]⟩
theorem own_conv (W : World) {base : Nat} {v : Value} {acc : List UInt8} (h : W.ownsRow base 5 1 v acc.length (acc.map u8v)) : ∀ W', Below W.heap.size W W' -> (convert 57 9 v).run Tryz.prog W' = .ok (.string ⟨acc.toArray⟩) W' := by
 intro W' hb
 replace h := qal h hb
 have h' := h;rcases h.2 with ⟨rfl, hx⟩ | ⟨g, cap, cur, rfl, hg, _⟩
 ·have : acc = [] := by simpa using hx
  subst this;exact run_convert_bytes_nil W' 57 5 Tryz.underlying57 Tryz.underlying5 0 _ 9 Tryz.underlying9
 ·refine run_convert_bytes_back W' 57 9 5 ⟨g, 0, none⟩ cap acc Tryz.underlying57 Tryz.underlying5 Tryz.underlying9 fun j hj => ?_
  rw [Lib.add_plain, Nat.zero_add];exact (qkm h' j _ (by rw [List.getElem?_map, List.getElem?_eq_getElem hj]; rfl)).1
theorem qjo (R : Nat) (p : Option Addr) (c : Nat) (bs : List UInt8) (a0 : Nat) (W : World) (h : RdAt W R p c bs a0) (hlt0 : a0 < bs.length) :
  Calls Tryz.prog 146 #[.pointer (some ⟨R, 0, none⟩)] W (qgx R p c bs a0 W (lit false [] 1 (bs.drop (a0 + 1)))) := by
 obtain ⟨i5, hi5, hz0, hz1, hz2⟩ := qiv;have H := Zh h;have hn := h.hn;have hc1 := h.ca;have hf1 := h.fz;have hR := h.hl;generalize hQ : lit false [] 1 (bs.drop (a0 + 1)) = Q;have HQ := Zh hQ;clear h hQ;go_enter Tryz.func146, Tryz.ntmps146
 go_wp2_with fail
 generalize hW1 : (W.setCell _ _).alloc _ = W1;obtain ⟨P, hP⟩ : ∃ P, P = a0 + 1 := ⟨_, rfl⟩;have hPi : (a0 : Int) + 1 = (P : Int) := by omega
 rw [hPi] at hW1 ⊢;have h1 := H.o.set (v := (P : Int)) (a' := P) rfl (by omega);have hOW := qap W R 1 (.int .i64 (P : Int));have hB1 := qab (W.setCell ⟨R, 1, none⟩ (.int .i64 (P : Int))) (.cells #[.int .u8 0, .string ByteArray.empty, .int .i64 0] 32);have hTB := qd4 (W.setCell ⟨R, 1, none⟩ (.int .i64 (P : Int)));rw [World.size_setCell] at hTB
 have HI0 := Zh (show RdAt W1 R p c bs P /\ Only (· = R) W W1 /\ TokB W1 W.heap.size /\ W.heap.size < W1.heap.size by
  rw [<- hW1]
  exact ⟨h1.later hB1, hOW.trans (Only.of_below hB1), hTB, by simp⟩)
 have HQ2 := Zh (show lit false [] (P - a0) (bs.drop P) = Q by rw [hP, Nat.add_sub_cancel_left]; exact HQ.o);have HRB := Zh (show R < W.heap.size by omega);have HP := Zh hP;have HPB := Zh (H.o.bi.lt (by omega));clear hP hPi hW1 h1 hOW hB1 hTB hc1 hf1 HQ H hR;generalize hB : W.heap.size = B at *;have HBB := Zh hB;clear hB
 go_loopg [4, 5] (bs.length + 1) (fun gk s4 s5 wx => ∃ (a : Nat) (acc : List UInt8), Hid (P <= a /\ a <= bs.length /\ bs.length + 1 <= a + gk /\ acc.length <= a /\ lit false acc (a - a0) (bs.drop a) = Q /\ RdAt wx R p c bs a /\ Only (· = R) W wx /\ TokB wx B /\ wx.ownsRow (B + 1) 5 1 s4 acc.length (acc.map u8v) /\ B < wx.heap.size))
 case atStart => exact ⟨P, [], Zh ⟨Nat.le_refl _, HI0.o.1.ha, by omega, Nat.zero_le _, HQ2.o, HI0.o.1, HI0.o.2.1, HI0.o.2.2.1, World.ownsRow_nil _ _ _ _, HI0.o.2.2.2⟩⟩
 case round =>
  obtain ⟨a, acc, HI⟩ := hrel;clear HI0 HQ2;obtain ⟨h0, h1, h2, hac, h3, hr, ho, ht, hw, hsz⟩ := HI.o;obtain ⟨pr, cr, rfl, hB_⟩ := qaq hw;clear hB_;have c0 := hr.cb;have c1 := hr.ca;have f1 := hr.fz;have HG := Zh h2;have HE := Zh h3;have HO := Zh ho;have HR := Zh hr;have HT := Zh ht;have HW := Zh hw;have HSZ := Zh hsz;clear h2 h3 ho HI ht hw hsz;obtain ⟨n, hnl⟩ : ∃ n, n = bs.length := ⟨_, rfl⟩;have HL := Zh hnl;rw [<- hnl] at c0 hn h1 hlt0;clear hnl
  by_cases hlt : a < n
  ·obtain ⟨G, rfl⟩ : ∃ G, gk = G + 1 := ⟨gk - 1, by have := HG.o; have := HL.o; omega⟩
   have i1 : (a : Int) < (n : Int) := by omega
   have i0 : (0 : Int) <= (a : Int) := by omega
   have hab : a < bs.length := by have := HL.o; omega
   have hd := qbf hab;obtain ⟨b, off, rfl, cb⟩ := hr.bi a hab;have ccl := hr.cl bs[a];obtain ⟨hz, hz0'⟩ := qbe (x := bs[a]);have an := qb4 (qtu bs[a]);have e34 : ((bs[a].toNat : Int) == 34) = (bs[a] == 34) := qbz 34 (by decide +kernel) _;generalize hx : bs[a] = x at *;have HD := Zh hd;have HX := Zh hx;clear hr hd hx
   cases q1 : txB x with
   | false =>
    rw [q1] at an;obtain ⟨y, hy⟩ : ∃ y, y = x.toNat := ⟨_, rfl⟩;rw [<- hy] at *;clear hy;generalize clB x = z at *;have an2 : (bits BinOp.and IntKind.u8 (z : Int) 16 == 0) = true := an;clear an e34
    have HRES := Zh (show Q = .err 30 by
     have := HE.o; rw [HD.o] at this; simp only [lit, q1] at this; simpa using this.symm)
    clear q1;obtain ⟨v0, t0⟩ := HT.o.c0;obtain ⟨v1, t1⟩ := HT.o.c1;obtain ⟨v2, t2⟩ := HT.o.c2;have tf0 := HT.o.fz 0;have tf1 := HT.o.fz 1;have tf2 := HT.o.fz 2
    go_wp2_with fail
    go_quiet (fail)
    go_wp2_with fail
    go_quiet (fail)
    go_wp2_with fail
    refine bodyPost_ret (v := .tuple #[tokV 0 [] 0, .int .i64 30]) (by simp [results, Tryz.results146, go_sem, t0, t1, t2, tokV]) rfl ⟨?_, ?_⟩
    ·exact (((HO.o.trans (Only.of_below (by first | exact qad _ _ | exact Below.refl _ _ | (repeat (first | exact Below.refl _ _ | apply bdd))))).new (Nat.le_of_eq HBB.o)).new (Nat.le_of_eq HBB.o)).new (Nat.le_of_eq HBB.o)
    ·rw [HRES.o]; rfl
   | true =>
    rw [q1] at an;have an2 : (bits BinOp.and IntKind.u8 (clB x : Int) 16 == 0) = false := an;clear an
    cases q2 : (x == 34) with
    | false =>
     rw [q2] at e34
     have HRES := Zh (show lit false (acc ++ [x]) (a + 1 - a0) (bs.drop (a + 1)) = Q by
      have := HE.o; rw [HD.o] at this; simp only [lit, q1, q2] at this
      rw [show a + 1 - a0 = a - a0 + 1 by have := HP.o; omega]; simpa using this)
     clear q1 q2;generalize hy : x.toNat = y at *
     go_wp2_with fail
     go_quiet (fail)
     go_wp2_with fail
     go_quiet (fail)
     generalize hWq : (wr.drewN _).drewN _ = Wq;have hBq : Below wr.heap.size wr Wq := by rw [<- hWq]; exact (by first | exact qad _ _ | exact Below.refl _ _ | (repeat (first | exact Below.refl _ _ | apply bdd)))
     have hB3 := hBq.trans ((qab Wq (.cells #[.int .u8 (y : Int)] 5)).mono hBq.size);have hnew : (Wq.alloc (.cells #[.int .u8 (y : Int)] 5)).cell? ⟨Wq.heap.size, 0, none⟩ = some (.int .u8 (y : Int)) := by simp [go_sem]
     have HR3 := Zh (HR.o.later hB3);have HO3 := Zh (HO.o.trans (Only.of_below hB3));have HT3 := Zh (HT.o.later hB3);have HW3 := Zh (qal HW.o hB3);have hs3 : B + 1 <= (Wq.alloc (.cells #[.int .u8 (y : Int)] 5)).heap.size := by have := hB3.size; have := HSZ.o; omega
     have HS3 := Zh hs3;have ccl := (HR.o.later hBq).cl x;rw [hy] at ccl;clear hWq c0 c1 f1 cb hs3
     go_wp2_with (at_builtin; refine wpList_append_own_at _ rfl _ _ 57 rfl (B + 1) 5 i5 (.int .u8 0) 1 1 Tryz.underlying57 hi5 hz0 hz1 hz2 rfl (by omega) _ acc.length (acc.map u8v) rfl HW3.o ⟨Wq.heap.size, 0, none⟩ 1 1 [.int .u8 (y : Int)] rfl rfl ?qc2 ?qc3 ?qc4 ?qc5 ?qc6 ?_)
     case qc2 =>
      intro jj u hjj;rw [Lib.add_plain]
      match jj, hjj with
      | 0, hjj => cases hjj; exact hnew
     case qc3 => intro u hu; simp at hu; rcases hu with rfl; rfl
     case qc4 => have hml : maxLen = 9223372036854775807 := rfl; omega
     case qc5 => omega
     case qc6 => exact HS3.o
     intro v' w4 hown hgrow hnil hloc;obtain ⟨pn, cn, hv, hB_⟩ := qaq hown;subst hv;have ho4 := Only.of_grown hgrow;have hge : ∀ k, (Value.slice pr acc.length cr).ownBlock = some k -> B + 1 <= k := fun k hk => (qaw HW3.o hk).1
     have hlen : acc.length + 1 = (acc ++ [x]).length := by simp
     have hown2 : w4.ownsRow (B + 1) 5 1 (.slice pn (acc ++ [x]).length cn) (acc ++ [x]).length ((acc ++ [x]).map u8v) := by
      rw [<- hlen, List.map_append];have : [u8v x] = [.int .u8 (y : Int)] := by rw [<- hy]; rfl
      show w4.ownsRow (B + 1) 5 1 (.slice pn (acc.length + 1) cn) (acc.length + 1) (acc.map u8v ++ [u8v x])
      rw [this]; exact hown
     have HR4 := Zh (HR3.o.only ho4 (fun e => by have := hge _ e; have := HRB.o; omega) (fun hp b off e ek => by have := hge _ ek; have := HPB.o b off e; omega));have HO4 := Zh (HO3.o.transNew ho4 (fun k hk => by have := hge k hk; have := HBB.o; omega));have HT4 := Zh (HT3.o.only ho4 (fun e => by have := hge _ e; omega));have HW4 := Zh hown2;have hs4 : B < w4.heap.size := by have := ho4.size; have := HS3.o; omega
     rw [hlen];clear hown hown2 hgrow hnil hloc hB_ ho4 hge hnew hlen;have c1 := HR4.o.ca;have f1 := HR4.o.fz
     go_wp2_with fail
     go_roundg G
     case measure => omega
     case rel =>
      have hl := HL.o;have hg := HG.o;obtain ⟨a', ha'⟩ : ∃ a', a' = a + 1 := ⟨_, rfl⟩;refine ⟨a', acc ++ [x], Zh ⟨by omega, by omega, by omega, by simp; omega, by rw [ha']; exact HRES.o, ?_, ?_, ?_, ?_, ?_⟩⟩
      all_goals (try rw [ha'])
      ·exact HR4.o.set (by omega) (by omega)
      ·exact HO4.o.trans (qap _ _ _ _)
      ·exact HT4.o.only (qap _ _ _ _) (fun e => by have := HRB.o; omega)
      ·exact qb3 HW4.o (qap _ _ _ _) (fun k hk e => by have := (qaw HW4.o hk).1; have := HRB.o; have e : k = R := e; omega)
      ·rw [World.size_setCell]; exact hs4
    | true =>
     rw [q2] at e34;have hx34 : x = 34 := by simpa using q2
     have HE2 := Zh (show lit true acc (a + 1 - a0) (bs.drop (a + 1)) = Q by
      have := HE.o; rw [HD.o] at this; simp only [lit, q1, q2] at this
      rw [show a + 1 - a0 = a - a0 + 1 by have := HP.o; omega]; simpa using this)
     clear q1 q2 HE;generalize hy : x.toNat = y at *;have HX34 := Zh hx34;have HY := Zh hy;clear hx34 hy
     go_wp2_with fail
     go_quiet (fail)
     go_wp2_with fail
     go_quiet (fail)
     go_wp2_with fail
     obtain ⟨A1, hA1⟩ : ∃ A1, A1 = a + 1 := ⟨_, rfl⟩;have hA1i : (a : Int) + 1 = (A1 : Int) := by omega
     rw [hA1i];generalize hW2 : (wr.drewN _).setCell _ _ = W2;have HR2 := Zh (show RdAt W2 R (some ⟨b, off, none⟩) c bs A1 from by rw [<- hW2]; exact (HR.o.later (by first | exact qad _ _ | exact Below.refl _ _ | (repeat (first | exact Below.refl _ _ | apply bdd)))).set rfl (by omega));have HO2 := Zh (show Only (· = R) W W2 from by rw [<- hW2]; exact (HO.o.trans (Only.of_below (by first | exact qad _ _ | exact Below.refl _ _ | (repeat (first | exact Below.refl _ _ | apply bdd))))).trans (qap _ _ _ _));have HT2 := Zh (show TokB W2 B from by rw [<- hW2]; exact (HT.o.later (by first | exact qad _ _ | exact Below.refl _ _ | (repeat (first | exact Below.refl _ _ | apply bdd)))).only (qap _ _ _ _) (fun e => by have := HRB.o; have e : B = R := e; omega))
     have HW2 := Zh (show W2.ownsRow (B + 1) 5 1 (.slice pr acc.length cr) acc.length (acc.map u8v) by
      rw [<- hW2]
      exact qb3 (qal HW.o (by first | exact qad _ _ | exact Below.refl _ _ | (repeat (first | exact Below.refl _ _ | apply bdd)))) (qap _ _ _ _) (fun k hk e => by have := (qaw HW.o hk).1; have := HRB.o; have e : k = R := e; omega))
     have HS2 := Zh (show B < W2.heap.size by rw [<- hW2, World.size_setCell]; exact HSZ.o);have HA1 := Zh hA1;clear hW2 c0 c1 f1 ccl cb HR HO HT HW HSZ hA1i;have d0 := HR2.o.cb;have d1 := HR2.o.ca;have df := HR2.o.fz;rw [<- HL.o] at d0;clear hA1
     by_cases hlt2 : A1 < n
     ·have hab2 : A1 < bs.length := by have := HL.o; omega
      have hd2 := qbf hab2;have n1 : ((A1 : Int) == (n : Int)) = false := by simp; omega
      have n2 : (A1 : Int) < (n : Int) := by omega
      have n3 : (0 : Int) <= (A1 : Int) := by omega
      obtain ⟨b2, off2, e2, cb2⟩ := HR2.o.bi A1 hab2;cases e2;obtain ⟨hz2', hz3'⟩ := qbe (x := bs[A1]);have e342 : ((bs[A1].toNat : Int) == 34) = (bs[A1] == 34) := qbz 34 (by decide +kernel) _;generalize bs[A1] = x2 at *;generalize x2.toNat = y2 at *
      cases q3 : (x2 == 34) with
      | true =>
       rw [q3] at e342;have e343 : ((y2 : Int) != 34) = false := by rw [bne, e342]; rfl
       have HRES := Zh (show lit false (acc ++ [x]) (A1 + 1 - a0) (bs.drop (A1 + 1)) = Q by
        have := HE2.o; rw [<- HA1.o, hd2] at this; simp only [lit, q3] at this
        rw [HX34.o, show A1 + 1 - a0 = A1 - a0 + 1 by have := HP.o; have := HA1.o; omega]; simpa using this)
       clear q3 hd2
       go_quiet (fail)
       generalize hWq : W2.drewN _ = Wq;have hBq : Below W2.heap.size W2 Wq := by rw [<- hWq]; exact (by first | exact qad _ _ | exact Below.refl _ _ | (repeat (first | exact Below.refl _ _ | apply bdd)))
       have hB3 := hBq.trans ((qab Wq (.cells #[.int .u8 (y : Int)] 5)).mono hBq.size);have hnew : (Wq.alloc (.cells #[.int .u8 (y : Int)] 5)).cell? ⟨Wq.heap.size, 0, none⟩ = some (.int .u8 (y : Int)) := by simp [go_sem]
       have HR3 := Zh (HR2.o.later hB3);have HO3 := Zh (HO2.o.trans (Only.of_below hB3));have HT3 := Zh (HT2.o.later hB3);have HW3 := Zh (qal HW2.o hB3);have hs3 : B + 1 <= (Wq.alloc (.cells #[.int .u8 (y : Int)] 5)).heap.size := by have := hB3.size; have := HS2.o; omega
       have HS3 := Zh hs3;clear hWq d0 d1 df cb2 hs3
       go_wp2_with (at_builtin; refine wpList_append_own_at _ rfl _ _ 57 rfl (B + 1) 5 i5 (.int .u8 0) 1 1 Tryz.underlying57 hi5 hz0 hz1 hz2 rfl (by omega) _ acc.length (acc.map u8v) rfl HW3.o ⟨Wq.heap.size, 0, none⟩ 1 1 [.int .u8 (y : Int)] rfl rfl ?qc2 ?qc3 ?qc4 ?qc5 ?qc6 ?_)
       case qc2 =>
        intro jj u hjj;rw [Lib.add_plain]
        match jj, hjj with
        | 0, hjj => cases hjj; exact hnew
       case qc3 => intro u hu; simp at hu; rcases hu with rfl; rfl
       case qc4 => have hml : maxLen = 9223372036854775807 := rfl; omega
       case qc5 => omega
       case qc6 => exact HS3.o
       intro v' w4 hown hgrow hnil hloc;obtain ⟨pn, cn, hv, hB_⟩ := qaq hown;subst hv;have ho4 := Only.of_grown hgrow;have hge : ∀ k, (Value.slice pr acc.length cr).ownBlock = some k -> B + 1 <= k := fun k hk => (qaw HW3.o hk).1
       have hlen : acc.length + 1 = (acc ++ [x]).length := by simp
       have hown2 : w4.ownsRow (B + 1) 5 1 (.slice pn (acc ++ [x]).length cn) (acc ++ [x]).length ((acc ++ [x]).map u8v) := by
        rw [<- hlen, List.map_append];have : [u8v x] = [.int .u8 (y : Int)] := by rw [<- HY.o]; rfl
        show w4.ownsRow (B + 1) 5 1 (.slice pn (acc.length + 1) cn) (acc.length + 1) (acc.map u8v ++ [u8v x])
        rw [this]; exact hown
       have HR4 := Zh (HR3.o.only ho4 (fun e => by have := hge _ e; have := HRB.o; omega) (fun hp b off e ek => by have := hge _ ek; have := HPB.o b off e; omega));have HO4 := Zh (HO3.o.transNew ho4 (fun k hk => by have := hge k hk; have := HBB.o; omega));have HT4 := Zh (HT3.o.only ho4 (fun e => by have := hge _ e; omega));have HW4 := Zh hown2;have hs4 : B < w4.heap.size := by have := ho4.size; have := HS3.o; omega
       rw [hlen];clear hown hown2 hgrow hnil hloc hB_ ho4 hge hnew hlen;clear n1 n2 n3;have c1 := HR4.o.ca;have f1 := HR4.o.fz
       go_wp2_with fail
       go_roundg G
       case measure => omega
       case rel =>
        have hl := HL.o;have ha1 := HA1.o;have hg := HG.o;obtain ⟨a', ha'⟩ : ∃ a', a' = A1 + 1 := ⟨_, rfl⟩;refine ⟨a', acc ++ [x], Zh ⟨by omega, by omega, by omega, by simp; omega, by rw [ha']; exact HRES.o, ?_, ?_, ?_, ?_, ?_⟩⟩
        all_goals (try rw [ha'])
        ·exact HR4.o.set (by omega) (by omega)
        ·exact HO4.o.trans (qap _ _ _ _)
        ·exact HT4.o.only (qap _ _ _ _) (fun e => by have := HRB.o; omega)
        ·exact qb3 HW4.o (qap _ _ _ _) (fun k hk e => by have := (qaw HW4.o hk).1; have := HRB.o; have e : k = R := e; omega)
        ·rw [World.size_setCell]; exact hs4
      | false =>
       rw [q3] at e342;have e343 : ((y2 : Int) != 34) = true := by rw [bne, e342]; rfl
       have hres : Q = .tok 5 acc (a + 1 - a0) := by
        have := HE2.o; rw [<- HA1.o, hd2] at this; simp only [lit, q3] at this;rw [<- HA1.o]; simpa using this.symm
       clear q3 hd2;have hcv0 := own_conv W2 HW2.o;have hcv := fun n => hcv0 (W2.drewN n) (qad _ _)
       clear hcv0;have HRES := Zh hres;obtain ⟨v0, t0⟩ := HT2.o.c0;obtain ⟨v1, t1⟩ := HT2.o.c1;obtain ⟨v2, t2⟩ := HT2.o.c2;have tf0 := HT2.o.fz 0;have tf1 := HT2.o.fz 1;have tf2 := HT2.o.fz 2;clear hres
       go_quiet (fail)
       go_wp2_with fail
       generalize hW5 : W2.drewN _ = W5;have hb5 : Below W2.heap.size W2 W5 := by rw [<- hW5]; exact qad _ _
       have hO5 := (((HO2.o.trans (Only.of_below hb5)).new (b := B) (o := 0) (v := .int .u8 5) (Nat.le_of_eq HBB.o)).new (b := B) (o := 1) (v := .string ⟨acc.toArray⟩) (Nat.le_of_eq HBB.o)).new (b := B) (o := 2) (v := .int .i64 0) (Nat.le_of_eq HBB.o);have hset : Only (· = B) W5 (((W5.setCell ⟨B, 0, none⟩ (.int .u8 5)).setCell ⟨B, 1, none⟩ (.string ⟨acc.toArray⟩)).setCell ⟨B, 2, none⟩ (.int .i64 0)) := ((qap _ B 0 _).trans (qap _ B 1 _)).trans (qap _ B 2 _);have hfin := (HR2.o.later hb5).only hset (fun e => by have := HRB.o; have e : R = B := e; omega) (fun hp b off e => by have := HPB.o b off e; show ¬ b = B; omega);have hT5 := HT2.o.later hb5;clear t0 t1 t2;obtain ⟨v0, t0⟩ := hT5.c0;obtain ⟨v1, t1⟩ := hT5.c1;obtain ⟨v2, t2⟩ := hT5.c2;refine bodyPost_ret (v := .tuple #[tokV 5 acc 0, .int .i64 0]) (by simp [results, Tryz.results146, go_sem, t0, t1, t2, tokV]) rfl ⟨hO5, ?_⟩;rw [HRES.o];refine ⟨rfl, ?_⟩;have e : a0 + (a + 1 - a0) = A1 := by have := HA1.o; have := HP.o; omega
       rw [e]; exact hfin
     ·have hres : Q = .tok 5 acc (a + 1 - a0) := by
       have := HE2.o; rw [List.drop_of_length_le (show bs.length <= a + 1 by have := HL.o; have := HA1.o; omega)] at this; simp only [lit] at this; exact this.symm
      have n1 : ((A1 : Int) == (n : Int)) = true := by have := HR2.o.ha; have := HL.o; simp; omega
      have hcv0 := own_conv W2 HW2.o;have hcv := fun n => hcv0 (W2.drewN n) (qad _ _)
      clear hcv0;have HRES := Zh hres;obtain ⟨v0, t0⟩ := HT2.o.c0;obtain ⟨v1, t1⟩ := HT2.o.c1;obtain ⟨v2, t2⟩ := HT2.o.c2;have tf0 := HT2.o.fz 0;have tf1 := HT2.o.fz 1;have tf2 := HT2.o.fz 2;clear hres
      go_quiet (fail)
      go_wp2_with fail
      generalize hW5 : W2.drewN _ = W5;have hb5 : Below W2.heap.size W2 W5 := by rw [<- hW5]; exact qad _ _
      have hO5 := (((HO2.o.trans (Only.of_below hb5)).new (b := B) (o := 0) (v := .int .u8 5) (Nat.le_of_eq HBB.o)).new (b := B) (o := 1) (v := .string ⟨acc.toArray⟩) (Nat.le_of_eq HBB.o)).new (b := B) (o := 2) (v := .int .i64 0) (Nat.le_of_eq HBB.o);have hset : Only (· = B) W5 (((W5.setCell ⟨B, 0, none⟩ (.int .u8 5)).setCell ⟨B, 1, none⟩ (.string ⟨acc.toArray⟩)).setCell ⟨B, 2, none⟩ (.int .i64 0)) := ((qap _ B 0 _).trans (qap _ B 1 _)).trans (qap _ B 2 _);have hfin := (HR2.o.later hb5).only hset (fun e => by have := HRB.o; have e : R = B := e; omega) (fun hp b off e => by have := HPB.o b off e; show ¬ b = B; omega);have hT5 := HT2.o.later hb5;clear t0 t1 t2;obtain ⟨v0, t0⟩ := hT5.c0;obtain ⟨v1, t1⟩ := hT5.c1;obtain ⟨v2, t2⟩ := hT5.c2;refine bodyPost_ret (v := .tuple #[tokV 5 acc 0, .int .i64 0]) (by simp [results, Tryz.results146, go_sem, t0, t1, t2, tokV]) rfl ⟨hO5, ?_⟩;rw [HRES.o];refine ⟨rfl, ?_⟩;have e : a0 + (a + 1 - a0) = A1 := by have := HA1.o; have := HP.o; omega
      rw [e]; exact hfin
  ·have HRES := Zh (show Q = .err 31 by
    have hl := HL.o
    have := HE.o; rw [List.drop_of_length_le (show bs.length <= a by omega)] at this; simp only [lit] at this; exact this.symm)
   clear hr;obtain ⟨v0, t0⟩ := HT.o.c0;obtain ⟨v1, t1⟩ := HT.o.c1;obtain ⟨v2, t2⟩ := HT.o.c2;have tf0 := HT.o.fz 0;have tf1 := HT.o.fz 1;have tf2 := HT.o.fz 2
   go_wp2_with fail
   go_quiet (fail)
   go_wp2_with fail
   refine bodyPost_ret (v := .tuple #[tokV 0 [] 0, .int .i64 31]) (by simp [results, Tryz.results146, go_sem, t0, t1, t2, tokV]) rfl ⟨?_, ?_⟩
   ·exact (((HO.o.trans (Only.of_below (by first | exact qad _ _ | exact Below.refl _ _ | (repeat (first | exact Below.refl _ _ | apply bdd))))).new (Nat.le_of_eq HBB.o)).new (Nat.le_of_eq HBB.o)).new (Nat.le_of_eq HBB.o)
   ·rw [HRES.o]; rfl
theorem qhm (c : UInt8) : ∀ l : List UInt8, (l.contains c = false /\ Lib.indexByte l c = -1 /\ l.takeWhile (· != c) = l) \/ (l.contains c = true /\ Lib.indexByte l c = ((l.takeWhile (· != c)).length : Int) /\ (l.takeWhile (· != c)).length + 1 <= l.length /\ l.dropWhile (· != c) = l.drop (l.takeWhile (· != c)).length)
 | [] => .inl ⟨rfl, rfl, rfl⟩
 | b :: l => by
  by_cases h : b = c
  ·subst h
   right
   simp [Lib.indexByte]
  ·have hb : (b == c) = false := by simpa using h
   have hn : (b != c) = true := by simpa using h
   have hc : (c == b) = false := by simp; exact fun e => h e.symm
   rcases qhm c l with ⟨h1, h2, h3⟩ | ⟨h1, h2, h3, h4⟩
   ·left
    refine ⟨by rw [List.contains_cons, hc, h1]; rfl, ?_, ?_⟩
    ·rw [Lib.indexByte, hb, h2]; rfl
    ·rw [List.takeWhile_cons, if_pos hn, h3]
   ·right
    refine ⟨by rw [List.contains_cons, h1]; simp, ?_, ?_, ?_⟩
    ·rw [Lib.indexByte, hb, h2, List.takeWhile_cons, if_pos hn]
     have : (((l.takeWhile (· != c)).length : Int) == -1) = false := by first | (simp; done) | (simp; omega)
     simp only [this];simp
    ·rw [List.takeWhile_cons, if_pos hn]; simp; exact h3
    ·rw [List.takeWhile_cons, if_pos hn, List.dropWhile_cons, if_pos hn, h4]; rfl
theorem qk0 (s : ByteArray) (k : Nat) : s.extract 0 k = ⟨(s.data.toList.take k).toArray⟩ := by
 apply ByteArray.ext
 apply Array.toList_inj.1
 simp
theorem qk1 (s : ByteArray) (k : Nat) : s.extract k s.size = ⟨(s.data.toList.drop k).toArray⟩ := by
 apply ByteArray.ext
 apply Array.toList_inj.1
 rw [Lib.extract_data];simp;rw [List.take_of_length_le (by simp)]
def cutP (s : ByteArray) (W : World) (e : Ending) (w' : World) : Prop := ∃ (A B : ByteArray) (x : Bool), e = .returned (.tuple #[.string A, .string B, .bool x]) /\ A.data.toList = s.data.toList.takeWhile (· != 46) /\ B.data.toList = (s.data.toList.dropWhile (· != 46)).drop 1 /\ x = s.data.toList.contains 46 /\ ∃ n, w' = W.drewN n
theorem qom (s : ByteArray) (W : World) (hs : s.size <= 1048576) : Calls Tryz.prog 169 #[.string s, .string ⟨#[46]⟩] W (cutP s W) := by
 have hl : s.data.toList.length = s.size := by simp
 rcases qhm 46 s.data.toList with ⟨h1, h2, h3⟩ | ⟨h1, h2, h3, h4⟩
 ·have H1 := Zh h1
  have H2 := Zh h2;have H3 := Zh h3;clear h1 h2 h3 hl;go_enter Tryz.func169, Tryz.ntmps169
  go_wp2_with fail
  go_at_call 143;refine (Tryz.stringslite_Index_one _ _ _).mono ?_;rintro e w1 ⟨rfl, rfl⟩;rw [H2.o]
  go_wp2_with fail
  go_ret3
  refine ⟨s, ByteArray.empty, false, rfl, H3.o.symm, ?_, H1.o.symm, 0, rfl⟩
  have : s.data.toList.dropWhile (· != 46) = [] := by
   have := List.takeWhile_append_dropWhile (p := (· != (46 : UInt8))) (l := s.data.toList);rw [H3.o] at this
   simpa using this
  rw [this]; rfl
 ·rw [hl] at h3
  generalize hk : (s.data.toList.takeWhile (· != 46)).length = k at *;have e1 : s.extract 0 k = ⟨(s.data.toList.takeWhile (· != 46)).toArray⟩ := by rw [qk0, <- hk, <- List.prefix_iff_eq_take.1 (List.takeWhile_prefix _)]
  have e2 : s.extract (k + 1) s.size = ⟨((s.data.toList.dropWhile (· != 46)).drop 1).toArray⟩ := by rw [qk1, h4, List.drop_drop]
  have H1 := Zh h1;have H2 := Zh h2;have E1 := Zh e1;have E2 := Zh e2;clear h1 h2 h4 hl hk e1 e2;have i0 : (0 : Int) <= (k : Int) := by omega
  have i1 : (k : Int) <= (s.size : Int) := by omega
  have i2 : (k : Int) + 1 <= (s.size : Int) := by omega
  have i3 : (0 : Int) <= (k : Int) + 1 := by omega
  have i4 : IntKind.i64.wrap ((k : Int) + 1) = (k : Int) + 1 := IntWalk.i64_in _ (by omega);have i5 : ((k : Int) + 1).toNat = k + 1 := by omega
  go_enter Tryz.func169, Tryz.ntmps169
  go_wp2_with fail
  go_at_call 143;refine (Tryz.stringslite_Index_one _ _ _).mono ?_;rintro e w1 ⟨rfl, rfl⟩;rw [H2.o]
  go_wp2_with fail
  go_quiet (fail)
  go_wp2_with fail
  go_ret3
  exact ⟨s.extract 0 k, s.extract (k + 1) s.size, true, rfl, by rw [E1.o], by rw [E2.o], H1.o.symm, nq, rfl⟩
theorem qr3 (s : ByteArray) (W : World) (hs : s.size <= 1048576) : Calls Tryz.prog 159 #[.string s, .string ⟨#[46]⟩] W (cutP s W) := by
 go_enter Tryz.func159, Tryz.ntmps159
 go_wp2_with fail
 refine (qom s _ hs).mono ?_;rintro e w1 ⟨A, B, x, rfl, h1, h2, h3, n, rfl⟩;have H := Zh (aI h1 (aI h2 h3));clear h1 h2 h3
 go_wp2_with fail
 go_ret3
 exact ⟨A, B, x, rfl, H.o.1, H.o.2.1, H.o.2.2, n, rfl⟩
theorem qgm (l : List UInt8) : ∃ S : ByteArray, (⟨l.toArray⟩ : ByteArray) = S /\ S.data.toList = l /\ S.size = l.length := ⟨_, rfl, by simp, by simp [ByteArray.size]⟩
theorem qcr {S : ByteArray} {i : Nat} (h : i < S.size) : S.data.toList.getD i 0 = S[i] := by
 have : i < S.data.toList.length := by simpa using h
 rw [List.getD_eq_getElem?_getD, List.getElem?_eq_getElem this]
 rfl
theorem qbc {R : Nat} {p : Option Addr} {c : Nat} {bs : List UInt8} {a B : Nat} {W W5 : World} {v0 v1 v2 : Value} (hB : W.heap.size <= B) (hR : RdAt W5 R p c bs a) (hO : Only (· = R) W W5) (hRB : R ≠ B) (hp : 0 < bs.length -> ∀ b off, p = some ⟨b, off, none⟩ -> b < B) :
  Only (· = R) W (((W5.setCell ⟨B, 0, none⟩ v0).setCell ⟨B, 1, none⟩ v1).setCell ⟨B, 2, none⟩ v2) /\ RdAt (((W5.setCell ⟨B, 0, none⟩ v0).setCell ⟨B, 1, none⟩ v1).setCell ⟨B, 2, none⟩ v2) R p c bs a := by
 have hset : Only (· = B) W5 (((W5.setCell ⟨B, 0, none⟩ v0).setCell ⟨B, 1, none⟩ v1).setCell ⟨B, 2, none⟩ v2) := ((qap _ B 0 _).trans (qap _ B 1 _)).trans (qap _ B 2 _);exact ⟨((hO.new hB).new hB).new hB, hR.only hset hRB (fun h0 b off e => by have := hp h0 b off e; show ¬ b = B; omega)⟩
theorem qid (R : Nat) (p : Option Addr) (c : Nat) (bs : List UInt8) (a0 : Nat) (W : World) (h : RdAt W R p c bs a0) (hlt0 : a0 < bs.length) (hsy : syB bs[a0] = true) :
  Calls Tryz.prog 149 #[.pointer (some ⟨R, 0, none⟩)] W (qgx R p c bs a0 W (qba (qas (bs.drop a0)))) := by
 have hpos : 0 < (qas (bs.drop a0)).length := by rw [qg1 bs a0 hlt0 hsy]; omega
 have hle := qc9 (bs.drop a0);rw [List.length_drop] at hle;have H := Zh h;have hn := h.hn;have HPB := Zh (h.bi.lt (by omega));have HRB := Zh (show R ≠ W.heap.size by have := h.hl; omega);have hB1 := qab W (.cells #[.int .u8 0, .string ByteArray.empty, .int .i64 0] 32);have HR1 := Zh (h.later hB1);have HT1 := Zh (qd4 W);have HB1 := Zh hB1;have hw := qg0 R p c bs a0 _ HR1.o;have hBB : W.heap.size <= W.heap.size := Nat.le_refl _;generalize qas (bs.drop a0) = w at *;have HW := Zh hw;clear h hsy hB1 hw;go_enter Tryz.func149, Tryz.ntmps149
 go_wp2_with fail
 generalize hW1 : W.alloc _ = W1;rw [show (W.alloc (.cells #[.int .u8 0, .string ByteArray.empty, .int .i64 0] 32)) = W1 from hW1] at HW HR1 HT1 HB1;generalize hB : W.heap.size = B at *;have HBB := Zh hB;clear hW1 hB H;refine HW.o.mono ?_;rintro e w2 ⟨rfl, hr2, ho2⟩;have HR2 := Zh hr2;have HO2 := Zh ((Only.of_below (T := (· = R)) (by rw [HBB.o]; exact HB1.o)).trans ho2);have HT2 := Zh (HT1.o.only ho2 (fun e => HRB.o e.symm));obtain ⟨S, hS, hS1, hS2⟩ := qgm w;rw [hS];rw [<- hS2] at hpos hle;have h0 : S[0] = w.getD 0 0 := by rw [<- hS1]; exact (qcr hpos).symm
 have ccl := hr2.cl S[0];obtain ⟨hz, hz0⟩ := qbe (x := S[0]);have an := qb4 (and4 S[0]);have HS := Zh (aI hS (aI hS1 hS2));have H0 := Zh h0;clear hr2 ho2 HW HR1 HT1 HB1 hS hS1 hS2 h0
 go_wp2_with fail
 go_quiet (fail)
 generalize hW3 : w2.drewN _ = w3;have HR3 := Zh (show RdAt w3 R p c bs (a0 + w.length) by rw [<- hW3]; exact HR2.o.later (by first | exact qad _ _ | exact Below.refl _ _ | (repeat (first | exact Below.refl _ _ | apply bdd))));have HO3 := Zh (show Only (· = R) W w3 by rw [<- hW3]; exact HO2.o.trans (Only.of_below (by first | exact qad _ _ | exact Below.refl _ _ | (repeat (first | exact Below.refl _ _ | apply bdd)))));have hT3 : TokB w3 B := by rw [<- hW3]; exact HT2.o.later (by first | exact qad _ _ | exact Below.refl _ _ | (repeat (first | exact Below.refl _ _ | apply bdd)))
 obtain ⟨v0, t0⟩ := hT3.c0;obtain ⟨v1, t1⟩ := hT3.c1;obtain ⟨v2, t2⟩ := hT3.c2;have tf0 := hT3.fz 0;have tf1 := hT3.fz 1;have tf2 := hT3.fz 2;clear hW3 hT3;clear HR2 HO2 HT2
 cases q0 : dgB S[0] with
 | false =>
  rw [q0] at an
  have HRES := Zh (show qba w = .tok 3 w w.length by
   unfold qba; rw [if_pos (by rw [<- H0.o, q0]; decide)])
  clear q0
  go_wp2_with fail
  obtain ⟨hO5, hR5⟩ := qbc (v0 := .int .u8 3) (v1 := .string S) (v2 := .int .i64 0) (Nat.le_of_eq HBB.o) HR3.o HO3.o HRB.o (fun _ => HPB.o);refine bodyPost_ret (v := .tuple #[.agg #[.int .u8 3, .string S, .int .i64 0], .int .i64 0]) (by simp [results, Tryz.results149, go_sem, t0, t1, t2]) rfl ⟨hO5, ?_⟩;rw [HRES.o]
  exact ⟨by unfold tokV; rw [HS.o.1]; rfl, hR5⟩
 | true =>
  rw [q0] at an;have an2 : (bits BinOp.and IntKind.u8 (clB S[0] : Int) 4 == 0) = false := an;have HQ0 := Zh (show ¬ (!(dgB (w.getD 0 0))) = true by rw [<- H0.o, q0]; decide);clear an ccl q0
  go_wp2_with fail
  refine (qr3 S _ (by omega)).mono ?_;rintro e w4 ⟨A, C, x, rfl, hA, hC, hx, nq4, rfl⟩;rw [HS.o.2.1] at hA hC hx
  have hAl : A.size <= S.size := by
   have : A.data.toList.length = A.size := by simp
   rw [<- this, hA, HS.o.2.2]; exact (List.takeWhile_sublist _).length_le
  have hCl : C.size <= S.size := by
   have : C.data.toList.length = C.size := by simp
   rw [<- this, hC, HS.o.2.2]; simp only [List.length_drop]; have := (List.dropWhile_sublist (p := (· != (46 : UInt8))) (l := w)).length_le; omega
  have HPW := Zh (show qba w = (if !allB dgB A.data.toList || (A.data.toList.getD 0 0 == 48 && decide (1 < A.data.toList.length)) then .err 5 else if !x then .tok 4 w w.length else if !allB dgB C.data.toList then .err 5 else .tok 7 w w.length) by
   unfold qba; rw [if_neg HQ0.o, hA, hC, hx])
  have HCL := Zh (show ∀ b : UInt8, (w3.drewN nq4).cell? ⟨R, 2 + b.toNat, none⟩ = some (.int .u8 (clB b : Int)) from fun b => (HR3.o.later (qad _ _)).cl b);have HCL2 := Zh (show ∀ k, ∀ b : UInt8, (w3.drewN k).cell? ⟨R, 2 + b.toNat, none⟩ = some (.int .u8 (clB b : Int)) from fun k b => (HR3.o.later (qad _ _)).cl b);have HX := Zh (aI hA (aI hC hx));clear hA hC hx HQ0
  cases q1 : allB dgB A.data.toList with
  | false =>
   have HRES := Zh (show qba w = .err 5 by rw [HPW.o, q1]; rfl);have Q1 := Zh q1;clear q1
   go_wp2_with fail
   go_at_call 157;refine (qb6 4 dgB (fun c => qb4 (and4 c)) R A _ HCL.o (by omega)).mono ?_;rintro e w' ⟨rfl, n7, rfl⟩;rw [Q1.o]
   go_wp2_with fail
   generalize hW5 : World.drewN _ _ = w5;have hb5 : Below w3.heap.size w3 w5 := by rw [<- hW5]; exact (by first | exact qad _ _ | exact Below.refl _ _ | (repeat (first | exact Below.refl _ _ | apply bdd)))
   obtain ⟨hO5, hR5⟩ := qbc (v0 := .int .u8 0) (v1 := .string ⟨#[]⟩) (v2 := .int .i64 0) (Nat.le_of_eq HBB.o) (HR3.o.later hb5) (HO3.o.trans (Only.of_below hb5)) HRB.o (fun _ => HPB.o);have u0 := qaa hb5 t0;have u1 := qaa hb5 t1;have u2 := qaa hb5 t2;refine bodyPost_ret (v := .tuple #[tokV 0 [] 0, .int .i64 5]) (by simp [results, Tryz.results149, go_sem, u0, u1, u2, tokV]) rfl ⟨hO5, ?_⟩;rw [HRES.o]
   rfl
  | true =>
   have hA0 : 0 < A.size := by
    have : A.data.toList ≠ [] := fun e => by rw [e] at q1; exact absurd q1 (by decide)
    have h2 : A.data.toList.length = A.size := by simp
    have := List.length_pos_iff.2 this; omega
   have e48 : ((A[0].toNat : Int) == 48) = (A[0] == 48) := qbz 48 (by decide +kernel) _;have HA0 := Zh (qcr (S := A) hA0);obtain ⟨hz', hz0'⟩ := qbe (x := A[0])
   cases q2 : (A[0] == 48 && decide (1 < A.size)) with
   | true =>
    have HRES := Zh (show qba w = .err 5 by
     rw [HPW.o, q1, HA0.o, show A.data.toList.length = A.size by simp, q2]; rfl)
    have Q1 := Zh q1;simp only [Bool.and_eq_true, decide_eq_true_eq] at q2;rw [q2.1] at e48;have g1 : (1 : Int) < (A.size : Int) := by omega
    clear q1 q2
    go_wp2_with fail
    go_at_call 157;refine (qb6 4 dgB (fun c => qb4 (and4 c)) R A _ HCL.o (by omega)).mono ?_;rintro e w' ⟨rfl, n7, rfl⟩;rw [Q1.o]
    go_wp2_with fail
    generalize hW5 : World.drewN _ _ = w5;have hb5 : Below w3.heap.size w3 w5 := by rw [<- hW5]; exact (by first | exact qad _ _ | exact Below.refl _ _ | (repeat (first | exact Below.refl _ _ | apply bdd)))
    obtain ⟨hO5, hR5⟩ := qbc (v0 := .int .u8 0) (v1 := .string ⟨#[]⟩) (v2 := .int .i64 0) (Nat.le_of_eq HBB.o) (HR3.o.later hb5) (HO3.o.trans (Only.of_below hb5)) HRB.o (fun _ => HPB.o);have u0 := qaa hb5 t0;have u1 := qaa hb5 t1;have u2 := qaa hb5 t2;refine bodyPost_ret (v := .tuple #[tokV 0 [] 0, .int .i64 5]) (by simp [results, Tryz.results149, go_sem, u0, u1, u2, tokV]) rfl ⟨hO5, ?_⟩;rw [HRES.o]
    rfl
   | false =>
    have HPW2 := Zh (show qba w = (if !x then .tok 4 w w.length else if !allB dgB C.data.toList then .err 5 else .tok 7 w w.length) by
     rw [HPW.o, q1, HA0.o, show A.data.toList.length = A.size by simp, q2]; rfl)
    have Q1 := Zh q1
    have hcase : (A[0] == 48) = false \/ ((A[0] == 48) = true /\ decide (1 < A.size) = false) := by
     cases h : (A[0] == 48) with
     | false => exact .inl rfl
     | true => rw [h] at q2; exact .inr ⟨rfl, by simpa using q2⟩
    clear q1 q2 HPW;rcases hcase with hc | ⟨hc, hc2⟩
    ·rw [hc] at e48
     clear hc
     cases x with
     | false =>
      have HRES := Zh (show qba w = .tok 4 w w.length by rw [HPW2.o]; rfl)
      go_wp2_with fail
      go_at_call 157;refine (qb6 4 dgB (fun c => qb4 (and4 c)) R A _ HCL.o (by omega)).mono ?_;rintro e w' ⟨rfl, n7, rfl⟩;rw [Q1.o]
      go_wp2_with fail
      generalize hW5 : World.drewN _ _ = w5;have hb5 : Below w3.heap.size w3 w5 := by rw [<- hW5]; exact (by first | exact qad _ _ | exact Below.refl _ _ | (repeat (first | exact Below.refl _ _ | apply bdd)))
      obtain ⟨hO5, hR5⟩ := qbc (v0 := .int .u8 4) (v1 := .string S) (v2 := .int .i64 0) (Nat.le_of_eq HBB.o) (HR3.o.later hb5) (HO3.o.trans (Only.of_below hb5)) HRB.o (fun _ => HPB.o);have u0 := qaa hb5 t0;have u1 := qaa hb5 t1;have u2 := qaa hb5 t2;refine bodyPost_ret (v := .tuple #[.agg #[.int .u8 4, .string S, .int .i64 0], .int .i64 0]) (by simp [results, Tryz.results149, go_sem, u0, u1, u2]) rfl ⟨hO5, ?_⟩;rw [HRES.o]
      exact ⟨by unfold tokV; rw [HS.o.1]; rfl, hR5⟩
     | true =>
      cases q3 : allB dgB C.data.toList with
      | false =>
       have HRES := Zh (show qba w = .err 5 by rw [HPW2.o, q3]; rfl);have Q3 := Zh q3;clear q3
       go_wp2_with fail
       go_at_call 157;refine (qb6 4 dgB (fun c => qb4 (and4 c)) R A _ HCL.o (by omega)).mono ?_;rintro e w' ⟨rfl, n7, rfl⟩;rw [Q1.o]
       go_wp2_with fail
       go_at_call 157;refine (qb6 4 dgB (fun c => qb4 (and4 c)) R C _ (HCL2.o _) (by omega)).mono ?_;rintro e w' ⟨rfl, n7, rfl⟩;rw [Q3.o]
       go_wp2_with fail
       generalize hW5 : World.drewN _ _ = w5;have hb5 : Below w3.heap.size w3 w5 := by rw [<- hW5]; exact (by first | exact qad _ _ | exact Below.refl _ _ | (repeat (first | exact Below.refl _ _ | apply bdd)))
       obtain ⟨hO5, hR5⟩ := qbc (v0 := .int .u8 0) (v1 := .string ⟨#[]⟩) (v2 := .int .i64 0) (Nat.le_of_eq HBB.o) (HR3.o.later hb5) (HO3.o.trans (Only.of_below hb5)) HRB.o (fun _ => HPB.o);have u0 := qaa hb5 t0;have u1 := qaa hb5 t1;have u2 := qaa hb5 t2;refine bodyPost_ret (v := .tuple #[tokV 0 [] 0, .int .i64 5]) (by simp [results, Tryz.results149, go_sem, u0, u1, u2, tokV]) rfl ⟨hO5, ?_⟩;rw [HRES.o]
       rfl
      | true =>
       have HRES := Zh (show qba w = .tok 7 w w.length by rw [HPW2.o, q3]; rfl);have Q3 := Zh q3;clear q3
       go_wp2_with fail
       go_at_call 157;refine (qb6 4 dgB (fun c => qb4 (and4 c)) R A _ HCL.o (by omega)).mono ?_;rintro e w' ⟨rfl, n7, rfl⟩;rw [Q1.o]
       go_wp2_with fail
       go_at_call 157;refine (qb6 4 dgB (fun c => qb4 (and4 c)) R C _ (HCL2.o _) (by omega)).mono ?_;rintro e w' ⟨rfl, n7, rfl⟩;rw [Q3.o]
       go_wp2_with fail
       generalize hW5 : World.drewN _ _ = w5;have hb5 : Below w3.heap.size w3 w5 := by rw [<- hW5]; exact (by first | exact qad _ _ | exact Below.refl _ _ | (repeat (first | exact Below.refl _ _ | apply bdd)))
       obtain ⟨hO5, hR5⟩ := qbc (v0 := .int .u8 7) (v1 := .string S) (v2 := .int .i64 0) (Nat.le_of_eq HBB.o) (HR3.o.later hb5) (HO3.o.trans (Only.of_below hb5)) HRB.o (fun _ => HPB.o);have u0 := qaa hb5 t0;have u1 := qaa hb5 t1;have u2 := qaa hb5 t2;refine bodyPost_ret (v := .tuple #[.agg #[.int .u8 7, .string S, .int .i64 0], .int .i64 0]) (by simp [results, Tryz.results149, go_sem, u0, u1, u2]) rfl ⟨hO5, ?_⟩;rw [HRES.o];exact ⟨by unfold tokV; rw [HS.o.1]; rfl, hR5⟩
    ·rw [hc] at e48
     have g1 : ¬ (1 : Int) < (A.size : Int) := by simp at hc2; omega
     have g2 : decide ((1 : Int) < (A.size : Int)) = false := by simpa using g1
     have g3 : decide (1 < A.size) = false := hc2;clear hc hc2
     cases x with
     | false =>
      have HRES := Zh (show qba w = .tok 4 w w.length by rw [HPW2.o]; rfl)
      go_wp2_with fail
      go_at_call 157;refine (qb6 4 dgB (fun c => qb4 (and4 c)) R A _ HCL.o (by omega)).mono ?_;rintro e w' ⟨rfl, n7, rfl⟩;rw [Q1.o]
      go_wp2_with fail
      generalize hW5 : World.drewN _ _ = w5;have hb5 : Below w3.heap.size w3 w5 := by rw [<- hW5]; exact (by first | exact qad _ _ | exact Below.refl _ _ | (repeat (first | exact Below.refl _ _ | apply bdd)))
      obtain ⟨hO5, hR5⟩ := qbc (v0 := .int .u8 4) (v1 := .string S) (v2 := .int .i64 0) (Nat.le_of_eq HBB.o) (HR3.o.later hb5) (HO3.o.trans (Only.of_below hb5)) HRB.o (fun _ => HPB.o);have u0 := qaa hb5 t0;have u1 := qaa hb5 t1;have u2 := qaa hb5 t2;refine bodyPost_ret (v := .tuple #[.agg #[.int .u8 4, .string S, .int .i64 0], .int .i64 0]) (by simp [results, Tryz.results149, go_sem, u0, u1, u2]) rfl ⟨hO5, ?_⟩;rw [HRES.o]
      exact ⟨by unfold tokV; rw [HS.o.1]; rfl, hR5⟩
     | true =>
      cases q3 : allB dgB C.data.toList with
      | false =>
       have HRES := Zh (show qba w = .err 5 by rw [HPW2.o, q3]; rfl);have Q3 := Zh q3;clear q3
       go_wp2_with fail
       go_at_call 157;refine (qb6 4 dgB (fun c => qb4 (and4 c)) R A _ HCL.o (by omega)).mono ?_;rintro e w' ⟨rfl, n7, rfl⟩;rw [Q1.o]
       go_wp2_with fail
       go_at_call 157;refine (qb6 4 dgB (fun c => qb4 (and4 c)) R C _ (HCL2.o _) (by omega)).mono ?_;rintro e w' ⟨rfl, n7, rfl⟩;rw [Q3.o]
       go_wp2_with fail
       generalize hW5 : World.drewN _ _ = w5;have hb5 : Below w3.heap.size w3 w5 := by rw [<- hW5]; exact (by first | exact qad _ _ | exact Below.refl _ _ | (repeat (first | exact Below.refl _ _ | apply bdd)))
       obtain ⟨hO5, hR5⟩ := qbc (v0 := .int .u8 0) (v1 := .string ⟨#[]⟩) (v2 := .int .i64 0) (Nat.le_of_eq HBB.o) (HR3.o.later hb5) (HO3.o.trans (Only.of_below hb5)) HRB.o (fun _ => HPB.o);have u0 := qaa hb5 t0;have u1 := qaa hb5 t1;have u2 := qaa hb5 t2;refine bodyPost_ret (v := .tuple #[tokV 0 [] 0, .int .i64 5]) (by simp [results, Tryz.results149, go_sem, u0, u1, u2, tokV]) rfl ⟨hO5, ?_⟩;rw [HRES.o]
       rfl
      | true =>
       have HRES := Zh (show qba w = .tok 7 w w.length by rw [HPW2.o, q3]; rfl);have Q3 := Zh q3;clear q3
       go_wp2_with fail
       go_at_call 157;refine (qb6 4 dgB (fun c => qb4 (and4 c)) R A _ HCL.o (by omega)).mono ?_;rintro e w' ⟨rfl, n7, rfl⟩;rw [Q1.o]
       go_wp2_with fail
       go_at_call 157;refine (qb6 4 dgB (fun c => qb4 (and4 c)) R C _ (HCL2.o _) (by omega)).mono ?_;rintro e w' ⟨rfl, n7, rfl⟩;rw [Q3.o]
       go_wp2_with fail
       generalize hW5 : World.drewN _ _ = w5;have hb5 : Below w3.heap.size w3 w5 := by rw [<- hW5]; exact (by first | exact qad _ _ | exact Below.refl _ _ | (repeat (first | exact Below.refl _ _ | apply bdd)))
       obtain ⟨hO5, hR5⟩ := qbc (v0 := .int .u8 7) (v1 := .string S) (v2 := .int .i64 0) (Nat.le_of_eq HBB.o) (HR3.o.later hb5) (HO3.o.trans (Only.of_below hb5)) HRB.o (fun _ => HPB.o);have u0 := qaa hb5 t0;have u1 := qaa hb5 t1;have u2 := qaa hb5 t2;refine bodyPost_ret (v := .tuple #[.agg #[.int .u8 7, .string S, .int .i64 0], .int .i64 0]) (by simp [results, Tryz.results149, go_sem, u0, u1, u2]) rfl ⟨hO5, ?_⟩;rw [HRES.o];exact ⟨by unfold tokV; rw [HS.o.1]; rfl, hR5⟩
theorem qcc {S : ByteArray} {w : List UInt8} (h : S.data.toList = w) {b : Bool} (hb : w.isEmpty = b) : S.toList.isEmpty = b /\ (S.toList == []) = b := by
 rw [toList_data, h];refine ⟨hb, ?_⟩;cases w <;> simpa using hb
theorem qju (R : Nat) (p : Option Addr) (c : Nat) (bs : List UInt8) (a0 : Nat) (W : World) (h : RdAt W R p c bs a0) (hlt0 : a0 < bs.length) :
  Calls Tryz.prog 147 #[.pointer (some ⟨R, 0, none⟩)] W (qgx R p c bs a0 W (keyR (qas (bs.drop (a0 + 1))))) := by
 have hle := qc9 (bs.drop (a0 + 1));rw [List.length_drop] at hle;have H := Zh h;have hn := h.hn;have hc1 := h.ca;have hf1 := h.fz;have HPB := Zh (h.bi.lt (by omega));have HRB := Zh (show R ≠ W.heap.size by have := h.hl; omega);have hR := h.hl;clear h;go_enter Tryz.func147, Tryz.ntmps147
 go_wp2_with fail
 generalize hW1 : (W.setCell _ _).alloc _ = W1;obtain ⟨P, hP⟩ : ∃ P, P = a0 + 1 := ⟨_, rfl⟩;have hPi : (a0 : Int) + 1 = (P : Int) := by omega
 rw [hPi] at hW1;have h1 := H.o.set (v := (P : Int)) (a' := P) rfl (by omega);have hOW := qap W R 1 (.int .i64 (P : Int));have hB1 := qab (W.setCell ⟨R, 1, none⟩ (.int .i64 (P : Int))) (.cells #[.int .u8 0, .string ByteArray.empty, .int .i64 0] 32);have hTB := qd4 (W.setCell ⟨R, 1, none⟩ (.int .i64 (P : Int)));rw [World.size_setCell] at hTB
 have HI0 := Zh (show RdAt W1 R p c bs P /\ Only (· = R) W W1 /\ TokB W1 W.heap.size by
  rw [<- hW1]
  exact ⟨h1.later hB1, hOW.trans (Only.of_below hB1), hTB⟩)
 have hw := qg0 R p c bs P _ HI0.o.1;rw [hP] at hw;rw [<- hP] at hle;have HP := Zh hP;generalize hwd : qas (bs.drop (a0 + 1)) = w at *;rw [hP, hwd] at hle;have HW := Zh hw;clear hP hPi hW1 h1 hOW hB1 hTB hc1 hf1 H hw hwd hR;generalize hB : W.heap.size = B at *;have HBB := Zh hB;clear hB;refine HW.o.mono ?_;rintro e w3 ⟨rfl, hr2, ho2⟩;have HR3 := Zh (show RdAt w3 R p c bs (a0 + (w.length + 1)) by rw [show a0 + (w.length + 1) = a0 + 1 + w.length by omega]; exact hr2);have HO3 := Zh (HI0.o.2.1.trans ho2);have hT3 := HI0.o.2.2.only ho2 (fun e => HRB.o e.symm);have HT3 := Zh hT3;obtain ⟨v0, t0⟩ := hT3.c0;obtain ⟨v1, t1⟩ := hT3.c1;obtain ⟨v2, t2⟩ := hT3.c2;have tf0 := hT3.fz 0;have tf1 := hT3.fz 1;have tf2 := hT3.fz 2;obtain ⟨S, hS, hS1, hS2⟩ := qgm w;rw [hS];rw [<- hS2] at hle;have HS := Zh (aI hS (aI hS1 hS2));clear hr2 ho2 HW HI0 hT3 hS hS1 hS2
 cases q : w.isEmpty with
 | true =>
  obtain ⟨e1, e2⟩ := qcc HS.o.2.1 q;have HRES := Zh (show keyR w = .err 30 by unfold keyR; rw [q]; rfl);clear q
  go_wp2_with fail
  obtain ⟨hO5, hR5⟩ := qbc (v0 := .int .u8 0) (v1 := .string ⟨#[]⟩) (v2 := .int .i64 0) (Nat.le_of_eq HBB.o) HR3.o HO3.o HRB.o (fun _ => HPB.o);refine bodyPost_ret (v := .tuple #[tokV 0 [] 0, .int .i64 30]) (by simp [results, Tryz.results147, go_sem, t0, t1, t2, tokV]) rfl ⟨hO5, ?_⟩;rw [HRES.o]
  rfl
 | false =>
  obtain ⟨e1, e2⟩ := qcc HS.o.2.1 q;have HRES := Zh (show keyR w = .tok 6 w (w.length + 1) by unfold keyR; rw [q]; rfl);clear q
  go_wp2_with fail
  obtain ⟨hO5, hR5⟩ := qbc (v0 := .int .u8 6) (v1 := .string S) (v2 := .int .i64 0) (Nat.le_of_eq HBB.o) HR3.o HO3.o HRB.o (fun _ => HPB.o);refine bodyPost_ret (v := .tuple #[.agg #[.int .u8 6, .string S, .int .i64 0], .int .i64 0]) (by simp [results, Tryz.results147, go_sem, t0, t1, t2]) rfl ⟨hO5, ?_⟩;rw [HRES.o];exact ⟨by unfold tokV; rw [HS.o.1]; rfl, hR5⟩
theorem qhn {S : ByteArray} {w : List UInt8} (h : S.data.toList = w) : ((⟨#[35]⟩ : ByteArray) ++ S) = ⟨(35 :: w).toArray⟩ := by
 apply ByteArray.ext
 apply Array.toList_inj.1
 rw [<- h];simp
theorem qo3 (D : ByteArray) (hD : D.size <= 1048576) (w : World) : Calls Tryz.prog 158 #[.string D, .string ⟨#[48, 49]⟩] w fun e w' => ∃ T : ByteArray, e = .returned (.string T) /\ T.data.toList = Lib.trimS D.data.toList [48, 49] /\ Below w.heap.size w w' := by
 have h : Calls Tryz.prog 158 #[.string D, .string ⟨#[48, 49]⟩] w fun e w' => e = .returned (.string ⟨(Lib.trimS D.data.toList [48, 49]).toArray⟩) /\ Below w.heap.size w w' :=
  Any.strings_Trim_laid Tryz.lays160 (by kernel_rfl) D ⟨#[48, 49]⟩ w (by omega) (by decide) (ascii_of_all (by decide))
 refine h.mono ?_;rintro e w' ⟨rfl, hb⟩;exact ⟨_, rfl, by simp, hb⟩
theorem qoi (p : UInt8 -> Bool) : ∀ l : List UInt8, l.dropWhile p = [] ↔ ∀ x ∈ l, p x = true
 | [] => by simp
 | a :: l => by
  cases h : p a with
  | true => simp [h, qoi p l]
  | false => simp [h]
theorem qj3 (l : List UInt8) : (Lib.trimS l [48, 49]).isEmpty = l.all (fun c => c == 48 || c == 49) := by
 have hf : ∀ x : UInt8, ([48, 49] : List UInt8).contains x = (x == 48 || x == 49) := fun x => by simp only [List.contains_cons, List.contains_nil, Bool.or_false]
 unfold Lib.trimS Lib.trimLeftS Lib.trimRightS
 cases h : l.all (fun c => c == 48 || c == 49) with
 | true =>
  have h1 : l.reverse.dropWhile (fun x => ([48, 49] : List UInt8).contains x) = [] := by
   rw [qoi];intro x hx;rw [hf];exact List.all_eq_true.1 h x (by simpa using hx)
  rw [h1]; rfl
 | false =>
  obtain ⟨x, hx, hn⟩ := List.all_eq_false.1 h;rw [Bool.eq_false_iff];intro he;have h0 : (l.reverse.dropWhile (fun x => ([48, 49] : List UInt8).contains x)).reverse.dropWhile (fun x => ([48, 49] : List UInt8).contains x) = [] := by simpa using he
  have h1 : ∀ y ∈ l.reverse.dropWhile (fun x => ([48, 49] : List UInt8).contains x), ([48, 49] : List UInt8).contains y = true := fun y hy => by
   have := ((qoi _ _).1 h0) y (by simpa using hy);exact this
  have h2 : ∀ y ∈ l.reverse, ([48, 49] : List UInt8).contains y = true := fun y hy => by
   rw [<- List.takeWhile_append_dropWhile (p := fun x => ([48, 49] : List UInt8).contains x) (l := l.reverse)] at hy;rcases List.mem_append.1 hy with h | h
   ·exact List.all_eq_true.1 (List.all_takeWhile (p := fun x => ([48, 49] : List UInt8).contains x)) y h
   ·exact h1 y h
  have := h2 x (by simpa using hx);rw [hf] at this;exact hn this
theorem qow (R : Nat) (p : Option Addr) (c : Nat) (bs : List UInt8) (a0 : Nat) (W : World) (h : RdAt W R p c bs a0) (hlt0 : a0 < bs.length) :
  Calls Tryz.prog 148 #[.pointer (some ⟨R, 0, none⟩)] W (qgx R p c bs a0 W (qbs (qas (bs.drop (a0 + 1))))) := by
 have hle := qc9 (bs.drop (a0 + 1));rw [List.length_drop] at hle;have H := Zh h;have hn := h.hn;have hc1 := h.ca;have hf1 := h.fz;have HPB := Zh (h.bi.lt (by omega));have HRB := Zh (show R ≠ W.heap.size by have := h.hl; omega);have hR := h.hl;clear h;go_enter Tryz.func148, Tryz.ntmps148
 go_wp2_with fail
 generalize hW1 : (W.setCell _ _).alloc _ = W1;obtain ⟨P, hP⟩ : ∃ P, P = a0 + 1 := ⟨_, rfl⟩;have hPi : (a0 : Int) + 1 = (P : Int) := by omega
 rw [hPi] at hW1;have h1 := H.o.set (v := (P : Int)) (a' := P) rfl (by omega);have hOW := qap W R 1 (.int .i64 (P : Int));have hB1 := qab (W.setCell ⟨R, 1, none⟩ (.int .i64 (P : Int))) (.cells #[.int .u8 0, .string ByteArray.empty, .int .i64 0] 32);have hTB := qd4 (W.setCell ⟨R, 1, none⟩ (.int .i64 (P : Int)));rw [World.size_setCell] at hTB
 have HI0 := Zh (show RdAt W1 R p c bs P /\ Only (· = R) W W1 /\ TokB W1 W.heap.size by
  rw [<- hW1]
  exact ⟨h1.later hB1, hOW.trans (Only.of_below hB1), hTB⟩)
 have hw := qg0 R p c bs P _ HI0.o.1;rw [hP] at hw;rw [<- hP] at hle;have HP := Zh hP;generalize hwd : qas (bs.drop (a0 + 1)) = w at *;rw [hP, hwd] at hle;have HW := Zh hw;clear hP hPi hW1 h1 hOW hB1 hTB hc1 hf1 H hw hwd hR;generalize hB : W.heap.size = B at *;have HBB := Zh hB;clear hB;refine HW.o.mono ?_;rintro e w3 ⟨rfl, hr2, ho2⟩;have HR3 := Zh (show RdAt w3 R p c bs (a0 + (w.length + 1)) by rw [show a0 + (w.length + 1) = a0 + 1 + w.length by omega]; exact hr2);have HO3 := Zh (HI0.o.2.1.trans ho2);have hT3 := HI0.o.2.2.only ho2 (fun e => HRB.o e.symm);have HT3 := Zh hT3;obtain ⟨v0, t0⟩ := hT3.c0;obtain ⟨v1, t1⟩ := hT3.c1;obtain ⟨v2, t2⟩ := hT3.c2;have tf0 := hT3.fz 0;have tf1 := hT3.fz 1;have tf2 := hT3.fz 2;obtain ⟨S, hS, hS1, hS2⟩ := qgm w;rw [hS];rw [<- hS2] at hle;have HS := Zh (aI hS (aI hS1 hS2));clear hr2 ho2 HW HI0 hT3 hS hS1 hS2
 cases q : w.isEmpty with
 | true =>
  obtain ⟨e1, e2⟩ := qcc HS.o.2.1 q;have HRES := Zh (show qbs w = .err 30 by unfold qbs; rw [q]; rfl);clear q
  go_wp2_with fail
  obtain ⟨hO5, hR5⟩ := qbc (v0 := .int .u8 0) (v1 := .string ⟨#[]⟩) (v2 := .int .i64 0) (Nat.le_of_eq HBB.o) HR3.o HO3.o HRB.o (fun _ => HPB.o);refine bodyPost_ret (v := .tuple #[tokV 0 [] 0, .int .i64 30]) (by simp [results, Tryz.results148, go_sem, t0, t1, t2, tokV]) rfl ⟨hO5, ?_⟩;rw [HRES.o]
  rfl
 | false =>
  obtain ⟨e1, e2⟩ := qcc HS.o.2.1 q
  have hpos : 0 < S.size := by
   rw [HS.o.2.2]; cases w with
   | nil => cases q
   | cons => simp
  have h1le : 1 <= S.size := hpos;have i1 : (1 : Int) <= (S.size : Int) := by omega
  have h0 : S[0] = w.getD 0 0 := by rw [<- HS.o.2.1]; exact (qcr hpos).symm
  have hD : (S.extract 1 S.size).data.toList = w.drop 1 := by rw [qk1, HS.o.2.1]
  have hDs : (S.extract 1 S.size).size <= 1048576 := by
   have : (S.extract 1 S.size).data.toList.length = (S.extract 1 S.size).size := by simp
   rw [<- this, hD, List.length_drop, <- HS.o.2.2]; omega
  have e120 : ((S[0].toNat : Int) == 120) = (S[0] == 120) := qbz 120 (by decide +kernel) _;have e98 : ((S[0].toNat : Int) == 98) = (S[0] == 98) := qbz 98 (by decide +kernel) _;obtain ⟨hz, hz0⟩ := qbe (x := S[0])
  have HBR := Zh (show qbs w = if (S[0] == 120 && allB hxB (w.drop 1)) || (S[0] == 98 && allB (fun c => c == 48 || c == 49) (w.drop 1)) then .tok 7 (35 :: w) (w.length + 1) else .err 5 by
   unfold qbs; rw [q, h0]; rfl)
  generalize hDD : S.extract 1 S.size = D at *;have HDD := Zh hDD;have HD := Zh hD;have HCL := Zh HR3.o.cl;clear q h0 hD hDD
  cases q1 : (S[0] == 120) with
  | true =>
   have hx98 : (S[0] == 98) = false := by rw [eq_of_beq q1]; decide
   rw [q1] at e120;rw [hx98] at e98
   cases q2 : allB hxB (w.drop 1) with
   | true =>
    have HRES := Zh (show qbs w = .tok 7 (35 :: w) (w.length + 1) by rw [HBR.o, q1, q2]; rfl);have Q2 := Zh q2;clear q1 q2 hx98
    go_wp2_with fail
    rw [HDD.o];refine (qb6 8 hxB (fun c => qb4 (and8 c)) R D _ HCL.o (by omega)).mono ?_;rintro e w' ⟨rfl, n7, rfl⟩;rw [HD.o, Q2.o]
    go_wp2_with fail
    generalize hW5 : World.drewN _ _ = w5;have hb5 : Below w3.heap.size w3 w5 := by rw [<- hW5]; exact (by first | exact qad _ _ | exact Below.refl _ _ | (repeat (first | exact Below.refl _ _ | apply bdd)))
    obtain ⟨hO5, hR5⟩ := qbc (v0 := .int .u8 7) (v1 := .string (⟨#[35]⟩ ++ S)) (v2 := .int .i64 0) (Nat.le_of_eq HBB.o) (HR3.o.later hb5) (HO3.o.trans (Only.of_below hb5)) HRB.o (fun _ => HPB.o);have u0 := qaa hb5 t0;have u1 := qaa hb5 t1;have u2 := qaa hb5 t2;refine bodyPost_ret (v := .tuple #[.agg #[.int .u8 7, .string (⟨#[35]⟩ ++ S), .int .i64 0], .int .i64 0]) (by simp [results, Tryz.results148, go_sem, u0, u1, u2]) rfl ⟨hO5, ?_⟩;rw [HRES.o]
    exact ⟨by unfold tokV; rw [qhn HS.o.2.1]; rfl, hR5⟩
   | false =>
    have HRES := Zh (show qbs w = .err 5 by rw [HBR.o, q1, q2, hx98]; rfl);have Q2 := Zh q2;clear q1 q2 hx98
    go_wp2_with fail
    rw [HDD.o];refine (qb6 8 hxB (fun c => qb4 (and8 c)) R D _ HCL.o (by omega)).mono ?_;rintro e w' ⟨rfl, n7, rfl⟩;rw [HD.o, Q2.o]
    go_wp2_with fail
    generalize hW5 : World.drewN _ _ = w5;have hb5 : Below w3.heap.size w3 w5 := by rw [<- hW5]; exact (by first | exact qad _ _ | exact Below.refl _ _ | (repeat (first | exact Below.refl _ _ | apply bdd)))
    obtain ⟨hO5, hR5⟩ := qbc (v0 := .int .u8 0) (v1 := .string ⟨#[]⟩) (v2 := .int .i64 0) (Nat.le_of_eq HBB.o) (HR3.o.later hb5) (HO3.o.trans (Only.of_below hb5)) HRB.o (fun _ => HPB.o);have u0 := qaa hb5 t0;have u1 := qaa hb5 t1;have u2 := qaa hb5 t2;refine bodyPost_ret (v := .tuple #[tokV 0 [] 0, .int .i64 5]) (by simp [results, Tryz.results148, go_sem, u0, u1, u2, tokV]) rfl ⟨hO5, ?_⟩;rw [HRES.o]
    rfl
  | false =>
   rw [q1] at e120
   cases q3 : (S[0] == 98) with
   | false =>
    rw [q3] at e98;have HRES := Zh (show qbs w = .err 5 by rw [HBR.o, q1, q3]; rfl);clear q1 q3
    go_wp2_with fail
    obtain ⟨hO5, hR5⟩ := qbc (v0 := .int .u8 0) (v1 := .string ⟨#[]⟩) (v2 := .int .i64 0) (Nat.le_of_eq HBB.o) HR3.o HO3.o HRB.o (fun _ => HPB.o);refine bodyPost_ret (v := .tuple #[tokV 0 [] 0, .int .i64 5]) (by simp [results, Tryz.results148, go_sem, t0, t1, t2, tokV]) rfl ⟨hO5, ?_⟩;rw [HRES.o]
    rfl
   | true =>
    rw [q3] at e98
    cases q4 : (w.drop 1).isEmpty with
    | true =>
     have HRES := Zh (show qbs w = .err 5 by rw [HBR.o, q1, q3]; unfold allB; rw [q4]; simp);obtain ⟨g1, g2⟩ := qcc HD.o q4;have hE : (S.extract 1 S.size).toList.isEmpty = true := by rw [HDD.o]; exact g1
     clear q1 q3 q4
     go_wp2_with fail
     obtain ⟨hO5, hR5⟩ := qbc (v0 := .int .u8 0) (v1 := .string ⟨#[]⟩) (v2 := .int .i64 0) (Nat.le_of_eq HBB.o) HR3.o HO3.o HRB.o (fun _ => HPB.o);refine bodyPost_ret (v := .tuple #[tokV 0 [] 0, .int .i64 5]) (by simp [results, Tryz.results148, go_sem, t0, t1, t2, tokV]) rfl ⟨hO5, ?_⟩;rw [HRES.o]
     rfl
    | false =>
     obtain ⟨g1, g2⟩ := qcc HD.o q4;have hE : (S.extract 1 S.size).toList.isEmpty = false := by rw [HDD.o]; exact g1
     have HT := fun w' => qo3 D hDs w'
     have HTR := Zh HT;clear HT
     cases q5 : (w.drop 1).all (fun c => c == 48 || c == 49) with
     | true =>
      have HRES := Zh (show qbs w = .tok 7 (35 :: w) (w.length + 1) by rw [HBR.o, q1, q3]; unfold allB; rw [q4, q5]; rfl);have HQ := Zh (show (Lib.trimS D.data.toList [48, 49]).isEmpty = true by rw [qj3, HD.o]; exact q5);clear q1 q3 q4 q5
      go_wp2_with fail
      rw [HDD.o];refine (HTR.o _).mono ?_;rintro e w5 ⟨T, rfl, hT, hb5⟩;obtain ⟨g3, g4⟩ := qcc hT HQ.o;have hb5 : Below w3.heap.size w3 w5 := hb5;clear hT;have hT5 := HT3.o.later hb5;obtain ⟨x0, u0⟩ := hT5.c0;obtain ⟨x1, u1⟩ := hT5.c1;obtain ⟨x2, u2⟩ := hT5.c2;have uf0 := hT5.fz 0;have uf1 := hT5.fz 1;have uf2 := hT5.fz 2;have HB5 := Zh hb5;clear hb5 hT5
      go_wp2_with fail
      have hb5 := HB5.o;obtain ⟨hO5, hR5⟩ := qbc (v0 := .int .u8 7) (v1 := .string (⟨#[35]⟩ ++ S)) (v2 := .int .i64 0) (Nat.le_of_eq HBB.o) (HR3.o.later hb5) (HO3.o.trans (Only.of_below hb5)) HRB.o (fun _ => HPB.o);refine bodyPost_ret (v := .tuple #[.agg #[.int .u8 7, .string (⟨#[35]⟩ ++ S), .int .i64 0], .int .i64 0]) (by simp [results, Tryz.results148, go_sem, u0, u1, u2]) rfl ⟨hO5, ?_⟩;rw [HRES.o]
      exact ⟨by unfold tokV; rw [qhn HS.o.2.1]; rfl, hR5⟩
     | false =>
      have HRES := Zh (show qbs w = .err 5 by rw [HBR.o, q1, q3]; unfold allB; rw [q4, q5]; rfl);have HQ := Zh (show (Lib.trimS D.data.toList [48, 49]).isEmpty = false by rw [qj3, HD.o]; exact q5);clear q1 q3 q4 q5
      go_wp2_with fail
      rw [HDD.o];refine (HTR.o _).mono ?_;rintro e w5 ⟨T, rfl, hT, hb5⟩;obtain ⟨g3, g4⟩ := qcc hT HQ.o;have hb5 : Below w3.heap.size w3 w5 := hb5;clear hT;have hT5 := HT3.o.later hb5;obtain ⟨x0, u0⟩ := hT5.c0;obtain ⟨x1, u1⟩ := hT5.c1;obtain ⟨x2, u2⟩ := hT5.c2;have uf0 := hT5.fz 0;have uf1 := hT5.fz 1;have uf2 := hT5.fz 2;have HB5 := Zh hb5;clear hb5 hT5
      go_wp2_with fail
      have hb5 := HB5.o;obtain ⟨hO5, hR5⟩ := qbc (v0 := .int .u8 0) (v1 := .string ⟨#[]⟩) (v2 := .int .i64 0) (Nat.le_of_eq HBB.o) (HR3.o.later hb5) (HO3.o.trans (Only.of_below hb5)) HRB.o (fun _ => HPB.o);refine bodyPost_ret (v := .tuple #[tokV 0 [] 0, .int .i64 5]) (by simp [results, Tryz.results148, go_sem, u0, u1, u2, tokV]) rfl ⟨hO5, ?_⟩;rw [HRES.o]
      rfl
theorem qmh (R : Nat) (p : Option Addr) (c : Nat) (bs : List UInt8) (a0 : Nat) (W : World) (h : RdAt W R p c bs a0) (hlt0 : a0 < bs.length) :
  Calls Tryz.prog 135 #[.pointer (some ⟨R, 0, none⟩)] W (qgx R p c bs a0 W (oneR (bs.drop a0))) := by
 have HDR := Zh (qbf hlt0);have hn := h.hn;have HPB := Zh (h.bi.lt (by omega));have HRB := Zh (show R ≠ W.heap.size by have := h.hl; omega);have hB1 := qab W (.cells #[.int .u8 0, .string ByteArray.empty, .int .i64 0] 32);have HR1 := Zh (h.later hB1);have HT1 := Zh (qd4 W);have HB1 := Zh hB1;have hsy := fun hs => qid R p c bs a0 (W.alloc (.cells #[.int .u8 0, .string ByteArray.empty, .int .i64 0] 32)) HR1.o hlt0 hs
 clear h hB1 hsy;go_enter Tryz.func135, Tryz.ntmps135
 go_wp2_with fail
 generalize hW1 : W.alloc _ = W1;rw [show (W.alloc (.cells #[.int .u8 0, .string ByteArray.empty, .int .i64 0] 32)) = W1 from hW1] at HR1 HT1 HB1;generalize hB : W.heap.size = B at *;have HBB := Zh hB;clear hW1 hB;have c0 := HR1.o.cb;have c1 := HR1.o.ca;obtain ⟨n, hnl⟩ : ∃ n, n = bs.length := ⟨_, rfl⟩;have HL := Zh hnl;rw [<- hnl] at c0;clear hnl;have i1 : (a0 : Int) < (n : Int) := by have := HL.o; omega
 have i0 : (0 : Int) <= (a0 : Int) := by omega
 have i2 : (a0 : Int) <= 1048576 := by omega
 obtain ⟨b, off, hpe, cb⟩ := HR1.o.bi a0 hlt0;rw [hpe] at c0;have HPE := Zh hpe;have HLT := Zh hlt0;clear hpe;obtain ⟨hz, hz0⟩ := qbe (x := bs[a0]);have e40 : ((bs[a0].toNat : Int) == 40) = (bs[a0] == 40) := qbz 40 (by decide +kernel) _;have e41 : ((bs[a0].toNat : Int) == 41) = (bs[a0] == 41) := qbz 41 (by decide +kernel) _;have e124 : ((bs[a0].toNat : Int) == 124) = (bs[a0] == 124) := qbz 124 (by decide +kernel) _;have e34 : ((bs[a0].toNat : Int) == 34) = (bs[a0] == 34) := qbz 34 (by decide +kernel) _;have e58 : ((bs[a0].toNat : Int) == 58) = (bs[a0] == 58) := qbz 58 (by decide +kernel) _;have e35 : ((bs[a0].toNat : Int) == 35) = (bs[a0] == 35) := qbz 35 (by decide +kernel) _;have an := and2 bs[a0];have ccl0 := HR1.o.cl bs[a0];generalize hx : bs[a0] = x at *;generalize x.toNat = y at *;generalize clB x = z at *;have HX := Zh hx;clear hx
 go_quiet (fail)
 generalize hW2 : W1.drewN _ = W2;have HR2 := Zh (show RdAt W2 R p c bs a0 by rw [<- hW2]; exact HR1.o.later (by first | exact qad _ _ | exact Below.refl _ _ | (repeat (first | exact Below.refl _ _ | apply bdd))));have HO2 := Zh (show Only (· = R) W W2 by rw [<- hW2]; exact (Only.of_below (T := (· = R)) (by rw [HBB.o]; exact HB1.o)).trans (Only.of_below (by first | exact qad _ _ | exact Below.refl _ _ | (repeat (first | exact Below.refl _ _ | apply bdd)))));have HT2 := Zh (show TokB W2 B by rw [<- hW2]; exact HT1.o.later (by first | exact qad _ _ | exact Below.refl _ _ | (repeat (first | exact Below.refl _ _ | apply bdd))));have ccl : W2.cell? ⟨R, 2 + y, none⟩ = some (.int .u8 (z : Int)) := by rw [<- hW2]; simpa using ccl0
 have d1 := HR2.o.ca;have df := HR2.o.fz;clear hW2 HR1 HT1 HB1 c0 c1 cb hlt0 ccl0
 cases q1 : (x == 40) with
 | true =>
  rw [q1] at e40;have HONE := Zh (show oneR (bs.drop a0) = .tok 1 [40] 1 by rw [HDR.o]; simp only [oneR, q1]; simp);clear q1;have hst : ∀ v : Int, v = (a0 : Int) + 1 -> RdAt (W2.setCell ⟨R, 1, none⟩ (.int .i64 v)) R p c bs (a0 + 1) /\ Only (· = R) W (W2.setCell ⟨R, 1, none⟩ (.int .i64 v)) /\ TokB (W2.setCell ⟨R, 1, none⟩ (.int .i64 v)) B := fun v hv => ⟨HR2.o.set (by omega) (by have := HLT.o; omega), HO2.o.trans (qap _ _ _ _), HT2.o.only (qap _ _ _ _) (fun e => HRB.o e.symm)⟩
  obtain ⟨hr3, ho3, hT3⟩ := hst ((a0 : Int) + 1) rfl;have HR3 := Zh hr3;have HO3 := Zh ho3;obtain ⟨v0, t0⟩ := hT3.c0;obtain ⟨v1, t1⟩ := hT3.c1;obtain ⟨v2, t2⟩ := hT3.c2;have tf0 := hT3.fz 0;have tf1 := hT3.fz 1;have tf2 := hT3.fz 2;clear hT3;have hne1 : ¬ R = B := HRB.o;have hne2 : ¬ B = R := fun e => HRB.o e.symm
  obtain ⟨x0, u0⟩ := HT2.o.c0;obtain ⟨x1, u1⟩ := HT2.o.c1;obtain ⟨x2, u2⟩ := HT2.o.c2;have uf0 := HT2.o.fz 0;have uf1 := HT2.o.fz 1;have uf2 := HT2.o.fz 2;clear hst hr3 ho3
  go_wp2_with fail
  obtain ⟨hO5, hR5⟩ := qbc (v0 := .int .u8 1) (v1 := .string ⟨#[40]⟩) (v2 := .int .i64 0) (Nat.le_of_eq HBB.o) HR3.o HO3.o HRB.o (fun _ => HPB.o);refine bodyPost_ret (v := .tuple #[.agg #[.int .u8 1, .string ⟨#[40]⟩, .int .i64 0], .int .i64 0]) (by simp [results, Tryz.results135, go_sem, t0, t1, t2]) rfl ⟨hO5, ?_⟩;rw [HONE.o]
  exact ⟨rfl, hR5⟩
 | false =>
  rw [q1] at e40
  cases q2 : (x == 41) with
  | true =>
   rw [q2] at e41;have HONE := Zh (show oneR (bs.drop a0) = .tok 2 [41] 1 by rw [HDR.o]; simp only [oneR, q1, q2]; simp);clear q1 q2;have hst : ∀ v : Int, v = (a0 : Int) + 1 -> RdAt (W2.setCell ⟨R, 1, none⟩ (.int .i64 v)) R p c bs (a0 + 1) /\ Only (· = R) W (W2.setCell ⟨R, 1, none⟩ (.int .i64 v)) /\ TokB (W2.setCell ⟨R, 1, none⟩ (.int .i64 v)) B := fun v hv => ⟨HR2.o.set (by omega) (by have := HLT.o; omega), HO2.o.trans (qap _ _ _ _), HT2.o.only (qap _ _ _ _) (fun e => HRB.o e.symm)⟩
   obtain ⟨hr3, ho3, hT3⟩ := hst ((a0 : Int) + 1) rfl;have HR3 := Zh hr3;have HO3 := Zh ho3;obtain ⟨v0, t0⟩ := hT3.c0;obtain ⟨v1, t1⟩ := hT3.c1;obtain ⟨v2, t2⟩ := hT3.c2;have tf0 := hT3.fz 0;have tf1 := hT3.fz 1;have tf2 := hT3.fz 2;clear hT3;have hne1 : ¬ R = B := HRB.o;have hne2 : ¬ B = R := fun e => HRB.o e.symm
   obtain ⟨x0, u0⟩ := HT2.o.c0;obtain ⟨x1, u1⟩ := HT2.o.c1;obtain ⟨x2, u2⟩ := HT2.o.c2;have uf0 := HT2.o.fz 0;have uf1 := HT2.o.fz 1;have uf2 := HT2.o.fz 2;clear hst hr3 ho3
   go_wp2_with fail
   obtain ⟨hO5, hR5⟩ := qbc (v0 := .int .u8 2) (v1 := .string ⟨#[41]⟩) (v2 := .int .i64 0) (Nat.le_of_eq HBB.o) HR3.o HO3.o HRB.o (fun _ => HPB.o);refine bodyPost_ret (v := .tuple #[.agg #[.int .u8 2, .string ⟨#[41]⟩, .int .i64 0], .int .i64 0]) (by simp [results, Tryz.results135, go_sem, t0, t1, t2]) rfl ⟨hO5, ?_⟩;rw [HONE.o]
   exact ⟨rfl, hR5⟩
  | false =>
   rw [q2] at e41
   cases q3 : (x == 124) with
   | true =>
    rw [q3] at e124;have hone := (show oneR (bs.drop a0) = quo [] (bs.drop (a0 + 1)) by rw [HDR.o]; simp only [oneR, q1, q2, q3]; simp);have hcall := qlq R p c bs a0 W2 HR2.o HLT.o;clear q1 q2 q3;generalize quo [] (bs.drop (a0 + 1)) = Q at *;have HONE := Zh hone;have HC := Zh hcall;clear hone hcall
    go_wp2_with fail
    refine (HC.o).mono ?_;rintro e w3 ⟨ho, hres⟩;have HO3 := Zh (HO2.o.trans ho);have hT3 := HT2.o.only ho (fun e => HRB.o e.symm);obtain ⟨v0, t0⟩ := hT3.c0;obtain ⟨v1, t1⟩ := hT3.c1;obtain ⟨v2, t2⟩ := hT3.c2;have tf0 := hT3.fz 0;have tf1 := hT3.fz 1;have tf2 := hT3.fz 2;clear hT3;clear ho
    match Q, HONE, hres with
    | .tok k t n, HONE, hres =>
     obtain ⟨rfl, hr⟩ := hres;have HR3 := Zh hr;clear hr;unfold tokV
     go_wp2_with fail
     obtain ⟨hO5, hR5⟩ := qbc (v0 := .int .u8 (k : Int)) (v1 := .string ⟨t.toArray⟩) (v2 := .int .i64 0) (Nat.le_of_eq HBB.o) HR3.o HO3.o HRB.o (fun _ => HPB.o);refine bodyPost_ret (v := .tuple #[.agg #[.int .u8 (k : Int), .string ⟨t.toArray⟩, .int .i64 0], .int .i64 0]) (by simp [results, Tryz.results135, go_sem, t0, t1, t2]) rfl ⟨hO5, ?_⟩;rw [HONE.o]
     exact ⟨rfl, hR5⟩
    | .err er, HONE, hres =>
     subst hres;unfold tokV
     go_wp2_with fail
     refine bodyPost_ret (v := .tuple #[tokV 0 [] 0, .int .i64 (er : Int)]) (by simp [results, Tryz.results135, go_sem, t0, t1, t2, tokV]) rfl ⟨?_, ?_⟩
     ·exact (((HO3.o).new (Nat.le_of_eq HBB.o)).new (Nat.le_of_eq HBB.o)).new (Nat.le_of_eq HBB.o)
     ·rw [HONE.o]; try rfl
   | false =>
    rw [q3] at e124
    cases q4 : (x == 34) with
    | true =>
     rw [q4] at e34;have hone := (show oneR (bs.drop a0) = lit false [] 1 (bs.drop (a0 + 1)) by rw [HDR.o]; simp only [oneR, q1, q2, q3, q4]; simp);have hcall := qjo R p c bs a0 W2 HR2.o HLT.o;clear q1 q2 q3 q4;generalize lit false [] 1 (bs.drop (a0 + 1)) = Q at *;have HONE := Zh hone;have HC := Zh hcall;clear hone hcall
     go_wp2_with fail
     refine (HC.o).mono ?_;rintro e w3 ⟨ho, hres⟩;have HO3 := Zh (HO2.o.trans ho);have hT3 := HT2.o.only ho (fun e => HRB.o e.symm);obtain ⟨v0, t0⟩ := hT3.c0;obtain ⟨v1, t1⟩ := hT3.c1;obtain ⟨v2, t2⟩ := hT3.c2;have tf0 := hT3.fz 0;have tf1 := hT3.fz 1;have tf2 := hT3.fz 2;clear hT3;clear ho
     match Q, HONE, hres with
     | .tok k t n, HONE, hres =>
      obtain ⟨rfl, hr⟩ := hres;have HR3 := Zh hr;clear hr;unfold tokV
      go_wp2_with fail
      obtain ⟨hO5, hR5⟩ := qbc (v0 := .int .u8 (k : Int)) (v1 := .string ⟨t.toArray⟩) (v2 := .int .i64 0) (Nat.le_of_eq HBB.o) HR3.o HO3.o HRB.o (fun _ => HPB.o);refine bodyPost_ret (v := .tuple #[.agg #[.int .u8 (k : Int), .string ⟨t.toArray⟩, .int .i64 0], .int .i64 0]) (by simp [results, Tryz.results135, go_sem, t0, t1, t2]) rfl ⟨hO5, ?_⟩;rw [HONE.o]
      exact ⟨rfl, hR5⟩
     | .err er, HONE, hres =>
      subst hres;unfold tokV
      go_wp2_with fail
      refine bodyPost_ret (v := .tuple #[tokV 0 [] 0, .int .i64 (er : Int)]) (by simp [results, Tryz.results135, go_sem, t0, t1, t2, tokV]) rfl ⟨?_, ?_⟩
      ·exact (((HO3.o).new (Nat.le_of_eq HBB.o)).new (Nat.le_of_eq HBB.o)).new (Nat.le_of_eq HBB.o)
      ·rw [HONE.o]; try rfl
    | false =>
     rw [q4] at e34
     cases q5 : (x == 58) with
     | true =>
      rw [q5] at e58;have hone := (show oneR (bs.drop a0) = keyR (qas (bs.drop (a0 + 1))) by rw [HDR.o]; simp only [oneR, q1, q2, q3, q4, q5]; simp);have hcall := qju R p c bs a0 W2 HR2.o HLT.o;clear q1 q2 q3 q4 q5;generalize keyR (qas (bs.drop (a0 + 1))) = Q at *;have HONE := Zh hone;have HC := Zh hcall;clear hone hcall
      go_wp2_with fail
      refine (HC.o).mono ?_;rintro e w3 ⟨ho, hres⟩;have HO3 := Zh (HO2.o.trans ho);have hT3 := HT2.o.only ho (fun e => HRB.o e.symm);obtain ⟨v0, t0⟩ := hT3.c0;obtain ⟨v1, t1⟩ := hT3.c1;obtain ⟨v2, t2⟩ := hT3.c2;have tf0 := hT3.fz 0;have tf1 := hT3.fz 1;have tf2 := hT3.fz 2;clear hT3;clear ho
      match Q, HONE, hres with
      | .tok k t n, HONE, hres =>
       obtain ⟨rfl, hr⟩ := hres;have HR3 := Zh hr;clear hr;unfold tokV
       go_wp2_with fail
       obtain ⟨hO5, hR5⟩ := qbc (v0 := .int .u8 (k : Int)) (v1 := .string ⟨t.toArray⟩) (v2 := .int .i64 0) (Nat.le_of_eq HBB.o) HR3.o HO3.o HRB.o (fun _ => HPB.o);refine bodyPost_ret (v := .tuple #[.agg #[.int .u8 (k : Int), .string ⟨t.toArray⟩, .int .i64 0], .int .i64 0]) (by simp [results, Tryz.results135, go_sem, t0, t1, t2]) rfl ⟨hO5, ?_⟩;rw [HONE.o]
       exact ⟨rfl, hR5⟩
      | .err er, HONE, hres =>
       subst hres;unfold tokV
       go_wp2_with fail
       refine bodyPost_ret (v := .tuple #[tokV 0 [] 0, .int .i64 (er : Int)]) (by simp [results, Tryz.results135, go_sem, t0, t1, t2, tokV]) rfl ⟨?_, ?_⟩
       ·exact (((HO3.o).new (Nat.le_of_eq HBB.o)).new (Nat.le_of_eq HBB.o)).new (Nat.le_of_eq HBB.o)
       ·rw [HONE.o]; try rfl
     | false =>
      rw [q5] at e58
      cases q6 : (x == 35) with
      | true =>
       rw [q6] at e35;have hone := (show oneR (bs.drop a0) = qbs (qas (bs.drop (a0 + 1))) by rw [HDR.o]; simp only [oneR, q1, q2, q3, q4, q5, q6]; simp);have hcall := qow R p c bs a0 W2 HR2.o HLT.o;clear q1 q2 q3 q4 q5 q6;generalize qbs (qas (bs.drop (a0 + 1))) = Q at *;have HONE := Zh hone;have HC := Zh hcall;clear hone hcall
       go_wp2_with fail
       refine (HC.o).mono ?_;rintro e w3 ⟨ho, hres⟩;have HO3 := Zh (HO2.o.trans ho);have hT3 := HT2.o.only ho (fun e => HRB.o e.symm);obtain ⟨v0, t0⟩ := hT3.c0;obtain ⟨v1, t1⟩ := hT3.c1;obtain ⟨v2, t2⟩ := hT3.c2;have tf0 := hT3.fz 0;have tf1 := hT3.fz 1;have tf2 := hT3.fz 2;clear hT3;clear ho
       match Q, HONE, hres with
       | .tok k t n, HONE, hres =>
        obtain ⟨rfl, hr⟩ := hres;have HR3 := Zh hr;clear hr;unfold tokV
        go_wp2_with fail
        obtain ⟨hO5, hR5⟩ := qbc (v0 := .int .u8 (k : Int)) (v1 := .string ⟨t.toArray⟩) (v2 := .int .i64 0) (Nat.le_of_eq HBB.o) HR3.o HO3.o HRB.o (fun _ => HPB.o);refine bodyPost_ret (v := .tuple #[.agg #[.int .u8 (k : Int), .string ⟨t.toArray⟩, .int .i64 0], .int .i64 0]) (by simp [results, Tryz.results135, go_sem, t0, t1, t2]) rfl ⟨hO5, ?_⟩;rw [HONE.o]
        exact ⟨rfl, hR5⟩
       | .err er, HONE, hres =>
        subst hres;unfold tokV
        go_wp2_with fail
        refine bodyPost_ret (v := .tuple #[tokV 0 [] 0, .int .i64 (er : Int)]) (by simp [results, Tryz.results135, go_sem, t0, t1, t2, tokV]) rfl ⟨?_, ?_⟩
        ·exact (((HO3.o).new (Nat.le_of_eq HBB.o)).new (Nat.le_of_eq HBB.o)).new (Nat.le_of_eq HBB.o)
        ·rw [HONE.o]; try rfl
      | false =>
       rw [q6] at e35
       cases q7 : syB x with
       | true =>
        rw [q7] at an
        have hone : oneR (bs.drop a0) = qba (qas (bs.drop a0)) := by
         rw [HDR.o];simp only [oneR, q1, q2, q3, q4, q5, q6, q7];simp
        have hcall := qid R p c bs a0 W2 HR2.o HLT.o (by have := HX.o; rw [<- this] at q7; exact q7);clear q1 q2 q3 q4 q5 q6 q7;generalize qba (qas (bs.drop a0)) = Q at *;have HONE := Zh hone;have HC := Zh hcall;clear hone hcall
        go_wp2_with fail
        refine (HC.o).mono ?_;rintro e w3 ⟨ho, hres⟩;have HO3 := Zh (HO2.o.trans ho);have hT3 := HT2.o.only ho (fun e => HRB.o e.symm);obtain ⟨v0, t0⟩ := hT3.c0;obtain ⟨v1, t1⟩ := hT3.c1;obtain ⟨v2, t2⟩ := hT3.c2;have tf0 := hT3.fz 0;have tf1 := hT3.fz 1;have tf2 := hT3.fz 2;clear hT3;clear ho
        match Q, HONE, hres with
        | .tok k t n, HONE, hres =>
         obtain ⟨rfl, hr⟩ := hres;have HR3 := Zh hr;clear hr;unfold tokV
         go_wp2_with fail
         obtain ⟨hO5, hR5⟩ := qbc (v0 := .int .u8 (k : Int)) (v1 := .string ⟨t.toArray⟩) (v2 := .int .i64 0) (Nat.le_of_eq HBB.o) HR3.o HO3.o HRB.o (fun _ => HPB.o);refine bodyPost_ret (v := .tuple #[.agg #[.int .u8 (k : Int), .string ⟨t.toArray⟩, .int .i64 0], .int .i64 0]) (by simp [results, Tryz.results135, go_sem, t0, t1, t2]) rfl ⟨hO5, ?_⟩;rw [HONE.o]
         exact ⟨rfl, hR5⟩
        | .err er, HONE, hres =>
         subst hres;unfold tokV
         go_wp2_with fail
         refine bodyPost_ret (v := .tuple #[tokV 0 [] 0, .int .i64 (er : Int)]) (by simp [results, Tryz.results135, go_sem, t0, t1, t2, tokV]) rfl ⟨?_, ?_⟩
         ·exact (((HO3.o).new (Nat.le_of_eq HBB.o)).new (Nat.le_of_eq HBB.o)).new (Nat.le_of_eq HBB.o)
         ·rw [HONE.o]; try rfl
       | false =>
        rw [q7] at an;have HONE := Zh (show oneR (bs.drop a0) = .err 30 by rw [HDR.o]; simp only [oneR, q1, q2, q3, q4, q5, q6, q7]; simp);clear q1 q2 q3 q4 q5 q6 q7;have HR3 := HR2;have HO3 := HO2;have hT3 := HT2.o;obtain ⟨v0, t0⟩ := hT3.c0;obtain ⟨v1, t1⟩ := hT3.c1;obtain ⟨v2, t2⟩ := hT3.c2;have tf0 := hT3.fz 0;have tf1 := hT3.fz 1;have tf2 := hT3.fz 2;clear hT3
        go_wp2_with fail
        refine bodyPost_ret (v := .tuple #[tokV 0 [] 0, .int .i64 30]) (by simp [results, Tryz.results135, go_sem, t0, t1, t2, tokV]) rfl ⟨?_, ?_⟩
        ·exact (((HO3.o).new (Nat.le_of_eq HBB.o)).new (Nat.le_of_eq HBB.o)).new (Nat.le_of_eq HBB.o)
        ·rw [HONE.o]; try rfl
end Go.Proofs.YtookoagcmejkpaaGreatDoor.Lx
namespace Go.Proofs.YtookoagcmejkpaaGreatDoor
set_option maxRecDepth 100000
open Go Go.RowKit
theorem qtt (w : World) (o1 o2 : Obj) : Below w.heap.size w ((w.alloc o1).alloc o2) :=
 ((Below.refl _ _).alloc (Nat.le_refl _) _).alloc (by simp) _
end Go.Proofs.YtookoagcmejkpaaGreatDoor
namespace Go.Proofs.YtookoagcmejkpaaGreatDoor
set_option maxRecDepth 100000
open Go Go.RowKit Go.Sort
theorem ql8 (w : World) (k : Nat) (os : Array Obj) : Below w.heap.size w (grow (w.drewN k) os) :=
 ⟨rfl, rfl, rfl, by simp [grow], fun j hj => by simp [grow, Array.getElem?_append_left, hj]⟩

theorem qak {w w' : World} {name : String} {k : IntKind} {zs : List Int} (h : Lib.TabIs Tryz.prog w name k zs) (hb : Below w.heap.size w w') : Lib.TabIs Tryz.prog w' name k zs := by
 unfold Lib.TabIs World.var? at *
 cases hg : Tryz.prog.globalNamed name with
 | none => simp [hg] at h
 | some g =>
  simp only [hg, Option.bind_some] at h ⊢
  have hlt : g < w.heap.size := by
   rcases Nat.lt_or_ge g w.heap.size with h' | h'
   ·exact h'
   ·rw [Array.getElem?_eq_none h'] at h; simp at h
  rw [hb.block g hlt];exact h

theorem qtr (u : Nat) (h : u < 18446744073709551616) : (Lib.decDigits u).length <= 20 := by
 rw [Lib.decDigits_length]
 by_cases h1 : 1 <= u
 ·have := Lib.numDigits_eq u h1 h; split at this <;> omega
 ·rw [Lib.nDigits_small (by omega)]; omega
end Go.Proofs.YtookoagcmejkpaaGreatDoor
namespace Go.Proofs.YtookoagcmejkpaaGreatDoor
set_option maxRecDepth 100000
open Go Go.RowKit
theorem sI {α : Type _} {l : List α} {i : Nat} {a : α} : l.toArray.setIfInBounds i a = (l.set i a).toArray := List.setIfInBounds_toArray ..
theorem s0 {α : Type _} {a : α} {l : List α} {b : α} : (a :: l).set 0 b = b :: l := List.set_cons_zero
theorem s1 {α : Type _} {a : α} {l : List α} {i : Nat} {b : α} : (a :: l).set (i + 1) b = a :: l.set i b := List.set_cons_succ
section
variable {P : Program} {ops : Array Oper} {Q : Exit -> Act -> World -> Prop} {md : Region.Mode} {ks : List (Nat × (World -> Prop))}
def SL (ks : List (Nat × (World -> Prop))) (l : Array Bool) (w : World) : Prop := ∀ p ∈ ks, l.getD p.1 false = false -> p.2 w
theorem SL.nil {l : Array Bool} {w : World} : SL [] l w := fun _ h => by cases h
theorem SL.cons {k : Nat} {T : World -> Prop} {l : Array Bool} {w : World} (h : l.getD k false = false -> T w) (hs : SL ks l w) : SL ((k, T) :: ks) l w := fun p hp => by
 rcases List.mem_cons.1 hp with rfl | hp
 ·exact h
 ·exact hs p hp
theorem SL.listed {l : Array Bool} {w : World} (h : SL ks l w) (i : Nat) : SL ks (l.setIfInBounds i true) w := fun p hp hl => h p hp (by
 cases hb : l.getD p.1 false with
 | false => rfl
 | true => rw [getD_set_true hb] at hl; cases hl)
def qcb (P : Program) (md : Region.Mode) (ops : Array Oper) (Q : Exit -> Act -> World -> Prop) (ks : List (Nat × (World -> Prop))) : Nat -> Array Bool -> Act -> World -> Prop
 | 0, listed, a, w => Region.ready md ops listed = [] /\ Q .normal a w
 | fuel + 1, listed, a, w =>
  (Region.ready md ops listed = [] -> Q .normal a w) ∧
  ∀ i ∈ Region.ready md ops listed, wpOp P ops Q i (fun a' w' => SL ks (listed.setIfInBounds i true) w' /\ qcb P md ops Q ks fuel (listed.setIfInBounds i true) a' w') a w
theorem qgl : ∀ (fuel : Nat) (listed : Array Bool) (a : Act) (w : World), qcb P md ops Q ks fuel listed a w -> wpAny P md ops Q fuel listed a w
 | 0, _, _, _, h => h
 | fuel + 1, _, _, _, h => ⟨h.1, fun i hi => wpOp_mono (fun a' w' h' => qgl fuel _ a' w' h'.2) (h.2 i hi)⟩
theorem qh3 {i : Nat} {oi : Oper} {v : Value} (k : Nat) (T : World -> Prop) (hT : (k, T) ∈ ks) (hn : ∀ p ∈ ks, p.1 ≠ i) (hk : ∀ ok, ops[k]? = some ok -> ∃ e ∈ ok.after, Region.binds md e = true /\ e.on = i) (hi : ops[i]? = some oi) (hsel : ∀ (j : Nat) (o : Oper) cs b, ops[j]? = some o -> o.op ≠ .select cs b)
  (hQ : ∀ c a w, Q (.panic c) (a.put oi.dst v) w -> Q (.panic c) a w) :
  ∀ (fuel : Nat) (listed : Array Bool) (a : Act) (w : World),
   (∀ j oj, ops[j]? = some oj -> j ≠ i -> listed.getD j true = false -> (∀ e ∈ oj.after, Region.binds md e = true -> e.on ≠ i) -> oi.apart ops oj = true) →
   i ∈ Region.ready md ops listed -> YieldsIf P ops T oi v a -> SL ks listed w -> listed.getD k false = false →
   qcb P md ops Q ks fuel (listed.setIfInBounds i true) (a.put oi.dst v) w -> qcb P md ops Q ks (fuel + 1) listed a w := by
 intro fuel
 induction fuel with
 | zero =>
  intro listed a w _ hr hy hS hl H;refine ⟨fun h => (by rw [h] at hr; cases hr), fun j hj => ?_⟩
  by_cases hji : j = i
  ·subst hji; exact hy.wpOp hi (hS _ hT hl) ⟨hS.listed _, H⟩
  ·have := ready_mono hj hji
   rw [H.1] at this
   cases this
 | succ fuel ih =>
  intro listed a w hfree hr hy hS hl H;refine ⟨fun h => (by rw [h] at hr; cases hr), fun j hj => ?_⟩
  by_cases hji : j = i
  ·subst hji; exact hy.wpOp hi (hS _ hT hl) ⟨hS.listed _, H⟩
  ·have h1 := H.2 j (ready_mono hj hji)
   obtain ⟨hjun, oj, hoj, hall⟩ := mem_ready.1 hj
   have hnot : ∀ e ∈ oj.after, Region.binds md e = true -> e.on ≠ i := fun e he hb heq => by
    have h1 := hall e he hb;have h0 := (mem_ready.1 hr).1;rw [heq] at h1;rcases Nat.lt_or_ge i listed.size with h' | h'
    ·simp [h'] at h0 h1; rw [h0] at h1; cases h1
    ·simp [Array.getElem?_eq_none h'] at h1
   have hjk : j ≠ k := fun e => by
    subst e;obtain ⟨e, he, hb, ho⟩ := hk oj hoj;exact hnot e he hb ho
   have h2 := wpOp_putIf hoj (hfree j oj hoj hji hjun hnot) (fun cs b => hsel i oi cs b hi) (fun cs b => hsel j oj cs b hoj) hQ hy h1
   have hfree' : ∀ k ok, ops[k]? = some ok -> k ≠ i -> (listed.setIfInBounds j true).getD k true = false →
     (∀ e ∈ ok.after, Region.binds md e = true -> e.on ≠ i) -> oi.apart ops ok = true := fun k ok hk hki hun hno => by
    refine hfree k ok hk hki ?_ hno
    by_cases hjk : j = k
    ·subst hjk; exact hjun
    ·rw [getD_set_ne true hjk] at hun; exact hun
   refine wpOp_mono (fun a' w' h3 => ?_) h2;obtain ⟨hy', hs', hw'⟩ := h3
   have hs2 : SL ks (listed.setIfInBounds j true) w' := fun p hp hl2 => hs' p hp (by
    rw [Array.setIfInBounds_comm _ _ (Ne.symm hji), getD_set_ne false (Ne.symm (hn p hp))]
    exact hl2)
   refine ⟨hs2, ih (listed.setIfInBounds j true) a' w' hfree' (ready_mono hr (Ne.symm hji)) hy' hs2 (by rw [getD_set_ne false hjk]; exact hl) ?_⟩;rw [Array.setIfInBounds_comm _ _ hji];exact hw'
def qn6 (md : Region.Mode) (ops : Array Oper) (i k : Nat) : Bool := match ops[k]? with
 | none => true
 | some o => o.after.toList.any fun e => Region.binds md e && e.on == i
theorem ql3 {i k : Nat} (h : qn6 md ops i k = true) : ∀ ok, ops[k]? = some ok -> ∃ e ∈ ok.after, Region.binds md e = true /\ e.on = i := fun ok hk => by
 unfold qn6 at h;rw [hk] at h;obtain ⟨e, he, hb⟩ := List.any_eq_true.1 h;simp at hb;exact ⟨e, by simpa using he, hb.1, hb.2⟩
theorem qfu {i : Nat} {oi : Oper} {v : Value} {fuel : Nat} {listed : Array Bool} {a : Act} {w : World} (n k : Nat) (T : World -> Prop) (hi : ops[i]? = some oi)
  (hs : Region.noSelect ops = true) (hf : Region.free md ops listed i = true) (hr : (Region.ready md ops listed).contains i = true)
  (hQ : ∀ c a w, Q (.panic c) (a.put oi.dst v) w -> Q (.panic c) a w) (hT : ks[n]? = some (k, T)) (hn : (ks.map (·.1)).contains i = false) (hk : qn6 md ops i k = true) (hl : listed.getD k false = false) (hy : YieldsIf P ops T oi v a) (hS : SL ks listed w)
  (h : SL ks (listed.setIfInBounds i true) w -> qcb P md ops Q ks fuel (listed.setIfInBounds i true) (a.put oi.dst v) w) : qcb P md ops Q ks (fuel + 1) listed a w :=
 qh3 k T (List.mem_of_getElem? hT) (fun p hp e => by
  have : (ks.map (·.1)).contains i = true := by rw [List.contains_iff_mem]; exact List.mem_map.2 ⟨p, hp, e⟩
  rw [hn] at this; cases this) (ql3 hk) hi (Region.noSelect_spec hs) hQ fuel listed a w (Region.free_spec hi hf) (by simpa using hr) hy hS hl (h (hS.listed i))
def AllReadyL (P : Program) (md : Region.Mode) (ops : Array Oper) (Q : Exit -> Act -> World -> Prop) (ks : List (Nat × (World -> Prop))) (fuel : Nat) (listed : Array Bool) (a : Act) (w : World) (rs : List Nat) : Prop :=
 ∀ i ∈ rs, wpOp P ops Q i (fun a' w' => SL ks (listed.setIfInBounds i true) w' /\ qcb P md ops Q ks fuel (listed.setIfInBounds i true) a' w') a w
theorem AllReadyL.nil {fuel : Nat} {listed : Array Bool} {a : Act} {w : World} : AllReadyL P md ops Q ks fuel listed a w [] := fun _ h => by cases h
theorem AllReadyL.cons {fuel : Nat} {listed : Array Bool} {a : Act} {w : World} {i : Nat} {o : Oper} {rs : List Nat} (ho : ops[i]? = some o)
  (h : ∀ K' : Act -> World -> Prop, Shut (∀ a w, SL ks (listed.setIfInBounds i true) w -> (SL ks (listed.setIfInBounds i true) w -> qcb P md ops Q ks fuel (listed.setIfInBounds i true) a w) -> K' a w) -> if Region.wanted o (yielded ops a.tmps) = true then Oper.wp P o a w K' Q else K' (a.put o.dst undef) w)
  (hs : AllReadyL P md ops Q ks fuel listed a w rs) : AllReadyL P md ops Q ks fuel listed a w (i :: rs) := fun j hj => by
 rcases List.mem_cons.1 hj with rfl | hj
 ·exact wpOp_step ho (fun K' hK => h K' (fun a w hS hW => hK a w ⟨hS, hW hS⟩))
 ·exact hs j hj
theorem qac {rs : List Nat} {fuel : Nat} {listed : Array Bool} {a : Act} {w : World} (hr : Region.ready md ops listed = rs) (hne : rs ≠ [])
  (h : AllReadyL P md ops Q ks fuel listed a w rs) : qcb P md ops Q ks (fuel + 1) listed a w := ⟨fun h0 => absurd (hr ▸ h0) hne, hr ▸ h⟩
theorem qah {listed : Array Bool} {a : Act} {w : World} (hr : Region.ready md ops listed = []) (h : Q .normal a w) :
  ∀ fuel, qcb P md ops Q ks fuel listed a w
 | 0 => ⟨hr, h⟩
 | _ + 1 => ⟨fun _ => h, by rw [hr]; simp⟩
theorem qai (ks : List (Nat × (World -> Prop))) {id : Nat} {a : Act} {w : World} (hm : P.follows .mixedOrders = true) (hS : SL ks (Array.replicate ops.size false) w.drew)
  (h : SL ks (Array.replicate ops.size false) w.drew -> qcb P .any ops Q ks ops.size (Array.replicate ops.size false) a w.drew) : (Code.region id ops true).wp P Q a w :=
 wp_region_any hm (qgl _ _ _ _ (h hS))
theorem tk {fuel k : Nat} {T : World -> Prop} {listed : Array Bool} {a : Act} {w : World} (n i : Nat) (oi : Oper) (v : Value) (hi : ops[i]? = some oi) (hT : ks[n]? = some (k, T)) (hy : ∀ w, T w -> (execOp a.eval oi).run P w = .ok (.value v) w) (hS : SL ks listed w)
  (h : SL ks (listed.setIfInBounds i true) w -> qcb P md ops Q ks fuel (listed.setIfInBounds i true) (a.put oi.dst v) w)
  (hs : Region.noSelect ops = true := by kernel_rfl) (hf : Region.free md ops listed i = true := by kernel_rfl) (hr : (Region.ready md ops listed).contains i = true := by kernel_rfl)
  (hQ : ∀ c a w, Q (.panic c) (a.put oi.dst v) w -> Q (.panic c) a w := by exact fun _ _ _ h => h) (hn : (ks.map (·.1)).contains i = false := by kernel_rfl) (hk : qn6 md ops i k = true := by kernel_rfl) (hl : listed.getD k false = false := by kernel_rfl) (hw : Region.wanted oi (yielded ops a.tmps) = true := by rfl) : qcb P md ops Q ks (fuel + 1) listed a w :=
 qfu n k T hi hs hf hr hQ hT hn hk hl (.inl ⟨hw, hy⟩) hS h
theorem tu {fuel k : Nat} {T : World -> Prop} {listed : Array Bool} {a : Act} {w : World} (n i : Nat) (oi : Oper) (hi : ops[i]? = some oi) (hT : ks[n]? = some (k, T)) (hS : SL ks listed w)
  (h : SL ks (listed.setIfInBounds i true) w -> qcb P md ops Q ks fuel (listed.setIfInBounds i true) (a.put oi.dst undef) w)
  (hs : Region.noSelect ops = true := by kernel_rfl) (hf : Region.free md ops listed i = true := by kernel_rfl) (hr : (Region.ready md ops listed).contains i = true := by kernel_rfl)
  (hQ : ∀ c a w, Q (.panic c) (a.put oi.dst undef) w -> Q (.panic c) a w := by exact fun _ _ _ h => h) (hn : (ks.map (·.1)).contains i = false := by kernel_rfl) (hk : qn6 md ops i k = true := by kernel_rfl) (hl : listed.getD k false = false := by kernel_rfl) (hw : Region.wanted oi (yielded ops a.tmps) = false := by rfl) : qcb P md ops Q ks (fuel + 1) listed a w :=
 qfu n k T hi hs hf hr hQ hT hn hk hl (.inr ⟨hw, rfl⟩) hS h
end
end Go.Proofs.YtookoagcmejkpaaGreatDoor
namespace Go.Proofs.YtookoagcmejkpaaGreatDoor
open Go Go.RowKit Go.Maps
def qdh (v : Value) : Option (DataW Value × List MemPlace) := some (.held v, [])
structure FMap (W : World) (kt : TypeId) (m : Nat) (f : Lit -> Option Value) (n : Nat) : Prop where
 has : ∃ D, W.ownsMap Tryz.prog kt qdh m n D /\ Maps.size D = n /\ Tidy D /\ (∀ kl, KeysOf Tryz.prog kt kl -> Maps.has D kl = (f kl).isSome) /\ ∀ kl v, KeysOf Tryz.prog kt kl -> f kl = some v -> ∀ z, D.atKey kl z = .held v
theorem qhb {P : Program} {w : World} {k : TypeId} {b n : Nat} {D : DataW Value} (h : w.ownsMap P k qdh b n D) : w.ownsMap P k qdh b (Maps.size D) D := by
 obtain ⟨es, cl, h1, h2, h3, rfl⟩ := h;exact ⟨es, cl, h1, h2, by show es.size <= Maps.size _; rw [Maps.size_eq, length_sorted]; simp, rfl⟩
theorem qif {P : Program} {w w' : World} {k : TypeId} {b n : Nat} {D : DataW Value} {T : Nat -> Prop} (h : w.ownsMap P k qdh b n D) (ho : Only T w w') (hn : ¬ T b) : w'.ownsMap P k qdh b n D := by
 obtain ⟨es, cl, h1, h2⟩ := h;refine ⟨es, cl, ?_, h2⟩;rw [<- h1]
 exact ho.block b (by
  rcases Nat.lt_or_ge b w.heap.size with h | h
  ·exact h
  ·rw [Array.getElem?_eq_none h] at h1; cases h1) hn
section
variable {W : World} {kt : TypeId} {m : Nat} {f : Lit -> Option Value} {n : Nat}
theorem FMap.only {W' : World} {T : Nat -> Prop} (h : FMap W kt m f n) (ho : Only T W W') (hn : ¬ T m) : FMap W' kt m f n := by
 obtain ⟨D, h1, h2⟩ := h.has;exact ⟨D, qif h1 ho hn, h2⟩
theorem FMap.lt (h : FMap W kt m f n) : m < W.heap.size := by obtain ⟨D, h1, _⟩ := h.has; exact h1.lt
theorem FMap.later {W' : World} (h : FMap W kt m f n) (hb : Below W.heap.size W W') : FMap W' kt m f n := h.only (Only.of_below (T := fun _ => False) hb) (fun h => h)
theorem FMap.made (w : World) (kt : TypeId) : FMap (w.alloc (.map #[] 0)) kt w.heap.size (fun _ => none) 0 :=
 ⟨.map [], World.ownsMap_made w Tryz.prog kt qdh, rfl, tidy_empty, fun _ _ => rfl, fun _ _ _ h => by cases h⟩
theorem FMap.look_ok {t e : TypeId} (h : FMap W kt m f n) (K : Keyed Tryz.prog kt) (ht : Tryz.prog.underlying t = some (.map kt e)) {z : Value} (hz : (zeroValue e).run Tryz.prog W = .ok z W) {key : Value} {kl : Lit} (hkey : keyOf Tryz.prog kt key = some kl) :
  (Instr.lookup t (.map (some m)) key true).run Tryz.prog W = .ok (.tuple #[(f kl).getD z, .bool (f kl).isSome]) W := by
 obtain ⟨D, h1, _, _, h4, h5⟩ := h.has;obtain ⟨v, ps, hr, hv⟩ := h1.look_ok K ht hz (show qdh z = some (.held z, []) from rfl) hkey;rw [hr, h4 kl ⟨_, hkey⟩];have hv2 : (DataW.held v, ([] : List MemPlace)) = (D.atKey kl (.held z), ps) := Option.some.inj hv;have e1 : DataW.held v = D.atKey kl (.held z) := congrArg Prod.fst hv2
 cases hf : f kl with
 | none =>
  have hn : Maps.has D kl = false := by rw [h4 kl ⟨_, hkey⟩, hf]; rfl
  rw [atKey_of_not_has hn] at e1;cases e1
  rfl
 | some u =>
  rw [h5 kl u ⟨_, hkey⟩ hf] at e1;cases e1
  rfl
theorem FMap.look {t e : TypeId} (h : FMap W kt m f n) (K : Keyed Tryz.prog kt) (ht : Tryz.prog.underlying t = some (.map kt e)) {z : Value} (hz : (zeroValue e).run Tryz.prog W = .ok z W) {key : Value} {kl : Lit} (hkey : keyOf Tryz.prog kt key = some kl) :
  (Instr.lookup t (.map (some m)) key false).run Tryz.prog W = .ok ((f kl).getD z) W := by
 obtain ⟨D, h1, _, _, h4, h5⟩ := h.has;obtain ⟨v, ps, hr, hv⟩ := h1.lookup K ht hz (show qdh z = some (.held z, []) from rfl) hkey;rw [hr];have hv2 : (DataW.held v, ([] : List MemPlace)) = (D.atKey kl (.held z), ps) := Option.some.inj hv;have e1 : DataW.held v = D.atKey kl (.held z) := congrArg Prod.fst hv2
 cases hf : f kl with
 | none =>
  have hn : Maps.has D kl = false := by rw [h4 kl ⟨_, hkey⟩, hf]; rfl
  rw [atKey_of_not_has hn] at e1;cases e1
  rfl
 | some u =>
  rw [h5 kl u ⟨_, hkey⟩ hf] at e1;cases e1
  rfl
open Classical in
noncomputable
def updF (f : Lit -> Option Value) (kl : Lit) (v : Option Value) : Lit -> Option Value := fun k => @ite _ (k = kl) (Classical.propDecidable _) v (f k)
theorem FMap.put {t e : TypeId} (h : FMap W kt m f n) (K : Keyed Tryz.prog kt) (ht : Tryz.prog.underlying t = some (.map kt e)) (hn : n < maxLen) {key : Value} {kl : Lit} (hkey : keyOf Tryz.prog kt key = some kl) (v : Value) :
  ∃ w', (Instr.mapUpdate t (.map (some m)) key v).run Tryz.prog W = .ok () w' /\ FMap w' kt m (updF f kl (some v)) (if (f kl).isSome then n else n + 1) /\ W.grownBy w' (some m) := by
 obtain ⟨D, h1, h2, h3, h4, h5⟩ := h.has;obtain ⟨w', hr, ho, hg⟩ := h1.update K ht hn hkey (show qdh v = some (.held v, []) from rfl);refine ⟨w', hr, ⟨D.put kl (.held v), ?_, ?_, ?_, ?_, ?_⟩, hg⟩
 ·have := qhb ho
  rw [size_put h3, h2, h4 kl ⟨_, hkey⟩] at this;exact this
 ·rw [size_put h3, h2, h4 kl ⟨_, hkey⟩]
 ·exact h3.put (K.key hkey) _
 ·intro k hk
  unfold updF
  by_cases e : k = kl
  ·subst e; rw [if_pos rfl, has_put_same h3.isMap (K.key hkey)]; rfl
  ·rw [if_neg e, has_put_other e]; exact h4 k hk
 ·intro k u hk hu z
  unfold updF at hu
  by_cases e : k = kl
  ·subst e
   rw [if_pos rfl] at hu;cases hu;exact atKey_put_same h3.isMap (K.key hkey) _ z
  ·rw [if_neg e] at hu
   rw [atKey_put_other e];exact h5 k u hk hu z
end
section
variable {w : World} {ops : Array Oper} {rest : List Oper} {o : Oper} {a : Act} {Q : Exit -> Act -> World -> Prop}
theorem qfs {K : Act -> World -> Prop} {t : TypeId} {m x : Operand} {ok : Bool} (hop : o.op = Op.lookup t m x ok) {mv key u : Value} (hm : a.eval m = mv) (hx : a.eval x = key) (hr : (Instr.lookup t mv key ok).run Tryz.prog w = .ok u w) (h : K (a.put o.dst u) w) : o.wp Tryz.prog a w K Q := by
 unfold Oper.wp;simp [execOp, hop, hm, hx, hr, Result.andThen];exact h
end
end Go.Proofs.YtookoagcmejkpaaGreatDoor
namespace Go.Proofs.YtookoagcmejkpaaGreatDoor
set_option maxRecDepth 100000
open Go Go.RowKit
def ClIn (w : World) (b : Nat) (l : List Int) : Prop := ∀ i (hi : i < l.length), w.cell? ⟨b, i, none⟩ = some (.int .u8 l[i]) /\ w.frozen? ⟨b, i, none⟩ = false
def orS (k : Int) (l : List Int) (c : UInt8) : List Int := l.set c.toNat (bits .or .u8 (l.getD c.toNat 0) k)
theorem qni {k : Int} {l : List Int} {c : UInt8} : (orS k l c).length = l.length := by simp [orS]
theorem ClIn.put {w : World} {b : Nat} {l : List Int} (h : ClIn w b l) (j : Nat) (n : Int) (hj : j < l.length) : ClIn (w.setCell ⟨b, j, none⟩ (.int .u8 n)) b (l.set j n) := fun i hi => by
 have hi' : i < l.length := by simpa using hi
 rw [World.frozen?_setCell];refine ⟨?_, (h i hi').2⟩
 by_cases e : j = i
 ·subst e
  rw [World.cell?_setCell_same _ _ _ (h j hj).1];simp
 ·rw [World.cell?_setCell_other (h := fun c => e (congrArg Addr.off c)), (h i hi').1, List.getElem_set_ne e]
def adds (k : Int) (l : List Int) (s : ByteArray) : List Int := s.data.toList.foldl (orS k) l
theorem qmq {s : ByteArray} {m : Nat} (h : m < s.size) : s.data.toList.take (m + 1) = s.data.toList.take m ++ [s[m]] := by
 rw [List.take_add_one, List.getElem?_eq_getElem (show m < s.data.toList.length by simpa using h)]
 rfl
theorem qi2 (s : ByteArray) (k : Int) (b : Nat) (l : List Int) (W : World) (hl : l.length = 256) (hs : s.size <= 100) (hc : ClIn W b l) (hb : b < W.heap.size) :
  Calls Tryz.prog 130 #[.string s, .int .u8 k, .pointer (some ⟨b, 0, none⟩)] W fun e w' => e = .returned (.tuple #[]) /\ ClIn w' b (adds k l s) /\ Below b W w' := by
 have n1 : (s.size : Int) <= 100 := by omega
 have HI := Zh (aI hl (aI hc hb));go_enter Tryz.func130, Tryz.ntmps130
 go_wp2_with fail
 go_loopg [5] s.size (fun gk s5 wx => ∃ (m : Nat) (l' : List Int), m + gk = s.size /\ s5 = .int .i64 (m : Int) /\ Hid ((l'.length = 256 /\ l' = (s.data.toList.take m).foldl (orS k) l) /\ ClIn wx b l' /\ Below b W wx))
 case atStart => exact ⟨0, l, by omega, rfl, Zh ⟨⟨hl, by simp⟩, hc, Below.refl _ _⟩⟩
 case round =>
  obtain ⟨m, l', hk, rfl, HR0⟩ := hrel;have k0 : (0 : Int) <= (m : Int) := Int.natCast_nonneg m
  by_cases hlt : m < s.size
  ·have k1 : (m : Int) < (s.size : Int) := by omega
   have hi : (s[m]'hlt).toNat < l'.length := by rw [HR0.o.1.1]; exact UInt8.toNat_lt _
   have h256 : (((s[m]'hlt).toNat : Nat) : Int) < 256 := by have := UInt8.toNat_lt (s[m]'hlt); omega
   have hcell := (HR0.o.2.1 _ hi).1;have hfz := (HR0.o.2.1 _ hi).2;have HF := Zh (show Hid ((orS k l' s[m]).length = 256 /\ orS k l' s[m] = (s.data.toList.take (m + 1)).foldl (orS k) l) from Zh ⟨by rw [qni]; exact HR0.o.1.1, by rw [qmq hlt, List.foldl_append, <- HR0.o.1.2]; rfl⟩)
   have HC := Zh (show ClIn (wr.setCell ⟨b, (s[m]'hlt).toNat, none⟩ (.int .u8 (bits .or .u8 (l'[(s[m]'hlt).toNat]'hi) k))) b (orS k l' s[m]) from by
    have h := HR0.o.2.1.put (s[m]'hlt).toNat (bits .or .u8 (l'[(s[m]'hlt).toNat]'hi) k) hi;unfold orS;rw [show l'.getD (s[m]'hlt).toNat 0 = l'[(s[m]'hlt).toNat]'hi by simp [List.getD, List.getElem?_eq_getElem hi]]
    exact h)
   go_wp2_with fail
   go_roundg (gk - 1)
   case measure => omega
   case rel => exact ⟨m + 1, orS k l' s[m], by omega, (by first | rfl | simp), Zh ⟨HF.o.o, HC.o, HR0.o.2.2.setCell (Nat.le_refl _) _⟩⟩
  ·have k1 : ¬ (m : Int) < (s.size : Int) := by omega
   have hm : m = s.size := by omega
   go_wp2_with fail
   go_end0
   refine ⟨rfl, ?_, HR0.o.2.2⟩;have h := HR0.o.1.2;rw [hm, List.take_of_length_le (show s.data.toList.length <= s.size by simp)] at h;rw [adds, <- h];exact HR0.o.2.1
def qgu (i : Nat) : Bool := decide (32 <= i /\ i <= 126) || decide (127 < i)
def qli (l : List Int) (i : Nat) : List Int := if qgu i = true then l.set i (bits .or .u8 (l.getD i 0) 16) else l
def qeb (m : Nat) : List Int := (List.range m).foldl qli (List.replicate 256 0)
theorem qgv (m : Nat) : qeb (m + 1) = qli (qeb m) m := by unfold qeb; rw [List.range_succ, List.foldl_append]; rfl
theorem qm0 {l : List Int} {i : Nat} : (qli l i).length = l.length := by unfold qli; split <;> simp
theorem qd2 : ∀ m, (qeb m).length = 256
 | 0 => List.length_replicate
 | m + 1 => by rw [qgv, qm0, qd2 m]
theorem qex (k : Int) (s : ByteArray) : ∀ l, (adds k l s).length = l.length := by
 unfold adds;generalize s.data.toList = t
 induction t with
 | nil => intro l; rfl
 | cons c t ih => intro l; rw [List.foldl_cons, ih, qni]
theorem ClIn.later {w w' : World} {b n : Nat} {l : List Int} (h : ClIn w b l) (hb : Below n w w') (hn : b < n) : ClIn w' b l := fun i hi =>
 ⟨by rw [hb.cell (p := ⟨b, i, none⟩) hn]; exact (h i hi).1, by rw [hb.frozen (p := ⟨b, i, none⟩) hn]; exact (h i hi).2⟩
theorem ClIn.put_other {w : World} {b : Nat} {l : List Int} (h : ClIn w b l) (a : Addr) (v : Value) (hn : a.block ≠ b) : ClIn (w.setCell a v) b l := fun i hi => by
 rw [World.frozen?_setCell, World.cell?_setCell_other (h := fun c => hn (by rw [c]))];exact h i hi
def u8L (l : List Int) : List Value := l.map fun n => Value.int .u8 n
theorem qqx (l : List Int) : (u8L l).length = l.length := by simp [u8L]
theorem qqw (l : List Int) : ∀ v ∈ u8L l, v.oneCell' = true := fun v hv => by
 obtain ⟨n, _, rfl⟩ := List.mem_map.1 hv
 rfl
def zeros : List Int := List.replicate 256 0
theorem qhv : zeros.length = 256 := List.length_replicate
theorem ql9 : Tryz.zeroCells165 = (u8L zeros).toArray := by kernel_rfl
theorem ClIn.new (w : World) (l : List Int) : ClIn (w.alloc (.cells (u8L l).toArray 165)) w.heap.size l := fun i hi => by
 rw [World.cell?_alloc_at (hn := rfl), World.frozen?_alloc_at (hn := rfl)];refine ⟨?_, rfl⟩;simp [u8L, List.getElem?_eq_getElem hi]
theorem ClIn.range {w : World} {b : Nat} {l : List Int} (h : ClIn w b l) : w.rangeAt b 0 (u8L l) := fun j v hv => by
 obtain ⟨hj, e⟩ := List.getElem?_eq_some_iff.1 hv;have hj' : j < l.length := by simpa [u8L] using hj
 subst e;rw [Nat.zero_add, (h j hj').1];simp [u8L]
theorem ClIn.there {w : World} {b n : Nat} {l : List Int} (h : ClIn w b l) (hn : n = l.length) : w.there b 0 n := fun j hj => by
 subst hn;rw [Nat.zero_add];exact ⟨by rw [(h j hj).1]; rfl, (h j hj).2⟩
theorem Below.putCells {B b : Nat} (hb : B <= b) : ∀ (vs : List Value) (o : Nat) {W w : World}, Below B W w -> Below B W (w.setCells b o vs)
 | [], _, _, _, h => h
 | v :: vs, o, _, _, h => Below.putCells hb vs (o + 1) (h.setCell (p := ⟨b, o, none⟩) hb v)
theorem qjc {fn : Func} {p : Tmp} {ty : TypeId} (h : fn.results = #[.cell p ty]) (tmps : Array Value) (w : World) (g : Nat) (cs : List Value) (d : TypeDesc) (hp : tmps.getD p undef = .pointer (some ⟨g, 0, none⟩)) (hg : w.rangeAt g 0 cs)
  (hu : Tryz.prog.underlying ty = some d) (hd : d.isRow = true) (hi : (Tryz.prog.info? ty).map (·.size) = some cs.length) : (results fn tmps).run Tryz.prog w = .ok (.agg cs.toArray) w := by
 have hp' : tmps[p]?.getD undef = .pointer (some ⟨g, 0, none⟩) := by simpa using hp
 simp [results, h, hp', asAddr, run_loadVar_mid w g 0 ty cs d hg hu hd hi]
def cl1 : List Int := adds 16 (qeb 256) ⟨#[9, 10, 13]⟩
def cl2 : List Int := adds 1 cl1 ⟨#[9, 10, 13, 32]⟩
def symS : ByteArray := ⟨([97, 98, 99, 100, 101, 102, 103, 104, 105, 106, 107, 108, 109, 110, 111, 112, 113, 114, 115, 116, 117, 118, 119, 120, 121, 122, 65, 66, 67, 68, 69, 70, 71, 72, 73, 74, 75, 76, 77].append [78, 79, 80, 81, 82, 83, 84, 85, 86, 87, 88, 89, 90, 48, 49, 50, 51, 52, 53, 54, 55, 56, 57, 126, 33, 64, 36, 37, 94, 38, 42, 95, 45, 43, 61, 60, 62, 46, 63, 47]).toArray⟩
def cl3 : List Int := adds 2 cl2 symS
def cl4 : List Int := adds 12 cl3 ⟨#[48, 49, 50, 51, 52, 53, 54, 55, 56, 57]⟩
def cl5 : List Int := adds 8 cl4 ⟨#[97, 98, 99, 100, 101, 102, 65, 66, 67, 68, 69, 70]⟩
theorem qoq : cl1.length = 256 := by rw [cl1, qex, qd2]
theorem qop : cl2.length = 256 := by rw [cl2, qex, qoq]
theorem qoo : cl3.length = 256 := by rw [cl3, qex, qop]
theorem qon : cl4.length = 256 := by rw [cl4, qex, qoo]
theorem qr5 : cl5.length = 256 := by rw [cl5, qex, qon]
theorem ql7 (W : World) :
  Calls Tryz.prog 121 #[] W fun e w' => e = .returned (.agg (u8L cl5).toArray) /\ Below W.heap.size W w' := by
 go_enter Tryz.func121, Tryz.ntmps121
 go_wp2_with fail
 go_loopg [4] 256 (fun gk s4 wx => ∃ (m : Nat), m + gk = 256 /\ s4 = .int .i64 (m : Int) /\ Hid (ClIn wx (W.heap.size + 1) (qeb m) /\ ClIn wx W.heap.size zeros /\ Below W.heap.size W wx))
 case atStart =>
  refine ⟨0, by omega, rfl, Zh ⟨?_, ?_, ?_⟩⟩
  ·rw [ql9]
   have h := ClIn.new (W.alloc (.cells (u8L zeros).toArray 165)) zeros;rw [World.size_alloc] at h;exact h
  ·rw [ql9]
   exact (ClIn.new W zeros).later (qab _ _) (by rw [World.size_alloc]; exact Nat.lt_succ_self _)
  ·exact (qab _ _).alloc (by simp) _
 case round =>
  obtain ⟨m, hk, rfl, HR0⟩ := hrel;have k0 : (0 : Int) <= (m : Int) := Int.natCast_nonneg m
  by_cases hlt : m < 256
  ·have k1 : (m : Int) < 256 := by omega
   have hi : m < (qeb m).length := by rw [qd2]; exact hlt
   have hcell := (HR0.o.1 _ hi).1;have hfz := (HR0.o.1 _ hi).2;have HF := Zh (qgv m)
   by_cases ht : qgu m = true
   ·have HS := Zh (show ClIn (wr.setCell ⟨W.heap.size + 1, m, none⟩ (.int .u8 (bits .or .u8 ((qeb m)[m]'hi) 16))) (W.heap.size + 1) (qeb (m + 1)) from by
     have h := HR0.o.1.put m (bits .or .u8 ((qeb m)[m]'hi) 16) hi;rw [HF.o, qli, if_pos ht, show (qeb m).getD m 0 = (qeb m)[m]'hi by simp [List.getD, List.getElem?_eq_getElem hi]]
     exact h)
    have HZ := Zh (HR0.o.2.1.put_other ⟨W.heap.size + 1, m, none⟩ (.int .u8 (bits .or .u8 ((qeb m)[m]'hi) 16)) (by simp));have HB := Zh (HR0.o.2.2.setCell (p := ⟨W.heap.size + 1, m, none⟩) (by simp) (.int .u8 (bits .or .u8 ((qeb m)[m]'hi) 16)));have h2 : (32 : Int) <= (m : Int) := by simp [qgu] at ht; omega
    by_cases h3 : m <= 126
    ·have h4 : (m : Int) <= 126 := by omega
     go_wp2_with fail
     go_roundg (gk - 1)
     case measure => omega
     case rel => exact ⟨m + 1, by omega, (by first | rfl | simp), Zh ⟨HS.o, HZ.o, HB.o⟩⟩
    ·have h4 : ¬ (m : Int) <= 126 := by omega
     have h5 : (127 : Int) < (m : Int) := by simp [qgu] at ht; omega
     go_wp2_with fail
     go_roundg (gk - 1)
     case measure => omega
     case rel => exact ⟨m + 1, by omega, (by first | rfl | simp), Zh ⟨HS.o, HZ.o, HB.o⟩⟩
   ·have HS := Zh (show ClIn wr (W.heap.size + 1) (qeb (m + 1)) from by rw [HF.o, qli, if_neg ht]; exact HR0.o.1)
    have HZ := Zh HR0.o.2.1;have HB := Zh HR0.o.2.2;have h5 : ¬ (127 : Int) < (m : Int) := by simp [qgu] at ht; omega
    by_cases h2 : 32 <= m
    ·have h3 : (32 : Int) <= (m : Int) := by omega
     have h4 : ¬ (m : Int) <= 126 := by simp [qgu] at ht; omega
     go_wp2_with fail
     go_roundg (gk - 1)
     case measure => omega
     case rel => exact ⟨m + 1, by omega, (by first | rfl | simp), Zh ⟨HS.o, HZ.o, HB.o⟩⟩
    ·have h3 : ¬ (32 : Int) <= (m : Int) := by omega
     go_wp2_with fail
     go_roundg (gk - 1)
     case measure => omega
     case rel => exact ⟨m + 1, by omega, (by first | rfl | simp), Zh ⟨HS.o, HZ.o, HB.o⟩⟩
  ·have k1 : ¬ (m : Int) < 256 := by omega
   have hm : m = 256 := by omega
   subst hm;have hmf : ∀ (fn : Fn) (first cap : Array Value) (w : World), (Instr.makeFunc fn first cap).run Tryz.prog w = .ok (.func fn first cap) w := fun _ _ _ _ => rfl
   go_wp2_with fail
   have HLT0 := Zh (show W.heap.size + 1 < wr.heap.size from World.block_lt_of_cell? wr ⟨W.heap.size + 1, 0, none⟩ (HR0.o.1 0 (by rw [qd2]; omega)).1);refine (qi2 ⟨#[9, 10, 13]⟩ 16 (W.heap.size + 1) (qeb 256) wr (qd2 256) (by decide) HR0.o.1 (by have := HLT0.o; omega)).mono ?_;rintro e w1 ⟨rfl, hc1, hb1⟩;have HC1 := Zh (show ClIn w1 (W.heap.size + 1) cl1 from hc1);have HZ1 := Zh ((HR0.o.2.1).later hb1 (Nat.lt_succ_self _));have HB1 := Zh ((HR0.o.2.2).trans (hb1.mono (Nat.le_succ _)));have HLT1 := Zh (Nat.lt_of_lt_of_le HLT0.o hb1.size);clear hc1 hb1
   go_wp2_with fail
   refine (qi2 ⟨#[9, 10, 13, 32]⟩ 1 (W.heap.size + 1) cl1 w1 qoq (by decide) HC1.o (by have := HLT1.o; omega)).mono ?_;rintro e w2 ⟨rfl, hc2, hb2⟩;have HC2 := Zh (show ClIn w2 (W.heap.size + 1) cl2 from hc2);have HZ2 := Zh ((HZ1.o).later hb2 (Nat.lt_succ_self _));have HB2 := Zh ((HB1.o).trans (hb2.mono (Nat.le_succ _)));have HLT2 := Zh (Nat.lt_of_lt_of_le HLT1.o hb2.size);clear hc2 hb2
   go_wp2_with fail
   refine (qi2 symS 2 (W.heap.size + 1) cl2 w2 qop (by decide) HC2.o (by have := HLT2.o; omega)).mono ?_;rintro e w3 ⟨rfl, hc3, hb3⟩;have HC3 := Zh (show ClIn w3 (W.heap.size + 1) cl3 from hc3);have HZ3 := Zh ((HZ2.o).later hb3 (Nat.lt_succ_self _));have HB3 := Zh ((HB2.o).trans (hb3.mono (Nat.le_succ _)));have HLT3 := Zh (Nat.lt_of_lt_of_le HLT2.o hb3.size);clear hc3 hb3
   go_wp2_with fail
   refine (qi2 ⟨#[48, 49, 50, 51, 52, 53, 54, 55, 56, 57]⟩ 12 (W.heap.size + 1) cl3 w3 qoo (by decide) HC3.o (by have := HLT3.o; omega)).mono ?_;rintro e w4 ⟨rfl, hc4, hb4⟩;have HC4 := Zh (show ClIn w4 (W.heap.size + 1) cl4 from hc4);have HZ4 := Zh ((HZ3.o).later hb4 (Nat.lt_succ_self _));have HB4 := Zh ((HB3.o).trans (hb4.mono (Nat.le_succ _)));have HLT4 := Zh (Nat.lt_of_lt_of_le HLT3.o hb4.size);clear hc4 hb4
   go_wp2_with fail
   refine (qi2 ⟨#[97, 98, 99, 100, 101, 102, 65, 66, 67, 68, 69, 70]⟩ 8 (W.heap.size + 1) cl4 w4 qon (by decide) HC4.o (by have := HLT4.o; omega)).mono ?_;rintro e w5 ⟨rfl, hc5, hb5⟩;have HC5 := Zh (show ClIn w5 (W.heap.size + 1) cl5 from hc5);have HZ5 := Zh ((HZ4.o).later hb5 (Nat.lt_succ_self _));have HB5 := Zh ((HB4.o).trans (hb5.mono (Nat.le_succ _)));have HLT5 := Zh (Nat.lt_of_lt_of_le HLT4.o hb5.size);clear hc5 hb5;obtain ⟨CV, hCV⟩ : ∃ l : List Value, l = u8L cl5 := ⟨_, rfl⟩;have hlen : CV.length = 256 := by rw [hCV, qqx, qr5]
   have HL := Zh hlen;have HRG := Zh (show w5.rangeAt (W.heap.size + 1) 0 CV from by rw [hCV]; exact HC5.o.range);have HTH := Zh (show w5.there W.heap.size 0 CV.toArray.size from HZ5.o.there (by rw [qhv]; simpa using hlen));have HONE := Zh (show CV.toArray.all (·.oneCell') = true from by rw [hCV]; exact all_oneCell_toArray (qqw _));have HCV := Zh hCV;clear hlen hCV
   go_wp2_with (first | refine wpList_load_mid rfl 165 _ rfl (W.heap.size + 1) 0 rfl CV _ HRG.o Tryz.underlying165 rfl (by rw [HL.o]; kernel_rfl) ?_ | refine wpList_store_mid rfl 165 _ _ rfl W.heap.size 0 CV.toArray rfl rfl HTH.o (by rw [List.size_toArray, HL.o]; kernel_rfl) HONE.o ?_)
   have HRR := Zh (w5.rangeAt_setCells_same W.heap.size 0 CV (HZ5.o.there (by rw [qhv]; exact HL.o)));have HBB := Zh (Below.putCells (Nat.le_refl W.heap.size) CV 0 HB5.o);exact bodyPost_ret (v := .agg CV.toArray) (qjc Tryz.results121 _ _ W.heap.size CV _ rfl HRR.o Tryz.underlying165 rfl (by rw [HL.o]; kernel_rfl)) rfl ⟨by rw [HCV.o], HBB.o⟩
theorem qf1 {w : World} {base n c : Nat} {e : TypeId} {size : Nat} {p : Option Addr} {xs : List Value} (h : w.ownsRow base e size (.slice p n c) n xs) : n <= c := by
 rcases h with ⟨h0, ⟨h1, h2⟩ | ⟨g, cap, cur, hv, hg, hh, hn, hm, hs, ht⟩⟩
 ·injection h1 with _ h3 h4; omega
 ·injection hv with _ _ h4; subst h4; omega

theorem qay {P : Program} {w : World} {o : Oper} {a : Act} {K : Act -> World -> Prop} {Q : Exit -> Act -> World -> Prop} (s x : Operand) (t : TypeId)
  (ho : o.op = .call { callee := .builtin .append, args := #[s, x], argTypes := #[t, t] })
  (base : Nat) (e : TypeId) (i : TypeInfo) (z : Value) (size bytes : Nat) (ht : P.underlying t = some (.slice e)) (hi : P.info? e = some i) (hz : i.zero = some z)
  (hsize : i.size = size) (hby : i.bytes = bytes) (hzs : z.cells.size = size) (hsz : 0 < size)
  (v : Value) (n : Nat) (xs : List Value) (hs : a.eval s = v) (hown : w.ownsRow base e size v n xs)
  (ad : Addr) (m c : Nat) (news : List Value) (hx : a.eval x = .slice (some ad) m c) (hl : news.length = m * size) (hnews : ∀ j u, news[j]? = some u -> w.cell? (ad.add j) = some u) (h1 : ∀ u ∈ news, u.oneCell' = true)
  (h63 : n + m <= maxLen) (hbytes : (n + m) * bytes <= 140737488355328) (hbase : base <= w.heap.size)
  (h : ∀ v' w', w'.ownsRow base e size v' (n + m) (xs ++ news) -> w.grownBy w' v.ownBlock -> (v' = .slice none 0 0 ↔ v = .slice none 0 0 /\ m = 0) -> (v'.ownBlock = v.ownBlock \/ v'.ownBlock = some w.heap.size) -> K (a.put o.dst v') w') : o.wp P a w K Q := by
 obtain ⟨v', w', hr, h2, h3, h4, h5⟩ := run_append_own_at (P := P) w base t o.type e i z size bytes ht hi hz hsize hby hzs hsz v n xs hown ad m c news hl hnews h1 h63 hbytes hbase;unfold Oper.wp execOp;simp only [ho, resolve, invoke, builtin, Sem.run_bind, Sem.run_pure, Result.andThen_ok, List.map_toArray, List.map_cons, List.map_nil, hs, hx, hr];exact h v' w' h2 h3 h4 h5
def Z41 : Value := .agg #[.bool false, .int .u8 0, .string ⟨#[]⟩, .int .i64 0, .slice none 0 0]
theorem qgt : ∃ i0, Tryz.prog.info? 35 = some i0 /\ i0.zero = some Z41 /\ i0.size = 5 /\ i0.bytes = 64 := qd1 (by kernel_rfl)
def trC (l : Bool) (k : Int) (s : ByteArray) (a : Int) (q : Option Addr) (n c : Nat) : List Value := [.bool l, .int .u8 k, .string s, .int .i64 a, .slice q n c]
def RowF (W : World) (F : Nat -> Prop) : Fo -> List Value -> Prop
 | .nil, xs => xs = []
 | .cons l k s a x r, xs => ∃ q c ys, xs = trC l k s a q x.len c ++ ys /\ x.len <= c /\ x.len <= 281474976710656 /\ FoIn W F x q /\ RowF W F r ys
theorem RowF.move {W W' : World} {F F' : Nat -> Prop} (hc : ∀ b o v, F b -> W.cell? ⟨b, o, none⟩ = some v -> W'.cell? ⟨b, o, none⟩ = some v /\ F' b) : ∀ (f : Fo) (xs : List Value), RowF W F f xs -> RowF W' F' f xs
 | .nil, _, h => h
 | .cons l k s a x r, xs, h => by
  obtain ⟨q, c, ys, e, h1, h2, h3, h4⟩ := h;exact ⟨q, c, ys, e, h1, h2, FoIn.move hc _ _ h3, RowF.move hc r ys h4⟩
theorem RowF.later {W W' : World} {F : Nat -> Prop} {f : Fo} {xs : List Value} (h : RowF W F f xs) (hb : Below W.heap.size W W') : RowF W' F f xs :=
 RowF.move (fun _ _ _ hF hv => ⟨qaa hb hv, hF⟩) f xs h
theorem RowF.only {W W' : World} {F T : Nat -> Prop} {f : Fo} {xs : List Value} (h : RowF W F f xs) (ho : Only T W W') (hn : ∀ b, F b -> ¬ T b) : RowF W' F f xs :=
 RowF.move (fun _ _ _ hF hv => ⟨ho.cell hv (hn _ hF), hF⟩) f xs h
theorem RowF.mono {W : World} {F F' : Nat -> Prop} {f : Fo} {xs : List Value} (h : RowF W F f xs) (hn : ∀ b, F b -> b < W.heap.size -> F' b) : RowF W F' f xs :=
 RowF.move (fun b _ _ hF hv => ⟨hv, hn b hF (World.block_lt_of_cell? W _ hv)⟩) f xs h
theorem RowF.snoc {W : World} {F : Nat -> Prop} {l : Bool} {k : Int} {s : ByteArray} {a : Int} {x : Fo} {q : Option Addr} {c : Nat} (h1 : x.len <= c) (h2 : x.len <= 281474976710656) (hx : FoIn W F x q) : ∀ (f : Fo) (xs : List Value), RowF W F f xs -> RowF W F (f.snoc l k s a x) (xs ++ trC l k s a q x.len c)
 | .nil, xs, h => by
  obtain rfl : xs = [] := h
  exact ⟨q, c, [], by simp, h1, h2, hx, rfl⟩
 | .cons l0 k0 s0 a0 x0 r, xs, h => by
  obtain ⟨q0, c0, ys, rfl, h3, h4, h5, h6⟩ := h;exact ⟨q0, c0, ys ++ trC l k s a q x.len c, by simp, h3, h4, h5, RowF.snoc h1 h2 hx r ys h6⟩
theorem RowF.len {W : World} {F : Nat -> Prop} : ∀ (f : Fo) (xs : List Value), RowF W F f xs -> xs.length = f.len * 5
 | .nil, xs, h => by obtain rfl : xs = [] := h; rfl
 | .cons l0 k0 s0 a0 x0 r, xs, h => by
  obtain ⟨q0, c0, ys, rfl, h3, h4, h5, h6⟩ := h;have := RowF.len r ys h6;simp [trC, Fo.len]; omega
theorem RowF.foIn {W : World} {F F' : Nat -> Prop} {g : Nat} (hg : F' g) (hF : ∀ b, F b -> F' b) : ∀ (f : Fo) (xs : List Value) (off : Nat), RowF W F f xs -> (∀ j u, xs[j]? = some u -> W.cell? ⟨g, off + j, none⟩ = some u) -> FoIn W F' f (some ⟨g, off, none⟩)
 | .nil, _, _, _, _ => trivial
 | .cons l0 k0 s0 a0 x0 r, xs, off, h, hc => by
  obtain ⟨q0, c0, ys, rfl, h3, h4, h5, h6⟩ := h;refine ⟨g, off, rfl, hg, hc 0 _ rfl, hc 1 _ rfl, hc 2 _ rfl, hc 3 _ rfl, ⟨q0, c0, hc 4 _ rfl, h3, h4, FoIn.move (fun b _ _ hb hv => ⟨hv, hF b hb⟩) _ _ h5⟩, ?_⟩;refine RowF.foIn hg hF r ys (off + 5) h6 (fun j u hu => ?_);have := hc (5 + j) u (by rw [List.getElem?_append_right (by simp [trC])]; simpa [trC] using hu);rw [<- Nat.add_assoc] at this;exact this
theorem qeq {w : World} {base n c : Nat} {e : TypeId} {g : Nat} {xs : List Value} (h : w.ownsRow base e 5 (.slice (some ⟨g, 0, none⟩) n c) n xs) (i : Nat) (u : Value) (hu : xs[i]? = some u) : w.cell? ⟨g, i, none⟩ = some u /\ w.frozen? ⟨g, i, none⟩ = false := by
 obtain ⟨h0, ⟨h1, _⟩ | ⟨g', cap, cur, hv, hg, hh, hn, hm, hs, ht⟩⟩ := h
 ·cases h1
 ·cases hv
  have hlt := (List.getElem?_eq_some_iff.1 hu).1;rw [<- ht, List.getElem?_take_of_lt (by omega)] at hu;have e' : cur[i]? = some u := by simpa using hu
  exact ⟨by simp [World.cell?, hh, e'], by simp [World.frozen?, hh]⟩
def OwnF (W : World) (base : Nat) (v : Value) (f : Fo) : Prop := ∃ xs, W.ownsRow base 35 5 v f.len xs /\ RowF W (fun b => base <= b /\ v.ownBlock ≠ some b) f xs
theorem OwnF.later {W W' : World} {base : Nat} {v : Value} {f : Fo} (h : OwnF W base v f) (hb : Below W.heap.size W W') : OwnF W' base v f := by
 obtain ⟨xs, h1, h2⟩ := h;exact ⟨xs, qal h1 hb, h2.later hb⟩
theorem OwnF.only {W W' : World} {base : Nat} {v : Value} {f : Fo} {T : Nat -> Prop} (h : OwnF W base v f) (ho : Only T W W') (hn : ∀ b, base <= b -> ¬ T b) : OwnF W' base v f := by
 obtain ⟨xs, h1, h2⟩ := h;exact ⟨xs, qb3 h1 ho (fun k hk => hn k (qaw h1 hk).1), h2.only ho (fun b hb => hn b hb.1)⟩
theorem OwnF.foIn {W : World} {base : Nat} {v : Value} {f : Fo} (h : OwnF W base v f) : ∃ q c, v = .slice q f.len c /\ f.len <= c /\ FoIn W (fun b => base <= b) f q := by
 obtain ⟨xs, h1, h2⟩ := h;obtain ⟨q, c, rfl, hq⟩ := qaq h1;have hc := qf1 h1;refine ⟨q, c, rfl, hc, ?_⟩
 cases f with
 | nil => trivial
 | cons l k s a x r =>
  obtain ⟨g, rfl⟩ : ∃ g, q = some ⟨g, 0, none⟩ := by
   rcases h1.2 with ⟨e, _⟩ | ⟨g, _, _, e, _⟩
   ·injection e with _ e2 _; simp [Fo.len] at e2
   ·injection e with e2 _ _; exact ⟨g, e2⟩
  have hg := qaw h1 (k := g) rfl;exact RowF.foIn hg.1 (fun b hb => hb.1) _ xs 0 h2 (fun j u hu => by rw [Nat.zero_add]; exact (qeq h1 j u hu).1)
theorem OwnF.nil (W : World) (base : Nat) : OwnF W base (.slice none 0 0) .nil := ⟨[], ⟨rfl, Or.inl ⟨rfl, rfl⟩⟩, rfl⟩
inductive Rd : List TkA -> Fo -> Prop
 | nil : Rd [] .nil
 | leaf {t : TkA} {r : List TkA} {f : Fo} : t.k ≠ 1 -> t.k ≠ 2 -> Rd r f -> Rd (t :: r) (.cons false t.k t.s t.a .nil f)
 | list {t c : TkA} {x r : List TkA} {g f : Fo} : t.k = 1 -> c.k = 2 -> Rd x g -> Rd r f -> Rd (t :: (x ++ c :: r)) (.cons true t.k t.s t.a g f)
theorem Rd.len {l : List TkA} {f : Fo} (h : Rd l f) : f.len <= l.length := by
 induction h with
 | nil => exact Nat.le_refl _
 | leaf _ _ _ ih => simp only [Fo.len, List.length_cons]; omega
 | list _ _ _ _ _ ih => simp only [Fo.len, List.length_cons, List.length_append]; omega
theorem qe3 {t : TkA} (h : t.k = 1) (o : Int) : opn t o = o + 1 := by simp [opn, h]
theorem qe2 {t : TkA} (h : t.k = 2) (o : Int) : opn t o = o - 1 := by simp [opn, h]
theorem qd5 {t : TkA} (h1 : t.k ≠ 1) (h2 : t.k ≠ 2) (o : Int) : opn t o = o := by simp [opn, h1, h2]
theorem qjw {x : List TkA} {g : Fo} (h : Rd x g) : ∀ (o : Int) (r : List TkA) (i : Nat), 0 < o -> endF (x ++ r) o i = endF r o (i + x.length) := by
 induction h with
 | nil => intro o r i _; simp
 | leaf h1 h2 _ ih =>
  intro o r i ho;rw [List.cons_append, endF, qd5 h1 h2, if_neg (by omega), ih o r (i + 1) ho]
  congr 1
  simp only [List.length_cons]; omega
 | @list t c x r' g f h1 h2 _ _ ih1 ih2 =>
  intro o r i ho;rw [List.cons_append, endF, qe3 h1, if_neg (by omega), List.append_assoc, ih1 (o + 1) _ (i + 1) (by omega), List.cons_append, endF, qe2 h2, show o + 1 - 1 = o from by omega, if_neg (by omega), ih2 o r _ ho]
  congr 1
  simp only [List.length_cons, List.length_append]; omega
inductive One : List TkA -> Bool -> Int -> ByteArray -> Int -> Fo -> Prop
 | leaf {t : TkA} : t.k ≠ 1 -> t.k ≠ 2 -> One [t] false t.k t.s t.a .nil
 | list {t c : TkA} {x : List TkA} {g : Fo} : t.k = 1 -> c.k = 2 -> Rd x g -> One (t :: (x ++ [c])) true t.k t.s t.a g
theorem Rd.first {l : List TkA} {b : Bool} {k : Int} {s : ByteArray} {a : Int} {g f : Fo} (h : Rd l (.cons b k s a g f)) : ∃ u r, l = u ++ r /\ 0 < u.length /\ One u b k s a g /\ Rd r f /\ (∀ z i, endF (u ++ z) 0 i = some (i + u.length)) := by
 cases h with
 | @leaf t r _ h1 h2 h3 =>
  exact ⟨[t], r, rfl, by simp, .leaf h1 h2, h3, fun z i => by rw [List.cons_append, endF, qd5 h1 h2, if_pos rfl]; rfl⟩
 | @list t c x r _ _ h1 h2 h3 h4 =>
  refine ⟨t :: (x ++ [c]), r, by simp, by simp, .list h1 h2 h3, h4, fun z i => ?_⟩;rw [List.cons_append, endF, qe3 h1, if_neg (by omega), List.append_assoc, qjw h3 _ _ _ (by omega), List.cons_append, endF, qe2 h2, if_pos (by omega)];simp; omega
structure BoxT (w : World) (b : Nat) (l : Bool) (k : Int) (s : ByteArray) (a : Int) (v : Value) : Prop where
 c0 : w.cell? ⟨b, 0, none⟩ = some (.bool l)
 c1 : w.cell? ⟨b, 1, none⟩ = some (.int .u8 k)
 c2 : w.cell? ⟨b, 2, none⟩ = some (.string s)
 c3 : w.cell? ⟨b, 3, none⟩ = some (.int .i64 a)
 c4 : w.cell? ⟨b, 4, none⟩ = some v
 fz : ∀ o, w.frozen? ⟨b, o, none⟩ = false
theorem BoxT.later {w w' : World} {b : Nat} {l : Bool} {k : Int} {s : ByteArray} {a : Int} {v : Value} (h : BoxT w b l k s a v) (hb : Below w.heap.size w w') : BoxT w' b l k s a v :=
 ⟨qaa hb h.c0, qaa hb h.c1, qaa hb h.c2, qaa hb h.c3, qaa hb h.c4, fun o => by rw [hb.frozen (p := ⟨b, o, none⟩) (World.block_lt_of_cell? w ⟨b, 0, none⟩ h.c0)]; exact h.fz o⟩
theorem BoxT.only {w w' : World} {b : Nat} {l : Bool} {k : Int} {s : ByteArray} {a : Int} {v : Value} {T : Nat -> Prop} (h : BoxT w b l k s a v) (ho : Only T w w') (hn : ¬ T b) : BoxT w' b l k s a v :=
 ⟨ho.cell h.c0 hn, ho.cell h.c1 hn, ho.cell h.c2 hn, ho.cell h.c3 hn, ho.cell h.c4 hn, fun o => by rw [ho.frozen (a := ⟨b, o, none⟩) (World.block_lt_of_cell? w ⟨b, 0, none⟩ h.c0) hn]; exact h.fz o⟩
theorem BoxT.lt {w : World} {b : Nat} {l : Bool} {k : Int} {s : ByteArray} {a : Int} {v : Value} (h : BoxT w b l k s a v) : b < w.heap.size := World.block_lt_of_cell? w _ h.c0
theorem BoxT.set4 {w : World} {b : Nat} {l : Bool} {k : Int} {s : ByteArray} {a : Int} {v : Value} (h : BoxT w b l k s a v) (v' : Value) : BoxT (w.setCell ⟨b, 4, none⟩ v') b l k s a v' := by
 refine ⟨?_, ?_, ?_, ?_, ?_, fun o => ?_⟩
 ·rw [World.cell?_setCell_other _ _ _ _ (by intro e; cases e)]; exact h.c0
 ·rw [World.cell?_setCell_other _ _ _ _ (by intro e; cases e)]; exact h.c1
 ·rw [World.cell?_setCell_other _ _ _ _ (by intro e; cases e)]; exact h.c2
 ·rw [World.cell?_setCell_other _ _ _ _ (by intro e; cases e)]; exact h.c3
 ·have := h.c4
  have hf := h.fz 4;simp [go_sem, this]
 ·have := h.fz o
  simp [go_sem, this]
theorem qam (w : World) (l : Bool) (k : Int) (s : ByteArray) (a : Int) (v : Value) : BoxT (w.alloc (.cells #[.bool l, .int .u8 k, .string s, .int .i64 a, v] 35)) w.heap.size l k s a v :=
 ⟨by simp [go_sem], by simp [go_sem], by simp [go_sem], by simp [go_sem], by simp [go_sem], fun o => by simp [go_sem]⟩
theorem OwnF.push {W w' : World} {base N : Nat} {v v' : Value} {f x : Fo} {xs : List Value} {l : Bool} {k : Int} {s : ByteArray} {a : Int} {q : Option Addr} {c : Nat} (_h1 : W.ownsRow base 35 5 v f.len xs) (h2 : RowF W (fun b => base <= b /\ v.ownBlock ≠ some b) f xs)
  (hN : base <= N) (hv : ∀ g, v.ownBlock = some g -> g < N) (hx : FoIn W (fun b => N <= b) x q) (hc : x.len <= c) (hm : x.len <= 281474976710656) (own : w'.ownsRow base 35 5 v' (f.len + 1) (xs ++ trC l k s a q x.len c)) (hg : W.grownBy w' v.ownBlock) (hloc : v'.ownBlock = v.ownBlock \/ v'.ownBlock = some W.heap.size) :
  OwnF w' base v' (f.snoc l k s a x) := by
 have ho := Only.of_grown hg;refine ⟨xs ++ trC l k s a q x.len c, by rw [Fo.len_snoc]; exact own, ?_⟩;have hx2 : FoIn W (fun b => base <= b /\ v.ownBlock ≠ some b) x q := hx.mono (fun b hb _ => ⟨by have : N <= b := hb; omega, fun e => by have := hv b e; have : N <= b := hb; omega⟩);have hr := RowF.snoc (l := l) (k := k) (s := s) (a := a) hc hm hx2 f xs h2
 have hr2 : RowF W (fun b => (base <= b /\ v.ownBlock ≠ some b) /\ v'.ownBlock ≠ some b) _ _ := hr.mono (fun b hb hlt => ⟨hb, fun e => by
  rcases hloc with h | h
  ·exact hb.2 (h ▸ e)
  ·rw [h] at e; injection e with e; omega⟩)
 exact (hr2.only ho (fun b hb => hb.1.2)).mono (fun b hb _ => ⟨hb.1.1, hb.2⟩)
theorem TksA.piece {W : World} {b off : Nat} {l u z : List TkA} {d : List TkA} (h : TksA W (some ⟨b, off, none⟩) l) (e : l = d ++ (u ++ z)) : TksA W (some ⟨b, off + d.length * 3, none⟩) u := fun i hi => by
 obtain ⟨b', off', e', h1, h2, h3⟩ := h (d.length + i) (by rw [e]; simp; omega);cases e'
 have hg : l[d.length + i]'(by rw [e]; simp; omega) = u[i] := by
  subst e;rw [List.getElem_append_right (by omega), List.getElem_append_left (by omega)]
  congr 1; omega
 rw [hg] at h1 h2 h3;have ea : off + (d.length + i) * 3 = off + d.length * 3 + i * 3 := by omega
 rw [ea] at h1 h2 h3;exact ⟨b, _, rfl, h1, h2, h3⟩
end Go.Proofs.YtookoagcmejkpaaGreatDoor
namespace Go.Proofs.YtookoagcmejkpaaGreatDoor.Lx
open Go Go.RowKit
def clsV : List Value := (List.range 256).map fun n => Value.int .u8 (clB (UInt8.ofNat n) : Int)
theorem qr4 : u8L cl5 = clsV := by kernel_rfl
theorem qgb (w : World) : Calls Tryz.prog 121 #[] w fun e w' => e = .returned (.agg clsV.toArray) /\ Below w.heap.size w w' := by
 rw [<- qr4];exact ql7 w
set_option maxRecDepth 100000
theorem qcm {S : ByteArray} {i : Nat} (h : i < S.size) : S.data.toList[i]? = some S[i] := by
 have : i < S.data.toList.length := by simpa using h
 rw [List.getElem?_eq_getElem this]; rfl
end Go.Proofs.YtookoagcmejkpaaGreatDoor.Lx
