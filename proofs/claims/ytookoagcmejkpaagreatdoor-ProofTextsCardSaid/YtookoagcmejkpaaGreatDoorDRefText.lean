/- The document's text of a row of digits: the numeral. -/
import Derived.Test.YtookoagcmejkpaaGreatDoorJ8
import Derived.LoopTactic
set_option maxHeartbeats 4000000
namespace Go.Proofs.YtookoagcmejkpaaGreatDoor
set_option maxRecDepth 100000
open Go Go.RowKit Go.Sort
def e0 (m : Int) : Int := m % 65536
def e1 (m : Int) : Int := m / 65536 % 65536
def e2 (m : Int) : Int := m / 4294967296 % 65536
def e3 (m : Int) : Int := m / 281474976710656
abbrev qtz (m : Int) : Array Value := #[.int .i64 (e0 m), .int .i64 (e1 m), .int .i64 (e2 m), .int .i64 (e3 m), .int .i64 0, .int .i64 0, .int .i64 0, .int .i64 0, .int .i64 0, .int .i64 0]
theorem qj2 (m : Int) (r : Bool) (w : World) (h0 : 0 <= m) (h1 : m <= 18446744073709551615) (hr : decide (m = 0) = r) :
    Calls Tryz.prog 99 #[.agg (qtz m)] w fun e w' => e = .returned (.bool r) /\ Below w.heap.size w w' := by
  refine (qo0 _ _ _ _ _ _ _ _ _ _ w).mono ?_;rintro e w' ⟨rfl, hb⟩;refine ⟨?_, hb⟩
  have : ((e0 m == 0) && (e1 m == 0) && (e2 m == 0) && (e3 m == 0) && ((0 : Int) == 0) && ((0 : Int) == 0) && ((0 : Int) == 0) && ((0 : Int) == 0) && ((0 : Int) == 0) && ((0 : Int) == 0)) = r := by
    rw [<- hr]
    by_cases h : m = 0
    · subst h; rfl
    · rw [decide_eq_false h]
      have hh : ¬ (e0 m = 0 /\ e1 m = 0 /\ e2 m = 0 /\ e3 m = 0) := by unfold e0 e1 e2 e3; omega
      rw [Bool.eq_false_iff];intro hx
      apply hh
      simpa [and_assoc] using hx
  rw [this]
structure RowAt (W : World) (b : Nat) (m : Int) : Prop where
  c0 : W.cell? ⟨b, 0, none⟩ = some (.int .i64 (e0 m))
  c1 : W.cell? ⟨b, 1, none⟩ = some (.int .i64 (e1 m))
  c2 : W.cell? ⟨b, 2, none⟩ = some (.int .i64 (e2 m))
  c3 : W.cell? ⟨b, 3, none⟩ = some (.int .i64 (e3 m))
  c4 : W.cell? ⟨b, 4, none⟩ = some (.int .i64 0)
  c5 : W.cell? ⟨b, 5, none⟩ = some (.int .i64 0)
  c6 : W.cell? ⟨b, 6, none⟩ = some (.int .i64 0)
  c7 : W.cell? ⟨b, 7, none⟩ = some (.int .i64 0)
  c8 : W.cell? ⟨b, 8, none⟩ = some (.int .i64 0)
  c9 : W.cell? ⟨b, 9, none⟩ = some (.int .i64 0)
  f : ∀ i, W.frozen? ⟨b, i, none⟩ = false
theorem RowAt.keep {W W' : World} {b : Nat} {m : Int} (h : RowAt W b m) (hb : Below W.heap.size W W') : RowAt W' b m :=
  ⟨qaa hb h.c0, qaa hb h.c1, qaa hb h.c2, qaa hb h.c3, qaa hb h.c4, qaa hb h.c5, qaa hb h.c6, qaa hb h.c7, qaa hb h.c8, qaa hb h.c9,
   fun i => (hb.frozen (show b < W.heap.size from World.block_lt_of_cell? W ⟨b, 0, none⟩ h.c0)).trans (h.f i)⟩
def TxAt (n m : Int) (t : List UInt8) : Prop := 0 <= m /\ m <= 18446744073709551615 /\ Lib.decDigits n.toNat = (if m = 0 then [] else Lib.decDigits m.toNat) ++ t /\ t.length <= 20 /\ (m ≠ 0 -> t.length <= 19)

def qfr (W : World) (B : Nat) (k : Int) : World := ((((((((((W.setCell ⟨B, 9, none⟩ (.int .i64 0)).setCell ⟨B, 8, none⟩ (.int .i64 0)).setCell ⟨B, 7, none⟩ (.int .i64 0)).setCell ⟨B, 6, none⟩ (.int .i64 0)).setCell ⟨B, 5, none⟩ (.int .i64 0)).setCell ⟨B, 4, none⟩ (.int .i64 0)).setCell ⟨B, 3, none⟩ (.int .i64 (e3 k))).setCell ⟨B, 2, none⟩ (.int .i64 (e2 k))).setCell ⟨B, 1, none⟩ (.int .i64 (e1 k))).setCell ⟨B, 0, none⟩ (.int .i64 (e0 k)))
theorem qq7 {W : World} {B : Nat} {m : Int} (h : RowAt W B m) (k : Int) : RowAt (qfr W B k) B k := by
  obtain ⟨c0, c1, c2, c3, c4, c5, c6, c7, c8, c9, hf⟩ := h
  constructor
  case f => intro i; simp [qfr, go_sem, hf i]
  all_goals simp [qfr, go_sem, *]
theorem qi4 (W : World) (B : Nat) (k : Int) (a : Addr) (v : Value) (h : W.cell? a = some v) (hb : B ≠ a.block) : (qfr W B k).cell? a = some v := by
  unfold qfr
  have far : ∀ (X : World) (j : Nat) (u : Value), X.cell? a = some v -> (X.setCell ⟨B, j, none⟩ u).cell? a = some v := fun X j u hx => by
    rw [World.cell?_setCell_other _ _ _ _ (fun e => hb (by rw [<- e]))]; exact hx
  exact far _ _ _ (far _ _ _ (far _ _ _ (far _ _ _ (far _ _ _ (far _ _ _ (far _ _ _ (far _ _ _ (far _ _ _ (far _ _ _ h)))))))))
theorem qi5 {w W : World} (B : Nat) (k : Int) (h : Below w.heap.size w W) (hb : w.heap.size <= B) : Below w.heap.size w (qfr W B k) :=
  (((((((((h.setCell (p := ⟨B, 9, none⟩) hb _).setCell (p := ⟨B, 8, none⟩) hb _).setCell (p := ⟨B, 7, none⟩) hb _).setCell (p := ⟨B, 6, none⟩) hb _).setCell (p := ⟨B, 5, none⟩) hb _).setCell (p := ⟨B, 4, none⟩) hb _).setCell (p := ⟨B, 3, none⟩) hb _).setCell (p := ⟨B, 2, none⟩) hb _).setCell (p := ⟨B, 1, none⟩) hb _).setCell (p := ⟨B, 0, none⟩) hb _
def dgt (m : Int) : UInt8 := UInt8.ofNat (48 + m.toNat % 10)
def qld : Value -> Nat
  | .string b => b.size
  | _ => 0
theorem qlc (c : UInt8) (l : List UInt8) (h : l.length <= 20) : 21 - qld (.string ((⟨#[c]⟩ : ByteArray) ++ (⟨l.toArray⟩ : ByteArray))) < 21 - qld (.string ⟨l.toArray⟩) := by
  have e1 : qld (.string ((⟨#[c]⟩ : ByteArray) ++ (⟨l.toArray⟩ : ByteArray))) = l.length + 1 := by
    show ((⟨#[c]⟩ : ByteArray) ++ (⟨l.toArray⟩ : ByteArray)).size = _
    rw [show ((⟨#[c]⟩ : ByteArray) ++ (⟨l.toArray⟩ : ByteArray)) = ⟨(c :: l).toArray⟩ from ByteArray.ext (by simp)];simp [ByteArray.size]
  have e2 : qld (.string ⟨l.toArray⟩) = l.length := by simp [qld, ByteArray.size]
  rw [e1, e2]; omega
theorem qqy (n m : Int) (l : List UInt8) (hn : n <= 18446744073709551615) (h : TxAt n m l) (hm : m ≠ 0) : TxAt n (m / 10) (dgt m :: l) := by
  unfold dgt;obtain ⟨h0, h1, h2, h3, h4⟩ := h;rw [if_neg hm] at h2;have h5 := h4 hm;refine ⟨by omega, by omega, ?_, by simp; omega, ?_⟩
  · rw [h2]
    have ed : (m / 10).toNat = m.toNat / 10 := by omega
    by_cases hs : m.toNat < 10
    · rw [if_pos (by omega), Lib.decDigits_one hs]
      simp [show m.toNat % 10 = m.toNat by omega]
    · rw [if_neg (by omega), ed, Lib.decDigits, dif_neg hs]
      simp
  · intro hm2
    have hl := congrArg List.length h2;have hd := qtr n.toNat (by omega);have hd2 : (Lib.decDigits m.toNat).length = Lib.nDigits m.toNat := Lib.decDigits_length _;have hb : Lib.nDigits m.toNat = Lib.nDigits (m.toNat / 10) + 1 := Lib.nDigits_big (by omega);have hp := Lib.nDigits_pos (m.toNat / 10);rw [List.length_append] at hl;simp only [List.length_cons];omega
theorem qrv (m r3 q3 r2 q2 r1 q1 r0 q0 : Int) (h0 : 0 <= m) (h1 : m <= 18446744073709551615)
    (hr3 : e3 m % 10 = r3) (hq3 : e3 m / 10 = q3) (hr2 : (r3 * 65536 + e2 m) % 10 = r2) (hq2 : (r3 * 65536 + e2 m) / 10 = q2) (hr1 : (r2 * 65536 + e1 m) % 10 = r1) (hq1 : (r2 * 65536 + e1 m) / 10 = q1) (hr0 : (r1 * 65536 + e0 m) % 10 = r0) (hq0 : (r1 * 65536 + e0 m) / 10 = q0) :
    q0 = e0 (m / 10) /\ q1 = e1 (m / 10) /\ q2 = e2 (m / 10) /\ q3 = e3 (m / 10) /\ r0 = m % 10 := by
  have b0 : 0 <= e0 m /\ e0 m <= 65535 := by unfold e0; omega
  have b1 : 0 <= e1 m /\ e1 m <= 65535 := by unfold e1; omega
  have b2 : 0 <= e2 m /\ e2 m <= 65535 := by unfold e2; omega
  have b3 : 0 <= e3 m /\ e3 m <= 65535 := by unfold e3; omega
  have hm : m = e3 m * 281474976710656 + e2 m * 4294967296 + e1 m * 65536 + e0 m := by unfold e0 e1 e2 e3; omega
  generalize e0 m = x0 at *;generalize e1 m = x1 at *;generalize e2 m = x2 at *;generalize e3 m = x3 at *;have s3 : x3 = 10 * q3 + r3 /\ 0 <= r3 /\ r3 <= 9 /\ 0 <= q3 /\ q3 <= 65535 := by omega
  have s2 : r3 * 65536 + x2 = 10 * q2 + r2 /\ 0 <= r2 /\ r2 <= 9 /\ 0 <= q2 /\ q2 <= 65535 := by omega
  have s1 : r2 * 65536 + x1 = 10 * q1 + r1 /\ 0 <= r1 /\ r1 <= 9 /\ 0 <= q1 /\ q1 <= 65535 := by omega
  have s0 : r1 * 65536 + x0 = 10 * q0 + r0 /\ 0 <= r0 /\ r0 <= 9 /\ 0 <= q0 /\ q0 <= 65535 := by omega
  clear hr3 hq3 hr2 hq2 hr1 hq1 hr0 hq0;have hQ : m = 10 * (q3 * 281474976710656 + q2 * 4294967296 + q1 * 65536 + q0) + r0 := by omega
  have hQ2 : m / 10 = q3 * 281474976710656 + q2 * 4294967296 + q1 * 65536 + q0 := by omega
  have hr : r0 = m % 10 := by omega
  clear hm hQ h0 h1;rw [hQ2];have t1 : (q3 * 281474976710656 + q2 * 4294967296 + q1 * 65536 + q0) / 65536 = q3 * 4294967296 + q2 * 65536 + q1 := by omega
  have t2 : (q3 * 281474976710656 + q2 * 4294967296 + q1 * 65536 + q0) / 4294967296 = q3 * 65536 + q2 := by omega
  have t3 : (q3 * 281474976710656 + q2 * 4294967296 + q1 * 65536 + q0) / 281474976710656 = q3 := by omega
  unfold e0 e1 e2 e3;rw [t1, t2, t3];clear t1 t2 t3 hQ2;refine ⟨by omega, by omega, by omega, rfl, hr⟩
theorem qje (neg : Bool) (n : Int) (w : World) (h0 : 0 <= n) (h1 : n <= 18446744073709551615) (hn : n ≠ 0) :
    Calls Tryz.prog 79 #[.agg #[.bool neg, .int .i64 (e0 n), .int .i64 (e1 n), .int .i64 (e2 n), .int .i64 (e3 n), .int .i64 0, .int .i64 0, .int .i64 0, .int .i64 0, .int .i64 0, .int .i64 0]] w fun e w' => e = .returned (.string ⟨((if neg then [45] else []) ++ Lib.decDigits n.toNat).toArray⟩) /\ Below w.heap.size w w' := by
  have hst : TxAt n n [] := ⟨h0, h1, by rw [if_neg hn]; simp, by simp, by simp⟩;have HST := Zh hst;have hz : decide (n = 0) = false := by simp [hn]
  have HZ := Zh hz;clear hst hz;go_enter Tryz.func79, Tryz.ntmps79
  go_wp2_with fail
  refine (qj2 n _ _ h0 h1 HZ.o).mono ?_;rintro e w1 ⟨rfl, hb⟩;have hB : Below w.heap.size w w1 := ((Below.refl _ _).alloc (Nat.le_refl _) _).trans (hb.mono (by simp only [World.size_alloc]; omega));have gb : w1.cell? ⟨w.heap.size, 0, none⟩ = some (.bool neg) := qaa hb (by simp [go_sem]);have g0 : w1.cell? ⟨w.heap.size, 1, none⟩ = some (.int .i64 (e0 n)) := qaa hb (by simp [go_sem]);have g1 : w1.cell? ⟨w.heap.size, 1 + 1, none⟩ = some (.int .i64 (e1 n)) := qaa hb (by simp [go_sem]);have g2 : w1.cell? ⟨w.heap.size, 1 + 2, none⟩ = some (.int .i64 (e2 n)) := qaa hb (by simp [go_sem]);have g3 : w1.cell? ⟨w.heap.size, 1 + 3, none⟩ = some (.int .i64 (e3 n)) := qaa hb (by simp [go_sem]);have g4 : w1.cell? ⟨w.heap.size, 1 + 4, none⟩ = some (.int .i64 0) := qaa hb (by simp [go_sem]);have g5 : w1.cell? ⟨w.heap.size, 1 + 5, none⟩ = some (.int .i64 0) := qaa hb (by simp [go_sem]);have g6 : w1.cell? ⟨w.heap.size, 1 + 6, none⟩ = some (.int .i64 0) := qaa hb (by simp [go_sem]);have g7 : w1.cell? ⟨w.heap.size, 1 + 7, none⟩ = some (.int .i64 0) := qaa hb (by simp [go_sem]);have g8 : w1.cell? ⟨w.heap.size, 1 + 8, none⟩ = some (.int .i64 0) := qaa hb (by simp [go_sem]);have g9 : w1.cell? ⟨w.heap.size, 1 + 9, none⟩ = some (.int .i64 0) := qaa hb (by simp [go_sem]);clear hb
  go_wp2_with fail
  have hB1 := hB.alloc hB.size (.cells #[.int .i64 (e0 n), .int .i64 (e1 n), .int .i64 (e2 n), .int .i64 (e3 n), .int .i64 0, .int .i64 0, .int .i64 0, .int .i64 0, .int .i64 0, .int .i64 0] 121)
  have hrow : RowAt (w1.alloc (.cells #[.int .i64 (e0 n), .int .i64 (e1 n), .int .i64 (e2 n), .int .i64 (e3 n), .int .i64 0, .int .i64 0, .int .i64 0, .int .i64 0, .int .i64 0, .int .i64 0] 121)) w1.heap.size n := by
    constructor
    all_goals (try simp [go_sem])
  have hne : w.heap.size < w1.heap.size := World.block_lt_of_cell? w1 ⟨w.heap.size, 0, none⟩ gb;have gb1 := qaa ((Below.refl _ w1).alloc (Nat.le_refl _) (.cells #[.int .i64 (e0 n), .int .i64 (e1 n), .int .i64 (e2 n), .int .i64 (e3 n), .int .i64 0, .int .i64 0, .int .i64 0, .int .i64 0, .int .i64 0, .int .i64 0] 121)) gb;clear g0 g1 g2 g3 g4 g5 g6 g7 g8 g9 gb hB;generalize hW : (w1.alloc (.cells #[.int .i64 (e0 n), .int .i64 (e1 n), .int .i64 (e2 n), .int .i64 (e3 n), .int .i64 0, .int .i64 0, .int .i64 0, .int .i64 0, .int .i64 0, .int .i64 0] 121)) = W at *;clear hW;generalize w1.heap.size = B at *;have HROW := Zh hrow;have HNE := Zh hne;clear hrow hne
  go_loopw [3, 5, 6] (fun t _ _ wr => ∃ (m : Int) (l : List UInt8), t = .string ⟨l.toArray⟩ /\ TxAt n m l /\ RowAt wr B m /\ wr.cell? ⟨w.heap.size, 0, none⟩ = some (.bool neg) /\ Below w.heap.size w wr) (fun t _ _ _ => 21 - qld t)
  case atStart => exact ⟨n, [], rfl, HST.o, HROW.o, gb1, hB1⟩
  case round =>
    obtain ⟨m, l, rfl, hT, hR, hg, hb⟩ := hrel;have hT1 := hT.1;have hT2 := hT.2.1;have hlen := hT.2.2.2.1;have HT := Zh hT;have HR := Zh hR;have d0 := hR.c0;have d1 := hR.c1;have d2 := hR.c2;have d3 := hR.c3;have d4 := hR.c4;have d5 := hR.c5;have d6 := hR.c6;have d7 := hR.c7;have d8 := hR.c8;have d9 := hR.c9;clear hT hR
    by_cases hm : m = 0
    · have hz : decide (m = 0) = true := by simp [hm]
      have HZ := Zh hz;have HM := Zh hm;clear hz hm
      go_wp2_with fail
      refine (qj2 m _ _ hT1 hT2 HZ.o).mono ?_;rintro e w2 ⟨rfl, hb2⟩;have hg2 := qaa hb2 hg;have hB2 := hb.trans (hb2.mono hb.size);clear hb2 hb hg d0 d1 d2 d3 d4 d5 d6 d7 d8 d9;have hfin : Lib.decDigits n.toNat = l := by have := HT.o.2.2.1; rw [if_pos HM.o] at this; simpa using this
      have HFIN := Zh hfin;clear hfin;cases neg
      · go_wp2_with fail
        go_ret
        exact ⟨by rw [HFIN.o]; rfl, hB2⟩
      · go_wp2_with fail
        go_ret
        refine ⟨?_, hB2⟩;rw [HFIN.o];exact congrArg (fun b => Ending.returned (Value.string b)) (ByteArray.ext (by simp))
    · have hz : decide (m = 0) = false := by simp [hm]
      have HZ := Zh hz;have HM := Zh hm;clear hz hm
      go_wp2_with fail
      refine (qj2 m _ _ hT1 hT2 HZ.o).mono ?_;rintro e w2 ⟨rfl, hb2⟩;have hg2 := qaa hb2 hg;have hB2 := hb.trans (hb2.mono hb.size);have hR := HR.o.keep hb2;clear hb2 hb hg d0 d1 d2 d3 d4 d5 d6 d7 d8 d9 HR;obtain ⟨c0, c1, c2, c3, c4, c5, c6, c7, c8, c9, hf⟩ := hR;have f0 := hf 0;have f1 := hf 1;have f2 := hf 2;have f3 := hf 3;have f4 := hf 4;have f5 := hf 5;have f6 := hf 6;have f7 := hf 7;have f8 := hf 8;have f9 := hf 9;have hfr := Zh hf;clear hf;have b0 : 0 <= e0 m /\ e0 m <= 65535 := by unfold e0; omega
      have b1 : 0 <= e1 m /\ e1 m <= 65535 := by unfold e1; omega
      have b2 : 0 <= e2 m /\ e2 m <= 65535 := by unfold e2; omega
      have b3 : 0 <= e3 m /\ e3 m <= 65535 := by unfold e3; omega
      obtain ⟨b00, b01⟩ := b0;obtain ⟨b10, b11⟩ := b1;obtain ⟨b20, b21⟩ := b2;obtain ⟨b30, b31⟩ := b3
      go_wp2_with fail
      refine wp_loop_rounds 11 ?_;rw [rounds_succ]
      go_wp2_with fail
      rw [rounds_succ]
      go_wp2_with fail
      rw [rounds_succ]
      go_wp2_with fail
      rw [rounds_succ]
      go_wp2_with fail
      rw [rounds_succ]
      go_wp2_with fail
      rw [rounds_succ]
      go_wp2_with fail
      rw [rounds_succ]
      go_wp2_with fail
      have ra3 : 0 <= (e3 m) % 10 /\ (e3 m) % 10 <= 9 := by omega
      have qa3 : 0 <= (e3 m) / 10 /\ (e3 m) / 10 <= 65535 := by omega
      generalize hr3 : (e3 m) % 10 = r3 at *;generalize hq3 : (e3 m) / 10 = q3 at *;have HR3 := Zh hr3;have HQ3 := Zh hq3;clear hr3 hq3;obtain ⟨ra30, ra31⟩ := ra3;obtain ⟨qa30, qa31⟩ := qa3;rw [rounds_succ]
      go_wp2_with fail
      have ra2 : 0 <= (r3 * 65536 + e2 m) % 10 /\ (r3 * 65536 + e2 m) % 10 <= 9 := by omega
      have qa2 : 0 <= (r3 * 65536 + e2 m) / 10 /\ (r3 * 65536 + e2 m) / 10 <= 65535 := by omega
      generalize hr2 : (r3 * 65536 + e2 m) % 10 = r2 at *;generalize hq2 : (r3 * 65536 + e2 m) / 10 = q2 at *;have HR2 := Zh hr2;have HQ2 := Zh hq2;clear hr2 hq2;obtain ⟨ra20, ra21⟩ := ra2;obtain ⟨qa20, qa21⟩ := qa2;rw [rounds_succ]
      go_wp2_with fail
      have ra1 : 0 <= (r2 * 65536 + e1 m) % 10 /\ (r2 * 65536 + e1 m) % 10 <= 9 := by omega
      have qa1 : 0 <= (r2 * 65536 + e1 m) / 10 /\ (r2 * 65536 + e1 m) / 10 <= 65535 := by omega
      generalize hr1 : (r2 * 65536 + e1 m) % 10 = r1 at *;generalize hq1 : (r2 * 65536 + e1 m) / 10 = q1 at *;have HR1 := Zh hr1;have HQ1 := Zh hq1;clear hr1 hq1;obtain ⟨ra10, ra11⟩ := ra1;obtain ⟨qa10, qa11⟩ := qa1;rw [rounds_succ]
      go_wp2_with fail
      have ra0 : 0 <= (r1 * 65536 + e0 m) % 10 /\ (r1 * 65536 + e0 m) % 10 <= 9 := by omega
      have qa0 : 0 <= (r1 * 65536 + e0 m) / 10 /\ (r1 * 65536 + e0 m) / 10 <= 65535 := by omega
      generalize hr0 : (r1 * 65536 + e0 m) % 10 = r0 at *;generalize hq0 : (r1 * 65536 + e0 m) / 10 = q0 at *;have HR0 := Zh hr0;have HQ0 := Zh hq0;clear hr0 hq0;obtain ⟨ra00, ra01⟩ := ra0;obtain ⟨qa00, qa01⟩ := qa0;obtain ⟨k0, k1, k2, k3, kr⟩ := qrv m r3 q3 r2 q2 r1 q1 r0 q0 hT1 hT2 HR3.o HQ3.o HR2.o HQ2.o HR1.o HQ1.o HR0.o HQ0.o;subst k0 k1 k2 k3;have KR := Zh kr;have KR := Zh kr;clear kr;have hrow2 : RowAt (qfr w2 B (m / 10)) B (m / 10) := qq7 ⟨c0, c1, c2, c3, c4, c5, c6, c7, c8, c9, hfr.o⟩ (m / 10);have hg3 := qi4 w2 B (m / 10) _ _ hg2 (by have := HNE.o; simp; omega);have hB3 := qi5 B (m / 10) hB2 (by have := HNE.o; omega);have hfold : ∀ K : World -> Prop, K (qfr w2 B (m / 10)) -> K (qfr w2 B (m / 10)) := fun _ h => h
      clear c0 c1 c2 c3 c4 c5 c6 c7 c8 c9 f0 f1 f2 f3 f4 f5 f6 f7 f8 f9 hfr hg2 hB2;rw [show ((((((((((w2.setCell ⟨B, 9, none⟩ (.int .i64 0)).setCell ⟨B, 8, none⟩ (.int .i64 0)).setCell ⟨B, 7, none⟩ (.int .i64 0)).setCell ⟨B, 6, none⟩ (.int .i64 0)).setCell ⟨B, 5, none⟩ (.int .i64 0)).setCell ⟨B, 4, none⟩ (.int .i64 0)).setCell ⟨B, 3, none⟩ (.int .i64 (e3 (m / 10)))).setCell ⟨B, 2, none⟩ (.int .i64 (e2 (m / 10)))).setCell ⟨B, 1, none⟩ (.int .i64 (e1 (m / 10)))).setCell ⟨B, 0, none⟩ (.int .i64 (e0 (m / 10)))) = qfr w2 B (m / 10) from rfl];generalize qfr w2 B (m / 10) = W3 at *;have HROW3 := Zh hrow2;clear hrow2 hfold
      have hcv : (convert 57 9 (.slice (some ⟨W3.heap.size, 0, none⟩) 1 1)).run Tryz.prog (W3.alloc (.cells #[.int .u8 (48 + r0)] 5)) = .ok (.string ⟨[dgt m].toArray⟩) (W3.alloc (.cells #[.int .u8 (48 + r0)] 5)) := by
        have h := run_convert_bytes_back (P := Tryz.prog) (W3.alloc (.cells #[.int .u8 (48 + r0)] 5)) 57 9 5 ⟨W3.heap.size, 0, none⟩ 1 [dgt m] Tryz.underlying57 Tryz.underlying5 Tryz.underlying9 (fun j hj => by
          have hj0 : j = 0 := by simpa using hj
          subst hj0;rw [Lib.add_plain]
          have e : ((dgt m).toNat : Int) = 48 + r0 := by
            unfold dgt;have := KR.o;have hmod : (48 + m.toNat % 10) % 256 = 48 + m.toNat % 10 := Nat.mod_eq_of_lt (by omega);simp only [UInt8.toNat_ofNat'];rw [show (2 : Nat) ^ 8 = 256 from rfl, hmod];omega
          simp only [List.getElem_cons_zero];rw [e]
          simp [go_sem])
        exact h
      rw [rounds_succ]
      go_wp2_with fail
      go_roundw
      case rel => exact ⟨m / 10, dgt m :: l, congrArg Value.string (ByteArray.ext (by simp)), qqy n m l h1 HT.o HM.o, HROW3.o.keep ((Below.refl _ _).alloc (Nat.le_refl _) _), qaa ((Below.refl _ _).alloc (Nat.le_refl _) _) hg3, hB3.alloc hB3.size _⟩
      case measure => exact qlc (dgt m) l hlen
end Go.Proofs.YtookoagcmejkpaaGreatDoor
