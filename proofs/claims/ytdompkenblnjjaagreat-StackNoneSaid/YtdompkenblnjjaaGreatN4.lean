/- The law StackNone: its walk. -/
import Derived.Test.YtdompkenblnjjaaGreatN1
import Derived.Test.YtdompkenblnjjaaGreatN2
import Derived.Test.YtdompkenblnjjaaGreatN3
import Derived.Test.YtdompkenblnjjaaGreatKn
namespace Go.Proofs.YtdompkenblnjjaaGreat
open Go Go.RowKit

/-- the call's fields and the empty tree that the law keeps. -/
structure Fx (W : World) (B T : Nat) (n : Int) (b1 b2 b3 : Bool) (s : ByteArray) (p : Option Addr) (np cp : Nat) : Prop where
  f1 : W.cell? ⟨B, 1, none⟩ = some (.int .i64 n)
  f2 : W.cell? ⟨B, 2, none⟩ = some (.bool b1)
  f3 : W.cell? ⟨B, 3, none⟩ = some (.bool b2)
  f4 : W.cell? ⟨B, 4, none⟩ = some (.bool b3)
  f5 : W.cell? ⟨B, 5, none⟩ = some (.string s)
  f6 : W.cell? ⟨B, 6, none⟩ = some (.slice p np cp)
  t0 : W.cell? ⟨T, 0, none⟩ = some (.bool false)
  t1 : W.cell? ⟨T, 1, none⟩ = some (.int .u8 0)
  t2 : W.cell? ⟨T, 2, none⟩ = some (.string ⟨#[]⟩)
  t3 : W.cell? ⟨T, 3, none⟩ = some (.int .i64 0)
  t4 : W.cell? ⟨T, 4, none⟩ = some (.slice none 0 0)
theorem Fx.later {W W' : World} {B T : Nat} {n : Int} {b1 b2 b3 : Bool} {s : ByteArray} {p : Option Addr} {np cp : Nat} (h : Fx W B T n b1 b2 b3 s p np cp) (hb : Below W.heap.size W W') : Fx W' B T n b1 b2 b3 s p np cp :=
  ⟨cell_later hb h.f1, cell_later hb h.f2, cell_later hb h.f3, cell_later hb h.f4, cell_later hb h.f5, cell_later hb h.f6, cell_later hb h.t0, cell_later hb h.t1, cell_later hb h.t2, cell_later hb h.t3, cell_later hb h.t4⟩
/-- the call's cells. -/
def opC (k n : Int) (b1 b2 b3 : Bool) (s : ByteArray) (p : Option Addr) (np cp : Nat) (q : Option Addr) (mq cq : Nat) (r : ByteArray) (b : Option Addr) (nb cb : Nat) : Array Value := #[.int .i64 k, .int .i64 n, .bool b1, .bool b2, .bool b3, .string s, .slice p np cp, .slice q mq cq, .string r, .slice b nb cb]
set_option maxRecDepth 100000 in
theorem op_at (W : World) (k n : Int) (b1 b2 b3 : Bool) (s : ByteArray) (p : Option Addr) (np cp : Nat) (q : Option Addr) (mq cq : Nat) (r : ByteArray) (b : Option Addr) (nb cb : Nat) (t : TypeId) (h : StrsIn W p np) (h2 : StrsIn W q mq) : OpAt (W.alloc (.cells (opC k n b1 b2 b3 s p np cp q mq cq r b nb cb) t)) W.heap.size s r p np cp q mq cq b nb cb :=
  ⟨by simp [opC], by simp [opC], by simp [opC], by simp [opC], by simp [opC], h.later (below1 _ _), h2.later (below1 _ _)⟩
/-- where the loop stands: the call's box, the two stacks. -/
structure LSt (W wr : World) (B S Z : Nat) (n : Int) (b1 b2 b3 : Bool) (s r : ByteArray) (p : Option Addr) (np cp : Nat) (q : Option Addr) (mq cq : Nat) (b : Option Addr) (bs : List UInt8) (cb : Nat) : Prop where
  bl : Below W.heap.size W wr
  f1 : wr.cell? ⟨B, 1, none⟩ = some (.int .i64 n)
  f2 : wr.cell? ⟨B, 2, none⟩ = some (.bool b1)
  f3 : wr.cell? ⟨B, 3, none⟩ = some (.bool b2)
  f4 : wr.cell? ⟨B, 4, none⟩ = some (.bool b3)
  op : OpAt wr B s r p np cp q mq cq b bs.length cb
  by_ : BytesIn wr b bs
  s0 : wr.cell? ⟨S, 0, none⟩ = some (.pointer none)
  s1 : wr.cell? ⟨S, 1, none⟩ = some (.pointer (some ⟨Z, 0, none⟩))
  z : ZeroAt wr Z
theorem LSt.later {W wr wr' : World} {B S Z : Nat} {n : Int} {b1 b2 b3 : Bool} {s r : ByteArray} {p : Option Addr} {np cp : Nat} {q : Option Addr} {mq cq : Nat} {b : Option Addr} {bs : List UInt8} {cb : Nat} (h : LSt W wr B S Z n b1 b2 b3 s r p np cp q mq cq b bs cb) (hb : Below wr.heap.size wr wr') : LSt W wr' B S Z n b1 b2 b3 s r p np cp q mq cq b bs cb :=
  ⟨h.bl.trans (hb.mono h.bl.size), cell_later hb h.f1, cell_later hb h.f2, cell_later hb h.f3, cell_later hb h.f4, h.op.later hb, h.by_.later hb, cell_later hb h.s0, cell_later hb h.s1, h.z.later hb⟩
set_option maxRecDepth 100000 in
theorem conv_str (W : World) (b : Option Addr) (bs : List UInt8) (cb : Nat) (h : BytesIn W b bs) (hc : bs.length ≤ cb) : (convert 25 9 (.slice b bs.length cb)).run Tryz.prog W = .ok (.string ⟨bs.toArray⟩) W := by
  cases b with
  | none =>
    have h0 : bs = [] := by
      cases bs with
      | nil => rfl
      | cons x l => obtain ⟨_, _, e, _⟩ := h 0 (by simp); cases e
    subst h0
    exact run_convert_bytes_nil W 25 5 Tryz.underlying25 Tryz.underlying5 0 _ 9 Tryz.underlying9
  | some a =>
    refine run_convert_bytes_back W 25 9 5 a cb bs Tryz.underlying25 Tryz.underlying5 Tryz.underlying9 fun j hj => ?_
    obtain ⟨b2, off2, e, hcell⟩ := h j hj
    cases e
    rw [Lib.add_plain]
    exact hcell
set_option maxRecDepth 100000 in
set_option maxHeartbeats 8000000 in
theorem law_any (k n : Int) (b1 b2 b3 : Bool) (s : ByteArray) (p : Option Addr) (np cp : Nat) (q : Option Addr) (mq cq : Nat) (r : ByteArray) (b : Option Addr) (bs : List UInt8) (cb : Nat) (W : World) (hp : StrsIn W p np) (hq : StrsIn W q mq) (hb : BytesIn W b bs) (hnp : np ≤ 9223372036854775807) (hmq : mq ≤ 9223372036854775807) (hcb : bs.length ≤ cb) :
    Calls Tryz.prog 3 #[.agg (opC k n b1 b2 b3 s p np cp q mq cq r b bs.length cb)] W fun e w' => e = .returned (.bool true) ∧ Below W.heap.size W w' := by
  obtain ⟨W1, hW1⟩ : ∃ W1, W1 = W.alloc (.cells (opC k n b1 b2 b3 s p np cp q mq cq r b bs.length cb) 27) := ⟨_, rfl⟩
  obtain ⟨W2, hW2⟩ : ∃ W2, W2 = W1.alloc (.cells (opC k n b1 b2 b3 s p np cp q mq cq r b bs.length cb) 27) := ⟨_, rfl⟩
  have hb1 : Below W.heap.size W W1 := by rw [hW1]; exact below1 _ _
  have hb2 : Below W1.heap.size W1 W2 := by rw [hW2]; exact below1 _ _
  have hs1 : W1.heap.size = W.heap.size + 1 := by rw [hW1, World.size_alloc]
  have hop1 : OpAt W1 W.heap.size s r p np cp q mq cq b bs.length cb := by rw [hW1]; exact op_at W k n b1 b2 b3 s p np cp q mq cq r b bs.length cb 27 hp hq
  have hop2 : OpAt W2 (W.heap.size + 1) s r p np cp q mq cq b bs.length cb := by rw [hW2, ← hs1]; exact op_at W1 k n b1 b2 b3 s p np cp q mq cq r b bs.length cb 27 (hp.later hb1) (hq.later hb1)
  have hf : W1.cell? ⟨W.heap.size, 1, none⟩ = some (.int .i64 n) ∧ W1.cell? ⟨W.heap.size, 2, none⟩ = some (.bool b1) ∧ W1.cell? ⟨W.heap.size, 3, none⟩ = some (.bool b2) ∧ W1.cell? ⟨W.heap.size, 4, none⟩ = some (.bool b3) := by
    rw [hW1]; refine ⟨?_, ?_, ?_, ?_⟩ <;> simp [opC]
  have HTM := Lib.hid (tame4 (W.heap.size + 1) 1 s r p np cp q mq cq b bs.length cb W2 hop2 hnp hmq)
  have HBB := Lib.hid (hb1.trans (hb2.mono hb1.size))
  have HF := Lib.hid (And.intro (cell_later hb2 hf.1) (And.intro (cell_later hb2 hf.2.1) (And.intro (cell_later hb2 hf.2.2.1) (And.intro (cell_later hb2 hf.2.2.2) (And.intro (hop1.later hb2) ((hb.later hb1).later hb2))))))
  have HCB := Lib.hid hcb
  have HW2 := Lib.hid (show (W.alloc (.cells (opC k n b1 b2 b3 s p np cp q mq cq r b bs.length cb) 27)).alloc (.cells (opC k n b1 b2 b3 s p np cp q mq cq r b bs.length cb) 27) = W2 from by rw [hW2, hW1])
  have HSZ := Lib.hid (show W2.heap.size = W.heap.size + 2 from by rw [hW2, World.size_alloc, hs1])
  clear hp hq hb hnp hmq hcb hb1 hb2 hs1 hop1 hop2 hf hW1 hW2
  unfold opC at HW2 ⊢
  go_enter Tryz.func3, Tryz.ntmps3
  go_wp2_with fail
  rw [HW2.out]
  refine HTM.out.mono ?_
  rintro e w1 ⟨he, hb⟩
  have HB1 := Lib.hid hb
  clear hb HTM HW2
  rcases he with rfl | rfl
  case inr =>
    go_wp2_with fail
    refine (known_any w1).mono ?_
    rintro e w2 ⟨rfl, hb⟩
    have HB2 := Lib.hid ((HBB.out.trans (HB1.out.mono HBB.out.size)).trans (hb.mono (HBB.out.trans (HB1.out.mono HBB.out.size)).size))
    clear hb
    go_wp2_with fail
    exact bodyPost_ret (v := .bool true) (by simp [results, Tryz.results3, go_sem]) rfl ⟨rfl, HB2.out⟩
  go_wp2_with fail
  have hz1 := below1 w1 (.cells #[.pointer none, .bool false, .bool false, .bool false, .bool false, .slice none 0 0, .slice none 0 0] 35)
  obtain ⟨wz, hwz⟩ : ∃ wz, wz = w1.alloc (.cells #[.pointer none, .bool false, .bool false, .bool false, .bool false, .slice none 0 0, .slice none 0 0] 35) := ⟨_, rfl⟩
  have hsz : wz.heap.size = w1.heap.size + 1 := by rw [hwz, World.size_alloc]
  have hzz : ZeroAt wz w1.heap.size := by rw [hwz]; exact ⟨by simp, by simp, by simp, by simp, by simp, by simp, by simp⟩
  obtain ⟨w3, hw3⟩ : ∃ w3, w3 = wz.alloc (.cells #[.pointer none, .pointer (some ⟨w1.heap.size, 0, none⟩)] 36) := ⟨_, rfl⟩
  have hs0 : w3.cell? ⟨w1.heap.size + 1, 0, none⟩ = some (.pointer none) ∧ w3.cell? ⟨w1.heap.size + 1, 1, none⟩ = some (.pointer (some ⟨w1.heap.size, 0, none⟩)) := by rw [hw3, ← hsz]; exact ⟨by simp, by simp⟩
  have hb3 : Below wz.heap.size wz w3 := by rw [hw3]; exact below1 _ _
  rw [← hwz] at hz1
  rw [← hwz, ← hw3]
  have hb13 := hz1.trans (hb3.mono hz1.size)
  have hb23 := HB1.out.trans (hb13.mono HB1.out.size)
  have HL := Lib.hid (show LSt W w3 W.heap.size (w1.heap.size + 1) w1.heap.size n b1 b2 b3 s r p np cp q mq cq b bs cb from ⟨HBB.out.trans (hb23.mono HBB.out.size), cell_later hb23 HF.out.1, cell_later hb23 HF.out.2.1, cell_later hb23 HF.out.2.2.1, cell_later hb23 HF.out.2.2.2.1, HF.out.2.2.2.2.1.later hb23, HF.out.2.2.2.2.2.later hb23, hs0.1, hs0.2, hzz.later hb3⟩)
  obtain ⟨Z0, hZ0⟩ : ∃ Z0, Z0 = w1.heap.size := ⟨_, rfl⟩
  rw [← hZ0] at HL ⊢
  clear hz1 hsz hzz hs0 hb3 hb13 hb23 hw3 hwz hZ0 HB1 HF HBB HSZ
  obtain ⟨B0, hB0⟩ : ∃ B0, B0 = W.heap.size := ⟨_, rfl⟩
  have HL2 := Lib.hid (show LSt W w3 B0 (Z0 + 1) Z0 n b1 b2 b3 s r p np cp q mq cq b bs cb from by rw [hB0]; exact HL.out)
  have HB0 := Lib.hid hB0
  rw [← hB0]
  clear HL hB0
  have n0 : (0 : Int) ≤ (bs.length : Int) := Int.natCast_nonneg _
  go_loopw [5] (fun x wr => ∃ i : Nat, i ≤ 2 ∧ x = .int .i64 (i : Int) ∧ Hid (LSt W wr B0 (Z0 + 1) Z0 n b1 b2 b3 s r p np cp q mq cq b bs cb)) (fun x _ => 2 - (intOf x).toNat)
  case atStart => exact ⟨0, by decide, rfl, HL2⟩
  case round =>
    obtain ⟨i, hi, rfl, HS⟩ := hrel
    have i0 : (0 : Int) ≤ (i : Int) := Int.natCast_nonneg _
    by_cases hlt : i < 2
    case neg =>
      have i2 : (i : Int) = 2 := by omega
      have i3 : ¬ (i : Int) < 2 := by omega
      clear hi hlt
      go_wp2_with fail
      refine (known_any wr).mono ?_
      rintro e w2 ⟨rfl, hb⟩
      have HB2 := Lib.hid (HS.out.bl.trans (hb.mono HS.out.bl.size))
      clear hb
      go_wp2_with fail
      exact bodyPost_ret (v := .bool true) (by simp [results, Tryz.results3, go_sem]) rfl ⟨rfl, HB2.out⟩
    have i1 : (i : Int) < 2 := by omega
    have HI := Lib.hid (show i + 1 ≤ 2 ∧ 2 - (i + 1) < 2 - i ∧ wrap64 ((i : Int) + 1) = ((i + 1 : Nat) : Int) from ⟨by omega, by omega, by simp only [wrap64]; omega⟩)
    obtain ⟨v, hv, hnz⟩ : ∃ v, wr.cell? ⟨Z0 + 1, i, none⟩ = some v ∧ NZ wr v := by
      have h2 : i = 0 ∨ i = 1 := by omega
      rcases h2 with rfl | rfl
      · exact ⟨_, HS.out.s0, .inl rfl⟩
      · exact ⟨_, HS.out.s1, .inr ⟨Z0, rfl, HS.out.z⟩⟩
    have HN := Lib.hid (fun (w : World) (hb : Below wr.heap.size wr w) => hnz.later hb)
    have f9 := HS.out.op.c9
    have hcv := conv_str wr b bs cb HS.out.by_ HCB.out
    obtain ⟨f1, f2, f3, f4, f5, f6⟩ : wr.cell? ⟨B0, 1, none⟩ = some (.int .i64 n) ∧ wr.cell? ⟨B0, 2, none⟩ = some (.bool b1) ∧ wr.cell? ⟨B0, 3, none⟩ = some (.bool b2) ∧ wr.cell? ⟨B0, 4, none⟩ = some (.bool b3) ∧ wr.cell? ⟨B0, 5, none⟩ = some (.string s) ∧ wr.cell? ⟨B0, 6, none⟩ = some (.slice p np cp) := ⟨HS.out.f1, HS.out.f2, HS.out.f3, HS.out.f4, HS.out.op.c5, HS.out.op.c6⟩
    have HF := Lib.hid (And.intro f1 (And.intro f2 (And.intro f3 (And.intro f4 (And.intro f5 f6)))))
    clear hnz f1 f2 f3 f4 f5 f6 hlt hi
    go_wp2_with fail
    refine (read7 _ wr).mono ?_
    rintro e w4 ⟨⟨tl, tk, ts, ta, tq, tn, tc, rfl⟩, hb4⟩
    unfold trV
    have HB4 := Lib.hid hb4
    clear hb4 f9 hcv hv
    go_wp2_with fail
    refine (no6 v tl tk ts ta (.slice tq tn tc) w4 (HN.out _ HB4.out)).mono ?_
    rintro e w5 ⟨rfl, hb5⟩
    have HB5 := Lib.hid (HB4.out.trans (hb5.mono HB4.out.size))
    clear hb5 HB4
    obtain ⟨w6, hw6⟩ : ∃ w6, w6 = w5.alloc (.cells #[.bool false, .int .u8 0, .string ⟨#[]⟩, .int .i64 0, .slice none 0 0] 47) := ⟨_, rfl⟩
    have hb6 : Below w5.heap.size w5 w6 := by rw [hw6]; exact below1 _ _
    have HB6 := Lib.hid (HB5.out.trans (hb6.mono HB5.out.size))
    have HX6 := Lib.hid (show Fx w6 B0 w5.heap.size n b1 b2 b3 s p np cp from by
      obtain ⟨f1, f2, f3, f4, f5, f6⟩ := HF.out
      refine ⟨cell_later HB6.out f1, cell_later HB6.out f2, cell_later HB6.out f3, cell_later HB6.out f4, cell_later HB6.out f5, cell_later HB6.out f6, ?_, ?_, ?_, ?_, ?_⟩ <;> rw [hw6] <;> simp)
    have HW6 := Lib.hid hw6.symm
    obtain ⟨T, hT⟩ : ∃ T, T = w5.heap.size := ⟨_, rfl⟩
    rw [← hT] at HX6
    have HT := Lib.hid hT
    clear hb6 hw6 hT HB5 HF
    go_wp2_with fail
    rw [HW6.out, ← HT.out]
    refine (no8 v w6 (HN.out _ HB6.out)).mono ?_
    rintro e w7 ⟨rfl, hb⟩
    have HB7 := Lib.hid (HB6.out.trans (hb.mono HB6.out.size))
    have HX7 := Lib.hid (HX6.out.later hb)
    obtain ⟨f1, f2, f3, f4, f5, f6, t0, t1, t2, t3, t4⟩ := HX7.out
    clear hb HB6 HX6
    go_wp2_with fail
    clear f1 f2 f3 f4 f5 f6 t0 t1 t2 t3 t4
    refine (no9 v b1 b2 b3 w7 (HN.out _ HB7.out)).mono ?_
    rintro e w8 ⟨rfl, hb⟩
    have HB8 := Lib.hid (HB7.out.trans (hb.mono HB7.out.size))
    have HX8 := Lib.hid (HX7.out.later hb)
    obtain ⟨f1, f2, f3, f4, f5, f6, t0, t1, t2, t3, t4⟩ := HX8.out
    clear hb HB7 HX7
    go_wp2_with fail
    clear f1 f2 f3 f4 f5 f6 t0 t1 t2 t3 t4
    refine (no10 v s w8 (HN.out _ HB8.out)).mono ?_
    rintro e w9 ⟨rfl, hb⟩
    have HB9 := Lib.hid (HB8.out.trans (hb.mono HB8.out.size))
    have HX9 := Lib.hid (HX8.out.later hb)
    obtain ⟨f1, f2, f3, f4, f5, f6, t0, t1, t2, t3, t4⟩ := HX9.out
    clear hb HB8 HX8
    go_wp2_with fail
    clear f1 f2 f3 f4 f5 f6 t0 t1 t2 t3 t4
    refine (no11 v s false 0 ⟨#[]⟩ 0 (.slice none 0 0) w9 (HN.out _ HB9.out)).mono ?_
    rintro e w10 ⟨rfl, hb⟩
    have HB10 := Lib.hid (HB9.out.trans (hb.mono HB9.out.size))
    have HX10 := Lib.hid (HX9.out.later hb)
    obtain ⟨f1, f2, f3, f4, f5, f6, t0, t1, t2, t3, t4⟩ := HX10.out
    clear hb HB9 HX9
    go_wp2_with fail
    clear f1 f2 f3 f4 f5 f6 t0 t1 t2 t3 t4
    refine (no12 v s (.slice p np cp) false 0 ⟨#[]⟩ 0 (.slice none 0 0) w10 (HN.out _ HB10.out)).mono ?_
    rintro e w11 ⟨rfl, hb⟩
    have HB11 := Lib.hid (HB10.out.trans (hb.mono HB10.out.size))
    have HX11 := Lib.hid (HX10.out.later hb)
    obtain ⟨f1, f2, f3, f4, f5, f6, t0, t1, t2, t3, t4⟩ := HX11.out
    clear hb HB10 HX10
    go_wp2_with fail
    clear f1 f2 f3 f4 f5 f6 t0 t1 t2 t3 t4
    refine (no13 v false 0 ⟨#[]⟩ 0 (.slice none 0 0) w11 (HN.out _ HB11.out)).mono ?_
    rintro e w12 ⟨rfl, hb⟩
    have HB12 := Lib.hid (HB11.out.trans (hb.mono HB11.out.size))
    have HX12 := Lib.hid (HX11.out.later hb)
    obtain ⟨f1, f2, f3, f4, f5, f6, t0, t1, t2, t3, t4⟩ := HX12.out
    clear hb HB11 HX11
    go_wp2_with fail
    clear f1 f2 f3 f4 f5 f6 t0 t1 t2 t3 t4
    refine (no14 v n w12 (HN.out _ HB12.out)).mono ?_
    rintro e w13 ⟨rfl, hb⟩
    have HB13 := Lib.hid (HB12.out.trans (hb.mono HB12.out.size))
    have HX13 := Lib.hid (HX12.out.later hb)
    obtain ⟨f1, f2, f3, f4, f5, f6, t0, t1, t2, t3, t4⟩ := HX13.out
    clear hb HB12 HX12
    go_wp2_with fail
    clear f1 f2 f3 f4 f5 f6 t0 t1 t2 t3 t4
    refine (no15 v n w13 (HN.out _ HB13.out)).mono ?_
    rintro e w14 ⟨rfl, hb⟩
    have HB14 := Lib.hid (HB13.out.trans (hb.mono HB13.out.size))
    have HX14 := Lib.hid (HX13.out.later hb)
    obtain ⟨f1, f2, f3, f4, f5, f6, t0, t1, t2, t3, t4⟩ := HX14.out
    clear hb HB13 HX13
    go_wp2_with fail
    clear f1 f2 f3 f4 f5 f6 t0 t1 t2 t3 t4
    refine (no16 v w14 (HN.out _ HB14.out)).mono ?_
    rintro e w15 ⟨rfl, hb⟩
    have HB15 := Lib.hid (HB14.out.trans (hb.mono HB14.out.size))
    have HX15 := Lib.hid (HX14.out.later hb)
    obtain ⟨f1, f2, f3, f4, f5, f6, t0, t1, t2, t3, t4⟩ := HX15.out
    clear hb HB14 HX14
    go_wp2_with fail
    clear f1 f2 f3 f4 f5 f6 t0 t1 t2 t3 t4
    refine (no17 v w15 (HN.out _ HB15.out)).mono ?_
    rintro e w16 ⟨rfl, hb⟩
    have HB16 := Lib.hid (HB15.out.trans (hb.mono HB15.out.size))
    have HX16 := Lib.hid (HX15.out.later hb)
    obtain ⟨f1, f2, f3, f4, f5, f6, t0, t1, t2, t3, t4⟩ := HX16.out
    clear hb HB15 HX15
    go_wp2_with fail
    clear f1 f2 f3 f4 f5 f6 t0 t1 t2 t3 t4
    refine (no18 v w16 (HN.out _ HB16.out)).mono ?_
    rintro e w17 ⟨rfl, hb⟩
    have HB17 := Lib.hid (HB16.out.trans (hb.mono HB16.out.size))
    have HX17 := Lib.hid (HX16.out.later hb)
    obtain ⟨f1, f2, f3, f4, f5, f6, t0, t1, t2, t3, t4⟩ := HX17.out
    clear hb HB16 HX16
    go_wp2_with fail
    clear f1 f2 f3 f4 f5 f6 t0 t1 t2 t3 t4
    refine (no19 v w17 (HN.out _ HB17.out)).mono ?_
    rintro e w18 ⟨rfl, hb⟩
    have HB18 := Lib.hid (HB17.out.trans (hb.mono HB17.out.size))
    have HX18 := Lib.hid (HX17.out.later hb)
    obtain ⟨f1, f2, f3, f4, f5, f6, t0, t1, t2, t3, t4⟩ := HX18.out
    clear hb HB17 HX17
    go_wp2_with fail
    clear f1 f2 f3 f4 f5 f6 t0 t1 t2 t3 t4
    refine (no20 v w18 (HN.out _ HB18.out)).mono ?_
    rintro e w19 ⟨rfl, hb⟩
    have HB19 := Lib.hid (HB18.out.trans (hb.mono HB18.out.size))
    have HX19 := Lib.hid (HX18.out.later hb)
    obtain ⟨f1, f2, f3, f4, f5, f6, t0, t1, t2, t3, t4⟩ := HX19.out
    clear hb HB18 HX18
    go_wp2_with fail
    skip
    refine ⟨⟨i + 1, HI.out.1, by first | rfl | rw [HI.out.2.2], Lib.hid (HS.out.later HB19.out)⟩, ?_⟩
    first | rw [HI.out.2.2] | skip
    simp only [intOf, Int.toNat_natCast]
    exact HI.out.2.1
end Go.Proofs.YtdompkenblnjjaaGreat
