/- Whether a link may be. -/
import Derived.Test.YtookoagcmejkpaaGreatDoorF2
import Derived.Test.YtookoagcmejkpaaGreatDoorJ0
set_option maxHeartbeats 3200000
namespace Go.Proofs.YtookoagcmejkpaaGreatDoor
set_option maxRecDepth 100000
open Go Go.RowKit Go.Maps
theorem qcw (w : World) : (zeroValue 66).run Tryz.prog w = .ok (fmV ⟨#[]⟩ false false false false false false false false) w := by
 have h := Tryz.zeroValue66;exact h w
theorem qin (m : Nat) (k lit a b i j : Int) (q : Option Addr) (c n : Nat) (l : List Int) (h : ByteArray) (g0 g1 ga gb gl gi gj gt : Bool) (W : World) (hl : l.length = n) (hn : n <= 9223372036854775807) (hq : IntsIn W q l)
  (hlook : (Instr.lookup 71 (.map (some m)) (.int .u8 k) true).run Tryz.prog (W.alloc (.cells #[.int .u8 k, .int .i64 lit, .int .i64 a, .int .i64 b, .int .i64 i, .int .i64 j, .slice q n c] 64)) = .ok (.tuple #[.agg #[.string h, .bool g0, .bool g1, .bool ga, .bool gb, .bool gl, .bool gi, .bool gj, .bool gt], .bool true]) (W.alloc (.cells #[.int .u8 k, .int .i64 lit, .int .i64 a, .int .i64 b, .int .i64 i, .int .i64 j, .slice q n c] 64))) :
  Calls Tryz.prog 40 #[.map (some m), .agg #[.int .u8 k, .int .i64 lit, .int .i64 a, .int .i64 b, .int .i64 i, .int .i64 j, .slice q n c]] W fun e w' => e = .returned (.bool (decide (n <= 20) && (gt || decide (n = 0)) && fldL gl lit && l.all cntB && fldC ga a && fldC gb b && fldC gi i && fldC gj j)) /\ Below W.heap.size W w' := by
 obtain ⟨W2, hW2⟩ : ∃ W2, W2 = (W.alloc (.cells #[.int .u8 k, .int .i64 lit, .int .i64 a, .int .i64 b, .int .i64 i, .int .i64 j, .slice q n c] 64)).alloc (.cells #[.string h, .bool g0, .bool g1, .bool ga, .bool gb, .bool gl, .bool gi, .bool gj, .bool gt] 66) := ⟨_, rfl⟩;have hb2 : Below W.heap.size W W2 := by rw [hW2]; repeat (first | exact Below.refl _ _ | refine Below.alloc ?_ (by simp) _)
 have HB := Zh hb2;have HC := Zh (ql6 q c n l W2 (hq.later hb2) hl hn);have HL := Zh (fun w => qta gl lit w);have HA := Zh (fun w => qck ga a w);have HBB := Zh (fun w => qck gb b w);have HI := Zh (fun w => qck gi i w);have HJ := Zh (fun w => qck gj j w);have HW2 := Zh hW2;have n0 : (0 : Int) <= (n : Int) := Int.natCast_nonneg _;clear hq hb2 hl hW2
 by_cases h20 : 20 < n
 case pos =>
  have hr : decide (n <= 20) = false := decide_eq_false (by omega);have h21 : (20 : Int) < (n : Int) := by omega
  rw [hr];simp only [Bool.false_and];clear hr h20;go_enter Tryz.func40, Tryz.ntmps40
  go_wp2_with fail
  exact bodyPost_ret (v := .bool false) (by simp [results, Tryz.results40, go_sem]) rfl ⟨rfl, by rw [HW2.o] at HB; exact HB.o⟩
 have hr : decide (n <= 20) = true := decide_eq_true (by omega);have h21 : (n : Int) <= 20 := by omega
 rw [hr];simp only [Bool.true_and];clear hr h20
 by_cases hg : gt = false /\ 0 < n
 case pos =>
  obtain ⟨rfl, hg⟩ := hg;have h22 : (0 : Int) < (n : Int) := by omega
  have hr : decide (n = 0) = false := decide_eq_false (by omega);rw [hr];simp only [Bool.false_or, Bool.false_and];clear hr hg;go_enter Tryz.func40, Tryz.ntmps40
  go_wp2_with fail
  exact bodyPost_ret (v := .bool false) (by simp [results, Tryz.results40, go_sem]) rfl ⟨rfl, by rw [HW2.o] at HB; exact HB.o⟩
 have hr : (gt || decide (n = 0)) = true := by
  cases gt with
  | true => rfl
  | false =>
   have h9 : ¬ 0 < n := fun h => hg ⟨rfl, h⟩
   have h8 : n = 0 := by omega
   simp [h8]
 rw [hr];simp only [Bool.true_and];have HG := Zh hg;clear hr hg;obtain ⟨bl, hbl⟩ : ∃ x, x = fldL gl lit := ⟨_, rfl⟩;rw [<- hbl] at HL ⊢;obtain ⟨bs, hbs⟩ : ∃ x, x = l.all cntB := ⟨_, rfl⟩;rw [<- hbs] at HC ⊢;obtain ⟨ba, hba⟩ : ∃ x, x = fldC ga a := ⟨_, rfl⟩;rw [<- hba] at HA ⊢;obtain ⟨bb, hbb⟩ : ∃ x, x = fldC gb b := ⟨_, rfl⟩;rw [<- hbb] at HBB ⊢;obtain ⟨bi, hbi⟩ : ∃ x, x = fldC gi i := ⟨_, rfl⟩;rw [<- hbi] at HI ⊢;obtain ⟨bj, hbj⟩ : ∃ x, x = fldC gj j := ⟨_, rfl⟩;rw [<- hbj] at HJ ⊢;clear hbl hbs hba hbb hbi hbj
 cases gt with
 | true =>
  cases bl with
  | false =>
   simp only [Bool.false_and];go_enter Tryz.func40, Tryz.ntmps40
   go_wp2_with fail
   refine (HL.o _).mono ?_;rintro e w1 ⟨rfl, hw⟩;rw [hw];clear hw
   go_wp2_with fail
   exact bodyPost_ret (v := .bool false) (by simp [results, Tryz.results40, go_sem]) rfl ⟨rfl, by rw [HW2.o] at HB; exact HB.o⟩
  | true =>
  simp only [Bool.true_and]
  cases bs with
  | false =>
   simp only [Bool.false_and];go_enter Tryz.func40, Tryz.ntmps40
   go_wp2_with fail
   refine (HL.o _).mono ?_;rintro e w1 ⟨rfl, hw⟩;rw [hw];clear hw
   go_wp2_with fail
   rw [<- HW2.o];refine HC.o.mono ?_;rintro e w1 ⟨rfl, hw⟩;rw [hw, HW2.o];clear hw
   go_wp2_with fail
   exact bodyPost_ret (v := .bool false) (by simp [results, Tryz.results40, go_sem]) rfl ⟨rfl, by rw [HW2.o] at HB; exact HB.o⟩
  | true =>
  simp only [Bool.true_and]
  cases ba with
  | false =>
   simp only [Bool.false_and];go_enter Tryz.func40, Tryz.ntmps40
   go_wp2_with fail
   refine (HL.o _).mono ?_;rintro e w1 ⟨rfl, hw⟩;rw [hw];clear hw
   go_wp2_with fail
   rw [<- HW2.o];refine HC.o.mono ?_;rintro e w1 ⟨rfl, hw⟩;rw [hw, HW2.o];clear hw
   go_wp2_with fail
   refine (HA.o _).mono ?_;rintro e w1 ⟨rfl, hw⟩;rw [hw];clear hw
   go_wp2_with fail
   exact bodyPost_ret (v := .bool false) (by simp [results, Tryz.results40, go_sem]) rfl ⟨rfl, by rw [HW2.o] at HB; exact HB.o⟩
  | true =>
  simp only [Bool.true_and]
  cases bb with
  | false =>
   simp only [Bool.false_and];go_enter Tryz.func40, Tryz.ntmps40
   go_wp2_with fail
   refine (HL.o _).mono ?_;rintro e w1 ⟨rfl, hw⟩;rw [hw];clear hw
   go_wp2_with fail
   rw [<- HW2.o];refine HC.o.mono ?_;rintro e w1 ⟨rfl, hw⟩;rw [hw, HW2.o];clear hw
   go_wp2_with fail
   refine (HA.o _).mono ?_;rintro e w1 ⟨rfl, hw⟩;rw [hw];clear hw
   go_wp2_with fail
   refine (HBB.o _).mono ?_;rintro e w1 ⟨rfl, hw⟩;rw [hw];clear hw
   go_wp2_with fail
   exact bodyPost_ret (v := .bool false) (by simp [results, Tryz.results40, go_sem]) rfl ⟨rfl, by rw [HW2.o] at HB; exact HB.o⟩
  | true =>
  simp only [Bool.true_and]
  cases bi with
  | false =>
   simp only [Bool.false_and];go_enter Tryz.func40, Tryz.ntmps40
   go_wp2_with fail
   refine (HL.o _).mono ?_;rintro e w1 ⟨rfl, hw⟩;rw [hw];clear hw
   go_wp2_with fail
   rw [<- HW2.o];refine HC.o.mono ?_;rintro e w1 ⟨rfl, hw⟩;rw [hw, HW2.o];clear hw
   go_wp2_with fail
   refine (HA.o _).mono ?_;rintro e w1 ⟨rfl, hw⟩;rw [hw];clear hw
   go_wp2_with fail
   refine (HBB.o _).mono ?_;rintro e w1 ⟨rfl, hw⟩;rw [hw];clear hw
   go_wp2_with fail
   refine (HI.o _).mono ?_;rintro e w1 ⟨rfl, hw⟩;rw [hw];clear hw
   go_wp2_with fail
   exact bodyPost_ret (v := .bool false) (by simp [results, Tryz.results40, go_sem]) rfl ⟨rfl, by rw [HW2.o] at HB; exact HB.o⟩
  | true =>
  simp only [Bool.true_and];go_enter Tryz.func40, Tryz.ntmps40
  go_wp2_with fail
  refine (HL.o _).mono ?_;rintro e w1 ⟨rfl, hw⟩;rw [hw];clear hw
  go_wp2_with fail
  rw [<- HW2.o];refine HC.o.mono ?_;rintro e w1 ⟨rfl, hw⟩;rw [hw, HW2.o];clear hw
  go_wp2_with fail
  refine (HA.o _).mono ?_;rintro e w1 ⟨rfl, hw⟩;rw [hw];clear hw
  go_wp2_with fail
  refine (HBB.o _).mono ?_;rintro e w1 ⟨rfl, hw⟩;rw [hw];clear hw
  go_wp2_with fail
  refine (HI.o _).mono ?_;rintro e w1 ⟨rfl, hw⟩;rw [hw];clear hw
  go_wp2_with fail
  refine (HJ.o _).mono ?_;rintro e w1 ⟨rfl, hw⟩;rw [hw];clear hw
  go_wp2_with fail
  exact bodyPost_ret (v := .bool bj) (by simp [results, Tryz.results40, go_sem]) rfl ⟨rfl, by rw [HW2.o] at HB; exact HB.o⟩
 | false =>
  obtain rfl : n = 0 := by have := HG.o; simp at this; omega
  cases bl with
  | false =>
   simp only [Bool.false_and];go_enter Tryz.func40, Tryz.ntmps40
   go_wp2_with fail
   refine (HL.o _).mono ?_;rintro e w1 ⟨rfl, hw⟩;rw [hw];clear hw
   go_wp2_with fail
   exact bodyPost_ret (v := .bool false) (by simp [results, Tryz.results40, go_sem]) rfl ⟨rfl, by rw [HW2.o] at HB; exact HB.o⟩
  | true =>
  simp only [Bool.true_and]
  cases bs with
  | false =>
   simp only [Bool.false_and];go_enter Tryz.func40, Tryz.ntmps40
   go_wp2_with fail
   refine (HL.o _).mono ?_;rintro e w1 ⟨rfl, hw⟩;rw [hw];clear hw
   go_wp2_with fail
   rw [<- HW2.o];refine HC.o.mono ?_;rintro e w1 ⟨rfl, hw⟩;rw [hw, HW2.o];clear hw
   go_wp2_with fail
   exact bodyPost_ret (v := .bool false) (by simp [results, Tryz.results40, go_sem]) rfl ⟨rfl, by rw [HW2.o] at HB; exact HB.o⟩
  | true =>
  simp only [Bool.true_and]
  cases ba with
  | false =>
   simp only [Bool.false_and];go_enter Tryz.func40, Tryz.ntmps40
   go_wp2_with fail
   refine (HL.o _).mono ?_;rintro e w1 ⟨rfl, hw⟩;rw [hw];clear hw
   go_wp2_with fail
   rw [<- HW2.o];refine HC.o.mono ?_;rintro e w1 ⟨rfl, hw⟩;rw [hw, HW2.o];clear hw
   go_wp2_with fail
   refine (HA.o _).mono ?_;rintro e w1 ⟨rfl, hw⟩;rw [hw];clear hw
   go_wp2_with fail
   exact bodyPost_ret (v := .bool false) (by simp [results, Tryz.results40, go_sem]) rfl ⟨rfl, by rw [HW2.o] at HB; exact HB.o⟩
  | true =>
  simp only [Bool.true_and]
  cases bb with
  | false =>
   simp only [Bool.false_and];go_enter Tryz.func40, Tryz.ntmps40
   go_wp2_with fail
   refine (HL.o _).mono ?_;rintro e w1 ⟨rfl, hw⟩;rw [hw];clear hw
   go_wp2_with fail
   rw [<- HW2.o];refine HC.o.mono ?_;rintro e w1 ⟨rfl, hw⟩;rw [hw, HW2.o];clear hw
   go_wp2_with fail
   refine (HA.o _).mono ?_;rintro e w1 ⟨rfl, hw⟩;rw [hw];clear hw
   go_wp2_with fail
   refine (HBB.o _).mono ?_;rintro e w1 ⟨rfl, hw⟩;rw [hw];clear hw
   go_wp2_with fail
   exact bodyPost_ret (v := .bool false) (by simp [results, Tryz.results40, go_sem]) rfl ⟨rfl, by rw [HW2.o] at HB; exact HB.o⟩
  | true =>
  simp only [Bool.true_and]
  cases bi with
  | false =>
   simp only [Bool.false_and];go_enter Tryz.func40, Tryz.ntmps40
   go_wp2_with fail
   refine (HL.o _).mono ?_;rintro e w1 ⟨rfl, hw⟩;rw [hw];clear hw
   go_wp2_with fail
   rw [<- HW2.o];refine HC.o.mono ?_;rintro e w1 ⟨rfl, hw⟩;rw [hw, HW2.o];clear hw
   go_wp2_with fail
   refine (HA.o _).mono ?_;rintro e w1 ⟨rfl, hw⟩;rw [hw];clear hw
   go_wp2_with fail
   refine (HBB.o _).mono ?_;rintro e w1 ⟨rfl, hw⟩;rw [hw];clear hw
   go_wp2_with fail
   refine (HI.o _).mono ?_;rintro e w1 ⟨rfl, hw⟩;rw [hw];clear hw
   go_wp2_with fail
   exact bodyPost_ret (v := .bool false) (by simp [results, Tryz.results40, go_sem]) rfl ⟨rfl, by rw [HW2.o] at HB; exact HB.o⟩
  | true =>
  simp only [Bool.true_and];go_enter Tryz.func40, Tryz.ntmps40
  go_wp2_with fail
  refine (HL.o _).mono ?_;rintro e w1 ⟨rfl, hw⟩;rw [hw];clear hw
  go_wp2_with fail
  rw [<- HW2.o];refine HC.o.mono ?_;rintro e w1 ⟨rfl, hw⟩;rw [hw, HW2.o];clear hw
  go_wp2_with fail
  refine (HA.o _).mono ?_;rintro e w1 ⟨rfl, hw⟩;rw [hw];clear hw
  go_wp2_with fail
  refine (HBB.o _).mono ?_;rintro e w1 ⟨rfl, hw⟩;rw [hw];clear hw
  go_wp2_with fail
  refine (HI.o _).mono ?_;rintro e w1 ⟨rfl, hw⟩;rw [hw];clear hw
  go_wp2_with fail
  refine (HJ.o _).mono ?_;rintro e w1 ⟨rfl, hw⟩;rw [hw];clear hw
  go_wp2_with fail
  exact bodyPost_ret (v := .bool bj) (by simp [results, Tryz.results40, go_sem]) rfl ⟨rfl, by rw [HW2.o] at HB; exact HB.o⟩
theorem qim (m : Nat) (k lit a b i j : Int) (q : Option Addr) (c n : Nat) (_z : Value) (W : World)
  (hlook : (Instr.lookup 71 (.map (some m)) (.int .u8 k) true).run Tryz.prog (W.alloc (.cells #[.int .u8 k, .int .i64 lit, .int .i64 a, .int .i64 b, .int .i64 i, .int .i64 j, .slice q n c] 64)) = .ok (.tuple #[fmV ⟨#[]⟩ false false false false false false false false, .bool false]) (W.alloc (.cells #[.int .u8 k, .int .i64 lit, .int .i64 a, .int .i64 b, .int .i64 i, .int .i64 j, .slice q n c] 64))) :
  Calls Tryz.prog 40 #[.map (some m), .agg #[.int .u8 k, .int .i64 lit, .int .i64 a, .int .i64 b, .int .i64 i, .int .i64 j, .slice q n c]] W fun e w' => e = .returned (.bool false) /\ Below W.heap.size W w' := by
 unfold fmV at hlook;go_enter Tryz.func40, Tryz.ntmps40
 go_wp2_with fail
 refine bodyPost_ret (v := .bool false) (by simp [results, Tryz.results40, go_sem]) rfl ⟨rfl, ?_⟩
 repeat (first | exact Below.refl _ _ | refine Below.alloc ?_ (by simp) _)
theorem qps (k : Int) : (qfj k = none /\ fmL k = none) \/ ∃ (h : ByteArray) (g0 g1 ga gb gl gi gj gt : Bool), qfj k = some (fmV h g0 g1 ga gb gl gi gj gt) /\ fmL k = some ⟨gl, ga, gb, gi, gj, gt⟩ := by
 by_cases h1 : k = 1
 ·subst h1; exact .inr ⟨_, _, _, _, _, _, _, _, _, rfl, rfl⟩
 by_cases h2 : k = 2
 ·subst h2; exact .inr ⟨_, _, _, _, _, _, _, _, _, rfl, rfl⟩
 by_cases h3 : k = 3
 ·subst h3; exact .inr ⟨_, _, _, _, _, _, _, _, _, rfl, rfl⟩
 by_cases h4 : k = 4
 ·subst h4; exact .inr ⟨_, _, _, _, _, _, _, _, _, rfl, rfl⟩
 by_cases h5 : k = 5
 ·subst h5; exact .inr ⟨_, _, _, _, _, _, _, _, _, rfl, rfl⟩
 by_cases h6 : k = 6
 ·subst h6; exact .inr ⟨_, _, _, _, _, _, _, _, _, rfl, rfl⟩
 by_cases h7 : k = 7
 ·subst h7; exact .inr ⟨_, _, _, _, _, _, _, _, _, rfl, rfl⟩
 refine .inl ⟨by unfold qfj; simp [h1, h2, h3, h4, h5, h6, h7], ?_⟩;unfold fmL
 split <;> first | rfl | (exfalso; omega)
theorem qnu (m : Nat) (x : Lk) (q : Option Addr) (c : Nat) (W : World) (hF : FMap W 61 m qdg 7) (hk0 : 0 <= x.k) (hk1 : x.k <= 255) (hn : x.l.length <= 9223372036854775807) (hq : IntsIn W q x.l) :
  Calls Tryz.prog 40 #[.map (some m), lkV x q c] W fun e w' => e = .returned (.bool (qaz x)) /\ Below W.heap.size W w' := by
 obtain ⟨k, lit, a, b, i, j, l⟩ := x;simp only at hk0 hk1 hn hq;have hlk := (hF.later (qab W (.cells #[.int .u8 k, .int .i64 lit, .int .i64 a, .int .i64 b, .int .i64 i, .int .i64 j, .slice q l.length c] 64))).look_ok K61 Tryz.underlying71 (qcw _) (qfk k hk0 hk1);rw [qdz] at hlk;unfold lkV qaz;rcases qps k with ⟨e1, e2⟩ | ⟨h, g0, g1, ga, gb, gl, gi, gj, gt, e1, e2⟩
 ·rw [e1] at hlk
  simp only [e2];exact qim m k lit a b i j q c l.length (.pointer none) W hlk
 ·rw [e1] at hlk
  simp only [e2];exact qin m k lit a b i j q c l.length l h g0 g1 ga gb gl gi gj gt W rfl hn hq hlk
end Go.Proofs.YtookoagcmejkpaaGreatDoor
