/- A step's tree: the program's, whole. A step's tree: the document's. What is read out of a tree: plain. A list parted into its head and the rest. A tree's number: the program's reading. -/
import Derived.Test.YtookoagcmejkpaaGreatDoorS31
import Derived.Test.YtookoagcmejkpaaGreatDoorJ16
import Derived.Test.YtookoagcmejkpaaGreatDoorDW4
set_option maxHeartbeats 6400000
namespace Go.Proofs.YtookoagcmejkpaaGreatDoor
open Go Go.RowKit
theorem qen {x : Stp} (h : qau x = true) : ((x.k = 1 \/ x.k = 3) /\ x.links = [] /\ x.a = 0 /\ x.b = 0 /\ x.lits.length <= 5000 /\ x.lits.all litB = true) \/ (x.k = 2 /\ x.lits = [] /\ x.a = 0 /\ x.b = 0 /\ x.links.length <= 20000 /\ x.links.all qaz = true) \/ (x.k = 4 /\ x.lits = [] /\ x.links = [] /\ cntB x.a = true /\ cntB x.b = true) := by
 obtain ⟨k, lits, links, a, b⟩ := x;unfold qau at h;simp only at h ⊢
 split at h
 ·rename_i hk
  simp only [Bool.and_eq_true, decide_eq_true_eq] at h;exact Or.inl ⟨hk, List.eq_nil_of_length_eq_zero h.1.1.2, h.1.2, h.2, h.1.1.1.1, h.1.1.1.2⟩
 ·split at h
  ·rename_i hk
   simp only [Bool.and_eq_true, decide_eq_true_eq] at h;exact Or.inr (Or.inl ⟨hk, List.eq_nil_of_length_eq_zero h.1.1.1.1, h.1.2, h.2, h.1.1.1.2, h.1.1.2⟩)
  ·split at h
   ·rename_i hk
    simp only [Bool.and_eq_true, decide_eq_true_eq] at h;exact Or.inr (Or.inr ⟨hk, List.eq_nil_of_length_eq_zero h.1.1.1, List.eq_nil_of_length_eq_zero h.1.1.2, h.1.2, h.2⟩)
   ·cases h
def qtv (W w' : World) (e : Ending) (x : Stp) : Prop :=
 (qau x = false /\ e = .returned (.tuple #[trV false 0 ⟨#[]⟩ 0 none 0 0, .int .i64 2]) /\ Below W.heap.size W w') ∨
 (qau x = true /\ ∃ q' c', e = .returned (.tuple #[trV true 1 ⟨#[40]⟩ 0 q' (stX x).len c', .int .i64 0]) /\ FoIn w' (fun b => W.heap.size <= b) (stX x) q' /\ (stX x).len <= c' /\ Below W.heap.size W w')
theorem qqj (x : Stp) (p : Option Addr) (c : Nat) (q : Option Addr) (d : Nat) (W : World) (hk0 : 0 <= x.k) (hk1 : x.k <= 255) (h1 : IntsIn W p x.lits) (h2 : LksIn W q x.links) (hkd : KdL x.links) (n1 : x.lits.length <= 9223372036854775807) (n2 : x.links.length <= 9223372036854775807) (htab : qb7 W) :
  Calls Tryz.prog 10 #[stV x p c q d] W fun e w' => qtv W w' e x := by
 cases hm : qau x with
 | false =>
  refine (qmg x p c q d W hk0 hk1 h1 h2 hkd n1 n2 hm).mono ?_;rintro e w' ⟨he, hb⟩
  exact Or.inl ⟨hm, he, hb⟩
 | true =>
  have key : ∀ (h : ByteArray) (f1 f2 a b lit i j list : Bool), qem x.k = some (fmV h f1 f2 a b lit i j list) -> Fo.cons false 3 h 0 .nil (((nusF x.lits).app (lksF x.links)).app (nusF (flt [a, b] [x.a, x.b]))) = stX x -> Calls Tryz.prog 10 #[stV x p c q d] W fun e w' => qtv W w' e x := by
   intro h f1 f2 a b lit i j list hv e1;refine (qmf h f1 f2 a b lit i j list x p c q d W hk0 hk1 h1 h2 hkd n1 n2 hm hv htab).mono ?_;rintro e w' ⟨q', c', he, hq, hc, hb⟩;rw [e1] at he hq hc;exact Or.inr ⟨hm, q', c', he, hq, hc, hb⟩
  have hs := qen hm;obtain ⟨k, lits, links, a, b⟩ := x;simp only at hs;rcases hs with ⟨hk, rfl, rfl, rfl, _⟩ | ⟨rfl, rfl, rfl, rfl, _⟩ | ⟨rfl, rfl, rfl, _⟩
  ·rcases hk with rfl | rfl
   ·exact key _ _ _ _ _ _ _ _ _ rfl (by simp [stX, stH, stK, flt, lksF, nusF, Fo.app_nil])
   ·exact key _ _ _ _ _ _ _ _ _ rfl (by simp [stX, stH, stK, flt, lksF, nusF, Fo.app_nil])
  ·exact key _ _ _ _ _ _ _ _ _ rfl (by simp [stX, stH, stK, flt, nusF, Fo.app, Fo.app_nil])
  ·exact key _ _ _ _ _ _ _ _ _ rfl (by simp [stX, stH, stK, flt, lksF, nusF, Fo.app, Fo.app_nil])
set_option maxRecDepth 100000
structure R17 (W : World) (x : Stp) (p : Option Addr) (c : Nat) (q : Option Addr) (d : Nat) (w : World) : Prop where
 st : StAt w W.heap.size x p c q d
 res : BoxT w (W.heap.size + 1) false 0 ⟨#[]⟩ 0 (.slice none 0 0)
 below : Below W.heap.size W w
theorem R17.only {W w w' : World} {x : Stp} {p : Option Addr} {c : Nat} {q : Option Addr} {d : Nat} {T : Nat -> Prop} (h : R17 W x p c q d w) (ho : Only T w w') (hT : ∀ k, T k -> W.heap.size + 2 <= k) : R17 W x p c q d w' :=
 ⟨h.st.only ho (fun e => by have := hT _ e; omega), h.res.only ho (fun e => by have := hT _ e; omega), h.below.trans (ho.below (B := W.heap.size) (fun k e => by have := hT _ e; omega) h.below.size)⟩
theorem R17.later {W w w' : World} {x : Stp} {p : Option Addr} {c : Nat} {q : Option Addr} {d : Nat} (h : R17 W x p c q d w) (hb : Below w.heap.size w w') : R17 W x p c q d w' :=
 h.only (Only.of_below (T := fun _ => False) hb) (fun _ e => e.elim)
theorem qrc (w1 : World) (s t : ByteArray) : OwnG (w1.alloc (.cells #[.bool false, .int .u8 4, .string s, .int .i64 0, .slice none 0 0, .bool false, .int .u8 4, .string t, .int .i64 0, .slice none 0 0] 35)) (fun b => w1.heap.size <= b) (.slice (some ⟨w1.heap.size, 0, none⟩) 2 2) (.cons false 4 s 0 .nil (.cons false 4 t 0 .nil .nil)) :=
 ⟨⟨trC false 4 s 0 none 0 0 ++ trC false 4 t 0 none 0 0, ⟨rfl, .inr ⟨w1.heap.size, 2, #[.bool false, .int .u8 4, .string s, .int .i64 0, .slice none 0 0, .bool false, .int .u8 4, .string t, .int .i64 0, .slice none 0 0], rfl, Nat.zero_le _, Array.getElem?_push_size, Nat.le_refl _, by decide, rfl, rfl⟩⟩, none, 0, trC false 4 t 0 none 0 0, by simp [Fo.len], Nat.le_refl _, Nat.zero_le _, trivial, none, 0, [], by simp [Fo.len], Nat.le_refl _, Nat.zero_le _, trivial, rfl⟩,
  fun k hk => by
   have := qec hk;subst this
   exact ⟨Nat.le_refl _, by simp⟩⟩
theorem qqi (x : Stp) (p : Option Addr) (c : Nat) (q : Option Addr) (d : Nat) (W : World) (h1 : IntsIn W p x.lits) (h2 : LksIn W q x.links) (h3 : LksOK W q x.links) (hm : qau x = true) :
  Calls Tryz.prog 17 #[stV x p c q d] W fun e w' => TrR W w' e true 1 ⟨#[40]⟩ (stX x) := by
 obtain ⟨w1, hw1⟩ : ∃ w1, w1 = (W.alloc (.cells #[.int .u8 x.k, .slice p x.lits.length c, .slice q x.links.length d, .int .i64 x.a, .int .i64 x.b] 26)).alloc (.cells #[.bool false, .int .u8 0, .string ⟨#[]⟩, .int .i64 0, .slice none 0 0] 35) := ⟨_, rfl⟩
 have HB1 := Zh (show R17 W x p c q d w1 from by
  refine ⟨?_, ?_, by rw [hw1]; exact (qab W _).alloc (by simp) _⟩
  ·rw [hw1]
   exact ⟨by simp [go_sem], by simp [go_sem], by simp [go_sem], by simp [go_sem], by simp [go_sem]⟩
  ·have h := qam (W.alloc (.cells #[.int .u8 x.k, .slice p x.lits.length c, .slice q x.links.length d, .int .i64 x.a, .int .i64 x.b] 26)) false 0 ⟨#[]⟩ 0 (.slice none 0 0)
   rw [hw1]; simpa using h)
 have HSZ := Zh (show w1.heap.size = W.heap.size + 2 from by rw [hw1]; simp)
 have HF1 := Zh (show x.lits.length <= 5000 /\ (∀ y ∈ x.lits, -4611686018427387903 <= y /\ y <= 4611686018427387903) /\ x.links.length <= 20000 /\ (∀ y ∈ x.links, qaz y = true) /\ cntB x.a = true /\ cntB x.b = true from by
  obtain ⟨k, lits, links, a, b⟩ := x;obtain ⟨m1, m2, m3, m4, m5, m6, m7⟩ := qbn hm
  exact ⟨m3, fun y hy => qb8 (List.all_eq_true.1 m5 y hy), m4, fun y hy => List.all_eq_true.1 m6 y hy, m1, m2⟩)
 have HSH := Zh (qen hm);have HW1 := Zh hw1;have HI := Zh h1;have HQ := Zh h2;have HO := Zh h3;obtain ⟨n, hn⟩ : ∃ n, n = x.lits.length := ⟨_, rfl⟩;obtain ⟨m, hmm⟩ : ∃ m, m = x.links.length := ⟨_, rfl⟩;have HN := Zh hn;have HM := Zh hmm;have n1 : (n : Int) <= 5000 := by have := HF1.o.1; omega
 have m1 : (m : Int) <= 20000 := by have := HF1.o.2.2.1; omega
 have n2 : n <= 5000 := by omega
 have m2 : m <= 20000 := by omega
 clear h1 h2 h3 hm hw1 hn hmm;unfold stV;rw [<- HN.o, <- HM.o] at HW1 ⊢;go_enter Tryz.func17, Tryz.ntmps17
 go_wp2_with fail
 rw [<- HW1.o];clear HW1
 go_loopg [3, 4] n (fun gk s3 s4 wx => ∃ (k : Nat) (p3 : Option Addr) (c3 : Nat), k + gk = n /\ s3 = .slice p3 k c3 /\ s4 = .int .i64 (k : Int) /\ Hid (OwnG wx (fun b => W.heap.size + 2 <= b) (.slice p3 k c3) (nusF (x.lits.take k)) /\ R17 W x p c q d wx))
 case atStart => exact ⟨0, none, 0, by omega, rfl, rfl, Zh ⟨OwnG.nil _ _, HB1.o⟩⟩
 case round =>
  obtain ⟨k, p3, c3, hk, rfl, rfl, HR⟩ := hrel;have k0 : (0 : Int) <= (k : Int) := Int.natCast_nonneg k;obtain ⟨z0, z1, z2, z3, z4⟩ := HR.o.2.st;rw [<- HN.o] at z1
  by_cases hlt : k < n
  ·have k1 : (k : Int) < (n : Int) := Int.ofNat_lt.2 hlt
   have hkl : k < x.lits.length := by rw [<- HN.o]; exact hlt
   obtain ⟨b, off, hqe, c0⟩ := (HI.o.later HR.o.2.below) k hkl;subst hqe;have HS := Zh (qax hlt (show n <= 9223372036854775807 from by omega));obtain ⟨y, hy⟩ : ∃ y, y = x.lits[k] := ⟨_, rfl⟩;have HE := Zh (show x.lits.take (k + 1) = x.lits.take k ++ [y] from by rw [hy, List.take_add_one, List.getElem?_eq_getElem hkl]; rfl);have HMY := Zh (show y ∈ x.lits from by rw [hy]; exact List.getElem_mem hkl);rw [<- hy] at c0;have HKK := Zh hk;have HLT := Zh hlt;clear hy hkl hk hlt z2
   go_wp2_with fail
   refine (qkr y _ (HF1.o.2.1 y HMY.o).1 (HF1.o.2.1 y HMY.o).2).mono ?_;rintro e w1 ⟨q5, d5, rfl, hd, hd2, hq, hb⟩;have HB := Zh (HR.o.2.later hb);have HQ5 := Zh (show OwnG w1 (fun b => W.heap.size + 2 <= b) (.slice p3 k c3) (nusF (x.lits.take k)) /\ FoIn w1 (fun b => wr.heap.size <= b) (nuX y) q5 from ⟨HR.o.1.later hb, hq⟩);have HZ := Zh (show wr.heap.size <= w1.heap.size from hb.size);have HD := Zh (aI hd hd2);obtain ⟨w2, hw2⟩ : ∃ w2, w2 = w1.alloc (.cells #[.bool (nuL y), .int .u8 (nuK y), .string (nuS y), .int .i64 0, .slice q5 (nuX y).len d5] 35) := ⟨_, rfl⟩;have HB2 := Zh (show Below w1.heap.size w1 w2 from by rw [hw2]; exact qab _ _);have HBX := Zh (show BoxT w2 w1.heap.size (nuL y) (nuK y) (nuS y) 0 (.slice q5 (nuX y).len d5) from by rw [hw2]; exact qam _ _ _ _ _ _);have HSZ2 := Zh (show w2.heap.size = w1.heap.size + 1 from by rw [hw2]; simp);have HW2 := Zh hw2;clear hb hq hd hd2 hw2;unfold trV
   go_wp2_with (at_builtin; rw [<- HW2.o]; refine qbb (by rfl) _ _ (by rfl) (fun b => W.heap.size + 2 <= b) (fun b => wr.heap.size <= b) w1.heap.size _ (nusF (x.lits.take k)) (nuL y) (nuK y) (nuS y) 0 (nuX y) q5 d5 (by rfl) (by rfl) (HQ5.o.1.later HB2.o) HBX.o (HQ5.o.2.later HB2.o) HD.o.1 HD.o.2 ?_ ?_ ?_ ?_)
   case refine_1 =>
    intro b hb _;have hr := HR.o.2.res.lt;have h2 : wr.heap.size <= b := hb;exact ⟨by omega, fun e => by have h1 := (HR.o.1.blk b e).2; omega⟩
   case refine_2 => have h1 := HSZ2.o; have h2 := HB.o.res.lt; omega
   case refine_3 => rw [qag]; have h2 := HLT.o; simp; omega
   intro p5 c5 w5 hp5 ho5;have hkk : (nusF (x.lits.take k)).len = k := by rw [qag, List.length_take, <- HN.o]; have := HLT.o; omega
   rw [hkk] at hp5 ⊢
   have HP5 := Zh (show OwnG w5 (fun b => W.heap.size + 2 <= b) (.slice p5 (k + 1) c5) (nusF (x.lits.take (k + 1))) from by
    rw [HE.o, qdw]; exact hp5)
   have HB5 := Zh ((HB.o.later HB2.o).only ho5 (fun j hj => (HR.o.1.blk j hj).1));clear hp5 ho5 hkk;obtain ⟨G, rfl⟩ : ∃ G, gk = G + 1 := ⟨gk - 1, by have := HKK.o; have := HLT.o; omega⟩
   go_wp2_with fail
   go_roundg G
   case measure => omega
   case rel => exact ⟨k + 1, p5, c5, by have := HKK.o; omega, rfl, by first | rfl | rw [HS.o.2.2], Zh ⟨HP5.o, HB5.o⟩⟩
  ·obtain rfl : n = k := by omega
   clear hlt hk z2
   have HLE := Zh (show OwnG wr (fun b => W.heap.size + 2 <= b) (.slice p3 n c3) (nusF x.lits) from by
    have hh := HR.o.1;rw [List.take_of_length_le (by rw [<- HN.o]; exact Nat.le_refl _)] at hh
    exact hh)
   have HRR := Zh HR.o.2;clear HR
   go_wp2_with fail
   clear z1
   go_loopg [3, 5] m (fun gk s3 s4 wx => ∃ (k M : Nat) (p3 : Option Addr) (c3 : Nat), k + gk = m /\ s3 = .slice p3 M c3 /\ s4 = .int .i64 (k : Int) /\ Hid (OwnG wx (fun b => W.heap.size + 2 <= b) (.slice p3 M c3) ((nusF x.lits).app (lksF (x.links.take k))) /\ R17 W x p c q d wx /\ M = n + k))
   case atStart => exact ⟨0, n, p3, c3, by omega, rfl, rfl, Zh ⟨by rw [show lksF (x.links.take 0) = .nil from rfl, Fo.app_nil]; exact HLE.o, HRR.o, rfl⟩⟩
   case round =>
    obtain ⟨k, M, p4, c4, hk, rfl, rfl, HR⟩ := hrel;have k0 : (0 : Int) <= (k : Int) := Int.natCast_nonneg k;obtain ⟨z0, z1, z2, z3, z4⟩ := HR.o.2.1.st;rw [<- HM.o] at z2;clear z1
    by_cases hlt : k < m
    ·have k1 : (k : Int) < (m : Int) := Int.ofNat_lt.2 hlt
     have hkl : k < x.links.length := by rw [<- HM.o]; exact hlt
     obtain ⟨b6, off6, hqe, c0, c1, c2, c3', c4', c5', q1, d1, c6, hi1, hd1, hd2⟩ := (HQ.o.later HR.o.2.1.below) k hkl;subst hqe;have HSL := Zh ((HO.o.later HQ.o HR.o.2.1.below) k hkl b6 off6 rfl _ _ _ c6);have HS := Zh (qax hlt (show m <= 9223372036854775807 from by omega));obtain ⟨y, hy⟩ : ∃ y, y = x.links[k] := ⟨_, rfl⟩;have HE := Zh (show x.links.take (k + 1) = x.links.take k ++ [y] from by rw [hy, List.take_add_one, List.getElem?_eq_getElem hkl]; rfl);have HMY := Zh (show y ∈ x.links from by rw [hy]; exact List.getElem_mem hkl);rw [<- hy] at c0 c1 c2 c3' c4' c5' c6 hi1 hd1;have HC := Zh (ql0 y q1 d1 wr hi1 (HF1.o.2.2.2.1 y HMY.o) HSL.o);have HKK := Zh hk;have HLT := Zh hlt;unfold lkV at HC;clear hy hkl hk hlt hi1 hd1 hd2
     go_wp2_with fail
     refine HC.o.mono ?_;rintro e w1 ⟨q5, d5, rfl, hd, hd2, hq, hb⟩;have HB := Zh (HR.o.2.1.later hb);have HQ5 := Zh (show OwnG w1 (fun b => W.heap.size + 2 <= b) (.slice p4 M c4) ((nusF x.lits).app (lksF (x.links.take k))) /\ FoIn w1 (fun b => wr.heap.size <= b) (lkX y) q5 from ⟨HR.o.1.later hb, hq⟩);have HZ := Zh (show wr.heap.size <= w1.heap.size from hb.size);have HD := Zh (aI hd hd2);obtain ⟨w2, hw2⟩ : ∃ w2, w2 = w1.alloc (.cells #[.bool true, .int .u8 1, .string ⟨#[40]⟩, .int .i64 0, .slice q5 (lkX y).len d5] 35) := ⟨_, rfl⟩;have HB2 := Zh (show Below w1.heap.size w1 w2 from by rw [hw2]; exact qab _ _);have HBX := Zh (show BoxT w2 w1.heap.size true 1 ⟨#[40]⟩ 0 (.slice q5 (lkX y).len d5) from by rw [hw2]; exact qam _ _ _ _ _ _);have HSZ2 := Zh (show w2.heap.size = w1.heap.size + 1 from by rw [hw2]; simp);have HW2 := Zh hw2;clear hb hq hd hd2 hw2 c0 c1 c2 c3' c4' c5' c6;unfold trV;have hkk : ((nusF x.lits).app (lksF (x.links.take k))).len = M := by rw [Fo.len_app, qag, qb0, List.length_take, <- HN.o, <- HM.o, HR.o.2.2]; have := HLT.o; omega
     have HKL := Zh hkk;clear hkk
     go_wp2_with (at_builtin; rw [<- HW2.o]; refine qbb (by rfl) _ _ (by rfl) (fun b => W.heap.size + 2 <= b) (fun b => wr.heap.size <= b) w1.heap.size _ ((nusF x.lits).app (lksF (x.links.take k))) true 1 ⟨#[40]⟩ 0 (lkX y) q5 d5 (by rfl) (by rfl) (HQ5.o.1.later HB2.o) HBX.o (HQ5.o.2.later HB2.o) HD.o.1 HD.o.2 ?_ ?_ ?_ ?_)
     case refine_1 =>
      intro b hb _;have hr := HR.o.2.1.res.lt;have h2 : wr.heap.size <= b := hb;exact ⟨by omega, fun e => by have h1 := (HR.o.1.blk b e).2; omega⟩
     case refine_2 => have h1 := HSZ2.o; have h2 := HB.o.res.lt; omega
     case refine_3 => rw [HKL.o, HR.o.2.2]; have h2 := HLT.o; omega
     intro p5 c5 w5 hp5 ho5;rw [HKL.o] at hp5 ⊢
     have HP5 := Zh (show OwnG w5 (fun b => W.heap.size + 2 <= b) (.slice p5 (M + 1) c5) ((nusF x.lits).app (lksF (x.links.take (k + 1)))) from by
      rw [HE.o, qio, <- Fo.app_snoc]; exact hp5)
     have HB5 := Zh ((HB.o.later HB2.o).only ho5 (fun j hj => (HR.o.1.blk j hj).1));clear hp5 ho5;obtain ⟨G, rfl⟩ : ∃ G, gk = G + 1 := ⟨gk - 1, by have := HKK.o; have := HLT.o; omega⟩
     go_wp2_with fail
     go_roundg G
     case measure => omega
     case rel => exact ⟨k + 1, M + 1, p5, c5, by have := HKK.o; omega, rfl, by first | rfl | rw [HS.o.2.2], Zh ⟨HP5.o, HB5.o, by rw [HR.o.2.2]; omega⟩⟩
    ·obtain rfl : m = k := by omega
     clear hlt hk
     have HLE2 := Zh (show OwnG wr (fun b => W.heap.size + 2 <= b) (.slice p4 M c4) ((nusF x.lits).app (lksF x.links)) /\ R17 W x p c q d wr /\ M = n + m from by
      have hh := HR.o;rw [List.take_of_length_le (by rw [<- HM.o]; exact Nat.le_refl _)] at hh
      exact hh)
     clear HR HLE HRR;rcases HSH.o with ⟨hk, hl, ha, hb, _⟩ | ⟨hk, hl, ha, hb, _⟩ | ⟨hk, hl, hl2, ha, hb⟩
     ·rcases hk with hk | hk
      ·skip
       rw [hk] at z0;have HT := Zh (show ((nusF x.lits).app (lksF x.links)) = stK x /\ stH x.k = qb5 from by rw [hk]; simp [stK, stH, hk, hl, lksF, Fo.app_nil])
       go_wp2_with fail
       have hgl : M = ((nusF x.lits).app (lksF x.links)).len := by rw [Fo.len_app, qag, qb0, HLE2.o.2.2, HN.o, HM.o]
       refine (qdo _ _ ((nusF x.lits).app (lksF x.links)) (W.heap.size + 2) _ HLE2.o.1 (by have := HLE2.o.2.1.res.lt; omega) (by rw [<- hgl, HLE2.o.2.2]; omega)).mono ?_;rintro e w6 ⟨q6, c6, rfl, hc6, hq6, hb6⟩;obtain ⟨y0, y1, y2, y3, y4, yf⟩ := (HLE2.o.2.1.later hb6).res;have HBE := Zh (HLE2.o.2.1.later hb6).below;have hl6 : ((nusF x.lits).app (lksF x.links)).len + 1 = (stX x).len := by rw [HT.o.1]; rfl
       rw [hl6] at hc6;rw [hl6]
       have hq7 : FoIn w6 (fun b => W.heap.size + 2 <= b) (stX x) q6 := by
        have hh := hq6;rw [HT.o.1] at hh;unfold stX;rw [HT.o.2];exact hh
       have HQ6 := Zh (aI hc6 hq7);clear hc6 hq6 hb6 hl6 hgl hq7;unfold trV
       go_wp2_with fail
       refine bodyPost_ret (v := trV true 1 ⟨#[40]⟩ 0 q6 (stX x).len c6) (by simp [trV, results, Tryz.results17, go_sem, y0, y1, y2, y3, y4]) rfl ⟨q6, c6, rfl, HQ6.o.1, ?_, ?_, ?_⟩
       ·unfold stX; simp only [Fo.len]; rw [<- HT.o.1, Fo.len_app, qag, qb0, <- HN.o, <- HM.o]; omega
       ·have hne : ∀ o b, W.heap.size + 2 <= b -> ¬ b = (⟨W.heap.size + 1, o, none⟩ : Addr).block := fun o b h e => by simp only at e; omega
        exact (((((HQ6.o.2.only (Only.of_setCell _ _ _) (hne _)).only (Only.of_setCell _ _ _) (hne _)).only (Only.of_setCell _ _ _) (hne _)).only (Only.of_setCell _ _ _) (hne _)).only (Only.of_setCell _ _ _) (hne _)).mono (fun b hb _ => by omega)
       ·iterate 5 refine Below.setCell ?_ (show W.heap.size <= W.heap.size + 1 from Nat.le_succ _) _
        exact HBE.o
      ·skip
       rw [hk] at z0;have HT := Zh (show ((nusF x.lits).app (lksF x.links)) = stK x /\ stH x.k = qcq from by rw [hk]; simp [stK, stH, hk, hl, lksF, Fo.app_nil])
       go_wp2_with fail
       have hgl : M = ((nusF x.lits).app (lksF x.links)).len := by rw [Fo.len_app, qag, qb0, HLE2.o.2.2, HN.o, HM.o]
       refine (qdo _ _ ((nusF x.lits).app (lksF x.links)) (W.heap.size + 2) _ HLE2.o.1 (by have := HLE2.o.2.1.res.lt; omega) (by rw [<- hgl, HLE2.o.2.2]; omega)).mono ?_;rintro e w6 ⟨q6, c6, rfl, hc6, hq6, hb6⟩;obtain ⟨y0, y1, y2, y3, y4, yf⟩ := (HLE2.o.2.1.later hb6).res;have HBE := Zh (HLE2.o.2.1.later hb6).below;have hl6 : ((nusF x.lits).app (lksF x.links)).len + 1 = (stX x).len := by rw [HT.o.1]; rfl
       rw [hl6] at hc6;rw [hl6]
       have hq7 : FoIn w6 (fun b => W.heap.size + 2 <= b) (stX x) q6 := by
        have hh := hq6;rw [HT.o.1] at hh;unfold stX;rw [HT.o.2];exact hh
       have HQ6 := Zh (aI hc6 hq7);clear hc6 hq6 hb6 hl6 hgl hq7;unfold trV
       go_wp2_with fail
       refine bodyPost_ret (v := trV true 1 ⟨#[40]⟩ 0 q6 (stX x).len c6) (by simp [trV, results, Tryz.results17, go_sem, y0, y1, y2, y3, y4]) rfl ⟨q6, c6, rfl, HQ6.o.1, ?_, ?_, ?_⟩
       ·unfold stX; simp only [Fo.len]; rw [<- HT.o.1, Fo.len_app, qag, qb0, <- HN.o, <- HM.o]; omega
       ·have hne : ∀ o b, W.heap.size + 2 <= b -> ¬ b = (⟨W.heap.size + 1, o, none⟩ : Addr).block := fun o b h e => by simp only at e; omega
        exact (((((HQ6.o.2.only (Only.of_setCell _ _ _) (hne _)).only (Only.of_setCell _ _ _) (hne _)).only (Only.of_setCell _ _ _) (hne _)).only (Only.of_setCell _ _ _) (hne _)).only (Only.of_setCell _ _ _) (hne _)).mono (fun b hb _ => by omega)
       ·iterate 5 refine Below.setCell ?_ (show W.heap.size <= W.heap.size + 1 from Nat.le_succ _) _
        exact HBE.o
     ·skip
      rw [hk] at z0;have HT := Zh (show ((nusF x.lits).app (lksF x.links)) = stK x /\ stH x.k = qcp from by rw [hk]; simp [stK, stH, hk, hl, nusF, Fo.app])
      go_wp2_with fail
      have hgl : M = ((nusF x.lits).app (lksF x.links)).len := by rw [Fo.len_app, qag, qb0, HLE2.o.2.2, HN.o, HM.o]
      refine (qdo _ _ ((nusF x.lits).app (lksF x.links)) (W.heap.size + 2) _ HLE2.o.1 (by have := HLE2.o.2.1.res.lt; omega) (by rw [<- hgl, HLE2.o.2.2]; omega)).mono ?_;rintro e w6 ⟨q6, c6, rfl, hc6, hq6, hb6⟩;obtain ⟨y0, y1, y2, y3, y4, yf⟩ := (HLE2.o.2.1.later hb6).res;have HBE := Zh (HLE2.o.2.1.later hb6).below;have hl6 : ((nusF x.lits).app (lksF x.links)).len + 1 = (stX x).len := by rw [HT.o.1]; rfl
      rw [hl6] at hc6;rw [hl6]
      have hq7 : FoIn w6 (fun b => W.heap.size + 2 <= b) (stX x) q6 := by
       have hh := hq6;rw [HT.o.1] at hh;unfold stX;rw [HT.o.2];exact hh
      have HQ6 := Zh (aI hc6 hq7);clear hc6 hq6 hb6 hl6 hgl hq7;unfold trV
      go_wp2_with fail
      refine bodyPost_ret (v := trV true 1 ⟨#[40]⟩ 0 q6 (stX x).len c6) (by simp [trV, results, Tryz.results17, go_sem, y0, y1, y2, y3, y4]) rfl ⟨q6, c6, rfl, HQ6.o.1, ?_, ?_, ?_⟩
      ·unfold stX; simp only [Fo.len]; rw [<- HT.o.1, Fo.len_app, qag, qb0, <- HN.o, <- HM.o]; omega
      ·have hne : ∀ o b, W.heap.size + 2 <= b -> ¬ b = (⟨W.heap.size + 1, o, none⟩ : Addr).block := fun o b h e => by simp only at e; omega
       exact (((((HQ6.o.2.only (Only.of_setCell _ _ _) (hne _)).only (Only.of_setCell _ _ _) (hne _)).only (Only.of_setCell _ _ _) (hne _)).only (Only.of_setCell _ _ _) (hne _)).only (Only.of_setCell _ _ _) (hne _)).mono (fun b hb _ => by omega)
      ·iterate 5 refine Below.setCell ?_ (show W.heap.size <= W.heap.size + 1 from Nat.le_succ _) _
       exact HBE.o
     ·rw [hk] at z0
      go_wp2_with fail
      have HD := Zh (HLE2.o.2.1.later (qae _));have HA := Zh (show (0 <= x.a /\ x.a <= 9223372036854775807) /\ 0 <= x.b /\ x.b <= 9223372036854775807 from by simp only [cntB, Bool.and_eq_true, decide_eq_true_eq] at ha hb; omega)
      have HT := Zh (show Fo.cons false 3 qew 0 .nil (.cons false 4 (itoB x.a) 0 .nil (.cons false 4 (itoB x.b) 0 .nil .nil)) = stX x from by
       have e1 : ¬ x.a < 0 := by have := HA.o; omega
       have e2 : ¬ x.b < 0 := by have := HA.o; omega
       unfold stX; rw [hk]; simp [stK, stH, hk, nusF, nuL, nuK, nuS, nuX, e1, e2])
      refine qai [(1000, (fun _ => True : World -> Prop)), (1000, (fun w => StAt w W.heap.size x p c q d : World -> Prop))] (by kernel_rfl) (SL.cons (fun _ => trivial) (SL.cons (fun _ => HD.o.st) SL.nil)) (fun hH => ?_);generalize wr.drew = wd at *;refine tk 0 0 ⟨some 52, .fieldAddr 26 (.tmp 1) 3, 0, "ref.go:198", #[], none⟩ ?_ rfl rfl ?_ hH fun hH => ?_
      rotate_left
      ·intro w hSw; (try dsimp only at hSw); go_simp; try with_reducible rfl
      try simp only [Act.put, sI, s0, s1]
      refine tk 1 1 ⟨some 53, .load 3 (.tmp 52), 3, "ref.go:198", #[⟨0, .data⟩], none⟩ ?_ rfl rfl ?_ hH fun hH => ?_
      rotate_left
      ·intro w hSw; (try dsimp only at hSw); obtain ⟨z0, z1, z2, z3, z4⟩ := hSw; go_simp; try with_reducible rfl
      try simp only [Act.put, sI, s0, s1]
      refine tk 0 3 ⟨some 55, .fieldAddr 26 (.tmp 1) 4, 0, "ref.go:198", #[], none⟩ ?_ rfl rfl ?_ hH fun hH => ?_
      rotate_left
      ·intro w hSw; (try dsimp only at hSw); go_simp; try with_reducible rfl
      try simp only [Act.put, sI, s0, s1]
      refine tk 1 4 ⟨some 56, .load 3 (.tmp 55), 3, "ref.go:198", #[⟨3, .data⟩], none⟩ ?_ rfl rfl ?_ hH fun hH => ?_
      rotate_left
      ·intro w hSw; (try dsimp only at hSw); obtain ⟨z0, z1, z2, z3, z4⟩ := hSw; go_simp; try with_reducible rfl
      try simp only [Act.put, sI, s0, s1]
      refine qac (rs := [2]) (by kernel_rfl) (by simp) ?_;refine AllReadyL.cons (o := ⟨some 54, .call ⟨.value (.func 51), #[.tmp 53], #[2]⟩, 35, "ref.go:198", #[⟨1, .data⟩], none⟩) rfl (fun K hK => ?_) AllReadyL.nil;go_simp;go_at_call 51;refine (qcn x.a wd HA.o.1.1 HA.o.1.2).mono ?_;rintro e w5 ⟨rfl, hb5⟩;have HD5 := Zh (HD.o.later hb5);clear hb5;refine hK.out _ _ (SL.cons (fun _ => trivial) (SL.cons (fun _ => HD5.o.st) SL.nil)) (fun hH => ?_);clear hK K
      try simp only [Act.put, sI, s0, s1]
      refine qac (rs := [5]) (by kernel_rfl) (by simp) ?_;refine AllReadyL.cons (o := ⟨some 57, .call ⟨.value (.func 51), #[.tmp 56], #[2]⟩, 35, "ref.go:198", #[⟨4, .data⟩, ⟨2, .chain⟩], none⟩) rfl (fun K hK => ?_) AllReadyL.nil;go_simp;go_at_call 51;refine (qcn x.b w5 HA.o.2.1 HA.o.2.2).mono ?_;rintro e w6 ⟨rfl, hb6⟩;have HD6 := Zh (HD5.o.later hb6);clear hb6;refine hK.out _ _ (SL.cons (fun _ => trivial) (SL.cons (fun _ => HD6.o.st) SL.nil)) (fun hH => ?_);clear hK K
      try simp only [Act.put, sI, s0, s1]
      unfold trV;refine qac (rs := [6]) (by kernel_rfl) (by simp) ?_;refine AllReadyL.cons (o := ⟨some 58, .buildSlice 33 2 #[(0, .tmp 54), (1, .tmp 57)], 33, "ref.go:198", #[⟨2, .data⟩, ⟨5, .data⟩], none⟩) rfl (fun K hK => ?_) AllReadyL.nil;go_simp;have HD7 := Zh (HD6.o.later (qab w6 (.cells #[.bool false, .int .u8 4, .string (itoB x.a), .int .i64 0, .slice none 0 0, .bool false, .int .u8 4, .string (itoB x.b), .int .i64 0, .slice none 0 0] 35)));have HO7 := Zh (qrc w6 (itoB x.a) (itoB x.b));refine hK.out _ _ (SL.cons (fun _ => trivial) (SL.cons (fun _ => HD7.o.st) SL.nil)) (fun hH => ?_);clear hK K
      try simp only [Act.put, sI, s0, s1]
      obtain ⟨w7, hw7⟩ : ∃ w7, w7 = w6.alloc (.cells #[.bool false, .int .u8 4, .string (itoB x.a), .int .i64 0, .slice none 0 0, .bool false, .int .u8 4, .string (itoB x.b), .int .i64 0, .slice none 0 0] 35) := ⟨_, rfl⟩;have HL7 := Zh (show W.heap.size + 2 <= w6.heap.size /\ w6.heap.size <= w7.heap.size from ⟨by have := HD6.o.res.lt; omega, by rw [hw7]; simp⟩);rw [<- hw7] at HD7 HO7 hH ⊢;clear hw7;refine qac (rs := [7]) (by kernel_rfl) (by simp) ?_;refine AllReadyL.cons (o := ⟨some 59, .call ⟨.value (.func 53), #[.const (.string { data := #[112, 97, 105, 114] }), .tmp 58], #[9, 33]⟩, 35, "ref.go:198", #[⟨6, .data⟩, ⟨5, .chain⟩], none⟩) rfl (fun K hK => ?_) AllReadyL.nil;go_simp;go_at_call 53;refine (qdo _ _ _ (W.heap.size + 2) w7 (HO7.o.mono (fun b hb _ => by have hb' : w6.heap.size <= b := hb; have := HL7.o; omega)) (by have := HL7.o; omega) (by simp [Fo.len])).mono ?_;rintro e w8 ⟨q6, c6, rfl, hc6, hq6, hb8⟩;have HD8 := Zh (HD7.o.later hb8);clear hb8;refine hK.out _ _ (SL.cons (fun _ => trivial) (SL.cons (fun _ => HD8.o.st) SL.nil)) (fun hH => ?_);clear hK K
      try simp only [Act.put, sI, s0, s1]
      obtain ⟨y0, y1, y2, y3, y4, yf⟩ := HD8.o.res;have HQ6 := Zh (show _ /\ _ from aI hc6 (show FoIn w8 (fun b => W.heap.size + 2 <= b) (stX x) q6 from by rw [<- HT.o]; exact hq6));have hl6 : (Fo.cons false 4 (itoB x.a) 0 Fo.nil (Fo.cons false 4 (itoB x.b) 0 Fo.nil Fo.nil)).len + 1 = (stX x).len := by rw [<- HT.o]; rfl
      rw [hl6] at HQ6 ⊢;clear hc6 hq6 hl6;unfold trV;refine qac (rs := [8]) (by kernel_rfl) (by simp) ?_;refine AllReadyL.cons (o := ⟨none, .store 35 (.tmp 2) (.tmp 59), 0, "ref.go:198", #[⟨7, .data⟩, ⟨7, .chain⟩, ⟨0, .phase⟩, ⟨1, .phase⟩, ⟨2, .phase⟩, ⟨3, .phase⟩, ⟨4, .phase⟩, ⟨5, .phase⟩, ⟨6, .phase⟩, ⟨7, .phase⟩], none⟩) rfl (fun K hK => ?_) AllReadyL.nil;go_simp;refine hK.out _ _ (SL.cons (fun _ => trivial) (SL.cons (fun _ => (show StAt _ W.heap.size x p c q d from StAt.only (T := fun k => k = W.heap.size + 1) HD8.o.st ((((( Only.of_setCell w8 ⟨W.heap.size + 1, 0, none⟩ _).trans (Only.of_setCell _ ⟨W.heap.size + 1, 1, none⟩ _)).trans (Only.of_setCell _ ⟨W.heap.size + 1, 2, none⟩ _)).trans (Only.of_setCell _ ⟨W.heap.size + 1, 3, none⟩ _)).trans (Only.of_setCell _ ⟨W.heap.size + 1, 4, none⟩ _)) (by omega))) SL.nil)) (fun hH => ?_);clear hK K
      try simp only [Act.put, sI, s0, s1]
      refine qah (by kernel_rfl) ?_ _;clear hH
      go_wp2_with fail
      refine bodyPost_ret (v := trV true 1 ⟨#[40]⟩ 0 q6 (stX x).len c6) (by simp [trV, results, Tryz.results17, go_sem, y0, y1, y2, y3, y4]) rfl ⟨q6, c6, rfl, HQ6.o.1, ?_, ?_, ?_⟩
      ·rw [<- HT.o]; simp [Fo.len]
      ·have hne : ∀ o b, W.heap.size + 2 <= b -> ¬ b = (⟨W.heap.size + 1, o, none⟩ : Addr).block := fun o b h e => by simp only at e; omega
       exact (((((HQ6.o.2.only (Only.of_setCell _ _ _) (hne _)).only (Only.of_setCell _ _ _) (hne _)).only (Only.of_setCell _ _ _) (hne _)).only (Only.of_setCell _ _ _) (hne _)).only (Only.of_setCell _ _ _) (hne _)).mono (fun b hb _ => by omega)
      ·iterate 5 refine Below.setCell ?_ (show W.heap.size <= W.heap.size + 1 from Nat.le_succ _) _
       exact HD8.o.below
def noA : Fo -> Fo
 | .nil => .nil
 | .cons l k s _ x r => .cons l k s 0 (noA x) (noA r)
theorem qjl : ∀ f : Fo, (noA f).len = f.len
 | .nil => rfl
 | .cons l k s a x r => by simp only [noA, Fo.len, qjl r]
theorem qfx : ∀ f g : Fo, qbv f g = true -> noA f = noA g
 | .nil, .nil, _ => rfl
 | .nil, .cons _ _ _ _ _ _, h => by simp [qbv] at h
 | .cons _ _ _ _ _ _, .nil, h => by simp [qbv] at h
 | .cons l k s a x r, .cons l' k' s' a' x' r', h => by
  simp only [qbv, Bool.and_eq_true, decide_eq_true_eq] at h;obtain ⟨⟨⟨⟨⟨h1, h2⟩, h3⟩, _⟩, h4⟩, h5⟩ := h;simp only [noA, h1, h2, h3, qfx x x' h4, qfx r r' h5]
theorem qhh : ∀ l : List Int, noA (nusF l) = nusF l
 | [] => rfl
 | n :: r => by
  have h : noA (nuX n) = nuX n := by unfold nuX; split <;> simp [noA]
  simp only [nusF, noA, h, qhh r]
theorem qri (x : Lk) : noA (lkX x) = lkX x := by simp only [lkX, noA, qhh]
theorem qkt : ∀ l : List Lk, noA (lksF l) = lksF l
 | [] => rfl
 | x :: r => by simp only [lksF, noA, qri, qkt r]
theorem qrh (x : Stp) : noA (stX x) = stX x := by
 simp only [stX, noA, stK]
 split
 ·rw [qkt]
 ·split <;> rw [qhh]
def hd (l : Bool) : Fo -> ByteArray × Fo
 | .nil => (⟨#[]⟩, .nil)
 | .cons l0 k s _ _ r => if l = true /\ l0 = false /\ k = 3 then (s, r) else (⟨#[]⟩, .nil)
theorem qob (l : Bool) (x : Fo) : hd l (noA x) = ((hd l x).1, noA (hd l x).2) := by
 cases x with
 | nil => rfl
 | cons l0 k s a x r => simp only [noA, hd]; split <;> rfl
def qd0 (k : Int) (s : ByteArray) : Int × Bool := if k = 4 then (qdd s.data.toList, decide (qee s.data.toList = 0)) else (0, false)
def qef : Fo -> Option (Int × ByteArray)
 | .cons false k s _ _ .nil => some (k, s)
 | _ => none
theorem qji (x : Fo) : qef (noA x) = qef x := by
 cases x with
 | nil => rfl
 | cons l k s a x r =>
  cases r with
  | nil => cases l <;> rfl
  | cons l' k' s' a' x' r' => cases l <;> rfl
def numP (l : Bool) (k : Int) (s : ByteArray) (x : Fo) : Int × Bool :=
 if (hd l x).1 = ⟨#[45]⟩ then
  match qef (hd l x).2 with
  | some (k1, s1) => (-(qd0 k1 s1).1, (qd0 k1 s1).2)
  | none => if l then (0, false) else qd0 k s
 else if l then (0, false) else qd0 k s
theorem qks (l : Bool) (k : Int) (s : ByteArray) (x : Fo) : numP l k s (noA x) = numP l k s x := by
 simp only [numP, qob, qji]
theorem qjq (k : Int) (s : ByteArray) : 0 <= (qd0 k s).1 /\ (qd0 k s).1 <= 4611686018427387903 := by
 unfold qd0
 split
 ·simp only [qdd]
  split
  ·rename_i h
   exact ⟨Int.natCast_nonneg _, by omega⟩
  ·omega
 ·simp
theorem qn8 (n : Int) : (itoB n).data.toList = Lib.itoa n := by simp [itoB]
theorem qir (n : Int) (h0 : 0 <= n) (h1 : n <= 4611686018427387903) : qd0 4 (itoB n) = (n, true) := by
 have h := qic n h0 h1;simp only [qd0, if_pos, qn8, h.1, h.2];simp
theorem qnp (n : Int) (h0 : -4611686018427387903 <= n) (h1 : n <= 4611686018427387903) : numP (nuL n) (nuK n) (nuS n) (nuX n) = (n, true) := by
 by_cases h : n < 0
 ·have e := qir (-n) (by omega) (by omega)
  simp only [numP, nuL, nuX, h, decide_true, hd, qef, e, if_pos, and_self];simp
 ·have e := qir n (by omega) h1
  simp [numP, nuL, nuK, nuS, nuX, h, hd, e]
def nx (has : Bool) (st : Fo × Bool) : Int × (Fo × Bool) :=
 if has then
  match st.1 with
  | .nil => (0, (.nil, false))
  | .cons l k s _ x r => ((numP l k s x).1, (r, st.2 && (numP l k s x).2))
 else (0, st)
def qa8 : Fo -> List Int × Bool
 | .nil => ([], true)
 | .cons l k s _ x r => ((numP l k s x).1 :: (qa8 r).1, (numP l k s x).2 && (qa8 r).2)
theorem qqo (has : Bool) (f : Fo) (ok : Bool) : nx has (noA f, ok) = ((nx has (f, ok)).1, (noA (nx has (f, ok)).2.1, (nx has (f, ok)).2.2)) := by
 unfold nx
 split
 ·cases f with
  | nil => rfl
  | cons l k s a x r => simp only [noA, qks]
 ·rfl
theorem qfz : ∀ f : Fo, qa8 (noA f) = qa8 f
 | .nil => rfl
 | .cons l k s a x r => by simp only [noA, qa8, qks, qfz r]
theorem qfy : ∀ l : List Int, (∀ y ∈ l, -4611686018427387903 <= y /\ y <= 4611686018427387903) -> qa8 (nusF l) = (l, true)
 | [], _ => rfl
 | n :: r, h => by
  have e := qnp n (h n (by simp)).1 (h n (by simp)).2;simp only [nusF, qa8, e, qfy r (fun y hy => h y (by simp [hy])), Bool.and_self]
theorem qdn (n : Int) (r : Fo) (h : -4611686018427387903 <= n /\ n <= 4611686018427387903) : nx true (.cons (nuL n) (nuK n) (nuS n) 0 (nuX n) r, true) = (n, (r, true)) := by
 have e := qnp n h.1 h.2;simp [nx, e]
def lkBy (k : Int) (lit a b i j list : Bool) (args : Fo) : Lk × Bool :=
 let s1 := nx lit (args, true)
 let s2 := nx a s1.2
 let s3 := nx b s2.2
 let s4 := nx i s3.2
 let s5 := nx j s4.2
 if list then (⟨k, s1.1, s2.1, s3.1, s4.1, s5.1, (qa8 s5.2.1).1⟩, s5.2.2 && (qa8 s5.2.1).2)
 else (⟨k, s1.1, s2.1, s3.1, s4.1, s5.1, []⟩, s5.2.2 && decide (s5.2.1.len = 0))
def qbr (l : Bool) (x : Fo) : Lk × Bool :=
 let h := (hd l x).1
 let g := (hd l x).2
 if h = qbw then lkBy 1 true false false false false false g
 else if h = qcu then lkBy 2 false true false false false false g
 else if h = qcs then lkBy 3 false false false true false false g
 else if h = qct then lkBy 4 false false false true true false g
 else if h = qby then lkBy 5 false true true false false true g
 else if h = qa9 then lkBy 6 true false false true false false g
 else if h = qbx then lkBy 7 false false false true false false g
 else (⟨0, 0, 0, 0, 0, 0, []⟩, false)
theorem qpq (k : Int) (lit a b i j list : Bool) (args : Fo) : lkBy k lit a b i j list (noA args) = lkBy k lit a b i j list args := by
 simp only [lkBy, qqo, qfz, qjl]
theorem qnx (l : Bool) (x : Fo) : qbr l (noA x) = qbr l x := by
 simp only [qbr, qob, qpq]
theorem qny (x : Lk) (h : qaz x = true) : qbr true (lkX x) = (x, true) := by
 have Z := qj1;rcases qeu h with ⟨e, h1⟩ | ⟨e, h1⟩ | ⟨e, h1⟩ | ⟨e, h1, h2⟩ | ⟨e, h1, h2, h3, h4⟩ | ⟨e, h1, h2⟩ | ⟨e, h1⟩ <;> obtain ⟨k, lit, a, b, i, j, l⟩ := x <;> cases e
 ·have e1 := qdn lit .nil (qb8 h1)
  simp [qbr, lkX, hd, lkH, lkN, lkBy, nusF, e1];simp [nx, Fo.len]
 ·have e1 := qdn a .nil (qar h1)
  have e0 : qcu ≠ qbw := by decide
  simp [qbr, lkX, hd, lkH, lkN, lkBy, nusF, e0];simp [nx] at e1 ⊢;simp [e1, Fo.len]
 ·have e1 := qdn i .nil (qar h1)
  have e0 : qcs ≠ qbw /\ qcs ≠ qcu := by decide
  simp [qbr, lkX, hd, lkH, lkN, lkBy, nusF, e0];simp [nx] at e1 ⊢;simp [e1, Fo.len]
 ·have e1 := qdn i (.cons (nuL j) (nuK j) (nuS j) 0 (nuX j) .nil) (qar h1)
  have e2 := qdn j .nil (qar h2);have e0 : qct ≠ qbw /\ qct ≠ qcu /\ qct ≠ qcs := by decide
  simp [qbr, lkX, hd, lkH, lkN, lkBy, nusF, e0];simp [nx] at e1 e2 ⊢;simp [e1, e2, Fo.len]
 ·have e1 := qdn a (.cons (nuL b) (nuK b) (nuS b) 0 (nuX b) (nusF l)) (qar h1)
  have e2 := qdn b (nusF l) (qar h2);have e3 := qfy l (fun y hy => qar (List.all_eq_true.1 h4 y hy));have e0 : qby ≠ qbw /\ qby ≠ qcu /\ qby ≠ qcs /\ qby ≠ qct := by decide
  simp [qbr, lkX, hd, lkH, lkN, lkBy, nusF, e0];simp [nx] at e1 e2 ⊢;simp [e1, e2, e3]
 ·have e1 := qdn lit (.cons (nuL i) (nuK i) (nuS i) 0 (nuX i) .nil) (qb8 h1)
  have e2 := qdn i .nil (qar h2);have e0 : qa9 ≠ qbw /\ qa9 ≠ qcu /\ qa9 ≠ qcs /\ qa9 ≠ qct /\ qa9 ≠ qby := by decide
  simp [qbr, lkX, hd, lkH, lkN, lkBy, nusF, e0];simp [nx] at e1 e2 ⊢;simp [e1, e2, Fo.len]
 ·have e1 := qdn i .nil (qar h1)
  have e0 : qbx ≠ qbw /\ qbx ≠ qcu /\ qbx ≠ qcs /\ qbx ≠ qct /\ qbx ≠ qby /\ qbx ≠ qa9 := by decide
  simp [qbr, lkX, hd, lkH, lkN, lkBy, nusF, e0];simp [nx] at e1 ⊢;simp [e1, Fo.len]
def qa6 : Fo -> List Lk × Bool
 | .nil => ([], true)
 | .cons l _ _ _ x r => ((qbr l x).1 :: (qa6 r).1, (qbr l x).2 && (qa6 r).2)
theorem qgr : ∀ f : Fo, qa6 (noA f) = qa6 f
 | .nil => rfl
 | .cons l k s a x r => by simp only [noA, qa6, qnx, qgr r]
theorem qgs : ∀ l : List Lk, (∀ y ∈ l, qaz y = true) -> qa6 (lksF l) = (l, true)
 | [], _ => rfl
 | x :: r, h => by
  have e := qny x (h x (by simp));simp only [lksF, qa6, e, qgs r (fun y hy => h y (by simp [hy])), Bool.and_self]
def stBy (k : Int) (lits links a b : Bool) (args : Fo) : Stp × Bool :=
 let s1 := nx a (args, true)
 let s2 := nx b s1.2
 if lits then (⟨k, (qa8 s2.2.1).1, [], s1.1, s2.1⟩, s2.2.2 && (qa8 s2.2.1).2)
 else if links then (⟨k, [], (qa6 s2.2.1).1, s1.1, s2.1⟩, s2.2.2 && (qa6 s2.2.1).2)
 else (⟨k, [], [], s1.1, s2.1⟩, s2.2.2 && decide (s2.2.1.len = 0))
def qbo (l : Bool) (x : Fo) : Stp × Bool :=
 let h := (hd l x).1
 let g := (hd l x).2
 if h = qb5 then stBy 1 true false false false g
 else if h = qcp then stBy 2 false true false false g
 else if h = qcq then stBy 3 true false false false g
 else if h = qew then stBy 4 false false true true g
 else (⟨0, [], [], 0, 0⟩, false)
theorem qo9 (k : Int) (lits links a b : Bool) (args : Fo) : stBy k lits links a b (noA args) = stBy k lits links a b args := by
 simp only [stBy, qqo, qfz, qgr, qjl]
theorem qmz (l : Bool) (x : Fo) : qbo l (noA x) = qbo l x := by
 simp only [qbo, qob, qo9]
theorem qmy (x : Stp) (h : qau x = true) : qbo true (stX x) = (x, true) := by
 have hs := qen h;obtain ⟨k, lits, links, a, b⟩ := x;simp only at hs;rcases hs with ⟨hk, rfl, rfl, rfl, _, h1⟩ | ⟨rfl, rfl, rfl, rfl, _, h1⟩ | ⟨rfl, rfl, rfl, h1, h2⟩
 ·have e := qfy lits (fun y hy => qb8 (List.all_eq_true.1 h1 y hy))
  rcases hk with rfl | rfl
  ·simp [qbo, stX, hd, stH, stK, stBy, nx, e]
  ·have e0 : qcq ≠ qb5 /\ qcq ≠ qcp := by decide
   simp [qbo, stX, hd, stH, stK, stBy, nx, e, e0]
 ·have e := qgs links (fun y hy => List.all_eq_true.1 h1 y hy)
  have e0 : qcp ≠ qb5 := by decide
  simp [qbo, stX, hd, stH, stK, stBy, nx, e, e0]
 ·have e1 := qdn a (.cons (nuL b) (nuK b) (nuS b) 0 (nuX b) .nil) (qar h1)
  have e2 := qdn b .nil (qar h2);have e0 : qew ≠ qb5 /\ qew ≠ qcp /\ qew ≠ qcq := by decide
  simp [qbo, stX, hd, stH, stK, stBy, nusF, e0];simp [nx] at e1 e2 ⊢;simp [e1, e2, Fo.len]
theorem qlg (x : Stp) (h : qau x = true) (l : Bool) (k : Int) (s : ByteArray) (f : Fo) (hs : qdu true 1 ⟨#[40]⟩ (stX x) l k s f = true) : qbo l f = (x, true) := by
 simp only [qdu, Bool.and_eq_true, decide_eq_true_eq] at hs;obtain ⟨⟨⟨⟨rfl, _⟩, _⟩, _⟩, h5⟩ := hs;have e := qfx _ _ h5;rw [qrh] at e;rw [<- qmz, <- e];exact qmy x h
theorem qez (w : World) (b off n c : Nat) (h : n + 1 <= c) :
  (Instr.slice 33 (.slice (some ⟨b, off, none⟩) (n + 1) c) (some (.int .i64 1)) none none).run Tryz.prog w = .ok (.slice (if c = 1 then some ⟨b, off, none⟩ else some ⟨b, off + 5, none⟩) n (c - 1)) w := by
 obtain ⟨i0, hi, hz0, hz1, hz2⟩ := qgt;have e1 : (1 : Int) <= ((n + 1 : Nat) : Int) := by omega
 have e3 : ((n + 1 : Nat) : Int) <= (c : Int) := by omega
 have e4 : (0 : Int) <= ((n + 1 : Nat) : Int) := by omega
 have e5 : (1 : Int).toNat = 1 := rfl
 by_cases h1 : c = 1
 ·subst h1
  have h0 : n = 0 := by omega
  subst h0;simp [Instr.slice, run_underlying Tryz.underlying33, Instr.sliceBounds, Instr.sliceBound, asIntOf, sizeOf, typeInfo, hi]
 ·have h2 : 1 <= n + 1 := by omega
  have h3 : (n : Int) + 1 <= (c : Int) := by omega
  have h4 : (0 : Int) <= (n : Int) + 1 := by omega
  have h5 : (1 : Int) <= (n : Int) + 1 := by omega
  simp [Instr.slice, run_underlying Tryz.underlying33, Instr.sliceBounds, Instr.sliceBound, asIntOf, sizeOf, typeInfo, hi, hz1, h1, h5, Lib.add_plain]
theorem qjh (l : Bool) (k : Int) (s : ByteArray) (a : Int) (x : Fo) (q : Option Addr) (c : Nat) (W : World) (F : Nat -> Prop) (hq : FoIn W F x q) (hc : x.len <= c) (hm : x.len <= 281474976710656) (hn : hd l x = (⟨#[]⟩, .nil) /\ (l = false \/ x = .nil \/ ∃ l0 k0 s0 a0 x0 r0, x = .cons l0 k0 s0 a0 x0 r0 /\ (l0 = true \/ k0 ≠ 3))) :
  Calls Tryz.prog 75 #[trV l k s a q x.len c] W fun e w' => e = .returned (.tuple #[.string ⟨#[]⟩, .slice none 0 0]) /\ Below W.heap.size W w' := by
 obtain ⟨n, hn0⟩ : ∃ n, n = x.len := ⟨_, rfl⟩;have hb := qam W l k s a (.slice q n c);have HB := Zh (qab W (.cells #[.bool l, .int .u8 k, .string s, .int .i64 a, .slice q n c] 35));have n1 : (n : Int) <= 281474976710656 := by omega
 rw [<- hn0] at hc hm ⊢;obtain ⟨y0, y1, y2, y3, y4, yf⟩ := hb;unfold trV
 cases l with
 | false =>
  clear hq hn hn0 hc hm;go_enter Tryz.func75, Tryz.ntmps75
  go_wp2_with fail
  exact bodyPost_ret (v := .tuple #[.string ⟨#[]⟩, .slice none 0 0]) (by simp [results, Tryz.results75, go_sem]) rfl ⟨rfl, HB.o⟩
 | true =>
  rcases hn.2 with h | h | ⟨l0, k0, s0, a0, x0, r0, h, h2⟩
  ·cases h
  ·subst h
   obtain rfl : n = 0 := hn0;clear hq hn hc hm;go_enter Tryz.func75, Tryz.ntmps75
   go_wp2_with fail
   exact bodyPost_ret (v := .tuple #[.string ⟨#[]⟩, .slice none 0 0]) (by simp [results, Tryz.results75, go_sem]) rfl ⟨rfl, HB.o⟩
  ·subst h
   obtain ⟨b, off, rfl, _, h0, h1, _⟩ := hq;have c0 := qaa (qab W (.cells #[.bool true, .int .u8 k, .string s, .int .i64 a, .slice (some ⟨b, off, none⟩) n c] 35)) h0;have c1 := qaa (qab W (.cells #[.bool true, .int .u8 k, .string s, .int .i64 a, .slice (some ⟨b, off, none⟩) n c] 35)) h1;have hpos : 0 < n := by rw [hn0]; simp [Fo.len]
   have hne : ((n : Int) == 0) = false := by simp; omega
   have hlt : (0 : Int) < (n : Int) := by omega
   clear hn hn0 hc hm h0 h1;rcases h2 with h2 | h2
   ·subst h2
    go_enter Tryz.func75, Tryz.ntmps75
    go_wp2_with fail
    exact bodyPost_ret (v := .tuple #[.string ⟨#[]⟩, .slice none 0 0]) (by simp [results, Tryz.results75, go_sem]) rfl ⟨rfl, HB.o⟩
   ·have hk : (k0 == 3) = false := by simp [h2]
    have hk2 : (k0 != 3) = true := by simp [h2]
    clear h2
    cases l0 with
    | true =>
     go_enter Tryz.func75, Tryz.ntmps75
     go_wp2_with fail
     exact bodyPost_ret (v := .tuple #[.string ⟨#[]⟩, .slice none 0 0]) (by simp [results, Tryz.results75, go_sem]) rfl ⟨rfl, HB.o⟩
    | false =>
     go_enter Tryz.func75, Tryz.ntmps75
     go_wp2_with fail
     exact bodyPost_ret (v := .tuple #[.string ⟨#[]⟩, .slice none 0 0]) (by simp [results, Tryz.results75, go_sem]) rfl ⟨rfl, HB.o⟩
theorem qie (k : Int) (s : ByteArray) (a : Int) (s0 : ByteArray) (a0 : Int) (x0 r0 : Fo) (q : Option Addr) (c : Nat) (W : World) (F : Nat -> Prop) (hq : FoIn W F (.cons false 3 s0 a0 x0 r0) q) (hc : r0.len + 1 <= c) (hm : r0.len + 1 <= 281474976710656) :
  Calls Tryz.prog 75 #[trV true k s a q (r0.len + 1) c] W fun e w' => (∃ q' c', e = .returned (.tuple #[.string s0, .slice q' r0.len c']) /\ FoIn w' F r0 q' /\ r0.len <= c') /\ Below W.heap.size W w' := by
 obtain ⟨m, hm'⟩ : ∃ m : Nat, m = r0.len + 1 := ⟨_, rfl⟩
 have hsl : ∀ (b off : Nat) (w : World), (Instr.slice 33 (.slice (some ⟨b, off, none⟩) m c) (some (.int .i64 1)) none none).run Tryz.prog w = .ok (.slice (if c = 1 then some ⟨b, off, none⟩ else some ⟨b, off + 5, none⟩) r0.len (c - 1)) w := fun b off w => by
  rw [hm']; exact qez w b off r0.len c hc
 rw [<- hm'] at hc hm ⊢;have hlt : (0 : Int) < (m : Int) := by omega
 have hne : ((m : Int) == 0) = false := by simp; omega
 have n1 : (m : Int) <= 281474976710656 := by omega
 have HMM := Zh hm';have HC := Zh hc;have HB := Zh (qab W (.cells #[.bool true, .int .u8 k, .string s, .int .i64 a, .slice q m c] 35));obtain ⟨w1, hw1⟩ : ∃ w1, w1 = W.alloc (.cells #[.bool true, .int .u8 k, .string s, .int .i64 a, .slice q m c] 35) := ⟨_, rfl⟩;have hbx := qam W true k s a (.slice q m c);have hq2 := hq.later (qab W (.cells #[.bool true, .int .u8 k, .string s, .int .i64 a, .slice q m c] 35));rw [<- hw1] at hbx hq2 HB;obtain ⟨b, off, rfl, _, c0, c1, c2, c3, c4, hr⟩ := hq2;have HW1 := Zh hw1;have HR0 := Zh hr;have c2d := qaa (qae _) c2;have y4d := qaa (qae _) hbx.c4;obtain ⟨y0, y1, y2, y3, y4, yf⟩ := hbx;have hs2 := hsl b off;obtain ⟨z, hz⟩ : ∃ z, z = (if c = 1 then some (⟨b, off, none⟩ : Addr) else some ⟨b, off + 5, none⟩) := ⟨_, rfl⟩;have HZ := Zh hz;rw [<- hz] at hs2;clear hq hr hc hm hm' hz hsl c4;rw [hw1] at y0 y1 y2 y3 y4 yf c0 c1 c2 c3 c2d y4d;clear hw1;unfold trV;go_enter Tryz.func75, Tryz.ntmps75
 go_wp2_with fail
 go_quiet (fail)
 go_wp2_with fail
 rw [<- HW1.o];refine bodyPost_ret (v := .tuple #[.string s0, .slice z r0.len (c - 1)]) (by simp [results, Tryz.results75, go_sem]) rfl ⟨⟨z, c - 1, rfl, ?_, ?_⟩, bdd HB.o⟩
 ·have hr := HR0.o.later (qad w1 nq)
  rw [HZ.o]
  split
  ·rename_i h1
   have : r0.len = 0 := by have := HC.o; have := HMM.o; omega
   cases r0 with
   | nil => trivial
   | cons _ _ _ _ _ _ => simp [Fo.len] at this
  ·exact hr
 ·have := HC.o; have := HMM.o; omega
theorem qfm (l : Bool) (k : Int) (s : ByteArray) (a : Int) (x : Fo) (q : Option Addr) (c : Nat) (W : World) (F : Nat -> Prop) (hq : FoIn W F x q) (hc : x.len <= c) (hm : x.len <= 281474976710656) :
  Calls Tryz.prog 75 #[trV l k s a q x.len c] W fun e w' => (∃ q' c', e = .returned (.tuple #[.string (hd l x).1, .slice q' (hd l x).2.len c']) /\ FoIn w' F (hd l x).2 q' /\ (hd l x).2.len <= c') /\ Below W.heap.size W w' := by
 have no : (hd l x = (⟨#[]⟩, .nil) /\ (l = false \/ x = .nil \/ ∃ l0 k0 s0 a0 x0 r0, x = .cons l0 k0 s0 a0 x0 r0 /\ (l0 = true \/ k0 ≠ 3))) -> Calls Tryz.prog 75 #[trV l k s a q x.len c] W fun e w' => (∃ q' c', e = .returned (.tuple #[.string (hd l x).1, .slice q' (hd l x).2.len c']) /\ FoIn w' F (hd l x).2 q' /\ (hd l x).2.len <= c') /\ Below W.heap.size W w' := by
  intro h;refine (qjh l k s a x q c W F hq hc hm h).mono ?_;rintro e w' ⟨rfl, hb⟩;rw [h.1];exact ⟨⟨none, 0, rfl, trivial, Nat.le_refl _⟩, hb⟩
 cases x with
 | nil => exact no ⟨rfl, Or.inr (Or.inl rfl)⟩
 | cons l0 k0 s0 a0 x0 r0 =>
  by_cases h : l = true /\ l0 = false /\ k0 = 3
  ·obtain ⟨rfl, rfl, rfl⟩ := h
   have e : hd true (.cons false 3 s0 a0 x0 r0) = (s0, r0) := by simp [hd]
   rw [e];exact qie k s a s0 a0 x0 r0 q c W F hq hc hm
  ·refine no ⟨by simp only [hd]; rw [if_neg h], ?_⟩
   cases l with
   | false => exact Or.inl rfl
   | true =>
    refine Or.inr (Or.inr ⟨l0, k0, s0, a0, x0, r0, rfl, ?_⟩)
    cases l0 with
    | true => exact Or.inl rfl
    | false => exact Or.inr (fun e => h ⟨rfl, rfl, e⟩)
def TxOK : Fo -> Prop
 | .nil => True
 | .cons _ _ s _ x r => s.size <= 140737488351232 /\ TxOK x /\ TxOK r
theorem TxOK.hd {l : Bool} {x : Fo} (h : TxOK x) : TxOK (hd l x).2 := by
 cases x with
 | nil => trivial
 | cons l0 k s a y r =>
  simp only [Go.Proofs.YtookoagcmejkpaaGreatDoor.hd]
  split
  ·exact h.2.2
  ·trivial
theorem qil (k : Int) (s : ByteArray) (x : Fo) : numP false k s x = qd0 k s := by
 have h : (hd false x).1 ≠ ⟨#[45]⟩ := by
  cases x with
  | nil => simp [hd]
  | cons l0 k0 s0 a0 y r => simp [hd]
 simp [numP, h]
theorem qm6 (l : List UInt8) : 0 <= qdd l /\ qdd l <= 4611686018427387903 := by
 simp only [qdd]
 split
 ·rename_i h
  exact ⟨Int.natCast_nonneg _, by omega⟩
 ·omega
theorem qet (k : Int) (s : ByteArray) (a : Int) (x : Fo) (q : Option Addr) (c : Nat) (W : World) (F : Nat -> Prop) (hq : FoIn W F x q) (hc : x.len <= c) (hm : x.len <= 281474976710656) (hs : s.size <= 140737488351232) :
  Calls Tryz.prog 97 #[trV false k s a q x.len c] W fun e w' => e = .returned (.tuple #[.int .i64 (numP false k s x).1, .bool (numP false k s x).2]) /\ Below W.heap.size W w' := by
 rw [qil];obtain ⟨w1, hw1⟩ : ∃ w1, w1 = W.alloc (.cells #[.bool false, .int .u8 k, .string s, .int .i64 a, .slice q x.len c] 35) := ⟨_, rfl⟩;have hb1 : Below W.heap.size W w1 := by rw [hw1]; exact qab _ _
 have HB1 := Zh hb1;have HBX := Zh (show BoxT w1 W.heap.size false k s a (.slice q x.len c) from by rw [hw1]; exact qam _ _ _ _ _ _);have HP := Zh (qfm false k s a x q c w1 F (hq.later hb1) hc hm)
 have e0 : hd false x = (⟨#[]⟩, .nil) := by
  cases x with
  | nil => rfl
  | cons l0 k0 s0 a0 y r => simp [hd]
 rw [e0] at HP;have HR := Zh (fun w => qpa s w hs);have HW1 := Zh hw1;have HRN := Zh (qm6 s.data.toList);obtain ⟨r1, r2, hr⟩ : ∃ r1 r2, qd0 k s = (r1, r2) := ⟨_, _, rfl⟩;have HRR := Zh hr;rw [hr];clear hq hc hm hs hw1 hb1 e0 hr;unfold trV at HP ⊢;go_enter Tryz.func97, Tryz.ntmps97
 go_wp2_with fail
 rw [<- HW1.o];refine HP.o.mono ?_;rintro e w2 ⟨⟨q2, c2, rfl, _, hc2⟩, hb⟩;have HB2 := Zh (HB1.o.trans (hb.mono HB1.o.size));obtain ⟨y0, y1, y2, y3, y4, yf⟩ := HBX.o.later hb;clear hb hc2 HP HW1
 dsimp only [Fo.len]
 have hsz : ((⟨#[]⟩ : ByteArray) == ⟨#[45]⟩) = false := by decide
 by_cases hk : k = 4
 ·subst hk
  have hlf : qd0 4 s = (qdd s.data.toList, decide (qee s.data.toList = 0)) := rfl;have hh := HRR.o;rw [hlf] at hh
  injection hh with h1 h2
  subst h1 h2;obtain ⟨E, hE⟩ : ∃ E, E = qee s.data.toList := ⟨_, rfl⟩;have HE := Zh hE;rw [<- hE] at HR;have hEd : (E == 0) = decide (E = 0) := beqd E 0;clear hE hlf HRR
  go_wp2_with fail
  refine (HR.o _).mono ?_;rintro e w3 ⟨rfl, hw⟩;rw [hw];clear hw
  go_wp2_with fail
  exact bodyPost_ret (v := .tuple #[.int .i64 (qdd s.data.toList), .bool (decide (E = 0))]) (by simp [results, Tryz.results97, go_sem]) rfl ⟨by rw [HE.o], HB2.o⟩
 ·have hk2 : (k == 4) = false := by simp [hk]
  have hk3 : (k != 4) = true := by simp [hk]
  have hlf : qd0 k s = (0, false) := by simp [qd0, hk]
  have hh := HRR.o;rw [hlf] at hh
  injection hh with h1 h2
  subst h1 h2;clear hlf hk HRR
  go_wp2_with fail
  exact bodyPost_ret (v := .tuple #[.int .i64 0, .bool false]) (by simp [results, Tryz.results97, go_sem]) rfl ⟨rfl, HB2.o⟩
theorem qfn (l : Bool) (k : Int) (s : ByteArray) (a : Int) (x : Fo) (q : Option Addr) (c : Nat) (W : World) (F : Nat -> Prop) (hq : FoIn W F x q) (hc : x.len <= c) (hm : x.len <= 281474976710656) (hs : s.size <= 140737488351232) (hx : TxOK x) :
  Calls Tryz.prog 97 #[trV l k s a q x.len c] W fun e w' => e = .returned (.tuple #[.int .i64 (numP l k s x).1, .bool (numP l k s x).2]) /\ Below W.heap.size W w' := by
 cases l with
 | false => exact qet k s a x q c W F hq hc hm hs
 | true =>
 obtain ⟨w1, hw1⟩ : ∃ w1, w1 = W.alloc (.cells #[.bool true, .int .u8 k, .string s, .int .i64 a, .slice q x.len c] 35) := ⟨_, rfl⟩;have hb1 : Below W.heap.size W w1 := by rw [hw1]; exact qab _ _
 have HB1 := Zh hb1;have HBX := Zh (show BoxT w1 W.heap.size true k s a (.slice q x.len c) from by rw [hw1]; exact qam _ _ _ _ _ _);have HP := Zh (qfm true k s a x q c w1 F (hq.later hb1) hc hm);have HW1 := Zh hw1;have HTX := Zh (TxOK.hd (l := true) hx);obtain ⟨r, hr⟩ : ∃ r, r = numP true k s x := ⟨_, rfl⟩;have HRR := Zh hr;rw [<- hr];obtain ⟨h, g, hhg⟩ : ∃ h g, hd true x = (h, g) := ⟨_, _, rfl⟩;have HHG := Zh hhg
 have hgl : g.len <= 281474976710656 := by
  have e : (hd true x).2.len <= x.len := by
   cases x with
   | nil => exact Nat.le_refl _
   | cons l0 k0 s0 a0 y z =>
    simp only [hd]
    split
    ·simp [Fo.len]
    ·simp [Fo.len]
  rw [hhg] at e;exact Nat.le_trans e hm
 rw [hhg] at HP HTX;clear hq hc hm hs hw1 hb1 hx hr hhg;unfold trV at HP ⊢;obtain ⟨n, hn⟩ : ∃ n, n = g.len := ⟨_, rfl⟩;have HN := Zh hn
 dsimp only at HP HTX
 rw [<- hn] at HP hgl;have n1 : (n : Int) <= 281474976710656 := by omega
 clear hn;go_enter Tryz.func97, Tryz.ntmps97
 go_wp2_with fail
 rw [<- HW1.o];refine HP.o.mono ?_;rintro e w2 ⟨⟨q2, c2, rfl, hq2, hc2⟩, hb⟩;have HB2 := Zh (HB1.o.trans (hb.mono HB1.o.size));have HBX2 := Zh (HBX.o.later hb);obtain ⟨y0, y1, y2, y3, y4, yf⟩ := HBX2.o;have HQ2 := Zh (aI hq2 hc2);clear hb hc2 hq2 HP HW1;have no : r = (0, false) -> r.1 = 0 /\ r.2 = false := fun h => by rw [h]; exact ⟨rfl, rfl⟩
 by_cases hh : h = ⟨#[45]⟩
 case neg =>
  have h1 : ¬ h.toList = (⟨#[45]⟩ : ByteArray).toList := fun e => hh (qat e)
  have h1' : ¬ h.toList = [45] := fun e => hh (qat (e.trans (by rw [ByteArray.toList_eq])))
  have hr0 : r = (0, false) := by rw [HRR.o]; simp [numP, HHG.o, hh]
  subst hr0;clear hh no
  go_wp2_with fail
  exact bodyPost_ret (v := .tuple #[.int .i64 0, .bool false]) (by simp [results, Tryz.results97, go_sem]) rfl ⟨rfl, HB2.o⟩
 have h1 : h.toList = (⟨#[45]⟩ : ByteArray).toList := by rw [hh]
 have h1' : h.toList = [45] := by rw [hh, ByteArray.toList_eq]
 by_cases hn : n = 1
 case neg =>
  have h2 : ((n : Int) == 1) = false := by simp; omega
  have hr0 : r = (0, false) := by
   rw [HRR.o]
   have : qef g = none := by
    have hnl := HN.o
    cases g with
    | nil => rfl
    | cons l0 k0 s0 a0 y z =>
     cases z with
     | nil => exfalso; apply hn; rw [hnl]; rfl
     | cons => cases l0 <;> rfl
   simp [numP, HHG.o, this]
  subst hr0;clear hh no hn
  go_wp2_with fail
  exact bodyPost_ret (v := .tuple #[.int .i64 0, .bool false]) (by simp [results, Tryz.results97, go_sem]) rfl ⟨rfl, HB2.o⟩
 subst hn;have hg1 := HN.o
 cases g with
 | nil => simp [Fo.len] at hg1
 | cons l1 k1 s1 a1 x1 z =>
 have hz : z = .nil := by
  cases z with
  | nil => rfl
  | cons => simp [Fo.len] at hg1
 subst hz;obtain ⟨b, off, e0, _, c0, c1, c2', c3, ⟨q4, d4, c4, hl4, hm4, hq4⟩, _⟩ := HQ2.o.1;subst e0;clear hg1
 cases l1 with
 | true =>
  have hr0 : r = (0, false) := by
   rw [HRR.o];simp [numP, HHG.o, qef]
  subst hr0;clear hh no
  go_wp2_with fail
  exact bodyPost_ret (v := .tuple #[.int .i64 0, .bool false]) (by simp [results, Tryz.results97, go_sem]) rfl ⟨rfl, HB2.o⟩
 | false =>
  have HL := Zh (qet k1 s1 a1 x1 q4 d4 w2 F hq4 hl4 hm4 HTX.o.1)
  have hr0 : r = (-(qd0 k1 s1).1, (qd0 k1 s1).2) := by
   rw [HRR.o];simp [numP, HHG.o, qef, hh]
  have hbd := qjq k1 s1;rw [qil] at HL;unfold trV at HL;obtain ⟨r1, r2, hrr⟩ : ∃ r1 r2, qd0 k1 s1 = (r1, r2) := ⟨_, _, rfl⟩;rw [hrr] at HL hr0 hbd
  dsimp only at HL hr0 hbd
  have hneg : IntKind.i64.wrap (-r1) = -r1 := by have := IntWalk.i64_in (-r1) (by omega); exact this
  subst hr0;clear hh no hrr hbd hq4 hl4 hm4
  go_wp2_with fail
  refine HL.o.mono ?_;rintro e w3 ⟨rfl, hb3⟩;have HB3 := Zh (HB2.o.trans (hb3.mono HB2.o.size));clear hb3
  go_wp2_with fail
  exact bodyPost_ret (v := .tuple #[.int .i64 (-r1), .bool r2]) (by simp [results, Tryz.results97, go_sem]) rfl ⟨rfl, HB3.o⟩
end Go.Proofs.YtookoagcmejkpaaGreatDoor
