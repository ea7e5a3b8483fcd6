/- A step's tree: the program's, whole. A step's tree: the document's. What is read out of a tree: plain. A list parted into its head and the rest. A tree's number: the program's reading. What a tree's n -/
import Derived.Test.YtookoagcmejkpaaGreatDoorS31
import Derived.Test.YtookoagcmejkpaaGreatDoorJ17
import Derived.Test.YtookoagcmejkpaaGreatDoorJ8
namespace Go.Proofs.YtookoagcmejkpaaGreatDoor
open Go Go.RowKit
theorem st_shape {x : Stp} (h : maySt x = true) : ((x.k = 1 \/ x.k = 3) /\ x.links = [] /\ x.a = 0 /\ x.b = 0 /\ x.lits.length <= 5000 /\ x.lits.all litB = true) \/ (x.k = 2 /\ x.lits = [] /\ x.a = 0 /\ x.b = 0 /\ x.links.length <= 20000 /\ x.links.all mayLk = true) \/ (x.k = 4 /\ x.lits = [] /\ x.links = [] /\ cntB x.a = true /\ cntB x.b = true) := by
 obtain ⟨k, lits, links, a, b⟩ := x
 unfold maySt at h
 simp only at h ⊢
 split at h
 ·rename_i hk
  simp only [Bool.and_eq_true, decide_eq_true_eq] at h
  exact Or.inl ⟨hk, List.eq_nil_of_length_eq_zero h.1.1.2, h.1.2, h.2, h.1.1.1.1, h.1.1.1.2⟩
 ·split at h
  ·rename_i hk
   simp only [Bool.and_eq_true, decide_eq_true_eq] at h
   exact Or.inr (Or.inl ⟨hk, List.eq_nil_of_length_eq_zero h.1.1.1.1, h.1.2, h.2, h.1.1.1.2, h.1.1.2⟩)
  ·split at h
   ·rename_i hk
    simp only [Bool.and_eq_true, decide_eq_true_eq] at h
    exact Or.inr (Or.inr ⟨hk, List.eq_nil_of_length_eq_zero h.1.1.1, List.eq_nil_of_length_eq_zero h.1.1.2, h.1.2, h.2⟩)
   ·cases h
def TreeR (W w' : World) (e : Ending) (x : Stp) : Prop :=
 (maySt x = false /\ e = .returned (.tuple #[trV false 0 ⟨#[]⟩ 0 none 0 0, .int .i64 2]) /\ Below W.heap.size W w') ∨
 (maySt x = true /\ ∃ q' c', e = .returned (.tuple #[trV true 1 ⟨#[40]⟩ 0 q' (stX x).len c', .int .i64 0]) /\ FoIn w' (fun b => W.heap.size <= b) (stX x) q' /\ (stX x).len <= c' /\ Below W.heap.size W w')
theorem tree10 (x : Stp) (p : Option Addr) (c : Nat) (q : Option Addr) (d : Nat) (W : World) (hk0 : 0 <= x.k) (hk1 : x.k <= 255) (h1 : IntsIn W p x.lits) (h2 : LksIn W q x.links) (hkd : KdL x.links) (n1 : x.lits.length <= 9223372036854775807) (n2 : x.links.length <= 9223372036854775807) (htab : PowTab W) :
  Calls Tryz.prog 10 #[stV x p c q d] W fun e w' => TreeR W w' e x := by
 cases hm : maySt x with
 | false =>
  refine (tree10_no x p c q d W hk0 hk1 h1 h2 hkd n1 n2 hm).mono ?_
  rintro e w' ⟨he, hb⟩
  exact Or.inl ⟨hm, he, hb⟩
 | true =>
  have key : ∀ (h : ByteArray) (f1 f2 a b lit i j list : Bool), stepV x.k = some (fmV h f1 f2 a b lit i j list) -> Fo.cons false 3 h 0 .nil (((nusF x.lits).app (lksF x.links)).app (nusF (flt [a, b] [x.a, x.b]))) = stX x -> Calls Tryz.prog 10 #[stV x p c q d] W fun e w' => TreeR W w' e x := by
   intro h f1 f2 a b lit i j list hv e1
   refine (tree10_ok h f1 f2 a b lit i j list x p c q d W hk0 hk1 h1 h2 hkd n1 n2 hm hv htab).mono ?_
   rintro e w' ⟨q', c', he, hq, hc, hb⟩
   rw [e1] at he hq hc
   exact Or.inr ⟨hm, q', c', he, hq, hc, hb⟩
  have hs := st_shape hm
  obtain ⟨k, lits, links, a, b⟩ := x
  simp only at hs
  rcases hs with ⟨hk, rfl, rfl, rfl, _⟩ | ⟨rfl, rfl, rfl, rfl, _⟩ | ⟨rfl, rfl, rfl, _⟩
  ·rcases hk with rfl | rfl
   ·exact key _ _ _ _ _ _ _ _ _ rfl (by simp [stX, stH, stK, flt, lksF, nusF, Fo.app_nil])
   ·exact key _ _ _ _ _ _ _ _ _ rfl (by simp [stX, stH, stK, flt, lksF, nusF, Fo.app_nil])
  ·exact key _ _ _ _ _ _ _ _ _ rfl (by simp [stX, stH, stK, flt, nusF, Fo.app, Fo.app_nil])
  ·exact key _ _ _ _ _ _ _ _ _ rfl (by simp [stX, stH, stK, flt, lksF, nusF, Fo.app, Fo.app_nil])
set_option maxRecDepth 100000
structure R17 (W : World) (x : Stp) (p : Option Addr) (c : Nat) (q : Option Addr) (d : Nat) (w : World) : Prop where
 st : StAt w W.heap.size x p c q d
 res : BoxT w (W.heap.size + 1) false 0 ⟨#[]⟩ 0 (.slice none 0 0)
 below : Below W.heap.size W w
theorem R17.only {W w w' : World} {x : Stp} {p : Option Addr} {c : Nat} {q : Option Addr} {d : Nat} {T : Nat -> Prop} (h : R17 W x p c q d w) (ho : Only T w w') (hT : ∀ k, T k -> W.heap.size + 2 <= k) : R17 W x p c q d w' :=
 ⟨h.st.only ho (fun e => by have := hT _ e; omega), h.res.only ho (fun e => by have := hT _ e; omega), h.below.trans (ho.below (B := W.heap.size) (fun k e => by have := hT _ e; omega) h.below.size)⟩
theorem R17.later {W w w' : World} {x : Stp} {p : Option Addr} {c : Nat} {q : Option Addr} {d : Nat} (h : R17 W x p c q d w) (hb : Below w.heap.size w w') : R17 W x p c q d w' :=
 h.only (Only.of_below (T := fun _ => False) hb) (fun _ e => e.elim)
theorem own_two (w1 : World) (s t : ByteArray) : OwnG (w1.alloc (.cells #[.bool false, .int .u8 4, .string s, .int .i64 0, .slice none 0 0, .bool false, .int .u8 4, .string t, .int .i64 0, .slice none 0 0] 35)) (fun b => w1.heap.size <= b) (.slice (some ⟨w1.heap.size, 0, none⟩) 2 2) (.cons false 4 s 0 .nil (.cons false 4 t 0 .nil .nil)) :=
 ⟨⟨trC false 4 s 0 none 0 0 ++ trC false 4 t 0 none 0 0, ⟨rfl, .inr ⟨w1.heap.size, 2, #[.bool false, .int .u8 4, .string s, .int .i64 0, .slice none 0 0, .bool false, .int .u8 4, .string t, .int .i64 0, .slice none 0 0], rfl, Nat.zero_le _, Array.getElem?_push_size, Nat.le_refl _, by decide, rfl, rfl⟩⟩, none, 0, trC false 4 t 0 none 0 0, by simp [Fo.len], Nat.le_refl _, Nat.zero_le _, trivial, none, 0, [], by simp [Fo.len], Nat.le_refl _, Nat.zero_le _, trivial, rfl⟩,
  fun k hk => by
   have := own_eq hk
   subst this
   exact ⟨Nat.le_refl _, by simp⟩⟩
set_option maxHeartbeats 6400000 in
theorem tree17 (x : Stp) (p : Option Addr) (c : Nat) (q : Option Addr) (d : Nat) (W : World) (h1 : IntsIn W p x.lits) (h2 : LksIn W q x.links) (h3 : LksOK W q x.links) (hm : maySt x = true) :
  Calls Tryz.prog 17 #[stV x p c q d] W fun e w' => TrR W w' e true 1 ⟨#[40]⟩ (stX x) := by
 obtain ⟨w1, hw1⟩ : ∃ w1, w1 = (W.alloc (.cells #[.int .u8 x.k, .slice p x.lits.length c, .slice q x.links.length d, .int .i64 x.a, .int .i64 x.b] 26)).alloc (.cells #[.bool false, .int .u8 0, .string ⟨#[]⟩, .int .i64 0, .slice none 0 0] 35) := ⟨_, rfl⟩
 have HB1 := Lib.hid (show R17 W x p c q d w1 from by
  refine ⟨?_, ?_, by rw [hw1]; exact (below1 W _).alloc (by simp) _⟩
  ·rw [hw1]
   exact ⟨by simp [go_sem], by simp [go_sem], by simp [go_sem], by simp [go_sem], by simp [go_sem]⟩
  ·have h := box_new (W.alloc (.cells #[.int .u8 x.k, .slice p x.lits.length c, .slice q x.links.length d, .int .i64 x.a, .int .i64 x.b] 26)) false 0 ⟨#[]⟩ 0 (.slice none 0 0)
   rw [hw1]; simpa using h)
 have HSZ := Lib.hid (show w1.heap.size = W.heap.size + 2 from by rw [hw1]; simp)
 have HF1 := Lib.hid (show x.lits.length <= 5000 /\ (∀ y ∈ x.lits, -4611686018427387903 <= y /\ y <= 4611686018427387903) /\ x.links.length <= 20000 /\ (∀ y ∈ x.links, mayLk y = true) /\ cntB x.a = true /\ cntB x.b = true from by
  obtain ⟨k, lits, links, a, b⟩ := x
  obtain ⟨m1, m2, m3, m4, m5, m6, m7⟩ := maySt_facts hm
  exact ⟨m3, fun y hy => lit_rng (List.all_eq_true.1 m5 y hy), m4, fun y hy => List.all_eq_true.1 m6 y hy, m1, m2⟩)
 have HSH := Lib.hid (st_shape hm)
 have HW1 := Lib.hid hw1
 have HI := Lib.hid h1
 have HQ := Lib.hid h2
 have HO := Lib.hid h3
 obtain ⟨n, hn⟩ : ∃ n, n = x.lits.length := ⟨_, rfl⟩
 obtain ⟨m, hmm⟩ : ∃ m, m = x.links.length := ⟨_, rfl⟩
 have HN := Lib.hid hn
 have HM := Lib.hid hmm
 have n1 : (n : Int) <= 5000 := by have := HF1.out.1; omega
 have m1 : (m : Int) <= 20000 := by have := HF1.out.2.2.1; omega
 have n2 : n <= 5000 := by omega
 have m2 : m <= 20000 := by omega
 clear h1 h2 h3 hm hw1 hn hmm
 unfold stV
 rw [<- HN.out, <- HM.out] at HW1 ⊢
 go_enter Tryz.func17, Tryz.ntmps17
 go_wp2_with fail
 rw [<- HW1.out]
 clear HW1
 go_loopg [3, 4] n (fun gk s3 s4 wx => ∃ (k : Nat) (p3 : Option Addr) (c3 : Nat), k + gk = n /\ s3 = .slice p3 k c3 /\ s4 = .int .i64 (k : Int) /\ Hid (OwnG wx (fun b => W.heap.size + 2 <= b) (.slice p3 k c3) (nusF (x.lits.take k)) /\ R17 W x p c q d wx))
 case atStart => exact ⟨0, none, 0, by omega, rfl, rfl, Lib.hid ⟨OwnG.nil _ _, HB1.out⟩⟩
 case round =>
  obtain ⟨k, p3, c3, hk, rfl, rfl, HR⟩ := hrel
  have k0 : (0 : Int) <= (k : Int) := Int.natCast_nonneg k
  obtain ⟨z0, z1, z2, z3, z4⟩ := HR.out.2.st
  rw [<- HN.out] at z1
  by_cases hlt : k < n
  ·have k1 : (k : Int) < (n : Int) := Int.ofNat_lt.2 hlt
   have hkl : k < x.lits.length := by rw [<- HN.out]; exact hlt
   obtain ⟨b, off, hqe, c0⟩ := (HI.out.later HR.out.2.below) k hkl
   subst hqe
   have HS := Lib.hid (step_ok hlt (show n <= 9223372036854775807 from by omega))
   obtain ⟨y, hy⟩ : ∃ y, y = x.lits[k] := ⟨_, rfl⟩
   have HE := Lib.hid (show x.lits.take (k + 1) = x.lits.take k ++ [y] from by rw [hy, List.take_add_one, List.getElem?_eq_getElem hkl]; rfl)
   have HMY := Lib.hid (show y ∈ x.lits from by rw [hy]; exact List.getElem_mem hkl)
   rw [<- hy] at c0
   have HKK := Lib.hid hk
   have HLT := Lib.hid hlt
   clear hy hkl hk hlt z2
   go_wp2_with fail
   refine (number51 y _ (HF1.out.2.1 y HMY.out).1 (HF1.out.2.1 y HMY.out).2).mono ?_
   rintro e w1 ⟨q5, d5, rfl, hd, hd2, hq, hb⟩
   have HB := Lib.hid (HR.out.2.later hb)
   have HQ5 := Lib.hid (show OwnG w1 (fun b => W.heap.size + 2 <= b) (.slice p3 k c3) (nusF (x.lits.take k)) /\ FoIn w1 (fun b => wr.heap.size <= b) (nuX y) q5 from ⟨HR.out.1.later hb, hq⟩)
   have HZ := Lib.hid (show wr.heap.size <= w1.heap.size from hb.size)
   have HD := Lib.hid (And.intro hd hd2)
   obtain ⟨w2, hw2⟩ : ∃ w2, w2 = w1.alloc (.cells #[.bool (nuL y), .int .u8 (nuK y), .string (nuS y), .int .i64 0, .slice q5 (nuX y).len d5] 35) := ⟨_, rfl⟩
   have HB2 := Lib.hid (show Below w1.heap.size w1 w2 from by rw [hw2]; exact below1 _ _)
   have HBX := Lib.hid (show BoxT w2 w1.heap.size (nuL y) (nuK y) (nuS y) 0 (.slice q5 (nuX y).len d5) from by rw [hw2]; exact box_new _ _ _ _ _ _)
   have HSZ2 := Lib.hid (show w2.heap.size = w1.heap.size + 1 from by rw [hw2]; simp)
   have HW2 := Lib.hid hw2
   clear hb hq hd hd2 hw2
   unfold trV
   go_wp2_with (at_builtin; rw [<- HW2.out]; refine wpList_push_tree (by rfl) _ _ (by rfl) (fun b => W.heap.size + 2 <= b) (fun b => wr.heap.size <= b) w1.heap.size _ (nusF (x.lits.take k)) (nuL y) (nuK y) (nuS y) 0 (nuX y) q5 d5 (by rfl) (by rfl) (HQ5.out.1.later HB2.out) HBX.out (HQ5.out.2.later HB2.out) HD.out.1 HD.out.2 ?_ ?_ ?_ ?_)
   case refine_1 =>
    intro b hb _
    have hr := HR.out.2.res.lt
    have h2 : wr.heap.size <= b := hb
    exact ⟨by omega, fun e => by have h1 := (HR.out.1.blk b e).2; omega⟩
   case refine_2 => have h1 := HSZ2.out; have h2 := HB.out.res.lt; omega
   case refine_3 => rw [nusF_len]; have h2 := HLT.out; simp; omega
   intro p5 c5 w5 hp5 ho5
   have hkk : (nusF (x.lits.take k)).len = k := by rw [nusF_len, List.length_take, <- HN.out]; have := HLT.out; omega
   rw [hkk] at hp5 ⊢
   have HP5 := Lib.hid (show OwnG w5 (fun b => W.heap.size + 2 <= b) (.slice p5 (k + 1) c5) (nusF (x.lits.take (k + 1))) from by
    rw [HE.out, nusF_snoc]; exact hp5)
   have HB5 := Lib.hid ((HB.out.later HB2.out).only ho5 (fun j hj => (HR.out.1.blk j hj).1))
   clear hp5 ho5 hkk
   obtain ⟨G, rfl⟩ : ∃ G, gk = G + 1 := ⟨gk - 1, by have := HKK.out; have := HLT.out; omega⟩
   go_wp2_with fail
   go_roundg G
   case measure => omega
   case rel => exact ⟨k + 1, p5, c5, by have := HKK.out; omega, rfl, by first | rfl | rw [HS.out.2.2], Lib.hid ⟨HP5.out, HB5.out⟩⟩
  ·obtain rfl : n = k := by omega
   clear hlt hk z2
   have HLE := Lib.hid (show OwnG wr (fun b => W.heap.size + 2 <= b) (.slice p3 n c3) (nusF x.lits) from by
    have hh := HR.out.1
    rw [List.take_of_length_le (by rw [<- HN.out]; exact Nat.le_refl _)] at hh
    exact hh)
   have HRR := Lib.hid HR.out.2
   clear HR
   go_wp2_with fail
   clear z1
   go_loopg [3, 5] m (fun gk s3 s4 wx => ∃ (k M : Nat) (p3 : Option Addr) (c3 : Nat), k + gk = m /\ s3 = .slice p3 M c3 /\ s4 = .int .i64 (k : Int) /\ Hid (OwnG wx (fun b => W.heap.size + 2 <= b) (.slice p3 M c3) ((nusF x.lits).app (lksF (x.links.take k))) /\ R17 W x p c q d wx /\ M = n + k))
   case atStart => exact ⟨0, n, p3, c3, by omega, rfl, rfl, Lib.hid ⟨by rw [show lksF (x.links.take 0) = .nil from rfl, Fo.app_nil]; exact HLE.out, HRR.out, rfl⟩⟩
   case round =>
    obtain ⟨k, M, p4, c4, hk, rfl, rfl, HR⟩ := hrel
    have k0 : (0 : Int) <= (k : Int) := Int.natCast_nonneg k
    obtain ⟨z0, z1, z2, z3, z4⟩ := HR.out.2.1.st
    rw [<- HM.out] at z2
    clear z1
    by_cases hlt : k < m
    ·have k1 : (k : Int) < (m : Int) := Int.ofNat_lt.2 hlt
     have hkl : k < x.links.length := by rw [<- HM.out]; exact hlt
     obtain ⟨b6, off6, hqe, c0, c1, c2, c3', c4', c5', q1, d1, c6, hi1, hd1, hd2⟩ := (HQ.out.later HR.out.2.1.below) k hkl
     subst hqe
     have HSL := Lib.hid ((HO.out.later HQ.out HR.out.2.1.below) k hkl b6 off6 rfl _ _ _ c6)
     have HS := Lib.hid (step_ok hlt (show m <= 9223372036854775807 from by omega))
     obtain ⟨y, hy⟩ : ∃ y, y = x.links[k] := ⟨_, rfl⟩
     have HE := Lib.hid (show x.links.take (k + 1) = x.links.take k ++ [y] from by rw [hy, List.take_add_one, List.getElem?_eq_getElem hkl]; rfl)
     have HMY := Lib.hid (show y ∈ x.links from by rw [hy]; exact List.getElem_mem hkl)
     rw [<- hy] at c0 c1 c2 c3' c4' c5' c6 hi1 hd1
     have HC := Lib.hid (link52_may y q1 d1 wr hi1 (HF1.out.2.2.2.1 y HMY.out) HSL.out)
     have HKK := Lib.hid hk
     have HLT := Lib.hid hlt
     unfold lkV at HC
     clear hy hkl hk hlt hi1 hd1 hd2
     go_wp2_with fail
     refine HC.out.mono ?_
     rintro e w1 ⟨q5, d5, rfl, hd, hd2, hq, hb⟩
     have HB := Lib.hid (HR.out.2.1.later hb)
     have HQ5 := Lib.hid (show OwnG w1 (fun b => W.heap.size + 2 <= b) (.slice p4 M c4) ((nusF x.lits).app (lksF (x.links.take k))) /\ FoIn w1 (fun b => wr.heap.size <= b) (lkX y) q5 from ⟨HR.out.1.later hb, hq⟩)
     have HZ := Lib.hid (show wr.heap.size <= w1.heap.size from hb.size)
     have HD := Lib.hid (And.intro hd hd2)
     obtain ⟨w2, hw2⟩ : ∃ w2, w2 = w1.alloc (.cells #[.bool true, .int .u8 1, .string ⟨#[40]⟩, .int .i64 0, .slice q5 (lkX y).len d5] 35) := ⟨_, rfl⟩
     have HB2 := Lib.hid (show Below w1.heap.size w1 w2 from by rw [hw2]; exact below1 _ _)
     have HBX := Lib.hid (show BoxT w2 w1.heap.size true 1 ⟨#[40]⟩ 0 (.slice q5 (lkX y).len d5) from by rw [hw2]; exact box_new _ _ _ _ _ _)
     have HSZ2 := Lib.hid (show w2.heap.size = w1.heap.size + 1 from by rw [hw2]; simp)
     have HW2 := Lib.hid hw2
     clear hb hq hd hd2 hw2 c0 c1 c2 c3' c4' c5' c6
     unfold trV
     have hkk : ((nusF x.lits).app (lksF (x.links.take k))).len = M := by rw [Fo.len_app, nusF_len, lksF_len, List.length_take, <- HN.out, <- HM.out, HR.out.2.2]; have := HLT.out; omega
     have HKL := Lib.hid hkk
     clear hkk
     go_wp2_with (at_builtin; rw [<- HW2.out]; refine wpList_push_tree (by rfl) _ _ (by rfl) (fun b => W.heap.size + 2 <= b) (fun b => wr.heap.size <= b) w1.heap.size _ ((nusF x.lits).app (lksF (x.links.take k))) true 1 ⟨#[40]⟩ 0 (lkX y) q5 d5 (by rfl) (by rfl) (HQ5.out.1.later HB2.out) HBX.out (HQ5.out.2.later HB2.out) HD.out.1 HD.out.2 ?_ ?_ ?_ ?_)
     case refine_1 =>
      intro b hb _
      have hr := HR.out.2.1.res.lt
      have h2 : wr.heap.size <= b := hb
      exact ⟨by omega, fun e => by have h1 := (HR.out.1.blk b e).2; omega⟩
     case refine_2 => have h1 := HSZ2.out; have h2 := HB.out.res.lt; omega
     case refine_3 => rw [HKL.out, HR.out.2.2]; have h2 := HLT.out; omega
     intro p5 c5 w5 hp5 ho5
     rw [HKL.out] at hp5 ⊢
     have HP5 := Lib.hid (show OwnG w5 (fun b => W.heap.size + 2 <= b) (.slice p5 (M + 1) c5) ((nusF x.lits).app (lksF (x.links.take (k + 1)))) from by
      rw [HE.out, lksF_snoc, <- Fo.app_snoc]; exact hp5)
     have HB5 := Lib.hid ((HB.out.later HB2.out).only ho5 (fun j hj => (HR.out.1.blk j hj).1))
     clear hp5 ho5
     obtain ⟨G, rfl⟩ : ∃ G, gk = G + 1 := ⟨gk - 1, by have := HKK.out; have := HLT.out; omega⟩
     go_wp2_with fail
     go_roundg G
     case measure => omega
     case rel => exact ⟨k + 1, M + 1, p5, c5, by have := HKK.out; omega, rfl, by first | rfl | rw [HS.out.2.2], Lib.hid ⟨HP5.out, HB5.out, by rw [HR.out.2.2]; omega⟩⟩
    ·obtain rfl : m = k := by omega
     clear hlt hk
     have HLE2 := Lib.hid (show OwnG wr (fun b => W.heap.size + 2 <= b) (.slice p4 M c4) ((nusF x.lits).app (lksF x.links)) /\ R17 W x p c q d wr /\ M = n + m from by
      have hh := HR.out
      rw [List.take_of_length_le (by rw [<- HM.out]; exact Nat.le_refl _)] at hh
      exact hh)
     clear HR HLE HRR
     rcases HSH.out with ⟨hk, hl, ha, hb, _⟩ | ⟨hk, hl, ha, hb, _⟩ | ⟨hk, hl, hl2, ha, hb⟩
     ·rcases hk with hk | hk
      ·skip
       rw [hk] at z0
       have HT := Lib.hid (show ((nusF x.lits).app (lksF x.links)) = stK x /\ stH x.k = hClause from by rw [hk]; simp [stK, stH, hk, hl, lksF, Fo.app_nil])
       go_wp2_with fail
       have hgl : M = ((nusF x.lits).app (lksF x.links)).len := by rw [Fo.len_app, nusF_len, lksF_len, HLE2.out.2.2, HN.out, HM.out]
       refine (list53 _ _ ((nusF x.lits).app (lksF x.links)) (W.heap.size + 2) _ HLE2.out.1 (by have := HLE2.out.2.1.res.lt; omega) (by rw [<- hgl, HLE2.out.2.2]; omega)).mono ?_
       rintro e w6 ⟨q6, c6, rfl, hc6, hq6, hb6⟩
       obtain ⟨y0, y1, y2, y3, y4, yf⟩ := (HLE2.out.2.1.later hb6).res
       have HBE := Lib.hid (HLE2.out.2.1.later hb6).below
       have hl6 : ((nusF x.lits).app (lksF x.links)).len + 1 = (stX x).len := by rw [HT.out.1]; rfl
       rw [hl6] at hc6
       rw [hl6]
       have hq7 : FoIn w6 (fun b => W.heap.size + 2 <= b) (stX x) q6 := by
        have hh := hq6
        rw [HT.out.1] at hh
        unfold stX
        rw [HT.out.2]
        exact hh
       have HQ6 := Lib.hid (And.intro hc6 hq7)
       clear hc6 hq6 hb6 hl6 hgl hq7
       unfold trV
       go_wp2_with fail
       refine bodyPost_ret (v := trV true 1 ⟨#[40]⟩ 0 q6 (stX x).len c6) (by simp [trV, results, Tryz.results17, go_sem, y0, y1, y2, y3, y4]) rfl ⟨q6, c6, rfl, HQ6.out.1, ?_, ?_, ?_⟩
       ·unfold stX; simp only [Fo.len]; rw [<- HT.out.1, Fo.len_app, nusF_len, lksF_len, <- HN.out, <- HM.out]; omega
       ·have hne : ∀ o b, W.heap.size + 2 <= b -> ¬ b = (⟨W.heap.size + 1, o, none⟩ : Addr).block := fun o b h e => by simp only at e; omega
        exact (((((HQ6.out.2.only (Only.of_setCell _ _ _) (hne _)).only (Only.of_setCell _ _ _) (hne _)).only (Only.of_setCell _ _ _) (hne _)).only (Only.of_setCell _ _ _) (hne _)).only (Only.of_setCell _ _ _) (hne _)).mono (fun b hb _ => by omega)
       ·iterate 5 refine Below.setCell ?_ (show W.heap.size <= W.heap.size + 1 from Nat.le_succ _) _
        exact HBE.out
      ·skip
       rw [hk] at z0
       have HT := Lib.hid (show ((nusF x.lits).app (lksF x.links)) = stK x /\ stH x.k = hCycle from by rw [hk]; simp [stK, stH, hk, hl, lksF, Fo.app_nil])
       go_wp2_with fail
       have hgl : M = ((nusF x.lits).app (lksF x.links)).len := by rw [Fo.len_app, nusF_len, lksF_len, HLE2.out.2.2, HN.out, HM.out]
       refine (list53 _ _ ((nusF x.lits).app (lksF x.links)) (W.heap.size + 2) _ HLE2.out.1 (by have := HLE2.out.2.1.res.lt; omega) (by rw [<- hgl, HLE2.out.2.2]; omega)).mono ?_
       rintro e w6 ⟨q6, c6, rfl, hc6, hq6, hb6⟩
       obtain ⟨y0, y1, y2, y3, y4, yf⟩ := (HLE2.out.2.1.later hb6).res
       have HBE := Lib.hid (HLE2.out.2.1.later hb6).below
       have hl6 : ((nusF x.lits).app (lksF x.links)).len + 1 = (stX x).len := by rw [HT.out.1]; rfl
       rw [hl6] at hc6
       rw [hl6]
       have hq7 : FoIn w6 (fun b => W.heap.size + 2 <= b) (stX x) q6 := by
        have hh := hq6
        rw [HT.out.1] at hh
        unfold stX
        rw [HT.out.2]
        exact hh
       have HQ6 := Lib.hid (And.intro hc6 hq7)
       clear hc6 hq6 hb6 hl6 hgl hq7
       unfold trV
       go_wp2_with fail
       refine bodyPost_ret (v := trV true 1 ⟨#[40]⟩ 0 q6 (stX x).len c6) (by simp [trV, results, Tryz.results17, go_sem, y0, y1, y2, y3, y4]) rfl ⟨q6, c6, rfl, HQ6.out.1, ?_, ?_, ?_⟩
       ·unfold stX; simp only [Fo.len]; rw [<- HT.out.1, Fo.len_app, nusF_len, lksF_len, <- HN.out, <- HM.out]; omega
       ·have hne : ∀ o b, W.heap.size + 2 <= b -> ¬ b = (⟨W.heap.size + 1, o, none⟩ : Addr).block := fun o b h e => by simp only at e; omega
        exact (((((HQ6.out.2.only (Only.of_setCell _ _ _) (hne _)).only (Only.of_setCell _ _ _) (hne _)).only (Only.of_setCell _ _ _) (hne _)).only (Only.of_setCell _ _ _) (hne _)).only (Only.of_setCell _ _ _) (hne _)).mono (fun b hb _ => by omega)
       ·iterate 5 refine Below.setCell ?_ (show W.heap.size <= W.heap.size + 1 from Nat.le_succ _) _
        exact HBE.out
     ·skip
      rw [hk] at z0
      have HT := Lib.hid (show ((nusF x.lits).app (lksF x.links)) = stK x /\ stH x.k = hLinks from by rw [hk]; simp [stK, stH, hk, hl, nusF, Fo.app])
      go_wp2_with fail
      have hgl : M = ((nusF x.lits).app (lksF x.links)).len := by rw [Fo.len_app, nusF_len, lksF_len, HLE2.out.2.2, HN.out, HM.out]
      refine (list53 _ _ ((nusF x.lits).app (lksF x.links)) (W.heap.size + 2) _ HLE2.out.1 (by have := HLE2.out.2.1.res.lt; omega) (by rw [<- hgl, HLE2.out.2.2]; omega)).mono ?_
      rintro e w6 ⟨q6, c6, rfl, hc6, hq6, hb6⟩
      obtain ⟨y0, y1, y2, y3, y4, yf⟩ := (HLE2.out.2.1.later hb6).res
      have HBE := Lib.hid (HLE2.out.2.1.later hb6).below
      have hl6 : ((nusF x.lits).app (lksF x.links)).len + 1 = (stX x).len := by rw [HT.out.1]; rfl
      rw [hl6] at hc6
      rw [hl6]
      have hq7 : FoIn w6 (fun b => W.heap.size + 2 <= b) (stX x) q6 := by
       have hh := hq6
       rw [HT.out.1] at hh
       unfold stX
       rw [HT.out.2]
       exact hh
      have HQ6 := Lib.hid (And.intro hc6 hq7)
      clear hc6 hq6 hb6 hl6 hgl hq7
      unfold trV
      go_wp2_with fail
      refine bodyPost_ret (v := trV true 1 ⟨#[40]⟩ 0 q6 (stX x).len c6) (by simp [trV, results, Tryz.results17, go_sem, y0, y1, y2, y3, y4]) rfl ⟨q6, c6, rfl, HQ6.out.1, ?_, ?_, ?_⟩
      ·unfold stX; simp only [Fo.len]; rw [<- HT.out.1, Fo.len_app, nusF_len, lksF_len, <- HN.out, <- HM.out]; omega
      ·have hne : ∀ o b, W.heap.size + 2 <= b -> ¬ b = (⟨W.heap.size + 1, o, none⟩ : Addr).block := fun o b h e => by simp only at e; omega
       exact (((((HQ6.out.2.only (Only.of_setCell _ _ _) (hne _)).only (Only.of_setCell _ _ _) (hne _)).only (Only.of_setCell _ _ _) (hne _)).only (Only.of_setCell _ _ _) (hne _)).only (Only.of_setCell _ _ _) (hne _)).mono (fun b hb _ => by omega)
      ·iterate 5 refine Below.setCell ?_ (show W.heap.size <= W.heap.size + 1 from Nat.le_succ _) _
       exact HBE.out
     ·rw [hk] at z0
      go_wp2_with fail
      have HD := Lib.hid (HLE2.out.2.1.later (below_drew _))
      have HA := Lib.hid (show (0 <= x.a /\ x.a <= 9223372036854775807) /\ 0 <= x.b /\ x.b <= 9223372036854775807 from by simp only [cntB, Bool.and_eq_true, decide_eq_true_eq] at ha hb; omega)
      have HT := Lib.hid (show Fo.cons false 3 hPair 0 .nil (.cons false 4 (itoB x.a) 0 .nil (.cons false 4 (itoB x.b) 0 .nil .nil)) = stX x from by
       have e1 : ¬ x.a < 0 := by have := HA.out; omega
       have e2 : ¬ x.b < 0 := by have := HA.out; omega
       unfold stX; rw [hk]; simp [stK, stH, hk, nusF, nuL, nuK, nuS, nuX, e1, e2])
      refine wp_region_L [(1000, (fun _ => True : World -> Prop)), (1000, (fun w => StAt w W.heap.size x p c q d : World -> Prop))] (by kernel_rfl) (SL.cons (fun _ => trivial) (SL.cons (fun _ => HD.out.st) SL.nil)) (fun hH => ?_)
      generalize wr.drew = wd at *
      refine tk 0 0 ⟨some 52, .fieldAddr 26 (.tmp 1) 3, 0, "ref.go:198", #[], none⟩ ?_ rfl rfl ?_ hH fun hH => ?_
      rotate_left
      ·intro w hSw; (try dsimp only at hSw); go_simp; try with_reducible rfl
      try simp only [Act.put, sI, s0, s1]
      refine tk 1 1 ⟨some 53, .load 3 (.tmp 52), 3, "ref.go:198", #[⟨0, .data⟩], none⟩ ?_ rfl rfl ?_ hH fun hH => ?_
      rotate_left
      ·intro w hSw; (try dsimp only at hSw); obtain ⟨z0, z1, z2, z3, z4⟩ := hSw; go_simp; try with_reducible rfl
      try simp only [Act.put, sI, s0, s1]
      refine tk 0 3 ⟨some 55, .fieldAddr 26 (.tmp 1) 4, 0, "ref.go:198", #[], none⟩ ?_ rfl rfl ?_ hH fun hH => ?_
      rotate_left
      ·intro w hSw; (try dsimp only at hSw); go_simp; try with_reducible rfl
      try simp only [Act.put, sI, s0, s1]
      refine tk 1 4 ⟨some 56, .load 3 (.tmp 55), 3, "ref.go:198", #[⟨3, .data⟩], none⟩ ?_ rfl rfl ?_ hH fun hH => ?_
      rotate_left
      ·intro w hSw; (try dsimp only at hSw); obtain ⟨z0, z1, z2, z3, z4⟩ := hSw; go_simp; try with_reducible rfl
      try simp only [Act.put, sI, s0, s1]
      refine wpAnyL_ready (rs := [2]) (by kernel_rfl) (by simp) ?_
      refine AllReadyL.cons (o := ⟨some 54, .call ⟨.value (.func 51), #[.tmp 53], #[2]⟩, 35, "ref.go:198", #[⟨1, .data⟩], none⟩) rfl (fun K hK => ?_) AllReadyL.nil
      go_simp
      go_at_call 51
      refine (number51_pos x.a wd HA.out.1.1 HA.out.1.2).mono ?_
      rintro e w5 ⟨rfl, hb5⟩
      have HD5 := Lib.hid (HD.out.later hb5)
      clear hb5
      refine hK.out _ _ (SL.cons (fun _ => trivial) (SL.cons (fun _ => HD5.out.st) SL.nil)) (fun hH => ?_)
      clear hK K
      try simp only [Act.put, sI, s0, s1]
      refine wpAnyL_ready (rs := [5]) (by kernel_rfl) (by simp) ?_
      refine AllReadyL.cons (o := ⟨some 57, .call ⟨.value (.func 51), #[.tmp 56], #[2]⟩, 35, "ref.go:198", #[⟨4, .data⟩, ⟨2, .chain⟩], none⟩) rfl (fun K hK => ?_) AllReadyL.nil
      go_simp
      go_at_call 51
      refine (number51_pos x.b w5 HA.out.2.1 HA.out.2.2).mono ?_
      rintro e w6 ⟨rfl, hb6⟩
      have HD6 := Lib.hid (HD5.out.later hb6)
      clear hb6
      refine hK.out _ _ (SL.cons (fun _ => trivial) (SL.cons (fun _ => HD6.out.st) SL.nil)) (fun hH => ?_)
      clear hK K
      try simp only [Act.put, sI, s0, s1]
      unfold trV
      refine wpAnyL_ready (rs := [6]) (by kernel_rfl) (by simp) ?_
      refine AllReadyL.cons (o := ⟨some 58, .buildSlice 33 2 #[(0, .tmp 54), (1, .tmp 57)], 33, "ref.go:198", #[⟨2, .data⟩, ⟨5, .data⟩], none⟩) rfl (fun K hK => ?_) AllReadyL.nil
      go_simp
      have HD7 := Lib.hid (HD6.out.later (below1 w6 (.cells #[.bool false, .int .u8 4, .string (itoB x.a), .int .i64 0, .slice none 0 0, .bool false, .int .u8 4, .string (itoB x.b), .int .i64 0, .slice none 0 0] 35)))
      have HO7 := Lib.hid (own_two w6 (itoB x.a) (itoB x.b))
      refine hK.out _ _ (SL.cons (fun _ => trivial) (SL.cons (fun _ => HD7.out.st) SL.nil)) (fun hH => ?_)
      clear hK K
      try simp only [Act.put, sI, s0, s1]
      obtain ⟨w7, hw7⟩ : ∃ w7, w7 = w6.alloc (.cells #[.bool false, .int .u8 4, .string (itoB x.a), .int .i64 0, .slice none 0 0, .bool false, .int .u8 4, .string (itoB x.b), .int .i64 0, .slice none 0 0] 35) := ⟨_, rfl⟩
      have HL7 := Lib.hid (show W.heap.size + 2 <= w6.heap.size /\ w6.heap.size <= w7.heap.size from ⟨by have := HD6.out.res.lt; omega, by rw [hw7]; simp⟩)
      rw [<- hw7] at HD7 HO7 hH ⊢
      clear hw7
      refine wpAnyL_ready (rs := [7]) (by kernel_rfl) (by simp) ?_
      refine AllReadyL.cons (o := ⟨some 59, .call ⟨.value (.func 53), #[.const (.string { data := #[112, 97, 105, 114] }), .tmp 58], #[9, 33]⟩, 35, "ref.go:198", #[⟨6, .data⟩, ⟨5, .chain⟩], none⟩) rfl (fun K hK => ?_) AllReadyL.nil
      go_simp
      go_at_call 53
      refine (list53 _ _ _ (W.heap.size + 2) w7 (HO7.out.mono (fun b hb _ => by have hb' : w6.heap.size <= b := hb; have := HL7.out; omega)) (by have := HL7.out; omega) (by simp [Fo.len])).mono ?_
      rintro e w8 ⟨q6, c6, rfl, hc6, hq6, hb8⟩
      have HD8 := Lib.hid (HD7.out.later hb8)
      clear hb8
      refine hK.out _ _ (SL.cons (fun _ => trivial) (SL.cons (fun _ => HD8.out.st) SL.nil)) (fun hH => ?_)
      clear hK K
      try simp only [Act.put, sI, s0, s1]
      obtain ⟨y0, y1, y2, y3, y4, yf⟩ := HD8.out.res
      have HQ6 := Lib.hid (show _ /\ _ from And.intro hc6 (show FoIn w8 (fun b => W.heap.size + 2 <= b) (stX x) q6 from by rw [<- HT.out]; exact hq6))
      have hl6 : (Fo.cons false 4 (itoB x.a) 0 Fo.nil (Fo.cons false 4 (itoB x.b) 0 Fo.nil Fo.nil)).len + 1 = (stX x).len := by rw [<- HT.out]; rfl
      rw [hl6] at HQ6 ⊢
      clear hc6 hq6 hl6
      unfold trV
      refine wpAnyL_ready (rs := [8]) (by kernel_rfl) (by simp) ?_
      refine AllReadyL.cons (o := ⟨none, .store 35 (.tmp 2) (.tmp 59), 0, "ref.go:198", #[⟨7, .data⟩, ⟨7, .chain⟩, ⟨0, .phase⟩, ⟨1, .phase⟩, ⟨2, .phase⟩, ⟨3, .phase⟩, ⟨4, .phase⟩, ⟨5, .phase⟩, ⟨6, .phase⟩, ⟨7, .phase⟩], none⟩) rfl (fun K hK => ?_) AllReadyL.nil
      go_simp
      refine hK.out _ _ (SL.cons (fun _ => trivial) (SL.cons (fun _ => (show StAt _ W.heap.size x p c q d from StAt.only (T := fun k => k = W.heap.size + 1) HD8.out.st ((((( Only.of_setCell w8 ⟨W.heap.size + 1, 0, none⟩ _).trans (Only.of_setCell _ ⟨W.heap.size + 1, 1, none⟩ _)).trans (Only.of_setCell _ ⟨W.heap.size + 1, 2, none⟩ _)).trans (Only.of_setCell _ ⟨W.heap.size + 1, 3, none⟩ _)).trans (Only.of_setCell _ ⟨W.heap.size + 1, 4, none⟩ _)) (by omega))) SL.nil)) (fun hH => ?_)
      clear hK K
      try simp only [Act.put, sI, s0, s1]
      refine wpAnyL_done (by kernel_rfl) ?_ _
      clear hH
      go_wp2_with fail
      refine bodyPost_ret (v := trV true 1 ⟨#[40]⟩ 0 q6 (stX x).len c6) (by simp [trV, results, Tryz.results17, go_sem, y0, y1, y2, y3, y4]) rfl ⟨q6, c6, rfl, HQ6.out.1, ?_, ?_, ?_⟩
      ·rw [<- HT.out]; simp [Fo.len]
      ·have hne : ∀ o b, W.heap.size + 2 <= b -> ¬ b = (⟨W.heap.size + 1, o, none⟩ : Addr).block := fun o b h e => by simp only at e; omega
       exact (((((HQ6.out.2.only (Only.of_setCell _ _ _) (hne _)).only (Only.of_setCell _ _ _) (hne _)).only (Only.of_setCell _ _ _) (hne _)).only (Only.of_setCell _ _ _) (hne _)).only (Only.of_setCell _ _ _) (hne _)).mono (fun b hb _ => by omega)
      ·iterate 5 refine Below.setCell ?_ (show W.heap.size <= W.heap.size + 1 from Nat.le_succ _) _
       exact HD8.out.below
def noA : Fo -> Fo
 | .nil => .nil
 | .cons l k s _ x r => .cons l k s 0 (noA x) (noA r)
theorem noA_len : ∀ f : Fo, (noA f).len = f.len
 | .nil => rfl
 | .cons l k s a x r => by simp only [noA, Fo.len, noA_len r]
theorem sameF_noA : ∀ f g : Fo, sameF f g = true -> noA f = noA g
 | .nil, .nil, _ => rfl
 | .nil, .cons _ _ _ _ _ _, h => by simp [sameF] at h
 | .cons _ _ _ _ _ _, .nil, h => by simp [sameF] at h
 | .cons l k s a x r, .cons l' k' s' a' x' r', h => by
  simp only [sameF, Bool.and_eq_true, decide_eq_true_eq] at h
  obtain ⟨⟨⟨⟨⟨h1, h2⟩, h3⟩, _⟩, h4⟩, h5⟩ := h
  simp only [noA, h1, h2, h3, sameF_noA x x' h4, sameF_noA r r' h5]
theorem noA_nusF : ∀ l : List Int, noA (nusF l) = nusF l
 | [] => rfl
 | n :: r => by
  have h : noA (nuX n) = nuX n := by unfold nuX; split <;> simp [noA]
  simp only [nusF, noA, h, noA_nusF r]
theorem noA_lkX (x : Lk) : noA (lkX x) = lkX x := by simp only [lkX, noA, noA_nusF]
theorem noA_lksF : ∀ l : List Lk, noA (lksF l) = lksF l
 | [] => rfl
 | x :: r => by simp only [lksF, noA, noA_lkX, noA_lksF r]
theorem noA_stX (x : Stp) : noA (stX x) = stX x := by
 simp only [stX, noA, stK]
 split
 ·rw [noA_lksF]
 ·split <;> rw [noA_nusF]
def hd (l : Bool) : Fo -> ByteArray × Fo
 | .nil => (⟨#[]⟩, .nil)
 | .cons l0 k s _ _ r => if l = true /\ l0 = false /\ k = 3 then (s, r) else (⟨#[]⟩, .nil)
theorem hd_noA (l : Bool) (x : Fo) : hd l (noA x) = ((hd l x).1, noA (hd l x).2) := by
 cases x with
 | nil => rfl
 | cons l0 k s a x r => simp only [noA, hd]; split <;> rfl
def leafN (k : Int) (s : ByteArray) : Int × Bool := if k = 4 then (readN s.data.toList, decide (readE s.data.toList = 0)) else (0, false)
def oneLeaf : Fo -> Option (Int × ByteArray)
 | .cons false k s _ _ .nil => some (k, s)
 | _ => none
theorem oneLeaf_noA (x : Fo) : oneLeaf (noA x) = oneLeaf x := by
 cases x with
 | nil => rfl
 | cons l k s a x r =>
  cases r with
  | nil => cases l <;> rfl
  | cons l' k' s' a' x' r' => cases l <;> rfl
def numP (l : Bool) (k : Int) (s : ByteArray) (x : Fo) : Int × Bool :=
 if (hd l x).1 = ⟨#[45]⟩ then
  match oneLeaf (hd l x).2 with
  | some (k1, s1) => (-(leafN k1 s1).1, (leafN k1 s1).2)
  | none => if l then (0, false) else leafN k s
 else if l then (0, false) else leafN k s
theorem numP_noA (l : Bool) (k : Int) (s : ByteArray) (x : Fo) : numP l k s (noA x) = numP l k s x := by
 simp only [numP, hd_noA, oneLeaf_noA]
theorem leafN_bound (k : Int) (s : ByteArray) : 0 <= (leafN k s).1 /\ (leafN k s).1 <= 4611686018427387903 := by
 unfold leafN
 split
 ·simp only [readN]
  split
  ·rename_i h
   exact ⟨Int.natCast_nonneg _, by omega⟩
  ·omega
 ·simp
theorem itoB_list (n : Int) : (itoB n).data.toList = Lib.itoa n := by simp [itoB]
theorem leafN_ito (n : Int) (h0 : 0 <= n) (h1 : n <= 4611686018427387903) : leafN 4 (itoB n) = (n, true) := by
 have h := read_itoa_ok n h0 h1
 simp only [leafN, if_pos, itoB_list, h.1, h.2]
 simp
theorem numP_nu (n : Int) (h0 : -4611686018427387903 <= n) (h1 : n <= 4611686018427387903) : numP (nuL n) (nuK n) (nuS n) (nuX n) = (n, true) := by
 by_cases h : n < 0
 ·have e := leafN_ito (-n) (by omega) (by omega)
  simp only [numP, nuL, nuX, h, decide_true, hd, oneLeaf, e, if_pos, and_self]
  simp
 ·have e := leafN_ito n (by omega) h1
  simp [numP, nuL, nuK, nuS, nuX, h, hd, e]
def nx (has : Bool) (st : Fo × Bool) : Int × (Fo × Bool) :=
 if has then
  match st.1 with
  | .nil => (0, (.nil, false))
  | .cons l k s _ x r => ((numP l k s x).1, (r, st.2 && (numP l k s x).2))
 else (0, st)
def restN : Fo -> List Int × Bool
 | .nil => ([], true)
 | .cons l k s _ x r => ((numP l k s x).1 :: (restN r).1, (numP l k s x).2 && (restN r).2)
theorem nx_noA (has : Bool) (f : Fo) (ok : Bool) : nx has (noA f, ok) = ((nx has (f, ok)).1, (noA (nx has (f, ok)).2.1, (nx has (f, ok)).2.2)) := by
 unfold nx
 split
 ·cases f with
  | nil => rfl
  | cons l k s a x r => simp only [noA, numP_noA]
 ·rfl
theorem restN_noA : ∀ f : Fo, restN (noA f) = restN f
 | .nil => rfl
 | .cons l k s a x r => by simp only [noA, restN, numP_noA, restN_noA r]
theorem restN_nus : ∀ l : List Int, (∀ y ∈ l, -4611686018427387903 <= y /\ y <= 4611686018427387903) -> restN (nusF l) = (l, true)
 | [], _ => rfl
 | n :: r, h => by
  have e := numP_nu n (h n (by simp)).1 (h n (by simp)).2
  simp only [nusF, restN, e, restN_nus r (fun y hy => h y (by simp [hy])), Bool.and_self]
theorem nx_nus (n : Int) (r : Fo) (h : -4611686018427387903 <= n /\ n <= 4611686018427387903) : nx true (.cons (nuL n) (nuK n) (nuS n) 0 (nuX n) r, true) = (n, (r, true)) := by
 have e := numP_nu n h.1 h.2
 simp [nx, e]
def lkBy (k : Int) (lit a b i j list : Bool) (args : Fo) : Lk × Bool :=
 let s1 := nx lit (args, true)
 let s2 := nx a s1.2
 let s3 := nx b s2.2
 let s4 := nx i s3.2
 let s5 := nx j s4.2
 if list then (⟨k, s1.1, s2.1, s3.1, s4.1, s5.1, (restN s5.2.1).1⟩, s5.2.2 && (restN s5.2.1).2)
 else (⟨k, s1.1, s2.1, s3.1, s4.1, s5.1, []⟩, s5.2.2 && decide (s5.2.1.len = 0))
def linkP (l : Bool) (x : Fo) : Lk × Bool :=
 let h := (hd l x).1
 let g := (hd l x).2
 if h = hGiven then lkBy 1 true false false false false false g
 else if h = hSame then lkBy 2 false true false false false false g
 else if h = hTurn then lkBy 3 false false false true false false g
 else if h = hThen then lkBy 4 false false false true true false g
 else if h = hApply then lkBy 5 false true true false false true g
 else if h = hAgainst then lkBy 6 true false false true false false g
 else if h = hClash then lkBy 7 false false false true false false g
 else (⟨0, 0, 0, 0, 0, 0, []⟩, false)
theorem lkBy_noA (k : Int) (lit a b i j list : Bool) (args : Fo) : lkBy k lit a b i j list (noA args) = lkBy k lit a b i j list args := by
 simp only [lkBy, nx_noA, restN_noA, noA_len]
theorem linkP_noA (l : Bool) (x : Fo) : linkP l (noA x) = linkP l x := by
 simp only [linkP, hd_noA, lkBy_noA]
theorem linkP_lkX (x : Lk) (h : mayLk x = true) : linkP true (lkX x) = (x, true) := by
 have Z := zero_rng
 rcases lk_shape h with ⟨e, h1⟩ | ⟨e, h1⟩ | ⟨e, h1⟩ | ⟨e, h1, h2⟩ | ⟨e, h1, h2, h3, h4⟩ | ⟨e, h1, h2⟩ | ⟨e, h1⟩ <;> obtain ⟨k, lit, a, b, i, j, l⟩ := x <;> cases e
 ·have e1 := nx_nus lit .nil (lit_rng h1)
  simp [linkP, lkX, hd, lkH, lkN, lkBy, nusF, e1]
  simp [nx, Fo.len]
 ·have e1 := nx_nus a .nil (cnt_rng h1)
  have e0 : hSame ≠ hGiven := by decide
  simp [linkP, lkX, hd, lkH, lkN, lkBy, nusF, e0]
  simp [nx] at e1 ⊢
  simp [e1, Fo.len]
 ·have e1 := nx_nus i .nil (cnt_rng h1)
  have e0 : hTurn ≠ hGiven /\ hTurn ≠ hSame := by decide
  simp [linkP, lkX, hd, lkH, lkN, lkBy, nusF, e0]
  simp [nx] at e1 ⊢
  simp [e1, Fo.len]
 ·have e1 := nx_nus i (.cons (nuL j) (nuK j) (nuS j) 0 (nuX j) .nil) (cnt_rng h1)
  have e2 := nx_nus j .nil (cnt_rng h2)
  have e0 : hThen ≠ hGiven /\ hThen ≠ hSame /\ hThen ≠ hTurn := by decide
  simp [linkP, lkX, hd, lkH, lkN, lkBy, nusF, e0]
  simp [nx] at e1 e2 ⊢
  simp [e1, e2, Fo.len]
 ·have e1 := nx_nus a (.cons (nuL b) (nuK b) (nuS b) 0 (nuX b) (nusF l)) (cnt_rng h1)
  have e2 := nx_nus b (nusF l) (cnt_rng h2)
  have e3 := restN_nus l (fun y hy => cnt_rng (List.all_eq_true.1 h4 y hy))
  have e0 : hApply ≠ hGiven /\ hApply ≠ hSame /\ hApply ≠ hTurn /\ hApply ≠ hThen := by decide
  simp [linkP, lkX, hd, lkH, lkN, lkBy, nusF, e0]
  simp [nx] at e1 e2 ⊢
  simp [e1, e2, e3]
 ·have e1 := nx_nus lit (.cons (nuL i) (nuK i) (nuS i) 0 (nuX i) .nil) (lit_rng h1)
  have e2 := nx_nus i .nil (cnt_rng h2)
  have e0 : hAgainst ≠ hGiven /\ hAgainst ≠ hSame /\ hAgainst ≠ hTurn /\ hAgainst ≠ hThen /\ hAgainst ≠ hApply := by decide
  simp [linkP, lkX, hd, lkH, lkN, lkBy, nusF, e0]
  simp [nx] at e1 e2 ⊢
  simp [e1, e2, Fo.len]
 ·have e1 := nx_nus i .nil (cnt_rng h1)
  have e0 : hClash ≠ hGiven /\ hClash ≠ hSame /\ hClash ≠ hTurn /\ hClash ≠ hThen /\ hClash ≠ hApply /\ hClash ≠ hAgainst := by decide
  simp [linkP, lkX, hd, lkH, lkN, lkBy, nusF, e0]
  simp [nx] at e1 ⊢
  simp [e1, Fo.len]
def linksP : Fo -> List Lk × Bool
 | .nil => ([], true)
 | .cons l _ _ _ x r => ((linkP l x).1 :: (linksP r).1, (linkP l x).2 && (linksP r).2)
theorem linksP_noA : ∀ f : Fo, linksP (noA f) = linksP f
 | .nil => rfl
 | .cons l k s a x r => by simp only [noA, linksP, linkP_noA, linksP_noA r]
theorem linksP_lks : ∀ l : List Lk, (∀ y ∈ l, mayLk y = true) -> linksP (lksF l) = (l, true)
 | [], _ => rfl
 | x :: r, h => by
  have e := linkP_lkX x (h x (by simp))
  simp only [lksF, linksP, e, linksP_lks r (fun y hy => h y (by simp [hy])), Bool.and_self]
def stBy (k : Int) (lits links a b : Bool) (args : Fo) : Stp × Bool :=
 let s1 := nx a (args, true)
 let s2 := nx b s1.2
 if lits then (⟨k, (restN s2.2.1).1, [], s1.1, s2.1⟩, s2.2.2 && (restN s2.2.1).2)
 else if links then (⟨k, [], (linksP s2.2.1).1, s1.1, s2.1⟩, s2.2.2 && (linksP s2.2.1).2)
 else (⟨k, [], [], s1.1, s2.1⟩, s2.2.2 && decide (s2.2.1.len = 0))
def stepP (l : Bool) (x : Fo) : Stp × Bool :=
 let h := (hd l x).1
 let g := (hd l x).2
 if h = hClause then stBy 1 true false false false g
 else if h = hLinks then stBy 2 false true false false g
 else if h = hCycle then stBy 3 true false false false g
 else if h = hPair then stBy 4 false false true true g
 else (⟨0, [], [], 0, 0⟩, false)
theorem stBy_noA (k : Int) (lits links a b : Bool) (args : Fo) : stBy k lits links a b (noA args) = stBy k lits links a b args := by
 simp only [stBy, nx_noA, restN_noA, linksP_noA, noA_len]
theorem stepP_noA (l : Bool) (x : Fo) : stepP l (noA x) = stepP l x := by
 simp only [stepP, hd_noA, stBy_noA]
theorem stepP_stX (x : Stp) (h : maySt x = true) : stepP true (stX x) = (x, true) := by
 have hs := st_shape h
 obtain ⟨k, lits, links, a, b⟩ := x
 simp only at hs
 rcases hs with ⟨hk, rfl, rfl, rfl, _, h1⟩ | ⟨rfl, rfl, rfl, rfl, _, h1⟩ | ⟨rfl, rfl, rfl, h1, h2⟩
 ·have e := restN_nus lits (fun y hy => lit_rng (List.all_eq_true.1 h1 y hy))
  rcases hk with rfl | rfl
  ·simp [stepP, stX, hd, stH, stK, stBy, nx, e]
  ·have e0 : hCycle ≠ hClause /\ hCycle ≠ hLinks := by decide
   simp [stepP, stX, hd, stH, stK, stBy, nx, e, e0]
 ·have e := linksP_lks links (fun y hy => List.all_eq_true.1 h1 y hy)
  have e0 : hLinks ≠ hClause := by decide
  simp [stepP, stX, hd, stH, stK, stBy, nx, e, e0]
 ·have e1 := nx_nus a (.cons (nuL b) (nuK b) (nuS b) 0 (nuX b) .nil) (cnt_rng h1)
  have e2 := nx_nus b .nil (cnt_rng h2)
  have e0 : hPair ≠ hClause /\ hPair ≠ hLinks /\ hPair ≠ hCycle := by decide
  simp [stepP, stX, hd, stH, stK, stBy, nusF, e0]
  simp [nx] at e1 e2 ⊢
  simp [e1, e2, Fo.len]
theorem stepP_same (x : Stp) (h : maySt x = true) (l : Bool) (k : Int) (s : ByteArray) (f : Fo) (hs : sameT true 1 ⟨#[40]⟩ (stX x) l k s f = true) : stepP l f = (x, true) := by
 simp only [sameT, Bool.and_eq_true, decide_eq_true_eq] at hs
 obtain ⟨⟨⟨⟨rfl, _⟩, _⟩, _⟩, h5⟩ := hs
 have e := sameF_noA _ _ h5
 rw [noA_stX] at e
 rw [<- stepP_noA, <- e]
 exact stepP_stX x h
theorem slice_kids (w : World) (b off n c : Nat) (h : n + 1 <= c) :
  (Instr.slice 33 (.slice (some ⟨b, off, none⟩) (n + 1) c) (some (.int .i64 1)) none none).run Tryz.prog w = .ok (.slice (if c = 1 then some ⟨b, off, none⟩ else some ⟨b, off + 5, none⟩) n (c - 1)) w := by
 obtain ⟨i0, hi, hz0, hz1, hz2⟩ := info41
 have e1 : (1 : Int) <= ((n + 1 : Nat) : Int) := by omega
 have e3 : ((n + 1 : Nat) : Int) <= (c : Int) := by omega
 have e4 : (0 : Int) <= ((n + 1 : Nat) : Int) := by omega
 have e5 : (1 : Int).toNat = 1 := rfl
 by_cases h1 : c = 1
 ·subst h1
  have h0 : n = 0 := by omega
  subst h0
  simp [Instr.slice, run_underlying Tryz.underlying33, Instr.sliceBounds, Instr.sliceBound, asIntOf, sizeOf, typeInfo, hi]
 ·have h2 : 1 <= n + 1 := by omega
  have h3 : (n : Int) + 1 <= (c : Int) := by omega
  have h4 : (0 : Int) <= (n : Int) + 1 := by omega
  have h5 : (1 : Int) <= (n : Int) + 1 := by omega
  simp [Instr.slice, run_underlying Tryz.underlying33, Instr.sliceBounds, Instr.sliceBound, asIntOf, sizeOf, typeInfo, hi, hz1, h1, h5, Lib.add_plain]
set_option maxHeartbeats 3200000 in
theorem parted75_no (l : Bool) (k : Int) (s : ByteArray) (a : Int) (x : Fo) (q : Option Addr) (c : Nat) (W : World) (F : Nat -> Prop) (hq : FoIn W F x q) (hc : x.len <= c) (hm : x.len <= 281474976710656) (hn : hd l x = (⟨#[]⟩, .nil) /\ (l = false \/ x = .nil \/ ∃ l0 k0 s0 a0 x0 r0, x = .cons l0 k0 s0 a0 x0 r0 /\ (l0 = true \/ k0 ≠ 3))) :
  Calls Tryz.prog 75 #[trV l k s a q x.len c] W fun e w' => e = .returned (.tuple #[.string ⟨#[]⟩, .slice none 0 0]) /\ Below W.heap.size W w' := by
 obtain ⟨n, hn0⟩ : ∃ n, n = x.len := ⟨_, rfl⟩
 have hb := box_new W l k s a (.slice q n c)
 have HB := Lib.hid (below1 W (.cells #[.bool l, .int .u8 k, .string s, .int .i64 a, .slice q n c] 35))
 have n1 : (n : Int) <= 281474976710656 := by omega
 rw [<- hn0] at hc hm ⊢
 obtain ⟨y0, y1, y2, y3, y4, yf⟩ := hb
 unfold trV
 cases l with
 | false =>
  clear hq hn hn0 hc hm
  go_enter Tryz.func75, Tryz.ntmps75
  go_wp2_with fail
  exact bodyPost_ret (v := .tuple #[.string ⟨#[]⟩, .slice none 0 0]) (by simp [results, Tryz.results75, go_sem]) rfl ⟨rfl, HB.out⟩
 | true =>
  rcases hn.2 with h | h | ⟨l0, k0, s0, a0, x0, r0, h, h2⟩
  ·cases h
  ·subst h
   obtain rfl : n = 0 := hn0
   clear hq hn hc hm
   go_enter Tryz.func75, Tryz.ntmps75
   go_wp2_with fail
   exact bodyPost_ret (v := .tuple #[.string ⟨#[]⟩, .slice none 0 0]) (by simp [results, Tryz.results75, go_sem]) rfl ⟨rfl, HB.out⟩
  ·subst h
   obtain ⟨b, off, rfl, _, h0, h1, _⟩ := hq
   have c0 := cell_later (below1 W (.cells #[.bool true, .int .u8 k, .string s, .int .i64 a, .slice (some ⟨b, off, none⟩) n c] 35)) h0
   have c1 := cell_later (below1 W (.cells #[.bool true, .int .u8 k, .string s, .int .i64 a, .slice (some ⟨b, off, none⟩) n c] 35)) h1
   have hpos : 0 < n := by rw [hn0]; simp [Fo.len]
   have hne : ((n : Int) == 0) = false := by simp; omega
   have hlt : (0 : Int) < (n : Int) := by omega
   clear hn hn0 hc hm h0 h1
   rcases h2 with h2 | h2
   ·subst h2
    go_enter Tryz.func75, Tryz.ntmps75
    go_wp2_with fail
    exact bodyPost_ret (v := .tuple #[.string ⟨#[]⟩, .slice none 0 0]) (by simp [results, Tryz.results75, go_sem]) rfl ⟨rfl, HB.out⟩
   ·have hk : (k0 == 3) = false := by simp [h2]
    have hk2 : (k0 != 3) = true := by simp [h2]
    clear h2
    cases l0 with
    | true =>
     go_enter Tryz.func75, Tryz.ntmps75
     go_wp2_with fail
     exact bodyPost_ret (v := .tuple #[.string ⟨#[]⟩, .slice none 0 0]) (by simp [results, Tryz.results75, go_sem]) rfl ⟨rfl, HB.out⟩
    | false =>
     go_enter Tryz.func75, Tryz.ntmps75
     go_wp2_with fail
     exact bodyPost_ret (v := .tuple #[.string ⟨#[]⟩, .slice none 0 0]) (by simp [results, Tryz.results75, go_sem]) rfl ⟨rfl, HB.out⟩
set_option maxHeartbeats 3200000 in
theorem parted75_yes (k : Int) (s : ByteArray) (a : Int) (s0 : ByteArray) (a0 : Int) (x0 r0 : Fo) (q : Option Addr) (c : Nat) (W : World) (F : Nat -> Prop) (hq : FoIn W F (.cons false 3 s0 a0 x0 r0) q) (hc : r0.len + 1 <= c) (hm : r0.len + 1 <= 281474976710656) :
  Calls Tryz.prog 75 #[trV true k s a q (r0.len + 1) c] W fun e w' => (∃ q' c', e = .returned (.tuple #[.string s0, .slice q' r0.len c']) /\ FoIn w' F r0 q' /\ r0.len <= c') /\ Below W.heap.size W w' := by
 obtain ⟨m, hm'⟩ : ∃ m : Nat, m = r0.len + 1 := ⟨_, rfl⟩
 have hsl : ∀ (b off : Nat) (w : World), (Instr.slice 33 (.slice (some ⟨b, off, none⟩) m c) (some (.int .i64 1)) none none).run Tryz.prog w = .ok (.slice (if c = 1 then some ⟨b, off, none⟩ else some ⟨b, off + 5, none⟩) r0.len (c - 1)) w := fun b off w => by
  rw [hm']; exact slice_kids w b off r0.len c hc
 rw [<- hm'] at hc hm ⊢
 have hlt : (0 : Int) < (m : Int) := by omega
 have hne : ((m : Int) == 0) = false := by simp; omega
 have n1 : (m : Int) <= 281474976710656 := by omega
 have HMM := Lib.hid hm'
 have HC := Lib.hid hc
 have HB := Lib.hid (below1 W (.cells #[.bool true, .int .u8 k, .string s, .int .i64 a, .slice q m c] 35))
 obtain ⟨w1, hw1⟩ : ∃ w1, w1 = W.alloc (.cells #[.bool true, .int .u8 k, .string s, .int .i64 a, .slice q m c] 35) := ⟨_, rfl⟩
 have hbx := box_new W true k s a (.slice q m c)
 have hq2 := hq.later (below1 W (.cells #[.bool true, .int .u8 k, .string s, .int .i64 a, .slice q m c] 35))
 rw [<- hw1] at hbx hq2 HB
 obtain ⟨b, off, rfl, _, c0, c1, c2, c3, c4, hr⟩ := hq2
 have HW1 := Lib.hid hw1
 have HR0 := Lib.hid hr
 have c2d := cell_later (below_drew _) c2
 have y4d := cell_later (below_drew _) hbx.c4
 obtain ⟨y0, y1, y2, y3, y4, yf⟩ := hbx
 have hs2 := hsl b off
 obtain ⟨z, hz⟩ : ∃ z, z = (if c = 1 then some (⟨b, off, none⟩ : Addr) else some ⟨b, off + 5, none⟩) := ⟨_, rfl⟩
 have HZ := Lib.hid hz
 rw [<- hz] at hs2
 clear hq hr hc hm hm' hz hsl c4
 rw [hw1] at y0 y1 y2 y3 y4 yf c0 c1 c2 c3 c2d y4d
 clear hw1
 unfold trV
 go_enter Tryz.func75, Tryz.ntmps75
 go_wp2_with fail
 go_quiet (fail)
 go_wp2_with fail
 rw [<- HW1.out]
 refine bodyPost_ret (v := .tuple #[.string s0, .slice z r0.len (c - 1)]) (by simp [results, Tryz.results75, go_sem]) rfl ⟨⟨z, c - 1, rfl, ?_, ?_⟩, bdd HB.out⟩
 ·have hr := HR0.out.later (below_drewN w1 nq)
  rw [HZ.out]
  split
  ·rename_i h1
   have : r0.len = 0 := by have := HC.out; have := HMM.out; omega
   cases r0 with
   | nil => trivial
   | cons _ _ _ _ _ _ => simp [Fo.len] at this
  ·exact hr
 ·have := HC.out; have := HMM.out; omega
theorem parted75 (l : Bool) (k : Int) (s : ByteArray) (a : Int) (x : Fo) (q : Option Addr) (c : Nat) (W : World) (F : Nat -> Prop) (hq : FoIn W F x q) (hc : x.len <= c) (hm : x.len <= 281474976710656) :
  Calls Tryz.prog 75 #[trV l k s a q x.len c] W fun e w' => (∃ q' c', e = .returned (.tuple #[.string (hd l x).1, .slice q' (hd l x).2.len c']) /\ FoIn w' F (hd l x).2 q' /\ (hd l x).2.len <= c') /\ Below W.heap.size W w' := by
 have no : (hd l x = (⟨#[]⟩, .nil) /\ (l = false \/ x = .nil \/ ∃ l0 k0 s0 a0 x0 r0, x = .cons l0 k0 s0 a0 x0 r0 /\ (l0 = true \/ k0 ≠ 3))) -> Calls Tryz.prog 75 #[trV l k s a q x.len c] W fun e w' => (∃ q' c', e = .returned (.tuple #[.string (hd l x).1, .slice q' (hd l x).2.len c']) /\ FoIn w' F (hd l x).2 q' /\ (hd l x).2.len <= c') /\ Below W.heap.size W w' := by
  intro h
  refine (parted75_no l k s a x q c W F hq hc hm h).mono ?_
  rintro e w' ⟨rfl, hb⟩
  rw [h.1]
  exact ⟨⟨none, 0, rfl, trivial, Nat.le_refl _⟩, hb⟩
 cases x with
 | nil => exact no ⟨rfl, Or.inr (Or.inl rfl)⟩
 | cons l0 k0 s0 a0 x0 r0 =>
  by_cases h : l = true /\ l0 = false /\ k0 = 3
  ·obtain ⟨rfl, rfl, rfl⟩ := h
   have e : hd true (.cons false 3 s0 a0 x0 r0) = (s0, r0) := by simp [hd]
   rw [e]
   exact parted75_yes k s a s0 a0 x0 r0 q c W F hq hc hm
  ·refine no ⟨by simp only [hd]; rw [if_neg h], ?_⟩
   cases l with
   | false => exact Or.inl rfl
   | true =>
    refine Or.inr (Or.inr ⟨l0, k0, s0, a0, x0, r0, rfl, ?_⟩)
    cases l0 with
    | true => exact Or.inl rfl
    | false => exact Or.inr (fun e => h ⟨rfl, rfl, e⟩)
def TxOK : Fo -> Prop
 | .nil => True
 | .cons _ _ s _ x r => s.size <= 140737488351232 /\ TxOK x /\ TxOK r
theorem TxOK.hd {l : Bool} {x : Fo} (h : TxOK x) : TxOK (hd l x).2 := by
 cases x with
 | nil => trivial
 | cons l0 k s a y r =>
  simp only [Go.Proofs.YtookoagcmejkpaaGreatDoor.hd]
  split
  ·exact h.2.2
  ·trivial
theorem numP_leaf (k : Int) (s : ByteArray) (x : Fo) : numP false k s x = leafN k s := by
 have h : (hd false x).1 ≠ ⟨#[45]⟩ := by
  cases x with
  | nil => simp [hd]
  | cons l0 k0 s0 a0 y r => simp [hd]
 simp [numP, h]
theorem readN_rng (l : List UInt8) : 0 <= readN l /\ readN l <= 4611686018427387903 := by
 simp only [readN]
 split
 ·rename_i h
  exact ⟨Int.natCast_nonneg _, by omega⟩
 ·omega
set_option maxHeartbeats 3200000 in
theorem number97_leaf (k : Int) (s : ByteArray) (a : Int) (x : Fo) (q : Option Addr) (c : Nat) (W : World) (F : Nat -> Prop) (hq : FoIn W F x q) (hc : x.len <= c) (hm : x.len <= 281474976710656) (hs : s.size <= 140737488351232) :
  Calls Tryz.prog 97 #[trV false k s a q x.len c] W fun e w' => e = .returned (.tuple #[.int .i64 (numP false k s x).1, .bool (numP false k s x).2]) /\ Below W.heap.size W w' := by
 rw [numP_leaf]
 obtain ⟨w1, hw1⟩ : ∃ w1, w1 = W.alloc (.cells #[.bool false, .int .u8 k, .string s, .int .i64 a, .slice q x.len c] 35) := ⟨_, rfl⟩
 have hb1 : Below W.heap.size W w1 := by rw [hw1]; exact below1 _ _
 have HB1 := Lib.hid hb1
 have HBX := Lib.hid (show BoxT w1 W.heap.size false k s a (.slice q x.len c) from by rw [hw1]; exact box_new _ _ _ _ _ _)
 have HP := Lib.hid (parted75 false k s a x q c w1 F (hq.later hb1) hc hm)
 have e0 : hd false x = (⟨#[]⟩, .nil) := by
  cases x with
  | nil => rfl
  | cons l0 k0 s0 a0 y r => simp [hd]
 rw [e0] at HP
 have HR := Lib.hid (fun w => read_any s w hs)
 have HW1 := Lib.hid hw1
 have HRN := Lib.hid (readN_rng s.data.toList)
 obtain ⟨r1, r2, hr⟩ : ∃ r1 r2, leafN k s = (r1, r2) := ⟨_, _, rfl⟩
 have HRR := Lib.hid hr
 rw [hr]
 clear hq hc hm hs hw1 hb1 e0 hr
 unfold trV at HP ⊢
 go_enter Tryz.func97, Tryz.ntmps97
 go_wp2_with fail
 rw [<- HW1.out]
 refine HP.out.mono ?_
 rintro e w2 ⟨⟨q2, c2, rfl, _, hc2⟩, hb⟩
 have HB2 := Lib.hid (HB1.out.trans (hb.mono HB1.out.size))
 obtain ⟨y0, y1, y2, y3, y4, yf⟩ := HBX.out.later hb
 clear hb hc2 HP HW1
 dsimp only [Fo.len]
 have hsz : ((⟨#[]⟩ : ByteArray) == ⟨#[45]⟩) = false := by decide
 by_cases hk : k = 4
 ·subst hk
  have hlf : leafN 4 s = (readN s.data.toList, decide (readE s.data.toList = 0)) := rfl
  have hh := HRR.out
  rw [hlf] at hh
  injection hh with h1 h2
  subst h1 h2
  obtain ⟨E, hE⟩ : ∃ E, E = readE s.data.toList := ⟨_, rfl⟩
  have HE := Lib.hid hE
  rw [<- hE] at HR
  have hEd : (E == 0) = decide (E = 0) := beqd E 0
  clear hE hlf HRR
  go_wp2_with fail
  refine (HR.out _).mono ?_
  rintro e w3 ⟨rfl, hw⟩
  rw [hw]
  clear hw
  go_wp2_with fail
  exact bodyPost_ret (v := .tuple #[.int .i64 (readN s.data.toList), .bool (decide (E = 0))]) (by simp [results, Tryz.results97, go_sem]) rfl ⟨by rw [HE.out], HB2.out⟩
 ·have hk2 : (k == 4) = false := by simp [hk]
  have hk3 : (k != 4) = true := by simp [hk]
  have hlf : leafN k s = (0, false) := by simp [leafN, hk]
  have hh := HRR.out
  rw [hlf] at hh
  injection hh with h1 h2
  subst h1 h2
  clear hlf hk HRR
  go_wp2_with fail
  exact bodyPost_ret (v := .tuple #[.int .i64 0, .bool false]) (by simp [results, Tryz.results97, go_sem]) rfl ⟨rfl, HB2.out⟩
set_option maxHeartbeats 3200000 in
theorem number97 (l : Bool) (k : Int) (s : ByteArray) (a : Int) (x : Fo) (q : Option Addr) (c : Nat) (W : World) (F : Nat -> Prop) (hq : FoIn W F x q) (hc : x.len <= c) (hm : x.len <= 281474976710656) (hs : s.size <= 140737488351232) (hx : TxOK x) :
  Calls Tryz.prog 97 #[trV l k s a q x.len c] W fun e w' => e = .returned (.tuple #[.int .i64 (numP l k s x).1, .bool (numP l k s x).2]) /\ Below W.heap.size W w' := by
 cases l with
 | false => exact number97_leaf k s a x q c W F hq hc hm hs
 | true =>
 obtain ⟨w1, hw1⟩ : ∃ w1, w1 = W.alloc (.cells #[.bool true, .int .u8 k, .string s, .int .i64 a, .slice q x.len c] 35) := ⟨_, rfl⟩
 have hb1 : Below W.heap.size W w1 := by rw [hw1]; exact below1 _ _
 have HB1 := Lib.hid hb1
 have HBX := Lib.hid (show BoxT w1 W.heap.size true k s a (.slice q x.len c) from by rw [hw1]; exact box_new _ _ _ _ _ _)
 have HP := Lib.hid (parted75 true k s a x q c w1 F (hq.later hb1) hc hm)
 have HW1 := Lib.hid hw1
 have HTX := Lib.hid (TxOK.hd (l := true) hx)
 obtain ⟨r, hr⟩ : ∃ r, r = numP true k s x := ⟨_, rfl⟩
 have HRR := Lib.hid hr
 rw [<- hr]
 obtain ⟨h, g, hhg⟩ : ∃ h g, hd true x = (h, g) := ⟨_, _, rfl⟩
 have HHG := Lib.hid hhg
 have hgl : g.len <= 281474976710656 := by
  have e : (hd true x).2.len <= x.len := by
   cases x with
   | nil => exact Nat.le_refl _
   | cons l0 k0 s0 a0 y z =>
    simp only [hd]
    split
    ·simp [Fo.len]
    ·simp [Fo.len]
  rw [hhg] at e
  exact Nat.le_trans e hm
 rw [hhg] at HP HTX
 clear hq hc hm hs hw1 hb1 hx hr hhg
 unfold trV at HP ⊢
 obtain ⟨n, hn⟩ : ∃ n, n = g.len := ⟨_, rfl⟩
 have HN := Lib.hid hn
 dsimp only at HP HTX
 rw [<- hn] at HP hgl
 have n1 : (n : Int) <= 281474976710656 := by omega
 clear hn
 go_enter Tryz.func97, Tryz.ntmps97
 go_wp2_with fail
 rw [<- HW1.out]
 refine HP.out.mono ?_
 rintro e w2 ⟨⟨q2, c2, rfl, hq2, hc2⟩, hb⟩
 have HB2 := Lib.hid (HB1.out.trans (hb.mono HB1.out.size))
 have HBX2 := Lib.hid (HBX.out.later hb)
 obtain ⟨y0, y1, y2, y3, y4, yf⟩ := HBX2.out
 have HQ2 := Lib.hid (And.intro hq2 hc2)
 clear hb hc2 hq2 HP HW1
 have no : r = (0, false) -> r.1 = 0 /\ r.2 = false := fun h => by rw [h]; exact ⟨rfl, rfl⟩
 by_cases hh : h = ⟨#[45]⟩
 case neg =>
  have h1 : ¬ h.toList = (⟨#[45]⟩ : ByteArray).toList := fun e => hh (toList_byte e)
  have h1' : ¬ h.toList = [45] := fun e => hh (toList_byte (e.trans (by rw [ByteArray.toList_eq])))
  have hr0 : r = (0, false) := by rw [HRR.out]; simp [numP, HHG.out, hh]
  subst hr0
  clear hh no
  go_wp2_with fail
  exact bodyPost_ret (v := .tuple #[.int .i64 0, .bool false]) (by simp [results, Tryz.results97, go_sem]) rfl ⟨rfl, HB2.out⟩
 have h1 : h.toList = (⟨#[45]⟩ : ByteArray).toList := by rw [hh]
 have h1' : h.toList = [45] := by rw [hh, ByteArray.toList_eq]
 by_cases hn : n = 1
 case neg =>
  have h2 : ((n : Int) == 1) = false := by simp; omega
  have hr0 : r = (0, false) := by
   rw [HRR.out]
   have : oneLeaf g = none := by
    have hnl := HN.out
    cases g with
    | nil => rfl
    | cons l0 k0 s0 a0 y z =>
     cases z with
     | nil => exfalso; apply hn; rw [hnl]; rfl
     | cons => cases l0 <;> rfl
   simp [numP, HHG.out, this]
  subst hr0
  clear hh no hn
  go_wp2_with fail
  exact bodyPost_ret (v := .tuple #[.int .i64 0, .bool false]) (by simp [results, Tryz.results97, go_sem]) rfl ⟨rfl, HB2.out⟩
 subst hn
 have hg1 := HN.out
 cases g with
 | nil => simp [Fo.len] at hg1
 | cons l1 k1 s1 a1 x1 z =>
 have hz : z = .nil := by
  cases z with
  | nil => rfl
  | cons => simp [Fo.len] at hg1
 subst hz
 obtain ⟨b, off, e0, _, c0, c1, c2', c3, ⟨q4, d4, c4, hl4, hm4, hq4⟩, _⟩ := HQ2.out.1
 subst e0
 clear hg1
 cases l1 with
 | true =>
  have hr0 : r = (0, false) := by
   rw [HRR.out]
   simp [numP, HHG.out, oneLeaf]
  subst hr0
  clear hh no
  go_wp2_with fail
  exact bodyPost_ret (v := .tuple #[.int .i64 0, .bool false]) (by simp [results, Tryz.results97, go_sem]) rfl ⟨rfl, HB2.out⟩
 | false =>
  have HL := Lib.hid (number97_leaf k1 s1 a1 x1 q4 d4 w2 F hq4 hl4 hm4 HTX.out.1)
  have hr0 : r = (-(leafN k1 s1).1, (leafN k1 s1).2) := by
   rw [HRR.out]
   simp [numP, HHG.out, oneLeaf, hh]
  have hbd := leafN_bound k1 s1
  rw [numP_leaf] at HL
  unfold trV at HL
  obtain ⟨r1, r2, hrr⟩ : ∃ r1 r2, leafN k1 s1 = (r1, r2) := ⟨_, _, rfl⟩
  rw [hrr] at HL hr0 hbd
  dsimp only at HL hr0 hbd
  have hneg : IntKind.i64.wrap (-r1) = -r1 := by have := IntWalk.i64_in (-r1) (by omega); exact this
  subst hr0
  clear hh no hrr hbd hq4 hl4 hm4
  go_wp2_with fail
  refine HL.out.mono ?_
  rintro e w3 ⟨rfl, hb3⟩
  have HB3 := Lib.hid (HB2.out.trans (hb3.mono HB2.out.size))
  clear hb3
  go_wp2_with fail
  exact bodyPost_ret (v := .tuple #[.int .i64 (-r1), .bool r2]) (by simp [results, Tryz.results97, go_sem]) rfl ⟨rfl, HB3.out⟩
def leafV (l : Bool) (s : ByteArray) : Int := if l then 0 else readN s.data.toList
def valP : Bool -> ByteArray -> Fo -> Int
 | l, s, .nil => leafV l s
 | l, s, .cons _ _ _ _ _ .nil => leafV l s
 | l, s, .cons _ _ _ _ _ (.cons l2 _ s2 _ x2 .nil) => if l then -(valP l2 s2 x2) else leafV l s
 | l, s, .cons _ _ _ _ _ (.cons _ _ _ _ _ (.cons _ _ _ _ _ _)) => leafV l s
theorem leafV_bound (l : Bool) (s : ByteArray) : -4611686018427387903 <= leafV l s /\ leafV l s <= 4611686018427387903 := by
 have h := readN_rng s.data.toList
 unfold leafV
 split <;> omega
theorem valP_bound : ∀ (l : Bool) (s : ByteArray) (x : Fo), -4611686018427387903 <= valP l s x /\ valP l s x <= 4611686018427387903
 | l, s, .nil => leafV_bound l s
 | l, s, .cons _ _ _ _ _ .nil => leafV_bound l s
 | l, s, .cons _ _ _ _ _ (.cons l2 _ s2 _ x2 .nil) => by
  have h := valP_bound l2 s2 x2
  simp only [valP]
  split
  ·omega
  ·exact leafV_bound l s
 | l, s, .cons _ _ _ _ _ (.cons _ _ _ _ _ (.cons _ _ _ _ _ _)) => leafV_bound l s
theorem valP_noA : ∀ (l : Bool) (s : ByteArray) (x : Fo), valP l s (noA x) = valP l s x
 | l, s, .nil => rfl
 | l, s, .cons _ _ _ _ _ .nil => rfl
 | l, s, .cons _ _ _ _ _ (.cons l2 _ s2 _ x2 .nil) => by
  have h := valP_noA l2 s2 x2
  simp only [noA, valP, h]
 | l, s, .cons _ _ _ _ _ (.cons _ _ _ _ _ (.cons _ _ _ _ _ _)) => rfl
theorem valP_leaf (l : Bool) (s : ByteArray) (x : Fo) (h : l = false \/ x.len ≠ 2) : valP l s x = leafV l s := by
 match x, h with
 | .nil, _ => rfl
 | .cons _ _ _ _ _ .nil, _ => rfl
 | .cons _ _ _ _ _ (.cons l2 _ s2 _ x2 .nil), h =>
  rcases h with h | h
  ·subst h; simp [valP]
  ·simp [Fo.len] at h
 | .cons _ _ _ _ _ (.cons _ _ _ _ _ (.cons _ _ _ _ _ _)), _ => rfl
theorem readN_err (l : List UInt8) (h : readE l ≠ 0) : readN l = 0 := by
 unfold readE at h
 unfold readN
 split at h
 ·split at h
  ·exact absurd rfl h
  ·rename_i h1 h2; simp [h2]
 ·rename_i h1; simp [h1]
set_option maxHeartbeats 3200000 in
theorem value55_leaf (l : Bool) (k : Int) (s : ByteArray) (a : Int) (n : Nat) (q : Option Addr) (c : Nat) (W : World) (hm : n <= 281474976710656) (hs : s.size <= 140737488351232) (h : l = false \/ n ≠ 2) :
  Calls Tryz.prog 55 #[trV l k s a q n c] W fun e w' => e = .returned (.int .i64 (leafV l s)) /\ Below W.heap.size W w' := by
 have HB := Lib.hid (below1 W (.cells #[.bool l, .int .u8 k, .string s, .int .i64 a, .slice q n c] 35))
 obtain ⟨y0, y1, y2, y3, y4, yf⟩ := box_new W l k s a (.slice q n c)
 have n1 : (n : Int) <= 281474976710656 := by omega
 have HR := Lib.hid (fun w => refRead_any s w hs)
 have HE := Lib.hid (readN_err s.data.toList)
 have hl : leafV l s = if l then 0 else readN s.data.toList := rfl
 rw [hl]
 clear hl
 obtain ⟨N, E, hN, hE⟩ : ∃ N E, N = readN s.data.toList /\ E = readE s.data.toList := ⟨_, _, rfl, rfl⟩
 rw [<- hN, <- hE] at HR HE
 rw [<- hN]
 clear hN hE hs hm
 unfold trV
 cases l with
 | false =>
  clear h
  go_enter Tryz.func55, Tryz.ntmps55
  go_wp2_with fail
  refine (HR.out _).mono ?_
  rintro e w3 ⟨rfl, hw⟩
  rw [hw]
  clear hw
  by_cases hz : E = 0
  ·have hEd2 : (E != 0) = false := by simp [hz]
   clear hz
   go_wp2_with fail
   exact bodyPost_ret (v := .int .i64 N) (by simp [results, Tryz.results55, go_sem]) rfl ⟨by simp, HB.out⟩
  ·have hEd2 : (E != 0) = true := by simp [hz]
   have hN := HE.out hz
   clear hz
   go_wp2_with fail
   exact bodyPost_ret (v := .int .i64 0) (by simp [results, Tryz.results55, go_sem]) rfl ⟨by simp [], HB.out⟩
 | true =>
  have h2 : ((n : Int) == 2) = false := by
   rcases h with h | h
   ·cases h
   ·simp; omega
  clear h
  go_enter Tryz.func55, Tryz.ntmps55
  go_wp2_with fail
  refine (HR.out _).mono ?_
  rintro e w3 ⟨rfl, hw⟩
  rw [hw]
  clear hw
  by_cases hz : E = 0
  ·have hEd2 : (E != 0) = false := by simp [hz]
   clear hz
   go_wp2_with fail
   exact bodyPost_ret (v := .int .i64 0) (by simp [results, Tryz.results55, go_sem]) rfl ⟨by simp, HB.out⟩
  ·have hEd2 : (E != 0) = true := by simp [hz]
   clear hz
   go_wp2_with fail
   exact bodyPost_ret (v := .int .i64 0) (by simp [results, Tryz.results55, go_sem]) rfl ⟨by simp, HB.out⟩
set_option maxHeartbeats 3200000 in
theorem value55_two (k : Int) (s : ByteArray) (a : Int) (l1 : Bool) (k1 : Int) (s1 : ByteArray) (a1 : Int) (x1 : Fo) (l2 : Bool) (k2 : Int) (s2 : ByteArray) (a2 : Int) (x2 : Fo) (q : Option Addr) (c : Nat) (W : World) (F : Nat -> Prop) (v : Int) (hv : -4611686018427387903 <= v /\ v <= 4611686018427387903)
  (hq : FoIn W F (.cons l1 k1 s1 a1 x1 (.cons l2 k2 s2 a2 x2 .nil)) q)
  (ih : ∀ (w : World) (q2 : Option Addr) (c2 : Nat), FoIn w F x2 q2 -> x2.len <= c2 -> x2.len <= 281474976710656 -> Calls Tryz.prog 55 #[trV l2 k2 s2 a2 q2 x2.len c2] w fun e w' => e = .returned (.int .i64 v) /\ Below w.heap.size w w') :
  Calls Tryz.prog 55 #[trV true k s a q 2 c] W fun e w' => e = .returned (.int .i64 (-v)) /\ Below W.heap.size W w' := by
 obtain ⟨w1, hw1⟩ : ∃ w1, w1 = W.alloc (.cells #[.bool true, .int .u8 k, .string s, .int .i64 a, .slice q 2 c] 35) := ⟨_, rfl⟩
 have HB1 := Lib.hid (show Below W.heap.size W w1 from by rw [hw1]; exact below1 _ _)
 have hbx := box_new W true k s a (.slice q 2 c)
 rw [<- hw1] at hbx
 have hq2 := hq.later HB1.out
 obtain ⟨bq, oq, rfl, _, _, _, _, _, _, hr⟩ := hq2
 obtain ⟨b1, o1, he, _, c0, c1, c2, c3, ⟨q4, d4, c4, hl4, hm4, hq4⟩, _⟩ := hr
 injection he with he
 injection he with he1 he2
 subst he1 he2
 have HC := Lib.hid (ih w1 q4 d4 hq4 hl4 hm4)
 have hneg : IntKind.i64.wrap (-v) = -v := by have := IntWalk.i64_in (-v) (by omega); exact this
 obtain ⟨y0, y1, y2, y3, y4, yf⟩ := hbx
 have HW1 := Lib.hid hw1
 rw [hw1] at y0 y1 y2 y3 y4 yf c0 c1 c2 c3 c4
 clear hw1 hq ih hq4 hl4 hm4 hv
 unfold trV at HC ⊢
 go_enter Tryz.func55, Tryz.ntmps55
 go_wp2_with fail
 rw [<- HW1.out]
 refine HC.out.mono ?_
 rintro e w3 ⟨rfl, hb3⟩
 have HB3 := Lib.hid (HB1.out.trans (hb3.mono HB1.out.size))
 clear hb3
 go_wp2_with fail
 exact bodyPost_ret (v := .int .i64 (-v)) (by simp [results, Tryz.results55, go_sem]) rfl ⟨rfl, HB3.out⟩
theorem value55 : ∀ (x : Fo) (l : Bool) (k : Int) (s : ByteArray) (a : Int) (q : Option Addr) (c : Nat) (W : World) (F : Nat -> Prop), FoIn W F x q -> x.len <= c -> x.len <= 281474976710656 -> s.size <= 140737488351232 -> TxOK x →
  Calls Tryz.prog 55 #[trV l k s a q x.len c] W fun e w' => e = .returned (.int .i64 (valP l s x)) /\ Below W.heap.size W w'
 | .nil, l, k, s, a, q, c, W, F, _, _, hm, hs, _ => by
  rw [valP_leaf _ _ _ (Or.inr (by simp [Fo.len]))]
  exact value55_leaf l k s a _ q c W hm hs (Or.inr (by simp [Fo.len]))
 | .cons _ _ _ _ _ .nil, l, k, s, a, q, c, W, F, _, _, hm, hs, _ => by
  rw [valP_leaf _ _ _ (Or.inr (by simp [Fo.len]))]
  exact value55_leaf l k s a _ q c W hm hs (Or.inr (by simp [Fo.len]))
 | .cons _ _ _ _ _ (.cons _ _ _ _ _ (.cons _ _ _ _ _ r)), l, k, s, a, q, c, W, F, _, _, hm, hs, _ => by
  rw [valP_leaf _ _ _ (Or.inr (by simp [Fo.len]))]
  exact value55_leaf l k s a _ q c W hm hs (Or.inr (by simp [Fo.len]))
 | .cons l1 k1 s1 a1 x1 (.cons l2 k2 s2 a2 x2 .nil), l, k, s, a, q, c, W, F, hq, hc, hm, hs, hx => by
  cases l with
  | false =>
   rw [valP_leaf _ _ _ (Or.inl rfl)]
   exact value55_leaf false k s a _ q c W hm hs (Or.inl rfl)
  | true =>
   have e : valP true s (.cons l1 k1 s1 a1 x1 (.cons l2 k2 s2 a2 x2 .nil)) = -(valP l2 s2 x2) := by simp [valP]
   rw [e]
   exact value55_two k s a l1 k1 s1 a1 x1 l2 k2 s2 a2 x2 q c W F (valP l2 s2 x2) (valP_bound l2 s2 x2) hq
    (fun w q2 c2 h1 h2 h3 => value55 x2 l2 k2 s2 a2 q2 c2 w F h1 h2 h3 hx.2.2.1 hx.2.2.2.1)
end Go.Proofs.YtookoagcmejkpaaGreatDoor
