/- The document's answer: blank, digit, letter, inner; word. Lists that are still open, in memory. The tree at a place of some tokens, or what is wrong there. Texts of trees, plain: what may be written,  -/
import Derived.Test.YtookoagcmejkpaaGreatDoorJ1
import Derived.Test.YtookoagcmejkpaaGreatDoorJ0
import Derived.Deep.MidRow
import Derived.Lib.ConvBytes
set_option maxHeartbeats 12800000
namespace Go.Proofs.YtookoagcmejkpaaGreatDoor.Lx
set_option maxRecDepth 100000
open Go Go.RowKit
theorem dg_i (x : UInt8) : dgB x = (decide ((48 : Int) <= (x.toNat : Int)) && decide ((x.toNat : Int) <= 57)) := by
  have := qdm (p := fun x => dgB x == (decide ((48 : Int) <= (x.toNat : Int)) && decide ((x.toNat : Int) <= 57))) (by decide +kernel) x;exact eq_of_beq this
theorem sy_i (x : UInt8) (h : extraL.contains x = false) : syB x = ((decide ((97 : Int) <= (x.toNat : Int)) && decide ((x.toNat : Int) <= 122)) || ((decide ((65 : Int) <= (x.toNat : Int)) && decide ((x.toNat : Int) <= 90)) || dgB x)) := by
  have := qdm (p := fun x => extraL.contains x || (syB x == ((decide ((97 : Int) <= (x.toNat : Int)) && decide ((x.toNat : Int) <= 122)) || ((decide ((65 : Int) <= (x.toNat : Int)) && decide ((x.toNat : Int) <= 90)) || dgB x)))) (by decide +kernel) x;rw [h] at this;exact eq_of_beq (by simpa using this)
theorem qo6 (x : UInt8) (h : extraL.contains x = true) : syB x = true := by unfold syB; rw [h]; simp
theorem sp_i (x : UInt8) : spB x = (((x.toNat : Int) == 9) || (((x.toNat : Int) == 10) || (((x.toNat : Int) == 13) || ((x.toNat : Int) == 32)))) := by
  have := qdm (p := fun x => spB x == (((x.toNat : Int) == 9) || (((x.toNat : Int) == 10) || (((x.toNat : Int) == 13) || ((x.toNat : Int) == 32))))) (by decide +kernel) x;exact eq_of_beq this
theorem tx_i (x : UInt8) : txB x = (spB x || ((decide ((32 : Int) < (x.toNat : Int)) && decide ((x.toNat : Int) < 127)) || decide ((127 : Int) < (x.toNat : Int)))) := by
  have := qdm (p := fun x => txB x == (spB x || ((decide ((32 : Int) < (x.toNat : Int)) && decide ((x.toNat : Int) < 127)) || decide ((127 : Int) < (x.toNat : Int))))) (by decide +kernel) x;exact eq_of_beq this
theorem qi1 (x : UInt8) (W : World) : Calls Tryz.prog 60 #[.int .u8 (x.toNat : Int)] W fun e w' => e = .returned (.bool (spB x)) /\ W = w' := by
  have HS := Zh (sp_i x);generalize x.toNat = y at *
  cases q1 : ((y : Int) == 9) <;> cases q2 : ((y : Int) == 10) <;> cases q3 : ((y : Int) == 13) <;> cases q4 : ((y : Int) == 32) <;>
    (have HR := Zh (show spB x = _ by rw [HS.o, q1, q2, q3, q4])
     clear HS;go_enter Tryz.func60, Tryz.ntmps60
     go_wp2_with fail
     go_ret
     exact ⟨by rw [HR.o]; rfl, rfl⟩)
theorem qc1 (x : UInt8) (W : World) : Calls Tryz.prog 92 #[.int .u8 (x.toNat : Int)] W fun e w' => e = .returned (.bool (dgB x)) /\ W = w' := by
  have HS := Zh (dg_i x);generalize x.toNat = y at *
  cases q1 : decide ((48 : Int) <= (y : Int)) <;> cases q2 : decide ((y : Int) <= 57) <;>
    (have HR := Zh (show dgB x = _ by rw [HS.o, q1, q2])
     clear HS;go_enter Tryz.func92, Tryz.ntmps92
     go_wp2_with fail
     go_ret
     exact ⟨by rw [HR.o]; rfl, rfl⟩)
theorem qiu (x : UInt8) (W : World) : Calls Tryz.prog 108 #[.int .u8 (x.toNat : Int)] W fun e w' => e = .returned (.bool (txB x)) /\ W = w' := by
  have HS := Zh (tx_i x);have HB := Zh (fun W => qi1 x W);generalize x.toNat = y at *
  cases q0 : spB x <;> cases q1 : decide ((32 : Int) < (y : Int)) <;> cases q2 : decide ((y : Int) < 127) <;> cases q3 : decide ((127 : Int) < (y : Int)) <;>
    (have HR := Zh (show txB x = _ by rw [HS.o, q0, q1, q2, q3])
     have HQ := Zh q0;clear HS q0;go_enter Tryz.func108, Tryz.ntmps108
     go_wp2_with fail
     refine (HB.o _).mono ?_;rintro e w1 ⟨rfl, rfl⟩;rw [HQ.o]
     go_wp2_with fail
     go_ret
     exact ⟨by rw [HR.o]; rfl, rfl⟩)
theorem qru (a b : UInt8) : ((a.toNat : Int) == (b.toNat : Int)) = (a == b) := by
  rw [Bool.eq_iff_iff, beq_iff_eq, beq_iff_eq];exact ⟨fun h => UInt8.toNat_inj.1 (by omega), fun h => by rw [h]⟩
theorem ql1 (x : UInt8) (W : World) : Calls Tryz.prog 109 #[.int .u8 (x.toNat : Int)] W fun e w' => e = .returned (.bool (syB x)) /\ W = w' := by
  obtain ⟨S, hS⟩ : ∃ S : ByteArray, S = ⟨#[126, 33, 64, 36, 37, 94, 38, 42, 95, 45, 43, 61, 60, 62, 46, 63, 47]⟩ := ⟨_, rfl⟩;have hSs : S.size = 17 := by rw [hS]; rfl
  have hSl : S.data.toList = extraL := by rw [hS]; rfl
  have hdg := Zh (fun W => qc1 x W);go_enter Tryz.func109, Tryz.ntmps109;rw [<- hS];have HS := Zh hSl;have HZ := Zh hSs;clear hS hSl hSs
  go_wp2_with fail
  go_loopg [4] 17 (fun gk s4 wx => ∃ k : Nat, k + gk = 17 /\ s4 = .int .i64 (k : Int) /\ Hid (wx = W /\ ∀ j, j < k -> extraL[j]? ≠ some x))
  case atStart => exact ⟨0, by omega, rfl, Zh ⟨rfl, fun j hj => by omega⟩⟩
  case round =>
    obtain ⟨k, hk, rfl, HI⟩ := hrel;obtain ⟨hwr, hno⟩ := HI.o;subst hwr;have HG := Zh hk;have HNO := Zh hno;have hk2 : k <= S.size := by rw [HZ.o]; omega
    have hk3 : (S.size : Int) <= 1000 := by rw [HZ.o]; decide
    clear hk hno HI
    by_cases hlt : k < S.size
    · have hs := qcm hlt
      have heq : ((S[k].toNat : Int) == (x.toNat : Int)) = (S[k] == x) := qru _ _;have hk17 : k < 17 := by rw [<- HZ.o]; exact hlt
      have hget : extraL[k]? = some S[k] := by rw [<- HS.o]; exact hs
      have HGET := Zh hget;obtain ⟨hz, hz0⟩ := qbe (x := S[k]);clear hs hget
      cases q : (S[k] == x) with
      | true =>
        rw [q] at heq
        have HY := Zh (show syB x = true from qo6 x (by
          have h1 := List.mem_of_getElem? HGET.o;rw [eq_of_beq q] at h1
          simpa using h1))
        clear q
        go_wp2_with fail
        go_ret
        exact ⟨by rw [HY.o]; rfl, rfl⟩
      | false =>
        rw [q] at heq;have HQ := Zh q;clear q
        go_wp2_with fail
        go_roundg (17 - (k + 1))
        case measure => have := HG.o; omega
        case rel =>
          obtain ⟨k', hk'⟩ : ∃ k', k' = k + 1 := ⟨_, rfl⟩;refine ⟨k', by omega, by rw [hk']; go_num, Zh ⟨rfl, fun j hj => ?_⟩⟩
          by_cases e : j = k
          · subst e; rw [HGET.o]; intro h; cases h; simpa using HQ.o
          · exact HNO.o j (by omega)
    · have hk17 : k = 17 := by rw [HZ.o] at hlt hk2; omega
      have hne : extraL.contains x = false := by
        rw [Bool.eq_false_iff]; intro h;obtain ⟨j, hj, e⟩ := List.mem_iff_getElem.1 (List.contains_iff_mem.1 h);have hl : extraL.length = 17 := rfl;exact HNO.o j (by omega) (by rw [List.getElem?_eq_getElem hj, e])
      have HY := Zh (sy_i x hne);clear hne
      cases q1 : decide ((97 : Int) <= (x.toNat : Int)) <;> cases q2 : decide ((x.toNat : Int) <= 122) <;> cases q3 : decide ((65 : Int) <= (x.toNat : Int)) <;> cases q4 : decide ((x.toNat : Int) <= 90) <;>
        (have HR := Zh (show syB x = _ by rw [HY.o, q1, q2, q3, q4])
         clear HY
         go_wp2_with (go_at_call 92; refine (hdg.o _).mono ?_; rintro e w1 ⟨rfl, rfl⟩)
         go_ret
         exact ⟨by rw [HR.o]; rfl, rfl⟩)
theorem qph {w : World} {base n k c sz : Nat} {e : TypeId} {g : Nat} {xs : List Value} (h : w.ownsRow base e sz (.slice (some ⟨g, 0, none⟩) n c) n xs) (hk : k <= n) : w.ownsRow base e sz (.slice (some ⟨g, 0, none⟩) k c) k (xs.take (k * sz)) := by
 obtain ⟨h0, ⟨h1, _⟩ | ⟨g', cap, cur, hv, hg, hh, hn, hm, hs, ht⟩⟩ := h
 ·cases h1
 ·cases hv
  have hks : k * sz <= n * sz := Nat.mul_le_mul_right _ hk;refine ⟨by rw [List.length_take]; omega, .inr ⟨g, c, cur, rfl, hg, hh, by omega, hm, hs, ?_⟩⟩;rw [<- ht, List.take_take]
  congr 1
  omega
theorem qoh (m : Nat) : ∀ (l : List TkA), l.length <= m -> ∀ (o i n : Nat), endF l ((o : Int) + 1) i = some n -> ∃ x g cl r, l = x ++ cl :: r /\ Rd x g /\ cl.k = 2 /\ ((o = 0 /\ n = i + x.length + 1) \/ (0 < o /\ endF r (o : Int) (i + x.length + 1) = some n)) := by
 induction m with
 | zero =>
  intro l hl o i n h;obtain rfl : l = [] := List.length_eq_zero_iff.1 (by omega)
  cases h
 | succ m ih =>
  intro l hl o i n h
  cases l with
  | nil => cases h
  | cons t r =>
   have hr : r.length <= m := by simp at hl; omega
   rw [endF] at h
   by_cases h2 : t.k = 2
   ·rw [qe2 h2, show (o : Int) + 1 - 1 = o from by omega] at h
    refine ⟨[], .nil, t, r, rfl, .nil, h2, ?_⟩
    by_cases h0 : o = 0
    ·subst h0
     rw [if_pos (show ((0 : Nat) : Int) = 0 from rfl)] at h
     injection h with h
     exact Or.inl ⟨rfl, by simp only [List.length_nil]; omega⟩
    ·rw [if_neg (by omega)] at h
     exact Or.inr ⟨by omega, h⟩
   ·by_cases h1 : t.k = 1
    ·rw [qe3 h1, if_neg (by omega)] at h
     obtain ⟨x, g, cl, r1, rfl, hx, hc, h3⟩ := ih r hr (o + 1) (i + 1) n (by push_cast; exact h);rcases h3 with ⟨h3, _⟩ | ⟨_, h3⟩
     ·omega
     obtain ⟨x2, g2, cl2, r2, rfl, hx2, hc2, h4⟩ := ih r1 (by simp at hr; omega) o (i + 1 + x.length + 1) n (by push_cast at h3; exact h3);refine ⟨t :: (x ++ cl :: x2), .cons true t.k t.s t.a g g2, cl2, r2, by simp, .list h1 hc hx hx2, hc2, ?_⟩;have e : i + (t :: (x ++ cl :: x2)).length + 1 = i + 1 + x.length + 1 + x2.length + 1 := by simp; omega
     rw [e]; exact h4
    ·rw [qd5 h1 h2, if_neg (by omega)] at h
     obtain ⟨x, g, cl, r1, rfl, hx, hc, h3⟩ := ih r hr o (i + 1) n h;refine ⟨t :: x, .cons false t.k t.s t.a .nil g, cl, r1, rfl, .leaf h1 h2 hx, hc, ?_⟩;have e : i + (t :: x).length + 1 = i + 1 + x.length + 1 := by simp; omega
     rw [e]; exact h3
theorem qst {t : TkA} {r : List TkA} {i n : Nat} (h2 : t.k ≠ 2) (h : endF (t :: r) 0 i = some n) : i < n /\ n <= i + (t :: r).length /\ ∃ b k s a g, One ((t :: r).take (n - i)) b k s a g := by
 rw [endF] at h
 by_cases h1 : t.k = 1
 ·rw [qe3 h1, if_neg (by omega)] at h
  obtain ⟨x, g, cl, r1, rfl, hx, hc, h3⟩ := qoh _ r (Nat.le_refl _) 0 (i + 1) n (by simpa using h);rcases h3 with ⟨_, h3⟩ | ⟨h3, _⟩
  ·refine ⟨by omega, by simp; omega, true, t.k, t.s, t.a, g, ?_⟩
   have e : (t :: (x ++ cl :: r1)).take (n - i) = t :: (x ++ [cl]) := by
    rw [show n - i = (t :: (x ++ [cl])).length from by simp; omega, show t :: (x ++ cl :: r1) = (t :: (x ++ [cl])) ++ r1 from by simp, List.take_left]
   rw [e]; exact .list h1 hc hx
  ·omega
 ·rw [qd5 h1 h2, if_pos rfl] at h
  injection h with h
  subst h;refine ⟨by omega, by simp only [List.length_cons]; omega, false, t.k, t.s, t.a, .nil, ?_⟩;rw [show i + 1 - i = 1 from by omega];exact .leaf h1 h2
inductive NextO (l : List TkA) : Int -> Bool -> Int -> ByteArray -> Int -> Fo -> Int -> Int -> Prop
 | arg {z : Int} : z < 0 \/ (l.length : Int) < z -> NextO l z false 0 ⟨#[]⟩ 0 .nil z 2
 | short : NextO l (l.length : Int) false 0 ⟨#[]⟩ 0 .nil (l.length : Int) 4
 | close {i : Nat} {t : TkA} {r : List TkA} : l.drop i = t :: r -> t.k = 2 -> NextO l (i : Int) false 0 ⟨#[]⟩ 0 .nil (i : Int) 41
 | open {i : Nat} {t : TkA} {r : List TkA} : l.drop i = t :: r -> t.k ≠ 2 -> endF (t :: r) 0 i = none -> NextO l (i : Int) false 0 ⟨#[]⟩ 0 .nil (l.length : Int) 4
 | deep {i n : Nat} {t : TkA} {r : List TkA} : l.drop i = t :: r -> t.k ≠ 2 -> endF (t :: r) 0 i = some n -> 200 < qcg ((t :: r).take (n - i)) 0 0 -> NextO l (i : Int) false 0 ⟨#[]⟩ 0 .nil (n : Int) 40
 | ok {i n : Nat} {t : TkA} {r : List TkA} {b : Bool} {k : Int} {s : ByteArray} {a : Int} {g : Fo} : l.drop i = t :: r -> t.k ≠ 2 -> endF (t :: r) 0 i = some n -> ¬ 200 < qcg ((t :: r).take (n - i)) 0 0 -> One ((t :: r).take (n - i)) b k s a g -> NextO l (i : Int) b k s a g (n : Int) 0
noncomputable def qbd (k : Int) (s : ByteArray) : Bool := @decide (GoodT k.toNat s.data.toList /\ 3 <= k) (Classical.propDecidable _)
theorem readB_iff {k : Int} {s : ByteArray} : qbd k s = true ↔ GoodT k.toNat s.data.toList /\ 3 <= k := by unfold qbd; exact @decide_eq_true_iff _ (Classical.propDecidable _)
def txtF : Bool -> Fo -> List UInt8
 | _, .nil => []
 | b, .cons l k s _ x r => (if b then [] else [32]) ++ ((if l then 40 :: (txtF true x ++ [41]) else qaj k.toNat s.data.toList) ++ txtF false r)
def txtT (l : Bool) (k : Int) (s : ByteArray) (x : Fo) : List UInt8 := if l then 40 :: (txtF true x ++ [41]) else qaj k.toNat s.data.toList
noncomputable def okF : Fo -> Bool
 | .nil => true
 | .cons l k s _ x r => (if l then (decide (k = 1) && decide (s = ⟨#[40]⟩)) && okF x else decide (x.len = 0) && qbd k s) && okF r
noncomputable def okT (l : Bool) (k : Int) (s : ByteArray) (x : Fo) : Bool := if l then (decide (k = 1) && decide (s = ⟨#[40]⟩)) && okF x else decide (x.len = 0) && qbd k s
structure Nd where
 l : Bool
 k : Int
 s : ByteArray
 n : Nat
def qbj : Fo -> List Nd
 | .nil => []
 | .cons l k s _ x r => ⟨l, k, s, x.len⟩ :: (qbj x ++ qbj r)
noncomputable def qdx (d : Nd) : Bool := if d.l then decide (d.k = 1) && decide (d.s = ⟨#[40]⟩) else decide (d.n = 0) && qbd d.k d.s
def qe4 (d : Nd) : Nat := if d.l then 2 + (d.n - 1) else (qaj d.k.toNat d.s.data.toList).length
def wsum : List Nd -> Nat
 | [] => 0
 | d :: l => qe4 d + wsum l
theorem qgy : ∀ l m : List Nd, wsum (l ++ m) = wsum l + wsum m
 | [], m => by simp [wsum]
 | d :: l, m => by simp only [List.cons_append, wsum, qgy l m]; omega
theorem qb9 {x : Fo} (h : x.len = 0) : x = .nil := by
 cases x with
 | nil => rfl
 | cons => simp [Fo.len] at h
theorem qer : ∀ f : Fo, okF f = (qbj f).all qdx
 | .nil => rfl
 | .cons l k s a x r => by
  simp only [okF, qbj, List.all_cons, List.all_append, qer r, qdx]
  cases l with
  | true => simp only [if_true, qer x, Bool.and_assoc]
  | false =>
   simp only [Bool.false_eq_true, if_false]
   by_cases h : x.len = 0
   ·rw [qb9 h]; simp [qbj]
   ·simp [h]
theorem qdv : ∀ f : Fo, (qbj f).length = f.size
 | .nil => rfl
 | .cons l k s a x r => by simp only [qbj, List.length_cons, List.length_append, qdv x, qdv r, Fo.size]
theorem qi7 : ∀ (f : Fo) (b : Bool), okF f = true -> (txtF b f).length = wsum (qbj f) + (f.len - (if b then 1 else 0))
 | .nil, b, _ => by cases b <;> rfl
 | .cons l k s a x r, b, h => by
  simp only [okF, Bool.and_eq_true] at h;have hr := qi7 r false h.2;simp only [Bool.false_eq_true, if_false, Nat.sub_zero] at hr
  have hb : ((if b = true then [] else [32] : List UInt8)).length = (Fo.cons l k s a x r).len - (if b then 1 else 0) - r.len := by
   cases b <;> simp [Fo.len]
  have hb2 : r.len <= (Fo.cons l k s a x r).len - (if b then 1 else 0) := by cases b <;> simp [Fo.len]
  cases l with
  | true =>
   simp only [if_true, Bool.and_eq_true] at h;have hx := qi7 x true h.1.2;simp only [if_true] at hx;simp only [txtF, qbj, wsum, qgy, List.length_append, hb, hr, if_true, List.length_cons, hx, qe4, List.length_nil]
   omega
  | false =>
   simp only [Bool.false_eq_true, if_false, Bool.and_eq_true, decide_eq_true_eq] at h;obtain rfl := qb9 h.1.1;simp only [txtF, qbj, wsum, qgy, List.length_append, hb, hr, qe4];simp only [Bool.false_eq_true, if_false];omega
def szF : Nat -> List Nd -> Nat
 | a, [] => a
 | a, d :: l => szF (if a <= 1048576 then a + qe4 d else a) l
theorem qj6 : ∀ (l : List Nd) (a : Nat) (d : Nd), szF a (l ++ [d]) = if szF a l <= 1048576 then szF a l + qe4 d else szF a l
 | [], _, _ => rfl
 | _ :: l, _, d => qj6 l _ d
theorem qj7 : ∀ (l : List Nd) (a : Nat), 1048576 < a -> szF a l = a
 | [], a, _ => rfl
 | d :: l, a, h => by rw [szF, if_neg (by omega), qj7 l a h]
theorem qj5 : ∀ (l : List Nd) (a : Nat), (a + wsum l <= 1048576 -> szF a l = a + wsum l) /\ (1048576 < a + wsum l -> 1048576 < szF a l)
 | [], a => ⟨fun _ => rfl, fun h => h⟩
 | d :: l, a => by
  have ih := qj5 l (a + qe4 d);simp only [wsum, szF]
  by_cases h : a <= 1048576
  ·rw [if_pos h]
   exact ⟨fun h2 => by rw [ih.1 (by omega)]; omega, fun h2 => ih.2 (by omega)⟩
  ·rw [if_neg h]
   exact ⟨fun h2 => by omega, fun _ => by rw [qj7 l a (by omega)]; omega⟩
theorem qms (m : Nat) : ∀ (l : List Nd) (a : Nat), (∀ d ∈ l, qe4 d <= m) -> a <= 1048576 + m -> szF a l <= 1048576 + m
 | [], a, _, h => h
 | d :: l, a, h, ha => by
  rw [szF];refine qms m l _ (fun e he => h e (by simp [he])) ?_;have := h d (by simp)
  split <;> omega
def depF : Fo -> Nat -> Nat
 | .nil, _ => 0
 | .cons l _ _ _ x r, m => max (if l && decide (0 < m) then depF x (m - 1) + 1 else 0) (depF r m)
def depT (l : Bool) (x : Fo) (m : Nat) : Nat := if l && decide (0 < m) then depF x (m - 1) + 1 else 0
theorem qej : ∀ (f : Fo) (m : Nat), depF f m <= m
 | .nil, m => Nat.zero_le _
 | .cons l _ _ _ x r, m => by
  have h1 := qej x (m - 1);have h2 := qej r m;simp only [depF];cases l <;> by_cases hm : 0 < m <;> simp [hm] <;> omega
theorem qhr (l : Bool) (x : Fo) (m : Nat) : depT l x m <= m := by
 have h1 := qej x (m - 1);unfold depT;cases l <;> by_cases hm : 0 < m <;> simp [hm]; omega
def szB (B : Nat) : Fo -> Prop
 | .nil => True
 | .cons _ _ s _ x r => s.size <= B /\ szB B x /\ szB B r
noncomputable def textR (l : Bool) (k : Int) (s : ByteArray) (x : Fo) : List UInt8 × Int :=
 if okT l k s x = false then ([], 5) else if 200 < depT l x 201 then ([], 40) else if 1048576 < (txtT l k s x).length then ([], 3) else (txtT l k s x, 0)
theorem qiz (l : Bool) (k : Int) (s : ByteArray) (a : Int) (x r : Fo) (m : Nat) : depF (.cons l k s a x r) m = max (depT l x m) (depF r m) := rfl

def qse (n : Nat) : Prop := ∀ (x : Fo), x.size <= n -> ∀ (l : Bool) (k : Int) (s : ByteArray) (a : Int) (q : Option Addr) (c : Nat) (W : World) (F : Nat -> Prop) (m : Nat), m <= 1000 -> FoIn W F x q -> x.len <= c -> x.len <= 281474976710656 →
 Calls Tryz.prog 103 #[trV l k s a q x.len c, .int .i64 (m : Int)] W fun e w' => e = .returned (.int .i64 (depT l x m : Int)) /\ Below W.heap.size W w'
theorem ql5 (n : Nat) (ih : ∀ m, m < n -> qse m) : qse n := by
 intro x hsz l k s a q c W F m hm hx hc hn;have hdT : ∀ (l : Bool) (x : Fo) (m : Nat), depT l x m <= m := qhr
 by_cases hl : l = false
 ·subst hl
  have hR : depT false x m = 0 := by simp [depT]
  rw [hR];clear hdT ih;unfold trV;go_enter Tryz.func103, Tryz.ntmps103
  go_wp2_with fail
  go_ret
  exact ⟨by simp, qab _ _⟩
 obtain rfl : l = true := by simpa using hl
 clear hl
 by_cases hm0 : m = 0
 ·subst hm0
  have hR : depT true x 0 = 0 := by simp [depT]
  rw [hR];clear hm;clear hdT ih;unfold trV;go_enter Tryz.func103, Tryz.ntmps103
  go_wp2_with fail
  go_ret
  exact ⟨by simp, qab _ _⟩
 obtain ⟨M, rfl⟩ : ∃ M, m = M + 1 := ⟨m - 1, by omega⟩;clear hm0;have hR : depT true x (M + 1) = depF x M + 1 := by simp [depT]
 rw [hR];have hRM := qej x M;obtain ⟨R, hR2⟩ : ∃ R, R = depF x M := ⟨_, rfl⟩;rw [<- hR2] at hRM ⊢;obtain ⟨N, hN⟩ : ∃ N, N = x.len := ⟨_, rfl⟩;rw [<- hN] at hc hn ⊢;have i1 : (N : Int) <= 281474976710656 := by omega
 have j1 : (M : Int) <= 1000 := by omega
 have e9 : wrap64 (((M : Nat) : Int) + 1 - 1) = (M : Int) := by rw [show ((M : Nat) : Int) + 1 - 1 = (M : Int) by omega]; exact IntWalk.wrap64_in _ ⟨by omega, by omega⟩
 have e8 : ¬ ((M : Int) + 1 <= 0) := by omega
 have HX := Zh hx;have HI := Zh (show (N = x.len /\ R = depF x M /\ x.size <= n) from ⟨hN, hR2, hsz⟩);have IH := Zh ih;have HDT := Zh hdT;clear hx ih hN hR hR2 hsz hdT;unfold trV;go_enter Tryz.func103, Tryz.ntmps103
 go_wp2_with fail
 go_loopg [5, 7, 18] N (fun gk s5 s7 s18 wx => ∃ (i : Nat) (f : Fo) (d : Nat), i + gk = N /\ s18 = .int .i64 (i : Int) /\ s5 = .int .i64 (d : Int) /\ d <= M /\ Hid (f.len = gk /\ R = max d (depF f M) /\ f.size <= x.size /\ FoIn wx F f (pl q i) /\ wx.cell? ⟨W.heap.size, 4, none⟩ = some (.slice q N c) /\ Below W.heap.size W wx))
 case atStart =>
  refine ⟨0, x, 0, by omega, rfl, rfl, by omega, Zh ⟨?_, ?_, ?_, ?_, ?_, ?_⟩⟩
  ·exact HI.o.1.symm
  ·rw [HI.o.2.1]; simp
  ·exact Nat.le_refl _
  ·exact (qcd HX.o).later (qab _ _)
  ·simp [go_sem]
  ·exact qab _ _
 case round =>
  obtain ⟨i, f, d, hk, rfl, rfl, hdM, HK⟩ := hrel;have HG := Zh hk;have hi2 : i <= N := by omega
  clear hk;obtain ⟨wA, hwA⟩ : ∃ w, w = wr := ⟨_, rfl⟩;subst hwA;have i2 : (i : Int) <= (N : Int) := by omega
  have d0 : (d : Int) <= 1000 := by omega
  have d4 := HK.o.2.2.2.2.1
  by_cases hlt : i < N
  ·obtain ⟨G, rfl⟩ : ∃ G, gk = G + 1 := ⟨gk - 1, by have := HG.o; omega⟩
   have i0 : (0 : Int) <= (i : Int) := by omega
   have i3 : (i : Int) < (N : Int) := by omega
   obtain ⟨hf, hR, hsz, hx, -, hb⟩ := HK.o;obtain ⟨b, off, rfl⟩ : ∃ b off, q = some ⟨b, off, none⟩ := HX.o.some (by rw [<- HI.o.1]; omega)
   cases f with
   | nil => simp [Fo.len] at hf
   | cons l1 k1 s1 a1 x1 r1 =>
    obtain ⟨_, e0, e1, e2, e3, ⟨q3, cc3, e4, hc3, hm3, hx3⟩, hr3⟩ := hx.head;have hC := fun w' (h : Below wA.heap.size wA w') => IH.o x1.size (by have := HI.o.2.2; simp only [Fo.size] at hsz; omega) x1 (Nat.le_refl _) l1 k1 s1 a1 q3 cc3 w' F M (by omega) (hx3.later h) hc3 hm3
    have hD : depT l1 x1 M <= M := HDT.o _ _ _;rw [qiz] at hR;have HS := Zh (show (r1.len = G /\ R = max d (max (depT l1 x1 M) (depF r1 M)) /\ r1.size <= x.size) from ⟨by simpa [Fo.len] using hf, hR, by simp only [Fo.size] at hsz; omega⟩);have HRF := Zh (qej r1 M);generalize depT l1 x1 M = D at *;generalize x1.len = n3 at *;have d1 : (D : Int) <= 1000 := by omega
    unfold trV at hC;have HCC := Zh hC;have HR := Zh hr3;have HBB := Zh hb;clear hf hR hsz hx hb hx3 hr3 hc3 hm3 hC HK
    by_cases hbr : max d D = M
    ·have hbr2 : max (d : Int) (D : Int) = (M : Int) := by omega
     go_wp2_with fail
     refine (HCC.o _ (qab _ _)).mono ?_;rintro e w1 ⟨rfl, hb1⟩;have HW := Zh ((qab wA _).trans (hb1.mono (by simp)));clear hb1
     go_wp2_with fail
     go_ret
     refine ⟨?_, HBB.o.trans (HW.o.mono HBB.o.size)⟩;have h1 := HS.o.2.1;have h2 := HRF.o;have : R = M := by omega
     subst this
     rfl
    ·have hbr2 : ¬ max (d : Int) (D : Int) = (M : Int) := by omega
     go_wp2_with fail
     refine (HCC.o _ (qab _ _)).mono ?_;rintro e w1 ⟨rfl, hb1⟩;have HW := Zh ((qab wA _).trans (hb1.mono (by simp)));have z4 : w1.cell? ⟨W.heap.size, 4, none⟩ = some (.slice (some ⟨b, off, none⟩) N c) := qaa HW.o d4;clear hb1
     go_wp2_with fail
     go_roundg G
     case measure => omega
     case rel =>
      obtain ⟨i', hi'⟩ : ∃ i', i' = i + 1 := ⟨_, rfl⟩;obtain ⟨d', hd'⟩ : ∃ d', d' = max d D := ⟨_, rfl⟩;refine ⟨i', r1, d', by have := HG.o; omega, by rw [hi']; go_num, by rw [hd']; congr 1; omega, by omega, Zh ⟨HS.o.1, by have := HS.o.2.1; omega, HS.o.2.2, ?_, z4, HBB.o.trans (HW.o.mono HBB.o.size)⟩⟩;rw [hi']; exact HR.o.later HW.o
  ·obtain rfl : i = N := by omega
   obtain rfl : gk = 0 := by have := HG.o; omega
   obtain ⟨hf, hR, -, -, -, hb⟩ := HK.o
   have hR2 : R = d := by
    cases f with
    | cons => simp [Fo.len] at hf
    | nil => rw [hR]; simp [depF]
   have HBB := Zh hb;clear hf hR hb;subst hR2
   go_wp2_with fail
   go_ret
   exact ⟨by simp, by first | exact HBB.o | exact bdd HBB.o⟩
theorem qok (n : Nat) : qse n := Nat.strongRecOn n fun n ih => ql5 n ih

theorem qry (l : Bool) (k : Int) (s : ByteArray) (a : Int) (q : Option Addr) (c : Nat) (x : Fo) (W : World) (F : Nat -> Prop) (hx : FoIn W F x q) (hc : x.len <= c) (hn : x.len <= 281474976710656) :
  Calls Tryz.prog 85 #[trV l k s a q x.len c] W fun e w' => e = .returned (.int .i64 (depT l x 201 : Int)) /\ Below W.heap.size W w' := by
 have h := qok x.size x (Nat.le_refl _) l k s a q c (W.alloc (.cells #[.bool l, .int .u8 k, .string s, .int .i64 a, .slice q x.len c] 35)) F 201 (by omega) (hx.later (qab _ _)) hc hn;unfold trV at h ⊢;have H := Zh h;clear h;go_enter Tryz.func85, Tryz.ntmps85
 go_wp2_with fail
 refine H.o.mono ?_;rintro e w1 ⟨rfl, hb1⟩;have HW := Zh ((qab W _).trans (hb1.mono (by simp)));clear hb1
 go_wp2_with fail
 go_ret
 exact ⟨rfl, HW.o⟩
def qsd (n : Nat) : Prop := ∀ (x : Fo), x.size <= n -> ∀ (l : Bool) (k : Int) (s : ByteArray) (a : Int) (q : Option Addr) (c : Nat) (W : World) (F : Nat -> Prop) (m A : Nat), A + m = 201 -> FoIn W F x q -> x.len <= c -> x.len <= 281474976710656 →
 Calls Tryz.prog 54 #[trV l k s a q x.len c, .int .i64 (A : Int)] W fun e w' => e = .returned (.int .i64 (depT l x m : Int)) /\ Below W.heap.size W w'
theorem ql4 (n : Nat) (ih : ∀ m, m < n -> qsd m) : qsd n := by
 intro x hsz l k s a q c W F m A hm hx hc hn;have hdT : ∀ (l : Bool) (x : Fo) (m : Nat), depT l x m <= m := qhr
 by_cases hl : l = false
 ·subst hl
  have hR : depT false x m = 0 := by simp [depT]
  rw [hR];clear hdT ih;unfold trV;go_enter Tryz.func54, Tryz.ntmps54
  go_wp2_with fail
  go_ret
  exact ⟨by simp, qab _ _⟩
 obtain rfl : l = true := by simpa using hl
 clear hl
 by_cases hm0 : m = 0
 ·subst hm0
  have hR : depT true x 0 = 0 := by simp [depT]
  rw [hR];obtain rfl : A = 201 := by omega
  clear hm;clear hdT ih;unfold trV;go_enter Tryz.func54, Tryz.ntmps54
  go_wp2_with fail
  go_ret
  exact ⟨by simp, qab _ _⟩
 obtain ⟨M, rfl⟩ : ∃ M, m = M + 1 := ⟨m - 1, by omega⟩;clear hm0;have hR : depT true x (M + 1) = depF x M + 1 := by simp [depT]
 rw [hR];have hRM := qej x M;obtain ⟨R, hR2⟩ : ∃ R, R = depF x M := ⟨_, rfl⟩;rw [<- hR2] at hRM ⊢;obtain ⟨N, hN⟩ : ∃ N, N = x.len := ⟨_, rfl⟩;rw [<- hN] at hc hn ⊢;have i1 : (N : Int) <= 281474976710656 := by omega
 have j1 : (M : Int) <= 1000 := by omega
 have j2 : (A : Int) <= 200 := by omega
 have j3 : ¬ (200 : Int) < (A : Int) := by omega
 have HX := Zh hx;have HI := Zh (show (N = x.len /\ R = depF x M /\ x.size <= n) from ⟨hN, hR2, hsz⟩);have IH := Zh ih;have HDT := Zh hdT;clear hx ih hN hR hR2 hsz hdT;unfold trV;go_enter Tryz.func54, Tryz.ntmps54
 go_wp2_with fail
 go_loopg [5, 6, 7] N (fun gk s5 s6 s7 wx => ∃ (i : Nat) (f : Fo) (d : Nat), i + gk = N /\ s6 = .int .i64 (i : Int) /\ s5 = .int .i64 (d : Int) /\ d <= M /\ Hid (f.len = gk /\ R = max d (depF f M) /\ f.size <= x.size /\ FoIn wx F f (pl q i) /\ wx.cell? ⟨W.heap.size, 4, none⟩ = some (.slice q N c) /\ Below W.heap.size W wx))
 case atStart =>
  refine ⟨0, x, 0, by omega, rfl, rfl, by omega, Zh ⟨?_, ?_, ?_, ?_, ?_, ?_⟩⟩
  ·exact HI.o.1.symm
  ·rw [HI.o.2.1]; simp
  ·exact Nat.le_refl _
  ·exact (qcd HX.o).later (qab _ _)
  ·simp [go_sem]
  ·exact qab _ _
 case round =>
  obtain ⟨i, f, d, hk, rfl, rfl, hdM, HK⟩ := hrel;have HG := Zh hk;have hi2 : i <= N := by omega
  clear hk;obtain ⟨wA, hwA⟩ : ∃ w, w = wr := ⟨_, rfl⟩;subst hwA;have i2 : (i : Int) <= (N : Int) := by omega
  have d0 : (d : Int) <= 1000 := by omega
  have d4 := HK.o.2.2.2.2.1
  by_cases hlt : i < N
  ·obtain ⟨G, rfl⟩ : ∃ G, gk = G + 1 := ⟨gk - 1, by have := HG.o; omega⟩
   have i0 : (0 : Int) <= (i : Int) := by omega
   have i3 : (i : Int) < (N : Int) := by omega
   obtain ⟨hf, hR, hsz, hx, -, hb⟩ := HK.o;obtain ⟨b, off, rfl⟩ : ∃ b off, q = some ⟨b, off, none⟩ := HX.o.some (by rw [<- HI.o.1]; omega)
   cases f with
   | nil => simp [Fo.len] at hf
   | cons l1 k1 s1 a1 x1 r1 =>
    obtain ⟨_, e0, e1, e2, e3, ⟨q3, cc3, e4, hc3, hm3, hx3⟩, hr3⟩ := hx.head;have hC := fun w' (h : Below wA.heap.size wA w') => IH.o x1.size (by have := HI.o.2.2; simp only [Fo.size] at hsz; omega) x1 (Nat.le_refl _) l1 k1 s1 a1 q3 cc3 w' F M (A + 1) (by omega) (hx3.later h) hc3 hm3
    have hD : depT l1 x1 M <= M := HDT.o _ _ _;rw [qiz] at hR;have HS := Zh (show (r1.len = G /\ R = max d (max (depT l1 x1 M) (depF r1 M)) /\ r1.size <= x.size) from ⟨by simpa [Fo.len] using hf, hR, by simp only [Fo.size] at hsz; omega⟩);have HRF := Zh (qej r1 M);generalize depT l1 x1 M = D at *;generalize x1.len = n3 at *;have d1 : (D : Int) <= 1000 := by omega
    unfold trV at hC;have HCC := Zh hC;have HR := Zh hr3;have HBB := Zh hb;clear hf hR hsz hx hb hx3 hr3 hc3 hm3 hC HK;have e7 : ((A + 1 : Nat) : Int) = (A : Int) + 1 := by omega
    rw [e7] at HCC
    by_cases hbr : d < D
    ·have hbr2 : (d : Int) < (D : Int) := by omega
     go_wp2_with fail
     refine (HCC.o _ (Below.refl _ _)).mono ?_;rintro e w1 ⟨rfl, hb1⟩;have HW := Zh hb1;have z4 : w1.cell? ⟨W.heap.size, 4, none⟩ = some (.slice (some ⟨b, off, none⟩) N c) := qaa HW.o d4;clear hb1
     go_wp2_with fail
     go_roundg G
     case measure => omega
     case rel =>
      obtain ⟨i', hi'⟩ : ∃ i', i' = i + 1 := ⟨_, rfl⟩;refine ⟨i', r1, D, by have := HG.o; omega, by rw [hi']; go_num, rfl, by omega, Zh ⟨HS.o.1, by have := HS.o.2.1; omega, HS.o.2.2, ?_, z4, HBB.o.trans (HW.o.mono HBB.o.size)⟩⟩;rw [hi']; exact HR.o.later HW.o
    ·have hbr2 : ¬ (d : Int) < (D : Int) := by omega
     go_wp2_with fail
     refine (HCC.o _ (Below.refl _ _)).mono ?_;rintro e w1 ⟨rfl, hb1⟩;have HW := Zh hb1;have z4 : w1.cell? ⟨W.heap.size, 4, none⟩ = some (.slice (some ⟨b, off, none⟩) N c) := qaa HW.o d4;clear hb1
     go_wp2_with fail
     go_roundg G
     case measure => omega
     case rel =>
      obtain ⟨i', hi'⟩ : ∃ i', i' = i + 1 := ⟨_, rfl⟩;refine ⟨i', r1, d, by have := HG.o; omega, by rw [hi']; go_num, rfl, by omega, Zh ⟨HS.o.1, by have := HS.o.2.1; omega, HS.o.2.2, ?_, z4, HBB.o.trans (HW.o.mono HBB.o.size)⟩⟩;rw [hi']; exact HR.o.later HW.o
  ·obtain rfl : i = N := by omega
   obtain rfl : gk = 0 := by have := HG.o; omega
   obtain ⟨hf, hR, -, -, -, hb⟩ := HK.o
   have hR2 : R = d := by
    cases f with
    | cons => simp [Fo.len] at hf
    | nil => rw [hR]; simp [depF]
   have HBB := Zh hb;clear hf hR hb;subst hR2
   go_wp2_with fail
   go_ret
   exact ⟨by simp, by first | exact HBB.o | exact bdd HBB.o⟩
theorem qoj (n : Nat) : qsd n := Nat.strongRecOn n fun n ih => ql4 n ih

theorem qrx (l : Bool) (k : Int) (s : ByteArray) (a : Int) (q : Option Addr) (c : Nat) (x : Fo) (W : World) (F : Nat -> Prop) (hx : FoIn W F x q) (hc : x.len <= c) (hn : x.len <= 281474976710656) :
  Calls Tryz.prog 19 #[trV l k s a q x.len c] W fun e w' => e = .returned (.int .i64 (depT l x 201 : Int)) /\ Below W.heap.size W w' := by
 have h := qoj x.size x (Nat.le_refl _) l k s a q c (W.alloc (.cells #[.bool l, .int .u8 k, .string s, .int .i64 a, .slice q x.len c] 35)) F 201 0 (by omega) (hx.later (qab _ _)) hc hn;unfold trV at h ⊢;have H := Zh h;clear h;go_enter Tryz.func19, Tryz.ntmps19
 go_wp2_with fail
 refine H.o.mono ?_;rintro e w1 ⟨rfl, hb1⟩;have HW := Zh ((qab W _).trans (hb1.mono (by simp)));clear hb1
 go_wp2_with fail
 go_ret
 exact ⟨rfl, HW.o⟩
def rdL (v : Value) : List Value := [v, .int .i64 0] ++ clsV
theorem qr7 (p : Option Addr) (n c : Nat) : Tryz.prog.built 183 [(0, .slice p n c), (2, .agg clsV.toArray)] = some (rdL (.slice p n c)).toArray := by kernel_rfl
theorem qra (p : Option Addr) (n c : Nat) : ((rdL (.slice p n c)).toArray.all (·.oneCell')) = true := by kernel_rfl
theorem qnc (v : Value) : (rdL v).length = 258 := by simp [rdL, clsV]
theorem qth : (Tryz.prog.info? 183).map (·.size) = some 258 := by kernel_rfl
theorem qk3 (b : UInt8) : clsV[b.toNat]? = some (.int .u8 (clB b : Int)) := by
 have h := b.toNat_lt;unfold clsV;rw [List.getElem?_map, List.getElem?_range (by omega)];simp
theorem qft {P : Program} {ops : Array Oper} {rest : List Oper} {o : Oper} {a : Act} {w : World} {Q : Exit -> Act -> World -> Prop} (hgd : o.guard = none) (t : TypeId) (parts : Array (Nat × Operand)) (ho : o.op = .build t parts)
  (cells : Array Value) (hc : P.built t (parts.map fun (i, x) => (i, a.eval x)).toList = some cells) (h : wpList P ops Q rest (a.put o.dst (.agg cells)) w) : wpList P ops Q (o :: rest) a w :=
 wpList_plain hgd fun _ hK => by
  unfold Oper.wp execOp;simp only [ho, Sem.run_bind, run_build w t _ cells hc, Result.andThen_ok];exact hK _ _ h
theorem _root_.Go.Proofs.YtookoagcmejkpaaGreatDoor.Only.newCells {T : Nat -> Prop} {w : World} {b : Nat} (hb : w.heap.size <= b) : ∀ (l : List Value) (o : Nat) (w2 : World), Only T w w2 -> Only T w (w2.setCells b o l)
 | [], _, _, h => h
 | v :: l, o, w2, h => by
  rw [World.setCells];exact Only.newCells hb l (o + 1) _ (h.new hb)
theorem qep (b : Nat) : ∀ (l : List Value) (o : Nat) (w : World), (w.setCells b o l).heap.size = w.heap.size
 | [], _, _ => rfl
 | v :: l, o, w => by rw [World.setCells, qep b l, World.size_setCell]
theorem qh5 (w : World) : (w.alloc (.cells Tryz.zeroCells183 183)).there w.heap.size 0 258 := fun j hj => by
 have hz : Tryz.zeroCells183.size = 258 := by kernel_rfl
 rw [Nat.zero_add]
 constructor
 ·rw [World.cell?_alloc_new, Array.getElem?_eq_getElem (by rw [hz]; exact hj)]; rfl
 ·simp [go_sem]
theorem qsq (w : World) (p : Option Addr) (c : Nat) (bs : List UInt8) (hb : BytesIn w p bs) (hk : bs.length <= c) (hn : bs.length <= 1048576) :
  RdAt ((w.alloc (.cells Tryz.zeroCells183 183)).setCells w.heap.size 0 (rdL (.slice p bs.length c))) w.heap.size p c bs 0 /\ Below w.heap.size w ((w.alloc (.cells Tryz.zeroCells183 183)).setCells w.heap.size 0 (rdL (.slice p bs.length c))) := by
 have hth := qh5 w;have hlen := qnc (.slice p bs.length c);have hin := fun j (hj : j < (rdL (.slice p bs.length c)).length) => World.cell?_setCells_in w.heap.size (rdL (.slice p bs.length c)) 0 (w.alloc (.cells Tryz.zeroCells183 183)) (fun i hi => (hth i (by omega)).1) j hj
 have hO : Only (fun _ => False) w ((w.alloc (.cells Tryz.zeroCells183 183)).setCells w.heap.size 0 (rdL (.slice p bs.length c))) := Only.newCells (Nat.le_refl _) _ _ _ (Only.of_below (qab w _));refine ⟨⟨?_, ?_, ?_, ?_, ?_, ?_, ?_, hn, hk, Nat.zero_le _⟩, hO.below (fun k h => h.elim) (Nat.le_refl _)⟩
 ·have := hin 0 (by omega); rw [Nat.zero_add] at this; rw [this]; rfl
 ·have := hin 1 (by omega); rw [Nat.zero_add] at this; rw [this]; rfl
 ·intro b
  have hb' := b.toNat_lt;have := hin (2 + b.toNat) (by omega);rw [Nat.zero_add] at this;rw [this, <- List.getElem?_eq_getElem]
  show ([.slice p bs.length c, .int .i64 0] ++ clsV)[2 + b.toNat]? = _
  rw [List.getElem?_append_right (by simp)];simp only [List.length_cons, List.length_nil, Nat.zero_add];rw [show 2 + b.toNat - (1 + 1) = b.toNat by omega];exact qk3 b
 ·rw [World.frozen?_setCells]
  exact (hth 1 (by omega)).2
 ·exact hb.only hO (fun _ _ _ _ h => h)
 ·intro h0 b off e
  have := hb.lt h0 b off e;omega
 ·rw [qep]; simp
def tkV (t : Tk) : List Value := [.int .u8 (t.kind : Int), .string ⟨t.text.toArray⟩, .int .i64 (t.at_ : Int)]
def rowT (l : List Tk) : List Value := l.flatMap tkV
def Z33 : Value := .agg #[.int .u8 0, .string ByteArray.empty, .int .i64 0]
theorem qoa : ∃ i0, Tryz.prog.info? 32 = some i0 /\ i0.zero = some Z33 /\ i0.size = 3 /\ i0.bytes = 32 := qd1 (by kernel_rfl)
theorem qd3 (w : World) (C : Array Value) (j : Nat) {v : Value} (h : C[j]? = some v) : ((w.alloc (.cells C 32)).alloc (.cells C 32)).cell? ⟨w.heap.size + 1, 0 + j, none⟩ = some v := by
 rw [Nat.zero_add, show w.heap.size + 1 = (w.alloc (.cells C 32)).heap.size by simp, World.cell?_alloc_new];exact h
theorem qkl {w : World} {base base' n : Nat} {e : TypeId} {size : Nat} {v : Value} {xs : List Value} (h : w.ownsRow base e size v n xs) (hb : base' <= base) : w.ownsRow base' e size v n xs := by
 rcases h with ⟨h0, ⟨h1, h2⟩ | ⟨g, cap, cur, rfl, hg, hh, hc⟩⟩
 ·exact ⟨h0, .inl ⟨h1, h2⟩⟩
 ·exact ⟨h0, .inr ⟨g, cap, cur, rfl, Nat.le_trans hb hg, hh, hc⟩⟩
theorem qnd : ∀ (s acc : List UInt8) {e : Nat}, quo acc s = .err e -> 0 < e
 | [], acc, e, h => by simp only [quo] at h; cases h; decide
 | c :: s, acc, e, h => by
  simp only [quo] at h
  split at h
  ·cases h
  ·split at h
   ·cases h; decide
   ·exact qnd s _ h
theorem qhj : ∀ (s : List UInt8) (m : Bool) (acc : List UInt8) (i : Nat) {e : Nat}, lit m acc i s = .err e -> 0 < e
 | [], true, acc, i, e, h => by simp [lit] at h
 | [], false, acc, i, e, h => by simp only [lit] at h; cases h; decide
 | c :: s, true, acc, i, e, h => by
  simp only [lit] at h
  split at h
  ·exact qhj s _ _ _ h
  ·cases h
 | c :: s, false, acc, i, e, h => by
  simp only [lit] at h
  split at h
  ·cases h; decide
  ·split at h
   ·exact qhj s _ _ _ h
   ·exact qhj s _ _ _ h
theorem qog {s : List UInt8} {e : Nat} (h : oneR s = .err e) (hs : 0 < s.length) : 0 < e := by
 cases s with
 | nil => simp at hs
 | cons c s =>
  simp only [oneR] at h
  split at h
  ·cases h
  ·split at h
   ·cases h
   ·split at h
    ·exact qnd _ _ h
    ·split at h
     ·exact qhj _ _ _ _ h
     ·split at h
      ·unfold keyR at h
       split at h <;> cases h
       decide
      ·split at h
       ·unfold qbs at h
        split at h
        ·cases h; decide
        ·split at h <;> cases h
         decide
       ·split at h
        ·unfold qba at h
         split at h
         ·cases h
         ·simp only at h
          split at h
          ·cases h; decide
          ·split at h
           ·cases h
           ·split at h <;> cases h
            decide
        ·cases h; decide
def qoz (bs : List UInt8) (W : World) (e : Ending) (w' : World) : Prop := ∃ (p : Option Addr) (c : Nat) (l : List Tk) (a er : Nat), e = .returned (.tuple #[.slice p l.length c, .int .i64 (a : Int), .int .i64 (er : Int)]) /\ Toks bs 0 l a er /\ w'.ownsRow W.heap.size 32 3 (.slice p l.length c) l.length (rowT l) /\ Below W.heap.size W w'
theorem qla (p : Option Addr) (c : Nat) (bs : List UInt8) (W : World) (hb : BytesIn W p bs) (hk : bs.length <= c) (hn : bs.length <= 1048576) :
  Calls Tryz.prog 123 #[.slice p bs.length c] W (qoz bs W) := by
 have HBI := Zh hb;have HPB := Zh hb.lt;obtain ⟨i33, hi33, hz0, hz1, hz2⟩ := qoa;obtain ⟨n, hnl⟩ : ∃ n, n = bs.length := ⟨_, rfl⟩;have HL := Zh hnl;rw [<- hnl] at hk hn ⊢;have hbd := qr7 p n c;have hone := qra p n c;have hlen := qnc (.slice p n c);generalize hRL : rdL (.slice p n c) = RL at *;have hcls := fun w => qgb w
 generalize hCL : clsV.toArray = CL at *;have HRL := Zh hRL;have HBD := Zh hbd;clear hbd;have hgt : decide ((1048576 : Int) < (n : Int)) = false := by simp; omega
 have HCLS := Zh hcls;have HONE := Zh hone;have HLEN := Zh hlen;have HCL := Zh hCL;have hni : (n : Int) <= 1048576 := by omega
 clear hb hnl hRL hcls hone hlen hCL;go_enter Tryz.func123, Tryz.ntmps123
 go_wp2_with fail
 refine (HCLS.o _).mono ?_;rintro e w1 ⟨rfl, hb1⟩;have HB1 := Zh hb1;clear hb1
 rename_i K2 hKK
 refine hKK _ _ ?_;refine qft rfl 183 _ rfl RL.toArray (by simp [Act.eval, HBD.o]) ?_;clear hKK
 go_wp2_with (refine wpList_store_mid rfl 183 _ _ rfl w1.heap.size 0 RL.toArray rfl rfl ?qs1 ?qs2 HONE.o ?_)
 case qs1 => rw [show RL.toArray.size = 258 by simpa using HLEN.o]; exact qh5 w1
 case qs2 => rw [show RL.toArray.size = 258 by simpa using HLEN.o]; exact qth
 obtain ⟨hrd, hbd2⟩ := qsq w1 p c bs (HBI.o.later HB1.o) (by rw [<- HL.o]; exact hk) (by rw [<- HL.o]; exact hn);rw [<- HL.o, HRL.o] at hrd hbd2;generalize hW2 : World.setCells _ _ 0 RL = W2;rw [hW2] at hrd hbd2;have HB2 := Zh (HB1.o.trans (hbd2.mono HB1.o.size));have HRW := Zh HB1.o.size;clear hbd2 hW2 HRL HONE HLEN HBD HCLS HCL;generalize w1.heap.size = R at *;have HR2 := Zh hrd;clear hrd HBI;refine (qj9 R p c bs 0 W2 HR2.o).mono ?_;rintro e w3 ⟨rfl, hr3, ho3⟩
 have HRW3 := Zh (show RdAt w3 R p c bs (0 + qav false (bs.drop 0)) /\ Below W.heap.size W w3 by
  refine ⟨hr3, HB2.o.trans ?_⟩
  exact ho3.below (fun k hk => by rw [hk]; exact HRW.o) HB2.o.size)
 clear hr3 ho3 HR2 HB2
 go_wp2_with fail
 go_loopg [6, 7, 8, 9] (bs.length + 1) (fun gk s6 s7 s8 s9 wx => ∃ (a : Nat) (acc : List Tk), Hid (bs.length + 1 <= a + qav false (bs.drop a) + gk /\ acc.length <= a /\ a <= bs.length /\ RdAt wx R p c bs (a + qav false (bs.drop a)) /\ (∀ l q er, Toks bs a l q er -> Toks bs 0 (acc ++ l) q er) /\ wx.ownsRow (R + 1) 32 3 s6 acc.length (rowT acc) /\ Below W.heap.size W wx))
 case atStart => exact ⟨0, [], Zh ⟨by omega, by simp, by omega, HRW3.o.1, fun l q er h => h, World.ownsRow_nil _ _ _ _, HRW3.o.2⟩⟩
 case round =>
  obtain ⟨a, acc, HI⟩ := hrel;clear HRW3;obtain ⟨h1, h2, h2b, hr, htk, hw, hbl⟩ := HI.o;obtain ⟨pr, cr, rfl, hA_⟩ := qaq hw;have HA1 := Zh (rfl : a + qav false (bs.drop a) = a + qav false (bs.drop a));generalize hA1 : a + qav false (bs.drop a) = A1 at h1 hr HA1;have HG := Zh h1;have HR := Zh hr;have HT := Zh htk;have HW := Zh hw;have HB := Zh hbl;have HAE := Zh hA1;have c1 := hr.ca;have hA1le : A1 <= n := by have := hr.ha; have := HL.o; omega
  clear h1 hr htk hw hbl hA_ HI HA1 hA1
  by_cases hlt : A1 < n
  ·have i1 : (A1 : Int) < (n : Int) := by omega
   have i0 : (0 : Int) <= (A1 : Int) := by omega
   go_wp2_with fail
   refine (qmh R p c bs A1 wr HR.o (by have := HL.o; omega)).mono ?_;rintro e w4 ⟨ho4, hres⟩;have HO4 := Zh ho4
   match hq : oneR (bs.drop A1), hres with
   | .tok k t m, hres =>
    obtain ⟨rfl, hr4⟩ := hres;have HR4 := Zh hr4;have HQ := Zh hq;have hr4l := hr4.hl;have hone := qnl hq;have hs4 : wr.heap.size <= w4.heap.size := ho4.size;have hWA := qb3 HW.o ho4 (fun j hj e => by have := (qaw HW.o hj).1; omega);have hbA := ((qab w4 (.cells #[.int .u8 (k : Int), .string ⟨t.toArray⟩, .int .i64 (A1 : Int)] 32)).alloc (by simp) (.cells #[.int .u8 (k : Int), .string ⟨t.toArray⟩, .int .i64 (A1 : Int)] 32));have HWA := Zh (qal hWA hbA);have HRA := Zh (hr4.later hbA);have HSA := Zh (show R + 1 <= ((w4.alloc (.cells #[.int .u8 (k : Int), .string ⟨t.toArray⟩, .int .i64 (A1 : Int)] 32)).alloc (.cells #[.int .u8 (k : Int), .string ⟨t.toArray⟩, .int .i64 (A1 : Int)] 32)).heap.size by have := hr4.hl; simp; omega);have HBW := Zh (HB.o.trans ((ho4.below (fun j hj => by rw [hj]; exact HRW.o) HB.o.size).trans (hbA.mono (by have := HB.o.size; omega))));have HON := Zh hone;have hal : acc.length <= 1048576 := by have := HL.o; omega
    have hnews : ∀ j u, (tkV ⟨k, t, A1⟩)[j]? = some u -> ((w4.alloc (.cells #[.int .u8 (k : Int), .string ⟨t.toArray⟩, .int .i64 (A1 : Int)] 32)).alloc (.cells #[.int .u8 (k : Int), .string ⟨t.toArray⟩, .int .i64 (A1 : Int)] 32)).cell? ((⟨w4.heap.size + 1, 0, none⟩ : Addr).add j) = some u := by
     intro j u hj;rw [Lib.add_plain]
     match j, hj with
     | 0, hj => cases hj; exact qd3 w4 _ 0 rfl
     | 1, hj => cases hj; exact qd3 w4 _ 1 rfl
     | 2, hj => cases hj; exact qd3 w4 _ 2 rfl
    have HNE := Zh hnews;unfold tokV;clear hr4 hq ho4 c1 hWA hbA hone hs4 hnews
    go_wp2_with (at_builtin; refine wpList_append_own_at _ rfl _ _ 54 rfl (R + 1) 32 i33 Z33 3 32 Tryz.underlying54 hi33 hz0 hz1 hz2 rfl (by omega) _ acc.length (rowT acc) rfl HWA.o ⟨w4.heap.size + 1, 0, none⟩ 1 1 (tkV ⟨k, t, A1⟩) rfl rfl HNE.o ?qc3 ?qc4 ?qc5 HSA.o ?_)
    case qc3 => intro u hu; simp [tkV] at hu; rcases hu with rfl | rfl | rfl <;> rfl
    case qc4 => have hml : maxLen = 9223372036854775807 := rfl; omega
    case qc5 => omega
    intro v' w5 hown hgrow hnil hloc;obtain ⟨pn, cn, hv, hA_⟩ := qaq hown;subst hv;have ho5 := Only.of_grown hgrow;have hge : ∀ j, (Value.slice pr acc.length cr).ownBlock = some j -> R + 1 <= j := fun j hj => (qaw HWA.o hj).1
    have hlen : acc.length + 1 = (acc ++ [(⟨k, t, A1⟩ : Tk)]).length := by simp
    have hrow : rowT acc ++ tkV ⟨k, t, A1⟩ = rowT (acc ++ [(⟨k, t, A1⟩ : Tk)]) := by simp [rowT]
    rw [hlen, hrow] at hown;rw [hlen];have hal2 : (acc ++ [(⟨k, t, A1⟩ : Tk)]).length = acc.length + 1 := hlen.symm;generalize hacc2 : acc ++ [(⟨k, t, A1⟩ : Tk)] = acc2 at *;have HA2 := Zh hacc2;have HAL := Zh hal2
    have HR5 := Zh (HRA.o.only ho5 (fun e => by have := hge _ e; omega) (fun hp b off e ek => by
     have h1 := hge _ ek;have h2 := HPB.o hp b off e;have h3 := HRW.o
     omega))
    have HW5 := Zh hown;have HB5 := Zh (HBW.o.trans (ho5.below (B := W.heap.size) (fun j hj => by have := hge j hj; have := HRW.o; omega) HBW.o.size));have HG5 := Zh hge;clear hown hgrow hnil hloc hA_ ho5 hge hlen hrow hacc2 hal2
    go_wp2_with fail
    refine (qj9 R p c bs (A1 + m) w5 HR5.o).mono ?_;rintro e w6 ⟨rfl, hr6, ho6⟩;have HR6 := Zh hr6;have HW6 := Zh (qb3 HW5.o ho6 (fun j hj e => by have := (qaw HW5.o hj).1; have e : j = R := e; omega));have HB6 := Zh (HB5.o.trans (ho6.below (fun j hj => by rw [hj]; exact HRW.o) HB5.o.size));have hGp : 0 < gk := by have := HG.o; have := HL.o; omega
    clear hr6 ho6
    go_wp2_with fail
    go_roundg (gk - 1)
    case measure => omega
    case rel =>
     have hg := HG.o;have hl := HL.o;have ho := HON.o;rw [List.length_drop] at ho;obtain ⟨a', ha'⟩ : ∃ a', a' = A1 + m := ⟨_, rfl⟩;have hae := HAE.o;refine ⟨a', acc2, Zh ⟨by omega, by have := HAL.o; omega, by omega, by rw [ha']; exact HR6.o, ?_, HW6.o, HB6.o⟩⟩;intro l q er hl2;rw [<- HA2.o, List.append_assoc];refine HT.o _ _ _ ?_;have hlt2 : a + qav false (bs.drop a) < bs.length := by rw [hae]; omega
     have := Toks.step (b := bs) (at_ := a) (k := k) (n := m) (t := t) (l := l) (p := q) (e := er) hlt2 (by rw [hae]; exact HQ.o) (by rw [hae, <- ha']; exact hl2);rw [hae] at this
     exact this
   | .err er, hres =>
    subst hres;have HQ := Zh hq;have her := qog hq (by rw [List.length_drop]; have := HL.o; omega);have her2 : ((er : Int) != 0) = true := by simp; omega
    have hWA := qb3 HW.o ho4 (fun j hj e => by have := (qaw HW.o hj).1; have e : j = R := e; omega);have HWE := Zh (qal hWA (qab w4 (.cells #[.int .u8 0, .string ⟨#[]⟩, .int .i64 0] 32)));have HBE := Zh (HB.o.trans ((ho4.below (fun j hj => by rw [hj]; exact HRW.o) HB.o.size).trans ((qab w4 (.cells #[.int .u8 0, .string ⟨#[]⟩, .int .i64 0] 32)).mono (by have := HB.o.size; have := ho4.size; omega))));unfold tokV;clear hq hWA ho4 c1
    go_wp2_with fail
    go_ret3
    refine ⟨pr, cr, acc, A1, er, rfl, ?_, qkl HWE.o (by have := HRW.o; omega), HBE.o⟩;have hae := HAE.o;have hl := HL.o
    have := HT.o [] A1 er (by
     have := Toks.bad (b := bs) (at_ := a) (e := er) (by rw [hae]; omega) (by rw [hae]; exact HQ.o);rw [hae] at this
     exact this)
    simpa using this
  ·go_wp2_with fail
   go_ret3
   refine ⟨pr, cr, acc, n, 0, rfl, ?_, qkl HW.o (by have := HRW.o; omega), HB.o⟩;have hae := HAE.o;have hl := HL.o;have := HT.o [] bs.length 0 (.done (by omega));rw [<- hl] at this
   simpa using this
end Go.Proofs.YtookoagcmejkpaaGreatDoor.Lx
namespace Go.Proofs.YtookoagcmejkpaaGreatDoor
set_option maxRecDepth 100000
open Go Go.RowKit
theorem qo5 (s : ByteArray) (W : World) : Calls Tryz.prog 65 #[.string s] W fun e w' => e = .returned (trV false 3 s 0 none 0 0) /\ Below W.heap.size W w' := by
 go_enter Tryz.func65, Tryz.ntmps65
 go_wp2_with fail
 exact bodyPost_ret (v := trV false 3 s 0 none 0 0) (by simp [trV, results, Tryz.results65, go_sem]) rfl ⟨rfl, by repeat (first | exact Below.refl _ _ | refine Below.alloc ?_ (by simp) _)⟩
theorem qrd (w1 : World) (s : ByteArray) : OwnF (w1.alloc (.cells #[.bool false, .int .u8 3, .string s, .int .i64 0, .slice none 0 0] 35)) w1.heap.size (.slice (some ⟨w1.heap.size, 0, none⟩) 1 1) (.cons false 3 s 0 .nil .nil) :=
 ⟨trC false 3 s 0 none 0 0, ⟨rfl, .inr ⟨w1.heap.size, 1, #[.bool false, .int .u8 3, .string s, .int .i64 0, .slice none 0 0], rfl, Nat.le_refl _, Array.getElem?_push_size, Nat.le_refl _, by decide, rfl, rfl⟩⟩, none, 0, [], by simp [Fo.len], Nat.le_refl _, Nat.zero_le _, trivial, rfl⟩
theorem qip (s : ByteArray) (W : World) : Calls Tryz.prog 29 #[.string s] W fun e w' => ∃ g, e = .returned (trV true 1 ⟨#[40]⟩ 0 (some ⟨g, 0, none⟩) 1 1) /\ W.heap.size < g /\ OwnF w' g (.slice (some ⟨g, 0, none⟩) 1 1) (.cons false 3 s 0 .nil .nil) /\ Below W.heap.size W w' := by
 go_enter Tryz.func29, Tryz.ntmps29
 go_wp2_with fail
 refine (qo5 s _).mono ?_;rintro e w1 ⟨rfl, hb⟩;have HB := Zh (Below.trans (show Below W.heap.size W _ from by repeat (first | exact Below.refl _ _ | refine Below.alloc ?_ (by simp) _)) (hb.mono (by simp)));obtain ⟨W0, hW0⟩ : ∃ W0, W0 = W.alloc (.cells #[.bool false, .int .u8 0, .string ⟨#[]⟩, .int .i64 0, .slice none 0 0] 35) := ⟨_, rfl⟩;have hbx0 := qam W false 0 ⟨#[]⟩ 0 (.slice none 0 0);have hbx1 := hbx0.later hb;have hbx := hbx1.later (qab w1 (.cells #[.bool false, .int .u8 3, .string s, .int .i64 0, .slice none 0 0] 35));have HLT := Zh hbx1.lt;obtain ⟨z0, z1, z2, z3, z4, zf⟩ := hbx;clear hb hbx0 hbx1 hW0 W0;unfold trV
 go_wp2_with fail
 refine bodyPost_ret (v := trV true 1 ⟨#[40]⟩ 0 (some ⟨w1.heap.size, 0, none⟩) 1 1) (by simp [trV, results, Tryz.results29, go_sem, z0, z1, z2, z3, z4]) rfl ⟨w1.heap.size, rfl, HLT.o, ?_, ?_⟩
 ·have hn : ∀ o b, w1.heap.size <= b -> ¬ b = (⟨W.heap.size, o, none⟩ : Addr).block := fun o b h e => by
   have h1 := HLT.o;simp only at e;omega
  exact (((((qrd w1 s).only (Only.of_setCell _ _ _) (hn _)).only (Only.of_setCell _ _ _) (hn _)).only (Only.of_setCell _ _ _) (hn _)).only (Only.of_setCell _ _ _) (hn _)).only (Only.of_setCell _ _ _) (hn _)
 ·iterate 5 refine Below.setCell ?_ (show W.heap.size <= W.heap.size from Nat.le_refl _) _
  exact HB.o.alloc HB.o.size _
end Go.Proofs.YtookoagcmejkpaaGreatDoor
namespace Go.Proofs.YtookoagcmejkpaaGreatDoor.Lx
set_option maxRecDepth 100000
open Go Go.RowKit
theorem qot (w : World) (S : ByteArray) (b : Nat) (h : ∀ j (hj : j < S.size), w.cell? ⟨b, j, none⟩ = some (.int .u8 (S[j].toNat : Int))) : BytesIn w (some ⟨b, 0, none⟩) S.data.toList := fun i hi => by
 have hi' : i < S.size := by simpa using hi
 refine ⟨b, 0, rfl, ?_⟩;rw [Nat.zero_add, h i hi'];have := qcm hi';rw [List.getElem?_eq_getElem hi] at this;cases this
 rfl
theorem conv_bytes (w : World) (S : ByteArray) : ∃ (cap : Nat) (w' : World), (convert 9 57 (.string S)).run Tryz.prog w = .ok (.slice (some ⟨w.heap.size, 0, none⟩) S.size cap) w' /\ S.size <= cap /\ Below w.heap.size w w' /\ BytesIn w' (some ⟨w.heap.size, 0, none⟩) S.data.toList /\ w'.heap.size = w.heap.size + 1 := by
 refine ⟨_, _, Lib.run_convert_string_bytes w 9 57 5 S Tryz.underlying9 Tryz.underlying57 Tryz.underlying5, ?_, ⟨rfl, rfl, rfl, by rw [Lib.bytesWorld_size]; omega, fun k hk => Lib.bytesWorld_at_old w 5 S k hk⟩, qot _ S _ fun j hj => ?_, Lib.bytesWorld_size w 5 S⟩
 ·exact grownCap_ge _ _ _ _
 ·rw [Lib.bytesWorld_cell w 5 S j hj, qcr hj]
theorem qdc (p : Option Addr) (c : Nat) (bs : List UInt8) (a : Nat) (W : World) (hb : BytesIn W p bs) (ha : a <= bs.length) (hn : bs.length <= 1048576) :
  Calls Tryz.prog 90 #[.slice p bs.length c, .int .i64 (a : Int)] W fun e w' => e = .returned (.int .i64 ((qas (bs.drop a)).length : Int)) /\ W = w' := by
 have HB := Zh hb;have hlw := qc9 (bs.drop a);rw [List.length_drop] at hlw;generalize hN : (qas (bs.drop a)).length = N;have HN := Zh hN;obtain ⟨n, hnl⟩ : ∃ n, n = bs.length := ⟨_, rfl⟩;have HL := Zh hnl;rw [<- hnl] at ha hn ⊢;have HLW := Zh hlw;clear hb hnl hN hlw;go_enter Tryz.func90, Tryz.ntmps90
 go_wp2_with fail
 go_loopg [5] (n + 1) (fun gk s5 wx => ∃ k : Nat, s5 = .int .i64 (k : Int) /\ Hid (wx = W /\ a + k <= n /\ n + 1 <= k + gk /\ k + (qas (bs.drop (a + k))).length = N))
 case atStart => exact ⟨0, rfl, Zh ⟨rfl, by omega, by omega, by simpa using HN.o⟩⟩
 case round =>
  obtain ⟨k, rfl, HI⟩ := hrel;obtain ⟨hwr, h1, h2, h3⟩ := HI.o;subst hwr;have HE := Zh h3;have HG := Zh h2;clear h2 h3 HI HN
  by_cases hlt : a + k < n
  ·have hab : a + k < bs.length := by have := HL.o; omega
   have i1 : (a : Int) + (k : Int) < (n : Int) := by omega
   have i0 : (0 : Int) <= (a : Int) + (k : Int) := by omega
   have i2 : ((a : Int) + (k : Int)).toNat = a + k := by omega
   obtain ⟨b, off, rfl, cb⟩ := HB.o (a + k) hab;have hs1 := qg1 bs (a + k) hab;have hs2 := qi9 bs (a + k) hab;generalize bs[a + k] = x at *;have HLT := Zh (fun W => ql1 x W)
   cases hs : syB x with
   | true =>
    have HS := Zh (hs1 hs);have HQ := Zh hs;clear hs hs1 hs2
    go_wp2_with fail
    refine (HLT.o _).mono ?_;rintro e w1 ⟨rfl, rfl⟩;rw [HQ.o]
    go_wp2_with fail
    go_roundg (gk - 1)
    case measure => have := HG.o; omega
    case rel =>
     have hg := HG.o;obtain ⟨k', hk'⟩ : ∃ k', k' = k + 1 := ⟨_, rfl⟩;refine ⟨k', by rw [hk']; go_num, Zh ⟨rfl, by omega, by omega, ?_⟩⟩;have h1 := HE.o; have h2 := HS.o
     rw [hk', <- Nat.add_assoc]; omega
   | false =>
    have HS := Zh (show k = N by have h1 := HE.o; have h2 := hs2 hs; omega);have HQ := Zh hs;clear hs hs1 hs2
    go_wp2_with fail
    refine (HLT.o _).mono ?_;rintro e w1 ⟨rfl, rfl⟩;rw [HQ.o]
    go_wp2_with fail
    go_ret
    exact ⟨by rw [<- HS.o]; rfl, rfl⟩
  ·have HS := Zh (show k = N by have h1 := HE.o; have h2 := qqg bs (a + k) (by have := HL.o; omega); omega)
   have i1 : ¬ (a : Int) + (k : Int) < (n : Int) := by omega
   have i2 : decide ((a : Int) + (k : Int) < (n : Int)) = false := by simpa using i1
   go_wp2_with fail
   go_ret
   exact ⟨by rw [<- HS.o]; rfl, rfl⟩
theorem qpe (w : List UInt8) : qbg w = (decide (0 < w.length) && !(dgB (w.getD 0 0)) && ((qas w).length == w.length)) := by
 unfold qbg
 have h : ((qas w).length == w.length) = w.all syB := by
  unfold qas
  induction w with
  | nil => rfl
  | cons c w ih =>
   cases hc : syB c with
   | true =>
    rw [List.takeWhile_cons, if_pos hc, List.all_cons, hc, Bool.true_and, <- ih]
    rw [Bool.eq_iff_iff]; simp
   | false =>
    rw [List.takeWhile_cons, if_neg (by rw [hc]; decide), List.all_cons, hc]; simp
 rw [h]
 cases w with
 | nil => rfl
 | cons c w => cases (c :: w).all syB <;> simp
theorem qfb (S : ByteArray) (W : World) (hs : S.size <= 1048576) : Calls Tryz.prog 119 #[.string S] W fun e w' => e = .returned (.bool (qbg S.data.toList)) /\ Below W.heap.size W w' := by
 have HP := Zh (qpe S.data.toList);have hlen : S.data.toList.length = S.size := by simp
 by_cases h0 : 0 < S.size
 ·have HD0 := Zh (fun W => qc1 S[0] W)
  have HG0 := Zh (qcr h0);have i0 : (0 : Int) < (S.size : Int) := by omega
  cases q : dgB S[0] with
  | true =>
   have HR := Zh (show qbg S.data.toList = false by rw [HP.o, HG0.o, q]; simp);have HQ := Zh q;clear q hlen;go_enter Tryz.func119, Tryz.ntmps119
   go_wp2_with fail
   refine (HD0.o _).mono ?_;rintro e w1 ⟨rfl, rfl⟩;rw [HQ.o]
   go_wp2_with fail
   go_ret
   exact ⟨by rw [HR.o]; rfl, Below.refl _ _⟩
  | false =>
   have HR := Zh (show qbg S.data.toList = ((qas S.data.toList).length == S.size) by rw [HP.o, HG0.o, q, hlen]; simp [h0]);have HQ := Zh q;have HL := Zh hlen;clear q hlen;go_enter Tryz.func119, Tryz.ntmps119
   go_wp2_with fail
   refine (HD0.o _).mono ?_;rintro e w1 ⟨rfl, rfl⟩;rw [HQ.o];obtain ⟨cap, w2, hconv, hcap, hb2, hby, hsz⟩ := conv_bytes W S;have HB2 := Zh hb2
   have HBY := Zh hby
   have hls : S.data.toList.length = S.size := HL.o;have hrw := qdc (some ⟨W.heap.size, 0, none⟩) cap S.data.toList 0 w2 hby (Nat.zero_le _) (by omega);rw [hls] at hrw;have HRW := Zh hrw;clear hb2 hby hls hrw hsz
   go_wp2_with fail
   refine HRW.o.mono ?_;rintro e w3 ⟨rfl, rfl⟩
   go_wp2_with fail
   go_ret
   refine ⟨?_, HB2.o⟩;rw [HR.o]
   show Ending.returned (.bool (((qas S.data.toList).length : Int) == (S.size : Int))) = _
   congr 2
   rw [Bool.eq_iff_iff, beq_iff_eq, beq_iff_eq]; omega
 ·have HR := Zh (show qbg S.data.toList = false by rw [HP.o, hlen]; simp [h0])
  have hz : S.size = 0 := by omega
  have i0 : ¬ (0 : Int) < (S.size : Int) := by omega
  have i1 : decide ((0 : Int) < (S.size : Int)) = false := by simpa using i0
  clear hlen hz;go_enter Tryz.func119, Tryz.ntmps119
  go_wp2_with fail
  go_ret
  exact ⟨by rw [HR.o]; rfl, Below.refl _ _⟩
theorem qp7 : clsV.length = 256 := by simp [clsV]
theorem qp6 : (clsV.toArray.all (·.oneCell')) = true := by kernel_rfl
theorem qti : (Tryz.prog.info? 165).map (·.size) = some 256 := by kernel_rfl
def ClAt (w : World) (R : Nat) : Prop := ∀ b : UInt8, w.cell? ⟨R, b.toNat, none⟩ = some (.int .u8 (clB b : Int))
theorem qmn (w : World) : (w.alloc (.cells Tryz.zeroCells165 165)).there w.heap.size 0 256 := fun j hj => by
 have hz : Tryz.zeroCells165.size = 256 := by kernel_rfl
 rw [Nat.zero_add]
 constructor
 ·rw [World.cell?_alloc_new, Array.getElem?_eq_getElem (by rw [hz]; exact hj)]; rfl
 ·simp [go_sem]
theorem qts (w : World) : ClAt ((w.alloc (.cells Tryz.zeroCells165 165)).setCells w.heap.size 0 clsV) w.heap.size /\ Below w.heap.size w ((w.alloc (.cells Tryz.zeroCells165 165)).setCells w.heap.size 0 clsV) := by
 have hth := qmn w;have hlen := qp7;have hin := fun j (hj : j < clsV.length) => World.cell?_setCells_in w.heap.size clsV 0 (w.alloc (.cells Tryz.zeroCells165 165)) (fun i hi => (hth i (by omega)).1) j hj
 have hO : Only (fun _ => False) w ((w.alloc (.cells Tryz.zeroCells165 165)).setCells w.heap.size 0 clsV) := Only.newCells (Nat.le_refl _) _ _ _ (Only.of_below (qab w _));refine ⟨fun b => ?_, hO.below (fun k h => h.elim) (Nat.le_refl _)⟩;have hb' := b.toNat_lt;have := hin b.toNat (by omega);rw [Nat.zero_add] at this;rw [this, <- List.getElem?_eq_getElem];exact qk3 b
theorem qng (w : List UInt8) : qbg w = (allB syB w && !(dgB (w.getD 0 0))) := by unfold qbg allB; rfl
theorem qco (S : ByteArray) (W : World) (hs : S.size <= 1048576) : Calls Tryz.prog 113 #[.string S] W fun e w' => e = .returned (.bool (qbg S.data.toList)) /\ Below W.heap.size W w' := by
 have HP := Zh (qng S.data.toList);have hlen : S.data.toList.length = S.size := by simp
 have HLEN := Zh hlen;have hone := qp6;have hsz : clsV.toArray.size = 256 := by simp [clsV]
 have hcls := fun w => qgb w
 obtain ⟨CV, hCV⟩ : ∃ l : List Value, l = clsV := ⟨_, rfl⟩;rw [<- hCV] at hone hcls hsz;have HONE := Zh hone;have HCLS := Zh hcls;have HSZ := Zh hsz;have HCV := Zh hCV;clear hone hcls hCV hsz hlen;go_enter Tryz.func113, Tryz.ntmps113
 go_wp2_with fail
 refine (HCLS.o _).mono ?_;rintro e w1 ⟨rfl, hb1⟩;have HB1 := Zh hb1;clear hb1
 go_wp2_with (refine wpList_store_mid rfl 165 _ _ rfl w1.heap.size 0 CV.toArray rfl rfl ?qs1 ?qs2 HONE.o ?_)
 case qs1 => rw [HSZ.o]; exact qmn w1
 case qs2 => rw [HSZ.o]; exact qti
 obtain ⟨hcl, hbd2⟩ := qts w1;rw [<- HCV.o] at hcl hbd2;generalize hW2 : World.setCells _ _ 0 CV = W2;rw [hW2] at hcl hbd2;have HB2 := Zh (HB1.o.trans (hbd2.mono HB1.o.size));clear hbd2 hW2;generalize w1.heap.size = R at *;have HCL := Zh hcl;clear hcl
 go_loopg [4] S.size (fun gk s4 wx => ∃ k : Nat, k + gk = S.size /\ s4 = .int .i64 (k : Int) /\ Hid ((∃ n, wx = W2.drewN n) /\ ∀ x ∈ S.data.toList.take k, syB x = true))
 case atStart => exact ⟨0, by omega, rfl, Zh ⟨⟨0, rfl⟩, by simp⟩⟩
 case round =>
  obtain ⟨k, hk, rfl, HI⟩ := hrel;obtain ⟨nw, hwr⟩ := HI.o.1;have HW := Zh hwr;have HG := Zh hk;have hk2 : k <= S.size := by omega
  clear hk hwr
  by_cases hlt : k < S.size
  ·have i1 : (k : Int) < (S.size : Int) := by omega
   have i0 : (0 : Int) <= (k : Int) := by omega
   have ccl : wr.cell? ⟨R, S[k].toNat, none⟩ = some (.int .u8 (clB S[k] : Int)) := by rw [HW.o]; simpa using HCL.o S[k]
   obtain ⟨hz, hz0⟩ := qbe (x := S[k]);have an := qb4 (and2 S[k])
   have hts : S.data.toList.take (k + 1) = S.data.toList.take k ++ [S[k]] := by
    rw [List.take_succ_eq_append_getElem (by simpa using hlt)]; rfl
   have HTS := Zh hts;have hmem : S[k] ∈ S.data.toList := by simp [ByteArray.getElem_eq_getElem_data]
   have HME := Zh hmem;clear hts hmem
   cases hs : syB S[k] with
   | true =>
    rw [hs] at an;have an2 : (bits BinOp.and IntKind.u8 (clB S[k] : Int) 2 == 0) = false := an;clear an;have HS := Zh hs;clear hs
    go_wp2_with fail
    obtain ⟨G, rfl⟩ : ∃ G, gk = G + 1 := ⟨gk - 1, by have := HG.o; omega⟩
    go_roundg G
    case measure => omega
    case rel =>
     obtain ⟨k', hk'⟩ : ∃ k', k' = k + 1 := ⟨_, rfl⟩;refine ⟨k', by have := HG.o; omega, by rw [hk']; go_num, Zh ⟨⟨nw, HW.o⟩, fun x hx => ?_⟩⟩;rw [hk', HTS.o] at hx;rcases List.mem_append.1 hx with h | h
     ·exact HI.o.2 x h
     ·have : x = S[k] := by simpa using h
      rw [this]; exact HS.o
   | false =>
    rw [hs] at an;have an2 : (bits BinOp.and IntKind.u8 (clB S[k] : Int) 2 == 0) = true := an;clear an
    have HR := Zh (show qbg S.data.toList = false by
     rw [HP.o]; unfold allB
     rw [List.all_eq_false.2 ⟨_, HME.o, by rw [hs]; decide⟩]; rfl)
    clear hs
    go_wp2_with fail
    go_ret
    exact ⟨by rw [HR.o]; rfl, by rw [HW.o]; exact HB2.o.trans ((qad _ _).mono HB2.o.size)⟩
  ·have hk3 : k = S.size := by omega
   subst hk3
   have hall : S.data.toList.all syB = true := by
    rw [List.all_eq_true];intro x hx;refine HI.o.2 x ?_;rw [List.take_of_length_le (by simp)]; exact hx
   by_cases h0 : 0 < S.size
   ·have hne : S.toList.isEmpty = false := by
     rw [toList_data]
     cases h : S.data.toList with
     | nil => have := HLEN.o; rw [h] at this; simp at this; omega
     | cons => rfl
    have hne2 : (S.toList == []) = false := by
     cases h : S.toList with
     | nil => rw [h] at hne; cases hne
     | cons => rfl
    have hne3 : ¬ S.toList = [] := fun e => by rw [e] at hne; cases hne
    have hge := qcr h0
    have HR := Zh (show qbg S.data.toList = !(dgB S[0]) by
     rw [HP.o, hge]; unfold allB; rw [hall, <- toList_data, hne]; simp)
    have ccl : wr.cell? ⟨R, S[0].toNat, none⟩ = some (.int .u8 (clB S[0] : Int)) := by rw [HW.o]; simpa using HCL.o S[0]
    obtain ⟨hz, hz0⟩ := qbe (x := S[0]);have an := qb4 (and4 S[0]);have i0 : (0 : Int) < (S.size : Int) := by omega
    clear hall hge
    go_wp2_with fail
    go_ret
    refine ⟨?_, by rw [HW.o]; exact HB2.o.trans ((qad _ _).mono HB2.o.size)⟩;rw [HR.o]
    rfl
   ·have hnil : S.data.toList = [] := List.eq_nil_of_length_eq_zero (by rw [HLEN.o]; omega)
    have hne : S.toList.isEmpty = true := by rw [toList_data, hnil]; rfl
    have hne2 : (S.toList == []) = true := by rw [toList_data, hnil]; rfl
    have hne3 : S.toList = [] := by rw [toList_data, hnil]
    have HR := Zh (show qbg S.data.toList = false by rw [HP.o, hnil]; rfl);clear hall hnil hne3
    go_wp2_with fail
    go_ret
    exact ⟨by rw [HR.o]; rfl, by rw [HW.o]; exact HB2.o.trans ((qad _ _).mono HB2.o.size)⟩
def numB (w : List UInt8) : Bool := w.all dgB && (decide (w.length = 1) || (decide (1 < w.length) && (w.getD 0 0 != 48)))
def decB (w : List UInt8) : Bool := decide ((w.takeWhile (· != 46)).length + 1 < w.length) && (numB (w.take (w.takeWhile (· != 46)).length) && (w.drop ((w.takeWhile (· != 46)).length + 1)).all dgB)
def nbC (f c : UInt8) : Bool := (f == 120 && hxB c) || (f == 98 && (c == 48 || c == 49))
def nbB (w : List UInt8) : Bool := decide (2 <= w.length) && (w.drop 1).all (nbC (w.getD 0 0))
theorem qnq (v : List UInt8) (hne : v ≠ []) : numB v = (allB dgB v && !(v.getD 0 0 == 48 && decide (1 < v.length))) := by
 have hl : 0 < v.length := List.length_pos_iff.2 hne;unfold numB allB;have he : v.isEmpty = false := by cases v with | nil => exact absurd rfl hne | cons => rfl
 rw [he]
 cases v.all dgB with
 | false => simp
 | true =>
  by_cases h1 : v.length = 1
  ·simp [h1]
  ·have h2 : 1 < v.length := by omega
   simp only [h1, h2, decide_true, decide_false, Bool.true_and, Bool.false_or, Bool.not_false, Bool.and_true]
   rfl
theorem qlr {w : List UInt8} (hne : w ≠ []) (hd : dgB (w.getD 0 0) = true) : qba w = if numB w then .tok 4 w w.length else if decB w then .tok 7 w w.length else .err 5 := by
 have hl : 0 < w.length := List.length_pos_iff.2 hne;unfold qba;rw [if_neg (by rw [hd]; decide)];simp only;rcases qhm 46 w with ⟨h1, _, h3⟩ | ⟨h1, _, h3, h4⟩
 ·rw [h3, h1]
  have hdc : decB w = false := by unfold decB; rw [h3, decide_eq_false (show ¬ w.length + 1 < w.length by omega)]; rfl
  rw [qnq w hne, hdc];cases allB dgB w <;> cases (w.getD 0 0 == 48 && decide (1 < w.length)) <;> rfl
 ·have hall : w.all dgB = false := by
   rw [List.all_eq_false];exact ⟨46, by simpa using h1, by decide⟩
  have hnum : numB w = false := by unfold numB; rw [hall]; rfl
  have hwt : w.takeWhile (· != 46) = w.take (w.takeWhile (· != 46)).length := List.prefix_iff_eq_take.1 (List.takeWhile_prefix _)
  have hwne : w.takeWhile (· != 46) ≠ [] := by
   cases w with
   | nil => exact absurd rfl hne
   | cons c w =>
    have hc : (c != 46) = true := by
     rw [bne_iff_ne]; intro e; subst e; exact absurd (show dgB 46 = true from hd) (by decide)
    rw [List.takeWhile_cons, if_pos hc]; simp
  rw [h1, hnum, h4, List.drop_drop];unfold decB;rw [<- hwt, qnq _ hwne];generalize (w.takeWhile (· != 46)).length = p at *
  have hpe : allB dgB (w.drop (p + 1)) = (decide (p + 1 < w.length) && (w.drop (p + 1)).all dgB) := by
   unfold allB
   by_cases h : p + 1 < w.length
   ·have : (w.drop (p + 1)).isEmpty = false := by
     cases hh : w.drop (p + 1) with
     | nil => have := congrArg List.length hh; simp at this; omega
     | cons => rfl
    rw [this]; simp [h]
   ·rw [List.drop_of_length_le (by omega)]; simp [h]
  rw [hpe];generalize ((w.takeWhile (· != 46)).getD 0 0 == 48 && decide (1 < p)) = zz;cases allB dgB (w.takeWhile (· != 46)) <;> cases zz <;> cases decide (p + 1 < w.length) <;> cases (w.drop (p + 1)).all dgB <;> rfl
theorem qgw {w : List UInt8} (hne : w ≠ []) : qbs w = if nbB w then .tok 7 (35 :: w) (w.length + 1) else .err 5 := by
 have he : w.isEmpty = false := by cases w with | nil => exact absurd rfl hne | cons => rfl
 unfold qbs;rw [he]
 have key : ((w.getD 0 0 == 120 && allB hxB (w.drop 1)) || (w.getD 0 0 == 98 && allB (fun c => c == 48 || c == 49) (w.drop 1))) = nbB w := by
  unfold nbB allB
  have hlen : decide (2 <= w.length) = !(w.drop 1).isEmpty := by
   cases w with
   | nil => exact absurd rfl hne
   | cons c w => cases w <;> simp
  rw [hlen];generalize w.getD 0 0 = f;generalize w.drop 1 = v
  by_cases h1 : f = 120
  ·subst h1
   have : nbC 120 = hxB := by funext c; simp [nbC]
   rw [this]; simp [Bool.and_comm]
  ·by_cases h2 : f = 98
   ·subst h2
    have : nbC 98 = fun c => c == 48 || c == 49 := by funext c; simp [nbC]
    rw [this]; simp [Bool.and_comm]
   ·have e1 : (f == 120) = false := by simpa using h1
    have e2 : (f == 98) = false := by simpa using h2
    have : nbC f = fun _ => false := by funext c; simp [nbC, e1, e2]
    rw [this, e1, e2];cases v <;> simp
 rw [key];simp
theorem qqf {p : UInt8 -> Bool} {l : List UInt8} {k : Nat} (h : k < l.length) : (l.take (k + 1)).all p = ((l.take k).all p && p l[k]) := by
 rw [List.take_succ_eq_append_getElem h, List.all_append]; simp only [List.all_cons, List.all_nil, Bool.and_true]
theorem qdf (S : ByteArray) (W : World) (hs : S.size <= 1048576) : Calls Tryz.prog 93 #[.string S] W fun e w' => e = .returned (.bool (numB S.data.toList)) /\ W = w' := by
 have hlen : S.data.toList.length = S.size := by simp
 have HLN := Zh hlen;clear hlen;go_enter Tryz.func93, Tryz.ntmps93
 go_wp2_with fail
 go_loopg [3] S.size (fun gk s3 wx => ∃ k : Nat, k + gk = S.size /\ s3 = .int .i64 (k : Int) /\ Hid (wx = W /\ (S.data.toList.take k).all dgB = true))
 case atStart => exact ⟨0, by omega, rfl, Zh ⟨rfl, by simp⟩⟩
 case round =>
  obtain ⟨k, hk, rfl, HI⟩ := hrel;obtain ⟨hw, ha⟩ := HI.o;subst hw;have HG := Zh hk;have HA := Zh ha;have hk2 : k <= S.size := by omega
  clear hk ha HI
  by_cases hlt : k < S.size
  ·have i0 : (0 : Int) <= (k : Int) := by omega
   have i1 : (k : Int) < (S.size : Int) := by omega
   have hget := qcm hlt;have hkl : k < S.data.toList.length := by rw [HLN.o]; exact hlt
   have hgk : S.data.toList[k] = S[k] := by rw [List.getElem?_eq_getElem hkl] at hget; cases hget; rfl
   have HD := Zh (fun W => qc1 S[k] W);have HTK := Zh (qqf (p := dgB) hkl)
   cases q : dgB S[k] with
   | true =>
    have HQ := Zh q;have HGK := Zh hgk;clear q hgk hget
    go_wp2_with fail
    refine (HD.o _).mono ?_;rintro e w1 ⟨rfl, rfl⟩;rw [HQ.o]
    go_wp2_with fail
    go_roundg (gk - 1)
    case measure => have := HG.o; omega
    case rel =>
     obtain ⟨k', hk'⟩ : ∃ k', k' = k + 1 := ⟨_, rfl⟩
     exact ⟨k', by have := HG.o; omega, by rw [hk']; go_num, Zh ⟨rfl, by rw [hk', HTK.o, HA.o, HGK.o, HQ.o]; rfl⟩⟩
   | false =>
    have HR := Zh (show numB S.data.toList = false by
     unfold numB
     have : S.data.toList.all dgB = false := by
      rw [List.all_eq_false]; exact ⟨S.data.toList[k], List.getElem_mem hkl, by rw [hgk, q]; decide⟩
     rw [this]; rfl)
    have HQ := Zh q;clear q hgk hget
    go_wp2_with fail
    refine (HD.o _).mono ?_;rintro e w1 ⟨rfl, rfl⟩;rw [HQ.o]
    go_wp2_with fail
    go_ret
    exact ⟨by rw [HR.o]; rfl, rfl⟩
  ·obtain rfl : k = S.size := by omega
   have hall : S.data.toList.all dgB = true := by have := HA.o; rw [List.take_of_length_le (by rw [HLN.o]; exact Nat.le_refl _)] at this; exact this
   by_cases h0 : 0 < S.size
   ·have e48 : ((S[0].toNat : Int) != 48) = (S[0] != 48) := by
     have e : ((S[0].toNat : Int) == 48) = (S[0] == 48) := qbz 48 (by decide +kernel) _;rw [bne, e]; rfl
    obtain ⟨hz, hz0⟩ := qbe (x := S[0]);have hge := qcr h0
    by_cases h1 : S.size = 1
    ·have HR := Zh (show numB S.data.toList = true by unfold numB; rw [hall, HLN.o, h1]; rfl)
     have g1 : ((S.size : Int) == 1) = true := by rw [h1]; rfl
     clear hall h1 hge e48
     go_wp2_with fail
     go_ret
     exact ⟨by rw [HR.o]; rfl, rfl⟩
    ·have h2 : 1 < S.size := by omega
     have HR := Zh (show numB S.data.toList = (S[0] != 48) by unfold numB; rw [hall, HLN.o, hge]; simp [h1, h2]);have g1 : ((S.size : Int) == 1) = false := by simp; omega
     have g2 : (1 : Int) < (S.size : Int) := by omega
     have g3 : (0 : Int) < (S.size : Int) := by omega
     clear hall hge h1
     go_wp2_with fail
     go_ret
     refine ⟨?_, rfl⟩;rw [HR.o]
     rfl
   ·have hz : S.size = 0 := by omega
    have HR := Zh (show numB S.data.toList = false by unfold numB; rw [hall, HLN.o, hz]; rfl);have g1 : ((S.size : Int) == 1) = false := by rw [hz]; rfl
    have g2 : ¬ (1 : Int) < (S.size : Int) := by omega
    have g3 : decide ((1 : Int) < (S.size : Int)) = false := by simpa using g2
    have g4 : decide (1 < S.size) = false := by simp; omega
    clear hall hz
    go_wp2_with fail
    go_ret
    exact ⟨by rw [HR.o]; rfl, rfl⟩
theorem tw46 (w : List UInt8) (k : Nat) (h : k < w.length) : ((w.drop k).takeWhile (· != 46)).length = if w[k] == 46 then 0 else 1 + ((w.drop (k + 1)).takeWhile (· != 46)).length := by
  rw [List.drop_eq_getElem_cons h, List.takeWhile_cons]
  by_cases e : w[k] = 46
  · simp [e]
  · have h1 : (w[k] != 46) = true := by simpa using e
    have h2 : (w[k] == 46) = false := by simpa using e
    rw [if_pos h1, h2]; simp; omega
theorem qga (S : ByteArray) (W : World) (hs : S.size <= 1048576) : Calls Tryz.prog 94 #[.string S] W fun e w' => e = .returned (.bool (decB S.data.toList)) /\ W = w' := by
  have hlen : S.data.toList.length = S.size := by simp
  have HLN := Zh hlen;generalize hp : (S.data.toList.takeWhile (· != 46)).length = p;have HP := Zh hp;clear hlen hp;go_enter Tryz.func94, Tryz.ntmps94
  go_wp2_with fail
  go_loopg [3] (S.size + 1) (fun gk s3 wx => ∃ k : Nat, S.size + 1 <= k + gk /\ k <= S.size /\ s3 = .int .i64 (k : Int) /\ Hid (wx = W /\ k + ((S.data.toList.drop k).takeWhile (· != 46)).length = p))
  case atStart => exact ⟨0, by omega, by omega, rfl, Zh ⟨rfl, by simpa using HP.o⟩⟩
  case round =>
    obtain ⟨k, hk, hk2, rfl, HI⟩ := hrel;obtain ⟨hw, ha⟩ := HI.o;subst hw;have HG := Zh hk;have HA := Zh ha;clear hk ha HI;have hrest : k = p -> Hid (k = p) := Zh
    by_cases hlt : k < S.size /\ S.data.toList.getD k 0 ≠ 46
    · obtain ⟨hlt, hne⟩ := hlt
      have i0 : (0 : Int) <= (k : Int) := by omega
      have i1 : (k : Int) < (S.size : Int) := by omega
      have hkl : k < S.data.toList.length := by rw [HLN.o]; exact hlt
      have h46 := tw46 S.data.toList k hkl;have hge : S.data.toList[k] = S[k] := by have := qcm hlt; rw [List.getElem?_eq_getElem hkl] at this; cases this; rfl
      rw [qcr hlt] at hne
      have e46 : ((S[k].toNat : Int) != 46) = true := by
        have e : ((S[k].toNat : Int) == 46) = (S[k] == 46) := qbz 46 (by decide +kernel) _;rw [bne, e]; simpa using hne
      have H46 := Zh (show ((S.data.toList.drop k).takeWhile (· != 46)).length = 1 + ((S.data.toList.drop (k + 1)).takeWhile (· != 46)).length by
        rw [h46, hge, if_neg (by simpa using hne)])
      clear h46 hge hne
      go_wp2_with fail
      go_roundg (gk - 1)
      case measure => have := HG.o; omega
      case rel =>
        obtain ⟨k', hk'⟩ : ∃ k', k' = k + 1 := ⟨_, rfl⟩;exact ⟨k', by have := HG.o; omega, by omega, by rw [hk']; go_num, Zh ⟨rfl, by have h1 := HA.o; have h2 := H46.o; rw [hk']; omega⟩⟩
    · have hkp : k = p := by
        have h1 := HA.o
        by_cases hk3 : k < S.size
        · have hkl : k < S.data.toList.length := by rw [HLN.o]; exact hk3
          have h46 := tw46 S.data.toList k hkl
          have he : S.data.toList[k] = 46 := by
            have : ¬ S.data.toList.getD k 0 ≠ 46 := fun h => hlt ⟨hk3, h⟩
            rw [List.getD_eq_getElem?_getD, List.getElem?_eq_getElem hkl] at this
            simpa using this
          rw [h46, he] at h1
          simpa using h1
        · rw [List.drop_of_length_le (by rw [HLN.o]; omega)] at h1
          simpa using h1
      have hstop : (k < S.size /\ ∃ h : k < S.size, ((S[k]'h).toNat : Int) = 46) \/ k = S.size := by
        by_cases hk3 : k < S.size
        · left
          refine ⟨hk3, hk3, ?_⟩;have : ¬ S.data.toList.getD k 0 ≠ 46 := fun h => hlt ⟨hk3, h⟩
          rw [qcr hk3] at this;have h2 : S[k] = 46 := by simpa using this
          rw [h2]; rfl
        · right; omega
      subst hkp;have HST := Zh hstop;clear hlt hstop hrest
      -- the loop ends here
      have HEND : ∀ (a : Act) (w : World), True := fun _ _ => trivial
      clear HEND
      by_cases hk3 : k < S.size
      · obtain ⟨h46, heq⟩ := (HST.o.resolve_right (by omega)).2
        have e46 : ((S[k].toNat : Int) != 46) = false := by rw [bne, heq]; rfl
        have i0 : (0 : Int) <= (k : Int) := by omega
        have i1 : (k : Int) < (S.size : Int) := by omega
        clear heq
        by_cases hge : k + 1 < S.size
        · have g1 : decide ((S.size : Int) - 1 <= (k : Int)) = false := by simp; omega
          have g2 : ¬ (S.size : Int) - 1 <= (k : Int) := by omega
          have i2 : (k : Int) <= (S.size : Int) := by omega
          have hXl : (S.extract 0 k).data.toList = S.data.toList.take k := by rw [qk0]
          have hXs : (S.extract 0 k).size <= 1048576 := by
            have h1 : ∀ Z : ByteArray, Z.data.toList.length = Z.size := fun Z => by simp
            have h2 := h1 (S.extract 0 k);rw [hXl] at h2;have h3 := List.length_take_le k S.data.toList;omega
          have HNM := Zh (fun W => qdf (S.extract 0 k) W hXs);have HXL := Zh hXl
          have hdB := Zh (show decB S.data.toList = (numB (S.data.toList.take k) && (S.data.toList.drop (k + 1)).all dgB) by
            unfold decB; rw [HP.o, HLN.o]; simp [hge])
          clear hXl hXs
          cases q : numB (S.data.toList.take k) with
          | false =>
            have HQ := Zh (show numB (S.extract 0 k).data.toList = false by rw [HXL.o]; exact q);have HR := Zh (show decB S.data.toList = false by rw [hdB.o, q]; rfl);clear q
            go_wp2_with fail
            refine (HNM.o _).mono ?_;rintro e w1 ⟨rfl, rfl⟩;rw [HQ.o]
            go_wp2_with fail
            go_ret
            exact ⟨by rw [HR.o]; rfl, rfl⟩
          | true =>
            have HQ := Zh (show numB (S.extract 0 k).data.toList = true by rw [HXL.o]; exact q);have HR := Zh (show decB S.data.toList = (S.data.toList.drop (k + 1)).all dgB by rw [hdB.o, q]; rfl);clear q
            go_wp2_with fail
            refine (HNM.o _).mono ?_;rintro e w1 ⟨rfl, rfl⟩;rw [HQ.o]
            go_wp2_with fail
            go_loopg [4] S.size (fun ik s4 wx => ∃ j : Nat, S.size <= j + ik /\ j <= S.size /\ s4 = .int .i64 (j : Int) /\ Hid (wx = wr /\ (S.data.toList.drop (k + 1)).all dgB = (S.data.toList.drop j).all dgB))
            case atStart => exact ⟨k + 1, by omega, by omega, by go_num, Zh ⟨rfl, rfl⟩⟩
            case round =>
              obtain ⟨j, hj, hj2, rfl, HI⟩ := hrel;obtain ⟨hw, ha⟩ := HI.o;subst hw;have HJ := Zh hj;have HA2 := Zh ha;clear hj ha HI
              by_cases hjl : j < S.size
              · have m0 : (0 : Int) <= (j : Int) := by omega
                have m1 : (j : Int) < (S.size : Int) := by omega
                have hkl : j < S.data.toList.length := by rw [HLN.o]; exact hjl
                have hgj : S.data.toList[j] = S[j] := by have := qcm hjl; rw [List.getElem?_eq_getElem hkl] at this; cases this; rfl
                have HDJ := Zh (show (S.data.toList.drop j).all dgB = (dgB S[j] && (S.data.toList.drop (j + 1)).all dgB) by
                  rw [List.drop_eq_getElem_cons hkl, List.all_cons, hgj])
                have HD := Zh (fun W => qc1 S[j] W);clear hgj
                cases q : dgB S[j] with
                | true =>
                  have HQ2 := Zh q;clear q
                  go_wp2_with fail
                  refine (HD.o _).mono ?_;rintro e w1 ⟨rfl, rfl⟩;rw [HQ2.o]
                  go_wp2_with fail
                  go_roundg (gk - 1)
                  case measure => have := HJ.o; omega
                  case rel =>
                    obtain ⟨j', hj'⟩ : ∃ j', j' = j + 1 := ⟨_, rfl⟩
                    exact ⟨j', by have := HJ.o; omega, by omega, by rw [hj']; go_num, Zh ⟨rfl, by rw [HA2.o, HDJ.o, HQ2.o, hj']; rfl⟩⟩
                | false =>
                  have HQ2 := Zh q;clear q;have HR2 := Zh (show decB S.data.toList = false by rw [HR.o, HA2.o, HDJ.o, HQ2.o]; rfl)
                  go_wp2_with fail
                  refine (HD.o _).mono ?_;rintro e w1 ⟨rfl, rfl⟩;rw [HQ2.o]
                  go_wp2_with fail
                  go_ret
                  exact ⟨by rw [HR2.o]; rfl, rfl⟩
              · have HR2 := Zh (show decB S.data.toList = true by rw [HR.o, HA2.o, List.drop_of_length_le (by rw [HLN.o]; omega)]; rfl)
                have m1 : ¬ (j : Int) < (S.size : Int) := by omega
                have m2 : decide (j < S.size) = false := by simp; omega
                go_wp2_with fail
                go_ret
                exact ⟨by rw [HR2.o]; rfl, rfl⟩
        · have g1 : decide ((S.size : Int) - 1 <= (k : Int)) = true := by simp; omega
          have g2 : (S.size : Int) - 1 <= (k : Int) := by omega
          have HR := Zh (show decB S.data.toList = false by unfold decB; rw [HP.o, HLN.o]; simp; omega)
          go_wp2_with fail
          go_ret
          exact ⟨by rw [HR.o]; rfl, rfl⟩
      · have hks : k = S.size := by omega
        have g1 : decide ((S.size : Int) - 1 <= (k : Int)) = true := by simp; omega
        have g2 : (S.size : Int) - 1 <= (k : Int) := by omega
        have g3 : ¬ (k : Int) < (S.size : Int) := by omega
        have g4 : decide ((k : Int) < (S.size : Int)) = false := by simpa using g3
        have g5 : decide (k < S.size) = false := by simp; omega
        have HR := Zh (show decB S.data.toList = false by unfold decB; rw [HP.o, HLN.o]; simp; omega);clear hks
        go_wp2_with fail
        go_ret
        exact ⟨by rw [HR.o]; rfl, rfl⟩
theorem hx_i (x : UInt8) (h : dgB x = false) : hxB x = ((decide ((97 : Int) <= (x.toNat : Int)) && decide ((x.toNat : Int) <= 102)) || (decide ((65 : Int) <= (x.toNat : Int)) && decide ((x.toNat : Int) <= 70))) /\ ((x.toNat : Int) == 48) = false /\ ((x.toNat : Int) == 49) = false := by
  have := qdm (p := fun x => dgB x || ((hxB x == ((decide ((97 : Int) <= (x.toNat : Int)) && decide ((x.toNat : Int) <= 102)) || (decide ((65 : Int) <= (x.toNat : Int)) && decide ((x.toNat : Int) <= 70)))) && (!((x.toNat : Int) == 48) && !((x.toNat : Int) == 49)))) (by decide +kernel) x;rw [h] at this;simp only [Bool.false_or, Bool.and_eq_true, Bool.not_eq_true'] at this;exact ⟨eq_of_beq this.1, this.2⟩
theorem qgo (S : ByteArray) (W : World) (hs : S.size <= 1048576) : Calls Tryz.prog 91 #[.string S] W fun e w' => e = .returned (.bool (nbB S.data.toList)) /\ W = w' := by
  have hlen : S.data.toList.length = S.size := by simp
  have HLN := Zh hlen;clear hlen
  by_cases h2 : S.size < 2
  · have g1 : (S.size : Int) < 2 := by omega
    have HR := Zh (show nbB S.data.toList = false by unfold nbB; rw [HLN.o, decide_eq_false (by omega)]; rfl);go_enter Tryz.func91, Tryz.ntmps91
    go_wp2_with fail
    go_ret
    exact ⟨by rw [HR.o]; rfl, rfl⟩
  · have g1 : ¬ (S.size : Int) < 2 := by omega
    have g2 : decide ((S.size : Int) < 2) = false := by simpa using g1
    have g3 : (0 : Int) < (S.size : Int) := by omega
    have h0 : 0 < S.size := by omega
    obtain ⟨hz, hz0⟩ := qbe (x := S[0]);have f120 : ((S[0].toNat : Int) == 120) = (S[0] == 120) := qbz 120 (by decide +kernel) _;have f98 : ((S[0].toNat : Int) == 98) = (S[0] == 98) := qbz 98 (by decide +kernel) _
    have HR := Zh (show nbB S.data.toList = (S.data.toList.drop 1).all (nbC S[0]) by
      unfold nbB; rw [HLN.o, qcr h0, decide_eq_true (by omega)]; rfl)
    go_enter Tryz.func91, Tryz.ntmps91
    go_wp2_with fail
    go_loopg [3, 4, 5, 6] S.size (fun ik s3 s4 s5 s6 wx => ∃ j : Nat, S.size <= j + ik /\ j <= S.size /\ s3 = .int .i64 (j : Int) /\ Hid (wx = W /\ (S.data.toList.drop 1).all (nbC S[0]) = (S.data.toList.drop j).all (nbC S[0])))
    case atStart => exact ⟨1, by omega, by omega, rfl, Zh ⟨rfl, rfl⟩⟩
    case round =>
      obtain ⟨j, hj, hj2, rfl, HI⟩ := hrel;obtain ⟨hw, ha⟩ := HI.o;subst hw;have HJ := Zh hj;have HA2 := Zh ha;clear hj ha HI
      by_cases hjl : j < S.size
      · have m0 : (0 : Int) <= (j : Int) := by omega
        have m1 : (j : Int) < (S.size : Int) := by omega
        have hkl : j < S.data.toList.length := by rw [HLN.o]; exact hjl
        have hgj : S.data.toList[j] = S[j] := by have := qcm hjl; rw [List.getElem?_eq_getElem hkl] at this; cases this; rfl
        have HDJ := Zh (show (S.data.toList.drop j).all (nbC S[0]) = (nbC S[0] S[j] && (S.data.toList.drop (j + 1)).all (nbC S[0])) by
          rw [List.drop_eq_getElem_cons hkl, List.all_cons, hgj])
        obtain ⟨hz2, hz3⟩ := qbe (x := S[j]);have HD := Zh (fun W => qc1 S[j] W);have HX := Zh (hx_i S[j]);have HD2 := Zh (show dgB S[j] = true -> hxB S[j] = true from fun h => by unfold hxB; rw [h]; rfl);have b48 : ((S[j].toNat : Int) == 48) = (S[j] == 48) := qbz 48 (by decide +kernel) _;have b49 : ((S[j].toNat : Int) == 49) = (S[j] == 49) := qbz 49 (by decide +kernel) _;have HB := Zh (aI b48 b49);clear hgj b48 b49
        have hf : (S[0] == 120) = true /\ (S[0] == 98) = false \/ (S[0] == 120) = false /\ (S[0] == 98) = true \/ (S[0] == 120) = false /\ (S[0] == 98) = false := by
          cases h : (S[0] == 120) with
          | true => left; refine ⟨rfl, ?_⟩; rw [eq_of_beq h]; decide
          | false => cases h2 : (S[0] == 98) <;> simp
        have HF := Zh (show nbC S[0] S[j] = ((S[0] == 120 && hxB S[j]) || (S[0] == 98 && (S[j] == 48 || S[j] == 49))) from rfl);rcases hf with ⟨f1, f2⟩ | ⟨f1, f2⟩ | ⟨f1, f2⟩ <;>
        (rw [f1] at f120
         rw [f2] at f98
         cases q : dgB S[j] with
         | true =>
           have HQ := Zh q;have HHX := Zh (HD2.o q);clear q;cases q1 : ((S[j].toNat : Int) == 48) <;> cases q2 : ((S[j].toNat : Int) == 49) <;>
           (have HV := Zh (show nbC S[0] S[j] = _ by rw [HF.o, f1, f2, HHX.o, <- HB.o.1, <- HB.o.2, q1, q2])
            clear f1 f2
            go_wp2_with fail
            refine (HD.o _).mono ?_;rintro e w1 ⟨rfl, rfl⟩;rw [HQ.o]
            go_wp2_with fail
            first
              | (go_roundg (gk - 1)
                 case measure => have := HJ.o; omega
                 case rel =>
                   obtain ⟨j', hj'⟩ : ∃ j', j' = j + 1 := ⟨_, rfl⟩
                   exact ⟨j', by have := HJ.o; omega, by omega, by rw [hj']; go_num, Zh ⟨rfl, by rw [HA2.o, HDJ.o, HV.o, hj']; rfl⟩⟩)
              | (go_ret
                 exact ⟨by rw [HR.o, HA2.o, HDJ.o, HV.o]; rfl, rfl⟩))
         | false =>
           have HQ := Zh q;obtain ⟨x1, x2, x3⟩ := HX.o q;have HX1 := Zh x1;clear q x1;cases q1 : decide ((97 : Int) <= (S[j].toNat : Int)) <;> cases q2 : decide ((S[j].toNat : Int) <= 102) <;> cases q3 : decide ((65 : Int) <= (S[j].toNat : Int)) <;> cases q4 : decide ((S[j].toNat : Int) <= 70) <;>
           (have HV := Zh (show nbC S[0] S[j] = _ by rw [HF.o, f1, f2, HX1.o, <- HB.o.1, <- HB.o.2, x2, x3, q1, q2, q3, q4])
            clear f1 f2
            go_wp2_with fail
            refine (HD.o _).mono ?_;rintro e w1 ⟨rfl, rfl⟩;rw [HQ.o]
            go_wp2_with fail
            first
              | (go_roundg (gk - 1)
                 case measure => have := HJ.o; omega
                 case rel =>
                   obtain ⟨j', hj'⟩ : ∃ j', j' = j + 1 := ⟨_, rfl⟩
                   exact ⟨j', by have := HJ.o; omega, by omega, by rw [hj']; go_num, Zh ⟨rfl, by rw [HA2.o, HDJ.o, HV.o, hj']; rfl⟩⟩)
              | (go_ret
                 exact ⟨by rw [HR.o, HA2.o, HDJ.o, HV.o]; rfl, rfl⟩)))
      · have HR2 := Zh (show nbB S.data.toList = true by rw [HR.o, HA2.o, List.drop_of_length_le (by rw [HLN.o]; omega)]; rfl)
        have m1 : ¬ (j : Int) < (S.size : Int) := by omega
        have m2 : decide (j < S.size) = false := by simp; omega
        clear f120 f98
        go_wp2_with fail
        go_ret
        exact ⟨by rw [HR2.o]; rfl, rfl⟩
def QuoP (r : Res) (W : World) (e : Ending) (w' : World) : Prop := W = w' /\ match r with
 | .tok _ t n => ∃ X : ByteArray, e = .returned (.tuple #[.string X, .int .i64 (n : Int), .int .i64 0]) /\ X.data.toList = t
 | .err er => ∃ X : ByteArray, e = .returned (.tuple #[.string X, .int .i64 0, .int .i64 (er : Int)])
theorem qc7 (A B : ByteArray) : (A ++ B).data.toList = A.data.toList ++ B.data.toList := by simp
theorem qnj {bs : List UInt8} {i : Nat} (h : i < bs.length) : (⟨((bs.drop i).take (i + 1 - i)).toArray⟩ : ByteArray).data.toList = [bs[i]] := by
 have e : (bs.drop i).take (i + 1 - i) = [bs[i]] := by rw [show i + 1 - i = 1 by omega, List.drop_eq_getElem_cons h]; rfl
 rw [e]
theorem qll (p : Option Addr) (c : Nat) (bs : List UInt8) (a : Nat) (W : World) (hb : BytesIn W p bs) (hk : bs.length <= c) (ha : a < bs.length) (hn : bs.length <= 1048576) :
  Calls Tryz.prog 89 #[.slice p bs.length c, .int .i64 (a : Int), .int .u8 124] W (QuoP (quo [] (bs.drop (a + 1))) W) := by
 have HB := Zh hb;have HKc := Zh hk;generalize hQ : quo [] (bs.drop (a + 1)) = Q;have HQ := Zh hQ;obtain ⟨n, hnl⟩ : ∃ n, n = bs.length := ⟨_, rfl⟩;have HL := Zh hnl;rw [<- hnl] at ha hn hk ⊢;clear hb hnl hQ;go_enter Tryz.func89, Tryz.ntmps89
 go_wp2_with fail
 obtain ⟨P, hP⟩ : ∃ P, P = a + 1 := ⟨_, rfl⟩;have hPi : (a : Int) + 1 = (P : Int) := by omega
 rw [hPi];have HP := Zh hP;have HQ2 := Zh (show quo [] (bs.drop P) = Q by rw [hP]; exact HQ.o);clear hP hPi HQ
 go_loopg [9, 10, 11] (n + 1) (fun gk s9 s10 s11 wx => ∃ (i : Nat) (Y : ByteArray), n + 1 <= i + gk /\ i <= n /\ s10 = .int .i64 (i : Int) /\ s9 = .string Y /\ Hid (wx = W /\ P <= i /\ Y.data.toList.length + P = i /\ quo Y.data.toList (bs.drop i) = Q))
 case atStart => exact ⟨P, ⟨#[]⟩, by omega, by have := HP.o; omega, rfl, rfl, Zh ⟨rfl, Nat.le_refl _, by simp, HQ2.o⟩⟩
 case round =>
  obtain ⟨i, Y, hg, hi, rfl, rfl, HI⟩ := hrel;obtain ⟨hw, hPi, hYl, hq⟩ := HI.o;subst hw;have HG := Zh hg;have HE := Zh hq;have HY := Zh hYl;have HPI := Zh hPi
  have hYs : Y.size <= 1048576 := by
   have h1 : Y.data.toList.length = Y.size := by simp
   omega
  clear hg hq hYl hPi HI
  by_cases hlt : i < n
  ·have i0 : (0 : Int) <= (i : Int) := by omega
   have i1 : (i : Int) < (n : Int) := by omega
   have hib : i < bs.length := by have := HL.o; omega
   have hd := qbf hib;obtain ⟨b, off, rfl, cb⟩ := HB.o i hib;obtain ⟨V, hsl, hcv0⟩ := qb2 wr _ bs c i (i + 1) HB.o (by omega) (by omega) HKc.o;have hcv := hcv0 wr (Below.refl _ _);have hos := qnj hib;rw [<- HL.o, show ((i + 1 : Nat) : Int) = (i : Int) + 1 by omega] at hsl;generalize hZ : (⟨((bs.drop i).take (i + 1 - i)).toArray⟩ : ByteArray) = Z at hcv hos;obtain ⟨hz, hz0⟩ := qbe (x := bs[i]);have e124 : ((bs[i].toNat : Int) == 124) = (bs[i] == 124) := qbz 124 (by decide +kernel) _;have e92 : ((bs[i].toNat : Int) == 92) = (bs[i] == 92) := qbz 92 (by decide +kernel) _;generalize bs[i] = x at *;have HD := Zh hd;have HOS := Zh hos;have HIN := Zh (fun W => qiu x W)
   have hZs : Z.size <= 1 := by
    have h1 : Z.data.toList.length = Z.size := by simp
    rw [<- h1, hos]; simp
   clear hd hos hcv0 hZ
   cases q1 : (x == 124) with
   | true =>
    rw [q1] at e124
    have HRES := Zh (show Q = .tok 3 Y.data.toList (Y.data.toList.length + 2) by
     have := HE.o; rw [HD.o] at this; simp only [quo, q1, if_true] at this; exact this.symm)
    clear q1 e92;have hle : (a : Int) <= (i : Int) := by have := HPI.o; have := HP.o; omega
    go_wp2_with fail
    go_ret3
    refine ⟨rfl, ?_⟩;rw [HRES.o];refine ⟨Y, ?_, rfl⟩;have hnum : ((Y.data.toList.length + 2 : Nat) : Int) = (i : Int) + 1 - (a : Int) := by have := HY.o; have := HP.o; omega
    rw [hnum]; rfl
   | false =>
    rw [q1] at e124
    cases q3 : txB x with
    | false =>
     have HRES := Zh (show Q = .err 30 by
      have := HE.o; rw [HD.o] at this; simp only [quo, q1, q3] at this; simpa using this.symm)
     have HQ3 := Zh q3;clear q1 q3
     go_wp2_with fail
     refine (HIN.o _).mono ?_;rintro e w1 ⟨rfl, rfl⟩;rw [HQ3.o]
     go_wp2_with fail
     go_ret3
     exact ⟨rfl, by rw [HRES.o]; exact ⟨_, rfl⟩⟩
    | true =>
     have HQ3 := Zh q3
     cases q2 : (x == 92) with
     | true =>
      rw [q2] at e92
      have HRES := Zh (show Q = .err 30 by
       have := HE.o; rw [HD.o] at this; simp only [quo, q1, q2] at this; simpa using this.symm)
      clear q1 q2 q3
      go_wp2_with fail
      refine (HIN.o _).mono ?_;rintro e w1 ⟨rfl, rfl⟩;rw [HQ3.o]
      go_wp2_with fail
      go_ret3
      exact ⟨rfl, by rw [HRES.o]; exact ⟨_, rfl⟩⟩
     | false =>
      rw [q2] at e92
      have HRES := Zh (show quo (Y.data.toList ++ [x]) (bs.drop (i + 1)) = Q by
       have := HE.o; rw [HD.o] at this; simp only [quo, q1, q2, q3] at this; simpa using this)
      clear q1 q2 q3
      go_wp2_with fail
      refine (HIN.o _).mono ?_;rintro e w1 ⟨rfl, rfl⟩;rw [HQ3.o]
      go_wp2_with fail
      go_roundg (gk - 1)
      case measure => have := HG.o; omega
      case rel =>
       obtain ⟨i', hi'⟩ : ∃ i', i' = i + 1 := ⟨_, rfl⟩;have h1 := HY.o;have h2 := HPI.o;refine ⟨i', _, by have := HG.o; omega, by omega, by rw [hi']; go_num, rfl, Zh ⟨rfl, by omega, ?_, ?_⟩⟩
       ·rw [qc7, HOS.o]; simp only [List.length_append, List.length_cons, List.length_nil]; omega
       ·rw [qc7, HOS.o, hi']; exact HRES.o
  ·have HRES := Zh (show Q = .err 31 by
    have := HE.o; rw [List.drop_of_length_le (show bs.length <= i by have := HL.o; omega)] at this; simp only [quo] at this; exact this.symm)
   have i1 : ¬ (i : Int) < (n : Int) := by omega
   go_wp2_with fail
   go_ret3
   exact ⟨rfl, by rw [HRES.o]; exact ⟨_, rfl⟩⟩
theorem qjd (p : Option Addr) (c : Nat) (bs : List UInt8) (a : Nat) (W : World) (hb : BytesIn W p bs) (hk : bs.length <= c) (ha : a < bs.length) (hn : bs.length <= 1048576) :
  Calls Tryz.prog 89 #[.slice p bs.length c, .int .i64 (a : Int), .int .u8 34] W (QuoP (lit false [] 1 (bs.drop (a + 1))) W) := by
 have HB := Zh hb;have HKc := Zh hk;generalize hQ : lit false [] 1 (bs.drop (a + 1)) = Q;have HQ := Zh hQ;obtain ⟨n, hnl⟩ : ∃ n, n = bs.length := ⟨_, rfl⟩;have HL := Zh hnl;rw [<- hnl] at ha hn hk ⊢;clear hb hnl hQ;go_enter Tryz.func89, Tryz.ntmps89
 go_wp2_with fail
 obtain ⟨P, hP⟩ : ∃ P, P = a + 1 := ⟨_, rfl⟩;have hPi : (a : Int) + 1 = (P : Int) := by omega
 rw [hPi];have HP := Zh hP;have HQ2 := Zh (show lit false [] (P - a) (bs.drop P) = Q by rw [hP, Nat.add_sub_cancel_left]; exact HQ.o);clear hP hPi HQ
 go_loopg [9, 10, 11] (n + 1) (fun gk s9 s10 s11 wx => ∃ (i : Nat) (Y : ByteArray), n + 1 <= i + gk /\ i <= n /\ s10 = .int .i64 (i : Int) /\ s9 = .string Y /\ Hid (wx = W /\ P <= i /\ Y.data.toList.length + P <= i /\ lit false Y.data.toList (i - a) (bs.drop i) = Q))
 case atStart => exact ⟨P, ⟨#[]⟩, by omega, by have := HP.o; omega, rfl, rfl, Zh ⟨rfl, Nat.le_refl _, by simp, HQ2.o⟩⟩
 case round =>
  obtain ⟨i, Y, hg, hi, rfl, rfl, HI⟩ := hrel;obtain ⟨hw, hPi, hYl, hq⟩ := HI.o;subst hw;have HG := Zh hg;have HE := Zh hq;have HY := Zh hYl;have HPI := Zh hPi
  have hYs : Y.size <= 1048576 := by
   have h1 : Y.data.toList.length = Y.size := by simp
   omega
  clear hg hq hYl hPi HI
  by_cases hlt : i < n
  ·have i0 : (0 : Int) <= (i : Int) := by omega
   have i1 : (i : Int) < (n : Int) := by omega
   have hib : i < bs.length := by have := HL.o; omega
   have hd := qbf hib;obtain ⟨b, off, rfl, cb⟩ := HB.o i hib;obtain ⟨V, hsl, hcv0⟩ := qb2 wr _ bs c i (i + 1) HB.o (by omega) (by omega) HKc.o;have hcv := hcv0 wr (Below.refl _ _);have hos := qnj hib;rw [<- HL.o, show ((i + 1 : Nat) : Int) = (i : Int) + 1 by omega] at hsl;generalize hZ : (⟨((bs.drop i).take (i + 1 - i)).toArray⟩ : ByteArray) = Z at hcv hos;obtain ⟨hz, hz0⟩ := qbe (x := bs[i]);have e34 : ((bs[i].toNat : Int) == 34) = (bs[i] == 34) := qbz 34 (by decide +kernel) _;generalize bs[i] = x at *;have HD := Zh hd;have HOS := Zh hos;have HIN := Zh (fun W => qiu x W)
   have hZs : Z.size <= 1 := by
    have h1 : Z.data.toList.length = Z.size := by simp
    rw [<- h1, hos]; simp
   clear hd hos hcv0 hZ;have hai : a < i := by have := HPI.o; have := HP.o; omega
   cases q1 : (x == 34) with
   | true =>
    rw [q1] at e34;have hx : x = 34 := eq_of_beq q1;have ht34 : txB 34 = true := by decide
    have HE2 := Zh (show lit true Y.data.toList (i + 1 - a) (bs.drop (i + 1)) = Q by
     have := HE.o; rw [HD.o, hx] at this; simp only [lit, ht34] at this
     rw [show i + 1 - a = i - a + 1 by omega]; simpa using this)
    have hle : (a : Int) <= (i : Int) := by omega
    have HX := Zh hx;clear q1 hx ht34
    by_cases hlt2 : i + 1 < n
    ·have hib2 : i + 1 < bs.length := by have := HL.o; omega
     have hd2 := qbf hib2;obtain ⟨b2, off2, e2, cb2⟩ := HB.o (i + 1) hib2;cases e2;have i2 : (i : Int) + 1 < (n : Int) := by omega
     have i3 : ((i : Int) + 1).toNat = i + 1 := by omega
     obtain ⟨hz2, hz3⟩ := qbe (x := bs[i + 1]);have e342 : ((bs[i + 1].toNat : Int) == 34) = (bs[i + 1] == 34) := qbz 34 (by decide +kernel) _;generalize bs[i + 1] = x2 at *;have HD2 := Zh hd2;clear hd2
     cases q2 : (x2 == 34) with
     | true =>
      rw [q2] at e342
      have HRES := Zh (show lit false (Y.data.toList ++ [x]) (i + 2 - a) (bs.drop (i + 2)) = Q by
       have := HE2.o; rw [HD2.o] at this; simp only [lit, q2] at this
       rw [HX.o, show i + 2 - a = i + 1 - a + 1 by omega]; simpa using this)
      clear q2
      go_wp2_with fail
      go_roundg (gk - 2)
      case measure => have := HG.o; omega
      case rel =>
       obtain ⟨i', hi'⟩ : ∃ i', i' = i + 2 := ⟨_, rfl⟩;have h1 := HY.o;have h2 := HPI.o;refine ⟨i', _, by have := HG.o; omega, by omega, by rw [hi']; go_num, rfl, Zh ⟨rfl, by omega, ?_, ?_⟩⟩
       ·rw [qc7, HOS.o]; simp only [List.length_append, List.length_cons, List.length_nil]; omega
       ·rw [qc7, HOS.o, hi']; exact HRES.o
     | false =>
      rw [q2] at e342
      have HRES := Zh (show Q = .tok 5 Y.data.toList (i + 1 - a) by
       have := HE2.o; rw [HD2.o] at this; simp only [lit, q2] at this; simpa using this.symm)
      clear q2
      go_wp2_with fail
      go_ret3
      refine ⟨rfl, ?_⟩;rw [HRES.o];refine ⟨Y, ?_, rfl⟩;have hnum : ((i + 1 - a : Nat) : Int) = (i : Int) + 1 - (a : Int) := by omega
      rw [hnum]; rfl
    ·have HRES := Zh (show Q = .tok 5 Y.data.toList (i + 1 - a) by
      have := HE2.o; rw [List.drop_of_length_le (show bs.length <= i + 1 by have := HL.o; omega)] at this; simp only [lit] at this; exact this.symm)
     have i2 : ¬ (i : Int) + 1 < (n : Int) := by omega
     have i3 : decide ((i : Int) + 1 < (n : Int)) = false := by simpa using i2
     go_wp2_with fail
     go_ret3
     refine ⟨rfl, ?_⟩;rw [HRES.o];refine ⟨Y, ?_, rfl⟩;have hnum : ((i + 1 - a : Nat) : Int) = (i : Int) + 1 - (a : Int) := by omega
     rw [hnum]; rfl
   | false =>
    rw [q1] at e34
    cases q3 : txB x with
    | false =>
     have HRES := Zh (show Q = .err 30 by
      have := HE.o; rw [HD.o] at this; simp only [lit, q3] at this; simpa using this.symm)
     have HQ3 := Zh q3;clear q1 q3
     go_wp2_with fail
     refine (HIN.o _).mono ?_;rintro e w1 ⟨rfl, rfl⟩;rw [HQ3.o]
     go_wp2_with fail
     go_ret3
     exact ⟨rfl, by rw [HRES.o]; exact ⟨_, rfl⟩⟩
    | true =>
     have HQ3 := Zh q3
     have HRES := Zh (show lit false (Y.data.toList ++ [x]) (i + 1 - a) (bs.drop (i + 1)) = Q by
      have := HE.o; rw [HD.o] at this; simp only [lit, q1, q3] at this
      rw [show i + 1 - a = i - a + 1 by omega]; simpa using this)
     clear q1 q3
     go_wp2_with fail
     refine (HIN.o _).mono ?_;rintro e w1 ⟨rfl, rfl⟩;rw [HQ3.o]
     go_wp2_with fail
     go_roundg (gk - 1)
     case measure => have := HG.o; omega
     case rel =>
      obtain ⟨i', hi'⟩ : ∃ i', i' = i + 1 := ⟨_, rfl⟩;have h1 := HY.o;have h2 := HPI.o;refine ⟨i', _, by have := HG.o; omega, by omega, by rw [hi']; go_num, rfl, Zh ⟨rfl, by omega, ?_, ?_⟩⟩
      ·rw [qc7, HOS.o]; simp only [List.length_append, List.length_cons, List.length_nil]; omega
      ·rw [qc7, HOS.o, hi']; exact HRES.o
  ·have HRES := Zh (show Q = .err 31 by
    have := HE.o; rw [List.drop_of_length_le (show bs.length <= i by have := HL.o; omega)] at this; simp only [lit] at this; exact this.symm)
   have i1 : ¬ (i : Int) < (n : Int) := by omega
   go_wp2_with fail
   go_ret3
   exact ⟨rfl, by rw [HRES.o]; exact ⟨_, rfl⟩⟩
def OneP (r : Res) (a : Nat) (W : World) (e : Ending) (w' : World) : Prop := Below W.heap.size W w' /\ match r with
 | .tok k t n => ∃ X : ByteArray, e = .returned (.tuple #[.agg #[.int .u8 (k : Int), .string X, .int .i64 (a : Int)], .int .i64 (n : Int), .int .i64 0]) /\ X.data.toList = t
 | .err er => ∃ (k m : Int) (X : ByteArray), e = .returned (.tuple #[.agg #[.int .u8 k, .string X, .int .i64 (a : Int)], .int .i64 m, .int .i64 (er : Int)])
def oneW (W : World) (a : Nat) : World := (W.alloc (.cells #[.int .u8 0, .string ⟨#[]⟩, .int .i64 0] 32)).alloc (.cells #[.int .u8 0, .string ⟨#[]⟩, .int .i64 (a : Int)] 32)
theorem qbl (W : World) (a : Nat) : Below W.heap.size W (oneW W a) := (qab W _).alloc (by simp) _
theorem qoc {S : ByteArray} {w : List UInt8} (h : S.data.toList = w) : ((⟨#[35]⟩ : ByteArray) ++ S).data.toList = 35 :: w := by rw [qhn h]
theorem qpj (p : Option Addr) (c : Nat) (bs : List UInt8) (a : Nat) (W : World) (hb : BytesIn W p bs) (hk : bs.length <= c) (ha : a < bs.length) (_hn : bs.length <= 1048576) (hxx : bs[a] = 40) :
  Calls Tryz.prog 61 #[.slice p bs.length c, .int .i64 (a : Int)] W (OneP (oneR (bs.drop a)) a W) := by
 have HDR := Zh (qbf ha);have hx : (bs[a].toNat : Int) = 40 := by rw [hxx]; rfl
 rw [hxx] at HDR;obtain ⟨b, off, rfl, cb⟩ := hb a ha;rw [hx] at cb;obtain ⟨n, hnl⟩ : ∃ n, n = bs.length := ⟨_, rfl⟩;have HL := Zh hnl;have HB := Zh (hb.later (qbl W a));have HKc := Zh hk;clear hxx hx;have HA := Zh ha;rw [<- hnl] at hk ⊢;have i0 : (0 : Int) <= (a : Int) := by omega
 have i1 : (a : Int) < (n : Int) := by omega
 have hlb : b < W.heap.size := World.block_lt_of_cell? W _ cb;clear hb hnl ha;have HONE := Zh (show oneR (bs.drop a) = .tok 1 [40] 1 by rw [HDR.o]; rfl);go_enter Tryz.func61, Tryz.ntmps61
 go_wp2_with fail
 refine bodyPost_ret (v := .tuple #[.agg #[.int .u8 1, .string ⟨#[40]⟩, .int .i64 (a : Int)], .int .i64 1, .int .i64 0]) (by simp [results, Tryz.results61, go_sem]) rfl ⟨(qab W _).alloc (by simp) _, ?_⟩;rw [HONE.o];exact ⟨_, rfl, rfl⟩
theorem qnm (p : Option Addr) (c : Nat) (bs : List UInt8) (a : Nat) (W : World) (hb : BytesIn W p bs) (hk : bs.length <= c) (ha : a < bs.length) (_hn : bs.length <= 1048576) (hxx : bs[a] = 41) :
  Calls Tryz.prog 61 #[.slice p bs.length c, .int .i64 (a : Int)] W (OneP (oneR (bs.drop a)) a W) := by
 have HDR := Zh (qbf ha);have hx : (bs[a].toNat : Int) = 41 := by rw [hxx]; rfl
 rw [hxx] at HDR;obtain ⟨b, off, rfl, cb⟩ := hb a ha;rw [hx] at cb;obtain ⟨n, hnl⟩ : ∃ n, n = bs.length := ⟨_, rfl⟩;have HL := Zh hnl;have HB := Zh (hb.later (qbl W a));have HKc := Zh hk;clear hxx hx;have HA := Zh ha;rw [<- hnl] at hk ⊢;have i0 : (0 : Int) <= (a : Int) := by omega
 have i1 : (a : Int) < (n : Int) := by omega
 have hlb : b < W.heap.size := World.block_lt_of_cell? W _ cb;clear hb hnl ha;have HONE := Zh (show oneR (bs.drop a) = .tok 2 [41] 1 by rw [HDR.o]; rfl);go_enter Tryz.func61, Tryz.ntmps61
 go_wp2_with fail
 refine bodyPost_ret (v := .tuple #[.agg #[.int .u8 2, .string ⟨#[41]⟩, .int .i64 (a : Int)], .int .i64 1, .int .i64 0]) (by simp [results, Tryz.results61, go_sem]) rfl ⟨(qab W _).alloc (by simp) _, ?_⟩;rw [HONE.o];exact ⟨_, rfl, rfl⟩
theorem qrf (p : Option Addr) (c : Nat) (bs : List UInt8) (a : Nat) (W : World) (hb : BytesIn W p bs) (hk : bs.length <= c) (ha : a < bs.length) (hn : bs.length <= 1048576) (hxx : bs[a] = 124) :
  Calls Tryz.prog 61 #[.slice p bs.length c, .int .i64 (a : Int)] W (OneP (oneR (bs.drop a)) a W) := by
 have HDR := Zh (qbf ha);have hx : (bs[a].toNat : Int) = 124 := by rw [hxx]; rfl
 rw [hxx] at HDR;obtain ⟨b, off, rfl, cb⟩ := hb a ha;rw [hx] at cb;obtain ⟨n, hnl⟩ : ∃ n, n = bs.length := ⟨_, rfl⟩;have HL := Zh hnl;have HB := Zh (hb.later (qbl W a));have HKc := Zh hk;clear hxx hx;have HA := Zh ha;rw [<- hnl] at hn hk ⊢;have i0 : (0 : Int) <= (a : Int) := by omega
 have i1 : (a : Int) < (n : Int) := by omega
 have hlb : b < W.heap.size := World.block_lt_of_cell? W _ cb;clear hb hnl ha;have hone : oneR (bs.drop a) = quo [] (bs.drop (a + 1)) := by rw [HDR.o]; rfl
 have hcall := qll (some ⟨b, off, none⟩) c bs a _ HB.o HKc.o HA.o (by rw [<- HL.o]; exact hn);rw [<- HL.o] at hcall;have hkind : ∀ k t m, quo [] (bs.drop (a + 1)) = .tok k t m -> k = 3 := fun k t m h => (qpd _ _ h).1
 generalize quo [] (bs.drop (a + 1)) = Q at *;have HONE := Zh hone;have HC := Zh hcall;have HKD := Zh hkind;clear hone hcall hkind;go_enter Tryz.func61, Tryz.ntmps61
 go_wp2_with fail
 refine HC.o.mono ?_;rintro e w1 ⟨rfl, hres⟩;unfold oneW
 match Q, HONE, hres, HKD with
 | .tok k t m, HONE, hres, HKD =>
  obtain ⟨X, rfl, hX⟩ := hres;have hk5 := HKD.o k t m rfl;subst hk5;have HX := Zh hX;clear hX
  go_wp2_with fail
  refine bodyPost_ret (v := .tuple #[.agg #[.int .u8 ((3 : Nat) : Int), .string X, .int .i64 (a : Int)], .int .i64 (m : Int), .int .i64 0]) (by simp [results, Tryz.results61, go_sem]) rfl ⟨(qab W _).alloc (by simp) _, ?_⟩;rw [HONE.o]
  exact ⟨_, rfl, HX.o⟩
 | .err er, HONE, hres, HKD =>
  obtain ⟨X, rfl⟩ := hres
  go_wp2_with fail
  refine bodyPost_ret (v := .tuple #[.agg #[.int .u8 3, .string X, .int .i64 (a : Int)], .int .i64 0, .int .i64 (er : Int)]) (by simp [results, Tryz.results61, go_sem]) rfl ⟨(qab W _).alloc (by simp) _, ?_⟩;rw [HONE.o];exact ⟨_, _, _, rfl⟩
theorem qpk (p : Option Addr) (c : Nat) (bs : List UInt8) (a : Nat) (W : World) (hb : BytesIn W p bs) (hk : bs.length <= c) (ha : a < bs.length) (hn : bs.length <= 1048576) (hxx : bs[a] = 34) :
  Calls Tryz.prog 61 #[.slice p bs.length c, .int .i64 (a : Int)] W (OneP (oneR (bs.drop a)) a W) := by
 have HDR := Zh (qbf ha);have hx : (bs[a].toNat : Int) = 34 := by rw [hxx]; rfl
 rw [hxx] at HDR;obtain ⟨b, off, rfl, cb⟩ := hb a ha;rw [hx] at cb;obtain ⟨n, hnl⟩ : ∃ n, n = bs.length := ⟨_, rfl⟩;have HL := Zh hnl;have HB := Zh (hb.later (qbl W a));have HKc := Zh hk;clear hxx hx;have HA := Zh ha;rw [<- hnl] at hn hk ⊢;have i0 : (0 : Int) <= (a : Int) := by omega
 have i1 : (a : Int) < (n : Int) := by omega
 have hlb : b < W.heap.size := World.block_lt_of_cell? W _ cb;clear hb hnl ha;have hone : oneR (bs.drop a) = lit false [] 1 (bs.drop (a + 1)) := by rw [HDR.o]; rfl
 have hcall := qjd (some ⟨b, off, none⟩) c bs a _ HB.o HKc.o HA.o (by rw [<- HL.o]; exact hn);rw [<- HL.o] at hcall;have hkind : ∀ k t m, lit false [] 1 (bs.drop (a + 1)) = .tok k t m -> k = 5 := fun k t m h => (qlx _ _ _ _ h).1
 generalize lit false [] 1 (bs.drop (a + 1)) = Q at *;have HONE := Zh hone;have HC := Zh hcall;have HKD := Zh hkind;clear hone hcall hkind;go_enter Tryz.func61, Tryz.ntmps61
 go_wp2_with fail
 refine HC.o.mono ?_;rintro e w1 ⟨rfl, hres⟩;unfold oneW
 match Q, HONE, hres, HKD with
 | .tok k t m, HONE, hres, HKD =>
  obtain ⟨X, rfl, hX⟩ := hres;have hk5 := HKD.o k t m rfl;subst hk5;have HX := Zh hX;clear hX
  go_wp2_with fail
  refine bodyPost_ret (v := .tuple #[.agg #[.int .u8 ((5 : Nat) : Int), .string X, .int .i64 (a : Int)], .int .i64 (m : Int), .int .i64 0]) (by simp [results, Tryz.results61, go_sem]) rfl ⟨(qab W _).alloc (by simp) _, ?_⟩;rw [HONE.o]
  exact ⟨_, rfl, HX.o⟩
 | .err er, HONE, hres, HKD =>
  obtain ⟨X, rfl⟩ := hres
  go_wp2_with fail
  refine bodyPost_ret (v := .tuple #[.agg #[.int .u8 5, .string X, .int .i64 (a : Int)], .int .i64 0, .int .i64 (er : Int)]) (by simp [results, Tryz.results61, go_sem]) rfl ⟨(qab W _).alloc (by simp) _, ?_⟩;rw [HONE.o];exact ⟨_, _, _, rfl⟩
theorem qre (p : Option Addr) (c : Nat) (bs : List UInt8) (a : Nat) (W : World) (hb : BytesIn W p bs) (hk : bs.length <= c) (ha : a < bs.length) (hn : bs.length <= 1048576) (hxx : bs[a] = 58) :
  Calls Tryz.prog 61 #[.slice p bs.length c, .int .i64 (a : Int)] W (OneP (oneR (bs.drop a)) a W) := by
 have HDR := Zh (qbf ha);have hx : (bs[a].toNat : Int) = 58 := by rw [hxx]; rfl
 rw [hxx] at HDR;obtain ⟨b, off, rfl, cb⟩ := hb a ha;rw [hx] at cb;obtain ⟨n, hnl⟩ : ∃ n, n = bs.length := ⟨_, rfl⟩;have HL := Zh hnl;have HB := Zh (hb.later (qbl W a));have HB0 := Zh hb;have HKc := Zh hk;clear hxx hx;have HA := Zh ha;rw [<- hnl] at hn hk ⊢;have i0 : (0 : Int) <= (a : Int) := by omega
 have i1 : (a : Int) < (n : Int) := by omega
 have hlb : b < W.heap.size := World.block_lt_of_cell? W _ cb;clear hb hnl ha;have hw := qdc (some ⟨b, off, none⟩) c bs (a + 1) (oneW W a) HB.o HA.o (by rw [<- HL.o]; exact hn);rw [<- HL.o, show ((a + 1 : Nat) : Int) = (a : Int) + 1 by omega] at hw;have hlw := qc9 (bs.drop (a + 1));rw [List.length_drop, <- HL.o] at hlw;obtain ⟨V, hsl, hcv0⟩ := qb2 W (some ⟨b, off, none⟩) bs c (a + 1) (a + 1 + (qas (bs.drop (a + 1))).length) (by intro i hi; obtain ⟨b', off', e, h⟩ := HB0.o i hi; exact ⟨b', off', e, h⟩) (by omega) (by rw [<- HL.o]; have := HA.o; rw [<- HL.o] at this; omega) HKc.o;have hcv := hcv0 (oneW W a) (qbl W a);rw [show a + 1 + (qas (bs.drop (a + 1))).length - (a + 1) = (qas (bs.drop (a + 1))).length by omega, qds] at hcv;rw [<- HL.o, show ((a + 1 + (qas (bs.drop (a + 1))).length : Nat) : Int) = (a : Int) + 1 + ((qas (bs.drop (a + 1))).length : Int) by omega, show ((a + 1 : Nat) : Int) = (a : Int) + 1 by omega] at hsl;have hone : oneR (bs.drop a) = keyR (qas (bs.drop (a + 1))) := by rw [HDR.o]; rfl
 generalize qas (bs.drop (a + 1)) = w at *;obtain ⟨X, hX, hX1, hX2⟩ := qgm w;rw [hX] at hcv;have HX := Zh (aI hX1 hX2);have HONE0 := Zh hone;have HW := Zh hw;have hlw2 : w.length <= 1048576 := by omega
 clear hone hw hcv0 hX hX1;rw [<- hX2] at hlw hlw2 hsl HW;generalize hN : X.size = N at *;have HN := Zh hN;unfold oneW at hcv;have j0 : (0 : Int) <= (N : Int) := by omega
 have j1 : (N : Int) <= 1048576 := by omega
 clear hX2 hN hlw
 by_cases h0 : N = 0
 ·subst h0
  have HONE := Zh (show oneR (bs.drop a) = .err 30 by
   rw [HONE0.o]; unfold keyR;have : w = [] := List.eq_nil_of_length_eq_zero HX.o.2.symm
   rw [this]; rfl)
  go_enter Tryz.func61, Tryz.ntmps61
  go_wp2_with fail
  refine HW.o.mono ?_;rintro e w1 ⟨rfl, rfl⟩;unfold oneW
  go_wp2_with fail
  refine bodyPost_ret (v := .tuple #[.agg #[.int .u8 0, .string ⟨#[]⟩, .int .i64 (a : Int)], .int .i64 0, .int .i64 30]) (by simp [results, Tryz.results61, go_sem]) rfl ⟨(qab W _).alloc (by simp) _, ?_⟩;rw [HONE.o];exact ⟨_, _, _, rfl⟩
 ·have g0 : ((N : Int) == 0) = false := by simp; omega
  have HONE := Zh (show oneR (bs.drop a) = .tok 6 w (w.length + 1) by
   rw [HONE0.o]; unfold keyR
   cases hw0 : w with
   | nil => have := HX.o.2; rw [hw0] at this; simp at this; omega
   | cons => rfl)
  have HNW := Zh (show ((w.length + 1 : Nat) : Int) = (N : Int) + 1 by have := HX.o.2; omega);clear h0;go_enter Tryz.func61, Tryz.ntmps61
  go_wp2_with fail
  refine HW.o.mono ?_;rintro e w1 ⟨rfl, rfl⟩;unfold oneW
  go_wp2_with fail
  rw [<- HNW.o];refine bodyPost_ret (v := .tuple #[.agg #[.int .u8 6, .string X, .int .i64 (a : Int)], .int .i64 ((w.length + 1 : Nat) : Int), .int .i64 0]) (by simp [results, Tryz.results61, go_sem]) rfl ⟨(qab W _).alloc (by simp) _, ?_⟩;rw [HONE.o];exact ⟨_, rfl, HX.o.1⟩
theorem qpl (p : Option Addr) (c : Nat) (bs : List UInt8) (a : Nat) (W : World) (hb : BytesIn W p bs) (hk : bs.length <= c) (ha : a < bs.length) (hn : bs.length <= 1048576) (hxx : bs[a] = 35) :
  Calls Tryz.prog 61 #[.slice p bs.length c, .int .i64 (a : Int)] W (OneP (oneR (bs.drop a)) a W) := by
 have HDR := Zh (qbf ha);have hx : (bs[a].toNat : Int) = 35 := by rw [hxx]; rfl
 rw [hxx] at HDR;obtain ⟨b, off, rfl, cb⟩ := hb a ha;rw [hx] at cb;obtain ⟨n, hnl⟩ : ∃ n, n = bs.length := ⟨_, rfl⟩;have HL := Zh hnl;have HB := Zh (hb.later (qbl W a));have HB0 := Zh hb;have HKc := Zh hk;clear hxx hx;have HA := Zh ha;rw [<- hnl] at hn hk ⊢;have i0 : (0 : Int) <= (a : Int) := by omega
 have i1 : (a : Int) < (n : Int) := by omega
 have hlb : b < W.heap.size := World.block_lt_of_cell? W _ cb;clear hb hnl ha;have hw := qdc (some ⟨b, off, none⟩) c bs (a + 1) (oneW W a) HB.o HA.o (by rw [<- HL.o]; exact hn);rw [<- HL.o, show ((a + 1 : Nat) : Int) = (a : Int) + 1 by omega] at hw;have hlw := qc9 (bs.drop (a + 1));rw [List.length_drop, <- HL.o] at hlw;obtain ⟨V, hsl, hcv0⟩ := qb2 W (some ⟨b, off, none⟩) bs c (a + 1) (a + 1 + (qas (bs.drop (a + 1))).length) (by intro i hi; obtain ⟨b', off', e, h⟩ := HB0.o i hi; exact ⟨b', off', e, h⟩) (by omega) (by rw [<- HL.o]; have := HA.o; rw [<- HL.o] at this; omega) HKc.o;have hcv := hcv0 (oneW W a) (qbl W a);rw [show a + 1 + (qas (bs.drop (a + 1))).length - (a + 1) = (qas (bs.drop (a + 1))).length by omega, qds] at hcv;rw [<- HL.o, show ((a + 1 + (qas (bs.drop (a + 1))).length : Nat) : Int) = (a : Int) + 1 + ((qas (bs.drop (a + 1))).length : Int) by omega, show ((a + 1 : Nat) : Int) = (a : Int) + 1 by omega] at hsl;have hone : oneR (bs.drop a) = qbs (qas (bs.drop (a + 1))) := by rw [HDR.o]; rfl
 generalize qas (bs.drop (a + 1)) = w at *;obtain ⟨X, hX, hX1, hX2⟩ := qgm w;rw [hX] at hcv;have HX := Zh (aI hX1 hX2);have HONE0 := Zh hone;have HW := Zh hw;have hlw2 : w.length <= 1048576 := by omega
 clear hone hw hcv0 hX hX1;rw [<- hX2] at hlw hlw2 hsl HW;generalize hN : X.size = N at *;have HN := Zh hN;unfold oneW at hcv;have j0 : (0 : Int) <= (N : Int) := by omega
 have j1 : (N : Int) <= 1048576 := by omega
 clear hX2 hN hlw
 by_cases h0 : N = 0
 ·subst h0
  have HONE := Zh (show oneR (bs.drop a) = .err 30 by
   rw [HONE0.o]; unfold qbs;have : w = [] := List.eq_nil_of_length_eq_zero HX.o.2.symm
   rw [this]; rfl)
  go_enter Tryz.func61, Tryz.ntmps61
  go_wp2_with fail
  refine HW.o.mono ?_;rintro e w1 ⟨rfl, rfl⟩;unfold oneW
  go_wp2_with fail
  refine bodyPost_ret (v := .tuple #[.agg #[.int .u8 0, .string ⟨#[]⟩, .int .i64 (a : Int)], .int .i64 0, .int .i64 30]) (by simp [results, Tryz.results61, go_sem]) rfl ⟨(qab W _).alloc (by simp) _, ?_⟩;rw [HONE.o];exact ⟨_, _, _, rfl⟩
 ·have g0 : ((N : Int) == 0) = false := by simp; omega
  have HNE := Zh (show w ≠ [] from fun e => by have := HX.o.2; rw [e] at this; exact h0 this);have HNW := Zh (show ((w.length + 1 : Nat) : Int) = (N : Int) + 1 by have := HX.o.2; omega);have hXs : X.size <= 1048576 := by rw [HN.o]; omega
  clear h0
  cases q : nbB w with
  | false =>
   have HQ := Zh q;have HONE := Zh (show oneR (bs.drop a) = .err 5 by rw [HONE0.o, qgw HNE.o, q]; rfl);clear q;go_enter Tryz.func61, Tryz.ntmps61
   go_wp2_with fail
   refine HW.o.mono ?_;rintro e w1 ⟨rfl, rfl⟩;unfold oneW
   go_wp2_with fail
   refine (qgo X _ (by rw [HN.o]; omega)).mono ?_;rintro e w1 ⟨rfl, rfl⟩;rw [HX.o.1, HQ.o]
   go_wp2_with fail
   refine bodyPost_ret (v := .tuple #[.agg #[.int .u8 6, .string X, .int .i64 (a : Int)], .int .i64 0, .int .i64 5]) (by simp [results, Tryz.results61, go_sem]) rfl ⟨(qab W _).alloc (by simp) _, ?_⟩;rw [HONE.o]
   exact ⟨_, _, _, rfl⟩
  | true =>
   have HQ := Zh q;have HONE := Zh (show oneR (bs.drop a) = .tok 7 (35 :: w) (w.length + 1) by rw [HONE0.o, qgw HNE.o, q]; rfl);clear q;go_enter Tryz.func61, Tryz.ntmps61
   go_wp2_with fail
   refine HW.o.mono ?_;rintro e w1 ⟨rfl, rfl⟩;unfold oneW
   go_wp2_with fail
   refine (qgo X _ (by rw [HN.o]; omega)).mono ?_;rintro e w1 ⟨rfl, rfl⟩;rw [HX.o.1, HQ.o]
   go_wp2_with fail
   rw [<- HNW.o];refine bodyPost_ret (v := .tuple #[.agg #[.int .u8 7, .string (⟨#[35]⟩ ++ X), .int .i64 (a : Int)], .int .i64 ((w.length + 1 : Nat) : Int), .int .i64 0]) (by simp [results, Tryz.results61, go_sem]) rfl ⟨(qab W _).alloc (by simp) _, ?_⟩;rw [HONE.o];exact ⟨_, rfl, qoc HX.o.1⟩
theorem qss (p : Option Addr) (c : Nat) (bs : List UInt8) (a : Nat) (W : World) (hb : BytesIn W p bs) (hk : bs.length <= c) (ha : a < bs.length) (hn : bs.length <= 1048576) (n1 : bs[a] ≠ 40) (n2 : bs[a] ≠ 41) (n3 : bs[a] ≠ 124) (n4 : bs[a] ≠ 34) (n5 : bs[a] ≠ 58) (n6 : bs[a] ≠ 35) :
  Calls Tryz.prog 61 #[.slice p bs.length c, .int .i64 (a : Int)] W (OneP (oneR (bs.drop a)) a W) := by
 have HDR := Zh (qbf ha);obtain ⟨b, off, rfl, cb⟩ := hb a ha;obtain ⟨hz, hz0⟩ := qbe (x := bs[a]);have e40 : ((bs[a].toNat : Int) == 40) = false := by have e : ((bs[a].toNat : Int) == 40) = (bs[a] == 40) := qbz 40 (by decide +kernel) _; rw [e]; simpa using n1
 have e41 : ((bs[a].toNat : Int) == 41) = false := by have e : ((bs[a].toNat : Int) == 41) = (bs[a] == 41) := qbz 41 (by decide +kernel) _; rw [e]; simpa using n2
 have e124 : ((bs[a].toNat : Int) == 124) = false := by have e : ((bs[a].toNat : Int) == 124) = (bs[a] == 124) := qbz 124 (by decide +kernel) _; rw [e]; simpa using n3
 have e34 : ((bs[a].toNat : Int) == 34) = false := by have e : ((bs[a].toNat : Int) == 34) = (bs[a] == 34) := qbz 34 (by decide +kernel) _; rw [e]; simpa using n4
 have e58 : ((bs[a].toNat : Int) == 58) = false := by have e : ((bs[a].toNat : Int) == 58) = (bs[a] == 58) := qbz 58 (by decide +kernel) _; rw [e]; simpa using n5
 have e35 : ((bs[a].toNat : Int) == 35) = false := by have e : ((bs[a].toNat : Int) == 35) = (bs[a] == 35) := qbz 35 (by decide +kernel) _; rw [e]; simpa using n6
 have hone : oneR (bs.drop a) = if syB bs[a] then qba (qas (bs.drop a)) else .err 30 := by
  have h := HDR.o
  conv => lhs; rw [h]
  simp only [oneR];rw [if_neg (by simpa using n1), if_neg (by simpa using n2), if_neg (by simpa using n3), if_neg (by simpa using n4), if_neg (by simpa using n5), if_neg (by simpa using n6), <- h]
 have hfst : ∀ w, qas (bs.drop a) = w -> syB bs[a] = true -> w.getD 0 0 = bs[a] := fun w e h => by
  rw [<- e]; unfold qas; rw [qbf ha, List.takeWhile_cons, if_pos h]; rfl
 have hns : syB bs[a] = false -> (qas (bs.drop a)).length = 0 := fun h => qi9 bs a ha h
 have hys : syB bs[a] = true -> 0 < (qas (bs.drop a)).length := fun h => by rw [qg1 bs a ha h]; omega
 have HDG := Zh (fun W => qc1 bs[a] W);generalize bs[a] = x at *;obtain ⟨n, hnl⟩ : ∃ n, n = bs.length := ⟨_, rfl⟩;have HL := Zh hnl;have HB := Zh (hb.later (qbl W a));have HB0 := Zh hb;have HKc := Zh hk;have HA := Zh ha;rw [<- hnl] at hn hk ⊢;have i0 : (0 : Int) <= (a : Int) := by omega
 have i1 : (a : Int) < (n : Int) := by omega
 have hlb : b < W.heap.size := World.block_lt_of_cell? W _ cb;have hw := qdc (some ⟨b, off, none⟩) c bs a (oneW W a) HB.o (by have := HA.o; omega) (by rw [<- HL.o]; exact hn);rw [<- HL.o] at hw;have hlw := qc9 (bs.drop a);rw [List.length_drop, <- HL.o] at hlw;obtain ⟨V, hsl, hcv0⟩ := qb2 W (some ⟨b, off, none⟩) bs c a (a + (qas (bs.drop a)).length) HB0.o (by omega) (by rw [<- HL.o]; omega) HKc.o;have hcv := hcv0 (oneW W a) (qbl W a);rw [show a + (qas (bs.drop a)).length - a = (qas (bs.drop a)).length by omega, qds] at hcv;rw [<- HL.o, show ((a + (qas (bs.drop a)).length : Nat) : Int) = (a : Int) + ((qas (bs.drop a)).length : Int) by omega] at hsl;have hfw := hfst (qas (bs.drop a)) rfl;generalize qas (bs.drop a) = w at *;obtain ⟨X, hX, hX1, hX2⟩ := qgm w;rw [hX] at hcv;have HX := Zh (aI hX1 hX2);have HONE0 := Zh hone;have HW := Zh hw;have HFW := Zh hfw;have HNS := Zh hns;have HYS := Zh hys;have hlw2 : w.length <= 1048576 := by omega
 clear hone hw hcv0 hX hX1 hfw hfst hns hys hb hnl ha n1 n2 n3 n4 n5 n6;rw [<- hX2] at hlw hlw2 hsl HW HNS HYS;generalize hN : X.size = N at *;have HN := Zh hN;unfold oneW at hcv;have j0 : (0 : Int) <= (N : Int) := by omega
 have j1 : (N : Int) <= 1048576 := by omega
 clear hX2 hN hlw
 cases q0 : syB x with
 | false =>
  have h0 : N = 0 := HNS.o q0;subst h0;have HONE := Zh (show oneR (bs.drop a) = .err 30 by rw [HONE0.o, q0]; rfl);clear q0;go_enter Tryz.func61, Tryz.ntmps61
  go_wp2_with fail
  refine HW.o.mono ?_;rintro e w1 ⟨rfl, rfl⟩;unfold oneW
  go_wp2_with fail
  refine bodyPost_ret (v := .tuple #[.agg #[.int .u8 0, .string ⟨#[]⟩, .int .i64 (a : Int)], .int .i64 0, .int .i64 30]) (by simp [results, Tryz.results61, go_sem]) rfl ⟨(qab W _).alloc (by simp) _, ?_⟩;rw [HONE.o]
  exact ⟨_, _, _, rfl⟩
 | true =>
  have h0 : 0 < N := HYS.o q0;have g0 : ((N : Int) == 0) = false := by simp; omega
  have HNE := Zh (show w ≠ [] from fun e => by have := HX.o.2; rw [e] at this; simp at this; omega);have HNW := Zh (show ((w.length : Nat) : Int) = (N : Int) by have := HX.o.2; omega);have HF0 := Zh (HFW.o q0);have HONE1 := Zh (show oneR (bs.drop a) = qba w by rw [HONE0.o, q0]; rfl);clear q0 h0
  cases q : dgB x with
  | false =>
   have HQ := Zh q
   have HONE := Zh (show oneR (bs.drop a) = .tok 3 w w.length by
    rw [HONE1.o]; unfold qba; rw [if_pos (by rw [HF0.o, q]; decide)])
   clear q;go_enter Tryz.func61, Tryz.ntmps61
   go_wp2_with fail
   refine HW.o.mono ?_;rintro e w1 ⟨rfl, rfl⟩;unfold oneW
   go_wp2_with fail
   refine (HDG.o _).mono ?_;rintro e w1 ⟨rfl, rfl⟩;rw [HQ.o]
   go_wp2_with fail
   rw [<- HNW.o];refine bodyPost_ret (v := .tuple #[.agg #[.int .u8 3, .string X, .int .i64 (a : Int)], .int .i64 ((w.length : Nat) : Int), .int .i64 0]) (by simp [results, Tryz.results61, go_sem]) rfl ⟨(qab W _).alloc (by simp) _, ?_⟩;rw [HONE.o]
   exact ⟨_, rfl, HX.o.1⟩
  | true =>
   have HQ := Zh q
   have HONE2 := Zh (show oneR (bs.drop a) = if numB w then .tok 4 w w.length else if decB w then .tok 7 w w.length else .err 5 by
    rw [HONE1.o]; exact qlr HNE.o (by rw [HF0.o]; exact q))
   clear q
   cases q1 : numB w with
   | true =>
    have HQ1 := Zh q1;have HONE := Zh (show oneR (bs.drop a) = .tok 4 w w.length by rw [HONE2.o, q1]; rfl);clear q1;go_enter Tryz.func61, Tryz.ntmps61
    go_wp2_with fail
    refine HW.o.mono ?_;rintro e w1 ⟨rfl, rfl⟩;unfold oneW
    go_wp2_with fail
    refine (HDG.o _).mono ?_;rintro e w1 ⟨rfl, rfl⟩;rw [HQ.o]
    go_wp2_with fail
    refine (qdf X _ (by rw [HN.o]; omega)).mono ?_;rintro e w1 ⟨rfl, rfl⟩;rw [HX.o.1, HQ1.o]
    go_wp2_with fail
    rw [<- HNW.o];refine bodyPost_ret (v := .tuple #[.agg #[.int .u8 4, .string X, .int .i64 (a : Int)], .int .i64 ((w.length : Nat) : Int), .int .i64 0]) (by simp [results, Tryz.results61, go_sem]) rfl ⟨(qab W _).alloc (by simp) _, ?_⟩;rw [HONE.o]
    exact ⟨_, rfl, HX.o.1⟩
   | false =>
    have HQ1 := Zh q1
    cases q2 : decB w with
    | true =>
     have HQ2 := Zh q2;have HONE := Zh (show oneR (bs.drop a) = .tok 7 w w.length by rw [HONE2.o, q1, q2]; rfl);clear q1 q2;go_enter Tryz.func61, Tryz.ntmps61
     go_wp2_with fail
     refine HW.o.mono ?_;rintro e w1 ⟨rfl, rfl⟩;unfold oneW
     go_wp2_with fail
     refine (HDG.o _).mono ?_;rintro e w1 ⟨rfl, rfl⟩;rw [HQ.o]
     go_wp2_with fail
     refine (qdf X _ (by rw [HN.o]; omega)).mono ?_;rintro e w1 ⟨rfl, rfl⟩;rw [HX.o.1, HQ1.o]
     go_wp2_with fail
     refine (qga X _ (by rw [HN.o]; omega)).mono ?_;rintro e w1 ⟨rfl, rfl⟩;rw [HX.o.1, HQ2.o]
     go_wp2_with fail
     rw [<- HNW.o];refine bodyPost_ret (v := .tuple #[.agg #[.int .u8 7, .string X, .int .i64 (a : Int)], .int .i64 ((w.length : Nat) : Int), .int .i64 0]) (by simp [results, Tryz.results61, go_sem]) rfl ⟨(qab W _).alloc (by simp) _, ?_⟩;rw [HONE.o]
     exact ⟨_, rfl, HX.o.1⟩
    | false =>
     have HQ2 := Zh q2;have HONE := Zh (show oneR (bs.drop a) = .err 5 by rw [HONE2.o, q1, q2]; rfl);clear q1 q2;go_enter Tryz.func61, Tryz.ntmps61
     go_wp2_with fail
     refine HW.o.mono ?_;rintro e w1 ⟨rfl, rfl⟩;unfold oneW
     go_wp2_with fail
     refine (HDG.o _).mono ?_;rintro e w1 ⟨rfl, rfl⟩;rw [HQ.o]
     go_wp2_with fail
     refine (qdf X _ (by rw [HN.o]; omega)).mono ?_;rintro e w1 ⟨rfl, rfl⟩;rw [HX.o.1, HQ1.o]
     go_wp2_with fail
     refine (qga X _ (by rw [HN.o]; omega)).mono ?_;rintro e w1 ⟨rfl, rfl⟩;rw [HX.o.1, HQ2.o]
     go_wp2_with fail
     refine bodyPost_ret (v := .tuple #[.agg #[.int .u8 0, .string X, .int .i64 (a : Int)], .int .i64 0, .int .i64 5]) (by simp [results, Tryz.results61, go_sem]) rfl ⟨(qab W _).alloc (by simp) _, ?_⟩;rw [HONE.o];exact ⟨_, _, _, rfl⟩
theorem qrg (p : Option Addr) (c : Nat) (bs : List UInt8) (a : Nat) (W : World) (hb : BytesIn W p bs) (hk : bs.length <= c) (ha : a < bs.length) (hn : bs.length <= 1048576) :
  Calls Tryz.prog 61 #[.slice p bs.length c, .int .i64 (a : Int)] W (OneP (oneR (bs.drop a)) a W) := by
 by_cases n1 : bs[a] = 40
 ·exact qpj p c bs a W hb hk ha hn n1
 ·by_cases n2 : bs[a] = 41
  ·exact qnm p c bs a W hb hk ha hn n2
  ·by_cases n3 : bs[a] = 124
   ·exact qrf p c bs a W hb hk ha hn n3
   ·by_cases n4 : bs[a] = 34
    ·exact qpk p c bs a W hb hk ha hn n4
    ·by_cases n5 : bs[a] = 58
     ·exact qre p c bs a W hb hk ha hn n5
     ·by_cases n6 : bs[a] = 35
      ·exact qpl p c bs a W hb hk ha hn n6
      ·exact qss p c bs a W hb hk ha hn n1 n2 n3 n4 n5 n6
theorem qns (s : ByteArray) : (⟨s.data.toList.toArray⟩ : ByteArray) = s := by
 apply ByteArray.ext; simp

theorem Toks.shift {b : List UInt8} {a a' : Nat} (he : a + qav false (b.drop a) = a' + qav false (b.drop a')) {l : List Tk} {p e : Nat} (h : Toks b a' l p e) : Toks b a l p e := by
 cases h with
 | done h1 => exact .done (by omega)
 | bad h1 h2 =>
  rw [<- he] at h1 h2 ⊢
  exact .bad h1 h2
 | step h1 h2 h3 =>
  rw [<- he] at h1 h2 h3 ⊢;exact .step h1 h2 h3
theorem reftokens_any (p : Option Addr) (c : Nat) (bs : List UInt8) (W : World) (hb : BytesIn W p bs) (hk : bs.length <= c) (hn : bs.length <= 1048576) :
  Calls Tryz.prog 26 #[.slice p bs.length c] W (qoz bs W) := by
 have HBI := Zh hb;have HKc := Zh hk;obtain ⟨i33, hi33, hz0, hz1, hz2⟩ := qoa;obtain ⟨n, hnl⟩ : ∃ n, n = bs.length := ⟨_, rfl⟩;have HL := Zh hnl;rw [<- hnl] at hk hn ⊢;have hgt : decide ((1048576 : Int) < (n : Int)) = false := by simp; omega
 have hni : (n : Int) <= 1048576 := by omega
 clear hb hnl;go_enter Tryz.func26, Tryz.ntmps26
 go_wp2_with fail
 go_loopg [5, 6, 7, 8, 9] (n + 1) (fun gk s5 s6 s7 s8 s9 wx => ∃ (a : Nat) (acc : List Tk), n + 1 <= a + gk /\ a <= n /\ acc.length <= a /\ s6 = .int .i64 (a : Int) /\ Hid ((∀ l q er, Toks bs a l q er -> Toks bs 0 (acc ++ l) q er) /\ wx.ownsRow W.heap.size 32 3 s5 acc.length (rowT acc) /\ Below W.heap.size W wx))
 case atStart => exact ⟨0, [], by omega, by omega, Nat.le_refl _, rfl, Zh ⟨fun l q er h => h, World.ownsRow_nil _ _ _ _, Below.refl _ _⟩⟩
 case round =>
  obtain ⟨a, acc, hg, ha, hac, rfl, HI⟩ := hrel;obtain ⟨htk, hw, hbl⟩ := HI.o;obtain ⟨pr, cr, rfl, hA_⟩ := qaq hw;have HG := Zh hg;have HT := Zh htk;have HW := Zh hw;have HB := Zh hbl;clear hg htk hw hbl hA_ HI
  by_cases hlt : a < n
  ·have i0 : (0 : Int) <= (a : Int) := by omega
   have i1 : (a : Int) < (n : Int) := by omega
   have hab : a < bs.length := by have := HL.o; omega
   have hd := qbf hab;obtain ⟨b, off, rfl, cb⟩ := (HBI.o.later HB.o) a hab;obtain ⟨hz, hz0'⟩ := qbe (x := bs[a]);have e59 : ((bs[a].toNat : Int) == 59) = (bs[a] == 59) := qbz 59 (by decide +kernel) _;have HBL := Zh (fun W => qi1 bs[a] W);generalize bs[a] = x at *;have HD := Zh hd;clear hd hab
   cases q1 : spB x with
   | true =>
    have HQ1 := Zh q1;have HSK := Zh (show a + qav false (bs.drop a) = (a + 1) + qav false (bs.drop (a + 1)) by rw [HD.o]; simp only [qav, q1, if_true]; omega);clear q1 e59
    go_wp2_with fail
    refine (HBL.o _).mono ?_;rintro e w1 ⟨rfl, rfl⟩;rw [HQ1.o]
    go_wp2_with fail
    go_roundg (gk - 1)
    case measure => have := HG.o; omega
    case rel =>
     obtain ⟨a', ha'⟩ : ∃ a', a' = a + 1 := ⟨_, rfl⟩
     exact ⟨a', acc, by have := HG.o; omega, by omega, by omega, by rw [ha']; go_num, Zh ⟨fun l q er h => HT.o l q er (Toks.shift HSK.o (by rw [<- ha']; exact h)), HW.o, HB.o⟩⟩
   | false =>
    have HQ1 := Zh q1
    cases q2 : (x == 59) with
    | true =>
     rw [q2] at e59;have HX := Zh (show x = 59 from eq_of_beq q2)
     have HE2 := Zh (show a + qav true (bs.drop a) = a + qav false (bs.drop a) by
      rw [HD.o, HX.o]; simp [qav, spB])
     clear q1 q2
     go_wp2_with fail
     refine (HBL.o _).mono ?_;rintro e w1 ⟨rfl, rfl⟩;rw [HQ1.o]
     go_wp2_with fail
     obtain ⟨wo, hwo⟩ : ∃ wo, wo = wr := ⟨_, rfl⟩;have HWO := Zh hwo;rw [<- hwo] at HW HB cb ⊢;clear hwo;obtain ⟨G, hGe⟩ : ∃ G, G = gk := ⟨_, rfl⟩;have HGE := Zh hGe
     go_loopg [6] (n + 1) (fun ik s6 wx => ∃ a2 : Nat, n + 1 <= a2 + ik /\ a2 <= n /\ s6 = .int .i64 (a2 : Int) /\ Hid (wx = wo /\ a <= a2 /\ a2 + qav true (bs.drop a2) = a + qav false (bs.drop a)))
     case atStart => exact ⟨a, by omega, by omega, rfl, Zh ⟨rfl, Nat.le_refl _, HE2.o⟩⟩
     case round =>
      obtain ⟨a2, hg2, ha2, rfl, HI⟩ := hrel;obtain ⟨hw2, haa, hsk⟩ := HI.o;have HW2 := Zh hw2;have HG2 := Zh hg2;have HAA := Zh haa;have HSK := Zh hsk;clear hg2 haa hsk HI
      by_cases hlt2 : a2 < n
      ·have m0 : (0 : Int) <= (a2 : Int) := by omega
       have m1 : (a2 : Int) < (n : Int) := by omega
       have hab : a2 < bs.length := by have := HL.o; omega
       have hd2 := qbf hab;obtain ⟨b2, off2, e2, cb2⟩ := (HBI.o.later HB.o) a2 hab;cases e2;rw [<- hw2] at cb2;obtain ⟨hz2, hz2'⟩ := qbe (x := bs[a2]);have e10 : ((bs[a2].toNat : Int) == 10) = (bs[a2] == 10) := qbz 10 (by decide +kernel) _;generalize bs[a2] = x2 at *;have HD2 := Zh hd2;clear hd2 hab hw2
       cases q3 : (x2 == 10) with
       | false =>
        rw [q3] at e10;have e10' : ((x2.toNat : Int) != 10) = true := by rw [bne, e10]; rfl
        have HS2 := Zh (show (a2 + 1) + qav true (bs.drop (a2 + 1)) = a + qav false (bs.drop a) by
         have := HSK.o; rw [HD2.o] at this; simp only [qav, q3] at this; simp at this; omega)
        clear q3
        go_wp2_with fail
        go_roundg (gk - 1)
        case measure => have := HG2.o; omega
        case rel =>
         obtain ⟨a', ha'⟩ : ∃ a', a' = a2 + 1 := ⟨_, rfl⟩
         exact ⟨a', by have := HG2.o; omega, by omega, by rw [ha']; go_num, Zh ⟨HW2.o, by have := HAA.o; omega, by rw [ha']; exact HS2.o⟩⟩
       | true =>
        rw [q3] at e10;have e10' : ((x2.toNat : Int) != 10) = false := by rw [bne, e10]; rfl
        have hx2 : x2 = 10 := eq_of_beq q3
        have HS2 := Zh (show a + qav false (bs.drop a) = a2 + qav false (bs.drop a2) by
         have := HSK.o; rw [HD2.o, hx2] at this; rw [HD2.o, hx2, <- this]; simp [qav, spB])
        have HNE := Zh (show a ≠ a2 from fun e => by
         have h1 := HD.o; have h2 := HD2.o;rw [e, h2] at h1;simp only [List.cons.injEq] at h1;rw [hx2, HX.o] at h1
         exact absurd h1.1 (by decide))
        clear q3 hx2
        go_wp2_with fail
        go_roundg (G - 1)
        case measure => have := HG.o; have := HGE.o; omega
        case rel =>
         refine ⟨a2, acc, by have := HG.o; have := HGE.o; have := HAA.o; have := HNE.o; omega, ha2, by have := HAA.o; omega, rfl, Zh ⟨fun l q er h => HT.o l q er (Toks.shift HS2.o h), by rw [HW2.o]; exact HW.o, by rw [HW2.o]; exact HB.o⟩⟩
      ·have HS2 := Zh (show a + qav false (bs.drop a) = a2 + qav false (bs.drop a2) by
        have := HSK.o; have hl := HL.o; rw [List.drop_of_length_le (show bs.length <= a2 by omega)] at this ⊢; simpa [qav] using this.symm)
       have m1 : ¬ (a2 : Int) < (n : Int) := by omega
       have m2 : decide (a2 < n) = false := by simp; omega
       clear hw2
       go_wp2_with fail
       go_roundg (G - 1)
       case measure => have := HG.o; have := HGE.o; omega
       case rel =>
        refine ⟨a2, acc, by have := HG.o; have := HGE.o; have := HAA.o; omega, ha2, by have := HAA.o; omega, rfl, Zh ⟨fun l q er h => HT.o l q er (Toks.shift HS2.o h), by rw [HW2.o]; exact HW.o, by rw [HW2.o]; exact HB.o⟩⟩
    | false =>
     rw [q2] at e59;have HSK := Zh (show qav false (bs.drop a) = 0 by rw [HD.o]; simp [qav, q1, q2]);clear q1 q2
     go_wp2_with fail
     refine (HBL.o _).mono ?_;rintro e w1 ⟨rfl, rfl⟩;rw [HQ1.o];have hone := qrg (some ⟨b, off, none⟩) c bs a wr (HBI.o.later HB.o) HKc.o (by have := HL.o; omega) (by rw [<- HL.o]; exact hn);rw [<- HL.o] at hone;have HONE := Zh hone;clear hone
     go_wp2_with fail
     refine HONE.o.mono ?_;rintro e w4 ⟨hb4, hres⟩;have HB4 := Zh hb4
     match hq : oneR (bs.drop a), hres with
     | .tok k t m, hres =>
      obtain ⟨X, rfl, hX⟩ := hres;have hXe : X = ⟨t.toArray⟩ := by rw [<- hX, qns]
      subst hXe;have HQ := Zh hq;have HON := Zh (qnl hq);have hWA := qal HW.o hb4;have hbA := ((qab w4 (.cells #[.int .u8 (k : Int), .string ⟨t.toArray⟩, .int .i64 (a : Int)] 32)).alloc (by simp) (.cells #[.int .u8 (k : Int), .string ⟨t.toArray⟩, .int .i64 (a : Int)] 32));have HWA := Zh (qal hWA hbA);have HBW := Zh (HB.o.trans ((hb4.trans (hbA.mono hb4.size)).mono HB.o.size));have HSA := Zh HBW.o.size
      have hnews : ∀ j u, (tkV ⟨k, t, a⟩)[j]? = some u -> ((w4.alloc (.cells #[.int .u8 (k : Int), .string ⟨t.toArray⟩, .int .i64 (a : Int)] 32)).alloc (.cells #[.int .u8 (k : Int), .string ⟨t.toArray⟩, .int .i64 (a : Int)] 32)).cell? ((⟨w4.heap.size + 1, 0, none⟩ : Addr).add j) = some u := by
       intro j u hj;rw [Lib.add_plain]
       match j, hj with
       | 0, hj => cases hj; exact qd3 w4 _ 0 rfl
       | 1, hj => cases hj; exact qd3 w4 _ 1 rfl
       | 2, hj => cases hj; exact qd3 w4 _ 2 rfl
      have HNE := Zh hnews;clear hb4 hq hWA hbA hnews hX
      go_wp2_with (at_builtin; refine wpList_append_own_at _ rfl _ _ 54 rfl W.heap.size 32 i33 Z33 3 32 Tryz.underlying54 hi33 hz0 hz1 hz2 rfl (by omega) _ acc.length (rowT acc) rfl HWA.o ⟨w4.heap.size + 1, 0, none⟩ 1 1 (tkV ⟨k, t, a⟩) rfl rfl HNE.o ?qc3 ?qc4 ?qc5 HSA.o ?_)
      case qc3 => intro u hu; simp [tkV] at hu; rcases hu with rfl | rfl | rfl <;> rfl
      case qc4 => have hml : maxLen = 9223372036854775807 := rfl; omega
      case qc5 => omega
      intro v' w5 hown hgrow hnil hloc;obtain ⟨pn, cn, hv, hA_⟩ := qaq hown;subst hv;have ho5 := Only.of_grown hgrow;have hge : ∀ j, (Value.slice pr acc.length cr).ownBlock = some j -> W.heap.size <= j := fun j hj => (qaw HWA.o hj).1
      have hlen : acc.length + 1 = (acc ++ [(⟨k, t, a⟩ : Tk)]).length := by simp
      have hrow : rowT acc ++ tkV ⟨k, t, a⟩ = rowT (acc ++ [(⟨k, t, a⟩ : Tk)]) := by simp [rowT]
      rw [hlen, hrow] at hown;rw [hlen];have hal2 : (acc ++ [(⟨k, t, a⟩ : Tk)]).length = acc.length + 1 := hlen.symm;generalize hacc2 : acc ++ [(⟨k, t, a⟩ : Tk)] = acc2 at *;have HA2 := Zh hacc2;have HAL := Zh hal2;have HW5 := Zh hown;have HB5 := Zh (HBW.o.trans (ho5.below (B := W.heap.size) hge HBW.o.size));have hm1 : (0 : Int) <= (m : Int) := by omega
      have hm2 : (a : Int) + (m : Int) <= 1048576 := by have := HON.o; rw [List.length_drop] at this; have := HL.o; omega
      clear hown hgrow hnil hloc hA_ ho5 hge hlen hrow hacc2 hal2
      go_wp2_with fail
      go_roundg (gk - 1)
      case measure => have := HG.o; omega
      case rel =>
       have hg := HG.o;have hl := HL.o;have ho := HON.o;have hsk := HSK.o;rw [List.length_drop] at ho;obtain ⟨a', ha'⟩ : ∃ a', a' = a + m := ⟨_, rfl⟩;refine ⟨a', acc2, by omega, by omega, by have := HAL.o; omega, by rw [ha']; go_num, Zh ⟨fun l q er hl2 => ?_, HW5.o, HB5.o⟩⟩;rw [<- HA2.o, List.append_assoc];refine HT.o _ _ _ ?_;have := Toks.step (b := bs) (at_ := a) (k := k) (n := m) (t := t) (l := l) (p := q) (e := er) (by rw [hsk]; omega) (by rw [hsk]; exact HQ.o) (by rw [hsk, Nat.add_zero, <- ha']; exact hl2);rw [hsk] at this
       exact this
     | .err er, hres =>
      obtain ⟨k, m, X, rfl⟩ := hres;have HQ := Zh hq;have her := qog hq (by rw [List.length_drop]; have := HL.o; omega);have her2 : ((er : Int) != 0) = true := by simp; omega
      have HWE := Zh (qal (qal HW.o hb4) (qab w4 (.cells #[.int .u8 k, .string X, .int .i64 (a : Int)] 32)));have HBE := Zh (HB.o.trans ((hb4.trans ((qab w4 (.cells #[.int .u8 k, .string X, .int .i64 (a : Int)] 32)).mono hb4.size)).mono HB.o.size));clear hq hb4
      go_wp2_with fail
      go_ret3
      refine ⟨pr, cr, acc, a, er, rfl, ?_, HWE.o, HBE.o⟩;have hsk := HSK.o;have hl := HL.o
      have := HT.o [] a er (by
       have := Toks.bad (b := bs) (at_ := a) (e := er) (by rw [hsk]; omega) (by rw [hsk]; exact HQ.o);rw [hsk] at this
       exact this)
      simpa using this
  ·have hae : a = n := by omega
   have HAE := Zh hae;clear hae
   go_wp2_with fail
   go_ret3
   refine ⟨pr, cr, acc, a, 0, rfl, ?_, HW.o, HB.o⟩;have hl := HL.o;have := HT.o [] bs.length 0 (.done (by have := HAE.o; omega));rw [HAE.o, hl]
   simpa using this
end Go.Proofs.YtookoagcmejkpaaGreatDoor.Lx
