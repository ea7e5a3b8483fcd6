/- strings.ReplaceAll at this program, and what it makes of double quotes. The document's tree. The document's Next. Tokens in memory; known; Same of the same. text: a token's bytes. A row's last step, t -/
import Derived.Test.YtookoagcmejkpaaGreatDoorJ2
import Derived.Test.YtookoagcmejkpaaGreatDoorJ0
import Derived.Test.YtookoagcmejkpaaGreatDoorJ1
import Derived.Lib.SlBytesConst
import Derived.HandedShaped
import Derived.Shelf.Vars
import Derived.Lib.AppendStr
import Derived.Deep.RegionHeld3
import Derived.RangeFuncNested
import Derived.RangeFuncBound
import Derived.RangeFuncCalls
import Derived.RangeFuncLeaves
import Derived.Shelf.Abstract
import Derived.Shelf.RegionOpen
import Derived.WalkKit
import Derived.OwnWalkIn
import Derived.TacticsInMore
import Derived.LoopNIn
import Derived.LoopIn
import Derived.Sort.LoopGhostIn
set_option maxHeartbeats 6400000
namespace Go.Proofs.YtookoagcmejkpaaGreatDoor.Lx
set_option maxRecDepth 100000
open Go Go.RowKit
def MaxAt (W : World) : Prop := ∃ m, W.cell? ⟨0, 0, none⟩ = some (.int .i64 m)
theorem MaxAt.later {W W' : World} (h : MaxAt W) (hb : Below W.heap.size W W') : MaxAt W' := by
 obtain ⟨m, hm⟩ := h;exact ⟨m, qaa hb hm⟩
theorem qf6 : ∀ s : List UInt8, (34 ∉ s /\ Lib.index s [34] = -1) \/ (34 ∈ s /\ ∃ i : Nat, Lib.index s [34] = (i : Int))
 | [] => .inl ⟨by simp, rfl⟩
 | b :: l => by
  by_cases hb : b = 34
  ·subst hb
   exact .inr ⟨by simp, 0, by simp [Lib.index]⟩
  ·have hp : ([34] : List UInt8).isPrefixOf (b :: l) = false := by first | (simp [List.isPrefixOf]; done) | (simp [List.isPrefixOf]; exact fun e => hb e.symm)
   rcases qf6 l with ⟨h1, h2⟩ | ⟨h1, i, h2⟩
   ·left
    refine ⟨by simp [h1]; exact fun e => hb e.symm, ?_⟩;rw [Lib.index, hp, h2]; rfl
   ·right
    refine ⟨by simp [h1], i + 1, ?_⟩;rw [Lib.index, hp, h2];have : (((i : Nat) : Int) == -1) = false := by first | (simp; done) | (simp; omega)
    simp only [this];simp
theorem qdb : ∀ (s : List UInt8) (K : Nat), s.count 34 <= K -> Lib.replaceK [34] [34, 34] K s = dblL s
 | [], 0, _ => rfl
 | [], K + 1, _ => rfl
 | b :: l, K, h => by
  by_cases hb : b = 34
  ·subst hb
   have hc : (34 :: l).count (34 : UInt8) = l.count 34 + 1 := by simp
   obtain ⟨K, rfl⟩ : ∃ k, K = k + 1 := ⟨K - 1, by omega⟩;have hi : Lib.index (34 :: l) [34] = ((0 : Nat) : Int) := by simp [Lib.index]
   rw [Lib.replaceK_hit _ _ _ _ 0 hi, dblL];have := qdb l K (by omega);simp [this]
  ·have hc : (b :: l).count (34 : UInt8) = l.count 34 := by simp [hb]
   have hp : ([34] : List UInt8).isPrefixOf (b :: l) = false := by first | (simp [List.isPrefixOf]; done) | (simp [List.isPrefixOf]; exact fun e => hb e.symm)
   have hbb : (b == 34) = false := by simpa using hb
   rw [dblL, hbb, <- qdb l K (by omega)]
   cases K with
   | zero => rfl
   | succ K =>
    rcases qf6 l with ⟨h1, h2⟩ | ⟨h1, i, h2⟩
    ·have h3 : Lib.index (b :: l) [34] = -1 := by rw [Lib.index, hp, h2]; rfl
     rw [Lib.replaceK, Lib.replaceK, h3, h2]; rfl
    ·have h3 : Lib.index (b :: l) [34] = ((i + 1 : Nat) : Int) := by
      rw [Lib.index, hp, h2];have : (((i : Nat) : Int) == -1) = false := by first | (simp; done) | (simp; omega)
      simp only [this];simp
     rw [Lib.replaceK_hit _ _ _ _ _ h3, Lib.replaceK_hit _ _ _ _ _ h2];simp []
theorem qsm (s : ByteArray) (W : World) (hs : s.size <= 1048576) (hm : MaxAt W) :
  Calls Tryz.prog 114 #[.string s, .string ⟨#[34]⟩, .string ⟨#[34, 34]⟩] W fun e w' => ∃ X : ByteArray, e = .returned (.string X) /\ X.data.toList = dblL s.data.toList /\ Below W.heap.size W w' := by
 obtain ⟨m, hm⟩ := hm;have hcm := Lib.countB_mul_le ⟨#[34]⟩ (by decide) s.size s (Nat.le_refl _);have h1 : (⟨#[34]⟩ : ByteArray).size = 1 := rfl;have h2 : (⟨#[34, 34]⟩ : ByteArray).size = 2 := rfl;rw [h1] at hcm;refine (Tryz.strings_ReplaceAll s ⟨#[34]⟩ ⟨#[34, 34]⟩ m W (by omega) hm (by decide) (by rw [h2]; omega)).mono fun e w' ⟨he, hb⟩ => ⟨_, he, ?_, hb⟩
 show Lib.replaceAll s.data.toList [34] [34, 34] = _
 have hnum : Lib.replaceNum s.data.toList [34] (-1) = s.data.toList.count 34 := by
  unfold Lib.replaceNum;rw [if_pos (by omega), Lib.count_one]
 unfold Lib.replaceAll Lib.replace;rw [if_neg (by decide), hnum];exact qdb _ _ (Nat.le_refl _)
theorem qh8 (W : World) (b off n c lo hi : Nat) (h1 : lo < hi) (h2 : hi <= n) (h3 : n <= c) :
  (Instr.slice 54 (.slice (some ⟨b, off, none⟩) n c) (some (.int .i64 (lo : Int))) (some (.int .i64 (hi : Int))) none).run Tryz.prog W = .ok (.slice (some ⟨b, off + lo * 3, none⟩) (hi - lo) (c - lo)) W := by
 obtain ⟨i5, hi5, _, hs5, _⟩ := qoa;have e1 : (0 : Int) <= (lo : Int) := by omega
 have e2 : (lo : Int) <= (hi : Int) := by omega
 have e3 : (hi : Int) <= (c : Int) := by omega
 have e4 : (0 : Int) <= (hi : Int) := by omega
 have e5 : hi <= c := by omega
 have e6 : ¬ c = lo := by omega
 have e7 : lo <= hi := by omega
 simp [Instr.slice, run_underlying Tryz.underlying54, Instr.sliceBounds, Instr.sliceBound, asIntOf, sizeOf, typeInfo, hi5, hs5, e1, e4, e5, e6, e7, Addr.add]

def qi3 (l : List TkA) (p : Option Addr) (c : Nat) (b : Bool) (k : Int) (s : ByteArray) (a : Int) (g : Fo) (W : World) : Prop :=
 Calls Tryz.prog 64 #[.slice p l.length c] W fun e w' => ∃ q c', e = .returned (trV b k s a q g.len c') /\ g.len <= c' /\ FoIn w' (fun z => W.heap.size <= z) g q /\ Below W.heap.size W w'
theorem qme (t : TkA) (p : Option Addr) (c : Nat) (W : World) (h : TksA W p [t]) (h1 : t.k ≠ 1) : qi3 [t] p c false t.k t.s t.a .nil W := by
 unfold qi3;obtain ⟨b, off, rfl, x0, x1, x2⟩ := h 0 (by simp);obtain ⟨k, s, a⟩ := t
 replace h1 : k ≠ 1 := h1
 have y0 : W.cell? ⟨b, off, none⟩ = some (.int .u8 k) := x0;have y1 : W.cell? ⟨b, off + 1, none⟩ = some (.string s) := x1;have y2 : W.cell? ⟨b, off + 2, none⟩ = some (.int .i64 a) := x2;have z0 := qaa (qab W (.cells #[.bool false, .int .u8 0, .string ⟨#[]⟩, .int .i64 0, .slice none 0 0] 35)) y0;have z1 := qaa (qab W (.cells #[.bool false, .int .u8 0, .string ⟨#[]⟩, .int .i64 0, .slice none 0 0] 35)) y1;have z2 := qaa (qab W (.cells #[.bool false, .int .u8 0, .string ⟨#[]⟩, .int .i64 0, .slice none 0 0] 35)) y2;have e1 : (k != 1) = true := by simp [h1]
 clear x0 x1 x2 h;simp only [List.length_cons, List.length_nil];go_enter Tryz.func64, Tryz.ntmps64
 go_wp2_with fail
 refine bodyPost_ret (v := .agg #[.bool false, .int .u8 k, .string s, .int .i64 a, .slice none 0 0]) (by simp [results, Tryz.results64, go_sem]) rfl ⟨none, 0, rfl, Nat.le_refl _, trivial, ?_⟩
 repeat (first | exact Below.refl _ _ | refine Below.alloc ?_ (by simp) _ | refine Below.setCell ?_ (by simp) _ | exact bdd (Below.refl _ _))
theorem qcy (w : World) (b : Nat) (v0 v1 v2 v3 v4 : Value) : Only (fun k => k = b) w (((((w.setCell ⟨b, 0, none⟩ v0).setCell ⟨b, 1, none⟩ v1).setCell ⟨b, 2, none⟩ v2).setCell ⟨b, 3, none⟩ v3).setCell ⟨b, 4, none⟩ v4) :=
 ((((Only.of_setCell w ⟨b, 0, none⟩ v0).trans (Only.of_setCell _ ⟨b, 1, none⟩ v1)).trans (Only.of_setCell _ ⟨b, 2, none⟩ v2)).trans (Only.of_setCell _ ⟨b, 3, none⟩ v3)).trans (Only.of_setCell _ ⟨b, 4, none⟩ v4)
theorem qmd (n : Nat) (ih : ∀ l b k s a g, l.length < n -> One l b k s a g -> ∀ p c W, TksA W p l -> l.length <= c -> qi3 l p c b k s a g W) (t cl : TkA) (x : List TkA) (g : Fo) (h1 : t.k = 1) (h2 : cl.k = 2) (hr : Rd x g) (hn : (t :: (x ++ [cl])).length = n) (hm : n <= 1048576)
  (p : Option Addr) (c : Nat) (W : World) (h : TksA W p (t :: (x ++ [cl]))) (hc : n <= c) : qi3 (t :: (x ++ [cl])) p c true t.k t.s t.a g W := by
 unfold qi3;rw [hn];obtain ⟨b, off, rfl, x0, x1, x2⟩ := h 0 (by simp);obtain ⟨k, s, a⟩ := t;obtain rfl : k = 1 := h1;obtain ⟨L, hL⟩ : ∃ L, L = (⟨1, s, a⟩ : TkA) :: (x ++ [cl]) := ⟨_, rfl⟩;rw [<- hL] at h hn;have y0 : W.cell? ⟨b, off, none⟩ = some (.int .u8 1) := x0;have y1 : W.cell? ⟨b, off + 1, none⟩ = some (.string s) := x1;have y2 : W.cell? ⟨b, off + 2, none⟩ = some (.int .i64 a) := x2;have z0 := qaa (qab W (.cells #[.bool false, .int .u8 0, .string ⟨#[]⟩, .int .i64 0, .slice none 0 0] 35)) y0;have z1 := qaa (qab W (.cells #[.bool false, .int .u8 0, .string ⟨#[]⟩, .int .i64 0, .slice none 0 0] 35)) y1;have z2 := qaa (qab W (.cells #[.bool false, .int .u8 0, .string ⟨#[]⟩, .int .i64 0, .slice none 0 0] 35)) y2;have n1 : (n : Int) <= 1048576 := by omega
 have n2 : 2 <= n := by rw [<- hn, hL]; simp
 have H := Zh h;have HL := Zh (aI hL hn);have IH := Zh ih;have HRD := Zh hr;have HCL := Zh h2;clear x0 x1 x2 h hL hn ih hr h2;simp only;go_enter Tryz.func64, Tryz.ntmps64
 go_wp2_with fail
 go_loopg [4, 5] n (fun gk s4 s5 wx => ∃ (dn rs : List TkA) (fd fr : Fo) (pv : Option Addr) (cv : Nat), s4 = .int .i64 ((1 + dn.length : Nat) : Int) /\ rs.length <= gk /\ Hid (dn.length + rs.length + 2 = n /\ L = (⟨1, s, a⟩ : TkA) :: (dn ++ (rs ++ [cl])) /\ Rd rs fr /\ fd.app fr = g /\ fd.len <= dn.length /\ BoxT wx W.heap.size false 0 ⟨#[]⟩ 0 (.slice none 0 0) /\ BoxT wx (W.heap.size + 1) true 1 s a (.slice pv fd.len cv) /\ OwnF wx (W.heap.size + 2) (.slice pv fd.len cv) fd /\ Below W.heap.size W wx))
 case atStart =>
  refine ⟨[], x, .nil, g, none, 0, rfl, ?_, Zh ⟨?_, ?_, HRD.o, rfl, Nat.le_refl _, ?_, ?_, ?_, ?_⟩⟩
  ·have := HL.o.2; rw [HL.o.1] at this; simp at this; omega
  ·have := HL.o.2; rw [HL.o.1] at this; simp at this; simp; omega
  ·exact HL.o.1
  ·exact (qam W false 0 ⟨#[]⟩ 0 (.slice none 0 0)).later (qab _ _)
  ·exact (show W.heap.size + 1 = (W.alloc _).heap.size by simp) ▸ qam _ true 1 s a (.slice none 0 0)
  ·exact OwnF.nil _ _
  ·exact (qab W _).alloc (by simp) _
 case round =>
  obtain ⟨dn, rs, fd, fr, pv, cv, rfl, hgk, HI⟩ := hrel;obtain ⟨wA, hwA⟩ : ∃ w, w = wr := ⟨_, rfl⟩;subst hwA;obtain ⟨i1, i2, i3, i4, i5, i6, i7, i8, i9⟩ := HI.o;have HG := Zh hgk;obtain ⟨A0, hA0⟩ : ∃ A0, A0 = 1 + dn.length := ⟨_, rfl⟩;rw [<- hA0];have j1 : A0 <= n := by omega
  have j2 : (A0 : Int) <= 1048576 := by omega
  cases fr with
  | nil =>
   have hrs : rs = [] := by cases i3; rfl
   subst hrs;have j3 : A0 + 1 = n := by simp at i1; omega
   have j4 : (A0 : Int) = (n : Int) - 1 := by omega
   obtain ⟨b0, b1, b2, b3, b4, bf⟩ := i6;obtain ⟨d0, d1, d2, d3, d4, df⟩ := i7;have hfd : fd = g := by rw [Fo.app_nil] at i4; exact i4
   subst hfd;obtain ⟨q9, c9, hv, hlc, hfo⟩ := i8.foIn;cases hv;have HF := Zh (aI hlc (aI hfo i9));clear i1 i2 i3 i4 i5 i8 i9 hlc hfo HI
   go_wp2_with fail
   refine bodyPost_ret (v := trV true 1 s a pv fd.len cv) (by simp [results, Tryz.results64, go_sem, b0, b1, b2, b3, b4, trV]) rfl ⟨pv, cv, rfl, HF.o.1, ?_, ?_⟩
   ·exact (HF.o.2.1.only (qcy _ _ _ _ _ _ _) (fun z hz e => by omega)).mono (fun z hz _ => by omega)
   ·exact HF.o.2.2.trans ((qcy wA W.heap.size _ _ _ _ _).below (fun j hj => Nat.le_of_eq hj.symm) HF.o.2.2.size)
  | cons lb k1 s1 a1 x1 fr1 =>
   obtain ⟨u, r, hu, hu0, hone, hrd, hend⟩ := i3.first;have j3 : (A0 : Int) < (n : Int) - 1 := by have := congrArg List.length hu; simp at this; omega
   have hE : endF (L.drop A0) 0 A0 = some (A0 + u.length) := by
    rw [i2, hA0, Nat.add_comm 1, List.drop_succ_cons, List.drop_left, hu, List.append_assoc]; exact hend _ _
   have HC := Zh (qtn (some ⟨b, off, none⟩) c A0 L wA (H.o.later i9) (by rw [HL.o.2]; exact hc) (by rw [HL.o.2]; omega) (by rw [HL.o.2]; exact j1));rw [HL.o.2, hE] at HC;obtain ⟨E, hEE⟩ : ∃ E, E = A0 + u.length := ⟨_, rfl⟩;rw [<- hEE] at HC;simp only [endV] at HC;have HS := Zh (aI i1 (aI i2 (aI i4 (aI i5 (aI hu (aI hone (aI hrd (aI hA0 hEE))))))));have HM := Zh (aI i6 (aI i7 (aI i8 i9)));clear i1 i2 i3 i4 i5 i6 i7 i8 i9 hE hu hone hrd hend HI hA0 hEE
   go_wp2_with fail
   refine HC.o.mono ?_;rintro e w1 ⟨rfl, hb1⟩
   have HUL := Zh (show u.length = E - A0 /\ A0 < E /\ E <= n /\ E < n /\ u.length < n from by
    obtain ⟨i1, -, -, -, hu, -, -, hA0, hEE⟩ := HS.o;have := congrArg List.length hu;simp at this
    omega)
   have j5 : A0 < E := HUL.o.2.1;have j6 : E <= n := HUL.o.2.2.1;have hb2 : Below wA.heap.size wA w1.drew := hb1.trans ((qae w1).mono hb1.size);obtain ⟨xs, ho, hrw⟩ := HM.o.2.2.1.later hb2;have hbt := HM.o.1.later hb2;have hbx := HM.o.2.1.later hb2;have x4 := hbx.c4
   have hic := IH.o u lb k1 s1 a1 x1 HUL.o.2.2.2.2 HS.o.2.2.2.2.2.1 (some ⟨b, off + A0 * 3, none⟩) (c - A0) w1.drew (by
    have h := (H.o.later (HM.o.2.2.2.trans (hb2.mono HM.o.2.2.2.size)));have := TksA.piece (d := (⟨1, s, a⟩ : TkA) :: dn) (u := u) (z := r ++ [cl]) h (by rw [HS.o.2.1, HS.o.2.2.2.2.1]; simp);have e : ((⟨1, s, a⟩ : TkA) :: dn).length = A0 := by rw [HS.o.2.2.2.2.2.2.2.1]; simp; omega
    rw [e] at this
    exact this) (by have := HUL.o; omega)
   unfold qi3 trV at hic;rw [HUL.o.1] at hic;have hfl : fd.len <= 1048576 := by have := HS.o; omega
   have hxl : x1.len <= 1048576 := by
    have h1 := HS.o.2.2.2.2.2.1;have h2 := HUL.o.2.2.2.2
    cases h1 with
    | leaf => exact Nat.zero_le _
    | list _ _ h => have := h.len; simp at h2; omega
   have hb9 := HM.o.2.2.2.trans (hb2.mono HM.o.2.2.2.size);have HIC := Zh hic;have HOW := Zh (aI ho hrw);have HBX := Zh (aI hbt (aI hbx hb9));obtain ⟨i0, hi, hz0, hz1, hz2⟩ := qgt;clear hb1 hb2 ho hrw hbt hbx hic hb9 HM HC
   go_wp2_with fail
   refine qai [(1000, (fun _ => True : World -> Prop)), (10, (fun w => w.cell? ⟨W.heap.size + 1, 4, none⟩ = some (.slice pv fd.len cv) : World -> Prop))] (by kernel_rfl) (SL.cons (fun _ => trivial) (SL.cons (fun _ => x4) SL.nil)) (fun hH => ?_);generalize w1.drew = w2 at *;refine tk 0 0 ⟨some 27, .fieldAddr 35 (.tmp 3) 2, 0, "ref.go:101", #[], none⟩ ?_ rfl rfl ?_ hH fun hH => ?_
   rotate_left
   ·intro w hSw; (try dsimp only at hSw); go_simp; try with_reducible rfl
   try simp only [Act.put, List.setIfInBounds_toArray, List.set_cons_zero, List.set_cons_succ]
   refine tk 1 1 ⟨some 28, .load 33 (.tmp 27), 33, "ref.go:101", #[⟨0, .data⟩], none⟩ ?_ rfl rfl ?_ hH fun hH => ?_
   rotate_left
   ·intro w hSw; (try dsimp only at hSw); go_simp; try with_reducible rfl
   try simp only [Act.put, List.setIfInBounds_toArray, List.set_cons_zero, List.set_cons_succ]
   refine tk 0 2 ⟨some 29, .move (.tmp 0), 54, "ref.go:101", #[], none⟩ ?_ rfl rfl ?_ hH fun hH => ?_
   rotate_left
   ·intro w hSw; (try dsimp only at hSw); go_simp; try with_reducible rfl
   try simp only [Act.put, List.setIfInBounds_toArray, List.set_cons_zero, List.set_cons_succ]
   refine tk 0 3 ⟨some 30, .move (.tmp 4), 3, "ref.go:101", #[], none⟩ ?_ rfl rfl ?_ hH fun hH => ?_
   rotate_left
   ·intro w hSw; (try dsimp only at hSw); go_simp; try with_reducible rfl
   try simp only [Act.put, List.setIfInBounds_toArray, List.set_cons_zero, List.set_cons_succ]
   refine tk 0 4 ⟨some 31, .move (.tmp 5), 3, "ref.go:101", #[], none⟩ ?_ rfl rfl ?_ hH fun hH => ?_
   rotate_left
   ·intro w hSw; (try dsimp only at hSw); go_simp; try with_reducible rfl
   try simp only [Act.put, List.setIfInBounds_toArray, List.set_cons_zero, List.set_cons_succ]
   refine tk 0 5 ⟨some 32, .slice 54 (.tmp 29) (some (.tmp 30)) (some (.tmp 31)) none, 54, "ref.go:101", #[⟨2, .data⟩, ⟨3, .data⟩, ⟨4, .data⟩], none⟩ ?_ rfl rfl ?_ hH fun hH => ?_
   rotate_left
   ·intro w hSw
    (try dsimp only at hSw)
    have hsl := qh8 w b off n c A0 E j5 j6 hc;go_simp
    try with_reducible rfl
   try simp only [Act.put, List.setIfInBounds_toArray, List.set_cons_zero, List.set_cons_succ]
   refine qac (rs := [6]) (by kernel_rfl) (by simp) ?_;refine AllReadyL.cons (o := ⟨some 33, .call ⟨.value (.func 64), #[.tmp 32], #[54]⟩, 35, "ref.go:101", #[⟨5, .data⟩], none⟩) rfl (fun K hK => ?_) AllReadyL.nil;go_simp;go_at_call 64;refine HIC.o.mono ?_;rintro e w3 ⟨q3, c3, rfl, hq1, hq2, hb3⟩;refine hK.out _ _ (SL.cons (fun _ => trivial) (SL.cons (fun _ => qaa hb3 x4) SL.nil)) (fun hH => ?_);clear hK K
   try simp only [Act.put, List.setIfInBounds_toArray, List.set_cons_zero, List.set_cons_succ]
   have x5 := qaa hb3 x4;clear x4 hH;refine qac (rs := [7]) (by kernel_rfl) (by simp) ?_;refine AllReadyL.cons (o := ⟨some 34, .buildSlice 33 1 #[(0, .tmp 33)], 33, "ref.go:101", #[⟨6, .data⟩], none⟩) rfl (fun K hK => ?_) AllReadyL.nil;go_simp;refine hK.out _ _ (SL.cons (fun _ => trivial) (SL.cons (fun _ => qaa (qab w3 _) x5) SL.nil)) (fun hH => ?_);clear hK K
   try simp only [Act.put, List.setIfInBounds_toArray, List.set_cons_zero, List.set_cons_succ]
   have hb4 := hb3.trans ((qab w3 (.cells #[.bool lb, .int .u8 k1, .string s1, .int .i64 a1, .slice q3 x1.len c3] 35)).mono hb3.size);have hbt := HBX.o.1.later hb4;have hbx := HBX.o.2.1.later hb4;have ho := qal HOW.o.1 hb4;have hrw := HOW.o.2.later hb4;have hq4 := hq2.later (qab w3 (.cells #[.bool lb, .int .u8 k1, .string s1, .int .i64 a1, .slice q3 x1.len c3] 35));have hnb := qam w3 lb k1 s1 a1 (.slice q3 x1.len c3);have hsz : W.heap.size + 2 <= (w3.alloc (.cells #[.bool lb, .int .u8 k1, .string s1, .int .i64 a1, .slice q3 x1.len c3] 35)).heap.size := by have := hbx.lt; omega
   clear x5 hH;refine qac (rs := [8]) (by kernel_rfl) (by simp) ?_;refine AllReadyL.cons (o := ⟨some 35, .call ⟨.builtin .append, #[.tmp 28, .tmp 34], #[33, 33]⟩, 33, "ref.go:101", #[⟨1, .data⟩, ⟨7, .data⟩, ⟨6, .chain⟩], none⟩) rfl (fun K hK => ?_) AllReadyL.nil;rw [if_pos (by rfl)];refine qay _ _ 33 (by rfl) (W.heap.size + 2) 35 i0 Z41 5 64 Tryz.underlying33 hi hz0 hz1 hz2 rfl (by omega) _ fd.len xs (by rfl) ho ⟨w3.heap.size, 0, none⟩ 1 1 (trC lb k1 s1 a1 q3 x1.len c3) (by rfl) (by rfl) ?_ ?_ ?_ ?_ ?_ ?_
   ·intro jj u hjj
    rw [Lib.add_plain]
    match jj, hjj with
    | 0, hjj => cases hjj; exact hnb.c0
    | 1, hjj => cases hjj; exact hnb.c1
    | 2, hjj => cases hjj; exact hnb.c2
    | 3, hjj => cases hjj; exact hnb.c3
    | 4, hjj => cases hjj; exact hnb.c4
   ·intro u hu; simp [trC] at hu; rcases hu with rfl | rfl | rfl | rfl | rfl <;> rfl
   ·have hml : maxLen = 9223372036854775807 := rfl; omega
   ·omega
   ·exact hsz
   intro v8 w8 hown hgrow hnil_ hloc;have hpush := OwnF.push (N := w2.heap.size) ho hrw (by have := HBX.o.2.1.lt; omega) (fun g hg => (qaw HOW.o.1 hg).2) hq4 hq1 (by omega) hown hgrow hloc;obtain ⟨p8, c8, hv, hA_⟩ := qaq hown;subst hv;clear hnil_ hloc hA_;have ho8 := Only.of_grown hgrow;have hge : ∀ j, (Value.slice pv fd.len cv).ownBlock = some j -> W.heap.size + 2 <= j := fun j hj => (qaw ho hj).1
   have hbx8 := hbx.only ho8 (fun e => by have := hge _ e; omega);have hbt8 := hbt.only ho8 (fun e => by have := hge _ e; omega);have x8 := hbx8.c4;have f8 := hbx8.fz;have hb8 := (HBX.o.2.2.trans (hb4.mono HBX.o.2.2.size)).trans (ho8.below (B := W.heap.size) (fun j hj => by have := hge j hj; omega) (by omega));have HE := Zh (aI hpush (aI hbx8 (aI hbt8 hb8)));clear hown hgrow ho8 hge hbx8 hbt8 hb8 hpush hb4 hbt hbx ho hrw hq4 hnb hq1 hq2 hb3;refine hK.out _ _ (SL.cons (fun _ => trivial) (SL.cons (fun _ => x8) SL.nil)) (fun hH => ?_);clear hK K
   try simp only [Act.put, List.setIfInBounds_toArray, List.set_cons_zero, List.set_cons_succ]
   refine tk 0 9 ⟨some 36, .fieldAddr 35 (.tmp 3) 2, 0, "ref.go:101", #[⟨0, .phase⟩, ⟨1, .phase⟩, ⟨2, .phase⟩, ⟨3, .phase⟩, ⟨4, .phase⟩, ⟨5, .phase⟩, ⟨6, .phase⟩, ⟨7, .phase⟩, ⟨8, .phase⟩], none⟩ ?_ rfl rfl ?_ hH fun hH => ?_
   rotate_left
   ·intro w hSw; (try dsimp only at hSw); go_simp; try with_reducible rfl
   try simp only [Act.put, List.setIfInBounds_toArray, List.set_cons_zero, List.set_cons_succ]
   refine qac (rs := [10]) (by kernel_rfl) (by simp) ?_;refine AllReadyL.cons (o := ⟨none, .store 33 (.tmp 36) (.tmp 35), 0, "ref.go:101", #[⟨9, .data⟩, ⟨8, .data⟩, ⟨8, .chain⟩, ⟨0, .phase⟩, ⟨1, .phase⟩, ⟨2, .phase⟩, ⟨3, .phase⟩, ⟨4, .phase⟩, ⟨5, .phase⟩, ⟨6, .phase⟩, ⟨7, .phase⟩, ⟨8, .phase⟩], none⟩) rfl (fun K hK => ?_) AllReadyL.nil;go_simp;refine hK.out _ _ (SL.cons (fun _ => trivial) (SL.cons (fun h => absurd h (by decide +kernel)) SL.nil)) (fun hH => ?_);clear hK K
   try simp only [Act.put, List.setIfInBounds_toArray, List.set_cons_zero, List.set_cons_succ]
   refine qah (by kernel_rfl) ?_ _;obtain ⟨w9, hw9⟩ : ∃ w9, w9 = w8.setCell ⟨W.heap.size + 1, 4, none⟩ (.slice p8 (fd.len + 1) c8) := ⟨_, rfl⟩;have ho9 : Only (fun k => k = W.heap.size + 1) w8 w9 := by rw [hw9]; exact Only.of_setCell w8 ⟨W.heap.size + 1, 4, none⟩ _
   have HN := Zh (show BoxT w9 W.heap.size false 0 ⟨#[]⟩ 0 (.slice none 0 0) /\ BoxT w9 (W.heap.size + 1) true 1 s a (.slice p8 (fd.len + 1) c8) /\ OwnF w9 (W.heap.size + 2) (.slice p8 (fd.len + 1) c8) (fd.snoc lb k1 s1 a1 x1) /\ Below W.heap.size W w9 from
    ⟨HE.o.2.2.1.only ho9 (by omega), by rw [hw9]; exact HE.o.2.1.set4 _, HE.o.1.only ho9 (fun z hz e => by omega), HE.o.2.2.2.trans (ho9.below (fun j hj => by omega) HE.o.2.2.2.size)⟩)
   rw [<- hw9];clear hw9 ho9 x8 f8 hH;obtain ⟨G, rfl⟩ : ∃ G, gk = G + 1 := ⟨gk - 1, by have h1 := HG.o; have h2 := congrArg List.length HS.o.2.2.2.2.1; have h3 := HUL.o; simp at h2; omega⟩
   go_wp2_with fail
   go_roundg G
   case measure => omega
   case rel =>
    obtain ⟨i1, i2, i4, i5, hu, hone, hrd, hA0, hEE⟩ := HS.o;have hul := congrArg List.length hu;have h3 := HUL.o;have h1 := HG.o;simp at hul;have hfs : (fd.snoc lb k1 s1 a1 x1).len = fd.len + 1 := Fo.len_snoc _ _ _ _ _ _;refine ⟨dn ++ u, r, fd.snoc lb k1 s1 a1 x1, fr1, p8, c8, ?_, by omega, Zh ⟨?_, ?_, hrd, ?_, ?_, HN.o.1, ?_, ?_, HN.o.2.2.2⟩⟩
    ·congr 2; simp; omega
    ·simp; omega
    ·rw [i2, hu]; simp
    ·rw [Fo.snoc_app]; exact i4
    ·rw [hfs]; simp; omega
    ·rw [hfs]; exact HN.o.2.1
    ·rw [hfs]; exact HN.o.2.2.1
theorem qo4 (n : Nat) : n <= 1048576 -> ∀ l b k s a g, l.length <= n -> One l b k s a g -> ∀ p c W, TksA W p l -> l.length <= c -> qi3 l p c b k s a g W := by
 induction n with
 | zero =>
  intro _ l b k s a g hl h1
  cases h1 <;> simp at hl
 | succ n ih =>
  intro hn l b k s a g hl h1 p c W h hc
  cases h1 with
  | leaf h1 h2 => exact qme _ p c W h h1
  | @list t cl x g h1 h2 h3 =>
   exact qmd (t :: (x ++ [cl])).length (fun l b k s a g hlt ho p c W => ih (by omega) l b k s a g (by omega) ho p c W) t cl x g h1 h2 h3 rfl (by omega) p c W h hc
def qtx (l : List TkA) (z : Int) (W : World) (e : Ending) (w' : World) : Prop := ∃ (q : Option Addr) (c' : Nat) (b : Bool) (k : Int) (s : ByteArray) (a : Int) (g : Fo) (n er : Int), e = .returned (.tuple #[trV b k s a q g.len c', .int .i64 n, .int .i64 er]) /\ g.len <= c' /\ FoIn w' (fun x => W.heap.size <= x) g q /\ Below W.heap.size W w' /\ NextO l z b k s a g n er
theorem qcz {l : List TkA} {z : Int} {W w' : World} {n er : Int} (hb : Below W.heap.size W w') (h : NextO l z false 0 ⟨#[]⟩ 0 .nil n er) : qtx l z W (.returned (.tuple #[.agg #[.bool false, .int .u8 0, .string ⟨#[]⟩, .int .i64 0, .slice none 0 0], .int .i64 n, .int .i64 er])) w' :=
 ⟨none, 0, false, 0, ⟨#[]⟩, 0, .nil, n, er, rfl, Nat.le_refl _, trivial, hb, h⟩
theorem next22 (p : Option Addr) (c : Nat) (l : List TkA) (z : Int) (W : World) (h1 : TksA W p l) (hc : l.length <= c) (hn : l.length <= 1048576) :
  Calls Tryz.prog 27 #[.slice p l.length c, .int .i64 z] W (qtx l z W) := by
 obtain ⟨n, hl⟩ : ∃ n, n = l.length := ⟨_, rfl⟩;have H1 := Zh h1;have HL := Zh hl;rw [<- hl] at hc hn ⊢;clear h1 hl;have n1 : (n : Int) <= 1048576 := by omega
 by_cases hz : z < 0
 ·have HO := Zh (NextO.arg (l := l) (z := z) (Or.inl hz))
  go_enter Tryz.func27, Tryz.ntmps27
  go_wp2_with fail
  refine bodyPost_ret (v := .tuple #[.agg #[.bool false, .int .u8 0, .string ⟨#[]⟩, .int .i64 0, .slice none 0 0], .int .i64 z, .int .i64 2]) (by simp [results, Tryz.results27, go_sem]) rfl (qcz ?_ HO.o)
  repeat (first | exact Below.refl _ _ | refine Below.alloc ?_ (by simp) _ | refine Below.setCell ?_ (by simp) _)
 by_cases hz2 : (n : Int) < z
 ·have HO := Zh (NextO.arg (l := l) (z := z) (Or.inr (by rw [<- HL.o]; exact hz2)))
  have hz3 : 0 <= z := by omega
  go_enter Tryz.func27, Tryz.ntmps27
  go_wp2_with fail
  refine bodyPost_ret (v := .tuple #[.agg #[.bool false, .int .u8 0, .string ⟨#[]⟩, .int .i64 0, .slice none 0 0], .int .i64 z, .int .i64 2]) (by simp [results, Tryz.results27, go_sem]) rfl (qcz ?_ HO.o)
  repeat (first | exact Below.refl _ _ | refine Below.alloc ?_ (by simp) _ | refine Below.setCell ?_ (by simp) _)
 obtain ⟨i, rfl⟩ : ∃ i : Nat, z = (i : Int) := ⟨z.toNat, by omega⟩;have hin : i <= n := by omega
 have z0 : (0 : Int) <= (i : Int) := by omega
 have z1 : (i : Int) <= (n : Int) := by omega
 clear hz hz2
 by_cases hiz : i = n
 ·have HO := Zh (show NextO l (i : Int) false 0 ⟨#[]⟩ 0 .nil (i : Int) 4 from by rw [hiz, HL.o]; exact NextO.short)
  subst hiz;go_enter Tryz.func27, Tryz.ntmps27
  go_wp2_with fail
  refine bodyPost_ret (v := .tuple #[.agg #[.bool false, .int .u8 0, .string ⟨#[]⟩, .int .i64 0, .slice none 0 0], .int .i64 (i : Int), .int .i64 4]) (by simp [results, Tryz.results27, go_sem]) rfl (qcz ?_ HO.o)
  repeat (first | exact Below.refl _ _ | refine Below.alloc ?_ (by simp) _ | refine Below.setCell ?_ (by simp) _)
 have hlt : i < l.length := by rw [<- HL.o]; omega
 have z2 : (i : Int) < (n : Int) := by omega
 have z3 : ¬ (i : Int) = (n : Int) := by omega
 obtain ⟨b, off, rfl, x0, x1, x2⟩ := (H1.o.later (qab W (.cells #[.bool false, .int .u8 0, .string ⟨#[]⟩, .int .i64 0, .slice none 0 0] 35))) i hlt;have hd := qf9 hlt;generalize l[i] = t at *;generalize l.drop (i + 1) = r at *;have HD := Zh hd;clear hd hlt
 by_cases h2 : t.k = 2
 ·have HO := Zh (NextO.close HD.o h2)
  rw [h2] at x0;clear h2;go_enter Tryz.func27, Tryz.ntmps27
  go_wp2_with fail
  refine bodyPost_ret (v := .tuple #[.agg #[.bool false, .int .u8 0, .string ⟨#[]⟩, .int .i64 0, .slice none 0 0], .int .i64 (i : Int), .int .i64 41]) (by simp [results, Tryz.results27, go_sem]) rfl (qcz ?_ HO.o)
  repeat (first | exact Below.refl _ _ | refine Below.alloc ?_ (by simp) _ | refine Below.setCell ?_ (by simp) _)
 have e2 : (t.k == 2) = false := by simp [h2]
 have HK := Zh h2;have hend := qtn (some ⟨b, off, none⟩) c i l (W.alloc (.cells #[.bool false, .int .u8 0, .string ⟨#[]⟩, .int .i64 0, .slice none 0 0] 35)) (H1.o.later (qab _ _)) (by rw [<- HL.o]; exact hc) (by rw [<- HL.o]; omega) (by rw [<- HL.o]; exact hin);rw [<- HL.o, HD.o] at hend;have HE := Zh hend;have HBX := Zh (qam W false 0 ⟨#[]⟩ 0 (.slice none 0 0));clear h2 hend;go_enter Tryz.func27, Tryz.ntmps27
 go_wp2_with fail
 refine HE.o.mono ?_;rintro e w1 ⟨rfl, hb1⟩;clear HE;obtain ⟨b0, b1, b2, b3, b4, bf⟩ := HBX.o.later hb1;have HB1 := Zh ((qab W (.cells #[.bool false, .int .u8 0, .string ⟨#[]⟩, .int .i64 0, .slice none 0 0] 35)).trans (hb1.mono (by simp)))
 cases hE : endF (t :: r) 0 i with
 | none =>
  have HO := Zh (NextO.open HD.o HK.o hE);simp only [endV];clear hE hb1
  go_wp2_with fail
  refine bodyPost_ret (v := .tuple #[.agg #[.bool false, .int .u8 0, .string ⟨#[]⟩, .int .i64 0, .slice none 0 0], .int .i64 (n : Int), .int .i64 4]) (by simp [results, Tryz.results27, go_sem, b0, b1, b2, b3, b4]) rfl (qcz ?_ (by rw [HL.o]; exact HO.o))
  exact HB1.o.trans ((qcy w1 W.heap.size _ _ _ _ _).below (fun j hj => Nat.le_of_eq hj.symm) HB1.o.size)
 | some E =>
  obtain ⟨hiE, hEn, b', k', s', a', g', hone⟩ := qst HK.o hE;have hlen : (t :: r).length = n - i := by rw [<- HD.o, List.length_drop, <- HL.o]
  rw [hlen] at hEn;obtain ⟨U, hU⟩ : ∃ U, U = (t :: r).take (E - i) := ⟨_, rfl⟩;have hUl : U.length = E - i := by rw [hU, List.length_take, hlen]; omega
  have hpc : TksA w1 (some ⟨b, off + i * 3, none⟩) U := by
   have h := (H1.o.later (HB1.o));have := TksA.piece (d := l.take i) (u := U) (z := (t :: r).drop (E - i)) h (by rw [hU, List.take_append_drop, <- HD.o, List.take_append_drop])
   rwa [List.length_take, <- HL.o, Nat.min_eq_left hin] at this
  have hmo := qs6 (some ⟨b, off + i * 3, none⟩) (c - i) U w1 hpc (by omega) (by omega);have hsl := fun w => qh8 w b off n c i E hiE (by omega) hc
  have hE2 : E <= n := by omega
  have e4 : (E : Int) <= 1048576 := by omega
  rw [<- hU] at hone;have HU := Zh (aI hU (aI hUl (aI hone hE)));rw [hUl] at hmo;have HMO := Zh hmo;have HPC := Zh hpc;have HB9 := Zh hb1;clear hlen hEn hpc hmo hU hUl hone hE hb1;generalize hM : qcg U 0 0 = M at HMO;have HM := Zh hM;clear hM;simp only [endV]
  go_wp2_with fail
  refine HMO.o.mono ?_;rintro e w2 ⟨rfl, hb2⟩;have HB2 := Zh (HB1.o.trans (hb2.mono HB1.o.size));have hpc2 := HPC.o.later hb2;clear HB1 HPC b0 b1 b2 b3 b4 bf HMO;obtain ⟨b0, b1, b2, b3, b4, bf⟩ := (HBX.o.later HB9.o).later hb2;clear hb2
  by_cases h200 : 200 < M
  ·have HO := Zh (NextO.deep HD.o HK.o HU.o.2.2.2 (by rw [<- HU.o.1, HM.o]; exact h200))
   go_wp2_with fail
   refine bodyPost_ret (v := .tuple #[.agg #[.bool false, .int .u8 0, .string ⟨#[]⟩, .int .i64 0, .slice none 0 0], .int .i64 (E : Int), .int .i64 40]) (by simp [results, Tryz.results27, go_sem, b0, b1, b2, b3, b4]) rfl (qcz ?_ HO.o);exact HB2.o.trans ((qcy w2 W.heap.size _ _ _ _ _).below (fun j hj => Nat.le_of_eq hj.symm) HB2.o.size)
  ·have HO := Zh (NextO.ok HD.o HK.o HU.o.2.2.2 (by rw [<- HU.o.1, HM.o]; exact h200) (by rw [<- HU.o.1]; exact HU.o.2.2.1))
   have htr := qo4 (E - i) (by omega) U b' k' s' a' g' (Nat.le_of_eq HU.o.2.1) HU.o.2.2.1 (some ⟨b, off + i * 3, none⟩) (c - i) w2 hpc2 (by have := HU.o.2.1; omega);unfold qi3 trV at htr;rw [HU.o.2.1] at htr;have HTR := Zh htr;have HB8 := Zh (qam W false 0 ⟨#[]⟩ 0 (.slice none 0 0));have HBB := Zh (show BoxT w2 W.heap.size false 0 ⟨#[]⟩ 0 (.slice none 0 0) from ⟨b0, b1, b2, b3, b4, bf⟩);clear htr hpc2 b0 b1 b2 b3 b4 bf
   go_wp2_with fail
   refine HTR.o.mono ?_;rintro e w3 ⟨q3, c3, rfl, hq1, hq2, hb3⟩;obtain ⟨b0, b1, b2, b3, b4, bf⟩ := HBB.o.later hb3;have HB3 := Zh (HB2.o.trans (hb3.mono HB2.o.size));have HQ := Zh (aI hq1 (aI (show FoIn w3 (fun z => W.heap.size + 1 <= z) g' q3 from hq2.mono (fun z hz _ => by have := HBB.o.lt; have : w2.heap.size <= z := hz; omega)) hb3));clear hq1 hq2 hb3
   go_wp2_with fail
   refine bodyPost_ret (v := .tuple #[trV b' k' s' a' q3 g'.len c3, .int .i64 (E : Int), .int .i64 0]) (by simp [results, Tryz.results27, go_sem, b0, b1, b2, b3, b4, trV]) rfl ⟨q3, c3, b', k', s', a', g', _, _, rfl, HQ.o.1, ?_, ?_, HO.o⟩
   ·exact (HQ.o.2.1.only (qcy w3 W.heap.size _ _ _ _ _) (fun z hz e => by omega)).mono (fun z hz _ => by omega)
   ·exact HB3.o.trans ((qcy w3 W.heap.size _ _ _ _ _).below (fun j hj => Nat.le_of_eq hj.symm) HB3.o.size)
def TksIn (W : World) (p : Option Addr) (l : List Tk) : Prop := ∀ i (h : i < l.length), ∃ b off, p = some ⟨b, off, none⟩ /\ W.cell? ⟨b, off + i * 3, none⟩ = some (.int .u8 (l[i].kind : Int)) /\ W.cell? ⟨b, off + i * 3 + 1, none⟩ = some (.string ⟨l[i].text.toArray⟩) /\ W.cell? ⟨b, off + i * 3 + 2, none⟩ = some (.int .i64 (l[i].at_ : Int))
theorem qf0 {w : World} {base n c : Nat} {e : TypeId} {g : Nat} {xs : List Value} (h : w.ownsRow base e 3 (.slice (some ⟨g, 0, none⟩) n c) n xs) (i : Nat) (u : Value) (hu : xs[i]? = some u) : w.cell? ⟨g, i, none⟩ = some u /\ w.frozen? ⟨g, i, none⟩ = false := by
 obtain ⟨h0, ⟨h1, _⟩ | ⟨g', cap, cur, hv, hg, hh, hn, hm, hs, ht⟩⟩ := h
 ·cases h1
 ·cases hv
  have hlt := (List.getElem?_eq_some_iff.1 hu).1;rw [<- ht, List.getElem?_take_of_lt (by omega)] at hu;have e' : cur[i]? = some u := by simpa using hu
  exact ⟨by simp [World.cell?, hh, e'], by simp [World.frozen?, hh]⟩
theorem qkd : ∀ (l : List Tk) (i : Nat) (h : i < l.length), (rowT l)[i * 3]? = some (.int .u8 (l[i].kind : Int)) /\ (rowT l)[i * 3 + 1]? = some (.string ⟨l[i].text.toArray⟩) /\ (rowT l)[i * 3 + 2]? = some (.int .i64 (l[i].at_ : Int))
 | [], i, h => by simp at h
 | t :: l, 0, h => by simp [rowT, tkV]
 | t :: l, i + 1, h => by
  have := qkd l i (by simpa using h);have e : rowT (t :: l) = tkV t ++ rowT l := rfl;rw [e];have hl : (tkV t).length = 3 := rfl;refine ⟨?_, ?_, ?_⟩
  ·rw [List.getElem?_append_right (by omega), hl, show (i + 1) * 3 - 3 = i * 3 by omega]; exact this.1
  ·rw [List.getElem?_append_right (by omega), hl, show (i + 1) * 3 + 1 - 3 = i * 3 + 1 by omega]; exact this.2.1
  ·rw [List.getElem?_append_right (by omega), hl, show (i + 1) * 3 + 2 - 3 = i * 3 + 2 by omega]; exact this.2.2
theorem own_tks {w : World} {base c : Nat} {p : Option Addr} {l : List Tk} (h : w.ownsRow base 32 3 (.slice p l.length c) l.length (rowT l)) : TksIn w p l := fun i hi => by
 have hg := qkd l i hi
 obtain ⟨g, rfl⟩ : ∃ g, p = some ⟨g, 0, none⟩ := by
  rcases h.2 with ⟨e, _⟩ | ⟨g, _, _, e, _⟩
  ·injection e with _ e2 _; omega
  ·injection e with e2 _ _; exact ⟨g, e2⟩
 refine ⟨g, 0, rfl, ?_, ?_, ?_⟩
 ·rw [Nat.zero_add]; exact (qf0 h _ _ hg.1).1
 ·rw [Nat.zero_add]; exact (qf0 h _ _ hg.2.1).1
 ·rw [Nat.zero_add]; exact (qf0 h _ _ hg.2.2).1
def qt7 (k : Nat) (t : List UInt8) (W : World) (e : Ending) (w' : World) : Prop := ∃ X : ByteArray, e = .returned (.string X) /\ X.data.toList = qaj k t /\ Below W.heap.size W w'
theorem qb1 (A B : ByteArray) : (A ++ B).data.toList = A.data.toList ++ B.data.toList := by simp
theorem qjy (l : List UInt8) : (dblL l).length <= 2 * l.length := by
 induction l with
 | nil => simp [dblL]
 | cons c l ih => simp only [dblL]; split <;> simp <;> omega
end Go.Proofs.YtookoagcmejkpaaGreatDoor.Lx
namespace Go.Proofs.YtookoagcmejkpaaGreatDoor
open Go Go.RowKit Go.WideShapes Go.ChangeShapes Go.WideElems
theorem qgj {H : Type} {enc : TypeId × Value -> H} {a : Assume} {C : Checked} {os : Os} {f : FuncId} {fn : Func} {s : ChangeSpec} {conds : List PathCond} {apart fresh handsOn again : Bool} {X : World -> Array Value -> Prop}
  (hX : ∀ (w w' : World) (args : Array Value), w.heap = w'.heap -> X w args -> X w' args)
  (own : ownKnob C.prog.godebug = none) (started : os.Started) (noInit : C.prog.inits.idxOf? f = none) (hfn : C.prog.funcs[f]? = some fn)
  (witness : ∃ (w : World) (tape : Tape) (i : Input), w.os = os /\ (w.forCall tape i).Shaped C.prog /\ i.vars = [] /\ Input.okWide C.prog (w.forCall tape i) .any w.heap.size f i ∧
   ((s.pre enc C.prog fn conds apart (w.forCall tape i).memory i.args /\ X (w.forCall tape i).memory i.args) /\ sizedMet enc C.prog fn (OpenSpec.ofChange s) apart (w.forCall tape i).memory i.args) /\ a.holds C.prog (lone (Frame.enter C.prog f i.args .normal) [] (w.forCall tape i)))
  (contract : ∀ (W : World) (base : Nat) (args : Array Value) (ds gs : List (DataW H)) (before : List MemPlace),
   (∀ (j : Nat) t v, fn.params[j]? = some t -> args[j]? = some v -> Value.okWide C.prog W .any base t v) →
   DataW.Whole enc C.prog fn.params.toList s.vars apart W args.toList ds gs before →
   (DataW.weightsEach C.prog (fn.params.toList ++ s.plain.varTypes C.prog) (ds ++ gs)).all (· <= reachBytes) = true -> W.ShapedOpen C.prog -> X W args →
   Calls C.prog f args W fun e W' => ∃ v, e = .returned v /\ s.post enc C.prog fn apart fresh handsOn again W args v W') :
  ReturnsInHanded a C os f .any (fun w args => (s.pre enc C.prog fn conds apart w args /\ X w args) /\ sizedMet enc C.prog fn (OpenSpec.ofChange s) apart w args) (s.post enc C.prog fn apart fresh handsOn again) := by
 refine returnsInHanded_of_calls own started noInit witness ?_;intro w tape i _ hsh _ hok hpre hholds;obtain ⟨_, _, _, fn2, hfn2, _, _, _, _, hval⟩ := hok;obtain rfl : fn2 = fn := Option.some.inj (hfn2.symm.trans hfn);obtain ⟨⟨⟨ds, gs, before, hw, hc⟩, hx⟩, hz⟩ := hpre;refine (contract (w.forCall tape i) w.heap.size i.args ds gs before hval (DataW.Whole.of_heap (w' := w.forCall tape i) (by rfl) hw) (hz.weights hw) hsh (hX _ _ _ (by rfl) hx)).mono fun e W' ⟨v, he, hp⟩ => ?_
 subst he;exact ChangeSpec.post_blind hp
theorem qgq {W : World} (h : W.ShapedOpen Tryz.prog) : Lx.MaxAt W :=
 cell_of_shapedOpen_int (g := 0) (t := 3) (zero := #[.int .i64 0]) (k := .i64) h (by decide +kernel) (by kernel_rfl) rfl (by kernel_rfl) (by kernel_rfl) Tryz.underlying3
end Go.Proofs.YtookoagcmejkpaaGreatDoor
namespace Go.Proofs.YtookoagcmejkpaaGreatDoor.Lx
set_option maxRecDepth 100000
open Go Go.RowKit
theorem _root_.Go.Proofs.YtookoagcmejkpaaGreatDoor.Rd.uniq {x : List TkA} {g : Fo} (h : Rd x g) : ∀ {g' : Fo}, Rd x g' -> g' = g := by
 induction h with
 | nil => intro g' h; cases h; rfl
 | leaf h1 h2 _ ih =>
  intro g' h
  cases h with
  | leaf _ _ h => rw [ih h]
  | list h => exact absurd h h1
 | @list t c x r g f h1 h2 h3 h4 ih1 ih2 =>
  intro g' h;generalize hL : (x ++ c :: r) = L at h
  cases h with
  | leaf h => exact absurd h1 h
  | @list _ c' x' r' g'' f'' _ h2' h3' h4' =>
   have e1 : endF (x ++ c :: r) 1 0 = some (x.length + 1) := by
    rw [qjw h3 _ _ _ (by omega), endF, qe2 h2, if_pos (by omega)]; simp
   have e2 : endF (x' ++ c' :: r') 1 0 = some (x'.length + 1) := by
    rw [qjw h3' _ _ _ (by omega), endF, qe2 h2', if_pos (by omega)]; simp
   rw [hL, e2] at e1;have hlen : x.length = x'.length := by injection e1 with e1; omega
   obtain ⟨ex, er⟩ := List.append_inj hL hlen;subst ex
   injection er with _ er
   subst er;rw [ih1 h3', ih2 h4']
theorem _root_.Go.Proofs.YtookoagcmejkpaaGreatDoor.One.uniq {l : List TkA} {b b' : Bool} {k k' : Int} {s s' : ByteArray} {a a' : Int} {g g' : Fo} (h : One l b k s a g) (h' : One l b' k' s' a' g') : b' = b /\ k' = k /\ s' = s /\ a' = a /\ g' = g := by
 cases h with
 | @leaf t h1 h2 =>
  generalize hL : [t] = L at h'
  cases h' with
  | leaf => injection hL with hL; subst hL; exact ⟨rfl, rfl, rfl, rfl, rfl⟩
  | list h => have := congrArg List.length hL; simp at this
 | @list t c x g h1 h2 h3 =>
  generalize hL : (x ++ [c]) = L at h'
  cases h' with
  | leaf h => exact absurd h1 h
  | @list _ c' x' g' _ h2' h3' =>
   have hlen : x.length = x'.length := by have := congrArg List.length hL; simp at this; exact this
   obtain ⟨ex, er⟩ := List.append_inj hL hlen;subst ex;exact ⟨rfl, rfl, rfl, rfl, h3.uniq h3'⟩

theorem qcf {l : List TkA} {i : Nat} {t : TkA} {r : List TkA} (h : l.drop i = t :: r) : i < l.length := by
 have h1 := congrArg List.length h;simp only [List.length_drop, List.length_cons] at h1;omega
theorem NextO.uniq {l : List TkA} {z : Int} {b b' : Bool} {k k' : Int} {s s' : ByteArray} {a a' : Int} {g g' : Fo} {n n' er er' : Int} (h : NextO l z b k s a g n er) (h' : NextO l z b' k' s' a' g' n' er') :
  b' = b /\ k' = k /\ s' = s /\ a' = a /\ g' = g /\ n' = n /\ er' = er := by
 cases h with
 | arg h1 =>
  cases h' with
  | arg => exact ⟨rfl, rfl, rfl, rfl, rfl, rfl, rfl⟩
  | short => omega
  | close hd => have := qcf hd; omega
  | «open» hd => have := qcf hd; omega
  | deep hd => have := qcf hd; omega
  | ok hd => have := qcf hd; omega
 | short =>
  generalize hz : (l.length : Int) = z at h'
  cases h' with
  | arg => omega
  | short => exact ⟨rfl, rfl, rfl, rfl, rfl, rfl, rfl⟩
  | close hd => have := qcf hd; omega
  | «open» hd => have := qcf hd; omega
  | deep hd => have := qcf hd; omega
  | ok hd => have := qcf hd; omega
 | @close i t r hd h2 =>
  have hl := qcf hd;generalize hz : (i : Int) = z at h'
  cases h' with
  | arg => omega
  | short => omega
  | close => exact ⟨rfl, rfl, rfl, rfl, rfl, rfl, rfl⟩
  | «open» hd' h2' => obtain rfl := Int.ofNat_inj.1 hz; rw [hd] at hd'; cases hd'; exact absurd h2 h2'
  | deep hd' h2' => obtain rfl := Int.ofNat_inj.1 hz; rw [hd] at hd'; cases hd'; exact absurd h2 h2'
  | ok hd' h2' => obtain rfl := Int.ofNat_inj.1 hz; rw [hd] at hd'; cases hd'; exact absurd h2 h2'
 | @«open» i t r hd h2 hE =>
  have hl := qcf hd;generalize hz : (i : Int) = z at h'
  cases h' with
  | arg => omega
  | short => omega
  | close hd' h2' => obtain rfl := Int.ofNat_inj.1 hz; rw [hd] at hd'; cases hd'; exact absurd h2' h2
  | «open» => exact ⟨rfl, rfl, rfl, rfl, rfl, rfl, rfl⟩
  | deep hd' h2' hE' => obtain rfl := Int.ofNat_inj.1 hz; rw [hd] at hd'; cases hd'; rw [hE] at hE'; cases hE'
  | ok hd' h2' hE' => obtain rfl := Int.ofNat_inj.1 hz; rw [hd] at hd'; cases hd'; rw [hE] at hE'; cases hE'
 | @deep i n t r hd h2 hE hm =>
  have hl := qcf hd;generalize hz : (i : Int) = z at h'
  cases h' with
  | arg => omega
  | short => omega
  | close hd' h2' => obtain rfl := Int.ofNat_inj.1 hz; rw [hd] at hd'; cases hd'; exact absurd h2' h2
  | «open» hd' h2' hE' => obtain rfl := Int.ofNat_inj.1 hz; rw [hd] at hd'; cases hd'; rw [hE] at hE'; cases hE'
  | deep hd' h2' hE' => obtain rfl := Int.ofNat_inj.1 hz; rw [hd] at hd'; cases hd'; rw [hE] at hE'; cases hE'; exact ⟨rfl, rfl, rfl, rfl, rfl, rfl, rfl⟩
  | ok hd' h2' hE' hm' => obtain rfl := Int.ofNat_inj.1 hz; rw [hd] at hd'; cases hd'; rw [hE] at hE'; cases hE'; exact absurd hm hm'
 | @ok i n t r _ _ _ _ _ hd h2 hE hm h1 =>
  have hl := qcf hd;generalize hz : (i : Int) = z at h'
  cases h' with
  | arg => omega
  | short => omega
  | close hd' h2' => obtain rfl := Int.ofNat_inj.1 hz; rw [hd] at hd'; cases hd'; exact absurd h2' h2
  | «open» hd' h2' hE' => obtain rfl := Int.ofNat_inj.1 hz; rw [hd] at hd'; cases hd'; rw [hE] at hE'; cases hE'
  | deep hd' h2' hE' hm' => obtain rfl := Int.ofNat_inj.1 hz; rw [hd] at hd'; cases hd'; rw [hE] at hE'; cases hE'; exact absurd hm' hm
  | ok hd' h2' hE' hm' h1' =>
   obtain rfl := Int.ofNat_inj.1 hz; rw [hd] at hd'; cases hd'; rw [hE] at hE'; cases hE';obtain ⟨e1, e2, e3, e4, e5⟩ := h1.uniq h1';exact ⟨e1, e2, e3, e4, e5, rfl, rfl⟩
theorem qq3 {P : Program} {w : World} {base : Nat} {t u ty e : TypeId} {i : TypeInfo} (ht : P.underlying t = some (.slice e)) (hu : P.underlying u = some .string) (hi : P.info? e = some i) (hz : i.zero = some (.int .u8 0))
  (hsize : i.size = 1) (hby : i.bytes = 1) {v : Value} {n : Nat} {xs : List Value} (hown : w.ownsRow base e 1 v n xs) {s : ByteArray} (hbytes : n + s.size <= 140737488355328) {v' : Value} {w' : World}
  (hr : (Builtin.append_ #[t, u] ty #[v, .string s]).run P w = .ok v' w') (hnil : v' = .slice none 0 0 ↔ v = .slice none 0 0 /\ s.size = 0) : v'.ownBlock = v.ownBlock \/ v'.ownBlock = some w.heap.size := by
 have hxl : xs.length = n := by simpa using hown.1
 rcases hown.2 with ⟨rfl, rfl⟩ | ⟨g, cap, cur, rfl, hbg, hg, hnc, hcm, hcs, htake⟩
 ·by_cases hm : s.size = 0
  ·left; rw [hnil.2 ⟨rfl, hm⟩]
  ·have h2 := Go.run_append_nil_string (P := P) w t u ty e i (.int .u8 0) ht hu hi hz s (by omega) (by omega) (by rw [hby]; omega)
   rw [hr] at h2
   injection h2 with h3 _
   right; rw [h3]; rfl
 ·by_cases hroom : n + s.size <= cap
  ·have hcs' : cur.size = cap := by simpa using hcs
   have h2 := Lib.run_append_room_string (P := P) w t u ty e i ht hu hi hsize g n cap cur hg s hroom (by omega);rw [hr] at h2
   injection h2 with h3 _
   left; rw [h3]; rfl
  ·have h2 := Lib.run_append_grow_string (P := P) w t u ty e i (.int .u8 0) ht hu hi hz ⟨g, 0, none⟩ n cap xs (by rw [hsize]; simpa using hxl) (hown.cells (g := g) rfl) s (by omega) (by omega) (by rw [hby]; exact growslice_fits (by omega) (by omega))
   rw [hr] at h2
   injection h2 with h3 _
   right; rw [h3]; rfl
def RowS (B : Nat) (W : World) (v : Value) (N : Nat) (xs : List Value) (w' : World) (v' : Value) (news : List UInt8) : Prop :=
 w'.ownsRow B 5 1 v' (N + news.length) (xs ++ news.map u8v) /\ Only (fun k => v.ownBlock = some k) W w' /\ (∀ g, v'.ownBlock = some g -> v.ownBlock = some g \/ W.heap.size <= g)
theorem _root_.Go.Proofs.YtookoagcmejkpaaGreatDoor.Only.trans2 {T T' : Nat -> Prop} {a b c : World} (h : Only T a b) (k : Only T' b c) (hT : ∀ j, T' j -> T j \/ a.heap.size <= j) : Only T a c :=
 ⟨k.os.trans h.os, k.tape.trans h.tape, k.output.trans h.output, Nat.le_trans h.size k.size, fun j hj hn => by
  rw [k.block j (Nat.lt_of_lt_of_le hj h.size) (fun e => (hT j e).elim hn (fun e2 => by omega)), h.block j hj hn]⟩
theorem RowS.trans {B : Nat} {W w1 w2 : World} {v v1 v2 : Value} {N : Nat} {xs : List Value} {n1 n2 : List UInt8} (h : RowS B W v N xs w1 v1 n1) (k : RowS B w1 v1 (N + n1.length) (xs ++ n1.map u8v) w2 v2 n2) : RowS B W v N xs w2 v2 (n1 ++ n2) := by
 obtain ⟨h1, h2, h3⟩ := h;obtain ⟨k1, k2, k3⟩ := k;refine ⟨?_, h2.trans2 k2 h3, fun g hg => ?_⟩
 ·rw [List.length_append, List.map_append, <- Nat.add_assoc, <- List.append_assoc]; exact k1
 ·rcases k3 g hg with e | e
  ·exact h3 g e
  ·exact .inr (Nat.le_trans h2.size e)
theorem RowS.from_ {B : Nat} {W W1 w' : World} {v v' : Value} {N : Nat} {xs : List Value} {n : List UInt8} (h : RowS B W1 v N xs w' v' n) (hb : Below W.heap.size W W1) : RowS B W v N xs w' v' n :=
 ⟨h.1, (Only.of_below hb).trans2 h.2.1 (fun _j hj => .inl hj), fun g hg => (h.2.2 g hg).elim .inl (fun e => .inr (Nat.le_trans hb.size e))⟩
theorem RowS.below {B : Nat} {W w' : World} {v v' : Value} {N : Nat} {xs : List Value} {n : List UInt8} (h : RowS B W v N xs w' v' n) (ho : W.ownsRow B 5 1 v N xs) (hB : B <= W.heap.size) : Below B W w' :=
 h.2.1.below (fun _k hk => (qaw ho hk).1) hB
theorem qfa (s : ByteArray) : Lib.strCells s = s.data.toList.map u8v := rfl
theorem qc8 {P : Program} {w : World} {o : Oper} {a : Act} {K : Act -> World -> Prop} {Q : Exit -> Act -> World -> Prop} (sl x : Operand) (t u : TypeId)
  (ho : o.op = .call { callee := .builtin .append, args := #[sl, x], argTypes := #[t, u] })
  (B : Nat) (i : TypeInfo) (ht : P.underlying t = some (.slice 5)) (hu : P.underlying u = some .string) (hi : P.info? 5 = some i) (hz : i.zero = some (.int .u8 0))
  (hsize : i.size = 1) (hby : i.bytes = 1) (v : Value) (n : Nat) (xs : List Value) (hs : a.eval sl = v) (hown : w.ownsRow B 5 1 v n xs) (s : ByteArray) (hx : a.eval x = .string s)
  (hbytes : n + s.size <= 140737488355328) (hbase : B <= w.heap.size)
  (h : ∀ v' w', RowS B w v n xs w' v' s.data.toList -> K (a.put o.dst v') w') : o.wp P a w K Q := by
 obtain ⟨v', w', hr, h2, h3, h4⟩ := Lib.run_append_own_string (P := P) w B t u o.type 5 i ht hu hi hz hsize hby v n xs hown s (by simp only [maxLen]; omega) hbytes hbase;have hl := qq3 ht hu hi hz hsize hby hown hbytes hr h4;unfold Oper.wp execOp;simp only [ho, resolve, invoke, builtin, Sem.run_bind, Sem.run_pure, Result.andThen_ok, List.map_toArray, List.map_cons, List.map_nil, hs, hx, hr];refine h v' w' ⟨?_, Only.of_grown h3, fun g hg => ?_⟩
 ·rw [<- qfa, <- Lib.strCells_length s] at *
  have e : s.data.toList.length = (Lib.strCells s).length := by rw [qfa, List.length_map]
  rw [e]; exact h2
 ·rcases hl with e | e
  ·left; rw [<- e]; exact hg
  ·right; rw [e] at hg; injection hg with hg; omega
theorem wpList_append_str {P : Program} {w : World} {ops : Array Oper} {rest : List Oper} {o : Oper} {a : Act} {Q : Exit -> Act -> World -> Prop} (hgd : o.guard = none) (sl x : Operand) (t u : TypeId)
  (ho : o.op = .call { callee := .builtin .append, args := #[sl, x], argTypes := #[t, u] })
  (B : Nat) (i : TypeInfo) (ht : P.underlying t = some (.slice 5)) (hu : P.underlying u = some .string) (hi : P.info? 5 = some i) (hz : i.zero = some (.int .u8 0))
  (hsize : i.size = 1) (hby : i.bytes = 1) (v : Value) (n : Nat) (xs : List Value) (hs : a.eval sl = v) (hown : w.ownsRow B 5 1 v n xs) (s : ByteArray) (hx : a.eval x = .string s)
  (hbytes : n + s.size <= 140737488355328) (hbase : B <= w.heap.size)
  (h : ∀ v' w', RowS B w v n xs w' v' s.data.toList -> wpList P ops Q rest (a.put o.dst v') w') : wpList P ops Q (o :: rest) a w :=
 wpList_plain hgd fun _ hK => qc8 sl x t u ho B i ht hu hi hz hsize hby v n xs hs hown s hx hbytes hbase fun v' w' h' => hK _ _ (h v' w' h')
theorem qgi {P : Program} {w : World} {o : Oper} {a : Act} {K : Act -> World -> Prop} {Q : Exit -> Act -> World -> Prop} (sl x : Operand) (t : TypeId)
  (ho : o.op = .call { callee := .builtin .append, args := #[sl, x], argTypes := #[t, t] })
  (B : Nat) (i : TypeInfo) (ht : P.underlying t = some (.slice 5)) (hi : P.info? 5 = some i) (hz : i.zero = some (.int .u8 0))
  (hsize : i.size = 1) (hby : i.bytes = 1) (v : Value) (n : Nat) (xs : List Value) (hs : a.eval sl = v) (hown : w.ownsRow B 5 1 v n xs) (ad : Addr) (c : UInt8) (hx : a.eval x = .slice (some ad) 1 1) (hc : w.cell? (ad.add 0) = some (u8v c))
  (hbytes : n + 1 <= 140737488355328) (hbase : B <= w.heap.size)
  (h : ∀ v' w', RowS B w v n xs w' v' [c] -> K (a.put o.dst v') w') : o.wp P a w K Q := by
 refine qay sl x t ho B 5 i (.int .u8 0) 1 1 ht hi hz hsize hby rfl (by omega) v n xs hs hown ad 1 1 [u8v c] hx rfl (fun j u hu => ?_) (by intro u hu; simp at hu; subst hu; rfl) (by simp only [maxLen]; omega) (by omega) hbase ?_
 ·match j, hu with
  | 0, hu => cases hu; exact hc
 ·intro v' w' h2 h3 h4 h5
  refine h v' w' ⟨h2, Only.of_grown h3, fun g hg => ?_⟩;rcases h5 with e | e
  ·left; rw [<- e]; exact hg
  ·right; rw [e] at hg; injection hg with hg; omega
theorem wpList_append_byte {P : Program} {w : World} {ops : Array Oper} {rest : List Oper} {o : Oper} {a : Act} {Q : Exit -> Act -> World -> Prop} (hgd : o.guard = none) (sl x : Operand) (t : TypeId)
  (ho : o.op = .call { callee := .builtin .append, args := #[sl, x], argTypes := #[t, t] })
  (B : Nat) (i : TypeInfo) (ht : P.underlying t = some (.slice 5)) (hi : P.info? 5 = some i) (hz : i.zero = some (.int .u8 0))
  (hsize : i.size = 1) (hby : i.bytes = 1) (v : Value) (n : Nat) (xs : List Value) (hs : a.eval sl = v) (hown : w.ownsRow B 5 1 v n xs) (ad : Addr) (c : UInt8) (hx : a.eval x = .slice (some ad) 1 1) (hc : w.cell? (ad.add 0) = some (u8v c))
  (hbytes : n + 1 <= 140737488355328) (hbase : B <= w.heap.size)
  (h : ∀ v' w', RowS B w v n xs w' v' [c] -> wpList P ops Q rest (a.put o.dst v') w') : wpList P ops Q (o :: rest) a w :=
 wpList_plain hgd fun _ hK => qgi sl x t ho B i ht hi hz hsize hby v n xs hs hown ad c hx hc hbytes hbase fun v' w' h' => hK _ _ (h v' w' h')
noncomputable def gdB (k : Nat) (t : List UInt8) : Bool := @decide (GoodT k t) (Classical.propDecidable _)
theorem gdB_iff {k : Nat} {t : List UInt8} : gdB k t = true ↔ GoodT k t := by unfold gdB; exact @decide_eq_true_iff _ (Classical.propDecidable _)
theorem qkf (k : Int) (s : ByteArray) : qbd k s = (gdB k.toNat s.data.toList && decide (3 <= k)) := by
 rw [Bool.eq_iff_iff, readB_iff, Bool.and_eq_true, gdB_iff, decide_eq_true_iff]
theorem qbq (k : Nat) (t : List UInt8) : (qaj k t).length <= 2 * t.length + 2 := by
 unfold qaj;have := qjy t
 split
 ·split <;> simp <;> omega
 ·split
  ·simp; omega
  ·split <;> simp <;> omega
theorem qci {k : Nat} {t : List UInt8} {l : List Tk} {a er : Nat} (h : Toks (qaj k t) 0 l a er) : (er = 0 /\ ∃ p, l = [⟨k, t, p⟩]) ↔ GoodT k t := by
 constructor
 ·rintro ⟨_, p, rfl⟩
  exact h.good ⟨k, t, p⟩ (by simp)
 ·intro hg
  obtain ⟨rfl, _, rfl⟩ := h.uniq (qt6 hg);exact ⟨rfl, 0, rfl⟩
theorem qha (k : Int) (s : ByteArray) (a : Int) (W : World) (hs : s.size <= 1048576) (hm : MaxAt W) :
  Calls Tryz.prog 101 #[.agg #[.int .u8 k, .string s, .int .i64 a]] W (qt7 k.toNat s.data.toList W) := by
 have hB1 := qab W (.cells #[.int .u8 k, .string s, .int .i64 a] 32);have hm1 := hm.later hB1;have HB1 := Zh hB1;have c0 : (W.alloc (.cells #[.int .u8 k, .string s, .int .i64 a] 32)).cell? ⟨W.heap.size, 0, none⟩ = some (.int .u8 k) := by simp [go_sem]
 have c1 : (W.alloc (.cells #[.int .u8 k, .string s, .int .i64 a] 32)).cell? ⟨W.heap.size, 1, none⟩ = some (.string s) := by simp [go_sem]
 clear hB1 hm
 by_cases h3 : k = 3
 ·subst h3
  cases hp : qbg s.data.toList with
  | true =>
   have HP := Zh hp;clear hp hm1;go_enter Tryz.func101, Tryz.ntmps101
   go_wp2_with fail
   refine (qco s _ hs).mono ?_;rintro e w1 ⟨rfl, hb⟩;rw [HP.o];have d1 := qaa hb c1;have HB := Zh (HB1.o.trans (hb.mono HB1.o.size));clear hb c0 c1
   go_wp2_with fail
   go_ret
   exact ⟨s, rfl, by unfold qaj; rw [HP.o]; rfl, HB.o⟩
  | false =>
   have HP := Zh hp;clear hp hm1;go_enter Tryz.func101, Tryz.ntmps101
   go_wp2_with fail
   refine (qco s _ hs).mono ?_;rintro e w1 ⟨rfl, hb⟩;rw [HP.o];have d1 := qaa hb c1;have HB := Zh (HB1.o.trans (hb.mono HB1.o.size));clear hb c0 c1
   go_wp2_with fail
   go_ret
   refine ⟨_, rfl, ?_, HB.o⟩;rw [qb1, qb1]; unfold qaj; rw [HP.o]; rfl
 ·have e3 : (k == 3) = false := by simpa using h3
  by_cases h5 : k = 5
  ·subst h5
   have hrp := qsm s _ hs hm1;have HRP := Zh hrp;clear hrp hm1;go_enter Tryz.func101, Tryz.ntmps101
   go_wp2_with fail
   refine HRP.o.mono ?_;rintro e w1 ⟨X, rfl, hX, hb⟩
   have hXs : X.size <= 2097152 := by
    have h1 : X.data.toList.length = X.size := by simp
    have h2 := qjy s.data.toList;have h3 : s.data.toList.length = s.size := by simp
    rw [<- hX] at h2;omega
   have HX := Zh hX;have HB := Zh (HB1.o.trans (hb.mono HB1.o.size));clear hb c0 c1 hX HRP
   go_wp2_with fail
   go_ret
   refine ⟨_, rfl, ?_, HB.o⟩;rw [qb1, qb1, HX.o]; unfold qaj; rfl
  ·have e5 : (k == 5) = false := by simpa using h5
   clear hm1
   by_cases h6 : k = 6
   ·subst h6
    go_enter Tryz.func101, Tryz.ntmps101
    go_wp2_with fail
    go_ret
    refine ⟨_, rfl, ?_, HB1.o⟩;rw [qb1]; unfold qaj; rfl
   ·have e6 : (k == 6) = false := by simpa using h6
    go_enter Tryz.func101, Tryz.ntmps101
    go_wp2_with fail
    go_ret
    refine ⟨_, rfl, ?_, HB1.o⟩;have t3 : (k.toNat == 3) = false := by simp; omega
    have t5 : (k.toNat == 5) = false := by simp; omega
    have t6 : (k.toNat == 6) = false := by simp; omega
    unfold qaj;rw [t3, t5, t6]; simp
theorem qeg (s : ByteArray) : (⟨s.data.toList.toArray⟩ : ByteArray) = s := by
 apply ByteArray.ext; simp
theorem qm4 (k : Nat) (s : ByteArray) (a : Int) (W : World) (hs : s.size <= 524287) (hm : MaxAt W) :
  Calls Tryz.prog 116 #[.agg #[.int .u8 (k : Int), .string s, .int .i64 a]] W fun e w' => e = .returned (.bool (gdB k s.data.toList)) /\ Below W.heap.size W w' := by
 have hp := qha (k : Int) s a _ (by omega) (hm.later (qab W (.cells #[.int .u8 (k : Int), .string s, .int .i64 a] 32)));rw [Int.toNat_natCast] at hp;have HP := Zh hp;clear hp hm;go_enter Tryz.func116, Tryz.ntmps116
 go_wp2_with fail
 refine HP.o.mono ?_;rintro e w1 ⟨X, rfl, hX, hb1⟩;obtain ⟨cap, w2, hcv, hcap, hb2, hby, hsz2⟩ := conv_bytes w1 X;have hXl : (qaj k s.data.toList).length = X.size := by rw [<- hX]; simp
 have hXs : (qaj k s.data.toList).length <= 1048576 := by
  have h1 := qbq k s.data.toList;have h2 : s.data.toList.length = s.size := by simp
  omega
 rw [hX] at hby
 have hct := qla (some ⟨w1.heap.size, 0, none⟩) cap (qaj k s.data.toList) w2 hby (by omega) hXs;rw [hXl] at hct;have HCT := Zh hct;have hB2 : Below W.heap.size W w2 := ((qab W (.cells #[.int .u8 (k : Int), .string s, .int .i64 a] 32)).trans (hb1.mono (by simp))).trans (hb2.mono (by have := hb1.size; simp at this; omega));have HB2 := Zh hB2
 have hbb : Below (W.heap.size + 1) (W.alloc (.cells #[.int .u8 (k : Int), .string s, .int .i64 a] 32)) w2 := by
  have h1 : (W.alloc (.cells #[.int .u8 (k : Int), .string s, .int .i64 a] 32)).heap.size = W.heap.size + 1 := by simp
  rw [<- h1]; exact hb1.trans (hb2.mono hb1.size)
 have HBB := Zh hbb;clear hX hb1 hcap hb2 hby hsz2 hXl hXs hct hB2 hbb HP
 go_wp2_with fail
 refine HCT.o.mono ?_;rintro e w3 ⟨p, c, l, A, er, rfl, htk, hown, hb3⟩
 have hb4 : Below (W.alloc (.cells #[.int .u8 (k : Int), .string s, .int .i64 a] 32)).heap.size (W.alloc (.cells #[.int .u8 (k : Int), .string s, .int .i64 a] 32)) w3 := by
  have h1 : (W.alloc (.cells #[.int .u8 (k : Int), .string s, .int .i64 a] 32)).heap.size = W.heap.size + 1 := by simp
  rw [h1]; exact HBB.o.trans (hb3.mono (by have := HBB.o.size; simp at this; omega))
 have y0 : w3.cell? ⟨W.heap.size, 0, none⟩ = some (.int .u8 (k : Int)) := qaa hb4 (by simp [go_sem]);have y1 : w3.cell? ⟨W.heap.size, 1, none⟩ = some (.string s) := qaa hb4 (by simp [go_sem]);have HB3 := Zh (HB2.o.trans (hb3.mono HB2.o.size));clear hb3 hb4 HCT HBB;have hiff := qci htk;have hlb := own_tks hown
 by_cases her : er = 0
 case neg =>
  have q1 : ((er : Int) == 0) = false := by simp; omega
  have hR : gdB k s.data.toList = false := by rw [Bool.eq_false_iff]; intro h; exact her (hiff.2 (gdB_iff.1 h)).1
  have HR := Zh hR;clear hiff hlb htk hown hR her
  go_wp2_with fail
  go_quiet (fail)
  go_wp2_with fail
  go_ret
  exact ⟨by rw [HR.o] <;> rfl, by first | exact HB3.o | exact bdd HB3.o⟩
 subst her
 by_cases hle : l.length = 1
 case neg =>
  have q2 : ((l.length : Int) == 1) = false := by simp; omega
  have hR : gdB k s.data.toList = false := by rw [Bool.eq_false_iff]; intro h; obtain ⟨p0, h2⟩ := (hiff.2 (gdB_iff.1 h)).2; rw [h2] at hle; exact hle rfl
  have HR := Zh hR;generalize l.length = n3 at *;clear hiff hlb htk hown hR hle
  go_wp2_with fail
  go_quiet (fail)
  go_wp2_with fail
  go_ret
  exact ⟨by rw [HR.o] <;> rfl, by first | exact HB3.o | exact bdd HB3.o⟩
 obtain ⟨⟨kk, t, pp⟩, rfl⟩ : ∃ x, l = [x] := by match l, hle with | [x], _ => exact ⟨x, rfl⟩
 obtain ⟨b3, off3, rfl, x0, x1, x2⟩ := hlb 0 (by simp);simp only [List.getElem_cons_zero, Nat.zero_mul, Nat.add_zero] at x0 x1 x2;have hl1 : ([(⟨kk, t, pp⟩ : Tk)] : List Tk).length = 1 := rfl;rw [hl1]
 by_cases hkk : kk = k
 case neg =>
  have q3 : ((kk : Int) == (k : Int)) = false := by simp; omega
  have hR : gdB k s.data.toList = false := by rw [Bool.eq_false_iff]; intro h; obtain ⟨p0, h2⟩ := (hiff.2 (gdB_iff.1 h)).2; injection h2 with h2 _; injection h2 with h2 _ _; exact hkk h2
  have HR := Zh hR;clear hiff hlb htk hown hR hkk hle hl1
  go_wp2_with fail
  go_quiet (fail)
  go_wp2_with fail
  go_ret
  exact ⟨by rw [HR.o] <;> rfl, by first | exact HB3.o | exact bdd HB3.o⟩
 subst hkk
 by_cases htt : t = s.data.toList
 case neg =>
  have hR : gdB kk s.data.toList = false := by rw [Bool.eq_false_iff]; intro h; obtain ⟨p0, h2⟩ := (hiff.2 (gdB_iff.1 h)).2; injection h2 with h2 _; injection h2 with _ h2 _; exact htt h2
  have q4 : ¬ (⟨t.toArray⟩ : ByteArray).toList = s.toList := fun h => htt (by have h2 := qat h; rw [<- h2])
  have q5 : ((⟨t.toArray⟩ : ByteArray).toList == s.toList) = false := by simpa using q4
  generalize (⟨t.toArray⟩ : ByteArray) = T at *;have HR := Zh hR;clear hiff hlb htk hown hR htt hle hl1
  go_wp2_with fail
  go_quiet (fail)
  go_wp2_with fail
  go_ret
  exact ⟨by rw [HR.o] <;> rfl, by first | exact HB3.o | exact bdd HB3.o⟩
 have hR : gdB kk s.data.toList = true := gdB_iff.2 (hiff.1 ⟨rfl, pp, by rw [htt]⟩);rw [htt, qeg] at x1;have HR := Zh hR;clear hiff hlb htk hown hR htt hle hl1
 go_wp2_with fail
 go_quiet (fail)
 go_wp2_with fail
 go_ret
 exact ⟨by rw [HR.o] <;> rfl, by first | exact HB3.o | exact bdd HB3.o⟩
theorem by80 (k : Nat) (s : ByteArray) (a : Int) (W : World) (hs : s.size <= 65536) (hm : MaxAt W) :
  Calls Tryz.prog 115 #[.agg #[.int .u8 (k : Int), .string s, .int .i64 a]] W fun e w' => e = .returned (.bool (gdB k s.data.toList)) /\ Below W.heap.size W w' := by
 have hp := qm4 k s 0 _ (by omega) (hm.later (qab W (.cells #[.int .u8 (k : Int), .string s, .int .i64 a] 32)));have HP := Zh hp;have hs1 : (s.size : Int) <= 65536 := by omega
 clear hp hm;go_enter Tryz.func115, Tryz.ntmps115
 go_wp2_with fail
 obtain ⟨W1, hW1⟩ : ∃ W1, W1 = W.alloc (.cells #[.int .u8 (k : Int), .string s, .int .i64 a] 32) := ⟨_, rfl⟩;have c0 : W1.cell? ⟨W.heap.size, 0, none⟩ = some (.int .u8 (k : Int)) := by rw [hW1]; simp [go_sem]
 have c1 : W1.cell? ⟨W.heap.size, 1, none⟩ = some (.string s) := by rw [hW1]; simp [go_sem]
 rw [<- hW1] at HP ⊢;have HB := Zh (show Below W.heap.size W W1 by rw [hW1]; exact qab _ _);clear hW1
 go_loopg [3] 1 (fun gk s3 wx => s3 = .string s /\ wx = W1)
 case atStart => exact ⟨rfl, rfl⟩
 case round =>
  obtain ⟨rfl, rfl⟩ := hrel
  go_wp2_with fail
  refine HP.o.mono ?_;rintro e w1 ⟨rfl, hb⟩;have HB2 := Zh (HB.o.trans (hb.mono HB.o.size));clear hb
  go_wp2_with fail
  go_ret
  exact ⟨rfl, HB2.o⟩
theorem qlm (k : Int) (s : ByteArray) (a : Int) (W : World) (hs : s.size <= 65536) (hm : MaxAt W) :
  Calls Tryz.prog 102 #[.agg #[.int .u8 k, .string s, .int .i64 a]] W fun e w' => e = .returned (.bool (qbd k s)) /\ Below W.heap.size W w' := by
 have hB1 := qab W (.cells #[.int .u8 k, .string s, .int .i64 a] 32);have hm1 := hm.later hB1
 have hrb : qbd k s = (gdB k.toNat s.data.toList && decide (3 <= k)) := by
  exact qkf k s
 rw [hrb];have HB1 := Zh hB1;have c0 : (W.alloc (.cells #[.int .u8 k, .string s, .int .i64 a] 32)).cell? ⟨W.heap.size, 0, none⟩ = some (.int .u8 k) := by simp [go_sem]
 have c1 : (W.alloc (.cells #[.int .u8 k, .string s, .int .i64 a] 32)).cell? ⟨W.heap.size, 1, none⟩ = some (.string s) := by simp [go_sem]
 have c2 : (W.alloc (.cells #[.int .u8 k, .string s, .int .i64 a] 32)).cell? ⟨W.heap.size, 2, none⟩ = some (.int .i64 a) := by simp [go_sem]
 clear hB1 hm hrb
 by_cases h3 : k = 3
 ·subst h3
  cases hp : qbg s.data.toList with
  | true =>
   have hg : gdB 3 s.data.toList = true := gdB_iff.2 (.sym (.inl hp));have HP := Zh hp;have HG := Zh hg;clear hp hm1 hg;go_enter Tryz.func102, Tryz.ntmps102
   go_wp2_with fail
   refine (qco s _ (by omega)).mono ?_;rintro e w1 ⟨rfl, hb⟩;rw [HP.o];have HB := Zh (HB1.o.trans (hb.mono HB1.o.size));clear hb c0 c1
   go_wp2_with fail
   go_ret
   exact ⟨by rw [show (Int.toNat 3) = 3 from rfl, HG.o] <;> rfl, HB.o⟩
  | false =>
   have HP := Zh hp;have HM := Zh hm1;clear hp hm1;go_enter Tryz.func102, Tryz.ntmps102
   go_wp2_with fail
   refine (qco s _ (by omega)).mono ?_;rintro e w1 ⟨rfl, hb⟩;rw [HP.o];have d0 := qaa hb c0;have d1 := qaa hb c1;have d2 := qaa hb c2;have hby := by80 3 s a w1 hs (HM.o.later hb)
   have HBY := Zh hby
   have HB := Zh (HB1.o.trans (hb.mono HB1.o.size))
   clear hb c0 c1 c2 hby
   go_wp2_with fail
   refine HBY.o.mono ?_;rintro e w2 ⟨rfl, hb2⟩;have HB2 := Zh (HB.o.trans (hb2.mono HB.o.size));clear hb2
   go_wp2_with fail
   go_ret
   exact ⟨by simp, HB2.o⟩
 ·have e3 : (k == 3) = false := by simp; omega
  by_cases h5 : k = 5
  ·subst h5
   have hby := by80 5 s a _ hs hm1
   have HBY := Zh hby
   clear hby hm1;go_enter Tryz.func102, Tryz.ntmps102
   go_wp2_with fail
   refine HBY.o.mono ?_;rintro e w2 ⟨rfl, hb2⟩;have HB2 := Zh (HB1.o.trans (hb2.mono HB1.o.size));clear hb2
   go_wp2_with fail
   go_ret
   exact ⟨by simp, HB2.o⟩
  ·have e5 : (k == 5) = false := by simp; omega
   by_cases h4 : k = 4 \/ k = 6 \/ k = 7
   ·obtain ⟨kk, rfl⟩ : ∃ kk : Nat, k = (kk : Int) := ⟨k.toNat, by omega⟩
    have hby := qm4 kk s a _ (by omega) hm1
    have HBY := Zh hby
    have hk3 : decide ((3 : Int) <= (kk : Int)) = true := by simp; omega
    have HK3 := Zh hk3;clear hby hm1 hk3;have h4' : kk = 4 \/ kk = 6 \/ kk = 7 := by omega
    clear h3 h5 h4 e3 e5;rcases h4' with rfl | rfl | rfl
    all_goals (
     go_enter Tryz.func102, Tryz.ntmps102
     go_wp2_with fail
     refine HBY.o.mono ?_;rintro e w2 ⟨rfl, hb2⟩;have HB2 := Zh (HB1.o.trans (hb2.mono HB1.o.size));clear hb2
     go_wp2_with fail
     go_ret
     exact ⟨by rw [Int.toNat_natCast, HK3.o, Bool.and_true] <;> rfl, HB2.o⟩)
   ·have e4 : (k == 4) = false := by simp; omega
    have e6 : (k == 6) = false := by simp; omega
    have e7 : (k == 7) = false := by simp; omega
    have hz : (gdB k.toNat s.data.toList && decide (3 <= k)) = false := by
     rw [Bool.eq_false_iff];intro h;rw [Bool.and_eq_true, gdB_iff] at h;obtain ⟨h1, h2⟩ := h;have h2 : 3 <= k := by simpa using h2
     generalize hkn : k.toNat = kn at h1;generalize s.data.toList = tt at h1;cases h1 <;> omega
    rw [hz];clear hm1 h4 hz;go_enter Tryz.func102, Tryz.ntmps102
    go_wp2_with fail
    go_ret
    exact ⟨rfl, HB1.o⟩
def qfq (d : Nd) (W : World) (e : Ending) (w' : World) : Prop := ∃ (x : Nat), e = .returned (.tuple #[.int .i64 (x : Int), .bool (qdx d)]) /\ (qdx d = true -> x = qe4 d) /\ Below W.heap.size W w'
theorem qgf (k : Int) (s : ByteArray) (a : Int) (q : Option Addr) (n c : Nat) (W : World) (hn : n <= 281474976710656) :
  Calls Tryz.prog 84 #[trV true k s a q n c] W (qfq ⟨true, k, s, n⟩ W) := by
 have hv : ∃ x : Nat, x = 2 + (n - 1) /\ (2 : Int) + max 0 ((n : Int) - 1) = (x : Int) := ⟨2 + (n - 1), rfl, by omega⟩;obtain ⟨x, hx, hxe⟩ := hv;have n1 : (n : Int) <= 281474976710656 := by omega
 have hmx : max 0 ((n : Int) - 1) <= 281474976710656 := by omega
 have hmx0 : 0 <= max 0 ((n : Int) - 1) := by omega
 have HX := Zh hx;have HXE := Zh hxe;clear hx hxe;unfold trV
 by_cases h1 : k = 1
 ·subst h1
  by_cases h2 : s = ⟨#[40]⟩
  ·subst h2
   go_enter Tryz.func84, Tryz.ntmps84
   go_wp2_with fail
   go_quiet (fail)
   go_wp2_with fail
   go_ret2
   exact ⟨x, (by first | rfl | (rw [HXE.o]; rfl)), (fun _ => HX.o), bdd (qab _ _)⟩
  ·have h5 : ¬ s.toList = [40] := fun e => h2 (qat (by rw [e, toList_data]))
   have h6 : (s.toList == [40]) = false := by simpa using h5
   have hB : qdx ⟨true, 1, s, n⟩ = false := by simp [qdx, h2]
   have HB := Zh hB;clear hB;go_enter Tryz.func84, Tryz.ntmps84
   go_wp2_with fail
   go_quiet (fail)
   go_wp2_with fail
   go_ret2
   exact ⟨x, (by first | (rw [HB.o]; rfl) | (rw [HXE.o, HB.o]; rfl)), (fun h => by rw [HB.o] at h; cases h), bdd (qab _ _)⟩
 ·have e1 : (k == 1) = false := by simpa using h1
  have hB : qdx ⟨true, k, s, n⟩ = false := by simp [qdx, h1]
  have HB := Zh hB;clear hB;go_enter Tryz.func84, Tryz.ntmps84
  go_wp2_with fail
  go_quiet (fail)
  go_wp2_with fail
  go_ret2
  exact ⟨x, (by first | (rw [HB.o]; rfl) | (rw [HXE.o, HB.o]; rfl)), (fun h => by rw [HB.o] at h; cases h), bdd (qab _ _)⟩
theorem qgh (k : Int) (s : ByteArray) (a : Int) (q : Option Addr) (n c : Nat) (W : World) (hs : s.size <= 65536) (hn : n <= 281474976710656) (h0 : n ≠ 0) (hm : MaxAt W) :
  Calls Tryz.prog 84 #[trV false k s a q n c] W (qfq ⟨false, k, s, n⟩ W) := by
 have n1 : (n : Int) <= 281474976710656 := by omega
 have e0 : ((n : Int) == 0) = false := by simp; omega
 have hB : qdx ⟨false, k, s, n⟩ = false := by simp [qdx, h0]
 have HB := Zh hB;unfold trV
 have hc : ∀ w', Below (W.alloc (.cells #[.bool false, .int .u8 k, .string s, .int .i64 a, .slice q n c] 35)).heap.size (W.alloc (.cells #[.bool false, .int .u8 k, .string s, .int .i64 a, .slice q n c] 35)) w' -> (w'.cell? ⟨W.heap.size, 1, none⟩ = some (.int .u8 k) /\ w'.cell? ⟨W.heap.size, 2, none⟩ = some (.string s) /\ w'.cell? ⟨W.heap.size, 3, none⟩ = some (.int .i64 a) /\ w'.cell? ⟨W.heap.size, 4, none⟩ = some (.slice q n c)) := fun w' h =>
  ⟨qaa h (by simp [go_sem]), qaa h (by simp [go_sem]), qaa h (by simp [go_sem]), qaa h (by simp [go_sem])⟩
 have hp := fun w (h : Below W.heap.size W w) => qha k s a w (by omega) (hm.later h)
 have HP := Zh hp;have HC := Zh hc;clear hB h0 hm hp hc;go_enter Tryz.func84, Tryz.ntmps84
 go_wp2_with fail
 have HS := Zh (HC.o _ (qae _));have HB1 := Zh (show Below W.heap.size W (W.alloc (.cells #[.bool false, .int .u8 k, .string s, .int .i64 a, .slice q n c] 35)).drew from (qab W _).trans ((qae _).mono (by simp)));clear HC;refine qai [(1000, (fun _ => True : World -> Prop)), (14, ((fun w => w.cell? ⟨W.heap.size, 1, none⟩ = some (.int .u8 k) /\ w.cell? ⟨W.heap.size, 2, none⟩ = some (.string s) /\ w.cell? ⟨W.heap.size, 3, none⟩ = some (.int .i64 a) /\ w.cell? ⟨W.heap.size, 4, none⟩ = some (.slice q n c)) : World -> Prop))] (by kernel_rfl) (SL.cons (fun _ => trivial) (SL.cons (fun _ => HS.o) SL.nil)) (fun hHeld => ?_);refine tk 0 0 ⟨some 7, .fieldAddr 35 (.tmp 1) 1, 0, "tree.go:122", #[], none⟩ ?_ rfl rfl ?_ hHeld fun hHeld => ?_
 rotate_left
 ·intro w hSw; (try dsimp only at hSw); go_simp; try with_reducible rfl
 try simp only [Act.put, List.setIfInBounds_toArray, List.set_cons_zero, List.set_cons_succ]
 refine tk 1 1 ⟨some 8, .load 32 (.tmp 7), 32, "tree.go:122", #[⟨0, .data⟩], none⟩ ?_ rfl rfl ?_ hHeld fun hHeld => ?_
 rotate_left
 ·intro w hSw; (try dsimp only at hSw); obtain ⟨c1, c2, c3, c4⟩ := hSw; go_simp; try with_reducible rfl
 try simp only [Act.put, List.setIfInBounds_toArray, List.set_cons_zero, List.set_cons_succ]
 refine tk 0 4 ⟨some 11, .fieldAddr 35 (.tmp 1) 2, 0, "tree.go:122", #[], none⟩ ?_ rfl rfl ?_ hHeld fun hHeld => ?_
 rotate_left
 ·intro w hSw; (try dsimp only at hSw); go_simp; try with_reducible rfl
 try simp only [Act.put, List.setIfInBounds_toArray, List.set_cons_zero, List.set_cons_succ]
 refine tk 1 5 ⟨some 12, .load 33 (.tmp 11), 33, "tree.go:122", #[⟨4, .data⟩], none⟩ ?_ rfl rfl ?_ hHeld fun hHeld => ?_
 rotate_left
 ·intro w hSw; (try dsimp only at hSw); obtain ⟨c1, c2, c3, c4⟩ := hSw; go_simp; try with_reducible rfl
 try simp only [Act.put, List.setIfInBounds_toArray, List.set_cons_zero, List.set_cons_succ]
 refine tk 0 6 ⟨some 13, .call ⟨.builtin .len, #[.tmp 12], #[33]⟩, 3, "tree.go:122", #[⟨5, .data⟩], none⟩ ?_ rfl rfl ?_ hHeld fun hHeld => ?_
 rotate_left
 ·intro w hSw; (try dsimp only at hSw); go_simp; try with_reducible rfl
 try simp only [Act.put, List.setIfInBounds_toArray, List.set_cons_zero, List.set_cons_succ]
 refine tk 0 7 ⟨some 14, .binOp .eql 3 (.tmp 13) (.const (.int .i64 0)) 3, 4, "tree.go:122", #[⟨6, .data⟩], none⟩ ?_ rfl rfl ?_ hHeld fun hHeld => ?_
 rotate_left
 ·intro w hSw; (try dsimp only at hSw); go_simp; try with_reducible rfl
 try simp only [Act.put, List.setIfInBounds_toArray, List.set_cons_zero, List.set_cons_succ]
 refine qac (rs := [2]) (by kernel_rfl) (by simp) ?_;refine AllReadyL.cons (o := ⟨some 9, .call ⟨.value (.func 101), #[.tmp 8], #[32]⟩, 9, "tree.go:122", #[⟨1, .data⟩], none⟩) rfl (fun K hK => ?_) AllReadyL.nil;go_simp;go_at_call 101;refine (HP.o _ HB1.o).mono ?_;rintro e w3 ⟨X, rfl, hX, hb3⟩;have HB3 := Zh (HB1.o.trans (hb3.mono HB1.o.size));have hs3 := aI (qaa hb3 HS.o.1) (aI (qaa hb3 HS.o.2.1) (aI (qaa hb3 HS.o.2.2.1) (qaa hb3 HS.o.2.2.2)));clear hX hb3;refine hK.out _ _ (SL.cons (fun _ => trivial) (SL.cons (fun _ => hs3) SL.nil)) (fun hHeld => ?_);clear hK K
 try simp only [Act.put, List.setIfInBounds_toArray, List.set_cons_zero, List.set_cons_succ]
 refine tk 0 3 ⟨some 10, .call ⟨.builtin .len, #[.tmp 9], #[9]⟩, 3, "tree.go:122", #[⟨2, .data⟩], none⟩ ?_ rfl rfl ?_ hHeld fun hHeld => ?_
 rotate_left
 ·intro w hSw; (try dsimp only at hSw); go_simp; try with_reducible rfl
 try simp only [Act.put, List.setIfInBounds_toArray, List.set_cons_zero, List.set_cons_succ]
 refine tk 0 8 ⟨some 15, .move (.tmp 14), 4, "tree.go:122", #[⟨7, .data⟩, ⟨2, .chain⟩], none⟩ ?_ rfl rfl ?_ hHeld fun hHeld => ?_
 rotate_left
 ·intro w hSw; (try dsimp only at hSw); go_simp; try with_reducible rfl
 try simp only [Act.put, List.setIfInBounds_toArray, List.set_cons_zero, List.set_cons_succ]
 refine tu 0 9 ⟨some 16, .fieldAddr 35 (.tmp 1) 1, 0, "tree.go:122", #[⟨8, .guard⟩], some (8, true)⟩ rfl rfl hHeld fun hHeld => ?_
 try simp only [Act.put, List.setIfInBounds_toArray, List.set_cons_zero, List.set_cons_succ]
 refine tu 0 10 ⟨some 17, .load 32 (.tmp 16), 32, "tree.go:122", #[⟨9, .data⟩, ⟨8, .guard⟩], some (8, true)⟩ rfl rfl hHeld fun hHeld => ?_
 try simp only [Act.put, List.setIfInBounds_toArray, List.set_cons_zero, List.set_cons_succ]
 refine tu 0 11 ⟨some 18, .call ⟨.value (.func 102), #[.tmp 17], #[32]⟩, 4, "tree.go:122", #[⟨10, .data⟩, ⟨8, .chain⟩, ⟨8, .guard⟩], some (8, true)⟩ rfl rfl hHeld fun hHeld => ?_
 try simp only [Act.put, List.setIfInBounds_toArray, List.set_cons_zero, List.set_cons_succ]
 refine tk 0 12 ⟨some 19, .pick (.tmp 15) (.tmp 18) (.const (.bool false)), 4, "tree.go:122", #[⟨8, .data⟩, ⟨11, .data⟩, ⟨13, .gcOnly .lateStores⟩], none⟩ ?_ rfl rfl ?_ hHeld fun hHeld => ?_
 rotate_left
 ·intro w hSw; (try dsimp only at hSw); go_simp; try with_reducible rfl
 try simp only [Act.put, List.setIfInBounds_toArray, List.set_cons_zero, List.set_cons_succ]
 refine tk 0 13 ⟨some 2, .assign (.tmp 10), 3, "tree.go:122", #[⟨3, .data⟩, ⟨11, .chain⟩, ⟨0, .phase⟩, ⟨1, .phase⟩, ⟨2, .phase⟩, ⟨3, .phase⟩, ⟨4, .textOnly .lateStores⟩, ⟨5, .textOnly .lateStores⟩, ⟨6, .textOnly .lateStoresUnsure⟩, ⟨7, .textOnly .lateStores⟩, ⟨8, .textOnly .lateStores⟩, ⟨9, .textOnly .lateStores⟩, ⟨10, .textOnly .lateStores⟩, ⟨11, .textOnly .lateStoresUnsure⟩, ⟨12, .textOnly .lateStores⟩], none⟩ ?_ rfl rfl ?_ hHeld fun hHeld => ?_
 rotate_left
 ·intro w hSw; (try dsimp only at hSw); go_simp; try with_reducible rfl
 try simp only [Act.put, List.setIfInBounds_toArray, List.set_cons_zero, List.set_cons_succ]
 refine qac (rs := [14]) (by kernel_rfl) (by simp) ?_;refine AllReadyL.cons (o := ⟨some 3, .assign (.tmp 19), 4, "tree.go:122", #[⟨12, .data⟩, ⟨13, .chain⟩, ⟨0, .phase⟩, ⟨1, .phase⟩, ⟨2, .phase⟩, ⟨3, .phase⟩, ⟨4, .phase⟩, ⟨5, .phase⟩, ⟨6, .phase⟩, ⟨7, .phase⟩, ⟨8, .phase⟩, ⟨9, .phase⟩, ⟨10, .phase⟩, ⟨11, .phase⟩, ⟨12, .phase⟩, ⟨13, .phase⟩], none⟩) rfl (fun K hK => ?_) AllReadyL.nil;go_simp;refine hK.out _ _ (SL.cons (fun _ => trivial) (SL.cons (fun h => absurd h (by decide +kernel)) SL.nil)) (fun hHeld => ?_);clear hK K
 try simp only [Act.put, List.setIfInBounds_toArray, List.set_cons_zero, List.set_cons_succ]
 refine qah (by kernel_rfl) ?_ _
 go_wp2_with fail
 go_ret2
 exact ⟨X.size, (by rw [HB.o] <;> rfl), (fun h => by rw [HB.o] at h; cases h), HB3.o⟩
theorem qgg (k : Int) (s : ByteArray) (a : Int) (q : Option Addr) (c : Nat) (W : World) (hs : s.size <= 65536) (hm : MaxAt W) :
  Calls Tryz.prog 84 #[trV false k s a q 0 c] W (qfq ⟨false, k, s, 0⟩ W) := by
 have hB : qdx ⟨false, k, s, 0⟩ = qbd k s := by simp [qdx]
 have hW : qe4 ⟨false, k, s, 0⟩ = (qaj k.toNat s.data.toList).length := by simp [qe4]
 obtain ⟨R, hR⟩ : ∃ R, R = qbd k s := ⟨_, rfl⟩;have HB := Zh (hB.trans hR.symm);have HW := Zh hW;unfold trV;obtain ⟨W1, hW1⟩ : ∃ W1, W1 = W.alloc (.cells #[.bool false, .int .u8 k, .string s, .int .i64 a, .slice q 0 c] 35) := ⟨_, rfl⟩;obtain ⟨L, hL⟩ : ∃ L, L = (qaj k.toNat s.data.toList).length := ⟨_, rfl⟩
 have hkp : ∀ w', Below W1.heap.size W1 w' -> (Below W1.heap.size W1 w' /\ w'.cell? ⟨W.heap.size, 1, none⟩ = some (.int .u8 k) /\ w'.cell? ⟨W.heap.size, 2, none⟩ = some (.string s) /\ w'.cell? ⟨W.heap.size, 3, none⟩ = some (.int .i64 a) /\ w'.cell? ⟨W.heap.size, 4, none⟩ = some (.slice q 0 c)) := fun w' h => by
  subst hW1;exact ⟨h, qaa h (by simp [go_sem]), qaa h (by simp [go_sem]), qaa h (by simp [go_sem]), qaa h (by simp [go_sem])⟩
 have hm1 : MaxAt W1 := by subst hW1; exact hm.later (qab _ _)
 have hp : ∀ w', (Below W1.heap.size W1 w' /\ w'.cell? ⟨W.heap.size, 1, none⟩ = some (.int .u8 k) /\ w'.cell? ⟨W.heap.size, 2, none⟩ = some (.string s) /\ w'.cell? ⟨W.heap.size, 3, none⟩ = some (.int .i64 a) /\ w'.cell? ⟨W.heap.size, 4, none⟩ = some (.slice q 0 c)) -> Calls Tryz.prog 101 #[.agg #[.int .u8 k, .string s, .int .i64 a]] w' fun e w'' => (∃ X : ByteArray, e = .returned (.string X) /\ X.size = L) /\ (Below W1.heap.size W1 w'' /\ w''.cell? ⟨W.heap.size, 1, none⟩ = some (.int .u8 k) /\ w''.cell? ⟨W.heap.size, 2, none⟩ = some (.string s) /\ w''.cell? ⟨W.heap.size, 3, none⟩ = some (.int .i64 a) /\ w''.cell? ⟨W.heap.size, 4, none⟩ = some (.slice q 0 c)) := fun w' h =>
  (qha k s a w' (by omega) (hm1.later h.1)).mono fun e w'' ⟨X, he, hX, hb⟩ => ⟨⟨X, he, by rw [hL, <- hX]; simp⟩, hkp w'' (h.1.trans (hb.mono h.1.size))⟩
 have hr : ∀ w', (Below W1.heap.size W1 w' /\ w'.cell? ⟨W.heap.size, 1, none⟩ = some (.int .u8 k) /\ w'.cell? ⟨W.heap.size, 2, none⟩ = some (.string s) /\ w'.cell? ⟨W.heap.size, 3, none⟩ = some (.int .i64 a) /\ w'.cell? ⟨W.heap.size, 4, none⟩ = some (.slice q 0 c)) -> Calls Tryz.prog 102 #[.agg #[.int .u8 k, .string s, .int .i64 a]] w' fun e w'' => e = .returned (.bool R) /\ (Below W1.heap.size W1 w'' /\ w''.cell? ⟨W.heap.size, 1, none⟩ = some (.int .u8 k) /\ w''.cell? ⟨W.heap.size, 2, none⟩ = some (.string s) /\ w''.cell? ⟨W.heap.size, 3, none⟩ = some (.int .i64 a) /\ w''.cell? ⟨W.heap.size, 4, none⟩ = some (.slice q 0 c)) := fun w' h =>
  (qlm k s a w' hs (hm1.later h.1)).mono fun e w'' ⟨he, hb⟩ => ⟨by rw [hR]; exact he, hkp w'' (h.1.trans (hb.mono h.1.size))⟩
 have hLb : L <= 200000 := by
  have h1 := qbq k.toNat s.data.toList;have h2 : s.data.toList.length = s.size := by simp
  omega
 have HKP := Zh hkp;have HP := Zh hp;have HR := Zh hr;have HL := Zh hL;have HBW := Zh (show Below W.heap.size W W1 by rw [hW1]; exact qab _ _);have HW1 := Zh hW1;clear hB hW hR hm hm1 hkp hp hr hL;go_enter Tryz.func84, Tryz.ntmps84
 go_wp2_with fail
 rw [<- HW1.o];clear hW1
 go_region_held3 (fun w' => Below W1.heap.size W1 w' /\ w'.cell? ⟨W.heap.size, 1, none⟩ = some (.int .u8 k) /\ w'.cell? ⟨W.heap.size, 2, none⟩ = some (.string s) /\ w'.cell? ⟨W.heap.size, 3, none⟩ = some (.int .i64 a) /\ w'.cell? ⟨W.heap.size, 4, none⟩ = some (.slice q 0 c)) (first | exact HKP.o _ (qae _) | exact HKP.o _ (Below.refl _ _) | assumption) (first | (go_at_call 101; refine (HP.o _ (by assumption)).mono ?_; rintro e w' ⟨⟨X, rfl, hXL⟩, hs⟩) | (go_at_call 102; refine (HR.o _ (by assumption)).mono ?_; rintro e w' ⟨rfl, hs⟩))
 all_goals (
  have HF := Zh hs.1;clear hs
  go_wp2_with fail
  go_ret2
  exact ⟨L, (by rw [HB.o] <;> rfl), (fun _ => by rw [HW.o]; exact HL.o), HBW.o.trans (HF.o.mono HBW.o.size)⟩)
theorem qma (l : Bool) (k : Int) (s : ByteArray) (a : Int) (q : Option Addr) (n c : Nat) (W : World) (hs : s.size <= 65536) (hn : n <= 281474976710656) (hm : MaxAt W) :
  Calls Tryz.prog 84 #[trV l k s a q n c] W (qfq ⟨l, k, s, n⟩ W) := by
 cases l with
 | true => exact qgf k s a q n c W hn
 | false =>
  by_cases h : n = 0
  ·subst h; exact qgg k s a q c W hs hm
  ·exact qgh k s a q n c W hs hn h hm
def qox (n : Nat) : Prop := ∀ (x : Fo), x.size <= n -> szB 65536 x -> ∀ (l : Bool) (k : Int) (s : ByteArray) (a : Int) (q : Option Addr) (c : Nat) (W : World) (F : Nat -> Prop) (B N : Nat) (v : Value) (xs : List Value), s.size <= 65536 -> FoIn W F x q -> (∀ b, F b -> b < B) -> x.len <= c -> x.len <= 281474976710656 -> MaxAt W →
 W.ownsRow B 5 1 v N xs -> B <= W.heap.size -> 0 < B -> N + (txtT l k s x).length <= 1099511627776 →
 Calls Tryz.prog 86 #[v, trV l k s a q x.len c] W fun e w' => ∃ v', e = .returned v' /\ RowS B W v N xs w' v' (txtT l k s x)
theorem RowS.max {B : Nat} {W w' : World} {v v' : Value} {N : Nat} {xs : List Value} {n : List UInt8} (h : RowS B W v N xs w' v' n) (ho : W.ownsRow B 5 1 v N xs) (h0 : 0 < B) (hm : MaxAt W) : MaxAt w' := by
 obtain ⟨m, hm⟩ := hm;refine ⟨m, h.2.1.cell hm (fun e => ?_)⟩;have e2 := (qaw ho (k := 0) e).1;omega
theorem RowS.foIn {B : Nat} {W w' : World} {v v' : Value} {N : Nat} {xs : List Value} {n : List UInt8} (h : RowS B W v N xs w' v' n) (ho : W.ownsRow B 5 1 v N xs) {F : Nat -> Prop} (hF : ∀ b, F b -> b < B) {f : Fo} {p : Option Addr} (hx : FoIn W F f p) : FoIn w' F f p :=
 hx.only h.2.1 (fun b hb e => by have h1 := (qaw ho (k := b) e).1; have h2 := hF b hb; omega)
theorem RowS.size {B : Nat} {W w' : World} {v v' : Value} {N : Nat} {xs : List Value} {n : List UInt8} (h : RowS B W v N xs w' v' n) : W.heap.size <= w'.heap.size := h.2.1.size
theorem RowS.cell {B : Nat} {W w' : World} {v v' : Value} {N : Nat} {xs : List Value} {n : List UInt8} (h : RowS B W v N xs w' v' n) {b o : Nat} {u : Value} (hc : W.cell? ⟨b, o, none⟩ = some u) (hb : v.ownBlock ≠ some b) : w'.cell? ⟨b, o, none⟩ = some u := h.2.1.cell hc hb
theorem qhz (k : Int) (s : ByteArray) (a : Int) (q : Option Addr) (n c : Nat) (W : World) (B N : Nat) (v : Value) (xs : List Value) (hs : s.size <= 65536) (hm : MaxAt W) (ho : W.ownsRow B 5 1 v N xs) (hB : B <= W.heap.size) (hN : N <= 1099511627776) :
  Calls Tryz.prog 86 #[v, trV false k s a q n c] W fun e w' => ∃ v', e = .returned v' /\ RowS B W v N xs w' v' (qaj k.toNat s.data.toList) := by
 obtain ⟨i5, hi5, hz0, hz1, hz2⟩ := qiv;have hp := qha k s a _ (by omega) (hm.later (qab W (.cells #[.bool false, .int .u8 k, .string s, .int .i64 a, .slice q n c] 35)));have HP := Zh hp;have HO := Zh ho;clear hp hm ho;unfold trV;go_enter Tryz.func86, Tryz.ntmps86
 go_wp2_with fail
 refine HP.o.mono ?_;rintro e w1 ⟨X, rfl, hX, hb⟩
 have hXs : X.size <= 200000 := by
  have h1 := qbq k.toNat s.data.toList;have h2 : s.data.toList.length = s.size := by simp
  have h3 : X.data.toList.length = X.size := by simp
  rw [hX] at h3;omega
 have hb2 := (qab W (.cells #[.bool false, .int .u8 k, .string s, .int .i64 a, .slice q n c] 35)).trans (hb.mono (by simp));have HO2 := Zh (qal HO.o hb2);have HX := Zh hX;have HB2 := Zh hb2;clear hX hb hb2 HP
 go_wp2_with (at_builtin; refine wpList_append_str rfl _ _ 57 9 rfl B i5 Tryz.underlying57 Tryz.underlying9 hi5 hz0 hz1 hz2 v N xs rfl HO2.o X rfl ?b1 ?b2 ?_)
 case b1 => omega
 case b2 => exact Nat.le_trans hB HB2.o.size
 intro v' w2 hR;have HR := Zh hR;clear hR
 go_wp2_with fail
 go_ret
 refine ⟨v', rfl, ?_⟩;have h1 := HR.o.from_ HB2.o;rw [HX.o] at h1;exact h1
theorem qhy (n : Nat) (ih : ∀ m, m < n -> qox m) : qox n := by
 intro x hsz hzb l k s a q c W F B N v xs hs hx hF hc hn hm ho hB h0 hN
 cases l with
 | false =>
  have h := qhz k s a q x.len c W B N v xs hs hm ho hB (by omega)
  simpa [txtT] using h
 | true =>
 obtain ⟨i5, hi5, hz0, hz1, hz2⟩ := qiv;have htt : txtT true k s x = 40 :: (txtF true x ++ [41]) := by simp [txtT]
 rw [htt] at hN ⊢;clear htt;obtain ⟨T, hT⟩ : ∃ T, T = 40 :: txtF true x := ⟨_, rfl⟩;have hT2 : 40 :: (txtF true x ++ [41]) = T ++ [41] := by rw [hT]; rfl
 rw [hT2] at hN ⊢;obtain ⟨L, hL⟩ : ∃ L, L = T.length := ⟨_, rfl⟩;have hNL : N + L + 1 <= 1099511627776 := by simp only [List.length_append, List.length_cons, List.length_nil] at hN; omega
 obtain ⟨M, hM⟩ : ∃ M, M = x.len := ⟨_, rfl⟩;rw [<- hM] at hc hn ⊢;have i1 : (M : Int) <= 281474976710656 := by omega
 have HX := Zh (aI hx hF);have HI := Zh (show (M = x.len /\ x.size <= n /\ T = 40 :: txtF true x /\ L = T.length /\ szB 65536 x) from ⟨hM, hsz, hT, hL, hzb⟩);have HO := Zh ho;have HM := Zh hm;have IH := Zh ih;have HNL := Zh hNL;have HBB := Zh (aI hB h0);clear hx hF hM hsz hT hL hzb ho hm ih hT2 hN hNL hB h0;unfold trV;obtain ⟨W1, hW1⟩ : ∃ W1, W1 = W.alloc (.cells #[.bool true, .int .u8 k, .string s, .int .i64 a, .slice q M c] 35) := ⟨_, rfl⟩;have HB1 := Zh (show Below W.heap.size W W1 by rw [hW1]; exact qab _ _);have hs1 : W1.heap.size = W.heap.size + 1 := by rw [hW1]; simp
 have HS1 := Zh hs1;have y0 : W1.cell? ⟨W.heap.size, 0, none⟩ = some (.bool true) := by rw [hW1]; simp [go_sem]
 have y4 : W1.cell? ⟨W.heap.size, 4, none⟩ = some (.slice q M c) := by rw [hW1]; simp [go_sem]
 have HO1 := Zh (qal HO.o HB1.o);have HO1b := Zh (qal HO1.o (qab W1 (.cells #[.int .u8 40] 5)));clear hs1;have hz4' := fun (w2 : World) (v1 : Value) (hR1 : RowS B (W1.alloc (.cells #[.int .u8 40] 5)) v N xs w2 v1 [40]) => hR1.cell (b := W.heap.size) (o := 4) (qaa (qab W1 (.cells #[.int .u8 40] 5)) y4) (fun e => by have := (qaw HO.o e).2; omega)
 have HZ4 := Zh hz4';clear hz4';subst hW1;go_enter Tryz.func86, Tryz.ntmps86
 go_wp2_with (at_builtin; refine wpList_append_byte rfl _ _ 57 rfl B i5 Tryz.underlying57 hi5 hz0 hz1 hz2 v N xs rfl HO1b.o ⟨W.heap.size + 1, 0, none⟩ 40 rfl ?b0 ?b1 ?b2 ?_)
 case b0 => simp [go_sem, u8v, Addr.add]
 case b1 => have := HNL.o; omega
 case b2 => have := HBB.o.1; simp; omega
 intro v1 w2 hR1;have hz4 := HZ4.o w2 v1 hR1;have HR1 := Zh ((hR1.from_ (qab _ _)).from_ HB1.o);clear hR1 y0 y4 HZ4
 go_wp2_with fail
 go_loopg [0, 5, 6, 21] M (fun gk s0 s5 s6 s21 wx => ∃ (i : Nat) (f : Fo) (vv : Value), i + gk = M /\ s21 = .int .i64 (i : Int) /\ vv = s0 /\ Hid (∃ D : List UInt8, f.len = gk /\ RowS B W v N xs wx vv D /\ D ++ txtF (decide (i = 0)) f = T /\ f.size <= x.size /\ szB 65536 f /\ FoIn wx F f (pl q i)))
 case atStart =>
  refine ⟨0, x, _, by omega, rfl, rfl, Zh ⟨[40], HI.o.1.symm, HR1.o, HI.o.2.2.1.symm, Nat.le_refl _, HI.o.2.2.2.2, qcd (HR1.o.foIn HO.o HX.o.2 HX.o.1)⟩⟩
 case round =>
  obtain ⟨i, f, vv, hk, rfl, rfl, HK⟩ := hrel;have HG := Zh hk;have hi2 : i <= M := by omega
  clear hk;obtain ⟨wA, hwA⟩ : ∃ w, w = wr := ⟨_, rfl⟩;subst hwA;have i2 : (i : Int) <= (M : Int) := by omega
  obtain ⟨D, hf, hR, hD, hfs, hfz, hfx⟩ := HK.o;have hDl : D.length <= L := by rw [HI.o.2.2.2.1, <- hD]; simp
  have HHR := Zh hR;have hoA : wA.ownsRow B 5 1 vv (N + D.length) (xs ++ D.map u8v) := hR.1;have HOA := Zh hoA;have hmA : MaxAt wA := hR.max HO.o HBB.o.2 HM.o;have HMA := Zh hmA;have hBA : B <= wA.heap.size := Nat.le_trans HBB.o.1 hR.size;have HBA := Zh hBA;clear hR hoA hmA hBA HK
  by_cases hlt : i < M
  ·obtain ⟨G, rfl⟩ : ∃ G, gk = G + 1 := ⟨gk - 1, by have := HG.o; omega⟩
   have i0 : (0 : Int) <= (i : Int) := by omega
   have i3 : (i : Int) < (M : Int) := by omega
   obtain ⟨b, off, rfl⟩ : ∃ b off, q = some ⟨b, off, none⟩ := HX.o.1.some (by rw [<- HI.o.1]; omega)
   cases f with
   | nil => simp [Fo.len] at hf
   | cons l1 k1 s1 a1 x1 r1 =>
    obtain ⟨hbF, e0, e1, e2, e3, ⟨q3, cc3, e4, hc3, hm3, hx3⟩, hr3⟩ := hfx.head;have hDT : D ++ ((if decide (i = 0) = true then [] else [32]) ++ (txtT l1 k1 s1 x1 ++ txtF false r1)) = T := hD;have HDT := Zh hDT;obtain ⟨hz1', hz2', hz3'⟩ := hfz;have HC := Zh (fun (w' : World) (v' : Value) (N' : Nat) (xs' : List Value) (h1 : FoIn w' F x1 q3) (h2 : MaxAt w') (h3 : w'.ownsRow B 5 1 v' N' xs') (h4 : B <= w'.heap.size) (h5 : N' + (txtT l1 k1 s1 x1).length <= 1099511627776) => IH.o x1.size (by have := HI.o.2.1; simp only [Fo.size] at hfs; omega) x1 (Nat.le_refl _) hz2' l1 k1 s1 a1 q3 cc3 w' F B N' v' xs' hz1' h1 HX.o.2 hc3 hm3 h2 h3 h4 HBB.o.2 h5);have HS := Zh (show (r1.len = G /\ r1.size <= x.size /\ szB 65536 r1) from ⟨by simpa [Fo.len] using hf, by simp only [Fo.size] at hfs; omega, hz3'⟩);have HXX := Zh (aI hx3 hr3);obtain ⟨n3, hn3⟩ : ∃ n3, n3 = x1.len := ⟨_, rfl⟩;rw [<- hn3] at HC e4;clear hn3 hf hD hDT hfs hz1' hz2' hz3' hfx hx3 hr3 hc3 hm3;unfold trV at HC
    by_cases hi0 : i = 0
    ·subst hi0
     simp only [Nat.zero_mul, Nat.add_zero] at e0 e1 e2 e3 e4;have hT3 : D ++ (txtT l1 k1 s1 x1 ++ txtF false r1) = T := by have := HDT.o; simpa using this
     have HT3 := Zh hT3;have HLT := Zh (show D.length + (txtT l1 k1 s1 x1).length <= L by rw [HI.o.2.2.2.1, <- hT3]; simp);have hC2 := HC.o (wA.alloc (.cells #[.bool l1, .int .u8 k1, .string s1, .int .i64 a1, .slice q3 n3 cc3] 35)) vv (N + D.length) (xs ++ D.map u8v) (HXX.o.1.later (qab _ _)) (HMA.o.later (qab _ _)) (qal HOA.o (qab _ _)) (by have := HBA.o; simp; omega) (by have := HLT.o; have := HNL.o; omega);have HC2 := Zh hC2;clear hT3 hC2 HDT HC
     go_wp2_with fail
     refine HC2.o.mono ?_;rintro e w4 ⟨v3, rfl, hR3⟩;have hR4 := HHR.o.trans (hR3.from_ (qab wA _));have HR4 := Zh hR4;have HFX := Zh ((hR3.from_ (qab wA _)).foIn HOA.o HX.o.2 HXX.o.2);clear hR3 hR4
     go_wp2_with fail
     go_roundg G
     case measure => omega
     case rel =>
      refine ⟨1, r1, _, by have := HG.o; omega, by simp, rfl, Zh ⟨D ++ txtT l1 k1 s1 x1, HS.o.1, HR4.o, ?_, HS.o.2.1, HS.o.2.2, HFX.o⟩⟩;rw [List.append_assoc]; exact HT3.o
    ·have hi4 : (0 : Int) < (i : Int) := by omega
     have hi5' : 0 < i := by omega
     have hT3 : D ++ ([32] ++ (txtT l1 k1 s1 x1 ++ txtF false r1)) = T := by have := HDT.o; rw [if_neg (by simpa using hi0)] at this; exact this
     have HT3 := Zh hT3;have HLT := Zh (show D.length + 1 + (txtT l1 k1 s1 x1).length <= L by rw [HI.o.2.2.2.1, <- hT3]; simp; omega);clear hT3 HDT;obtain ⟨W3, hW3⟩ : ∃ W3, W3 = wA.alloc (.cells #[.bool l1, .int .u8 k1, .string s1, .int .i64 a1, .slice q3 n3 cc3] 35) := ⟨_, rfl⟩;have HB3 := Zh (show Below wA.heap.size wA W3 by rw [hW3]; exact qab _ _);have g0 : W3.cell? ⟨wA.heap.size, 0, none⟩ = some (.bool l1) := by rw [hW3]; simp [go_sem]
     have g1 : W3.cell? ⟨wA.heap.size, 1, none⟩ = some (.int .u8 k1) := by rw [hW3]; simp [go_sem]
     have g2 : W3.cell? ⟨wA.heap.size, 2, none⟩ = some (.string s1) := by rw [hW3]; simp [go_sem]
     have g3 : W3.cell? ⟨wA.heap.size, 3, none⟩ = some (.int .i64 a1) := by rw [hW3]; simp [go_sem]
     have g4 : W3.cell? ⟨wA.heap.size, 4, none⟩ = some (.slice q3 n3 cc3) := by rw [hW3]; simp [go_sem]
     have HO3 := Zh (qal (qal HOA.o HB3.o) (qab W3 (.cells #[.int .u8 32] 5)))
     have hkk := fun (v2 : Value) (w3 : World) (hR2 : RowS B (W3.alloc (.cells #[.int .u8 32] 5)) vv (N + D.length) (xs ++ D.map u8v) w3 v2 [32]) => (show (w3.cell? ⟨wA.heap.size, 0, none⟩ = some (.bool l1) /\ w3.cell? ⟨wA.heap.size, 1, none⟩ = some (.int .u8 k1) /\ w3.cell? ⟨wA.heap.size, 2, none⟩ = some (.string s1) /\ w3.cell? ⟨wA.heap.size, 3, none⟩ = some (.int .i64 a1) /\ w3.cell? ⟨wA.heap.size, 4, none⟩ = some (.slice q3 n3 cc3)) /\ RowS B wA vv (N + D.length) (xs ++ D.map u8v) w3 v2 [32] from
      have hne : vv.ownBlock ≠ some wA.heap.size := fun e => by have := (qaw HOA.o e).2; omega
      ⟨⟨hR2.cell (qaa (qab W3 (.cells #[.int .u8 32] 5)) g0) hne, hR2.cell (qaa (qab W3 (.cells #[.int .u8 32] 5)) g1) hne, hR2.cell (qaa (qab W3 (.cells #[.int .u8 32] 5)) g2) hne, hR2.cell (qaa (qab W3 (.cells #[.int .u8 32] 5)) g3) hne, hR2.cell (qaa (qab W3 (.cells #[.int .u8 32] 5)) g4) hne⟩, (hR2.from_ (qab W3 _)).from_ HB3.o⟩)
     have HKK := Zh hkk;clear hkk g0 g1 g2 g3 g4;subst hW3
     go_wp2_with (at_builtin; refine wpList_append_byte rfl _ _ 57 rfl B i5 Tryz.underlying57 hi5 hz0 hz1 hz2 vv (N + D.length) (xs ++ D.map u8v) rfl HO3.o ⟨wA.heap.size + 1, 0, none⟩ 32 rfl ?c0 ?c1 ?c2 ?_)
     case c0 => simp [go_sem, u8v, Addr.add]
     case c1 => have := HNL.o; omega
     case c2 => have := HBA.o; simp; omega
     intro v2 w3 hR2;obtain ⟨⟨k0, k1', k2, k3, k4⟩, hR2b⟩ := HKK.o v2 w3 hR2;have HR2 := Zh hR2b;have hC2 := HC.o w3 v2 (N + D.length + 1) (xs ++ D.map u8v ++ [u8v 32]) (hR2b.foIn HOA.o HX.o.2 HXX.o.1) (hR2b.max HOA.o HBB.o.2 HMA.o) hR2b.1 (Nat.le_trans HBA.o hR2b.size) (by have := HLT.o; have := HNL.o; omega);have HC2 := Zh hC2;clear hR2 hR2b hC2 HC HO3 HKK
     go_wp2_with fail
     refine HC2.o.mono ?_;rintro e w4 ⟨v3, rfl, hR3⟩;have hR5 := HR2.o.trans hR3;have hR4 := HHR.o.trans hR5;have HR4 := Zh hR4;have HFX := Zh (hR5.foIn HOA.o HX.o.2 HXX.o.2);clear hR3 hR4 hR5
     go_wp2_with fail
     go_roundg G
     case measure => omega
     case rel =>
      obtain ⟨i', hi'⟩ : ∃ i', i' = i + 1 := ⟨_, rfl⟩;refine ⟨i', r1, _, by have := HG.o; omega, by rw [hi']; go_num, rfl, Zh ⟨D ++ ([32] ++ txtT l1 k1 s1 x1), HS.o.1, HR4.o, ?_, HS.o.2.1, HS.o.2.2, by rw [hi']; exact HFX.o⟩⟩;have h1 := HT3.o;rw [show decide (i' = 0) = false by simp; omega]
      simpa [List.append_assoc] using h1
  ·obtain rfl : i = M := by omega
   obtain rfl : gk = 0 := by have := HG.o; omega
   have hDT : D = T := by
    cases f with
    | cons => simp [Fo.len] at hf
    | nil => simpa [txtF] using hD
   subst hDT;have HO4 := Zh (qal HOA.o (qab wA (.cells #[.int .u8 41] 5)));clear hf hD hfs hfz hfx
   go_wp2_with (at_builtin; refine wpList_append_byte rfl _ _ 57 rfl B i5 Tryz.underlying57 hi5 hz0 hz1 hz2 vv (N + D.length) (xs ++ D.map u8v) rfl HO4.o ⟨wA.heap.size, 0, none⟩ 41 rfl ?d0 ?d1 ?d2 ?_)
   case d0 => simp [go_sem, u8v, Addr.add]
   case d1 => have := HNL.o; omega
   case d2 => have := HBA.o; simp; omega
   intro v2 w3 hR2;have HR2 := Zh (HHR.o.trans (hR2.from_ (qab wA _)));clear hR2
   go_wp2_with fail
   go_ret
   exact ⟨v2, rfl, HR2.o⟩
theorem qqv (n : Nat) : qox n := Nat.strongRecOn n fun n ih => qhy n ih
end Go.Proofs.YtookoagcmejkpaaGreatDoor.Lx
namespace Go.Proofs.YtookoagcmejkpaaGreatDoor.Lx
set_option maxRecDepth 100000
open Go Go.RowKit Go.Shelf
def Firm {α : Type} (B : Nat) (J : List α -> World -> Prop) : Prop := ∀ s A A', J s A -> Below B A A' -> J s A'
def SeqB {α : Type} (F : Fence) (n : Nat) (P : Program) (g : Nat) (lb : Array Value) (encs : α -> Array Value) (Kp : World -> World -> Prop) (S Sp : List α -> Prop) (N : Nat) (w : World) : Prop :=
 ∀ (l : Nat) (J Jx : List α -> World -> Prop) (W : World), Below w.heap.size w W -> Firm W.heap.size J -> Firm W.heap.size Jx →
  (∀ pre x W1, J pre W1 -> pre.length < N -> YieldAt F (n - 1) P l (encs x) W1 fun e W' => (e = .returned (.bool true) /\ J (pre ++ [x]) W' /\ Kp W1 W') \/ (e = .returned (.bool false) /\ Jx (pre ++ [x]) W')) →
  J [] W -> CallsIn F n P g (#[.func (.yield l) #[] #[]] ++ lb) W fun e W' => (∃ v, e = .returned v) /\ ((∃ xs, S xs /\ J xs W') \/ (∃ pre, Sp pre /\ Jx pre W'))
theorem qgc {B : Nat} (W : World) (l : Nat) (o o' : Obj) (hl : B <= l) (h : W.heap[l]? = some o) : Below B W (W.putObj l o') :=
 (Below.refl B W).grown (grownBy_putObj' W l o') (Nat.le_trans hl (Nat.le_of_lt (Array.getElem?_eq_some_iff.1 h).1)) (fun k e => by cases e; exact hl)
theorem qjf {α : Type} {F : Fence} {n : Nat} {P : Program} {g : Operand} {ps : Array Tmp} {assign body : Code} {Q : Exit -> Act -> World -> Prop} {a : Act} {w : World}
  (hro : F.round = none) (h1 : 1 <= n) {gf : Nat} {lb : Array Value} (hg : a.eval g = .func (.func gf) #[] lb) (hFg : F.fn gf) (eg : ∀ args w, (callFunc gf args).run P w = .ok (.enter gf args) w)
  {encs : α -> Array Value} {Kp : World -> World -> Prop} {S Sp : List α -> Prop} {N : Nat} (hseq : SeqB F (n - 1) P gf lb encs Kp S Sp N w)
  (hKt : ∀ {A B C : World}, Kp A B -> Kp B C -> Kp A C) (hKb : ∀ (W : World) (l : Nat) (o o' : Obj), w.heap.size <= l -> W.heap[l]? = some o -> o.isCells = false -> Kp W (W.putObj l o')) (hps : ∀ x, (encs x).size = ps.size)
  (I : List α -> World -> Prop) (Ix : Code -> List α -> World -> Prop) (hI : Firm w.heap.size I) (hIx : ∀ c, Firm w.heap.size (Ix c)) (h0 : I [] w) (Ax : α -> Act -> World -> Prop) (hAx : ∀ (x : α) (a' : Act) (W : World) (l : Nat) (o o' : Obj), w.heap.size <= l -> Ax x a' W -> W.heap[l]? = some o -> o.isCells = false -> Ax x a' (W.putObj l o'))
  (hassign : ∀ (l : Nat) (pre : List α) (x : α) (W : World) (K : Act -> World -> Prop), I pre W -> (∀ a' W', KeepsOthers W W' -> Kp W W' -> I pre W' -> Ax x a' W' -> K a' W') →
   assign.wpIn (F.inRound l) (n - 1 - 1) P (Exit.then K (fun _ _ _ => False)) { tmps := (ps.zip (encs x)).foldl (fun t (p, v) => t.setIfInBounds p v) a.tmps, defers := [] } W)
  (hbody : ∀ (l : Nat) (pre : List α) (x : α) (a' : Act) (W : World), I pre W -> Ax x a' W -> pre.length < N -> body.wpIn (F.inRound l) (n - 1 - 1) P (ownPostK Kp I Ix (pre ++ [x]) W) a' W)
  (hdone : ∀ (D : Nat) (xs : List α) (W : World), w.heap.size <= D -> S xs -> I xs W -> W.heap[D]? = some (.deferred (some [])) -> Q .normal { a with defers := { target := .collected D, args := #[] } :: a.defers } W)
  (hstop : ∀ (D : Nat) (c : Code) (pre : List α) (W : World), w.heap.size <= D -> Sp pre -> Ix c pre W -> W.heap[D]? = some (.deferred (some [])) -> c.wpIn F n P Q { a with defers := { target := .collected D, args := #[] } :: a.defers } W) :
  (Code.rangeFunc g ps assign body).wpIn F n P Q a w := by
 refine wpIn_rangeFunc fun fn hfn => ?_
 rw [hro]
 -- the record, in each of its states
 obtain ⟨rec, hrec⟩ : ∃ rec : LoopState -> Option Code -> Loop, rec = fun st pe => { state := st, pending := pe, fn, tmps := a.tmps, params := ps, assign, body, defers := w.heap.size } := ⟨_, rfl⟩
 obtain ⟨W1, hW1⟩ : ∃ W1, W1 = (w.alloc (.deferred (some []))).alloc (.loop (rec .ready none)) := ⟨_, rfl⟩;have hs1 : W1.heap.size = w.heap.size + 2 := by rw [hW1]; simp
 have hw1 : Below w.heap.size w W1 := by rw [hW1]; exact ((Below.refl _ w).alloc (Nat.le_refl _) _).alloc (by simp) _
 have hL1 : W1.heap[w.heap.size + 1]? = some (.loop (rec .ready none)) := by
  have := World.alloc_heap_new (w.alloc (.deferred (some []))) (.loop (rec .ready none));rw [World.size_alloc] at this; rw [hW1]; exact this
 have hD1 : W1.heap[w.heap.size]? = some (.deferred (some [])) := by
  rw [hW1]; exact (Below.heap_alloc _ _ _ (by simp)).trans (World.alloc_heap_new w _)
 have put : ∀ {A : World} {r r' : Loop}, A.heap[w.heap.size + 1]? = some (.loop r) -> Below w.heap.size A (A.putObj (w.heap.size + 1) (.loop r')) := fun h => qgc _ _ _ _ (by omega) h
 have putK : ∀ {A : World} {r r' : Loop}, A.heap[w.heap.size + 1]? = some (.loop r) -> Kp A (A.putObj (w.heap.size + 1) (.loop r')) := fun h => hKb _ _ _ _ (by omega) h rfl
 have same : ∀ {A : World} {r r' : Loop}, A.heap[w.heap.size + 1]? = some (.loop r) -> (A.putObj (w.heap.size + 1) (.loop r')).heap[w.heap.size + 1]? = some (.loop r') := fun h => World.putObj_heap_same (Array.getElem?_eq_some_iff.1 h).1
 have other : ∀ {A : World} {r' : Loop}, A.heap[w.heap.size]? = some (.deferred (some [])) -> (A.putObj (w.heap.size + 1) (.loop r')).heap[w.heap.size]? = some (.deferred (some [])) := fun h => (World.putObj_heap_other (by omega)).trans h
 refine ⟨w.heap.size + 1, [{ target := .collected w.heap.size, args := #[] }], W1, { target := .fn (.func gf) lb, args := #[.func (.yield (w.heap.size + 1)) #[] #[]] }, W1, gf,
  #[.func (.yield (w.heap.size + 1)) #[] #[]] ++ lb, W1, ?_, ?_, ?_, ?_, fun _ => h1, ?_⟩
 ·rw [hW1, hrec]; exact run_enterLoop_outer _ _ _ _ _
 ·simp only [resolve, hg]
  simp [go_sem]
 ·intro f' hf'; simp [Target.leads] at hf'; subst hf'; exact hFg
 ·simp [invoke, go_sem, eg]
 have firm : ∀ (X : List α -> World -> Prop), Firm w.heap.size X -> ∀ (o1 : Obj), Firm W1.heap.size (fun pre W => X pre W /\ W.heap[w.heap.size + 1]? = some o1 /\ W.heap[w.heap.size]? = some (.deferred (some []))) := fun X hX o1 s A A' h hb =>
  ⟨hX s A A' h.1 (hb.mono (by omega)), (hb.block _ (by omega)).trans h.2.1, (hb.block _ (by omega)).trans h.2.2⟩
 refine (hseq (w.heap.size + 1) (fun pre W => I pre W /\ W.heap[w.heap.size + 1]? = some (.loop (rec .ready none)) /\ W.heap[w.heap.size]? = some (.deferred (some [])))
  (fun pre W => ∃ c, Ix c pre W /\ W.heap[w.heap.size + 1]? = some (.loop (rec .done (some c))) /\ W.heap[w.heap.size]? = some (.deferred (some []))) W1 hw1 (firm I hI _)
  (fun s A A' ⟨c, h⟩ hb => ⟨c, firm (Ix c) (hIx c) _ s A A' h hb⟩) ?_ ⟨hI _ _ _ h0 hw1, hL1, hD1⟩).mono ?_
 ·-- a round
  rintro pre x W ⟨hi, hl, hd⟩ hlen;have hy := run_yield (P := P) (args := encs x) hl (by rw [hrec]; exact hps x);rw [hrec] at hy;refine ⟨fn, _, assign, body, hy, roundIn_of_wpIn hfn (hassign _ pre x W _ hi (fun a' W' hko hkp hi' hax => ⟨_, run_beginRound (hko.same _ _ hl rfl) (by rw [hrec]), ?_⟩))⟩;have hl' := hko.same _ _ hl rfl;have hd' := hko.same _ _ hd rfl;have hb2 := same (r' := { rec .ready none with state := .busy }) hl';have hd2 := other (r' := { rec .ready none with state := .busy }) hd';refine wpIn_mono (hbody _ pre x a' _ (hI _ _ _ hi' (put hl')) (hAx _ _ _ _ _ _ (by omega) hax hl' rfl) hlen) ?_
  have fin : ∀ (jump : Option Code) (W3 : World), KeepsOthers (W'.putObj (w.heap.size + 1) (.loop { rec .ready none with state := .busy })) W3 →
    (Instr.endRound (w.heap.size + 1) jump).run P W3 = .ok (.bool jump.isNone) (W3.putObj (w.heap.size + 1) (.loop (rec (if jump.isNone then .ready else .done) jump))) ∧
    W3.heap[w.heap.size + 1]? = some (.loop { rec .ready none with state := .busy }) /\ W3.heap[w.heap.size]? = some (.deferred (some [])) := fun jump W3 hk => by
   have hl3 := hk.same _ _ hb2 rfl;have hr := run_endRound (P := P) jump hl3;refine ⟨?_, hl3, hk.same _ _ hd2 rfl⟩;rw [hrec] at hr ⊢;exact hr
  have leave : ∀ (c : Code) (W3 : World), KeepsOthers (W'.putObj (w.heap.size + 1) (.loop { rec .ready none with state := .busy })) W3 -> Ix c (pre ++ [x]) W3 →
    ∃ v W4, (Instr.endRound (w.heap.size + 1) (some c)).run P W3 = .ok v W4 /\ ((v = .bool true /\ (I (pre ++ [x]) W4 /\ W4.heap[w.heap.size + 1]? = some (.loop (rec .ready none)) /\ W4.heap[w.heap.size]? = some (.deferred (some []))) /\ Kp W W4) \/ (v = .bool false /\ ∃ c, Ix c (pre ++ [x]) W4 /\ W4.heap[w.heap.size + 1]? = some (.loop (rec .done (some c))) /\ W4.heap[w.heap.size]? = some (.deferred (some [])))) := fun c W3 hk hi3 => by
   obtain ⟨hr, hl3, hd3⟩ := fin (some c) W3 hk;exact ⟨_, _, hr, .inr ⟨rfl, c, hIx _ _ _ _ hi3 (put hl3), same hl3, other hd3⟩⟩
  rintro e a3 W3 hp
  cases e with
  | normal =>
   obtain ⟨hk, hkp3, hi3⟩ := hp;obtain ⟨hr, hl3, hd3⟩ := fin none W3 hk
   exact ⟨_, _, hr, .inl ⟨rfl, ⟨hI _ _ _ hi3 (put hl3), same hl3, other hd3⟩, hKt hkp (hKt (hKt (putK hl') hkp3) (putK hl3))⟩⟩
  | ret =>
   obtain ⟨v, W4, h2, h3⟩ := leave .ret W3 hp.1 hp.2
   exact ⟨_, _, h2, h3.imp (fun h => ⟨by rw [h.1], h.2⟩) (fun h => ⟨by rw [h.1], h.2⟩)⟩
  | exit id =>
   obtain ⟨v, W4, h2, h3⟩ := leave (.exit id) W3 hp.1 hp.2
   exact ⟨_, _, h2, h3.imp (fun h => ⟨by rw [h.1], h.2⟩) (fun h => ⟨by rw [h.1], h.2⟩)⟩
  | goto t =>
   obtain ⟨v, W4, h2, h3⟩ := leave (.goto t) W3 hp.1 hp.2
   exact ⟨_, _, h2, h3.imp (fun h => ⟨by rw [h.1], h.2⟩) (fun h => ⟨by rw [h.1], h.2⟩)⟩
  | panic ch => exact hp.elim
  | outgrown => exact hp.elim
 ·-- behind the iterator
  rintro e W2 ⟨⟨v, rfl⟩, (⟨xs, hS, hi, hl, hd⟩ | ⟨pre, hSp, c, hi, hl, hd⟩)⟩
  ·have hr := run_endLoop (P := P) hl (by rw [hrec]; simp)
   rw [hrec] at hr;exact ⟨none, _, hr, hdone _ xs _ (Nat.le_refl _) hS (hI _ _ _ hi (put hl)) (other hd)⟩
  ·have hr := run_endLoop (P := P) hl (by rw [hrec]; simp)
   rw [hrec] at hr;exact ⟨some c, _, hr, hstop _ c pre _ (Nat.le_refl _) hSp (hIx c _ _ _ hi (put hl)) (other hd)⟩
attribute [local go_sem] Oper.semAt_some
theorem qel {F : Fence} {n : Nat} {P : Program} (w : World) {ops : Array Oper} {rest : List Oper} {o : Oper} {a : Act} {Q : Exit -> Act -> World -> Prop}
  (hg : o.guard = none) (s x : Operand) (t : TypeId) (hop : o.op = Op.call { callee := Callee.builtin Builtin.append, args := #[s, x], argTypes := #[t, t] })
  (base : Nat) (e : TypeId) (i : TypeInfo) (z : Value) (size bytes : Nat) (h1 : P.underlying t = some (.slice e)) (h2 : P.info? e = some i) (h3 : i.zero = some z) (h4 : i.size = size) (h5 : i.bytes = bytes) (h6 : z.cells.size = size) (h7 : 0 < size)
  (v : Value) (k : Nat) (xs : List Value) (hs : a.eval s = v) (hown : w.ownsRow base e size v k xs) (ad : Addr) (m c : Nat) (news : List Value) (hx : a.eval x = .slice (some ad) m c) (hn : news.length = m * size)
  (hc : ∀ j u, news[j]? = some u -> w.cell? (ad.add j) = some u) (h1c : ∀ u ∈ news, u.oneCell' = true) (b1 : k + m <= maxLen) (b2 : (k + m) * bytes <= 140737488355328) (b3 : base <= w.heap.size)
  (hK : ∀ v' w', w'.ownsRow base e size v' (k + m) (xs ++ news) -> w.grownBy w' v.ownBlock -> (v'.ownBlock = v.ownBlock \/ v'.ownBlock = some w.heap.size) -> wpListIn F n P ops Q rest (a.put o.dst v') w') :
  wpListIn F n P ops Q (o :: rest) a w := by
 refine wpListIn_plain hg fun K hK' => ?_
 obtain ⟨v', w', hrun, r1, r2, _, r4⟩ := run_append_own_at (P := P) w base t o.type e i z size bytes h1 h2 h3 h4 h5 h6 h7 v k xs hown ad m c news hn hc h1c b1 b2 b3;unfold Oper.wpIn
 constructor
 ·simp [Oper.about, hop, resolve, Target.leads, Sem.run_pure]
 ·rw [Oper.semAt_plain F _ _ (by rw [hop]; intro c hc'; cases hc')]
  simp [execOp, hop, resolve, invoke, builtin, hs, hx, hrun, Result.andThen];exact hK' _ _ (hK v' w' r1 r2 r4)
def remF : Fo -> List Nd
 | .nil => []
 | .cons l k s _ x r => remF r ++ (⟨l, k, s, x.len⟩ :: qbj x)
theorem qch (l : Bool) (k : Int) (s : ByteArray) (a : Int) (x : Fo) : ∀ f : Fo, remF (f.snoc l k s a x) = ⟨l, k, s, x.len⟩ :: (qbj x ++ remF f)
 | .nil => by simp [Fo.snoc, remF]
 | .cons l0 k0 s0 a0 x0 r => by simp [Fo.snoc, remF, qch l k s a x r]
theorem qg7 : ∀ f : Fo, f.len <= (remF f).length
 | .nil => Nat.le_refl _
 | .cons l0 k0 s0 a0 x0 r => by
  have := qg7 r;simp only [Fo.len, remF, List.length_append, List.length_cons]; omega
theorem qjv : ∀ f : Fo, 0 < f.len -> ∃ (f0 : Fo) (l : Bool) (k : Int) (s : ByteArray) (a : Int) (x : Fo), f = f0.snoc l k s a x
 | .nil, h => absurd h (by decide)
 | .cons l k s a x .nil, _ => ⟨.nil, l, k, s, a, x, rfl⟩
 | .cons l0 k0 s0 a0 x0 (.cons l k s a x r), _ => by
  obtain ⟨f0, l1, k1, s1, a1, x1, h⟩ := qjv (.cons l k s a x r) (by simp [Fo.len]);exact ⟨.cons l0 k0 s0 a0 x0 f0, l1, k1, s1, a1, x1, by rw [h]; rfl⟩
theorem qf8 {W : World} {F : Nat -> Prop} {b off : Nat} : ∀ (u z : Fo) (j : Nat), FoIn W F (u.app z) (pl (some ⟨b, off, none⟩) j) -> FoIn W F z (pl (some ⟨b, off, none⟩) (j + u.len))
 | .nil, z, j, h => h
 | .cons l k s a x r, z, j, h => by
  have := qf8 r z (j + 1) (FoIn.head (l := l) (k := k) (s := s) (a := a) (x := x) (r := r.app z) h).2.2.2.2.2.2;simp only [Fo.len];rw [show j + (r.len + 1) = j + 1 + r.len by omega];exact this
theorem _root_.Go.Proofs.YtookoagcmejkpaaGreatDoor.RowF.last {W : World} {F : Nat -> Prop} {l : Bool} {k : Int} {s : ByteArray} {a : Int} {x : Fo} : ∀ (f : Fo) (xs : List Value), RowF W F (f.snoc l k s a x) xs -> ∃ ys q c, xs = ys ++ trC l k s a q x.len c /\ RowF W F f ys /\ x.len <= c /\ x.len <= 281474976710656 /\ FoIn W F x q
 | .nil, xs, h => by
  obtain ⟨q, c, ys, rfl, h1, h2, h3, h4⟩ := h;obtain rfl : ys = [] := h4
  exact ⟨[], q, c, by simp, rfl, h1, h2, h3⟩
 | .cons l0 k0 s0 a0 x0 r, xs, h => by
  obtain ⟨q0, c0, ys, rfl, h1, h2, h3, h4⟩ := h;obtain ⟨zs, q, c, rfl, h5, h6, h7, h8⟩ := RowF.last r ys h4;exact ⟨trC l0 k0 s0 a0 q0 x0.len c0 ++ zs, q, c, by simp, ⟨q0, c0, zs, rfl, h1, h2, h3, h5⟩, h6, h7, h8⟩
theorem qg4 {B : Nat} {l : Bool} {k : Int} {s : ByteArray} {a : Int} {x : Fo} : ∀ f : Fo, szB B (f.snoc l k s a x) ↔ szB B f /\ s.size <= B /\ szB B x
 | .nil => by simp [Fo.snoc, szB]
 | .cons l0 k0 s0 a0 x0 r => by
  have := qg4 (l := l) (k := k) (s := s) (a := a) (x := x) (B := B) r;simp only [Fo.snoc, szB, this, and_assoc]
theorem qmt {B : Nat} : ∀ u z : Fo, szB B (u.app z) ↔ szB B u /\ szB B z
 | .nil, z => by simp [Fo.app, szB]
 | .cons l0 k0 s0 a0 x0 r, z => by simp only [Fo.app, szB, qmt r z, and_assoc]
structure Tr where
 l : Bool
 k : Int
 s : ByteArray
 a : Int
 q : Option Addr
 n : Nat
 c : Nat
 hs : s.size <= 65536
 hn : n <= 281474976710656
def Tr.v (t : Tr) : Value := trV t.l t.k t.s t.a t.q t.n t.c
def Tr.nd (t : Tr) : Nd := ⟨t.l, t.k, t.s, t.n⟩
def KpC (bS : Nat) (W W' : World) : Prop := W.heap.size <= W'.heap.size /\ ∀ b o, b ≠ bS -> W.heap[b]? = some o -> o.isCells = true -> W'.heap[b]? = some o
theorem KpC.trans {bS : Nat} {A B C : World} (h : KpC bS A B) (k : KpC bS B C) : KpC bS A C := ⟨Nat.le_trans h.1 k.1, fun b o hb ho hc => k.2 b o hb (h.2 b o hb ho hc) hc⟩
theorem KpC.of_only {bS : Nat} {A B : World} (h : Only (fun k => k = bS) A B) : KpC bS A B := ⟨h.size, fun b _o hb ho _ => (h.block b (Array.getElem?_eq_some_iff.1 ho).1 hb).trans ho⟩
theorem KpC.put {bS : Nat} (W : World) (l : Nat) (o o' : Obj) (h : W.heap[l]? = some o) (hc : o.isCells = false) : KpC bS W (W.putObj l o') :=
 ⟨(qgc W l o o' (Nat.le_refl _) h).size, fun b o2 _ ho hc2 => by
  by_cases e : b = l
  ·subst e; rw [h] at ho; cases ho; rw [hc] at hc2; cases hc2
  ·exact (World.putObj_heap_other e).trans ho⟩
theorem KpC.cell {bS : Nat} {A B : World} (h : KpC bS A B) {b o : Nat} {v : Value} (hb : b ≠ bS) (hc : A.cell? ⟨b, o, none⟩ = some v) : B.cell? ⟨b, o, none⟩ = some v := by
 cases ho : A.heap[b]? with
 | none => simp [World.cell?, ho] at hc
 | some x =>
  cases x with
  | cells cs t fr =>
   have h2 := h.2 b _ hb ho rfl;simp only [World.cell?, ho] at hc;simp only [World.cell?, h2]
   exact hc
  | _ => simp [World.cell?, ho] at hc
theorem KpC.own {bS : Nat} {A B : World} (h : KpC bS A B) {base n : Nat} {e : TypeId} {size : Nat} {v : Value} {xs : List Value} (ho : A.ownsRow base e size v n xs) (hb : bS < base) : B.ownsRow base e size v n xs := by
 obtain ⟨h0, ⟨h1, h2⟩ | ⟨g, cap, cur, hv, hg, hh, hn, hm, hs, ht⟩⟩ := ho
 ·exact ⟨h0, .inl ⟨h1, h2⟩⟩
 ·exact ⟨h0, .inr ⟨g, cap, cur, hv, hg, h.2 g _ (by omega) hh rfl, hn, hm, hs, ht⟩⟩
def StackAt (W : World) (B : Nat) (F : Nat -> Prop) (v : Value) (f : Fo) : Prop := ∃ xs, W.ownsRow B 35 5 v f.len xs /\ RowF W F f xs
theorem StackAt.later {W W' : World} {B : Nat} {F : Nat -> Prop} {v : Value} {f : Fo} (h : StackAt W B F v f) (hb : Below W.heap.size W W') : StackAt W' B F v f := by
 obtain ⟨xs, h1, h2⟩ := h;exact ⟨xs, qal h1 hb, h2.later hb⟩
theorem StackAt.kept {bS : Nat} {W W' : World} {B : Nat} {F : Nat -> Prop} {v : Value} {f : Fo} (h : StackAt W B F v f) (hk : KpC bS W W') (hB : bS < B) (hF : ∀ b, F b -> b ≠ bS) : StackAt W' B F v f := by
 obtain ⟨xs, h1, h2⟩ := h;exact ⟨xs, hk.own h1 hB, RowF.move (fun b _ _ hb hv => ⟨hk.cell (hF b hb) hv, hb⟩) _ _ h2⟩
theorem StackAt.last {W : World} {B : Nat} {F : Nat -> Prop} {v : Value} {f : Fo} {l : Bool} {k : Int} {s : ByteArray} {a : Int} {x : Fo} (h : StackAt W B F v (f.snoc l k s a x)) :
  ∃ g c q c1, v = .slice (some ⟨g, 0, none⟩) (f.len + 1) c /\ f.len + 1 <= c /\ W.cell? ⟨g, f.len * 5, none⟩ = some (.bool l) /\ W.cell? ⟨g, f.len * 5 + 1, none⟩ = some (.int .u8 k) /\ W.cell? ⟨g, f.len * 5 + 2, none⟩ = some (.string s) /\ W.cell? ⟨g, f.len * 5 + 3, none⟩ = some (.int .i64 a) /\ W.cell? ⟨g, f.len * 5 + 4, none⟩ = some (.slice q x.len c1) ∧
   x.len <= c1 /\ x.len <= 281474976710656 /\ FoIn W F x q /\ StackAt W B F (.slice (some ⟨g, 0, none⟩) f.len c) f := by
 obtain ⟨xs, h1, h2⟩ := h;obtain ⟨ys, q, c1, rfl, h5, h6, h7, h8⟩ := RowF.last f xs h2;rw [Fo.len_snoc] at h1;obtain ⟨p, c, rfl, hp⟩ := qaq h1;have hcap := qf1 h1
 obtain ⟨g, rfl⟩ : ∃ g, p = some ⟨g, 0, none⟩ := by
  rcases h1.2 with ⟨e, _⟩ | ⟨g, _, _, e, _⟩
  ·injection e with _ e2 _; omega
  ·injection e with e2 _ _; exact ⟨g, e2⟩
 have hlen := h5.len;have at_ : ∀ j u, (trC l k s a q x.len c1)[j]? = some u -> W.cell? ⟨g, f.len * 5 + j, none⟩ = some u := fun j u hu => (qeq h1 _ _ (by rw [List.getElem?_append_right (by omega)]; simpa [hlen] using hu)).1
 refine ⟨g, c, q, c1, rfl, hcap, at_ 0 _ rfl, at_ 1 _ rfl, at_ 2 _ rfl, at_ 3 _ rfl, at_ 4 _ rfl, h6, h7, h8, ⟨(ys ++ trC l k s a q x.len c1).take (f.len * 5), qph h1 (by omega), ?_⟩⟩;rw [<- hlen, List.take_left];exact h5
attribute [local go_sem] Oper.semAt_some
theorem qja (W : World) (g n c k : Nat) (h2 : k <= c) :
  (Instr.slice 33 (.slice (some ⟨g, 0, none⟩) n c) none (some (.int .i64 (k : Int))) none).run Tryz.prog W = .ok (.slice (some ⟨g, 0, none⟩) k c) W := by
 obtain ⟨i5, hi5, _, hs5, _⟩ := qgt;have e1 : (0 : Int) <= (k : Int) := by omega
 have e3 : (k : Int) <= (c : Int) := by omega
 simp [Instr.slice, run_underlying Tryz.underlying33, Instr.sliceBounds, Instr.sliceBound, asIntOf, sizeOf, typeInfo, hi5, e1, h2, Addr.add]
theorem qkb : ∀ u z : Fo, (u.app z).size = u.size + z.size
 | .nil, z => by simp [Fo.app, Fo.size]
 | .cons l k s a x r, z => by simp only [Fo.app, Fo.size, qkb r z]; omega
theorem len_app : ∀ u z : Fo, (u.app z).len = u.len + z.len
 | .nil, z => by simp [Fo.app, Fo.len]
 | .cons l k s a x r, z => by simp only [Fo.app, Fo.len, len_app r z]; omega
theorem qnh (n : Nat) (hn : 2 <= n) (Bn bS : Nat) (l : Bool) (k : Int) (s : ByteArray) (a : Int) (q : Option Addr) (c : Nat) (x : Fo) (w : World) (F : Nat -> Prop)
  (c0 : w.cell? ⟨Bn, 0, none⟩ = some (.bool l)) (c1 : w.cell? ⟨Bn, 1, none⟩ = some (.int .u8 k)) (c2 : w.cell? ⟨Bn, 2, none⟩ = some (.string s)) (c3 : w.cell? ⟨Bn, 3, none⟩ = some (.int .i64 a)) (c4 : w.cell? ⟨Bn, 4, none⟩ = some (.slice q x.len c))
  (hx : FoIn w F x q) (hF : ∀ b, F b -> b < w.heap.size /\ b ≠ bS) (hbS : bS < w.heap.size) (hc : x.len <= c) (hnx : x.len <= 281474976710656) (hs : s.size <= 65536) (hz : szB 65536 x) (hsz : x.size <= 1099511627776) :
  SeqB Fence.wide n Tryz.prog 100 #[.pointer (some ⟨Bn, 0, none⟩)] (fun t : Tr => #[t.v]) (KpC bS) (fun ys => ys.map Tr.nd = qbj (.cons l k s a x .nil)) (fun pre => ∃ ds, pre.map Tr.nd ++ ds = qbj (.cons l k s a x .nil)) (x.size + 1) w := by
 intro lk J Jx W hW hJ hJx hY h0;obtain ⟨i41, hi41, hz0, hz1, hz2⟩ := qgt;obtain ⟨T, hT⟩ : ∃ T, T = qbj (.cons l k s a x .nil) := ⟨_, rfl⟩;have hTl : T.length = x.size + 1 := by rw [hT, qdv]; simp [Fo.size]
 have hT0 : T = remF (.cons l k s a x .nil) := by rw [hT]; simp [qbj, remF]
 rw [<- hT];have b0 := qaa hW c0;have b1 := qaa hW c1;have b2 := qaa hW c2;have b3 := qaa hW c3;have b4 := qaa hW c4;have hsW := hW.size;have hx2 := hx.later hW
 -- the first stack
 obtain ⟨Wa, hWa⟩ : ∃ Wa, Wa = W.alloc (.cells #[.bool l, .int .u8 k, .string s, .int .i64 a, .slice q x.len c] 35) := ⟨_, rfl⟩;have hba : Below W.heap.size W Wa := by rw [hWa]; exact qab _ _
 have hst : StackAt Wa W.heap.size F (.slice (some ⟨W.heap.size, 0, none⟩) 1 1) (.cons l k s a x .nil) := by
  refine ⟨trC l k s a q x.len c, ⟨rfl, .inr ⟨W.heap.size, 1, #[.bool l, .int .u8 k, .string s, .int .i64 a, .slice q x.len c], rfl, Nat.le_refl _, by rw [hWa]; exact heap_alloc_new W _, Nat.le_refl _, by decide, rfl, rfl⟩⟩, q, c, [], by simp, hc, hnx, hx2.later hba, rfl⟩
 have HST := Zh (aI hst (aI hba (aI hT0 (aI hTl (aI (show szB 65536 (.cons l k s a x .nil) from ⟨hs, hz, trivial⟩) (hJ _ _ _ h0 hba))))));have HF := Zh hF;have HY := Zh hY;have HJ := Zh hJ;have HSZ := Zh (aI hsz (aI hsW hbS));clear hst hba hT hT0 hTl hx hx2 hF hY hJ hsz hsW hbS hs hz h0 c0 c1 c2 c3 c4 hW hnx hc;have HJx := Zh hJx;clear hJx;refine callsIn_of_wp Tryz.func100 rfl trivial ?_ rfl;simp only [Tryz.ntmps100, List.size_toArray, List.length_cons, List.length_nil, Nat.reduceAdd, Nat.reduceSub, Array.replicate_succ, Array.replicate_zero, List.push_toArray, List.append_toArray, List.nil_append, List.cons_append]
 gi_wp2_with fail
 rw [<- hWa];clear hWa
 gi_loopg [3, 4, 5] (x.size + 1) (fun gk p3 p4 p5 wr => ∃ (pre : List Tr) (f : Fo) (vv : Value), vv = p3 /\ (remF f).length = gk /\ Hid (StackAt wr W.heap.size F vv f /\ szB 65536 f /\ pre.map Tr.nd ++ remF f = T /\ J pre wr /\ W.heap.size <= wr.heap.size))
 case atStart =>
  refine ⟨[], .cons l k s a x .nil, _, rfl, by rw [<- HST.o.2.2.1]; exact HST.o.2.2.2.1, Zh ⟨HST.o.1, HST.o.2.2.2.2.1, by rw [<- HST.o.2.2.1]; rfl, HST.o.2.2.2.2.2, HST.o.2.1.size⟩⟩
 case round =>
  obtain ⟨pre, f, vv, rfl, hk, HK⟩ := hrel;obtain ⟨G0, hG0⟩ : ∃ g, g = gk := ⟨_, rfl⟩;subst hG0;obtain ⟨wA, hwA⟩ : ∃ w, w = wr := ⟨_, rfl⟩;subst hwA;obtain ⟨hst, hzf, hpre, hjs, hbw⟩ := HK.o;have HG := Zh hk
  have hfl : f.len <= 1099511627777 := by
   have h1 := qg7 f;have h2 := congrArg List.length hpre;rw [List.length_append, HST.o.2.2.2.1] at h2;have := HSZ.o.1;omega
  clear hk HK
  by_cases h0 : f.len = 0
  ·obtain rfl := qb9 h0
   obtain ⟨xs, hown, _⟩ := hst;obtain ⟨p, cc, rfl, hp⟩ := qaq hown;have HP := Zh (aI hpre hjs);clear hown hp hpre hjs hbw hzf hfl;simp only [Fo.len]
   gi_wp2_with fail
   go_end0
   exact ⟨⟨_, rfl⟩, .inl ⟨pre, by have := HP.o.1; simpa [remF] using this, HP.o.2⟩⟩
  ·obtain ⟨f0, l1, k1, s1, a1, x1, rfl⟩ := qjv f (by omega)
   obtain ⟨g, cc, q1, cq1, rfl, hcc, e0, e1, e2, e3, e4, hn1, hm1, hx1, hst0⟩ := hst.last;rw [qg4] at hzf;obtain ⟨hzf0, hs1, hzx1⟩ := hzf;rw [Fo.len_snoc] at hfl
   have hlen : pre.length < x.size + 1 := by
    have h2 := congrArg List.length hpre;rw [List.length_append, HST.o.2.2.2.1, qch, List.length_map, List.length_cons] at h2;omega
   have hbx := qab wA (.cells #[.bool l1, .int .u8 k1, .string s1, .int .i64 a1, .slice q1 x1.len cq1] 35);obtain ⟨fn, tmps, assign, body, hy, hR⟩ := HY.o pre ⟨l1, k1, s1, a1, q1, x1.len, cq1, hs1, hm1⟩ (wA.alloc (.cells #[.bool l1, .int .u8 k1, .string s1, .int .i64 a1, .slice q1 x1.len cq1] 35)) (HJ.o _ _ _ hjs (hbx.mono hbw)) hlen;obtain ⟨m, hmf⟩ : ∃ m, m = f0.len := ⟨_, rfl⟩;have hsl := fun w => qja w g (m + 1) cc m (by omega)
   obtain ⟨nd1, hnd1⟩ : ∃ nd1 : Tr, nd1 = ⟨l1, k1, s1, a1, q1, x1.len, cq1, hs1, hm1⟩ := ⟨_, rfl⟩;have hndd : nd1.nd = ⟨l1, k1, s1, x1.len⟩ := by rw [hnd1]; rfl
   rw [<- hnd1] at hR hy;have hnv : (#[nd1.v] : Array Value) = #[.agg #[.bool l1, .int .u8 k1, .string s1, .int .i64 a1, .slice q1 x1.len cq1]] := by rw [hnd1]; rfl
   rw [hnv] at hy;obtain ⟨N1, hN1⟩ : ∃ N1, N1 = x1.len := ⟨_, rfl⟩;have HM := Zh (aI hmf hN1);rw [<- hmf] at e0 e1 e2 e3 e4 hst0 hcc hfl ⊢;rw [<- hN1] at e4 hn1 hm1 hy hR hbx;have m1 : (m : Int) <= 1099511627777 := by omega
   have m2 : (0 : Int) < (m : Int) + 1 := by omega
   have n1 : (N1 : Int) <= 281474976710656 := by omega
   have HS0 := Zh hst0;have HX1 := Zh (aI hx1 (aI hzf0 hzx1));have HPRE := Zh (aI hpre hndd);have HBW := Zh hbw;have HBX := Zh hbx;have HFL := Zh hfl;have HR := Zh hR;clear hmf hN1 hst hst0 hx1 hzf0 hzx1 hpre hjs hbw hbx hlen hnv hnd1 hndd hR hfl hs1 hm1 hn1
   gi_wp2_with fail
   refine ⟨fun _ => by omega, ?_⟩;refine HR.o.mono ?_;rintro e W3 (⟨rfl, hJ3, hk3⟩ | ⟨rfl, hJx3⟩)
   ·have hneb : wA.heap.size ≠ bS := by have := HBW.o; have := HSZ.o.2.1; have := HSZ.o.2.2; omega
    have y4 : W3.cell? ⟨wA.heap.size, 4, none⟩ = some (.slice q1 N1 cq1) := hk3.cell hneb (by simp [go_sem]);have hst3 := (HS0.o.later HBX.o).kept hk3 (by have := HSZ.o.2.1; have := HSZ.o.2.2; omega) (fun b hb => (HF.o b hb).2);have hx3 : FoIn W3 F x1 q1 := FoIn.move (fun b _ _ hb hv => ⟨hk3.cell (HF.o b hb).2 hv, hb⟩) _ _ (HX1.o.1.later HBX.o);have hs3 : wA.heap.size < W3.heap.size := by have := hk3.1; simp at this; omega
    have htot : (qbj x1).length + (remF f0).length <= x.size + 1 := by
     have h2 := congrArg List.length HPRE.o.1;rw [List.length_append, HST.o.2.2.2.1, qch, List.length_cons, List.length_append] at h2;omega
    have HTOT := Zh htot;have hne0 : (Value.slice (some ⟨g, 0, none⟩) m cc).ownBlock ≠ some wA.heap.size := by intro e; have e : some g = some wA.heap.size := e; injection e with e; obtain ⟨xs0, hown0, _⟩ := HS0.o; have := (qaw hown0 (k := g) rfl).2; omega
    have HNE := Zh hne0;clear hne0;have HI := Zh (aI hst3 (aI hx3 (aI hJ3 hs3)));clear hneb hst3 hx3 hJ3 htot hk3 hs3 hy HR HS0
    gi_wp2_with fail
    gi_loopg [3, 5] N1 (fun gk p3 p5 wx => ∃ (u r f' : Fo) (v' : Value) (j : Int), v' = p3 /\ u.len = gk /\ p5 = .int .i64 j /\ j + 1 = (gk : Int) /\ Hid (x1 = u.app r /\ StackAt wx W.heap.size F v' f' /\ remF f' = qbj r ++ remF f0 /\ szB 65536 f' /\ J (pre ++ [nd1]) wx /\ wA.heap.size < wx.heap.size /\ wx.cell? ⟨wA.heap.size, 4, none⟩ = some (.slice q1 N1 cq1) /\ v'.ownBlock ≠ some wA.heap.size /\ FoIn wx F x1 q1))
    case atStart =>
     refine ⟨x1, .nil, f0, _, _, rfl, HM.o.2.symm, rfl, by omega, Zh ⟨(Fo.app_nil x1).symm, HI.o.1, rfl, HX1.o.2.1, HI.o.2.2.1, HI.o.2.2.2, y4, HNE.o, HI.o.2.1⟩⟩
    case round =>
     obtain ⟨u, r, f', v', j, rfl, hul, rfl, hj, HK⟩ := hrel;obtain ⟨wB, hwB⟩ : ∃ w, w = wr := ⟨_, rfl⟩;subst hwB;obtain ⟨hxx, hst, hrm, hzf, hjs, hsB, y5, hne, hfx⟩ := HK.o;clear HK y4
     cases gk with
     | zero =>
      obtain rfl : j = -1 := by omega
      obtain rfl := qb9 hul;have hr : x1 = r := hxx;subst hr;obtain ⟨G2, hG2⟩ : ∃ G2, G2 = (remF f').length := ⟨_, rfl⟩;have HR2 := Zh (aI hst (aI hrm (aI hzf (aI hjs (aI hsB hG2)))))
      have hlt : G2 < G0 := by
       rw [hG2, hrm];have h1 := HG.o;rw [qch] at h1;simp only [List.length_cons, List.length_append] at h1 ⊢;omega
      clear hst hrm hzf hjs hsB hG2 hxx hne hfx hul
      gi_wp2_with fail
      gi_roundg G2
      case measure => exact hlt
      case rel =>
       refine ⟨pre ++ [nd1], f', _, rfl, HR2.o.2.2.2.2.2.symm, Zh ⟨HR2.o.1, HR2.o.2.2.1, ?_, HR2.o.2.2.2.1, by have := HR2.o.2.2.2.2.1; have := HBW.o; omega⟩⟩;rw [HR2.o.2.1, <- HPRE.o.1, qch, List.map_append, List.append_assoc]
       simp [HPRE.o.2]
     | succ K =>
      obtain rfl : j = (K : Int) := by omega
      obtain ⟨u', l2, k2, s2, a2, x2, rfl⟩ := qjv u (by omega);rw [Fo.len_snoc] at hul;have hK : u'.len = K := by omega
      rw [Fo.snoc_app] at hxx
      have hKN : K < N1 := by
       have h1 := congrArg Fo.len hxx;rw [<- HM.o.2, len_app] at h1;simp only [Fo.len] at h1;omega
      obtain ⟨bq, offq, rfl⟩ : ∃ b off, q1 = some ⟨b, off, none⟩ := hfx.some (by rw [<- HM.o.2]; omega);have hfx2 : FoIn wB F (u'.app (.cons l2 k2 s2 a2 x2 r)) (pl (some ⟨bq, offq, none⟩) 0) := by rw [<- hxx]; exact qcd hfx
      have hfx3 := qf8 u' _ 0 hfx2;rw [Nat.zero_add, hK] at hfx3;obtain ⟨_, e0, e1, e2, e3, ⟨q3, cc3, e4, hc3, hm3, hx3⟩, _⟩ := FoIn.head hfx3
      have hz2' : s2.size <= 65536 /\ szB 65536 x2 := by
       have h1 := HX1.o.2.2;rw [hxx, qmt] at h1;exact ⟨h1.2.1, h1.2.2.1⟩
      have hfl2 : f'.len <= 1099511627777 := by
       have h1 := qg7 f';have h2 := HTOT.o;rw [hrm, List.length_append] at h1
       have h3 : (qbj r).length <= (qbj x1).length := by
        rw [qdv, qdv, hxx, qkb]; simp only [Fo.size]; omega
       have := HSZ.o.1;omega
      obtain ⟨xs, hown, hrow⟩ := hst;have hown2 := qal hown (qab wB (.cells #[.bool l2, .int .u8 k2, .string s2, .int .i64 a2, .slice q3 x2.len cc3] 35));have HOWN := Zh hown2;have HOW := Zh hown;have hnx2 : x2.len <= x2.len := Nat.le_refl _;obtain ⟨n2, hn2⟩ : ∃ n2, n2 = x2.len := ⟨_, rfl⟩;rw [<- hn2] at e4 HOWN hc3 hm3;have HRR := Zh (aI hrow (aI hx3 (aI hz2' (aI hn2 (aI hc3 hm3)))));have HII := Zh (aI hxx (aI hrm (aI hzf (aI hjs (aI hsB (aI hK hfx))))));have HNE2 := Zh hne;have HFL2 := Zh hfl2;have i0 : (0 : Int) <= (K : Int) := by omega
      have i1 : (K : Int) < (N1 : Int) := by omega
      have hsW : W.heap.size <= wB.heap.size := by have := HBW.o; omega
      have HSW := Zh hsW;clear hxx hrm hzf hjs hsB hK hfx hfx2 hfx3 hown hown2 hrow hx3 hz2' hn2 hfl2 hne hul hc3 hm3 hnx2 hsW hKN
      gi_wp2_with (gi_at_builtin; refine qel _ rfl _ _ 33 rfl W.heap.size 35 i41 Z41 5 64 Tryz.underlying33 hi41 hz0 hz1 hz2 rfl (by omega) v' f'.len xs rfl HOWN.o ⟨wB.heap.size, 0, none⟩ 1 1 (trC l2 k2 s2 a2 q3 n2 cc3) rfl rfl ?qa1 ?qa2 ?qa3 ?qa4 ?qa5 ?_)
      case qa1 =>
       intro jj u hjj;rw [Lib.add_plain]
       match jj, hjj with
       | 0, hjj => cases hjj; simp [go_sem]
       | 1, hjj => cases hjj; simp [go_sem]
       | 2, hjj => cases hjj; simp [go_sem]
       | 3, hjj => cases hjj; simp [go_sem]
       | 4, hjj => cases hjj; simp [go_sem]
      case qa2 => intro u hu; simp [trC] at hu; rcases hu with rfl | rfl | rfl | rfl | rfl <;> rfl
      case qa3 => have := HFL2.o; have hml : maxLen = 9223372036854775807 := rfl; omega
      case qa4 => have := HFL2.o; omega
      case qa5 => have := HSW.o; simp; omega
      intro v2 w2 hown3 hg3 hloc3;have hb2 : Below W.heap.size wB w2 := ((qab wB _).mono HSW.o).trans ((Below.refl _ _).grown hg3 (by have := HSW.o; simp; omega) (fun k hk => (World.ownsRow.lt HOWN.o k hk).1));have ho2 := (Only.of_below (T := fun k => v'.ownBlock = some k) (qab wB (.cells #[.bool l2, .int .u8 k2, .string s2, .int .i64 a2, .slice q3 n2 cc3] 35))).trans (Only.of_grown hg3);have hFv : ∀ b, F b -> ¬ v'.ownBlock = some b := fun b hb e => by have h1 := (qaw HOW.o e).1; have h2 := (HF.o b hb).1; have h3 := HSZ.o.2.1; omega
      have y6 := ho2.cell y5 HNE2.o
      have hrow2 : RowF w2 F (f'.snoc l2 k2 s2 a2 x2) (xs ++ trC l2 k2 s2 a2 q3 n2 cc3) := by
       have h1 := RowF.snoc (l := l2) (k := k2) (s := s2) (a := a2) (x := x2) (q := q3) (c := cc3) (by have := HRR.o.2.2.2.2.1; have := HRR.o.2.2.2.1; omega) (by have := HRR.o.2.2.2.2.2; have := HRR.o.2.2.2.1; omega) (HRR.o.2.1.only ho2 hFv) f' xs (HRR.o.1.only ho2 hFv);rw [<- HRR.o.2.2.2.1] at h1;exact h1
      have hst2 : StackAt w2 W.heap.size F v2 (f'.snoc l2 k2 s2 a2 x2) := ⟨_, by rw [Fo.len_snoc]; exact hown3, hrow2⟩;have HFIN := Zh (aI hst2 (aI (HJ.o _ _ _ HII.o.2.2.2.1 hb2) (aI hb2.size (aI y6 (HII.o.2.2.2.2.2.2.only ho2 hFv)))))
      have hne3 : v2.ownBlock ≠ some wA.heap.size := by
       rcases hloc3 with e | e
       ·rw [e]; exact HNE2.o
       ·rw [e]; intro e2; injection e2 with e2; have := HII.o.2.2.2.2.1; first | omega | (simp at e2; omega)
      have HNE3 := Zh hne3;clear hown3 hg3 hloc3 hb2 ho2 hFv y6 hrow2 hst2 hne3 HOWN HOW
      gi_wp2_with fail
      gi_roundg K
      case measure => omega
      case rel =>
       refine ⟨u', .cons l2 k2 s2 a2 x2 r, f'.snoc l2 k2 s2 a2 x2, v2, (K : Int) - 1, rfl, HII.o.2.2.2.2.2.1, by first | rfl | go_num, by omega, Zh ⟨HII.o.1, HFIN.o.1, ?_, ?_, HFIN.o.2.1, ?_, HFIN.o.2.2.2.1, HNE3.o, HFIN.o.2.2.2.2⟩⟩
       ·rw [qch, HII.o.2.1]; simp [qbj]
       ·rw [qg4]; exact ⟨HII.o.2.2.1, HRR.o.2.2.1.1, HRR.o.2.2.1.2⟩
       ·have h1 := HII.o.2.2.2.2.1; have h2 := HFIN.o.2.2.1; omega
   ·gi_wp2_with fail
    refine bodyPost_ret (results_none rfl _ _ _) rfl ?_;exact ⟨⟨_, rfl⟩, .inr ⟨pre ++ [nd1], ⟨qbj x1 ++ remF f0, by rw [<- HPRE.o.1, qch, List.map_append, List.append_assoc]; simp [HPRE.o.2]⟩, hJx3⟩⟩
end Go.Proofs.YtookoagcmejkpaaGreatDoor.Lx
