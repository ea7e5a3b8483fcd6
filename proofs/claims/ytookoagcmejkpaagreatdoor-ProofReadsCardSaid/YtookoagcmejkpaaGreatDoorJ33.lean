/- How great and how deep a tree is: the document's Size and Depth. Rows of steps of the call's own. Steps are read out of a tree: ReadAll, the program's and the document's; and are two rows of steps ali -/
import Derived.Test.YtookoagcmejkpaaGreatDoorS51
import Derived.Test.YtookoagcmejkpaaGreatDoorS6
import Derived.Lib.ItoaLen
import Derived.Test.YtookoagcmejkpaaGreatDoorS17
import Derived.Test.YtookoagcmejkpaaGreatDoorS13
import Derived.Test.YtookoagcmejkpaaGreatDoorJ17
import Derived.ProofKit
import Derived.Deep.Slices
import Derived.SizedLaws
import Derived.Deep.Matrix
import Derived.Below
namespace Go.Proofs.YtookoagcmejkpaaGreatDoor
set_option maxRecDepth 100000
open Go Go.RowKit
theorem fo_len_zero {f : Fo} (h : f.len = 0) : f = .nil := by
 cases f with
 | nil => rfl
 | cons _ _ _ _ _ _ => simp [Fo.len] at h
def depF : Fo -> Nat -> Nat
 | .nil, _ => 0
 | .cons l _ _ _ x r, m => max (if l && decide (0 < m) then depF x (m - 1) + 1 else 0) (depF r m)
def depT (l : Bool) (x : Fo) (m : Nat) : Nat := if l && decide (0 < m) then depF x (m - 1) + 1 else 0
theorem depF_le : ∀ (f : Fo) (m : Nat), depF f m <= m
 | .nil, m => Nat.zero_le _
 | .cons l _ _ _ x r, m => by
  have h1 := depF_le x (m - 1)
  have h2 := depF_le r m
  simp only [depF]
  cases l <;> by_cases hm : 0 < m <;> simp [hm] <;> omega
theorem depT_le (l : Bool) (x : Fo) (m : Nat) : depT l x m <= m := by
 have h1 := depF_le x (m - 1)
 unfold depT
 cases l <;> by_cases hm : 0 < m <;> simp [hm]; omega
def szB (B : Nat) : Fo -> Prop
 | .nil => True
 | .cons _ _ s _ x r => s.size <= B /\ szB B x /\ szB B r
theorem depF_cons (l : Bool) (k : Int) (s : ByteArray) (a : Int) (x r : Fo) (m : Nat) : depF (.cons l k s a x r) m = max (depT l x m) (depF r m) := rfl

def Dep55 (n : Nat) : Prop := ∀ (x : Fo), x.size <= n -> ∀ (l : Bool) (k : Int) (s : ByteArray) (a : Int) (q : Option Addr) (c : Nat) (W : World) (F : Nat -> Prop) (m A : Nat), A + m = 201 -> FoIn W F x q -> x.len <= c -> x.len <= 281474976710656 →
 Calls Tryz.prog 54 #[trV l k s a q x.len c, .int .i64 (A : Int)] W fun e w' => e = .returned (.int .i64 (depT l x m : Int)) /\ Below W.heap.size W w'
set_option maxHeartbeats 3200000 in
theorem dep55_step (n : Nat) (ih : ∀ m, m < n -> Dep55 m) : Dep55 n := by
 intro x hsz l k s a q c W F m A hm hx hc hn
 have hdT : ∀ (l : Bool) (x : Fo) (m : Nat), depT l x m <= m := depT_le
 by_cases hl : l = false
 ·subst hl
  have hR : depT false x m = 0 := by simp [depT]
  rw [hR]
  clear hdT ih
  unfold trV
  go_enter Tryz.func54, Tryz.ntmps54
  go_wp2_with fail
  go_ret
  exact ⟨by simp, below1 _ _⟩
 obtain rfl : l = true := by simpa using hl
 clear hl
 by_cases hm0 : m = 0
 ·subst hm0
  have hR : depT true x 0 = 0 := by simp [depT]
  rw [hR]
  obtain rfl : A = 201 := by omega
  clear hm
  clear hdT ih
  unfold trV
  go_enter Tryz.func54, Tryz.ntmps54
  go_wp2_with fail
  go_ret
  exact ⟨by simp, below1 _ _⟩
 obtain ⟨M, rfl⟩ : ∃ M, m = M + 1 := ⟨m - 1, by omega⟩
 clear hm0
 have hR : depT true x (M + 1) = depF x M + 1 := by simp [depT]
 rw [hR]
 have hRM := depF_le x M
 obtain ⟨R, hR2⟩ : ∃ R, R = depF x M := ⟨_, rfl⟩
 rw [<- hR2] at hRM ⊢
 obtain ⟨N, hN⟩ : ∃ N, N = x.len := ⟨_, rfl⟩
 rw [<- hN] at hc hn ⊢
 have i1 : (N : Int) <= 281474976710656 := by omega
 have j1 : (M : Int) <= 1000 := by omega
 have j2 : (A : Int) <= 200 := by omega
 have j3 : ¬ (200 : Int) < (A : Int) := by omega
 have HX := Lib.hid hx
 have HI := Lib.hid (show (N = x.len /\ R = depF x M /\ x.size <= n) from ⟨hN, hR2, hsz⟩)
 have IH := Lib.hid ih
 have HDT := Lib.hid hdT
 clear hx ih hN hR hR2 hsz hdT
 unfold trV
 go_enter Tryz.func54, Tryz.ntmps54
 go_wp2_with fail
 go_loopg [5, 6, 7] N (fun gk s5 s6 s7 wx => ∃ (i : Nat) (f : Fo) (d : Nat), i + gk = N /\ s6 = .int .i64 (i : Int) /\ s5 = .int .i64 (d : Int) /\ d <= M /\ Hid (f.len = gk /\ R = max d (depF f M) /\ f.size <= x.size /\ FoIn wx F f (pl q i) /\ wx.cell? ⟨W.heap.size, 4, none⟩ = some (.slice q N c) /\ Below W.heap.size W wx))
 case atStart =>
  refine ⟨0, x, 0, by omega, rfl, rfl, by omega, Lib.hid ⟨?_, ?_, ?_, ?_, ?_, ?_⟩⟩
  ·exact HI.out.1.symm
  ·rw [HI.out.2.1]; simp
  ·exact Nat.le_refl _
  ·exact (pl_zero HX.out).later (below1 _ _)
  ·simp [go_sem]
  ·exact below1 _ _
 case round =>
  obtain ⟨i, f, d, hk, rfl, rfl, hdM, HK⟩ := hrel
  have HG := Lib.hid hk
  have hi2 : i <= N := by omega
  clear hk
  obtain ⟨wA, hwA⟩ : ∃ w, w = wr := ⟨_, rfl⟩
  subst hwA
  have i2 : (i : Int) <= (N : Int) := by omega
  have d0 : (d : Int) <= 1000 := by omega
  have d4 := HK.out.2.2.2.2.1
  by_cases hlt : i < N
  ·obtain ⟨G, rfl⟩ : ∃ G, gk = G + 1 := ⟨gk - 1, by have := HG.out; omega⟩
   have i0 : (0 : Int) <= (i : Int) := by omega
   have i3 : (i : Int) < (N : Int) := by omega
   obtain ⟨hf, hR, hsz, hx, -, hb⟩ := HK.out
   obtain ⟨b, off, rfl⟩ : ∃ b off, q = some ⟨b, off, none⟩ := HX.out.some (by rw [<- HI.out.1]; omega)
   cases f with
   | nil => simp [Fo.len] at hf
   | cons l1 k1 s1 a1 x1 r1 =>
    obtain ⟨_, e0, e1, e2, e3, ⟨q3, cc3, e4, hc3, hm3, hx3⟩, hr3⟩ := hx.head
    have hC := fun w' (h : Below wA.heap.size wA w') => IH.out x1.size (by have := HI.out.2.2; simp only [Fo.size] at hsz; omega) x1 (Nat.le_refl _) l1 k1 s1 a1 q3 cc3 w' F M (A + 1) (by omega) (hx3.later h) hc3 hm3
    have hD : depT l1 x1 M <= M := HDT.out _ _ _
    rw [depF_cons] at hR
    have HS := Lib.hid (show (r1.len = G /\ R = max d (max (depT l1 x1 M) (depF r1 M)) /\ r1.size <= x.size) from ⟨by simpa [Fo.len] using hf, hR, by simp only [Fo.size] at hsz; omega⟩)
    have HRF := Lib.hid (depF_le r1 M)
    generalize depT l1 x1 M = D at *
    generalize x1.len = n3 at *
    have d1 : (D : Int) <= 1000 := by omega
    unfold trV at hC
    have HCC := Lib.hid hC
    have HR := Lib.hid hr3
    have HBB := Lib.hid hb
    clear hf hR hsz hx hb hx3 hr3 hc3 hm3 hC HK
    have e7 : ((A + 1 : Nat) : Int) = (A : Int) + 1 := by omega
    rw [e7] at HCC
    by_cases hbr : d < D
    ·have hbr2 : (d : Int) < (D : Int) := by omega
     go_wp2_with fail
     refine (HCC.out _ (Below.refl _ _)).mono ?_
     rintro e w1 ⟨rfl, hb1⟩
     have HW := Lib.hid hb1
     have z4 : w1.cell? ⟨W.heap.size, 4, none⟩ = some (.slice (some ⟨b, off, none⟩) N c) := cell_later HW.out d4
     clear hb1
     go_wp2_with fail
     go_roundg G
     case measure => omega
     case rel =>
      obtain ⟨i', hi'⟩ : ∃ i', i' = i + 1 := ⟨_, rfl⟩
      refine ⟨i', r1, D, by have := HG.out; omega, by rw [hi']; go_num, rfl, by omega, Lib.hid ⟨HS.out.1, by have := HS.out.2.1; omega, HS.out.2.2, ?_, z4, HBB.out.trans (HW.out.mono HBB.out.size)⟩⟩
      rw [hi']; exact HR.out.later HW.out
    ·have hbr2 : ¬ (d : Int) < (D : Int) := by omega
     go_wp2_with fail
     refine (HCC.out _ (Below.refl _ _)).mono ?_
     rintro e w1 ⟨rfl, hb1⟩
     have HW := Lib.hid hb1
     have z4 : w1.cell? ⟨W.heap.size, 4, none⟩ = some (.slice (some ⟨b, off, none⟩) N c) := cell_later HW.out d4
     clear hb1
     go_wp2_with fail
     go_roundg G
     case measure => omega
     case rel =>
      obtain ⟨i', hi'⟩ : ∃ i', i' = i + 1 := ⟨_, rfl⟩
      refine ⟨i', r1, d, by have := HG.out; omega, by rw [hi']; go_num, rfl, by omega, Lib.hid ⟨HS.out.1, by have := HS.out.2.1; omega, HS.out.2.2, ?_, z4, HBB.out.trans (HW.out.mono HBB.out.size)⟩⟩
      rw [hi']; exact HR.out.later HW.out
  ·obtain rfl : i = N := by omega
   obtain rfl : gk = 0 := by have := HG.out; omega
   obtain ⟨hf, hR, -, -, -, hb⟩ := HK.out
   have hR2 : R = d := by
    cases f with
    | cons => simp [Fo.len] at hf
    | nil => rw [hR]; simp [depF]
   have HBB := Lib.hid hb
   clear hf hR hb
   subst hR2
   go_wp2_with fail
   go_ret
   exact ⟨by simp, by first | exact HBB.out | exact bdd HBB.out⟩
theorem dep55_any (n : Nat) : Dep55 n := Nat.strongRecOn n fun n ih => dep55_step n ih

theorem depth32 (l : Bool) (k : Int) (s : ByteArray) (a : Int) (q : Option Addr) (c : Nat) (x : Fo) (W : World) (F : Nat -> Prop) (hx : FoIn W F x q) (hc : x.len <= c) (hn : x.len <= 281474976710656) :
  Calls Tryz.prog 19 #[trV l k s a q x.len c] W fun e w' => e = .returned (.int .i64 (depT l x 201 : Int)) /\ Below W.heap.size W w' := by
 have h := dep55_any x.size x (Nat.le_refl _) l k s a q c (W.alloc (.cells #[.bool l, .int .u8 k, .string s, .int .i64 a, .slice q x.len c] 35)) F 201 0 (by omega) (hx.later (below1 _ _)) hc hn
 unfold trV at h ⊢
 have H := Lib.hid h
 clear h
 go_enter Tryz.func19, Tryz.ntmps19
 go_wp2_with fail
 refine H.out.mono ?_
 rintro e w1 ⟨rfl, hb1⟩
 have HW := Lib.hid ((below1 W _).trans (hb1.mono (by simp)))
 clear hb1
 go_wp2_with fail
 go_ret
 exact ⟨rfl, HW.out⟩
def twF : Fo -> Nat
 | .nil => 0
 | .cons _ _ s _ x r => (1 + s.size / 8 + twF x) + twF r
def twT (s : ByteArray) (x : Fo) : Nat := 1 + s.size / 8 + twF x
theorem twF_size : ∀ f : Fo, f.size <= twF f
 | .nil => Nat.le_refl _
 | .cons _ _ s _ x r => by
  have h1 := twF_size x
  have h2 := twF_size r
  simp only [Fo.size, twF]; omega
theorem len_size : ∀ f : Fo, f.len <= f.size
 | .nil => Nat.le_refl _
 | .cons _ _ _ _ x r => by have := len_size r; simp only [Fo.len, Fo.size]; omega
def SizeP (n : Nat) : Prop := ∀ (x : Fo), x.size <= n -> szB 140737488351232 x -> ∀ (l : Bool) (k : Int) (s : ByteArray) (a : Int) (q : Option Addr) (c : Nat) (W : World) (F : Nat -> Prop) (M : Nat), M <= 5001 -> s.size <= 140737488351232 -> FoIn W F x q -> x.len <= c -> x.len <= 281474976710656 →
 Calls Tryz.prog 18 #[trV l k s a q x.len c, .int .i64 (M : Int)] W fun e w' => ∃ r : Nat, e = .returned (.int .i64 (r : Int)) /\ r <= M + 17592186043905 /\ (r < M -> r = twT s x) /\ Below W.heap.size W w'
set_option maxHeartbeats 3200000 in
theorem size48_step (n : Nat) (ih : ∀ m, m < n -> SizeP m) : SizeP n := by
 intro x hsz hzb l k s a q c W F M hM hs hx hc hn
 obtain ⟨N, hN⟩ : ∃ N, N = x.len := ⟨_, rfl⟩
 rw [<- hN] at hc hn ⊢
 have i1 : (N : Int) <= 281474976710656 := by omega
 have m1 : (M : Int) <= 5001 := by omega
 have hq : (s.size : Int).tdiv 8 = ((s.size / 8 : Nat) : Int) := by
  simp
 obtain ⟨S8, hS8⟩ : ∃ S8, S8 = s.size / 8 := ⟨_, rfl⟩
 rw [<- hS8] at hq
 have s1 : (S8 : Int) <= 17592186043904 := by omega
 have s2 : (s.size : Int) <= 140737488351232 := by omega
 have HX := Lib.hid hx
 have HI := Lib.hid (show (N = x.len /\ x.size <= n /\ szB 140737488351232 x /\ S8 = s.size / 8) from ⟨hN, hsz, hzb, hS8⟩)
 have IH := Lib.hid ih
 clear hx ih hN hsz hzb hS8
 unfold trV
 go_enter Tryz.func18, Tryz.ntmps18
 go_wp2_with fail
 go_loopg [5, 6] N (fun gk s5 s6 wx => ∃ (i : Nat) (f : Fo) (d : Nat), i + gk = N /\ s6 = .int .i64 (i : Int) /\ s5 = .int .i64 (d : Int) /\ d <= M + 17592186043905 /\ Hid (f.len = gk /\ (d < M -> d + twF f = 1 + S8 + twF x) /\ (M <= d \/ d + twF f = 1 + S8 + twF x) /\ f.size <= x.size /\ szB 140737488351232 f /\ FoIn wx F f (pl q i) /\ wx.cell? ⟨W.heap.size, 4, none⟩ = some (.slice q N c) /\ Below W.heap.size W wx))
 case atStart =>
  refine ⟨0, x, 1 + S8, by omega, rfl, by first | (simp; done) | (congr 1; omega), by omega, Lib.hid ⟨HI.out.1.symm, fun _ => rfl, .inr rfl, Nat.le_refl _, HI.out.2.2.1, (pl_zero HX.out).later (below1 _ _), by simp [go_sem], below1 _ _⟩⟩
 case round =>
  obtain ⟨i, f, d, hk, rfl, rfl, hdM, HK⟩ := hrel
  have HG := Lib.hid hk
  have hi2 : i <= N := by omega
  clear hk
  obtain ⟨wA, hwA⟩ : ∃ w, w = wr := ⟨_, rfl⟩
  subst hwA
  have i2 : (i : Int) <= (N : Int) := by omega
  have d0 : (d : Int) <= 17592186048906 := by omega
  have d4 := HK.out.2.2.2.2.2.2.1
  by_cases hlt : i < N
  ·have i0 : (0 : Int) <= (i : Int) := by omega
   have i3 : (i : Int) < (N : Int) := by omega
   by_cases hdl : d < M
   ·have d5 : (d : Int) < (M : Int) := by omega
    obtain ⟨G, rfl⟩ : ∃ G, gk = G + 1 := ⟨gk - 1, by have := HG.out; omega⟩
    obtain ⟨hf, hR, hR2, hsz, hfz, hx, -, hb⟩ := HK.out
    obtain ⟨b, off, rfl⟩ : ∃ b off, q = some ⟨b, off, none⟩ := HX.out.some (by rw [<- HI.out.1]; omega)
    cases f with
    | nil => simp [Fo.len] at hf
    | cons l1 k1 s1' a1 x1 r1 =>
     obtain ⟨_, e0, e1, e2, e3, ⟨q3, cc3, e4, hc3, hm3, hx3⟩, hr3⟩ := hx.head
     obtain ⟨MM, hMM⟩ : ∃ MM, MM = M - d := ⟨_, rfl⟩
     have hC := IH.out x1.size (by have := HI.out.2.1; simp only [Fo.size] at hsz; omega) x1 (Nat.le_refl _) hfz.2.1 l1 k1 s1' a1 q3 cc3 wA F MM (by omega) hfz.1 hx3 hc3 hm3
     have hMI : ((MM : Nat) : Int) = (M : Int) - (d : Int) := by omega
     rw [hMI] at hC
     have HS := Lib.hid (show (r1.len = G /\ (d < M -> d + (twT s1' x1 + twF r1) = 1 + S8 + twF x) /\ r1.size <= x.size /\ szB 140737488351232 r1 /\ MM = M - d) from ⟨by simpa [Fo.len] using hf, hR, by simp only [Fo.size] at hsz; omega, hfz.2.2, hMM⟩)
     generalize x1.len = n3 at *
     unfold trV at hC
     have HCC := Lib.hid hC
     have HR := Lib.hid hr3
     have HBB := Lib.hid hb
     clear hf hR hR2 hsz hfz hx hb hx3 hr3 hc3 hm3 hC HK hMI hMM
     go_wp2_with fail
     refine HCC.out.mono ?_
     rintro e w1 ⟨r, rfl, hr1, hr2, hb1⟩
     have HW := Lib.hid hb1
     have HRR := Lib.hid (And.intro hr1 hr2)
     have r5 : (r : Int) <= 17592186048906 := by have := HS.out; omega
     have z4 : w1.cell? ⟨W.heap.size, 4, none⟩ = some (.slice (some ⟨b, off, none⟩) N c) := cell_later HW.out d4
     clear hb1 hr1 hr2
     go_wp2_with fail
     go_roundg G
     case measure => omega
     case rel =>
      obtain ⟨i', hi'⟩ : ∃ i', i' = i + 1 := ⟨_, rfl⟩
      obtain ⟨d', hd'⟩ : ∃ d', d' = d + r := ⟨_, rfl⟩
      have h1 := HRR.out
      have h2 := HS.out
      have hlow : d' < M -> d' + twF r1 = 1 + S8 + twF x := fun h => by
       have h3 := h1.2 (by omega)
       have h4 := h2.2.1 hdl
       omega
      refine ⟨i', r1, d', by have := HG.out; omega, by rw [hi']; go_num, by rw [hd']; first | (simp; done) | (congr 1; omega), by omega, Lib.hid ⟨h2.1, hlow, ?_, h2.2.2.1, h2.2.2.2.1, ?_, z4, HBB.out.trans (HW.out.mono HBB.out.size)⟩⟩
      ·rcases Nat.lt_or_ge d' M with h | h
       ·exact .inr (hlow h)
       ·exact .inl h
      ·rw [hi']; exact HR.out.later HW.out
   ·have d5 : ¬ (d : Int) < (M : Int) := by omega
    have d6 : decide ((d : Int) < (M : Int)) = false := by simpa using d5
    obtain ⟨-, -, -, -, -, -, -, hb⟩ := HK.out
    have HBB := Lib.hid hb
    clear hb HK
    go_wp2_with fail
    go_ret
    exact ⟨d, rfl, hdM, fun h => absurd h hdl, HBB.out⟩
  ·obtain rfl : i = N := by omega
   obtain rfl : gk = 0 := by have := HG.out; omega
   obtain ⟨hf, hR, -, -, -, -, -, hb⟩ := HK.out
   obtain rfl := fo_len_zero hf
   have HBB := Lib.hid (And.intro hb hR)
   clear hf hR hb HK
   go_wp2_with fail
   go_ret
   refine ⟨d, rfl, hdM, fun h => ?_, HBB.out.1⟩
   have := HBB.out.2 h
   have h2 := HI.out.2.2.2
   simp only [twF] at this
   unfold twT
   omega
theorem size48 (n : Nat) : SizeP n := Nat.strongRecOn n fun n ih => size48_step n ih
theorem twF_ln : ∀ f : Fo, twF f <= 1000000000 -> LnOK f
 | .nil, _ => trivial
 | .cons l k s a x r, h => by
  have h1 : twT s x + twF r <= 1000000000 := h
  have h2 := len_size x
  have h3 := twF_size x
  have h4 : twT s x = 1 + s.size / 8 + twF x := rfl
  exact ⟨by omega, twF_ln x (by omega), twF_ln r (by omega)⟩
theorem szB_tx : ∀ f : Fo, szB 140737488351232 f -> TxOK f
 | .nil, _ => trivial
 | .cons _l _k _s _a x r, h => ⟨h.1, szB_tx x h.2.1, szB_tx r h.2.2⟩
def stC (y : Stp) (p : Option Addr) (c : Nat) (q : Option Addr) (d : Nat) : List Value := [.int .u8 y.k, .slice p y.lits.length c, .slice q y.links.length d, .int .i64 y.a, .int .i64 y.b]
def RowY (W : World) (F : Nat -> Prop) : List Stp -> List Value -> Prop
 | [], xs => xs = []
 | y :: r, xs => ∃ p c q d ys, xs = stC y p c q d ++ ys /\ OwnI 44 W F (.slice p y.lits.length c) y.lits /\ OwnK W F (.slice q y.links.length d) y.links /\ RowY W F r ys
theorem RowY.only {W W' : World} {F T : Nat -> Prop} (ho : Only T W W') (hn : ∀ b, F b -> ¬ T b) : ∀ (l : List Stp) (xs : List Value), RowY W F l xs -> RowY W' F l xs
 | [], _, h => h
 | y :: r, xs, h => by
  obtain ⟨p, c, q, d, ys, e, h1, h2, h3⟩ := h
  exact ⟨p, c, q, d, ys, e, h1.only ho hn, h2.only ho hn, RowY.only ho hn r ys h3⟩
theorem RowY.mono {W : World} {F F' : Nat -> Prop} (hF : ∀ b, F b -> b < W.heap.size -> F' b) : ∀ (l : List Stp) (xs : List Value), RowY W F l xs -> RowY W F' l xs
 | [], _, h => h
 | y :: r, xs, h => by
  obtain ⟨p, c, q, d, ys, e, h1, h2, h3⟩ := h
  exact ⟨p, c, q, d, ys, e, h1.mono hF, h2.mono hF, RowY.mono hF r ys h3⟩
theorem RowY.snoc {W : World} {F : Nat -> Prop} {y : Stp} {p : Option Addr} {c : Nat} {q : Option Addr} {d : Nat} (h1 : OwnI 44 W F (.slice p y.lits.length c) y.lits) (h2 : OwnK W F (.slice q y.links.length d) y.links) : ∀ (l : List Stp) (xs : List Value), RowY W F l xs -> RowY W F (l ++ [y]) (xs ++ stC y p c q d)
 | [], xs, h => by
  obtain rfl : xs = [] := h
  exact ⟨p, c, q, d, [], by simp, h1, h2, rfl⟩
 | z :: r, xs, h => by
  obtain ⟨p0, c0, q0, d0, ys, rfl, g1, g2, g3⟩ := h
  exact ⟨p0, c0, q0, d0, ys ++ stC y p c q d, by simp, g1, g2, RowY.snoc h1 h2 r ys g3⟩
theorem RowY.at {W : World} {F : Nat -> Prop} : ∀ (l : List Stp) (xs : List Value), RowY W F l xs -> ∀ i (hi : i < l.length), ∃ p c q d, (∀ j u, (stC l[i] p c q d)[j]? = some u -> xs[i * 5 + j]? = some u) /\ OwnI 44 W F (.slice p l[i].lits.length c) l[i].lits /\ OwnK W F (.slice q l[i].links.length d) l[i].links
 | [], _, _, i, hi => absurd hi (Nat.not_lt_zero i)
 | y :: r, xs, h, i, hi => by
  obtain ⟨p, c, q, d, ys, rfl, h1, h2, h3⟩ := h
  cases i with
  | zero =>
   refine ⟨p, c, q, d, fun j u hu => ?_, h1, h2⟩
   replace hu : (stC y p c q d)[j]? = some u := hu
   have hj := (List.getElem?_eq_some_iff.1 hu).1
   rw [Nat.zero_mul, Nat.zero_add, List.getElem?_append_left hj]
   exact hu
  | succ i =>
   obtain ⟨p', c', q', d', e, g1, g2⟩ := RowY.at r ys h3 i (by simpa using hi)
   refine ⟨p', c', q', d', fun j u hu => ?_, g1, g2⟩
   have ee : (i + 1) * 5 + j = 5 + (i * 5 + j) := by omega
   rw [ee, List.getElem?_append_right (by simp [stC])]
   simpa [stC] using e j u hu
structure OwnY (W : World) (F : Nat -> Prop) (v : Value) (l : List Stp) : Prop where
 has : ∃ xs, W.ownsRow 0 26 5 v l.length xs /\ RowY W (fun b => F b /\ v.ownBlock ≠ some b) l xs
 blk : ∀ k, v.ownBlock = some k -> F k /\ k < W.heap.size
theorem OwnY.nil (W : World) (F : Nat -> Prop) : OwnY W F (.slice none 0 0) [] := ⟨⟨[], ⟨rfl, Or.inl ⟨rfl, rfl⟩⟩, rfl⟩, fun k hk => by cases hk⟩
theorem OwnY.only {W W' : World} {F T : Nat -> Prop} {v : Value} {l : List Stp} (h : OwnY W F v l) (ho : Only T W W') (hn : ∀ b, F b -> ¬ T b) : OwnY W' F v l := by
 obtain ⟨⟨xs, h1, h2⟩, h3⟩ := h
 exact ⟨⟨xs, own_only h1 ho (fun k hk => hn k (h3 k hk).1), RowY.only ho (fun b hb => hn b hb.1) l xs h2⟩, fun k hk => ⟨(h3 k hk).1, Nat.lt_of_lt_of_le (h3 k hk).2 ho.size⟩⟩
theorem OwnY.later {W W' : World} {F : Nat -> Prop} {v : Value} {l : List Stp} (h : OwnY W F v l) (hb : Below W.heap.size W W') : OwnY W' F v l :=
 h.only (Only.of_below (T := fun _ => False) hb) (fun _ _ h => h)
theorem OwnY.mono {W : World} {F F' : Nat -> Prop} {v : Value} {l : List Stp} (h : OwnY W F v l) (hn : ∀ b, F b -> b < W.heap.size -> F' b) : OwnY W F' v l := by
 obtain ⟨⟨xs, h1, h2⟩, h3⟩ := h
 exact ⟨⟨xs, h1, RowY.mono (fun b hb hl => ⟨hn b hb.1 hl, hb.2⟩) l xs h2⟩, fun k hk => ⟨hn k (h3 k hk).1 (h3 k hk).2, (h3 k hk).2⟩⟩
theorem OwnY.shape {W : World} {F : Nat -> Prop} {v : Value} {l : List Stp} (h : OwnY W F v l) : ∃ q c, v = .slice q l.length c /\ (0 < l.length -> ∃ g, q = some ⟨g, 0, none⟩) := by
 obtain ⟨⟨xs, h1, h2⟩, h3⟩ := h
 obtain ⟨q, c, rfl, hq⟩ := own_shape h1
 refine ⟨q, c, rfl, fun hl => ?_⟩
 rcases h1.2 with ⟨e, e2⟩ | ⟨g, cap, cur, e, _⟩
 ·omega
 ·injection e with e3 e4 e5
  exact ⟨g, e3⟩
theorem OwnY.at {W : World} {F : Nat -> Prop} {g n c : Nat} {l : List Stp} (h : OwnY W F (.slice (some ⟨g, 0, none⟩) n c) l) (i : Nat) (hi : i < l.length) : ∃ p c' q d, W.cell? ⟨g, i * 5, none⟩ = some (.int .u8 l[i].k) /\ W.cell? ⟨g, i * 5 + 1, none⟩ = some (.slice p l[i].lits.length c') /\ W.cell? ⟨g, i * 5 + 2, none⟩ = some (.slice q l[i].links.length d) /\ W.cell? ⟨g, i * 5 + 3, none⟩ = some (.int .i64 l[i].a) /\ W.cell? ⟨g, i * 5 + 4, none⟩ = some (.int .i64 l[i].b) /\ OwnI 44 W F (.slice p l[i].lits.length c') l[i].lits /\ OwnK W F (.slice q l[i].links.length d) l[i].links := by
 obtain ⟨⟨xs, h1, h2⟩, h3⟩ := h
 obtain ⟨p, c', q, d, e, g1, g2⟩ := RowY.at l xs h2 i hi
 have hn : n = l.length := by
  obtain ⟨q', c'', e', _⟩ := own_shape h1
  injection e'
 subst hn
 exact ⟨p, c', q, d, (own_cellN h1 _ _ (e 0 _ rfl)).1, (own_cellN h1 _ _ (e 1 _ rfl)).1, (own_cellN h1 _ _ (e 2 _ rfl)).1, (own_cellN h1 _ _ (e 3 _ rfl)).1, (own_cellN h1 _ _ (e 4 _ rfl)).1, g1.mono (fun b hb _ => hb.1), g2.mono (fun b hb _ => hb.1)⟩
def Z26 : Value := .agg #[.int .u8 0, .slice none 0 0, .slice none 0 0, .int .i64 0, .int .i64 0]
theorem info26 : ∃ i0, Tryz.prog.info? 26 = some i0 /\ i0.zero = some Z26 /\ i0.size = 5 /\ i0.bytes = 72 := info_of (by kernel_rfl)
section
variable {w : World} {ops : Array Oper} {rest : List Oper} {o : Oper} {a : Act} {Q : Exit -> Act -> World -> Prop} {K : Act -> World -> Prop}
theorem wp_push_step (s x : Operand) (ho : o.op = .call { callee := .builtin .append, args := #[s, x], argTypes := #[47, 47] })
  (F G : Nat -> Prop) (B : Nat) (v : Value) (l : List Stp) (y : Stp) (p : Option Addr) (c : Nat) (q : Option Addr) (d : Nat)
  (hs : a.eval s = v) (hx : a.eval x = .slice (some ⟨B, 0, none⟩) 1 1) (own : OwnY w F v l) (hb : StAt w B y p c q d) (h1 : OwnI 44 w G (.slice p y.lits.length c) y.lits) (h2 : OwnK w G (.slice q y.links.length d) y.links)
  (hG : ∀ b, G b -> b < w.heap.size -> F b /\ v.ownBlock ≠ some b) (hnew : F w.heap.size) (hf : l.length <= 1000000000)
  (h : ∀ p' c' w', OwnY w' F (.slice p' (l.length + 1) c') (l ++ [y]) -> Only (fun j => v.ownBlock = some j) w w' -> K (a.put o.dst (.slice p' (l.length + 1) c')) w') : o.wp Tryz.prog a w K Q := by
 obtain ⟨⟨xs, ho1, hrw⟩, hbk⟩ := own
 obtain ⟨i0, hi, hz0, hz1, hz2⟩ := info26
 refine wp_append_own_at s x 47 ho 0 26 i0 Z26 5 72 Tryz.underlying47 hi hz0 hz1 hz2 rfl (by omega) v l.length xs hs ho1 ⟨B, 0, none⟩ 1 1 (stC y p c q d) hx (by rfl) ?_ ?_ ?_ ?_ (Nat.zero_le _) ?_
 ·intro jj u hjj
  rw [Lib.add_plain]
  match jj, hjj with
  | 0, hjj => cases hjj; exact hb.c0
  | 1, hjj => cases hjj; exact hb.c1
  | 2, hjj => cases hjj; exact hb.c2
  | 3, hjj => cases hjj; exact hb.c3
  | 4, hjj => cases hjj; exact hb.c4
 ·intro u hu; simp [stC] at hu; rcases hu with rfl | rfl | rfl | rfl | rfl <;> rfl
 ·have hml : maxLen = 9223372036854775807 := rfl
  omega
 ·omega
 intro v8 w8 hown hgrow hnil_ hloc
 obtain ⟨p8, c8, hv8, hA_⟩ := own_shape hown
 have ho8 := Only.of_grown hgrow
 subst hv8
 refine h p8 c8 w8 ⟨⟨xs ++ stC y p c q d, by rw [List.length_append]; exact hown, ?_⟩, fun j hj => ⟨?_, (own_lt hown hj).2⟩⟩ ho8
 ·have hr := RowY.snoc (h1.mono hG) (h2.mono hG) l xs hrw
  refine RowY.mono (fun b hb hlt => hb) _ _ (RowY.only (F := fun b => F b /\ (Value.slice p8 (l.length + 1) c8).ownBlock ≠ some b /\ v.ownBlock ≠ some b) ho8 (fun b hb e => hb.2.2 e) _ _ (RowY.mono (fun b hb hlt => ⟨hb.1, fun e => ?_, hb.2⟩) _ _ hr)) |> RowY.mono (fun b hb _ => ⟨hb.1, hb.2.1⟩) _ _
  rcases hloc with h | h
  ·exact hb.2 (h ▸ e)
  ·rw [h] at e; injection e with e; omega
 ·rcases hloc with h | h
  ·exact (hbk j (h ▸ hj)).1
  ·rw [h] at hj; injection hj with hj; exact hj ▸ hnew
theorem wpList_push_step (hgd : o.guard = none) (s x : Operand) (ho : o.op = .call { callee := .builtin .append, args := #[s, x], argTypes := #[47, 47] })
  (F G : Nat -> Prop) (B : Nat) (v : Value) (l : List Stp) (y : Stp) (p : Option Addr) (c : Nat) (q : Option Addr) (d : Nat)
  (hs : a.eval s = v) (hx : a.eval x = .slice (some ⟨B, 0, none⟩) 1 1) (own : OwnY w F v l) (hb : StAt w B y p c q d) (h1 : OwnI 44 w G (.slice p y.lits.length c) y.lits) (h2 : OwnK w G (.slice q y.links.length d) y.links)
  (hG : ∀ b, G b -> b < w.heap.size -> F b /\ v.ownBlock ≠ some b) (hnew : F w.heap.size) (hf : l.length <= 1000000000)
  (h : ∀ p' c' w', OwnY w' F (.slice p' (l.length + 1) c') (l ++ [y]) -> Only (fun j => v.ownBlock = some j) w w' -> wpList Tryz.prog ops Q rest (a.put o.dst (.slice p' (l.length + 1) c')) w') : wpList Tryz.prog ops Q (o :: rest) a w :=
 wpList_plain hgd fun _ hK => wp_push_step s x ho F G B v l y p c q d hs hx own hb h1 h2 hG hnew hf (fun p' c' w' h1 h2 => hK _ _ (h p' c' w' h1 h2))
end
end Go.Proofs.YtookoagcmejkpaaGreatDoor
namespace Go.Proofs.YtookoagcmejkpaaGreatDoor
set_option maxRecDepth 100000
open Go Go.RowKit Go.Maps
def allT : Fo -> Option (List Stp)
 | .nil => some []
 | .cons l k s _ x r => match readT l k s x with
  | none => none
  | some y => match allT r with
   | none => none
   | some t => some (y :: t)
theorem allT_app : ∀ (f g : Fo) (t : List Stp), allT f = some t -> allT (f.app g) = match allT g with | none => none | some u => some (t ++ u)
 | .nil, g, t, h => by
  cases h
  simp only [Fo.app, List.nil_append]
  cases allT g <;> rfl
 | .cons l k s a x r, g, t, h => by
  simp only [allT] at h
  cases h1 : readT l k s x with
  | none => rw [h1] at h; cases h
  | some y =>
   rw [h1] at h
   simp only at h
   cases h2 : allT r with
   | none => rw [h2] at h; cases h
   | some u =>
    rw [h2] at h
    cases h
    simp only [Fo.app, allT, h1, allT_app r g u h2]
    cases allT g <;> rfl
theorem allT_len : ∀ (f : Fo) (t : List Stp), allT f = some t -> t.length = f.len
 | .nil, t, h => by cases h; rfl
 | .cons l k s a x r, t, h => by
  simp only [allT] at h
  cases h1 : readT l k s x with
  | none => rw [h1] at h; cases h
  | some y =>
   rw [h1] at h
   simp only at h
   cases h2 : allT r with
   | none => rw [h2] at h; cases h
   | some u =>
    rw [h2] at h
    cases h
    simp [Fo.len, allT_len r u h2]
def readA (l : Bool) (k : Int) (s : ByteArray) (x : Fo) : Option (List Stp) := if l = true /\ k = 1 /\ s = ⟨#[40]⟩ then allT x else none
def ReadAR (W w' : World) (e : Ending) (r : Option (List Stp)) : Prop :=
 (match r with
 | none => e = .returned (.tuple #[.slice none 0 0, .int .i64 5])
 | some t => ∃ p c, e = .returned (.tuple #[.slice p t.length c, .int .i64 0]) /\ OwnY w' (fun b => W.heap.size <= b) (.slice p t.length c) t) /\ Below W.heap.size W w'
set_option maxHeartbeats 6400000 in
theorem readAll21 (l : Bool) (k : Int) (s : ByteArray) (a0 : Int) (x : Fo) (q : Option Addr) (c : Nat) (F : Nat -> Prop) (W : World) (hq : FoIn W F x q) (_hc : x.len <= c) (hl : x.len <= 1000000000) (hx : TxOK x) (hln : LnOK x) (htab : PowTab W) :
  Calls Tryz.prog 21 #[trV l k s a0 q x.len c] W fun e w' => ReadAR W w' e (readA l k s x) := by
 obtain ⟨N, hN⟩ : ∃ N, N = x.len := ⟨_, rfl⟩
 have HN := Lib.hid hN
 obtain ⟨F1, hF1⟩ : ∃ F1 : Nat -> Prop, F1 = fun b => F b /\ b < W.heap.size := ⟨_, rfl⟩
 have hq1 : FoIn W F1 x q := by rw [hF1]; exact hq.mono (fun b hb hl => ⟨hb, hl⟩)
 have HF1 := Lib.hid (show ∀ b, F1 b -> b < W.heap.size from fun b hb => by rw [hF1] at hb; exact hb.2)
 have HQ := Lib.hid (And.intro hq1 (And.intro hx hln))
 obtain ⟨R, hR⟩ : ∃ R, R = readA l k s x := ⟨_, rfl⟩
 have HR := Lib.hid hR
 rw [<- hR]
 rw [<- hN] at _hc hl ⊢
 have n1 : (N : Int) <= 1000000000 := by omega
 have HTB := Lib.hid htab
 clear htab
 clear hF1 hq1 hq hx hln _hc hN hR
 have hbx := box_new W l k s a0 (.slice q N c)
 have HB1 := Lib.hid (below1 W (.cells #[.bool l, .int .u8 k, .string s, .int .i64 a0, .slice q N c] 35))
 obtain ⟨y0, y1, y2, y3, y4, yf⟩ := hbx
 by_cases hbad : ¬ (l = true /\ k = 1 /\ s = ⟨#[40]⟩)
 ·have hR0 : R = none := by rw [HR.out, readA, if_neg hbad]
  subst hR0
  unfold trV
  cases l with
  | false =>
   clear hbad
   go_enter Tryz.func21, Tryz.ntmps21
   go_wp2_with fail
   exact bodyPost_ret (v := .tuple #[.slice none 0 0, .int .i64 5]) (by simp [results, Tryz.results21, go_sem]) rfl ⟨rfl, HB1.out⟩
  | true =>
   by_cases hk : k = 1
   ·have hs : s ≠ ⟨#[40]⟩ := fun e => hbad ⟨rfl, hk, e⟩
    subst hk
    have t1 : (s.toList == [40]) = false := beq_eq_false_iff_ne.2 (fun e => hs (toList_byte (e.trans (by rw [ByteArray.toList_eq]))))
    have t2 : (s.toList != [40]) = true := by simp only [bne, t1]; rfl
    have t3 : ¬ s.toList = [40] := by simpa using t1
    clear hbad hs
    go_enter Tryz.func21, Tryz.ntmps21
    go_wp2_with fail
    exact bodyPost_ret (v := .tuple #[.slice none 0 0, .int .i64 5]) (by simp [results, Tryz.results21, go_sem]) rfl ⟨rfl, HB1.out⟩
   ·have hk2 : (k == 1) = false := by simp [hk]
    have hk3 : (k != 1) = true := by simp [hk]
    clear hbad hk
    go_enter Tryz.func21, Tryz.ntmps21
    go_wp2_with fail
    exact bodyPost_ret (v := .tuple #[.slice none 0 0, .int .i64 5]) (by simp [results, Tryz.results21, go_sem]) rfl ⟨rfl, HB1.out⟩
 have hgood : l = true /\ k = 1 /\ s = ⟨#[40]⟩ := by
  by_cases h : l = true /\ k = 1 /\ s = ⟨#[40]⟩
  ·exact h
  ·exact absurd h hbad
 have hR1 : R = allT x := by rw [HR.out, readA, if_pos hgood]
 clear HR
 have HR := Lib.hid hR1
 obtain ⟨rfl, rfl, hs⟩ := hgood
 have t1 : (s.toList == [40]) = true := by rw [beq_iff_eq, hs, ByteArray.toList_eq]
 have t2 : (s.toList != [40]) = false := by simp only [bne, t1]; rfl
 have t3 : s.toList = [40] := by simpa using t1
 have HBX := Lib.hid (show BoxT (W.alloc (.cells #[.bool true, .int .u8 1, .string s, .int .i64 a0, .slice q N c] 35)) W.heap.size true 1 s a0 (.slice q N c) from box_new W true 1 s a0 (.slice q N c))
 have hfo := Lib.hid (HQ.out.1.later HB1.out)
 obtain ⟨w1, hw1⟩ : ∃ w1, w1 = W.alloc (.cells #[.bool true, .int .u8 1, .string s, .int .i64 a0, .slice q N c] 35) := ⟨_, rfl⟩
 have HW1 := Lib.hid hw1
 rw [<- hw1] at HB1 HBX hfo
 have HSZ1 := Lib.hid (show w1.heap.size = W.heap.size + 1 from by rw [hw1]; simp)
 clear hbad hR1 hw1 hs
 unfold trV
 go_enter Tryz.func21, Tryz.ntmps21
 go_wp2_with fail
 rw [<- HW1.out]
 clear HW1 y0 y1 y2 y3 y4 yf t1 t2 t3
 go_loopg [4, 27] N (fun gk s4 s5 wx => ∃ (m : Nat) (p4 : Option Addr) (c4 : Nat), m + gk = N /\ s4 = .slice p4 m c4 /\ s5 = .int .i64 (m : Int) /\ Hid (∃ (pre g : Fo) (t : List Stp), x = pre.app g /\ pre.len = m /\ allT pre = some t /\ TxOK g /\ LnOK g /\ FoIn wx F1 g (pl q m) /\ OwnY wx (fun b => W.heap.size + 1 <= b) (.slice p4 m c4) t /\ BoxT wx W.heap.size true 1 s a0 (.slice q N c) /\ Below W.heap.size W wx))
 case atStart => exact ⟨0, none, 0, by omega, rfl, rfl, Lib.hid ⟨.nil, x, [], rfl, rfl, rfl, HQ.out.2.1, HQ.out.2.2, pl_zero hfo.out, OwnY.nil _ _, HBX.out, HB1.out⟩⟩
 case round =>
  obtain ⟨m, p4, c4, hk, rfl, rfl, HR0⟩ := hrel
  obtain ⟨pre, g, t, hfg, hpl, hat, htx, hlo, hg, hown, hbx, hbl⟩ := HR0.out
  clear HR0 HBX hfo
  have k0 : (0 : Int) <= (m : Int) := Int.natCast_nonneg m
  have hlen : pre.len + g.len = N := by rw [HN.out, hfg, Fo.len_app]
  have htl : t.length = m := by rw [allT_len pre t hat, hpl]
  have HTL := Lib.hid htl
  cases g with
  | nil =>
   have hlt : ¬ (m : Int) < (N : Int) := by simp [Fo.len] at hlen; omega
   rw [Fo.app_nil] at hfg
   have hr0 : R = some t := by rw [HR.out, hfg, hat]
   subst hr0
   have HF := Lib.hid (And.intro (hown.mono (F' := fun b => W.heap.size <= b) (fun b hb _ => by omega)) hbl)
   obtain ⟨y0, y1, y2, y3, y4, yf⟩ := hbx
   clear hk hpl hat htx hlo hg hown hbl hlen hfg htl
   go_wp2_with fail
   exact bodyPost_ret (v := .tuple #[.slice p4 m c4, .int .i64 0]) (by simp [results, Tryz.results21, go_sem]) rfl ⟨⟨p4, c4, by rw [HTL.out], by rw [HTL.out]; exact HF.out.1⟩, HF.out.2⟩
  | cons l1 k1 s1 a1 x1 r =>
   have hkn : m < N := by simp [Fo.len] at hlen; omega
   have k1' : (m : Int) < (N : Int) := Int.ofNat_lt.2 hkn
   obtain ⟨bq, oq, hqe⟩ : ∃ bq oq, q = some ⟨bq, oq, none⟩ := HQ.out.1.some (by rw [<- HN.out]; omega)
   subst hqe
   obtain ⟨hFq, c0, c1, c2, c3, ⟨q4, d4, c4', hl4, hm4, hq4⟩, hr⟩ := hg.head
   have HS := Lib.hid (step_ok hkn (show N <= 9223372036854775807 from by omega))
   have HG := Lib.hid (And.intro hown (And.intro hbx (And.intro hbl (And.intro hr (And.intro htx hlo)))))
   have HFG := Lib.hid (And.intro hfg (And.intro hpl (And.intro hat (And.intro hk hkn))))
   obtain ⟨w2, hw2⟩ : ∃ w2, w2 = wr.alloc (.cells #[.bool l1, .int .u8 k1, .string s1, .int .i64 a1, .slice q4 x1.len d4] 35) := ⟨_, rfl⟩
   have HB2 := Lib.hid (show Below wr.heap.size wr w2 from by rw [hw2]; exact below1 _ _)
   have HW2 := Lib.hid hw2
   have HC := Lib.hid (read16 l1 k1 s1 a1 x1 q4 d4 F1 w2 (hq4.later HB2.out) hl4 hlo.1 htx.2.1 hlo.2.1 (tabIs_below HTB.out (hbl.trans (HB2.out.mono hbl.size))))
   obtain ⟨R1, hR1⟩ : ∃ R1, R1 = readT l1 k1 s1 x1 := ⟨_, rfl⟩
   have HR1 := Lib.hid hR1
   rw [<- hR1] at HC
   obtain ⟨y0, y1, y2, y3, y4, yf⟩ := hbx
   obtain ⟨G, rfl⟩ : ∃ G, gk = G + 1 := ⟨gk - 1, by omega⟩
   unfold trV at HC
   clear hk hfg hpl hat htx hlo hg hown hbl hlen hkn hl4 hm4 hq4 hr hFq hR1 htl hw2
   go_wp2_with fail
   rw [<- HW2.out]
   refine HC.out.mono ?_
   intro e w3 hrr
   clear HC c0 c1 c2 c3 c4' y0 y1 y2 y3 y4 yf
   cases R1 with
   | none =>
    obtain ⟨rfl, hb3⟩ := hrr
    have hr0 : R = none := by rw [HR.out, HFG.out.1, allT_app _ _ _ HFG.out.2.2.1]; simp only [allT, <- HR1.out]
    subst hr0
    have HB3 := Lib.hid (HG.out.2.2.1.trans ((HB2.out.trans (hb3.mono HB2.out.size)).mono HG.out.2.2.1.size))
    clear hb3
    unfold stV
    go_wp2_with fail
    exact bodyPost_ret (v := .tuple #[.slice none 0 0, .int .i64 5]) (by simp [results, Tryz.results21, go_sem]) rfl ⟨rfl, HB3.out.alloc HB3.out.size _⟩
   | some y =>
    obtain ⟨⟨pp, cc, qq, dd, rfl, hoi, hok⟩, hb3⟩ := hrr
    have HB3 := Lib.hid (HB2.out.trans (hb3.mono HB2.out.size))
    obtain ⟨w4, hw4⟩ : ∃ w4, w4 = w3.alloc (.cells #[.int .u8 y.k, .slice pp y.lits.length cc, .slice qq y.links.length dd, .int .i64 y.a, .int .i64 y.b] 26) := ⟨_, rfl⟩
    have HB4 := Lib.hid (show Below w3.heap.size w3 w4 from by rw [hw4]; exact below1 _ _)
    obtain ⟨w5, hw5⟩ : ∃ w5, w5 = w4.alloc (.cells #[.int .u8 y.k, .slice pp y.lits.length cc, .slice qq y.links.length dd, .int .i64 y.a, .int .i64 y.b] 26) := ⟨_, rfl⟩
    have HB5 := Lib.hid (show Below w4.heap.size w4 w5 from by rw [hw5]; exact below1 _ _)
    obtain ⟨z0, z1, z2, z3, z4, zf⟩ := boxS_new w3 y.k y.a y.b (.slice pp y.lits.length cc) (.slice qq y.links.length dd)
    have HST := Lib.hid (show StAt w5 (w3.heap.size + 1) y pp cc qq dd from by
     have hs4 : w4.heap.size = w3.heap.size + 1 := by rw [hw4]; simp
     have hh := boxS_new w4 y.k y.a y.b (.slice pp y.lits.length cc) (.slice qq y.links.length dd)
     rw [hs4] at hh
     rw [hw5]
     exact ⟨hh.c0, hh.c1, hh.c2, hh.c3, hh.c4⟩)
    have HOO := Lib.hid (And.intro ((hoi.later HB4.out).later HB5.out) ((hok.later HB4.out).later HB5.out))
    have HYY := Lib.hid (((HG.out.1.later HB3.out).later HB4.out).later HB5.out)
    have HSZ := Lib.hid (show W.heap.size + 1 <= wr.heap.size /\ wr.heap.size <= w2.heap.size /\ w2.heap.size <= w5.heap.size from ⟨HG.out.2.1.lt, HB2.out.size, Nat.le_trans hb3.size (Nat.le_trans HB4.out.size HB5.out.size)⟩)
    have HBK := Lib.hid (show ∀ j, (Value.slice p4 m c4).ownBlock = some j -> W.heap.size + 1 <= j /\ j < wr.heap.size from fun j e => HG.out.1.blk j e)
    have HW4 := Lib.hid hw4
    have HW5 := Lib.hid hw5
    clear hw4 hw5 hoi hok hb3
    unfold stV
    go_wp2_with (at_builtin; rw [<- HW4.out, <- HW5.out]; refine wpList_push_step (by rfl) _ _ (by rfl) (fun b => W.heap.size + 1 <= b) (fun b => w2.heap.size <= b) (w3.heap.size + 1) (.slice p4 m c4) t y pp cc qq dd (by rfl) (by rfl) HYY.out HST.out HOO.out.1 HOO.out.2 (fun b hb hl => ⟨by have := HSZ.out; omega, fun e => by have := (HBK.out b e).2; have := HSZ.out; omega⟩) (by have := HSZ.out; omega) (by rw [HTL.out]; have := HFG.out.2.2.2.2; omega) ?_)
    intro p6 c6 w6 hown6 ho6
    rw [HTL.out] at hown6 ⊢
    have hO : Only (fun k => W.heap.size + 1 <= k) wr w6 := (((Only.of_below HB3.out).trans (Only.of_below HB4.out)).trans (Only.of_below HB5.out)).trans (ho6.mono (fun j _ e => (HBK.out j e).1))
    have HFIN := Lib.hid (show ∃ (pre' g' : Fo) (t' : List Stp), x = pre'.app g' /\ pre'.len = m + 1 /\ allT pre' = some t' /\ TxOK g' /\ LnOK g' /\ FoIn w6 F1 g' (pl (some ⟨bq, oq, none⟩) (m + 1)) /\ OwnY w6 (fun b => W.heap.size + 1 <= b) (.slice p6 (m + 1) c6) t' /\ BoxT w6 W.heap.size true 1 s a0 (.slice (some ⟨bq, oq, none⟩) N c) /\ Below W.heap.size W w6 from by
     refine ⟨pre.snoc l1 k1 s1 a1 x1, r, t ++ [y], by rw [HFG.out.1, Fo.snoc_app], by rw [Fo.len_snoc, HFG.out.2.1], ?_, HG.out.2.2.2.2.1.2.2, HG.out.2.2.2.2.2.2.2, HG.out.2.2.2.1.only hO (fun b hb e => by have := HF1.out b hb; omega), hown6, HG.out.2.1.only hO (fun e => by omega), HG.out.2.2.1.trans (hO.below (fun k e => by omega) HG.out.2.2.1.size)⟩
     rw [<- Fo.app_nil (pre.snoc l1 k1 s1 a1 x1), Fo.snoc_app, allT_app _ _ _ HFG.out.2.2.1]
     simp only [allT, <- HR1.out])
    clear hown6 ho6 hO z0 z1 z2 z3 z4 zf
    go_wp2_with fail
    go_roundg G
    case measure => omega
    case rel => exact ⟨m + 1, p6, c6, by have := HFG.out.2.2.2.1; omega, rfl, by first | rfl | rw [HS.out.2.2], HFIN⟩
set_option maxHeartbeats 6400000 in
theorem readAll22 (l : Bool) (k : Int) (s : ByteArray) (a0 : Int) (x : Fo) (q : Option Addr) (c : Nat) (F : Nat -> Prop) (W : World) (hq : FoIn W F x q) (_hc : x.len <= c) (hl : x.len <= 1000000000) (hx : TxOK x) (hln : LnOK x) :
  Calls Tryz.prog 22 #[trV l k s a0 q x.len c] W fun e w' => ReadAR W w' e (readA l k s x) := by
 obtain ⟨N, hN⟩ : ∃ N, N = x.len := ⟨_, rfl⟩
 have HN := Lib.hid hN
 obtain ⟨F1, hF1⟩ : ∃ F1 : Nat -> Prop, F1 = fun b => F b /\ b < W.heap.size := ⟨_, rfl⟩
 have hq1 : FoIn W F1 x q := by rw [hF1]; exact hq.mono (fun b hb hl => ⟨hb, hl⟩)
 have HF1 := Lib.hid (show ∀ b, F1 b -> b < W.heap.size from fun b hb => by rw [hF1] at hb; exact hb.2)
 have HQ := Lib.hid (And.intro hq1 (And.intro hx hln))
 obtain ⟨R, hR⟩ : ∃ R, R = readA l k s x := ⟨_, rfl⟩
 have HR := Lib.hid hR
 rw [<- hR]
 rw [<- hN] at _hc hl ⊢
 have n1 : (N : Int) <= 1000000000 := by omega
 clear hF1 hq1 hq hx hln _hc hN hR
 have hbx := box_new W l k s a0 (.slice q N c)
 have HB1 := Lib.hid (below1 W (.cells #[.bool l, .int .u8 k, .string s, .int .i64 a0, .slice q N c] 35))
 obtain ⟨y0, y1, y2, y3, y4, yf⟩ := hbx
 by_cases hbad : ¬ (l = true /\ k = 1 /\ s = ⟨#[40]⟩)
 ·have hR0 : R = none := by rw [HR.out, readA, if_neg hbad]
  subst hR0
  unfold trV
  cases l with
  | false =>
   clear hbad
   go_enter Tryz.func22, Tryz.ntmps22
   go_wp2_with fail
   exact bodyPost_ret (v := .tuple #[.slice none 0 0, .int .i64 5]) (by simp [results, Tryz.results22, go_sem]) rfl ⟨rfl, HB1.out⟩
  | true =>
   by_cases hk : k = 1
   ·have hs : s ≠ ⟨#[40]⟩ := fun e => hbad ⟨rfl, hk, e⟩
    subst hk
    have t1 : (s.toList == [40]) = false := beq_eq_false_iff_ne.2 (fun e => hs (toList_byte (e.trans (by rw [ByteArray.toList_eq]))))
    have t2 : (s.toList != [40]) = true := by simp only [bne, t1]; rfl
    have t3 : ¬ s.toList = [40] := by simpa using t1
    clear hbad hs
    go_enter Tryz.func22, Tryz.ntmps22
    go_wp2_with fail
    exact bodyPost_ret (v := .tuple #[.slice none 0 0, .int .i64 5]) (by simp [results, Tryz.results22, go_sem]) rfl ⟨rfl, HB1.out⟩
   ·have hk2 : (k == 1) = false := by simp [hk]
    have hk3 : (k != 1) = true := by simp [hk]
    clear hbad hk
    go_enter Tryz.func22, Tryz.ntmps22
    go_wp2_with fail
    exact bodyPost_ret (v := .tuple #[.slice none 0 0, .int .i64 5]) (by simp [results, Tryz.results22, go_sem]) rfl ⟨rfl, HB1.out⟩
 have hgood : l = true /\ k = 1 /\ s = ⟨#[40]⟩ := by
  by_cases h : l = true /\ k = 1 /\ s = ⟨#[40]⟩
  ·exact h
  ·exact absurd h hbad
 have hR1 : R = allT x := by rw [HR.out, readA, if_pos hgood]
 clear HR
 have HR := Lib.hid hR1
 obtain ⟨rfl, rfl, hs⟩ := hgood
 have t1 : (s.toList == [40]) = true := by rw [beq_iff_eq, hs, ByteArray.toList_eq]
 have t2 : (s.toList != [40]) = false := by simp only [bne, t1]; rfl
 have t3 : s.toList = [40] := by simpa using t1
 have HBX := Lib.hid (show BoxT (W.alloc (.cells #[.bool true, .int .u8 1, .string s, .int .i64 a0, .slice q N c] 35)) W.heap.size true 1 s a0 (.slice q N c) from box_new W true 1 s a0 (.slice q N c))
 have hfo := Lib.hid (HQ.out.1.later HB1.out)
 obtain ⟨w1, hw1⟩ : ∃ w1, w1 = W.alloc (.cells #[.bool true, .int .u8 1, .string s, .int .i64 a0, .slice q N c] 35) := ⟨_, rfl⟩
 have HW1 := Lib.hid hw1
 rw [<- hw1] at HB1 HBX hfo
 have HSZ1 := Lib.hid (show w1.heap.size = W.heap.size + 1 from by rw [hw1]; simp)
 clear hbad hR1 hw1 hs
 unfold trV
 go_enter Tryz.func22, Tryz.ntmps22
 go_wp2_with fail
 rw [<- HW1.out]
 clear HW1 y0 y1 y2 y3 y4 yf t1 t2 t3
 go_loopg [4, 5] N (fun gk s4 s5 wx => ∃ (m : Nat) (p4 : Option Addr) (c4 : Nat), m + gk = N /\ s4 = .slice p4 m c4 /\ s5 = .int .i64 (m : Int) /\ Hid (∃ (pre g : Fo) (t : List Stp), x = pre.app g /\ pre.len = m /\ allT pre = some t /\ TxOK g /\ LnOK g /\ FoIn wx F1 g (pl q m) /\ OwnY wx (fun b => W.heap.size + 1 <= b) (.slice p4 m c4) t /\ BoxT wx W.heap.size true 1 s a0 (.slice q N c) /\ Below W.heap.size W wx))
 case atStart => exact ⟨0, none, 0, by omega, rfl, rfl, Lib.hid ⟨.nil, x, [], rfl, rfl, rfl, HQ.out.2.1, HQ.out.2.2, pl_zero hfo.out, OwnY.nil _ _, HBX.out, HB1.out⟩⟩
 case round =>
  obtain ⟨m, p4, c4, hk, rfl, rfl, HR0⟩ := hrel
  obtain ⟨pre, g, t, hfg, hpl, hat, htx, hlo, hg, hown, hbx, hbl⟩ := HR0.out
  clear HR0 HBX hfo
  have k0 : (0 : Int) <= (m : Int) := Int.natCast_nonneg m
  have hlen : pre.len + g.len = N := by rw [HN.out, hfg, Fo.len_app]
  have htl : t.length = m := by rw [allT_len pre t hat, hpl]
  have HTL := Lib.hid htl
  cases g with
  | nil =>
   have hlt : ¬ (m : Int) < (N : Int) := by simp [Fo.len] at hlen; omega
   rw [Fo.app_nil] at hfg
   have hr0 : R = some t := by rw [HR.out, hfg, hat]
   subst hr0
   have HF := Lib.hid (And.intro (hown.mono (F' := fun b => W.heap.size <= b) (fun b hb _ => by omega)) hbl)
   obtain ⟨y0, y1, y2, y3, y4, yf⟩ := hbx
   clear hk hpl hat htx hlo hg hown hbl hlen hfg htl
   go_wp2_with fail
   exact bodyPost_ret (v := .tuple #[.slice p4 m c4, .int .i64 0]) (by simp [results, Tryz.results22, go_sem]) rfl ⟨⟨p4, c4, by rw [HTL.out], by rw [HTL.out]; exact HF.out.1⟩, HF.out.2⟩
  | cons l1 k1 s1 a1 x1 r =>
   have hkn : m < N := by simp [Fo.len] at hlen; omega
   have k1' : (m : Int) < (N : Int) := Int.ofNat_lt.2 hkn
   obtain ⟨bq, oq, hqe⟩ : ∃ bq oq, q = some ⟨bq, oq, none⟩ := HQ.out.1.some (by rw [<- HN.out]; omega)
   subst hqe
   obtain ⟨hFq, c0, c1, c2, c3, ⟨q4, d4, c4', hl4, hm4, hq4⟩, hr⟩ := hg.head
   have HS := Lib.hid (step_ok hkn (show N <= 9223372036854775807 from by omega))
   have HG := Lib.hid (And.intro hown (And.intro hbx (And.intro hbl (And.intro hr (And.intro htx hlo)))))
   have HFG := Lib.hid (And.intro hfg (And.intro hpl (And.intro hat (And.intro hk hkn))))
   have HB2 := Lib.hid (Below.refl wr.heap.size wr)
   have HC := Lib.hid ((show Calls Tryz.prog 20 #[trV l1 k1 s1 a1 q4 x1.len d4] wr fun e w' => ReadR wr w' e (readT l1 k1 s1 x1) from by rw [<- readD_readT]; exact readD20 l1 k1 s1 a1 x1 q4 d4 F1 wr hq4 hl4 hlo.1 htx.2.1 hlo.2.1))
   obtain ⟨R1, hR1⟩ : ∃ R1, R1 = readT l1 k1 s1 x1 := ⟨_, rfl⟩
   have HR1 := Lib.hid hR1
   rw [<- hR1] at HC
   obtain ⟨y0, y1, y2, y3, y4, yf⟩ := hbx
   obtain ⟨G, rfl⟩ : ∃ G, gk = G + 1 := ⟨gk - 1, by omega⟩
   unfold trV at HC
   clear hk hfg hpl hat htx hlo hg hown hbl hlen hkn hl4 hm4 hq4 hr hFq hR1 htl
   go_wp2_with fail
   refine HC.out.mono ?_
   intro e w3 hrr
   clear HC c0 c1 c2 c3 c4' y0 y1 y2 y3 y4 yf
   cases R1 with
   | none =>
    obtain ⟨rfl, hb3⟩ := hrr
    have hr0 : R = none := by rw [HR.out, HFG.out.1, allT_app _ _ _ HFG.out.2.2.1]; simp only [allT, <- HR1.out]
    subst hr0
    have HB3 := Lib.hid (HG.out.2.2.1.trans ((HB2.out.trans (hb3.mono HB2.out.size)).mono HG.out.2.2.1.size))
    clear hb3
    unfold stV
    go_wp2_with fail
    exact bodyPost_ret (v := .tuple #[.slice none 0 0, .int .i64 5]) (by simp [results, Tryz.results22, go_sem]) rfl ⟨rfl, HB3.out.alloc HB3.out.size _⟩
   | some y =>
    obtain ⟨⟨pp, cc, qq, dd, rfl, hoi, hok⟩, hb3⟩ := hrr
    have HB3 := Lib.hid (HB2.out.trans (hb3.mono HB2.out.size))
    obtain ⟨w4, hw4⟩ : ∃ w4, w4 = w3.alloc (.cells #[.int .u8 y.k, .slice pp y.lits.length cc, .slice qq y.links.length dd, .int .i64 y.a, .int .i64 y.b] 26) := ⟨_, rfl⟩
    have HB4 := Lib.hid (show Below w3.heap.size w3 w4 from by rw [hw4]; exact below1 _ _)
    obtain ⟨w5, hw5⟩ : ∃ w5, w5 = w4.alloc (.cells #[.int .u8 y.k, .slice pp y.lits.length cc, .slice qq y.links.length dd, .int .i64 y.a, .int .i64 y.b] 26) := ⟨_, rfl⟩
    have HB5 := Lib.hid (show Below w4.heap.size w4 w5 from by rw [hw5]; exact below1 _ _)
    obtain ⟨z0, z1, z2, z3, z4, zf⟩ := boxS_new w3 y.k y.a y.b (.slice pp y.lits.length cc) (.slice qq y.links.length dd)
    have HST := Lib.hid (show StAt w5 (w3.heap.size + 1) y pp cc qq dd from by
     have hs4 : w4.heap.size = w3.heap.size + 1 := by rw [hw4]; simp
     have hh := boxS_new w4 y.k y.a y.b (.slice pp y.lits.length cc) (.slice qq y.links.length dd)
     rw [hs4] at hh
     rw [hw5]
     exact ⟨hh.c0, hh.c1, hh.c2, hh.c3, hh.c4⟩)
    have HOO := Lib.hid (And.intro ((hoi.later HB4.out).later HB5.out) ((hok.later HB4.out).later HB5.out))
    have HYY := Lib.hid (((HG.out.1.later HB3.out).later HB4.out).later HB5.out)
    have HSZ := Lib.hid (show W.heap.size + 1 <= wr.heap.size /\ wr.heap.size <= wr.heap.size /\ wr.heap.size <= w5.heap.size from ⟨HG.out.2.1.lt, HB2.out.size, Nat.le_trans hb3.size (Nat.le_trans HB4.out.size HB5.out.size)⟩)
    have HBK := Lib.hid (show ∀ j, (Value.slice p4 m c4).ownBlock = some j -> W.heap.size + 1 <= j /\ j < wr.heap.size from fun j e => HG.out.1.blk j e)
    have HW4 := Lib.hid hw4
    have HW5 := Lib.hid hw5
    clear hw4 hw5 hoi hok hb3
    unfold stV
    go_wp2_with (at_builtin; rw [<- HW4.out, <- HW5.out]; refine wpList_push_step (by rfl) _ _ (by rfl) (fun b => W.heap.size + 1 <= b) (fun b => wr.heap.size <= b) (w3.heap.size + 1) (.slice p4 m c4) t y pp cc qq dd (by rfl) (by rfl) HYY.out HST.out HOO.out.1 HOO.out.2 (fun b hb hl => ⟨by have := HSZ.out; omega, fun e => by have := (HBK.out b e).2; have := HSZ.out; omega⟩) (by have := HSZ.out; omega) (by rw [HTL.out]; have := HFG.out.2.2.2.2; omega) ?_)
    intro p6 c6 w6 hown6 ho6
    rw [HTL.out] at hown6 ⊢
    have hO : Only (fun k => W.heap.size + 1 <= k) wr w6 := (((Only.of_below HB3.out).trans (Only.of_below HB4.out)).trans (Only.of_below HB5.out)).trans (ho6.mono (fun j _ e => (HBK.out j e).1))
    have HFIN := Lib.hid (show ∃ (pre' g' : Fo) (t' : List Stp), x = pre'.app g' /\ pre'.len = m + 1 /\ allT pre' = some t' /\ TxOK g' /\ LnOK g' /\ FoIn w6 F1 g' (pl (some ⟨bq, oq, none⟩) (m + 1)) /\ OwnY w6 (fun b => W.heap.size + 1 <= b) (.slice p6 (m + 1) c6) t' /\ BoxT w6 W.heap.size true 1 s a0 (.slice (some ⟨bq, oq, none⟩) N c) /\ Below W.heap.size W w6 from by
     refine ⟨pre.snoc l1 k1 s1 a1 x1, r, t ++ [y], by rw [HFG.out.1, Fo.snoc_app], by rw [Fo.len_snoc, HFG.out.2.1], ?_, HG.out.2.2.2.2.1.2.2, HG.out.2.2.2.2.2.2.2, HG.out.2.2.2.1.only hO (fun b hb e => by have := HF1.out b hb; omega), hown6, HG.out.2.1.only hO (fun e => by omega), HG.out.2.2.1.trans (hO.below (fun k e => by omega) HG.out.2.2.1.size)⟩
     rw [<- Fo.app_nil (pre.snoc l1 k1 s1 a1 x1), Fo.snoc_app, allT_app _ _ _ HFG.out.2.2.1]
     simp only [allT, <- HR1.out])
    clear hown6 ho6 hO z0 z1 z2 z3 z4 zf
    go_wp2_with fail
    go_roundg G
    case measure => omega
    case rel => exact ⟨m + 1, p6, c6, by have := HFG.out.2.2.2.1; omega, rfl, by first | rfl | rw [HS.out.2.2], HFIN⟩
theorem sameAll23 (t u : List Stp) (p : Option Addr) (c : Nat) (p2 : Option Addr) (c2 : Nat) (F : Nat -> Prop) (W : World) (h1 : OwnY W F (.slice p t.length c) t) (h2 : OwnY W F (.slice p2 u.length c2) u) (hl : t.length <= 1000000000) (hl2 : u.length <= 1000000000)
  (ht : ∀ y ∈ t, y.lits.length <= 1000000000 /\ y.links.length <= 1000000000) (hu : ∀ y ∈ u, y.lits.length <= 1000000000 /\ y.links.length <= 1000000000) :
  Calls Tryz.prog 23 #[.slice p t.length c, .slice p2 u.length c2] W fun e w' => e = .returned (.bool (decide (t = u))) /\ Below W.heap.size W w' := by
 obtain ⟨n, hn⟩ : ∃ n, n = t.length := ⟨_, rfl⟩
 obtain ⟨n2, hn2⟩ : ∃ n2, n2 = u.length := ⟨_, rfl⟩
 have HN := Lib.hid (And.intro hn hn2)
 obtain ⟨R, hR⟩ : ∃ R, R = decide (t = u) := ⟨_, rfl⟩
 have HR := Lib.hid hR
 have HO := Lib.hid (And.intro h1 (And.intro h2 (And.intro ht hu)))
 rw [<- hn] at hl ⊢
 rw [<- hn2] at hl2 ⊢
 rw [<- hR]
 have i1 : (n : Int) <= 1000000000 := by omega
 have i2 : (n2 : Int) <= 1000000000 := by omega
 clear h1 h2 ht hu hn hn2 hR
 by_cases hne : n = n2
 case neg =>
  have hr0 : R = false := by rw [HR.out]; exact decide_eq_false (fun e => hne (by rw [HN.out.1, HN.out.2, e]))
  subst hr0
  have e1 : ((n : Int) == (n2 : Int)) = false := by simp; omega
  have e2 : ((n : Int) != (n2 : Int)) = true := by simp; omega
  clear hne
  go_enter Tryz.func23, Tryz.ntmps23
  go_wp2_with fail
  exact bodyPost_ret (v := .bool false) (by simp [results, Tryz.results23, go_sem]) rfl ⟨rfl, Below.refl _ _⟩
 subst hne
 have HL2 := Lib.hid (show u.length = n from HN.out.2.symm)
 go_enter Tryz.func23, Tryz.ntmps23
 go_wp2_with fail
 go_loopg [5] n (fun gk s5 wx => ∃ (m : Nat), m + gk = n /\ s5 = .int .i64 (m : Int) /\ Hid (t.take m = u.take m /\ Below W.heap.size W wx))
 case atStart => exact ⟨0, by omega, rfl, Lib.hid ⟨by simp, Below.refl _ _⟩⟩
 case round =>
  obtain ⟨m, hk, rfl, HR0⟩ := hrel
  have k0 : (0 : Int) <= (m : Int) := Int.natCast_nonneg m
  by_cases hmn : m < n
  case neg =>
   have hlt : ¬ (m : Int) < (n : Int) := by omega
   have hr0 : R = true := by
    rw [HR.out]
    have h3 := HR0.out.1
    rw [List.take_of_length_le (by rw [<- HN.out.1]; omega), List.take_of_length_le (by rw [HL2.out]; omega)] at h3
    exact decide_eq_true h3
   subst hr0
   have HB := Lib.hid HR0.out.2
   clear hmn hk HR0
   go_wp2_with fail
   exact bodyPost_ret (v := .bool true) (by simp [results, Tryz.results23, go_sem]) rfl ⟨rfl, HB.out⟩
  have k1 : (m : Int) < (n : Int) := Int.ofNat_lt.2 hmn
  have HS := Lib.hid (step_ok hmn (show n <= 9223372036854775807 from by omega))
  obtain ⟨_, _, e1, hg1⟩ := HO.out.1.shape
  obtain ⟨_, _, e2, hg2⟩ := HO.out.2.1.shape
  injection e1 with e1 e1b e1c
  injection e2 with e2 e2b e2c
  subst e1 e2
  clear e1b e1c e2b e2c
  obtain ⟨g1, rfl⟩ := hg1 (by rw [<- HN.out.1]; omega)
  obtain ⟨g2, rfl⟩ := hg2 (by rw [HL2.out]; omega)
  have hm1 : m < t.length := by rw [<- HN.out.1]; exact hmn
  have hm2 : m < u.length := by rw [HL2.out]; exact hmn
  have hbd := HR0.out.2.trans ((below_drew wr).mono HR0.out.2.size)
  obtain ⟨pa, ca, qa, da, a0, a1, a2, a3, a4, ai, ak⟩ := (HO.out.1.later hbd).at m hm1
  obtain ⟨pb, cb, qb, db, b0, b1, b2, b3, b4, bi, bk⟩ := (HO.out.2.1.later hbd).at m hm2
  obtain ⟨x, hx⟩ : ∃ x, x = t[m] := ⟨_, rfl⟩
  obtain ⟨y, hy⟩ : ∃ y, y = u[m] := ⟨_, rfl⟩
  rw [<- hx] at a0 a1 a2 a3 a4 ai ak
  rw [<- hy] at b0 b1 b2 b3 b4 bi bk
  have HX := Lib.hid (And.intro (HO.out.2.2.1 x (hx ▸ List.getElem_mem hm1)) (HO.out.2.2.2 y (hy ▸ List.getElem_mem hm2)))
  have hxi : IntsIn wr.drew pa x.lits := by
   obtain ⟨_, _, e, _, _, _, _, h, _⟩ := ai.intsIn
   injection e with e _ _
   subst e; exact h
  have hyi : IntsIn wr.drew pb y.lits := by
   obtain ⟨_, _, e, _, _, _, _, h, _⟩ := bi.intsIn
   injection e with e _ _
   subst e; exact h
  have hxk : LksIn wr.drew qa x.links := by
   obtain ⟨_, _, e, _, _, h, _⟩ := ak.lks
   injection e with e _ _
   subst e; exact h
  have hyk : LksIn wr.drew qb y.links := by
   obtain ⟨_, _, e, _, _, h, _⟩ := bk.lks
   injection e with e _ _
   subst e; exact h
  have HC := Lib.hid (same14 x pa ca qa da y pb cb qb db wr.drew hxi hxk hyi hyk (by have := HX.out; omega) (by have := HX.out; omega) (by have := HX.out; omega) (by have := HX.out; omega))
  have HAC := Lib.hid (And.intro a0 (And.intro a1 (And.intro a2 (And.intro a3 a4))))
  have HBC := Lib.hid (And.intro b0 (And.intro b1 (And.intro b2 (And.intro b3 b4))))
  have HXY := Lib.hid (show t[m]? = some x /\ u[m]? = some y from ⟨by rw [List.getElem?_eq_getElem hm1, hx], by rw [List.getElem?_eq_getElem hm2, hy]⟩)
  obtain ⟨E, hE⟩ : ∃ E, E = decide (x = y) := ⟨_, rfl⟩
  have HE := Lib.hid hE
  rw [<- hE] at HC
  have HK := Lib.hid (And.intro hk hmn)
  have HBD := Lib.hid hbd
  obtain ⟨G, rfl⟩ : ∃ G, gk = G + 1 := ⟨gk - 1, by omega⟩
  unfold stV at HC
  clear hxi hyi hxk hyk hE ai ak bi bk hx hy hk hmn hm1 hm2 hbd hg1 hg2 a0 a1 a2 a3 a4 b0 b1 b2 b3 b4
  go_wp2_with fail
  refine wp_region_L [(1000, (fun _ => True : World -> Prop)), (8, (fun w => (w.cell? ⟨g1, m * 5, none⟩ = some (.int .u8 x.k) /\ w.cell? ⟨g1, m * 5 + 1, none⟩ = some (.slice pa x.lits.length ca) /\ w.cell? ⟨g1, m * 5 + 2, none⟩ = some (.slice qa x.links.length da) /\ w.cell? ⟨g1, m * 5 + 3, none⟩ = some (.int .i64 x.a) /\ w.cell? ⟨g1, m * 5 + 4, none⟩ = some (.int .i64 x.b)) /\ (w.cell? ⟨g2, m * 5, none⟩ = some (.int .u8 y.k) /\ w.cell? ⟨g2, m * 5 + 1, none⟩ = some (.slice pb y.lits.length cb) /\ w.cell? ⟨g2, m * 5 + 2, none⟩ = some (.slice qb y.links.length db) /\ w.cell? ⟨g2, m * 5 + 3, none⟩ = some (.int .i64 y.a) /\ w.cell? ⟨g2, m * 5 + 4, none⟩ = some (.int .i64 y.b)) : World -> Prop))] (by kernel_rfl) (SL.cons (fun _ => trivial) (SL.cons (fun _ => ⟨HAC.out, HBC.out⟩) SL.nil)) (fun hH => ?_)
  generalize wr.drew = wd at *
  refine tk 0 0 ⟨some 17, .move (.tmp 0), 47, "ref.go:59", #[], none⟩ ?_ rfl rfl ?_ hH fun hH => ?_
  rotate_left
  ·intro w hSw; (try dsimp only at hSw); go_simp; try with_reducible rfl
  try simp only [Act.put, sI, s0, s1]
  refine tk 0 1 ⟨some 18, .move (.tmp 5), 3, "ref.go:59", #[], none⟩ ?_ rfl rfl ?_ hH fun hH => ?_
  rotate_left
  ·intro w hSw; (try dsimp only at hSw); go_simp; try with_reducible rfl
  try simp only [Act.put, sI, s0, s1]
  refine tk 0 2 ⟨some 19, .indexAddr 47 (.tmp 17) (.tmp 18), 0, "ref.go:59", #[⟨0, .data⟩, ⟨1, .data⟩], none⟩ ?_ rfl rfl ?_ hH fun hH => ?_
  rotate_left
  ·intro w hSw; (try dsimp only at hSw); go_simp; try with_reducible rfl
  try simp only [Act.put, sI, s0, s1]
  refine tk 1 3 ⟨some 20, .load 26 (.tmp 19), 26, "ref.go:59", #[⟨2, .data⟩], none⟩ ?_ rfl rfl ?_ hH fun hH => ?_
  rotate_left
  ·intro w hSw; (try dsimp only at hSw); obtain ⟨⟨a0, a1, a2, a3, a4⟩, b0, b1, b2, b3, b4⟩ := hSw; go_simp; try with_reducible rfl
  try simp only [Act.put, sI, s0, s1]
  refine tk 0 4 ⟨some 21, .move (.tmp 1), 47, "ref.go:59", #[], none⟩ ?_ rfl rfl ?_ hH fun hH => ?_
  rotate_left
  ·intro w hSw; (try dsimp only at hSw); go_simp; try with_reducible rfl
  try simp only [Act.put, sI, s0, s1]
  refine tk 0 5 ⟨some 22, .move (.tmp 5), 3, "ref.go:59", #[], none⟩ ?_ rfl rfl ?_ hH fun hH => ?_
  rotate_left
  ·intro w hSw; (try dsimp only at hSw); go_simp; try with_reducible rfl
  try simp only [Act.put, sI, s0, s1]
  refine tk 0 6 ⟨some 23, .indexAddr 47 (.tmp 21) (.tmp 22), 0, "ref.go:59", #[⟨4, .data⟩, ⟨5, .data⟩], none⟩ ?_ rfl rfl ?_ hH fun hH => ?_
  rotate_left
  ·intro w hSw; (try dsimp only at hSw); go_simp; try with_reducible rfl
  try simp only [Act.put, sI, s0, s1]
  refine tk 1 7 ⟨some 24, .load 26 (.tmp 23), 26, "ref.go:59", #[⟨6, .data⟩], none⟩ ?_ rfl rfl ?_ hH fun hH => ?_
  rotate_left
  ·intro w hSw; (try dsimp only at hSw); obtain ⟨⟨a0, a1, a2, a3, a4⟩, b0, b1, b2, b3, b4⟩ := hSw; go_simp; try with_reducible rfl
  try simp only [Act.put, sI, s0, s1]
  refine wpAnyL_ready (rs := [8]) (by kernel_rfl) (by simp) ?_
  refine AllReadyL.cons (o := ⟨some 25, .call ⟨.value (.func 14), #[.tmp 20, .tmp 24], #[26, 26]⟩, 4, "ref.go:59", #[⟨3, .data⟩, ⟨7, .data⟩], none⟩) rfl (fun K hK => ?_) AllReadyL.nil
  go_simp
  go_at_call 14
  refine HC.out.mono ?_
  rintro e w5 ⟨rfl, hb5⟩
  have HB5 := Lib.hid (HBD.out.trans (hb5.mono HBD.out.size))
  clear hb5 HC
  refine hK.out _ _ (SL.cons (fun _ => trivial) (SL.cons (fun h => absurd h (by decide +kernel)) SL.nil)) (fun hH => ?_)
  clear hK K
  try simp only [Act.put, sI, s0, s1]
  refine tk 0 9 ⟨some 26, .unOp .not 4 (.tmp 25), 4, "ref.go:59", #[⟨8, .data⟩], none⟩ ?_ rfl rfl ?_ hH fun hH => ?_
  rotate_left
  ·intro w hSw; (try dsimp only at hSw); go_simp; try with_reducible rfl
  try simp only [Act.put, sI, s0, s1]
  refine wpAnyL_done (by kernel_rfl) ?_ _
  clear hH
  cases E with
  | false =>
   have hr0 : R = false := by
    rw [HR.out]
    refine decide_eq_false (fun e => ?_)
    have h4 := HE.out
    have h5 := HXY.out.1.symm.trans (e ▸ HXY.out.2)
    injection h5 with h5
    rw [h5] at h4
    simp at h4
   subst hr0
   go_wp2_with fail
   exact bodyPost_ret (v := .bool false) (by simp [results, Tryz.results23, go_sem]) rfl ⟨rfl, HB5.out⟩
  | true =>
   have HT := Lib.hid (show t.take (m + 1) = u.take (m + 1) from by
    have h4 := of_decide_eq_true HE.out.symm
    rw [List.take_add_one, List.take_add_one, HXY.out.1, HXY.out.2, HR0.out.1, h4])
   go_wp2_with fail
   go_roundg G
   case measure => omega
   case rel => exact ⟨m + 1, by have := HK.out.1; omega, by first | rfl | rw [HS.out.2.2], Lib.hid ⟨HT.out, HB5.out⟩⟩
def zSt : Stp := ⟨0, [], [], 0, 0⟩
def eOf {α : Type} : Option α -> Int
 | none => 5
 | some _ => 0
def yOf : Option Stp -> Stp
 | none => zSt
 | some y => y
def tOf : Option (List Stp) -> List Stp
 | none => []
 | some t => t
theorem readR_of {W w' : World} {e : Ending} {R : Option Stp} (h : ReadR W w' e R) : ∃ p c q d, e = .returned (.tuple #[stV (yOf R) p c q d, .int .i64 (eOf R)]) /\ OwnI 44 w' (fun b => W.heap.size <= b) (.slice p (yOf R).lits.length c) (yOf R).lits /\ OwnK w' (fun b => W.heap.size <= b) (.slice q (yOf R).links.length d) (yOf R).links /\ Below W.heap.size W w' := by
 cases R with
 | none => exact ⟨none, 0, none, 0, h.1, OwnI.nil _ _ _, OwnK.nil _ _, h.2⟩
 | some y =>
  obtain ⟨⟨p, c, q, d, e1, h1, h2⟩, h3⟩ := h
  exact ⟨p, c, q, d, e1, h1, h2, h3⟩
theorem readAR_of {W w' : World} {e : Ending} {R : Option (List Stp)} (h : ReadAR W w' e R) : ∃ p c, e = .returned (.tuple #[.slice p (tOf R).length c, .int .i64 (eOf R)]) /\ OwnY w' (fun b => W.heap.size <= b) (.slice p (tOf R).length c) (tOf R) /\ Below W.heap.size W w' := by
 cases R with
 | none => exact ⟨none, 0, h.1, OwnY.nil _ _, h.2⟩
 | some y =>
  obtain ⟨⟨p, c, e1, h1⟩, h3⟩ := h
  exact ⟨p, c, e1, h1, h3⟩
theorem may_small {y : Stp} (h : maySt y = true) : y.lits.length <= 1000000000 /\ y.links.length <= 1000000000 := by
 obtain ⟨_, _, h3, h4, _⟩ := maySt_facts (k := y.k) (a := y.a) (b := y.b) (lits := y.lits) (links := y.links) (by simpa using h)
 omega
theorem yOf_small (l : Bool) (k : Int) (s : ByteArray) (x : Fo) : (yOf (readT l k s x)).lits.length <= 1000000000 /\ (yOf (readT l k s x)).links.length <= 1000000000 := by
 cases h : readT l k s x with
 | none => exact ⟨Nat.zero_le _, Nat.zero_le _⟩
 | some y => exact may_small ((readT_eq l k s x y).1 h).1
theorem allT_small : ∀ (f : Fo) (t : List Stp), allT f = some t -> ∀ y ∈ t, y.lits.length <= 1000000000 /\ y.links.length <= 1000000000
 | .nil, t, h, y, hy => by cases h; cases hy
 | .cons l k s a x r, t, h, y, hy => by
  simp only [allT] at h
  cases h1 : readT l k s x with
  | none => rw [h1] at h; cases h
  | some z =>
   rw [h1] at h
   simp only at h
   cases h2 : allT r with
   | none => rw [h2] at h; cases h
   | some u =>
    rw [h2] at h
    cases h
    simp only [List.mem_cons] at hy
    rcases hy with rfl | hy
    ·exact may_small ((readT_eq l k s x y).1 h1).1
    ·exact allT_small r u h2 y hy
theorem tOf_small (l : Bool) (k : Int) (s : ByteArray) (x : Fo) : (∀ y ∈ tOf (readA l k s x), y.lits.length <= 1000000000 /\ y.links.length <= 1000000000) /\ (tOf (readA l k s x)).length <= x.len := by
 unfold readA
 split
 ·cases h : allT x with
  | none => exact ⟨(fun y hy => by cases hy), Nat.zero_le _⟩
  | some t => exact ⟨allT_small x t h, by rw [tOf, allT_len x t h]; exact Nat.le_refl _⟩
 ·exact ⟨(fun y hy => by cases hy), Nat.zero_le _⟩
def Known (W : World) : Prop := ∀ w, Below W.heap.size W w -> Calls Tryz.prog 8 #[] w fun e w' => e = .returned (.bool true) /\ Below w.heap.size w w'
set_option maxHeartbeats 6400000 in
theorem law4 (l : Bool) (k : Int) (s : ByteArray) (a0 : Int) (x : Fo) (q : Option Addr) (c : Nat) (F : Nat -> Prop) (W : World) (hq : FoIn W F x q) (hc : x.len <= c) (hm : x.len <= 281474976710656) (hs : s.size <= 140737488351232) (hz : szB 140737488351232 x) (htab : PowTab W) (hK : Known W) :
  Calls Tryz.prog 4 #[trV l k s a0 q x.len c] W fun e w' => e = .returned (.bool true) /\ Below W.heap.size W w' := by
 obtain ⟨w1, hw1⟩ : ∃ w1, w1 = W.alloc (.cells #[.bool l, .int .u8 k, .string s, .int .i64 a0, .slice q x.len c] 35) := ⟨_, rfl⟩
 have hb1 : Below W.heap.size W w1 := by rw [hw1]; exact below1 _ _
 have HBX := Lib.hid (show BoxT w1 W.heap.size l k s a0 (.slice q x.len c) from by rw [hw1]; exact box_new _ _ _ _ _ _)
 have HQ := Lib.hid (And.intro (hq.later hb1) (And.intro hc (And.intro hm (szB_tx x hz))))
 have HSI := Lib.hid (size48 x.size x (Nat.le_refl _) hz l k s a0 q c w1 F 2001 (by decide) hs (hq.later hb1) hc hm)
 have HB1 := Lib.hid hb1
 have HT := Lib.hid htab
 have HK := Lib.hid hK
 have HLN := Lib.hid (fun (h : twT s x <= 2000) => (show x.len <= 1000000000 /\ LnOK x from by
  have h1 : twT s x = 1 + s.size / 8 + twF x := rfl
  have h2 := twF_size x
  have h3 := len_size x
  exact ⟨by omega, twF_ln x (by omega)⟩))
 have HW1 := Lib.hid hw1
 obtain ⟨y0, y1, y2, y3, y4, yf⟩ := HBX.out
 rw [hw1] at y0 y1 y2 y3 y4 yf
 clear hq hc hm hs hz htab hK hb1 hw1
 have HSI' := HSI
 unfold trV at HSI ⊢
 go_enter Tryz.func4, Tryz.ntmps4
 go_wp2_with fail
 rw [<- HW1.out]
 refine HSI.out.mono ?_
 rintro e wa ⟨r, rfl, hr1, hr2, hba⟩
 have HBA := Lib.hid (HB1.out.trans (hba.mono HB1.out.size))
 have HBXA := Lib.hid (HBX.out.later hba)
 have HQA := Lib.hid (HQ.out.1.later hba)
 clear hba HSI HSI' HW1 y0 y1 y2 y3 y4 yf
 obtain ⟨y0, y1, y2, y3, y4, yf⟩ := HBXA.out
 have r1 : (r : Int) <= 17592186045906 := by omega
 have HR2 := Lib.hid hr2
 clear hr1 hr2
 by_cases hbig : 2000 < r
 ·have hb2 : (2000 : Int) < (r : Int) := by omega
  have hb3 : 2000 < r := hbig
  have HKK := Lib.hid (HK.out wa HBA.out)
  clear hbig
  go_wp2_with fail
  refine HKK.out.mono ?_
  rintro e wz ⟨rfl, hbz⟩
  have HBZ := Lib.hid (HBA.out.trans (hbz.mono HBA.out.size))
  clear hbz
  go_wp2_with fail
  exact bodyPost_ret (v := .bool true) (by simp [results, Tryz.results4, go_sem]) rfl ⟨rfl, HBZ.out⟩
 have hb2 : ¬ (2000 : Int) < (r : Int) := by omega
 have hb3 : ¬ 2000 < r := hbig
 have HSM := Lib.hid (HLN.out (by have := HR2.out (by omega); omega))
 have HDE := Lib.hid (depth32 l k s a0 q c x wa F HQA.out HQ.out.2.1 HQ.out.2.2.1)
 unfold trV at HDE
 clear hbig
 go_wp2_with fail
 refine HDE.out.mono ?_
 rintro e wb ⟨rfl, hbb⟩
 have HBB := Lib.hid (HBA.out.trans (hbb.mono HBA.out.size))
 have HBXB := Lib.hid (HBXA.out.later hbb)
 have HQB := Lib.hid (HQA.out.later hbb)
 clear hbb HDE y0 y1 y2 y3 y4 yf
 obtain ⟨y0, y1, y2, y3, y4, yf⟩ := HBXB.out
 obtain ⟨D, hD⟩ : ∃ D, D = depT l x 201 := ⟨_, rfl⟩
 have hD1 : D <= 201 := by rw [hD]; exact depT_le _ _ _
 rw [<- hD]
 clear hD
 by_cases hdp : 200 < D
 ·have hd2 : (200 : Int) < (D : Int) := by omega
  have hd3 : 200 < D := hdp
  have HKK := Lib.hid (HK.out wb HBB.out)
  clear hdp
  go_wp2_with fail
  refine HKK.out.mono ?_
  rintro e wz ⟨rfl, hbz⟩
  have HBZ := Lib.hid (HBB.out.trans (hbz.mono HBB.out.size))
  clear hbz
  go_wp2_with fail
  exact bodyPost_ret (v := .bool true) (by simp [results, Tryz.results4, go_sem]) rfl ⟨rfl, HBZ.out⟩
 have hd2 : ¬ (200 : Int) < (D : Int) := by omega
 have hd3 : ¬ 200 < D := hdp
 obtain ⟨Y, hY⟩ : ∃ Y, Y = yOf (readT l k s x) := ⟨_, rfl⟩
 obtain ⟨E1, hE1⟩ : ∃ E, E = eOf (readT l k s x) := ⟨_, rfl⟩
 obtain ⟨T, hT⟩ : ∃ T, T = tOf (readA l k s x) := ⟨_, rfl⟩
 obtain ⟨E2, hE2⟩ : ∃ E, E = eOf (readA l k s x) := ⟨_, rfl⟩
 have HY := Lib.hid (show Y.lits.length <= 1000000000 /\ Y.links.length <= 1000000000 from by rw [hY]; exact yOf_small l k s x)
 have HTT := Lib.hid (show (∀ y ∈ T, y.lits.length <= 1000000000 /\ y.links.length <= 1000000000) /\ T.length <= 1000000000 from by rw [hT]; exact ⟨(tOf_small l k s x).1, Nat.le_trans (tOf_small l k s x).2 HSM.out.1⟩)
 have HC16 := Lib.hid (show ∀ w, Below W.heap.size W w -> FoIn w F x q -> Calls Tryz.prog 16 #[trV l k s a0 q x.len c] w fun e w' => ∃ p c q d, e = .returned (.tuple #[stV Y p c q d, .int .i64 E1]) /\ OwnI 44 w' (fun b => w.heap.size <= b) (.slice p Y.lits.length c) Y.lits /\ OwnK w' (fun b => w.heap.size <= b) (.slice q Y.links.length d) Y.links /\ Below w.heap.size w w' from fun w hb hf => by
  refine (read16 l k s a0 x q c F w hf HQ.out.2.1 HSM.out.1 HQ.out.2.2.2 HSM.out.2 (tabIs_below HT.out hb)).mono ?_
  intro e w' h
  have hh := readR_of h
  rw [<- hY, <- hE1] at hh
  exact hh)
 have HC20 := Lib.hid (show ∀ w, FoIn w F x q -> Calls Tryz.prog 20 #[trV l k s a0 q x.len c] w fun e w' => ∃ p c q d, e = .returned (.tuple #[stV Y p c q d, .int .i64 E1]) /\ OwnI 44 w' (fun b => w.heap.size <= b) (.slice p Y.lits.length c) Y.lits /\ OwnK w' (fun b => w.heap.size <= b) (.slice q Y.links.length d) Y.links /\ Below w.heap.size w w' from fun w hf => by
  refine (readD20 l k s a0 x q c F w hf HQ.out.2.1 HSM.out.1 HQ.out.2.2.2 HSM.out.2).mono ?_
  intro e w' h
  rw [readD_readT] at h
  have hh := readR_of h
  rw [<- hY, <- hE1] at hh
  exact hh)
 have HC21 := Lib.hid (show ∀ w, Below W.heap.size W w -> FoIn w F x q -> Calls Tryz.prog 21 #[trV l k s a0 q x.len c] w fun e w' => ∃ p c, e = .returned (.tuple #[.slice p T.length c, .int .i64 E2]) /\ OwnY w' (fun b => w.heap.size <= b) (.slice p T.length c) T /\ Below w.heap.size w w' from fun w hb hf => by
  refine (readAll21 l k s a0 x q c F w hf HQ.out.2.1 HSM.out.1 HQ.out.2.2.2 HSM.out.2 (tabIs_below HT.out hb)).mono ?_
  intro e w' h
  have hh := readAR_of h
  rw [<- hT, <- hE2] at hh
  exact hh)
 have HC22 := Lib.hid (show ∀ w, FoIn w F x q -> Calls Tryz.prog 22 #[trV l k s a0 q x.len c] w fun e w' => ∃ p c, e = .returned (.tuple #[.slice p T.length c, .int .i64 E2]) /\ OwnY w' (fun b => w.heap.size <= b) (.slice p T.length c) T /\ Below w.heap.size w w' from fun w hf => by
  refine (readAll22 l k s a0 x q c F w hf HQ.out.2.1 HSM.out.1 HQ.out.2.2.2 HSM.out.2).mono ?_
  intro e w' h
  have hh := readAR_of h
  rw [<- hT, <- hE2] at hh
  exact hh)
 clear hdp hY hE1 hT hE2
 unfold trV at HC16 HC20 HC21 HC22
 unfold stV at HC16 HC20
 go_wp2_with fail
 refine (HC16.out wb HBB.out HQB.out).mono ?_
 rintro e wc ⟨p1, c1, q1, d1, rfl, hoi1, hok1, hbc⟩
 obtain ⟨wd, hwd⟩ : ∃ wd, wd = wc.alloc (.cells #[.int .u8 Y.k, .slice p1 Y.lits.length c1, .slice q1 Y.links.length d1, .int .i64 Y.a, .int .i64 Y.b] 26) := ⟨_, rfl⟩
 have HBcd := Lib.hid (show Below wc.heap.size wc wd from by rw [hwd]; exact below1 _ _)
 have HBbd := Lib.hid (hbc.trans (HBcd.out.mono hbc.size))
 have HX1 := Lib.hid (show BoxS wd wc.heap.size Y.k (.slice p1 Y.lits.length c1) (.slice q1 Y.links.length d1) Y.a Y.b from by rw [hwd]; exact boxS_new _ _ _ _ _ _)
 have HO1 := Lib.hid (And.intro (hoi1.later HBcd.out) (hok1.later HBcd.out))
 have HBD := Lib.hid (HBB.out.trans (HBbd.out.mono HBB.out.size))
 have HBXD := Lib.hid (HBXB.out.later HBbd.out)
 have HQD := Lib.hid (HQB.out.later HBbd.out)
 clear y0 y1 y2 y3 y4 yf
 obtain ⟨y0, y1, y2, y3, y4, yf⟩ := HBXD.out
 have HWD := Lib.hid hwd
 rw [hwd] at y0 y1 y2 y3 y4 yf
 clear hwd hoi1 hok1 hbc
 go_wp2_with fail
 rw [<- HWD.out]
 refine (HC20.out wd HQD.out).mono ?_
 rintro e we ⟨p2, c2, q2, d2, rfl, hoi2, hok2, hbe⟩
 obtain ⟨wf, hwf⟩ : ∃ wf, wf = we.alloc (.cells #[.int .u8 Y.k, .slice p2 Y.lits.length c2, .slice q2 Y.links.length d2, .int .i64 Y.a, .int .i64 Y.b] 26) := ⟨_, rfl⟩
 have HBef := Lib.hid (show Below we.heap.size we wf from by rw [hwf]; exact below1 _ _)
 have HBdf := Lib.hid (hbe.trans (HBef.out.mono hbe.size))
 have HX2 := Lib.hid (show BoxS wf we.heap.size Y.k (.slice p2 Y.lits.length c2) (.slice q2 Y.links.length d2) Y.a Y.b from by rw [hwf]; exact boxS_new _ _ _ _ _ _)
 have HX1f := Lib.hid (HX1.out.later HBdf.out)
 have HO2 := Lib.hid (And.intro (hoi2.later HBef.out) (hok2.later HBef.out))
 have HO1f := Lib.hid (And.intro (HO1.out.1.later HBdf.out) (HO1.out.2.later HBdf.out))
 have HBF := Lib.hid (HBD.out.trans (HBdf.out.mono HBD.out.size))
 have HBXF := Lib.hid (HBXD.out.later HBdf.out)
 have HQF := Lib.hid (HQD.out.later HBdf.out)
 clear y0 y1 y2 y3 y4 yf HWD
 obtain ⟨y0, y1, y2, y3, y4, yf⟩ := HBXF.out
 have HWF := Lib.hid hwf
 rw [hwf] at y0 y1 y2 y3 y4 yf
 clear hwf hoi2 hok2 hbe
 go_wp2_with fail
 rw [<- HWF.out]
 refine (HC21.out wf HBF.out HQF.out).mono ?_
 rintro e wg ⟨p3, c3, rfl, hoy1, hbg⟩
 have HBG := Lib.hid (HBF.out.trans (hbg.mono HBF.out.size))
 have HBXG := Lib.hid (HBXF.out.later hbg)
 have HQG := Lib.hid (HQF.out.later hbg)
 have HBg := Lib.hid hbg
 have HY1 := Lib.hid hoy1
 clear y0 y1 y2 y3 y4 yf HWF hbg hoy1
 obtain ⟨y0, y1, y2, y3, y4, yf⟩ := HBXG.out
 go_wp2_with fail
 refine (HC22.out wg HQG.out).mono ?_
 rintro e wh ⟨p4, c4, rfl, hoy2, hbh⟩
 have HBfh := Lib.hid (HBg.out.trans (hbh.mono HBg.out.size))
 have HBH := Lib.hid (HBG.out.trans (hbh.mono HBG.out.size))
 have HY2 := Lib.hid (And.intro (HY1.out.later hbh) hoy2)
 clear y0 y1 y2 y3 y4 yf hoy2
 obtain ⟨a0', a1', a2', a3', a4', af⟩ := HX1f.out.later HBfh.out
 obtain ⟨b0', b1', b2', b3', b4', bf⟩ := HX2.out.later HBfh.out
 have ints : ∀ {w : World} {F : Nat -> Prop} {p : Option Addr} {c : Nat}, OwnI 44 w F (.slice p Y.lits.length c) Y.lits -> IntsIn w p Y.lits := by
  intro w F p c h
  obtain ⟨_, _, e, _, _, _, _, h, _⟩ := h.intsIn
  injection e with e _ _
  subst e; exact h
 have lks : ∀ {w : World} {F : Nat -> Prop} {p : Option Addr} {c : Nat}, OwnK w F (.slice p Y.links.length c) Y.links -> LksIn w p Y.links := by
  intro w F p c h
  obtain ⟨_, _, e, _, _, h, _⟩ := h.lks
  injection e with e _ _
  subst e; exact h
 have HS14 := Lib.hid (same14 Y p1 c1 q1 d1 Y p2 c2 q2 d2 wh (ints (HO1f.out.1.later HBfh.out)) (lks (HO1f.out.2.later HBfh.out)) (ints (HO2.out.1.later HBfh.out)) (lks (HO2.out.2.later HBfh.out)) (by have := HY.out; omega) (by have := HY.out; omega) (by have := HY.out; omega) (by have := HY.out; omega))
 rw [show decide (Y = Y) = true from decide_eq_true rfl] at HS14
 unfold stV at HS14
 have hee : (E1 == E1) = true := by simp
 have hff : (E2 == E2) = true := by simp
 clear hbh ints lks
 go_wp2_with fail
 refine HS14.out.mono ?_
 rintro e wi ⟨rfl, hbi⟩
 have HBI := Lib.hid (HBH.out.trans (hbi.mono HBH.out.size))
 have HS23 := Lib.hid (sameAll23 T T p3 c3 p4 c4 (fun _ => True) wi ((HY2.out.1.later hbi).mono (fun _ _ _ => trivial)) ((HY2.out.2.later hbi).mono (fun _ _ _ => trivial)) HTT.out.2 HTT.out.2 HTT.out.1 HTT.out.1)
 rw [show decide (T = T) = true from decide_eq_true rfl] at HS23
 clear hbi HS14
 go_wp2_with fail
 refine HS23.out.mono ?_
 rintro e wj ⟨rfl, hbj⟩
 have HBJ := Lib.hid (HBI.out.trans (hbj.mono HBI.out.size))
 have HKK := Lib.hid (HK.out wj HBJ.out)
 clear hbj HS23
 go_wp2_with fail
 refine HKK.out.mono ?_
 rintro e wz ⟨rfl, hbz⟩
 have HBZ := Lib.hid (HBJ.out.trans (hbz.mono HBJ.out.size))
 clear hbz
 go_wp2_with fail
 exact bodyPost_ret (v := .bool true) (by simp [results, Tryz.results4, go_sem]) rfl ⟨rfl, HBZ.out⟩
end Go.Proofs.YtookoagcmejkpaaGreatDoor
namespace Go.Proofs.YtookoagcmejkpaaGreatDoor
set_option maxRecDepth 100000
open Go Go.RowKit Go.WideShapes Go.ChangeShapes Go.WideElems Go.Deep
theorem cells41r : Tryz.prog.cellsOf 35 = 5 := by kernel_rfl
theorem cells33r : Tryz.prog.cellsOf 32 = 3 := by kernel_rfl
theorem cells31r : Tryz.prog.cellsOf 30 = 1 := by kernel_rfl
theorem cells9r : Tryz.prog.cellsOf 9 = 1 := by kernel_rfl
theorem cells3r : Tryz.prog.cellsOf 3 = 1 := by kernel_rfl
theorem cells4r : Tryz.prog.cellsOf 4 = 1 := by kernel_rfl
theorem cells39r : Tryz.prog.cellsOf 33 = 1 := by kernel_rfl
theorem bytes41r : Tryz.prog.bytesOf 35 = 64 := by kernel_rfl
theorem weightsAll_mem {H : Type} {P : Program} {t : TypeId} : ∀ {l : List (DataW H)} {d : DataW H}, d ∈ l -> ∀ n ∈ d.weights P t, n ∈ DataW.weightsAll P t l
 | [], _, h, _, _ => by cases h
 | d0 :: l, d, h, n, hn => by
  simp only [DataW.weightsAll, List.mem_append]
  rcases List.mem_cons.1 h with rfl | h
  ·exact .inl hn
  ·exact .inr (weightsAll_mem h n hn)
theorem three {α : Type} {l : List α} (h : l.length = 3) : ∃ a b c, l = [a, b, c] := by
 match l, h with
 | [a, b, c], _ => exact ⟨a, b, c, rfl⟩
theorem five {α : Type} {l : List α} (h : l.length = 5) : ∃ a b c d e, l = [a, b, c, d, e] := by
 match l, h with
 | [a, b, c, d, e], _ => exact ⟨a, b, c, d, e, rfl⟩
theorem read_tok {H : Type} {enc : TypeId × Value -> H} {W : World} {n : Nat} {v0 v1 v2 : Value} {x : DataW H × List MemPlace} (h : DataW.trod enc Tryz.prog W 0 (fun _ => true) true n 32 [v0, v1, v2] = some x) (hw : ∀ n ∈ x.1.weights Tryz.prog 32, n <= reachBytes) :
  ∃ (k : Int) (s : ByteArray) (a : Int), v0 = .int .u8 k /\ v1 = .string s /\ v2 = .int .i64 a /\ s.size <= 140737488351232 := by
 obtain ⟨xs, m, hk, hxy, _, hxl, hf⟩ := DataW.trod_struct Tryz.underlying32 h
 obtain ⟨y0, y1, y2, rfl⟩ := three hxl
 have g0 := hf 0 _ rfl
 have g1 := hf 1 _ rfl
 have g2 := hf 2 _ rfl
 simp [cells31r, cells9r, cells3r] at g0 g1 g2
 obtain ⟨k0, e0, _, w0⟩ := DataW.trod_int Tryz.underlying30 g0
 obtain ⟨k1, e1, f1, _⟩ := DataW.trod_string Tryz.underlying9 g1
 obtain ⟨k2, e2, _, w2⟩ := DataW.trod_int Tryz.underlying3 g2
 cases e0
 cases e1
 cases e2
 refine ⟨k0, k1, k2, rfl, rfl, rfl, ?_⟩
 have hda : x.1 = .agg [y0.1, y1.1, y2.1] := by rw [hxy]; rfl
 have := hw k1.data.toList.length (by
  rw [hda]
  simp only [DataW.weights, Tryz.underlying32]
  rw [f1]
  simp [DataW.weights, DataW.weightsEach])
 have h2 : k1.data.toList.length = k1.size := by simp
 have h3 : reachBytes = 140737488351232 := rfl
 omega
instance : Inhabited Fo := ⟨.nil⟩
theorem build_forest {W : World} {b off len : Nat} (q : Nat -> Bool × Int × ByteArray × Int × Option Addr × Fo × Nat)
  (hq : ∀ i, i < len -> W.cell? ⟨b, off + i * 5, none⟩ = some (.bool (q i).1) /\ W.cell? ⟨b, off + (i * 5 + 1), none⟩ = some (.int .u8 (q i).2.1) /\ W.cell? ⟨b, off + (i * 5 + 2), none⟩ = some (.string (q i).2.2.1) /\ W.cell? ⟨b, off + (i * 5 + 3), none⟩ = some (.int .i64 (q i).2.2.2.1) /\ W.cell? ⟨b, off + (i * 5 + 4), none⟩ = some (.slice (q i).2.2.2.2.1 (q i).2.2.2.2.2.1.len (q i).2.2.2.2.2.2) ∧
   (q i).2.2.2.2.2.1.len <= (q i).2.2.2.2.2.2 /\ (q i).2.2.2.2.2.1.len <= 281474976710656 /\ FoIn W (fun _ => True) (q i).2.2.2.2.2.1 (q i).2.2.2.2.1 /\ (q i).2.2.1.size <= 140737488351232 /\ szB 140737488351232 (q i).2.2.2.2.2.1) :
  ∀ j i, i + j = len -> ∃ f : Fo, f.len = j /\ FoIn W (fun _ => True) f (pl (some ⟨b, off, none⟩) i) /\ szB 140737488351232 f
 | 0, i, _ => ⟨.nil, rfl, trivial, trivial⟩
 | j + 1, i, h => by
  obtain ⟨f, h1, h2, h3⟩ := build_forest q hq j (i + 1) (by omega)
  obtain ⟨c0, c1, c2, c3, c4, n1, n2, hk, z1, z2⟩ := hq i (by omega)
  refine ⟨.cons (q i).1 (q i).2.1 (q i).2.2.1 (q i).2.2.2.1 (q i).2.2.2.2.2.1 f, by simp [Fo.len, h1], ⟨b, off + i * 5, rfl, trivial, c0, ?_, ?_, ?_, ⟨_, _, ?_, n1, n2, hk⟩, ?_⟩, z1, z2, h3⟩
  ·rw [Nat.add_assoc]; exact c1
  ·rw [Nat.add_assoc]; exact c2
  ·rw [Nat.add_assoc]; exact c3
  ·rw [Nat.add_assoc]; exact c4
  ·have e : pl (some ⟨b, off, none⟩) (i + 1) = some ⟨b, off + i * 5 + 5, none⟩ := by
    simp only [pl, Option.map_some, Option.some.injEq, Addr.mk.injEq]; exact ⟨trivial, by omega, trivial⟩
   rw [<- e]; exact h2
theorem read_forest {H : Type} {enc : TypeId × Value -> H} {W : World} (m : Nat) : ∀ (fuel : Nat) (y : Value) (x : DataW H × List MemPlace), SizeOf.sizeOf x.1 <= m -> DataW.trod enc Tryz.prog W 0 (fun _ => true) true fuel 33 [y] = some x -> (∀ n ∈ x.1.weights Tryz.prog 33, n <= reachBytes) →
  ∃ (q : Option Addr) (f : Fo) (c : Nat), y = .slice q f.len c /\ f.len <= c /\ c <= 2199023255488 /\ FoIn W (fun _ => True) f q /\ szB 140737488351232 f := by
 induction m using Nat.strongRecOn with
 | _ m ih =>
 intro fuel y x hm hf hw
 rcases open_slice Tryz.underlying33 hf with ⟨hcs, hx⟩ | ⟨a', len, cap, mm, n, Dd, Pl, hcs, _, hl, hmx, hmm, hd, hx⟩
 ·simp at hcs
  exact ⟨none, .nil, 0, hcs, Nat.le_refl _, by omega, trivial, trivial⟩
 ·simp at hcs
  simp only [if_true] at hmm
  have hd1 : x.1 = .slice ((List.range len).map Dd) ((List.range (mm - len)).map fun j => Dd (len + j)) := by rw [hd]
  have hcap : cap <= 2199023255488 := by
   have h2 := hw ((len + (mm - len)) * Tryz.prog.bytesOf 35) (by rw [hd1]; simp [DataW.weights, Tryz.underlying33])
   rw [bytes41r] at h2
   have : reachBytes = 140737488351232 := rfl
   omega
  have each : ∀ i, i < len -> ∃ q : Bool × Int × ByteArray × Int × Option Addr × Fo × Nat, W.cell? (a'.add (i * 5)) = some (.bool q.1) /\ W.cell? (a'.add (i * 5 + 1)) = some (.int .u8 q.2.1) /\ W.cell? (a'.add (i * 5 + 2)) = some (.string q.2.2.1) /\ W.cell? (a'.add (i * 5 + 3)) = some (.int .i64 q.2.2.2.1) /\ W.cell? (a'.add (i * 5 + 4)) = some (.slice q.2.2.2.2.1 q.2.2.2.2.2.1.len q.2.2.2.2.2.2) ∧
    q.2.2.2.2.2.1.len <= q.2.2.2.2.2.2 /\ q.2.2.2.2.2.1.len <= 281474976710656 /\ FoIn W (fun _ => True) q.2.2.2.2.2.1 q.2.2.2.2.1 /\ q.2.2.1.size <= 140737488351232 /\ szB 140737488351232 q.2.2.2.2.2.1 := by
   intro i hi
   obtain ⟨cs', h1, h2⟩ := hx i (by omega)
   rw [cells41r] at h1
   obtain ⟨_, hlen, hcell⟩ := World.cells?_some h1
   obtain ⟨v0, v1, v2, v3, v4, rfl⟩ := five hlen
   have hmem : Dd i ∈ (List.range len).map Dd := List.mem_map.2 ⟨i, List.mem_range.2 hi, rfl⟩
   have hwi : ∀ n ∈ (Dd i).weights Tryz.prog 35, n <= reachBytes := fun n hn => hw n (by
    rw [hd1]
    simp only [DataW.weights, Tryz.underlying33]
    exact List.mem_cons_of_mem _ (List.mem_append_left _ (weightsAll_mem hmem n hn)))
   have hsz : SizeOf.sizeOf (Dd i) < SizeOf.sizeOf x.1 := by
    rw [hd1]
    have := List.sizeOf_lt_of_mem hmem
    simp only [DataW.slice.sizeOf_spec]; omega
   obtain ⟨xs, k, hk, hxy, _, hxl, hf2⟩ := DataW.trod_struct Tryz.underlying35 h2
   obtain ⟨y0, y1, y2, rfl⟩ := three hxl
   have hda : Dd i = .agg [y0.1, y1.1, y2.1] := (Prod.mk.inj hxy).1
   have g0 := hf2 0 _ rfl
   have g1 := hf2 1 _ rfl
   have g2 := hf2 2 _ rfl
   simp [cells4r, cells33r, cells39r] at g0 g1 g2
   obtain ⟨b0, e0, _⟩ := DataW.trod_bool Tryz.underlying4 g0
   obtain ⟨kk, ss, aa, rfl, rfl, rfl, hss⟩ := read_tok g1 (fun n hn => hwi n (by
    rw [hda]
    simp only [DataW.weights, Tryz.underlying35, List.map_cons, List.map_nil, DataW.weightsEach]
    simp [hn]))
   obtain ⟨q2, f2, c2, rfl, n1, n2, hfo, hz⟩ := ih (SizeOf.sizeOf y2.1) (by
    rw [hda] at hsz
    simp at hsz
    omega) k v4 y2 (Nat.le_refl _) g2 (fun n hn => hwi n (by
    rw [hda]
    simp only [DataW.weights, Tryz.underlying35, List.map_cons, List.map_nil, DataW.weightsEach]
    simp [hn]))
   cases e0
   have c0' := hcell 0 (by omega)
   have c1' := hcell 1 (by omega)
   have c2' := hcell 2 (by omega)
   have c3' := hcell 3 (by omega)
   have c4' := hcell 4 (by omega)
   rw [add_add] at c0' c1' c2' c3' c4'
   exact ⟨(b0, kk, ss, aa, q2, f2, c2), by simpa using c0', by simpa using c1', by simpa using c2', by simpa using c3', by simpa using c4', n1, by simp only; omega, hfo, hss, hz⟩
  obtain ⟨q, hq⟩ := choose_lt each
  by_cases h0 : len = 0
  ·subst h0
   exact ⟨some a', .nil, cap, hcs, hl, hcap, trivial, trivial⟩
  ·obtain ⟨b, off, spot⟩ := a'
   have hspot : spot = none := by simpa [Addr.add] using World.cell?_spot (hq 0 (by omega)).1
   subst hspot
   obtain ⟨f, h1, h2, h3⟩ := build_forest (W := W) (b := b) (off := off) (len := len) q (fun i hi => by
    obtain ⟨c0, c1, c2, c3, c4, r⟩ := hq i hi
    rw [Lib.add_plain] at c0 c1 c2 c3 c4
    exact ⟨c0, c1, c2, c3, c4, r⟩) len 0 (by omega)
   refine ⟨some ⟨b, off, none⟩, f, cap, by rw [h1]; exact hcs, by omega, hcap, ?_, h3⟩
   have e : pl (some ⟨b, off, none⟩) 0 = some ⟨b, off, none⟩ := by simp [pl]
   rw [<- e]; exact h2
theorem read_tree {H : Type} {enc : TypeId × Value -> H} {W : World} {base : Nat} {v : Value} {d : DataW H} {p : List MemPlace} (hval : Value.okWide Tryz.prog W .any base 35 v) (h : DataW.Trod enc Tryz.prog W 0 (fun _ => true) true 35 v d p) (hw : ∀ n ∈ d.weights Tryz.prog 35, n <= reachBytes) :
  ∃ (l : Bool) (k : Int) (s : ByteArray) (a : Int) (q : Option Addr) (c : Nat) (x : Fo), v = .agg #[.bool l, .int .u8 k, .string s, .int .i64 a, .slice q x.len c] /\ x.len <= c /\ x.len <= 281474976710656 /\ s.size <= 140737488351232 /\ FoIn W (fun _ => True) x q /\ szB 140737488351232 x := by
 obtain ⟨cs, rfl, hcs⟩ := okWide_struct Tryz.underlying35 hval
 rw [cells41r] at hcs
 obtain ⟨fuel, hf⟩ := h
 obtain ⟨cl⟩ := cs
 obtain ⟨v0, v1, v2, v3, v4, rfl⟩ := five (l := cl) (by simpa using hcs)
 obtain ⟨xs, k, hk, hxy, _, hxl, hf2⟩ := DataW.trod_struct Tryz.underlying35 hf
 obtain ⟨y0, y1, y2, rfl⟩ := three hxl
 have hda : d = .agg [y0.1, y1.1, y2.1] := (Prod.mk.inj hxy).1
 have g0 := hf2 0 _ rfl
 have g1 := hf2 1 _ rfl
 have g2 := hf2 2 _ rfl
 simp [Value.cells, cells4r, cells33r, cells39r] at g0 g1 g2
 obtain ⟨b0, e0, _⟩ := DataW.trod_bool Tryz.underlying4 g0
 obtain ⟨kk, ss, aa, rfl, rfl, rfl, hss⟩ := read_tok g1 (fun n hn => hw n (by
  rw [hda]
  simp only [DataW.weights, Tryz.underlying35, List.map_cons, List.map_nil, DataW.weightsEach]
  simp [hn]))
 obtain ⟨q2, f2, c2, rfl, n1, n2, hfo, hz⟩ := read_forest _ k v4 y2 (Nat.le_refl _) g2 (fun n hn => hw n (by
  rw [hda]
  simp only [DataW.weights, Tryz.underlying35, List.map_cons, List.map_nil, DataW.weightsEach]
  simp [hn]))
 cases e0
 exact ⟨b0, kk, ss, aa, q2, c2, f2, rfl, n1, by omega, hss, hfo, hz⟩
end Go.Proofs.YtookoagcmejkpaaGreatDoor
