/- The next field is read. -/
import Derived.Test.YtookoagcmejkpaaGreatDoorJ24
set_option maxHeartbeats 3200000
namespace Go.Proofs.YtookoagcmejkpaaGreatDoor
set_option maxRecDepth 100000
open Go Go.RowKit
structure RdB (w : World) (B : Nat) (q : Option Addr) (n c : Nat) (ok : Bool) : Prop where
 c0 : w.cell? ⟨B, 0, none⟩ = some (.slice q n c)
 c1 : w.cell? ⟨B, 1, none⟩ = some (.bool ok)
 fz : ∀ o, w.frozen? ⟨B, o, none⟩ = false
theorem RdB.lt {w : World} {B : Nat} {q : Option Addr} {n c : Nat} {ok : Bool} (h : RdB w B q n c ok) : B < w.heap.size := World.block_lt_of_cell? w _ h.c0
theorem RdB.only {w w' : World} {B : Nat} {q : Option Addr} {n c : Nat} {ok : Bool} {T : Nat -> Prop} (h : RdB w B q n c ok) (ho : Only T w w') (hn : ¬ T B) : RdB w' B q n c ok :=
 ⟨ho.cell h.c0 hn, ho.cell h.c1 hn, fun o => by rw [ho.frozen (a := ⟨B, o, none⟩) h.lt hn]; exact h.fz o⟩
theorem RdB.later {w w' : World} {B : Nat} {q : Option Addr} {n c : Nat} {ok : Bool} (h : RdB w B q n c ok) (hb : Below w.heap.size w w') : RdB w' B q n c ok :=
 h.only (Only.of_below (T := fun _ => False) hb) (fun h => h)
theorem RdB.set0 {w : World} {B : Nat} {q q' : Option Addr} {n c n' c' : Nat} {ok : Bool} (h : RdB w B q n c ok) : RdB (w.setCell ⟨B, 0, none⟩ (.slice q' n' c')) B q' n' c' ok := by
 refine ⟨?_, ?_, fun o => ?_⟩
 ·have := h.c0
  have hf := h.fz 0;simp [go_sem, this]
 ·rw [World.cell?_setCell_other _ _ _ _ (by intro e; cases e)]; exact h.c1
 ·have := h.fz o
  simp [go_sem, this]
theorem RdB.set1 {w : World} {B : Nat} {q : Option Addr} {n c : Nat} {ok : Bool} (h : RdB w B q n c ok) (ok' : Bool) : RdB (w.setCell ⟨B, 1, none⟩ (.bool ok')) B q n c ok' := by
 refine ⟨?_, ?_, fun o => ?_⟩
 ·rw [World.cell?_setCell_other _ _ _ _ (by intro e; cases e)]; exact h.c0
 ·have := h.c1
  have hf := h.fz 1;simp [go_sem, this]
 ·have := h.fz o
  simp [go_sem, this]
structure NxC (w w' : World) (B Bt ot : Nat) (n : Int) : Prop where
 only : Only (fun k => k = B \/ k = Bt) w w'
 to : w'.cell? ⟨Bt, ot, none⟩ = some (.int .i64 n)
 cells : ∀ o v, o ≠ ot -> w.cell? ⟨Bt, o, none⟩ = some v -> w'.cell? ⟨Bt, o, none⟩ = some v
 fz : ∀ o, w'.frozen? ⟨Bt, o, none⟩ = w.frozen? ⟨Bt, o, none⟩
theorem qls (B : Nat) (q : Option Addr) (n c : Nat) (ok : Bool) (Bt ot : Nat) (W : World) (h : RdB W B q n c ok) (ht : W.cell? ⟨Bt, ot, none⟩ = some (.int .i64 0)) :
  Calls Tryz.prog 76 #[.pointer (some ⟨B, 0, none⟩), .bool false, .pointer (some ⟨Bt, ot, none⟩)] W fun e w' => e = .returned (.tuple #[]) /\ RdB w' B q n c ok /\ NxC W w' B Bt ot 0 := by
 have HH := Zh (aI h ht);clear h ht;go_enter Tryz.func76, Tryz.ntmps76
 go_wp2_with fail
 refine bodyPost_ret (v := .tuple #[]) (by simp [results, Tryz.results76, go_sem]) rfl ?_;exact ⟨rfl, HH.o.1, Only.refl _ _, HH.o.2, fun _ _ _ h => h, fun _ => rfl⟩
theorem qlt (B : Nat) (q : Option Addr) (c : Nat) (ok : Bool) (Bt ot : Nat) (W : World) (h : RdB W B q 0 c ok) (ht : W.cell? ⟨Bt, ot, none⟩ = some (.int .i64 0)) (hne : Bt ≠ B) :
  Calls Tryz.prog 76 #[.pointer (some ⟨B, 0, none⟩), .bool true, .pointer (some ⟨Bt, ot, none⟩)] W fun e w' => e = .returned (.tuple #[]) /\ RdB w' B q 0 c false /\ NxC W w' B Bt ot 0 := by
 have HH := Zh (aI h ht);obtain ⟨y0, y1, yf⟩ := h;clear ht;go_enter Tryz.func76, Tryz.ntmps76
 go_wp2_with fail
 refine bodyPost_ret (v := .tuple #[]) (by simp [results, Tryz.results76, go_sem]) rfl ?_;refine ⟨rfl, HH.o.1.set1 false, ⟨(Only.of_setCell _ _ _).mono (fun k _ e => Or.inl e), ?_, ?_, ?_⟩⟩
 ·rw [World.cell?_setCell_other _ _ _ _ (by intro e; injection e with e; exact hne e.symm)]; exact HH.o.2
 ·intro o v _ hv
  rw [World.cell?_setCell_other _ _ _ _ (by intro e; injection e with e; exact hne e.symm)]; exact hv
 ·intro o
  rw [World.frozen?_setCell]
theorem qfi (B : Nat) (l : Bool) (k : Int) (s : ByteArray) (a : Int) (x r : Fo) (q : Option Addr) (c : Nat) (F : Nat -> Prop) (Bt ot : Nat) (W : World) (hq : FoIn W F (.cons l k s a x r) q) (hc : r.len + 1 <= c) (hm : r.len + 1 <= 281474976710656) (hF : ∀ b, F b -> b ≠ B /\ b ≠ Bt) (hx : TxOK (.cons l k s a x r)) (h : RdB W B q (r.len + 1) c true) (ht : W.cell? ⟨Bt, ot, none⟩ = some (.int .i64 0)) (htf : W.frozen? ⟨Bt, ot, none⟩ = false) (hne : Bt ≠ B) :
  Calls Tryz.prog 76 #[.pointer (some ⟨B, 0, none⟩), .bool true, .pointer (some ⟨Bt, ot, none⟩)] W fun e w' => e = .returned (.tuple #[]) /\ ∃ q' c', RdB w' B q' r.len c' (true && (numP l k s x).2) /\ r.len <= c' /\ FoIn w' F r q' /\ NxC W w' B Bt ot (numP l k s x).1 := by
 obtain ⟨m, hm'⟩ : ∃ m : Nat, m = r.len + 1 := ⟨_, rfl⟩
 have hsl : ∀ (b off : Nat) (w : World), (Instr.slice 33 (.slice (some ⟨b, off, none⟩) m c) (some (.int .i64 1)) none none).run Tryz.prog w = .ok (.slice (if c = 1 then some ⟨b, off, none⟩ else some ⟨b, off + 5, none⟩) r.len (c - 1)) w := fun b off w => by
  rw [hm']; exact qez w b off r.len c hc
 rw [<- hm'] at hc hm h;have hlt : (0 : Int) < (m : Int) := by omega
 have hneq : ((m : Int) == 0) = false := by simp; omega
 have n1 : (m : Int) <= 281474976710656 := by omega
 have HMM := Zh hm';have HC := Zh hc;have HR := Zh (aI h (aI ht (aI htf (aI hq (aI hF hne)))));obtain ⟨b, off, rfl, _, c0, c1, c2, c3, ⟨q4, d4, c4, hl4, hm4, hq4⟩, hr⟩ := hq;have HN := Zh (qfn l k s a x q4 d4 W F hq4 hl4 hm4 hx.1 hx.2.1);obtain ⟨v1, v2, hv⟩ : ∃ v1 v2, numP l k s x = (v1, v2) := ⟨_, _, rfl⟩;rw [hv] at HN ⊢
 dsimp only at HN ⊢
 have hs2 := hsl b off;obtain ⟨z, hz⟩ : ∃ z, z = (if c = 1 then some (⟨b, off, none⟩ : Addr) else some ⟨b, off + 5, none⟩) := ⟨_, rfl⟩;have HZ := Zh hz;rw [<- hz] at hs2;have HSL := Zh hs2;obtain ⟨y0, y1, yf⟩ := h;unfold trV at HN;clear hq4 hl4 hm4 hr hc hm hm' hz hsl hs2 ht htf hF hx hne hv;go_enter Tryz.func76, Tryz.ntmps76
 go_wp2_with fail
 refine HN.o.mono ?_;rintro e w2 ⟨rfl, hb⟩;have HB := Zh hb;clear hb HN c0 c1 c2 c3 c4 y0 y1 yf
 go_wp2_with fail
 have HD := Zh (HB.o.trans ((qae w2).mono HB.o.size));refine qai [(1000, (fun _ => True : World -> Prop)), (17, (fun w => w.cell? ⟨B, 0, none⟩ = some (.slice (some ⟨b, off, none⟩) m c) /\ w.cell? ⟨B, 1, none⟩ = some (.bool true) : World -> Prop))] (by kernel_rfl) (SL.cons (fun _ => trivial) (SL.cons (fun _ => ⟨(HR.o.1.later HD.o).c0, (HR.o.1.later HD.o).c1⟩) SL.nil)) (fun hH => ?_);generalize w2.drew = wd at *;refine tk 0 0 ⟨some 29, .move (.tmp 2), 116, "read.go:109", #[], none⟩ ?_ rfl rfl ?_ hH fun hH => ?_
 rotate_left
 ·intro w hSw; (try dsimp only at hSw); go_simp; try with_reducible rfl
 try simp only [Act.put, sI, s0, s1]
 refine tk 0 1 ⟨some 30, .move (.tmp 0), 118, "read.go:109", #[⟨17, .gcOnly .lateStores⟩], none⟩ ?_ rfl rfl ?_ hH fun hH => ?_
 rotate_left
 ·intro w hSw; (try dsimp only at hSw); go_simp; try with_reducible rfl
 try simp only [Act.put, sI, s0, s1]
 refine tk 0 2 ⟨some 31, .move (.tmp 0), 118, "read.go:109", #[⟨20, .gcOnly .lateStores⟩], none⟩ ?_ rfl rfl ?_ hH fun hH => ?_
 rotate_left
 ·intro w hSw; (try dsimp only at hSw); go_simp; try with_reducible rfl
 try simp only [Act.put, sI, s0, s1]
 refine tk 0 3 ⟨some 32, .move (.tmp 6), 3, "read.go:109", #[], none⟩ ?_ rfl rfl ?_ hH fun hH => ?_
 rotate_left
 ·intro w hSw; (try dsimp only at hSw); go_simp; try with_reducible rfl
 try simp only [Act.put, sI, s0, s1]
 refine tk 0 4 ⟨some 33, .move (.tmp 0), 118, "read.go:109", #[], none⟩ ?_ rfl rfl ?_ hH fun hH => ?_
 rotate_left
 ·intro w hSw; (try dsimp only at hSw); go_simp; try with_reducible rfl
 try simp only [Act.put, sI, s0, s1]
 refine tk 0 5 ⟨some 34, .nilCheck (.tmp 33), 0, "read.go:109", #[⟨4, .data⟩], none⟩ ?_ rfl rfl ?_ hH fun hH => ?_
 rotate_left
 ·intro w hSw; (try dsimp only at hSw); go_simp; try with_reducible rfl
 try simp only [Act.put, sI, s0, s1]
 refine tk 0 6 ⟨some 35, .fieldAddr 114 (.tmp 34) 0, 0, "read.go:109", #[⟨5, .data⟩], none⟩ ?_ rfl rfl ?_ hH fun hH => ?_
 rotate_left
 ·intro w hSw; (try dsimp only at hSw); go_simp; try with_reducible rfl
 try simp only [Act.put, sI, s0, s1]
 refine tk 1 7 ⟨some 36, .load 33 (.tmp 35), 33, "read.go:109", #[⟨6, .data⟩], none⟩ ?_ rfl rfl ?_ hH fun hH => ?_
 rotate_left
 ·intro w hSw; (try dsimp only at hSw); obtain ⟨x0, x1⟩ := hSw; go_simp; try with_reducible rfl
 try simp only [Act.put, sI, s0, s1]
 refine tk 0 8 ⟨some 37, .slice 33 (.tmp 36) (some (.const (.int .i64 1))) none none, 33, "read.go:109", #[⟨7, .data⟩], none⟩ ?_ rfl rfl ?_ hH fun hH => ?_
 rotate_left
 ·intro w hSw
  (try dsimp only at hSw)
  have hh := HSL.o w;go_simp
  try with_reducible rfl
 try simp only [Act.put, sI, s0, s1]
 refine tk 0 9 ⟨some 38, .move (.tmp 0), 118, "read.go:109", #[], none⟩ ?_ rfl rfl ?_ hH fun hH => ?_
 rotate_left
 ·intro w hSw; (try dsimp only at hSw); go_simp; try with_reducible rfl
 try simp only [Act.put, sI, s0, s1]
 refine tk 0 10 ⟨some 39, .nilCheck (.tmp 38), 0, "read.go:109", #[⟨9, .data⟩], none⟩ ?_ rfl rfl ?_ hH fun hH => ?_
 rotate_left
 ·intro w hSw; (try dsimp only at hSw); go_simp; try with_reducible rfl
 try simp only [Act.put, sI, s0, s1]
 refine tk 0 11 ⟨some 40, .fieldAddr 114 (.tmp 39) 1, 0, "read.go:109", #[⟨10, .data⟩], none⟩ ?_ rfl rfl ?_ hH fun hH => ?_
 rotate_left
 ·intro w hSw; (try dsimp only at hSw); go_simp; try with_reducible rfl
 try simp only [Act.put, sI, s0, s1]
 refine tk 1 12 ⟨some 41, .load 4 (.tmp 40), 4, "read.go:109", #[⟨11, .data⟩], none⟩ ?_ rfl rfl ?_ hH fun hH => ?_
 rotate_left
 ·intro w hSw; (try dsimp only at hSw); obtain ⟨x0, x1⟩ := hSw; go_simp; try with_reducible rfl
 try simp only [Act.put, sI, s0, s1]
 refine tk 0 13 ⟨some 42, .move (.tmp 41), 4, "read.go:109", #[⟨12, .data⟩], none⟩ ?_ rfl rfl ?_ hH fun hH => ?_
 rotate_left
 ·intro w hSw; (try dsimp only at hSw); go_simp; try with_reducible rfl
 try simp only [Act.put, sI, s0, s1]
 refine tk 0 14 ⟨some 43, .move (.tmp 7), 4, "read.go:109", #[⟨13, .guard⟩], some (13, true)⟩ ?_ rfl rfl ?_ hH fun hH => ?_
 rotate_left
 ·intro w hSw; (try dsimp only at hSw); go_simp; try with_reducible rfl
 try simp only [Act.put, sI, s0, s1]
 refine tk 0 15 ⟨some 44, .pick (.tmp 42) (.tmp 43) (.const (.bool false)), 4, "read.go:109", #[⟨13, .data⟩, ⟨14, .data⟩], none⟩ ?_ rfl rfl ?_ hH fun hH => ?_
 rotate_left
 ·intro w hSw; (try dsimp only at hSw); go_simp; try with_reducible rfl
 try simp only [Act.put, sI, s0, s1]
 refine tk 0 16 ⟨some 45, .nilCheck (.tmp 29), 0, "read.go:109", #[⟨0, .data⟩, ⟨0, .phase⟩, ⟨1, .textOnly .lateStores⟩, ⟨2, .textOnly .lateStores⟩, ⟨3, .phase⟩, ⟨4, .textOnly .lateStores⟩, ⟨5, .textOnly .lateStoresUnsure⟩, ⟨6, .textOnly .lateStoresUnsure⟩, ⟨7, .phase⟩, ⟨8, .textOnly .lateStoresUnsure⟩, ⟨9, .textOnly .lateStores⟩, ⟨10, .textOnly .lateStoresUnsure⟩, ⟨11, .textOnly .lateStoresUnsure⟩, ⟨12, .phase⟩, ⟨13, .textOnly .lateStoresUnsure⟩, ⟨14, .textOnly .lateStores⟩, ⟨15, .textOnly .lateStoresUnsure⟩], none⟩ ?_ rfl rfl ?_ hH fun hH => ?_
 rotate_left
 ·intro w hSw; (try dsimp only at hSw); go_simp; try with_reducible rfl
 try simp only [Act.put, sI, s0, s1]
 have HX := Zh (aI (HR.o.1.later HD.o) (aI (qaa HD.o HR.o.2.1) (show wd.frozen? ⟨Bt, ot, none⟩ = false from by rw [HD.o.frozen (p := ⟨Bt, ot, none⟩) (World.block_lt_of_cell? W _ HR.o.2.1)]; exact HR.o.2.2.1)));have t0 := HX.o.2.1;have tf := HX.o.2.2;refine qac (rs := [17]) (by kernel_rfl) (by simp) ?_;refine AllReadyL.cons (o := ⟨none, .store 3 (.tmp 45) (.tmp 32), 0, "read.go:109", #[⟨16, .data⟩, ⟨3, .data⟩, ⟨13, .chain⟩, ⟨0, .phase⟩, ⟨1, .textOnly .lateStores⟩, ⟨2, .textOnly .lateStores⟩, ⟨3, .phase⟩, ⟨4, .textOnly .lateStores⟩, ⟨5, .textOnly .lateStoresUnsure⟩, ⟨6, .textOnly .lateStoresUnsure⟩, ⟨7, .phase⟩, ⟨8, .textOnly .lateStoresUnsure⟩, ⟨9, .textOnly .lateStores⟩, ⟨10, .textOnly .lateStoresUnsure⟩, ⟨11, .textOnly .lateStoresUnsure⟩, ⟨12, .phase⟩, ⟨13, .textOnly .lateStoresUnsure⟩, ⟨14, .textOnly .lateStores⟩, ⟨15, .textOnly .lateStoresUnsure⟩], none⟩) rfl (fun K hK => ?_) AllReadyL.nil;go_simp;refine hK.out _ _ (SL.cons (fun _ => trivial) (SL.cons (fun h => absurd h (by decide +kernel)) SL.nil)) (fun hH => ?_);clear hK K
 try simp only [Act.put, sI, s0, s1]
 obtain ⟨we, hwe⟩ : ∃ we, we = wd.setCell ⟨Bt, ot, none⟩ (.int .i64 v1) := ⟨_, rfl⟩;have HRE := Zh (show RdB we B (some ⟨b, off, none⟩) m c true from by rw [hwe]; exact HX.o.1.only (Only.of_setCell _ _ _) (fun e => HR.o.2.2.2.2.2 e.symm))
 have HTE := Zh (show we.cell? ⟨Bt, ot, none⟩ = some (.int .i64 v1) /\ Only (fun k => k = Bt) wd we /\ (∀ o v, o ≠ ot -> wd.cell? ⟨Bt, o, none⟩ = some v -> we.cell? ⟨Bt, o, none⟩ = some v) /\ ∀ a, we.frozen? a = wd.frozen? a from by
  rw [hwe];refine ⟨by simp [go_sem, t0], Only.of_setCell wd ⟨Bt, ot, none⟩ _, fun o v ho hv => ?_, fun a => by rw [World.frozen?_setCell]⟩
  rw [World.cell?_setCell_other _ _ _ _ (by intro e; injection e with _ e; exact ho e.symm)]; exact hv)
 rw [<- hwe];clear hwe t0 tf hH;obtain ⟨y0, y1, yf⟩ := HRE.o;refine qac (rs := [18]) (by kernel_rfl) (by simp) ?_;refine AllReadyL.cons (o := ⟨some 46, .nilCheck (.tmp 30), 0, "read.go:109", #[⟨1, .data⟩, ⟨0, .phase⟩, ⟨1, .phase⟩, ⟨2, .textOnly .lateStores⟩, ⟨3, .phase⟩, ⟨4, .phase⟩, ⟨5, .phase⟩, ⟨6, .phase⟩, ⟨7, .phase⟩, ⟨8, .phase⟩, ⟨9, .textOnly .lateStores⟩, ⟨10, .textOnly .lateStoresUnsure⟩, ⟨11, .textOnly .lateStoresUnsure⟩, ⟨12, .phase⟩, ⟨13, .textOnly .lateStoresUnsure⟩, ⟨14, .textOnly .lateStores⟩, ⟨15, .textOnly .lateStoresUnsure⟩, ⟨16, .phase⟩, ⟨17, .phase⟩], none⟩) rfl (fun K hK => ?_) AllReadyL.nil;go_simp;refine hK.out _ _ (SL.cons (fun _ => trivial) (SL.cons (fun h => absurd h (by decide +kernel)) SL.nil)) (fun hH => ?_);clear hK K
 try simp only [Act.put, sI, s0, s1]
 refine qac (rs := [19]) (by kernel_rfl) (by simp) ?_;refine AllReadyL.cons (o := ⟨some 47, .fieldAddr 114 (.tmp 46) 0, 0, "read.go:109", #[⟨18, .data⟩, ⟨0, .phase⟩, ⟨1, .phase⟩, ⟨2, .textOnly .lateStores⟩, ⟨3, .phase⟩, ⟨4, .phase⟩, ⟨5, .phase⟩, ⟨6, .phase⟩, ⟨7, .phase⟩, ⟨8, .phase⟩, ⟨9, .textOnly .lateStores⟩, ⟨10, .textOnly .lateStoresUnsure⟩, ⟨11, .textOnly .lateStoresUnsure⟩, ⟨12, .phase⟩, ⟨13, .textOnly .lateStoresUnsure⟩, ⟨14, .textOnly .lateStores⟩, ⟨15, .textOnly .lateStoresUnsure⟩, ⟨16, .phase⟩, ⟨17, .phase⟩], none⟩) rfl (fun K hK => ?_) AllReadyL.nil;go_simp;refine hK.out _ _ (SL.cons (fun _ => trivial) (SL.cons (fun h => absurd h (by decide +kernel)) SL.nil)) (fun hH => ?_);clear hK K
 try simp only [Act.put, sI, s0, s1]
 refine qac (rs := [20]) (by kernel_rfl) (by simp) ?_;refine AllReadyL.cons (o := ⟨none, .store 33 (.tmp 47) (.tmp 37), 0, "read.go:109", #[⟨19, .data⟩, ⟨8, .data⟩, ⟨17, .chain⟩, ⟨0, .phase⟩, ⟨1, .phase⟩, ⟨2, .textOnly .lateStores⟩, ⟨3, .phase⟩, ⟨4, .phase⟩, ⟨5, .phase⟩, ⟨6, .phase⟩, ⟨7, .phase⟩, ⟨8, .phase⟩, ⟨9, .textOnly .lateStores⟩, ⟨10, .textOnly .lateStoresUnsure⟩, ⟨11, .textOnly .lateStoresUnsure⟩, ⟨12, .phase⟩, ⟨13, .textOnly .lateStoresUnsure⟩, ⟨14, .textOnly .lateStores⟩, ⟨15, .textOnly .lateStoresUnsure⟩, ⟨16, .phase⟩, ⟨17, .phase⟩], none⟩) rfl (fun K hK => ?_) AllReadyL.nil;go_simp;refine hK.out _ _ (SL.cons (fun _ => trivial) (SL.cons (fun h => absurd h (by decide +kernel)) SL.nil)) (fun hH => ?_);clear hK K
 try simp only [Act.put, sI, s0, s1]
 obtain ⟨wf, hwf⟩ : ∃ wf, wf = we.setCell ⟨B, 0, none⟩ (.slice z r.len (c - 1)) := ⟨_, rfl⟩;have HRF := Zh (show RdB wf B z r.len (c - 1) true from by rw [hwf]; exact HRE.o.set0);have HOF := Zh (show Only (fun k => k = B) we wf from by rw [hwf]; exact Only.of_setCell we ⟨B, 0, none⟩ _);rw [<- hwf];clear hwf y0 y1 yf;obtain ⟨y0, y1, yf⟩ := HRF.o;refine qac (rs := [21]) (by kernel_rfl) (by simp) ?_;refine AllReadyL.cons (o := ⟨some 48, .nilCheck (.tmp 31), 0, "read.go:109", #[⟨2, .data⟩, ⟨0, .phase⟩, ⟨1, .phase⟩, ⟨2, .phase⟩, ⟨3, .phase⟩, ⟨4, .phase⟩, ⟨5, .phase⟩, ⟨6, .phase⟩, ⟨7, .phase⟩, ⟨8, .phase⟩, ⟨9, .phase⟩, ⟨10, .phase⟩, ⟨11, .phase⟩, ⟨12, .phase⟩, ⟨13, .phase⟩, ⟨14, .phase⟩, ⟨15, .phase⟩, ⟨16, .phase⟩, ⟨17, .phase⟩, ⟨18, .phase⟩, ⟨19, .phase⟩, ⟨20, .phase⟩], none⟩) rfl (fun K hK => ?_) AllReadyL.nil;go_simp;refine hK.out _ _ (SL.cons (fun _ => trivial) (SL.cons (fun h => absurd h (by decide +kernel)) SL.nil)) (fun hH => ?_);clear hK K
 try simp only [Act.put, sI, s0, s1]
 refine qac (rs := [22]) (by kernel_rfl) (by simp) ?_;refine AllReadyL.cons (o := ⟨some 49, .fieldAddr 114 (.tmp 48) 1, 0, "read.go:109", #[⟨21, .data⟩, ⟨0, .phase⟩, ⟨1, .phase⟩, ⟨2, .phase⟩, ⟨3, .phase⟩, ⟨4, .phase⟩, ⟨5, .phase⟩, ⟨6, .phase⟩, ⟨7, .phase⟩, ⟨8, .phase⟩, ⟨9, .phase⟩, ⟨10, .phase⟩, ⟨11, .phase⟩, ⟨12, .phase⟩, ⟨13, .phase⟩, ⟨14, .phase⟩, ⟨15, .phase⟩, ⟨16, .phase⟩, ⟨17, .phase⟩, ⟨18, .phase⟩, ⟨19, .phase⟩, ⟨20, .phase⟩], none⟩) rfl (fun K hK => ?_) AllReadyL.nil;go_simp;refine hK.out _ _ (SL.cons (fun _ => trivial) (SL.cons (fun h => absurd h (by decide +kernel)) SL.nil)) (fun hH => ?_);clear hK K
 try simp only [Act.put, sI, s0, s1]
 refine qac (rs := [23]) (by kernel_rfl) (by simp) ?_;refine AllReadyL.cons (o := ⟨none, .store 4 (.tmp 49) (.tmp 44), 0, "read.go:109", #[⟨22, .data⟩, ⟨15, .data⟩, ⟨20, .chain⟩, ⟨0, .phase⟩, ⟨1, .phase⟩, ⟨2, .phase⟩, ⟨3, .phase⟩, ⟨4, .phase⟩, ⟨5, .phase⟩, ⟨6, .phase⟩, ⟨7, .phase⟩, ⟨8, .phase⟩, ⟨9, .phase⟩, ⟨10, .phase⟩, ⟨11, .phase⟩, ⟨12, .phase⟩, ⟨13, .phase⟩, ⟨14, .phase⟩, ⟨15, .phase⟩, ⟨16, .phase⟩, ⟨17, .phase⟩, ⟨18, .phase⟩, ⟨19, .phase⟩, ⟨20, .phase⟩], none⟩) rfl (fun K hK => ?_) AllReadyL.nil;go_simp;refine hK.out _ _ (SL.cons (fun _ => trivial) (SL.cons (fun h => absurd h (by decide +kernel)) SL.nil)) (fun hH => ?_);clear hK K
 try simp only [Act.put, sI, s0, s1]
 refine qah (by kernel_rfl) ?_ _
 go_wp2_with fail
 go_end0
 have hO := HOF.o.trans (Only.of_setCell wf ⟨B, 1, none⟩ (.bool v2));have hne := HR.o.2.2.2.2.2;have hOT : Only (fun k => k = B \/ k = Bt) W (wf.setCell ⟨B, 1, none⟩ (.bool v2)) := ((Only.of_below (T := fun k => k = B \/ k = Bt) HD.o).trans (HTE.o.2.1.mono (fun k _ e => Or.inr e))).trans (hO.mono (fun k _ e => Or.inl e));refine ⟨rfl, z, c - 1, HRF.o.set1 _, ?_, ?_, ⟨hOT, hO.cell HTE.o.1 (fun e => hne e), ?_, ?_⟩⟩
 ·have := HC.o; have := HMM.o; omega
 ·obtain ⟨b', off', e', _, _, _, _, _, _, hr⟩ := HR.o.2.2.2.1
  cases e';have hr2 := hr.only hOT (fun b hb e => by have := HR.o.2.2.2.2.1 b hb; omega);rw [HZ.o]
  split
  ·rename_i h1
   have : r.len = 0 := by have := HC.o; have := HMM.o; omega
   cases r with
   | nil => trivial
   | cons _ _ _ _ _ _ => simp [Fo.len] at this
  ·exact hr2
 ·intro o v ho hv
  exact hO.cell (HTE.o.2.2.1 o v ho (qaa HD.o hv)) (fun e => hne e)
 ·intro o
  have hlt := World.block_lt_of_cell? W _ HR.o.2.1;rw [hO.frozen (a := ⟨Bt, o, none⟩) (Nat.lt_of_lt_of_le hlt (Nat.le_trans HD.o.size HTE.o.2.1.size)) (fun e => hne e), HTE.o.2.2.2, HD.o.frozen (p := ⟨Bt, o, none⟩) hlt]
theorem qe5 (B : Nat) (l : Bool) (k : Int) (s : ByteArray) (a : Int) (x r : Fo) (q : Option Addr) (c : Nat) (F : Nat -> Prop) (Bt ot : Nat) (W : World) (hq : FoIn W F (.cons l k s a x r) q) (hc : r.len + 1 <= c) (hm : r.len + 1 <= 281474976710656) (hF : ∀ b, F b -> b ≠ B /\ b ≠ Bt) (hx : TxOK (.cons l k s a x r)) (h : RdB W B q (r.len + 1) c false) (ht : W.cell? ⟨Bt, ot, none⟩ = some (.int .i64 0)) (htf : W.frozen? ⟨Bt, ot, none⟩ = false) (hne : Bt ≠ B) :
  Calls Tryz.prog 76 #[.pointer (some ⟨B, 0, none⟩), .bool true, .pointer (some ⟨Bt, ot, none⟩)] W fun e w' => e = .returned (.tuple #[]) /\ ∃ q' c', RdB w' B q' r.len c' (false && (numP l k s x).2) /\ r.len <= c' /\ FoIn w' F r q' /\ NxC W w' B Bt ot (numP l k s x).1 := by
 obtain ⟨m, hm'⟩ : ∃ m : Nat, m = r.len + 1 := ⟨_, rfl⟩
 have hsl : ∀ (b off : Nat) (w : World), (Instr.slice 33 (.slice (some ⟨b, off, none⟩) m c) (some (.int .i64 1)) none none).run Tryz.prog w = .ok (.slice (if c = 1 then some ⟨b, off, none⟩ else some ⟨b, off + 5, none⟩) r.len (c - 1)) w := fun b off w => by
  rw [hm']; exact qez w b off r.len c hc
 rw [<- hm'] at hc hm h;have hlt : (0 : Int) < (m : Int) := by omega
 have hneq : ((m : Int) == 0) = false := by simp; omega
 have n1 : (m : Int) <= 281474976710656 := by omega
 have HMM := Zh hm';have HC := Zh hc;have HR := Zh (aI h (aI ht (aI htf (aI hq (aI hF hne)))));obtain ⟨b, off, rfl, _, c0, c1, c2, c3, ⟨q4, d4, c4, hl4, hm4, hq4⟩, hr⟩ := hq;have HN := Zh (qfn l k s a x q4 d4 W F hq4 hl4 hm4 hx.1 hx.2.1);obtain ⟨v1, v2, hv⟩ : ∃ v1 v2, numP l k s x = (v1, v2) := ⟨_, _, rfl⟩;rw [hv] at HN ⊢
 dsimp only at HN ⊢
 have hs2 := hsl b off;obtain ⟨z, hz⟩ : ∃ z, z = (if c = 1 then some (⟨b, off, none⟩ : Addr) else some ⟨b, off + 5, none⟩) := ⟨_, rfl⟩;have HZ := Zh hz;rw [<- hz] at hs2;have HSL := Zh hs2;obtain ⟨y0, y1, yf⟩ := h;unfold trV at HN;clear hq4 hl4 hm4 hr hc hm hm' hz hsl hs2 ht htf hF hx hne hv;go_enter Tryz.func76, Tryz.ntmps76
 go_wp2_with fail
 refine HN.o.mono ?_;rintro e w2 ⟨rfl, hb⟩;have HB := Zh hb;clear hb HN c0 c1 c2 c3 c4 y0 y1 yf
 go_wp2_with fail
 have HD := Zh (HB.o.trans ((qae w2).mono HB.o.size));refine qai [(1000, (fun _ => True : World -> Prop)), (17, (fun w => w.cell? ⟨B, 0, none⟩ = some (.slice (some ⟨b, off, none⟩) m c) /\ w.cell? ⟨B, 1, none⟩ = some (.bool false) : World -> Prop))] (by kernel_rfl) (SL.cons (fun _ => trivial) (SL.cons (fun _ => ⟨(HR.o.1.later HD.o).c0, (HR.o.1.later HD.o).c1⟩) SL.nil)) (fun hH => ?_);generalize w2.drew = wd at *;refine tk 0 0 ⟨some 29, .move (.tmp 2), 116, "read.go:109", #[], none⟩ ?_ rfl rfl ?_ hH fun hH => ?_
 rotate_left
 ·intro w hSw; (try dsimp only at hSw); go_simp; try with_reducible rfl
 try simp only [Act.put, sI, s0, s1]
 refine tk 0 1 ⟨some 30, .move (.tmp 0), 118, "read.go:109", #[⟨17, .gcOnly .lateStores⟩], none⟩ ?_ rfl rfl ?_ hH fun hH => ?_
 rotate_left
 ·intro w hSw; (try dsimp only at hSw); go_simp; try with_reducible rfl
 try simp only [Act.put, sI, s0, s1]
 refine tk 0 2 ⟨some 31, .move (.tmp 0), 118, "read.go:109", #[⟨20, .gcOnly .lateStores⟩], none⟩ ?_ rfl rfl ?_ hH fun hH => ?_
 rotate_left
 ·intro w hSw; (try dsimp only at hSw); go_simp; try with_reducible rfl
 try simp only [Act.put, sI, s0, s1]
 refine tk 0 3 ⟨some 32, .move (.tmp 6), 3, "read.go:109", #[], none⟩ ?_ rfl rfl ?_ hH fun hH => ?_
 rotate_left
 ·intro w hSw; (try dsimp only at hSw); go_simp; try with_reducible rfl
 try simp only [Act.put, sI, s0, s1]
 refine tk 0 4 ⟨some 33, .move (.tmp 0), 118, "read.go:109", #[], none⟩ ?_ rfl rfl ?_ hH fun hH => ?_
 rotate_left
 ·intro w hSw; (try dsimp only at hSw); go_simp; try with_reducible rfl
 try simp only [Act.put, sI, s0, s1]
 refine tk 0 5 ⟨some 34, .nilCheck (.tmp 33), 0, "read.go:109", #[⟨4, .data⟩], none⟩ ?_ rfl rfl ?_ hH fun hH => ?_
 rotate_left
 ·intro w hSw; (try dsimp only at hSw); go_simp; try with_reducible rfl
 try simp only [Act.put, sI, s0, s1]
 refine tk 0 6 ⟨some 35, .fieldAddr 114 (.tmp 34) 0, 0, "read.go:109", #[⟨5, .data⟩], none⟩ ?_ rfl rfl ?_ hH fun hH => ?_
 rotate_left
 ·intro w hSw; (try dsimp only at hSw); go_simp; try with_reducible rfl
 try simp only [Act.put, sI, s0, s1]
 refine tk 1 7 ⟨some 36, .load 33 (.tmp 35), 33, "read.go:109", #[⟨6, .data⟩], none⟩ ?_ rfl rfl ?_ hH fun hH => ?_
 rotate_left
 ·intro w hSw; (try dsimp only at hSw); obtain ⟨x0, x1⟩ := hSw; go_simp; try with_reducible rfl
 try simp only [Act.put, sI, s0, s1]
 refine tk 0 8 ⟨some 37, .slice 33 (.tmp 36) (some (.const (.int .i64 1))) none none, 33, "read.go:109", #[⟨7, .data⟩], none⟩ ?_ rfl rfl ?_ hH fun hH => ?_
 rotate_left
 ·intro w hSw
  (try dsimp only at hSw)
  have hh := HSL.o w;go_simp
  try with_reducible rfl
 try simp only [Act.put, sI, s0, s1]
 refine tk 0 9 ⟨some 38, .move (.tmp 0), 118, "read.go:109", #[], none⟩ ?_ rfl rfl ?_ hH fun hH => ?_
 rotate_left
 ·intro w hSw; (try dsimp only at hSw); go_simp; try with_reducible rfl
 try simp only [Act.put, sI, s0, s1]
 refine tk 0 10 ⟨some 39, .nilCheck (.tmp 38), 0, "read.go:109", #[⟨9, .data⟩], none⟩ ?_ rfl rfl ?_ hH fun hH => ?_
 rotate_left
 ·intro w hSw; (try dsimp only at hSw); go_simp; try with_reducible rfl
 try simp only [Act.put, sI, s0, s1]
 refine tk 0 11 ⟨some 40, .fieldAddr 114 (.tmp 39) 1, 0, "read.go:109", #[⟨10, .data⟩], none⟩ ?_ rfl rfl ?_ hH fun hH => ?_
 rotate_left
 ·intro w hSw; (try dsimp only at hSw); go_simp; try with_reducible rfl
 try simp only [Act.put, sI, s0, s1]
 refine tk 1 12 ⟨some 41, .load 4 (.tmp 40), 4, "read.go:109", #[⟨11, .data⟩], none⟩ ?_ rfl rfl ?_ hH fun hH => ?_
 rotate_left
 ·intro w hSw; (try dsimp only at hSw); obtain ⟨x0, x1⟩ := hSw; go_simp; try with_reducible rfl
 try simp only [Act.put, sI, s0, s1]
 refine tk 0 13 ⟨some 42, .move (.tmp 41), 4, "read.go:109", #[⟨12, .data⟩], none⟩ ?_ rfl rfl ?_ hH fun hH => ?_
 rotate_left
 ·intro w hSw; (try dsimp only at hSw); go_simp; try with_reducible rfl
 try simp only [Act.put, sI, s0, s1]
 refine tu 0 14 ⟨some 43, .move (.tmp 7), 4, "read.go:109", #[⟨13, .guard⟩], some (13, true)⟩ rfl rfl hH fun hH => ?_
 try simp only [Act.put, sI, s0, s1]
 refine tk 0 15 ⟨some 44, .pick (.tmp 42) (.tmp 43) (.const (.bool false)), 4, "read.go:109", #[⟨13, .data⟩, ⟨14, .data⟩], none⟩ ?_ rfl rfl ?_ hH fun hH => ?_
 rotate_left
 ·intro w hSw; (try dsimp only at hSw); go_simp; try with_reducible rfl
 try simp only [Act.put, sI, s0, s1]
 refine tk 0 16 ⟨some 45, .nilCheck (.tmp 29), 0, "read.go:109", #[⟨0, .data⟩, ⟨0, .phase⟩, ⟨1, .textOnly .lateStores⟩, ⟨2, .textOnly .lateStores⟩, ⟨3, .phase⟩, ⟨4, .textOnly .lateStores⟩, ⟨5, .textOnly .lateStoresUnsure⟩, ⟨6, .textOnly .lateStoresUnsure⟩, ⟨7, .phase⟩, ⟨8, .textOnly .lateStoresUnsure⟩, ⟨9, .textOnly .lateStores⟩, ⟨10, .textOnly .lateStoresUnsure⟩, ⟨11, .textOnly .lateStoresUnsure⟩, ⟨12, .phase⟩, ⟨13, .textOnly .lateStoresUnsure⟩, ⟨14, .textOnly .lateStores⟩, ⟨15, .textOnly .lateStoresUnsure⟩], none⟩ ?_ rfl rfl ?_ hH fun hH => ?_
 rotate_left
 ·intro w hSw; (try dsimp only at hSw); go_simp; try with_reducible rfl
 try simp only [Act.put, sI, s0, s1]
 have HX := Zh (aI (HR.o.1.later HD.o) (aI (qaa HD.o HR.o.2.1) (show wd.frozen? ⟨Bt, ot, none⟩ = false from by rw [HD.o.frozen (p := ⟨Bt, ot, none⟩) (World.block_lt_of_cell? W _ HR.o.2.1)]; exact HR.o.2.2.1)));have t0 := HX.o.2.1;have tf := HX.o.2.2;refine qac (rs := [17]) (by kernel_rfl) (by simp) ?_;refine AllReadyL.cons (o := ⟨none, .store 3 (.tmp 45) (.tmp 32), 0, "read.go:109", #[⟨16, .data⟩, ⟨3, .data⟩, ⟨13, .chain⟩, ⟨0, .phase⟩, ⟨1, .textOnly .lateStores⟩, ⟨2, .textOnly .lateStores⟩, ⟨3, .phase⟩, ⟨4, .textOnly .lateStores⟩, ⟨5, .textOnly .lateStoresUnsure⟩, ⟨6, .textOnly .lateStoresUnsure⟩, ⟨7, .phase⟩, ⟨8, .textOnly .lateStoresUnsure⟩, ⟨9, .textOnly .lateStores⟩, ⟨10, .textOnly .lateStoresUnsure⟩, ⟨11, .textOnly .lateStoresUnsure⟩, ⟨12, .phase⟩, ⟨13, .textOnly .lateStoresUnsure⟩, ⟨14, .textOnly .lateStores⟩, ⟨15, .textOnly .lateStoresUnsure⟩], none⟩) rfl (fun K hK => ?_) AllReadyL.nil;go_simp;refine hK.out _ _ (SL.cons (fun _ => trivial) (SL.cons (fun h => absurd h (by decide +kernel)) SL.nil)) (fun hH => ?_);clear hK K
 try simp only [Act.put, sI, s0, s1]
 obtain ⟨we, hwe⟩ : ∃ we, we = wd.setCell ⟨Bt, ot, none⟩ (.int .i64 v1) := ⟨_, rfl⟩;have HRE := Zh (show RdB we B (some ⟨b, off, none⟩) m c false from by rw [hwe]; exact HX.o.1.only (Only.of_setCell _ _ _) (fun e => HR.o.2.2.2.2.2 e.symm))
 have HTE := Zh (show we.cell? ⟨Bt, ot, none⟩ = some (.int .i64 v1) /\ Only (fun k => k = Bt) wd we /\ (∀ o v, o ≠ ot -> wd.cell? ⟨Bt, o, none⟩ = some v -> we.cell? ⟨Bt, o, none⟩ = some v) /\ ∀ a, we.frozen? a = wd.frozen? a from by
  rw [hwe];refine ⟨by simp [go_sem, t0], Only.of_setCell wd ⟨Bt, ot, none⟩ _, fun o v ho hv => ?_, fun a => by rw [World.frozen?_setCell]⟩
  rw [World.cell?_setCell_other _ _ _ _ (by intro e; injection e with _ e; exact ho e.symm)]; exact hv)
 rw [<- hwe];clear hwe t0 tf hH;obtain ⟨y0, y1, yf⟩ := HRE.o;refine qac (rs := [18]) (by kernel_rfl) (by simp) ?_;refine AllReadyL.cons (o := ⟨some 46, .nilCheck (.tmp 30), 0, "read.go:109", #[⟨1, .data⟩, ⟨0, .phase⟩, ⟨1, .phase⟩, ⟨2, .textOnly .lateStores⟩, ⟨3, .phase⟩, ⟨4, .phase⟩, ⟨5, .phase⟩, ⟨6, .phase⟩, ⟨7, .phase⟩, ⟨8, .phase⟩, ⟨9, .textOnly .lateStores⟩, ⟨10, .textOnly .lateStoresUnsure⟩, ⟨11, .textOnly .lateStoresUnsure⟩, ⟨12, .phase⟩, ⟨13, .textOnly .lateStoresUnsure⟩, ⟨14, .textOnly .lateStores⟩, ⟨15, .textOnly .lateStoresUnsure⟩, ⟨16, .phase⟩, ⟨17, .phase⟩], none⟩) rfl (fun K hK => ?_) AllReadyL.nil;go_simp;refine hK.out _ _ (SL.cons (fun _ => trivial) (SL.cons (fun h => absurd h (by decide +kernel)) SL.nil)) (fun hH => ?_);clear hK K
 try simp only [Act.put, sI, s0, s1]
 refine qac (rs := [19]) (by kernel_rfl) (by simp) ?_;refine AllReadyL.cons (o := ⟨some 47, .fieldAddr 114 (.tmp 46) 0, 0, "read.go:109", #[⟨18, .data⟩, ⟨0, .phase⟩, ⟨1, .phase⟩, ⟨2, .textOnly .lateStores⟩, ⟨3, .phase⟩, ⟨4, .phase⟩, ⟨5, .phase⟩, ⟨6, .phase⟩, ⟨7, .phase⟩, ⟨8, .phase⟩, ⟨9, .textOnly .lateStores⟩, ⟨10, .textOnly .lateStoresUnsure⟩, ⟨11, .textOnly .lateStoresUnsure⟩, ⟨12, .phase⟩, ⟨13, .textOnly .lateStoresUnsure⟩, ⟨14, .textOnly .lateStores⟩, ⟨15, .textOnly .lateStoresUnsure⟩, ⟨16, .phase⟩, ⟨17, .phase⟩], none⟩) rfl (fun K hK => ?_) AllReadyL.nil;go_simp;refine hK.out _ _ (SL.cons (fun _ => trivial) (SL.cons (fun h => absurd h (by decide +kernel)) SL.nil)) (fun hH => ?_);clear hK K
 try simp only [Act.put, sI, s0, s1]
 refine qac (rs := [20]) (by kernel_rfl) (by simp) ?_;refine AllReadyL.cons (o := ⟨none, .store 33 (.tmp 47) (.tmp 37), 0, "read.go:109", #[⟨19, .data⟩, ⟨8, .data⟩, ⟨17, .chain⟩, ⟨0, .phase⟩, ⟨1, .phase⟩, ⟨2, .textOnly .lateStores⟩, ⟨3, .phase⟩, ⟨4, .phase⟩, ⟨5, .phase⟩, ⟨6, .phase⟩, ⟨7, .phase⟩, ⟨8, .phase⟩, ⟨9, .textOnly .lateStores⟩, ⟨10, .textOnly .lateStoresUnsure⟩, ⟨11, .textOnly .lateStoresUnsure⟩, ⟨12, .phase⟩, ⟨13, .textOnly .lateStoresUnsure⟩, ⟨14, .textOnly .lateStores⟩, ⟨15, .textOnly .lateStoresUnsure⟩, ⟨16, .phase⟩, ⟨17, .phase⟩], none⟩) rfl (fun K hK => ?_) AllReadyL.nil;go_simp;refine hK.out _ _ (SL.cons (fun _ => trivial) (SL.cons (fun h => absurd h (by decide +kernel)) SL.nil)) (fun hH => ?_);clear hK K
 try simp only [Act.put, sI, s0, s1]
 obtain ⟨wf, hwf⟩ : ∃ wf, wf = we.setCell ⟨B, 0, none⟩ (.slice z r.len (c - 1)) := ⟨_, rfl⟩;have HRF := Zh (show RdB wf B z r.len (c - 1) false from by rw [hwf]; exact HRE.o.set0);have HOF := Zh (show Only (fun k => k = B) we wf from by rw [hwf]; exact Only.of_setCell we ⟨B, 0, none⟩ _);rw [<- hwf];clear hwf y0 y1 yf;obtain ⟨y0, y1, yf⟩ := HRF.o;refine qac (rs := [21]) (by kernel_rfl) (by simp) ?_;refine AllReadyL.cons (o := ⟨some 48, .nilCheck (.tmp 31), 0, "read.go:109", #[⟨2, .data⟩, ⟨0, .phase⟩, ⟨1, .phase⟩, ⟨2, .phase⟩, ⟨3, .phase⟩, ⟨4, .phase⟩, ⟨5, .phase⟩, ⟨6, .phase⟩, ⟨7, .phase⟩, ⟨8, .phase⟩, ⟨9, .phase⟩, ⟨10, .phase⟩, ⟨11, .phase⟩, ⟨12, .phase⟩, ⟨13, .phase⟩, ⟨14, .phase⟩, ⟨15, .phase⟩, ⟨16, .phase⟩, ⟨17, .phase⟩, ⟨18, .phase⟩, ⟨19, .phase⟩, ⟨20, .phase⟩], none⟩) rfl (fun K hK => ?_) AllReadyL.nil;go_simp;refine hK.out _ _ (SL.cons (fun _ => trivial) (SL.cons (fun h => absurd h (by decide +kernel)) SL.nil)) (fun hH => ?_);clear hK K
 try simp only [Act.put, sI, s0, s1]
 refine qac (rs := [22]) (by kernel_rfl) (by simp) ?_;refine AllReadyL.cons (o := ⟨some 49, .fieldAddr 114 (.tmp 48) 1, 0, "read.go:109", #[⟨21, .data⟩, ⟨0, .phase⟩, ⟨1, .phase⟩, ⟨2, .phase⟩, ⟨3, .phase⟩, ⟨4, .phase⟩, ⟨5, .phase⟩, ⟨6, .phase⟩, ⟨7, .phase⟩, ⟨8, .phase⟩, ⟨9, .phase⟩, ⟨10, .phase⟩, ⟨11, .phase⟩, ⟨12, .phase⟩, ⟨13, .phase⟩, ⟨14, .phase⟩, ⟨15, .phase⟩, ⟨16, .phase⟩, ⟨17, .phase⟩, ⟨18, .phase⟩, ⟨19, .phase⟩, ⟨20, .phase⟩], none⟩) rfl (fun K hK => ?_) AllReadyL.nil;go_simp;refine hK.out _ _ (SL.cons (fun _ => trivial) (SL.cons (fun h => absurd h (by decide +kernel)) SL.nil)) (fun hH => ?_);clear hK K
 try simp only [Act.put, sI, s0, s1]
 refine qac (rs := [23]) (by kernel_rfl) (by simp) ?_;refine AllReadyL.cons (o := ⟨none, .store 4 (.tmp 49) (.tmp 44), 0, "read.go:109", #[⟨22, .data⟩, ⟨15, .data⟩, ⟨20, .chain⟩, ⟨0, .phase⟩, ⟨1, .phase⟩, ⟨2, .phase⟩, ⟨3, .phase⟩, ⟨4, .phase⟩, ⟨5, .phase⟩, ⟨6, .phase⟩, ⟨7, .phase⟩, ⟨8, .phase⟩, ⟨9, .phase⟩, ⟨10, .phase⟩, ⟨11, .phase⟩, ⟨12, .phase⟩, ⟨13, .phase⟩, ⟨14, .phase⟩, ⟨15, .phase⟩, ⟨16, .phase⟩, ⟨17, .phase⟩, ⟨18, .phase⟩, ⟨19, .phase⟩, ⟨20, .phase⟩], none⟩) rfl (fun K hK => ?_) AllReadyL.nil;go_simp;refine hK.out _ _ (SL.cons (fun _ => trivial) (SL.cons (fun h => absurd h (by decide +kernel)) SL.nil)) (fun hH => ?_);clear hK K
 try simp only [Act.put, sI, s0, s1]
 refine qah (by kernel_rfl) ?_ _
 go_wp2_with fail
 go_end0
 have hO := HOF.o.trans (Only.of_setCell wf ⟨B, 1, none⟩ (.bool false));have hne := HR.o.2.2.2.2.2;have hOT : Only (fun k => k = B \/ k = Bt) W (wf.setCell ⟨B, 1, none⟩ (.bool false)) := ((Only.of_below (T := fun k => k = B \/ k = Bt) HD.o).trans (HTE.o.2.1.mono (fun k _ e => Or.inr e))).trans (hO.mono (fun k _ e => Or.inl e));refine ⟨rfl, z, c - 1, HRF.o.set1 _, ?_, ?_, ⟨hOT, hO.cell HTE.o.1 (fun e => hne e), ?_, ?_⟩⟩
 ·have := HC.o; have := HMM.o; omega
 ·obtain ⟨b', off', e', _, _, _, _, _, _, hr⟩ := HR.o.2.2.2.1
  cases e';have hr2 := hr.only hOT (fun b hb e => by have := HR.o.2.2.2.2.1 b hb; omega);rw [HZ.o]
  split
  ·rename_i h1
   have : r.len = 0 := by have := HC.o; have := HMM.o; omega
   cases r with
   | nil => trivial
   | cons _ _ _ _ _ _ => simp [Fo.len] at this
  ·exact hr2
 ·intro o v ho hv
  exact hO.cell (HTE.o.2.2.1 o v ho (qaa HD.o hv)) (fun e => hne e)
 ·intro o
  have hlt := World.block_lt_of_cell? W _ HR.o.2.1;rw [hO.frozen (a := ⟨Bt, o, none⟩) (Nat.lt_of_lt_of_le hlt (Nat.le_trans HD.o.size HTE.o.2.1.size)) (fun e => hne e), HTE.o.2.2.2, HD.o.frozen (p := ⟨Bt, o, none⟩) hlt]
theorem qjk (has : Bool) (f : Fo) (ok : Bool) (h : TxOK f) : TxOK (nx has (f, ok)).2.1 := by
 unfold nx
 split
 ·cases f with
  | nil => trivial
  | cons l k s a x r => exact h.2.2
 ·exact h
theorem qes (has : Bool) (f : Fo) (ok : Bool) : (nx has (f, ok)).2.1.len <= f.len := by
 unfold nx
 split
 ·cases f with
  | nil => exact Nat.le_refl _
  | cons l k s a x r => simp [Fo.len]
 ·exact Nat.le_refl _
theorem qf2 (has : Bool) (B : Nat) (f : Fo) (q : Option Addr) (c : Nat) (ok : Bool) (F : Nat -> Prop) (Bt ot : Nat) (W : World) (hq : FoIn W F f q) (hc : f.len <= c) (hm : f.len <= 281474976710656) (hF : ∀ b, F b -> b ≠ B /\ b ≠ Bt) (hx : TxOK f) (h : RdB W B q f.len c ok) (ht : W.cell? ⟨Bt, ot, none⟩ = some (.int .i64 0)) (htf : W.frozen? ⟨Bt, ot, none⟩ = false) (hne : Bt ≠ B) :
  Calls Tryz.prog 76 #[.pointer (some ⟨B, 0, none⟩), .bool has, .pointer (some ⟨Bt, ot, none⟩)] W fun e w' => e = .returned (.tuple #[]) /\ ∃ q' c', RdB w' B q' (nx has (f, ok)).2.1.len c' (nx has (f, ok)).2.2 /\ (nx has (f, ok)).2.1.len <= c' /\ FoIn w' F (nx has (f, ok)).2.1 q' /\ NxC W w' B Bt ot (nx has (f, ok)).1 := by
 cases has with
 | false =>
  refine (qls B q f.len c ok Bt ot W h ht).mono ?_;rintro e w' ⟨he, hr, hn⟩
  exact ⟨he, q, c, hr, hc, hq.only hn.only (fun b hb e => by have := hF b hb; omega), hn⟩
 | true =>
  cases f with
  | nil =>
   refine (qlt B q c ok Bt ot W h ht hne).mono ?_;rintro e w' ⟨he, hr, hn⟩
   exact ⟨he, q, c, hr, Nat.zero_le _, trivial, hn⟩
  | cons l k s a x r =>
   cases ok with
   | true => exact qfi B l k s a x r q c F Bt ot W hq hc hm hF hx h ht htf hne
   | false => exact qe5 B l k s a x r q c F Bt ot W hq hc hm hF hx h ht htf hne
end Go.Proofs.YtookoagcmejkpaaGreatDoor
