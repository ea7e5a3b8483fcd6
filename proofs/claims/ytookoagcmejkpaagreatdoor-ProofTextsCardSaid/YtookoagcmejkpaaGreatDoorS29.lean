/- A link's tree: the program's. -/
import Derived.Test.YtookoagcmejkpaaGreatDoorJ12
set_option maxHeartbeats 6400000
namespace Go.Proofs.YtookoagcmejkpaaGreatDoor
set_option maxRecDepth 100000
open Go Go.RowKit
theorem qbk (h : ByteArray) (f1 f2 a b i j list : Bool) (x : Lk) (q : Option Addr) (c : Nat) (W : World) (hl : IntsIn W q x.l) (hc : x.l.length <= 1000) (hxl : ∀ y ∈ x.l, -4611686018427387903 <= y /\ y <= 4611686018427387903)
  (hx : ∀ y ∈ [x.lit, x.a, x.b, x.i, x.j], -4611686018427387903 <= y /\ y <= 4611686018427387903) (htab : qb7 W) :
  Calls Tryz.prog 32 #[fmV h f1 f2 a b false i j list, lkV x q c] W fun e w' => TrR W w' e true 1 ⟨#[40]⟩ (.cons false 3 h 0 .nil (nusF (flt [a, b, i, j] [x.a, x.b, x.i, x.j] ++ x.l))) := by
 have HI := Zh hl;have HC := Zh hc;have HXL := Zh hxl;have HX := Zh hx;have HT := Zh htab;obtain ⟨w3, hw3⟩ : ∃ w3, w3 = (((W.alloc (.cells #[.string h, .bool f1, .bool f2, .bool a, .bool b, .bool false, .bool i, .bool j, .bool list] 66)).alloc (.cells #[.int .u8 x.k, .int .i64 x.lit, .int .i64 x.a, .int .i64 x.b, .int .i64 x.i, .int .i64 x.j, .slice q x.l.length c] 64)).alloc (.cells #[.bool false, .int .u8 0, .string ⟨#[]⟩, .int .i64 0, .slice none 0 0] 35)) := ⟨_, rfl⟩;have hb3 : Below W.heap.size W w3 := by rw [hw3]; exact (((qab W _).alloc (by simp) _).alloc (by simp; omega) _)
 have hsz : w3.heap.size = W.heap.size + 3 := by rw [hw3]; simp
 have hf3 : FormAt w3 W.heap.size h a b false i j := by
  rw [hw3];exact ⟨by simp [go_sem], by simp [go_sem], by simp [go_sem], by simp [go_sem], by simp [go_sem], by simp [go_sem]⟩
 have hk3 : LkAt w3 (W.heap.size + 1) x q c := by
  rw [hw3];exact ⟨by simp [go_sem], by simp [go_sem], by simp [go_sem], by simp [go_sem], by simp [go_sem], by simp [go_sem], by simp [go_sem]⟩
 have hz3 : BoxT w3 (W.heap.size + 1 + 1) false 0 ⟨#[]⟩ 0 (.slice none 0 0) := by
  have h := qam ((W.alloc (.cells #[.string h, .bool f1, .bool f2, .bool a, .bool b, .bool false, .bool i, .bool j, .bool list] 66)).alloc (.cells #[.int .u8 x.k, .int .i64 x.lit, .int .i64 x.a, .int .i64 x.b, .int .i64 x.i, .int .i64 x.j, .slice q x.l.length c] 64)) false 0 ⟨#[]⟩ 0 (.slice none 0 0);rw [hw3]; simpa using h
 have HW3 := Zh hw3;have HS3 := Zh (aI hf3 (aI hk3 (aI hz3 (aI hb3 hsz))));have HL3 := Zh (qip h w3);clear hl hc hxl hx htab hw3 hb3 hsz hz3 hk3;obtain ⟨y0, y3, y4, y5, y6, y7⟩ := hf3;unfold fmV lkV;go_enter Tryz.func32, Tryz.ntmps32
 go_wp2_with fail
 rw [<- HW3.o];refine HL3.o.mono ?_;rintro e w4 ⟨g, rfl, hg, hown, hb⟩;have hf4 : FormAt w4 W.heap.size h a b false i j := HS3.o.1.only (Only.of_below (T := fun _ => False) hb) (fun h => h);have hk4 : LkAt w4 (W.heap.size + 1) x q c := HS3.o.2.1.later hb;have hz4 := HS3.o.2.2.1.later hb;have hb4 := HS3.o.2.2.2.1.trans (hb.mono HS3.o.2.2.2.1.size);have hgs : W.heap.size + 3 <= g /\ g < w4.heap.size := ⟨by have := HS3.o.2.2.2.2; omega, (qaw hown.choose_spec.1 (k := g) rfl).2⟩;obtain ⟨B, hB⟩ : ∃ B, B = w4.heap.size := ⟨_, rfl⟩;have HBB := Zh hB;have HGB := Zh (show W.heap.size + 3 <= B from by omega);obtain ⟨wa, hwa⟩ : ∃ wa, wa = w4.alloc (.cells #[.bool true, .int .u8 1, .string ⟨#[40]⟩, .int .i64 0, .slice (some ⟨g, 0, none⟩) 1 1] 35) := ⟨_, rfl⟩;have hba : Below w4.heap.size w4 wa := by rw [hwa]; exact qab _ _
 have hown2 : OwnG wa (FLk W B) (.slice (some ⟨g, 0, none⟩) 1 1) (.cons false 3 h 0 .nil .nil) := by
  rw [hwa];exact (hown.wide.mono (F' := FLk W B) (fun k hk hl => ⟨by have : g <= k := hk; omega, by omega⟩)).later (qab w4 _)
 have HLS := Zh (show LS (RLk W B h a b false i j x q c) (FLk W B) B wa (.slice (some ⟨g, 0, none⟩) 1 1) (.cons false 3 h 0 .nil .nil) from
  ⟨⟨hf4.only (Only.of_below (T := fun _ => False) hba) (fun h => h), hk4.later hba, hz4.later hba, hb4.trans (hba.mono hb4.size), by rw [hwa, hB]; simp⟩,
   by rw [hwa, hB]; exact qam w4 true 1 ⟨#[40]⟩ 0 (.slice (some ⟨g, 0, none⟩) 1 1), hown2⟩)
 have HK := Zh (qkw W B HGB.o h a b false i j x q c);have HWA := Zh hwa;have y5' := (hf4.only (Only.of_below (T := fun _ => False) (qab w4 (.cells #[.bool true, .int .u8 1, .string ⟨#[40]⟩, .int .i64 0, .slice (some ⟨g, 0, none⟩) 1 1] 35))) (fun h => h)).c5;clear hb hg hown hf4 hk4 hz4 hb4 hgs hB hwa hba hown2 y0 y3 y4 y5 y6 y7;unfold trV
 dsimp only
 clear HS3 HL3 HW3
 go_wp2_with fail
 rw [<- HWA.o, <- HBB.o];clear HWA HBB y5';generalize Value.slice (some ⟨g, 0, none⟩) 1 1 = v1 at *;have HD := Zh (HLS.o.later HK.o (qae _));refine qai [(1000, (fun _ => True : World -> Prop)), (1000, (fun w => FormAt w W.heap.size h a b false i j /\ LkAt w (W.heap.size + 1) x q c : World -> Prop)), (23, (fun w => w.cell? ⟨B, 4, none⟩ = some v1 : World -> Prop))] (by kernel_rfl) (SL.cons (fun _ => trivial) (SL.cons (fun _ => ⟨HD.o.rest.form, HD.o.rest.lk⟩) (SL.cons (fun _ => HD.o.box.c4) SL.nil))) (fun hH => ?_);generalize wa.drew = wd at *;refine tk 0 0 ⟨some 19, .fieldAddr 35 (.tmp 5) 2, 0, "proof.go:104", #[], none⟩ ?_ rfl rfl ?_ hH fun hH => ?_
 rotate_left
 ·intro w hSw; (try dsimp only at hSw); go_simp; try with_reducible rfl
 try simp only [Act.put, sI, s0, s1]
 refine tk 2 1 ⟨some 20, .load 33 (.tmp 19), 33, "proof.go:104", #[⟨0, .data⟩], none⟩ ?_ rfl rfl ?_ hH fun hH => ?_
 rotate_left
 ·intro w hSw; (try dsimp only at hSw); go_simp; try with_reducible rfl
 try simp only [Act.put, sI, s0, s1]
 refine tk 0 2 ⟨some 21, .fieldAddr 66 (.tmp 2) 3, 0, "proof.go:104", #[], none⟩ ?_ rfl rfl ?_ hH fun hH => ?_
 rotate_left
 ·intro w hSw; (try dsimp only at hSw); go_simp; try with_reducible rfl
 try simp only [Act.put, sI, s0, s1]
 refine tk 1 3 ⟨some 22, .load 4 (.tmp 21), 4, "proof.go:104", #[⟨2, .data⟩], none⟩ ?_ rfl rfl ?_ hH fun hH => ?_
 rotate_left
 ·intro w hSw; (try dsimp only at hSw); obtain ⟨z0, z3, z4, z5, z6, z7⟩ := hSw.1; go_simp; try with_reducible rfl
 try simp only [Act.put, sI, s0, s1]
 refine tk 0 4 ⟨some 23, .fieldAddr 66 (.tmp 2) 4, 0, "proof.go:104", #[], none⟩ ?_ rfl rfl ?_ hH fun hH => ?_
 rotate_left
 ·intro w hSw; (try dsimp only at hSw); go_simp; try with_reducible rfl
 try simp only [Act.put, sI, s0, s1]
 refine tk 1 5 ⟨some 24, .load 4 (.tmp 23), 4, "proof.go:104", #[⟨4, .data⟩], none⟩ ?_ rfl rfl ?_ hH fun hH => ?_
 rotate_left
 ·intro w hSw; (try dsimp only at hSw); obtain ⟨z0, z3, z4, z5, z6, z7⟩ := hSw.1; go_simp; try with_reducible rfl
 try simp only [Act.put, sI, s0, s1]
 refine tk 0 6 ⟨some 25, .fieldAddr 66 (.tmp 2) 6, 0, "proof.go:104", #[], none⟩ ?_ rfl rfl ?_ hH fun hH => ?_
 rotate_left
 ·intro w hSw; (try dsimp only at hSw); go_simp; try with_reducible rfl
 try simp only [Act.put, sI, s0, s1]
 refine tk 1 7 ⟨some 26, .load 4 (.tmp 25), 4, "proof.go:104", #[⟨6, .data⟩], none⟩ ?_ rfl rfl ?_ hH fun hH => ?_
 rotate_left
 ·intro w hSw; (try dsimp only at hSw); obtain ⟨z0, z3, z4, z5, z6, z7⟩ := hSw.1; go_simp; try with_reducible rfl
 try simp only [Act.put, sI, s0, s1]
 refine tk 0 8 ⟨some 27, .fieldAddr 66 (.tmp 2) 7, 0, "proof.go:104", #[], none⟩ ?_ rfl rfl ?_ hH fun hH => ?_
 rotate_left
 ·intro w hSw; (try dsimp only at hSw); go_simp; try with_reducible rfl
 try simp only [Act.put, sI, s0, s1]
 refine tk 1 9 ⟨some 28, .load 4 (.tmp 27), 4, "proof.go:104", #[⟨8, .data⟩], none⟩ ?_ rfl rfl ?_ hH fun hH => ?_
 rotate_left
 ·intro w hSw; (try dsimp only at hSw); obtain ⟨z0, z3, z4, z5, z6, z7⟩ := hSw.1; go_simp; try with_reducible rfl
 try simp only [Act.put, sI, s0, s1]
 refine tk 0 11 ⟨some 30, .fieldAddr 64 (.tmp 3) 2, 0, "proof.go:104", #[], none⟩ ?_ rfl rfl ?_ hH fun hH => ?_
 rotate_left
 ·intro w hSw; (try dsimp only at hSw); go_simp; try with_reducible rfl
 try simp only [Act.put, sI, s0, s1]
 refine tk 1 12 ⟨some 31, .load 3 (.tmp 30), 3, "proof.go:104", #[⟨11, .data⟩], none⟩ ?_ rfl rfl ?_ hH fun hH => ?_
 rotate_left
 ·intro w hSw; (try dsimp only at hSw); obtain ⟨z0, z1, z2, z3, z4, z5, z6⟩ := hSw.2; go_simp; try with_reducible rfl
 try simp only [Act.put, sI, s0, s1]
 refine tk 0 13 ⟨some 32, .fieldAddr 64 (.tmp 3) 3, 0, "proof.go:104", #[], none⟩ ?_ rfl rfl ?_ hH fun hH => ?_
 rotate_left
 ·intro w hSw; (try dsimp only at hSw); go_simp; try with_reducible rfl
 try simp only [Act.put, sI, s0, s1]
 refine tk 1 14 ⟨some 33, .load 3 (.tmp 32), 3, "proof.go:104", #[⟨13, .data⟩], none⟩ ?_ rfl rfl ?_ hH fun hH => ?_
 rotate_left
 ·intro w hSw; (try dsimp only at hSw); obtain ⟨z0, z1, z2, z3, z4, z5, z6⟩ := hSw.2; go_simp; try with_reducible rfl
 try simp only [Act.put, sI, s0, s1]
 refine tk 0 15 ⟨some 34, .fieldAddr 64 (.tmp 3) 4, 0, "proof.go:104", #[], none⟩ ?_ rfl rfl ?_ hH fun hH => ?_
 rotate_left
 ·intro w hSw; (try dsimp only at hSw); go_simp; try with_reducible rfl
 try simp only [Act.put, sI, s0, s1]
 refine tk 1 16 ⟨some 35, .load 3 (.tmp 34), 3, "proof.go:104", #[⟨15, .data⟩], none⟩ ?_ rfl rfl ?_ hH fun hH => ?_
 rotate_left
 ·intro w hSw; (try dsimp only at hSw); obtain ⟨z0, z1, z2, z3, z4, z5, z6⟩ := hSw.2; go_simp; try with_reducible rfl
 try simp only [Act.put, sI, s0, s1]
 refine tk 0 17 ⟨some 36, .fieldAddr 64 (.tmp 3) 5, 0, "proof.go:104", #[], none⟩ ?_ rfl rfl ?_ hH fun hH => ?_
 rotate_left
 ·intro w hSw; (try dsimp only at hSw); go_simp; try with_reducible rfl
 try simp only [Act.put, sI, s0, s1]
 refine tk 1 18 ⟨some 37, .load 3 (.tmp 36), 3, "proof.go:104", #[⟨17, .data⟩], none⟩ ?_ rfl rfl ?_ hH fun hH => ?_
 rotate_left
 ·intro w hSw; (try dsimp only at hSw); obtain ⟨z0, z1, z2, z3, z4, z5, z6⟩ := hSw.2; go_simp; try with_reducible rfl
 try simp only [Act.put, sI, s0, s1]
 refine qcl (fun Q0 A0 hQ hA => ?_)
 have KEY : ∀ (v29 v38 v39 v40 v41 : Value) (w9 : World), Hid (LS (RLk W B h a b false i j x q c) (FLk W B) B w9 v40 ((Fo.cons false 3 h 0 .nil .nil).app (nusF (flt [a, b, i, j] [x.a, x.b, x.i, x.j])))) -> Q0 Exit.normal (((((A0.put (some 29) v29).put (some 38) v38).put (some 39) v39).put (some 40) v40).put (some 41) v41) w9 := by
  intro v29 v38 v39 v40 v41 w9 HLS9;subst hQ;subst hA;clear hH HD
  try simp only [Act.put, sI, s0, s1]
  go_wp2_with fail
  have HD := Zh (HLS9.o.later HK.o (qae _));refine qai [(1000, (fun _ => True : World -> Prop)), (1000, (fun w => FormAt w W.heap.size h a b false i j /\ LkAt w (W.heap.size + 1) x q c : World -> Prop)), (7, (fun w => w.cell? ⟨B, 4, none⟩ = some v40 : World -> Prop))] (by kernel_rfl) (SL.cons (fun _ => trivial) (SL.cons (fun _ => ⟨HD.o.rest.form, HD.o.rest.lk⟩) (SL.cons (fun _ => HD.o.box.c4) SL.nil))) (fun hH => ?_);generalize w9.drew = wd at *;refine tk 0 0 ⟨some 42, .fieldAddr 35 (.tmp 5) 2, 0, "proof.go:105", #[], none⟩ ?_ rfl rfl ?_ hH fun hH => ?_
  rotate_left
  ·intro w hSw; (try dsimp only at hSw); go_simp; try with_reducible rfl
  try simp only [Act.put, sI, s0, s1]
  refine tk 2 1 ⟨some 43, .load 33 (.tmp 42), 33, "proof.go:105", #[⟨0, .data⟩], none⟩ ?_ rfl rfl ?_ hH fun hH => ?_
  rotate_left
  ·intro w hSw; (try dsimp only at hSw); go_simp; try with_reducible rfl
  try simp only [Act.put, sI, s0, s1]
  refine tk 0 2 ⟨some 44, .fieldAddr 64 (.tmp 3) 6, 0, "proof.go:105", #[], none⟩ ?_ rfl rfl ?_ hH fun hH => ?_
  rotate_left
  ·intro w hSw; (try dsimp only at hSw); go_simp; try with_reducible rfl
  try simp only [Act.put, sI, s0, s1]
  refine tk 1 3 ⟨some 45, .load 62 (.tmp 44), 62, "proof.go:105", #[⟨2, .data⟩], none⟩ ?_ rfl rfl ?_ hH fun hH => ?_
  rotate_left
  ·intro w hSw; (try dsimp only at hSw); obtain ⟨z0, z1, z2, z3, z4, z5, z6⟩ := hSw.2; go_simp; try with_reducible rfl
  try simp only [Act.put, sI, s0, s1]
  refine qac (rs := [4]) (by kernel_rfl) (by simp) ?_;refine AllReadyL.cons (o := ⟨some 46, .call ⟨.value (.func 67), #[.tmp 45], #[62]⟩, 33, "proof.go:105", #[⟨3, .data⟩], none⟩) rfl (fun K hK => ?_) AllReadyL.nil;go_simp;go_at_call 67;refine (qik q c x.l.length x.l wd (HI.o.later HD.o.rest.below) rfl (by have := HC.o; omega) HXL.o (qak HT.o HD.o.rest.below)).mono ?_;rintro e w5 ⟨q5, c5, rfl, hown5, hb⟩;have HL5 := Zh (HD.o.later HK.o hb);have HO5 := Zh hown5;clear hown5;refine hK.out _ _ (SL.cons (fun _ => trivial) (SL.cons (fun _ => ⟨HL5.o.rest.form, HL5.o.rest.lk⟩) (SL.cons (fun _ => HL5.o.box.c4) SL.nil))) (fun hH => ?_);clear hK K
  try simp only [Act.put, sI, s0, s1]
  clear hH;have e1 : x.l.length = (nusF x.l).len := (qag _).symm;rw [e1] at HO5 ⊢;clear e1;refine qac (rs := [5]) (by kernel_rfl) (by simp) ?_;refine AllReadyL.cons (o := ⟨some 47, .call ⟨.builtin .append, #[.tmp 43, .tmp 46], #[33, 33]⟩, 33, "proof.go:105", #[⟨1, .data⟩, ⟨4, .data⟩, ⟨4, .chain⟩], none⟩) rfl (fun K hK => ?_) AllReadyL.nil;rw [if_pos (by rfl)];refine qa7 _ _ (by rfl) (FLk W B) (fun b => wd.heap.size <= b) v40 _ _ (nusF x.l) (by rfl) (by rfl) HL5.o.own HO5.o (fun k hk hl => ⟨HK.o.new wd k HD.o.rest hk, fun e => ?_⟩) (HK.o.new _ _ HL5.o.rest (Nat.le_refl _)) ?_ (by rw [qag]; have := HC.o; omega) ?_
  ·have h1 := (HD.o.own.blk k e).2
   have h2 : wd.heap.size <= k := hk;omega
  ·rw [Fo.len_app, qag]; have := qce [a, b, i, j] [x.a, x.b, x.i, x.j]; simp [Fo.len] at this ⊢; omega
  intro p8 c8 w8 hpush ho8;have HE := Zh (HL5.o.turn HK.o ho8 hpush);have hbx8 := HL5.o.box_at HK.o ho8;have x8 := hbx8.c4;have f8 := hbx8.fz;have HS8 := Zh (aI (HL5.o.rest.form.only ho8 (fun e => by have h1 := (HL5.o.own.blk _ e).1.1; omega)) (HL5.o.rest.lk.only ho8 (fun e => by have h1 := (HL5.o.own.blk _ e).1.1; omega)));clear ho8 hbx8 hpush hb;refine hK.out _ _ (SL.cons (fun _ => trivial) (SL.cons (fun _ => HS8.o) (SL.cons (fun _ => x8) SL.nil))) (fun hH => ?_);clear hK K
  try simp only [Act.put, sI, s0, s1]
  refine tk 0 6 ⟨some 48, .fieldAddr 35 (.tmp 5) 2, 0, "proof.go:105", #[⟨0, .phase⟩, ⟨1, .phase⟩, ⟨2, .phase⟩, ⟨3, .phase⟩, ⟨4, .phase⟩, ⟨5, .phase⟩], none⟩ ?_ rfl rfl ?_ hH fun hH => ?_
  rotate_left
  ·intro w hSw; (try dsimp only at hSw); go_simp; try with_reducible rfl
  try simp only [Act.put, sI, s0, s1]
  refine qac (rs := [7]) (by kernel_rfl) (by simp) ?_;refine AllReadyL.cons (o := ⟨none, .store 33 (.tmp 48) (.tmp 47), 0, "proof.go:105", #[⟨6, .data⟩, ⟨5, .data⟩, ⟨5, .chain⟩, ⟨0, .phase⟩, ⟨1, .phase⟩, ⟨2, .phase⟩, ⟨3, .phase⟩, ⟨4, .phase⟩, ⟨5, .phase⟩], none⟩) rfl (fun K hK => ?_) AllReadyL.nil;go_simp;refine hK.out _ _ (SL.cons (fun _ => trivial) (SL.cons (fun _ => ⟨(HS8.o.1).only (Only.of_setCell _ _ _) (fun e => by have h1 := HGB.o; simp only at e; omega), (HS8.o.2).only (Only.of_setCell _ _ _) (fun e => by have h1 := HGB.o; simp only at e; omega)⟩) (SL.cons (fun h => absurd h (by decide +kernel)) SL.nil))) (fun hH => ?_);clear hK K
  try simp only [Act.put, sI, s0, s1]
  refine qah (by kernel_rfl) ?_ _;obtain ⟨v7, hv7⟩ : ∃ v, v = Value.slice p8 ((((Fo.cons false 3 h 0 .nil .nil)).app (nusF (flt [a, b, i, j] [x.a, x.b, x.i, x.j]))).len + (nusF x.l).len) c8 := ⟨_, rfl⟩;obtain ⟨w7, hw7⟩ : ∃ w, w = w8.setCell ⟨B, 4, none⟩ (Value.slice p8 ((((Fo.cons false 3 h 0 .nil .nil)).app (nusF (flt [a, b, i, j] [x.a, x.b, x.i, x.j]))).len + (nusF x.l).len) c8) := ⟨_, rfl⟩;rw [<- hw7, <- hv7] at HE ⊢;clear hw7 hv7 x8 f8 HS8 hH HD HL5 HO5 HLS9;obtain ⟨q7, c7, rfl, hc7, hq7⟩ := HE.o.own.foIn;obtain ⟨y0, y1, y2, y3, y4, yf⟩ := HE.o.box;obtain ⟨z0, z1, z2, z3, z4, zf⟩ := HE.o.rest.res;have HC7 := Zh hc7;have HQ7 := Zh hq7;clear hc7 hq7
  go_wp2_with fail
  have hc7 := HC7.o;have hq7 := HQ7.o
  have e7 : (((Fo.cons false 3 h 0 .nil .nil)).app (nusF (flt [a, b, i, j] [x.a, x.b, x.i, x.j]))).app (nusF x.l) = .cons false 3 h 0 .nil (nusF (flt [a, b, i, j] [x.a, x.b, x.i, x.j] ++ x.l)) := by
   rw [qhf]; simp [Fo.app]
  rw [e7] at hc7 hq7 ⊢;refine bodyPost_ret (v := trV true 1 ⟨#[40]⟩ 0 q7 (Fo.cons false 3 h 0 .nil (nusF (flt [a, b, i, j] [x.a, x.b, x.i, x.j] ++ x.l))).len c7) (by simp [trV, results, Tryz.results32, go_sem, z0, z1, z2, z3, z4]) rfl ⟨q7, c7, rfl, hc7, ?_, ?_, ?_⟩
  ·have h1 := qce [a, b, i, j] [x.a, x.b, x.i, x.j]
   have h2 := HC.o;simp [Fo.len, qag] at h1 ⊢; omega
  ·have hne : ∀ o b, FLk W B b -> ¬ b = (⟨W.heap.size + 1 + 1, o, none⟩ : Addr).block := fun o b h e => by unfold FLk at h; simp only at e; omega
   exact (((((hq7.only (Only.of_setCell _ _ _) (hne _)).only (Only.of_setCell _ _ _) (hne _)).only (Only.of_setCell _ _ _) (hne _)).only (Only.of_setCell _ _ _) (hne _)).only (Only.of_setCell _ _ _) (hne _)).mono (fun b hb _ => by unfold FLk at hb; omega)
  ·iterate 5 refine Below.setCell ?_ (show W.heap.size <= W.heap.size + 1 + 1 from Nat.le_trans (Nat.le_succ _) (Nat.le_succ _)) _
   exact HE.o.rest.below
 subst hQ;subst hA;simp only [Act.put, List.setIfInBounds_toArray, List.set_cons_zero, List.set_cons_succ] at KEY;refine qac (rs := [10, 19]) (by kernel_rfl) (by simp) ?_;refine AllReadyL.cons (o := ⟨some 29, .buildSlice 75 4 #[(0, .tmp 22), (1, .tmp 24), (2, .tmp 26), (3, .tmp 28)], 75, "proof.go:104", #[⟨3, .data⟩, ⟨5, .data⟩, ⟨7, .data⟩, ⟨9, .data⟩], none⟩) rfl (fun K0 hK => ?_) (AllReadyL.cons (o := ⟨some 38, .buildSlice 62 4 #[(0, .tmp 31), (1, .tmp 33), (2, .tmp 35), (3, .tmp 37)], 62, "proof.go:104", #[⟨12, .data⟩, ⟨14, .data⟩, ⟨16, .data⟩, ⟨18, .data⟩], none⟩) rfl (fun K0 hK => ?_) AllReadyL.nil)
 ·skip
  go_simp;have HA1 := Zh (HD.o.later HK.o (qab wd (.cells #[.bool a, .bool b, .bool i, .bool j] 4)));refine hK.out _ _ (SL.cons (fun _ => trivial) (SL.cons (fun _ => ⟨HA1.o.rest.form, HA1.o.rest.lk⟩) (SL.cons (fun _ => HA1.o.box.c4) SL.nil))) (fun hH => ?_);clear hK K0
  try simp only [Act.put, sI, s0, s1]
  refine qac (rs := [19]) (by kernel_rfl) (by simp) ?_;refine AllReadyL.cons (o := ⟨some 38, .buildSlice 62 4 #[(0, .tmp 31), (1, .tmp 33), (2, .tmp 35), (3, .tmp 37)], 62, "proof.go:104", #[⟨12, .data⟩, ⟨14, .data⟩, ⟨16, .data⟩, ⟨18, .data⟩], none⟩) rfl (fun K0 hK => ?_) AllReadyL.nil;go_simp;have HA2 := Zh (HA1.o.later HK.o (qab (wd.alloc (.cells #[.bool a, .bool b, .bool i, .bool j] 4)) (.cells #[.int .i64 x.a, .int .i64 x.b, .int .i64 x.i, .int .i64 x.j] 3)));refine hK.out _ _ (SL.cons (fun _ => trivial) (SL.cons (fun _ => ⟨HA2.o.rest.form, HA2.o.rest.lk⟩) (SL.cons (fun _ => HA2.o.box.c4) SL.nil))) (fun hH => ?_);clear hK K0
  try simp only [Act.put, sI, s0, s1]
  obtain ⟨we, hwe⟩ : ∃ we, we = (wd.alloc (.cells #[.bool a, .bool b, .bool i, .bool j] 4)).alloc (.cells #[.int .i64 x.a, .int .i64 x.b, .int .i64 x.i, .int .i64 x.j] 3) := ⟨_, rfl⟩
  have HBI := Zh (show BoolsIn we (some ⟨wd.heap.size, 0, none⟩) [a, b, i, j] /\ IntsIn we (some ⟨(wd.heap.size + 1), 0, none⟩) [x.a, x.b, x.i, x.j] from by
   rw [hwe];refine ⟨fun t ht => ⟨_, 0, rfl, ?_⟩, fun t ht => ⟨_, 0, rfl, ?_⟩⟩
   ·match t, ht with
    | 0, _ => simp [go_sem]
    | 1, _ => simp [go_sem]
    | 2, _ => simp [go_sem]
    | 3, _ => simp [go_sem]
   ·match t, ht with
    | 0, _ => simp [go_sem]
    | 1, _ => simp [go_sem]
    | 2, _ => simp [go_sem]
    | 3, _ => simp [go_sem])
  have HA3 := Zh (show LS (RLk W B h a b false i j x q c) (FLk W B) B we v1 (Fo.cons false 3 h 0 .nil .nil) from by rw [hwe]; exact HA2.o);rw [<- hwe] at hH ⊢;have HZ := Zh (show wd.heap.size <= we.heap.size from by rw [hwe]; simp; omega);clear hwe HA1 HA2;refine qac (rs := [20]) (by kernel_rfl) (by simp) ?_;refine AllReadyL.cons (o := ⟨some 39, .call ⟨.value (.func 33), #[.tmp 29, .tmp 38], #[75, 62]⟩, 33, "proof.go:104", #[⟨10, .data⟩, ⟨19, .data⟩], none⟩) rfl (fun K0 hK => ?_) AllReadyL.nil;go_simp;go_at_call 33;refine (qd8 _ 4 _ 4 4 [a, b, i, j] [x.a, x.b, x.i, x.j] we HBI.o.1 rfl HBI.o.2 rfl (by omega) (fun y hy => HX.o y (List.mem_cons_of_mem _ hy)) (qak HT.o HA3.o.rest.below)).mono ?_;rintro e w5 ⟨q5, c5, rfl, hown5, hb⟩;have HL5 := Zh (HA3.o.later HK.o hb);have HO5 := Zh hown5;clear hown5;refine hK.out _ _ (SL.cons (fun _ => trivial) (SL.cons (fun _ => ⟨HL5.o.rest.form, HL5.o.rest.lk⟩) (SL.cons (fun _ => HL5.o.box.c4) SL.nil))) (fun hH => ?_);clear hK K0
  try simp only [Act.put, sI, s0, s1]
  clear hH;refine qac (rs := [21]) (by kernel_rfl) (by simp) ?_;refine AllReadyL.cons (o := ⟨some 40, .call ⟨.builtin .append, #[.tmp 20, .tmp 39], #[33, 33]⟩, 33, "proof.go:104", #[⟨1, .data⟩, ⟨20, .data⟩, ⟨20, .chain⟩], none⟩) rfl (fun K0 hK => ?_) AllReadyL.nil;rw [if_pos (by rfl)];refine qa7 _ _ (by rfl) (FLk W B) (fun b => we.heap.size <= b) v1 _ _ (nusF (flt [a, b, i, j] [x.a, x.b, x.i, x.j])) (by rfl) (by rfl) HL5.o.own HO5.o (fun k hk hl => ⟨HK.o.new we k HA3.o.rest hk, fun e => ?_⟩) (HK.o.new _ _ HL5.o.rest (Nat.le_refl _)) (by first | (simp [Fo.len]; done) | (simp [Fo.len, Fo.snoc]; omega)) (by rw [qag]; have := qce [a, b, i, j] [x.a, x.b, x.i, x.j]; simp at this; omega) ?_
  ·have h1 := (HA3.o.own.blk k e).2
   have h2 : we.heap.size <= k := hk;omega
  intro p8 c8 w8 hpush ho8;have HE := Zh (HL5.o.turn HK.o ho8 hpush);have hbx8 := HL5.o.box_at HK.o ho8;have x8 := hbx8.c4;have f8 := hbx8.fz;have HS8 := Zh (aI (HL5.o.rest.form.only ho8 (fun e => by have h1 := (HL5.o.own.blk _ e).1.1; omega)) (HL5.o.rest.lk.only ho8 (fun e => by have h1 := (HL5.o.own.blk _ e).1.1; omega)));clear ho8 hbx8 hpush hb;refine hK.out _ _ (SL.cons (fun _ => trivial) (SL.cons (fun _ => HS8.o) (SL.cons (fun _ => x8) SL.nil))) (fun hH => ?_);clear hK K0
  try simp only [Act.put, sI, s0, s1]
  refine tk 0 22 ⟨some 41, .fieldAddr 35 (.tmp 5) 2, 0, "proof.go:104", #[⟨0, .phase⟩, ⟨1, .phase⟩, ⟨2, .phase⟩, ⟨3, .phase⟩, ⟨4, .phase⟩, ⟨5, .phase⟩, ⟨6, .phase⟩, ⟨7, .phase⟩, ⟨8, .phase⟩, ⟨9, .phase⟩, ⟨10, .phase⟩, ⟨11, .phase⟩, ⟨12, .phase⟩, ⟨13, .phase⟩, ⟨14, .phase⟩, ⟨15, .phase⟩, ⟨16, .phase⟩, ⟨17, .phase⟩, ⟨18, .phase⟩, ⟨19, .phase⟩, ⟨20, .phase⟩, ⟨21, .phase⟩], none⟩ ?_ rfl rfl ?_ hH fun hH => ?_
  rotate_left
  ·intro w hSw; (try dsimp only at hSw); go_simp; try with_reducible rfl
  try simp only [Act.put, sI, s0, s1]
  refine qac (rs := [23]) (by kernel_rfl) (by simp) ?_;refine AllReadyL.cons (o := ⟨none, .store 33 (.tmp 41) (.tmp 40), 0, "proof.go:104", #[⟨22, .data⟩, ⟨21, .data⟩, ⟨21, .chain⟩, ⟨0, .phase⟩, ⟨1, .phase⟩, ⟨2, .phase⟩, ⟨3, .phase⟩, ⟨4, .phase⟩, ⟨5, .phase⟩, ⟨6, .phase⟩, ⟨7, .phase⟩, ⟨8, .phase⟩, ⟨9, .phase⟩, ⟨10, .phase⟩, ⟨11, .phase⟩, ⟨12, .phase⟩, ⟨13, .phase⟩, ⟨14, .phase⟩, ⟨15, .phase⟩, ⟨16, .phase⟩, ⟨17, .phase⟩, ⟨18, .phase⟩, ⟨19, .phase⟩, ⟨20, .phase⟩, ⟨21, .phase⟩], none⟩) rfl (fun K0 hK => ?_) AllReadyL.nil;go_simp;refine hK.out _ _ (SL.cons (fun _ => trivial) (SL.cons (fun _ => ⟨(HS8.o.1).only (Only.of_setCell _ _ _) (fun e => by have h1 := HGB.o; simp only at e; omega), (HS8.o.2).only (Only.of_setCell _ _ _) (fun e => by have h1 := HGB.o; simp only at e; omega)⟩) (SL.cons (fun h => absurd h (by decide +kernel)) SL.nil))) (fun hH => ?_);clear hK K0
  try simp only [Act.put, sI, s0, s1]
  refine qah (by kernel_rfl) ?_ _;exact KEY _ _ _ _ _ _ HE
 ·skip
  go_simp;have HA1 := Zh (HD.o.later HK.o (qab wd (.cells #[.int .i64 x.a, .int .i64 x.b, .int .i64 x.i, .int .i64 x.j] 3)));refine hK.out _ _ (SL.cons (fun _ => trivial) (SL.cons (fun _ => ⟨HA1.o.rest.form, HA1.o.rest.lk⟩) (SL.cons (fun _ => HA1.o.box.c4) SL.nil))) (fun hH => ?_);clear hK K0
  try simp only [Act.put, sI, s0, s1]
  refine qac (rs := [10]) (by kernel_rfl) (by simp) ?_;refine AllReadyL.cons (o := ⟨some 29, .buildSlice 75 4 #[(0, .tmp 22), (1, .tmp 24), (2, .tmp 26), (3, .tmp 28)], 75, "proof.go:104", #[⟨3, .data⟩, ⟨5, .data⟩, ⟨7, .data⟩, ⟨9, .data⟩], none⟩) rfl (fun K0 hK => ?_) AllReadyL.nil;go_simp;have HA2 := Zh (HA1.o.later HK.o (qab (wd.alloc (.cells #[.int .i64 x.a, .int .i64 x.b, .int .i64 x.i, .int .i64 x.j] 3)) (.cells #[.bool a, .bool b, .bool i, .bool j] 4)));refine hK.out _ _ (SL.cons (fun _ => trivial) (SL.cons (fun _ => ⟨HA2.o.rest.form, HA2.o.rest.lk⟩) (SL.cons (fun _ => HA2.o.box.c4) SL.nil))) (fun hH => ?_);clear hK K0
  try simp only [Act.put, sI, s0, s1]
  obtain ⟨we, hwe⟩ : ∃ we, we = (wd.alloc (.cells #[.int .i64 x.a, .int .i64 x.b, .int .i64 x.i, .int .i64 x.j] 3)).alloc (.cells #[.bool a, .bool b, .bool i, .bool j] 4) := ⟨_, rfl⟩
  have HBI := Zh (show BoolsIn we (some ⟨(wd.heap.size + 1), 0, none⟩) [a, b, i, j] /\ IntsIn we (some ⟨wd.heap.size, 0, none⟩) [x.a, x.b, x.i, x.j] from by
   rw [hwe];refine ⟨fun t ht => ⟨_, 0, rfl, ?_⟩, fun t ht => ⟨_, 0, rfl, ?_⟩⟩
   ·match t, ht with
    | 0, _ => simp [go_sem]
    | 1, _ => simp [go_sem]
    | 2, _ => simp [go_sem]
    | 3, _ => simp [go_sem]
   ·match t, ht with
    | 0, _ => simp [go_sem]
    | 1, _ => simp [go_sem]
    | 2, _ => simp [go_sem]
    | 3, _ => simp [go_sem])
  have HA3 := Zh (show LS (RLk W B h a b false i j x q c) (FLk W B) B we v1 (Fo.cons false 3 h 0 .nil .nil) from by rw [hwe]; exact HA2.o);rw [<- hwe] at hH ⊢;have HZ := Zh (show wd.heap.size <= we.heap.size from by rw [hwe]; simp; omega);clear hwe HA1 HA2;refine qac (rs := [20]) (by kernel_rfl) (by simp) ?_;refine AllReadyL.cons (o := ⟨some 39, .call ⟨.value (.func 33), #[.tmp 29, .tmp 38], #[75, 62]⟩, 33, "proof.go:104", #[⟨10, .data⟩, ⟨19, .data⟩], none⟩) rfl (fun K0 hK => ?_) AllReadyL.nil;go_simp;go_at_call 33;refine (qd8 _ 4 _ 4 4 [a, b, i, j] [x.a, x.b, x.i, x.j] we HBI.o.1 rfl HBI.o.2 rfl (by omega) (fun y hy => HX.o y (List.mem_cons_of_mem _ hy)) (qak HT.o HA3.o.rest.below)).mono ?_;rintro e w5 ⟨q5, c5, rfl, hown5, hb⟩;have HL5 := Zh (HA3.o.later HK.o hb);have HO5 := Zh hown5;clear hown5;refine hK.out _ _ (SL.cons (fun _ => trivial) (SL.cons (fun _ => ⟨HL5.o.rest.form, HL5.o.rest.lk⟩) (SL.cons (fun _ => HL5.o.box.c4) SL.nil))) (fun hH => ?_);clear hK K0
  try simp only [Act.put, sI, s0, s1]
  clear hH;refine qac (rs := [21]) (by kernel_rfl) (by simp) ?_;refine AllReadyL.cons (o := ⟨some 40, .call ⟨.builtin .append, #[.tmp 20, .tmp 39], #[33, 33]⟩, 33, "proof.go:104", #[⟨1, .data⟩, ⟨20, .data⟩, ⟨20, .chain⟩], none⟩) rfl (fun K0 hK => ?_) AllReadyL.nil;rw [if_pos (by rfl)];refine qa7 _ _ (by rfl) (FLk W B) (fun b => we.heap.size <= b) v1 _ _ (nusF (flt [a, b, i, j] [x.a, x.b, x.i, x.j])) (by rfl) (by rfl) HL5.o.own HO5.o (fun k hk hl => ⟨HK.o.new we k HA3.o.rest hk, fun e => ?_⟩) (HK.o.new _ _ HL5.o.rest (Nat.le_refl _)) (by first | (simp [Fo.len]; done) | (simp [Fo.len, Fo.snoc]; omega)) (by rw [qag]; have := qce [a, b, i, j] [x.a, x.b, x.i, x.j]; simp at this; omega) ?_
  ·have h1 := (HA3.o.own.blk k e).2
   have h2 : we.heap.size <= k := hk;omega
  intro p8 c8 w8 hpush ho8;have HE := Zh (HL5.o.turn HK.o ho8 hpush);have hbx8 := HL5.o.box_at HK.o ho8;have x8 := hbx8.c4;have f8 := hbx8.fz;have HS8 := Zh (aI (HL5.o.rest.form.only ho8 (fun e => by have h1 := (HL5.o.own.blk _ e).1.1; omega)) (HL5.o.rest.lk.only ho8 (fun e => by have h1 := (HL5.o.own.blk _ e).1.1; omega)));clear ho8 hbx8 hpush hb;refine hK.out _ _ (SL.cons (fun _ => trivial) (SL.cons (fun _ => HS8.o) (SL.cons (fun _ => x8) SL.nil))) (fun hH => ?_);clear hK K0
  try simp only [Act.put, sI, s0, s1]
  refine tk 0 22 ⟨some 41, .fieldAddr 35 (.tmp 5) 2, 0, "proof.go:104", #[⟨0, .phase⟩, ⟨1, .phase⟩, ⟨2, .phase⟩, ⟨3, .phase⟩, ⟨4, .phase⟩, ⟨5, .phase⟩, ⟨6, .phase⟩, ⟨7, .phase⟩, ⟨8, .phase⟩, ⟨9, .phase⟩, ⟨10, .phase⟩, ⟨11, .phase⟩, ⟨12, .phase⟩, ⟨13, .phase⟩, ⟨14, .phase⟩, ⟨15, .phase⟩, ⟨16, .phase⟩, ⟨17, .phase⟩, ⟨18, .phase⟩, ⟨19, .phase⟩, ⟨20, .phase⟩, ⟨21, .phase⟩], none⟩ ?_ rfl rfl ?_ hH fun hH => ?_
  rotate_left
  ·intro w hSw; (try dsimp only at hSw); go_simp; try with_reducible rfl
  try simp only [Act.put, sI, s0, s1]
  refine qac (rs := [23]) (by kernel_rfl) (by simp) ?_;refine AllReadyL.cons (o := ⟨none, .store 33 (.tmp 41) (.tmp 40), 0, "proof.go:104", #[⟨22, .data⟩, ⟨21, .data⟩, ⟨21, .chain⟩, ⟨0, .phase⟩, ⟨1, .phase⟩, ⟨2, .phase⟩, ⟨3, .phase⟩, ⟨4, .phase⟩, ⟨5, .phase⟩, ⟨6, .phase⟩, ⟨7, .phase⟩, ⟨8, .phase⟩, ⟨9, .phase⟩, ⟨10, .phase⟩, ⟨11, .phase⟩, ⟨12, .phase⟩, ⟨13, .phase⟩, ⟨14, .phase⟩, ⟨15, .phase⟩, ⟨16, .phase⟩, ⟨17, .phase⟩, ⟨18, .phase⟩, ⟨19, .phase⟩, ⟨20, .phase⟩, ⟨21, .phase⟩], none⟩) rfl (fun K0 hK => ?_) AllReadyL.nil;go_simp;refine hK.out _ _ (SL.cons (fun _ => trivial) (SL.cons (fun _ => ⟨(HS8.o.1).only (Only.of_setCell _ _ _) (fun e => by have h1 := HGB.o; simp only at e; omega), (HS8.o.2).only (Only.of_setCell _ _ _) (fun e => by have h1 := HGB.o; simp only at e; omega)⟩) (SL.cons (fun h => absurd h (by decide +kernel)) SL.nil))) (fun hH => ?_);clear hK K0
  try simp only [Act.put, sI, s0, s1]
  refine qah (by kernel_rfl) ?_ _;exact KEY _ _ _ _ _ _ HE
theorem qdy (h : ByteArray) (f1 f2 a b i j list : Bool) (x : Lk) (q : Option Addr) (c : Nat) (W : World) (hl : IntsIn W q x.l) (hc : x.l.length <= 1000) (hxl : ∀ y ∈ x.l, -4611686018427387903 <= y /\ y <= 4611686018427387903)
  (hx : ∀ y ∈ [x.lit, x.a, x.b, x.i, x.j], -4611686018427387903 <= y /\ y <= 4611686018427387903) (htab : qb7 W) :
  Calls Tryz.prog 32 #[fmV h f1 f2 a b true i j list, lkV x q c] W fun e w' => TrR W w' e true 1 ⟨#[40]⟩ (.cons false 3 h 0 .nil (nusF ([x.lit] ++ flt [a, b, i, j] [x.a, x.b, x.i, x.j] ++ x.l))) := by
 have HI := Zh hl;have HC := Zh hc;have HXL := Zh hxl;have HX := Zh hx;have HT := Zh htab;obtain ⟨w3, hw3⟩ : ∃ w3, w3 = (((W.alloc (.cells #[.string h, .bool f1, .bool f2, .bool a, .bool b, .bool true, .bool i, .bool j, .bool list] 66)).alloc (.cells #[.int .u8 x.k, .int .i64 x.lit, .int .i64 x.a, .int .i64 x.b, .int .i64 x.i, .int .i64 x.j, .slice q x.l.length c] 64)).alloc (.cells #[.bool false, .int .u8 0, .string ⟨#[]⟩, .int .i64 0, .slice none 0 0] 35)) := ⟨_, rfl⟩;have hb3 : Below W.heap.size W w3 := by rw [hw3]; exact (((qab W _).alloc (by simp) _).alloc (by simp; omega) _)
 have hsz : w3.heap.size = W.heap.size + 3 := by rw [hw3]; simp
 have hf3 : FormAt w3 W.heap.size h a b true i j := by
  rw [hw3];exact ⟨by simp [go_sem], by simp [go_sem], by simp [go_sem], by simp [go_sem], by simp [go_sem], by simp [go_sem]⟩
 have hk3 : LkAt w3 (W.heap.size + 1) x q c := by
  rw [hw3];exact ⟨by simp [go_sem], by simp [go_sem], by simp [go_sem], by simp [go_sem], by simp [go_sem], by simp [go_sem], by simp [go_sem]⟩
 have hz3 : BoxT w3 (W.heap.size + 1 + 1) false 0 ⟨#[]⟩ 0 (.slice none 0 0) := by
  have h := qam ((W.alloc (.cells #[.string h, .bool f1, .bool f2, .bool a, .bool b, .bool true, .bool i, .bool j, .bool list] 66)).alloc (.cells #[.int .u8 x.k, .int .i64 x.lit, .int .i64 x.a, .int .i64 x.b, .int .i64 x.i, .int .i64 x.j, .slice q x.l.length c] 64)) false 0 ⟨#[]⟩ 0 (.slice none 0 0);rw [hw3]; simpa using h
 have HW3 := Zh hw3;have HS3 := Zh (aI hf3 (aI hk3 (aI hz3 (aI hb3 hsz))));have HL3 := Zh (qip h w3);clear hl hc hxl hx htab hw3 hb3 hsz hz3 hk3;obtain ⟨y0, y3, y4, y5, y6, y7⟩ := hf3;unfold fmV lkV;go_enter Tryz.func32, Tryz.ntmps32
 go_wp2_with fail
 rw [<- HW3.o];refine HL3.o.mono ?_;rintro e w4 ⟨g, rfl, hg, hown, hb⟩;have hf4 : FormAt w4 W.heap.size h a b true i j := HS3.o.1.only (Only.of_below (T := fun _ => False) hb) (fun h => h);have hk4 : LkAt w4 (W.heap.size + 1) x q c := HS3.o.2.1.later hb;have hz4 := HS3.o.2.2.1.later hb;have hb4 := HS3.o.2.2.2.1.trans (hb.mono HS3.o.2.2.2.1.size);have hgs : W.heap.size + 3 <= g /\ g < w4.heap.size := ⟨by have := HS3.o.2.2.2.2; omega, (qaw hown.choose_spec.1 (k := g) rfl).2⟩;obtain ⟨B, hB⟩ : ∃ B, B = w4.heap.size := ⟨_, rfl⟩;have HBB := Zh hB;have HGB := Zh (show W.heap.size + 3 <= B from by omega);obtain ⟨wa, hwa⟩ : ∃ wa, wa = w4.alloc (.cells #[.bool true, .int .u8 1, .string ⟨#[40]⟩, .int .i64 0, .slice (some ⟨g, 0, none⟩) 1 1] 35) := ⟨_, rfl⟩;have hba : Below w4.heap.size w4 wa := by rw [hwa]; exact qab _ _
 have hown2 : OwnG wa (FLk W B) (.slice (some ⟨g, 0, none⟩) 1 1) (.cons false 3 h 0 .nil .nil) := by
  rw [hwa];exact (hown.wide.mono (F' := FLk W B) (fun k hk hl => ⟨by have : g <= k := hk; omega, by omega⟩)).later (qab w4 _)
 have HLS := Zh (show LS (RLk W B h a b true i j x q c) (FLk W B) B wa (.slice (some ⟨g, 0, none⟩) 1 1) (.cons false 3 h 0 .nil .nil) from
  ⟨⟨hf4.only (Only.of_below (T := fun _ => False) hba) (fun h => h), hk4.later hba, hz4.later hba, hb4.trans (hba.mono hb4.size), by rw [hwa, hB]; simp⟩,
   by rw [hwa, hB]; exact qam w4 true 1 ⟨#[40]⟩ 0 (.slice (some ⟨g, 0, none⟩) 1 1), hown2⟩)
 have HK := Zh (qkw W B HGB.o h a b true i j x q c);have HWA := Zh hwa;have y5' := (hf4.only (Only.of_below (T := fun _ => False) (qab w4 (.cells #[.bool true, .int .u8 1, .string ⟨#[40]⟩, .int .i64 0, .slice (some ⟨g, 0, none⟩) 1 1] 35))) (fun h => h)).c5;clear hb hg hown hf4 hk4 hz4 hb4 hgs hB hwa hba hown2 y0 y3 y4 y5 y6 y7;unfold trV
 dsimp only
 clear HS3 HL3 HW3
 go_wp2_with fail
 rw [<- HWA.o, <- HBB.o];clear HWA HBB y5';generalize Value.slice (some ⟨g, 0, none⟩) 1 1 = v1 at *;have HD := Zh (HLS.o.later HK.o (qae _));refine qai [(1000, (fun _ => True : World -> Prop)), (1000, (fun w => FormAt w W.heap.size h a b true i j /\ LkAt w (W.heap.size + 1) x q c : World -> Prop)), (8, (fun w => w.cell? ⟨B, 4, none⟩ = some v1 : World -> Prop))] (by kernel_rfl) (SL.cons (fun _ => trivial) (SL.cons (fun _ => ⟨HD.o.rest.form, HD.o.rest.lk⟩) (SL.cons (fun _ => HD.o.box.c4) SL.nil))) (fun hH => ?_);generalize wa.drew = wd at *;refine tk 0 0 ⟨some 11, .fieldAddr 35 (.tmp 5) 2, 0, "proof.go:102", #[], none⟩ ?_ rfl rfl ?_ hH fun hH => ?_
 rotate_left
 ·intro w hSw; (try dsimp only at hSw); go_simp; try with_reducible rfl
 try simp only [Act.put, sI, s0, s1]
 refine tk 2 1 ⟨some 12, .load 33 (.tmp 11), 33, "proof.go:102", #[⟨0, .data⟩], none⟩ ?_ rfl rfl ?_ hH fun hH => ?_
 rotate_left
 ·intro w hSw; (try dsimp only at hSw); go_simp; try with_reducible rfl
 try simp only [Act.put, sI, s0, s1]
 refine tk 0 2 ⟨some 13, .fieldAddr 64 (.tmp 3) 1, 0, "proof.go:102", #[], none⟩ ?_ rfl rfl ?_ hH fun hH => ?_
 rotate_left
 ·intro w hSw; (try dsimp only at hSw); go_simp; try with_reducible rfl
 try simp only [Act.put, sI, s0, s1]
 refine tk 1 3 ⟨some 14, .load 44 (.tmp 13), 44, "proof.go:102", #[⟨2, .data⟩], none⟩ ?_ rfl rfl ?_ hH fun hH => ?_
 rotate_left
 ·intro w hSw; (try dsimp only at hSw); obtain ⟨z0, z1, z2, z3, z4, z5, z6⟩ := hSw.2; go_simp; try with_reducible rfl
 try simp only [Act.put, sI, s0, s1]
 refine qac (rs := [4]) (by kernel_rfl) (by simp) ?_;refine AllReadyL.cons (o := ⟨some 15, .call ⟨.value (.func 66), #[.tmp 14], #[44]⟩, 35, "proof.go:102", #[⟨3, .data⟩], none⟩) rfl (fun K hK => ?_) AllReadyL.nil;go_simp;go_at_call 66;refine (qkq x.lit wd (HX.o _ (by simp)).1 (HX.o _ (by simp)).2 (qak HT.o HD.o.rest.below)).mono ?_;rintro e w5 ⟨q5, c5, rfl, hd, hd2, hq, hb⟩;have HL5 := Zh (HD.o.later HK.o hb);refine hK.out _ _ (SL.cons (fun _ => trivial) (SL.cons (fun _ => ⟨HL5.o.rest.form, HL5.o.rest.lk⟩) (SL.cons (fun _ => HL5.o.box.c4) SL.nil))) (fun hH => ?_);clear hK K
 try simp only [Act.put, sI, s0, s1]
 unfold trV;refine qac (rs := [5]) (by kernel_rfl) (by simp) ?_;refine AllReadyL.cons (o := ⟨some 16, .buildSlice 33 1 #[(0, .tmp 15)], 33, "proof.go:102", #[⟨4, .data⟩], none⟩) rfl (fun K hK => ?_) AllReadyL.nil;go_simp;have HL6 := Zh (HL5.o.later HK.o (qab w5 (.cells #[.bool (nuL x.lit), .int .u8 (nuK x.lit), .string (nuS x.lit), .int .i64 0, .slice q5 (nuX x.lit).len c5] 35)));refine hK.out _ _ (SL.cons (fun _ => trivial) (SL.cons (fun _ => ⟨HL6.o.rest.form, HL6.o.rest.lk⟩) (SL.cons (fun _ => HL6.o.box.c4) SL.nil))) (fun hH => ?_);clear hK K
 try simp only [Act.put, sI, s0, s1]
 have hnb := qam w5 (nuL x.lit) (nuK x.lit) (nuS x.lit) 0 (.slice q5 (nuX x.lit).len c5);have hq6 := hq.later (qab w5 (.cells #[.bool (nuL x.lit), .int .u8 (nuK x.lit), .string (nuS x.lit), .int .i64 0, .slice q5 (nuX x.lit).len c5] 35));clear hH;refine qac (rs := [6]) (by kernel_rfl) (by simp) ?_;refine AllReadyL.cons (o := ⟨some 17, .call ⟨.builtin .append, #[.tmp 12, .tmp 16], #[33, 33]⟩, 33, "proof.go:102", #[⟨1, .data⟩, ⟨5, .data⟩, ⟨4, .chain⟩], none⟩) rfl (fun K hK => ?_) AllReadyL.nil;rw [if_pos (by rfl)];refine qca _ _ (by rfl) (FLk W B) (fun b => wd.heap.size <= b) w5.heap.size v1 _ (nuL x.lit) (nuK x.lit) (nuS x.lit) 0 (nuX x.lit) q5 c5 (by rfl) (by rfl) HL6.o.own hnb hq6 hd hd2 (fun k hk hl => ⟨HK.o.new wd k HD.o.rest hk, fun e => ?_⟩) (HK.o.new _ _ HL6.o.rest (Nat.le_refl _)) (by simp [Fo.len]) ?_
 ·have h1 := (HD.o.own.blk k e).2
  have h2 : wd.heap.size <= k := hk;omega
 intro p8 c8 w8 hpush ho8;have HE := Zh (HL6.o.turn HK.o ho8 hpush);have hbx8 := HL6.o.box_at HK.o ho8;have x8 := hbx8.c4;have f8 := hbx8.fz;have HS8 := Zh (aI (HL6.o.rest.form.only ho8 (fun e => by have h1 := (HL6.o.own.blk _ e).1.1; omega)) (HL6.o.rest.lk.only ho8 (fun e => by have h1 := (HL6.o.own.blk _ e).1.1; omega)));clear ho8 hbx8 hpush hnb hq6 hq hb hd hd2;refine hK.out _ _ (SL.cons (fun _ => trivial) (SL.cons (fun _ => HS8.o) (SL.cons (fun _ => x8) SL.nil))) (fun hH => ?_);clear hK K
 try simp only [Act.put, sI, s0, s1]
 refine tk 0 7 ⟨some 18, .fieldAddr 35 (.tmp 5) 2, 0, "proof.go:102", #[⟨0, .phase⟩, ⟨1, .phase⟩, ⟨2, .phase⟩, ⟨3, .phase⟩, ⟨4, .phase⟩, ⟨5, .phase⟩, ⟨6, .phase⟩], none⟩ ?_ rfl rfl ?_ hH fun hH => ?_
 rotate_left
 ·intro w hSw; (try dsimp only at hSw); go_simp; try with_reducible rfl
 try simp only [Act.put, sI, s0, s1]
 refine qac (rs := [8]) (by kernel_rfl) (by simp) ?_;refine AllReadyL.cons (o := ⟨none, .store 33 (.tmp 18) (.tmp 17), 0, "proof.go:102", #[⟨7, .data⟩, ⟨6, .data⟩, ⟨6, .chain⟩, ⟨0, .phase⟩, ⟨1, .phase⟩, ⟨2, .phase⟩, ⟨3, .phase⟩, ⟨4, .phase⟩, ⟨5, .phase⟩, ⟨6, .phase⟩], none⟩) rfl (fun K hK => ?_) AllReadyL.nil;go_simp;refine hK.out _ _ (SL.cons (fun _ => trivial) (SL.cons (fun _ => ⟨(HS8.o.1).only (Only.of_setCell _ _ _) (fun e => by have h1 := HGB.o; simp only at e; omega), (HS8.o.2).only (Only.of_setCell _ _ _) (fun e => by have h1 := HGB.o; simp only at e; omega)⟩) (SL.cons (fun h => absurd h (by decide +kernel)) SL.nil))) (fun hH => ?_);clear hK K
 try simp only [Act.put, sI, s0, s1]
 refine qah (by kernel_rfl) ?_ _;obtain ⟨v2, hv2⟩ : ∃ v, v = Value.slice p8 ((Fo.cons false 3 h 0 Fo.nil Fo.nil).len + 1) c8 := ⟨_, rfl⟩;obtain ⟨w2, hw2⟩ : ∃ w, w = w8.setCell ⟨B, 4, none⟩ (Value.slice p8 ((Fo.cons false 3 h 0 Fo.nil Fo.nil).len + 1) c8) := ⟨_, rfl⟩;rw [<- hw2, <- hv2] at HE ⊢;have HLS2 := HE;clear hw2 hv2 x8 f8 HS8 hH HD HL5 HL6 HE HLS
 go_wp2_with fail
 have HD := Zh (HLS2.o.later HK.o (qae _));refine qai [(1000, (fun _ => True : World -> Prop)), (1000, (fun w => FormAt w W.heap.size h a b true i j /\ LkAt w (W.heap.size + 1) x q c : World -> Prop)), (23, (fun w => w.cell? ⟨B, 4, none⟩ = some v2 : World -> Prop))] (by kernel_rfl) (SL.cons (fun _ => trivial) (SL.cons (fun _ => ⟨HD.o.rest.form, HD.o.rest.lk⟩) (SL.cons (fun _ => HD.o.box.c4) SL.nil))) (fun hH => ?_);generalize w2.drew = wd at *;refine tk 0 0 ⟨some 19, .fieldAddr 35 (.tmp 5) 2, 0, "proof.go:104", #[], none⟩ ?_ rfl rfl ?_ hH fun hH => ?_
 rotate_left
 ·intro w hSw; (try dsimp only at hSw); go_simp; try with_reducible rfl
 try simp only [Act.put, sI, s0, s1]
 refine tk 2 1 ⟨some 20, .load 33 (.tmp 19), 33, "proof.go:104", #[⟨0, .data⟩], none⟩ ?_ rfl rfl ?_ hH fun hH => ?_
 rotate_left
 ·intro w hSw; (try dsimp only at hSw); go_simp; try with_reducible rfl
 try simp only [Act.put, sI, s0, s1]
 refine tk 0 2 ⟨some 21, .fieldAddr 66 (.tmp 2) 3, 0, "proof.go:104", #[], none⟩ ?_ rfl rfl ?_ hH fun hH => ?_
 rotate_left
 ·intro w hSw; (try dsimp only at hSw); go_simp; try with_reducible rfl
 try simp only [Act.put, sI, s0, s1]
 refine tk 1 3 ⟨some 22, .load 4 (.tmp 21), 4, "proof.go:104", #[⟨2, .data⟩], none⟩ ?_ rfl rfl ?_ hH fun hH => ?_
 rotate_left
 ·intro w hSw; (try dsimp only at hSw); obtain ⟨z0, z3, z4, z5, z6, z7⟩ := hSw.1; go_simp; try with_reducible rfl
 try simp only [Act.put, sI, s0, s1]
 refine tk 0 4 ⟨some 23, .fieldAddr 66 (.tmp 2) 4, 0, "proof.go:104", #[], none⟩ ?_ rfl rfl ?_ hH fun hH => ?_
 rotate_left
 ·intro w hSw; (try dsimp only at hSw); go_simp; try with_reducible rfl
 try simp only [Act.put, sI, s0, s1]
 refine tk 1 5 ⟨some 24, .load 4 (.tmp 23), 4, "proof.go:104", #[⟨4, .data⟩], none⟩ ?_ rfl rfl ?_ hH fun hH => ?_
 rotate_left
 ·intro w hSw; (try dsimp only at hSw); obtain ⟨z0, z3, z4, z5, z6, z7⟩ := hSw.1; go_simp; try with_reducible rfl
 try simp only [Act.put, sI, s0, s1]
 refine tk 0 6 ⟨some 25, .fieldAddr 66 (.tmp 2) 6, 0, "proof.go:104", #[], none⟩ ?_ rfl rfl ?_ hH fun hH => ?_
 rotate_left
 ·intro w hSw; (try dsimp only at hSw); go_simp; try with_reducible rfl
 try simp only [Act.put, sI, s0, s1]
 refine tk 1 7 ⟨some 26, .load 4 (.tmp 25), 4, "proof.go:104", #[⟨6, .data⟩], none⟩ ?_ rfl rfl ?_ hH fun hH => ?_
 rotate_left
 ·intro w hSw; (try dsimp only at hSw); obtain ⟨z0, z3, z4, z5, z6, z7⟩ := hSw.1; go_simp; try with_reducible rfl
 try simp only [Act.put, sI, s0, s1]
 refine tk 0 8 ⟨some 27, .fieldAddr 66 (.tmp 2) 7, 0, "proof.go:104", #[], none⟩ ?_ rfl rfl ?_ hH fun hH => ?_
 rotate_left
 ·intro w hSw; (try dsimp only at hSw); go_simp; try with_reducible rfl
 try simp only [Act.put, sI, s0, s1]
 refine tk 1 9 ⟨some 28, .load 4 (.tmp 27), 4, "proof.go:104", #[⟨8, .data⟩], none⟩ ?_ rfl rfl ?_ hH fun hH => ?_
 rotate_left
 ·intro w hSw; (try dsimp only at hSw); obtain ⟨z0, z3, z4, z5, z6, z7⟩ := hSw.1; go_simp; try with_reducible rfl
 try simp only [Act.put, sI, s0, s1]
 refine tk 0 11 ⟨some 30, .fieldAddr 64 (.tmp 3) 2, 0, "proof.go:104", #[], none⟩ ?_ rfl rfl ?_ hH fun hH => ?_
 rotate_left
 ·intro w hSw; (try dsimp only at hSw); go_simp; try with_reducible rfl
 try simp only [Act.put, sI, s0, s1]
 refine tk 1 12 ⟨some 31, .load 3 (.tmp 30), 3, "proof.go:104", #[⟨11, .data⟩], none⟩ ?_ rfl rfl ?_ hH fun hH => ?_
 rotate_left
 ·intro w hSw; (try dsimp only at hSw); obtain ⟨z0, z1, z2, z3, z4, z5, z6⟩ := hSw.2; go_simp; try with_reducible rfl
 try simp only [Act.put, sI, s0, s1]
 refine tk 0 13 ⟨some 32, .fieldAddr 64 (.tmp 3) 3, 0, "proof.go:104", #[], none⟩ ?_ rfl rfl ?_ hH fun hH => ?_
 rotate_left
 ·intro w hSw; (try dsimp only at hSw); go_simp; try with_reducible rfl
 try simp only [Act.put, sI, s0, s1]
 refine tk 1 14 ⟨some 33, .load 3 (.tmp 32), 3, "proof.go:104", #[⟨13, .data⟩], none⟩ ?_ rfl rfl ?_ hH fun hH => ?_
 rotate_left
 ·intro w hSw; (try dsimp only at hSw); obtain ⟨z0, z1, z2, z3, z4, z5, z6⟩ := hSw.2; go_simp; try with_reducible rfl
 try simp only [Act.put, sI, s0, s1]
 refine tk 0 15 ⟨some 34, .fieldAddr 64 (.tmp 3) 4, 0, "proof.go:104", #[], none⟩ ?_ rfl rfl ?_ hH fun hH => ?_
 rotate_left
 ·intro w hSw; (try dsimp only at hSw); go_simp; try with_reducible rfl
 try simp only [Act.put, sI, s0, s1]
 refine tk 1 16 ⟨some 35, .load 3 (.tmp 34), 3, "proof.go:104", #[⟨15, .data⟩], none⟩ ?_ rfl rfl ?_ hH fun hH => ?_
 rotate_left
 ·intro w hSw; (try dsimp only at hSw); obtain ⟨z0, z1, z2, z3, z4, z5, z6⟩ := hSw.2; go_simp; try with_reducible rfl
 try simp only [Act.put, sI, s0, s1]
 refine tk 0 17 ⟨some 36, .fieldAddr 64 (.tmp 3) 5, 0, "proof.go:104", #[], none⟩ ?_ rfl rfl ?_ hH fun hH => ?_
 rotate_left
 ·intro w hSw; (try dsimp only at hSw); go_simp; try with_reducible rfl
 try simp only [Act.put, sI, s0, s1]
 refine tk 1 18 ⟨some 37, .load 3 (.tmp 36), 3, "proof.go:104", #[⟨17, .data⟩], none⟩ ?_ rfl rfl ?_ hH fun hH => ?_
 rotate_left
 ·intro w hSw; (try dsimp only at hSw); obtain ⟨z0, z1, z2, z3, z4, z5, z6⟩ := hSw.2; go_simp; try with_reducible rfl
 try simp only [Act.put, sI, s0, s1]
 refine qcl (fun Q0 A0 hQ hA => ?_)
 have KEY : ∀ (v29 v38 v39 v40 v41 : Value) (w9 : World), Hid (LS (RLk W B h a b true i j x q c) (FLk W B) B w9 v40 (((Fo.cons false 3 h 0 .nil .nil).snoc (nuL x.lit) (nuK x.lit) (nuS x.lit) 0 (nuX x.lit)).app (nusF (flt [a, b, i, j] [x.a, x.b, x.i, x.j])))) -> Q0 Exit.normal (((((A0.put (some 29) v29).put (some 38) v38).put (some 39) v39).put (some 40) v40).put (some 41) v41) w9 := by
  intro v29 v38 v39 v40 v41 w9 HLS9;subst hQ;subst hA;clear hH HD
  try simp only [Act.put, sI, s0, s1]
  go_wp2_with fail
  have HD := Zh (HLS9.o.later HK.o (qae _));refine qai [(1000, (fun _ => True : World -> Prop)), (1000, (fun w => FormAt w W.heap.size h a b true i j /\ LkAt w (W.heap.size + 1) x q c : World -> Prop)), (7, (fun w => w.cell? ⟨B, 4, none⟩ = some v40 : World -> Prop))] (by kernel_rfl) (SL.cons (fun _ => trivial) (SL.cons (fun _ => ⟨HD.o.rest.form, HD.o.rest.lk⟩) (SL.cons (fun _ => HD.o.box.c4) SL.nil))) (fun hH => ?_);generalize w9.drew = wd at *;refine tk 0 0 ⟨some 42, .fieldAddr 35 (.tmp 5) 2, 0, "proof.go:105", #[], none⟩ ?_ rfl rfl ?_ hH fun hH => ?_
  rotate_left
  ·intro w hSw; (try dsimp only at hSw); go_simp; try with_reducible rfl
  try simp only [Act.put, sI, s0, s1]
  refine tk 2 1 ⟨some 43, .load 33 (.tmp 42), 33, "proof.go:105", #[⟨0, .data⟩], none⟩ ?_ rfl rfl ?_ hH fun hH => ?_
  rotate_left
  ·intro w hSw; (try dsimp only at hSw); go_simp; try with_reducible rfl
  try simp only [Act.put, sI, s0, s1]
  refine tk 0 2 ⟨some 44, .fieldAddr 64 (.tmp 3) 6, 0, "proof.go:105", #[], none⟩ ?_ rfl rfl ?_ hH fun hH => ?_
  rotate_left
  ·intro w hSw; (try dsimp only at hSw); go_simp; try with_reducible rfl
  try simp only [Act.put, sI, s0, s1]
  refine tk 1 3 ⟨some 45, .load 62 (.tmp 44), 62, "proof.go:105", #[⟨2, .data⟩], none⟩ ?_ rfl rfl ?_ hH fun hH => ?_
  rotate_left
  ·intro w hSw; (try dsimp only at hSw); obtain ⟨z0, z1, z2, z3, z4, z5, z6⟩ := hSw.2; go_simp; try with_reducible rfl
  try simp only [Act.put, sI, s0, s1]
  refine qac (rs := [4]) (by kernel_rfl) (by simp) ?_;refine AllReadyL.cons (o := ⟨some 46, .call ⟨.value (.func 67), #[.tmp 45], #[62]⟩, 33, "proof.go:105", #[⟨3, .data⟩], none⟩) rfl (fun K hK => ?_) AllReadyL.nil;go_simp;go_at_call 67;refine (qik q c x.l.length x.l wd (HI.o.later HD.o.rest.below) rfl (by have := HC.o; omega) HXL.o (qak HT.o HD.o.rest.below)).mono ?_;rintro e w5 ⟨q5, c5, rfl, hown5, hb⟩;have HL5 := Zh (HD.o.later HK.o hb);have HO5 := Zh hown5;clear hown5;refine hK.out _ _ (SL.cons (fun _ => trivial) (SL.cons (fun _ => ⟨HL5.o.rest.form, HL5.o.rest.lk⟩) (SL.cons (fun _ => HL5.o.box.c4) SL.nil))) (fun hH => ?_);clear hK K
  try simp only [Act.put, sI, s0, s1]
  clear hH;have e1 : x.l.length = (nusF x.l).len := (qag _).symm;rw [e1] at HO5 ⊢;clear e1;refine qac (rs := [5]) (by kernel_rfl) (by simp) ?_;refine AllReadyL.cons (o := ⟨some 47, .call ⟨.builtin .append, #[.tmp 43, .tmp 46], #[33, 33]⟩, 33, "proof.go:105", #[⟨1, .data⟩, ⟨4, .data⟩, ⟨4, .chain⟩], none⟩) rfl (fun K hK => ?_) AllReadyL.nil;rw [if_pos (by rfl)];refine qa7 _ _ (by rfl) (FLk W B) (fun b => wd.heap.size <= b) v40 _ _ (nusF x.l) (by rfl) (by rfl) HL5.o.own HO5.o (fun k hk hl => ⟨HK.o.new wd k HD.o.rest hk, fun e => ?_⟩) (HK.o.new _ _ HL5.o.rest (Nat.le_refl _)) ?_ (by rw [qag]; have := HC.o; omega) ?_
  ·have h1 := (HD.o.own.blk k e).2
   have h2 : wd.heap.size <= k := hk;omega
  ·rw [Fo.len_app, qag]; have := qce [a, b, i, j] [x.a, x.b, x.i, x.j]; simp [Fo.len, Fo.snoc] at this ⊢; omega
  intro p8 c8 w8 hpush ho8;have HE := Zh (HL5.o.turn HK.o ho8 hpush);have hbx8 := HL5.o.box_at HK.o ho8;have x8 := hbx8.c4;have f8 := hbx8.fz;have HS8 := Zh (aI (HL5.o.rest.form.only ho8 (fun e => by have h1 := (HL5.o.own.blk _ e).1.1; omega)) (HL5.o.rest.lk.only ho8 (fun e => by have h1 := (HL5.o.own.blk _ e).1.1; omega)));clear ho8 hbx8 hpush hb;refine hK.out _ _ (SL.cons (fun _ => trivial) (SL.cons (fun _ => HS8.o) (SL.cons (fun _ => x8) SL.nil))) (fun hH => ?_);clear hK K
  try simp only [Act.put, sI, s0, s1]
  refine tk 0 6 ⟨some 48, .fieldAddr 35 (.tmp 5) 2, 0, "proof.go:105", #[⟨0, .phase⟩, ⟨1, .phase⟩, ⟨2, .phase⟩, ⟨3, .phase⟩, ⟨4, .phase⟩, ⟨5, .phase⟩], none⟩ ?_ rfl rfl ?_ hH fun hH => ?_
  rotate_left
  ·intro w hSw; (try dsimp only at hSw); go_simp; try with_reducible rfl
  try simp only [Act.put, sI, s0, s1]
  refine qac (rs := [7]) (by kernel_rfl) (by simp) ?_;refine AllReadyL.cons (o := ⟨none, .store 33 (.tmp 48) (.tmp 47), 0, "proof.go:105", #[⟨6, .data⟩, ⟨5, .data⟩, ⟨5, .chain⟩, ⟨0, .phase⟩, ⟨1, .phase⟩, ⟨2, .phase⟩, ⟨3, .phase⟩, ⟨4, .phase⟩, ⟨5, .phase⟩], none⟩) rfl (fun K hK => ?_) AllReadyL.nil;go_simp;refine hK.out _ _ (SL.cons (fun _ => trivial) (SL.cons (fun _ => ⟨(HS8.o.1).only (Only.of_setCell _ _ _) (fun e => by have h1 := HGB.o; simp only at e; omega), (HS8.o.2).only (Only.of_setCell _ _ _) (fun e => by have h1 := HGB.o; simp only at e; omega)⟩) (SL.cons (fun h => absurd h (by decide +kernel)) SL.nil))) (fun hH => ?_);clear hK K
  try simp only [Act.put, sI, s0, s1]
  refine qah (by kernel_rfl) ?_ _;obtain ⟨v7, hv7⟩ : ∃ v, v = Value.slice p8 (((((Fo.cons false 3 h 0 .nil .nil).snoc (nuL x.lit) (nuK x.lit) (nuS x.lit) 0 (nuX x.lit))).app (nusF (flt [a, b, i, j] [x.a, x.b, x.i, x.j]))).len + (nusF x.l).len) c8 := ⟨_, rfl⟩;obtain ⟨w7, hw7⟩ : ∃ w, w = w8.setCell ⟨B, 4, none⟩ (Value.slice p8 (((((Fo.cons false 3 h 0 .nil .nil).snoc (nuL x.lit) (nuK x.lit) (nuS x.lit) 0 (nuX x.lit))).app (nusF (flt [a, b, i, j] [x.a, x.b, x.i, x.j]))).len + (nusF x.l).len) c8) := ⟨_, rfl⟩;rw [<- hw7, <- hv7] at HE ⊢;clear hw7 hv7 x8 f8 HS8 hH HD HL5 HO5 HLS9;obtain ⟨q7, c7, rfl, hc7, hq7⟩ := HE.o.own.foIn;obtain ⟨y0, y1, y2, y3, y4, yf⟩ := HE.o.box;obtain ⟨z0, z1, z2, z3, z4, zf⟩ := HE.o.rest.res;have HC7 := Zh hc7;have HQ7 := Zh hq7;clear hc7 hq7
  go_wp2_with fail
  have hc7 := HC7.o;have hq7 := HQ7.o
  have e7 : ((((Fo.cons false 3 h 0 .nil .nil).snoc (nuL x.lit) (nuK x.lit) (nuS x.lit) 0 (nuX x.lit))).app (nusF (flt [a, b, i, j] [x.a, x.b, x.i, x.j]))).app (nusF x.l) = .cons false 3 h 0 .nil (nusF ([x.lit] ++ flt [a, b, i, j] [x.a, x.b, x.i, x.j] ++ x.l)) := by
   rw [qhf, qhf]; simp [Fo.snoc, Fo.app, nusF]
  rw [e7] at hc7 hq7 ⊢;refine bodyPost_ret (v := trV true 1 ⟨#[40]⟩ 0 q7 (Fo.cons false 3 h 0 .nil (nusF ([x.lit] ++ flt [a, b, i, j] [x.a, x.b, x.i, x.j] ++ x.l))).len c7) (by simp [trV, results, Tryz.results32, go_sem, z0, z1, z2, z3, z4]) rfl ⟨q7, c7, rfl, hc7, ?_, ?_, ?_⟩
  ·have h1 := qce [a, b, i, j] [x.a, x.b, x.i, x.j]
   have h2 := HC.o;simp [Fo.len, qag] at h1 ⊢; omega
  ·have hne : ∀ o b, FLk W B b -> ¬ b = (⟨W.heap.size + 1 + 1, o, none⟩ : Addr).block := fun o b h e => by unfold FLk at h; simp only at e; omega
   exact (((((hq7.only (Only.of_setCell _ _ _) (hne _)).only (Only.of_setCell _ _ _) (hne _)).only (Only.of_setCell _ _ _) (hne _)).only (Only.of_setCell _ _ _) (hne _)).only (Only.of_setCell _ _ _) (hne _)).mono (fun b hb _ => by unfold FLk at hb; omega)
  ·iterate 5 refine Below.setCell ?_ (show W.heap.size <= W.heap.size + 1 + 1 from Nat.le_trans (Nat.le_succ _) (Nat.le_succ _)) _
   exact HE.o.rest.below
 subst hQ;subst hA;simp only [Act.put, List.setIfInBounds_toArray, List.set_cons_zero, List.set_cons_succ] at KEY;refine qac (rs := [10, 19]) (by kernel_rfl) (by simp) ?_;refine AllReadyL.cons (o := ⟨some 29, .buildSlice 75 4 #[(0, .tmp 22), (1, .tmp 24), (2, .tmp 26), (3, .tmp 28)], 75, "proof.go:104", #[⟨3, .data⟩, ⟨5, .data⟩, ⟨7, .data⟩, ⟨9, .data⟩], none⟩) rfl (fun K0 hK => ?_) (AllReadyL.cons (o := ⟨some 38, .buildSlice 62 4 #[(0, .tmp 31), (1, .tmp 33), (2, .tmp 35), (3, .tmp 37)], 62, "proof.go:104", #[⟨12, .data⟩, ⟨14, .data⟩, ⟨16, .data⟩, ⟨18, .data⟩], none⟩) rfl (fun K0 hK => ?_) AllReadyL.nil)
 ·skip
  go_simp;have HA1 := Zh (HD.o.later HK.o (qab wd (.cells #[.bool a, .bool b, .bool i, .bool j] 4)));refine hK.out _ _ (SL.cons (fun _ => trivial) (SL.cons (fun _ => ⟨HA1.o.rest.form, HA1.o.rest.lk⟩) (SL.cons (fun _ => HA1.o.box.c4) SL.nil))) (fun hH => ?_);clear hK K0
  try simp only [Act.put, sI, s0, s1]
  refine qac (rs := [19]) (by kernel_rfl) (by simp) ?_;refine AllReadyL.cons (o := ⟨some 38, .buildSlice 62 4 #[(0, .tmp 31), (1, .tmp 33), (2, .tmp 35), (3, .tmp 37)], 62, "proof.go:104", #[⟨12, .data⟩, ⟨14, .data⟩, ⟨16, .data⟩, ⟨18, .data⟩], none⟩) rfl (fun K0 hK => ?_) AllReadyL.nil;go_simp;have HA2 := Zh (HA1.o.later HK.o (qab (wd.alloc (.cells #[.bool a, .bool b, .bool i, .bool j] 4)) (.cells #[.int .i64 x.a, .int .i64 x.b, .int .i64 x.i, .int .i64 x.j] 3)));refine hK.out _ _ (SL.cons (fun _ => trivial) (SL.cons (fun _ => ⟨HA2.o.rest.form, HA2.o.rest.lk⟩) (SL.cons (fun _ => HA2.o.box.c4) SL.nil))) (fun hH => ?_);clear hK K0
  try simp only [Act.put, sI, s0, s1]
  obtain ⟨we, hwe⟩ : ∃ we, we = (wd.alloc (.cells #[.bool a, .bool b, .bool i, .bool j] 4)).alloc (.cells #[.int .i64 x.a, .int .i64 x.b, .int .i64 x.i, .int .i64 x.j] 3) := ⟨_, rfl⟩
  have HBI := Zh (show BoolsIn we (some ⟨wd.heap.size, 0, none⟩) [a, b, i, j] /\ IntsIn we (some ⟨(wd.heap.size + 1), 0, none⟩) [x.a, x.b, x.i, x.j] from by
   rw [hwe];refine ⟨fun t ht => ⟨_, 0, rfl, ?_⟩, fun t ht => ⟨_, 0, rfl, ?_⟩⟩
   ·match t, ht with
    | 0, _ => simp [go_sem]
    | 1, _ => simp [go_sem]
    | 2, _ => simp [go_sem]
    | 3, _ => simp [go_sem]
   ·match t, ht with
    | 0, _ => simp [go_sem]
    | 1, _ => simp [go_sem]
    | 2, _ => simp [go_sem]
    | 3, _ => simp [go_sem])
  have HA3 := Zh (show LS (RLk W B h a b true i j x q c) (FLk W B) B we v2 ((Fo.cons false 3 h 0 .nil .nil).snoc (nuL x.lit) (nuK x.lit) (nuS x.lit) 0 (nuX x.lit)) from by rw [hwe]; exact HA2.o);rw [<- hwe] at hH ⊢;have HZ := Zh (show wd.heap.size <= we.heap.size from by rw [hwe]; simp; omega);clear hwe HA1 HA2;refine qac (rs := [20]) (by kernel_rfl) (by simp) ?_;refine AllReadyL.cons (o := ⟨some 39, .call ⟨.value (.func 33), #[.tmp 29, .tmp 38], #[75, 62]⟩, 33, "proof.go:104", #[⟨10, .data⟩, ⟨19, .data⟩], none⟩) rfl (fun K0 hK => ?_) AllReadyL.nil;go_simp;go_at_call 33;refine (qd8 _ 4 _ 4 4 [a, b, i, j] [x.a, x.b, x.i, x.j] we HBI.o.1 rfl HBI.o.2 rfl (by omega) (fun y hy => HX.o y (List.mem_cons_of_mem _ hy)) (qak HT.o HA3.o.rest.below)).mono ?_;rintro e w5 ⟨q5, c5, rfl, hown5, hb⟩;have HL5 := Zh (HA3.o.later HK.o hb);have HO5 := Zh hown5;clear hown5;refine hK.out _ _ (SL.cons (fun _ => trivial) (SL.cons (fun _ => ⟨HL5.o.rest.form, HL5.o.rest.lk⟩) (SL.cons (fun _ => HL5.o.box.c4) SL.nil))) (fun hH => ?_);clear hK K0
  try simp only [Act.put, sI, s0, s1]
  clear hH;refine qac (rs := [21]) (by kernel_rfl) (by simp) ?_;refine AllReadyL.cons (o := ⟨some 40, .call ⟨.builtin .append, #[.tmp 20, .tmp 39], #[33, 33]⟩, 33, "proof.go:104", #[⟨1, .data⟩, ⟨20, .data⟩, ⟨20, .chain⟩], none⟩) rfl (fun K0 hK => ?_) AllReadyL.nil;rw [if_pos (by rfl)];refine qa7 _ _ (by rfl) (FLk W B) (fun b => we.heap.size <= b) v2 _ _ (nusF (flt [a, b, i, j] [x.a, x.b, x.i, x.j])) (by rfl) (by rfl) HL5.o.own HO5.o (fun k hk hl => ⟨HK.o.new we k HA3.o.rest hk, fun e => ?_⟩) (HK.o.new _ _ HL5.o.rest (Nat.le_refl _)) (by first | (simp [Fo.len, Fo.snoc]; done) | (simp [Fo.len, Fo.snoc]; omega)) (by rw [qag]; have := qce [a, b, i, j] [x.a, x.b, x.i, x.j]; simp at this; omega) ?_
  ·have h1 := (HA3.o.own.blk k e).2
   have h2 : we.heap.size <= k := hk;omega
  intro p8 c8 w8 hpush ho8;have HE := Zh (HL5.o.turn HK.o ho8 hpush);have hbx8 := HL5.o.box_at HK.o ho8;have x8 := hbx8.c4;have f8 := hbx8.fz;have HS8 := Zh (aI (HL5.o.rest.form.only ho8 (fun e => by have h1 := (HL5.o.own.blk _ e).1.1; omega)) (HL5.o.rest.lk.only ho8 (fun e => by have h1 := (HL5.o.own.blk _ e).1.1; omega)));clear ho8 hbx8 hpush hb;refine hK.out _ _ (SL.cons (fun _ => trivial) (SL.cons (fun _ => HS8.o) (SL.cons (fun _ => x8) SL.nil))) (fun hH => ?_);clear hK K0
  try simp only [Act.put, sI, s0, s1]
  refine tk 0 22 ⟨some 41, .fieldAddr 35 (.tmp 5) 2, 0, "proof.go:104", #[⟨0, .phase⟩, ⟨1, .phase⟩, ⟨2, .phase⟩, ⟨3, .phase⟩, ⟨4, .phase⟩, ⟨5, .phase⟩, ⟨6, .phase⟩, ⟨7, .phase⟩, ⟨8, .phase⟩, ⟨9, .phase⟩, ⟨10, .phase⟩, ⟨11, .phase⟩, ⟨12, .phase⟩, ⟨13, .phase⟩, ⟨14, .phase⟩, ⟨15, .phase⟩, ⟨16, .phase⟩, ⟨17, .phase⟩, ⟨18, .phase⟩, ⟨19, .phase⟩, ⟨20, .phase⟩, ⟨21, .phase⟩], none⟩ ?_ rfl rfl ?_ hH fun hH => ?_
  rotate_left
  ·intro w hSw; (try dsimp only at hSw); go_simp; try with_reducible rfl
  try simp only [Act.put, sI, s0, s1]
  refine qac (rs := [23]) (by kernel_rfl) (by simp) ?_;refine AllReadyL.cons (o := ⟨none, .store 33 (.tmp 41) (.tmp 40), 0, "proof.go:104", #[⟨22, .data⟩, ⟨21, .data⟩, ⟨21, .chain⟩, ⟨0, .phase⟩, ⟨1, .phase⟩, ⟨2, .phase⟩, ⟨3, .phase⟩, ⟨4, .phase⟩, ⟨5, .phase⟩, ⟨6, .phase⟩, ⟨7, .phase⟩, ⟨8, .phase⟩, ⟨9, .phase⟩, ⟨10, .phase⟩, ⟨11, .phase⟩, ⟨12, .phase⟩, ⟨13, .phase⟩, ⟨14, .phase⟩, ⟨15, .phase⟩, ⟨16, .phase⟩, ⟨17, .phase⟩, ⟨18, .phase⟩, ⟨19, .phase⟩, ⟨20, .phase⟩, ⟨21, .phase⟩], none⟩) rfl (fun K0 hK => ?_) AllReadyL.nil;go_simp;refine hK.out _ _ (SL.cons (fun _ => trivial) (SL.cons (fun _ => ⟨(HS8.o.1).only (Only.of_setCell _ _ _) (fun e => by have h1 := HGB.o; simp only at e; omega), (HS8.o.2).only (Only.of_setCell _ _ _) (fun e => by have h1 := HGB.o; simp only at e; omega)⟩) (SL.cons (fun h => absurd h (by decide +kernel)) SL.nil))) (fun hH => ?_);clear hK K0
  try simp only [Act.put, sI, s0, s1]
  refine qah (by kernel_rfl) ?_ _;exact KEY _ _ _ _ _ _ HE
 ·skip
  go_simp;have HA1 := Zh (HD.o.later HK.o (qab wd (.cells #[.int .i64 x.a, .int .i64 x.b, .int .i64 x.i, .int .i64 x.j] 3)));refine hK.out _ _ (SL.cons (fun _ => trivial) (SL.cons (fun _ => ⟨HA1.o.rest.form, HA1.o.rest.lk⟩) (SL.cons (fun _ => HA1.o.box.c4) SL.nil))) (fun hH => ?_);clear hK K0
  try simp only [Act.put, sI, s0, s1]
  refine qac (rs := [10]) (by kernel_rfl) (by simp) ?_;refine AllReadyL.cons (o := ⟨some 29, .buildSlice 75 4 #[(0, .tmp 22), (1, .tmp 24), (2, .tmp 26), (3, .tmp 28)], 75, "proof.go:104", #[⟨3, .data⟩, ⟨5, .data⟩, ⟨7, .data⟩, ⟨9, .data⟩], none⟩) rfl (fun K0 hK => ?_) AllReadyL.nil;go_simp;have HA2 := Zh (HA1.o.later HK.o (qab (wd.alloc (.cells #[.int .i64 x.a, .int .i64 x.b, .int .i64 x.i, .int .i64 x.j] 3)) (.cells #[.bool a, .bool b, .bool i, .bool j] 4)));refine hK.out _ _ (SL.cons (fun _ => trivial) (SL.cons (fun _ => ⟨HA2.o.rest.form, HA2.o.rest.lk⟩) (SL.cons (fun _ => HA2.o.box.c4) SL.nil))) (fun hH => ?_);clear hK K0
  try simp only [Act.put, sI, s0, s1]
  obtain ⟨we, hwe⟩ : ∃ we, we = (wd.alloc (.cells #[.int .i64 x.a, .int .i64 x.b, .int .i64 x.i, .int .i64 x.j] 3)).alloc (.cells #[.bool a, .bool b, .bool i, .bool j] 4) := ⟨_, rfl⟩
  have HBI := Zh (show BoolsIn we (some ⟨(wd.heap.size + 1), 0, none⟩) [a, b, i, j] /\ IntsIn we (some ⟨wd.heap.size, 0, none⟩) [x.a, x.b, x.i, x.j] from by
   rw [hwe];refine ⟨fun t ht => ⟨_, 0, rfl, ?_⟩, fun t ht => ⟨_, 0, rfl, ?_⟩⟩
   ·match t, ht with
    | 0, _ => simp [go_sem]
    | 1, _ => simp [go_sem]
    | 2, _ => simp [go_sem]
    | 3, _ => simp [go_sem]
   ·match t, ht with
    | 0, _ => simp [go_sem]
    | 1, _ => simp [go_sem]
    | 2, _ => simp [go_sem]
    | 3, _ => simp [go_sem])
  have HA3 := Zh (show LS (RLk W B h a b true i j x q c) (FLk W B) B we v2 ((Fo.cons false 3 h 0 .nil .nil).snoc (nuL x.lit) (nuK x.lit) (nuS x.lit) 0 (nuX x.lit)) from by rw [hwe]; exact HA2.o);rw [<- hwe] at hH ⊢;have HZ := Zh (show wd.heap.size <= we.heap.size from by rw [hwe]; simp; omega);clear hwe HA1 HA2;refine qac (rs := [20]) (by kernel_rfl) (by simp) ?_;refine AllReadyL.cons (o := ⟨some 39, .call ⟨.value (.func 33), #[.tmp 29, .tmp 38], #[75, 62]⟩, 33, "proof.go:104", #[⟨10, .data⟩, ⟨19, .data⟩], none⟩) rfl (fun K0 hK => ?_) AllReadyL.nil;go_simp;go_at_call 33;refine (qd8 _ 4 _ 4 4 [a, b, i, j] [x.a, x.b, x.i, x.j] we HBI.o.1 rfl HBI.o.2 rfl (by omega) (fun y hy => HX.o y (List.mem_cons_of_mem _ hy)) (qak HT.o HA3.o.rest.below)).mono ?_;rintro e w5 ⟨q5, c5, rfl, hown5, hb⟩;have HL5 := Zh (HA3.o.later HK.o hb);have HO5 := Zh hown5;clear hown5;refine hK.out _ _ (SL.cons (fun _ => trivial) (SL.cons (fun _ => ⟨HL5.o.rest.form, HL5.o.rest.lk⟩) (SL.cons (fun _ => HL5.o.box.c4) SL.nil))) (fun hH => ?_);clear hK K0
  try simp only [Act.put, sI, s0, s1]
  clear hH;refine qac (rs := [21]) (by kernel_rfl) (by simp) ?_;refine AllReadyL.cons (o := ⟨some 40, .call ⟨.builtin .append, #[.tmp 20, .tmp 39], #[33, 33]⟩, 33, "proof.go:104", #[⟨1, .data⟩, ⟨20, .data⟩, ⟨20, .chain⟩], none⟩) rfl (fun K0 hK => ?_) AllReadyL.nil;rw [if_pos (by rfl)];refine qa7 _ _ (by rfl) (FLk W B) (fun b => we.heap.size <= b) v2 _ _ (nusF (flt [a, b, i, j] [x.a, x.b, x.i, x.j])) (by rfl) (by rfl) HL5.o.own HO5.o (fun k hk hl => ⟨HK.o.new we k HA3.o.rest hk, fun e => ?_⟩) (HK.o.new _ _ HL5.o.rest (Nat.le_refl _)) (by first | (simp [Fo.len, Fo.snoc]; done) | (simp [Fo.len, Fo.snoc]; omega)) (by rw [qag]; have := qce [a, b, i, j] [x.a, x.b, x.i, x.j]; simp at this; omega) ?_
  ·have h1 := (HA3.o.own.blk k e).2
   have h2 : we.heap.size <= k := hk;omega
  intro p8 c8 w8 hpush ho8;have HE := Zh (HL5.o.turn HK.o ho8 hpush);have hbx8 := HL5.o.box_at HK.o ho8;have x8 := hbx8.c4;have f8 := hbx8.fz;have HS8 := Zh (aI (HL5.o.rest.form.only ho8 (fun e => by have h1 := (HL5.o.own.blk _ e).1.1; omega)) (HL5.o.rest.lk.only ho8 (fun e => by have h1 := (HL5.o.own.blk _ e).1.1; omega)));clear ho8 hbx8 hpush hb;refine hK.out _ _ (SL.cons (fun _ => trivial) (SL.cons (fun _ => HS8.o) (SL.cons (fun _ => x8) SL.nil))) (fun hH => ?_);clear hK K0
  try simp only [Act.put, sI, s0, s1]
  refine tk 0 22 ⟨some 41, .fieldAddr 35 (.tmp 5) 2, 0, "proof.go:104", #[⟨0, .phase⟩, ⟨1, .phase⟩, ⟨2, .phase⟩, ⟨3, .phase⟩, ⟨4, .phase⟩, ⟨5, .phase⟩, ⟨6, .phase⟩, ⟨7, .phase⟩, ⟨8, .phase⟩, ⟨9, .phase⟩, ⟨10, .phase⟩, ⟨11, .phase⟩, ⟨12, .phase⟩, ⟨13, .phase⟩, ⟨14, .phase⟩, ⟨15, .phase⟩, ⟨16, .phase⟩, ⟨17, .phase⟩, ⟨18, .phase⟩, ⟨19, .phase⟩, ⟨20, .phase⟩, ⟨21, .phase⟩], none⟩ ?_ rfl rfl ?_ hH fun hH => ?_
  rotate_left
  ·intro w hSw; (try dsimp only at hSw); go_simp; try with_reducible rfl
  try simp only [Act.put, sI, s0, s1]
  refine qac (rs := [23]) (by kernel_rfl) (by simp) ?_;refine AllReadyL.cons (o := ⟨none, .store 33 (.tmp 41) (.tmp 40), 0, "proof.go:104", #[⟨22, .data⟩, ⟨21, .data⟩, ⟨21, .chain⟩, ⟨0, .phase⟩, ⟨1, .phase⟩, ⟨2, .phase⟩, ⟨3, .phase⟩, ⟨4, .phase⟩, ⟨5, .phase⟩, ⟨6, .phase⟩, ⟨7, .phase⟩, ⟨8, .phase⟩, ⟨9, .phase⟩, ⟨10, .phase⟩, ⟨11, .phase⟩, ⟨12, .phase⟩, ⟨13, .phase⟩, ⟨14, .phase⟩, ⟨15, .phase⟩, ⟨16, .phase⟩, ⟨17, .phase⟩, ⟨18, .phase⟩, ⟨19, .phase⟩, ⟨20, .phase⟩, ⟨21, .phase⟩], none⟩) rfl (fun K0 hK => ?_) AllReadyL.nil;go_simp;refine hK.out _ _ (SL.cons (fun _ => trivial) (SL.cons (fun _ => ⟨(HS8.o.1).only (Only.of_setCell _ _ _) (fun e => by have h1 := HGB.o; simp only at e; omega), (HS8.o.2).only (Only.of_setCell _ _ _) (fun e => by have h1 := HGB.o; simp only at e; omega)⟩) (SL.cons (fun h => absurd h (by decide +kernel)) SL.nil))) (fun hH => ?_);clear hK K0
  try simp only [Act.put, sI, s0, s1]
  refine qah (by kernel_rfl) ?_ _;exact KEY _ _ _ _ _ _ HE
end Go.Proofs.YtookoagcmejkpaaGreatDoor
