/- What stays while a step's tree is made. -/
import Derived.Test.YtookoagcmejkpaaGreatDoorJ16
import Derived.Test.YtookoagcmejkpaaGreatDoorS13
set_option maxHeartbeats 6400000
namespace Go.Proofs.YtookoagcmejkpaaGreatDoor
set_option maxRecDepth 100000
open Go Go.RowKit Go.Maps
section
variable {R S : World -> Prop} {F : Nat -> Prop} {B m : Nat} {w0 w : World} {v : Value} {f : Fo}
theorem Keeps.add (K : Keeps R F B) (hS : ∀ w w' (T : Nat -> Prop), S w -> Only T w w' -> ¬ T m -> S w') (hm : ∀ w, S w -> m < w.heap.size) (hmB : m ≠ B) : Keeps (fun w => R w /\ S w) (fun k => F k /\ k ≠ m) B where
 only := fun w w' r ho => ⟨K.only w w' r.1 (ho.mono (fun j _ e => by
  rcases e with e | e
  ·exact Or.inl e.1
  ·exact Or.inr e)), hS w w' _ r.2 ho (fun e => by
  rcases e with e | e
  ·exact e.2 rfl
  ·exact hmB e)⟩
 notB := fun e => K.notB e.1
 new := fun w k r hk => ⟨K.new w k r.1 hk, by have := hm w r.2; omega⟩
theorem LS.add (K : Keeps R F B) (h : LS R F B w0 v f) (hb : Below w0.heap.size w0 w) (hm : w0.heap.size <= m) (hS : S w) : LS (fun w => R w /\ S w) (fun k => F k /\ k ≠ m) B w v f :=
 ⟨⟨(h.later K hb).rest, hS⟩, h.box.later hb, (h.own.mono (F' := fun k => F k /\ k ≠ m) (fun b hb hl => ⟨hb, by omega⟩)).later hb⟩
theorem LS.drop (h : LS (fun w => R w /\ S w) (fun k => F k /\ k ≠ m) B w v f) : LS R F B w v f :=
 ⟨h.rest.1, h.box, h.own.mono (fun _b hb _ => hb.1)⟩
end
structure RSt (W : World) (g B B4 : Nat) (h : ByteArray) (a b lit i j : Bool) (x : Stp) (p : Option Addr) (c : Nat) (q : Option Addr) (d : Nat) (w : World) : Prop where
 st : StAt w W.heap.size x p c q d
 res : BoxT w (W.heap.size + 1) false 0 ⟨#[]⟩ 0 (.slice none 0 0)
 form : FormAt w B4 h a b lit i j
 below : Below W.heap.size W w
 lt : B < w.heap.size
theorem qp0 (W : World) (g B B4 : Nat) (hg : W.heap.size + 2 <= g) (h4 : B4 < g) (hB : g < B) (h : ByteArray) (a b lit i j : Bool) (x : Stp) (p : Option Addr) (c : Nat) (q : Option Addr) (d : Nat) : Keeps (RSt W g B B4 h a b lit i j x p c q d) (fun k => g <= k /\ k ≠ B) B where
 only := fun w w' r ho => ⟨r.st.only ho (fun e => by omega), r.res.only ho (fun e => by omega), r.form.only ho (fun e => by omega), r.below.trans (ho.below (B := W.heap.size) (fun k e => by omega) r.below.size), Nat.lt_of_lt_of_le r.lt ho.size⟩
 notB := fun e => e.2 rfl
 new := fun w k r hk => ⟨by have := r.lt; omega, by have := r.lt; omega⟩
theorem qty {w : World} {B : Nat} (f : BoxF w B) (h : ByteArray) (f1 f2 a b lit i j list : Bool) : FormAt (((((((((w.setCell ⟨B, 0, none⟩ (.string h)).setCell ⟨B, 1, none⟩ (.bool f1)).setCell ⟨B, 2, none⟩ (.bool f2)).setCell ⟨B, 3, none⟩ (.bool a)).setCell ⟨B, 4, none⟩ (.bool b)).setCell ⟨B, 5, none⟩ (.bool lit)).setCell ⟨B, 6, none⟩ (.bool i)).setCell ⟨B, 7, none⟩ (.bool j)).setCell ⟨B, 8, none⟩ (.bool list)) B h a b lit i j /\ Only (fun k => k = B) w (((((((((w.setCell ⟨B, 0, none⟩ (.string h)).setCell ⟨B, 1, none⟩ (.bool f1)).setCell ⟨B, 2, none⟩ (.bool f2)).setCell ⟨B, 3, none⟩ (.bool a)).setCell ⟨B, 4, none⟩ (.bool b)).setCell ⟨B, 5, none⟩ (.bool lit)).setCell ⟨B, 6, none⟩ (.bool i)).setCell ⟨B, 7, none⟩ (.bool j)).setCell ⟨B, 8, none⟩ (.bool list)) := by
 refine ⟨⟨?_, ?_, ?_, ?_, ?_, ?_⟩, ?_⟩
 iterate 6 simp [go_sem, f.c0, f.c3, f.c4, f.c5, f.c6, f.c7]
 have T : ∀ (x y z : World), Only (fun k => k = B) x y -> Only (fun k => k = B) y z -> Only (fun k => k = B) x z := fun x y z h k => h.trans k
 exact T _ _ _ (T _ _ _ (T _ _ _ (T _ _ _ (T _ _ _ (T _ _ _ (T _ _ _ (T _ _ _ (Only.of_setCell w ⟨B, 0, none⟩ _) (Only.of_setCell _ ⟨B, 1, none⟩ _)) (Only.of_setCell _ ⟨B, 2, none⟩ _)) (Only.of_setCell _ ⟨B, 3, none⟩ _)) (Only.of_setCell _ ⟨B, 4, none⟩ _)) (Only.of_setCell _ ⟨B, 5, none⟩ _)) (Only.of_setCell _ ⟨B, 6, none⟩ _)) (Only.of_setCell _ ⟨B, 7, none⟩ _)) (Only.of_setCell _ ⟨B, 8, none⟩ _)
theorem qs5 (w : World) (h : ByteArray) (f1 f2 a b lit i j list : Bool) : FormAt (w.alloc (.cells #[.string h, .bool f1, .bool f2, .bool a, .bool b, .bool lit, .bool i, .bool j, .bool list] 66)) w.heap.size h a b lit i j :=
 ⟨by simp [go_sem], by simp [go_sem], by simp [go_sem], by simp [go_sem], by simp [go_sem], by simp [go_sem]⟩
theorem Fo.app_snoc (l : Bool) (k : Int) (s : ByteArray) (a : Int) (x : Fo) : ∀ f g : Fo, (f.app g).snoc l k s a x = f.app (g.snoc l k s a x)
 | .nil, g => rfl
 | .cons _ _ _ _ _ r, g => by simp only [Fo.app, Fo.snoc, Fo.app_snoc l k s a x r g]
theorem qmg (x : Stp) (p : Option Addr) (c : Nat) (q : Option Addr) (d : Nat) (W : World) (hk0 : 0 <= x.k) (hk1 : x.k <= 255) (h1 : IntsIn W p x.lits) (h2 : LksIn W q x.links) (hkd : KdL x.links) (n1 : x.lits.length <= 9223372036854775807) (n2 : x.links.length <= 9223372036854775807) (hm : qau x = false) :
  Calls Tryz.prog 10 #[stV x p c q d] W fun e w' => e = .returned (.tuple #[trV false 0 ⟨#[]⟩ 0 none 0 0, .int .i64 2]) /\ Below W.heap.size W w' := by
 obtain ⟨w1, hw1⟩ : ∃ w1, w1 = (W.alloc (.cells #[.int .u8 x.k, .slice p x.lits.length c, .slice q x.links.length d, .int .i64 x.a, .int .i64 x.b] 26)).alloc (.cells #[.bool false, .int .u8 0, .string ⟨#[]⟩, .int .i64 0, .slice none 0 0] 35) := ⟨_, rfl⟩;have hb1 : Below W.heap.size W w1 := by rw [hw1]; exact (qab W _).alloc (by simp) _
 have HM := Zh (qs8 x p c q d w1 hk0 hk1 (h1.later hb1) (h2.later hb1) hkd n1 n2);have HB1 := Zh hb1
 have HZ := Zh (show BoxT w1 (W.heap.size + 1) false 0 ⟨#[]⟩ 0 (.slice none 0 0) from by
  have h := qam (W.alloc (.cells #[.int .u8 x.k, .slice p x.lits.length c, .slice q x.links.length d, .int .i64 x.a, .int .i64 x.b] 26)) false 0 ⟨#[]⟩ 0 (.slice none 0 0)
  rw [hw1]; simpa using h)
 have HW1 := Zh hw1;rw [hm] at HM;clear hk0 hk1 h1 h2 hkd n1 n2 hm hw1 hb1;unfold stV at HM ⊢;go_enter Tryz.func10, Tryz.ntmps10
 go_wp2_with fail
 rw [<- HW1.o];refine HM.o.mono ?_;rintro e w2 ⟨rfl, hb⟩;have HB2 := Zh (HB1.o.trans (hb.mono HB1.o.size));obtain ⟨z0, z1, z2, z3, z4, zf⟩ := HZ.o.later hb;clear hb HM HW1
 go_wp2_with fail
 refine bodyPost_ret (v := .tuple #[trV false 0 ⟨#[]⟩ 0 none 0 0, .int .i64 2]) (by simp [trV, results, Tryz.results10, go_sem, z0, z1, z2, z3, z4]) rfl ⟨rfl, ?_⟩
 iterate 5 refine Below.setCell ?_ (show W.heap.size <= W.heap.size + 1 from Nat.le_succ _) _
 exact HB2.o
theorem qmf (h : ByteArray) (f1 f2 a b lit i j list : Bool) (x : Stp) (p : Option Addr) (c : Nat) (q : Option Addr) (d : Nat) (W : World) (hk0 : 0 <= x.k) (hk1 : x.k <= 255) (h1 : IntsIn W p x.lits) (h2 : LksIn W q x.links) (hkd : KdL x.links) (n1 : x.lits.length <= 9223372036854775807) (n2 : x.links.length <= 9223372036854775807) (hm : qau x = true) (hv : qem x.k = some (fmV h f1 f2 a b lit i j list)) (htab : qb7 W) :
  Calls Tryz.prog 10 #[stV x p c q d] W fun e w' => ∃ q' c', e = .returned (.tuple #[trV true 1 ⟨#[40]⟩ 0 q' (Fo.cons false 3 h 0 .nil (((nusF x.lits).app (lksF x.links)).app (nusF (flt [a, b] [x.a, x.b])))).len c', .int .i64 0]) /\ FoIn w' (fun b => W.heap.size <= b) (.cons false 3 h 0 .nil (((nusF x.lits).app (lksF x.links)).app (nusF (flt [a, b] [x.a, x.b])))) q' ∧
   (Fo.cons false 3 h 0 .nil (((nusF x.lits).app (lksF x.links)).app (nusF (flt [a, b] [x.a, x.b])))).len <= c' /\ Below W.heap.size W w' := by
 obtain ⟨w1, hw1⟩ : ∃ w1, w1 = (W.alloc (.cells #[.int .u8 x.k, .slice p x.lits.length c, .slice q x.links.length d, .int .i64 x.a, .int .i64 x.b] 26)).alloc (.cells #[.bool false, .int .u8 0, .string ⟨#[]⟩, .int .i64 0, .slice none 0 0] 35) := ⟨_, rfl⟩;have hb1 : Below W.heap.size W w1 := by rw [hw1]; exact (qab W _).alloc (by simp) _
 have HM := Zh (qs8 x p c q d w1 hk0 hk1 (h1.later hb1) (h2.later hb1) hkd n1 n2);have HB1 := Zh hb1
 have HZ := Zh (show BoxT w1 (W.heap.size + 1) false 0 ⟨#[]⟩ 0 (.slice none 0 0) from by
  have h := qam (W.alloc (.cells #[.int .u8 x.k, .slice p x.lits.length c, .slice q x.links.length d, .int .i64 x.a, .int .i64 x.b] 26)) false 0 ⟨#[]⟩ 0 (.slice none 0 0)
  rw [hw1]; simpa using h)
 have HST := Zh (show StAt w1 W.heap.size x p c q d from by
  rw [hw1]
  exact ⟨by simp [go_sem], by simp [go_sem], by simp [go_sem], by simp [go_sem], by simp [go_sem]⟩)
 have HW1 := Zh hw1;rw [hm] at HM;have HI := Zh (aI h1 h2);have HMAY := Zh hm
 have HF1 := Zh (show x.lits.length <= 5000 /\ (∀ y ∈ x.lits, -4611686018427387903 <= y /\ y <= 4611686018427387903) /\ x.links.length <= 20000 /\ (∀ y ∈ x.links, qaz y = true) /\ (∀ y ∈ [x.a, x.b], -4611686018427387903 <= y /\ y <= 4611686018427387903) from by
  obtain ⟨k, lits, links, a, b⟩ := x;obtain ⟨m1, m2, m3, m4, m5, m6, m7⟩ := qbn hm;refine ⟨m3, fun y hy => qb8 (List.all_eq_true.1 m5 y hy), m4, fun y hy => List.all_eq_true.1 m6 y hy, ?_⟩;intro y hy;simp only [List.mem_cons, List.not_mem_nil, or_false] at hy;rcases hy with rfl | rfl
  ·exact qar m1
  ·exact qar m2)
 have HKD := Zh hkd;have HV := Zh hv;have HT := Zh htab;have HK := Zh (aI hk0 hk1);clear hk0 hk1 h1 h2 hkd n1 n2 hm hw1 hb1 hv htab;unfold stV at HM ⊢;go_enter Tryz.func10, Tryz.ntmps10
 go_wp2_with fail
 rw [<- HW1.o];refine HM.o.mono ?_;rintro e w2 ⟨rfl, hb⟩;have HS2 := Zh (show StAt w2 W.heap.size x p c q d /\ BoxT w2 (W.heap.size + 1) false 0 ⟨#[]⟩ 0 (.slice none 0 0) /\ Below W.heap.size W w2 from ⟨HST.o.later hb, HZ.o.later hb, HB1.o.trans (hb.mono HB1.o.size)⟩);clear hb HM HW1 HZ HST HB1
 go_wp2_with fail
 have HSD := Zh (show StAt w2.drew W.heap.size x p c q d /\ BoxT w2.drew (W.heap.size + 1) false 0 ⟨#[]⟩ 0 (.slice none 0 0) /\ Below W.heap.size W w2.drew from ⟨HS2.o.1.later (qae _), HS2.o.2.1.later (qae _), HS2.o.2.2.trans ((qae _).mono HS2.o.2.2.size)⟩);refine qai [(1000, (fun _ => True : World -> Prop)), (1000, (fun w => StAt w W.heap.size x p c q d : World -> Prop))] (by kernel_rfl) (SL.cons (fun _ => trivial) (SL.cons (fun _ => HSD.o.1) SL.nil)) (fun hH => ?_);generalize w2.drew = wd at *;refine tk 0 1 ⟨some 14, .fieldAddr 26 (.tmp 1) 0, 0, "proof.go:88", #[], none⟩ ?_ rfl rfl ?_ hH fun hH => ?_
 rotate_left
 ·intro w hSw; (try dsimp only at hSw); go_simp; try with_reducible rfl
 try simp only [Act.put, sI, s0, s1]
 refine tk 1 2 ⟨some 15, .load 22 (.tmp 14), 22, "proof.go:88", #[⟨1, .data⟩], none⟩ ?_ rfl rfl ?_ hH fun hH => ?_
 rotate_left
 ·intro w hSw; (try dsimp only at hSw); obtain ⟨z0, z1, z2, z3, z4⟩ := hSw; go_simp; try with_reducible rfl
 try simp only [Act.put, sI, s0, s1]
 refine qcl (fun Q0 A0 hQ hA => ?_)
 have KEY : ∀ (v13 v16 : Value) (B4 : Nat) (w9 : World), Hid (StAt w9 W.heap.size x p c q d /\ BoxT w9 (W.heap.size + 1) false 0 ⟨#[]⟩ 0 (.slice none 0 0) /\ Below W.heap.size W w9 /\ FormAt w9 B4 h a b lit i j /\ W.heap.size + 2 <= B4) -> Q0 Exit.normal (((A0.put (some 13) v13).put (some 16) v16).put (some 4) (.pointer (some ⟨B4, 0, none⟩))) w9 := by
  intro v13 v16 B4 w9 HS9;subst hQ;subst hA;clear hH HSD HS2
  try simp only [Act.put, sI, s0, s1]
  obtain ⟨y0, y3, y4, y5, y6, y7⟩ := HS9.o.2.2.2.1
  go_wp2_with fail
  refine (qip h w9).mono ?_;rintro e w4 ⟨g, rfl, hg, hown, hb⟩;have hgs : W.heap.size + 2 <= g /\ B4 < g /\ g < w4.heap.size := ⟨by have := HS9.o.2.1.lt; omega, by have h4 : B4 < w9.heap.size := World.block_lt_of_cell? w9 _ HS9.o.2.2.2.1.c0; omega, (qaw hown.choose_spec.1 (k := g) rfl).2⟩;have hb4 := HS9.o.2.2.1.trans (hb.mono HS9.o.2.2.1.size);obtain ⟨B, hB⟩ : ∃ B, B = w4.heap.size := ⟨_, rfl⟩;have HBB := Zh hB;have HGB := Zh (show W.heap.size + 2 <= g /\ B4 < g /\ g < B from by omega);obtain ⟨wa, hwa⟩ : ∃ wa, wa = w4.alloc (.cells #[.bool true, .int .u8 1, .string ⟨#[40]⟩, .int .i64 0, .slice (some ⟨g, 0, none⟩) 1 1] 35) := ⟨_, rfl⟩;have hba : Below w4.heap.size w4 wa := by rw [hwa]; exact qab _ _
  have hown2 : OwnG wa (fun k => g <= k /\ k ≠ B) (.slice (some ⟨g, 0, none⟩) 1 1) (.cons false 3 h 0 .nil .nil) := by
   rw [hwa];exact (hown.wide.mono (F' := fun k => g <= k /\ k ≠ B) (fun k hk hl => ⟨hk, by omega⟩)).later (qab w4 _)
  have HLS := Zh (show LS (RSt W g B B4 h a b lit i j x p c q d) (fun k => g <= k /\ k ≠ B) B wa (.slice (some ⟨g, 0, none⟩) 1 1) (.cons false 3 h 0 .nil .nil) from
   ⟨⟨(HS9.o.1.later hb).later hba, (HS9.o.2.1.later hb).later hba, (HS9.o.2.2.2.1.only (Only.of_below (T := fun _ => False) hb) (fun h => h)).only (Only.of_below (T := fun _ => False) hba) (fun h => h), hb4.trans (hba.mono hb4.size), by rw [hwa, hB]; simp⟩,
    by rw [hwa, hB]; exact qam w4 true 1 ⟨#[40]⟩ 0 (.slice (some ⟨g, 0, none⟩) 1 1), hown2⟩)
  have HK1 := Zh (qp0 W g B B4 HGB.o.1 HGB.o.2.1 HGB.o.2.2 h a b lit i j x p c q d);have HWA := Zh hwa;clear hb hg hown hb4 hgs hB hwa hba hown2 y0 y3 y4 y5 y6 y7;unfold trV
  dsimp only
  clear HS9
  go_wp2_with fail
  rw [<- HWA.o, <- HBB.o];clear HWA HBB;generalize Value.slice (some ⟨g, 0, none⟩) 1 1 = v1 at *;have HD := Zh (HLS.o.later HK1.o (qae _));refine qai [(1000, (fun _ => True : World -> Prop)), (1000, (fun w => StAt w W.heap.size x p c q d : World -> Prop)), (7, (fun w => w.cell? ⟨B, 4, none⟩ = some v1 : World -> Prop))] (by kernel_rfl) (SL.cons (fun _ => trivial) (SL.cons (fun _ => HD.o.rest.st) (SL.cons (fun _ => HD.o.box.c4) SL.nil))) (fun hH => ?_);generalize wa.drew = wd at *;refine tk 0 0 ⟨some 20, .fieldAddr 35 (.tmp 5) 2, 0, "proof.go:90", #[], none⟩ ?_ rfl rfl ?_ hH fun hH => ?_
  rotate_left
  ·intro w hSw; (try dsimp only at hSw); go_simp; try with_reducible rfl
  try simp only [Act.put, sI, s0, s1]
  refine tk 2 1 ⟨some 21, .load 33 (.tmp 20), 33, "proof.go:90", #[⟨0, .data⟩], none⟩ ?_ rfl rfl ?_ hH fun hH => ?_
  rotate_left
  ·intro w hSw; (try dsimp only at hSw); go_simp; try with_reducible rfl
  try simp only [Act.put, sI, s0, s1]
  refine tk 0 2 ⟨some 22, .fieldAddr 26 (.tmp 1) 1, 0, "proof.go:90", #[], none⟩ ?_ rfl rfl ?_ hH fun hH => ?_
  rotate_left
  ·intro w hSw; (try dsimp only at hSw); go_simp; try with_reducible rfl
  try simp only [Act.put, sI, s0, s1]
  refine tk 1 3 ⟨some 23, .load 23 (.tmp 22), 23, "proof.go:90", #[⟨2, .data⟩], none⟩ ?_ rfl rfl ?_ hH fun hH => ?_
  rotate_left
  ·intro w hSw; (try dsimp only at hSw); obtain ⟨z0, z1, z2, z3, z4⟩ := hSw; go_simp; try with_reducible rfl
  try simp only [Act.put, sI, s0, s1]
  refine qac (rs := [4]) (by kernel_rfl) (by simp) ?_;refine AllReadyL.cons (o := ⟨some 24, .call ⟨.value (.func 30), #[.tmp 23], #[23]⟩, 33, "proof.go:90", #[⟨3, .data⟩], none⟩) rfl (fun K hK => ?_) AllReadyL.nil;go_simp;go_at_call 30;refine (qno p c x.lits.length x.lits wd (HI.o.1.later HD.o.rest.below) rfl (by have := HF1.o.1; omega) HF1.o.2.1 (qak HT.o HD.o.rest.below)).mono ?_;rintro e w5 ⟨q5, c5, rfl, hown5, hb⟩;have HL5 := Zh (HD.o.later HK1.o hb);have HO5 := Zh hown5;clear hown5;refine hK.out _ _ (SL.cons (fun _ => trivial) (SL.cons (fun _ => HL5.o.rest.st) (SL.cons (fun _ => HL5.o.box.c4) SL.nil))) (fun hH => ?_);clear hK K
  try simp only [Act.put, sI, s0, s1]
  clear hH;have e1 : x.lits.length = (nusF x.lits).len := (qag _).symm;rw [e1] at HO5 ⊢;clear e1;refine qac (rs := [5]) (by kernel_rfl) (by simp) ?_;refine AllReadyL.cons (o := ⟨some 25, .call ⟨.builtin .append, #[.tmp 21, .tmp 24], #[33, 33]⟩, 33, "proof.go:90", #[⟨1, .data⟩, ⟨4, .data⟩, ⟨4, .chain⟩], none⟩) rfl (fun K hK => ?_) AllReadyL.nil;rw [if_pos (by rfl)];refine qa7 _ _ (by rfl) _ (fun b => wd.heap.size <= b) v1 _ _ (nusF x.lits) (by rfl) (by rfl) HL5.o.own HO5.o (fun k hk hl => ⟨HK1.o.new wd k HD.o.rest hk, fun e => ?_⟩) (HK1.o.new _ _ HL5.o.rest (Nat.le_refl _)) (by simp [Fo.len]) (by rw [qag]; have := HF1.o.1; omega) ?_
  ·have h1 := (HD.o.own.blk k e).2
   have h2 : wd.heap.size <= k := hk;omega
  intro p8 c8 w8 hpush ho8;have HE := Zh (HL5.o.turn HK1.o ho8 hpush);have hbx8 := HL5.o.box_at HK1.o ho8;have x8 := hbx8.c4;have f8 := hbx8.fz;have HS8 := Zh (HL5.o.rest.st.only ho8 (fun e => by have h1 := (HL5.o.own.blk _ e).1.1; have h2 := HGB.o; omega));clear ho8 hbx8 hpush hb;refine hK.out _ _ (SL.cons (fun _ => trivial) (SL.cons (fun _ => HS8.o) (SL.cons (fun _ => x8) SL.nil))) (fun hH => ?_);clear hK K
  try simp only [Act.put, sI, s0, s1]
  refine tk 0 6 ⟨some 26, .fieldAddr 35 (.tmp 5) 2, 0, "proof.go:90", #[⟨0, .phase⟩, ⟨1, .phase⟩, ⟨2, .phase⟩, ⟨3, .phase⟩, ⟨4, .phase⟩, ⟨5, .phase⟩], none⟩ ?_ rfl rfl ?_ hH fun hH => ?_
  rotate_left
  ·intro w hSw; (try dsimp only at hSw); go_simp; try with_reducible rfl
  try simp only [Act.put, sI, s0, s1]
  refine qac (rs := [7]) (by kernel_rfl) (by simp) ?_;refine AllReadyL.cons (o := ⟨none, .store 33 (.tmp 26) (.tmp 25), 0, "proof.go:90", #[⟨6, .data⟩, ⟨5, .data⟩, ⟨5, .chain⟩, ⟨0, .phase⟩, ⟨1, .phase⟩, ⟨2, .phase⟩, ⟨3, .phase⟩, ⟨4, .phase⟩, ⟨5, .phase⟩], none⟩) rfl (fun K hK => ?_) AllReadyL.nil;go_simp;refine hK.out _ _ (SL.cons (fun _ => trivial) (SL.cons (fun _ => HS8.o.only (Only.of_setCell _ _ _) (fun e => by have h1 := HGB.o; simp only at e; omega)) (SL.cons (fun h => absurd h (by decide +kernel)) SL.nil))) (fun hH => ?_);clear hK K
  try simp only [Act.put, sI, s0, s1]
  refine qah (by kernel_rfl) ?_ _;obtain ⟨v2, hv2⟩ : ∃ v, v = Value.slice p8 ((Fo.cons false 3 h 0 Fo.nil Fo.nil).len + (nusF x.lits).len) c8 := ⟨_, rfl⟩;obtain ⟨w2, hw2⟩ : ∃ w, w = w8.setCell ⟨B, 4, none⟩ (Value.slice p8 ((Fo.cons false 3 h 0 Fo.nil Fo.nil).len + (nusF x.lits).len) c8) := ⟨_, rfl⟩;rw [<- hw2, <- hv2] at HE ⊢;have HLS2 := HE;clear hw2 hv2 x8 f8 HS8 hH HD HL5 HO5 HE HLS
  go_wp2_with fail
  refine (qf7 w2).mono ?_;rintro e w3 ⟨m, rfl, hm, hb, hmm⟩;have HMB := Zh (show m ≠ B from by have := HLS2.o.rest.lt; omega);have HK2 := Zh (HK1.o.add (S := fun w => FMap w 61 m qdg 7) (m := m) (fun w w' T h ho hn => h.only ho hn) (fun w h => h.lt) HMB.o);have HLS3 := Zh (show LS (fun w => RSt W g B B4 h a b lit i j x p c q d w /\ FMap w 61 m qdg 7) (fun k => (g <= k /\ k ≠ B) /\ k ≠ m) B w3 v2 ((Fo.cons false 3 h 0 Fo.nil Fo.nil).app (nusF x.lits)) from HLS2.o.add HK1.o hb hmm hm);clear hb hm hmm HLS2;obtain ⟨z0, z1, z2, z3, z4⟩ := HLS3.o.rest.1.st;obtain ⟨n, hn⟩ : ∃ n, n = x.links.length := ⟨_, rfl⟩;have HN := Zh hn;rw [<- hn] at z2;have n1 : (n : Int) <= 20000 := by have := HF1.o.2.2.1; omega
  have n2 : n <= 20000 := by omega
  clear hn
  go_wp2_with fail
  clear z0 z1 z2 z3 z4;have HQ := Zh (show LksIn W q x.links from HI.o.2)
  go_loopg [31] n (fun gk s wx => ∃ k : Nat, k + gk = n /\ s = .int .i64 (k : Int) /\ Hid (∃ v, LS (fun w => RSt W g B B4 h a b lit i j x p c q d w /\ FMap w 61 m qdg 7) (fun k => (g <= k /\ k ≠ B) /\ k ≠ m) B wx v (((Fo.cons false 3 h 0 Fo.nil Fo.nil).app (nusF x.lits)).app (lksF (x.links.take k)))))
  case atStart => exact ⟨0, by omega, rfl, Zh ⟨v2, by rw [show lksF (x.links.take 0) = .nil from rfl, Fo.app_nil]; exact HLS3.o⟩⟩
  case round =>
   obtain ⟨k, hk, rfl, HR0⟩ := hrel;obtain ⟨v3, hR3⟩ := HR0.o;have HR := Zh hR3;clear HR0 hR3 HLS3;have k0 : (0 : Int) <= (k : Int) := Int.natCast_nonneg k
   by_cases hlt : k < n
   ·have k1 : (k : Int) < (n : Int) := Int.ofNat_lt.2 hlt
    have hkl : k < x.links.length := by rw [<- HN.o]; exact hlt
    obtain ⟨b6, off, hqe, c0, c1, c2, c3, c4, c5, q1, d1, c6, hi1, hd1, hd2⟩ := (HQ.o.later HR.o.rest.1.below) k hkl;subst hqe;have HS := Zh (qax hlt (show n <= 9223372036854775807 from by omega));obtain ⟨y, hy⟩ : ∃ y, y = x.links[k] := ⟨_, rfl⟩;have HE := Zh (show x.links.take (k + 1) = x.links.take k ++ [y] from by rw [hy, List.take_add_one, List.getElem?_eq_getElem hkl]; rfl);have HM := Zh (show y ∈ x.links from by rw [hy]; exact List.getElem_mem hkl);rw [<- hy] at c0 c1 c2 c3 c4 c5 c6 hi1 hd1;have HIY := Zh hi1
    obtain ⟨vk, hvk⟩ : ∃ vk, qfj y.k = some vk := by
     rcases qeu (HF1.o.2.2.2.1 y HM.o) with ⟨e, _⟩ | ⟨e, _⟩ | ⟨e, _⟩ | ⟨e, _⟩ | ⟨e, _⟩ | ⟨e, _⟩ | ⟨e, _⟩ <;> rw [e] <;> exact ⟨_, rfl⟩
    have HVK := Zh hvk;have HKK := Zh hk;have HLT := Zh hlt;clear hy hkl hk hlt hi1 hd1 hd2 hvk
    go_wp2_with fail
    have HLX := Zh (show LS (fun w => (fun w => RSt W g B B4 h a b lit i j x p c (some ⟨b6, off, none⟩) d w /\ FMap w 61 m qdg 7) w /\ LkAt w wr.heap.size y q1 d1) (fun k => ((g <= k /\ k ≠ B) /\ k ≠ m) /\ k ≠ wr.heap.size) B (wr.alloc (.cells #[.int .u8 y.k, .int .i64 y.lit, .int .i64 y.a, .int .i64 y.b, .int .i64 y.i, .int .i64 y.j, .slice q1 y.l.length d1] 64)) v3 (((Fo.cons false 3 h 0 Fo.nil Fo.nil).app (nusF x.lits)).app (lksF (x.links.take k))) from HR.o.add HK2.o (qab _ _) (Nat.le_refl _) ⟨by simp, by simp, by simp, by simp, by simp, by simp, by simp⟩);have HK3 := Zh (HK2.o.add (S := fun w => LkAt w wr.heap.size y q1 d1) (m := wr.heap.size) (fun w w' T h ho hn => h.only ho hn) (fun w h => World.block_lt_of_cell? w _ h.c0) (by have := HR.o.rest.1.lt; omega));obtain ⟨wx, hwx⟩ : ∃ wx, wx = wr.alloc (.cells #[.int .u8 y.k, .int .i64 y.lit, .int .i64 y.a, .int .i64 y.b, .int .i64 y.i, .int .i64 y.j, .slice q1 y.l.length d1] 64) := ⟨_, rfl⟩;have HBX0 := Zh (show Below wr.heap.size wr wx from by rw [hwx]; exact qab _ _);rw [<- hwx] at HLX ⊢;clear hwx c0 c1 c2 c3 c4 c5 c6;have HD := Zh (HLX.o.later HK3.o (qae _));have HDB := Zh (show Below wr.heap.size wr wx.drew from HBX0.o.trans ((qae wx).mono HBX0.o.size));refine qai [(1000, (fun _ => True : World -> Prop)), (1000, (fun w => FMap w 61 m qdg 7 /\ LkAt w wr.heap.size y q1 d1 : World -> Prop)), (11, (fun w => w.cell? ⟨B, 4, none⟩ = some v3 : World -> Prop))] (by kernel_rfl) (SL.cons (fun _ => trivial) (SL.cons (fun _ => ⟨HD.o.rest.1.2, HD.o.rest.2⟩) (SL.cons (fun _ => HD.o.box.c4) SL.nil))) (fun hH => ?_);generalize wx.drew = wd at *;refine tk 0 0 ⟨some 35, .fieldAddr 35 (.tmp 5) 2, 0, "proof.go:93", #[], none⟩ ?_ rfl rfl ?_ hH fun hH => ?_
    rotate_left
    ·intro w hSw; (try dsimp only at hSw); go_simp; try with_reducible rfl
    try simp only [Act.put, sI, s0, s1]
    refine tk 2 1 ⟨some 36, .load 33 (.tmp 35), 33, "proof.go:93", #[⟨0, .data⟩], none⟩ ?_ rfl rfl ?_ hH fun hH => ?_
    rotate_left
    ·intro w hSw; (try dsimp only at hSw); go_simp; try with_reducible rfl
    try simp only [Act.put, sI, s0, s1]
    refine tk 0 2 ⟨some 37, .move (.tmp 6), 71, "proof.go:93", #[], none⟩ ?_ rfl rfl ?_ hH fun hH => ?_
    rotate_left
    ·intro w hSw; (try dsimp only at hSw); go_simp; try with_reducible rfl
    try simp only [Act.put, sI, s0, s1]
    refine tk 0 3 ⟨some 38, .fieldAddr 64 (.tmp 8) 0, 0, "proof.go:93", #[], none⟩ ?_ rfl rfl ?_ hH fun hH => ?_
    rotate_left
    ·intro w hSw; (try dsimp only at hSw); go_simp; try with_reducible rfl
    try simp only [Act.put, sI, s0, s1]
    refine tk 1 4 ⟨some 39, .load 61 (.tmp 38), 61, "proof.go:93", #[⟨3, .data⟩], none⟩ ?_ rfl rfl ?_ hH fun hH => ?_
    rotate_left
    ·intro w hSw; (try dsimp only at hSw); obtain ⟨z0, z1, z2, z3, z4, z5, z6⟩ := hSw.2; go_simp; try with_reducible rfl
    try simp only [Act.put, sI, s0, s1]
    refine tk 1 5 ⟨some 40, .lookup 71 (.tmp 37) (.tmp 39) false, 66, "proof.go:93", #[⟨2, .data⟩, ⟨4, .data⟩], none⟩ ?_ rfl rfl ?_ hH fun hH => ?_
    rotate_left
    ·intro w hSw
     (try dsimp only at hSw)
     have hlk := hSw.1.look K61 Tryz.underlying71 (qcw _) (qfk y.k (HKD.o y HM.o).1 (HKD.o y HM.o).2);rw [qdz, HVK.o, Option.getD_some] at hlk;go_simp
     try with_reducible rfl
    try simp only [Act.put, sI, s0, s1]
    refine tk 1 6 ⟨some 41, .load 64 (.tmp 8), 64, "proof.go:93", #[], none⟩ ?_ rfl rfl ?_ hH fun hH => ?_
    rotate_left
    ·intro w hSw; (try dsimp only at hSw); obtain ⟨z0, z1, z2, z3, z4, z5, z6⟩ := hSw.2; go_simp; try with_reducible rfl
    try simp only [Act.put, sI, s0, s1]
    refine qac (rs := [7]) (by kernel_rfl) (by simp) ?_;refine AllReadyL.cons (o := ⟨some 42, .call ⟨.value (.func 32), #[.tmp 40, .tmp 41], #[66, 64]⟩, 35, "proof.go:93", #[⟨5, .data⟩, ⟨6, .data⟩], none⟩) rfl (fun K hK => ?_) AllReadyL.nil;go_simp;go_at_call 32;refine (qiq y q1 d1 vk wd (HIY.o.later HDB.o) (HF1.o.2.2.2.1 y HM.o) HVK.o (qak HT.o HD.o.rest.1.1.below)).mono ?_;rintro e w5 ⟨q5, c5, rfl, hd, hd2, hq, hb⟩;have HL5 := Zh (HD.o.later HK3.o hb);refine hK.out _ _ (SL.cons (fun _ => trivial) (SL.cons (fun _ => ⟨HL5.o.rest.1.2, HL5.o.rest.2⟩) (SL.cons (fun _ => HL5.o.box.c4) SL.nil))) (fun hH => ?_);clear hK K
    try simp only [Act.put, sI, s0, s1]
    unfold trV;refine qac (rs := [8]) (by kernel_rfl) (by simp) ?_;refine AllReadyL.cons (o := ⟨some 43, .buildSlice 33 1 #[(0, .tmp 42)], 33, "proof.go:93", #[⟨7, .data⟩], none⟩) rfl (fun K hK => ?_) AllReadyL.nil;go_simp;have HL6 := Zh (HL5.o.later HK3.o (qab w5 (.cells #[.bool true, .int .u8 1, .string ⟨#[40]⟩, .int .i64 0, .slice q5 (lkX y).len c5] 35)));refine hK.out _ _ (SL.cons (fun _ => trivial) (SL.cons (fun _ => ⟨HL6.o.rest.1.2, HL6.o.rest.2⟩) (SL.cons (fun _ => HL6.o.box.c4) SL.nil))) (fun hH => ?_);clear hK K
    try simp only [Act.put, sI, s0, s1]
    have hnb := qam w5 true 1 ⟨#[40]⟩ 0 (.slice q5 (lkX y).len c5);have hq6 := hq.later (qab w5 (.cells #[.bool true, .int .u8 1, .string ⟨#[40]⟩, .int .i64 0, .slice q5 (lkX y).len c5] 35));clear hH;refine qac (rs := [9]) (by kernel_rfl) (by simp) ?_;refine AllReadyL.cons (o := ⟨some 44, .call ⟨.builtin .append, #[.tmp 36, .tmp 43], #[33, 33]⟩, 33, "proof.go:93", #[⟨1, .data⟩, ⟨8, .data⟩, ⟨7, .chain⟩], none⟩) rfl (fun K hK => ?_) AllReadyL.nil;rw [if_pos (by rfl)];refine qca _ _ (by rfl) _ (fun b => wd.heap.size <= b) w5.heap.size v3 _ true 1 ⟨#[40]⟩ 0 (lkX y) q5 c5 (by rfl) (by rfl) HL6.o.own hnb hq6 hd hd2 (fun k hk hl => ⟨HK3.o.new wd k HD.o.rest hk, fun e => ?_⟩) (HK3.o.new _ _ HL6.o.rest (Nat.le_refl _)) ?_ ?_
    ·have h1 := (HD.o.own.blk k e).2
     have h2 : wd.heap.size <= k := hk;omega
    ·have h1 := HF1.o.1; have h2 := HF1.o.2.2.1; have h3 := List.length_take_le k x.links; rw [Fo.len_app, Fo.len_app, qag, qb0]; simp only [Fo.len]; omega
    intro p8 c8 w8 hpush ho8;have HE8 := Zh (HL6.o.turn HK3.o ho8 hpush);have hbx8 := HL6.o.box_at HK3.o ho8;have x8 := hbx8.c4;have f8 := hbx8.fz;have HS8 := Zh (aI (HL6.o.rest.1.2.only ho8 (fun e => (HL6.o.own.blk _ e).1.1.2 rfl)) (HL6.o.rest.2.only ho8 (fun e => (HL6.o.own.blk _ e).1.2 rfl)));clear ho8 hbx8 hpush hnb hq6 hq hb hd hd2;refine hK.out _ _ (SL.cons (fun _ => trivial) (SL.cons (fun _ => HS8.o) (SL.cons (fun _ => x8) SL.nil))) (fun hH => ?_);clear hK K
    try simp only [Act.put, sI, s0, s1]
    refine tk 0 10 ⟨some 45, .fieldAddr 35 (.tmp 5) 2, 0, "proof.go:93", #[⟨0, .phase⟩, ⟨1, .phase⟩, ⟨2, .phase⟩, ⟨3, .phase⟩, ⟨4, .phase⟩, ⟨5, .phase⟩, ⟨6, .phase⟩, ⟨7, .phase⟩, ⟨8, .phase⟩, ⟨9, .phase⟩], none⟩ ?_ rfl rfl ?_ hH fun hH => ?_
    rotate_left
    ·intro w hSw; (try dsimp only at hSw); go_simp; try with_reducible rfl
    try simp only [Act.put, sI, s0, s1]
    refine qac (rs := [11]) (by kernel_rfl) (by simp) ?_;refine AllReadyL.cons (o := ⟨none, .store 33 (.tmp 45) (.tmp 44), 0, "proof.go:93", #[⟨10, .data⟩, ⟨9, .data⟩, ⟨9, .chain⟩, ⟨0, .phase⟩, ⟨1, .phase⟩, ⟨2, .phase⟩, ⟨3, .phase⟩, ⟨4, .phase⟩, ⟨5, .phase⟩, ⟨6, .phase⟩, ⟨7, .phase⟩, ⟨8, .phase⟩, ⟨9, .phase⟩], none⟩) rfl (fun K hK => ?_) AllReadyL.nil;go_simp;refine hK.out _ _ (SL.cons (fun _ => trivial) (SL.cons (fun _ => ⟨HS8.o.1.only (Only.of_setCell _ _ _) (fun e => HMB.o e), HS8.o.2.only (Only.of_setCell _ _ _) (fun e => by have h1 := HR.o.rest.1.lt; simp only at e; omega)⟩) (SL.cons (fun h => absurd h (by decide +kernel)) SL.nil))) (fun hH => ?_);clear hK K
    try simp only [Act.put, sI, s0, s1]
    refine qah (by kernel_rfl) ?_ _;obtain ⟨w7, hw7⟩ : ∃ w, w = w8.setCell ⟨B, 4, none⟩ (Value.slice p8 ((((Fo.cons false 3 h 0 Fo.nil Fo.nil).app (nusF x.lits)).app (lksF (x.links.take k))).len + 1) c8) := ⟨_, rfl⟩
    have HLN := Zh (show LS (fun w => RSt W g B B4 h a b lit i j x p c (some ⟨b6, off, none⟩) d w /\ FMap w 61 m qdg 7) (fun k => (g <= k /\ k ≠ B) /\ k ≠ m) B w7 (Value.slice p8 ((((Fo.cons false 3 h 0 Fo.nil Fo.nil).app (nusF x.lits)).app (lksF (x.links.take k))).len + 1) c8) (((Fo.cons false 3 h 0 Fo.nil Fo.nil).app (nusF x.lits)).app (lksF (x.links.take (k + 1)))) from by
     have hh := HE8.o.drop;rw [<- hw7] at hh
     have e : (((Fo.cons false 3 h 0 Fo.nil Fo.nil).app (nusF x.lits)).app (lksF (x.links.take k))).snoc true 1 ⟨#[40]⟩ 0 (lkX y) = ((Fo.cons false 3 h 0 Fo.nil Fo.nil).app (nusF x.lits)).app (lksF (x.links.take (k + 1))) := by
      rw [HE.o, qio, Fo.app_snoc]
     rw [e] at hh
     exact hh)
    rw [<- hw7];clear hw7 x8 f8 HS8 hH HD HDB HL5 HL6 HE8 HLX HK3;obtain ⟨G, rfl⟩ : ∃ G, gk = G + 1 := ⟨gk - 1, by have := HKK.o; have := HLT.o; omega⟩
    go_wp2_with fail
    go_roundg G
    case measure => omega
    case rel => exact ⟨k + 1, by have := HKK.o; omega, by first | rfl | rw [HS.o.2.2], Zh ⟨_, HLN.o⟩⟩
   ·obtain rfl : n = k := by omega
    have HLE := Zh (show LS (fun w => RSt W g B B4 h a b lit i j x p c q d w /\ FMap w 61 m qdg 7) (fun k => (g <= k /\ k ≠ B) /\ k ≠ m) B wr v3 (((Fo.cons false 3 h 0 Fo.nil Fo.nil).app (nusF x.lits)).app (lksF x.links)) from by
     have hh := HR.o;rw [List.take_of_length_le (by rw [<- HN.o]; exact Nat.le_refl _)] at hh
     exact hh)
    clear hlt hk HR
    go_wp2_with fail
    have HD := Zh (HLE.o.later HK2.o (qae _));refine qai [(1000, (fun _ => True : World -> Prop)), (1000, (fun w => StAt w W.heap.size x p c q d /\ FormAt w B4 h a b lit i j : World -> Prop)), (15, (fun w => w.cell? ⟨B, 4, none⟩ = some v3 : World -> Prop))] (by kernel_rfl) (SL.cons (fun _ => trivial) (SL.cons (fun _ => ⟨HD.o.rest.1.st, HD.o.rest.1.form⟩) (SL.cons (fun _ => HD.o.box.c4) SL.nil))) (fun hH => ?_);generalize wr.drew = wd at *;refine tk 0 0 ⟨some 47, .fieldAddr 35 (.tmp 5) 2, 0, "proof.go:95", #[], none⟩ ?_ rfl rfl ?_ hH fun hH => ?_
    rotate_left
    ·intro w hSw; (try dsimp only at hSw); go_simp; try with_reducible rfl
    try simp only [Act.put, sI, s0, s1]
    refine tk 2 1 ⟨some 48, .load 33 (.tmp 47), 33, "proof.go:95", #[⟨0, .data⟩], none⟩ ?_ rfl rfl ?_ hH fun hH => ?_
    rotate_left
    ·intro w hSw; (try dsimp only at hSw); go_simp; try with_reducible rfl
    try simp only [Act.put, sI, s0, s1]
    refine tk 0 2 ⟨some 49, .fieldAddr 66 (.tmp 4) 3, 0, "proof.go:95", #[], none⟩ ?_ rfl rfl ?_ hH fun hH => ?_
    rotate_left
    ·intro w hSw; (try dsimp only at hSw); go_simp; try with_reducible rfl
    try simp only [Act.put, sI, s0, s1]
    refine tk 1 3 ⟨some 50, .load 4 (.tmp 49), 4, "proof.go:95", #[⟨2, .data⟩], none⟩ ?_ rfl rfl ?_ hH fun hH => ?_
    rotate_left
    ·intro w hSw; (try dsimp only at hSw); obtain ⟨z0, z3, z4, z5, z6, z7⟩ := hSw.2; go_simp; try with_reducible rfl
    try simp only [Act.put, sI, s0, s1]
    refine tk 0 4 ⟨some 51, .fieldAddr 66 (.tmp 4) 4, 0, "proof.go:95", #[], none⟩ ?_ rfl rfl ?_ hH fun hH => ?_
    rotate_left
    ·intro w hSw; (try dsimp only at hSw); go_simp; try with_reducible rfl
    try simp only [Act.put, sI, s0, s1]
    refine tk 1 5 ⟨some 52, .load 4 (.tmp 51), 4, "proof.go:95", #[⟨4, .data⟩], none⟩ ?_ rfl rfl ?_ hH fun hH => ?_
    rotate_left
    ·intro w hSw; (try dsimp only at hSw); obtain ⟨z0, z3, z4, z5, z6, z7⟩ := hSw.2; go_simp; try with_reducible rfl
    try simp only [Act.put, sI, s0, s1]
    refine tk 0 7 ⟨some 54, .fieldAddr 26 (.tmp 1) 3, 0, "proof.go:95", #[], none⟩ ?_ rfl rfl ?_ hH fun hH => ?_
    rotate_left
    ·intro w hSw; (try dsimp only at hSw); go_simp; try with_reducible rfl
    try simp only [Act.put, sI, s0, s1]
    refine tk 1 8 ⟨some 55, .load 3 (.tmp 54), 3, "proof.go:95", #[⟨7, .data⟩], none⟩ ?_ rfl rfl ?_ hH fun hH => ?_
    rotate_left
    ·intro w hSw; (try dsimp only at hSw); obtain ⟨z0, z1, z2, z3, z4⟩ := hSw.1; go_simp; try with_reducible rfl
    try simp only [Act.put, sI, s0, s1]
    refine tk 0 9 ⟨some 56, .fieldAddr 26 (.tmp 1) 4, 0, "proof.go:95", #[], none⟩ ?_ rfl rfl ?_ hH fun hH => ?_
    rotate_left
    ·intro w hSw; (try dsimp only at hSw); go_simp; try with_reducible rfl
    try simp only [Act.put, sI, s0, s1]
    refine tk 1 10 ⟨some 57, .load 3 (.tmp 56), 3, "proof.go:95", #[⟨9, .data⟩], none⟩ ?_ rfl rfl ?_ hH fun hH => ?_
    rotate_left
    ·intro w hSw; (try dsimp only at hSw); obtain ⟨z0, z1, z2, z3, z4⟩ := hSw.1; go_simp; try with_reducible rfl
    try simp only [Act.put, sI, s0, s1]
    refine qcl (fun Q0 A0 hQ hA => ?_)
    have KEY : ∀ (v53 v58 v59 v60 v61 : Value) (w9 : World), Hid (LS (fun w => RSt W g B B4 h a b lit i j x p c q d w /\ FMap w 61 m qdg 7) (fun k => (g <= k /\ k ≠ B) /\ k ≠ m) B w9 v60 ((((Fo.cons false 3 h 0 Fo.nil Fo.nil).app (nusF x.lits)).app (lksF x.links)).app (nusF (flt [a, b] [x.a, x.b])))) -> Q0 Exit.normal (((((A0.put (some 53) v53).put (some 58) v58).put (some 59) v59).put (some 60) v60).put (some 61) v61) w9 := by
     intro v53 v58 v59 v60 v61 w9 HE;subst hQ;subst hA;clear hH HD
     try simp only [Act.put, sI, s0, s1]
     obtain ⟨q7, c7, rfl, hc7, hq7⟩ := HE.o.own.foIn;obtain ⟨y0, y1, y2, y3, y4, yf⟩ := HE.o.box;obtain ⟨z0, z1, z2, z3, z4, zf⟩ := HE.o.rest.1.res;have HC7 := Zh hc7;have HQ7 := Zh hq7;clear hc7 hq7
     go_wp2_with fail
     have hc7 := HC7.o;have hq7 := HQ7.o
     have e7 : ((((Fo.cons false 3 h 0 Fo.nil Fo.nil).app (nusF x.lits)).app (lksF x.links)).app (nusF (flt [a, b] [x.a, x.b]))) = .cons false 3 h 0 .nil (((nusF x.lits).app (lksF x.links)).app (nusF (flt [a, b] [x.a, x.b]))) := by
      simp [Fo.app]
     rw [e7] at hc7 hq7 ⊢;refine bodyPost_ret (v := .tuple #[trV true 1 ⟨#[40]⟩ 0 q7 (Fo.cons false 3 h 0 .nil (((nusF x.lits).app (lksF x.links)).app (nusF (flt [a, b] [x.a, x.b])))).len c7, .int .i64 0]) (by simp [trV, results, Tryz.results10, go_sem, z0, z1, z2, z3, z4]) rfl ⟨q7, c7, rfl, ?_, hc7, ?_⟩
     ·have hne : ∀ o b, ((g <= b /\ b ≠ B) /\ b ≠ m) -> ¬ b = (⟨W.heap.size + 1, o, none⟩ : Addr).block := fun o b h e => by have := HGB.o; simp only at e; omega
      exact (((((hq7.only (Only.of_setCell _ _ _) (hne _)).only (Only.of_setCell _ _ _) (hne _)).only (Only.of_setCell _ _ _) (hne _)).only (Only.of_setCell _ _ _) (hne _)).only (Only.of_setCell _ _ _) (hne _)).mono (fun b hb _ => by have := HGB.o; omega)
     ·iterate 5 refine Below.setCell ?_ (show W.heap.size <= W.heap.size + 1 from Nat.le_succ _) _
      exact HE.o.rest.1.below
    subst hQ;subst hA;simp only [Act.put, List.setIfInBounds_toArray, List.set_cons_zero, List.set_cons_succ] at KEY;refine qac (rs := [6, 11]) (by kernel_rfl) (by simp) ?_;refine AllReadyL.cons (o := ⟨some 53, .buildSlice 75 2 #[(0, .tmp 50), (1, .tmp 52)], 75, "proof.go:95", #[⟨3, .data⟩, ⟨5, .data⟩], none⟩) rfl (fun K0 hK => ?_) (AllReadyL.cons (o := ⟨some 58, .buildSlice 62 2 #[(0, .tmp 55), (1, .tmp 57)], 62, "proof.go:95", #[⟨8, .data⟩, ⟨10, .data⟩], none⟩) rfl (fun K0 hK => ?_) AllReadyL.nil)
    ·skip
     go_simp;have HA1 := Zh (HD.o.later HK2.o (qab wd (.cells #[.bool a, .bool b] 4)));refine hK.out _ _ (SL.cons (fun _ => trivial) (SL.cons (fun _ => ⟨HA1.o.rest.1.st, HA1.o.rest.1.form⟩) (SL.cons (fun _ => HA1.o.box.c4) SL.nil))) (fun hH => ?_);clear hK K0
     try simp only [Act.put, sI, s0, s1]
     refine qac (rs := [11]) (by kernel_rfl) (by simp) ?_;refine AllReadyL.cons (o := ⟨some 58, .buildSlice 62 2 #[(0, .tmp 55), (1, .tmp 57)], 62, "proof.go:95", #[⟨8, .data⟩, ⟨10, .data⟩], none⟩) rfl (fun K0 hK => ?_) AllReadyL.nil;go_simp;have HA2 := Zh (HA1.o.later HK2.o (qab (wd.alloc (.cells #[.bool a, .bool b] 4)) (.cells #[.int .i64 x.a, .int .i64 x.b] 3)));refine hK.out _ _ (SL.cons (fun _ => trivial) (SL.cons (fun _ => ⟨HA2.o.rest.1.st, HA2.o.rest.1.form⟩) (SL.cons (fun _ => HA2.o.box.c4) SL.nil))) (fun hH => ?_);clear hK K0
     try simp only [Act.put, sI, s0, s1]
     obtain ⟨we, hwe⟩ : ∃ we, we = (wd.alloc (.cells #[.bool a, .bool b] 4)).alloc (.cells #[.int .i64 x.a, .int .i64 x.b] 3) := ⟨_, rfl⟩
     have HBI := Zh (show BoolsIn we (some ⟨wd.heap.size, 0, none⟩) [a, b] /\ IntsIn we (some ⟨(wd.heap.size + 1), 0, none⟩) [x.a, x.b] from by
      rw [hwe];refine ⟨fun t ht => ⟨_, 0, rfl, ?_⟩, fun t ht => ⟨_, 0, rfl, ?_⟩⟩
      ·match t, ht with
       | 0, _ => simp [go_sem]
       | 1, _ => simp [go_sem]
      ·match t, ht with
       | 0, _ => simp [go_sem]
       | 1, _ => simp [go_sem])
     have HA3 := Zh (show LS (fun w => RSt W g B B4 h a b lit i j x p c q d w /\ FMap w 61 m qdg 7) (fun k => (g <= k /\ k ≠ B) /\ k ≠ m) B we v3 (((Fo.cons false 3 h 0 Fo.nil Fo.nil).app (nusF x.lits)).app (lksF x.links)) from by rw [hwe]; exact HA2.o);rw [<- hwe] at hH ⊢;clear hwe HA1 HA2;refine qac (rs := [12]) (by kernel_rfl) (by simp) ?_;refine AllReadyL.cons (o := ⟨some 59, .call ⟨.value (.func 33), #[.tmp 53, .tmp 58], #[75, 62]⟩, 33, "proof.go:95", #[⟨6, .data⟩, ⟨11, .data⟩], none⟩) rfl (fun K0 hK => ?_) AllReadyL.nil;go_simp;go_at_call 33;refine (qd8 _ 2 _ 2 2 [a, b] [x.a, x.b] we HBI.o.1 rfl HBI.o.2 rfl (by omega) HF1.o.2.2.2.2 (qak HT.o HA3.o.rest.1.below)).mono ?_;rintro e w5 ⟨q5, c5, rfl, hown5, hb⟩;have HL5 := Zh (HA3.o.later HK2.o hb);have HO5 := Zh hown5;clear hown5;refine hK.out _ _ (SL.cons (fun _ => trivial) (SL.cons (fun _ => ⟨HL5.o.rest.1.st, HL5.o.rest.1.form⟩) (SL.cons (fun _ => HL5.o.box.c4) SL.nil))) (fun hH => ?_);clear hK K0
     try simp only [Act.put, sI, s0, s1]
     clear hH;refine qac (rs := [13]) (by kernel_rfl) (by simp) ?_;refine AllReadyL.cons (o := ⟨some 60, .call ⟨.builtin .append, #[.tmp 48, .tmp 59], #[33, 33]⟩, 33, "proof.go:95", #[⟨1, .data⟩, ⟨12, .data⟩, ⟨12, .chain⟩], none⟩) rfl (fun K0 hK => ?_) AllReadyL.nil;rw [if_pos (by rfl)];refine qa7 _ _ (by rfl) _ (fun b => we.heap.size <= b) v3 _ _ (nusF (flt [a, b] [x.a, x.b])) (by rfl) (by rfl) HL5.o.own HO5.o (fun k hk hl => ⟨HK2.o.new we k HA3.o.rest hk, fun e => ?_⟩) (HK2.o.new _ _ HL5.o.rest (Nat.le_refl _)) ?_ (by rw [qag]; have := qce [a, b] [x.a, x.b]; simp at this; omega) ?_
     ·have h1 := (HA3.o.own.blk k e).2
      have h2 : we.heap.size <= k := hk;omega
     ·have h1 := HF1.o.1; have h2 := HF1.o.2.2.1; rw [Fo.len_app, Fo.len_app, qag, qb0]; simp only [Fo.len]; omega
     intro p8 c8 w8 hpush ho8;have HE := Zh (HL5.o.turn HK2.o ho8 hpush);have hbx8 := HL5.o.box_at HK2.o ho8;have x8 := hbx8.c4;have f8 := hbx8.fz;have HS8 := Zh (aI (HL5.o.rest.1.st.only ho8 (fun e => by have h1 := (HL5.o.own.blk _ e).1.1; have h2 := HGB.o; omega)) (HL5.o.rest.1.form.only ho8 (fun e => by have h1 := (HL5.o.own.blk _ e).1.1; have h2 := HGB.o; omega)));clear ho8 hbx8 hpush hb;refine hK.out _ _ (SL.cons (fun _ => trivial) (SL.cons (fun _ => HS8.o) (SL.cons (fun _ => x8) SL.nil))) (fun hH => ?_);clear hK K0
     try simp only [Act.put, sI, s0, s1]
     refine tk 0 14 ⟨some 61, .fieldAddr 35 (.tmp 5) 2, 0, "proof.go:95", #[⟨0, .phase⟩, ⟨1, .phase⟩, ⟨2, .phase⟩, ⟨3, .phase⟩, ⟨4, .phase⟩, ⟨5, .phase⟩, ⟨6, .phase⟩, ⟨7, .phase⟩, ⟨8, .phase⟩, ⟨9, .phase⟩, ⟨10, .phase⟩, ⟨11, .phase⟩, ⟨12, .phase⟩, ⟨13, .phase⟩], none⟩ ?_ rfl rfl ?_ hH fun hH => ?_
     rotate_left
     ·intro w hSw; (try dsimp only at hSw); go_simp; try with_reducible rfl
     try simp only [Act.put, sI, s0, s1]
     refine qac (rs := [15]) (by kernel_rfl) (by simp) ?_;refine AllReadyL.cons (o := ⟨none, .store 33 (.tmp 61) (.tmp 60), 0, "proof.go:95", #[⟨14, .data⟩, ⟨13, .data⟩, ⟨13, .chain⟩, ⟨0, .phase⟩, ⟨1, .phase⟩, ⟨2, .phase⟩, ⟨3, .phase⟩, ⟨4, .phase⟩, ⟨5, .phase⟩, ⟨6, .phase⟩, ⟨7, .phase⟩, ⟨8, .phase⟩, ⟨9, .phase⟩, ⟨10, .phase⟩, ⟨11, .phase⟩, ⟨12, .phase⟩, ⟨13, .phase⟩], none⟩) rfl (fun K0 hK => ?_) AllReadyL.nil;go_simp;refine hK.out _ _ (SL.cons (fun _ => trivial) (SL.cons (fun _ => ⟨(HS8.o.1).only (Only.of_setCell _ _ _) (fun e => by have h1 := HGB.o; simp only at e; omega), (HS8.o.2).only (Only.of_setCell _ _ _) (fun e => by have h1 := HGB.o; simp only at e; omega)⟩) (SL.cons (fun h => absurd h (by decide +kernel)) SL.nil))) (fun hH => ?_);clear hK K0
     try simp only [Act.put, sI, s0, s1]
     refine qah (by kernel_rfl) ?_ _;exact KEY _ _ _ _ _ _ HE
    ·skip
     go_simp;have HA1 := Zh (HD.o.later HK2.o (qab wd (.cells #[.int .i64 x.a, .int .i64 x.b] 3)));refine hK.out _ _ (SL.cons (fun _ => trivial) (SL.cons (fun _ => ⟨HA1.o.rest.1.st, HA1.o.rest.1.form⟩) (SL.cons (fun _ => HA1.o.box.c4) SL.nil))) (fun hH => ?_);clear hK K0
     try simp only [Act.put, sI, s0, s1]
     refine qac (rs := [6]) (by kernel_rfl) (by simp) ?_;refine AllReadyL.cons (o := ⟨some 53, .buildSlice 75 2 #[(0, .tmp 50), (1, .tmp 52)], 75, "proof.go:95", #[⟨3, .data⟩, ⟨5, .data⟩], none⟩) rfl (fun K0 hK => ?_) AllReadyL.nil;go_simp;have HA2 := Zh (HA1.o.later HK2.o (qab (wd.alloc (.cells #[.int .i64 x.a, .int .i64 x.b] 3)) (.cells #[.bool a, .bool b] 4)));refine hK.out _ _ (SL.cons (fun _ => trivial) (SL.cons (fun _ => ⟨HA2.o.rest.1.st, HA2.o.rest.1.form⟩) (SL.cons (fun _ => HA2.o.box.c4) SL.nil))) (fun hH => ?_);clear hK K0
     try simp only [Act.put, sI, s0, s1]
     obtain ⟨we, hwe⟩ : ∃ we, we = (wd.alloc (.cells #[.int .i64 x.a, .int .i64 x.b] 3)).alloc (.cells #[.bool a, .bool b] 4) := ⟨_, rfl⟩
     have HBI := Zh (show BoolsIn we (some ⟨(wd.heap.size + 1), 0, none⟩) [a, b] /\ IntsIn we (some ⟨wd.heap.size, 0, none⟩) [x.a, x.b] from by
      rw [hwe];refine ⟨fun t ht => ⟨_, 0, rfl, ?_⟩, fun t ht => ⟨_, 0, rfl, ?_⟩⟩
      ·match t, ht with
       | 0, _ => simp [go_sem]
       | 1, _ => simp [go_sem]
      ·match t, ht with
       | 0, _ => simp [go_sem]
       | 1, _ => simp [go_sem])
     have HA3 := Zh (show LS (fun w => RSt W g B B4 h a b lit i j x p c q d w /\ FMap w 61 m qdg 7) (fun k => (g <= k /\ k ≠ B) /\ k ≠ m) B we v3 (((Fo.cons false 3 h 0 Fo.nil Fo.nil).app (nusF x.lits)).app (lksF x.links)) from by rw [hwe]; exact HA2.o);rw [<- hwe] at hH ⊢;clear hwe HA1 HA2;refine qac (rs := [12]) (by kernel_rfl) (by simp) ?_;refine AllReadyL.cons (o := ⟨some 59, .call ⟨.value (.func 33), #[.tmp 53, .tmp 58], #[75, 62]⟩, 33, "proof.go:95", #[⟨6, .data⟩, ⟨11, .data⟩], none⟩) rfl (fun K0 hK => ?_) AllReadyL.nil;go_simp;go_at_call 33;refine (qd8 _ 2 _ 2 2 [a, b] [x.a, x.b] we HBI.o.1 rfl HBI.o.2 rfl (by omega) HF1.o.2.2.2.2 (qak HT.o HA3.o.rest.1.below)).mono ?_;rintro e w5 ⟨q5, c5, rfl, hown5, hb⟩;have HL5 := Zh (HA3.o.later HK2.o hb);have HO5 := Zh hown5;clear hown5;refine hK.out _ _ (SL.cons (fun _ => trivial) (SL.cons (fun _ => ⟨HL5.o.rest.1.st, HL5.o.rest.1.form⟩) (SL.cons (fun _ => HL5.o.box.c4) SL.nil))) (fun hH => ?_);clear hK K0
     try simp only [Act.put, sI, s0, s1]
     clear hH;refine qac (rs := [13]) (by kernel_rfl) (by simp) ?_;refine AllReadyL.cons (o := ⟨some 60, .call ⟨.builtin .append, #[.tmp 48, .tmp 59], #[33, 33]⟩, 33, "proof.go:95", #[⟨1, .data⟩, ⟨12, .data⟩, ⟨12, .chain⟩], none⟩) rfl (fun K0 hK => ?_) AllReadyL.nil;rw [if_pos (by rfl)];refine qa7 _ _ (by rfl) _ (fun b => we.heap.size <= b) v3 _ _ (nusF (flt [a, b] [x.a, x.b])) (by rfl) (by rfl) HL5.o.own HO5.o (fun k hk hl => ⟨HK2.o.new we k HA3.o.rest hk, fun e => ?_⟩) (HK2.o.new _ _ HL5.o.rest (Nat.le_refl _)) ?_ (by rw [qag]; have := qce [a, b] [x.a, x.b]; simp at this; omega) ?_
     ·have h1 := (HA3.o.own.blk k e).2
      have h2 : we.heap.size <= k := hk;omega
     ·have h1 := HF1.o.1; have h2 := HF1.o.2.2.1; rw [Fo.len_app, Fo.len_app, qag, qb0]; simp only [Fo.len]; omega
     intro p8 c8 w8 hpush ho8;have HE := Zh (HL5.o.turn HK2.o ho8 hpush);have hbx8 := HL5.o.box_at HK2.o ho8;have x8 := hbx8.c4;have f8 := hbx8.fz;have HS8 := Zh (aI (HL5.o.rest.1.st.only ho8 (fun e => by have h1 := (HL5.o.own.blk _ e).1.1; have h2 := HGB.o; omega)) (HL5.o.rest.1.form.only ho8 (fun e => by have h1 := (HL5.o.own.blk _ e).1.1; have h2 := HGB.o; omega)));clear ho8 hbx8 hpush hb;refine hK.out _ _ (SL.cons (fun _ => trivial) (SL.cons (fun _ => HS8.o) (SL.cons (fun _ => x8) SL.nil))) (fun hH => ?_);clear hK K0
     try simp only [Act.put, sI, s0, s1]
     refine tk 0 14 ⟨some 61, .fieldAddr 35 (.tmp 5) 2, 0, "proof.go:95", #[⟨0, .phase⟩, ⟨1, .phase⟩, ⟨2, .phase⟩, ⟨3, .phase⟩, ⟨4, .phase⟩, ⟨5, .phase⟩, ⟨6, .phase⟩, ⟨7, .phase⟩, ⟨8, .phase⟩, ⟨9, .phase⟩, ⟨10, .phase⟩, ⟨11, .phase⟩, ⟨12, .phase⟩, ⟨13, .phase⟩], none⟩ ?_ rfl rfl ?_ hH fun hH => ?_
     rotate_left
     ·intro w hSw; (try dsimp only at hSw); go_simp; try with_reducible rfl
     try simp only [Act.put, sI, s0, s1]
     refine qac (rs := [15]) (by kernel_rfl) (by simp) ?_;refine AllReadyL.cons (o := ⟨none, .store 33 (.tmp 61) (.tmp 60), 0, "proof.go:95", #[⟨14, .data⟩, ⟨13, .data⟩, ⟨13, .chain⟩, ⟨0, .phase⟩, ⟨1, .phase⟩, ⟨2, .phase⟩, ⟨3, .phase⟩, ⟨4, .phase⟩, ⟨5, .phase⟩, ⟨6, .phase⟩, ⟨7, .phase⟩, ⟨8, .phase⟩, ⟨9, .phase⟩, ⟨10, .phase⟩, ⟨11, .phase⟩, ⟨12, .phase⟩, ⟨13, .phase⟩], none⟩) rfl (fun K0 hK => ?_) AllReadyL.nil;go_simp;refine hK.out _ _ (SL.cons (fun _ => trivial) (SL.cons (fun _ => ⟨(HS8.o.1).only (Only.of_setCell _ _ _) (fun e => by have h1 := HGB.o; simp only at e; omega), (HS8.o.2).only (Only.of_setCell _ _ _) (fun e => by have h1 := HGB.o; simp only at e; omega)⟩) (SL.cons (fun h => absurd h (by decide +kernel)) SL.nil))) (fun hH => ?_);clear hK K0
     try simp only [Act.put, sI, s0, s1]
     refine qah (by kernel_rfl) ?_ _;exact KEY _ _ _ _ _ _ HE
 subst hQ;subst hA;simp only [Act.put, List.setIfInBounds_toArray, List.set_cons_zero, List.set_cons_succ] at KEY;refine qac (rs := [0, 4]) (by kernel_rfl) (by simp) ?_;refine AllReadyL.cons (o := ⟨some 13, .call ⟨.value (.func 28), #[], #[]⟩, 67, "proof.go:88", #[], none⟩) rfl (fun K0 hK => ?_) (AllReadyL.cons (o := ⟨some 4, .alloc 66, 0, "proof.go:88", #[], none⟩) rfl (fun K0 hK => ?_) AllReadyL.nil)
 ·skip
  go_simp;go_at_call 28;refine (qei wd).mono ?_;rintro e w5 ⟨mm, rfl, hm5, hb5, hmm5⟩;have HA := Zh (show StAt w5 W.heap.size x p c q d /\ BoxT w5 (W.heap.size + 1) false 0 ⟨#[]⟩ 0 (.slice none 0 0) /\ Below W.heap.size W w5 /\ FMap w5 22 mm qh6 4 from ⟨HSD.o.1.later hb5, HSD.o.2.1.later hb5, HSD.o.2.2.trans (hb5.mono HSD.o.2.2.size), hm5⟩);have HMM := Zh (show wd.heap.size <= mm from hmm5);clear hm5 hb5 hmm5;refine hK.out _ _ (SL.cons (fun _ => trivial) (SL.cons (fun _ => HA.o.1) SL.nil)) (fun hH => ?_);clear hK K0
  try simp only [Act.put, sI, s0, s1]
  refine qac (rs := [3, 4]) (by kernel_rfl) (by simp) ?_;refine AllReadyL.cons (o := ⟨some 16, .lookup 67 (.tmp 13) (.tmp 15) false, 66, "proof.go:88", #[⟨0, .data⟩, ⟨2, .data⟩], none⟩) rfl (fun K0 hK => ?_) (AllReadyL.cons (o := ⟨some 4, .alloc 66, 0, "proof.go:88", #[], none⟩) rfl (fun K0 hK => ?_) AllReadyL.nil)
  ·skip
   refine qfs (o := ⟨some 16, .lookup 67 (.tmp 13) (.tmp 15) false, 66, "proof.go:88", #[⟨0, .data⟩, ⟨2, .data⟩], none⟩) rfl (by rfl) (by rfl) (HA.o.2.2.2.look K22 Tryz.underlying67 (qcw _) (qdq _ HK.o.1 HK.o.2)) ?_;rw [qbu, HV.o];refine hK.out _ _ (SL.cons (fun _ => trivial) (SL.cons (fun _ => HA.o.1) SL.nil)) (fun hH => ?_);clear hK K0
   try simp only [Act.put, sI, s0, s1]
   refine qac (rs := [4]) (by kernel_rfl) (by simp) ?_;refine AllReadyL.cons (o := ⟨some 4, .alloc 66, 0, "proof.go:88", #[], none⟩) rfl (fun K0 hK => ?_) AllReadyL.nil;go_simp;have HF := Zh (qdk w5);have HA4 := Zh (show StAt (w5.alloc (.cells #[.string ⟨#[]⟩, .bool false, .bool false, .bool false, .bool false, .bool false, .bool false, .bool false, .bool false] 66)) W.heap.size x p c q d /\ BoxT (w5.alloc (.cells #[.string ⟨#[]⟩, .bool false, .bool false, .bool false, .bool false, .bool false, .bool false, .bool false, .bool false] 66)) (W.heap.size + 1) false 0 ⟨#[]⟩ 0 (.slice none 0 0) /\ Below W.heap.size W (w5.alloc (.cells #[.string ⟨#[]⟩, .bool false, .bool false, .bool false, .bool false, .bool false, .bool false, .bool false, .bool false] 66)) /\ FMap (w5.alloc (.cells #[.string ⟨#[]⟩, .bool false, .bool false, .bool false, .bool false, .bool false, .bool false, .bool false, .bool false] 66)) 22 mm qh6 4 from ⟨HA.o.1.later (qab _ _), HA.o.2.1.later (qab _ _), HA.o.2.2.1.trans ((qab _ _).mono HA.o.2.2.1.size), HA.o.2.2.2.later (qab _ _)⟩);refine hK.out _ _ (SL.cons (fun _ => trivial) (SL.cons (fun _ => HA4.o.1) SL.nil)) (fun hH => ?_);clear hK K0
   try simp only [Act.put, sI, s0, s1]
   refine qac (rs := [5]) (by kernel_rfl) (by simp) ?_;refine AllReadyL.cons (o := ⟨none, .store 66 (.tmp 4) (.tmp 16), 0, "proof.go:88", #[⟨4, .data⟩, ⟨3, .data⟩, ⟨0, .chain⟩, ⟨0, .phase⟩, ⟨1, .phase⟩, ⟨2, .phase⟩, ⟨3, .phase⟩, ⟨4, .phase⟩], none⟩) rfl (fun K0 hK => ?_) AllReadyL.nil;obtain ⟨f0, f1_, f2_, f3_, f4_, f5_, f6_, f7_, f8_, ff⟩ := HF.o;unfold fmV
   dsimp only [Option.getD_some]
   go_simp;have HE := Zh (show StAt (w5.alloc (.cells #[.string h, .bool f1, .bool f2, .bool a, .bool b, .bool lit, .bool i, .bool j, .bool list] 66)) W.heap.size x p c q d /\ BoxT (w5.alloc (.cells #[.string h, .bool f1, .bool f2, .bool a, .bool b, .bool lit, .bool i, .bool j, .bool list] 66)) (W.heap.size + 1) false 0 ⟨#[]⟩ 0 (.slice none 0 0) /\ Below W.heap.size W (w5.alloc (.cells #[.string h, .bool f1, .bool f2, .bool a, .bool b, .bool lit, .bool i, .bool j, .bool list] 66)) /\ FormAt (w5.alloc (.cells #[.string h, .bool f1, .bool f2, .bool a, .bool b, .bool lit, .bool i, .bool j, .bool list] 66)) w5.heap.size h a b lit i j /\ W.heap.size + 2 <= w5.heap.size from ⟨HA.o.1.later (qab _ _), HA.o.2.1.later (qab _ _), HA.o.2.2.1.trans ((qab _ _).mono HA.o.2.2.1.size), qs5 w5 h f1 f2 a b lit i j list, by have := HA.o.2.1.lt; omega⟩);refine hK.out _ _ (SL.cons (fun _ => trivial) (SL.cons (fun _ => HE.o.1) SL.nil)) (fun hH => ?_);clear hK K0
   try simp only [Act.put, sI, s0, s1]
   refine qah (by kernel_rfl) ?_ _;exact KEY _ _ _ _ HE
  ·skip
   go_simp;have HF := Zh (qdk w5);have HA4 := Zh (show StAt (w5.alloc (.cells #[.string ⟨#[]⟩, .bool false, .bool false, .bool false, .bool false, .bool false, .bool false, .bool false, .bool false] 66)) W.heap.size x p c q d /\ BoxT (w5.alloc (.cells #[.string ⟨#[]⟩, .bool false, .bool false, .bool false, .bool false, .bool false, .bool false, .bool false, .bool false] 66)) (W.heap.size + 1) false 0 ⟨#[]⟩ 0 (.slice none 0 0) /\ Below W.heap.size W (w5.alloc (.cells #[.string ⟨#[]⟩, .bool false, .bool false, .bool false, .bool false, .bool false, .bool false, .bool false, .bool false] 66)) /\ FMap (w5.alloc (.cells #[.string ⟨#[]⟩, .bool false, .bool false, .bool false, .bool false, .bool false, .bool false, .bool false, .bool false] 66)) 22 mm qh6 4 from ⟨HA.o.1.later (qab _ _), HA.o.2.1.later (qab _ _), HA.o.2.2.1.trans ((qab _ _).mono HA.o.2.2.1.size), HA.o.2.2.2.later (qab _ _)⟩);refine hK.out _ _ (SL.cons (fun _ => trivial) (SL.cons (fun _ => HA4.o.1) SL.nil)) (fun hH => ?_);clear hK K0
   try simp only [Act.put, sI, s0, s1]
   refine qac (rs := [3]) (by kernel_rfl) (by simp) ?_;refine AllReadyL.cons (o := ⟨some 16, .lookup 67 (.tmp 13) (.tmp 15) false, 66, "proof.go:88", #[⟨0, .data⟩, ⟨2, .data⟩], none⟩) rfl (fun K0 hK => ?_) AllReadyL.nil;refine qfs (o := ⟨some 16, .lookup 67 (.tmp 13) (.tmp 15) false, 66, "proof.go:88", #[⟨0, .data⟩, ⟨2, .data⟩], none⟩) rfl (by rfl) (by rfl) (HA4.o.2.2.2.look K22 Tryz.underlying67 (qcw _) (qdq _ HK.o.1 HK.o.2)) ?_;rw [qbu, HV.o];refine hK.out _ _ (SL.cons (fun _ => trivial) (SL.cons (fun _ => HA4.o.1) SL.nil)) (fun hH => ?_);clear hK K0
   try simp only [Act.put, sI, s0, s1]
   refine qac (rs := [5]) (by kernel_rfl) (by simp) ?_;refine AllReadyL.cons (o := ⟨none, .store 66 (.tmp 4) (.tmp 16), 0, "proof.go:88", #[⟨4, .data⟩, ⟨3, .data⟩, ⟨0, .chain⟩, ⟨0, .phase⟩, ⟨1, .phase⟩, ⟨2, .phase⟩, ⟨3, .phase⟩, ⟨4, .phase⟩], none⟩) rfl (fun K0 hK => ?_) AllReadyL.nil;obtain ⟨f0, f1_, f2_, f3_, f4_, f5_, f6_, f7_, f8_, ff⟩ := HF.o;unfold fmV
   dsimp only [Option.getD_some]
   go_simp;have HE := Zh (show StAt (w5.alloc (.cells #[.string h, .bool f1, .bool f2, .bool a, .bool b, .bool lit, .bool i, .bool j, .bool list] 66)) W.heap.size x p c q d /\ BoxT (w5.alloc (.cells #[.string h, .bool f1, .bool f2, .bool a, .bool b, .bool lit, .bool i, .bool j, .bool list] 66)) (W.heap.size + 1) false 0 ⟨#[]⟩ 0 (.slice none 0 0) /\ Below W.heap.size W (w5.alloc (.cells #[.string h, .bool f1, .bool f2, .bool a, .bool b, .bool lit, .bool i, .bool j, .bool list] 66)) /\ FormAt (w5.alloc (.cells #[.string h, .bool f1, .bool f2, .bool a, .bool b, .bool lit, .bool i, .bool j, .bool list] 66)) w5.heap.size h a b lit i j /\ W.heap.size + 2 <= w5.heap.size from ⟨HA.o.1.later (qab _ _), HA.o.2.1.later (qab _ _), HA.o.2.2.1.trans ((qab _ _).mono HA.o.2.2.1.size), qs5 w5 h f1 f2 a b lit i j list, by have := HA.o.2.1.lt; omega⟩);refine hK.out _ _ (SL.cons (fun _ => trivial) (SL.cons (fun _ => HE.o.1) SL.nil)) (fun hH => ?_);clear hK K0
   try simp only [Act.put, sI, s0, s1]
   refine qah (by kernel_rfl) ?_ _;exact KEY _ _ _ _ HE
 ·skip
  go_simp;have HF0 := Zh (qdk wd);have HAX := Zh (show StAt (wd.alloc (.cells #[.string ⟨#[]⟩, .bool false, .bool false, .bool false, .bool false, .bool false, .bool false, .bool false, .bool false] 66)) W.heap.size x p c q d /\ BoxT (wd.alloc (.cells #[.string ⟨#[]⟩, .bool false, .bool false, .bool false, .bool false, .bool false, .bool false, .bool false, .bool false] 66)) (W.heap.size + 1) false 0 ⟨#[]⟩ 0 (.slice none 0 0) /\ Below W.heap.size W (wd.alloc (.cells #[.string ⟨#[]⟩, .bool false, .bool false, .bool false, .bool false, .bool false, .bool false, .bool false, .bool false] 66)) from ⟨HSD.o.1.later (qab _ _), HSD.o.2.1.later (qab _ _), HSD.o.2.2.trans ((qab _ _).mono HSD.o.2.2.size)⟩);refine hK.out _ _ (SL.cons (fun _ => trivial) (SL.cons (fun _ => HAX.o.1) SL.nil)) (fun hH => ?_);clear hK K0
  try simp only [Act.put, sI, s0, s1]
  refine qac (rs := [0]) (by kernel_rfl) (by simp) ?_;refine AllReadyL.cons (o := ⟨some 13, .call ⟨.value (.func 28), #[], #[]⟩, 67, "proof.go:88", #[], none⟩) rfl (fun K0 hK => ?_) AllReadyL.nil;go_simp;go_at_call 28;refine (qei _).mono ?_;rintro e w5 ⟨mm, rfl, hm5, hb5, hmm5⟩;have HA4 := Zh (show StAt w5 W.heap.size x p c q d /\ BoxT w5 (W.heap.size + 1) false 0 ⟨#[]⟩ 0 (.slice none 0 0) /\ Below W.heap.size W w5 /\ FMap w5 22 mm qh6 4 from ⟨HAX.o.1.later hb5, HAX.o.2.1.later hb5, HAX.o.2.2.trans (hb5.mono HAX.o.2.2.size), hm5⟩);have HF := Zh (HF0.o.later hb5);clear hm5 hb5 hmm5;refine hK.out _ _ (SL.cons (fun _ => trivial) (SL.cons (fun _ => HA4.o.1) SL.nil)) (fun hH => ?_);clear hK K0
  try simp only [Act.put, sI, s0, s1]
  refine qac (rs := [3]) (by kernel_rfl) (by simp) ?_;refine AllReadyL.cons (o := ⟨some 16, .lookup 67 (.tmp 13) (.tmp 15) false, 66, "proof.go:88", #[⟨0, .data⟩, ⟨2, .data⟩], none⟩) rfl (fun K0 hK => ?_) AllReadyL.nil;refine qfs (o := ⟨some 16, .lookup 67 (.tmp 13) (.tmp 15) false, 66, "proof.go:88", #[⟨0, .data⟩, ⟨2, .data⟩], none⟩) rfl (by rfl) (by rfl) (HA4.o.2.2.2.look K22 Tryz.underlying67 (qcw _) (qdq _ HK.o.1 HK.o.2)) ?_;rw [qbu, HV.o];refine hK.out _ _ (SL.cons (fun _ => trivial) (SL.cons (fun _ => HA4.o.1) SL.nil)) (fun hH => ?_);clear hK K0
  try simp only [Act.put, sI, s0, s1]
  refine qac (rs := [5]) (by kernel_rfl) (by simp) ?_;refine AllReadyL.cons (o := ⟨none, .store 66 (.tmp 4) (.tmp 16), 0, "proof.go:88", #[⟨4, .data⟩, ⟨3, .data⟩, ⟨0, .chain⟩, ⟨0, .phase⟩, ⟨1, .phase⟩, ⟨2, .phase⟩, ⟨3, .phase⟩, ⟨4, .phase⟩], none⟩) rfl (fun K0 hK => ?_) AllReadyL.nil;obtain ⟨f0, f1_, f2_, f3_, f4_, f5_, f6_, f7_, f8_, ff⟩ := HF.o;unfold fmV
  dsimp only [Option.getD_some]
  go_simp;have h9 := qty HF.o h f1 f2 a b lit i j list;have HE := Zh (show _ /\ _ /\ _ /\ _ /\ _ from ⟨HA4.o.1.only h9.2 (fun e => by have := HSD.o.2.1.lt; omega), HA4.o.2.1.only h9.2 (fun e => by have := HSD.o.2.1.lt; omega), HA4.o.2.2.1.trans (h9.2.below (B := W.heap.size) (fun k e => by have := HSD.o.2.1.lt; omega) HA4.o.2.2.1.size), h9.1, show W.heap.size + 2 <= wd.heap.size from by have := HSD.o.2.1.lt; omega⟩);refine hK.out _ _ (SL.cons (fun _ => trivial) (SL.cons (fun _ => HE.o.1) SL.nil)) (fun hH => ?_);clear hK K0
  try simp only [Act.put, sI, s0, s1]
  refine qah (by kernel_rfl) ?_ _;exact KEY _ _ _ _ HE
end Go.Proofs.YtookoagcmejkpaaGreatDoor
