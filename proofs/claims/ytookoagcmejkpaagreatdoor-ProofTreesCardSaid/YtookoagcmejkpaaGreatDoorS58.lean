/- What the third law says: the walk of ProofTrees. -/
import Derived.Test.YtookoagcmejkpaaGreatDoorJ33
import Derived.Test.YtookoagcmejkpaaGreatDoorS18
import Derived.Test.YtookoagcmejkpaaGreatDoorS13
import Derived.Test.YtookoagcmejkpaaGreatDoorJ19
namespace Go.Proofs.YtookoagcmejkpaaGreatDoor
set_option maxRecDepth 100000
open Go Go.RowKit Go.Maps
structure StArg (W : World) (x : Stp) (p : Option Addr) (c : Nat) (q : Option Addr) (d : Nat) : Prop where
 h1 : IntsIn W p x.lits
 h2 : LksIn W q x.links
 h3 : LksOK W q x.links
 hp : SlOK p c
 hk : 0 ≤ x.k ∧ x.k ≤ 255
 hkd : KdL x.links
 n1 : x.lits.length ≤ 9223372036854775807
 n2 : x.links.length ≤ 9223372036854775807
theorem StArg.later {W W' : World} {x : Stp} {p : Option Addr} {c : Nat} {q : Option Addr} {d : Nat} (h : StArg W x p c q d) (hb : Below W.heap.size W W') : StArg W' x p c q d :=
 ⟨h.h1.later hb, h.h2.later hb, h.h3.later h.h2 hb, h.hp, h.hk, h.hkd, h.n1, h.n2⟩
theorem great_small {x : Stp} (h : greatS x = false) : x.lits.length ≤ 1000000 ∧ x.links.length ≤ 1000000 ∧ ∀ l ∈ x.links, l.l.length ≤ 1000000 := by
 unfold greatS at h
 simp only [Bool.or_eq_false_iff, Bool.and_eq_false_iff, decide_eq_false_iff_not, List.any_eq_false] at h
 obtain ⟨⟨⟨⟨h1, h2⟩, h3⟩, h4⟩, h5⟩ := h
 refine ⟨by omega, by omega, fun l hl => ?_⟩
 have := h5 l hl
 simp at this
 omega
set_option maxHeartbeats 6400000 in
theorem law3 (x : Stp) (p : Option Addr) (c : Nat) (q : Option Addr) (d : Nat) (y : Stp) (p2 : Option Addr) (c2 : Nat) (q2 : Option Addr) (d2 : Nat) (W : World) (hx : StArg W x p c q d) (hy : StArg W y p2 c2 q2 d2) (htab : PowTab W) (hK : Known W) :
  Calls Tryz.prog 3 #[stV x p c q d, stV y p2 c2 q2 d2] W fun e w' => e = .returned (.bool true) ∧ Below W.heap.size W w' := by
 obtain ⟨w1, hw1⟩ : ∃ w1, w1 = (W.alloc (.cells #[.int .u8 x.k, .slice p x.lits.length c, .slice q x.links.length d, .int .i64 x.a, .int .i64 x.b] 26)).alloc (.cells #[.int .u8 y.k, .slice p2 y.lits.length c2, .slice q2 y.links.length d2, .int .i64 y.a, .int .i64 y.b] 26) := ⟨_, rfl⟩
 have hb1 : Below W.heap.size W w1 := by rw [hw1]; exact (below1 W _).alloc (by simp) _
 have HB1 := Lib.hid hb1
 have HX1 := Lib.hid (show BoxS w1 W.heap.size x.k (.slice p x.lits.length c) (.slice q x.links.length d) x.a x.b ∧ BoxS w1 (W.heap.size + 1) y.k (.slice p2 y.lits.length c2) (.slice q2 y.links.length d2) y.a y.b from by
  have h1 := (boxS_new W x.k x.a x.b (.slice p x.lits.length c) (.slice q x.links.length d)).later (below1 _ (.cells #[.int .u8 y.k, .slice p2 y.lits.length c2, .slice q2 y.links.length d2, .int .i64 y.a, .int .i64 y.b] 26))
  have h2 := boxS_new (W.alloc (.cells #[.int .u8 x.k, .slice p x.lits.length c, .slice q x.links.length d, .int .i64 x.a, .int .i64 x.b] 26)) y.k y.a y.b (.slice p2 y.lits.length c2) (.slice q2 y.links.length d2)
  rw [hw1]
  exact ⟨h1, by simpa using h2⟩)
 have HA1 := Lib.hid (And.intro (hx.later hb1) (hy.later hb1))
 have HC1 := Lib.hid (great7 x.k x.a x.b p c x.lits.length q d x.links.length x.lits x.links w1 rfl rfl hx.n1 hx.n2 (hx.later hb1).h2)
 have HT := Lib.hid htab
 have HK := Lib.hid hK
 have HW1 := Lib.hid hw1
 obtain ⟨GX, hGX⟩ : ∃ g, g = greatS x := ⟨_, rfl⟩
 obtain ⟨GY, hGY⟩ : ∃ g, g = greatS y := ⟨_, rfl⟩
 have HGX := Lib.hid hGX
 have HGY := Lib.hid hGY
 rw [show greatS ⟨x.k, x.lits, x.links, x.a, x.b⟩ = GX from hGX.symm] at HC1
 obtain ⟨⟨x0, x1, x2, x3, x4, xf⟩, y0, y1, y2, y3, y4, yf⟩ := HX1.out
 rw [hw1] at x0 x1 x2 x3 x4 xf y0 y1 y2 y3 y4 yf
 clear hx hy htab hK hb1 hw1 hGX hGY
 unfold stV
 go_enter Tryz.func3, Tryz.ntmps3
 go_wp2_with fail
 rw [← HW1.out]
 refine HC1.out.mono ?_
 rintro e wa ⟨rfl, hba⟩
 have HBA := Lib.hid (HB1.out.trans (hba.mono HB1.out.size))
 have HXA := Lib.hid (And.intro (HX1.out.1.later hba) (HX1.out.2.later hba))
 have HAA := Lib.hid (And.intro (HA1.out.1.later hba) (HA1.out.2.later hba))
 clear hba HC1 HW1 x0 x1 x2 x3 x4 xf y0 y1 y2 y3 y4 yf
 obtain ⟨⟨x0, x1, x2, x3, x4, xf⟩, y0, y1, y2, y3, y4, yf⟩ := HXA.out
 cases GX with
 | true =>
  have HKK := Lib.hid (HK.out wa HBA.out)
  go_wp2_with fail
  refine HKK.out.mono ?_
  rintro e wz ⟨rfl, hbz⟩
  have HBZ := Lib.hid (HBA.out.trans (hbz.mono HBA.out.size))
  clear hbz
  go_wp2_with fail
  exact bodyPost_ret (v := .bool true) (by simp [results, Tryz.results3, go_sem]) rfl ⟨rfl, HBZ.out⟩
 | false =>
 have HC2 := Lib.hid (great7 y.k y.a y.b p2 c2 y.lits.length q2 d2 y.links.length y.lits y.links wa rfl rfl HAA.out.2.n1 HAA.out.2.n2 HAA.out.2.h2)
 rw [show greatS ⟨y.k, y.lits, y.links, y.a, y.b⟩ = GY from HGY.out.symm] at HC2
 go_wp2_with fail
 refine HC2.out.mono ?_
 rintro e wb ⟨rfl, hbb⟩
 have HBB := Lib.hid (HBA.out.trans (hbb.mono HBA.out.size))
 have HXB := Lib.hid (And.intro (HXA.out.1.later hbb) (HXA.out.2.later hbb))
 have HAB := Lib.hid (And.intro (HAA.out.1.later hbb) (HAA.out.2.later hbb))
 clear hbb HC2 x0 x1 x2 x3 x4 xf y0 y1 y2 y3 y4 yf
 obtain ⟨⟨x0, x1, x2, x3, x4, xf⟩, y0, y1, y2, y3, y4, yf⟩ := HXB.out
 cases GY with
 | true =>
  have HKK := Lib.hid (HK.out wb HBB.out)
  go_wp2_with fail
  refine HKK.out.mono ?_
  rintro e wz ⟨rfl, hbz⟩
  have HBZ := Lib.hid (HBB.out.trans (hbz.mono HBB.out.size))
  clear hbz
  go_wp2_with fail
  exact bodyPost_ret (v := .bool true) (by simp [results, Tryz.results3, go_sem]) rfl ⟨rfl, HBZ.out⟩
 | false =>
 have HSMX := Lib.hid (great_small HGX.out.symm)
 have HSMY := Lib.hid (great_small HGY.out.symm)
 have HC9 := Lib.hid (copy9 x p c q d wb HAB.out.1.h1 HAB.out.1.h2 HAB.out.1.h3 HAB.out.1.hp HSMX.out.1 HSMX.out.2.1 HSMX.out.2.2)
 unfold stV at HC9
 go_wp2_with fail
 refine HC9.out.mono ?_
 rintro e wc ⟨p3, c3, q3, d3, rfl, hi3, hsl3, _, hl3, hlo3, _, _, hbc⟩
 obtain ⟨wd, hwd⟩ : ∃ wd, wd = wc.alloc (.cells #[.int .u8 x.k, .slice p3 x.lits.length c3, .slice q3 x.links.length d3, .int .i64 x.a, .int .i64 x.b] 26) := ⟨_, rfl⟩
 have HBcd := Lib.hid (show Below wc.heap.size wc wd from by rw [hwd]; exact below1 _ _)
 have HBbd := Lib.hid (hbc.trans (HBcd.out.mono hbc.size))
 have HI := Lib.hid (show StArg wd x p3 c3 q3 d3 ∧ BoxS wd wc.heap.size x.k (.slice p3 x.lits.length c3) (.slice q3 x.links.length d3) x.a x.b from
  ⟨⟨hi3.later HBcd.out, hl3.later HBcd.out, hlo3.later hl3 HBcd.out, hsl3, HAB.out.1.hk, HAB.out.1.hkd, HAB.out.1.n1, HAB.out.1.n2⟩, by rw [hwd]; exact boxS_new _ _ _ _ _ _⟩)
 have HBD := Lib.hid (HBB.out.trans (HBbd.out.mono HBB.out.size))
 have HXD := Lib.hid (And.intro (HXB.out.1.later HBbd.out) (HXB.out.2.later HBbd.out))
 have HAD := Lib.hid (And.intro (HAB.out.1.later HBbd.out) (HAB.out.2.later HBbd.out))
 have HTR := Lib.hid (tree10 x p3 c3 q3 d3 wd HI.out.1.hk.1 HI.out.1.hk.2 HI.out.1.h1 HI.out.1.h2 HI.out.1.hkd HI.out.1.n1 HI.out.1.n2 (tabIs_below HT.out HBD.out))
 have HWD := Lib.hid hwd
 have hi5 := HI.out.2
 rw [hwd] at hi5
 obtain ⟨i0, i1, i2, i3, i4, if'⟩ := hi5
 clear hwd hi3 hsl3 hl3 hlo3 hbc HC9 x0 x1 x2 x3 x4 xf y0 y1 y2 y3 y4 yf
 unfold stV at HTR
 go_wp2_with fail
 rw [← HWD.out]
 refine HTR.out.mono ?_
 intro e we htr
 clear HTR HWD i0 i1 i2 i3 i4 if'
 obtain ⟨M, hM⟩ : ∃ M, M = maySt x := ⟨_, rfl⟩
 have HM := Lib.hid hM
 have htr2 : ∃ (L : Bool) (Kk : Int) (S : ByteArray) (Qt : Option Addr) (Ft : Fo) (Ct : Nat) (E : Int), e = .returned (.tuple #[trV L Kk S 0 Qt Ft.len Ct, .int .i64 E]) ∧ FoIn we (fun b => wd.heap.size ≤ b) Ft Qt ∧ Ft.len ≤ Ct ∧ Below wd.heap.size wd we ∧ (if M then L = true ∧ Kk = 1 ∧ S = ⟨#[40]⟩ ∧ Ft = stX x ∧ E = 0 else L = false ∧ Kk = 0 ∧ S = ⟨#[]⟩ ∧ Ft = .nil ∧ E = 2) := by
  rcases htr with ⟨hm, he, hbe⟩ | ⟨hm, q5, c5, he, hq5, hc5, hbe⟩
  ·exact ⟨false, 0, ⟨#[]⟩, none, .nil, 0, 2, he, trivial, Nat.le_refl _, hbe, by rw [hM, hm]; simp⟩
  ·exact ⟨true, 1, ⟨#[40]⟩, q5, stX x, c5, 0, he, hq5, hc5, hbe, by rw [hM, hm]; simp⟩
 obtain ⟨L, Kk, S, Qt, Ft, Ct, E, rfl, hft, hct, hbe, hcase⟩ := htr2
 obtain ⟨wf, hwf⟩ : ∃ wf, wf = we.alloc (.cells #[.bool L, .int .u8 Kk, .string S, .int .i64 0, .slice Qt Ft.len Ct] 35) := ⟨_, rfl⟩
 have HBef := Lib.hid (show Below we.heap.size we wf from by rw [hwf]; exact below1 _ _)
 have HBdf := Lib.hid (hbe.trans (HBef.out.mono hbe.size))
 have HBF := Lib.hid (HBD.out.trans (HBdf.out.mono HBD.out.size))
 have HXF := Lib.hid (And.intro (HXD.out.1.later HBdf.out) (And.intro (HXD.out.2.later HBdf.out) (HI.out.2.later HBdf.out)))
 have HAF := Lib.hid (And.intro (HAD.out.1.later HBdf.out) (And.intro (HAD.out.2.later HBdf.out) (HI.out.1.later HBdf.out)))
 have HTF := Lib.hid (show BoxT wf we.heap.size L Kk S 0 (.slice Qt Ft.len Ct) ∧ FoIn wf (fun b => wd.heap.size ≤ b) Ft Qt ∧ Ft.len ≤ Ct from ⟨by rw [hwf]; exact box_new _ _ _ _ _ _, hft.later HBef.out, hct⟩)
 have HCS := Lib.hid hcase
 have HWF := Lib.hid hwf
 clear hwf hft hct hbe hcase hM htr
 unfold trV
 go_wp2_with fail
 rw [← HWF.out]
 clear HWF
 have HL5 := Lib.hid (show ∀ w', Below wf.heap.size wf w' → (BoxS w' W.heap.size x.k (.slice p x.lits.length c) (.slice q x.links.length d) x.a x.b ∧ BoxS w' (W.heap.size + 1) y.k (.slice p2 y.lits.length c2) (.slice q2 y.links.length d2) y.a y.b ∧ BoxS w' wc.heap.size x.k (.slice p3 x.lits.length c3) (.slice q3 x.links.length d3) x.a x.b) ∧ StArg w' x p c q d ∧ StArg w' y p2 c2 q2 d2 ∧ StArg w' x p3 c3 q3 d3 from fun w' hb =>
  ⟨⟨HXF.out.1.later hb, HXF.out.2.1.later hb, HXF.out.2.2.later hb⟩, HAF.out.1.later hb, HAF.out.2.1.later hb, HAF.out.2.2.later hb⟩)
 have HK0 := Lib.hid (below_drew wf)
 obtain ⟨B, hB⟩ : ∃ B, B = decide (x = y) := ⟨_, rfl⟩
 have HBB2 := Lib.hid hB
 clear hB
 refine wp_region_L [(1000, (fun _ => True : World → Prop)), (1000, (fun w => BoxS w W.heap.size x.k (.slice p x.lits.length c) (.slice q x.links.length d) x.a x.b ∧ BoxS w (W.heap.size + 1) y.k (.slice p2 y.lits.length c2) (.slice q2 y.links.length d2) y.a y.b ∧ BoxS w wc.heap.size x.k (.slice p3 x.lits.length c3) (.slice q3 x.links.length d3) x.a x.b : World → Prop))] (by kernel_rfl) (SL.cons (fun _ => trivial) (SL.cons (fun _ => (HL5.out _ HK0.out).1) SL.nil)) (fun hHeld => ?_)
 generalize wf.drew = wk0 at *
 refine tk 1 0 ⟨some 25, .load 26 (.tmp 5), 26, "law.go:38", #[], none⟩ ?_ rfl rfl ?_ hHeld fun hHeld => ?_
 rotate_left
 ·intro w hSw; (try dsimp only at hSw); obtain ⟨⟨x0, x1, x2, x3, x4, xf⟩, ⟨y0, y1, y2, y3, y4, yf⟩, i0, i1, i2, i3, i4, if'⟩ := hSw; go_simp; try with_reducible rfl
 try simp only [Act.put, sI, s0, s1]
 refine tk 1 2 ⟨some 27, .load 26 (.tmp 2), 26, "law.go:38", #[], none⟩ ?_ rfl rfl ?_ hHeld fun hHeld => ?_
 rotate_left
 ·intro w hSw; (try dsimp only at hSw); obtain ⟨⟨x0, x1, x2, x3, x4, xf⟩, ⟨y0, y1, y2, y3, y4, yf⟩, i0, i1, i2, i3, i4, if'⟩ := hSw; go_simp; try with_reducible rfl
 try simp only [Act.put, sI, s0, s1]
 refine wpAnyL_ready (rs := [1]) (by kernel_rfl) (by simp) ?_
 refine AllReadyL.cons (o := ⟨some 26, .call ⟨.value (.func 11), #[.tmp 25], #[26]⟩, 4, "law.go:38", #[⟨0, .data⟩], none⟩) rfl (fun K hK => ?_) AllReadyL.nil
 go_simp
 go_at_call 11
 have hA := (HL5.out _ HK0.out).2
 refine ((show Calls Tryz.prog 11 #[stV x p3 c3 q3 d3] wk0 fun e w' => e = .returned (.bool M) ∧ Below (wk0).heap.size wk0 w' from HM.out ▸ may11 x p3 c3 q3 d3 wk0 hA.2.2.hk.1 hA.2.2.hk.2 hA.2.2.h1 hA.2.2.h2 hA.2.2.hkd hA.2.2.n1 hA.2.2.n2)).mono ?_
 rintro e wk1 ⟨rfl, hbk⟩
 have HK1 := Lib.hid (HK0.out.trans (hbk.mono HK0.out.size))
 clear hbk hA
 refine hK.out _ _ (SL.cons (fun _ => trivial) (SL.cons (fun _ => (HL5.out _ HK1.out).1) SL.nil)) (fun hHeld => ?_)
 clear hK K
 try simp only [Act.put, sI, s0, s1]
 refine wpAnyL_ready (rs := [3]) (by kernel_rfl) (by simp) ?_
 refine AllReadyL.cons (o := ⟨some 28, .call ⟨.value (.func 12), #[.tmp 27], #[26]⟩, 4, "law.go:38", #[⟨2, .data⟩, ⟨1, .chain⟩], none⟩) rfl (fun K hK => ?_) AllReadyL.nil
 go_simp
 go_at_call 12
 have hA := (HL5.out _ HK1.out).2
 refine (may12 x.k x.a x.b p c x.lits.length q d x.links.length x.lits x.links M wk1 rfl rfl hA.1.n1 hA.1.n2 hA.1.h1 hA.1.h2 hA.1.hkd HM.out).mono ?_
 rintro e wk2 ⟨rfl, hbk⟩
 have HK2 := Lib.hid (HK1.out.trans (hbk.mono HK1.out.size))
 clear hbk hA
 refine hK.out _ _ (SL.cons (fun _ => trivial) (SL.cons (fun _ => (HL5.out _ HK2.out).1) SL.nil)) (fun hHeld => ?_)
 clear hK K
 try simp only [Act.put, sI, s0, s1]
 refine tk 0 4 ⟨some 29, .binOp .neq 4 (.tmp 26) (.tmp 28) 4, 4, "law.go:38", #[⟨1, .data⟩, ⟨3, .data⟩], none⟩ ?_ rfl rfl ?_ hHeld fun hHeld => ?_
 rotate_left
 ·intro w hSw; (try dsimp only at hSw); go_simp; try with_reducible rfl
 try simp only [Act.put, sI, s0, s1]
 refine tk 0 5 ⟨some 30, .move (.tmp 29), 4, "law.go:38", #[⟨4, .data⟩, ⟨3, .chain⟩], none⟩ ?_ rfl rfl ?_ hHeld fun hHeld => ?_
 rotate_left
 ·intro w hSw; (try dsimp only at hSw); go_simp; try with_reducible rfl
 try simp only [Act.put, sI, s0, s1]
 refine tk 1 6 ⟨some 31, .load 26 (.tmp 5), 26, "law.go:38", #[⟨5, .guard⟩], some (5, false)⟩ ?_ rfl rfl ?_ hHeld fun hHeld => ?_
 rotate_left
 ·intro w hSw; (try dsimp only at hSw); obtain ⟨⟨x0, x1, x2, x3, x4, xf⟩, ⟨y0, y1, y2, y3, y4, yf⟩, i0, i1, i2, i3, i4, if'⟩ := hSw; go_simp; try with_reducible rfl
 try simp only [Act.put, sI, s0, s1]
 refine tk 1 7 ⟨some 32, .load 26 (.tmp 3), 26, "law.go:38", #[⟨5, .guard⟩], some (5, false)⟩ ?_ rfl rfl ?_ hHeld fun hHeld => ?_
 rotate_left
 ·intro w hSw; (try dsimp only at hSw); obtain ⟨⟨x0, x1, x2, x3, x4, xf⟩, ⟨y0, y1, y2, y3, y4, yf⟩, i0, i1, i2, i3, i4, if'⟩ := hSw; go_simp; try with_reducible rfl
 try simp only [Act.put, sI, s0, s1]
 refine tk 1 9 ⟨some 34, .load 26 (.tmp 2), 26, "law.go:38", #[⟨5, .guard⟩], some (5, false)⟩ ?_ rfl rfl ?_ hHeld fun hHeld => ?_
 rotate_left
 ·intro w hSw; (try dsimp only at hSw); obtain ⟨⟨x0, x1, x2, x3, x4, xf⟩, ⟨y0, y1, y2, y3, y4, yf⟩, i0, i1, i2, i3, i4, if'⟩ := hSw; go_simp; try with_reducible rfl
 try simp only [Act.put, sI, s0, s1]
 refine tk 1 10 ⟨some 35, .load 26 (.tmp 3), 26, "law.go:38", #[⟨5, .guard⟩], some (5, false)⟩ ?_ rfl rfl ?_ hHeld fun hHeld => ?_
 rotate_left
 ·intro w hSw; (try dsimp only at hSw); obtain ⟨⟨x0, x1, x2, x3, x4, xf⟩, ⟨y0, y1, y2, y3, y4, yf⟩, i0, i1, i2, i3, i4, if'⟩ := hSw; go_simp; try with_reducible rfl
 try simp only [Act.put, sI, s0, s1]
 refine wpAnyL_ready (rs := [8]) (by kernel_rfl) (by simp) ?_
 refine AllReadyL.cons (o := ⟨some 33, .call ⟨.value (.func 13), #[.tmp 31, .tmp 32], #[26, 26]⟩, 4, "law.go:38", #[⟨6, .data⟩, ⟨7, .data⟩, ⟨5, .chain⟩, ⟨5, .guard⟩], some (5, false)⟩) rfl (fun K hK => ?_) AllReadyL.nil
 go_simp
 go_at_call 13
 have hA := (HL5.out _ HK2.out).2
 refine ((show Calls Tryz.prog 13 #[stV x p3 c3 q3 d3, stV y p2 c2 q2 d2] wk2 fun e w' => e = .returned (.bool B) ∧ Below (wk2).heap.size wk2 w' from HBB2.out ▸ same13 x p3 c3 q3 d3 y p2 c2 q2 d2 wk2 hA.2.2.h1 hA.2.2.h2 hA.2.1.h1 hA.2.1.h2 hA.2.2.n1 hA.2.2.n2 hA.2.1.n1 hA.2.1.n2)).mono ?_
 rintro e wk3 ⟨rfl, hbk⟩
 have HK3 := Lib.hid (HK2.out.trans (hbk.mono HK2.out.size))
 clear hbk hA
 refine hK.out _ _ (SL.cons (fun _ => trivial) (SL.cons (fun _ => (HL5.out _ HK3.out).1) SL.nil)) (fun hHeld => ?_)
 clear hK K
 try simp only [Act.put, sI, s0, s1]
 refine wpAnyL_ready (rs := [11]) (by kernel_rfl) (by simp) ?_
 refine AllReadyL.cons (o := ⟨some 36, .call ⟨.value (.func 14), #[.tmp 34, .tmp 35], #[26, 26]⟩, 4, "law.go:38", #[⟨9, .data⟩, ⟨10, .data⟩, ⟨8, .chain⟩, ⟨5, .guard⟩], some (5, false)⟩) rfl (fun K hK => ?_) AllReadyL.nil
 go_simp
 go_at_call 14
 have hA := (HL5.out _ HK3.out).2
 refine ((show Calls Tryz.prog 14 #[stV x p c q d, stV y p2 c2 q2 d2] wk3 fun e w' => e = .returned (.bool B) ∧ Below (wk3).heap.size wk3 w' from HBB2.out ▸ same14 x p c q d y p2 c2 q2 d2 wk3 hA.1.h1 hA.1.h2 hA.2.1.h1 hA.2.1.h2 hA.1.n1 hA.1.n2 hA.2.1.n1 hA.2.1.n2)).mono ?_
 rintro e wk4 ⟨rfl, hbk⟩
 have HK4 := Lib.hid (HK3.out.trans (hbk.mono HK3.out.size))
 clear hbk hA
 refine hK.out _ _ (SL.cons (fun _ => trivial) (SL.cons (fun _ => (HL5.out _ HK4.out).1) SL.nil)) (fun hHeld => ?_)
 clear hK K
 try simp only [Act.put, sI, s0, s1]
 refine tk 0 12 ⟨some 37, .binOp .neq 4 (.tmp 33) (.tmp 36) 4, 4, "law.go:38", #[⟨8, .data⟩, ⟨11, .data⟩, ⟨5, .guard⟩], some (5, false)⟩ ?_ rfl rfl ?_ hHeld fun hHeld => ?_
 rotate_left
 ·intro w hSw; (try dsimp only at hSw); go_simp; try with_reducible rfl
 try simp only [Act.put, sI, s0, s1]
 refine tk 0 13 ⟨some 38, .pick (.tmp 30) (.const (.bool true)) (.tmp 37), 4, "law.go:38", #[⟨5, .data⟩, ⟨12, .data⟩], none⟩ ?_ rfl rfl ?_ hHeld fun hHeld => ?_
 rotate_left
 ·intro w hSw; (try dsimp only at hSw); go_simp; try with_reducible rfl
 try simp only [Act.put, sI, s0, s1]
 refine tk 0 14 ⟨some 39, .move (.tmp 38), 4, "law.go:38", #[⟨13, .data⟩, ⟨11, .chain⟩], none⟩ ?_ rfl rfl ?_ hHeld fun hHeld => ?_
 rotate_left
 ·intro w hSw; (try dsimp only at hSw); go_simp; try with_reducible rfl
 try simp only [Act.put, sI, s0, s1]
 refine tk 1 15 ⟨some 40, .load 26 (.tmp 5), 26, "law.go:38", #[⟨14, .guard⟩], some (14, false)⟩ ?_ rfl rfl ?_ hHeld fun hHeld => ?_
 rotate_left
 ·intro w hSw; (try dsimp only at hSw); obtain ⟨⟨x0, x1, x2, x3, x4, xf⟩, ⟨y0, y1, y2, y3, y4, yf⟩, i0, i1, i2, i3, i4, if'⟩ := hSw; go_simp; try with_reducible rfl
 try simp only [Act.put, sI, s0, s1]
 refine tk 1 16 ⟨some 41, .load 26 (.tmp 2), 26, "law.go:38", #[⟨14, .guard⟩], some (14, false)⟩ ?_ rfl rfl ?_ hHeld fun hHeld => ?_
 rotate_left
 ·intro w hSw; (try dsimp only at hSw); obtain ⟨⟨x0, x1, x2, x3, x4, xf⟩, ⟨y0, y1, y2, y3, y4, yf⟩, i0, i1, i2, i3, i4, if'⟩ := hSw; go_simp; try with_reducible rfl
 try simp only [Act.put, sI, s0, s1]
 refine wpAnyL_ready (rs := [17]) (by kernel_rfl) (by simp) ?_
 refine AllReadyL.cons (o := ⟨some 42, .call ⟨.value (.func 13), #[.tmp 40, .tmp 41], #[26, 26]⟩, 4, "law.go:38", #[⟨15, .data⟩, ⟨16, .data⟩, ⟨14, .chain⟩, ⟨14, .guard⟩], some (14, false)⟩) rfl (fun K hK => ?_) AllReadyL.nil
 go_simp
 go_at_call 13
 have hA := (HL5.out _ HK4.out).2
 refine ((show Calls Tryz.prog 13 #[stV x p3 c3 q3 d3, stV x p c q d] wk4 fun e w' => e = .returned (.bool true) ∧ Below (wk4).heap.size wk4 w' from (decide_eq_true (rfl : x = x)) ▸ same13 x p3 c3 q3 d3 x p c q d wk4 hA.2.2.h1 hA.2.2.h2 hA.1.h1 hA.1.h2 hA.2.2.n1 hA.2.2.n2 hA.1.n1 hA.1.n2)).mono ?_
 rintro e wk5 ⟨rfl, hbk⟩
 have HK5 := Lib.hid (HK4.out.trans (hbk.mono HK4.out.size))
 clear hbk hA
 refine hK.out _ _ (SL.cons (fun _ => trivial) (SL.cons (fun _ => (HL5.out _ HK5.out).1) SL.nil)) (fun hHeld => ?_)
 clear hK K
 try simp only [Act.put, sI, s0, s1]
 refine tk 0 18 ⟨some 43, .unOp .not 4 (.tmp 42), 4, "law.go:38", #[⟨17, .data⟩, ⟨14, .guard⟩], some (14, false)⟩ ?_ rfl rfl ?_ hHeld fun hHeld => ?_
 rotate_left
 ·intro w hSw; (try dsimp only at hSw); go_simp; try with_reducible rfl
 try simp only [Act.put, sI, s0, s1]
 refine tk 0 19 ⟨some 44, .pick (.tmp 39) (.const (.bool true)) (.tmp 43), 4, "law.go:38", #[⟨14, .data⟩, ⟨18, .data⟩], none⟩ ?_ rfl rfl ?_ hHeld fun hHeld => ?_
 rotate_left
 ·intro w hSw; (try dsimp only at hSw); go_simp; try with_reducible rfl
 try simp only [Act.put, sI, s0, s1]
 refine tk 0 20 ⟨some 45, .move (.tmp 44), 4, "law.go:38", #[⟨19, .data⟩, ⟨17, .chain⟩], none⟩ ?_ rfl rfl ?_ hHeld fun hHeld => ?_
 rotate_left
 ·intro w hSw; (try dsimp only at hSw); go_simp; try with_reducible rfl
 try simp only [Act.put, sI, s0, s1]
 refine tk 1 21 ⟨some 46, .load 26 (.tmp 5), 26, "law.go:38", #[⟨20, .guard⟩], some (20, false)⟩ ?_ rfl rfl ?_ hHeld fun hHeld => ?_
 rotate_left
 ·intro w hSw; (try dsimp only at hSw); obtain ⟨⟨x0, x1, x2, x3, x4, xf⟩, ⟨y0, y1, y2, y3, y4, yf⟩, i0, i1, i2, i3, i4, if'⟩ := hSw; go_simp; try with_reducible rfl
 try simp only [Act.put, sI, s0, s1]
 refine tk 1 22 ⟨some 47, .load 26 (.tmp 2), 26, "law.go:38", #[⟨20, .guard⟩], some (20, false)⟩ ?_ rfl rfl ?_ hHeld fun hHeld => ?_
 rotate_left
 ·intro w hSw; (try dsimp only at hSw); obtain ⟨⟨x0, x1, x2, x3, x4, xf⟩, ⟨y0, y1, y2, y3, y4, yf⟩, i0, i1, i2, i3, i4, if'⟩ := hSw; go_simp; try with_reducible rfl
 try simp only [Act.put, sI, s0, s1]
 refine wpAnyL_ready (rs := [23]) (by kernel_rfl) (by simp) ?_
 refine AllReadyL.cons (o := ⟨some 48, .call ⟨.value (.func 14), #[.tmp 46, .tmp 47], #[26, 26]⟩, 4, "law.go:38", #[⟨21, .data⟩, ⟨22, .data⟩, ⟨20, .chain⟩, ⟨20, .guard⟩], some (20, false)⟩) rfl (fun K hK => ?_) AllReadyL.nil
 go_simp
 go_at_call 14
 have hA := (HL5.out _ HK5.out).2
 refine ((show Calls Tryz.prog 14 #[stV x p3 c3 q3 d3, stV x p c q d] wk5 fun e w' => e = .returned (.bool true) ∧ Below (wk5).heap.size wk5 w' from (decide_eq_true (rfl : x = x)) ▸ same14 x p3 c3 q3 d3 x p c q d wk5 hA.2.2.h1 hA.2.2.h2 hA.1.h1 hA.1.h2 hA.2.2.n1 hA.2.2.n2 hA.1.n1 hA.1.n2)).mono ?_
 rintro e wk6 ⟨rfl, hbk⟩
 have HK6 := Lib.hid (HK5.out.trans (hbk.mono HK5.out.size))
 clear hbk hA
 refine hK.out _ _ (SL.cons (fun _ => trivial) (SL.cons (fun _ => (HL5.out _ HK6.out).1) SL.nil)) (fun hHeld => ?_)
 clear hK K
 try simp only [Act.put, sI, s0, s1]
 refine tk 0 24 ⟨some 49, .unOp .not 4 (.tmp 48), 4, "law.go:38", #[⟨23, .data⟩, ⟨20, .guard⟩], some (20, false)⟩ ?_ rfl rfl ?_ hHeld fun hHeld => ?_
 rotate_left
 ·intro w hSw; (try dsimp only at hSw); go_simp; try with_reducible rfl
 try simp only [Act.put, sI, s0, s1]
 refine tk 0 25 ⟨some 50, .pick (.tmp 45) (.const (.bool true)) (.tmp 49), 4, "law.go:38", #[⟨20, .data⟩, ⟨24, .data⟩], none⟩ ?_ rfl rfl ?_ hHeld fun hHeld => ?_
 rotate_left
 ·intro w hSw; (try dsimp only at hSw); go_simp; try with_reducible rfl
 try simp only [Act.put, sI, s0, s1]
 refine wpAnyL_done (by kernel_rfl) ?_ _
 clear hHeld
 have hA := (HL5.out _ HK6.out).2
 obtain ⟨⟨x0, x1, x2, x3, x4, xf⟩, ⟨y0, y1, y2, y3, y4, yf⟩, i0, i1, i2, i3, i4, if'⟩ := (HL5.out _ HK6.out).1
 have HC7 := Lib.hid (may12 x.k x.a x.b p c x.lits.length q d x.links.length x.lits x.links M wk6 rfl rfl hA.1.n1 hA.1.n2 hA.1.h1 hA.1.h2 hA.1.hkd HM.out)
 clear hA
 go_wp2_with fail
 refine HC7.out.mono ?_
 rintro e wl ⟨rfl, hbl⟩
 have HKL := Lib.hid (HK6.out.trans (hbl.mono HK6.out.size))
 clear hbl HC7 x0 x1 x2 x3 x4 xf y0 y1 y2 y3 y4 yf i0 i1 i2 i3 i4 if'
 cases M with
 | false =>
  have hcs := HCS.out
  simp only [Bool.false_eq_true, if_false] at hcs
  obtain ⟨rfl, rfl, rfl, rfl, rfl⟩ := hcs
  have HTL := Lib.hid (HTF.out.1.later HKL.out)
  obtain ⟨t0, t1, t2, t3, t4, tf⟩ := HTL.out
  have HC15 := Lib.hid (show Calls Tryz.prog 15 #[trV false 0 ⟨#[]⟩ 0 Qt (Fo.nil).len Ct, trV false 0 ⟨#[]⟩ 0 none 0 0] wl fun e w' => e = .returned (.bool true) ∧ Below wl.heap.size wl w' from
   (same23_any 0 .nil .nil (Nat.le_refl _) false false 0 0 ⟨#[]⟩ ⟨#[]⟩ 0 0 Qt none Ct 0 wl (fun _ => True) (fun _ => True) trivial trivial (Nat.zero_le _) (Nat.le_refl _) (by decide) (by decide)))
  have HKK := Lib.hid (fun w (h : Below wl.heap.size wl w) => HK.out w (HBF.out.trans ((HKL.out.trans (h.mono HKL.out.size)).mono HBF.out.size)))
  unfold trV at HC15
  go_wp2_with fail
  refine HC15.out.mono ?_
  rintro e wm ⟨rfl, hbm⟩
  have HBM := Lib.hid hbm
  have HK8 := Lib.hid (HKK.out wm hbm)
  clear hbm HC15 HKK
  go_wp2_with fail
  refine HK8.out.mono ?_
  rintro e wz ⟨rfl, hbz⟩
  have HBZ := Lib.hid (HBF.out.trans ((HKL.out.trans ((HBM.out.trans (hbz.mono HBM.out.size)).mono HKL.out.size)).mono HBF.out.size))
  clear hbz
  go_wp2_with fail
  exact bodyPost_ret (v := .bool true) (by simp [results, Tryz.results3, go_sem]) rfl ⟨rfl, HBZ.out⟩
 | true =>
  have hcs := HCS.out
  simp only [if_true] at hcs
  obtain ⟨rfl, rfl, rfl, hft, rfl⟩ := hcs
  subst hft
  have HMX := Lib.hid (show maySt x = true from HM.out.symm)
  have HTL := Lib.hid (And.intro (HTF.out.1.later HKL.out) (And.intro (HTF.out.2.1.later HKL.out) HTF.out.2.2))
  have HOK := Lib.hid (stX_ok x HMX.out)
  have HBL := Lib.hid (HBF.out.trans (HKL.out.mono HBF.out.size))
  have HC16 := Lib.hid (read16 true 1 ⟨#[40]⟩ 0 (stX x) Qt Ct _ wl HTL.out.2.1 HTL.out.2.2 HOK.out.2.2 HOK.out.1 HOK.out.2.1 (tabIs_below HT.out HBL.out))
  rw [readT_stX x HMX.out] at HC16
  obtain ⟨t0, t1, t2, t3, t4, tf⟩ := HTL.out.1
  unfold trV at HC16
  go_wp2_with fail
  refine HC16.out.mono ?_
  rintro e wm ⟨⟨p4, c4, q4, d4, rfl, hoi, hok⟩, hbm⟩
  obtain ⟨wn, hwn⟩ : ∃ wn, wn = wm.alloc (.cells #[.int .u8 x.k, .slice p4 x.lits.length c4, .slice q4 x.links.length d4, .int .i64 x.a, .int .i64 x.b] 26) := ⟨_, rfl⟩
  have HBmn := Lib.hid (show Below wm.heap.size wm wn from by rw [hwn]; exact below1 _ _)
  have HBln := Lib.hid (hbm.trans (HBmn.out.mono hbm.size))
  have HKN := Lib.hid (HKL.out.trans (HBln.out.mono HKL.out.size))
  have HZ := Lib.hid (show BoxS wn wm.heap.size x.k (.slice p4 x.lits.length c4) (.slice q4 x.links.length d4) x.a x.b from by rw [hwn]; exact boxS_new _ _ _ _ _ _)
  have HZO := Lib.hid (And.intro (hoi.later HBmn.out) (hok.later HBmn.out))
  have HZG := Lib.hid (show ∀ k, (Value.slice p4 x.lits.length c4).ownBlock = some k → wl.heap.size ≤ k ∧ k < wm.heap.size from hoi.blk)
  have HTN := Lib.hid (And.intro (HTL.out.1.later HBln.out) (HTL.out.2.1.later HBln.out))
  have HWN := Lib.hid hwn
  have HSN := Lib.hid (show wl.heap.size ≤ wm.heap.size ∧ wn.heap.size = wm.heap.size + 1 ∧ wf.heap.size ≤ wl.heap.size from ⟨hbm.size, by rw [hwn]; simp, HKL.out.size⟩)
  clear hwn hoi hok hbm HC16 t0 t1 t2 t3 t4 tf
  unfold stV
  go_wp2_with fail
  rw [← HWN.out]
  clear HWN
  have ints : ∀ {w : World} {F : Nat → Prop} {p : Option Addr} {c : Nat}, OwnI 44 w F (.slice p x.lits.length c) x.lits → IntsIn w p x.lits := by
   intro w F p c h
   obtain ⟨_, _, e, _, _, _, _, h, _⟩ := h.intsIn
   injection e with e _ _
   subst e; exact h
  have lks : ∀ {w : World} {F : Nat → Prop} {p : Option Addr} {c : Nat}, OwnK w F (.slice p x.links.length c) x.links → LksIn w p x.links := by
   intro w F p c h
   obtain ⟨_, _, e, _, _, h, _⟩ := h.lks
   injection e with e _ _
   subst e; exact h
  have HLN := Lib.hid (show ∀ w', Below wn.heap.size wn w' → (BoxS w' W.heap.size x.k (.slice p x.lits.length c) (.slice q x.links.length d) x.a x.b ∧ BoxT w' we.heap.size true 1 ⟨#[40]⟩ 0 (.slice Qt (stX x).len Ct) ∧ BoxS w' wm.heap.size x.k (.slice p4 x.lits.length c4) (.slice q4 x.links.length d4) x.a x.b) ∧ StArg w' x p c q d ∧ FoIn w' (fun b => wd.heap.size ≤ b) (stX x) Qt ∧ IntsIn w' p4 x.lits ∧ LksIn w' q4 x.links from fun w' hb =>
   have hb2 := HKN.out.trans (hb.mono HKN.out.size)
   ⟨⟨(HL5.out _ hb2).1.1, HTN.out.1.later hb, HZ.out.later hb⟩, (HL5.out _ hb2).2.1, HTN.out.2.later hb, ints (HZO.out.1.later hb), lks (HZO.out.2.later hb)⟩)
  have HJ0 := Lib.hid (below_drew wn)
  clear ints lks
  refine wp_region_L [(1000, (fun _ => True : World → Prop)), (1000, (fun w => BoxS w W.heap.size x.k (.slice p x.lits.length c) (.slice q x.links.length d) x.a x.b ∧ BoxT w we.heap.size true 1 ⟨#[40]⟩ 0 (.slice Qt (stX x).len Ct) ∧ BoxS w wm.heap.size x.k (.slice p4 x.lits.length c4) (.slice q4 x.links.length d4) x.a x.b : World → Prop))] (by kernel_rfl) (SL.cons (fun _ => trivial) (SL.cons (fun _ => (HLN.out _ HJ0.out).1) SL.nil)) (fun hHeld => ?_)
  generalize wn.drew = wj0 at *
  refine tk 0 0 ⟨some 69, .move (.tmp 7), 36, "law.go:45", #[], none⟩ ?_ rfl rfl ?_ hHeld fun hHeld => ?_
  rotate_left
  ·intro w hSw; (try dsimp only at hSw); go_simp; try with_reducible rfl
  try simp only [Act.put, sI, s0, s1]
  refine tk 0 1 ⟨some 70, .binOp .neq 36 (.tmp 69) (.const (.int .i64 0)) 36, 4, "law.go:45", #[⟨0, .data⟩], none⟩ ?_ rfl rfl ?_ hHeld fun hHeld => ?_
  rotate_left
  ·intro w hSw; (try dsimp only at hSw); go_simp; try with_reducible rfl
  try simp only [Act.put, sI, s0, s1]
  refine tk 0 2 ⟨some 71, .move (.tmp 70), 4, "law.go:45", #[⟨1, .data⟩], none⟩ ?_ rfl rfl ?_ hHeld fun hHeld => ?_
  rotate_left
  ·intro w hSw; (try dsimp only at hSw); go_simp; try with_reducible rfl
  try simp only [Act.put, sI, s0, s1]
  refine tk 0 3 ⟨some 72, .move (.tmp 9), 36, "law.go:45", #[⟨2, .guard⟩], some (2, false)⟩ ?_ rfl rfl ?_ hHeld fun hHeld => ?_
  rotate_left
  ·intro w hSw; (try dsimp only at hSw); go_simp; try with_reducible rfl
  try simp only [Act.put, sI, s0, s1]
  refine tk 0 4 ⟨some 73, .binOp .neq 36 (.tmp 72) (.const (.int .i64 0)) 36, 4, "law.go:45", #[⟨3, .data⟩, ⟨2, .guard⟩], some (2, false)⟩ ?_ rfl rfl ?_ hHeld fun hHeld => ?_
  rotate_left
  ·intro w hSw; (try dsimp only at hSw); go_simp; try with_reducible rfl
  try simp only [Act.put, sI, s0, s1]
  refine tk 0 5 ⟨some 74, .pick (.tmp 71) (.const (.bool true)) (.tmp 73), 4, "law.go:45", #[⟨2, .data⟩, ⟨4, .data⟩], none⟩ ?_ rfl rfl ?_ hHeld fun hHeld => ?_
  rotate_left
  ·intro w hSw; (try dsimp only at hSw); go_simp; try with_reducible rfl
  try simp only [Act.put, sI, s0, s1]
  refine tk 0 6 ⟨some 75, .move (.tmp 74), 4, "law.go:45", #[⟨5, .data⟩, ⟨2, .chain⟩], none⟩ ?_ rfl rfl ?_ hHeld fun hHeld => ?_
  rotate_left
  ·intro w hSw; (try dsimp only at hSw); go_simp; try with_reducible rfl
  try simp only [Act.put, sI, s0, s1]
  refine tk 1 7 ⟨some 76, .load 35 (.tmp 6), 35, "law.go:45", #[⟨6, .guard⟩], some (6, false)⟩ ?_ rfl rfl ?_ hHeld fun hHeld => ?_
  rotate_left
  ·intro w hSw; (try dsimp only at hSw); obtain ⟨⟨x0, x1, x2, x3, x4, xf⟩, ⟨t0, t1, t2, t3, t4, tf⟩, i0, i1, i2, i3, i4, if'⟩ := hSw; go_simp; try with_reducible rfl
  try simp only [Act.put, sI, s0, s1]
  refine tk 1 8 ⟨some 77, .load 26 (.tmp 2), 26, "law.go:45", #[⟨6, .guard⟩], some (6, false)⟩ ?_ rfl rfl ?_ hHeld fun hHeld => ?_
  rotate_left
  ·intro w hSw; (try dsimp only at hSw); obtain ⟨⟨x0, x1, x2, x3, x4, xf⟩, ⟨t0, t1, t2, t3, t4, tf⟩, i0, i1, i2, i3, i4, if'⟩ := hSw; go_simp; try with_reducible rfl
  try simp only [Act.put, sI, s0, s1]
  refine wpAnyL_ready (rs := [9]) (by kernel_rfl) (by simp) ?_
  refine AllReadyL.cons (o := ⟨some 78, .call ⟨.value (.func 17), #[.tmp 77], #[26]⟩, 35, "law.go:45", #[⟨8, .data⟩, ⟨6, .chain⟩, ⟨6, .guard⟩], some (6, false)⟩) rfl (fun K hK => ?_) AllReadyL.nil
  go_simp
  go_at_call 17
  have hA := (HLN.out _ HJ0.out).2
  refine (tree17 x p c q d wj0 hA.1.h1 hA.1.h2 hA.1.h3 HMX.out).mono ?_
  rintro e wj1 ⟨q6, c6, rfl, hc6, hl6, hq6, hb6⟩
  have HJ1 := Lib.hid (HJ0.out.trans (hb6.mono HJ0.out.size))
  have hA1 := (HLN.out _ HJ1.out).2
  have HC15 := Lib.hid (same23_any (stX x).size (stX x) (stX x) (Nat.le_refl _) true true 1 1 ⟨#[40]⟩ ⟨#[40]⟩ 0 0 Qt q6 Ct c6 wj1 _ _ hA1.2.1 hq6 HTL.out.2.2 hc6 hl6 hl6)
  rw [sameT_refl] at HC15
  unfold trV at HC15 ⊢
  clear hb6 hA hA1 hc6 hl6 hq6
  refine hK.out _ _ (SL.cons (fun _ => trivial) (SL.cons (fun _ => (HLN.out _ HJ1.out).1) SL.nil)) (fun hHeld => ?_)
  clear hK K
  try simp only [Act.put, sI, s0, s1]
  refine wpAnyL_ready (rs := [10]) (by kernel_rfl) (by simp) ?_
  refine AllReadyL.cons (o := ⟨some 79, .call ⟨.value (.func 15), #[.tmp 76, .tmp 78], #[35, 35]⟩, 4, "law.go:45", #[⟨7, .data⟩, ⟨9, .data⟩, ⟨9, .chain⟩, ⟨6, .guard⟩], some (6, false)⟩) rfl (fun K hK => ?_) AllReadyL.nil
  go_simp
  go_at_call 15
  refine HC15.out.mono ?_
  rintro e wj2 ⟨rfl, hb7⟩
  have HJ2 := Lib.hid (HJ1.out.trans (hb7.mono HJ1.out.size))
  clear hb7 HC15
  refine hK.out _ _ (SL.cons (fun _ => trivial) (SL.cons (fun _ => (HLN.out _ HJ2.out).1) SL.nil)) (fun hHeld => ?_)
  clear hK K
  try simp only [Act.put, sI, s0, s1]
  refine tk 0 11 ⟨some 80, .unOp .not 4 (.tmp 79), 4, "law.go:45", #[⟨10, .data⟩, ⟨6, .guard⟩], some (6, false)⟩ ?_ rfl rfl ?_ hHeld fun hHeld => ?_
  rotate_left
  ·intro w hSw; (try dsimp only at hSw); go_simp; try with_reducible rfl
  try simp only [Act.put, sI, s0, s1]
  refine tk 0 12 ⟨some 81, .pick (.tmp 75) (.const (.bool true)) (.tmp 80), 4, "law.go:45", #[⟨6, .data⟩, ⟨11, .data⟩], none⟩ ?_ rfl rfl ?_ hHeld fun hHeld => ?_
  rotate_left
  ·intro w hSw; (try dsimp only at hSw); go_simp; try with_reducible rfl
  try simp only [Act.put, sI, s0, s1]
  refine tk 0 13 ⟨some 82, .move (.tmp 81), 4, "law.go:45", #[⟨12, .data⟩, ⟨10, .chain⟩], none⟩ ?_ rfl rfl ?_ hHeld fun hHeld => ?_
  rotate_left
  ·intro w hSw; (try dsimp only at hSw); go_simp; try with_reducible rfl
  try simp only [Act.put, sI, s0, s1]
  refine tk 1 14 ⟨some 83, .load 26 (.tmp 2), 26, "law.go:45", #[⟨13, .guard⟩], some (13, false)⟩ ?_ rfl rfl ?_ hHeld fun hHeld => ?_
  rotate_left
  ·intro w hSw; (try dsimp only at hSw); obtain ⟨⟨x0, x1, x2, x3, x4, xf⟩, ⟨t0, t1, t2, t3, t4, tf⟩, i0, i1, i2, i3, i4, if'⟩ := hSw; go_simp; try with_reducible rfl
  try simp only [Act.put, sI, s0, s1]
  refine tk 1 15 ⟨some 84, .load 26 (.tmp 8), 26, "law.go:45", #[⟨13, .guard⟩], some (13, false)⟩ ?_ rfl rfl ?_ hHeld fun hHeld => ?_
  rotate_left
  ·intro w hSw; (try dsimp only at hSw); obtain ⟨⟨x0, x1, x2, x3, x4, xf⟩, ⟨t0, t1, t2, t3, t4, tf⟩, i0, i1, i2, i3, i4, if'⟩ := hSw; go_simp; try with_reducible rfl
  try simp only [Act.put, sI, s0, s1]
  refine wpAnyL_ready (rs := [16]) (by kernel_rfl) (by simp) ?_
  refine AllReadyL.cons (o := ⟨some 85, .call ⟨.value (.func 14), #[.tmp 83, .tmp 84], #[26, 26]⟩, 4, "law.go:45", #[⟨14, .data⟩, ⟨15, .data⟩, ⟨13, .chain⟩, ⟨13, .guard⟩], some (13, false)⟩) rfl (fun K hK => ?_) AllReadyL.nil
  go_simp
  go_at_call 14
  have hA := (HLN.out _ HJ2.out).2
  refine (show Calls Tryz.prog 14 #[stV x p c q d, stV x p4 c4 q4 d4] wj2 fun e w' => e = .returned (.bool true) ∧ Below wj2.heap.size wj2 w' from (decide_eq_true (rfl : x = x)) ▸ same14 x p c q d x p4 c4 q4 d4 wj2 hA.1.h1 hA.1.h2 hA.2.2.1 hA.2.2.2 hA.1.n1 hA.1.n2 hA.1.n1 hA.1.n2).mono ?_
  rintro e wj3 ⟨rfl, hb8⟩
  have HJ3 := Lib.hid (HJ2.out.trans (hb8.mono HJ2.out.size))
  clear hb8 hA
  refine hK.out _ _ (SL.cons (fun _ => trivial) (SL.cons (fun _ => (HLN.out _ HJ3.out).1) SL.nil)) (fun hHeld => ?_)
  clear hK K
  try simp only [Act.put, sI, s0, s1]
  refine tk 0 17 ⟨some 86, .unOp .not 4 (.tmp 85), 4, "law.go:45", #[⟨16, .data⟩, ⟨13, .guard⟩], some (13, false)⟩ ?_ rfl rfl ?_ hHeld fun hHeld => ?_
  rotate_left
  ·intro w hSw; (try dsimp only at hSw); go_simp; try with_reducible rfl
  try simp only [Act.put, sI, s0, s1]
  refine tk 0 18 ⟨some 87, .pick (.tmp 82) (.const (.bool true)) (.tmp 86), 4, "law.go:45", #[⟨13, .data⟩, ⟨17, .data⟩], none⟩ ?_ rfl rfl ?_ hHeld fun hHeld => ?_
  rotate_left
  ·intro w hSw; (try dsimp only at hSw); go_simp; try with_reducible rfl
  try simp only [Act.put, sI, s0, s1]
  refine wpAnyL_done (by kernel_rfl) ?_ _
  clear hHeld
  obtain ⟨n, hn⟩ : ∃ n, n = x.lits.length := ⟨_, rfl⟩
  have HN := Lib.hid hn
  have HROW := Lib.hid (show ∀ i, i < n → ∃ g, p4 = some ⟨g, 0, none⟩ ∧ wf.heap.size ≤ g ∧ g ≠ wm.heap.size ∧ ∃ v, wj3.cell? ⟨g, i, none⟩ = some v ∧ wj3.frozen? ⟨g, i, none⟩ = false from fun i hi => by
   have ho := HZO.out.1.later HJ3.out
   obtain ⟨qq, cc, e, _, _, _, hqa, hin, hfr⟩ := ho.intsIn
   injection e with e _ _
   subst e
   obtain ⟨b, off, e1, e2⟩ := hin i (by rw [← hn]; exact hi)
   have e3 := (hqa _ e1).1
   simp only [Addr.mk.injEq, true_and, and_true] at e3
   subst e3
   subst e1
   have hk := HZG.out b rfl
   refine ⟨b, rfl, Nat.le_trans HSN.out.2.2 hk.1, by omega, _, by simpa using e2, ?_⟩
   exact hfr _ rfl i (by rw [← hn]; exact hi))
  have nn : (n : Int) ≤ 1000000 := by have := HSMX.out.1; omega
  obtain ⟨i0, i1, i2, i3, i4, if'⟩ := (HLN.out _ HJ3.out).1.2.2
  rw [← hn] at i1
  have HW0 := Lib.hid (show Only (fun k => wf.heap.size ≤ k) wf wj3 ∧ wm.heap.size < wj3.heap.size from ⟨Only.of_below (HKN.out.trans (HJ3.out.mono HKN.out.size)), by have := HJ3.out.size; have := HSN.out.2.1; omega⟩)
  have HI1 := Lib.hid i1
  clear hn i0 i1 i2 i3 i4 if'
  go_wp2_with fail
  go_loopg [10] n (fun gk s10 wx => ∃ (m : Nat), m + gk = n ∧ s10 = .int .i64 (m : Int) ∧ Hid (wx.cell? ⟨wm.heap.size, 1, none⟩ = some (.slice p4 n c4) ∧ Only (fun k => wf.heap.size ≤ k) wf wx ∧ ∀ i, i < n → ∃ g, p4 = some ⟨g, 0, none⟩ ∧ wf.heap.size ≤ g ∧ g ≠ wm.heap.size ∧ ∃ v, wx.cell? ⟨g, i, none⟩ = some v ∧ wx.frozen? ⟨g, i, none⟩ = false))
  case atStart => exact ⟨0, by omega, rfl, Lib.hid ⟨HI1.out, HW0.out.1, HROW.out⟩⟩
  case round =>
   obtain ⟨m, hk, rfl, HR0⟩ := hrel
   have k0 : (0 : Int) ≤ (m : Int) := Int.natCast_nonneg m
   obtain ⟨hcell, hon, hrow⟩ := HR0.out
   by_cases hmn : m < n
   case neg =>
    have hlt : ¬ (m : Int) < (n : Int) := by omega
    have hb : Below wf.heap.size wf wr := hon.below (fun k e => by omega) (Nat.le_refl _)
    have HB := Lib.hid hb
    have hA := (HL5.out _ hb)
    obtain ⟨⟨x0, x1, x2, x3, x4, xf⟩, _, i0, i1, i2, i3, i4, if'⟩ := hA.1
    have HC := Lib.hid (show Calls Tryz.prog 14 #[stV x p3 c3 q3 d3, stV x p c q d] wr fun e w' => e = .returned (.bool true) ∧ Below wr.heap.size wr w' from (decide_eq_true (rfl : x = x)) ▸ same14 x p3 c3 q3 d3 x p c q d wr hA.2.2.2.h1 hA.2.2.2.h2 hA.2.1.h1 hA.2.1.h2 hA.2.2.2.n1 hA.2.2.2.n2 hA.2.1.n1 hA.2.1.n2)
    unfold stV at HC
    clear hA hb hmn hk hon hrow HR0
    go_wp2_with fail
    refine HC.out.mono ?_
    rintro e wy ⟨rfl, hby⟩
    have HBY := Lib.hid (HBF.out.trans ((HB.out.trans (hby.mono HB.out.size)).mono HBF.out.size))
    have HK8 := Lib.hid (HK.out wy HBY.out)
    clear hby HC
    go_wp2_with fail
    refine HK8.out.mono ?_
    rintro e wz ⟨rfl, hbz⟩
    have HBZ := Lib.hid (HBY.out.trans (hbz.mono HBY.out.size))
    clear hbz
    go_wp2_with fail
    exact bodyPost_ret (v := .bool true) (by simp [results, Tryz.results3, go_sem]) rfl ⟨rfl, HBZ.out⟩
   have k1 : (m : Int) < (n : Int) := Int.ofNat_lt.2 hmn
   have HS := Lib.hid (step_ok hmn (show n ≤ 9223372036854775807 from by omega))
   obtain ⟨g, rfl, hg1, hg2, v, hv, hvf⟩ := hrow m hmn
   have HK2 := Lib.hid (And.intro hk (And.intro hcell (And.intro hon (And.intro hrow (And.intro hg1 hg2)))))
   obtain ⟨w9, hw9⟩ : ∃ w9, w9 = wr.setCell ⟨g, m, none⟩ (.int .i64 99) := ⟨_, rfl⟩
   have HF := Lib.hid (show w9.cell? ⟨wm.heap.size, 1, none⟩ = some (.slice (some ⟨g, 0, none⟩) n c4) ∧ Only (fun k => wf.heap.size ≤ k) wf w9 ∧ ∀ i, i < n → ∃ g', some (⟨g, 0, none⟩ : Addr) = some ⟨g', 0, none⟩ ∧ wf.heap.size ≤ g' ∧ g' ≠ wm.heap.size ∧ ∃ v, w9.cell? ⟨g', i, none⟩ = some v ∧ w9.frozen? ⟨g', i, none⟩ = false from by
    refine ⟨?_, ?_, fun i hi => ?_⟩
    ·rw [hw9, World.cell?_setCell_other _ _ _ _ (by intro e; injection e with e _ _; exact hg2 e)]; exact hcell
    ·rw [hw9]; exact hon.trans ((Only.of_setCell wr ⟨g, m, none⟩ _).mono (fun k _ e => by simp only at e; omega))
    ·obtain ⟨g', e, h1, h2, v', h3, h4⟩ := hrow i hi
     injection e with e
     injection e with e _ _
     subst e
     refine ⟨g, rfl, h1, h2, ?_⟩
     by_cases him : i = m
     ·subst him
      exact ⟨.int .i64 99, by rw [hw9]; simp [go_sem, h3], by rw [hw9]; simp [go_sem, h4]⟩
     ·exact ⟨v', by rw [hw9, World.cell?_setCell_other _ _ _ _ (by intro e; injection e with _ e _; exact him e.symm)]; exact h3, by rw [hw9]; simp [go_sem, h4]⟩)
   have HW9 := Lib.hid hw9
   obtain ⟨G, rfl⟩ : ∃ G, gk = G + 1 := ⟨gk - 1, by omega⟩
   clear hk hon hrow hg1 hg2 hw9 HR0 hmn
   go_wp2_with fail
   rw [← HW9.out]
   go_roundg G
   case measure => omega
   case rel => exact ⟨m + 1, by have := HK2.out.1; omega, by first | rfl | rw [HS.out.2.2], HF⟩
end Go.Proofs.YtookoagcmejkpaaGreatDoor
