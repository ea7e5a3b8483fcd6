/- Stage 6: the document's calls. -/
import Derived.Test.YtkjmmdffelhkiaaT22
namespace Go.Proofs.Ytkjmmdffelhkiaa
open Go Go.RowKit Go.Maps

variable {W W' : World} {K : Nat → Nat} {base r : Nat} {N : List Nd} {e : Ending} {w' : World}
theorem RunR.no {er : Int} (h : RefS W K base r N) (he : e = .returned (.tuple #[.int .i64 0, .int .i64 er])) (hb : Below W.heap.size W w') : RunR N (.no er) base r K W e w' :=
  ⟨K, N, 0, er, he, h.later hb, StepR.below hb, rfl, rfl, rfl⟩
theorem RunR.is {t : Int} (h : RefS W K base r N) (he : e = .returned (.tuple #[.int .i64 t, .int .i64 0])) (hb : Below W.heap.size W w') : RunR N (.is t) base r K W e w' :=
  ⟨K, N, t, 0, he, h.later hb, StepR.below hb, rfl, rfl, rfl⟩
theorem RunR.from {q : Req} {w1 : World} (h : RunR N q base r K w1 e w') (hb : Below W.heap.size W w1) : RunR N q base r K W e w' := by
  obtain ⟨K', T', t, er, he, hst, hs, hc⟩ := h
  exact ⟨K', T', t, er, he, hst, (StepR.below hb).trans hs, hc⟩
theorem RunR.mk {x : Nd} {P : Option Addr} {C : Nat} (h : RunR N (.mk { x with P := P, C := C }) base r K W e w') : RunR N (.mk x) base r K W e w' := by
  obtain ⟨K', N', t, er, he, hst, hs, hc⟩ := h
  refine ⟨K', N', t, er, he, hst, hs, ?_⟩
  rcases hc with ⟨rfl, rfl, j, y, rfl, hy, hs⟩ | ⟨rfl, rfl, rfl, hl, hf⟩ | ⟨rfl, rfl, hl, hf, P', C', rfl⟩
  · exact .inl ⟨rfl, rfl, j, y, rfl, hy, ⟨hs.q, hs.f, hs.n, hs.s, hs.L, hs.V⟩⟩
  · exact .inr (.inl ⟨rfl, rfl, rfl, hl, fun t y hy hs => hf t y hy ⟨hs.q, hs.f, hs.n, hs.s, hs.L, hs.V⟩⟩)
  · exact .inr (.inr ⟨rfl, rfl, hl, fun t y hy hs => hf t y hy ⟨hs.q, hs.f, hs.n, hs.s, hs.L, hs.V⟩, P', C', rfl⟩)
def SplitR (N : List Nd) (t : Int) (W : World) (e : Ending) (w' : World) : Prop := ∃ b o er, e = .returned (.tuple #[.int .i64 b, .int .i64 o, .int .i64 er]) ∧ Below W.heap.size W w' ∧ spL N t = (b, o, er)
set_option maxRecDepth 100000 in
set_option maxHeartbeats 8000000 in
theorem rsplit_any (h : RefS W K base r N) (g : GoodN N) (hN : N.length ≤ 20000) (t : Int) :
    Calls Try.prog 81 #[.pointer (some ⟨r, 0, none⟩), .int .i64 t] W (SplitR N t W) := by
  have hb1 := below1 W (.cells #[.int .i64 t] 73)
  have HC := there_any (h.later hb1) hN (some ⟨W.heap.size, 0, none⟩) 1 1 (fun _ => t) (one_ints W t) (by omega)
  have H1 := Lib.hid (h.later hb1)
  have HG := Lib.hid g
  have HB1 := Lib.hid hb1
  clear h g hb1
  go_enter Try.func81, Try.ntmps81
  go_wp2_with fail
  refine HC.mono ?_
  rintro e w2 ⟨b, rfl, hb2, hcase⟩
  have HB2 := Lib.hid (HB1.out.trans (hb2.mono HB1.out.size))
  have H2 := Lib.hid (H1.out.later hb2)
  have HCC := Lib.hid hcase
  clear HC hb2 hcase HB1 H1
  cases b
  · go_wp2_with fail
    go_ret3
    exact ⟨_, _, _, rfl, HB2.out, if_neg (fun h => absurd (HCC.out.2 (fun _ _ => h)) (by decide))⟩
  have hin0 : InL N t := HCC.out.1 rfl 0 (by omega)
  have HSP := Lib.hid (show spL N t = _ from if_pos hin0)
  obtain ⟨tn, x, rfl, htn, hx⟩ := inS_get hin0
  have HX := Lib.hid (show spL N (tn : Int) = spN x (tn : Int) by rw [HSP.out, Int.toNat_natCast, hx])
  have HA := Lib.hid (H2.out.ar tn x hx).1
  have hok := HG.out tn x hx
  obtain ⟨gg, z, y0, hgk, y1, y2, y3, y4, y5⟩ := H2.out.cells hx
  have hpl := hok.pl
  clear hx hin0 hok hgk H2 HSP HCC
  have hk0 : (0 : Int) ≤ (tn : Int) := by omega
  have hk1 : (tn : Int) < (N.length : Int) := by omega
  obtain ⟨q, f, n, s, P, L, C, V⟩ := x
  simp only at y1 y2 y3 y4 y5 hpl
  have hb2 := below1 w2 (.cells #[.int .u8 q, .int .i64 f, .int .i64 n, .int .i64 s, .slice P L C] 89)
  have HB3 := Lib.hid (HB2.out.trans (hb2.mono HB2.out.size))
  have k0 : (w2.alloc (.cells #[.int .u8 q, .int .i64 f, .int .i64 n, .int .i64 s, .slice P L C] 89)).cell? ⟨w2.heap.size, 0, none⟩ = some (.int .u8 q) := by simp [go_sem]
  have k2 : (w2.alloc (.cells #[.int .u8 q, .int .i64 f, .int .i64 n, .int .i64 s, .slice P L C] 89)).cell? ⟨w2.heap.size, 2, none⟩ = some (.int .i64 n) := by simp [go_sem]
  have k3 : (w2.alloc (.cells #[.int .u8 q, .int .i64 f, .int .i64 n, .int .i64 s, .slice P L C] 89)).cell? ⟨w2.heap.size, 3, none⟩ = some (.int .i64 s) := by simp [go_sem]
  have k4 : (w2.alloc (.cells #[.int .u8 q, .int .i64 f, .int .i64 n, .int .i64 s, .slice P L C] 89)).cell? ⟨w2.heap.size, 4, none⟩ = some (.slice P L C) := by simp [go_sem]
  have HI := Lib.hid (HA.out.later hb2)
  clear HA hb2
  go_upto_region 4 with (fail)
  generalize w2.alloc (.cells #[.int .u8 q, .int .i64 f, .int .i64 n, .int .i64 s, .slice P L C] 89) = w3 at *
  generalize w2.heap.size = kb at *
  clear y0 y1 y2 y3 y4 y5
  by_cases hs : s = 1
  rotate_left
  · have q1 : (s != 1) = true := by simpa using hs
    go_wp2_with fail
    go_ret3
    exact ⟨_, _, _, rfl, HB3.out, by rw [HX.out]; exact if_neg hs⟩
  subst hs
  by_cases h3 : q = 3
  · subst h3
    go_wp2_with fail
    go_quiet (fail)
    go_wp2_with fail
    go_ret3
    exact ⟨_, _, _, rfl, HB3.out.trans ((below_drewN _ _).mono HB3.out.size), by rw [HX.out]; unfold spN; rw [if_pos rfl, if_pos rfl]⟩
  have q3 : (q == 3) = false := by simpa using h3
  by_cases h4 : q = 4
  · subst h4
    have hL := hpl rfl
    obtain ⟨b, off, rfl, ha⟩ := HI.out hL
    have a0 := ha 0 hL
    have HV := Lib.hid (show ∃ v, v = V 0 from ⟨_, rfl⟩)
    obtain ⟨v, hv⟩ := HV.out
    rw [← hv] at a0
    have HV2 := Lib.hid hv
    have hL1 : (0 : Int) < (L : Int) := by omega
    clear ha hv HV
    rw [Nat.add_zero] at a0
    go_wp2_with fail
    go_quiet (fail)
    go_wp2_with fail
    go_ret3
    exact ⟨_, _, _, rfl, HB3.out.trans ((below_drewN _ _).mono HB3.out.size), by rw [HX.out]; unfold spN; rw [if_pos rfl, if_neg (by show ¬ (4 : Int) = 3; decide), if_pos rfl, HV2.out]⟩
  have q4 : (q == 4) = false := by simpa using h4
  go_wp2_with fail
  go_ret3
  exact ⟨_, _, _, rfl, HB3.out, by rw [HX.out]; unfold spN; rw [if_pos rfl, if_neg h3, if_neg h4]⟩
/-- the last step of a call that makes a node. -/
theorem ndA_mk (q f n s : Int) (P : Option Addr) (L C : Nat) (V : Nat → Int) : ndA ⟨q, f, n, s, P, L, C, V⟩ = .agg #[.int .u8 q, .int .i64 f, .int .i64 n, .int .i64 s, .slice P L C] := rfl
set_option maxRecDepth 100000 in
set_option maxHeartbeats 8000000 in
theorem rnot_run (h : RefS W K base r N) (g : GoodN N) (hN : N.length ≤ 20000) (a : Int) :
    Calls Try.prog 71 #[.pointer (some ⟨r, 0, none⟩), .int .i64 a] W (RunR N (notQ (view N) a) base r K W) := by
  have hb1 := below1 W (.cells #[.int .i64 a] 73)
  have HC := there_any (h.later hb1) hN (some ⟨W.heap.size, 0, none⟩) 1 1 (fun _ => a) (one_ints W a) (by omega)
  have H := Lib.hid h
  have HG := Lib.hid g
  have HB1 := Lib.hid hb1
  have HI1 := Lib.hid (one_ints W a)
  clear h g hb1
  go_enter Try.func71, Try.ntmps71
  go_wp2_with fail
  refine HC.mono ?_
  rintro e w2 ⟨b, rfl, hb2, hcase⟩
  have HB2 := Lib.hid (HB1.out.trans (hb2.mono HB1.out.size))
  have HI2 := Lib.hid (HI1.out.later hb2)
  have HCC := Lib.hid hcase
  clear HC hb2 hcase HB1 HI1
  cases b
  · go_wp2_with fail
    go_ret2
    exact (show notQ (view N) a = .no 7 from if_neg (fun h => absurd (HCC.out.2 (fun _ _ => h)) (by decide))) ▸ RunR.no H.out rfl HB2.out
  have hin0 : InL N a := HCC.out.1 rfl 0 (by omega)
  have HO := of_any (H.out.later HB2.out) hN (some ⟨W.heap.size, 0, none⟩) 1 1 (fun _ => a) 0 HI2.out (by omega) (fun _ _ => hin0)
  have HIN := Lib.hid hin0
  clear hin0 HCC
  go_wp2_with fail
  refine HO.mono ?_
  rintro e w3 ⟨b, rfl, hb3, hcase⟩
  have HB3 := Lib.hid (HB2.out.trans (hb3.mono HB2.out.size))
  have HI3 := Lib.hid (HI2.out.later hb3)
  have HCC := Lib.hid hcase
  clear HO hb3 hcase HB2 HI2
  cases b
  · go_wp2_with fail
    go_ret2
    refine (show notQ (view N) a = .no 60 from ?_) ▸ RunR.no H.out rfl HB3.out
    unfold notQ
    rw [if_pos (show (view N).ok _ from HIN.out), if_neg (show ¬ (view N).st a = 0 from fun h => absurd (HCC.out.2 (fun _ _ => h)) (by decide))]
  have hs0 : stL N a = 0 := HCC.out.1 rfl 0 (by omega)
  have HM := put_run (H.out.later HB3.out) HG.out hN ⟨9, 0, 0, 0, some ⟨W.heap.size, 0, none⟩, 1, 1, fun _ => a⟩ HI3.out (by show 1 ≤ _; omega) (fun e => by cases e)
  rw [ndA_mk] at HM
  have HS0 := Lib.hid hs0
  clear hs0
  go_wp2_with fail
  refine HM.mono ?_
  rintro e w4 hm
  have HMM := Lib.hid (hm.from HB3.out)
  obtain ⟨K', T', t', er', rfl, _⟩ := hm
  clear HM
  go_wp2_with fail
  go_ret2
  refine (show notQ (view N) a = .mk ⟨9, 0, 0, 0, none, 1, 1, fun _ => a⟩ from ?_) ▸ RunR.mk HMM.out
  unfold notQ
  rw [if_pos (show (view N).ok _ from HIN.out), if_pos (show (view N).st _ = 0 from HS0.out)]
set_option maxRecDepth 100000 in
set_option maxHeartbeats 8000000 in
theorem rmany_run (h : RefS W K base r N) (g : GoodN N) (hN : N.length ≤ 20000) (q em : Int) (p : Option Addr) (n z : Nat) (V : Nat → Int) (hV : IntsIn W p n V) (hn : n ≤ 1000000) (hz : p = none → n = 0 ∧ z = 0) :
    Calls Try.prog 97 #[.pointer (some ⟨r, 0, none⟩), .int .u8 q, .int .i64 em, .slice p n z] W (RunR N (manyQ (view N) q em n V) base r K W) := by
  have HC := there_any h hN p n z V hV hn
  have H := Lib.hid h
  have HG := Lib.hid g
  have HV := Lib.hid hV
  have HZ := Lib.hid hz
  clear h g hV hz
  go_enter Try.func97, Try.ntmps97
  go_wp2_with fail
  refine HC.mono ?_
  rintro e w2 ⟨b, rfl, hb2, hcase⟩
  have HB2 := Lib.hid hb2
  have HCC := Lib.hid hcase
  clear HC hb2 hcase
  cases b
  · go_wp2_with fail
    go_ret2
    exact (show manyQ (view N) q em n V = .no 7 from if_neg (fun h => absurd (HCC.out.2 h) (by decide))) ▸ RunR.no H.out rfl HB2.out
  have HIN := Lib.hid (show ∀ i, i < n → (view N).ok (V i) from HCC.out.1 rfl)
  by_cases h2 : 2000 < n
  · go_wp2_with fail
    go_ret2
    refine (show manyQ (view N) q em n V = .no 3 from ?_) ▸ RunR.no H.out rfl HB2.out
    unfold manyQ
    rw [if_pos HIN.out, if_pos h2]
  have HO := of_any (H.out.later HB2.out) hN p n z V 0 (HV.out.later HB2.out) (by omega) HIN.out
  clear HCC
  go_wp2_with fail
  refine HO.mono ?_
  rintro e w3 ⟨b, rfl, hb3, hcase⟩
  have HB3 := Lib.hid (HB2.out.trans (hb3.mono HB2.out.size))
  have HCC := Lib.hid hcase
  clear HO hb3 hcase HB2
  cases b
  · go_wp2_with fail
    go_ret2
    refine (show manyQ (view N) q em n V = .no 60 from ?_) ▸ RunR.no H.out rfl HB3.out
    unfold manyQ
    rw [if_pos HIN.out, if_neg h2, if_neg (show ¬ ∀ i, i < n → (view N).st (V i) = 0 from fun h => absurd (HCC.out.2 h) (by decide))]
  have HALL := Lib.hid (show ∀ i, i < n → (view N).st (V i) = 0 from HCC.out.1 rfl)
  by_cases hk0 : n = 0
  · subst hk0
    go_wp2_with fail
    go_ret2
    refine (show manyQ (view N) q em 0 V = .is em from ?_) ▸ RunR.is H.out rfl HB3.out
    unfold manyQ
    rw [if_pos HIN.out, if_neg h2, if_pos HALL.out, if_pos rfl]
  by_cases hk1 : n = 1
  · subst hk1
    obtain ⟨b, off, rfl, ha⟩ := HV.out (by omega)
    have ck := cell_later HB3.out (ha 0 (by omega))
    rw [Nat.add_zero] at ck
    have HV0 := Lib.hid (show manyQ (view N) q em 1 V = .is (V 0) by unfold manyQ; rw [if_pos HIN.out, if_neg h2, if_pos HALL.out, if_neg (by decide), if_pos rfl])
    clear ha
    generalize V 0 = v0 at *
    go_wp2_with fail
    go_ret2
    exact HV0.out ▸ RunR.is H.out rfl HB3.out
  have q0 : ((n : Int) == 0) = false := by rw [beq_eq_false_iff_ne]; omega
  have q1 : ((n : Int) == 1) = false := by rw [beq_eq_false_iff_ne]; omega
  have HM := put_run (H.out.later HB3.out) HG.out hN ⟨q, 0, 0, 0, p, n, z, V⟩ (HV.out.later HB3.out) hn HZ.out
  rw [ndA_mk] at HM
  go_wp2_with fail
  refine HM.mono ?_
  rintro e w4 hm
  have HMM := Lib.hid (hm.from HB3.out)
  obtain ⟨K', T', t', er', rfl, _⟩ := hm
  clear HM
  go_wp2_with fail
  go_ret2
  refine (show manyQ (view N) q em n V = .mk ⟨q, 0, 0, 0, none, n, n, V⟩ from ?_) ▸ RunR.mk (P := p) (C := z) HMM.out
  unfold manyQ
  rw [if_pos HIN.out, if_neg h2, if_pos HALL.out, if_neg hk0, if_neg hk1]
set_option maxRecDepth 100000 in
theorem rand_run (h : RefS W K base r N) (g : GoodN N) (hN : N.length ≤ 20000) (p : Option Addr) (n z : Nat) (V : Nat → Int) (hV : IntsIn W p n V) (hn : n ≤ 1000000) (hz : p = none → n = 0 ∧ z = 0) :
    Calls Try.prog 72 #[.pointer (some ⟨r, 0, none⟩), .slice p n z] W (RunR N (manyQ (view N) 10 0 n V) base r K W) := by
  have HC := rmany_run h g hN 10 0 p n z V hV hn hz
  clear h g hV hz
  go_enter Try.func72, Try.ntmps72
  go_wp2_with fail
  refine HC.mono ?_
  rintro e w4 hm
  have HMM := Lib.hid hm
  obtain ⟨K', T', t', er', rfl, _⟩ := hm
  clear HC
  go_wp2_with fail
  go_ret2
  exact HMM.out
set_option maxRecDepth 100000 in
theorem ror_run (h : RefS W K base r N) (g : GoodN N) (hN : N.length ≤ 20000) (p : Option Addr) (n z : Nat) (V : Nat → Int) (hV : IntsIn W p n V) (hn : n ≤ 1000000) (hz : p = none → n = 0 ∧ z = 0) :
    Calls Try.prog 73 #[.pointer (some ⟨r, 0, none⟩), .slice p n z] W (RunR N (manyQ (view N) 11 1 n V) base r K W) := by
  have HC := rmany_run h g hN 11 1 p n z V hV hn hz
  clear h g hV hz
  go_enter Try.func73, Try.ntmps73
  go_wp2_with fail
  refine HC.mono ?_
  rintro e w4 hm
  have HMM := Lib.hid hm
  obtain ⟨K', T', t', er', rfl, _⟩ := hm
  clear HC
  go_wp2_with fail
  go_ret2
  exact HMM.out
set_option maxRecDepth 100000 in
set_option maxHeartbeats 8000000 in
theorem req_run (h : RefS W K base r N) (g : GoodN N) (hN : N.length ≤ 20000) (a b : Int) :
    Calls Try.prog 74 #[.pointer (some ⟨r, 0, none⟩), .int .i64 a, .int .i64 b] W (RunR N (eqQ (view N) a b) base r K W) := by
  have hb1 := below1 W (.cells #[.int .i64 a, .int .i64 b] 73)
  have HC := there_any (h.later hb1) hN (some ⟨W.heap.size, 0, none⟩) 2 2 (twoV a b) (two_ints W a b) (by omega)
  have H := Lib.hid h
  have HG := Lib.hid g
  have HB1 := Lib.hid hb1
  have HI1 := Lib.hid (two_ints W a b)
  clear h g hb1
  go_enter Try.func74, Try.ntmps74
  go_wp2_with fail
  refine HC.mono ?_
  rintro e w2 ⟨b5, rfl, hb2, hcase⟩
  have HB2 := Lib.hid (HB1.out.trans (hb2.mono HB1.out.size))
  have HI2 := Lib.hid (HI1.out.later hb2)
  have HCC := Lib.hid hcase
  clear HC hb2 hcase HB1 HI1
  cases b5
  · go_wp2_with fail
    go_ret2
    exact (show eqQ (view N) a b = .no 7 from if_neg (fun h => absurd (HCC.out.2 (fun i _ => by
      unfold twoV
      split
      · exact h.1
      · exact h.2)) (by decide))) ▸ RunR.no H.out rfl HB2.out
  have ha0 : InL N a := HCC.out.1 rfl 0 (by omega)
  have hb0' : InL N b := HCC.out.1 rfl 1 (by omega)
  have HOK := Lib.hid (show (view N).ok a ∧ (view N).ok b from ⟨ha0, hb0'⟩)
  obtain ⟨k, x, rfl, hk, hx⟩ := inS_get ha0
  obtain ⟨k2, y, rfl, hk2, hy⟩ := inS_get hb0'
  have HX := Lib.hid (stL_of hx)
  have HY := Lib.hid (stL_of hy)
  have h2 := H.out.later HB2.out
  obtain ⟨gg, z, y0, _, _, _, _, y4, _⟩ := h2.cells hx
  obtain ⟨gg2, z2, y0', _, _, _, _, y4', _⟩ := h2.cells hy
  rw [y0] at y0'
  cases y0'
  have hk0 : (0 : Int) ≤ (k : Int) := by omega
  have hk1 : (k : Int) < (N.length : Int) := by omega
  have hk20 : (0 : Int) ≤ (k2 : Int) := by omega
  have hk21 : (k2 : Int) < (N.length : Int) := by omega
  clear hx hy ha0 hb0' h2 HCC
  generalize hxs : x.s = s at *
  generalize hys : y.s = s2 at *
  by_cases hs : s = s2
  rotate_left
  · have q1 : (s != s2) = true := by simpa using hs
    go_wp2_with fail
    go_quiet (fail)
    go_wp2_with fail
    go_ret2
    refine (show eqQ (view N) (k : Int) (k2 : Int) = .no 60 from ?_) ▸ RunR.no H.out rfl (HB2.out.trans ((below_drewN _ _).mono HB2.out.size))
    unfold eqQ
    rw [if_pos HOK.out, if_neg (by show ¬ stL N _ = stL N _; rw [HX.out, HY.out]; exact hs)]
  subst hs
  have q1 : (s != s) = false := by simp
  go_wp2_with fail
  go_quiet (fail)
  have hd := below_drewN w2 nq
  generalize w2.drewN nq = w3 at *
  have HB3 := Lib.hid (HB2.out.trans (hd.mono HB2.out.size))
  have HM := put_run (H.out.later HB3.out) HG.out hN ⟨7, 0, 0, 0, some ⟨W.heap.size, 0, none⟩, 2, 2, twoV (k : Int) (k2 : Int)⟩ (HI2.out.later hd) (by show 2 ≤ _; omega) (fun e => by cases e)
  rw [ndA_mk] at HM
  clear hd
  go_wp2_with fail
  refine HM.mono ?_
  rintro e w4 hm
  have HMM := Lib.hid (hm.from HB3.out)
  obtain ⟨K', T', t', er', rfl, _⟩ := hm
  clear HM
  go_wp2_with fail
  go_ret2
  refine (show eqQ (view N) (k : Int) (k2 : Int) = .mk ⟨7, 0, 0, 0, none, 2, 2, twoV (k : Int) (k2 : Int)⟩ from ?_) ▸ RunR.mk HMM.out
  unfold eqQ
  rw [if_pos HOK.out, if_pos (by show stL N _ = stL N _; rw [HX.out, HY.out])]
set_option maxRecDepth 100000 in
set_option maxHeartbeats 8000000 in
theorem rite_run (h : RefS W K base r N) (g : GoodN N) (hN : N.length ≤ 20000) (d a b : Int) :
    Calls Try.prog 75 #[.pointer (some ⟨r, 0, none⟩), .int .i64 d, .int .i64 a, .int .i64 b] W (RunR N (iteQ (view N) d a b) base r K W) := by
  have hb1 := below1 W (.cells #[.int .i64 d, .int .i64 a, .int .i64 b] 73)
  have HC := there_any (h.later hb1) hN (some ⟨W.heap.size, 0, none⟩) 3 3 (threeV d a b) (three_ints W d a b) (by omega)
  have H := Lib.hid h
  have HG := Lib.hid g
  have HB1 := Lib.hid hb1
  have HI1 := Lib.hid (three_ints W d a b)
  clear h g hb1
  go_enter Try.func75, Try.ntmps75
  go_wp2_with fail
  refine HC.mono ?_
  rintro e w2 ⟨b5, rfl, hb2, hcase⟩
  have HB2 := Lib.hid (HB1.out.trans (hb2.mono HB1.out.size))
  have HI2 := Lib.hid (HI1.out.later hb2)
  have HCC := Lib.hid hcase
  clear HC hb2 hcase HB1 HI1
  cases b5
  · go_wp2_with fail
    go_ret2
    exact (show iteQ (view N) d a b = .no 7 from if_neg (fun h => absurd (HCC.out.2 (fun i _ => by
      unfold threeV
      split
      · exact h.1
      · split
        · exact h.2.1
        · exact h.2.2)) (by decide))) ▸ RunR.no H.out rfl HB2.out
  have hc0 : InL N d := HCC.out.1 rfl 0 (by omega)
  have ha0 : InL N a := HCC.out.1 rfl 1 (by omega)
  have hb0' : InL N b := HCC.out.1 rfl 2 (by omega)
  have HOK := Lib.hid (show (view N).ok d ∧ (view N).ok a ∧ (view N).ok b from ⟨hc0, ha0, hb0'⟩)
  obtain ⟨k3, u, rfl, hk3, hu⟩ := inS_get hc0
  obtain ⟨k, x, rfl, hk, hx⟩ := inS_get ha0
  obtain ⟨k2, y, rfl, hk2, hy⟩ := inS_get hb0'
  have HU := Lib.hid (stL_of hu)
  have HX := Lib.hid (stL_of hx)
  have HY := Lib.hid (stL_of hy)
  have h2 := H.out.later HB2.out
  obtain ⟨gg, z, y0, _, _, _, _, y4, _⟩ := h2.cells hx
  obtain ⟨gg2, z2, y0', _, _, _, _, y4', _⟩ := h2.cells hy
  obtain ⟨gg3, z3, y0'', _, _, _, _, y4'', _⟩ := h2.cells hu
  rw [y0] at y0' y0''
  cases y0'
  cases y0''
  have hk0 : (0 : Int) ≤ (k : Int) := by omega
  have hk1 : (k : Int) < (N.length : Int) := by omega
  have hk20 : (0 : Int) ≤ (k2 : Int) := by omega
  have hk21 : (k2 : Int) < (N.length : Int) := by omega
  have hk30 : (0 : Int) ≤ (k3 : Int) := by omega
  have hk31 : (k3 : Int) < (N.length : Int) := by omega
  clear hx hy hu ha0 hb0' hc0 h2 HCC
  generalize hxs : x.s = s at *
  generalize hys : y.s = s2 at *
  generalize hus : u.s = s3 at *
  by_cases hs3 : s3 = 0
  rotate_left
  · have q1 : (s3 != 0) = true := by simpa using hs3
    go_wp2_with fail
    go_quiet (fail)
    go_wp2_with fail
    go_ret2
    refine (show iteQ (view N) (k3 : Int) (k : Int) (k2 : Int) = .no 60 from ?_) ▸ RunR.no H.out rfl (HB2.out.trans ((below_drewN _ _).mono HB2.out.size))
    unfold iteQ
    rw [if_pos HOK.out, if_neg (by show ¬ (stL N _ = 0 ∧ _); rw [HU.out]; exact fun h => hs3 h.1)]
  subst hs3
  by_cases hs : s = s2
  rotate_left
  · have q1 : (s != s2) = true := by simpa using hs
    go_wp2_with fail
    go_quiet (fail)
    go_wp2_with fail
    go_ret2
    refine (show iteQ (view N) (k3 : Int) (k : Int) (k2 : Int) = .no 60 from ?_) ▸ RunR.no H.out rfl (HB2.out.trans ((below_drewN _ _).mono HB2.out.size))
    unfold iteQ
    rw [if_pos HOK.out, if_neg (by show ¬ (stL N _ = 0 ∧ stL N _ = stL N _); rw [HX.out, HY.out]; exact fun h => hs h.2)]
  subst hs
  have q1 : (s != s) = false := by simp
  go_wp2_with fail
  go_quiet (fail)
  have hd := below_drewN w2 nq
  replace y0 := cell_later hd y0
  replace y4 := cell_later hd y4
  generalize w2.drewN nq = w3 at *
  have HB3 := Lib.hid (HB2.out.trans (hd.mono HB2.out.size))
  have HM := put_run (H.out.later HB3.out) HG.out hN ⟨6, 0, 0, s, some ⟨W.heap.size, 0, none⟩, 3, 3, threeV (k3 : Int) (k : Int) (k2 : Int)⟩ (HI2.out.later hd) (by show 3 ≤ _; omega) (fun e => by cases e)
  rw [ndA_mk] at HM
  clear hd
  go_wp2_with fail
  refine HM.mono ?_
  rintro e w4 hm
  have HMM := Lib.hid (hm.from HB3.out)
  obtain ⟨K', T', t', er', rfl, _⟩ := hm
  clear HM
  go_wp2_with fail
  go_ret2
  refine (show iteQ (view N) (k3 : Int) (k : Int) (k2 : Int) = .mk ⟨6, 0, 0, s, none, 3, 3, threeV (k3 : Int) (k : Int) (k2 : Int)⟩ from ?_) ▸ RunR.mk HMM.out
  unfold iteQ
  rw [if_pos HOK.out, if_pos (by show stL N _ = 0 ∧ stL N _ = stL N _; rw [HX.out, HY.out]; exact ⟨HU.out, rfl⟩), show (view N).st (k : Int) = s from HX.out]
set_option maxRecDepth 100000 in
set_option maxHeartbeats 8000000 in
theorem rapp_run (h : RefS W K base r N) (g : GoodN N) (hN : N.length ≤ 20000) (f s : Int) (p : Option Addr) (n z : Nat) (V : Nat → Int) (hV : IntsIn W p n V) (hn : n ≤ 1000000) (hz : p = none → n = 0 ∧ z = 0) :
    Calls Try.prog 76 #[.pointer (some ⟨r, 0, none⟩), .int .i64 f, .int .i64 s, .slice p n z] W (RunR N (appQ (view N) f s n V) base r K W) := by
  have HC := there_any h hN p n z V hV hn
  have H := Lib.hid h
  have HG := Lib.hid g
  have HV := Lib.hid hV
  have HZ := Lib.hid hz
  clear h g hV hz
  go_enter Try.func76, Try.ntmps76
  by_cases hf0 : f < 0
  · have u0 : decide (f < 0) = true := by simpa using hf0
    go_wp2_with fail
    go_ret2
    exact (show appQ (view N) f s n V = .no 2 from if_pos (.inl hf0)) ▸ RunR.no H.out rfl (Below.refl _ _)
  have u0 : decide (f < 0) = false := by simpa using hf0
  by_cases hs0 : s < 0
  · have u1 : decide (s < 0) = true := by simpa using hs0
    go_wp2_with fail
    go_ret2
    exact (show appQ (view N) f s n V = .no 2 from if_pos (.inr hs0)) ▸ RunR.no H.out rfl (Below.refl _ _)
  have u1 : decide (s < 0) = false := by simpa using hs0
  have HNE := Lib.hid (show ¬ (f < 0 ∨ s < 0) from fun h => h.elim hf0 hs0)
  go_wp2_with fail
  refine HC.mono ?_
  rintro e w2 ⟨b, rfl, hb2, hcase⟩
  have HB2 := Lib.hid hb2
  have HCC := Lib.hid hcase
  clear HC hb2 hcase
  cases b
  · go_wp2_with fail
    go_ret2
    refine (show appQ (view N) f s n V = .no 7 from ?_) ▸ RunR.no H.out rfl HB2.out
    unfold appQ
    rw [if_neg HNE.out, if_neg (show ¬ ∀ i, i < n → (view N).ok (V i) from fun h => absurd (HCC.out.2 h) (by decide))]
  have HIN := Lib.hid (show ∀ i, i < n → (view N).ok (V i) from HCC.out.1 rfl)
  by_cases h2 : 20 < n
  · go_wp2_with fail
    go_ret2
    refine (show appQ (view N) f s n V = .no 3 from ?_) ▸ RunR.no H.out rfl HB2.out
    unfold appQ
    rw [if_neg HNE.out, if_pos HIN.out, if_pos h2]
  have HM := put_run (H.out.later HB2.out) HG.out hN ⟨5, f, 0, s, p, n, z, V⟩ (HV.out.later HB2.out) hn HZ.out
  rw [ndA_mk] at HM
  clear HCC
  go_wp2_with fail
  refine HM.mono ?_
  rintro e w4 hm
  have HMM := Lib.hid (hm.from HB2.out)
  obtain ⟨K', T', t', er', rfl, _⟩ := hm
  clear HM
  go_wp2_with fail
  go_ret2
  refine (show appQ (view N) f s n V = .mk ⟨5, f, 0, s, none, n, n, V⟩ from ?_) ▸ RunR.mk (P := p) (C := z) HMM.out
  unfold appQ
  rw [if_neg HNE.out, if_pos HIN.out, if_neg h2]
set_option maxRecDepth 100000 in
set_option maxHeartbeats 8000000 in
theorem rnum_run (h : RefS W K base r N) (g : GoodN N) (hN : N.length ≤ 20000) (n : Int) :
    Calls Try.prog 77 #[.pointer (some ⟨r, 0, none⟩), .int .i64 n] W (RunR N (numQ n) base r K W) := by
  have HC := bound_any n W
  have H := Lib.hid h
  have HG := Lib.hid g
  clear h g
  go_enter Try.func77, Try.ntmps77
  go_wp2_with fail
  refine HC.mono ?_
  rintro e w2 ⟨b, rfl, hw, hcase⟩
  obtain rfl := hw.symm
  have HCC := Lib.hid hcase
  clear HC hcase hw
  cases b
  · go_wp2_with fail
    go_ret2
    exact (show numQ n = .no 6 from if_neg (fun h => absurd (HCC.out.2 h) (by decide))) ▸ RunR.no H.out rfl (Below.refl _ _)
  have HM := put_run H.out HG.out hN (numN n) (fun h => absurd h (Nat.not_lt_zero _)) (by show 0 ≤ _; omega) (fun e => ⟨rfl, rfl⟩)
  rw [show ndA (numN n) = .agg #[.int .u8 3, .int .i64 0, .int .i64 n, .int .i64 1, .slice none 0 0] from rfl] at HM
  have HIN := Lib.hid (show InB n from HCC.out.1 rfl)
  clear HCC
  go_wp2_with fail
  refine HM.mono ?_
  rintro e w4 hm
  have HMM := Lib.hid hm
  obtain ⟨K', T', t', er', rfl, _⟩ := hm
  clear HM
  go_wp2_with fail
  go_ret2
  exact (show numQ n = .mk (numN n) from if_pos HIN.out) ▸ HMM.out
open Classical in
noncomputable def plusT (b o n : Int) : Req := if InB n ∧ InB (o + n) then (if b = 2 then .mk (numN (o + n)) else if o + n = 0 then .is b else .mk (plusN b (o + n) none)) else .no 6
theorem spL_bounds {N : List Nd} (g : GoodN N) {t b o : Int} (h : spL N t = (b, o, 0)) : InB o := by
  unfold spL at h
  by_cases hin : InL N t
  · rw [if_pos hin] at h
    obtain ⟨k, x, rfl, hk, hx⟩ := inS_get hin
    rw [Int.toNat_natCast, hx] at h
    simp only at h
    have hok := g k x hx
    unfold spN at h
    split at h
    · split at h
      · cases h; exact hok.nb (.inl (by assumption))
      · split at h
        · cases h; exact hok.nb (.inr (by assumption))
        · cases h; unfold InB; decide
    · cases h
  · rw [if_neg hin] at h; cases h
set_option maxRecDepth 100000 in
set_option maxHeartbeats 8000000 in
theorem rplus_run (h : RefS W K base r N) (g : GoodN N) (hN : N.length ≤ 20000) (t n : Int) (hn : I64 n) :
    Calls Try.prog 78 #[.pointer (some ⟨r, 0, none⟩), .int .i64 t, .int .i64 n] W (RunR N (plusQ (view N) t n) base r K W) := by
  have HSP := rsplit_any h g hN t
  have H := Lib.hid h
  have HG := Lib.hid g
  clear h g
  go_enter Try.func78, Try.ntmps78
  go_wp2_with fail
  refine HSP.mono ?_
  rintro e w1 ⟨b, o, er, rfl, hb, hsp⟩
  have HB := Lib.hid hb
  have HS := Lib.hid (show (view N).sp t = (b, o, er) from hsp)
  clear HSP hb hsp
  by_cases her : er = 0
  rotate_left
  · have q1 : (er != 0) = true := by simpa using her
    go_wp2_with fail
    go_ret2
    refine (show plusQ (view N) t n = .no er from ?_) ▸ RunR.no H.out rfl HB.out
    unfold plusQ
    rw [HS.out, if_neg her]
  subst her
  have HOB := Lib.hid (spL_bounds HG.out HS.out)
  have HP := Lib.hid (show plusQ (view N) t n = plusT b o n by
    unfold plusQ plusT
    rw [HS.out]
    simp only
    rw [if_pos trivial])
  have HC := bound_any n w1
  go_wp2_with fail
  refine HC.mono ?_
  rintro e w2 ⟨b1, rfl, hw, hcase⟩
  obtain rfl := hw.symm
  have HCC := Lib.hid hcase
  clear HC hcase hw
  cases b1
  · go_wp2_with fail
    go_ret2
    exact (show plusQ (view N) t n = .no 6 by rw [HP.out]; exact if_neg (fun h => absurd (HCC.out.2 h.1) (by decide))) ▸ RunR.no H.out rfl HB.out
  have HIN := Lib.hid (show InB n from HCC.out.1 rfl)
  obtain ⟨m, hm⟩ : ∃ m, m = o + n := ⟨_, rfl⟩
  have ew : wrap64 (o + n) = m := by rw [wrap64_eq]; have h1 := HIN.out; have h2 := HOB.out; unfold InB at h1 h2; omega
  have ew' : IntKind.i64.wrap (o + n) = m := by rw [IntKind.wrap_i64]; have h1 := HIN.out; have h2 := HOB.out; unfold InB at h1 h2; omega
  have HM := Lib.hid hm
  clear hm HCC
  have HC := bound_any m w1
  go_wp2_with fail
  refine HC.mono ?_
  rintro e w2 ⟨b1, rfl, hw, hcase⟩
  obtain rfl := hw.symm
  have HCC := Lib.hid hcase
  clear HC hcase hw
  cases b1
  · go_wp2_with fail
    go_ret2
    exact (show plusQ (view N) t n = .no 6 by rw [HP.out]; exact if_neg (fun h => absurd (HCC.out.2 (by rw [HM.out]; exact h.2)) (by decide))) ▸ RunR.no H.out rfl HB.out
  have HIM := Lib.hid (show InB (o + n) by rw [← HM.out]; exact HCC.out.1 rfl)
  clear HCC
  by_cases hb2 : b = 2
  · subst hb2
    have HNU := rnum_run (H.out.later HB.out) HG.out hN m
    go_wp2_with fail
    refine HNU.mono ?_
    rintro e w2 hm
    have HMM := Lib.hid (hm.from HB.out)
    obtain ⟨K', T', t', er', rfl, _⟩ := hm
    clear HNU
    go_wp2_with fail
    go_ret2
    refine (show plusQ (view N) t n = numQ m from ?_) ▸ HMM.out
    rw [HP.out, HM.out]
    unfold plusT numQ
    rw [if_pos ⟨HIN.out, HIM.out⟩, if_pos rfl, if_pos HIM.out]
  have q2 : (b == 2) = false := by simpa using hb2
  by_cases hr0 : m = 0
  · subst hr0
    go_wp2_with fail
    go_ret2
    refine (show plusQ (view N) t n = .is b from ?_) ▸ RunR.is H.out rfl HB.out
    rw [HP.out]
    unfold plusT
    rw [if_pos ⟨HIN.out, HIM.out⟩, if_neg hb2, if_pos HM.out.symm]
  have q3 : (m == 0) = false := by simpa using hr0
  have hbx := below1 w1 (.cells #[.int .i64 b] 73)
  have HB2 := Lib.hid (HB.out.trans (hbx.mono HB.out.size))
  have HPU := put_run (H.out.later HB2.out) HG.out hN (plusN b m (some ⟨w1.heap.size, 0, none⟩)) (one_ints w1 b) (by show 1 ≤ _; omega) (fun e => by cases e)
  rw [show ndA (plusN b m (some ⟨w1.heap.size, 0, none⟩)) = .agg #[.int .u8 4, .int .i64 0, .int .i64 m, .int .i64 1, .slice (some ⟨w1.heap.size, 0, none⟩) 1 1] from rfl] at HPU
  clear hbx
  go_wp2_with fail
  refine HPU.mono ?_
  rintro e w2 hm
  have HMM := Lib.hid (hm.from HB2.out)
  obtain ⟨K', T', t', er', rfl, _⟩ := hm
  clear HPU
  go_wp2_with fail
  go_ret2
  refine (show plusQ (view N) t n = .mk (plusN b m none) from ?_) ▸ RunR.mk HMM.out
  rw [HP.out]
  unfold plusT
  rw [if_pos ⟨HIN.out, HIM.out⟩, if_neg hb2, if_neg (by rw [← HM.out]; exact hr0), ← HM.out]
end Go.Proofs.Ytkjmmdffelhkiaa
