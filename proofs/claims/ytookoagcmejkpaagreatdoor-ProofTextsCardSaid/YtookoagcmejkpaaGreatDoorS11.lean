/- Whether a step may be: a kind that there is. -/
import Derived.Test.YtookoagcmejkpaaGreatDoorS10
set_option maxHeartbeats 3200000
namespace Go.Proofs.YtookoagcmejkpaaGreatDoor
set_option maxRecDepth 100000
open Go Go.RowKit Go.Maps
theorem qjm (k a b : Int) (p : Option Addr) (c n : Nat) (q : Option Addr) (d m : Nat) (h : ByteArray) (xs : List Int) (ls : List Lk) (R : Bool) (W : World) (hk0 : 0 <= k) (hk1 : k <= 255) (hf : qem k = some (fmV h false true false false false false false false))
  (hxs : IntsIn W p xs) (hls : LksIn W q ls) (hkd : KdL ls) (hxl : xs.length = n) (hll : ls.length = m) (hn : n <= 9223372036854775807) (hm : m <= 9223372036854775807)
  (hR : R = (decide (n <= 5000) && decide (m <= 20000) && (false || decide (n = 0)) && (true || decide (m = 0)) && fldC false a && fldC false b && xs.all litB && ls.all qaz)) :
  Calls Tryz.prog 11 #[.agg #[.int .u8 k, .slice p n c, .slice q m d, .int .i64 a, .int .i64 b]] W fun e w' => e = .returned (.bool R) /\ Below W.heap.size W w' := by
 have HR := Zh hR;have HXS := Zh (aI hxs (aI hxl hn));have HLS := Zh (aI hls (aI hkd (aI hll hm)));have HA := Zh (fun w => qck false a w);have HBB := Zh (fun w => qck false b w);clear hR hxs hls hkd hxl hll hn hm;have HCS := Zh (show ∀ i, i < 5 -> True from fun _ _ => trivial);obtain ⟨W1, hW1⟩ : ∃ W1, W1 = W.alloc (.cells #[.int .u8 k, .slice p n c, .slice q m d, .int .i64 a, .int .i64 b] 26) := ⟨_, rfl⟩;have hb1 : Below W.heap.size W W1 := by rw [hW1]; exact qab _ _
 have hc : W1.cell? ⟨W.heap.size, 0, none⟩ = some (.int .u8 k) := by rw [hW1]; simp
 have HB1 := Zh hb1;have HK := Zh (aI hk0 (aI hk1 hf));rw [hW1] at hc HB1;have hc0 := qaa (qae (W.alloc (.cells #[.int .u8 k, .slice p n c, .slice q m d, .int .i64 a, .int .i64 b] 26))) hc;have hc00 := qaa (qae ((W.alloc (.cells #[.int .u8 k, .slice p n c, .slice q m d, .int .i64 a, .int .i64 b] 26)).alloc (.cells #[.string ⟨#[]⟩, .bool false, .bool false, .bool false, .bool false, .bool false, .bool false, .bool false, .bool false] 66))) (qaa (qab (W.alloc (.cells #[.int .u8 k, .slice p n c, .slice q m d, .int .i64 a, .int .i64 b] 26)) (.cells #[.string ⟨#[]⟩, .bool false, .bool false, .bool false, .bool false, .bool false, .bool false, .bool false, .bool false] 66)) hc);have HBZ := Zh (show Below W.heap.size W ((W.alloc (.cells #[.int .u8 k, .slice p n c, .slice q m d, .int .i64 a, .int .i64 b] 26)).alloc (.cells #[.string ⟨#[]⟩, .bool false, .bool false, .bool false, .bool false, .bool false, .bool false, .bool false, .bool false] 66)).drew from (HB1.o.trans ((qab _ (.cells #[.string ⟨#[]⟩, .bool false, .bool false, .bool false, .bool false, .bool false, .bool false, .bool false, .bool false] 66)).mono HB1.o.size)).drew);have HBD := Zh (HB1.o.trans ((qae _).mono HB1.o.size));have HSZ := Zh (show (W.alloc (.cells #[.int .u8 k, .slice p n c, .slice q m d, .int .i64 a, .int .i64 b] 26)).heap.size = W.heap.size + 1 from by simp);clear hb1 hW1 hk0 hk1 hf;have HST := Zh (qg6 W k a b p c n q d m);go_enter Tryz.func11, Tryz.ntmps11
 go_wp2_with fail
 rename_i K aK
 have KEY : ∀ (B3 mm : Nat) (W3 : World), StA W3 W.heap.size k a b p c n q d m -> FB W3 B3 h false true false false -> Below W.heap.size W W3 -> K { tmps := #[.agg #[.int .u8 k, .slice p n c, .slice q m d, .int .i64 a, .int .i64 b], .pointer (some ⟨W.heap.size, 0, none⟩), .bool false, .pointer (some ⟨B3, 0, none⟩), .bool true, undef, .tuple #[.agg #[.string h, .bool false, .bool true, .bool false, .bool false, .bool false, .bool false, .bool false, .bool false], .bool true], .map (some mm), .pointer (some ⟨W.heap.size, 0, none⟩), .int .u8 k, .tuple #[.agg #[.string h, .bool false, .bool true, .bool false, .bool false, .bool false, .bool false, .bool false, .bool false], .bool true], .agg #[.string h, .bool false, .bool true, .bool false, .bool false, .bool false, .bool false, .bool false, .bool false], .bool true, undef, undef, undef, undef, undef, undef, undef, undef, undef, undef, undef, undef, undef, undef, undef, undef, undef, undef, undef, undef, undef, undef, undef, undef, undef, undef, undef, undef, undef, undef, undef, undef, undef, undef, undef, undef, undef, undef, undef, undef, undef, undef, undef, undef, undef, undef, undef, undef, undef, undef, undef, undef, undef, undef, undef, undef, undef, undef, undef], defers := [] } W3 := by
  clear hc hc0 hc00;intro B3 mm W3 hst hfb hb3;have HB3 := Zh hb3;obtain ⟨s0, s1, s2, s3, s4⟩ := hst;obtain ⟨z0, z1, z2, z3, z4⟩ := hfb;refine aK _ _ ?_;clear aK K hb3;have n0 : (0 : Int) <= (n : Int) := Int.natCast_nonneg _;have m0 : (0 : Int) <= (m : Int) := Int.natCast_nonneg _
  by_cases hn5 : 5000 < n
  case pos =>
   have h5 : (5000 : Int) < (n : Int) := by omega
   have HF := Zh (show decide (n <= 5000) = false from decide_eq_false (by omega));clear hn5
   go_wp2_with fail
   exact bodyPost_ret (v := .bool false) (by simp [results, Tryz.results11, go_sem]) rfl ⟨by rw [show R = false from by rw [HR.o]; simp [HF.o]], HB3.o⟩
  have h5 : (n : Int) <= 5000 := by omega
  have HN5 := Zh (show decide (n <= 5000) = true from decide_eq_true (by omega));clear hn5
  by_cases hm2 : 20000 < m
  case pos =>
   have h6 : (20000 : Int) < (m : Int) := by omega
   have HF := Zh (show decide (m <= 20000) = false from decide_eq_false (by omega));clear hm2
   go_wp2_with fail
   exact bodyPost_ret (v := .bool false) (by simp [results, Tryz.results11, go_sem]) rfl ⟨by rw [show R = false from by rw [HR.o]; simp [HF.o]], HB3.o⟩
  have h6 : (m : Int) <= 20000 := by omega
  have HM2 := Zh (show decide (m <= 20000) = true from decide_eq_true (by omega));clear hm2
  by_cases hn0 : 0 < n
  case pos =>
   have h7 : (0 : Int) < (n : Int) := by omega
   have HF := Zh (show decide (n = 0) = false from decide_eq_false (by omega));clear hn0
   go_wp2_with fail
   exact bodyPost_ret (v := .bool false) (by simp [results, Tryz.results11, go_sem]) rfl ⟨by rw [show R = false from by rw [HR.o]; simp [HF.o]], HB3.o⟩
  obtain rfl : 0 = n := by omega
  clear hn0;obtain ⟨ba, hba⟩ : ∃ x, x = fldC false a := ⟨_, rfl⟩;rw [<- hba] at HA HR;obtain ⟨bb, hbb⟩ : ∃ x, x = fldC false b := ⟨_, rfl⟩;rw [<- hbb] at HBB HR;obtain ⟨bs, hbs⟩ : ∃ x, x = xs.all litB := ⟨_, rfl⟩;have HC := Zh (qe9 p c 0 xs W3 (HXS.o.1.later HB3.o) HXS.o.2.1 HXS.o.2.2);rw [<- hbs] at HC HR;obtain ⟨bk, hbk⟩ : ∃ x, x = ls.all qaz := ⟨_, rfl⟩;have HKK := Zh hbk;rw [<- hbk] at HR;clear hba hbb hbs hbk
  cases ba with
  | false =>
   go_wp2_with fail
   refine (HA.o _).mono ?_;rintro e w1 ⟨rfl, hw⟩;rw [hw];clear hw
   go_wp2_with fail
   exact bodyPost_ret (v := .bool false) (by simp [results, Tryz.results11, go_sem]) rfl ⟨by rw [show R = false from by rw [HR.o]; simp []], HB3.o⟩
  | true =>
  cases bb with
  | false =>
   go_wp2_with fail
   refine (HA.o _).mono ?_;rintro e w1 ⟨rfl, hw⟩;rw [hw];clear hw
   go_wp2_with fail
   refine (HBB.o _).mono ?_;rintro e w1 ⟨rfl, hw⟩;rw [hw];clear hw
   go_wp2_with fail
   exact bodyPost_ret (v := .bool false) (by simp [results, Tryz.results11, go_sem]) rfl ⟨by rw [show R = false from by rw [HR.o]; simp []], HB3.o⟩
  | true =>
  go_wp2_with fail
  refine (HA.o _).mono ?_;rintro e w1 ⟨rfl, hw⟩;rw [hw];clear hw
  go_wp2_with fail
  refine (HBB.o _).mono ?_;rintro e w1 ⟨rfl, hw⟩;rw [hw];clear hw
  go_wp2_with fail
  refine HC.o.mono ?_;rintro e w1 ⟨rfl, hw⟩;rw [hw];clear hw
  cases bs with
  | false =>
   go_wp2_with fail
   exact bodyPost_ret (v := .bool false) (by simp [results, Tryz.results11, go_sem]) rfl ⟨by rw [show R = false from by rw [HR.o]; simp []], HB3.o⟩
  | true =>
  have hR2 : R = bk := by rw [HR.o]; simp [HM2.o]
  have HR2 := Zh hR2;clear hR2
  go_wp2_with fail
  refine (qf7 _).mono ?_;rintro e w4 ⟨m4, rfl, hm4, hb4, hmm4⟩;have HB4 := Zh (HB3.o.trans (hb4.mono HB3.o.size));have HM4 := Zh hm4;have t1 := qaa hb4 s2;have t2 := qaa (qab w4 (.cells #[.map (some m4)] 71)) t1;clear hb4 hm4 hmm4
  go_wp2_with fail
  have hb5 : Below W.heap.size W (w4.alloc (.cells #[.map (some m4)] 71)) := HB4.o.alloc HB4.o.size _;have hfm : FmAt (w4.alloc (.cells #[.map (some m4)] 71)) w4.heap.size m4 := ⟨by simp, HM4.o.later (qab _ _)⟩;have h38 := qe8 w4.heap.size m4 q d m ls _ hfm (HLS.o.1.later hb5) HLS.o.2.1 HLS.o.2.2.1 HLS.o.2.2.2;rw [<- HKK.o] at h38;refine h38.mono ?_;rintro e w5 ⟨rfl, hb6⟩;have HB6 := Zh (hb5.trans (hb6.mono hb5.size));clear h38 hfm hb5 hb6 t1 t2 s0 s1 s2 s3 s4 z0 z1 z2 z3 z4
  go_wp2_with fail
  exact bodyPost_ret (v := .bool (!(!bk))) (by simp [results, Tryz.results11, go_sem]) rfl ⟨by rw [HR2.o, Bool.not_not], HB6.o⟩
 clear aK
 go_region_with (first
  | (go_at_call 28; refine (qei _).mono ?_; rintro e w1 ⟨mm, rfl, hm, hb, hmm⟩; have hst1 : StA w1 W.heap.size k a b p c n q d m := (by first | exact (HST.o.later (qae _)).later hb | exact ((HST.o.later (qab _ (.cells #[.string ⟨#[]⟩, .bool false, .bool false, .bool false, .bool false, .bool false, .bool false, .bool false, .bool false] 66))).later (qae _)).later hb); have hc1 := hst1.c0; have hc2 := qaa (qab w1 (.cells #[.string ⟨#[]⟩, .bool false, .bool false, .bool false, .bool false, .bool false, .bool false, .bool false, .bool false] 66)) hc1; have HST1 := Zh hst1; have hlk := hm.look_ok K22 Tryz.underlying67 (qcw _) (qdq k HK.o.1 HK.o.2.1); have hlk2 := (hm.later (qab w1 (.cells #[.string ⟨#[]⟩, .bool false, .bool false, .bool false, .bool false, .bool false, .bool false, .bool false, .bool false] 66))).look_ok K22 Tryz.underlying67 (qcw _) (qdq k HK.o.1 HK.o.2.1); rw [qbu, HK.o.2.2] at hlk hlk2; simp only [fmV, Option.getD_some, Option.isSome_some] at hlk hlk2; have HBN : Hid (Below W.heap.size W w1) := Zh (by first | exact HBD.o.trans (hb.mono HBD.o.size) | exact HBZ.o.trans (hb.mono HBZ.o.size)); (first | (have hbx := ((qdk (W.alloc (.cells #[.int .u8 k, .slice p n c, .slice q m d, .int .i64 a, .int .i64 b] 26))).later (qae _)).later hb; rw [HSZ.o] at hbx; have HBX := Zh hbx; obtain ⟨z0, z1, z2, z3, z4, z5, z6, z7, z8, zf⟩ := hbx) | skip); clear hm hb hmm hst1))
 all_goals simp only [Exit.then, Act.put, List.getElem_toArray, List.getElem_cons_succ, List.getElem_cons_zero, List.setIfInBounds_toArray, List.set_cons_zero, List.set_cons_succ]
 iterate 5 (focus (refine KEY _ _ _ ?_ ?_ ?_; exact HST1.o.later (qab _ _); exact qof _ _ _ _ _ _; exact HBN.o.alloc HBN.o.size _))
 iterate 3 (focus (have h9 := set9 HBX.o HST1.o (Nat.succ_ne_self _) h false true false false; refine KEY _ _ _ ?_ ?_ ?_; exact h9.1; exact h9.2; (iterate 9 refine Below.setCell ?_ (Nat.le_succ _) _); exact HBN.o))
end Go.Proofs.YtookoagcmejkpaaGreatDoor
