/- A base: visit. -/
import Derived.Test.YtgdncnalahdjeaaU8
import Derived.Deep.LoopGhost
namespace Go.Proofs.Ytgdncnalahdjeaa
open Go Go.RowKit Go.Maps

theorem row_drop {w : World} {g n cap : Nat} {cur L0 : List Nat} {i : Nat} (h : w.ownsRow 0 3 1 (.slice (some ⟨g, 0, none⟩) n cap) n (cur.map natV)) (hd : cur.drop i = L0.drop i) : ∀ (j x : Nat), (L0.drop i)[j]? = some x → w.cell? ((⟨g, i, none⟩ : Addr).add j) = some (natV x) := by
  intro j x hx
  rw [← hd, List.getElem?_drop] at hx
  rw [Lib.add_plain]
  exact (own_cell h (i + j) (natV x) (by rw [List.getElem?_map, hx]; rfl)).1
theorem slice_end {g n cap : Nat} {i : Nat} (w : World) (hn : n = i + 1) (hc : cap = i + 1) : (Instr.slice 55 (.slice (some ⟨g, 0, none⟩) n cap) (some (.int .i64 ((i : Int) + 1))) none none).run Try.prog w = .ok (.slice (some ⟨g, 0, none⟩) 0 0) w := by
  subst hn hc
  have h1 : (0 : Int) ≤ (i : Int) + 1 := by omega
  have h2 : ((i : Int) + 1).toNat = i + 1 := by omega
  have h3 : (i : Int) + 1 ≤ ((i + 1 : Nat) : Int) := by omega
  simp [Instr.slice, run_underlying Try.underlying55, Instr.sliceBounds, Instr.sliceBound, asIntOf, h1, h2, h3]
set_option maxRecDepth 100000 in
set_option maxHeartbeats 6400000 in
theorem visit_some {F : Prop} {W : World} {K0 : Nat → Kd} {a m : Nat} {db cl : List (List Int)} {wt : Int → List Nat} {T P T0 gv : List Int} {nx : Nat} {br : Bool} {gone : Int} (h : BaseAt W K0 a m (fun _ => False) cl wt T T nx br) (hv : Vis F db cl wt T P T0 gv gone [] (wt gone)) (hli : isLitB gone = true) (hcl : db.length ≤ 1000000) (hL : 0 < (wt gone).length) :
    Calls Try.prog 87 #[.pointer (some ⟨a, 0, none⟩), .int .i64 gone] W fun e w' => ∃ ok, e = .returned (.bool ok) ∧ ∃ K' cl' wt' T', VisEnd F W K0 db cl T P T0 gv gone a m nx br ok w' K' cl' wt' T' := by
  obtain ⟨g0_, g1_, g2_⟩ := litB_in hli
  have hkey := Lib.hid (key30 (show I64 gone from ⟨by omega, by omega⟩))
  have hwl := hv.st.wlen gone
  have hfew := hv.st.few
  obtain ⟨D, ⟨n0, hD0⟩, hk, hvv⟩ := h.mp.has
  obtain ⟨v, ev, hrv⟩ := hvv gone hli (fun h => h)
  have hro := hrv.own
  rw [List.length_map] at hro
  obtain ⟨g, cap, hveq⟩ := own_some hro hL
  subst hveq
  have hcaps := own_caps hro
  have hml : maxLen = 9223372036854775807 := rfl
  obtain ⟨v0, v2, v3, ob, _, _, _⟩ := h.ob
  have c1W := ob.c1
  have HM := Lib.hid hD0
  have HEV := Lib.hid ev
  generalize hL0 : wt gone = L0 at *
  have hV0 : VisM F W K0 db cl T P T0 gv gone L0 a m g cap nx br 0 [] L0 cl wt T K0 W := ⟨by omega, by simp, rfl, rfl, rfl, h.holes (fun x _ => ⟨fun h => h, rfl⟩), hro, hrv.tg g rfl, StepB.refl _ _, by simpa using hv, Alk.refl _, ⟨[], by simp⟩⟩
  have HV0 := Lib.hid hV0
  have HLI0 := Lib.hid hli
  have hcap1 := hcaps.1
  have hcap2 := hcaps.2
  have n0_ : (0 : Int) ≤ (cap : Int) := by omega
  clear h hv hk hvv hrv hro ob hV0 hcaps ev hD0 hL0 hli
  go_enter Try.func87, Try.ntmps87
  go_wp2
  go_step3
  go_wp2_with (at_lookup; refine wpList_lookup_held rfl _ _ 68 rfl 54 55 law30 Try.underlying68 _ (zero55 _) m n0 D rfl HM.out _ _ rfl hkey.out _ HEV.out ?_)
  go_step3
  go_wp2
  clear c1W HM HEV
  go_loopg [6, 7, 22] L0.length (fun gk s6 s7 s22 wx => ∃ (i : Nat) (kept cur : List Nat) (cl1 : List (List Int)) (wt1 : Int → List Nat) (T1 : List Int) (K1 : Nat → Kd), i + gk = L0.length ∧ s22 = .int .i64 (i : Int) ∧ s7 = .bool true ∧ s6 = .slice (some ⟨g, 0, none⟩) kept.length cap ∧ Hid (VisM F W K0 db cl T P T0 gv gone L0 a m g cap nx br i kept cur cl1 wt1 T1 K1 wx))
  case atStart => exact ⟨0, [], L0, cl, wt, T, K0, by omega, rfl, rfl, rfl, HV0⟩
  case round =>
    obtain ⟨i, kept, cur, cl1, wt1, T1, K1, hig, rfl, rfl, rfl, HV⟩ := hrel
    clear HV0
    have hkl := HV.out.kl
    have hle := HV.out.le
    cases gk with
    | zero =>
      obtain rfl : i = L0.length := by omega
      have i1 : ¬ ((L0.length : Int) < (L0.length : Int)) := by omega
      have hdn : L0.drop L0.length = [] := List.drop_length
      have hvz := HV.out.vis
      rw [hdn] at hvz
      have hwz : wt1 gone = kept := by rw [hvz.at_, List.append_nil]
      have hrz := own_cut HV.out.row (k := kept.length) (by omega)
      rw [← List.map_take, HV.out.ck] at hrz
      have HVZ := Lib.hid hvz
      have HWZ := Lib.hid hwz
      have HRZ := Lib.hid hrz
      clear hvz hwz hrz hdn
      obtain ⟨D9, ⟨n9, hD9⟩, hk9, _⟩ := (HV.out.base).mp.has
      have hT9 := ownsMap_tight hD9
      have hf9 := few_keys hk9 (hD9.tidy law30)
      obtain ⟨u0, u2, u3, ub, _, _, _⟩ := (HV.out.base).ob
      have c19 := ub.c1
      have HT9 := Lib.hid hT9
      have HF9 := Lib.hid hf9
      have HD9 := Lib.hid hD9
      clear hT9 hf9 hD9 hk9 ub
      go_wp2_with (at_mapUpdate; refine wpList_update_held rfl _ _ _ 68 rfl 54 55 law30 Try.underlying68 m _ D9 rfl HT9.out (by have := HF9.out; omega) _ _ _ rfl rfl hkey.out ?_)
      intro w9 hM9 hg9
      have hC := close_list (k := kept.length) HLI0.out (HV.out.st) (HV.out.base) (HV.out.gk) (by rw [HWZ.out]) (by rw [HWZ.out]; exact HRZ.out) ⟨_, HD9.out⟩ ⟨_, hM9⟩ hg9
      have HC := Lib.hid hC
      clear hC hM9 hg9 c19
      go_wp2
      rw [Exit.noGoto_ret]
      go_ret
      exact ⟨true, rfl, _, _, _, _, HC.out.1, HC.out.2, HV.out.alk, HV.out.pre, ⟨kept, [], HVZ.out, fun _ => rfl⟩, fun h => by cases h⟩
    | succ G =>
      obtain ⟨j, hLi, hd, cj, c, hjc, hgw, hlen2⟩ := HV.out.now (by omega)
      obtain ⟨gC, zC, gj, z, hKC, cc0, ccj, hKj, hown, back⟩ := HV.out.base.clause hjc (by omega)
      have hjl := (List.getElem?_eq_some_iff.1 hjc).1
      have cl0 := lit_cell hown (k := 0) (by omega)
      have cl1_ := lit_cell hown (k := 1) (by omega)
      have i0 : (0 : Int) ≤ (i : Int) := by omega
      have i1 : (i : Int) < (L0.length : Int) := by omega
      have j0 : (0 : Int) ≤ (j : Int) := by omega
      have j1 : (j : Int) < (cl1.length : Int) := by omega
      have z1 : (1 : Int) < (c.length : Int) := by omega
      have z0 : (0 : Int) < (c.length : Int) := by omega
      have HOWN := Lib.hid hown
      have HB := Lib.hid back
      have HD := Lib.hid hd
      have HJC := Lib.hid hjc
      have HGW := Lib.hid hgw
      have HKC := Lib.hid hKC
      have HKJ := Lib.hid hKj
      clear hown back hLi hd hjc hgw hKC hKj
      obtain ⟨x0, hx0⟩ : ∃ x, c.getD 0 0 = x := ⟨_, rfl⟩
      obtain ⟨x1, hx1⟩ : ∃ x, c.getD 1 0 = x := ⟨_, rfl⟩
      rw [hx0] at cl0
      rw [hx1] at cl1_
      have HX := Lib.hid (And.intro hx0 hx1)
      clear hx0 hx1
      obtain ⟨cx0, fx0⟩ := cl0
      obtain ⟨cx1, fx1⟩ := cl1_
      by_cases hsw : x0 = gone
      · have q1 : (x0 == gone) = true := by rw [hsw]; simp
        have HSW := Lib.hid hsw
        clear hsw
        go_wp2_with fail
        go_region
        have hO2 : Only (fun k => K1 k = .cl j) wr ((wr.setCell ⟨gj, 0, none⟩ (.int .i64 x1)).setCell ⟨gj, 1, none⟩ (.int .i64 x0)).drew := ((Only.of_setCell wr ⟨gj, 0, none⟩ _).mono (fun k _ e => by rw [show k = gj from e]; exact HKJ.out)).comp ((Only.of_setCell _ ⟨gj, 1, none⟩ _).trans (Only.of_below ((Below.refl _ _).drew))) (fun _ _ h => h) (fun k _ e => by rw [show k = gj from e]; exact HKJ.out)
        have hown2 := own_later (swap_own HOWN.out 0 1) ((Below.refl _ _).drew)
        rw [HX.out.1, HX.out.2] at hown2
        have hbs := HB.out _ (swL c 0 1) (swL_len _ _ _) hO2 (by simp) hown2
        have hVs := HV.out.swap HD.out HJC.out hbs
        have cc02 := hO2.cell cc0 (fun e => by rw [HV.out.base.ka] at e; cases e)
        have ccj2 := hO2.cell ccj (fun e => by rw [HKC.out] at e; cases e)
        generalize ((wr.setCell ⟨gj, 0, none⟩ (.int .i64 x1)).setCell ⟨gj, 1, none⟩ (.int .i64 x0)).drew = D1 at *
        have hjs : (cl1.set j (swL c 0 1))[j]? = some (swL c 0 1) := List.getElem?_set_self hjl
        obtain ⟨_, _, hownS, backS⟩ := hVs.base.clause_again hjs (by rw [swL_len]; omega) cc02 ccj2
        have hw0S : w0 (swL c 0 1) = x1 := (swL_w0 hlen2).1.trans HX.out.2
        have hw1S : w1 (swL c 0 1) = gone := (swL_w0 hlen2).2.trans (HX.out.1.trans HSW.out)
        have hlS := swL_len c 0 1
        generalize swL c 0 1 = cS at *
        generalize cl1.set j cS = clS at *
        rw [← hlS] at z0 z1 hlen2
        clear HV HJC HOWN HB cx0 cx1 fx0 fx1 hO2 hown2 hbs HX HGW HSW q1 cc0 ccj
        rw [← hlS]
        have HV := Lib.hid hVs
        have HJC := Lib.hid hjs
        have HOWN := Lib.hid hownS
        have HB := Lib.hid backS
        have HY := Lib.hid hw0S
        have HW1 := Lib.hid hw1S
        have cx0 := (lit_cell hownS (k := 0) (by omega)).1
        have fx0 := (lit_cell hownS (k := 0) (by omega)).2
        have cx1 := (lit_cell hownS (k := 1) (by omega)).1
        have fx1 := (lit_cell hownS (k := 1) (by omega)).2
        rw [show cS.getD 0 0 = x1 from hw0S] at cx0
        rw [show cS.getD 1 0 = gone from hw1S] at cx1
        clear hVs hjs hownS backS hw0S hw1S hlS cc02 ccj2 hjl j1
        have hst_ := HV.out.vis.st
        have htw := hst_.two cS (List.mem_of_getElem? HJC.out)
        have htl := hst_.tlen
        have hly : isLitB x1 = true := by rw [← HY.out]; exact htw.2.2 _ (w0_mem htw.1)
        have H1 := value_at HV.out.base hst_.cons x1 hly
        have H2 := Lib.hid (fun (k : Nat) (hk : k < cS.length) => value_at HV.out.base hst_.cons (cS.getD k 0) (htw.2.2 _ (by rw [getD_eq hk]; exact List.getElem_mem hk)))
        have HST := Lib.hid hst_
        have hcz1 := (own_caps HOWN.out).1
        have hcz2 := (own_caps HOWN.out).2
        have hcz : cS.length ≤ 9223372036854775807 := by omega
        clear hcz1 hcz2
        have HLY := Lib.hid hly
        have HTW := Lib.hid htw
        clear hst_ hly htw
        have hal := below1 D1 (.cells #[.int .i64 (j : Int)] 3)
        have HVa := Lib.hid (HV.out.later hal)
        obtain ⟨w5, hr5, hrow5, hgr5, hsz5⟩ := run_append_in (D1.alloc (.cells #[.int .i64 (j : Int)] 3)) 55 g L0.length cap cur HVa.out.row kept.length 1 1 ⟨D1.heap.size, 0, none⟩ [j] rfl (by omega) (fun jj x hx => by
          rw [Lib.add_plain]
          match jj, hx with
          | 0, hx => cases hx; simp [go_sem, natV])
        have HR5 := Lib.hid hr5
        have HROW5 := Lib.hid hrow5
        have HG5 := Lib.hid hgr5
        have HS5 := Lib.hid hsz5
        clear hr5 hrow5 hgr5 hsz5 hal
        rcases valT_cases T1 x1 with hv0 | hv0
        · rw [hv0] at H1
          have hm0 : w0 cS ∈ T1 := by rw [HY.out]; exact valT_one.1 hv0
          obtain ⟨cur5, hV5⟩ := HVa.out.keep (by omega) HD.out HJC.out HW1.out hm0 HROW5.out HG5.out HS5.out
          have HV5 := Lib.hid hV5
          have HM0 := Lib.hid hm0
          clear hV5 hv0 hm0 H2
          go_wp2_with fail
          refine H1.mono ?_
          rintro e w8 ⟨rfl, hw8⟩
          obtain rfl := hw8.symm
          clear H1
          go_wp2_with (at_builtin; refine Lib.wpList_append_run _ rfl _ _ 55 55 rfl _ _ rfl rfl _ _ HR5.out ?_)
          go_roundg G
          case measure => omega
          case rel => exact ⟨i + 1, kept ++ [j], cur5, _, wt1, T1, K1, by omega, by go_num, rfl, by simp, HV5⟩
        · have hq0 : valT T1 x1 = -1 ∨ valT T1 x1 = 0 := hv0
          have hnm : w0 cS ∉ T1 := by rw [HY.out]; intro hm; have := valT_one.2 hm; omega
          have HQ0 := Lib.hid hq0
          have HNM := Lib.hid hnm
          have hle0 : ¬ (0 < valT T1 x1) := by omega
          obtain ⟨vy, hvy⟩ : ∃ v, valT T1 x1 = v := ⟨_, rfl⟩
          rw [hvy] at H1 hle0
          have HVY := Lib.hid hvy
          clear hq0 hnm hv0 hvy
          have c0g := HST.out
          clear c0g
          go_wp2_with fail
          refine H1.mono ?_
          rintro e w8 ⟨rfl, hw8⟩
          obtain rfl := hw8.symm
          clear H1
          go_wp2_with fail
          go_loopg [11] (cS.length - 2) (fun ik s11 wx => ∃ k : Nat, k + ik = cS.length ∧ 2 ≤ k ∧ s11 = .int .i64 (k : Int) ∧ wx = D1 ∧ Hid (∀ k1, 2 ≤ k1 → k1 < k → -(cS.getD k1 0) ∈ T1))
          case atStart => exact ⟨2, by omega, by omega, rfl, rfl, Lib.hid (fun k1 h1 h2 => by omega)⟩
          case round =>
            obtain ⟨k, hik, hk2, rfl, hwx, HALL⟩ := hrel
            obtain rfl := hwx.symm
            by_cases hkl_ : k < cS.length
            · have H3 := H2.out k hkl_
              have ck := (lit_cell HOWN.out hkl_).1
              have fk := (lit_cell HOWN.out hkl_).2
              have k0 : (0 : Int) ≤ (k : Int) := by omega
              have k1 : (k : Int) < (cS.length : Int) := by omega
              obtain ⟨xk, hxk⟩ : ∃ x, cS.getD k 0 = x := ⟨_, rfl⟩
              rw [hxk] at ck H3
              have HXK := Lib.hid hxk
              clear hxk
              rcases valT_cases T1 xk with hvk | hvk
              · skip
                have hxT : -(cS.getD k 0) ∉ T1 := fun hm => by
                  have := (valT_neg HST.out.cons).2 hm
                  rw [HXK.out] at this; omega
                rw [hvk] at H3
                clear hvk
                have HXT := Lib.hid hxT
                clear hxT
                go_wp2_with fail
                refine H3.mono ?_
                rintro e w8 ⟨rfl, hw8⟩
                obtain rfl := hw8.symm
                clear H3
                go_wp2_with fail
                go_region
                have hO7 : Only (fun k => K1 k = .cl j) D1 ((D1.setCell ⟨gj, 1, none⟩ (.int .i64 xk)).setCell ⟨gj, k, none⟩ (.int .i64 gone)).drew := ((Only.of_setCell D1 ⟨gj, 1, none⟩ _).mono (fun k _ e => by rw [show k = gj from e]; exact HKJ.out)).comp ((Only.of_setCell _ ⟨gj, k, none⟩ _).trans (Only.of_below ((Below.refl _ _).drew))) (fun _ _ h => h) (fun k _ e => by rw [show k = gj from e]; exact HKJ.out)
                have hown7 := own_later (swap_own HOWN.out 1 k) ((Below.refl _ _).drew)
                rw [HXK.out, show cS.getD 1 0 = gone from HW1.out] at hown7
                obtain ⟨hb7, hs7⟩ := HB.out _ (swL cS 1 k) (swL_len _ _ _) hO7 (by simp) hown7
                generalize ((D1.setCell ⟨gj, 1, none⟩ (.int .i64 xk)).setCell ⟨gj, k, none⟩ (.int .i64 gone)).drew = w7 at *
                have c17 := (lit_cell (by rw [swL_len]; exact hown7) (k := 1) (by rw [swL_len]; omega)).1
                rw [show (swL cS 1 k).getD 1 0 = xk by rw [← HXK.out]; exact (swL_w1 hkl_ hk2).2] at c17
                have hne7 := (HST.out.wat gone j)
                have hxg : xk ≠ gone := by rw [← HXK.out, ← HW1.out]; exact getD_ne hkl_ (by omega) HTW.out.2.1 (by omega)
                have hxl : isLitB xk = true := by rw [← HXK.out]; exact HTW.out.2.2 _ (by rw [getD_eq hkl_]; exact List.getElem_mem hkl_)
                have hwl7 := HST.out.wlen xk
                have hfw7 := HST.out.few
                have H7 := watch_at hb7 xk hxl hxg j (by omega)
                have HB7 := Lib.hid (And.intro hb7 hs7)
                have HXG := Lib.hid hxg
                clear hb7 hs7 hO7 hown7 hne7 hxl hxg
                go_wp2_with fail
                refine H7.mono ?_
                rintro e w8 ⟨rfl, K8, hb8, hs8⟩
                clear H7
                have hmv := HV.out.move (by omega) HD.out HJC.out HW1.out HNM.out hkl_ hk2 HXT.out (w1_ := w7) (w2_ := w8) (K2 := K8) HB7.out.2 (by rw [HXK.out]; exact hb8) (by rw [HXK.out]; exact hs8)
                obtain ⟨wt8, hV8⟩ := hmv
                have HV8 := Lib.hid hV8
                clear hV8 hb8 hs8 c17
                go_wp2_with fail
                go_roundg G
                case measure => omega
                case rel => exact ⟨i + 1, kept, cur, _, wt8, T1, K8, by omega, by go_num, rfl, rfl, HV8⟩
              · rcases hvk with hvk | hvk
                · rw [hvk] at H3
                  have hneg : -(cS.getD k 0) ∈ T1 := by rw [HXK.out]; exact (valT_neg HST.out.cons).1 hvk
                  have HNEG := Lib.hid hneg
                  clear hneg hvk
                  go_wp2_with fail
                  refine H3.mono ?_
                  rintro e w8 ⟨rfl, hw8⟩
                  obtain rfl := hw8.symm
                  clear H3
                  go_wp2_with fail
                  go_roundg (cS.length - (k + 1))
                  case measure => omega
                  case rel => exact ⟨k + 1, by omega, by omega, by go_num, rfl, Lib.hid (fun k1 h1 h2 => by
                    by_cases e : k1 < k
                    · exact HALL.out k1 h1 e
                    · obtain rfl : k1 = k := by omega
                      exact HNEG.out)⟩
                · skip
                  have hxT : -(cS.getD k 0) ∉ T1 := fun hm => by
                    have := (valT_neg HST.out.cons).2 hm
                    rw [HXK.out] at this; omega
                  rw [hvk] at H3
                  clear hvk
                  have HXT := Lib.hid hxT
                  clear hxT
                  go_wp2_with fail
                  refine H3.mono ?_
                  rintro e w8 ⟨rfl, hw8⟩
                  obtain rfl := hw8.symm
                  clear H3
                  go_wp2_with fail
                  go_region
                  have hO7 : Only (fun k => K1 k = .cl j) D1 ((D1.setCell ⟨gj, 1, none⟩ (.int .i64 xk)).setCell ⟨gj, k, none⟩ (.int .i64 gone)).drew := ((Only.of_setCell D1 ⟨gj, 1, none⟩ _).mono (fun k _ e => by rw [show k = gj from e]; exact HKJ.out)).comp ((Only.of_setCell _ ⟨gj, k, none⟩ _).trans (Only.of_below ((Below.refl _ _).drew))) (fun _ _ h => h) (fun k _ e => by rw [show k = gj from e]; exact HKJ.out)
                  have hown7 := own_later (swap_own HOWN.out 1 k) ((Below.refl _ _).drew)
                  rw [HXK.out, show cS.getD 1 0 = gone from HW1.out] at hown7
                  obtain ⟨hb7, hs7⟩ := HB.out _ (swL cS 1 k) (swL_len _ _ _) hO7 (by simp) hown7
                  generalize ((D1.setCell ⟨gj, 1, none⟩ (.int .i64 xk)).setCell ⟨gj, k, none⟩ (.int .i64 gone)).drew = w7 at *
                  have c17 := (lit_cell (by rw [swL_len]; exact hown7) (k := 1) (by rw [swL_len]; omega)).1
                  rw [show (swL cS 1 k).getD 1 0 = xk by rw [← HXK.out]; exact (swL_w1 hkl_ hk2).2] at c17
                  have hne7 := (HST.out.wat gone j)
                  have hxg : xk ≠ gone := by rw [← HXK.out, ← HW1.out]; exact getD_ne hkl_ (by omega) HTW.out.2.1 (by omega)
                  have hxl : isLitB xk = true := by rw [← HXK.out]; exact HTW.out.2.2 _ (by rw [getD_eq hkl_]; exact List.getElem_mem hkl_)
                  have hwl7 := HST.out.wlen xk
                  have hfw7 := HST.out.few
                  have H7 := watch_at hb7 xk hxl hxg j (by omega)
                  have HB7 := Lib.hid (And.intro hb7 hs7)
                  have HXG := Lib.hid hxg
                  clear hb7 hs7 hO7 hown7 hne7 hxl hxg
                  go_wp2_with fail
                  refine H7.mono ?_
                  rintro e w8 ⟨rfl, K8, hb8, hs8⟩
                  clear H7
                  have hmv := HV.out.move (by omega) HD.out HJC.out HW1.out HNM.out hkl_ hk2 HXT.out (w1_ := w7) (w2_ := w8) (K2 := K8) HB7.out.2 (by rw [HXK.out]; exact hb8) (by rw [HXK.out]; exact hs8)
                  obtain ⟨wt8, hV8⟩ := hmv
                  have HV8 := Lib.hid hV8
                  clear hV8 hb8 hs8 c17
                  go_wp2_with fail
                  go_roundg G
                  case measure => omega
                  case rel => exact ⟨i + 1, kept, cur, _, wt8, T1, K8, by omega, by go_num, rfl, rfl, HV8⟩
            · obtain rfl : k = cS.length := by omega
              have hall : ∀ k, 2 ≤ k → k < cS.length → -(cS.getD k 0) ∈ T1 := fun k h1 h2 => HALL.out k h1 h2
              obtain ⟨hb5, hs5, cur5, _, ce1, ce2, ce3, hrow5⟩ := HVa.out.app (by omega) HROW5.out HG5.out HS5.out
              have H6 := derive_at hb5 HST.out.cons x1 HLY.out (by omega)
              have hO5 : Only (fun k => K1 k = .wat gone) (D1.alloc (.cells #[.int .i64 (j : Int)] 3)) w5 := (Only.of_grown HG5.out).mono (fun k _ e => by cases e; exact HV.out.gk)
              have cx05 := hO5.cell (cell_later (below1 D1 (.cells #[.int .i64 (j : Int)] 3)) cx0) (fun e => by rw [show K1 gj = .cl j from HKJ.out] at e; cases e)
              have HB5 := Lib.hid (And.intro hb5 hs5)
              have HROW6 := Lib.hid hrow5
              have HCE := Lib.hid (And.intro ce1 (And.intro ce2 ce3))
              have HALL2 := Lib.hid hall
              have hsa : StepB (Wbut gone) D1 w5 K1 K1 := (StepB.below (below1 D1 (.cells #[.int .i64 (j : Int)] 3))).trans hs5
              have HSA := Lib.hid hsa
              clear hb5 hs5 hrow5 ce1 ce2 ce3 hall hO5 hsa
              rcases HQ0.out with hq | hq
              · rw [hq, show addT T1 x1 = T1 from by unfold addT; rw [if_neg (by omega)]] at H6
                have hcl0 : -(w0 cS) ∈ T1 := by rw [HY.out]; exact (valT_neg HST.out.cons).1 hq
                have hvd := HV.out.vis
                rw [HD.out] at hvd
                have hconf := hvd.clash HJC.out HW1.out hcl0 HALL2.out
                have hat9 : wt1 gone = kept ++ j :: L0.drop (i + 1) := hvd.at_
                have HVD := Lib.hid hvd
                have HCF := Lib.hid hconf
                have HAT := Lib.hid hat9
                clear hvd hconf hat9 hcl0 hq
                have ii0 : (0 : Int) ≤ (i : Int) + 1 := by omega
                have ii1 : (i : Int) + 1 ≤ (L0.length : Int) := by omega
                have ii2 : (L0.length : Int) ≤ (cap : Int) := by omega
                have ii3 : (cap : Int) ≤ 9223372036854775807 := by omega
                go_wp2_with (at_builtin; refine Lib.wpList_append_run _ rfl _ _ 55 55 rfl _ _ rfl rfl _ _ HR5.out ?_)
                refine H6.mono ?_
                rintro e w6 ⟨rfl, K6, hb6, hs6⟩
                clear H6
                have hR5 : RowAt w5 K1 (.wat gone) 3 (.slice (some ⟨g, 0, none⟩) L0.length cap) (cur5.map natV) := ⟨by rw [List.length_map, HCE.out.1]; exact HROW6.out, fun k hk => by cases hk; exact HV.out.gk⟩
                have hR6 := hR5.step hs6 (.inr ⟨gone, rfl⟩)
                have hgk6 := hR6.tg g rfl
                have hro6 := hR6.own
                rw [List.length_map, HCE.out.1] at hro6
                have hO6 := hs6.only.size
                by_cases hcc : i + 1 < cap
                · skip
                  obtain ⟨w7, hr7, hrow7, hgr7, hsz7⟩ := run_append_in w6 55 g L0.length cap cur5 hro6 (kept.length + 1) (L0.length - (i + 1)) (cap - (i + 1)) ⟨g, i + 1, none⟩ (L0.drop (i + 1)) (by simp) (by omega) (row_drop hro6 HCE.out.2.2)
                  have ho7 : Only (fun k => K6 k = .wat gone) w6 w7 := (Only.of_grown hgr7).mono (fun k _ e => by cases e; exact hgk6)
                  obtain ⟨hb7, hs7⟩ := hb6.inG ho7 rfl (by omega)
                  have hcut7 := own_cut hrow7 (k := kept.length + 1 + (L0.length - (i + 1))) (by omega)
                  have hcon : (cur5.take (kept.length + 1) ++ L0.drop (i + 1) ++ cur5.drop (kept.length + 1 + (L0.length - (i + 1)))).take (kept.length + 1 + (L0.length - (i + 1))) = kept ++ j :: L0.drop (i + 1) := by
                    have e9 := HCE.out.2.1
                    rw [List.length_append, List.length_singleton] at e9
                    rw [e9, List.take_left' (by simp; omega)]
                    simp
                  rw [← List.map_take, hcon, ← HAT.out] at hcut7
                  have hst7 := (((HV.out.st.trans HSA.out.no).trans hs6.no).trans hs7.no)
                  have hlen7 : kept.length + 1 + (L0.length - (i + 1)) = (wt1 gone).length := by rw [HAT.out]; simp; omega
                  have eqi : ((L0.length - (i + 1) : Nat) : Int) = (L0.length : Int) - ((i : Int) + 1) := by omega
                  have HR7 := Lib.hid hr7
                  have HB7 := Lib.hid hb7
                  have HC7 := Lib.hid hcut7
                  have HST7 := Lib.hid hst7
                  have HL7 := Lib.hid hlen7
                  have HGK6 := Lib.hid hgk6
                  clear hR5 hR6 hro6 hr7 hrow7 hgr7 hsz7 ho7 hb7 hs7 hcut7 hcon hst7 hlen7 hb6 hs6 hgk6 hO6
                  obtain ⟨D9, ⟨n9, hD9⟩, hk9, _⟩ := HB7.out.mp.has
                  have hT9 := ownsMap_tight hD9
                  have hf9 := few_keys hk9 (hD9.tidy law30)
                  obtain ⟨u0, u2, u3, ub, _, _, _⟩ := HB7.out.ob
                  have c19 := ub.c1
                  have HT9 := Lib.hid hT9
                  have HF9 := Lib.hid hf9
                  have HD9 := Lib.hid hD9
                  clear hT9 hf9 hD9 hk9 ub
                  go_wp2_with (first | (at_builtin; refine Lib.wpList_append_run _ rfl _ _ 55 55 rfl _ _ rfl rfl _ _ HR7.out ?_) | (at_mapUpdate; refine wpList_update_held rfl _ _ _ 68 rfl 54 55 law30 Try.underlying68 m _ D9 rfl HT9.out (by have := HF9.out; omega) _ _ _ rfl rfl hkey.out ?_))
                  intro w9 hM9 hg9
                  have hC := close_list (k := kept.length + 1 + (L0.length - (i + 1))) HLI0.out HST7.out HB7.out HGK6.out HL7.out HC7.out ⟨_, HD9.out⟩ ⟨_, hM9⟩ hg9
                  have HC := Lib.hid hC
                  clear hC hM9 hg9 c19
                  go_wp2
                  rw [Exit.noGoto_ret]
                  go_ret
                  exact ⟨false, rfl, _, _, _, _, HC.out.1, HC.out.2, HV.out.alk, HV.out.pre, ⟨kept, _, HVD.out, fun h => by cases h⟩, fun _ => HCF.out⟩
                · have hcc2 : cap = i + 1 := by omega
                  obtain ⟨w7, hr7, hrow7, hgr7, hsz7⟩ := run_append_in w6 55 g L0.length cap cur5 hro6 (kept.length + 1) 0 0 ⟨g, 0, none⟩ (L0.drop (i + 1)) (by simp; omega) (by omega) (fun jj x hx => by rw [List.drop_of_length_le (by omega)] at hx; cases hx)
                  have ho7 : Only (fun k => K6 k = .wat gone) w6 w7 := (Only.of_grown hgr7).mono (fun k _ e => by cases e; exact hgk6)
                  obtain ⟨hb7, hs7⟩ := hb6.inG ho7 rfl (by omega)
                  have hcut7 := own_cut hrow7 (k := kept.length + 1 + 0) (by omega)
                  have hcon : (cur5.take (kept.length + 1) ++ L0.drop (i + 1) ++ cur5.drop (kept.length + 1 + 0)).take (kept.length + 1 + 0) = kept ++ j :: L0.drop (i + 1) := by
                    have e9 := HCE.out.2.1
                    rw [List.length_append, List.length_singleton] at e9
                    rw [e9, List.take_left' (by simp; omega)]
                    simp
                  rw [← List.map_take, hcon, ← HAT.out] at hcut7
                  have hst7 := (((HV.out.st.trans HSA.out.no).trans hs6.no).trans hs7.no)
                  have hlen7 : kept.length + 1 + 0 = (wt1 gone).length := by rw [HAT.out]; simp; omega
                  skip
                  have HR7 := Lib.hid hr7
                  have HB7 := Lib.hid hb7
                  have HC7 := Lib.hid hcut7
                  have HST7 := Lib.hid hst7
                  have HL7 := Lib.hid hlen7
                  have HGK6 := Lib.hid hgk6
                  clear hR5 hR6 hro6 hr7 hrow7 hgr7 hsz7 ho7 hb7 hs7 hcut7 hcon hst7 hlen7 hb6 hs6 hgk6 hO6
                  obtain ⟨D9, ⟨n9, hD9⟩, hk9, _⟩ := HB7.out.mp.has
                  have hT9 := ownsMap_tight hD9
                  have hf9 := few_keys hk9 (hD9.tidy law30)
                  obtain ⟨u0, u2, u3, ub, _, _, _⟩ := HB7.out.ob
                  have c19 := ub.c1
                  have HT9 := Lib.hid hT9
                  have HF9 := Lib.hid hf9
                  have HD9 := Lib.hid hD9
                  clear hT9 hf9 hD9 hk9 ub
                  have hsl : ∀ w, (Instr.slice 55 (.slice (some ⟨g, 0, none⟩) L0.length cap) (some (.int .i64 ((i : Int) + 1))) none none).run Try.prog w = .ok (.slice (some ⟨g, 0, none⟩) 0 0) w := fun w => slice_end w (by omega) (by omega)
                  clear hcc hcc2 hig hik ii1 ii2 ii3
                  go_wp2_with (first | (at_builtin; refine Lib.wpList_append_run _ rfl _ _ 55 55 rfl _ _ rfl rfl _ _ HR7.out ?_) | (at_mapUpdate; refine wpList_update_held rfl _ _ _ 68 rfl 54 55 law30 Try.underlying68 m _ D9 rfl HT9.out (by have := HF9.out; omega) _ _ _ rfl rfl hkey.out ?_))
                  intro w9 hM9 hg9
                  have hC := close_list (k := kept.length + 1 + 0) HLI0.out HST7.out HB7.out HGK6.out HL7.out HC7.out ⟨_, HD9.out⟩ ⟨_, hM9⟩ hg9
                  have HC := Lib.hid hC
                  clear hC hM9 hg9 c19
                  go_wp2
                  rw [Exit.noGoto_ret]
                  go_ret
                  exact ⟨false, rfl, _, _, _, _, HC.out.1, HC.out.2, HV.out.alk, HV.out.pre, ⟨kept, _, HVD.out, fun h => by cases h⟩, fun _ => HCF.out⟩
              · rw [hq, show addT T1 x1 = T1 ++ [x1] from by unfold addT; rw [if_pos hq]] at H6
                have hq2 : valT T1 (w0 cS) = 0 := by rw [HY.out]; exact hq
                have HQ2 := Lib.hid hq2
                clear hq hq2
                go_wp2_with (at_builtin; refine Lib.wpList_append_run _ rfl _ _ 55 55 rfl _ _ rfl rfl _ _ HR5.out ?_)
                refine H6.mono ?_
                rintro e w6 ⟨rfl, K6, hb6, hs6⟩
                clear H6
                have hV6 := HV.out.unit (by omega) HD.out HJC.out HW1.out HQ2.out HALL2.out HCE.out.1 HCE.out.2.1 HCE.out.2.2 HROW6.out HSA.out (w2_ := w6) (K2 := K6) (by rw [HY.out]; exact hb6) hs6
                have HV6 := Lib.hid hV6
                clear hV6 hb6 hs6
                go_wp2_with fail
                go_roundg G
                case measure => omega
                case rel => exact ⟨i + 1, kept ++ [j], cur5, _, wt1, _, K6, by omega, by go_num, rfl, by simp, HV6⟩
      · have q1 : (x0 == gone) = false := by rw [beq_eq_false_iff_ne]; exact hsw
        have hw1 : w1 c = gone := by
          rcases HGW.out with e | e
          · exact absurd (HX.out.1.symm.trans (show c.getD 0 0 = gone from e.symm)) hsw
          · exact e.symm
        have HW1 := Lib.hid hw1
        have HY := Lib.hid (show w0 c = x0 from HX.out.1)
        have hx1g : x1 = gone := HX.out.2.symm.trans hw1
        rw [hx1g] at cx1
        clear hsw hw1 HGW
        have hst_ := HV.out.vis.st
        have htw := hst_.two c (List.mem_of_getElem? HJC.out)
        have htl := hst_.tlen
        have hly : isLitB x0 = true := by rw [← HY.out]; exact htw.2.2 _ (w0_mem htw.1)
        have H1 := value_at HV.out.base hst_.cons x0 hly
        have H2 := Lib.hid (fun (k : Nat) (hk : k < c.length) => value_at HV.out.base hst_.cons (c.getD k 0) (htw.2.2 _ (by rw [getD_eq hk]; exact List.getElem_mem hk)))
        have HST := Lib.hid hst_
        have hcz1 := (own_caps HOWN.out).1
        have hcz2 := (own_caps HOWN.out).2
        have hcz : c.length ≤ 9223372036854775807 := by omega
        clear hcz1 hcz2
        have HLY := Lib.hid hly
        have HTW := Lib.hid htw
        clear hst_ hly htw
        have hal := below1 wr (.cells #[.int .i64 (j : Int)] 3)
        have HVa := Lib.hid (HV.out.later hal)
        obtain ⟨w5, hr5, hrow5, hgr5, hsz5⟩ := run_append_in (wr.alloc (.cells #[.int .i64 (j : Int)] 3)) 55 g L0.length cap cur HVa.out.row kept.length 1 1 ⟨wr.heap.size, 0, none⟩ [j] rfl (by omega) (fun jj x hx => by
          rw [Lib.add_plain]
          match jj, hx with
          | 0, hx => cases hx; simp [go_sem, natV])
        have HR5 := Lib.hid hr5
        have HROW5 := Lib.hid hrow5
        have HG5 := Lib.hid hgr5
        have HS5 := Lib.hid hsz5
        clear hr5 hrow5 hgr5 hsz5 hal
        rcases valT_cases T1 x0 with hv0 | hv0
        · rw [hv0] at H1
          have hm0 : w0 c ∈ T1 := by rw [HY.out]; exact valT_one.1 hv0
          obtain ⟨cur5, hV5⟩ := HVa.out.keep (by omega) HD.out HJC.out HW1.out hm0 HROW5.out HG5.out HS5.out
          have HV5 := Lib.hid hV5
          have HM0 := Lib.hid hm0
          clear hV5 hv0 hm0 H2
          go_wp2_with fail
          refine H1.mono ?_
          rintro e w8 ⟨rfl, hw8⟩
          obtain rfl := hw8.symm
          clear H1
          go_wp2_with (at_builtin; refine Lib.wpList_append_run _ rfl _ _ 55 55 rfl _ _ rfl rfl _ _ HR5.out ?_)
          go_roundg G
          case measure => omega
          case rel => exact ⟨i + 1, kept ++ [j], cur5, _, wt1, T1, K1, by omega, by go_num, rfl, by simp, HV5⟩
        · have hq0 : valT T1 x0 = -1 ∨ valT T1 x0 = 0 := hv0
          have hnm : w0 c ∉ T1 := by rw [HY.out]; intro hm; have := valT_one.2 hm; omega
          have HQ0 := Lib.hid hq0
          have HNM := Lib.hid hnm
          have hle0 : ¬ (0 < valT T1 x0) := by omega
          obtain ⟨vy, hvy⟩ : ∃ v, valT T1 x0 = v := ⟨_, rfl⟩
          rw [hvy] at H1 hle0
          have HVY := Lib.hid hvy
          clear hq0 hnm hv0 hvy
          have c0g := HST.out
          clear c0g
          go_wp2_with fail
          refine H1.mono ?_
          rintro e w8 ⟨rfl, hw8⟩
          obtain rfl := hw8.symm
          clear H1
          go_wp2_with fail
          go_loopg [11] (c.length - 2) (fun ik s11 wx => ∃ k : Nat, k + ik = c.length ∧ 2 ≤ k ∧ s11 = .int .i64 (k : Int) ∧ wx = wr ∧ Hid (∀ k1, 2 ≤ k1 → k1 < k → -(c.getD k1 0) ∈ T1))
          case atStart => exact ⟨2, by omega, by omega, rfl, rfl, Lib.hid (fun k1 h1 h2 => by omega)⟩
          case round =>
            obtain ⟨k, hik, hk2, rfl, hwx, HALL⟩ := hrel
            obtain rfl := hwx.symm
            by_cases hkl_ : k < c.length
            · have H3 := H2.out k hkl_
              have ck := (lit_cell HOWN.out hkl_).1
              have fk := (lit_cell HOWN.out hkl_).2
              have k0 : (0 : Int) ≤ (k : Int) := by omega
              have k1 : (k : Int) < (c.length : Int) := by omega
              obtain ⟨xk, hxk⟩ : ∃ x, c.getD k 0 = x := ⟨_, rfl⟩
              rw [hxk] at ck H3
              have HXK := Lib.hid hxk
              clear hxk
              rcases valT_cases T1 xk with hvk | hvk
              · skip
                have hxT : -(c.getD k 0) ∉ T1 := fun hm => by
                  have := (valT_neg HST.out.cons).2 hm
                  rw [HXK.out] at this; omega
                rw [hvk] at H3
                clear hvk
                have HXT := Lib.hid hxT
                clear hxT
                go_wp2_with fail
                refine H3.mono ?_
                rintro e w8 ⟨rfl, hw8⟩
                obtain rfl := hw8.symm
                clear H3
                go_wp2_with fail
                go_region
                have hO7 : Only (fun k => K1 k = .cl j) wr ((wr.setCell ⟨gj, 1, none⟩ (.int .i64 xk)).setCell ⟨gj, k, none⟩ (.int .i64 gone)).drew := ((Only.of_setCell wr ⟨gj, 1, none⟩ _).mono (fun k _ e => by rw [show k = gj from e]; exact HKJ.out)).comp ((Only.of_setCell _ ⟨gj, k, none⟩ _).trans (Only.of_below ((Below.refl _ _).drew))) (fun _ _ h => h) (fun k _ e => by rw [show k = gj from e]; exact HKJ.out)
                have hown7 := own_later (swap_own HOWN.out 1 k) ((Below.refl _ _).drew)
                rw [HXK.out, show c.getD 1 0 = gone from HW1.out] at hown7
                obtain ⟨hb7, hs7⟩ := HB.out _ (swL c 1 k) (swL_len _ _ _) hO7 (by simp) hown7
                generalize ((wr.setCell ⟨gj, 1, none⟩ (.int .i64 xk)).setCell ⟨gj, k, none⟩ (.int .i64 gone)).drew = w7 at *
                have c17 := (lit_cell (by rw [swL_len]; exact hown7) (k := 1) (by rw [swL_len]; omega)).1
                rw [show (swL c 1 k).getD 1 0 = xk by rw [← HXK.out]; exact (swL_w1 hkl_ hk2).2] at c17
                have hne7 := (HST.out.wat gone j)
                have hxg : xk ≠ gone := by rw [← HXK.out, ← HW1.out]; exact getD_ne hkl_ (by omega) HTW.out.2.1 (by omega)
                have hxl : isLitB xk = true := by rw [← HXK.out]; exact HTW.out.2.2 _ (by rw [getD_eq hkl_]; exact List.getElem_mem hkl_)
                have hwl7 := HST.out.wlen xk
                have hfw7 := HST.out.few
                have H7 := watch_at hb7 xk hxl hxg j (by omega)
                have HB7 := Lib.hid (And.intro hb7 hs7)
                have HXG := Lib.hid hxg
                clear hb7 hs7 hO7 hown7 hne7 hxl hxg
                go_wp2_with fail
                refine H7.mono ?_
                rintro e w8 ⟨rfl, K8, hb8, hs8⟩
                clear H7
                have hmv := HV.out.move (by omega) HD.out HJC.out HW1.out HNM.out hkl_ hk2 HXT.out (w1_ := w7) (w2_ := w8) (K2 := K8) HB7.out.2 (by rw [HXK.out]; exact hb8) (by rw [HXK.out]; exact hs8)
                obtain ⟨wt8, hV8⟩ := hmv
                have HV8 := Lib.hid hV8
                clear hV8 hb8 hs8 c17
                go_wp2_with fail
                go_roundg G
                case measure => omega
                case rel => exact ⟨i + 1, kept, cur, _, wt8, T1, K8, by omega, by go_num, rfl, rfl, HV8⟩
              · rcases hvk with hvk | hvk
                · rw [hvk] at H3
                  have hneg : -(c.getD k 0) ∈ T1 := by rw [HXK.out]; exact (valT_neg HST.out.cons).1 hvk
                  have HNEG := Lib.hid hneg
                  clear hneg hvk
                  go_wp2_with fail
                  refine H3.mono ?_
                  rintro e w8 ⟨rfl, hw8⟩
                  obtain rfl := hw8.symm
                  clear H3
                  go_wp2_with fail
                  go_roundg (c.length - (k + 1))
                  case measure => omega
                  case rel => exact ⟨k + 1, by omega, by omega, by go_num, rfl, Lib.hid (fun k1 h1 h2 => by
                    by_cases e : k1 < k
                    · exact HALL.out k1 h1 e
                    · obtain rfl : k1 = k := by omega
                      exact HNEG.out)⟩
                · skip
                  have hxT : -(c.getD k 0) ∉ T1 := fun hm => by
                    have := (valT_neg HST.out.cons).2 hm
                    rw [HXK.out] at this; omega
                  rw [hvk] at H3
                  clear hvk
                  have HXT := Lib.hid hxT
                  clear hxT
                  go_wp2_with fail
                  refine H3.mono ?_
                  rintro e w8 ⟨rfl, hw8⟩
                  obtain rfl := hw8.symm
                  clear H3
                  go_wp2_with fail
                  go_region
                  have hO7 : Only (fun k => K1 k = .cl j) wr ((wr.setCell ⟨gj, 1, none⟩ (.int .i64 xk)).setCell ⟨gj, k, none⟩ (.int .i64 gone)).drew := ((Only.of_setCell wr ⟨gj, 1, none⟩ _).mono (fun k _ e => by rw [show k = gj from e]; exact HKJ.out)).comp ((Only.of_setCell _ ⟨gj, k, none⟩ _).trans (Only.of_below ((Below.refl _ _).drew))) (fun _ _ h => h) (fun k _ e => by rw [show k = gj from e]; exact HKJ.out)
                  have hown7 := own_later (swap_own HOWN.out 1 k) ((Below.refl _ _).drew)
                  rw [HXK.out, show c.getD 1 0 = gone from HW1.out] at hown7
                  obtain ⟨hb7, hs7⟩ := HB.out _ (swL c 1 k) (swL_len _ _ _) hO7 (by simp) hown7
                  generalize ((wr.setCell ⟨gj, 1, none⟩ (.int .i64 xk)).setCell ⟨gj, k, none⟩ (.int .i64 gone)).drew = w7 at *
                  have c17 := (lit_cell (by rw [swL_len]; exact hown7) (k := 1) (by rw [swL_len]; omega)).1
                  rw [show (swL c 1 k).getD 1 0 = xk by rw [← HXK.out]; exact (swL_w1 hkl_ hk2).2] at c17
                  have hne7 := (HST.out.wat gone j)
                  have hxg : xk ≠ gone := by rw [← HXK.out, ← HW1.out]; exact getD_ne hkl_ (by omega) HTW.out.2.1 (by omega)
                  have hxl : isLitB xk = true := by rw [← HXK.out]; exact HTW.out.2.2 _ (by rw [getD_eq hkl_]; exact List.getElem_mem hkl_)
                  have hwl7 := HST.out.wlen xk
                  have hfw7 := HST.out.few
                  have H7 := watch_at hb7 xk hxl hxg j (by omega)
                  have HB7 := Lib.hid (And.intro hb7 hs7)
                  have HXG := Lib.hid hxg
                  clear hb7 hs7 hO7 hown7 hne7 hxl hxg
                  go_wp2_with fail
                  refine H7.mono ?_
                  rintro e w8 ⟨rfl, K8, hb8, hs8⟩
                  clear H7
                  have hmv := HV.out.move (by omega) HD.out HJC.out HW1.out HNM.out hkl_ hk2 HXT.out (w1_ := w7) (w2_ := w8) (K2 := K8) HB7.out.2 (by rw [HXK.out]; exact hb8) (by rw [HXK.out]; exact hs8)
                  obtain ⟨wt8, hV8⟩ := hmv
                  have HV8 := Lib.hid hV8
                  clear hV8 hb8 hs8 c17
                  go_wp2_with fail
                  go_roundg G
                  case measure => omega
                  case rel => exact ⟨i + 1, kept, cur, _, wt8, T1, K8, by omega, by go_num, rfl, rfl, HV8⟩
            · obtain rfl : k = c.length := by omega
              have hall : ∀ k, 2 ≤ k → k < c.length → -(c.getD k 0) ∈ T1 := fun k h1 h2 => HALL.out k h1 h2
              obtain ⟨hb5, hs5, cur5, _, ce1, ce2, ce3, hrow5⟩ := HVa.out.app (by omega) HROW5.out HG5.out HS5.out
              have H6 := derive_at hb5 HST.out.cons x0 HLY.out (by omega)
              have hO5 : Only (fun k => K1 k = .wat gone) (wr.alloc (.cells #[.int .i64 (j : Int)] 3)) w5 := (Only.of_grown HG5.out).mono (fun k _ e => by cases e; exact HV.out.gk)
              have cx05 := hO5.cell (cell_later (below1 wr (.cells #[.int .i64 (j : Int)] 3)) cx0) (fun e => by rw [show K1 gj = .cl j from HKJ.out] at e; cases e)
              have HB5 := Lib.hid (And.intro hb5 hs5)
              have HROW6 := Lib.hid hrow5
              have HCE := Lib.hid (And.intro ce1 (And.intro ce2 ce3))
              have HALL2 := Lib.hid hall
              have hsa : StepB (Wbut gone) wr w5 K1 K1 := (StepB.below (below1 wr (.cells #[.int .i64 (j : Int)] 3))).trans hs5
              have HSA := Lib.hid hsa
              clear hb5 hs5 hrow5 ce1 ce2 ce3 hall hO5 hsa
              rcases HQ0.out with hq | hq
              · rw [hq, show addT T1 x0 = T1 from by unfold addT; rw [if_neg (by omega)]] at H6
                have hcl0 : -(w0 c) ∈ T1 := by rw [HY.out]; exact (valT_neg HST.out.cons).1 hq
                have hvd := HV.out.vis
                rw [HD.out] at hvd
                have hconf := hvd.clash HJC.out HW1.out hcl0 HALL2.out
                have hat9 : wt1 gone = kept ++ j :: L0.drop (i + 1) := hvd.at_
                have HVD := Lib.hid hvd
                have HCF := Lib.hid hconf
                have HAT := Lib.hid hat9
                clear hvd hconf hat9 hcl0 hq
                have ii0 : (0 : Int) ≤ (i : Int) + 1 := by omega
                have ii1 : (i : Int) + 1 ≤ (L0.length : Int) := by omega
                have ii2 : (L0.length : Int) ≤ (cap : Int) := by omega
                have ii3 : (cap : Int) ≤ 9223372036854775807 := by omega
                go_wp2_with (at_builtin; refine Lib.wpList_append_run _ rfl _ _ 55 55 rfl _ _ rfl rfl _ _ HR5.out ?_)
                refine H6.mono ?_
                rintro e w6 ⟨rfl, K6, hb6, hs6⟩
                clear H6
                have hR5 : RowAt w5 K1 (.wat gone) 3 (.slice (some ⟨g, 0, none⟩) L0.length cap) (cur5.map natV) := ⟨by rw [List.length_map, HCE.out.1]; exact HROW6.out, fun k hk => by cases hk; exact HV.out.gk⟩
                have hR6 := hR5.step hs6 (.inr ⟨gone, rfl⟩)
                have hgk6 := hR6.tg g rfl
                have hro6 := hR6.own
                rw [List.length_map, HCE.out.1] at hro6
                have hO6 := hs6.only.size
                by_cases hcc : i + 1 < cap
                · skip
                  obtain ⟨w7, hr7, hrow7, hgr7, hsz7⟩ := run_append_in w6 55 g L0.length cap cur5 hro6 (kept.length + 1) (L0.length - (i + 1)) (cap - (i + 1)) ⟨g, i + 1, none⟩ (L0.drop (i + 1)) (by simp) (by omega) (row_drop hro6 HCE.out.2.2)
                  have ho7 : Only (fun k => K6 k = .wat gone) w6 w7 := (Only.of_grown hgr7).mono (fun k _ e => by cases e; exact hgk6)
                  obtain ⟨hb7, hs7⟩ := hb6.inG ho7 rfl (by omega)
                  have hcut7 := own_cut hrow7 (k := kept.length + 1 + (L0.length - (i + 1))) (by omega)
                  have hcon : (cur5.take (kept.length + 1) ++ L0.drop (i + 1) ++ cur5.drop (kept.length + 1 + (L0.length - (i + 1)))).take (kept.length + 1 + (L0.length - (i + 1))) = kept ++ j :: L0.drop (i + 1) := by
                    have e9 := HCE.out.2.1
                    rw [List.length_append, List.length_singleton] at e9
                    rw [e9, List.take_left' (by simp; omega)]
                    simp
                  rw [← List.map_take, hcon, ← HAT.out] at hcut7
                  have hst7 := (((HV.out.st.trans HSA.out.no).trans hs6.no).trans hs7.no)
                  have hlen7 : kept.length + 1 + (L0.length - (i + 1)) = (wt1 gone).length := by rw [HAT.out]; simp; omega
                  have eqi : ((L0.length - (i + 1) : Nat) : Int) = (L0.length : Int) - ((i : Int) + 1) := by omega
                  have HR7 := Lib.hid hr7
                  have HB7 := Lib.hid hb7
                  have HC7 := Lib.hid hcut7
                  have HST7 := Lib.hid hst7
                  have HL7 := Lib.hid hlen7
                  have HGK6 := Lib.hid hgk6
                  clear hR5 hR6 hro6 hr7 hrow7 hgr7 hsz7 ho7 hb7 hs7 hcut7 hcon hst7 hlen7 hb6 hs6 hgk6 hO6
                  obtain ⟨D9, ⟨n9, hD9⟩, hk9, _⟩ := HB7.out.mp.has
                  have hT9 := ownsMap_tight hD9
                  have hf9 := few_keys hk9 (hD9.tidy law30)
                  obtain ⟨u0, u2, u3, ub, _, _, _⟩ := HB7.out.ob
                  have c19 := ub.c1
                  have HT9 := Lib.hid hT9
                  have HF9 := Lib.hid hf9
                  have HD9 := Lib.hid hD9
                  clear hT9 hf9 hD9 hk9 ub
                  go_wp2_with (first | (at_builtin; refine Lib.wpList_append_run _ rfl _ _ 55 55 rfl _ _ rfl rfl _ _ HR7.out ?_) | (at_mapUpdate; refine wpList_update_held rfl _ _ _ 68 rfl 54 55 law30 Try.underlying68 m _ D9 rfl HT9.out (by have := HF9.out; omega) _ _ _ rfl rfl hkey.out ?_))
                  intro w9 hM9 hg9
                  have hC := close_list (k := kept.length + 1 + (L0.length - (i + 1))) HLI0.out HST7.out HB7.out HGK6.out HL7.out HC7.out ⟨_, HD9.out⟩ ⟨_, hM9⟩ hg9
                  have HC := Lib.hid hC
                  clear hC hM9 hg9 c19
                  go_wp2
                  rw [Exit.noGoto_ret]
                  go_ret
                  exact ⟨false, rfl, _, _, _, _, HC.out.1, HC.out.2, HV.out.alk, HV.out.pre, ⟨kept, _, HVD.out, fun h => by cases h⟩, fun _ => HCF.out⟩
                · have hcc2 : cap = i + 1 := by omega
                  obtain ⟨w7, hr7, hrow7, hgr7, hsz7⟩ := run_append_in w6 55 g L0.length cap cur5 hro6 (kept.length + 1) 0 0 ⟨g, 0, none⟩ (L0.drop (i + 1)) (by simp; omega) (by omega) (fun jj x hx => by rw [List.drop_of_length_le (by omega)] at hx; cases hx)
                  have ho7 : Only (fun k => K6 k = .wat gone) w6 w7 := (Only.of_grown hgr7).mono (fun k _ e => by cases e; exact hgk6)
                  obtain ⟨hb7, hs7⟩ := hb6.inG ho7 rfl (by omega)
                  have hcut7 := own_cut hrow7 (k := kept.length + 1 + 0) (by omega)
                  have hcon : (cur5.take (kept.length + 1) ++ L0.drop (i + 1) ++ cur5.drop (kept.length + 1 + 0)).take (kept.length + 1 + 0) = kept ++ j :: L0.drop (i + 1) := by
                    have e9 := HCE.out.2.1
                    rw [List.length_append, List.length_singleton] at e9
                    rw [e9, List.take_left' (by simp; omega)]
                    simp
                  rw [← List.map_take, hcon, ← HAT.out] at hcut7
                  have hst7 := (((HV.out.st.trans HSA.out.no).trans hs6.no).trans hs7.no)
                  have hlen7 : kept.length + 1 + 0 = (wt1 gone).length := by rw [HAT.out]; simp; omega
                  skip
                  have HR7 := Lib.hid hr7
                  have HB7 := Lib.hid hb7
                  have HC7 := Lib.hid hcut7
                  have HST7 := Lib.hid hst7
                  have HL7 := Lib.hid hlen7
                  have HGK6 := Lib.hid hgk6
                  clear hR5 hR6 hro6 hr7 hrow7 hgr7 hsz7 ho7 hb7 hs7 hcut7 hcon hst7 hlen7 hb6 hs6 hgk6 hO6
                  obtain ⟨D9, ⟨n9, hD9⟩, hk9, _⟩ := HB7.out.mp.has
                  have hT9 := ownsMap_tight hD9
                  have hf9 := few_keys hk9 (hD9.tidy law30)
                  obtain ⟨u0, u2, u3, ub, _, _, _⟩ := HB7.out.ob
                  have c19 := ub.c1
                  have HT9 := Lib.hid hT9
                  have HF9 := Lib.hid hf9
                  have HD9 := Lib.hid hD9
                  clear hT9 hf9 hD9 hk9 ub
                  have hsl : ∀ w, (Instr.slice 55 (.slice (some ⟨g, 0, none⟩) L0.length cap) (some (.int .i64 ((i : Int) + 1))) none none).run Try.prog w = .ok (.slice (some ⟨g, 0, none⟩) 0 0) w := fun w => slice_end w (by omega) (by omega)
                  clear hcc hcc2 hig hik ii1 ii2 ii3
                  go_wp2_with (first | (at_builtin; refine Lib.wpList_append_run _ rfl _ _ 55 55 rfl _ _ rfl rfl _ _ HR7.out ?_) | (at_mapUpdate; refine wpList_update_held rfl _ _ _ 68 rfl 54 55 law30 Try.underlying68 m _ D9 rfl HT9.out (by have := HF9.out; omega) _ _ _ rfl rfl hkey.out ?_))
                  intro w9 hM9 hg9
                  have hC := close_list (k := kept.length + 1 + 0) HLI0.out HST7.out HB7.out HGK6.out HL7.out HC7.out ⟨_, HD9.out⟩ ⟨_, hM9⟩ hg9
                  have HC := Lib.hid hC
                  clear hC hM9 hg9 c19
                  go_wp2
                  rw [Exit.noGoto_ret]
                  go_ret
                  exact ⟨false, rfl, _, _, _, _, HC.out.1, HC.out.2, HV.out.alk, HV.out.pre, ⟨kept, _, HVD.out, fun h => by cases h⟩, fun _ => HCF.out⟩
              · rw [hq, show addT T1 x0 = T1 ++ [x0] from by unfold addT; rw [if_pos hq]] at H6
                have hq2 : valT T1 (w0 c) = 0 := by rw [HY.out]; exact hq
                have HQ2 := Lib.hid hq2
                clear hq hq2
                go_wp2_with (at_builtin; refine Lib.wpList_append_run _ rfl _ _ 55 55 rfl _ _ rfl rfl _ _ HR5.out ?_)
                refine H6.mono ?_
                rintro e w6 ⟨rfl, K6, hb6, hs6⟩
                clear H6
                have hV6 := HV.out.unit (by omega) HD.out HJC.out HW1.out HQ2.out HALL2.out HCE.out.1 HCE.out.2.1 HCE.out.2.2 HROW6.out HSA.out (w2_ := w6) (K2 := K6) (by rw [HY.out]; exact hb6) hs6
                have HV6 := Lib.hid hV6
                clear hV6 hb6 hs6
                go_wp2_with fail
                go_roundg G
                case measure => omega
                case rel => exact ⟨i + 1, kept ++ [j], cur5, _, wt1, _, K6, by omega, by go_num, rfl, by simp, HV6⟩
end Go.Proofs.Ytgdncnalahdjeaa
