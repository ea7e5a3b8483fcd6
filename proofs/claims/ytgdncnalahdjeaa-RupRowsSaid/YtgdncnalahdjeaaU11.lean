/- A base: propagate. -/
import Derived.Test.YtgdncnalahdjeaaU9
import Derived.Test.YtgdncnalahdjeaaU10
import Derived.Deep.RegionWith
namespace Go.Proofs.Ytgdncnalahdjeaa
open Go Go.RowKit Go.Maps

theorem visit_at {F : Prop} {W : World} {K0 : Nat → Kd} {a m : Nat} {db cl : List (List Int)} {wt : Int → List Nat} {T P T0 gv : List Int} {nx : Nat} {br : Bool} {gone : Int} (h : BaseAt W K0 a m (fun _ => False) cl wt T T nx br) (hv : Vis F db cl wt T P T0 gv gone [] (wt gone)) (hli : isLitB gone = true) (hcl : db.length ≤ 1000000) :
    Calls Try.prog 87 #[.pointer (some ⟨a, 0, none⟩), .int .i64 gone] W fun e w' => ∃ ok, e = .returned (.bool ok) ∧ ∃ K' cl' wt' T', VisEnd F W K0 db cl T P T0 gv gone a m nx br ok w' K' cl' wt' T' := by
  by_cases hL : wt gone = []
  · exact visit_none h hv hli hcl hL
  · exact visit_some h hv hli hcl (List.length_pos_iff.2 hL)
/-- a base while it propagates. -/
structure PropI (F : Prop) (W : World) (K0 : Nat → Kd) (db cl : List (List Int)) (T T0 gv : List Int) (a m : Nat) (br : Bool) (w' : World) (K' : Nat → Kd) (cl' : List (List Int)) (wt' : Int → List Nat) (T' : List Int) (nx : Nat) : Prop where
  base : BaseAt w' K' a m (fun _ => False) cl' wt' T' T' nx br
  st : StepB NoQ W w' K0 K'
  stc : Struct db cl' wt' T'
  der : ∀ l, l ∈ T' → Der db gv l
  alk : Alk cl cl'
  pre : ∃ new, T' = T ++ new
  t0 : ∀ l, l ∈ T0 → l ∈ T'
  wt0 : F → Watch cl' T0 T0
  wat : F → Watch cl' (T'.take nx) T'
  le : nx ≤ T'.length
section
variable {F : Prop} {W : World} {K0 : Nat → Kd} {db cl : List (List Int)} {T T0 gv : List Int} {a m : Nat} {br : Bool} {w' : World} {K' : Nat → Kd} {cl' : List (List Int)} {wt' : Int → List Nat} {T' : List Int} {nx : Nat}
theorem PropI.later (h : PropI F W K0 db cl T T0 gv a m br w' K' cl' wt' T' nx) {w2 : World} (hb : Below w'.heap.size w' w2) : PropI F W K0 db cl T T0 gv a m br w2 K' cl' wt' T' nx :=
  ⟨h.base.later hb, h.st.trans (StepB.below hb), h.stc, h.der, h.alk, h.pre, h.t0, h.wt0, h.wat, h.le⟩
theorem PropI.vis (h : PropI F W K0 db cl T T0 gv a m br w' K' cl' wt' T' nx) (hn : nx < T'.length) : Vis F db cl' wt' T' (T'.take nx) T0 gv (-T'[nx]) [] (wt' (-T'[nx])) := by
  refine ⟨h.stc, by simp, by rw [Int.neg_neg]; exact List.getElem_mem hn, fun l hl => List.mem_of_mem_take hl, h.der, h.t0, h.wt0, fun hF j c hj => ?_⟩
  have hw := h.wat hF c (List.mem_of_getElem? hj)
  refine ⟨fun hm => ?_, fun hm => ?_⟩
  · rcases hm with hm | ⟨a1, a2⟩
    · exact hw.1 hm
    · exact absurd ((h.stc.wat _ j).2 ⟨c, hj, .inl a1.symm⟩) a2
  · rcases hm with hm | ⟨a1, a2⟩
    · exact hw.2 hm
    · exact absurd ((h.stc.wat _ j).2 ⟨c, hj, .inr a1.symm⟩) a2
theorem PropI.visited (h : PropI F W K0 db cl T T0 gv a m br w' K' cl' wt' T' nx) (hn : nx < T'.length) {ok : Bool} {w2 : World} {K2 : Nat → Kd} {cl2 : List (List Int)} {wt2 : Int → List Nat} {T2 : List Int} (hv : VisEnd F w' K' db cl' T' (T'.take nx) T0 gv (-T'[nx]) a m nx br ok w2 K2 cl2 wt2 T2) :
    (ok = false → ∃ c3, PropI F W K0 db cl T T0 gv a m br w2 K2 c3 wt2 T2 nx ∨ True) ∧ (ok = true → PropI F W K0 db cl T T0 gv a m br (w2.setCell ⟨a, 4, none⟩ (.int .i64 ((nx + 1 : Nat) : Int))) K2 cl2 wt2 T2 (nx + 1)) := by
  obtain ⟨kept, rest, hvis, hr⟩ := hv.vis
  obtain ⟨n1, e1⟩ := h.pre
  obtain ⟨n2, e2⟩ := hv.pre
  refine ⟨fun _ => ⟨cl2, .inr trivial⟩, fun hok => ?_⟩
  have hr0 := hr hok
  subst hr0
  obtain ⟨hb, hs⟩ := hv.base.put4 (nx + 1)
  have htake : T2.take (nx + 1) = T'.take nx ++ [T'[nx]] := by
    rw [e2, List.take_append_of_le_length (by omega), List.take_append_getElem]
  refine ⟨hb, (h.st.trans hv.st).trans hs.no, hvis.st, hvis.der, h.alk.trans hv.alk, ⟨n1 ++ n2, by rw [e2, e1]; simp⟩, hvis.t0, hvis.wt0, fun hF => ?_, by rw [e2]; simp; omega⟩
  have := hvis.end_ hF
  rw [Int.neg_neg] at this
  rw [htake]
  exact this
/-- what propagate leaves. -/
structure PropEnd (F : Prop) (W : World) (K0 : Nat → Kd) (db cl : List (List Int)) (T T0 gv : List Int) (a m : Nat) (br ok : Bool) (w' : World) (K' : Nat → Kd) (cl' : List (List Int)) (wt' : Int → List Nat) (T' : List Int) (nx : Nat) : Prop where
  base : BaseAt w' K' a m (fun _ => False) cl' wt' T' T' nx br
  st : StepB NoQ W w' K0 K'
  stc : Struct db cl' wt' T'
  der : ∀ l, l ∈ T' → Der db gv l
  alk : Alk cl cl'
  pre : ∃ new, T' = T ++ new
  wt0 : F → Watch cl' T0 T0
  le : nx ≤ T'.length
  yes : ok = true → nx = T'.length ∧ (F → Watch cl' T' T')
  no : ok = false → Confl db gv
theorem PropI.bad (h : PropI F W K0 db cl T T0 gv a m br w' K' cl' wt' T' nx) (hn : nx < T'.length) {w2 : World} {K2 : Nat → Kd} {cl2 : List (List Int)} {wt2 : Int → List Nat} {T2 : List Int} (hv : VisEnd F w' K' db cl' T' (T'.take nx) T0 gv (-T'[nx]) a m nx br false w2 K2 cl2 wt2 T2) : PropEnd F W K0 db cl T T0 gv a m br false w2 K2 cl2 wt2 T2 nx := by
  obtain ⟨kept, rest, hvis, hr⟩ := hv.vis
  obtain ⟨n1, e1⟩ := h.pre
  obtain ⟨n2, e2⟩ := hv.pre
  exact ⟨hv.base, h.st.trans hv.st, hvis.st, hvis.der, h.alk.trans hv.alk, ⟨n1 ++ n2, by rw [e2, e1]; simp⟩, hvis.wt0, by rw [e2]; simp; omega, (fun h => by cases h), hv.no⟩
theorem PropI.done (h : PropI F W K0 db cl T T0 gv a m br w' K' cl' wt' T' nx) (hn : nx = T'.length) : PropEnd F W K0 db cl T T0 gv a m br true w' K' cl' wt' T' nx :=
  ⟨h.base, h.st, h.stc, h.der, h.alk, h.pre, h.wt0, h.le, fun _ => ⟨hn, fun hF => by have := h.wat hF; rw [hn, List.take_length] at this; exact this⟩, fun h => by cases h⟩
end
set_option maxRecDepth 100000 in
set_option maxHeartbeats 1600000 in
theorem propagate_at {F : Prop} {W : World} {K0 : Nat → Kd} {db cl : List (List Int)} {T T0 gv : List Int} {a m : Nat} {br : Bool} {wt : Int → List Nat} {nx : Nat} {T1 : List Int} {cl1 : List (List Int)} {K1 : Nat → Kd} {w1 : World} (h : PropI F W K0 db cl T T0 gv a m br w1 K1 cl1 wt T1 nx) (hcl : db.length ≤ 1000000) :
    Calls Try.prog 74 #[.pointer (some ⟨a, 0, none⟩)] w1 fun e w' => ∃ ok, e = .returned (.bool ok) ∧ ∃ K' cl' wt' T' nx', PropEnd F W K0 db cl T T0 gv a m br ok w' K' cl' wt' T' nx' := by
  have H := Lib.hid h
  have hx0 : nx ≤ 2097153 := Nat.le_trans h.le h.stc.tlen
  clear h
  go_enter Try.func74, Try.ntmps74
  go_wp2_with fail
  go_loopg [2] 3000000 (fun gk s2 wx => ∃ (K2 : Nat → Kd) (cl2 : List (List Int)) (wt2 : Int → List Nat) (T2 : List Int) (nx2 : Nat), nx2 + gk = nx + 3000000 ∧ s2 = .bool false ∧ Hid (PropI F W K0 db cl T T0 gv a m br wx K2 cl2 wt2 T2 nx2))
  case atStart => exact ⟨K1, cl1, wt, T1, nx, rfl, rfl, H⟩
  case round =>
    obtain ⟨K2, cl2, wt2, T2, nx2, hg, rfl, HP⟩ := hrel
    clear H
    have HG := Lib.hid hg
    have hgpos : 0 < gk := by have := HP.out.le; have := HP.out.stc.tlen; omega
    clear hg
    have hle := HP.out.le
    have htl := HP.out.stc.tlen
    have HP2 := Lib.hid (HP.out.later (w2 := wr.drew) ((Below.refl _ _).drew))
    obtain ⟨v0, v2, v3, ob, _, _, r3⟩ := HP2.out.base.ob
    obtain ⟨p3, c3, hv3, hB_⟩ := own_shp r3.own
    clear hB_
    subst hv3
    rw [List.length_map] at ob r3
    have c3D := ob.c3
    have c4D := ob.c4
    have hS : wr.drew.cell? ⟨a, 3, none⟩ = some (.slice p3 T2.length c3) ∧ wr.drew.cell? ⟨a, 4, none⟩ = some (.int .i64 (nx2 : Int)) := ⟨c3D, c4D⟩
    have R3 := Lib.hid r3
    have OB := Lib.hid ob
    have HS := Lib.hid hS
    clear ob r3 c3D c4D HP
    go_wp2_with fail
    go_region_held3 (fun w' => w'.cell? ⟨a, 3, none⟩ = some (.slice p3 T2.length c3) ∧ w'.cell? ⟨a, 4, none⟩ = some (.int .i64 (nx2 : Int))) (exact hS) (first | fail)
    generalize wr.drew = D at *
    clear hS
    by_cases hn : nx2 < T2.length
    · have hni : (nx2 : Int) < (T2.length : Int) := by omega
      obtain ⟨gT, cT, hpT⟩ := own_some R3.out.own (by simpa using (by omega : 0 < T2.length))
      simp only [Value.slice.injEq] at hpT
      obtain ⟨rfl, hA_, rfl⟩ := hpT
      clear hA_
      have hcellx : D.cell? ⟨gT, nx2, none⟩ = some (.int .i64 T2[nx2]) := (own_cell (by have := R3.out.own; rw [List.length_map] at this; exact this) nx2 (litV T2[nx2]) (by simp [List.getElem?_map, List.getElem?_eq_getElem hn])).1
      have hlit := HP2.out.stc.lit _ (List.getElem_mem hn)
      obtain ⟨l0, l1, l2⟩ := litB_in hlit
      have hlg : isLitB (-T2[nx2]) = true := by unfold isLitB; simp; omega
      have hDr : Below D.heap.size D D.drew := (Below.refl _ _).drew
      have HP3 := Lib.hid (HP2.out.later hDr)
      have hx3 := cell_later hDr hcellx
      have c33 := cell_later hDr HS.out.1
      have c43 := cell_later hDr HS.out.2
      have HV := Lib.hid (visit_at HP3.out.base (HP3.out.vis hn) hlg hcl)
      have HVV := Lib.hid (fun (ok : Bool) (w2 : World) (K3 : Nat → Kd) (cl3 : List (List Int)) (wt3 : Int → List Nat) (T3 : List Int) => HP3.out.visited hn (ok := ok) (w2 := w2) (K2 := K3) (cl2 := cl3) (wt2 := wt3) (T2 := T3))
      have HBAD := Lib.hid (fun (w2 : World) (K3 : Nat → Kd) (cl3 : List (List Int)) (wt3 : Int → List Nat) (T3 : List Int) => HP3.out.bad hn (w2 := w2) (K2 := K3) (cl2 := cl3) (wt2 := wt3) (T2 := T3))
      have n0 : (0 : Int) ≤ (nx2 : Int) := by omega
      have n2 : (nx2 : Int) ≤ 2097153 := by omega
      generalize hxx : T2[nx2] = x at *
      have ew : IntKind.i64.wrap (-x) = -x := by rw [IntKind.wrap_i64]; omega
      have hv0 := HV.out
      rw [← ew] at hv0
      have HV0 := Lib.hid hv0
      clear hv0 HV
      have EW := Lib.hid ew
      clear ew
      clear hlit hlg hDr hxx hcellx
      have HN_ := Lib.hid (And.intro hn (And.intro hle (And.intro htl hgpos)))
      clear hn hle htl hgpos hx0
      go_wp2_with fail
      go_region_with (go_at_call 87; refine HV0.out.mono ?_; rintro e w9 ⟨ok, rfl, K3, cl3, wt3, T3, hv3⟩)
      all_goals
        rw [EW.out] at hv3
        have HV3 := Lib.hid hv3
        obtain ⟨y0, y2, y3, yb, _, _, _⟩ := hv3.base.ob
        have c49 := yb.c4
        have f49 := yb.fz 4
        clear hv3 yb
        cases ok
        · have HE := Lib.hid (HBAD.out _ _ _ _ _ HV3.out)
          go_wp2_with fail
          go_ret
          exact ⟨false, rfl, _, _, _, _, _, HE.out⟩
        · have hy := (HVV.out _ _ _ _ _ _ HV3.out).2 rfl
          rw [show ((nx2 + 1 : Nat) : Int) = (nx2 : Int) + 1 by omega] at hy
          have HY := Lib.hid hy
          clear hy HVV HBAD
          go_wp2_with fail
          go_roundg (gk - 1)
          case measure => have := HN_.out; omega
          case rel => exact ⟨K3, cl3, wt3, T3, nx2 + 1, by have := HN_.out; have := HG.out; omega, rfl, HY⟩
    · obtain rfl : nx2 = T2.length := by omega
      go_wp2_with fail
      go_ret
      exact ⟨true, rfl, _, _, _, _, _, HP2.out.done rfl⟩
end Go.Proofs.Ytgdncnalahdjeaa
