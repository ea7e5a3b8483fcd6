/- rup.Follows and rup.Units. -/
import Derived.Test.YtgdncnalahdjeaaU16
namespace Go.Proofs.Ytgdncnalahdjeaa
open Go Go.RowKit Go.Maps

section
variable {db : List (List Int)} {gv : List Int}
set_option maxRecDepth 100000 in
set_option maxHeartbeats 800000 in
theorem rupFollows_no (p : Option Addr) (z : Nat) (dbl : List (List Int)) (q : Option Addr) (zq : Nat) (c : List Int) (W : World) (hV : RowsIn W p dbl) (hn : dbl.length ≤ 9223372036854775807) (hf : Fit63 dbl) (hq : LitsIn W q c.length (fnL c)) (hc : c.length ≤ 9223372036854775807) (hno : allMay dbl = false ∨ mayC c = false) :
    Calls Try.prog 25 #[.slice p dbl.length z, .slice q c.length zq] W fun e w' => e = .returned (.tuple #[.bool false, .int .i64 2]) ∧ w' = W := by
  have H1 := valid_at p z dbl W hV hn hf
  have H2 := may_any q c.length zq (fnL c) W hq hc
  have HM := Lib.hid (mayC_iff c)
  clear hV hf hq
  cases ha : allMay dbl with
  | false =>
    rw [ha] at H1
    clear ha hno
    go_enter Try.func25, Try.ntmps25
    go_wp2_with fail
    refine H1.mono ?_
    rintro e w1 ⟨rfl, hw⟩
    obtain rfl := hw.symm
    clear H1 H2
    go_wp2_with fail
    go_ret2
    exact ⟨rfl, rfl⟩
  | true =>
    rw [ha] at H1
    have hc2 : mayC c = false := by
      rcases hno with h | h
      · rw [ha] at h; cases h
      · exact h
    have HC := Lib.hid hc2
    clear ha hno hc2
    go_enter Try.func25, Try.ntmps25
    go_wp2_with fail
    refine H1.mono ?_
    rintro e w1 ⟨rfl, hw⟩
    obtain rfl := hw.symm
    clear H1
    go_wp2_with fail
    refine H2.mono ?_
    rintro e w1 ⟨⟨rfl, h9⟩ | ⟨rfl, _⟩, hw⟩
    · have := HM.out.2 h9; rw [HC.out] at this; cases this
    obtain rfl := hw.symm
    clear H2
    go_wp2_with fail
    go_ret2
    exact ⟨rfl, rfl⟩
set_option maxRecDepth 100000 in
set_option maxHeartbeats 800000 in
theorem rupFollows_yes (p : Option Addr) (z : Nat) (dbl : List (List Int)) (q : Option Addr) (zq : Nat) (c : List Int) (W : World) (hV : RowsIn W p dbl) (hn : dbl.length ≤ 400000) (hf : Fit63 dbl) (hq : LitsIn W q c.length (fnL c)) (ha : allMay dbl = true) (hm : mayC c = true) :
    Calls Try.prog 25 #[.slice p dbl.length z, .slice q c.length zq] W fun e w' => ∃ f : Bool, e = .returned (.tuple #[.bool f, .int .i64 0]) ∧ (f = true ↔ Confl dbl (negs c)) ∧ Below W.heap.size W w' := by
  have hm2 := (mayC_iff c).1 hm
  have H1 := valid_at p z dbl W hV (by omega) hf
  have H2 := may_any q c.length zq (fnL c) W hq (by have := hm2.1; omega)
  have H3 := baseOf_at p z dbl W hV hn ha
  have HQ := Lib.hid hq
  have HM := Lib.hid hm2
  rw [ha] at H1
  clear hV hf hq ha hm hm2
  go_enter Try.func25, Try.ntmps25
  go_wp2_with fail
  refine H1.mono ?_
  rintro e w1 ⟨rfl, hw⟩
  obtain rfl := hw.symm
  clear H1
  go_wp2_with fail
  refine H2.mono ?_
  rintro e w1 ⟨⟨rfl, _⟩ | ⟨rfl, h9⟩, hw⟩
  · obtain rfl := hw.symm
    clear H2
    go_wp2_with fail
    refine H3.mono ?_
    rintro e w2 ⟨a, m, rfl, K2, hb2, hbl2, hj2⟩
    clear H3
    have H4 := follows_at hb2 (by omega) q c.length zq (fnL c) (HQ.out.later hbl2) HM.out
    rw [rowL_fn] at H4
    have HBL := Lib.hid hbl2
    have HJ := Lib.hid hj2
    clear hb2 hbl2 hj2
    go_wp2_with fail
    refine H4.mono ?_
    rintro e w3 ⟨f, rfl, hf3, K3, hb3, hs3⟩
    have hlow := (hs3.lower HBL.out.size HJ.out).1
    have HF := Lib.hid hf3
    have HL := Lib.hid (HBL.out.trans hlow)
    clear hb3 hs3 hf3 hlow H4
    go_wp2_with fail
    go_ret2
    exact ⟨f, rfl, HF.out, HL.out⟩
  · exact absurd HM.out h9
theorem units_end {cl : List (List Int)} {wt : Int → List Nat} {T : List Int} {nx : Nat} (h : Rest (db ++ gv.map fun x => [x]) cl wt T nx false) : ¬ Confl db gv ∧ (∀ l, l ∈ T ↔ Der db gv l) ∧ T.length ≤ (db.flatten ++ gv).length := by
  obtain ⟨_, hw, hc⟩ := h.ok rfl
  have h1 := no_confl (gv := []) h.stc hw (fun l hl => by simp at hl) hc
  have h2 := closed_all (gv := []) h.stc hw (fun l hl => by simp at hl) hc
  have h3 : ∀ l, l ∈ T ↔ Der db gv l := fun l => ⟨fun hl => (der_units db gv l).1 (h.der l hl), fun hl => h2 l ((der_units db gv l).2 hl)⟩
  refine ⟨fun hcf => h1 ((confl_units db gv).2 hcf), h3, nodup_sub h.stc.nd (fun l hl => ?_)⟩
  rcases ((h3 l).1 hl).lit with h | ⟨c, hc, hl⟩
  · exact List.mem_append_right _ h
  · exact List.mem_append_left _ (List.mem_flatten.2 ⟨c, hc, hl⟩)
set_option maxRecDepth 100000 in
set_option maxHeartbeats 800000 in
theorem rupUnits_no (p : Option Addr) (z : Nat) (dbl : List (List Int)) (q : Option Addr) (zq : Nat) (c : List Int) (W : World) (hV : RowsIn W p dbl) (hn : dbl.length ≤ 9223372036854775807) (hf : Fit63 dbl) (hq : LitsIn W q c.length (fnL c)) (hc : c.length ≤ 9223372036854775807) (hno : allMay dbl = false ∨ mayC c = false) :
    Calls Try.prog 21 #[.slice p dbl.length z, .slice q c.length zq] W fun e w' => e = .returned (.tuple #[.slice none 0 0, .bool false, .int .i64 2]) ∧ w' = W := by
  have H1 := valid_at p z dbl W hV hn hf
  have H2 := may_any q c.length zq (fnL c) W hq hc
  have HM := Lib.hid (mayC_iff c)
  clear hV hf hq
  cases ha : allMay dbl with
  | false =>
    rw [ha] at H1
    clear ha hno
    go_enter Try.func21, Try.ntmps21
    go_wp2_with fail
    refine H1.mono ?_
    rintro e w1 ⟨rfl, hw⟩
    obtain rfl := hw.symm
    clear H1 H2
    go_wp2_with fail
    go_ret3
    exact ⟨rfl, rfl⟩
  | true =>
    rw [ha] at H1
    have hc2 : mayC c = false := by
      rcases hno with h | h
      · rw [ha] at h; cases h
      · exact h
    have HC := Lib.hid hc2
    clear ha hno hc2
    go_enter Try.func21, Try.ntmps21
    go_wp2_with fail
    refine H1.mono ?_
    rintro e w1 ⟨rfl, hw⟩
    obtain rfl := hw.symm
    clear H1
    go_wp2_with fail
    refine H2.mono ?_
    rintro e w1 ⟨⟨rfl, h9⟩ | ⟨rfl, _⟩, hw⟩
    · have := HM.out.2 h9; rw [HC.out] at this; cases this
    obtain rfl := hw.symm
    clear H2
    go_wp2_with fail
    go_ret3
    exact ⟨rfl, rfl⟩
/-- what comes, as a slice. -/
def UnitsOut (dbl : List (List Int)) (gv : List Int) (e : Ending) (w' : World) : Prop :=
  (Confl dbl gv ∧ e = .returned (.tuple #[.slice none 0 0, .bool true, .int .i64 0])) ∨
  (¬ Confl dbl gv ∧ ∃ p c o, e = .returned (.tuple #[.slice p o.length c, .bool false, .int .i64 0]) ∧ LitsIn w' p o.length (fnL o) ∧ o.Pairwise ltI ∧ o.length ≤ 5000 ∧ ∀ l, l ∈ o ↔ Der dbl gv l)
theorem row_one_lit (x : Int) : rowL 1 (fun _ => x) = [x] := rfl
set_option maxRecDepth 100000 in
set_option maxHeartbeats 1600000 in
theorem rupUnits_yes (p : Option Addr) (z : Nat) (dbl : List (List Int)) (q : Option Addr) (zq : Nat) (gv : List Int) (W : World) (hV : RowsIn W p dbl) (hn : dbl.length ≤ 400000) (hf : Fit63 dbl) (hq : LitsIn W q gv.length (fnL gv)) (ha : allMay dbl = true) (hm : mayC gv = true) (hsum : (dbl.flatten ++ gv).length ≤ 5000) :
    Calls Try.prog 21 #[.slice p dbl.length z, .slice q gv.length zq] W fun e w' => UnitsOut dbl gv e w' ∧ Below W.heap.size W w' := by
  have hm2 := (mayC_iff gv).1 hm
  have H1 := valid_at p z dbl W hV (by omega) hf
  have H2 := may_any q gv.length zq (fnL gv) W hq (by have := hm2.1; omega)
  have H3 := baseOf_at p z dbl W hV hn ha
  have HQ := Lib.hid hq
  have HM := Lib.hid hm2
  have HSUM := Lib.hid hsum
  have hg5 := hm2.1
  rw [ha] at H1
  clear hV hf hq ha hm hm2 hsum
  obtain ⟨n, hnn⟩ : ∃ n, gv.length = n := ⟨_, rfl⟩
  have HNN := Lib.hid hnn
  rw [hnn] at H2 hg5 ⊢
  clear hnn
  go_enter Try.func21, Try.ntmps21
  go_wp2_with fail
  refine H1.mono ?_
  rintro e w1 ⟨rfl, hw⟩
  obtain rfl := hw.symm
  clear H1
  go_wp2_with fail
  refine H2.mono ?_
  rintro e w1 ⟨⟨rfl, _⟩ | ⟨rfl, h9⟩, hw⟩
  rotate_left
  · exact absurd (by have := HM.out; rw [HNN.out] at this; exact this) h9
  obtain rfl := hw.symm
  clear H2
  go_wp2_with fail
  refine H3.mono ?_
  rintro e w2 ⟨a, m, rfl, hbn⟩
  have HB0 := Lib.hid (show BaseN W w2 a m (dbl ++ (gv.take 0).map fun x => [x]) by simpa using hbn)
  clear H3 hbn
  go_wp2_with fail
  go_loopw [24] (fun i wr => ∃ j : Nat, j ≤ n ∧ i = .int .i64 j ∧ Hid (BaseN W wr a m (dbl ++ (gv.take j).map fun x => [x]))) (fun i _ => n - (intOf i).toNat)
  case atStart => exact ⟨0, by omega, rfl, HB0⟩
  case round =>
    obtain ⟨j, hj, rfl, HB⟩ := hrel
    clear HB0
    by_cases hlt : j < n
    · have hj2 : j < gv.length := by have := HNN.out; omega
      obtain ⟨K1, hb1, hbl1, hj1⟩ := HB.out
      obtain ⟨b, off, rfl, hVi⟩ := (HQ.out.later hbl1) (by omega)
      have cv := hVi j hj2
      have hj0 : (0 : Int) ≤ (j : Int) := by omega
      have hj1' : (j : Int) < (n : Int) := by omega
      have hli := HM.out.2 j hj2
      have htk : gv.take (j + 1) = gv.take j ++ [fnL gv j] := by rw [← List.take_append_getElem hj2]; unfold fnL; rw [getD_eq hj2]
      generalize fnL gv j = x at *
      have hal := below1 wr (.cells #[.int .i64 x] 54)
      have hS := settle_at (hb1.later hal) (by simp; omega) (some ⟨wr.heap.size, 0, none⟩) 1 1 (fun _ => x) (fun _ => ⟨_, 0, rfl, fun i hi => by
        obtain rfl : i = 0 := by omega
        simp [go_sem]⟩) ⟨by omega, fun i hi => hli⟩ (by rw [row_one_lit]; simp) [x] (fun l => Iff.rfl)
      rw [List.append_assoc, show ((gv.take j).map fun x => [x]) ++ [[x]] = (gv.take (j + 1)).map fun x => [x] by rw [htk]; simp] at hS
      have HBL := Lib.hid (hbl1.trans (hal.mono hbl1.size))
      have HJ := Lib.hid hj1
      clear hb1 hbl1 hj1 hVi hli htk HB hj2 hal
      go_wp2_with fail
      refine hS.mono ?_
      rintro e w1 ⟨rfl, hb2⟩
      have HB2 := Lib.hid (BaseN.step (db := []) HBL.out HJ.out hb2)
      clear hb2 hS
      go_wp2_with fail
      go_roundw
      case rel => exact ⟨j + 1, by omega, by go_num, HB2⟩
      case measure => simp [intOf]; omega
    · obtain rfl : j = n := by omega
      have hfin := HB.out
      rw [← HNN.out, List.take_length] at hfin
      obtain ⟨K1, ⟨cl, wt, T, nx, br, hb1, hr1⟩, hbl1, hj1⟩ := hfin
      obtain ⟨v0, v2, v3, ob, _, _, r3⟩ := hb1.ob
      have c5 := ob.c5
      have HBL := Lib.hid hbl1
      cases br with
      | true =>
        have hcf := (confl_units dbl gv).1 (hr1.bad rfl)
        have HCF := Lib.hid hcf
        clear hcf hr1 hb1 ob r3 hbl1 hj1 HB
        go_wp2_with fail
        go_ret3
        exact ⟨.inl ⟨HCF.out, rfl⟩, HBL.out⟩
      | false =>
        obtain ⟨hno, hder, hlen⟩ := units_end hr1
        have hT5 : T.length ≤ 5000 := Nat.le_trans hlen HSUM.out
        obtain ⟨p3, c3, hv3, hB_⟩ := own_shp r3.own
        clear hB_
        subst hv3
        rw [List.length_map] at r3 ob
        have c3W := ob.c3
        have hro := r3.own
        rw [List.length_map] at hro
        have hin := lits_own hro
        have hlit := hr1.stc.lit
        have hmT : MayP T.length (fnL T) := ⟨hT5, fun i hi => by unfold fnL; rw [getD_eq hi]; exact hlit _ (List.getElem_mem hi)⟩
        obtain ⟨l, hl, hz⟩ := lits_all T.length (fnL T)
        have hz := hz hmT
        have hN := normal_any p3 T.length c3 (fnL T) l wr hin hl hz hmT
        have hmem := nums_mem l T.length (fnL T) hl hz
        have hsp := formL_spec l
        have hfl := formL_len l
        have hspec : ∀ x, x ∈ formL l ↔ Der dbl gv x := fun x => by
          rw [hsp.2, hmem, ← hder, ← rowL_mem T.length (fnL T), rowL_fn]
        have HSP := Lib.hid (And.intro hsp.1 hspec)
        have HNO := Lib.hid hno
        have hfl5 : (formL l).length ≤ 5000 := by omega
        clear hno hder hlen hr1 hb1 ob r3 hbl1 hj1 HB hro hin hlit hmT hz hmem hsp hspec hl hfl
        generalize formL l = o at *
        go_wp2_with fail
        refine hN.mono ?_
        rintro e w9 ⟨v9, rfl, ho9, hb9⟩
        obtain ⟨p9, c9, hv9, hB_⟩ := own_shp ho9
        clear hB_
        subst hv9
        have HI9 := Lib.hid (lits_own ho9)
        have HB9 := Lib.hid (HBL.out.trans (hb9.mono HBL.out.size))
        clear hN ho9 hb9
        go_wp2_with fail
        go_ret3
        exact ⟨.inr ⟨HNO.out, p9, c9, o, rfl, HI9.out, HSP.out.1, hfl5, HSP.out.2⟩, HB9.out⟩
end
end Go.Proofs.Ytgdncnalahdjeaa
