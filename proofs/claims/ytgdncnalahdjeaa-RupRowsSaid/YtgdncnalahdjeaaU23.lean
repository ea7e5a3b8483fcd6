/- RupHolds' walk. -/
import Derived.Test.YtgdncnalahdjeaaU22
namespace Go.Proofs.Ytgdncnalahdjeaa
open Go Go.RowKit Go.Maps

/-- what comes, as a slice. -/
def UnitsOut2 (dbl : List (List Int)) (gv : List Int) (e : Ending) (w' : World) : Prop :=
  (Confl dbl gv ∧ e = .returned (.tuple #[.slice none 0 0, .bool true, .int .i64 0])) ∨
  (¬ Confl dbl gv ∧ ∃ p c o, e = .returned (.tuple #[.slice p o.length c, .bool false, .int .i64 0]) ∧ LitsIn w' p o.length (fnL o) ∧ o.Pairwise ltI ∧ o.length ≤ 5000 ∧ (0 < o.length → o.length ≤ c ∧ c ≤ 9223372036854775807) ∧ ∀ l, l ∈ o ↔ Der dbl gv l)
set_option maxRecDepth 100000 in
set_option maxHeartbeats 1600000 in
theorem rupUnits_yes2 (p : Option Addr) (z : Nat) (dbl : List (List Int)) (q : Option Addr) (zq : Nat) (gv : List Int) (W : World) (hV : RowsIn W p dbl) (hn : dbl.length ≤ 400000) (hf : Fit63 dbl) (hq : LitsIn W q gv.length (fnL gv)) (ha : allMay dbl = true) (hm : mayC gv = true) (hsum : (dbl.flatten ++ gv).length ≤ 5000) :
    Calls Try.prog 21 #[.slice p dbl.length z, .slice q gv.length zq] W fun e w' => UnitsOut2 dbl gv e w' ∧ Below W.heap.size W w' := by
  have hm2 := (mayC_iff gv).1 hm
  have H1 := valid_at p z dbl W hV (by omega) hf
  have H2 := may_any q gv.length zq (fnL gv) W hq (by have := hm2.1; omega)
  have H3 := baseOf_at p z dbl W hV hn ha
  have HQ := Lib.hid hq
  have HM := Lib.hid hm2
  have HSUM := Lib.hid hsum
  have hg5 := hm2.1
  rw [ha] at H1
  clear hV hf hq ha hm hm2 hsum
  obtain ⟨n, hnn⟩ : ∃ n, gv.length = n := ⟨_, rfl⟩
  have HNN := Lib.hid hnn
  rw [hnn] at H2 hg5 ⊢
  clear hnn
  go_enter Try.func21, Try.ntmps21
  go_wp2_with fail
  refine H1.mono ?_
  rintro e w1 ⟨rfl, hw⟩
  obtain rfl := hw.symm
  clear H1
  go_wp2_with fail
  refine H2.mono ?_
  rintro e w1 ⟨⟨rfl, _⟩ | ⟨rfl, h9⟩, hw⟩
  rotate_left
  · exact absurd (by have := HM.out; rw [HNN.out] at this; exact this) h9
  obtain rfl := hw.symm
  clear H2
  go_wp2_with fail
  refine H3.mono ?_
  rintro e w2 ⟨a, m, rfl, hbn⟩
  have HB0 := Lib.hid (show BaseN W w2 a m (dbl ++ (gv.take 0).map fun x => [x]) by simpa using hbn)
  clear H3 hbn
  go_wp2_with fail
  go_loopw [24] (fun i wr => ∃ j : Nat, j ≤ n ∧ i = .int .i64 j ∧ Hid (BaseN W wr a m (dbl ++ (gv.take j).map fun x => [x]))) (fun i _ => n - (intOf i).toNat)
  case atStart => exact ⟨0, by omega, rfl, HB0⟩
  case round =>
    obtain ⟨j, hj, rfl, HB⟩ := hrel
    clear HB0
    by_cases hlt : j < n
    · have hj2 : j < gv.length := by have := HNN.out; omega
      obtain ⟨K1, hb1, hbl1, hj1⟩ := HB.out
      obtain ⟨b, off, rfl, hVi⟩ := (HQ.out.later hbl1) (by omega)
      have cv := hVi j hj2
      have hj0 : (0 : Int) ≤ (j : Int) := by omega
      have hj1' : (j : Int) < (n : Int) := by omega
      have hli := HM.out.2 j hj2
      have htk : gv.take (j + 1) = gv.take j ++ [fnL gv j] := by rw [← List.take_append_getElem hj2]; unfold fnL; rw [getD_eq hj2]
      generalize fnL gv j = x at *
      have hal := below1 wr (.cells #[.int .i64 x] 54)
      have hS := settle_at (hb1.later hal) (by simp; omega) (some ⟨wr.heap.size, 0, none⟩) 1 1 (fun _ => x) (fun _ => ⟨_, 0, rfl, fun i hi => by
        obtain rfl : i = 0 := by omega
        simp [go_sem]⟩) ⟨by omega, fun i hi => hli⟩ (by rw [row_one_lit]; simp) [x] (fun l => Iff.rfl)
      rw [List.append_assoc, show ((gv.take j).map fun x => [x]) ++ [[x]] = (gv.take (j + 1)).map fun x => [x] by rw [htk]; simp] at hS
      have HBL := Lib.hid (hbl1.trans (hal.mono hbl1.size))
      have HJ := Lib.hid hj1
      clear hb1 hbl1 hj1 hVi hli htk HB hj2 hal
      go_wp2_with fail
      refine hS.mono ?_
      rintro e w1 ⟨rfl, hb2⟩
      have HB2 := Lib.hid (BaseN.step (db := []) HBL.out HJ.out hb2)
      clear hb2 hS
      go_wp2_with fail
      go_roundw
      case rel => exact ⟨j + 1, by omega, by go_num, HB2⟩
      case measure => simp [intOf]; omega
    · obtain rfl : j = n := by omega
      have hfin := HB.out
      rw [← HNN.out, List.take_length] at hfin
      obtain ⟨K1, ⟨cl, wt, T, nx, br, hb1, hr1⟩, hbl1, hj1⟩ := hfin
      obtain ⟨v0, v2, v3, ob, _, _, r3⟩ := hb1.ob
      have c5 := ob.c5
      have HBL := Lib.hid hbl1
      cases br with
      | true =>
        have hcf := (confl_units dbl gv).1 (hr1.bad rfl)
        have HCF := Lib.hid hcf
        clear hcf hr1 hb1 ob r3 hbl1 hj1 HB
        go_wp2_with fail
        go_ret3
        exact ⟨.inl ⟨HCF.out, rfl⟩, HBL.out⟩
      | false =>
        obtain ⟨hno, hder, hlen⟩ := units_end hr1
        have hT5 : T.length ≤ 5000 := Nat.le_trans hlen HSUM.out
        obtain ⟨p3, c3, hv3, hB_⟩ := own_shp r3.own
        clear hB_
        subst hv3
        rw [List.length_map] at r3 ob
        have c3W := ob.c3
        have hro := r3.own
        rw [List.length_map] at hro
        have hin := lits_own hro
        have hlit := hr1.stc.lit
        have hmT : MayP T.length (fnL T) := ⟨hT5, fun i hi => by unfold fnL; rw [getD_eq hi]; exact hlit _ (List.getElem_mem hi)⟩
        obtain ⟨l, hl, hz⟩ := lits_all T.length (fnL T)
        have hz := hz hmT
        have hN := normal_any p3 T.length c3 (fnL T) l wr hin hl hz hmT
        have hmem := nums_mem l T.length (fnL T) hl hz
        have hsp := formL_spec l
        have hfl := formL_len l
        have hspec : ∀ x, x ∈ formL l ↔ Der dbl gv x := fun x => by
          rw [hsp.2, hmem, ← hder, ← rowL_mem T.length (fnL T), rowL_fn]
        have HSP := Lib.hid (And.intro hsp.1 hspec)
        have HNO := Lib.hid hno
        have hfl5 : (formL l).length ≤ 5000 := by omega
        clear hno hder hlen hr1 hb1 ob r3 hbl1 hj1 HB hro hin hlit hmT hz hmem hsp hspec hl hfl
        generalize formL l = o at *
        go_wp2_with fail
        refine hN.mono ?_
        rintro e w9 ⟨v9, rfl, ho9, hb9⟩
        obtain ⟨p9, c9, hv9, hB_⟩ := own_shp ho9
        clear hB_
        subst hv9
        have HI9 := Lib.hid (lits_own ho9)
        have HC9 := Lib.hid (show 0 < o.length → o.length ≤ c9 ∧ c9 ≤ 9223372036854775807 from fun h0 => by
          obtain ⟨g9, c9', e9⟩ := own_some ho9 h0
          cases e9
          have := own_caps ho9
          exact ⟨this.1, this.2⟩)
        have HB9 := Lib.hid (HBL.out.trans (hb9.mono HBL.out.size))
        clear hN ho9 hb9
        go_wp2_with fail
        go_ret3
        exact ⟨.inr ⟨HNO.out, p9, c9, o, rfl, HI9.out, HSP.out.1, hfl5, HC9.out, HSP.out.2⟩, HB9.out⟩

set_option maxRecDepth 100000 in
theorem slice_one {b off n cap i : Nat} (w : World) (hi : i < n) (hn : n ≤ cap) : (Instr.slice 23 (.slice (some ⟨b, off, none⟩) n cap) (some (.int .i64 (i : Int))) (some (.int .i64 ((i : Int) + 1))) none).run Try.prog w = .ok (.slice (some ⟨b, off + i, none⟩) 1 (cap - i)) w := by
  have h1 : (0 : Int) ≤ (i : Int) + 1 := by omega
  have h2 : ((i : Int) + 1).toNat = i + 1 := by omega
  have h3 : (i : Int) + 1 ≤ (cap : Int) := by omega
  have h4 : cap ≠ i := by omega
  obtain ⟨i54, hi2, _, hs2, _⟩ := info54
  simp [Instr.slice, run_underlying Try.underlying23, Instr.sliceBounds, Instr.sliceBound, asIntOf, sizeOf, typeInfo, hi2, hs2, h1, h2, h3, h4, Addr.add]
theorem one_holds (bits x : Int) : holdB bits 1 (fun _ => x) = litB bits x := by
  unfold holdB anyB
  simp
theorem flat_len {dbl : List (List Int)} (h : ∀ d, d ∈ dbl → d.length ≤ 30) : dbl.flatten.length ≤ dbl.length * 30 := by
  induction dbl with
  | nil => simp
  | cons d dbl ih =>
    have h1 := h d (by simp)
    have h2 := ih (fun e he => h e (by simp [he]))
    simp only [List.flatten_cons, List.length_append, List.length_cons]
    omega
set_option maxRecDepth 100000 in
set_option maxHeartbeats 3200000 in
theorem holds_any (p : Option Addr) (z : Nat) (dbl : List (List Int)) (q : Option Addr) (zq : Nat) (c : List Int) (bits : Int) (w : World) (hV : RowsIn w p dbl) (hn : dbl.length ≤ 9223372036854775807) (hf : Fit63 dbl) (hq : LitsIn w q c.length (fnL c)) (hc : c.length ≤ 9223372036854775807) (hz1 : c.length ≤ zq) (hz2 : zq ≤ 9223372036854775807) (hb0 : 0 ≤ bits) (hb1 : bits ≤ 18446744073709551615) :
    Calls Try.prog 6 #[.slice p dbl.length z, .slice q c.length zq, .int .u64 bits] w fun e w' => e = .returned (.bool true) ∧ Below w.heap.size w w' := by
  have HK := Lib.hid known_any
  have L1 := large_any p z dbl w hV hn hf
  have S1 := small_any p z dbl w hV hn hf
  have hB := below1 w (.cells #[.slice q c.length zq] 23)
  have S2 := small_any (some ⟨w.heap.size, 0, none⟩) 1 [c] (w.alloc (.cells #[.slice q c.length zq] 23)) (fun _ => ⟨_, 0, rfl, fun i d hi => by
    match i, hi with
    | 0, hi => cases hi; exact ⟨q, zq, by simp [go_sem], hq.later hB⟩⟩) (by simp) (fun d hd => by simp at hd; subst hd; exact hc)
  have H1 : smallB dbl = true → _ := fun h => refHolds_at p z dbl bits (w.alloc (.cells #[.slice q c.length zq] 23)) (hV.later hB) hn hf h hb0 hb1
  have HU : allMay dbl = true → mayC c = true → (dbl.flatten ++ c).length ≤ 5000 → dbl.length ≤ 400000 → ∀ W, Below w.heap.size w W → _ := fun h1 h2 h3 h4 W hb => rupUnits_yes2 p z dbl q zq c W (hV.later hb) h4 hf (hq.later hb) h1 h2 h3
  have HH : ∀ (W : World) (pp : Option Addr) (zz : Nat) (x : Int), LitsIn W pp 1 (fun _ => x) → smL x = true → Calls Try.prog 31 #[.slice pp 1 zz, .int .u64 bits] W fun e w' => e = .returned (.bool (litB bits x)) ∧ w' = W := fun W pp zz x hl hx => by
    have := holds39_any pp 1 zz (fun _ => x) bits W hl (by omega) (fun i _ => (smL_iff x).1 hx) hb0 hb1
    rw [one_holds] at this
    exact this
  have HQ := Lib.hid hq
  have HBB := Lib.hid hB
  clear hV hf hq hB
  have hone : [c].length = 1 := rfl
  rw [show smallB [c] = smC c by unfold smallB; simp] at S2
  simp only [List.length_singleton] at S2
  clear hone
  have HSM := Lib.hid (@largeB_no dbl)
  have HFL := Lib.hid (@small_may dbl)
  have HSD := Lib.hid (@der_holds dbl c bits)
  have HNC := Lib.hid (@holds_no_confl dbl c bits)
  have HCF := Lib.hid (@smC_fn c)
  have HMC := Lib.hid (mayC_iff c)
  have HFLT := Lib.hid (show (∀ d, d ∈ dbl → d.length ≤ 30) → (dbl.flatten ++ c).length ≤ dbl.length * 30 + c.length from fun h => by rw [List.length_append]; have := flat_len h; omega)
  obtain ⟨bl, hbl⟩ : ∃ b, largeB dbl = b := ⟨_, rfl⟩
  obtain ⟨bs, hbs⟩ : ∃ b, smallB dbl = b := ⟨_, rfl⟩
  obtain ⟨bc, hbc⟩ : ∃ b, smC c = b := ⟨_, rfl⟩
  obtain ⟨bh, hbh⟩ : ∃ b, holD bits dbl = b := ⟨_, rfl⟩
  rw [hbl] at L1
  rw [hbs] at S1
  rw [hbc] at S2
  rw [hbs, hbh] at H1
  have EL := Lib.hid hbl
  have ES := Lib.hid hbs
  have EC := Lib.hid hbc
  have EH := Lib.hid hbh
  clear hbl hbs hbc hbh
  obtain ⟨n, hnn⟩ : ∃ n, dbl.length = n := ⟨_, rfl⟩
  obtain ⟨m, hmm⟩ : ∃ m, c.length = m := ⟨_, rfl⟩
  rw [hnn] at L1 S1 H1 HU hn ⊢
  rw [hmm] at S2 H1 HU hc hz1 HQ HBB ⊢
  have HN := Lib.hid hnn
  have HM := Lib.hid hmm
  clear hnn hmm
  have HU := Lib.hid HU
  have HH := Lib.hid HH
  cases bl with
  | true =>
    clear S1 S2 H1 HU
    go_enter Try.func6, Try.ntmps6
    go_wp2_with fail
    refine L1.mono ?_
    rintro e w1 ⟨rfl, hw⟩
    obtain rfl := hw.symm
    clear L1
    go_wp2_with fail
    refine (HK.out _).mono ?_
    rintro e w4 ⟨rfl, hb4⟩
    have HB4 := Lib.hid hb4
    clear hb4
    go_wp2_with fail
    go_ret
    exact ⟨rfl, HB4.out⟩
  | false =>
  by_cases hm30 : 30 < m
  · clear S1 S2 H1 HU
    have q1 : (30 : Int) < (m : Int) := by omega
    go_enter Try.func6, Try.ntmps6
    go_wp2_with fail
    refine L1.mono ?_
    rintro e w1 ⟨rfl, hw⟩
    obtain rfl := hw.symm
    clear L1
    go_wp2_with fail
    refine (HK.out _).mono ?_
    rintro e w4 ⟨rfl, hb4⟩
    have HB4 := Lib.hid hb4
    clear hb4
    go_wp2_with fail
    go_ret
    exact ⟨rfl, HB4.out⟩
  have q1 : ¬ ((30 : Int) < (m : Int)) := by omega
  cases bs with
  | false =>
    clear S2 H1 HU
    go_enter Try.func6, Try.ntmps6
    go_wp2_with fail
    refine L1.mono ?_
    rintro e w1 ⟨rfl, hw⟩
    obtain rfl := hw.symm
    clear L1
    go_wp2_with fail
    refine S1.mono ?_
    rintro e w1 ⟨rfl, hw⟩
    obtain rfl := hw.symm
    clear S1
    go_wp2_with fail
    refine (HK.out _).mono ?_
    rintro e w4 ⟨rfl, hb4⟩
    have HB4 := Lib.hid hb4
    clear hb4
    go_wp2_with fail
    go_ret
    exact ⟨rfl, HB4.out⟩
  | true =>
  cases bc with
  | false =>
    clear H1 HU
    go_enter Try.func6, Try.ntmps6
    go_wp2_with fail
    refine L1.mono ?_
    rintro e w1 ⟨rfl, hw⟩
    obtain rfl := hw.symm
    clear L1
    go_wp2_with fail
    refine S1.mono ?_
    rintro e w1 ⟨rfl, hw⟩
    obtain rfl := hw.symm
    clear S1
    go_wp2_with fail
    refine S2.mono ?_
    rintro e w1 ⟨rfl, hw⟩
    obtain rfl := hw.symm
    clear S2
    go_wp2_with fail
    refine (HK.out _).mono ?_
    rintro e w4 ⟨rfl, hb4⟩
    have HB4 := Lib.hid (chain HBB.out hb4)
    clear hb4
    go_wp2_with fail
    go_ret
    exact ⟨rfl, HB4.out⟩
  | true =>
  replace H1 := H1 rfl
  cases bh with
  | false =>
    clear HU
    go_enter Try.func6, Try.ntmps6
    go_wp2_with fail
    refine L1.mono ?_
    rintro e w1 ⟨rfl, hw⟩
    obtain rfl := hw.symm
    clear L1
    go_wp2_with fail
    refine S1.mono ?_
    rintro e w1 ⟨rfl, hw⟩
    obtain rfl := hw.symm
    clear S1
    go_wp2_with fail
    refine S2.mono ?_
    rintro e w1 ⟨rfl, hw⟩
    obtain rfl := hw.symm
    clear S2
    go_wp2_with fail
    refine H1.mono ?_
    rintro e w1 ⟨rfl, hw⟩
    obtain rfl := hw.symm
    clear H1
    go_wp2_with fail
    refine (HK.out _).mono ?_
    rintro e w4 ⟨rfl, hb4⟩
    have HB4 := Lib.hid (chain HBB.out hb4)
    clear hb4
    go_wp2_with fail
    go_ret
    exact ⟨rfl, HB4.out⟩
  | true =>
  obtain ⟨n60, hall⟩ := HSM.out EL.out
  rw [HN.out] at n60
  have hmay := HFL.out ES.out hall
  have hsc := HCF.out EC.out
  rw [HM.out] at hsc
  have hmc : mayC c = true := HMC.out.2 ⟨by rw [HM.out]; omega, fun i hi => by
    obtain ⟨a, b, d⟩ := hsc i (by rw [← HM.out]; exact hi)
    unfold isLitB; simp; omega⟩
  have hflat := HFLT.out hall
  rw [HN.out, HM.out] at hflat
  have HU2 := Lib.hid (HU.out hmay hmc (by omega) (by omega))
  have HSC := Lib.hid hsc
  clear hmay hmc hflat hsc hall HU
  obtain ⟨W1, hW1⟩ : ∃ W1, W1 = w.alloc (.cells #[.slice q m zq] 23) := ⟨_, rfl⟩
  rw [← hW1] at S2 H1 HBB
  have HW1 := Lib.hid hW1
  clear hW1
  go_enter Try.func6, Try.ntmps6
  go_wp2_with fail
  refine L1.mono ?_
  rintro e w1 ⟨rfl, hw⟩
  obtain rfl := hw.symm
  clear L1
  go_wp2_with fail
  refine S1.mono ?_
  rintro e w1 ⟨rfl, hw⟩
  obtain rfl := hw.symm
  clear S1
  go_wp2_with fail
  rw [← HW1.out]
  refine S2.mono ?_
  rintro e w1 ⟨rfl, hw⟩
  obtain rfl := hw.symm
  clear S2
  go_wp2_with fail
  refine H1.mono ?_
  rintro e w1 ⟨rfl, hw⟩
  obtain rfl := hw.symm
  clear H1
  go_wp2_with fail
  go_loopg [39] m (fun gk s39 wx => ∃ j : Nat, j + gk = m ∧ s39 = .int .i64 (j : Int) ∧ wx = W1 ∧ Hid (∀ i, i < j → litB bits (fnL c i) = true))
  case atStart => exact ⟨0, by omega, rfl, rfl, Lib.hid (fun i hi => by omega)⟩
  case round =>
    obtain ⟨j, hjg, rfl, hw, HG⟩ := hrel
    obtain rfl := hw.symm
    have HJG := Lib.hid hjg
    by_cases hjm : j < m
    · obtain ⟨b, off, rfl, hVi⟩ := (HQ.out.later HBB.out) (by omega)
      have hsl := fun w => slice_one (b := b) (off := off) w hjm hz1
      have hx := (smL_iff _).2 (HSC.out j hjm)
      have cx := hVi j hjm
      have hj0 : (0 : Int) ≤ (j : Int) := by omega
      have hj1 : (j : Int) < (m : Int) := by omega
      have hj2 : (m : Int) ≤ (zq : Int) := by omega
      have hj3 : (zq : Int) ≤ 9223372036854775807 := by omega
      have H3 := HH.out W1 (some ⟨b, off + j, none⟩) (zq - j) (fnL c j) (fun _ => ⟨b, off + j, rfl, fun i hi => by have e : i = 0 := (by omega); subst e; simpa using cx⟩) hx
      have hnext : litB bits (fnL c j) = true → ∀ i, i < j + 1 → litB bits (fnL c i) = true := fun h i hi => by
        by_cases e : i < j
        · exact HG.out i e
        · obtain rfl : i = j := by omega
          exact h
      have HNX := Lib.hid hnext
      clear hVi hx cx hnext hjg
      cases hl : litB bits (fnL c j) with
      | false =>
        rw [hl] at H3
        clear hl
        go_wp2_with fail
        refine H3.mono ?_
        rintro e w1 ⟨rfl, hw⟩
        obtain rfl := hw.symm
        clear H3
        go_wp2_with fail
        refine (HK.out _).mono ?_
        rintro e w4 ⟨rfl, hb4⟩
        have HB4 := Lib.hid (chain HBB.out hb4)
        clear hb4
        go_wp2_with fail
        go_ret
        exact ⟨rfl, HB4.out⟩
      | true =>
        rw [hl] at H3
        have HL2 := Lib.hid (HNX.out hl)
        clear hl
        go_wp2_with fail
        refine H3.mono ?_
        rintro e w1 ⟨rfl, hw⟩
        obtain rfl := hw.symm
        clear H3
        go_wp2_with fail
        go_roundg (m - (j + 1))
        case measure => have := HJG.out; omega
        case rel => exact ⟨j + 1, by omega, by go_num, rfl, HL2⟩
    · obtain rfl : j = m := by omega
      clear hjg
      go_wp2_with fail
      refine (HU2.out W1 HBB.out).mono ?_
      rintro e w5 ⟨hu, hb5⟩
      have HB5 := Lib.hid (chain HBB.out hb5)
      clear hb5
      have hgv : ∀ x, x ∈ c → litB bits x = true ∧ x ≠ 0 := fun x hx => by
        obtain ⟨i, hi, rfl⟩ := List.getElem_of_mem hx
        have h1 := HG.out i (by rw [← HM.out]; exact hi)
        have h2 := (HSC.out i (by rw [← HM.out]; exact hi)).1
        unfold fnL at h1 h2
        rw [getD_eq hi] at h1 h2
        exact ⟨h1, h2⟩
      rcases hu with ⟨hcf, _⟩ | ⟨_, p7, c7, o, rfl, hi7, _, h5, hcap, h2⟩
      · exact absurd hcf (HNC.out ES.out EH.out hgv)
      have hol : ∀ i, i < o.length → litB bits (fnL o i) = true ∧ smL (fnL o i) = true := fun i hi => by
        have hm : fnL o i ∈ o := by unfold fnL; rw [getD_eq hi]; exact List.getElem_mem hi
        have hd := (h2 _).1 hm
        refine ⟨HSD.out ES.out EH.out (fun x hx => (hgv x hx).1) _ hd, ?_⟩
        rcases hd.lit with h | ⟨d, hd1, hd2⟩
        · exact List.all_eq_true.1 EC.out _ h
        · exact List.all_eq_true.1 (List.all_eq_true.1 ES.out d hd1) _ hd2
      have HOL := Lib.hid hol
      have HI7 := Lib.hid hi7
      have HCAP := Lib.hid hcap
      clear hol hi7 hcap h2 hgv HG
      obtain ⟨L, hL⟩ : ∃ L, o.length = L := ⟨_, rfl⟩
      rw [hL] at HOL HI7 HCAP h5 ⊢
      clear hL
      go_wp2_with fail
      go_loopg [66] L (fun gk s66 wx => ∃ j : Nat, j + gk = L ∧ s66 = .int .i64 (j : Int) ∧ wx = w5)
      case atStart => exact ⟨0, by omega, rfl, rfl⟩
      case round =>
        obtain ⟨k, hkg, rfl, hw⟩ := hrel
        obtain rfl := hw.symm
        have HKG := Lib.hid hkg
        by_cases hkL : k < L
        · obtain ⟨b, off, rfl, hVi⟩ := HI7.out (by omega)
          obtain ⟨hc1, hc2⟩ := HCAP.out (by omega)
          have hsl := fun w => slice_one (b := b) (off := off) w hkL hc1
          obtain ⟨hl, hx⟩ := HOL.out k hkL
          have cx := hVi k hkL
          have hj0 : (0 : Int) ≤ (k : Int) := by omega
          have hj1 : (k : Int) < (L : Int) := by omega
          have hj2 : (L : Int) ≤ (c7 : Int) := by omega
          have hj3 : (c7 : Int) ≤ 9223372036854775807 := by omega
          have H3 := HH.out w5 (some ⟨b, off + k, none⟩) (c7 - k) (fnL o k) (fun _ => ⟨b, off + k, rfl, fun i hi => by have e : i = 0 := (by omega); subst e; simpa using cx⟩) hx
          rw [hl] at H3
          clear hVi hl hx cx hkg
          go_wp2_with fail
          refine H3.mono ?_
          rintro e w1 ⟨rfl, hw⟩
          obtain rfl := hw.symm
          clear H3
          go_wp2_with fail
          go_roundg (L - (k + 1))
          case measure => have := HKG.out; omega
          case rel => exact ⟨k + 1, by omega, by go_num, rfl⟩
        · obtain rfl : k = L := by omega
          clear hkg
          go_wp2_with fail
          refine (HK.out _).mono ?_
          rintro e w4 ⟨rfl, hb4⟩
          have HB4 := Lib.hid (chain HB5.out hb4)
          clear hb4
          go_wp2_with fail
          go_ret
          exact ⟨rfl, HB4.out⟩
end Go.Proofs.Ytgdncnalahdjeaa
