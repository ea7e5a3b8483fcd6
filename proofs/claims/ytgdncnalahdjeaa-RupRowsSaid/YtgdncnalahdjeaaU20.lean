/- large; RupSelf's walk. -/
import Derived.Test.YtgdncnalahdjeaaU19
namespace Go.Proofs.Ytgdncnalahdjeaa
open Go Go.RowKit Go.Maps

/-- are there more, or longer ones than are looked at? -/
def largeB (dbl : List (List Int)) : Bool := decide (60 < dbl.length) || dbl.any fun c => decide (30 < c.length)
theorem largeB_no {dbl : List (List Int)} (h : largeB dbl = false) : dbl.length ≤ 60 ∧ ∀ c, c ∈ dbl → c.length ≤ 30 := by
  unfold largeB at h
  simp at h
  exact ⟨by omega, fun c hc => by have := h.2 c hc; omega⟩
set_option maxRecDepth 100000 in
set_option maxHeartbeats 800000 in
theorem large_any (p : Option Addr) (z : Nat) (dbl : List (List Int)) (w : World) (hV : RowsIn w p dbl) (hn : dbl.length ≤ 9223372036854775807) (hf : Fit63 dbl) :
    Calls Try.prog 17 #[.slice p dbl.length z] w fun e w' => e = .returned (.bool (largeB dbl)) ∧ w' = w := by
  have HV := Lib.hid hV
  have HF := Lib.hid hf
  have HL := Lib.hid (show ∀ b, largeB dbl = b ↔ (decide (60 < dbl.length) || dbl.any fun c => decide (30 < c.length)) = b from fun b => Iff.rfl)
  clear hV hf
  obtain ⟨n, hnn⟩ : ∃ n, dbl.length = n := ⟨_, rfl⟩
  rw [hnn] at hn ⊢
  have HN := Lib.hid hnn
  clear hnn
  obtain ⟨r, hr⟩ : ∃ r, largeB dbl = r := ⟨_, rfl⟩
  rw [hr]
  have HR := Lib.hid ((HL.out r).1 hr)
  clear hr HL
  by_cases hb : 60 < n
  · have hrt : r = true := by rw [← HR.out, HN.out, decide_eq_true hb]; rfl
    subst hrt
    go_enter Try.func17, Try.ntmps17
    go_wp2_with fail
    go_ret
    exact ⟨rfl, rfl⟩
  · go_enter Try.func17, Try.ntmps17
    go_wp2_with fail
    go_loopw [9] (fun i wr => ∃ j : Nat, j ≤ n ∧ i = .int .i64 j ∧ w = wr ∧ ∀ c, c ∈ dbl.take j → c.length ≤ 30) (fun i _ => n - (intOf i).toNat)
    case atStart => exact ⟨0, by omega, rfl, rfl, fun c hc => by simp at hc⟩
    case round =>
      obtain ⟨j, hj, rfl, rfl, hall⟩ := hrel
      have HALL := Lib.hid hall
      clear hall
      by_cases hlt : j < n
      · have hj2 : j < dbl.length := by have := HN.out; omega
        obtain ⟨b, off, rfl, hV⟩ := HV.out (by omega)
        obtain ⟨q, zq, cv, hq⟩ := hV j _ (List.getElem?_eq_getElem hj2)
        have hj0 : (0 : Int) ≤ (j : Int) := by omega
        have hj1 : (j : Int) < (n : Int) := by omega
        have htk : dbl.take (j + 1) = dbl.take j ++ [dbl[j]] := (List.take_append_getElem hj2).symm
        have HT := Lib.hid htk
        have hmem := Lib.hid (List.getElem_mem hj2)
        clear htk hV hq
        generalize dbl[j] = c at *
        clear hj2
        have hlc : c.length ≤ 30 → ∀ d, d ∈ dbl.take (j + 1) → d.length ≤ 30 := fun h d hd => by
          rw [HT.out] at hd
          rcases List.mem_append.1 hd with hd | hd
          · exact HALL.out d hd
          · simp at hd; subst hd; exact h
        have hbig : 30 < c.length → r = true := fun h => by
          rw [← HR.out, Bool.or_eq_true]
          exact .inr (List.any_eq_true.2 ⟨c, hmem.out, by rw [decide_eq_true_eq]; exact h⟩)
        have HLC := Lib.hid hlc
        have HBG := Lib.hid hbig
        clear hlc hbig
        by_cases hc : 30 < c.length
        · have hrt : r = true := HBG.out hc
          subst hrt
          generalize c.length = L at *
          have q1 : (30 : Int) < (L : Int) := by omega
          go_wp2_with fail
          go_ret
          exact ⟨rfl, rfl⟩
        · have hle : c.length ≤ 30 := by omega
          have HLE := Lib.hid (HLC.out hle)
          clear HLC HBG HT hmem
          generalize c.length = L at *
          go_wp2_with fail
          go_roundw
          case rel => exact ⟨j + 1, by omega, by go_num, trivial, HLE.out⟩
          case measure => simp [intOf]; omega
      · obtain rfl : j = n := by omega
        have hrf : r = false := by
          rw [← HR.out, HN.out, decide_eq_false hb, Bool.false_or, List.any_eq_false]
          intro c hc
          have := HALL.out c (by rw [← HN.out, List.take_length]; exact hc)
          simp
          omega
        subst hrf
        go_wp2_with fail
        go_ret
        exact ⟨rfl, rfl⟩
theorem self_confl {db : List (List Int)} {c : List Int} (h : c ∈ db) : Confl db (negs c) := Confl.clause h (fun k hk => .given (negs_mem.2 (by rw [Int.neg_neg]; exact hk)))
theorem rows_two {W : World} {q : Option Addr} {zq : Nat} {c : List Int} (h : LitsIn W q c.length (fnL c)) : RowsIn (W.alloc (.cells #[.slice q c.length zq, .slice q c.length zq] 23)) (some ⟨W.heap.size, 0, none⟩) [c, c] := fun _ => by
  refine ⟨_, 0, rfl, fun i d hi => ?_⟩
  have hb := below1 W (.cells #[.slice q c.length zq, .slice q c.length zq] 23)
  match i, hi with
  | 0, hi => cases hi; exact ⟨q, zq, by simp [go_sem], h.later hb⟩
  | 1, hi => cases hi; exact ⟨q, zq, by simp [go_sem], h.later hb⟩
theorem row_two {db : List (List Int)} {c : List Int} {n : Nat} {r : Bool} (h : RowOut db [c, c] n r) : (Confl db (negs c) → n = 2) ∧ (¬ Confl db (negs c) → n = 0) := by
  obtain ⟨h1, h2, h3, _⟩ := h
  have e0 : db ++ ([c, c] : List (List Int)).take 0 = db := by simp
  refine ⟨fun hc => ?_, fun hc => ?_⟩
  · have : n = 0 ∨ n = 1 ∨ n = 2 := by simp at h1; omega
    rcases this with rfl | rfl | rfl
    · have := h3 c rfl
      rw [e0] at this
      exact absurd hc this
    · have := h3 c rfl
      exact absurd (self_confl (by simp)) this
    · rfl
  · have : n = 0 ∨ 0 < n := by omega
    rcases this with rfl | h0
    · rfl
    · have := h2 0 c h0 rfl
      rw [e0] at this
      exact absurd this hc
set_option maxRecDepth 100000 in
set_option maxHeartbeats 1600000 in
theorem self_walk (p : Option Addr) (z n : Nat) (dbl : List (List Int)) (q : Option Addr) (zq m : Nat) (w : World) (F f2 : Bool) (ER E2 rn E3 : Int) (hV : RowsIn w p dbl) (hnl : dbl.length = n) (hn : n ≤ 60) (hm : m ≤ 30)
    (hf1 : (F = false ∧ ER = 2) ∨ (F = true ∧ ER = 0)) (hf2 : (f2 = false ∧ E2 = 2 ∧ rn = 0 ∧ E3 = 2) ∨ (f2 = true ∧ E2 = 0 ∧ rn = 2 ∧ E3 = 0) ∨ (f2 = false ∧ E2 = 0 ∧ rn = 0 ∧ E3 = 0))
    (HL : Calls Try.prog 17 #[.slice p n z] w fun e w' => e = .returned (.bool false) ∧ w' = w)
    (H1 : ∀ (W : World) (d : List Int) (q1 : Option Addr) (z1 : Nat), Below w.heap.size w W → d ∈ dbl → LitsIn W q1 d.length (fnL d) → Calls Try.prog 25 #[.slice p n z, .slice q1 d.length z1] W fun e w' => e = .returned (.tuple #[.bool F, .int .i64 ER]) ∧ Below W.heap.size W w')
    (H2 : ∀ (W : World), Below w.heap.size w W → Calls Try.prog 25 #[.slice p n z, .slice q m zq] W fun e w' => e = .returned (.tuple #[.bool f2, .int .i64 E2]) ∧ Below W.heap.size W w')
    (H3 : ∀ (W : World), Below w.heap.size w W → Calls Try.prog 27 #[.slice p n z, .slice (some ⟨W.heap.size, 0, none⟩) 2 2] (W.alloc (.cells #[.slice q m zq, .slice q m zq] 23)) fun e w' => ∃ r, e = .returned (.tuple #[.int .i64 rn, .bool r, .int .i64 E3]) ∧ Below W.heap.size W w') :
    Calls Try.prog 11 #[.slice p n z, .slice q m zq] w fun e w' => e = .returned (.bool true) ∧ Below w.heap.size w w' := by
  have HK := Lib.hid known_any
  have HV := Lib.hid hV
  have HNL := Lib.hid hnl
  have K1 := Lib.hid H1
  have K2 := Lib.hid H2
  have K3 := Lib.hid H3
  clear hV hnl H1 H2 H3
  rcases hf1 with ⟨rfl, rfl⟩ | ⟨rfl, rfl⟩ <;> rcases hf2 with ⟨rfl, rfl, rfl, rfl⟩ | ⟨rfl, rfl, rfl, rfl⟩ | ⟨rfl, rfl, rfl, rfl⟩
  all_goals
    go_enter Try.func11, Try.ntmps11
    go_wp2_with fail
    refine HL.mono ?_
    rintro e w1 ⟨rfl, hw⟩
    obtain rfl := hw.symm
    clear HL
    go_wp2_with fail
    go_loopw [23] (fun i wr => ∃ j : Nat, j ≤ n ∧ i = .int .i64 j ∧ Hid (Below w.heap.size w wr)) (fun i _ => n - (intOf i).toNat)
    case atStart => exact ⟨0, by omega, rfl, Lib.hid (Below.refl _ _)⟩
    case round =>
      obtain ⟨j, hj, rfl, HB⟩ := hrel
      by_cases hlt : j < n
      · have hj2 : j < dbl.length := by have := HNL.out; omega
        obtain ⟨b, off, rfl, hVi⟩ := HV.out (by omega)
        obtain ⟨qc, zc, cv0, hqc⟩ := hVi j _ (List.getElem?_eq_getElem hj2)
        have cv := cell_later HB.out cv0
        have hj0 : (0 : Int) ≤ (j : Int) := by omega
        have hj1 : (j : Int) < (n : Int) := by omega
        have HC := K1.out wr dbl[j] qc zc HB.out (List.getElem_mem hj2) (hqc.later HB.out)
        clear hVi hqc cv0
        generalize dbl[j].length = L at *
        clear hj2
        go_wp2_with fail
        refine HC.mono ?_
        rintro e w3 ⟨rfl, hb3⟩
        have HB3 := Lib.hid (HB.out.trans (hb3.mono HB.out.size))
        clear hb3 HC
        go_wp2_with fail
        go_roundw
        case rel => exact ⟨j + 1, by omega, by go_num, HB3⟩
        case measure => simp [intOf]; omega
      · obtain rfl : j = n := by omega
        go_wp2_with fail
        refine (K2.out wr HB.out).mono ?_
        rintro e w4 ⟨rfl, hb4⟩
        have HB4 := Lib.hid (HB.out.trans (hb4.mono HB.out.size))
        clear hb4
        go_wp2_with fail
        refine (K3.out w4 HB4.out).mono ?_
        rintro e w5 ⟨r, rfl, hb5⟩
        have HB5 := Lib.hid (HB4.out.trans (hb5.mono HB4.out.size))
        clear hb5
        go_wp2_with fail
        refine (HK.out _).mono ?_
        rintro e w6 ⟨rfl, hb6⟩
        have HB6 := Lib.hid (HB5.out.trans (hb6.mono HB5.out.size))
        clear hb6
        go_wp2_with fail
        go_ret
        exact ⟨rfl, HB6.out⟩
set_option maxRecDepth 100000 in
set_option maxHeartbeats 1600000 in
theorem self_any (p : Option Addr) (z : Nat) (dbl : List (List Int)) (q : Option Addr) (zq : Nat) (c : List Int) (w : World) (hV : RowsIn w p dbl) (hn : dbl.length ≤ 9223372036854775807) (hf : Fit63 dbl) (hq : LitsIn w q c.length (fnL c)) (hc : c.length ≤ 9223372036854775807) :
    Calls Try.prog 11 #[.slice p dbl.length z, .slice q c.length zq] w fun e w' => e = .returned (.bool true) ∧ Below w.heap.size w w' := by
  have HL := large_any p z dbl w hV hn hf
  have HK := Lib.hid known_any
  have HF := Lib.hid (fun (q : Option Addr) (zq : Nat) (c : List Int) (W : World) (hb : Below w.heap.size w W) (hq : LitsIn W q c.length (fnL c)) (hc : c.length ≤ 9223372036854775807) (hno : allMay dbl = false ∨ mayC c = false) => rupFollows_no p z dbl q zq c W (hV.later hb) hn hf hq hc hno)
  cases hl : largeB dbl with
  | true =>
    rw [hl] at HL
    clear hV hf hq hl HF
    generalize dbl.length = n at *
    generalize c.length = m at *
    go_enter Try.func11, Try.ntmps11
    go_wp2_with fail
    refine HL.mono ?_
    rintro e w1 ⟨rfl, hw⟩
    obtain rfl := hw.symm
    clear HL
    go_wp2_with fail
    refine (HK.out _).mono ?_
    rintro e w2 ⟨rfl, hb⟩
    have HB := Lib.hid hb
    clear hb
    go_wp2_with fail
    go_ret
    exact ⟨rfl, HB.out⟩
  | false =>
    rw [hl] at HL
    by_cases h30 : 30 < c.length
    · clear hV hf hq hl HF
      generalize dbl.length = n at *
      generalize c.length = m at *
      go_enter Try.func11, Try.ntmps11
      go_wp2_with fail
      refine HL.mono ?_
      rintro e w1 ⟨rfl, hw⟩
      obtain rfl := hw.symm
      clear HL
      go_wp2_with fail
      refine (HK.out _).mono ?_
      rintro e w2 ⟨rfl, hb⟩
      have HB := Lib.hid hb
      clear hb
      go_wp2_with fail
      go_ret
      exact ⟨rfl, HB.out⟩
    · obtain ⟨h60, hall⟩ := largeB_no hl
      have hf2 : ∀ d ∈ dbl, d.length ≤ 9223372036854775807 := fun d hd => by have := hall d hd; omega
      have hany : ∀ b, allMay dbl = b → (b = false → ∀ d, d ∈ dbl → True) := fun _ _ _ _ _ => trivial
      clear hany
      have h3no : allMay [c, c] = mayC c := by unfold allMay; simp
      have hno3 : ∀ (W : World), Below w.heap.size w W → (allMay dbl = false ∨ mayC c = false) → Calls Try.prog 27 #[.slice p dbl.length z, .slice (some ⟨W.heap.size, 0, none⟩) 2 2] (W.alloc (.cells #[.slice q c.length zq, .slice q c.length zq] 23)) fun e w' => ∃ r, e = .returned (.tuple #[.int .i64 0, .bool r, .int .i64 2]) ∧ Below W.heap.size W w' := fun W hb hno => by
        have h1 := below1 W (.cells #[.slice q c.length zq, .slice q c.length zq] 23)
        have := rupRow_no p z dbl (some ⟨W.heap.size, 0, none⟩) 2 [c, c] (W.alloc (.cells #[.slice q c.length zq, .slice q c.length zq] 23)) ((hV.later hb).later h1) hn hf (rows_two (hq.later hb)) (by simp) (fun d hd => by simp at hd; rcases hd with rfl | rfl <;> exact hc) (by rw [h3no]; exact hno)
        refine this.mono ?_
        rintro e w' ⟨rfl, rfl⟩
        exact ⟨false, rfl, h1⟩
      have hno2 : ∀ (W : World), Below w.heap.size w W → (allMay dbl = false ∨ mayC c = false) → Calls Try.prog 25 #[.slice p dbl.length z, .slice q c.length zq] W fun e w' => e = .returned (.tuple #[.bool false, .int .i64 2]) ∧ Below W.heap.size W w' := fun W hb hno => by
        refine (HF.out q zq c W hb (hq.later hb) hc hno).mono ?_
        rintro e w' ⟨rfl, rfl⟩
        exact ⟨rfl, Below.refl _ _⟩
      cases ha : allMay dbl with
      | false =>
        refine self_walk p z dbl.length dbl q zq c.length w false false 2 2 0 2 hV rfl h60 (by omega) (.inl ⟨rfl, rfl⟩) (.inl ⟨rfl, rfl, rfl, rfl⟩) HL (fun W d q1 z1 hb hd hq1 => ?_) (fun W hb => hno2 W hb (.inl ha)) (fun W hb => hno3 W hb (.inl ha))
        refine (HF.out q1 z1 d W hb hq1 (hf2 d hd) (.inl ha)).mono ?_
        rintro e w' ⟨rfl, rfl⟩
        exact ⟨rfl, Below.refl _ _⟩
      | true =>
        have hyes1 : ∀ (W : World) (d : List Int) (q1 : Option Addr) (z1 : Nat), Below w.heap.size w W → d ∈ dbl → LitsIn W q1 d.length (fnL d) → Calls Try.prog 25 #[.slice p dbl.length z, .slice q1 d.length z1] W fun e w' => e = .returned (.tuple #[.bool true, .int .i64 0]) ∧ Below W.heap.size W w' := fun W d q1 z1 hb hd hq1 => by
          refine (rupFollows_yes p z dbl q1 z1 d W (hV.later hb) (by omega) hf hq1 ha (List.all_eq_true.1 ha d hd)).mono ?_
          rintro e w' ⟨f, rfl, h9, hb9⟩
          have : f = true := h9.2 (self_confl hd)
          subst this
          exact ⟨rfl, hb9⟩
        cases hmc : mayC c with
        | false => exact self_walk p z dbl.length dbl q zq c.length w true false 0 2 0 2 hV rfl h60 (by omega) (.inr ⟨rfl, rfl⟩) (.inl ⟨rfl, rfl, rfl, rfl⟩) HL hyes1 (fun W hb => hno2 W hb (.inr hmc)) (fun W hb => hno3 W hb (.inr hmc))
        | true =>
          have hyes3 : ∀ (W : World), Below w.heap.size w W → Calls Try.prog 27 #[.slice p dbl.length z, .slice (some ⟨W.heap.size, 0, none⟩) 2 2] (W.alloc (.cells #[.slice q c.length zq, .slice q c.length zq] 23)) fun e w' => ∃ (n : Nat) (r : Bool), e = .returned (.tuple #[.int .i64 (n : Int), .bool r, .int .i64 0]) ∧ RowOut dbl [c, c] n r ∧ Below W.heap.size W w' := fun W hb => by
            have h1 := below1 W (.cells #[.slice q c.length zq, .slice q c.length zq] 23)
            refine (rupRow_yes p z dbl (some ⟨W.heap.size, 0, none⟩) 2 [c, c] (W.alloc (.cells #[.slice q c.length zq, .slice q c.length zq] 23)) ((hV.later hb).later h1) (by omega) hf (rows_two (hq.later hb)) (by simp) (fun d hd => by simp at hd; rcases hd with rfl | rfl <;> exact hc) ha (by rw [h3no]; exact hmc)).mono ?_
            rintro e w' ⟨n, r, rfl, ho, hb9⟩
            exact ⟨n, r, rfl, ho, chain h1 hb9⟩
          by_cases hcf : Confl dbl (negs c)
          · refine self_walk p z dbl.length dbl q zq c.length w true true 0 0 2 0 hV rfl h60 (by omega) (.inr ⟨rfl, rfl⟩) (.inr (.inl ⟨rfl, rfl, rfl, rfl⟩)) HL hyes1 (fun W hb => ?_) (fun W hb => ?_)
            · refine (rupFollows_yes p z dbl q zq c W (hV.later hb) (by omega) hf (hq.later hb) ha hmc).mono ?_
              rintro e w' ⟨f, rfl, h9, hb9⟩
              have : f = true := h9.2 hcf
              subst this
              exact ⟨rfl, hb9⟩
            · refine (hyes3 W hb).mono ?_
              rintro e w' ⟨n, r, rfl, ho, hb9⟩
              have := (row_two ho).1 hcf
              subst this
              exact ⟨r, rfl, hb9⟩
          · refine self_walk p z dbl.length dbl q zq c.length w true false 0 0 0 0 hV rfl h60 (by omega) (.inr ⟨rfl, rfl⟩) (.inr (.inr ⟨rfl, rfl, rfl, rfl⟩)) HL hyes1 (fun W hb => ?_) (fun W hb => ?_)
            · refine (rupFollows_yes p z dbl q zq c W (hV.later hb) (by omega) hf (hq.later hb) ha hmc).mono ?_
              rintro e w' ⟨f, rfl, h9, hb9⟩
              have : f = false := by
                cases f with
                | true => exact absurd (h9.1 rfl) hcf
                | false => rfl
              subst this
              exact ⟨rfl, hb9⟩
            · refine (hyes3 W hb).mono ?_
              rintro e w' ⟨n, r, rfl, ho, hb9⟩
              have := (row_two ho).2 hcf
              subst this
              exact ⟨r, rfl, hb9⟩
end Go.Proofs.Ytgdncnalahdjeaa
