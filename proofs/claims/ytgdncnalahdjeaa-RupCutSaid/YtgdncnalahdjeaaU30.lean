/- RupCut: every case. -/
import Derived.Test.YtgdncnalahdjeaaU29
import Derived.Test.YtgdncnalahdjeaaU22
namespace Go.Proofs.Ytgdncnalahdjeaa
open Go Go.RowKit Go.Maps

theorem row_ex (db row : List (List Int)) : ∃ n a, RowOut db row n a := by
  have key : ∀ j, j ≤ row.length → (∃ n, n < j ∧ (∀ i c, i < n → row[i]? = some c → Confl (db ++ row.take i) (negs c)) ∧ (∀ c, row[n]? = some c → ¬ Confl (db ++ row.take n) (negs c))) ∨ (∀ i c, i < j → row[i]? = some c → Confl (db ++ row.take i) (negs c)) := by
    intro j
    induction j with
    | zero => intro _; exact .inr (fun i c hi => by omega)
    | succ j ih =>
      intro hj
      rcases ih (by omega) with ⟨n, h1, h2, h3⟩ | h
      · exact .inl ⟨n, by omega, h2, h3⟩
      · by_cases hc : Confl (db ++ row.take j) (negs row[j])
        · refine .inr (fun i c hi hic => ?_)
          rcases Nat.lt_or_ge i j with hij | hij
          · exact h i c hij hic
          · obtain rfl : i = j := by omega
            rw [List.getElem?_eq_getElem (by omega)] at hic
            cases hic
            exact hc
        · refine .inl ⟨j, by omega, h, fun c hic => ?_⟩
          rw [List.getElem?_eq_getElem (by omega)] at hic
          cases hic
          exact hc
  rcases key row.length (Nat.le_refl _) with ⟨n, h1, h2, h3⟩ | h
  · exact ⟨n, decide (n = row.length ∧ [] ∈ row), by omega, h2, h3, by rw [decide_eq_true_eq]⟩
  · refine ⟨row.length, decide (row.length = row.length ∧ [] ∈ row), Nat.le_refl _, h, fun c hc => ?_, by rw [decide_eq_true_eq]⟩
    rw [List.getElem?_eq_none (Nat.le_refl _)] at hc
    cases hc
theorem row_uniq {db row : List (List Int)} {n n2 : Nat} {a a2 : Bool} (h : RowOut db row n a) (h2 : RowOut db row n2 a2) : n2 = n ∧ a2 = a := by
  have hl : row.take row.length = row := List.take_length
  have h3 := row_cut h (Nat.le_refl _) (by rw [hl]; exact h2)
  have e : n2 = n := by have := h.1; omega
  subst e
  refine ⟨rfl, ?_⟩
  rw [Bool.eq_iff_iff, h2.2.2.2, h.2.2.2]
theorem row_fixed (dbl row : List (List Int)) (hn : dbl.length ≤ 200000) (hf : Fit63 dbl) (hn2 : row.length ≤ 200000) (hf2 : Fit63 row) : ∃ (n : Nat) (a : Bool) (e : Int),
    (((allMay dbl = true ∧ allMay row = true) ∧ e = 0 ∧ RowOut dbl row n a) ∨ ((allMay dbl = false ∨ allMay row = false) ∧ e = 2)) ∧
    ∀ W p z q zq, RowsIn W p dbl → RowsIn W q row → Calls Try.prog 27 #[.slice p dbl.length z, .slice q row.length zq] W fun e' w' => e' = .returned (.tuple #[.int .i64 (n : Int), .bool a, .int .i64 e]) ∧ Below W.heap.size W w' := by
  by_cases hok : allMay dbl = true ∧ allMay row = true
  · obtain ⟨n, a, hro⟩ := row_ex dbl row
    refine ⟨n, a, 0, .inl ⟨hok, rfl, hro⟩, fun W p z q zq hp hq => ?_⟩
    refine (rupRow_yes p z dbl q zq row W hp hn hf hq hn2 hf2 hok.1 hok.2).mono ?_
    rintro e w' ⟨n2, a2, he, hro2, hb⟩
    obtain ⟨e1, e2⟩ := row_uniq hro hro2
    subst e1 e2
    exact ⟨he, hb⟩
  · have hno : allMay dbl = false ∨ allMay row = false := by
      cases ha : allMay dbl with
      | false => exact .inl rfl
      | true =>
        cases hm : allMay row with
        | false => exact .inr rfl
        | true => exact absurd ⟨ha, hm⟩ hok
    refine ⟨0, false, 2, .inr ⟨hno, rfl⟩, fun W p z q zq hp hq => ?_⟩
    refine (rupRow_no p z dbl q zq row W hp (by omega) hf hq (by omega) hf2 hno).mono ?_
    rintro e w' ⟨he, rfl⟩
    exact ⟨he, Below.refl _ _⟩
set_option maxRecDepth 100000 in
set_option maxHeartbeats 1600000 in
theorem cut_skip (p : Option Addr) (z n : Nat) (q : Option Addr) (zq m : Nat) (r : Option Addr) (zr o : Nat) (t : Int) (w : World) (b1 b2 b3 : Bool) (hb : b1 = true ∨ (b1 = false ∧ b2 = true) ∨ (b1 = false ∧ b2 = false ∧ b3 = true))
    (L1 : Calls Try.prog 17 #[.slice p n z] w fun e w' => e = .returned (.bool b1) ∧ w' = w)
    (L2 : Calls Try.prog 17 #[.slice q m zq] w fun e w' => e = .returned (.bool b2) ∧ w' = w)
    (L3 : Calls Try.prog 17 #[.slice r o zr] w fun e w' => e = .returned (.bool b3) ∧ w' = w) :
    Calls Try.prog 10 #[.slice p n z, .slice q m zq, .slice r o zr, .int .i64 t] w fun e w' => e = .returned (.bool true) ∧ Below w.heap.size w w' := by
  have HK := Lib.hid known_any
  rcases hb with hb | ⟨hb, hb2⟩ | ⟨hb, hb2, hb3⟩
  · subst hb
    clear L2 L3
    go_enter Try.func10, Try.ntmps10
    go_wp2_with fail
    refine L1.mono ?_
    rintro e w1 ⟨rfl, hw⟩
    obtain rfl := hw.symm
    clear L1
    go_wp2_with fail
    refine (HK.out _).mono ?_
    rintro e w2 ⟨rfl, hb⟩
    have HB := Lib.hid hb
    clear hb
    go_wp2_with fail
    go_ret
    exact ⟨rfl, HB.out⟩
  · subst hb hb2
    clear L3
    go_enter Try.func10, Try.ntmps10
    go_wp2_with fail
    refine L1.mono ?_
    rintro e w1 ⟨rfl, hw⟩
    obtain rfl := hw.symm
    clear L1
    go_wp2_with fail
    refine L2.mono ?_
    rintro e w1 ⟨rfl, hw⟩
    obtain rfl := hw.symm
    clear L2
    go_wp2_with fail
    refine (HK.out _).mono ?_
    rintro e w2 ⟨rfl, hb⟩
    have HB := Lib.hid hb
    clear hb
    go_wp2_with fail
    go_ret
    exact ⟨rfl, HB.out⟩
  · subst hb hb2 hb3
    go_enter Try.func10, Try.ntmps10
    go_wp2_with fail
    refine L1.mono ?_
    rintro e w1 ⟨rfl, hw⟩
    obtain rfl := hw.symm
    clear L1
    go_wp2_with fail
    refine L2.mono ?_
    rintro e w1 ⟨rfl, hw⟩
    obtain rfl := hw.symm
    clear L2
    go_wp2_with fail
    refine L3.mono ?_
    rintro e w1 ⟨rfl, hw⟩
    obtain rfl := hw.symm
    clear L3
    go_wp2_with fail
    refine (HK.out _).mono ?_
    rintro e w2 ⟨rfl, hb⟩
    have HB := Lib.hid hb
    clear hb
    go_wp2_with fail
    go_ret
    exact ⟨rfl, HB.out⟩
theorem cut_any (p : Option Addr) (z : Nat) (dbl : List (List Int)) (q : Option Addr) (zq : Nat) (row : List (List Int)) (r : Option Addr) (zr : Nat) (more : List (List Int)) (t : Int) (w : World)
    (hV : RowsZ w p dbl) (hn : dbl.length ≤ 9223372036854775807) (hf : Fit63 dbl) (hQ : RowsIn w q row) (hn2 : row.length ≤ 9223372036854775807) (hf2 : Fit63 row) (hz1 : row.length ≤ zq) (hz2 : zq ≤ 9223372036854775807)
    (hR : RowsZ w r more) (hn3 : more.length ≤ 9223372036854775807) (hf3 : Fit63 more) (hrz : r = none → zr = 0) :
    Calls Try.prog 10 #[.slice p dbl.length z, .slice q row.length zq, .slice r more.length zr, .int .i64 t] w fun e w' => e = .returned (.bool true) ∧ Below w.heap.size w w' := by
  have L1 := large_any p z dbl w hV.rows hn hf
  have L2 := large_any q zq row w hQ hn2 hf2
  have L3 := large_any r zr more w hR.rows hn3 hf3
  by_cases hskip : largeB dbl = true ∨ (largeB dbl = false ∧ largeB row = true) ∨ (largeB dbl = false ∧ largeB row = false ∧ largeB more = true)
  · exact cut_skip p z _ q zq _ r zr _ t w _ _ _ hskip L1 L2 L3
  · obtain ⟨l1, l2, l3⟩ : largeB dbl = false ∧ largeB row = false ∧ largeB more = false := by
      cases h1 : largeB dbl with
      | true => exact absurd (.inl h1) hskip
      | false =>
        cases h2 : largeB row with
        | true => exact absurd (.inr (.inl ⟨h1, h2⟩)) hskip
        | false =>
          cases h3 : largeB more with
          | true => exact absurd (.inr (.inr ⟨h1, h2, h3⟩)) hskip
          | false => exact ⟨rfl, rfl, rfl⟩
    rw [l1] at L1
    rw [l2] at L2
    rw [l3] at L3
    obtain ⟨d60, dall⟩ := largeB_no l1
    obtain ⟨r60, rall⟩ := largeB_no l2
    obtain ⟨m60, mall⟩ := largeB_no l3
    obtain ⟨k, hk⟩ : ∃ k : Nat, (k : Int) = t % 18446744073709551616 % ((row.length : Int) + 1) := ⟨(t % 18446744073709551616 % ((row.length : Int) + 1)).toNat, by
      have := Int.emod_nonneg (t % 18446744073709551616) (show (row.length : Int) + 1 ≠ 0 by omega); omega⟩
    have hkm : k ≤ row.length := by
      have := Int.emod_lt_of_pos (t % 18446744073709551616) (show (0 : Int) < (row.length : Int) + 1 by omega); omega
    have hkw : (IntKind.u64.wrap t).tmod ((row.length : Int) + 1) = (k : Int) := by
      rw [wrap_u', Int.tmod_eq_emod_of_nonneg (by omega), hk]
    have hkl : (row.take k).length = k := by rw [List.length_take]; omega
    have hfk : Fit63 (row.take k) := fun c hc => hf2 c (List.mem_of_mem_take hc)
    have hfm : Fit63 (dbl ++ more) := fun c hc => by
      rcases List.mem_append.1 hc with h | h
      · exact hf c h
      · exact hf3 c h
    obtain ⟨n, a, e1, c1, R1⟩ := row_fixed dbl row (by omega) hf (by omega) hf2
    obtain ⟨m2, b, e2, c2, R2⟩ := row_fixed dbl (row.take k) (by omega) hf (by omega) hfk
    obtain ⟨o, c, e3, c3, R3⟩ := row_fixed (dbl ++ more) row (by rw [List.length_append]; omega) hfm (by omega) hf2
    rw [hkl] at R2
    refine cut_walk p z dbl q zq row.length r zr more t w k n m2 o a b c e1 e2 e3 ?_ hV hR hrz d60 dall r60 m60 hz1 hz2 hkm hkw L1 L2 L3 (fun W hb => R1 W p z q zq (hV.rows.later hb) (hQ.later hb)) (fun W hb => R2 W p z q zq (hV.rows.later hb) ((hQ.later hb).take k)) (fun W ps cs hb hr => R3 W ps cs q zq hr (hQ.later hb))
    rcases c1 with ⟨⟨h1, h2⟩, he1, hr1⟩ | ⟨_, he1⟩
    · have ht : allMay (row.take k) = true := List.all_eq_true.2 (fun c hc => List.all_eq_true.1 h2 c (List.mem_of_mem_take hc))
      rcases c2 with ⟨_, he2, hr2⟩ | ⟨h, _⟩
      · obtain ⟨x1, x2⟩ := row_cut hr1 hkm hr2
        refine .inr ⟨he1, he2, x1, x2, ?_⟩
        rcases c3 with ⟨_, he3, hr3⟩ | ⟨_, he3⟩
        · exact .inr ⟨he3, row_more hr1 hr3⟩
        · exact .inl he3
      · rcases h with h | h
        · rw [h1] at h; cases h
        · rw [ht] at h; cases h
    · exact .inl he1
end Go.Proofs.Ytgdncnalahdjeaa
