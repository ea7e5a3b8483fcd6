/- rup.Row. -/
import Derived.Test.YtgdncnalahdjeaaU17
import Derived.Deep.LoopGhost
namespace Go.Proofs.Ytgdncnalahdjeaa
open Go Go.RowKit Go.Maps

/-- how far a row follows, and whether it refutes. -/
def RowOut (db row : List (List Int)) (n : Nat) (r : Bool) : Prop :=
  n ≤ row.length ∧ (∀ i c, i < n → row[i]? = some c → Confl (db ++ row.take i) (negs c)) ∧ (∀ c, row[n]? = some c → ¬ Confl (db ++ row.take n) (negs c)) ∧ (r = true ↔ n = row.length ∧ [] ∈ row)
set_option maxRecDepth 100000 in
set_option maxHeartbeats 800000 in
theorem rupRow_no (p : Option Addr) (z : Nat) (dbl : List (List Int)) (q : Option Addr) (zq : Nat) (row : List (List Int)) (W : World) (hV : RowsIn W p dbl) (hn : dbl.length ≤ 9223372036854775807) (hf : Fit63 dbl) (hq : RowsIn W q row) (hn2 : row.length ≤ 9223372036854775807) (hf2 : Fit63 row) (hno : allMay dbl = false ∨ allMay row = false) :
    Calls Try.prog 27 #[.slice p dbl.length z, .slice q row.length zq] W fun e w' => e = .returned (.tuple #[.int .i64 0, .bool false, .int .i64 2]) ∧ w' = W := by
  have H1 := valid_at p z dbl W hV hn hf
  have H2 := valid_at q zq row W hq hn2 hf2
  clear hV hf hq hf2
  cases ha : allMay dbl with
  | false =>
    rw [ha] at H1
    clear ha hno
    go_enter Try.func27, Try.ntmps27
    go_wp2_with fail
    refine H1.mono ?_
    rintro e w1 ⟨rfl, hw⟩
    obtain rfl := hw.symm
    clear H1 H2
    go_wp2_with fail
    go_ret3
    exact ⟨rfl, rfl⟩
  | true =>
    have hc2 : allMay row = false := by
      rcases hno with h | h
      · rw [ha] at h; cases h
      · exact h
    rw [ha] at H1
    rw [hc2] at H2
    clear ha hno hc2
    go_enter Try.func27, Try.ntmps27
    go_wp2_with fail
    refine H1.mono ?_
    rintro e w1 ⟨rfl, hw⟩
    obtain rfl := hw.symm
    clear H1
    go_wp2_with fail
    refine H2.mono ?_
    rintro e w1 ⟨rfl, hw⟩
    obtain rfl := hw.symm
    clear H2
    go_wp2_with fail
    go_ret3
    exact ⟨rfl, rfl⟩
set_option maxRecDepth 100000 in
set_option maxHeartbeats 1600000 in
theorem rupRow_yes (p : Option Addr) (z : Nat) (dbl : List (List Int)) (q : Option Addr) (zq : Nat) (row : List (List Int)) (W : World) (hV : RowsIn W p dbl) (hn : dbl.length ≤ 200000) (hf : Fit63 dbl) (hq : RowsIn W q row) (hn2 : row.length ≤ 200000) (hf2 : Fit63 row) (ha : allMay dbl = true) (ha2 : allMay row = true) :
    Calls Try.prog 27 #[.slice p dbl.length z, .slice q row.length zq] W fun e w' => ∃ (n : Nat) (r : Bool), e = .returned (.tuple #[.int .i64 (n : Int), .bool r, .int .i64 0]) ∧ RowOut dbl row n r ∧ Below W.heap.size W w' := by
  have H1 := valid_at p z dbl W hV (by omega) hf
  have H2 := valid_at q zq row W hq (by omega) hf2
  have H3 := baseOf_at p z dbl W hV (by omega) ha
  have HQ := Lib.hid hq
  have HM := Lib.hid ha2
  rw [ha] at H1
  rw [ha2] at H2
  clear hV hf hq hf2 ha ha2
  obtain ⟨n, hnn⟩ : ∃ n, row.length = n := ⟨_, rfl⟩
  have HNN := Lib.hid hnn
  rw [hnn] at H2 hn2 ⊢
  clear hnn
  go_enter Try.func27, Try.ntmps27
  go_wp2_with fail
  refine H1.mono ?_
  rintro e w1 ⟨rfl, hw⟩
  obtain rfl := hw.symm
  clear H1
  go_wp2_with fail
  refine H2.mono ?_
  rintro e w1 ⟨rfl, hw⟩
  obtain rfl := hw.symm
  clear H2
  go_wp2_with fail
  refine H3.mono ?_
  rintro e w2 ⟨a, m, rfl, hbn⟩
  have HB0 := Lib.hid (show BaseN W w2 a m (dbl ++ row.take 0) by simpa using hbn)
  clear H3 hbn
  go_wp2_with fail
  go_loopg [8, 25] n (fun gk s8 s25 wx => ∃ (j : Nat) (r : Bool), j + gk = n ∧ s25 = .int .i64 (j : Int) ∧ s8 = .bool r ∧ Hid (BaseN W wx a m (dbl ++ row.take j) ∧ (r = true ↔ [] ∈ row.take j) ∧ ∀ i c, i < j → row[i]? = some c → Confl (dbl ++ row.take i) (negs c)))
  case atStart => exact ⟨0, false, by omega, rfl, rfl, Lib.hid ⟨HB0.out, by simp, fun i c hi => by omega⟩⟩
  case round =>
    obtain ⟨j, r, hjg, rfl, rfl, HI⟩ := hrel
    clear HB0
    have HJG := Lib.hid hjg
    cases gk with
    | zero =>
      have hjn : j = n := by omega
      subst hjn
      clear hjg
      go_wp2_with fail
      go_ret3
      obtain ⟨⟨K1, _, hbl, _⟩, hr, hall⟩ := HI.out
      refine ⟨j, r, rfl, ⟨by have := HNN.out; omega, hall, fun c hc => ?_, ?_⟩, hbl⟩
      · have := (List.getElem?_eq_some_iff.1 hc).1
        have := HNN.out
        omega
      · rw [hr, ← HNN.out, List.take_length]
        exact ⟨fun h => ⟨rfl, h⟩, fun h => h.2⟩
    | succ G =>
      obtain ⟨⟨K1, hb1, hbl1, hj1⟩, hr, hall⟩ := HI.out
      have hj2 : j < row.length := by have := HNN.out; omega
      obtain ⟨b, off, rfl, hVi⟩ := HQ.out (by omega)
      obtain ⟨qc, zc, cv0, hqc0⟩ := hVi j _ (List.getElem?_eq_getElem hj2)
      have cv := cell_later hbl1 cv0
      have hqc := hqc0.later hbl1
      have hj0 : (0 : Int) ≤ (j : Int) := by omega
      have hj1' : (j : Int) < (n : Int) := by have := HNN.out; omega
      have hmay := (mayC_iff _).1 (List.all_eq_true.1 HM.out _ (List.getElem_mem hj2))
      have HF := Lib.hid (follows_at hb1 (by simp; omega) qc row[j].length zc (fnL row[j]) hqc hmay)
      have htk : row.take (j + 1) = row.take j ++ [row[j]] := (List.take_append_getElem hj2).symm
      have hget : row[j]? = some row[j] := List.getElem?_eq_getElem hj2
      have HBL := Lib.hid hbl1
      have HJ := Lib.hid hj1
      have HR := Lib.hid hr
      have HALL := Lib.hid hall
      have HQC := Lib.hid hqc0
      have HMAY := Lib.hid hmay
      have hc5 := hmay.1
      clear hb1 hbl1 hj1 hr hall hVi hqc hqc0 hmay HI hjg cv0
      generalize row[j] = c at *
      have HTK := Lib.hid htk
      have HGET := Lib.hid hget
      clear htk hget hj2
      have hfl := HF.out
      rw [rowL_fn] at hfl
      have HFL := Lib.hid hfl
      clear hfl HF
      go_wp2_with fail
      refine HFL.out.mono ?_
      rintro e w3 ⟨f, rfl, hf3, K3, hb3, hs3⟩
      obtain ⟨hlow, hj3⟩ := hs3.lower HBL.out.size HJ.out
      have hbl3 := HBL.out.trans hlow
      have HBL3 := Lib.hid hbl3
      have HF3 := Lib.hid hf3
      have HJ3 := Lib.hid hj3
      cases f with
      | false =>
        clear hb3 hs3 hlow hbl3 hf3 hj3
        go_wp2_with fail
        go_ret3
        have hjn := HJG.out
        have hnl := HNN.out
        refine ⟨j, false, rfl, ⟨by omega, HALL.out, fun c' hc' => ?_, ?_⟩, HBL3.out⟩
        · rw [HGET.out] at hc'
          cases hc'
          intro hcf
          have := HF3.out.2 hcf
          cases this
        · constructor
          · intro h; cases h
          · intro h; omega
      | true =>
        have hA := add_at hb3 (by simp; omega) qc c.length zc (fnL c) (HQC.out.later HBL3.out) HMAY.out
        rw [rowL_fn, List.append_assoc, ← HTK.out] at hA
        have hall2 : ∀ i d, i < j + 1 → row[i]? = some d → Confl (dbl ++ row.take i) (negs d) := fun i d hi hd => by
          by_cases e : i < j
          · exact HALL.out i d e hd
          · obtain rfl : i = j := by omega
            rw [HGET.out] at hd
            cases hd
            exact HF3.out.1 rfl
        have HALL2 := Lib.hid hall2
        have hemp : ∀ (r2 : Bool), (r2 = true ↔ r = true ∨ c = []) → (r2 = true ↔ [] ∈ row.take (j + 1)) := fun r2 h2 => by
          rw [HTK.out, h2, HR.out, List.mem_append, List.mem_singleton, eq_comm (a := c)]
        have HEMP := Lib.hid hemp
        clear hb3 hs3 hlow hbl3 hf3 hj3 hall2 hemp
        have hlz : c = [] ↔ c.length = 0 := List.length_eq_zero_iff.symm
        have HLZ := Lib.hid hlz
        clear hlz
        generalize c.length = L at *
        cases r with
        | true =>
          go_wp2_with fail
          refine hA.mono ?_
          rintro e w4 ⟨rfl, hb4⟩
          have HB4 := Lib.hid (BaseN.step (db := []) HBL3.out HJ3.out hb4)
          clear hb4 hA
          go_wp2_with fail
          go_roundg G
          case measure => omega
          case rel => exact ⟨j + 1, true, by have := HJG.out; omega, by go_num, rfl, Lib.hid ⟨HB4.out, HEMP.out true (by simp), HALL2.out⟩⟩
        | false =>
          by_cases hL : L = 0
          · subst hL
            go_wp2_with fail
            refine hA.mono ?_
            rintro e w4 ⟨rfl, hb4⟩
            have HB4 := Lib.hid (BaseN.step (db := []) HBL3.out HJ3.out hb4)
            clear hb4 hA
            go_wp2_with fail
            go_roundg G
            case measure => omega
            case rel => exact ⟨j + 1, true, by have := HJG.out; omega, by go_num, rfl, Lib.hid ⟨HB4.out, HEMP.out true (by have := HLZ.out.2 (by first | exact rfl | exact trivial); simp [this]), HALL2.out⟩⟩
          · have q1 : ((L : Int) == 0) = false := by rw [beq_eq_false_iff_ne]; omega
            go_wp2_with fail
            refine hA.mono ?_
            rintro e w4 ⟨rfl, hb4⟩
            have HB4 := Lib.hid (BaseN.step (db := []) HBL3.out HJ3.out hb4)
            clear hb4 hA
            go_wp2_with fail
            go_roundg G
            case measure => omega
            case rel => exact ⟨j + 1, false, by have := HJG.out; omega, by go_num, rfl, Lib.hid ⟨HB4.out, HEMP.out false (by constructor <;> intro h; cases h; rcases h with h | h; cases h; exact absurd (HLZ.out.1 h) hL), HALL2.out⟩⟩
end Go.Proofs.Ytgdncnalahdjeaa
