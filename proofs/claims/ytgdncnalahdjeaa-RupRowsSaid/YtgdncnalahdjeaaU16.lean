/- Rows of clauses as arguments; valid; baseOf. -/
import Derived.Test.YtgdncnalahdjeaaU15
namespace Go.Proofs.Ytgdncnalahdjeaa
open Go Go.RowKit Go.Maps

def fnL (c : List Int) (i : Nat) : Int := c.getD i 0
theorem rowL_fn (c : List Int) : rowL c.length (fnL c) = c := getD_row c
def mayC (c : List Int) : Bool := decide (c.length ≤ 5000) && c.all isLitB
theorem mayC_iff (c : List Int) : mayC c = true ↔ MayP c.length (fnL c) := by
  unfold mayC MayP
  simp only [Bool.and_eq_true, decide_eq_true_eq, List.all_eq_true]
  refine and_congr Iff.rfl ⟨fun h i hi => ?_, fun h l hl => ?_⟩
  · unfold fnL; rw [getD_eq hi]; exact h _ (List.getElem_mem hi)
  · obtain ⟨i, hi, rfl⟩ := List.getElem_of_mem hl
    have := h i hi
    unfold fnL at this
    rwa [getD_eq hi] at this
/-- an argument that is a slice of clauses. -/
def RowsIn (W : World) (p : Option Addr) (dbl : List (List Int)) : Prop := 0 < dbl.length → ∃ b off, p = some ⟨b, off, none⟩ ∧ ∀ i c, dbl[i]? = some c → ∃ q z, W.cell? ⟨b, off + i, none⟩ = some (.slice q c.length z) ∧ LitsIn W q c.length (fnL c)
theorem RowsIn.later {W W' : World} {p : Option Addr} {dbl : List (List Int)} (h : RowsIn W p dbl) (hb : Below W.heap.size W W') : RowsIn W' p dbl := fun hn => by
  obtain ⟨b, off, e, hc⟩ := h hn
  refine ⟨b, off, e, fun i c hi => ?_⟩
  obtain ⟨q, z, h1, h2⟩ := hc i c hi
  exact ⟨q, z, cell_later hb h1, h2.later hb⟩
/-- lengths fit. -/
def Fit63 (dbl : List (List Int)) : Prop := ∀ c, c ∈ dbl → c.length ≤ 9223372036854775807
set_option maxRecDepth 100000 in
set_option maxHeartbeats 800000 in
theorem notmay_at (q : Option Addr) (z : Nat) (c : List Int) (w : World) (hV : LitsIn w q c.length (fnL c)) (hn : c.length ≤ 9223372036854775807) :
    Calls Try.prog 67 #[.slice q c.length z] w fun e w' => e = .returned (.bool (!mayC c)) ∧ w' = w := by
  have H := may_any q c.length z (fnL c) w hV hn
  have hb := mayC_iff c
  have HB := Lib.hid hb
  clear hb hV
  go_enter Try.func67, Try.ntmps67
  go_wp2_with fail
  refine H.mono ?_
  rintro e w1 ⟨⟨rfl, h⟩ | ⟨rfl, h⟩, rfl⟩
  · have h2 := HB.out.2 h
    have H2 := Lib.hid h2
    clear H h h2
    go_wp2_with fail
    refine bodyPost_ret (v := .bool false) (by simp [results, Try.results67, go_sem]) rfl ⟨by rw [H2.out]; rfl, rfl⟩
  · have h2 : mayC c = false := by
      cases hm : mayC c with
      | true => exact absurd (HB.out.1 hm) h
      | false => rfl
    have H2 := Lib.hid h2
    clear H h h2
    go_wp2_with fail
    refine bodyPost_ret (v := .bool true) (by simp [results, Try.results67, go_sem]) rfl ⟨by rw [H2.out]; rfl, rfl⟩
set_option maxRecDepth 100000 in
set_option maxHeartbeats 800000 in
theorem index85 (p : Option Addr) (z : Nat) (dbl : List (List Int)) (w : World) (hV : RowsIn w p dbl) (hn : dbl.length ≤ 9223372036854775807) (hf : Fit63 dbl) :
    Calls Try.prog 85 #[.slice p dbl.length z, .func (.func 67) #[] #[]] w fun e w' => ∃ r : Int, e = .returned (.int .i64 r) ∧ (((∀ c, c ∈ dbl → mayC c = true) ∧ decide (0 ≤ r) = false) ∨ ((∃ c, c ∈ dbl ∧ mayC c = false) ∧ decide (0 ≤ r) = true)) ∧ w' = w := by
  have HV := Lib.hid hV
  have HF := Lib.hid hf
  clear hV hf
  obtain ⟨n, hnn⟩ : ∃ n, dbl.length = n := ⟨_, rfl⟩
  rw [hnn] at hn ⊢
  have HN := Lib.hid hnn
  clear hnn
  go_enter Try.func85, Try.ntmps85
  go_wp2_with fail
  go_loopw [8] (fun i wr => ∃ j : Nat, j ≤ n ∧ i = .int .i64 j ∧ w = wr ∧ ∀ c, c ∈ dbl.take j → mayC c = true) (fun i _ => n - (intOf i).toNat)
  case atStart => exact ⟨0, by omega, rfl, rfl, fun c hc => by simp at hc⟩
  case round =>
    obtain ⟨j, hj, rfl, rfl, hall⟩ := hrel
    have HALL := Lib.hid hall
    clear hall
    by_cases hlt : j < n
    · have hj2 : j < dbl.length := by have := HN.out; omega
      obtain ⟨b, off, rfl, hV⟩ := HV.out (by omega)
      obtain ⟨q, zq, cv, hq⟩ := hV j _ (List.getElem?_eq_getElem hj2)
      have hj0 : (0 : Int) ≤ (j : Int) := by omega
      have hj1 : (j : Int) < (n : Int) := by omega
      have H1 := notmay_at q zq dbl[j] w hq (HF.out _ (List.getElem_mem hj2))
      have HJ := Lib.hid hj2
      clear hV hq
      have htk : dbl.take (j + 1) = dbl.take j ++ [dbl[j]] := (List.take_append_getElem hj2).symm
      have HT := Lib.hid htk
      have hmem := Lib.hid (List.getElem_mem hj2)
      clear htk
      generalize dbl[j] = c at *
      clear hj2
      cases hb : mayC c with
      | true =>
        rw [hb] at H1
        have HB := Lib.hid hb
        clear hb
        go_wp2_with fail
        refine H1.mono ?_
        rintro e w1 ⟨rfl, rfl⟩
        go_wp2_with fail
        go_roundw
        case rel => exact ⟨j + 1, by omega, by go_num, trivial, fun d hd => by
          rw [HT.out] at hd
          rcases List.mem_append.1 hd with hd | hd
          · exact HALL.out d hd
          · simp at hd; subst hd; exact HB.out⟩
        case measure => simp [intOf]; omega
      | false =>
        rw [hb] at H1
        have HB := Lib.hid hb
        clear hb
        go_wp2_with fail
        refine H1.mono ?_
        rintro e w1 ⟨rfl, rfl⟩
        go_wp2_with fail
        go_ret
        exact ⟨_, rfl, .inr ⟨⟨c, hmem.out, HB.out⟩, by rw [decide_eq_true_eq]; omega⟩, rfl⟩
    · obtain rfl : j = n := by omega
      go_wp2_with fail
      go_ret
      exact ⟨_, rfl, .inl ⟨fun c hc => HALL.out c (by rw [← HN.out, List.take_length]; exact hc), by decide⟩, rfl⟩
def allMay (dbl : List (List Int)) : Bool := dbl.all mayC
set_option maxRecDepth 100000 in
set_option maxHeartbeats 800000 in
theorem contains66 (p : Option Addr) (z : Nat) (dbl : List (List Int)) (w : World) (hV : RowsIn w p dbl) (hn : dbl.length ≤ 9223372036854775807) (hf : Fit63 dbl) :
    Calls Try.prog 66 #[.slice p dbl.length z, .func (.func 67) #[] #[]] w fun e w' => e = .returned (.bool (!allMay dbl)) ∧ w' = w := by
  have H := index85 p z dbl w hV hn hf
  clear hV hf
  obtain ⟨n, hnn⟩ : ∃ n, dbl.length = n := ⟨_, rfl⟩
  rw [hnn] at hn H ⊢
  clear hnn
  go_enter Try.func66, Try.ntmps66
  go_wp2_with fail
  refine H.mono ?_
  rintro e w1 ⟨r, rfl, h, rfl⟩
  clear H
  rcases h with ⟨h, hr⟩ | ⟨⟨c, hc, h⟩, hr⟩
  · have hb : allMay dbl = true := List.all_eq_true.2 h
    have HH := Lib.hid hb
    clear h hb
    go_wp2_with fail
    refine bodyPost_ret (v := .bool false) (by simp [results, Try.results66, go_sem]) rfl ⟨by rw [HH.out]; rfl, rfl⟩
  · have hb : allMay dbl = false := by
      cases ha : allMay dbl with
      | true => have := List.all_eq_true.1 ha c hc; rw [h] at this; cases this
      | false => rfl
    have HH := Lib.hid hb
    clear h hb
    go_wp2_with fail
    refine bodyPost_ret (v := .bool true) (by simp [results, Try.results66, go_sem]) rfl ⟨by rw [HH.out]; rfl, rfl⟩
set_option maxRecDepth 100000 in
set_option maxHeartbeats 800000 in
theorem valid_at (p : Option Addr) (z : Nat) (dbl : List (List Int)) (w : World) (hV : RowsIn w p dbl) (hn : dbl.length ≤ 9223372036854775807) (hf : Fit63 dbl) :
    Calls Try.prog 43 #[.slice p dbl.length z] w fun e w' => e = .returned (.bool (allMay dbl)) ∧ w' = w := by
  have H := contains66 p z dbl w hV hn hf
  clear hV hf
  generalize allMay dbl = m at *
  obtain ⟨n, hnn⟩ : ∃ n, dbl.length = n := ⟨_, rfl⟩
  rw [hnn] at hn H ⊢
  clear hnn
  go_enter Try.func43, Try.ntmps43
  go_wp2_with fail
  refine H.mono ?_
  rintro e w1 ⟨rfl, rfl⟩
  go_wp2_with fail
  go_ret
  exact ⟨by cases m <;> rfl, rfl⟩
theorem StepB.lower {Q : Kd → Prop} {W W' : World} {K K' : Nat → Kd} {B : Nat} (h : StepB Q W W' K K') (hB : B ≤ W.heap.size) (hj : ∀ k, k < B → K k = .junk) : Below B W W' ∧ ∀ k, k < B → K' k = .junk :=
  ⟨⟨h.only.os, h.only.tape, h.only.output, h.only.size, fun k hk => h.only.block k (by omega) (fun e => e.1 (hj k hk))⟩, fun k hk => (h.ext k (by omega)).trans (hj k hk)⟩
/-- a base made in this call: nothing of what was there before is its. -/
def BaseN (W w' : World) (a m : Nat) (db : List (List Int)) : Prop := ∃ K', BaseR w' K' a m db ∧ Below W.heap.size W w' ∧ ∀ k, k < W.heap.size → K' k = .junk
theorem BaseN.step {W w1 w2 : World} {a m : Nat} {db db' : List (List Int)} {K1 : Nat → Kd} (hb : Below W.heap.size W w1) (hj : ∀ k, k < W.heap.size → K1 k = .junk) (h : ∃ K', BaseR w2 K' a m db' ∧ StepB NoQ w1 w2 K1 K') : BaseN W w2 a m db' := by
  obtain ⟨K', h1, h2⟩ := h
  obtain ⟨b, j⟩ := h2.lower hb.size hj
  exact ⟨K', h1, hb.trans b, j⟩
set_option maxRecDepth 100000 in
set_option maxHeartbeats 1600000 in
theorem baseOf_at (p : Option Addr) (z : Nat) (dbl : List (List Int)) (W : World) (hV : RowsIn W p dbl) (hn : dbl.length ≤ 400000) (hm : allMay dbl = true) :
    Calls Try.prog 45 #[.slice p dbl.length z] W fun e w' => ∃ a m, e = .returned (.pointer (some ⟨a, 0, none⟩)) ∧ BaseN W w' a m dbl := by
  have H0 := newbase_at W
  have HV := Lib.hid hV
  have HM := Lib.hid hm
  clear hV hm
  obtain ⟨n, hnn⟩ : ∃ n, dbl.length = n := ⟨_, rfl⟩
  rw [hnn] at hn ⊢
  have HN := Lib.hid hnn
  clear hnn
  go_enter Try.func45, Try.ntmps45
  go_wp2_with fail
  refine H0.mono ?_
  rintro e w0 ⟨a, m, K', rfl, hb0, hbl0, hj0⟩
  clear H0
  have hst : BaseR w0 K' a m [] := ⟨[], fun _ => [], [], 0, false, hb0, ⟨⟨fun c hc => by simp at hc, fun c hc => by simp at hc, fun x j => by simp, fun x => List.nodup_nil, List.nodup_nil, fun l hl => by simp at hl, fun l hl => by simp at hl, by simp⟩, fun l hl => by simp at hl, (fun h => by cases h), fun _ => ⟨rfl, fun c hc => by simp at hc, fun c hc => by simp at hc⟩, by simp⟩⟩
  have HB0 := Lib.hid (show BaseN W w0 a m (dbl.take 0) by rw [List.take_zero]; exact ⟨K', hst, hbl0, hj0⟩)
  clear hst hb0 hbl0 hj0
  go_wp2_with fail
  go_loopw [9] (fun i wr => ∃ j : Nat, j ≤ n ∧ i = .int .i64 j ∧ Hid (BaseN W wr a m (dbl.take j))) (fun i _ => n - (intOf i).toNat)
  case atStart => exact ⟨0, by omega, rfl, HB0⟩
  case round =>
    obtain ⟨j, hj, rfl, HB⟩ := hrel
    clear HB0
    by_cases hlt : j < n
    · have hj2 : j < dbl.length := by have := HN.out; omega
      obtain ⟨K1, hb1, hbl1, hj1⟩ := HB.out
      obtain ⟨b, off, rfl, hV⟩ := (HV.out.later hbl1) (by omega)
      obtain ⟨q, zq, cv, hq⟩ := hV j _ (List.getElem?_eq_getElem hj2)
      have hj0 : (0 : Int) ≤ (j : Int) := by omega
      have hj1' : (j : Int) < (n : Int) := by omega
      have hmay := (mayC_iff _).1 (List.all_eq_true.1 HM.out _ (List.getElem_mem hj2))
      have hA := add_at hb1 (by simp; omega) q dbl[j].length zq (fnL dbl[j]) hq hmay
      rw [rowL_fn, List.take_append_getElem hj2] at hA
      have HBL := Lib.hid hbl1
      have HJ := Lib.hid hj1
      clear hV hq hmay hb1 hbl1 hj1 HB
      generalize dbl[j].length = L at *
      clear hj2
      go_wp2_with fail
      refine hA.mono ?_
      rintro e w1 ⟨rfl, hb2⟩
      have HB2 := Lib.hid (BaseN.step (db := []) HBL.out HJ.out hb2)
      clear hb2 hA
      go_wp2_with fail
      go_roundw
      case rel => exact ⟨j + 1, by omega, by go_num, HB2⟩
      case measure => simp [intOf]; omega
    · obtain rfl : j = n := by omega
      have hfin := HB.out
      rw [← HN.out, List.take_length] at hfin
      have HF := Lib.hid hfin
      clear hfin
      go_wp2_with fail
      go_ret
      exact ⟨a, m, rfl, HF.out⟩
end Go.Proofs.Ytgdncnalahdjeaa
