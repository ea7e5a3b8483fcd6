/- The store of clauses: what may not be added; a clause copied; one found. -/
import Derived.Test.YtiadnifbjdnflaaZ5
import Derived.Deep.RegionHeld3
namespace Go.Proofs.Ytiadnifbjdnflaa
open Go Go.RowKit Go.Maps

set_option maxRecDepth 100000 in
set_option maxHeartbeats 800000 in
theorem noLit60 (x : Int) (w : World) : Calls Try.prog 60 #[.int .i64 x] w fun e w' => e = .returned (.bool (!isLitB x)) ∧ w' = w := by
  have H := isLit_any x w
  generalize isLitB x = m at *
  go_enter Try.func60, Try.ntmps60
  go_wp2_with fail
  refine H.mono ?_
  rintro e w1 ⟨rfl, rfl⟩
  go_wp2_with fail
  go_ret
  exact ⟨rfl, rfl⟩
set_option maxRecDepth 100000 in
set_option maxHeartbeats 800000 in
theorem index60 (p : Option Addr) (n c : Nat) (V : Nat → Int) (w : World) (hV : LitsIn w p n V) (hn : n ≤ 9223372036854775807) :
    Calls Try.prog 68 #[.slice p n c, .func (.func 60) #[] #[]] w fun e w' => ∃ r : Int, e = .returned (.int .i64 r) ∧ (((∀ i, i < n → isLitB (V i) = true) ∧ decide (0 ≤ r) = false) ∨ ((∃ i, i < n ∧ isLitB (V i) = false) ∧ decide (0 ≤ r) = true)) ∧ w' = w := by
  have HV := Lib.hid hV
  clear hV
  go_enter Try.func68, Try.ntmps68
  go_wp2_with fail
  go_loopw [8] (fun i wr => ∃ j : Nat, j ≤ n ∧ i = .int .i64 j ∧ w = wr ∧ ∀ t, t < j → isLitB (V t) = true) (fun i _ => n - (intOf i).toNat)
  case atStart => exact ⟨0, by omega, rfl, rfl, fun t ht => by omega⟩
  case round =>
    obtain ⟨j, hj, rfl, rfl, hall⟩ := hrel
    have HALL := Lib.hid hall
    clear hall
    by_cases hlt : j < n
    · obtain ⟨b, off, rfl, hV⟩ := HV.out (by omega)
      have hj0 : (0 : Int) ≤ (j : Int) := by omega
      have hj1 : (j : Int) < (n : Int) := by omega
      have cv := hV j hlt
      clear hV
      have H1 := noLit60 (V j) w
      cases hb : isLitB (V j) with
      | true =>
        rw [hb] at H1
        have HB := Lib.hid hb
        clear hb
        go_wp2_with fail
        refine H1.mono ?_
        rintro e w1 ⟨rfl, rfl⟩
        go_wp2_with fail
        go_roundw
        case rel => exact ⟨j + 1, by omega, by go_num, trivial, fun t ht => by
          by_cases htj : t < j
          · exact HALL.out t htj
          · obtain rfl : t = j := by omega
            exact HB.out⟩
        case measure => simp [intOf]; omega
      | false =>
        rw [hb] at H1
        have HB := Lib.hid hb
        clear hb
        go_wp2_with fail
        refine H1.mono ?_
        rintro e w1 ⟨rfl, rfl⟩
        go_wp2_with fail
        go_ret
        exact ⟨_, rfl, .inr ⟨⟨j, hlt, HB.out⟩, by rw [decide_eq_true_eq]; omega⟩, rfl⟩
    · obtain rfl : j = n := by omega
      go_wp2_with fail
      go_ret
      exact ⟨_, rfl, .inl ⟨HALL.out, by decide⟩, rfl⟩
set_option maxRecDepth 100000 in
set_option maxHeartbeats 800000 in
theorem contains60 (p : Option Addr) (n c : Nat) (V : Nat → Int) (w : World) (hV : LitsIn w p n V) (hn : n ≤ 9223372036854775807) :
    Calls Try.prog 49 #[.slice p n c, .func (.func 60) #[] #[]] w fun e w' => ((e = .returned (.bool false) ∧ ∀ i, i < n → isLitB (V i) = true) ∨ (e = .returned (.bool true) ∧ ¬ ∀ i, i < n → isLitB (V i) = true)) ∧ w' = w := by
  have H := index60 p n c V w hV hn
  clear hV
  go_enter Try.func49, Try.ntmps49
  go_wp2_with fail
  refine H.mono ?_
  rintro e w1 ⟨r, rfl, h, rfl⟩
  clear H
  rcases h with ⟨h, hr⟩ | ⟨⟨i, hi, h⟩, hr⟩
  · have HH := Lib.hid h
    clear h
    go_wp2_with fail
    refine bodyPost_ret (v := .bool false) (by simp [results, Try.results49, go_sem]) rfl ⟨.inl ⟨rfl, HH.out⟩, rfl⟩
  · have HH := Lib.hid h
    clear h
    go_wp2_with fail
    refine bodyPost_ret (v := .bool true) (by simp [results, Try.results49, go_sem]) rfl ⟨.inr ⟨rfl, fun hf => by have := hf i hi; rw [HH.out] at this; cases this⟩, rfl⟩
set_option maxRecDepth 100000 in
set_option maxHeartbeats 4000000 in
theorem add33_no {W : World} {K : Nat → Nat} {O : Nat} {cl : List (List Int)} {top : Int} (h : StoC W K O cl top) (p : Option Addr) (n z : Nat) (V : Nat → Int) (hV : LitsIn W p n V) (hn : n ≤ 9223372036854775807) (hm : ¬ MayP n V) :
    Calls Try.prog 33 #[.pointer (some ⟨O, 0, none⟩), .slice p n z] W fun e w' => e = .returned (.tuple #[.int .i64 0, .int .i64 2]) ∧ w' = W := by
  obtain ⟨v0, m, nm, f, hd⟩ := h.split
  clear h
  have H1 := Lib.hid (may_any p n z V W hV hn)
  have k1 := hd.c1
  have hme := map_eql W m Try.underlying44
  clear hd hV
  go_enter Try.func33, Try.ntmps33
  go_wp2_with fail
  refine H1.out.mono ?_
  rintro e w1 ⟨⟨rfl, hno⟩ | ⟨rfl, _⟩, hw⟩ <;> obtain rfl := hw.symm <;> clear hw
  case inl => exact absurd hno hm
  go_wp2_with fail
  exact bodyPost_ret (v := .tuple #[.int .i64 0, .int .i64 2]) (by simp [results, Try.results33, go_sem]) rfl ⟨rfl, rfl⟩
set_option maxRecDepth 100000 in
set_option maxHeartbeats 4000000 in
theorem clause37_no {W : World} {K : Nat → Nat} {O : Nat} {cl : List (List Int)} {top : Int} (h : StoC W K O cl top) (i : Int) (hi : i < 0 ∨ (cl.length : Int) ≤ i) :
    Calls Try.prog 37 #[.pointer (some ⟨O, 0, none⟩), .int .i64 i] W fun e w' => e = .returned (.slice none 0 0) ∧ w' = W := by
  have H1 := Lib.hid (len35 h)
  clear h
  by_cases h0 : i < 0
  · clear hi
    go_enter Try.func37, Try.ntmps37
    go_wp2_with fail
    exact bodyPost_ret (v := .slice none 0 0) (by simp [results, Try.results37, go_sem]) rfl ⟨rfl, rfl⟩
  · have h1 : (cl.length : Int) ≤ i := by omega
    clear hi
    go_enter Try.func37, Try.ntmps37
    go_wp2_with fail
    refine H1.out.mono ?_
    rintro e w1 ⟨rfl, hw⟩
    obtain rfl := hw.symm
    clear hw
    go_wp2_with fail
    exact bodyPost_ret (v := .slice none 0 0) (by simp [results, Try.results37, go_sem]) rfl ⟨rfl, rfl⟩
set_option maxRecDepth 100000 in
set_option maxHeartbeats 4000000 in
theorem clause37 {W : World} {K : Nat → Nat} {O : Nat} {cl : List (List Int)} {top : Int} (h : StoC W K O cl top) (i : Nat) (hi : i < cl.length) (hL : (cl[i]).length ≤ 5000) :
    Calls Try.prog 37 #[.pointer (some ⟨O, 0, none⟩), .int .i64 (i : Int)] W fun e w' => ∃ v', e = .returned v' ∧ w'.ownsRow W.heap.size 30 1 v' (cl[i]).length ((cl[i]).map (Value.int .i64)) ∧ Below W.heap.size W w' := by
  have H1 := Lib.hid (len35 h)
  obtain ⟨v0, m, nm, f, hd⟩ := h.split
  clear h
  obtain ⟨xs, r1, r2, r3⟩ := hd.rows
  obtain ⟨q, z, e, hq, _, hqn⟩ := r3 i hi
  have H2 := Lib.hid (clone_any q (cl[i]).length z (fnL cl[i]) (cl[i]) W hq rfl (fun j hj => by simp [fnL, List.getD, List.getElem?_eq_getElem hj]) (by omega))
  obtain ⟨g, c, rfl⟩ := own_some r1 (by omega)
  have k0 := hd.c0
  have kc := (own_cell r1 i _ e).1
  have hi0 : (0 : Int) ≤ (i : Int) := by omega
  have hi1 : (i : Int) < (cl.length : Int) := by omega
  generalize (cl[i]).length = n at *
  clear r1 r2 r3 hd hq hqn e
  go_enter Try.func37, Try.ntmps37
  go_wp2_with fail
  refine H1.out.mono ?_
  rintro e w1 ⟨rfl, hw⟩
  obtain rfl := hw.symm
  clear hw
  go_wp2_with fail
  refine H2.out.mono ?_
  rintro e w1 ⟨v', rfl, hown, hb⟩
  go_wp2_with fail
  exact bodyPost_ret (v := v') (by simp [results, Try.results37, go_sem]) rfl ⟨v', rfl, hown, hb⟩
end Go.Proofs.Ytiadnifbjdnflaa
