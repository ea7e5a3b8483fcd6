/- The walk of the law DigitsWrites. -/
import Derived.Test.YtmfmdcapanaajaaDoorW5
import Derived.Test.YtmfmdcapanaajaaDoorW6
import Derived.Test.YtmfmdcapanaajaaDoorAdd
namespace Go.Proofs.YtmfmdcapanaajaaDoor
open Go Go.RowKit Go.Sort

abbrev nJ (v : Int) : Value := .agg #[.int .i64 (v / 4611686018427387904), .int .i64 (v % 4611686018427387904)]
theorem of_j (n : Int) (w : World) (h0 : -9223372036854775808 ≤ n) (h1 : n ≤ 9223372036854775807) :
    Calls Tryd.prog 21 #[.int .i64 n] w fun e w' => e = .returned (nJ n) ∧ Below w.heap.size w w' := of_any n w h0 h1
theorem plus_j (a b u : Int) (w : World) (a0 : -9223372036854775808 ≤ a) (a1 : a ≤ 9223372036854775807) (b0 : -9223372036854775808 ≤ b) (b1 : b ≤ 9223372036854775807) (hu : u = a + b) :
    Calls Tryd.prog 24 #[nJ a, nJ b] w fun e w' => e = .returned (nJ u) ∧ Below w.heap.size w w' := by
  refine (plus_any _ _ _ _ w (by omega) (by omega) (by omega) (by omega) (by omega) (by omega) (by omega) (by omega)).mono ?_
  rintro e w' ⟨rfl, hb⟩
  refine ⟨?_, hb⟩
  subst hu
  rw [show a / 4611686018427387904 * 4611686018427387904 + a % 4611686018427387904 + (b / 4611686018427387904 * 4611686018427387904 + b % 4611686018427387904) = a + b by omega]
  unfold sH sL nJ
  rw [if_neg (by omega), if_neg (by omega), if_neg (by omega), if_neg (by omega)]
theorem less_j (a b : Int) (r : Bool) (w : World) (a0 : -9223372036854775808 ≤ a) (a1 : a ≤ 9223372036854775807) (b0 : -9223372036854775808 ≤ b) (b1 : b ≤ 9223372036854775807) (hr : decide (a < b) = r) :
    Calls Tryd.prog 26 #[nJ a, nJ b] w fun e w' => e = .returned (.bool r) ∧ Below w.heap.size w w' := by
  refine (less_any _ _ _ _ w (by omega) (by omega) (by omega) (by omega) (by omega) (by omega) (by omega) (by omega)).mono ?_
  rintro e w' ⟨rfl, hb⟩
  refine ⟨?_, hb⟩
  subst hr
  rw [show a / 4611686018427387904 * 4611686018427387904 + a % 4611686018427387904 = a by omega, show b / 4611686018427387904 * 4611686018427387904 + b % 4611686018427387904 = b by omega]
theorem write_j (v : Int) (w : World) (h0 : -18446744073709551616 ≤ v) (h1 : v ≤ 18446744073709551615) (htab : Lib.TabIs Tryd.prog w "internal/strconv.uint64pow10" .u64 Lib.pow10Tab) :
    Calls Tryd.prog 28 #[nJ v] w fun e w' => e = .returned (.string ⟨(wtext v).toArray⟩) ∧ Below w.heap.size w w' := write_any v w h0 h1 htab
theorem text_j (v : Int) (w : World) (h0 : -9223372036854775808 ≤ v) (h1 : v ≤ 9223372036854775807) (htab : Lib.TabIs Tryd.prog w "internal/strconv.uint64pow10" .u64 Lib.pow10Tab) :
    Calls Tryd.prog 18 #[.int .i64 v] w fun e w' => e = .returned (.string ⟨(wtext v).toArray⟩) ∧ Below w.heap.size w w' := by
  rw [wtext_itoa v h0 h1]; exact text_any v w h0 h1 htab
/-- a sum, or none: what Add answers. -/
def addR (a b : Int) : Int := if -9223372036854775808 ≤ a + b ∧ a + b ≤ 9223372036854775807 then a + b else 0
theorem add_j (a b s : Int) (f : Bool) (w : World) (a0 : -9223372036854775808 ≤ a) (a1 : a ≤ 9223372036854775807) (b0 : -9223372036854775808 ≤ b) (b1 : b ≤ 9223372036854775807) (hf : decide (-9223372036854775808 ≤ a + b ∧ a + b ≤ 9223372036854775807) = f) (hs : addR a b = s) :
    Calls Tryd.prog 9 #[.int .i64 a, .int .i64 b] w fun e w' => e = .returned (.tuple #[.int .i64 s, .bool f]) ∧ w = w' := by
  subst hf; subst hs
  unfold addR
  by_cases h : -9223372036854775808 ≤ a + b ∧ a + b ≤ 9223372036854775807
  · rw [if_pos h, decide_eq_true h]; exact (add_fits a b w a0 a1 b0 b1 h.1 h.2).mono fun _ _ ⟨x, y⟩ => ⟨x, y.symm⟩
  · rw [if_neg h, decide_eq_false h]; exact (add_not a b w a0 a1 b0 b1 (by omega)).mono fun _ _ ⟨x, y⟩ => ⟨x, y.symm⟩
theorem sub_j (a b s : Int) (f : Bool) (w : World) (a0 : -9223372036854775808 ≤ a) (a1 : a ≤ 9223372036854775807) (b0 : -9223372036854775808 ≤ b) (b1 : b ≤ 9223372036854775807) (hf : decide (-9223372036854775808 ≤ a + -b ∧ a + -b ≤ 9223372036854775807) = f) (hs : addR a (-b) = s) :
    Calls Tryd.prog 10 #[.int .i64 a, .int .i64 b] w fun e w' => e = .returned (.tuple #[.int .i64 s, .bool f]) ∧ w = w' := by
  subst hf; subst hs
  unfold addR
  rw [show a + -b = a - b by omega]
  by_cases h : -9223372036854775808 ≤ a - b ∧ a - b ≤ 9223372036854775807
  · rw [if_pos h, decide_eq_true h]; exact (sub_fits a b w a0 a1 b0 b1 h.1 h.2).mono fun _ _ ⟨x, y⟩ => ⟨x, y.symm⟩
  · rw [if_neg h, decide_eq_false h]; exact (sub_not a b w a0 a1 b0 b1 (by omega)).mono fun _ _ ⟨x, y⟩ => ⟨x, y.symm⟩
theorem keep4 {W w' : World} {a1 a2 a3 a4 : Addr} {v1 v2 v3 v4 : Value} (hb : Below W.heap.size W w')
    (h : W.cell? a1 = some v1 ∧ W.cell? a2 = some v2 ∧ W.cell? a3 = some v3 ∧ W.cell? a4 = some v4) :
    w'.cell? a1 = some v1 ∧ w'.cell? a2 = some v2 ∧ w'.cell? a3 = some v3 ∧ w'.cell? a4 = some v4 :=
  ⟨cell_later hb h.1, cell_later hb h.2.1, cell_later hb h.2.2.1, cell_later hb h.2.2.2⟩
theorem chainC {w p q : World} (h1 : Below w.heap.size w p) (h2 : Below p.heap.size p q) : Below w.heap.size w q := h1.trans (h2.mono h1.size)

set_option maxRecDepth 100000 in
set_option maxHeartbeats 2000000 in
theorem writes_any (a b : Int) (w : World) (a0 : -9223372036854775808 ≤ a) (a1 : a ≤ 9223372036854775807) (b0 : -9223372036854775808 ≤ b) (b1 : b ≤ 9223372036854775807) (htab : Lib.TabIs Tryd.prog w "internal/strconv.uint64pow10" .u64 Lib.pow10Tab) :
    Calls Tryd.prog 8 #[.int .i64 a, .int .i64 b] w fun e w' => e = .returned (.bool true) ∧ Below w.heap.size w w' := by
  generalize hf : decide (-9223372036854775808 ≤ a + b ∧ a + b ≤ 9223372036854775807) = f
  generalize hs : addR a b = s
  generalize hf2 : decide (-9223372036854775808 ≤ a + -b ∧ a + -b ≤ 9223372036854775807) = f2
  generalize hs2 : addR a (-b) = s2
  have hsum : f = true → s = a + b := by
    intro h; rw [← hs]; unfold addR; rw [← hf] at h; rw [if_pos (of_decide_eq_true h)]
  have hsb : -9223372036854775808 ≤ s ∧ s ≤ 9223372036854775807 := by rw [← hs]; unfold addR; split <;> omega
  have HF := Lib.hid hf
  have HS := Lib.hid hs
  have HF2 := Lib.hid hf2
  have HS2 := Lib.hid hs2
  have HSUM := Lib.hid hsum
  have HSB := Lib.hid hsb
  clear hf hs hf2 hs2 hsum hsb
  by_cases hb : b = -9223372036854775808
  · have hm : (b != -9223372036854775808) = false := by simp [hb]
    clear hb
    have hl : a < b ∨ b ≤ a := by omega
    cases f
    · rcases hl with hl | hl
      · have hd : decide (a < b) = true := by simp; omega
        go_enter Tryd.func8, Tryd.ntmps8
        go_wp2_with fail
        refine (sub_j a b _ _ _ a0 a1 b0 b1 HF2.out HS2.out).mono ?_
        rintro e w0 ⟨rfl, rfl⟩
        go_wp2_with fail
        refine (of_j a _ a0 a1).mono ?_
        rintro e w1 ⟨rfl, hb1⟩
        go_wp2_with fail
        refine (of_j b _ b0 b1).mono ?_
        rintro e w2 ⟨rfl, hb2⟩
        go_wp2_with fail
        refine (add_j a b _ _ _ a0 a1 b0 b1 HF.out HS.out).mono ?_
        rintro e w0 ⟨rfl, rfl⟩
        have hB2 := chainC hb1 hb2
        have hB : Below w.heap.size w ((w2.alloc (.cells #[.int .i64 (a / 4611686018427387904), .int .i64 (a % 4611686018427387904)] 40)).alloc (.cells #[.int .i64 (b / 4611686018427387904), .int .i64 (b % 4611686018427387904)] 40)) := (hB2.alloc hB2.size _).alloc (by have := hB2.size; simp; omega) _
        have hc : ((w2.alloc (.cells #[.int .i64 (a / 4611686018427387904), .int .i64 (a % 4611686018427387904)] 40)).alloc (.cells #[.int .i64 (b / 4611686018427387904), .int .i64 (b % 4611686018427387904)] 40)).cell? ⟨w2.heap.size, 0, none⟩ = some (.int .i64 (a / 4611686018427387904)) ∧ ((w2.alloc (.cells #[.int .i64 (a / 4611686018427387904), .int .i64 (a % 4611686018427387904)] 40)).alloc (.cells #[.int .i64 (b / 4611686018427387904), .int .i64 (b % 4611686018427387904)] 40)).cell? ⟨w2.heap.size, 1, none⟩ = some (.int .i64 (a % 4611686018427387904)) ∧ ((w2.alloc (.cells #[.int .i64 (a / 4611686018427387904), .int .i64 (a % 4611686018427387904)] 40)).alloc (.cells #[.int .i64 (b / 4611686018427387904), .int .i64 (b % 4611686018427387904)] 40)).cell? ⟨w2.heap.size + 1, 0, none⟩ = some (.int .i64 (b / 4611686018427387904)) ∧ ((w2.alloc (.cells #[.int .i64 (a / 4611686018427387904), .int .i64 (a % 4611686018427387904)] 40)).alloc (.cells #[.int .i64 (b / 4611686018427387904), .int .i64 (b % 4611686018427387904)] 40)).cell? ⟨w2.heap.size + 1, 1, none⟩ = some (.int .i64 (b % 4611686018427387904)) := by
          refine ⟨?_, ?_, ?_, ?_⟩ <;> simp [go_sem]
        have ht := tabIs_below htab hB
        clear hb1 hb2 hB2
        generalize ((w2.alloc (.cells #[.int .i64 (a / 4611686018427387904), .int .i64 (a % 4611686018427387904)] 40)).alloc (.cells #[.int .i64 (b / 4611686018427387904), .int .i64 (b % 4611686018427387904)] 40)) = W at *
        generalize w2.heap.size = B at *
        obtain ⟨c1, c2, c3, c4⟩ := hc
        have hc := And.intro c1 (And.intro c2 (And.intro c3 c4))
        go_wp2_with fail
        clear c1 c2 c3 c4
        generalize hu : a + b = u
        have HU := Lib.hid hu
        clear hu
        refine (plus_j a b u _ a0 a1 b0 b1 HU.out.symm).mono ?_
        rintro e w11 ⟨rfl, hb⟩
        have hc11 := keep4 hb hc
        have hB11 := chainC hB hb
        have ht11 := tabIs_below htab hB11
        clear hb hc hB
        obtain ⟨c1, c2, c3, c4⟩ := hc11
        have hc := And.intro c1 (And.intro c2 (And.intro c3 c4))
        have hB := hB11
        clear hB11 ht
        have ht := ht11
        clear ht11
        go_wp2_with fail
        clear c1 c2 c3 c4
        refine (write_j u _ (by have := HU.out; omega) (by have := HU.out; omega) ht).mono ?_
        rintro e w12 ⟨rfl, hb⟩
        have hc12 := keep4 hb hc
        have hB12 := chainC hB hb
        have ht12 := tabIs_below htab hB12
        clear hb hc hB
        obtain ⟨c1, c2, c3, c4⟩ := hc12
        have hc := And.intro c1 (And.intro c2 (And.intro c3 c4))
        have hB := hB12
        clear hB12 ht
        have ht := ht12
        clear ht12
        go_wp2_with fail
        clear c1 c2 c3 c4
        refine (write_j a _ (by omega) (by omega) ht).mono ?_
        rintro e w13 ⟨rfl, hb⟩
        have hc13 := keep4 hb hc
        have hB13 := chainC hB hb
        have ht13 := tabIs_below htab hB13
        clear hb hc hB
        obtain ⟨c1, c2, c3, c4⟩ := hc13
        have hc := And.intro c1 (And.intro c2 (And.intro c3 c4))
        have hB := hB13
        clear hB13 ht
        have ht := ht13
        clear ht13
        go_wp2_with fail
        clear c1 c2 c3 c4
        refine (text_j a _ a0 a1 ht).mono ?_
        rintro e w14 ⟨rfl, hb⟩
        have hc14 := keep4 hb hc
        have hB14 := chainC hB hb
        have ht14 := tabIs_below htab hB14
        clear hb hc hB
        obtain ⟨c1, c2, c3, c4⟩ := hc14
        have hc := And.intro c1 (And.intro c2 (And.intro c3 c4))
        have hB := hB14
        clear hB14 ht
        have ht := ht14
        clear ht14
        go_wp2_with fail
        clear c1 c2 c3 c4
        refine (plus_j b a u _ b0 b1 a0 a1 (by have := HU.out; omega)).mono ?_
        rintro e w15 ⟨rfl, hb⟩
        have hc15 := keep4 hb hc
        have hB15 := chainC hB hb
        have ht15 := tabIs_below htab hB15
        clear hb hc hB
        obtain ⟨c1, c2, c3, c4⟩ := hc15
        have hc := And.intro c1 (And.intro c2 (And.intro c3 c4))
        have hB := hB15
        clear hB15 ht
        have ht := ht15
        clear ht15
        go_wp2_with fail
        clear c1 c2 c3 c4
        refine (write_j u _ (by have := HU.out; omega) (by have := HU.out; omega) ht).mono ?_
        rintro e w16 ⟨rfl, hb⟩
        have hc16 := keep4 hb hc
        have hB16 := chainC hB hb
        have ht16 := tabIs_below htab hB16
        clear hb hc hB
        obtain ⟨c1, c2, c3, c4⟩ := hc16
        have hc := And.intro c1 (And.intro c2 (And.intro c3 c4))
        have hB := hB16
        clear hB16 ht
        have ht := ht16
        clear ht16
        go_wp2_with fail
        clear c1 c2 c3 c4
        refine (less_j a b true _ a0 a1 b0 b1 (by simp; omega)).mono ?_
        rintro e w17 ⟨rfl, hb⟩
        have hc17 := keep4 hb hc
        have hB17 := chainC hB hb
        have ht17 := tabIs_below htab hB17
        clear hb hc hB
        obtain ⟨c1, c2, c3, c4⟩ := hc17
        have hc := And.intro c1 (And.intro c2 (And.intro c3 c4))
        have hB := hB17
        clear hB17 ht
        have ht := ht17
        clear ht17
        go_wp2_with fail
        clear c1 c2 c3 c4
        refine (known_any _ ht).mono ?_
        rintro e w9 ⟨rfl, hb⟩
        have hB9 := chainC hB hb
        clear hb hB
        go_wp2_with fail
        go_ret
        exact ⟨rfl, hB9⟩
      · have hd : decide (a < b) = false := by simp; omega
        go_enter Tryd.func8, Tryd.ntmps8
        go_wp2_with fail
        refine (sub_j a b _ _ _ a0 a1 b0 b1 HF2.out HS2.out).mono ?_
        rintro e w0 ⟨rfl, rfl⟩
        go_wp2_with fail
        refine (of_j a _ a0 a1).mono ?_
        rintro e w1 ⟨rfl, hb1⟩
        go_wp2_with fail
        refine (of_j b _ b0 b1).mono ?_
        rintro e w2 ⟨rfl, hb2⟩
        go_wp2_with fail
        refine (add_j a b _ _ _ a0 a1 b0 b1 HF.out HS.out).mono ?_
        rintro e w0 ⟨rfl, rfl⟩
        have hB2 := chainC hb1 hb2
        have hB : Below w.heap.size w ((w2.alloc (.cells #[.int .i64 (a / 4611686018427387904), .int .i64 (a % 4611686018427387904)] 40)).alloc (.cells #[.int .i64 (b / 4611686018427387904), .int .i64 (b % 4611686018427387904)] 40)) := (hB2.alloc hB2.size _).alloc (by have := hB2.size; simp; omega) _
        have hc : ((w2.alloc (.cells #[.int .i64 (a / 4611686018427387904), .int .i64 (a % 4611686018427387904)] 40)).alloc (.cells #[.int .i64 (b / 4611686018427387904), .int .i64 (b % 4611686018427387904)] 40)).cell? ⟨w2.heap.size, 0, none⟩ = some (.int .i64 (a / 4611686018427387904)) ∧ ((w2.alloc (.cells #[.int .i64 (a / 4611686018427387904), .int .i64 (a % 4611686018427387904)] 40)).alloc (.cells #[.int .i64 (b / 4611686018427387904), .int .i64 (b % 4611686018427387904)] 40)).cell? ⟨w2.heap.size, 1, none⟩ = some (.int .i64 (a % 4611686018427387904)) ∧ ((w2.alloc (.cells #[.int .i64 (a / 4611686018427387904), .int .i64 (a % 4611686018427387904)] 40)).alloc (.cells #[.int .i64 (b / 4611686018427387904), .int .i64 (b % 4611686018427387904)] 40)).cell? ⟨w2.heap.size + 1, 0, none⟩ = some (.int .i64 (b / 4611686018427387904)) ∧ ((w2.alloc (.cells #[.int .i64 (a / 4611686018427387904), .int .i64 (a % 4611686018427387904)] 40)).alloc (.cells #[.int .i64 (b / 4611686018427387904), .int .i64 (b % 4611686018427387904)] 40)).cell? ⟨w2.heap.size + 1, 1, none⟩ = some (.int .i64 (b % 4611686018427387904)) := by
          refine ⟨?_, ?_, ?_, ?_⟩ <;> simp [go_sem]
        have ht := tabIs_below htab hB
        clear hb1 hb2 hB2
        generalize ((w2.alloc (.cells #[.int .i64 (a / 4611686018427387904), .int .i64 (a % 4611686018427387904)] 40)).alloc (.cells #[.int .i64 (b / 4611686018427387904), .int .i64 (b % 4611686018427387904)] 40)) = W at *
        generalize w2.heap.size = B at *
        obtain ⟨c1, c2, c3, c4⟩ := hc
        have hc := And.intro c1 (And.intro c2 (And.intro c3 c4))
        go_wp2_with fail
        clear c1 c2 c3 c4
        generalize hu : a + b = u
        have HU := Lib.hid hu
        clear hu
        refine (plus_j a b u _ a0 a1 b0 b1 HU.out.symm).mono ?_
        rintro e w18 ⟨rfl, hb⟩
        have hc18 := keep4 hb hc
        have hB18 := chainC hB hb
        have ht18 := tabIs_below htab hB18
        clear hb hc hB
        obtain ⟨c1, c2, c3, c4⟩ := hc18
        have hc := And.intro c1 (And.intro c2 (And.intro c3 c4))
        have hB := hB18
        clear hB18 ht
        have ht := ht18
        clear ht18
        go_wp2_with fail
        clear c1 c2 c3 c4
        refine (write_j u _ (by have := HU.out; omega) (by have := HU.out; omega) ht).mono ?_
        rintro e w19 ⟨rfl, hb⟩
        have hc19 := keep4 hb hc
        have hB19 := chainC hB hb
        have ht19 := tabIs_below htab hB19
        clear hb hc hB
        obtain ⟨c1, c2, c3, c4⟩ := hc19
        have hc := And.intro c1 (And.intro c2 (And.intro c3 c4))
        have hB := hB19
        clear hB19 ht
        have ht := ht19
        clear ht19
        go_wp2_with fail
        clear c1 c2 c3 c4
        refine (write_j a _ (by omega) (by omega) ht).mono ?_
        rintro e w20 ⟨rfl, hb⟩
        have hc20 := keep4 hb hc
        have hB20 := chainC hB hb
        have ht20 := tabIs_below htab hB20
        clear hb hc hB
        obtain ⟨c1, c2, c3, c4⟩ := hc20
        have hc := And.intro c1 (And.intro c2 (And.intro c3 c4))
        have hB := hB20
        clear hB20 ht
        have ht := ht20
        clear ht20
        go_wp2_with fail
        clear c1 c2 c3 c4
        refine (text_j a _ a0 a1 ht).mono ?_
        rintro e w21 ⟨rfl, hb⟩
        have hc21 := keep4 hb hc
        have hB21 := chainC hB hb
        have ht21 := tabIs_below htab hB21
        clear hb hc hB
        obtain ⟨c1, c2, c3, c4⟩ := hc21
        have hc := And.intro c1 (And.intro c2 (And.intro c3 c4))
        have hB := hB21
        clear hB21 ht
        have ht := ht21
        clear ht21
        go_wp2_with fail
        clear c1 c2 c3 c4
        refine (plus_j b a u _ b0 b1 a0 a1 (by have := HU.out; omega)).mono ?_
        rintro e w22 ⟨rfl, hb⟩
        have hc22 := keep4 hb hc
        have hB22 := chainC hB hb
        have ht22 := tabIs_below htab hB22
        clear hb hc hB
        obtain ⟨c1, c2, c3, c4⟩ := hc22
        have hc := And.intro c1 (And.intro c2 (And.intro c3 c4))
        have hB := hB22
        clear hB22 ht
        have ht := ht22
        clear ht22
        go_wp2_with fail
        clear c1 c2 c3 c4
        refine (write_j u _ (by have := HU.out; omega) (by have := HU.out; omega) ht).mono ?_
        rintro e w23 ⟨rfl, hb⟩
        have hc23 := keep4 hb hc
        have hB23 := chainC hB hb
        have ht23 := tabIs_below htab hB23
        clear hb hc hB
        obtain ⟨c1, c2, c3, c4⟩ := hc23
        have hc := And.intro c1 (And.intro c2 (And.intro c3 c4))
        have hB := hB23
        clear hB23 ht
        have ht := ht23
        clear ht23
        go_wp2_with fail
        clear c1 c2 c3 c4
        refine (less_j a b false _ a0 a1 b0 b1 (by simp; omega)).mono ?_
        rintro e w24 ⟨rfl, hb⟩
        have hc24 := keep4 hb hc
        have hB24 := chainC hB hb
        have ht24 := tabIs_below htab hB24
        clear hb hc hB
        obtain ⟨c1, c2, c3, c4⟩ := hc24
        have hc := And.intro c1 (And.intro c2 (And.intro c3 c4))
        have hB := hB24
        clear hB24 ht
        have ht := ht24
        clear ht24
        go_wp2_with fail
        clear c1 c2 c3 c4
        refine (known_any _ ht).mono ?_
        rintro e w9 ⟨rfl, hb⟩
        have hB9 := chainC hB hb
        clear hb hB
        go_wp2_with fail
        go_ret
        exact ⟨rfl, hB9⟩
    · rcases hl with hl | hl
      · have hd : decide (a < b) = true := by simp; omega
        go_enter Tryd.func8, Tryd.ntmps8
        go_wp2_with fail
        refine (sub_j a b _ _ _ a0 a1 b0 b1 HF2.out HS2.out).mono ?_
        rintro e w0 ⟨rfl, rfl⟩
        go_wp2_with fail
        refine (of_j a _ a0 a1).mono ?_
        rintro e w1 ⟨rfl, hb1⟩
        go_wp2_with fail
        refine (of_j b _ b0 b1).mono ?_
        rintro e w2 ⟨rfl, hb2⟩
        go_wp2_with fail
        refine (add_j a b _ _ _ a0 a1 b0 b1 HF.out HS.out).mono ?_
        rintro e w0 ⟨rfl, rfl⟩
        have hB2 := chainC hb1 hb2
        have hB : Below w.heap.size w ((w2.alloc (.cells #[.int .i64 (a / 4611686018427387904), .int .i64 (a % 4611686018427387904)] 40)).alloc (.cells #[.int .i64 (b / 4611686018427387904), .int .i64 (b % 4611686018427387904)] 40)) := (hB2.alloc hB2.size _).alloc (by have := hB2.size; simp; omega) _
        have hc : ((w2.alloc (.cells #[.int .i64 (a / 4611686018427387904), .int .i64 (a % 4611686018427387904)] 40)).alloc (.cells #[.int .i64 (b / 4611686018427387904), .int .i64 (b % 4611686018427387904)] 40)).cell? ⟨w2.heap.size, 0, none⟩ = some (.int .i64 (a / 4611686018427387904)) ∧ ((w2.alloc (.cells #[.int .i64 (a / 4611686018427387904), .int .i64 (a % 4611686018427387904)] 40)).alloc (.cells #[.int .i64 (b / 4611686018427387904), .int .i64 (b % 4611686018427387904)] 40)).cell? ⟨w2.heap.size, 1, none⟩ = some (.int .i64 (a % 4611686018427387904)) ∧ ((w2.alloc (.cells #[.int .i64 (a / 4611686018427387904), .int .i64 (a % 4611686018427387904)] 40)).alloc (.cells #[.int .i64 (b / 4611686018427387904), .int .i64 (b % 4611686018427387904)] 40)).cell? ⟨w2.heap.size + 1, 0, none⟩ = some (.int .i64 (b / 4611686018427387904)) ∧ ((w2.alloc (.cells #[.int .i64 (a / 4611686018427387904), .int .i64 (a % 4611686018427387904)] 40)).alloc (.cells #[.int .i64 (b / 4611686018427387904), .int .i64 (b % 4611686018427387904)] 40)).cell? ⟨w2.heap.size + 1, 1, none⟩ = some (.int .i64 (b % 4611686018427387904)) := by
          refine ⟨?_, ?_, ?_, ?_⟩ <;> simp [go_sem]
        have ht := tabIs_below htab hB
        clear hb1 hb2 hB2
        generalize ((w2.alloc (.cells #[.int .i64 (a / 4611686018427387904), .int .i64 (a % 4611686018427387904)] 40)).alloc (.cells #[.int .i64 (b / 4611686018427387904), .int .i64 (b % 4611686018427387904)] 40)) = W at *
        generalize w2.heap.size = B at *
        obtain ⟨c1, c2, c3, c4⟩ := hc
        have hc := And.intro c1 (And.intro c2 (And.intro c3 c4))
        go_wp2_with fail
        clear c1 c2 c3 c4
        generalize hu : a + b = u
        have HU := Lib.hid hu
        clear hu
        refine (plus_j a b u _ a0 a1 b0 b1 HU.out.symm).mono ?_
        rintro e w25 ⟨rfl, hb⟩
        have hc25 := keep4 hb hc
        have hB25 := chainC hB hb
        have ht25 := tabIs_below htab hB25
        clear hb hc hB
        obtain ⟨c1, c2, c3, c4⟩ := hc25
        have hc := And.intro c1 (And.intro c2 (And.intro c3 c4))
        have hB := hB25
        clear hB25 ht
        have ht := ht25
        clear ht25
        go_wp2_with fail
        clear c1 c2 c3 c4
        refine (write_j u _ (by have := HU.out; omega) (by have := HU.out; omega) ht).mono ?_
        rintro e w26 ⟨rfl, hb⟩
        have hc26 := keep4 hb hc
        have hB26 := chainC hB hb
        have ht26 := tabIs_below htab hB26
        clear hb hc hB
        obtain ⟨c1, c2, c3, c4⟩ := hc26
        have hc := And.intro c1 (And.intro c2 (And.intro c3 c4))
        have hB := hB26
        clear hB26 ht
        have ht := ht26
        clear ht26
        go_wp2_with fail
        clear c1 c2 c3 c4
        refine (write_j a _ (by omega) (by omega) ht).mono ?_
        rintro e w27 ⟨rfl, hb⟩
        have hc27 := keep4 hb hc
        have hB27 := chainC hB hb
        have ht27 := tabIs_below htab hB27
        clear hb hc hB
        obtain ⟨c1, c2, c3, c4⟩ := hc27
        have hc := And.intro c1 (And.intro c2 (And.intro c3 c4))
        have hB := hB27
        clear hB27 ht
        have ht := ht27
        clear ht27
        go_wp2_with fail
        clear c1 c2 c3 c4
        refine (text_j a _ a0 a1 ht).mono ?_
        rintro e w28 ⟨rfl, hb⟩
        have hc28 := keep4 hb hc
        have hB28 := chainC hB hb
        have ht28 := tabIs_below htab hB28
        clear hb hc hB
        obtain ⟨c1, c2, c3, c4⟩ := hc28
        have hc := And.intro c1 (And.intro c2 (And.intro c3 c4))
        have hB := hB28
        clear hB28 ht
        have ht := ht28
        clear ht28
        go_wp2_with fail
        clear c1 c2 c3 c4
        refine (plus_j b a u _ b0 b1 a0 a1 (by have := HU.out; omega)).mono ?_
        rintro e w29 ⟨rfl, hb⟩
        have hc29 := keep4 hb hc
        have hB29 := chainC hB hb
        have ht29 := tabIs_below htab hB29
        clear hb hc hB
        obtain ⟨c1, c2, c3, c4⟩ := hc29
        have hc := And.intro c1 (And.intro c2 (And.intro c3 c4))
        have hB := hB29
        clear hB29 ht
        have ht := ht29
        clear ht29
        go_wp2_with fail
        clear c1 c2 c3 c4
        refine (write_j u _ (by have := HU.out; omega) (by have := HU.out; omega) ht).mono ?_
        rintro e w30 ⟨rfl, hb⟩
        have hc30 := keep4 hb hc
        have hB30 := chainC hB hb
        have ht30 := tabIs_below htab hB30
        clear hb hc hB
        obtain ⟨c1, c2, c3, c4⟩ := hc30
        have hc := And.intro c1 (And.intro c2 (And.intro c3 c4))
        have hB := hB30
        clear hB30 ht
        have ht := ht30
        clear ht30
        go_wp2_with fail
        clear c1 c2 c3 c4
        have hsu : s = u := (HSUM.out trivial).trans HU.out
        have HSU := Lib.hid hsu
        clear hsu
        refine (text_j s _ HSB.out.1 HSB.out.2 ht).mono ?_
        rintro e w31 ⟨rfl, hb⟩
        rw [HSU.out]
        have hc31 := keep4 hb hc
        have hB31 := chainC hB hb
        have ht31 := tabIs_below htab hB31
        clear hb hc hB
        obtain ⟨c1, c2, c3, c4⟩ := hc31
        have hc := And.intro c1 (And.intro c2 (And.intro c3 c4))
        have hB := hB31
        clear hB31 ht
        have ht := ht31
        clear ht31
        go_wp2_with fail
        clear c1 c2 c3 c4
        refine (less_j a b true _ a0 a1 b0 b1 (by simp; omega)).mono ?_
        rintro e w32 ⟨rfl, hb⟩
        have hc32 := keep4 hb hc
        have hB32 := chainC hB hb
        have ht32 := tabIs_below htab hB32
        clear hb hc hB
        obtain ⟨c1, c2, c3, c4⟩ := hc32
        have hc := And.intro c1 (And.intro c2 (And.intro c3 c4))
        have hB := hB32
        clear hB32 ht
        have ht := ht32
        clear ht32
        go_wp2_with fail
        clear c1 c2 c3 c4
        refine (known_any _ ht).mono ?_
        rintro e w9 ⟨rfl, hb⟩
        have hB9 := chainC hB hb
        clear hb hB
        go_wp2_with fail
        go_ret
        exact ⟨rfl, hB9⟩
      · have hd : decide (a < b) = false := by simp; omega
        go_enter Tryd.func8, Tryd.ntmps8
        go_wp2_with fail
        refine (sub_j a b _ _ _ a0 a1 b0 b1 HF2.out HS2.out).mono ?_
        rintro e w0 ⟨rfl, rfl⟩
        go_wp2_with fail
        refine (of_j a _ a0 a1).mono ?_
        rintro e w1 ⟨rfl, hb1⟩
        go_wp2_with fail
        refine (of_j b _ b0 b1).mono ?_
        rintro e w2 ⟨rfl, hb2⟩
        go_wp2_with fail
        refine (add_j a b _ _ _ a0 a1 b0 b1 HF.out HS.out).mono ?_
        rintro e w0 ⟨rfl, rfl⟩
        have hB2 := chainC hb1 hb2
        have hB : Below w.heap.size w ((w2.alloc (.cells #[.int .i64 (a / 4611686018427387904), .int .i64 (a % 4611686018427387904)] 40)).alloc (.cells #[.int .i64 (b / 4611686018427387904), .int .i64 (b % 4611686018427387904)] 40)) := (hB2.alloc hB2.size _).alloc (by have := hB2.size; simp; omega) _
        have hc : ((w2.alloc (.cells #[.int .i64 (a / 4611686018427387904), .int .i64 (a % 4611686018427387904)] 40)).alloc (.cells #[.int .i64 (b / 4611686018427387904), .int .i64 (b % 4611686018427387904)] 40)).cell? ⟨w2.heap.size, 0, none⟩ = some (.int .i64 (a / 4611686018427387904)) ∧ ((w2.alloc (.cells #[.int .i64 (a / 4611686018427387904), .int .i64 (a % 4611686018427387904)] 40)).alloc (.cells #[.int .i64 (b / 4611686018427387904), .int .i64 (b % 4611686018427387904)] 40)).cell? ⟨w2.heap.size, 1, none⟩ = some (.int .i64 (a % 4611686018427387904)) ∧ ((w2.alloc (.cells #[.int .i64 (a / 4611686018427387904), .int .i64 (a % 4611686018427387904)] 40)).alloc (.cells #[.int .i64 (b / 4611686018427387904), .int .i64 (b % 4611686018427387904)] 40)).cell? ⟨w2.heap.size + 1, 0, none⟩ = some (.int .i64 (b / 4611686018427387904)) ∧ ((w2.alloc (.cells #[.int .i64 (a / 4611686018427387904), .int .i64 (a % 4611686018427387904)] 40)).alloc (.cells #[.int .i64 (b / 4611686018427387904), .int .i64 (b % 4611686018427387904)] 40)).cell? ⟨w2.heap.size + 1, 1, none⟩ = some (.int .i64 (b % 4611686018427387904)) := by
          refine ⟨?_, ?_, ?_, ?_⟩ <;> simp [go_sem]
        have ht := tabIs_below htab hB
        clear hb1 hb2 hB2
        generalize ((w2.alloc (.cells #[.int .i64 (a / 4611686018427387904), .int .i64 (a % 4611686018427387904)] 40)).alloc (.cells #[.int .i64 (b / 4611686018427387904), .int .i64 (b % 4611686018427387904)] 40)) = W at *
        generalize w2.heap.size = B at *
        obtain ⟨c1, c2, c3, c4⟩ := hc
        have hc := And.intro c1 (And.intro c2 (And.intro c3 c4))
        go_wp2_with fail
        clear c1 c2 c3 c4
        generalize hu : a + b = u
        have HU := Lib.hid hu
        clear hu
        refine (plus_j a b u _ a0 a1 b0 b1 HU.out.symm).mono ?_
        rintro e w33 ⟨rfl, hb⟩
        have hc33 := keep4 hb hc
        have hB33 := chainC hB hb
        have ht33 := tabIs_below htab hB33
        clear hb hc hB
        obtain ⟨c1, c2, c3, c4⟩ := hc33
        have hc := And.intro c1 (And.intro c2 (And.intro c3 c4))
        have hB := hB33
        clear hB33 ht
        have ht := ht33
        clear ht33
        go_wp2_with fail
        clear c1 c2 c3 c4
        refine (write_j u _ (by have := HU.out; omega) (by have := HU.out; omega) ht).mono ?_
        rintro e w34 ⟨rfl, hb⟩
        have hc34 := keep4 hb hc
        have hB34 := chainC hB hb
        have ht34 := tabIs_below htab hB34
        clear hb hc hB
        obtain ⟨c1, c2, c3, c4⟩ := hc34
        have hc := And.intro c1 (And.intro c2 (And.intro c3 c4))
        have hB := hB34
        clear hB34 ht
        have ht := ht34
        clear ht34
        go_wp2_with fail
        clear c1 c2 c3 c4
        refine (write_j a _ (by omega) (by omega) ht).mono ?_
        rintro e w35 ⟨rfl, hb⟩
        have hc35 := keep4 hb hc
        have hB35 := chainC hB hb
        have ht35 := tabIs_below htab hB35
        clear hb hc hB
        obtain ⟨c1, c2, c3, c4⟩ := hc35
        have hc := And.intro c1 (And.intro c2 (And.intro c3 c4))
        have hB := hB35
        clear hB35 ht
        have ht := ht35
        clear ht35
        go_wp2_with fail
        clear c1 c2 c3 c4
        refine (text_j a _ a0 a1 ht).mono ?_
        rintro e w36 ⟨rfl, hb⟩
        have hc36 := keep4 hb hc
        have hB36 := chainC hB hb
        have ht36 := tabIs_below htab hB36
        clear hb hc hB
        obtain ⟨c1, c2, c3, c4⟩ := hc36
        have hc := And.intro c1 (And.intro c2 (And.intro c3 c4))
        have hB := hB36
        clear hB36 ht
        have ht := ht36
        clear ht36
        go_wp2_with fail
        clear c1 c2 c3 c4
        refine (plus_j b a u _ b0 b1 a0 a1 (by have := HU.out; omega)).mono ?_
        rintro e w37 ⟨rfl, hb⟩
        have hc37 := keep4 hb hc
        have hB37 := chainC hB hb
        have ht37 := tabIs_below htab hB37
        clear hb hc hB
        obtain ⟨c1, c2, c3, c4⟩ := hc37
        have hc := And.intro c1 (And.intro c2 (And.intro c3 c4))
        have hB := hB37
        clear hB37 ht
        have ht := ht37
        clear ht37
        go_wp2_with fail
        clear c1 c2 c3 c4
        refine (write_j u _ (by have := HU.out; omega) (by have := HU.out; omega) ht).mono ?_
        rintro e w38 ⟨rfl, hb⟩
        have hc38 := keep4 hb hc
        have hB38 := chainC hB hb
        have ht38 := tabIs_below htab hB38
        clear hb hc hB
        obtain ⟨c1, c2, c3, c4⟩ := hc38
        have hc := And.intro c1 (And.intro c2 (And.intro c3 c4))
        have hB := hB38
        clear hB38 ht
        have ht := ht38
        clear ht38
        go_wp2_with fail
        clear c1 c2 c3 c4
        have hsu : s = u := (HSUM.out trivial).trans HU.out
        have HSU := Lib.hid hsu
        clear hsu
        refine (text_j s _ HSB.out.1 HSB.out.2 ht).mono ?_
        rintro e w39 ⟨rfl, hb⟩
        rw [HSU.out]
        have hc39 := keep4 hb hc
        have hB39 := chainC hB hb
        have ht39 := tabIs_below htab hB39
        clear hb hc hB
        obtain ⟨c1, c2, c3, c4⟩ := hc39
        have hc := And.intro c1 (And.intro c2 (And.intro c3 c4))
        have hB := hB39
        clear hB39 ht
        have ht := ht39
        clear ht39
        go_wp2_with fail
        clear c1 c2 c3 c4
        refine (less_j a b false _ a0 a1 b0 b1 (by simp; omega)).mono ?_
        rintro e w40 ⟨rfl, hb⟩
        have hc40 := keep4 hb hc
        have hB40 := chainC hB hb
        have ht40 := tabIs_below htab hB40
        clear hb hc hB
        obtain ⟨c1, c2, c3, c4⟩ := hc40
        have hc := And.intro c1 (And.intro c2 (And.intro c3 c4))
        have hB := hB40
        clear hB40 ht
        have ht := ht40
        clear ht40
        go_wp2_with fail
        clear c1 c2 c3 c4
        refine (known_any _ ht).mono ?_
        rintro e w9 ⟨rfl, hb⟩
        have hB9 := chainC hB hb
        clear hb hB
        go_wp2_with fail
        go_ret
        exact ⟨rfl, hB9⟩
  · have hm : (b != -9223372036854775808) = true := by simp [hb]
    have hlow : -9223372036854775807 ≤ b := by omega
    clear hb
    have hl : a < b ∨ b ≤ a := by omega
    cases f
    · rcases hl with hl | hl
      · have hd : decide (a < b) = true := by simp; omega
        go_enter Tryd.func8, Tryd.ntmps8
        go_wp2_with fail
        refine (sub_j a b _ _ _ a0 a1 b0 b1 HF2.out HS2.out).mono ?_
        rintro e w0 ⟨rfl, rfl⟩
        go_wp2_with fail
        refine (add_j a (-b) _ _ _ a0 a1 (by omega) (by omega) HF2.out HS2.out).mono ?_
        rintro e w0 ⟨rfl, rfl⟩
        have es : (s2 != s2) = false := by simp
        have es2 : (f2 != f2) = false := by simp
        go_wp2_with fail
        refine (of_j a _ a0 a1).mono ?_
        rintro e w1 ⟨rfl, hb1⟩
        go_wp2_with fail
        refine (of_j b _ b0 b1).mono ?_
        rintro e w2 ⟨rfl, hb2⟩
        go_wp2_with fail
        refine (add_j a b _ _ _ a0 a1 b0 b1 HF.out HS.out).mono ?_
        rintro e w0 ⟨rfl, rfl⟩
        have hB2 := chainC hb1 hb2
        have hB : Below w.heap.size w ((w2.alloc (.cells #[.int .i64 (a / 4611686018427387904), .int .i64 (a % 4611686018427387904)] 40)).alloc (.cells #[.int .i64 (b / 4611686018427387904), .int .i64 (b % 4611686018427387904)] 40)) := (hB2.alloc hB2.size _).alloc (by have := hB2.size; simp; omega) _
        have hc : ((w2.alloc (.cells #[.int .i64 (a / 4611686018427387904), .int .i64 (a % 4611686018427387904)] 40)).alloc (.cells #[.int .i64 (b / 4611686018427387904), .int .i64 (b % 4611686018427387904)] 40)).cell? ⟨w2.heap.size, 0, none⟩ = some (.int .i64 (a / 4611686018427387904)) ∧ ((w2.alloc (.cells #[.int .i64 (a / 4611686018427387904), .int .i64 (a % 4611686018427387904)] 40)).alloc (.cells #[.int .i64 (b / 4611686018427387904), .int .i64 (b % 4611686018427387904)] 40)).cell? ⟨w2.heap.size, 1, none⟩ = some (.int .i64 (a % 4611686018427387904)) ∧ ((w2.alloc (.cells #[.int .i64 (a / 4611686018427387904), .int .i64 (a % 4611686018427387904)] 40)).alloc (.cells #[.int .i64 (b / 4611686018427387904), .int .i64 (b % 4611686018427387904)] 40)).cell? ⟨w2.heap.size + 1, 0, none⟩ = some (.int .i64 (b / 4611686018427387904)) ∧ ((w2.alloc (.cells #[.int .i64 (a / 4611686018427387904), .int .i64 (a % 4611686018427387904)] 40)).alloc (.cells #[.int .i64 (b / 4611686018427387904), .int .i64 (b % 4611686018427387904)] 40)).cell? ⟨w2.heap.size + 1, 1, none⟩ = some (.int .i64 (b % 4611686018427387904)) := by
          refine ⟨?_, ?_, ?_, ?_⟩ <;> simp [go_sem]
        have ht := tabIs_below htab hB
        clear hb1 hb2 hB2
        generalize ((w2.alloc (.cells #[.int .i64 (a / 4611686018427387904), .int .i64 (a % 4611686018427387904)] 40)).alloc (.cells #[.int .i64 (b / 4611686018427387904), .int .i64 (b % 4611686018427387904)] 40)) = W at *
        generalize w2.heap.size = B at *
        obtain ⟨c1, c2, c3, c4⟩ := hc
        have hc := And.intro c1 (And.intro c2 (And.intro c3 c4))
        go_wp2_with fail
        clear c1 c2 c3 c4
        generalize hu : a + b = u
        have HU := Lib.hid hu
        clear hu
        refine (plus_j a b u _ a0 a1 b0 b1 HU.out.symm).mono ?_
        rintro e w41 ⟨rfl, hb⟩
        have hc41 := keep4 hb hc
        have hB41 := chainC hB hb
        have ht41 := tabIs_below htab hB41
        clear hb hc hB
        obtain ⟨c1, c2, c3, c4⟩ := hc41
        have hc := And.intro c1 (And.intro c2 (And.intro c3 c4))
        have hB := hB41
        clear hB41 ht
        have ht := ht41
        clear ht41
        go_wp2_with fail
        clear c1 c2 c3 c4
        refine (write_j u _ (by have := HU.out; omega) (by have := HU.out; omega) ht).mono ?_
        rintro e w42 ⟨rfl, hb⟩
        have hc42 := keep4 hb hc
        have hB42 := chainC hB hb
        have ht42 := tabIs_below htab hB42
        clear hb hc hB
        obtain ⟨c1, c2, c3, c4⟩ := hc42
        have hc := And.intro c1 (And.intro c2 (And.intro c3 c4))
        have hB := hB42
        clear hB42 ht
        have ht := ht42
        clear ht42
        go_wp2_with fail
        clear c1 c2 c3 c4
        refine (write_j a _ (by omega) (by omega) ht).mono ?_
        rintro e w43 ⟨rfl, hb⟩
        have hc43 := keep4 hb hc
        have hB43 := chainC hB hb
        have ht43 := tabIs_below htab hB43
        clear hb hc hB
        obtain ⟨c1, c2, c3, c4⟩ := hc43
        have hc := And.intro c1 (And.intro c2 (And.intro c3 c4))
        have hB := hB43
        clear hB43 ht
        have ht := ht43
        clear ht43
        go_wp2_with fail
        clear c1 c2 c3 c4
        refine (text_j a _ a0 a1 ht).mono ?_
        rintro e w44 ⟨rfl, hb⟩
        have hc44 := keep4 hb hc
        have hB44 := chainC hB hb
        have ht44 := tabIs_below htab hB44
        clear hb hc hB
        obtain ⟨c1, c2, c3, c4⟩ := hc44
        have hc := And.intro c1 (And.intro c2 (And.intro c3 c4))
        have hB := hB44
        clear hB44 ht
        have ht := ht44
        clear ht44
        go_wp2_with fail
        clear c1 c2 c3 c4
        refine (plus_j b a u _ b0 b1 a0 a1 (by have := HU.out; omega)).mono ?_
        rintro e w45 ⟨rfl, hb⟩
        have hc45 := keep4 hb hc
        have hB45 := chainC hB hb
        have ht45 := tabIs_below htab hB45
        clear hb hc hB
        obtain ⟨c1, c2, c3, c4⟩ := hc45
        have hc := And.intro c1 (And.intro c2 (And.intro c3 c4))
        have hB := hB45
        clear hB45 ht
        have ht := ht45
        clear ht45
        go_wp2_with fail
        clear c1 c2 c3 c4
        refine (write_j u _ (by have := HU.out; omega) (by have := HU.out; omega) ht).mono ?_
        rintro e w46 ⟨rfl, hb⟩
        have hc46 := keep4 hb hc
        have hB46 := chainC hB hb
        have ht46 := tabIs_below htab hB46
        clear hb hc hB
        obtain ⟨c1, c2, c3, c4⟩ := hc46
        have hc := And.intro c1 (And.intro c2 (And.intro c3 c4))
        have hB := hB46
        clear hB46 ht
        have ht := ht46
        clear ht46
        go_wp2_with fail
        clear c1 c2 c3 c4
        refine (less_j a b true _ a0 a1 b0 b1 (by simp; omega)).mono ?_
        rintro e w47 ⟨rfl, hb⟩
        have hc47 := keep4 hb hc
        have hB47 := chainC hB hb
        have ht47 := tabIs_below htab hB47
        clear hb hc hB
        obtain ⟨c1, c2, c3, c4⟩ := hc47
        have hc := And.intro c1 (And.intro c2 (And.intro c3 c4))
        have hB := hB47
        clear hB47 ht
        have ht := ht47
        clear ht47
        go_wp2_with fail
        clear c1 c2 c3 c4
        refine (known_any _ ht).mono ?_
        rintro e w9 ⟨rfl, hb⟩
        have hB9 := chainC hB hb
        clear hb hB
        go_wp2_with fail
        go_ret
        exact ⟨rfl, hB9⟩
      · have hd : decide (a < b) = false := by simp; omega
        go_enter Tryd.func8, Tryd.ntmps8
        go_wp2_with fail
        refine (sub_j a b _ _ _ a0 a1 b0 b1 HF2.out HS2.out).mono ?_
        rintro e w0 ⟨rfl, rfl⟩
        go_wp2_with fail
        refine (add_j a (-b) _ _ _ a0 a1 (by omega) (by omega) HF2.out HS2.out).mono ?_
        rintro e w0 ⟨rfl, rfl⟩
        have es : (s2 != s2) = false := by simp
        have es2 : (f2 != f2) = false := by simp
        go_wp2_with fail
        refine (of_j a _ a0 a1).mono ?_
        rintro e w1 ⟨rfl, hb1⟩
        go_wp2_with fail
        refine (of_j b _ b0 b1).mono ?_
        rintro e w2 ⟨rfl, hb2⟩
        go_wp2_with fail
        refine (add_j a b _ _ _ a0 a1 b0 b1 HF.out HS.out).mono ?_
        rintro e w0 ⟨rfl, rfl⟩
        have hB2 := chainC hb1 hb2
        have hB : Below w.heap.size w ((w2.alloc (.cells #[.int .i64 (a / 4611686018427387904), .int .i64 (a % 4611686018427387904)] 40)).alloc (.cells #[.int .i64 (b / 4611686018427387904), .int .i64 (b % 4611686018427387904)] 40)) := (hB2.alloc hB2.size _).alloc (by have := hB2.size; simp; omega) _
        have hc : ((w2.alloc (.cells #[.int .i64 (a / 4611686018427387904), .int .i64 (a % 4611686018427387904)] 40)).alloc (.cells #[.int .i64 (b / 4611686018427387904), .int .i64 (b % 4611686018427387904)] 40)).cell? ⟨w2.heap.size, 0, none⟩ = some (.int .i64 (a / 4611686018427387904)) ∧ ((w2.alloc (.cells #[.int .i64 (a / 4611686018427387904), .int .i64 (a % 4611686018427387904)] 40)).alloc (.cells #[.int .i64 (b / 4611686018427387904), .int .i64 (b % 4611686018427387904)] 40)).cell? ⟨w2.heap.size, 1, none⟩ = some (.int .i64 (a % 4611686018427387904)) ∧ ((w2.alloc (.cells #[.int .i64 (a / 4611686018427387904), .int .i64 (a % 4611686018427387904)] 40)).alloc (.cells #[.int .i64 (b / 4611686018427387904), .int .i64 (b % 4611686018427387904)] 40)).cell? ⟨w2.heap.size + 1, 0, none⟩ = some (.int .i64 (b / 4611686018427387904)) ∧ ((w2.alloc (.cells #[.int .i64 (a / 4611686018427387904), .int .i64 (a % 4611686018427387904)] 40)).alloc (.cells #[.int .i64 (b / 4611686018427387904), .int .i64 (b % 4611686018427387904)] 40)).cell? ⟨w2.heap.size + 1, 1, none⟩ = some (.int .i64 (b % 4611686018427387904)) := by
          refine ⟨?_, ?_, ?_, ?_⟩ <;> simp [go_sem]
        have ht := tabIs_below htab hB
        clear hb1 hb2 hB2
        generalize ((w2.alloc (.cells #[.int .i64 (a / 4611686018427387904), .int .i64 (a % 4611686018427387904)] 40)).alloc (.cells #[.int .i64 (b / 4611686018427387904), .int .i64 (b % 4611686018427387904)] 40)) = W at *
        generalize w2.heap.size = B at *
        obtain ⟨c1, c2, c3, c4⟩ := hc
        have hc := And.intro c1 (And.intro c2 (And.intro c3 c4))
        go_wp2_with fail
        clear c1 c2 c3 c4
        generalize hu : a + b = u
        have HU := Lib.hid hu
        clear hu
        refine (plus_j a b u _ a0 a1 b0 b1 HU.out.symm).mono ?_
        rintro e w48 ⟨rfl, hb⟩
        have hc48 := keep4 hb hc
        have hB48 := chainC hB hb
        have ht48 := tabIs_below htab hB48
        clear hb hc hB
        obtain ⟨c1, c2, c3, c4⟩ := hc48
        have hc := And.intro c1 (And.intro c2 (And.intro c3 c4))
        have hB := hB48
        clear hB48 ht
        have ht := ht48
        clear ht48
        go_wp2_with fail
        clear c1 c2 c3 c4
        refine (write_j u _ (by have := HU.out; omega) (by have := HU.out; omega) ht).mono ?_
        rintro e w49 ⟨rfl, hb⟩
        have hc49 := keep4 hb hc
        have hB49 := chainC hB hb
        have ht49 := tabIs_below htab hB49
        clear hb hc hB
        obtain ⟨c1, c2, c3, c4⟩ := hc49
        have hc := And.intro c1 (And.intro c2 (And.intro c3 c4))
        have hB := hB49
        clear hB49 ht
        have ht := ht49
        clear ht49
        go_wp2_with fail
        clear c1 c2 c3 c4
        refine (write_j a _ (by omega) (by omega) ht).mono ?_
        rintro e w50 ⟨rfl, hb⟩
        have hc50 := keep4 hb hc
        have hB50 := chainC hB hb
        have ht50 := tabIs_below htab hB50
        clear hb hc hB
        obtain ⟨c1, c2, c3, c4⟩ := hc50
        have hc := And.intro c1 (And.intro c2 (And.intro c3 c4))
        have hB := hB50
        clear hB50 ht
        have ht := ht50
        clear ht50
        go_wp2_with fail
        clear c1 c2 c3 c4
        refine (text_j a _ a0 a1 ht).mono ?_
        rintro e w51 ⟨rfl, hb⟩
        have hc51 := keep4 hb hc
        have hB51 := chainC hB hb
        have ht51 := tabIs_below htab hB51
        clear hb hc hB
        obtain ⟨c1, c2, c3, c4⟩ := hc51
        have hc := And.intro c1 (And.intro c2 (And.intro c3 c4))
        have hB := hB51
        clear hB51 ht
        have ht := ht51
        clear ht51
        go_wp2_with fail
        clear c1 c2 c3 c4
        refine (plus_j b a u _ b0 b1 a0 a1 (by have := HU.out; omega)).mono ?_
        rintro e w52 ⟨rfl, hb⟩
        have hc52 := keep4 hb hc
        have hB52 := chainC hB hb
        have ht52 := tabIs_below htab hB52
        clear hb hc hB
        obtain ⟨c1, c2, c3, c4⟩ := hc52
        have hc := And.intro c1 (And.intro c2 (And.intro c3 c4))
        have hB := hB52
        clear hB52 ht
        have ht := ht52
        clear ht52
        go_wp2_with fail
        clear c1 c2 c3 c4
        refine (write_j u _ (by have := HU.out; omega) (by have := HU.out; omega) ht).mono ?_
        rintro e w53 ⟨rfl, hb⟩
        have hc53 := keep4 hb hc
        have hB53 := chainC hB hb
        have ht53 := tabIs_below htab hB53
        clear hb hc hB
        obtain ⟨c1, c2, c3, c4⟩ := hc53
        have hc := And.intro c1 (And.intro c2 (And.intro c3 c4))
        have hB := hB53
        clear hB53 ht
        have ht := ht53
        clear ht53
        go_wp2_with fail
        clear c1 c2 c3 c4
        refine (less_j a b false _ a0 a1 b0 b1 (by simp; omega)).mono ?_
        rintro e w54 ⟨rfl, hb⟩
        have hc54 := keep4 hb hc
        have hB54 := chainC hB hb
        have ht54 := tabIs_below htab hB54
        clear hb hc hB
        obtain ⟨c1, c2, c3, c4⟩ := hc54
        have hc := And.intro c1 (And.intro c2 (And.intro c3 c4))
        have hB := hB54
        clear hB54 ht
        have ht := ht54
        clear ht54
        go_wp2_with fail
        clear c1 c2 c3 c4
        refine (known_any _ ht).mono ?_
        rintro e w9 ⟨rfl, hb⟩
        have hB9 := chainC hB hb
        clear hb hB
        go_wp2_with fail
        go_ret
        exact ⟨rfl, hB9⟩
    · rcases hl with hl | hl
      · have hd : decide (a < b) = true := by simp; omega
        go_enter Tryd.func8, Tryd.ntmps8
        go_wp2_with fail
        refine (sub_j a b _ _ _ a0 a1 b0 b1 HF2.out HS2.out).mono ?_
        rintro e w0 ⟨rfl, rfl⟩
        go_wp2_with fail
        refine (add_j a (-b) _ _ _ a0 a1 (by omega) (by omega) HF2.out HS2.out).mono ?_
        rintro e w0 ⟨rfl, rfl⟩
        have es : (s2 != s2) = false := by simp
        have es2 : (f2 != f2) = false := by simp
        go_wp2_with fail
        refine (of_j a _ a0 a1).mono ?_
        rintro e w1 ⟨rfl, hb1⟩
        go_wp2_with fail
        refine (of_j b _ b0 b1).mono ?_
        rintro e w2 ⟨rfl, hb2⟩
        go_wp2_with fail
        refine (add_j a b _ _ _ a0 a1 b0 b1 HF.out HS.out).mono ?_
        rintro e w0 ⟨rfl, rfl⟩
        have hB2 := chainC hb1 hb2
        have hB : Below w.heap.size w ((w2.alloc (.cells #[.int .i64 (a / 4611686018427387904), .int .i64 (a % 4611686018427387904)] 40)).alloc (.cells #[.int .i64 (b / 4611686018427387904), .int .i64 (b % 4611686018427387904)] 40)) := (hB2.alloc hB2.size _).alloc (by have := hB2.size; simp; omega) _
        have hc : ((w2.alloc (.cells #[.int .i64 (a / 4611686018427387904), .int .i64 (a % 4611686018427387904)] 40)).alloc (.cells #[.int .i64 (b / 4611686018427387904), .int .i64 (b % 4611686018427387904)] 40)).cell? ⟨w2.heap.size, 0, none⟩ = some (.int .i64 (a / 4611686018427387904)) ∧ ((w2.alloc (.cells #[.int .i64 (a / 4611686018427387904), .int .i64 (a % 4611686018427387904)] 40)).alloc (.cells #[.int .i64 (b / 4611686018427387904), .int .i64 (b % 4611686018427387904)] 40)).cell? ⟨w2.heap.size, 1, none⟩ = some (.int .i64 (a % 4611686018427387904)) ∧ ((w2.alloc (.cells #[.int .i64 (a / 4611686018427387904), .int .i64 (a % 4611686018427387904)] 40)).alloc (.cells #[.int .i64 (b / 4611686018427387904), .int .i64 (b % 4611686018427387904)] 40)).cell? ⟨w2.heap.size + 1, 0, none⟩ = some (.int .i64 (b / 4611686018427387904)) ∧ ((w2.alloc (.cells #[.int .i64 (a / 4611686018427387904), .int .i64 (a % 4611686018427387904)] 40)).alloc (.cells #[.int .i64 (b / 4611686018427387904), .int .i64 (b % 4611686018427387904)] 40)).cell? ⟨w2.heap.size + 1, 1, none⟩ = some (.int .i64 (b % 4611686018427387904)) := by
          refine ⟨?_, ?_, ?_, ?_⟩ <;> simp [go_sem]
        have ht := tabIs_below htab hB
        clear hb1 hb2 hB2
        generalize ((w2.alloc (.cells #[.int .i64 (a / 4611686018427387904), .int .i64 (a % 4611686018427387904)] 40)).alloc (.cells #[.int .i64 (b / 4611686018427387904), .int .i64 (b % 4611686018427387904)] 40)) = W at *
        generalize w2.heap.size = B at *
        obtain ⟨c1, c2, c3, c4⟩ := hc
        have hc := And.intro c1 (And.intro c2 (And.intro c3 c4))
        go_wp2_with fail
        clear c1 c2 c3 c4
        generalize hu : a + b = u
        have HU := Lib.hid hu
        clear hu
        refine (plus_j a b u _ a0 a1 b0 b1 HU.out.symm).mono ?_
        rintro e w55 ⟨rfl, hb⟩
        have hc55 := keep4 hb hc
        have hB55 := chainC hB hb
        have ht55 := tabIs_below htab hB55
        clear hb hc hB
        obtain ⟨c1, c2, c3, c4⟩ := hc55
        have hc := And.intro c1 (And.intro c2 (And.intro c3 c4))
        have hB := hB55
        clear hB55 ht
        have ht := ht55
        clear ht55
        go_wp2_with fail
        clear c1 c2 c3 c4
        refine (write_j u _ (by have := HU.out; omega) (by have := HU.out; omega) ht).mono ?_
        rintro e w56 ⟨rfl, hb⟩
        have hc56 := keep4 hb hc
        have hB56 := chainC hB hb
        have ht56 := tabIs_below htab hB56
        clear hb hc hB
        obtain ⟨c1, c2, c3, c4⟩ := hc56
        have hc := And.intro c1 (And.intro c2 (And.intro c3 c4))
        have hB := hB56
        clear hB56 ht
        have ht := ht56
        clear ht56
        go_wp2_with fail
        clear c1 c2 c3 c4
        refine (write_j a _ (by omega) (by omega) ht).mono ?_
        rintro e w57 ⟨rfl, hb⟩
        have hc57 := keep4 hb hc
        have hB57 := chainC hB hb
        have ht57 := tabIs_below htab hB57
        clear hb hc hB
        obtain ⟨c1, c2, c3, c4⟩ := hc57
        have hc := And.intro c1 (And.intro c2 (And.intro c3 c4))
        have hB := hB57
        clear hB57 ht
        have ht := ht57
        clear ht57
        go_wp2_with fail
        clear c1 c2 c3 c4
        refine (text_j a _ a0 a1 ht).mono ?_
        rintro e w58 ⟨rfl, hb⟩
        have hc58 := keep4 hb hc
        have hB58 := chainC hB hb
        have ht58 := tabIs_below htab hB58
        clear hb hc hB
        obtain ⟨c1, c2, c3, c4⟩ := hc58
        have hc := And.intro c1 (And.intro c2 (And.intro c3 c4))
        have hB := hB58
        clear hB58 ht
        have ht := ht58
        clear ht58
        go_wp2_with fail
        clear c1 c2 c3 c4
        refine (plus_j b a u _ b0 b1 a0 a1 (by have := HU.out; omega)).mono ?_
        rintro e w59 ⟨rfl, hb⟩
        have hc59 := keep4 hb hc
        have hB59 := chainC hB hb
        have ht59 := tabIs_below htab hB59
        clear hb hc hB
        obtain ⟨c1, c2, c3, c4⟩ := hc59
        have hc := And.intro c1 (And.intro c2 (And.intro c3 c4))
        have hB := hB59
        clear hB59 ht
        have ht := ht59
        clear ht59
        go_wp2_with fail
        clear c1 c2 c3 c4
        refine (write_j u _ (by have := HU.out; omega) (by have := HU.out; omega) ht).mono ?_
        rintro e w60 ⟨rfl, hb⟩
        have hc60 := keep4 hb hc
        have hB60 := chainC hB hb
        have ht60 := tabIs_below htab hB60
        clear hb hc hB
        obtain ⟨c1, c2, c3, c4⟩ := hc60
        have hc := And.intro c1 (And.intro c2 (And.intro c3 c4))
        have hB := hB60
        clear hB60 ht
        have ht := ht60
        clear ht60
        go_wp2_with fail
        clear c1 c2 c3 c4
        have hsu : s = u := (HSUM.out trivial).trans HU.out
        have HSU := Lib.hid hsu
        clear hsu
        refine (text_j s _ HSB.out.1 HSB.out.2 ht).mono ?_
        rintro e w61 ⟨rfl, hb⟩
        rw [HSU.out]
        have hc61 := keep4 hb hc
        have hB61 := chainC hB hb
        have ht61 := tabIs_below htab hB61
        clear hb hc hB
        obtain ⟨c1, c2, c3, c4⟩ := hc61
        have hc := And.intro c1 (And.intro c2 (And.intro c3 c4))
        have hB := hB61
        clear hB61 ht
        have ht := ht61
        clear ht61
        go_wp2_with fail
        clear c1 c2 c3 c4
        refine (less_j a b true _ a0 a1 b0 b1 (by simp; omega)).mono ?_
        rintro e w62 ⟨rfl, hb⟩
        have hc62 := keep4 hb hc
        have hB62 := chainC hB hb
        have ht62 := tabIs_below htab hB62
        clear hb hc hB
        obtain ⟨c1, c2, c3, c4⟩ := hc62
        have hc := And.intro c1 (And.intro c2 (And.intro c3 c4))
        have hB := hB62
        clear hB62 ht
        have ht := ht62
        clear ht62
        go_wp2_with fail
        clear c1 c2 c3 c4
        refine (known_any _ ht).mono ?_
        rintro e w9 ⟨rfl, hb⟩
        have hB9 := chainC hB hb
        clear hb hB
        go_wp2_with fail
        go_ret
        exact ⟨rfl, hB9⟩
      · have hd : decide (a < b) = false := by simp; omega
        go_enter Tryd.func8, Tryd.ntmps8
        go_wp2_with fail
        refine (sub_j a b _ _ _ a0 a1 b0 b1 HF2.out HS2.out).mono ?_
        rintro e w0 ⟨rfl, rfl⟩
        go_wp2_with fail
        refine (add_j a (-b) _ _ _ a0 a1 (by omega) (by omega) HF2.out HS2.out).mono ?_
        rintro e w0 ⟨rfl, rfl⟩
        have es : (s2 != s2) = false := by simp
        have es2 : (f2 != f2) = false := by simp
        go_wp2_with fail
        refine (of_j a _ a0 a1).mono ?_
        rintro e w1 ⟨rfl, hb1⟩
        go_wp2_with fail
        refine (of_j b _ b0 b1).mono ?_
        rintro e w2 ⟨rfl, hb2⟩
        go_wp2_with fail
        refine (add_j a b _ _ _ a0 a1 b0 b1 HF.out HS.out).mono ?_
        rintro e w0 ⟨rfl, rfl⟩
        have hB2 := chainC hb1 hb2
        have hB : Below w.heap.size w ((w2.alloc (.cells #[.int .i64 (a / 4611686018427387904), .int .i64 (a % 4611686018427387904)] 40)).alloc (.cells #[.int .i64 (b / 4611686018427387904), .int .i64 (b % 4611686018427387904)] 40)) := (hB2.alloc hB2.size _).alloc (by have := hB2.size; simp; omega) _
        have hc : ((w2.alloc (.cells #[.int .i64 (a / 4611686018427387904), .int .i64 (a % 4611686018427387904)] 40)).alloc (.cells #[.int .i64 (b / 4611686018427387904), .int .i64 (b % 4611686018427387904)] 40)).cell? ⟨w2.heap.size, 0, none⟩ = some (.int .i64 (a / 4611686018427387904)) ∧ ((w2.alloc (.cells #[.int .i64 (a / 4611686018427387904), .int .i64 (a % 4611686018427387904)] 40)).alloc (.cells #[.int .i64 (b / 4611686018427387904), .int .i64 (b % 4611686018427387904)] 40)).cell? ⟨w2.heap.size, 1, none⟩ = some (.int .i64 (a % 4611686018427387904)) ∧ ((w2.alloc (.cells #[.int .i64 (a / 4611686018427387904), .int .i64 (a % 4611686018427387904)] 40)).alloc (.cells #[.int .i64 (b / 4611686018427387904), .int .i64 (b % 4611686018427387904)] 40)).cell? ⟨w2.heap.size + 1, 0, none⟩ = some (.int .i64 (b / 4611686018427387904)) ∧ ((w2.alloc (.cells #[.int .i64 (a / 4611686018427387904), .int .i64 (a % 4611686018427387904)] 40)).alloc (.cells #[.int .i64 (b / 4611686018427387904), .int .i64 (b % 4611686018427387904)] 40)).cell? ⟨w2.heap.size + 1, 1, none⟩ = some (.int .i64 (b % 4611686018427387904)) := by
          refine ⟨?_, ?_, ?_, ?_⟩ <;> simp [go_sem]
        have ht := tabIs_below htab hB
        clear hb1 hb2 hB2
        generalize ((w2.alloc (.cells #[.int .i64 (a / 4611686018427387904), .int .i64 (a % 4611686018427387904)] 40)).alloc (.cells #[.int .i64 (b / 4611686018427387904), .int .i64 (b % 4611686018427387904)] 40)) = W at *
        generalize w2.heap.size = B at *
        obtain ⟨c1, c2, c3, c4⟩ := hc
        have hc := And.intro c1 (And.intro c2 (And.intro c3 c4))
        go_wp2_with fail
        clear c1 c2 c3 c4
        generalize hu : a + b = u
        have HU := Lib.hid hu
        clear hu
        refine (plus_j a b u _ a0 a1 b0 b1 HU.out.symm).mono ?_
        rintro e w63 ⟨rfl, hb⟩
        have hc63 := keep4 hb hc
        have hB63 := chainC hB hb
        have ht63 := tabIs_below htab hB63
        clear hb hc hB
        obtain ⟨c1, c2, c3, c4⟩ := hc63
        have hc := And.intro c1 (And.intro c2 (And.intro c3 c4))
        have hB := hB63
        clear hB63 ht
        have ht := ht63
        clear ht63
        go_wp2_with fail
        clear c1 c2 c3 c4
        refine (write_j u _ (by have := HU.out; omega) (by have := HU.out; omega) ht).mono ?_
        rintro e w64 ⟨rfl, hb⟩
        have hc64 := keep4 hb hc
        have hB64 := chainC hB hb
        have ht64 := tabIs_below htab hB64
        clear hb hc hB
        obtain ⟨c1, c2, c3, c4⟩ := hc64
        have hc := And.intro c1 (And.intro c2 (And.intro c3 c4))
        have hB := hB64
        clear hB64 ht
        have ht := ht64
        clear ht64
        go_wp2_with fail
        clear c1 c2 c3 c4
        refine (write_j a _ (by omega) (by omega) ht).mono ?_
        rintro e w65 ⟨rfl, hb⟩
        have hc65 := keep4 hb hc
        have hB65 := chainC hB hb
        have ht65 := tabIs_below htab hB65
        clear hb hc hB
        obtain ⟨c1, c2, c3, c4⟩ := hc65
        have hc := And.intro c1 (And.intro c2 (And.intro c3 c4))
        have hB := hB65
        clear hB65 ht
        have ht := ht65
        clear ht65
        go_wp2_with fail
        clear c1 c2 c3 c4
        refine (text_j a _ a0 a1 ht).mono ?_
        rintro e w66 ⟨rfl, hb⟩
        have hc66 := keep4 hb hc
        have hB66 := chainC hB hb
        have ht66 := tabIs_below htab hB66
        clear hb hc hB
        obtain ⟨c1, c2, c3, c4⟩ := hc66
        have hc := And.intro c1 (And.intro c2 (And.intro c3 c4))
        have hB := hB66
        clear hB66 ht
        have ht := ht66
        clear ht66
        go_wp2_with fail
        clear c1 c2 c3 c4
        refine (plus_j b a u _ b0 b1 a0 a1 (by have := HU.out; omega)).mono ?_
        rintro e w67 ⟨rfl, hb⟩
        have hc67 := keep4 hb hc
        have hB67 := chainC hB hb
        have ht67 := tabIs_below htab hB67
        clear hb hc hB
        obtain ⟨c1, c2, c3, c4⟩ := hc67
        have hc := And.intro c1 (And.intro c2 (And.intro c3 c4))
        have hB := hB67
        clear hB67 ht
        have ht := ht67
        clear ht67
        go_wp2_with fail
        clear c1 c2 c3 c4
        refine (write_j u _ (by have := HU.out; omega) (by have := HU.out; omega) ht).mono ?_
        rintro e w68 ⟨rfl, hb⟩
        have hc68 := keep4 hb hc
        have hB68 := chainC hB hb
        have ht68 := tabIs_below htab hB68
        clear hb hc hB
        obtain ⟨c1, c2, c3, c4⟩ := hc68
        have hc := And.intro c1 (And.intro c2 (And.intro c3 c4))
        have hB := hB68
        clear hB68 ht
        have ht := ht68
        clear ht68
        go_wp2_with fail
        clear c1 c2 c3 c4
        have hsu : s = u := (HSUM.out trivial).trans HU.out
        have HSU := Lib.hid hsu
        clear hsu
        refine (text_j s _ HSB.out.1 HSB.out.2 ht).mono ?_
        rintro e w69 ⟨rfl, hb⟩
        rw [HSU.out]
        have hc69 := keep4 hb hc
        have hB69 := chainC hB hb
        have ht69 := tabIs_below htab hB69
        clear hb hc hB
        obtain ⟨c1, c2, c3, c4⟩ := hc69
        have hc := And.intro c1 (And.intro c2 (And.intro c3 c4))
        have hB := hB69
        clear hB69 ht
        have ht := ht69
        clear ht69
        go_wp2_with fail
        clear c1 c2 c3 c4
        refine (less_j a b false _ a0 a1 b0 b1 (by simp; omega)).mono ?_
        rintro e w70 ⟨rfl, hb⟩
        have hc70 := keep4 hb hc
        have hB70 := chainC hB hb
        have ht70 := tabIs_below htab hB70
        clear hb hc hB
        obtain ⟨c1, c2, c3, c4⟩ := hc70
        have hc := And.intro c1 (And.intro c2 (And.intro c3 c4))
        have hB := hB70
        clear hB70 ht
        have ht := ht70
        clear ht70
        go_wp2_with fail
        clear c1 c2 c3 c4
        refine (known_any _ ht).mono ?_
        rintro e w9 ⟨rfl, hb⟩
        have hB9 := chainC hB hb
        clear hb hB
        go_wp2_with fail
        go_ret
        exact ⟨rfl, hB9⟩
end Go.Proofs.YtmfmdcapanaajaaDoor
