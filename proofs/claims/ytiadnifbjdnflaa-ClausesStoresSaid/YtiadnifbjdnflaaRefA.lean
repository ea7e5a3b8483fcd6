/- juristref14: Atom, Has, May, Within; slices.Contains. -/
import Derived.Test.YtiadnifbjdnflaaCmp
namespace Go.Proofs.Ytiadnifbjdnflaa
open Go Go.RowKit

/-- does a number stand in a list? -/
def hasB (n : Nat) (V : Nat → Int) (x : Int) : Bool := (List.range n).any fun i => V i == x
theorem hasB_iff (n : Nat) (V : Nat → Int) (x : Int) : hasB n V x = true ↔ ∃ i, i < n ∧ V i = x := by
  unfold hasB
  rw [List.any_eq_true]
  constructor
  · rintro ⟨i, hi, h⟩
    exact ⟨i, List.mem_range.1 hi, by simpa using h⟩
  · rintro ⟨i, hi, h⟩
    exact ⟨i, List.mem_range.2 hi, by simpa using h⟩
theorem hasB_yes {n : Nat} {V : Nat → Int} {x : Int} (i : Nat) (hi : i < n) (h : V i = x) : hasB n V x = true := (hasB_iff n V x).2 ⟨i, hi, h⟩
theorem hasB_no {n : Nat} {V : Nat → Int} {x : Int} (h : ∀ i, i < n → V i ≠ x) : hasB n V x = false := by
  cases hb : hasB n V x with
  | false => rfl
  | true => obtain ⟨i, hi, he⟩ := (hasB_iff n V x).1 hb; exact absurd he (h i hi)
set_option maxRecDepth 100000 in
set_option maxHeartbeats 800000 in
theorem atom_any (x : Int) (w : World) (h : -9223372036854775807 ≤ x) (h' : x ≤ 9223372036854775807) : Calls Try.prog 34 #[.int .i64 x] w fun e w' => e = .returned (.int .i64 (absI x)) ∧ w' = w := by
  rcases absI_cases x with ⟨h1, h2⟩ | ⟨h1, h2⟩
  all_goals
    rw [h2]
    clear h2
    go_enter Try.func34, Try.ntmps34
    go_wp2
    go_ret
    exact ⟨rfl, rfl⟩
set_option maxRecDepth 100000 in
set_option maxHeartbeats 800000 in
theorem refHas_any (p : Option Addr) (n c : Nat) (V : Nat → Int) (x : Int) (w : World) (hV : LitsIn w p n V) (hn : n ≤ 9223372036854775807) :
    Calls Try.prog 52 #[.slice p n c, .int .i64 x] w fun e w' => e = .returned (.bool (hasB n V x)) ∧ w' = w := by
  have HV := Lib.hid hV
  clear hV
  go_enter Try.func52, Try.ntmps52
  go_wp2_with fail
  go_loopw [5] (fun i wr => ∃ j : Nat, j ≤ n ∧ i = .int .i64 j ∧ w = wr ∧ ∀ t, t < j → V t ≠ x) (fun i _ => n - (intOf i).toNat)
  case atStart => exact ⟨0, by omega, rfl, rfl, fun t ht => by omega⟩
  case round =>
    obtain ⟨j, hj, rfl, rfl, hall⟩ := hrel
    have HALL := Lib.hid hall
    clear hall
    by_cases hlt : j < n
    · obtain ⟨b, off, rfl, hV⟩ := HV.out (by omega)
      have hj0 : (0 : Int) ≤ (j : Int) := by omega
      have hj1 : (j : Int) < (n : Int) := by omega
      have cv := hV j hlt
      clear hV
      by_cases he : V j = x
      · have HY := Lib.hid (hasB_yes j hlt he)
        have q1 : (V j == x) = true := by simpa using he
        clear he
        go_wp2_with fail
        go_ret
        exact ⟨by rw [HY.out]; rfl, rfl⟩
      · have q1 : (V j == x) = false := by simpa using he
        have HE := Lib.hid he
        clear he
        go_wp2_with fail
        go_roundw
        case rel => exact ⟨j + 1, by omega, by go_num, trivial, fun t ht => by
          by_cases htj : t < j
          · exact HALL.out t htj
          · obtain rfl : t = j := by omega
            exact HE.out⟩
        case measure => simp [intOf]; omega
    · obtain rfl : j = n := by omega
      have HN := Lib.hid (hasB_no HALL.out)
      go_wp2_with fail
      go_ret
      exact ⟨by rw [HN.out]; rfl, rfl⟩
set_option maxRecDepth 100000 in
set_option maxHeartbeats 800000 in
theorem index1_any (p : Option Addr) (n c : Nat) (V : Nat → Int) (x : Int) (w : World) (hV : LitsIn w p n V) (hn : n ≤ 9223372036854775807) :
    Calls Try.prog 69 #[.slice p n c, .int .i64 x] w fun e w' => ∃ r : Int, e = .returned (.int .i64 r) ∧ decide (0 ≤ r) = hasB n V x ∧ w' = w := by
  have HV := Lib.hid hV
  clear hV
  go_enter Try.func69, Try.ntmps69
  go_wp2_with fail
  go_loopw [8] (fun i wr => ∃ j : Nat, j ≤ n ∧ i = .int .i64 j ∧ w = wr ∧ ∀ t, t < j → V t ≠ x) (fun i _ => n - (intOf i).toNat)
  case atStart => exact ⟨0, by omega, rfl, rfl, fun t ht => by omega⟩
  case round =>
    obtain ⟨j, hj, rfl, rfl, hall⟩ := hrel
    have HALL := Lib.hid hall
    clear hall
    by_cases hlt : j < n
    · obtain ⟨b, off, rfl, hV⟩ := HV.out (by omega)
      have hj0 : (0 : Int) ≤ (j : Int) := by omega
      have hj1 : (j : Int) < (n : Int) := by omega
      have cv := hV j hlt
      clear hV
      by_cases he : V j = x
      · have HY := Lib.hid (hasB_yes j hlt he)
        have q1 : (x == V j) = true := by simpa using he.symm
        clear he
        go_wp2_with fail
        go_ret
        exact ⟨_, rfl, by rw [HY.out, decide_eq_true_eq]; omega, rfl⟩
      · have q1 : (x == V j) = false := by simpa using (fun h : x = V j => he h.symm)
        have HE := Lib.hid he
        clear he
        go_wp2_with fail
        go_roundw
        case rel => exact ⟨j + 1, by omega, by go_num, trivial, fun t ht => by
          by_cases htj : t < j
          · exact HALL.out t htj
          · obtain rfl : t = j := by omega
            exact HE.out⟩
        case measure => simp [intOf]; omega
    · obtain rfl : j = n := by omega
      have HN := Lib.hid (hasB_no HALL.out)
      go_wp2_with fail
      go_ret
      exact ⟨_, rfl, by rw [HN.out]; decide, rfl⟩
set_option maxRecDepth 100000 in
set_option maxHeartbeats 800000 in
theorem contains1_any (p : Option Addr) (n c : Nat) (V : Nat → Int) (x : Int) (w : World) (hV : LitsIn w p n V) (hn : n ≤ 9223372036854775807) :
    Calls Try.prog 56 #[.slice p n c, .int .i64 x] w fun e w' => e = .returned (.bool (hasB n V x)) ∧ w' = w := by
  have H := index1_any p n c V x w hV hn
  clear hV
  generalize hasB n V x = m at *
  go_enter Try.func56, Try.ntmps56
  go_wp2_with fail
  refine H.mono ?_
  rintro e w1 ⟨r, rfl, h, rfl⟩
  clear H
  go_wp2_with fail
  refine bodyPost_ret (v := .bool m) (by simp [results, Try.results56, go_sem, h]) rfl ⟨rfl, rfl⟩
set_option maxRecDepth 100000 in
set_option maxHeartbeats 800000 in
theorem refMay_any (p : Option Addr) (n c : Nat) (V : Nat → Int) (w : World) (hV : LitsIn w p n V) (hn : n ≤ 9223372036854775807) :
    Calls Try.prog 22 #[.slice p n c] w fun e w' => ((e = .returned (.bool true) ∧ MayP n V) ∨ (e = .returned (.bool false) ∧ ¬ MayP n V)) ∧ w' = w := by
  have HV := Lib.hid hV
  clear hV
  go_enter Try.func22, Try.ntmps22
  go_wp2_with fail
  go_loopw [3] (fun i wr => ∃ j : Nat, j ≤ n ∧ i = .int .i64 j ∧ w = wr ∧ ∀ t, t < j → isLitB (V t) = true) (fun i _ => n - (intOf i).toNat)
  case atStart => exact ⟨0, by omega, rfl, rfl, fun t ht => by omega⟩
  case round =>
    obtain ⟨j, hj, rfl, rfl, hall⟩ := hrel
    have HALL := Lib.hid hall
    clear hall
    by_cases hlt : j < n
    · obtain ⟨b, off, rfl, hV⟩ := HV.out (by omega)
      have hj0 : (0 : Int) ≤ (j : Int) := by omega
      have hj1 : (j : Int) < (n : Int) := by omega
      have cv := hV j hlt
      clear hV
      have key : (V j = 0 ∨ (V j ≠ 0 ∧ 1048576 < V j) ∨ (V j ≠ 0 ∧ V j ≤ 1048576 ∧ V j < -1048576)) ∨ (V j ≠ 0 ∧ V j ≤ 1048576 ∧ -1048576 ≤ V j) := by omega
      rcases key with key | ⟨h, h', h''⟩
      · have hf : ¬ MayP n V := fun hm => by
          have := hm.2 j hlt
          unfold isLitB at this
          simp only [Bool.and_eq_true, bne_iff_ne, decide_eq_true_eq] at this
          omega
        have HF := Lib.hid hf
        clear hf
        generalize V j = x at *
        rcases key with rfl | ⟨h, h'⟩ | ⟨h, h', h''⟩
        · go_wp2_with fail
          go_ret
          exact ⟨.inr ⟨rfl, HF.out⟩, rfl⟩
        · have q1 : (x == 0) = false := by rw [beq_eq_false_iff_ne]; exact h
          have HH := Lib.hid h
          clear h
          go_wp2_with fail
          go_ret
          exact ⟨.inr ⟨rfl, HF.out⟩, rfl⟩
        · have q1 : (x == 0) = false := by rw [beq_eq_false_iff_ne]; exact h
          have HH := Lib.hid h
          clear h
          go_wp2_with fail
          go_ret
          exact ⟨.inr ⟨rfl, HF.out⟩, rfl⟩
      · have hl : isLitB (V j) = true := by unfold isLitB; simp only [Bool.and_eq_true, bne_iff_ne, decide_eq_true_eq]; omega
        have HL := Lib.hid hl
        have q1 : (V j == 0) = false := by rw [beq_eq_false_iff_ne]; exact h
        clear h hl
        go_wp2_with fail
        go_roundw
        case rel => exact ⟨j + 1, by omega, by go_num, trivial, fun t ht => by
          by_cases htj : t < j
          · exact HALL.out t htj
          · obtain rfl : t = j := by omega
            exact HL.out⟩
        case measure => simp [intOf]; omega
    · obtain rfl : j = n := by omega
      by_cases h5 : j ≤ 5000
      · have h6 : decide ((j : Int) ≤ 5000) = true := by rw [decide_eq_true_eq]; omega
        go_wp2_with fail
        refine bodyPost_ret (v := .bool true) (by simp [results, Try.results22, go_sem, h6]) rfl ⟨.inl ⟨rfl, h5, HALL.out⟩, rfl⟩
      · have h6 : decide ((j : Int) ≤ 5000) = false := by rw [decide_eq_false_iff_not]; omega
        go_wp2_with fail
        refine bodyPost_ret (v := .bool false) (by simp [results, Try.results22, go_sem, h6]) rfl ⟨.inr ⟨rfl, fun hm => h5 hm.1⟩, rfl⟩
set_option maxRecDepth 100000 in
set_option maxHeartbeats 800000 in
/-- is each of one list in another one? -/
theorem refWithin_any (p : Option Addr) (n c : Nat) (V : Nat → Int) (q : Option Addr) (m d : Nat) (U : Nat → Int) (w : World) (hV : LitsIn w p n V) (hn : n ≤ 9223372036854775807) (hU : LitsIn w q m U) (hm : m ≤ 9223372036854775807) :
    Calls Try.prog 28 #[.slice p n c, .slice q m d] w fun e w' => e = .returned (.bool ((List.range n).all fun i => hasB m U (V i))) ∧ w' = w := by
  have H1 := fun i => refHas_any q m d U (V i) w hU hm
  have HV := Lib.hid hV
  have HH := Lib.hid H1
  clear hV hU H1
  go_enter Try.func28, Try.ntmps28
  go_wp2_with fail
  go_loopw [5] (fun i wr => ∃ j : Nat, j ≤ n ∧ i = .int .i64 j ∧ w = wr ∧ ∀ t, t < j → hasB m U (V t) = true) (fun i _ => n - (intOf i).toNat)
  case atStart => exact ⟨0, by omega, rfl, rfl, fun t ht => by omega⟩
  case round =>
    obtain ⟨j, hj, rfl, rfl, hall⟩ := hrel
    have HALL := Lib.hid hall
    clear hall
    by_cases hlt : j < n
    · obtain ⟨b, off, rfl, hV⟩ := HV.out (by omega)
      have hj0 : (0 : Int) ≤ (j : Int) := by omega
      have hj1 : (j : Int) < (n : Int) := by omega
      have cv := hV j hlt
      clear hV
      have H1 := HH.out j
      cases hb : hasB m U (V j) with
      | false =>
        rw [hb] at H1
        have HF := Lib.hid (show ((List.range n).all fun i => hasB m U (V i)) = false by
          rw [Bool.eq_false_iff]
          intro h
          rw [List.all_eq_true] at h
          have := h j (List.mem_range.2 hlt)
          rw [hb] at this
          cases this)
        clear hb
        go_wp2_with fail
        refine H1.mono ?_
        rintro e w1 ⟨rfl, rfl⟩
        go_wp2_with fail
        go_ret
        exact ⟨by rw [HF.out]; rfl, rfl⟩
      | true =>
        rw [hb] at H1
        have HB := Lib.hid hb
        clear hb
        go_wp2_with fail
        refine H1.mono ?_
        rintro e w1 ⟨rfl, rfl⟩
        go_wp2_with fail
        go_roundw
        case rel => exact ⟨j + 1, by omega, by go_num, trivial, fun t ht => by
          by_cases htj : t < j
          · exact HALL.out t htj
          · obtain rfl : t = j := by omega
            exact HB.out⟩
        case measure => simp [intOf]; omega
    · obtain rfl : j = n := by omega
      have HF := Lib.hid (show ((List.range j).all fun i => hasB m U (V i)) = true by
        rw [List.all_eq_true]
        intro i hi
        exact HALL.out i (List.mem_range.1 hi))
      go_wp2_with fail
      go_ret
      exact ⟨by rw [HF.out]; rfl, rfl⟩
end Go.Proofs.Ytiadnifbjdnflaa
