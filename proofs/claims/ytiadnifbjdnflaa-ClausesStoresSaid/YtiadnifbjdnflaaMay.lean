/- clauses.May of any list of literals, and the order of literals. -/
import Derived.Test.YtiadnifbjdnflaaKn4
namespace Go.Proofs.Ytiadnifbjdnflaa
open Go Go.RowKit

/-- whether a number is a literal. -/
def isLitB (x : Int) : Bool := x != 0 && decide (-1048576 ≤ x) && decide (x ≤ 1048576)
set_option maxRecDepth 100000 in
set_option maxHeartbeats 800000 in
theorem isLit_any (x : Int) (w : World) : Calls Try.prog 51 #[.int .i64 x] w fun e w' => e = .returned (.bool (isLitB x)) ∧ w' = w := by
  have key : x = 0 ∨ (x ≠ 0 ∧ x < -1048576) ∨ (x ≠ 0 ∧ -1048576 ≤ x ∧ 1048576 < x) ∨ (x ≠ 0 ∧ -1048576 ≤ x ∧ x ≤ 1048576) := by omega
  rcases key with rfl | ⟨h, h2⟩ | ⟨h, h2, h3⟩ | ⟨h, h2, h3⟩
  · go_enter Try.func51, Try.ntmps51
    go_wp2
    go_ret
    exact ⟨rfl, rfl⟩
  · have q1 : (x == 0) = false := by rw [beq_eq_false_iff_ne]; exact h
    have q2 : (x != 0) = true := by simp [h]
    have q3 : decide (-1048576 ≤ x) = false := by rw [decide_eq_false_iff_not]; omega
    have hv : isLitB x = false := by unfold isLitB; rw [q2, q3]; rfl
    have HV := Lib.hid hv
    clear hv
    go_enter Try.func51, Try.ntmps51
    go_wp2
    go_ret
    exact ⟨by rw [HV.out]; rfl, rfl⟩
  · have q1 : (x == 0) = false := by rw [beq_eq_false_iff_ne]; exact h
    have q2 : (x != 0) = true := by simp [h]
    have q3 : decide (-1048576 ≤ x) = true := by rw [decide_eq_true_eq]; omega
    have q4 : decide (x ≤ 1048576) = false := by rw [decide_eq_false_iff_not]; omega
    have hv : isLitB x = false := by unfold isLitB; rw [q2, q3, q4]; rfl
    have HV := Lib.hid hv
    clear hv
    go_enter Try.func51, Try.ntmps51
    go_wp2
    go_ret
    exact ⟨by rw [HV.out]; rfl, rfl⟩
  · have q1 : (x == 0) = false := by rw [beq_eq_false_iff_ne]; exact h
    have q2 : (x != 0) = true := by simp [h]
    have q3 : decide (-1048576 ≤ x) = true := by rw [decide_eq_true_eq]; omega
    have q4 : decide (x ≤ 1048576) = true := by rw [decide_eq_true_eq]; omega
    have hv : isLitB x = true := by unfold isLitB; rw [q2, q3, q4]; rfl
    have HV := Lib.hid hv
    clear hv
    go_enter Try.func51, Try.ntmps51
    go_wp2
    go_ret
    exact ⟨by rw [HV.out]; rfl, rfl⟩
set_option maxRecDepth 100000 in
set_option maxHeartbeats 800000 in
theorem noLit_any (x : Int) (w : World) : Calls Try.prog 50 #[.int .i64 x] w fun e w' => e = .returned (.bool (!isLitB x)) ∧ w' = w := by
  have H := isLit_any x w
  generalize isLitB x = m at *
  go_enter Try.func50, Try.ntmps50
  go_wp2_with fail
  refine H.mono ?_
  rintro e w1 ⟨rfl, rfl⟩
  go_wp2_with fail
  go_ret
  exact ⟨rfl, rfl⟩
/-- an argument that is a slice of numbers, in a world. -/
def LitsIn (W : World) (p : Option Addr) (n : Nat) (V : Nat → Int) : Prop := 0 < n → ∃ b off, p = some ⟨b, off, none⟩ ∧ IntsAt W b off n V
theorem LitsIn.later {W W' : World} {p : Option Addr} {n : Nat} {V : Nat → Int} (h : LitsIn W p n V) (hb : Below W.heap.size W W') : LitsIn W' p n V := fun hn => by
  obtain ⟨b, off, e, ha⟩ := h hn
  exact ⟨b, off, e, ha.later hb⟩
set_option maxRecDepth 100000 in
set_option maxHeartbeats 800000 in
theorem index_any (p : Option Addr) (n c : Nat) (V : Nat → Int) (w : World) (hV : LitsIn w p n V) (hn : n ≤ 9223372036854775807) :
    Calls Try.prog 68 #[.slice p n c, .func (.func 50) #[] #[]] w fun e w' => ∃ r : Int, e = .returned (.int .i64 r) ∧ (((∀ i, i < n → isLitB (V i) = true) ∧ decide (0 ≤ r) = false) ∨ ((∃ i, i < n ∧ isLitB (V i) = false) ∧ decide (0 ≤ r) = true)) ∧ w' = w := by
  have HV := Lib.hid hV
  clear hV
  go_enter Try.func68, Try.ntmps68
  go_wp2_with fail
  go_loopw [8] (fun i wr => ∃ j : Nat, j ≤ n ∧ i = .int .i64 j ∧ w = wr ∧ ∀ t, t < j → isLitB (V t) = true) (fun i _ => n - (intOf i).toNat)
  case atStart => exact ⟨0, by omega, rfl, rfl, fun t ht => by omega⟩
  case round =>
    obtain ⟨j, hj, rfl, rfl, hall⟩ := hrel
    have HALL := Lib.hid hall
    clear hall
    by_cases hlt : j < n
    · obtain ⟨b, off, rfl, hV⟩ := HV.out (by omega)
      have hj0 : (0 : Int) ≤ (j : Int) := by omega
      have hj1 : (j : Int) < (n : Int) := by omega
      have cv := hV j hlt
      clear hV
      have H1 := noLit_any (V j) w
      cases hb : isLitB (V j) with
      | true =>
        rw [hb] at H1
        have HB := Lib.hid hb
        clear hb
        go_wp2_with fail
        refine H1.mono ?_
        rintro e w1 ⟨rfl, rfl⟩
        go_wp2_with fail
        go_roundw
        case rel => exact ⟨j + 1, by omega, by go_num, trivial, fun t ht => by
          by_cases htj : t < j
          · exact HALL.out t htj
          · obtain rfl : t = j := by omega
            exact HB.out⟩
        case measure => simp [intOf]; omega
      | false =>
        rw [hb] at H1
        have HB := Lib.hid hb
        clear hb
        go_wp2_with fail
        refine H1.mono ?_
        rintro e w1 ⟨rfl, rfl⟩
        go_wp2_with fail
        go_ret
        exact ⟨_, rfl, .inr ⟨⟨j, hlt, HB.out⟩, by rw [decide_eq_true_eq]; omega⟩, rfl⟩
    · obtain rfl : j = n := by omega
      go_wp2_with fail
      go_ret
      exact ⟨_, rfl, .inl ⟨HALL.out, by decide⟩, rfl⟩
set_option maxRecDepth 100000 in
set_option maxHeartbeats 800000 in
theorem contains_any (p : Option Addr) (n c : Nat) (V : Nat → Int) (w : World) (hV : LitsIn w p n V) (hn : n ≤ 9223372036854775807) :
    Calls Try.prog 49 #[.slice p n c, .func (.func 50) #[] #[]] w fun e w' => ((e = .returned (.bool false) ∧ ∀ i, i < n → isLitB (V i) = true) ∨ (e = .returned (.bool true) ∧ ¬ ∀ i, i < n → isLitB (V i) = true)) ∧ w' = w := by
  have H := index_any p n c V w hV hn
  clear hV
  go_enter Try.func49, Try.ntmps49
  go_wp2_with fail
  refine H.mono ?_
  rintro e w1 ⟨r, rfl, h, rfl⟩
  clear H
  rcases h with ⟨h, hr⟩ | ⟨⟨i, hi, h⟩, hr⟩
  · have HH := Lib.hid h
    clear h
    go_wp2_with fail
    refine bodyPost_ret (v := .bool false) (by simp [results, Try.results49, go_sem]) rfl ⟨.inl ⟨rfl, HH.out⟩, rfl⟩
  · have HH := Lib.hid h
    clear h
    go_wp2_with fail
    refine bodyPost_ret (v := .bool true) (by simp [results, Try.results49, go_sem]) rfl ⟨.inr ⟨rfl, fun hf => by have := hf i hi; rw [HH.out] at this; cases this⟩, rfl⟩
/-- whether a clause may be. -/
def MayP (n : Nat) (V : Nat → Int) : Prop := n ≤ 5000 ∧ ∀ i, i < n → isLitB (V i) = true
set_option maxRecDepth 100000 in
set_option maxHeartbeats 800000 in
theorem may_any (p : Option Addr) (n c : Nat) (V : Nat → Int) (w : World) (hV : LitsIn w p n V) (hn : n ≤ 9223372036854775807) :
    Calls Try.prog 21 #[.slice p n c] w fun e w' => ((e = .returned (.bool true) ∧ MayP n V) ∨ (e = .returned (.bool false) ∧ ¬ MayP n V)) ∧ w' = w := by
  by_cases hs : n ≤ 5000
  · have H := contains_any p n c V w hV hn
    clear hV
    go_enter Try.func21, Try.ntmps21
    go_wp2_with fail
    refine H.mono ?_
    rintro e w1 ⟨⟨rfl, h⟩ | ⟨rfl, h⟩, rfl⟩
    · clear H
      have HH := Lib.hid h
      clear h
      go_wp2_with fail
      refine bodyPost_ret (v := .bool true) (by simp [results, Try.results21, go_sem]) rfl ⟨.inl ⟨rfl, hs, HH.out⟩, rfl⟩
    · clear H
      have HH := Lib.hid h
      clear h
      go_wp2_with fail
      refine bodyPost_ret (v := .bool false) (by simp [results, Try.results21, go_sem]) rfl ⟨.inr ⟨rfl, fun hf => HH.out hf.2⟩, rfl⟩
  · clear hV
    have hs2 : ¬ MayP n V := fun hf => hs hf.1
    have HS := Lib.hid hs2
    clear hs2
    go_enter Try.func21, Try.ntmps21
    go_wp2_with fail
    refine bodyPost_ret (v := .bool false) (by simp [results, Try.results21, go_sem]) rfl ⟨.inr ⟨rfl, HS.out⟩, rfl⟩
end Go.Proofs.Ytiadnifbjdnflaa
