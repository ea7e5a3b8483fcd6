/- clauses.SaysNothing, Within, Same. -/
import Derived.Test.YtiadnifbjdnflaaSetA
namespace Go.Proofs.Ytiadnifbjdnflaa
open Go Go.RowKit Go.Maps

def anyB (n : Nat) (f : Nat → Bool) : Bool := (List.range n).any f
theorem anyB_yes {n : Nat} {f : Nat → Bool} (i : Nat) (hi : i < n) (h : f i = true) : anyB n f = true := List.any_eq_true.2 ⟨i, List.mem_range.2 hi, h⟩
theorem anyB_no {n : Nat} {f : Nat → Bool} (h : ∀ i, i < n → f i = false) : anyB n f = false := by
  unfold anyB
  rw [List.any_eq_false]
  intro i hi
  rw [h i (List.mem_range.1 hi)]
  simp
theorem anyB_iff (n : Nat) (f : Nat → Bool) : anyB n f = true ↔ ∃ i, i < n ∧ f i = true := by
  unfold anyB
  rw [List.any_eq_true]
  constructor
  · rintro ⟨i, hi, h⟩
    exact ⟨i, List.mem_range.1 hi, h⟩
  · rintro ⟨i, hi, h⟩
    exact ⟨i, List.mem_range.2 hi, h⟩
/-- a captured set. -/
def SetIn (W : World) (C B n : Nat) (V : Nat → Int) : Prop := W.cell? ⟨C, 0, none⟩ = some (.map (some B)) ∧ W.ownsMap Try.prog 30 (unitElem (H := Unit)) B n (setL n V)
theorem SetIn.later {W W' : World} {C B n : Nat} {V : Nat → Int} (h : SetIn W C B n V) (hb : Below W.heap.size W W') : SetIn W' C B n V := ⟨cell_later hb h.1, map_later h.2 hb⟩
def pred54 (m : Nat) (U : Nat → Int) (x : Int) : Bool := hasB m U (negI x) && x != negI x
set_option maxRecDepth 100000 in
set_option maxHeartbeats 800000 in
theorem index54_any (p : Option Addr) (n c : Nat) (V : Nat → Int) (C B m : Nat) (U : Nat → Int) (w : World) (hV : LitsIn w p n V) (hn : n ≤ 9223372036854775807) (hI : ∀ i, i < n → I64 (V i)) (hS : SetIn w C B m U) :
    Calls Try.prog 68 #[.slice p n c, .func (.func 54) #[] #[.pointer (some ⟨C, 0, none⟩)]] w fun e w' => ∃ r : Int, e = .returned (.int .i64 r) ∧ decide (0 ≤ r) = anyB n (fun i => pred54 m U (V i)) ∧ Below w.heap.size w w' := by
  have HV := Lib.hid hV
  have HI := Lib.hid hI
  have HS := Lib.hid hS
  clear hV hI hS
  go_enter Try.func68, Try.ntmps68
  go_wp2_with fail
  go_loopw [8] (fun i wr => ∃ j : Nat, j ≤ n ∧ i = .int .i64 j ∧ Below w.heap.size w wr ∧ ∀ t, t < j → pred54 m U (V t) = false) (fun i _ => n - (intOf i).toNat)
  case atStart => exact ⟨0, by omega, rfl, Below.refl _ _, fun t ht => by omega⟩
  case round =>
    obtain ⟨j, hj, rfl, hb, hall⟩ := hrel
    have HALL := Lib.hid hall
    have HB := Lib.hid hb
    clear hall hb
    by_cases hlt : j < n
    · obtain ⟨b, off, rfl, hV⟩ := HV.out (by omega)
      have hj0 : (0 : Int) ≤ (j : Int) := by omega
      have hj1 : (j : Int) < (n : Int) := by omega
      have cv := (hV.later HB.out) j hlt
      clear hV
      have hs := HS.out.later HB.out
      have H1 := says1_any (V j) C B m U wr (HI.out j hlt) hs.1 hs.2
      clear hs
      change Calls Try.prog 54 _ wr (fun e w' => e = .returned (.bool (pred54 m U (V j))) ∧ _) at H1
      cases hb : pred54 m U (V j) with
      | false =>
        rw [hb] at H1
        have HH := Lib.hid hb
        clear hb
        go_wp2_with fail
        refine H1.mono ?_
        rintro e w1 ⟨rfl, hb1⟩
        have hb2 := chain HB.out hb1
        clear hb1 H1
        go_wp2_with fail
        go_roundw
        case rel => exact ⟨j + 1, by omega, by go_num, hb2, fun t ht => by
          by_cases htj : t < j
          · exact HALL.out t htj
          · obtain rfl : t = j := by omega
            exact HH.out⟩
        case measure => simp [intOf]; omega
      | true =>
        rw [hb] at H1
        have HH := Lib.hid (anyB_yes (f := fun i => pred54 m U (V i)) j hlt hb)
        clear hb
        go_wp2_with fail
        refine H1.mono ?_
        rintro e w1 ⟨rfl, hb1⟩
        have hb2 := chain HB.out hb1
        clear hb1 H1
        go_wp2_with fail
        go_ret
        exact ⟨_, rfl, by rw [HH.out, decide_eq_true_eq]; omega, hb2⟩
    · obtain rfl : j = n := by omega
      have HH := Lib.hid (anyB_no (f := fun i => pred54 m U (V i)) HALL.out)
      have hb2 := HB.out
      go_wp2_with fail
      go_ret
      exact ⟨_, rfl, by rw [HH.out]; decide, hb2⟩
set_option maxRecDepth 100000 in
set_option maxHeartbeats 800000 in
theorem contains54_any (p : Option Addr) (n c : Nat) (V : Nat → Int) (C B m : Nat) (U : Nat → Int) (w : World) (hV : LitsIn w p n V) (hn : n ≤ 9223372036854775807) (hI : ∀ i, i < n → I64 (V i)) (hS : SetIn w C B m U) :
    Calls Try.prog 49 #[.slice p n c, .func (.func 54) #[] #[.pointer (some ⟨C, 0, none⟩)]] w fun e w' => e = .returned (.bool (anyB n (fun i => pred54 m U (V i)))) ∧ Below w.heap.size w w' := by
  have H := index54_any p n c V C B m U w hV hn hI hS
  clear hV hI hS
  generalize anyB n (fun i => pred54 m U (V i)) = g at *
  go_enter Try.func49, Try.ntmps49
  go_wp2_with fail
  refine H.mono ?_
  rintro e w1 ⟨r, rfl, h, hb⟩
  clear H
  go_wp2_with fail
  refine bodyPost_ret (v := .bool g) (by simp [results, Try.results49, go_sem, h]) rfl ⟨rfl, hb⟩
def pred55 (m : Nat) (U : Nat → Int) (x : Int) : Bool := !hasB m U x
set_option maxRecDepth 100000 in
set_option maxHeartbeats 800000 in
theorem index55_any (p : Option Addr) (n c : Nat) (V : Nat → Int) (C B m : Nat) (U : Nat → Int) (w : World) (hV : LitsIn w p n V) (hn : n ≤ 9223372036854775807) (hI : ∀ i, i < n → I64 (V i)) (hS : SetIn w C B m U) :
    Calls Try.prog 68 #[.slice p n c, .func (.func 55) #[] #[.pointer (some ⟨C, 0, none⟩)]] w fun e w' => ∃ r : Int, e = .returned (.int .i64 r) ∧ decide (0 ≤ r) = anyB n (fun i => pred55 m U (V i)) ∧ Below w.heap.size w w' := by
  have HV := Lib.hid hV
  have HI := Lib.hid hI
  have HS := Lib.hid hS
  clear hV hI hS
  go_enter Try.func68, Try.ntmps68
  go_wp2_with fail
  go_loopw [8] (fun i wr => ∃ j : Nat, j ≤ n ∧ i = .int .i64 j ∧ Below w.heap.size w wr ∧ ∀ t, t < j → pred55 m U (V t) = false) (fun i _ => n - (intOf i).toNat)
  case atStart => exact ⟨0, by omega, rfl, Below.refl _ _, fun t ht => by omega⟩
  case round =>
    obtain ⟨j, hj, rfl, hb, hall⟩ := hrel
    have HALL := Lib.hid hall
    have HB := Lib.hid hb
    clear hall hb
    by_cases hlt : j < n
    · obtain ⟨b, off, rfl, hV⟩ := HV.out (by omega)
      have hj0 : (0 : Int) ≤ (j : Int) := by omega
      have hj1 : (j : Int) < (n : Int) := by omega
      have cv := (hV.later HB.out) j hlt
      clear hV
      have hs := HS.out.later HB.out
      have H1 := within1_any (V j) C B m U wr (HI.out j hlt) hs.1 hs.2
      clear hs
      change Calls Try.prog 55 _ wr (fun e w' => e = .returned (.bool (pred55 m U (V j))) ∧ _) at H1
      cases hb : pred55 m U (V j) with
      | false =>
        rw [hb] at H1
        have HH := Lib.hid hb
        clear hb
        go_wp2_with fail
        refine H1.mono ?_
        rintro e w1 ⟨rfl, hb1⟩
        have hb2 := chain HB.out hb1
        clear hb1 H1
        go_wp2_with fail
        go_roundw
        case rel => exact ⟨j + 1, by omega, by go_num, hb2, fun t ht => by
          by_cases htj : t < j
          · exact HALL.out t htj
          · obtain rfl : t = j := by omega
            exact HH.out⟩
        case measure => simp [intOf]; omega
      | true =>
        rw [hb] at H1
        have HH := Lib.hid (anyB_yes (f := fun i => pred55 m U (V i)) j hlt hb)
        clear hb
        go_wp2_with fail
        refine H1.mono ?_
        rintro e w1 ⟨rfl, hb1⟩
        have hb2 := chain HB.out hb1
        clear hb1 H1
        go_wp2_with fail
        go_ret
        exact ⟨_, rfl, by rw [HH.out, decide_eq_true_eq]; omega, hb2⟩
    · obtain rfl : j = n := by omega
      have HH := Lib.hid (anyB_no (f := fun i => pred55 m U (V i)) HALL.out)
      have hb2 := HB.out
      go_wp2_with fail
      go_ret
      exact ⟨_, rfl, by rw [HH.out]; decide, hb2⟩
set_option maxRecDepth 100000 in
set_option maxHeartbeats 800000 in
theorem contains55_any (p : Option Addr) (n c : Nat) (V : Nat → Int) (C B m : Nat) (U : Nat → Int) (w : World) (hV : LitsIn w p n V) (hn : n ≤ 9223372036854775807) (hI : ∀ i, i < n → I64 (V i)) (hS : SetIn w C B m U) :
    Calls Try.prog 49 #[.slice p n c, .func (.func 55) #[] #[.pointer (some ⟨C, 0, none⟩)]] w fun e w' => e = .returned (.bool (anyB n (fun i => pred55 m U (V i)))) ∧ Below w.heap.size w w' := by
  have H := index55_any p n c V C B m U w hV hn hI hS
  clear hV hI hS
  generalize anyB n (fun i => pred55 m U (V i)) = g at *
  go_enter Try.func49, Try.ntmps49
  go_wp2_with fail
  refine H.mono ?_
  rintro e w1 ⟨r, rfl, h, hb⟩
  clear H
  go_wp2_with fail
  refine bodyPost_ret (v := .bool g) (by simp [results, Try.results49, go_sem, h]) rfl ⟨rfl, hb⟩

/-- does a list say nothing? -/
def nothB (n : Nat) (V : Nat → Int) : Bool := anyB n fun i => pred54 n V (V i)
set_option maxRecDepth 100000 in
set_option maxHeartbeats 800000 in
theorem says_any (p : Option Addr) (n c : Nat) (V : Nat → Int) (w : World) (hV : LitsIn w p n V) (hn : n ≤ 9223372036854775807) (hI : ∀ i, i < n → I64 (V i)) :
    Calls Try.prog 25 #[.slice p n c] w fun e w' => e = .returned (.bool (nothB n V)) ∧ Below w.heap.size w w' := by
  have H1 := setOf_any p n c V w hV hn hI
  have HV := Lib.hid hV
  have HI := Lib.hid hI
  clear hV hI
  go_enter Try.func25, Try.ntmps25
  go_wp2_with fail
  refine H1.mono ?_
  rintro e w1 ⟨rfl, ho, hb⟩
  clear H1
  have HB := Lib.hid (chain hb (below1 w1 (.cells #[.map (some w.heap.size)] 78)))
  have HS := Lib.hid (show SetIn (w1.alloc (.cells #[.map (some w.heap.size)] 78)) w1.heap.size w.heap.size n V from ⟨by simp [go_sem], map_later ho (below1 _ _)⟩)
  clear ho hb
  go_wp2_with fail
  refine (contains54_any p n c V _ _ n V _ (HV.out.later HB.out) hn HI.out HS.out).mono ?_
  rintro e w2 ⟨rfl, hb2⟩
  have hb3 := chain HB.out hb2
  clear hb2 HB HS
  go_wp2_with fail
  go_ret
  exact ⟨rfl, hb3⟩
/-- is each of one list in another one? -/
def withB (n : Nat) (V : Nat → Int) (m : Nat) (U : Nat → Int) : Bool := !anyB n fun i => pred55 m U (V i)
set_option maxRecDepth 100000 in
set_option maxHeartbeats 800000 in
theorem within_any (p : Option Addr) (n c : Nat) (V : Nat → Int) (q : Option Addr) (m d : Nat) (U : Nat → Int) (w : World) (hV : LitsIn w p n V) (hn : n ≤ 9223372036854775807) (hI : ∀ i, i < n → I64 (V i)) (hU : LitsIn w q m U) (hm : m ≤ 9223372036854775807) (hJ : ∀ i, i < m → I64 (U i)) :
    Calls Try.prog 27 #[.slice p n c, .slice q m d] w fun e w' => e = .returned (.bool (withB n V m U)) ∧ Below w.heap.size w w' := by
  have H1 := setOf_any q m d U w hU hm hJ
  have HV := Lib.hid hV
  have HI := Lib.hid hI
  have HG := Lib.hid (show withB n V m U = !anyB n (fun i => pred55 m U (V i)) from rfl)
  clear hV hI hU hJ
  go_enter Try.func27, Try.ntmps27
  go_wp2_with fail
  refine H1.mono ?_
  rintro e w1 ⟨rfl, ho, hb⟩
  clear H1
  have HB := Lib.hid (chain hb (below1 w1 (.cells #[.map (some w.heap.size)] 78)))
  have HS := Lib.hid (show SetIn (w1.alloc (.cells #[.map (some w.heap.size)] 78)) w1.heap.size w.heap.size m U from ⟨by simp [go_sem], map_later ho (below1 _ _)⟩)
  clear ho hb
  have H2 := contains55_any p n c V _ _ m U _ (HV.out.later HB.out) hn HI.out HS.out
  generalize anyB n (fun i => pred55 m U (V i)) = g at *
  go_wp2_with fail
  refine H2.mono ?_
  rintro e w2 ⟨rfl, hb2⟩
  have hb3 := chain HB.out hb2
  clear hb2 HB HS H2
  go_wp2_with fail
  go_ret
  exact ⟨by rw [HG.out]; rfl, hb3⟩
theorem withB_iff (n : Nat) (V : Nat → Int) (m : Nat) (U : Nat → Int) : withB n V m U = true ↔ ∀ i, i < n → hasB m U (V i) = true := by
  unfold withB
  rw [Bool.not_eq_true', ← Bool.not_eq_true, anyB_iff]
  constructor
  · intro h i hi
    cases hh : hasB m U (V i) with
    | true => rfl
    | false => exact absurd ⟨i, hi, by unfold pred55; rw [hh]; rfl⟩ h
  · rintro h ⟨i, hi, hp⟩
    unfold pred55 at hp
    rw [h i hi] at hp
    cases hp
theorem withB_all (n : Nat) (V : Nat → Int) (m : Nat) (U : Nat → Int) : withB n V m U = (List.range n).all fun i => hasB m U (V i) := by
  rw [Bool.eq_iff_iff, withB_iff, List.all_eq_true]
  constructor
  · intro h i hi; exact h i (List.mem_range.1 hi)
  · intro h i hi; exact h i (List.mem_range.2 hi)
set_option maxRecDepth 100000 in
set_option maxHeartbeats 800000 in
theorem same_any (p : Option Addr) (n c : Nat) (V : Nat → Int) (q : Option Addr) (m d : Nat) (U : Nat → Int) (w : World) (hV : LitsIn w p n V) (hn : n ≤ 9223372036854775807) (hI : ∀ i, i < n → I64 (V i)) (hU : LitsIn w q m U) (hm : m ≤ 9223372036854775807) (hJ : ∀ i, i < m → I64 (U i)) :
    Calls Try.prog 29 #[.slice p n c, .slice q m d] w fun e w' => e = .returned (.bool (withB n V m U && withB m U n V)) ∧ Below w.heap.size w w' := by
  have H1 := within_any p n c V q m d U w hV hn hI hU hm hJ
  have H2 := Lib.hid (fun W hV hU => within_any q m d U p n c V W hU hm hJ hV hn hI)
  have HV := Lib.hid hV
  have HU := Lib.hid hU
  clear hV hI hU hJ
  generalize withB n V m U = g1 at *
  generalize withB m U n V = g2 at *
  cases g1
  · go_enter Try.func29, Try.ntmps29
    go_wp2_with fail
    refine H1.mono ?_
    rintro e w1 ⟨rfl, hb⟩
    clear H1
    go_wp2_with fail
    go_ret
    exact ⟨rfl, hb⟩
  · go_enter Try.func29, Try.ntmps29
    go_wp2_with fail
    refine H1.mono ?_
    rintro e w1 ⟨rfl, hb⟩
    clear H1
    have HB := Lib.hid hb
    clear hb
    have H3 := H2.out w1 (HV.out.later HB.out) (HU.out.later HB.out)
    go_wp2_with fail
    refine H3.mono ?_
    rintro e w2 ⟨rfl, hb2⟩
    have hb3 := chain HB.out hb2
    clear hb2 H3
    go_wp2_with fail
    go_ret
    exact ⟨by cases g2 <;> rfl, hb3⟩
end Go.Proofs.Ytiadnifbjdnflaa
