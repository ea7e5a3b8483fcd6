/- The reference on lists; sets. -/
import Derived.Test.YtgdncnalahdjeaaJQ1
import Derived.Maps.OwnSet
import Derived.Maps.Views
namespace Go.Proofs.Ytgdncnalahdjeaa
open Go Go.RowKit

/-- does a number stand in a list? -/
def hasB (n : Nat) (V : Nat → Int) (x : Int) : Bool := (List.range n).any fun i => V i == x
theorem hasB_iff (n : Nat) (V : Nat → Int) (x : Int) : hasB n V x = true ↔ ∃ i, i < n ∧ V i = x := by
  unfold hasB
  rw [List.any_eq_true]
  constructor
  · rintro ⟨i, hi, h⟩
    exact ⟨i, List.mem_range.1 hi, by simpa using h⟩
  · rintro ⟨i, hi, h⟩
    exact ⟨i, List.mem_range.2 hi, by simpa using h⟩
theorem hasB_yes {n : Nat} {V : Nat → Int} {x : Int} (i : Nat) (hi : i < n) (h : V i = x) : hasB n V x = true := (hasB_iff n V x).2 ⟨i, hi, h⟩
theorem hasB_no {n : Nat} {V : Nat → Int} {x : Int} (h : ∀ i, i < n → V i ≠ x) : hasB n V x = false := by
  cases hb : hasB n V x with
  | false => rfl
  | true => obtain ⟨i, hi, he⟩ := (hasB_iff n V x).1 hb; exact absurd he (h i hi)
set_option maxRecDepth 100000 in
set_option maxHeartbeats 800000 in
theorem atom_any (x : Int) (w : World) (h : -9223372036854775807 ≤ x) (h' : x ≤ 9223372036854775807) : Calls Try.prog 57 #[.int .i64 x] w fun e w' => e = .returned (.int .i64 (absI x)) ∧ w' = w := by
  rcases absI_cases x with ⟨h1, h2⟩ | ⟨h1, h2⟩
  all_goals
    rw [h2]
    clear h2
    go_enter Try.func57, Try.ntmps57
    go_wp2
    go_ret
    exact ⟨rfl, rfl⟩
set_option maxRecDepth 100000 in
set_option maxHeartbeats 800000 in
theorem refHas_any (p : Option Addr) (n c : Nat) (V : Nat → Int) (x : Int) (w : World) (hV : LitsIn w p n V) (hn : n ≤ 9223372036854775807) :
    Calls Try.prog 58 #[.slice p n c, .int .i64 x] w fun e w' => e = .returned (.bool (hasB n V x)) ∧ w' = w := by
  have HV := Lib.hid hV
  clear hV
  go_enter Try.func58, Try.ntmps58
  go_wp2_with fail
  go_loopw [5] (fun i wr => ∃ j : Nat, j ≤ n ∧ i = .int .i64 j ∧ w = wr ∧ ∀ t, t < j → V t ≠ x) (fun i _ => n - (intOf i).toNat)
  case atStart => exact ⟨0, by omega, rfl, rfl, fun t ht => by omega⟩
  case round =>
    obtain ⟨j, hj, rfl, rfl, hall⟩ := hrel
    have HALL := Lib.hid hall
    clear hall
    by_cases hlt : j < n
    · obtain ⟨b, off, rfl, hV⟩ := HV.out (by omega)
      have hj0 : (0 : Int) ≤ (j : Int) := by omega
      have hj1 : (j : Int) < (n : Int) := by omega
      have cv := hV j hlt
      clear hV
      by_cases he : V j = x
      · have HY := Lib.hid (hasB_yes j hlt he)
        have q1 : (V j == x) = true := by simpa using he
        clear he
        go_wp2_with fail
        go_ret
        exact ⟨by rw [HY.out]; rfl, rfl⟩
      · have q1 : (V j == x) = false := by simpa using he
        have HE := Lib.hid he
        clear he
        go_wp2_with fail
        go_roundw
        case rel => exact ⟨j + 1, by omega, by go_num, trivial, fun t ht => by
          by_cases htj : t < j
          · exact HALL.out t htj
          · obtain rfl : t = j := by omega
            exact HE.out⟩
        case measure => simp [intOf]; omega
    · obtain rfl : j = n := by omega
      have HN := Lib.hid (hasB_no HALL.out)
      go_wp2_with fail
      go_ret
      exact ⟨by rw [HN.out]; rfl, rfl⟩
set_option maxRecDepth 100000 in
set_option maxHeartbeats 800000 in
theorem refMay_any (p : Option Addr) (n c : Nat) (V : Nat → Int) (w : World) (hV : LitsIn w p n V) (hn : n ≤ 9223372036854775807) :
    Calls Try.prog 52 #[.slice p n c] w fun e w' => ((e = .returned (.bool true) ∧ MayP n V) ∨ (e = .returned (.bool false) ∧ ¬ MayP n V)) ∧ w' = w := by
  have HV := Lib.hid hV
  clear hV
  go_enter Try.func52, Try.ntmps52
  go_wp2_with fail
  go_loopw [3] (fun i wr => ∃ j : Nat, j ≤ n ∧ i = .int .i64 j ∧ w = wr ∧ ∀ t, t < j → isLitB (V t) = true) (fun i _ => n - (intOf i).toNat)
  case atStart => exact ⟨0, by omega, rfl, rfl, fun t ht => by omega⟩
  case round =>
    obtain ⟨j, hj, rfl, rfl, hall⟩ := hrel
    have HALL := Lib.hid hall
    clear hall
    by_cases hlt : j < n
    · obtain ⟨b, off, rfl, hV⟩ := HV.out (by omega)
      have hj0 : (0 : Int) ≤ (j : Int) := by omega
      have hj1 : (j : Int) < (n : Int) := by omega
      have cv := hV j hlt
      clear hV
      have key : (V j = 0 ∨ (V j ≠ 0 ∧ 1048576 < V j) ∨ (V j ≠ 0 ∧ V j ≤ 1048576 ∧ V j < -1048576)) ∨ (V j ≠ 0 ∧ V j ≤ 1048576 ∧ -1048576 ≤ V j) := by omega
      rcases key with key | ⟨h, h', h''⟩
      · have hf : ¬ MayP n V := fun hm => by
          have := hm.2 j hlt
          unfold isLitB at this
          simp only [Bool.and_eq_true, bne_iff_ne, decide_eq_true_eq] at this
          omega
        have HF := Lib.hid hf
        clear hf
        generalize V j = x at *
        rcases key with rfl | ⟨h, h'⟩ | ⟨h, h', h''⟩
        · go_wp2_with fail
          go_ret
          exact ⟨.inr ⟨rfl, HF.out⟩, rfl⟩
        · have q1 : (x == 0) = false := by rw [beq_eq_false_iff_ne]; exact h
          have HH := Lib.hid h
          clear h
          go_wp2_with fail
          go_ret
          exact ⟨.inr ⟨rfl, HF.out⟩, rfl⟩
        · have q1 : (x == 0) = false := by rw [beq_eq_false_iff_ne]; exact h
          have HH := Lib.hid h
          clear h
          go_wp2_with fail
          go_ret
          exact ⟨.inr ⟨rfl, HF.out⟩, rfl⟩
      · have hl : isLitB (V j) = true := by unfold isLitB; simp only [Bool.and_eq_true, bne_iff_ne, decide_eq_true_eq]; omega
        have HL := Lib.hid hl
        have q1 : (V j == 0) = false := by rw [beq_eq_false_iff_ne]; exact h
        clear h hl
        go_wp2_with fail
        go_roundw
        case rel => exact ⟨j + 1, by omega, by go_num, trivial, fun t ht => by
          by_cases htj : t < j
          · exact HALL.out t htj
          · obtain rfl : t = j := by omega
            exact HL.out⟩
        case measure => simp [intOf]; omega
    · obtain rfl : j = n := by omega
      by_cases h5 : j ≤ 5000
      · have h6 : decide ((j : Int) ≤ 5000) = true := by rw [decide_eq_true_eq]; omega
        go_wp2_with fail
        refine bodyPost_ret (v := .bool true) (by simp [results, Try.results52, go_sem]) rfl ⟨.inl ⟨rfl, h5, HALL.out⟩, rfl⟩
      · have h6 : decide ((j : Int) ≤ 5000) = false := by rw [decide_eq_false_iff_not]; omega
        go_wp2_with fail
        refine bodyPost_ret (v := .bool false) (by simp [results, Try.results52, go_sem]) rfl ⟨.inr ⟨rfl, fun hm => h5 hm.1⟩, rfl⟩
set_option maxRecDepth 100000 in
set_option maxHeartbeats 800000 in
/-- is each of one list in another one? -/
theorem refWithin_any (p : Option Addr) (n c : Nat) (V : Nat → Int) (q : Option Addr) (m d : Nat) (U : Nat → Int) (w : World) (hV : LitsIn w p n V) (hn : n ≤ 9223372036854775807) (hU : LitsIn w q m U) (hm : m ≤ 9223372036854775807) :
    Calls Try.prog 32 #[.slice p n c, .slice q m d] w fun e w' => e = .returned (.bool ((List.range n).all fun i => hasB m U (V i))) ∧ w' = w := by
  have H1 := fun i => refHas_any q m d U (V i) w hU hm
  have HV := Lib.hid hV
  have HH := Lib.hid H1
  clear hV hU H1
  go_enter Try.func32, Try.ntmps32
  go_wp2_with fail
  go_loopw [5] (fun i wr => ∃ j : Nat, j ≤ n ∧ i = .int .i64 j ∧ w = wr ∧ ∀ t, t < j → hasB m U (V t) = true) (fun i _ => n - (intOf i).toNat)
  case atStart => exact ⟨0, by omega, rfl, rfl, fun t ht => by omega⟩
  case round =>
    obtain ⟨j, hj, rfl, rfl, hall⟩ := hrel
    have HALL := Lib.hid hall
    clear hall
    by_cases hlt : j < n
    · obtain ⟨b, off, rfl, hV⟩ := HV.out (by omega)
      have hj0 : (0 : Int) ≤ (j : Int) := by omega
      have hj1 : (j : Int) < (n : Int) := by omega
      have cv := hV j hlt
      clear hV
      have H1 := HH.out j
      cases hb : hasB m U (V j) with
      | false =>
        rw [hb] at H1
        have HF := Lib.hid (show ((List.range n).all fun i => hasB m U (V i)) = false by
          rw [Bool.eq_false_iff]
          intro h
          rw [List.all_eq_true] at h
          have := h j (List.mem_range.2 hlt)
          rw [hb] at this
          cases this)
        clear hb
        go_wp2_with fail
        refine H1.mono ?_
        rintro e w1 ⟨rfl, rfl⟩
        go_wp2_with fail
        go_ret
        exact ⟨by rw [HF.out]; rfl, rfl⟩
      | true =>
        rw [hb] at H1
        have HB := Lib.hid hb
        clear hb
        go_wp2_with fail
        refine H1.mono ?_
        rintro e w1 ⟨rfl, rfl⟩
        go_wp2_with fail
        go_roundw
        case rel => exact ⟨j + 1, by omega, by go_num, trivial, fun t ht => by
          by_cases htj : t < j
          · exact HALL.out t htj
          · obtain rfl : t = j := by omega
            exact HB.out⟩
        case measure => simp [intOf]; omega
    · obtain rfl : j = n := by omega
      have HF := Lib.hid (show ((List.range j).all fun i => hasB m U (V i)) = true by
        rw [List.all_eq_true]
        intro i hi
        exact HALL.out i (List.mem_range.1 hi))
      go_wp2_with fail
      go_ret
      exact ⟨by rw [HF.out]; rfl, rfl⟩
end Go.Proofs.Ytgdncnalahdjeaa
namespace Go.Proofs.Ytgdncnalahdjeaa
open Go Go.RowKit Go.Maps

/-- the negative, in two's complement. -/
def negI (x : Int) : Int := if x = -9223372036854775808 then x else -x
def keysL (n : Nat) (V : Nat → Int) : List Lit := (List.range n).map fun i => .int .i64 (V i)
theorem keysL_succ (n : Nat) (V : Nat → Int) : keysL (n + 1) V = keysL n V ++ [.int .i64 (V n)] := by
  unfold keysL
  rw [List.range_succ, List.map_append]
  rfl
def setL (n : Nat) (V : Nat → Int) : DataW Unit := setOf (.agg []) (keysL n V)
theorem setL_succ (n : Nat) (V : Nat → Int) : setL (n + 1) V = (setL n V).put (.int .i64 (V n)) (.agg []) := by
  unfold setL
  rw [keysL_succ, setOf_snoc]
theorem setL_has (n : Nat) (V : Nat → Int) (x : Int) : Maps.has (setL n V) (.int .i64 x) = hasB n V x := by
  unfold setL
  rw [has_setOf]
  · unfold keysL hasB
    rw [List.any_map]
    congr 1
    funext i
    rw [Bool.eq_iff_iff]
    simp [Lit.sameKey]
  · intro y hy
    unfold keysL at hy
    obtain ⟨i, _, rfl⟩ := List.mem_map.1 hy
    trivial
theorem law30 : Keyed Try.prog 54 := int_keyed Try.underlying54
theorem makeMap_hint (n : Int) (w : World) : (Instr.makeMap 133 (some (.int .i64 n))).run Try.prog w = .ok (.map (some w.heap.size)) (w.alloc (.map #[] 0)) := by
  simp [Instr.makeMap, run_underlying Try.underlying133, asInt, asIntOf, Result.andThen]
theorem zero80 (w : World) : (zeroValue 135).run Try.prog w = .ok (.agg #[]) w := by kernel_rfl
theorem key30 {x : Int} (h : I64 x) : keyOf Try.prog 54 (.int .i64 x) = some (.int .i64 x) := keyOf_int_mk Try.underlying54 (WalkArith.wf_i64 h)
theorem map_later {w w' : World} {b n : Nat} {D : DataW Unit} (h : w.ownsMap Try.prog 54 (unitElem (H := Unit)) b n D) (hb : Below w.heap.size w w') : w'.ownsMap Try.prog 54 (unitElem (H := Unit)) b n D := by
  obtain ⟨es, cl, h1, h2⟩ := h
  refine ⟨es, cl, ?_, h2⟩
  rw [← h1]
  exact hb.block b (by
    rcases Nat.lt_or_ge b w.heap.size with h | h
    · exact h
    · rw [Array.getElem?_eq_none h] at h1; cases h1)
set_option maxRecDepth 100000 in
set_option maxHeartbeats 800000 in
theorem setOf_any (p : Option Addr) (n c : Nat) (V : Nat → Int) (w : World) (hV : LitsIn w p n V) (hn : n ≤ 9223372036854775807) (hI : ∀ i, i < n → I64 (V i)) :
    Calls Try.prog 102 #[.slice p n c] w fun e w' => e = .returned (.map (some w.heap.size)) ∧ w'.ownsMap Try.prog 54 (unitElem (H := Unit)) w.heap.size n (setL n V) ∧ Below w.heap.size w w' := by
  have HV := Lib.hid hV
  have HI := Lib.hid hI
  have hmm := makeMap_hint
  clear hV hI
  go_enter Try.func102, Try.ntmps102
  go_wp2_with fail
  go_loopw [11] (fun i wr => ∃ j : Nat, j ≤ n ∧ i = .int .i64 j ∧ wr.ownsMap Try.prog 54 (unitElem (H := Unit)) w.heap.size j (setL j V) ∧ Below w.heap.size w wr) (fun i _ => n - (intOf i).toNat)
  case atStart => exact ⟨0, by omega, rfl, World.ownsMap_made _ _ _ _, (Below.refl _ _).alloc (Nat.le_refl _) _⟩
  case round =>
    obtain ⟨j, hj, rfl, hown, hb⟩ := hrel
    have HB := Lib.hid hb
    clear hb
    by_cases hlt : j < n
    · obtain ⟨b, off, rfl, hV⟩ := HV.out (by omega)
      have hj0 : (0 : Int) ≤ (j : Int) := by omega
      have hj1 : (j : Int) < (n : Int) := by omega
      have cv := (hV.later HB.out) j hlt
      have hkey := Lib.hid (key30 (HI.out j hlt))
      clear hV
      go_wp2_with (at_mapUpdate; refine wpList_mapUpdate_own _ rfl _ _ _ 133 rfl 54 135 law30 Try.underlying133 (unitElem (H := Unit)) w.heap.size j _ rfl hown (by unfold maxLen; omega) _ _ _ rfl rfl hkey.out _ [] unitElem_mk ?_)
      intro w1 hown1 hgrow1
      rw [← setL_succ] at hown1
      have HB2 := Lib.hid ((HB.out).grown hgrow1 (HB.out).size (fun k hk => by cases hk; exact Nat.le_refl _))
      have HO := Lib.hid hown1
      clear hown1 hgrow1 hown
      go_wp2
      go_roundw
      case rel => exact ⟨j + 1, by omega, by go_num, HO.out, HB2.out⟩
      case measure => simp [intOf]; omega
    · obtain rfl : j = n := by omega
      have HO := Lib.hid hown
      clear hown
      go_wp2_with fail
      go_ret
      exact ⟨rfl, HO.out, HB.out⟩
set_option maxRecDepth 100000 in
set_option maxHeartbeats 800000 in
theorem says1_any (x : Int) (C B n : Nat) (V : Nat → Int) (w : World) (hx : I64 x) (hc : w.cell? ⟨C, 0, none⟩ = some (.map (some B))) (hown : w.ownsMap Try.prog 54 (unitElem (H := Unit)) B n (setL n V)) :
    Calls Try.prog 103 #[.int .i64 x, .pointer (some ⟨C, 0, none⟩)] w fun e w' => e = .returned (.bool (hasB n V (negI x) && x != negI x)) ∧ Below w.heap.size w w' := by
  have hh := setL_has n V (negI x)
  by_cases hm : x = -9223372036854775808
  · subst hm
    have hneg : negI (-9223372036854775808) = -9223372036854775808 := by unfold negI; rw [if_pos rfl]
    rw [hneg] at hh ⊢
    have hw2 : wrap64 9223372036854775808 = -9223372036854775808 := by rw [wrap64_eq]; omega
    have HK := Lib.hid (show keyOf Try.prog 54 (.int .i64 (wrap64 9223372036854775808)) = some (.int .i64 (-9223372036854775808)) by rw [hw2]; exact key30 hx)
    have q1 : ((-9223372036854775808 : Int) == wrap64 9223372036854775808) = true := by rw [hw2]; rfl
    have q2 : ((-9223372036854775808 : Int) != wrap64 9223372036854775808) = false := by rw [hw2]; rfl
    clear hx hneg hw2
    generalize hasB n V (-9223372036854775808) = m at *
    have HH := Lib.hid hh
    clear hh
    cases m
    all_goals
      go_enter Try.func103, Try.ntmps103
      go_wp2_with (at_lookup; refine wpList_lookup_own_unit _ rfl _ _ 133 rfl 54 135 law30 Try.underlying133 (zero80 _) B n _ rfl hown _ _ rfl HK.out ?_; rw [HH.out])
      go_ret
      exact ⟨rfl, below1 _ _⟩
  · have hneg : negI x = -x := by unfold negI; rw [if_neg hm]
    rw [hneg] at hh ⊢
    have h1 := hx.1
    have h2 := hx.2
    have h3 : -9223372036854775807 ≤ x := by omega
    have HK := Lib.hid (key30 (show I64 (-x) from ⟨by omega, by omega⟩))
    clear hx hneg hm
    generalize hasB n V (-x) = m at *
    have HH := Lib.hid hh
    clear hh
    cases m
    · go_enter Try.func103, Try.ntmps103
      go_wp2_with (at_lookup; refine wpList_lookup_own_unit _ rfl _ _ 133 rfl 54 135 law30 Try.underlying133 (zero80 _) B n _ rfl hown _ _ rfl HK.out ?_; rw [HH.out])
      go_ret
      exact ⟨rfl, below1 _ _⟩
    · by_cases h0 : x = 0
      · subst h0
        go_enter Try.func103, Try.ntmps103
        go_wp2_with (at_lookup; refine wpList_lookup_own_unit _ rfl _ _ 133 rfl 54 135 law30 Try.underlying133 (zero80 _) B n _ rfl hown _ _ rfl HK.out ?_; rw [HH.out])
        go_ret
        exact ⟨rfl, below1 _ _⟩
      · have q1 : (x == -x) = false := by rw [beq_eq_false_iff_ne]; omega
        have q2 : (x != -x) = true := by rw [bne_iff_ne]; omega
        clear h0
        go_enter Try.func103, Try.ntmps103
        go_wp2_with (at_lookup; refine wpList_lookup_own_unit _ rfl _ _ 133 rfl 54 135 law30 Try.underlying133 (zero80 _) B n _ rfl hown _ _ rfl HK.out ?_; rw [HH.out])
        go_ret
        exact ⟨by rw [q2]; rfl, below1 _ _⟩
end Go.Proofs.Ytgdncnalahdjeaa
namespace Go.Proofs.Ytgdncnalahdjeaa
open Go Go.RowKit Go.Maps

def anyB (n : Nat) (f : Nat → Bool) : Bool := (List.range n).any f
theorem anyB_yes {n : Nat} {f : Nat → Bool} (i : Nat) (hi : i < n) (h : f i = true) : anyB n f = true := List.any_eq_true.2 ⟨i, List.mem_range.2 hi, h⟩
theorem anyB_no {n : Nat} {f : Nat → Bool} (h : ∀ i, i < n → f i = false) : anyB n f = false := by
  unfold anyB
  rw [List.any_eq_false]
  intro i hi
  rw [h i (List.mem_range.1 hi)]
  simp
theorem anyB_iff (n : Nat) (f : Nat → Bool) : anyB n f = true ↔ ∃ i, i < n ∧ f i = true := by
  unfold anyB
  rw [List.any_eq_true]
  constructor
  · rintro ⟨i, hi, h⟩
    exact ⟨i, List.mem_range.1 hi, h⟩
  · rintro ⟨i, hi, h⟩
    exact ⟨i, List.mem_range.2 hi, h⟩
/-- a captured set. -/
def SetIn (W : World) (C B n : Nat) (V : Nat → Int) : Prop := W.cell? ⟨C, 0, none⟩ = some (.map (some B)) ∧ W.ownsMap Try.prog 54 (unitElem (H := Unit)) B n (setL n V)
theorem SetIn.later {W W' : World} {C B n : Nat} {V : Nat → Int} (h : SetIn W C B n V) (hb : Below W.heap.size W W') : SetIn W' C B n V := ⟨cell_later hb h.1, map_later h.2 hb⟩
def pred54 (m : Nat) (U : Nat → Int) (x : Int) : Bool := hasB m U (negI x) && x != negI x
set_option maxRecDepth 100000 in
set_option maxHeartbeats 800000 in
theorem index54_any (p : Option Addr) (n c : Nat) (V : Nat → Int) (C B m : Nat) (U : Nat → Int) (w : World) (hV : LitsIn w p n V) (hn : n ≤ 9223372036854775807) (hI : ∀ i, i < n → I64 (V i)) (hS : SetIn w C B m U) :
    Calls Try.prog 86 #[.slice p n c, .func (.func 103) #[] #[.pointer (some ⟨C, 0, none⟩)]] w fun e w' => ∃ r : Int, e = .returned (.int .i64 r) ∧ decide (0 ≤ r) = anyB n (fun i => pred54 m U (V i)) ∧ Below w.heap.size w w' := by
  have HV := Lib.hid hV
  have HI := Lib.hid hI
  have HS := Lib.hid hS
  clear hV hI hS
  go_enter Try.func86, Try.ntmps86
  go_wp2_with fail
  go_loopw [8] (fun i wr => ∃ j : Nat, j ≤ n ∧ i = .int .i64 j ∧ Below w.heap.size w wr ∧ ∀ t, t < j → pred54 m U (V t) = false) (fun i _ => n - (intOf i).toNat)
  case atStart => exact ⟨0, by omega, rfl, Below.refl _ _, fun t ht => by omega⟩
  case round =>
    obtain ⟨j, hj, rfl, hb, hall⟩ := hrel
    have HALL := Lib.hid hall
    have HB := Lib.hid hb
    clear hall hb
    by_cases hlt : j < n
    · obtain ⟨b, off, rfl, hV⟩ := HV.out (by omega)
      have hj0 : (0 : Int) ≤ (j : Int) := by omega
      have hj1 : (j : Int) < (n : Int) := by omega
      have cv := (hV.later HB.out) j hlt
      clear hV
      have hs := HS.out.later HB.out
      have H1 := says1_any (V j) C B m U wr (HI.out j hlt) hs.1 hs.2
      clear hs
      change Calls Try.prog 103 _ wr (fun e w' => e = .returned (.bool (pred54 m U (V j))) ∧ _) at H1
      cases hb : pred54 m U (V j) with
      | false =>
        rw [hb] at H1
        have HH := Lib.hid hb
        clear hb
        go_wp2_with fail
        refine H1.mono ?_
        rintro e w1 ⟨rfl, hb1⟩
        have hb2 := chain HB.out hb1
        clear hb1 H1
        go_wp2_with fail
        go_roundw
        case rel => exact ⟨j + 1, by omega, by go_num, hb2, fun t ht => by
          by_cases htj : t < j
          · exact HALL.out t htj
          · obtain rfl : t = j := by omega
            exact HH.out⟩
        case measure => simp [intOf]; omega
      | true =>
        rw [hb] at H1
        have HH := Lib.hid (anyB_yes (f := fun i => pred54 m U (V i)) j hlt hb)
        clear hb
        go_wp2_with fail
        refine H1.mono ?_
        rintro e w1 ⟨rfl, hb1⟩
        have hb2 := chain HB.out hb1
        clear hb1 H1
        go_wp2_with fail
        go_ret
        exact ⟨_, rfl, by rw [HH.out, decide_eq_true_eq]; omega, hb2⟩
    · obtain rfl : j = n := by omega
      have HH := Lib.hid (anyB_no (f := fun i => pred54 m U (V i)) HALL.out)
      have hb2 := HB.out
      go_wp2_with fail
      go_ret
      exact ⟨_, rfl, by rw [HH.out]; decide, hb2⟩
set_option maxRecDepth 100000 in
set_option maxHeartbeats 800000 in
theorem contains54_any (p : Option Addr) (n c : Nat) (V : Nat → Int) (C B m : Nat) (U : Nat → Int) (w : World) (hV : LitsIn w p n V) (hn : n ≤ 9223372036854775807) (hI : ∀ i, i < n → I64 (V i)) (hS : SetIn w C B m U) :
    Calls Try.prog 68 #[.slice p n c, .func (.func 103) #[] #[.pointer (some ⟨C, 0, none⟩)]] w fun e w' => e = .returned (.bool (anyB n (fun i => pred54 m U (V i)))) ∧ Below w.heap.size w w' := by
  have H := index54_any p n c V C B m U w hV hn hI hS
  clear hV hI hS
  generalize anyB n (fun i => pred54 m U (V i)) = g at *
  go_enter Try.func68, Try.ntmps68
  go_wp2_with fail
  refine H.mono ?_
  rintro e w1 ⟨r, rfl, h, hb⟩
  clear H
  go_wp2_with fail
  refine bodyPost_ret (v := .bool g) (by simp [results, Try.results68, go_sem]) rfl ⟨rfl, hb⟩
def pred55 (m : Nat) (U : Nat → Int) (x : Int) : Bool := !hasB m U x
/-- does a list say nothing? -/
def nothB (n : Nat) (V : Nat → Int) : Bool := anyB n fun i => pred54 n V (V i)
set_option maxRecDepth 100000 in
set_option maxHeartbeats 800000 in
theorem says_any (p : Option Addr) (n c : Nat) (V : Nat → Int) (w : World) (hV : LitsIn w p n V) (hn : n ≤ 9223372036854775807) (hI : ∀ i, i < n → I64 (V i)) :
    Calls Try.prog 80 #[.slice p n c] w fun e w' => e = .returned (.bool (nothB n V)) ∧ Below w.heap.size w w' := by
  have H1 := setOf_any p n c V w hV hn hI
  have HV := Lib.hid hV
  have HI := Lib.hid hI
  clear hV hI
  go_enter Try.func80, Try.ntmps80
  go_wp2_with fail
  refine H1.mono ?_
  rintro e w1 ⟨rfl, ho, hb⟩
  clear H1
  have HB := Lib.hid (chain hb (below1 w1 (.cells #[.map (some w.heap.size)] 133)))
  have HS := Lib.hid (show SetIn (w1.alloc (.cells #[.map (some w.heap.size)] 133)) w1.heap.size w.heap.size n V from ⟨by simp [go_sem], map_later ho (below1 _ _)⟩)
  clear ho hb
  go_wp2_with fail
  refine (contains54_any p n c V _ _ n V _ (HV.out.later HB.out) hn HI.out HS.out).mono ?_
  rintro e w2 ⟨rfl, hb2⟩
  have hb3 := chain HB.out hb2
  clear hb2 HB HS
  go_wp2_with fail
  go_ret
  exact ⟨rfl, hb3⟩
/-- is each of one list in another one? -/
def withB (n : Nat) (V : Nat → Int) (m : Nat) (U : Nat → Int) : Bool := !anyB n fun i => pred55 m U (V i)
theorem withB_iff (n : Nat) (V : Nat → Int) (m : Nat) (U : Nat → Int) : withB n V m U = true ↔ ∀ i, i < n → hasB m U (V i) = true := by
  unfold withB
  rw [Bool.not_eq_true', ← Bool.not_eq_true, anyB_iff]
  constructor
  · intro h i hi
    cases hh : hasB m U (V i) with
    | true => rfl
    | false => exact absurd ⟨i, hi, by unfold pred55; rw [hh]; rfl⟩ h
  · rintro h ⟨i, hi, hp⟩
    unfold pred55 at hp
    rw [h i hi] at hp
    cases hp
theorem withB_all (n : Nat) (V : Nat → Int) (m : Nat) (U : Nat → Int) : withB n V m U = (List.range n).all fun i => hasB m U (V i) := by
  rw [Bool.eq_iff_iff, withB_iff, List.all_eq_true]
  constructor
  · intro h i hi; exact h i (List.mem_range.1 hi)
  · intro h i hi; exact h i (List.mem_range.2 hi)
end Go.Proofs.Ytgdncnalahdjeaa
namespace Go.Proofs.Ytgdncnalahdjeaa
open Go Go.RowKit

/-- does a literal hold by an assignment? -/
def bitB (bits a : Int) : Bool := (bits / 2 ^ (a.toNat - 1)).tmod 2 == 1
def litB (bits x : Int) : Bool := bitB bits (absI x) == decide (0 < x)
def holdB (bits : Int) (n : Nat) (V : Nat → Int) : Bool := anyB n fun i => litB bits (V i)
set_option maxRecDepth 100000 in
set_option maxHeartbeats 800000 in
theorem holds39_any (p : Option Addr) (n c : Nat) (V : Nat → Int) (bits : Int) (w : World) (hV : LitsIn w p n V) (hn : n ≤ 9223372036854775807) (hR : ∀ i, i < n → V i ≠ 0 ∧ -60 ≤ V i ∧ V i ≤ 60) (_hb0 : 0 ≤ bits) (_hb1 : bits ≤ 18446744073709551615) :
    Calls Try.prog 31 #[.slice p n c, .int .u64 bits] w fun e w' => e = .returned (.bool (holdB bits n V)) ∧ w' = w := by
  have HV := Lib.hid hV
  have HR := Lib.hid hR
  clear hV hR
  go_enter Try.func31, Try.ntmps31
  go_wp2_with fail
  go_loopw [5] (fun i wr => ∃ j : Nat, j ≤ n ∧ i = .int .i64 j ∧ w = wr ∧ ∀ t, t < j → litB bits (V t) = false) (fun i _ => n - (intOf i).toNat)
  case atStart => exact ⟨0, by omega, rfl, rfl, fun t ht => by omega⟩
  case round =>
    obtain ⟨j, hj, rfl, rfl, hall⟩ := hrel
    have HALL := Lib.hid hall
    clear hall
    by_cases hlt : j < n
    · obtain ⟨b, off, rfl, hV⟩ := HV.out (by omega)
      have hj0 : (0 : Int) ≤ (j : Int) := by omega
      have hj1 : (j : Int) < (n : Int) := by omega
      have cv := hV j hlt
      clear hV
      obtain ⟨r0, r1, r2⟩ := HR.out j hlt
      have H1 := atom_any (V j) w (by omega) (by omega)
      have ha : 1 ≤ absI (V j) ∧ absI (V j) ≤ 60 := by unfold absI; omega
      obtain ⟨a0, a1⟩ := ha
      have R0 := Lib.hid r0
      clear r0
      cases hl : litB bits (V j) with
      | true =>
        have q : (((bits / 2 ^ ((absI (V j)).toNat - 1)).tmod 2 == 1) == decide (0 < V j)) = true := hl
        have HH := Lib.hid (anyB_yes (f := fun i => litB bits (V i)) j hlt hl)
        have HG := Lib.hid (show holdB bits n V = anyB n (fun i => litB bits (V i)) from rfl)
        clear hl
        generalize absI (V j) = a at *
        go_wp2_with fail
        refine H1.mono ?_
        rintro e w1 ⟨rfl, rfl⟩
        clear H1
        go_wp2_with fail
        go_ret
        exact ⟨by rw [HG.out, HH.out]; rfl, rfl⟩
      | false =>
        have q : (((bits / 2 ^ ((absI (V j)).toNat - 1)).tmod 2 == 1) == decide (0 < V j)) = false := hl
        have HH := Lib.hid hl
        clear hl
        generalize absI (V j) = a at *
        go_wp2_with fail
        refine H1.mono ?_
        rintro e w1 ⟨rfl, rfl⟩
        clear H1
        go_wp2_with fail
        go_roundw
        case rel => exact ⟨j + 1, by omega, by go_num, trivial, fun t ht => by
          by_cases htj : t < j
          · exact HALL.out t htj
          · obtain rfl : t = j := by omega
            exact HH.out⟩
        case measure => simp [intOf]; omega
    · obtain rfl : j = n := by omega
      have HH := Lib.hid (anyB_no (f := fun i => litB bits (V i)) HALL.out)
      have HG := Lib.hid (show holdB bits j V = anyB j (fun i => litB bits (V i)) from rfl)
      go_wp2_with fail
      go_ret
      exact ⟨by rw [HG.out, HH.out]; rfl, rfl⟩
/-- the same lists? -/
def alikeB (n : Nat) (V : Nat → Int) (m : Nat) (U : Nat → Int) : Bool := decide (n = m) && !anyB n fun i => V i != U i
theorem alikeB_yes {n m : Nat} {V U : Nat → Int} (h : n = m) (h2 : ∀ i, i < n → V i = U i) : alikeB n V m U = true := by
  unfold alikeB
  rw [decide_eq_true h, anyB_no (fun i hi => by simp [h2 i hi])]
  rfl
theorem alikeB_len {n m : Nat} {V U : Nat → Int} (h : n ≠ m) : alikeB n V m U = false := by
  unfold alikeB
  rw [decide_eq_false h]
  rfl
theorem alikeB_at {n m : Nat} {V U : Nat → Int} (i : Nat) (hi : i < n) (h2 : V i ≠ U i) : alikeB n V m U = false := by
  unfold alikeB
  rw [anyB_yes (f := fun i => V i != U i) i hi (by simp [h2])]
  simp
set_option maxRecDepth 100000 in
set_option maxHeartbeats 800000 in
theorem alike_any (p : Option Addr) (n c : Nat) (V : Nat → Int) (q : Option Addr) (m d : Nat) (U : Nat → Int) (w : World) (hV : LitsIn w p n V) (hn : n ≤ 9223372036854775807) (hU : LitsIn w q m U) (hm : m ≤ 9223372036854775807) :
    Calls Try.prog 23 #[.slice p n c, .slice q m d] w fun e w' => e = .returned (.bool (alikeB n V m U)) ∧ Below w.heap.size w w' := by
  have HV := Lib.hid hV
  have HU := Lib.hid hU
  clear hV hU
  by_cases hnm : n = m
  · subst hnm
    go_enter Try.func23, Try.ntmps23
    go_wp2_with fail
    go_loopw [5] (fun i wr => ∃ j : Nat, j ≤ n ∧ i = .int .i64 j ∧ Below w.heap.size w wr ∧ ∀ t, t < j → V t = U t) (fun i _ => n - (intOf i).toNat)
    case atStart => exact ⟨0, by omega, rfl, Below.refl _ _, fun t ht => by omega⟩
    case round =>
      obtain ⟨j, hj, rfl, hb, hall⟩ := hrel
      have HALL := Lib.hid hall
      have HB := Lib.hid hb
      clear hall hb
      by_cases hlt : j < n
      · obtain ⟨b, off, rfl, hV⟩ := HV.out (by omega)
        obtain ⟨b2, off2, rfl, hU⟩ := HU.out (by omega)
        have hj0 : (0 : Int) ≤ (j : Int) := by omega
        have hj1 : (j : Int) < (n : Int) := by omega
        have cv := (hV.later HB.out) j hlt
        have cu := (hU.later HB.out) j hlt
        clear hV hU
        have hb2 := HB.out.trans ((below_drewN wr 1).mono HB.out.size)
        by_cases he : V j = U j
        · have q1 : (V j != U j) = false := by simp [he]
          have HE := Lib.hid he
          clear he
          go_wp2_with fail
          go_quiet (fail)
          go_wp2
          go_roundw
          case rel => exact ⟨j + 1, by omega, by go_num, HB.out.trans ((below_drewN _ _).mono HB.out.size), fun t ht => by
            by_cases htj : t < j
            · exact HALL.out t htj
            · obtain rfl : t = j := by omega
              exact HE.out⟩
          case measure => simp [intOf]; omega
        · have q1 : (V j != U j) = true := by simp [he]
          have HE := Lib.hid (alikeB_at (m := n) j hlt he)
          clear he
          go_wp2_with fail
          go_quiet (fail)
          go_wp2
          go_ret
          exact ⟨by rw [HE.out]; rfl, HB.out.trans ((below_drewN _ _).mono HB.out.size)⟩
      · obtain rfl : j = n := by omega
        have HE := Lib.hid (alikeB_yes rfl HALL.out)
        have hb2 := HB.out
        go_wp2_with fail
        go_ret
        exact ⟨by rw [HE.out]; rfl, hb2⟩
  · have HE := Lib.hid (alikeB_len (V := V) (U := U) hnm)
    have q1 : ((n : Int) == (m : Int)) = false := by rw [beq_eq_false_iff_ne]; omega
    have q2 : ((n : Int) != (m : Int)) = true := by rw [bne_iff_ne]; omega
    go_enter Try.func23, Try.ntmps23
    go_wp2_with fail
    go_ret
    exact ⟨by rw [HE.out]; rfl, Below.refl _ _⟩
end Go.Proofs.Ytgdncnalahdjeaa
