/- clauses.setOf and what is asked of sets. -/
import Derived.Test.YtiadnifbjdnflaaRefA
import Derived.Maps.OwnSet
import Derived.Maps.Views
namespace Go.Proofs.Ytiadnifbjdnflaa
open Go Go.RowKit Go.Maps

/-- the negative, in two's complement. -/
def negI (x : Int) : Int := if x = -9223372036854775808 then x else -x
def keysL (n : Nat) (V : Nat → Int) : List Lit := (List.range n).map fun i => .int .i64 (V i)
theorem keysL_succ (n : Nat) (V : Nat → Int) : keysL (n + 1) V = keysL n V ++ [.int .i64 (V n)] := by
  unfold keysL
  rw [List.range_succ, List.map_append]
  rfl
def setL (n : Nat) (V : Nat → Int) : DataW Unit := setOf (.agg []) (keysL n V)
theorem setL_succ (n : Nat) (V : Nat → Int) : setL (n + 1) V = (setL n V).put (.int .i64 (V n)) (.agg []) := by
  unfold setL
  rw [keysL_succ, setOf_snoc]
theorem setL_has (n : Nat) (V : Nat → Int) (x : Int) : Maps.has (setL n V) (.int .i64 x) = hasB n V x := by
  unfold setL
  rw [has_setOf]
  · unfold keysL hasB
    rw [List.any_map]
    congr 1
    funext i
    rw [Bool.eq_iff_iff]
    simp [Lit.sameKey]
  · intro y hy
    unfold keysL at hy
    obtain ⟨i, _, rfl⟩ := List.mem_map.1 hy
    trivial
theorem law30 : Keyed Try.prog 30 := int_keyed Try.underlying30
theorem makeMap_hint (n : Int) (w : World) : (Instr.makeMap 78 (some (.int .i64 n))).run Try.prog w = .ok (.map (some w.heap.size)) (w.alloc (.map #[] 0)) := by
  simp [Instr.makeMap, run_underlying Try.underlying78, asInt, asIntOf, Result.andThen]
theorem zero80 (w : World) : (zeroValue 80).run Try.prog w = .ok (.agg #[]) w := by kernel_rfl
theorem key30 {x : Int} (h : I64 x) : keyOf Try.prog 30 (.int .i64 x) = some (.int .i64 x) := keyOf_int_mk Try.underlying30 (WalkArith.wf_i64 h)
theorem map_later {w w' : World} {b n : Nat} {D : DataW Unit} (h : w.ownsMap Try.prog 30 (unitElem (H := Unit)) b n D) (hb : Below w.heap.size w w') : w'.ownsMap Try.prog 30 (unitElem (H := Unit)) b n D := by
  obtain ⟨es, cl, h1, h2⟩ := h
  refine ⟨es, cl, ?_, h2⟩
  rw [← h1]
  exact hb.block b (by
    rcases Nat.lt_or_ge b w.heap.size with h | h
    · exact h
    · rw [Array.getElem?_eq_none h] at h1; cases h1)
set_option maxRecDepth 100000 in
set_option maxHeartbeats 800000 in
theorem setOf_any (p : Option Addr) (n c : Nat) (V : Nat → Int) (w : World) (hV : LitsIn w p n V) (hn : n ≤ 9223372036854775807) (hI : ∀ i, i < n → I64 (V i)) :
    Calls Try.prog 53 #[.slice p n c] w fun e w' => e = .returned (.map (some w.heap.size)) ∧ w'.ownsMap Try.prog 30 (unitElem (H := Unit)) w.heap.size n (setL n V) ∧ Below w.heap.size w w' := by
  have HV := Lib.hid hV
  have HI := Lib.hid hI
  have hmm := makeMap_hint
  clear hV hI
  go_enter Try.func53, Try.ntmps53
  go_wp2_with fail
  go_loopw [11] (fun i wr => ∃ j : Nat, j ≤ n ∧ i = .int .i64 j ∧ wr.ownsMap Try.prog 30 (unitElem (H := Unit)) w.heap.size j (setL j V) ∧ Below w.heap.size w wr) (fun i _ => n - (intOf i).toNat)
  case atStart => exact ⟨0, by omega, rfl, World.ownsMap_made _ _ _ _, (Below.refl _ _).alloc (Nat.le_refl _) _⟩
  case round =>
    obtain ⟨j, hj, rfl, hown, hb⟩ := hrel
    have HB := Lib.hid hb
    clear hb
    by_cases hlt : j < n
    · obtain ⟨b, off, rfl, hV⟩ := HV.out (by omega)
      have hj0 : (0 : Int) ≤ (j : Int) := by omega
      have hj1 : (j : Int) < (n : Int) := by omega
      have cv := (hV.later HB.out) j hlt
      have hkey := Lib.hid (key30 (HI.out j hlt))
      clear hV
      go_wp2_with (at_mapUpdate; refine wpList_mapUpdate_own _ rfl _ _ _ 78 rfl 30 80 law30 Try.underlying78 (unitElem (H := Unit)) w.heap.size j _ rfl hown (by unfold maxLen; omega) _ _ _ rfl rfl hkey.out _ [] unitElem_mk ?_)
      intro w1 hown1 hgrow1
      rw [← setL_succ] at hown1
      have HB2 := Lib.hid ((HB.out).grown hgrow1 (HB.out).size (fun k hk => by cases hk; exact Nat.le_refl _))
      have HO := Lib.hid hown1
      clear hown1 hgrow1 hown
      go_wp2
      go_roundw
      case rel => exact ⟨j + 1, by omega, by go_num, HO.out, HB2.out⟩
      case measure => simp [intOf]; omega
    · obtain rfl : j = n := by omega
      have HO := Lib.hid hown
      clear hown
      go_wp2_with fail
      go_ret
      exact ⟨rfl, HO.out, HB.out⟩
set_option maxRecDepth 100000 in
set_option maxHeartbeats 800000 in
theorem says1_any (x : Int) (C B n : Nat) (V : Nat → Int) (w : World) (hx : I64 x) (hc : w.cell? ⟨C, 0, none⟩ = some (.map (some B))) (hown : w.ownsMap Try.prog 30 (unitElem (H := Unit)) B n (setL n V)) :
    Calls Try.prog 54 #[.int .i64 x, .pointer (some ⟨C, 0, none⟩)] w fun e w' => e = .returned (.bool (hasB n V (negI x) && x != negI x)) ∧ Below w.heap.size w w' := by
  have hh := setL_has n V (negI x)
  by_cases hm : x = -9223372036854775808
  · subst hm
    have hneg : negI (-9223372036854775808) = -9223372036854775808 := by unfold negI; rw [if_pos rfl]
    rw [hneg] at hh ⊢
    have hw2 : wrap64 9223372036854775808 = -9223372036854775808 := by rw [wrap64_eq]; omega
    have HK := Lib.hid (show keyOf Try.prog 30 (.int .i64 (wrap64 9223372036854775808)) = some (.int .i64 (-9223372036854775808)) by rw [hw2]; exact key30 hx)
    have q1 : ((-9223372036854775808 : Int) == wrap64 9223372036854775808) = true := by rw [hw2]; rfl
    have q2 : ((-9223372036854775808 : Int) != wrap64 9223372036854775808) = false := by rw [hw2]; rfl
    clear hx hneg hw2
    generalize hasB n V (-9223372036854775808) = m at *
    have HH := Lib.hid hh
    clear hh
    cases m
    all_goals
      go_enter Try.func54, Try.ntmps54
      go_wp2_with (at_lookup; refine wpList_lookup_own_unit _ rfl _ _ 78 rfl 30 80 law30 Try.underlying78 (zero80 _) B n _ rfl hown _ _ rfl HK.out ?_; rw [HH.out])
      go_ret
      exact ⟨rfl, below1 _ _⟩
  · have hneg : negI x = -x := by unfold negI; rw [if_neg hm]
    rw [hneg] at hh ⊢
    have h1 := hx.1
    have h2 := hx.2
    have h3 : -9223372036854775807 ≤ x := by omega
    have HK := Lib.hid (key30 (show I64 (-x) from ⟨by omega, by omega⟩))
    clear hx hneg hm
    generalize hasB n V (-x) = m at *
    have HH := Lib.hid hh
    clear hh
    cases m
    · go_enter Try.func54, Try.ntmps54
      go_wp2_with (at_lookup; refine wpList_lookup_own_unit _ rfl _ _ 78 rfl 30 80 law30 Try.underlying78 (zero80 _) B n _ rfl hown _ _ rfl HK.out ?_; rw [HH.out])
      go_ret
      exact ⟨rfl, below1 _ _⟩
    · by_cases h0 : x = 0
      · subst h0
        go_enter Try.func54, Try.ntmps54
        go_wp2_with (at_lookup; refine wpList_lookup_own_unit _ rfl _ _ 78 rfl 30 80 law30 Try.underlying78 (zero80 _) B n _ rfl hown _ _ rfl HK.out ?_; rw [HH.out])
        go_ret
        exact ⟨rfl, below1 _ _⟩
      · have q1 : (x == -x) = false := by rw [beq_eq_false_iff_ne]; omega
        have q2 : (x != -x) = true := by rw [bne_iff_ne]; omega
        clear h0
        go_enter Try.func54, Try.ntmps54
        go_wp2_with (at_lookup; refine wpList_lookup_own_unit _ rfl _ _ 78 rfl 30 80 law30 Try.underlying78 (zero80 _) B n _ rfl hown _ _ rfl HK.out ?_; rw [HH.out])
        go_ret
        exact ⟨by rw [q2]; rfl, below1 _ _⟩
set_option maxRecDepth 100000 in
set_option maxHeartbeats 800000 in
theorem within1_any (x : Int) (C B n : Nat) (V : Nat → Int) (w : World) (hx : I64 x) (hc : w.cell? ⟨C, 0, none⟩ = some (.map (some B))) (hown : w.ownsMap Try.prog 30 (unitElem (H := Unit)) B n (setL n V)) :
    Calls Try.prog 55 #[.int .i64 x, .pointer (some ⟨C, 0, none⟩)] w fun e w' => e = .returned (.bool (!hasB n V x)) ∧ Below w.heap.size w w' := by
  have hh := setL_has n V x
  have HK := Lib.hid (key30 hx)
  clear hx
  generalize hasB n V x = m at *
  have HH := Lib.hid hh
  clear hh
  cases m
  all_goals
    go_enter Try.func55, Try.ntmps55
    go_wp2_with (at_lookup; refine wpList_lookup_own_unit _ rfl _ _ 78 rfl 30 80 law30 Try.underlying78 (zero80 _) B n _ rfl hown _ _ rfl HK.out ?_; rw [HH.out])
    go_ret
    exact ⟨rfl, below1 _ _⟩
end Go.Proofs.Ytiadnifbjdnflaa
