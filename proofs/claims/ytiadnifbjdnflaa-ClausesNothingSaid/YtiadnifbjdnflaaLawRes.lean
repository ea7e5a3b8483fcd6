/- The walk of the law ClausesResolve. -/
import Derived.Test.YtiadnifbjdnflaaRes
import Derived.Test.YtiadnifbjdnflaaKnown14
import Derived.Test.YtiadnifbjdnflaaChecksWalk
namespace Go.Proofs.Ytiadnifbjdnflaa
open Go Go.RowKit

theorem below_self (w : World) : Below w.heap.size w w := Below.refl _ _
theorem resL_len (n : Nat) (V : Nat → Int) (m : Nat) (U : Nat → Int) (by' : Int) : (resL n V m U by').length ≤ n + m := by
  unfold resL
  rw [List.length_append]
  have h1 := filt_len n V (· != by')
  have h2 := filt_len m U (· != -by')
  omega
theorem nums_len (l : List LitT) : (nums l).length = l.length := by simp [nums]
theorem resolve_same (n : Nat) (V : Nat → Int) (m : Nat) (U : Nat → Int) (by' : Int) (hn : n ≤ 5000) (hm : m ≤ 5000) :
    ∃ (k : Nat) (Z : Nat → Int) (er : Int), k ≤ 10000 ∧ (er = 0 → ∃ l : List LitT, nums l = resL n V m U by' ∧ k = (formL l).length ∧ Z = (fun i => (formL l).getD i 0) ∧ ResOK n V m U by' ∧ hasB n V by' = true ∧ hasB m U (-by') = true) ∧
      (∀ W p c q d, LitsIn W p n V → LitsIn W q m U → Calls Try.prog 30 #[.slice p n c, .slice q m d, .int .i64 by'] W fun e w' => Outs k Z er e w' ∧ Below W.heap.size W w') ∧
      (∀ W p c q d, LitsIn W p n V → LitsIn W q m U → Calls Try.prog 31 #[.slice p n c, .slice q m d, .int .i64 by'] W fun e w' => Outs k Z er e w' ∧ Below W.heap.size W w') := by
  by_cases hr : ResOK n V m U by'
  · obtain ⟨l, hl⟩ := list_lits _ (resL_lit hr)
    have hk : (formL l).length ≤ 10000 := by
      have h1 := formL_len l
      have h2 := resL_len n V m U by'
      rw [← hl, nums_len] at h2
      omega
    by_cases hh : (hasB n V by' && hasB m U (-by')) = true
    · have h2 := hh
      rw [Bool.and_eq_true] at h2
      refine ⟨(formL l).length, fun i => (formL l).getD i 0, 0, hk, fun _ => ⟨l, hl, rfl, rfl, hr, h2.1, h2.2⟩, fun W p c q d hV hU => ?_, fun W p c q d hV hU => ?_⟩
      · refine (resolve_ok p n c V q m d U by' l W hV hU hr hl).mono ?_
        rintro e w' ⟨⟨hf, _⟩ | ⟨_, v', rfl, ho⟩, hb⟩
        · rw [hh] at hf; cases hf
        · obtain ⟨p', c', rfl, _, hL, _⟩ := own_in ho rfl
          exact ⟨⟨p', c', rfl, hL⟩, hb⟩
      · refine (refResolve_ok p n c V q m d U by' l W hV hU hr hl).mono ?_
        rintro e w' ⟨⟨hf, _⟩ | ⟨_, v', rfl, ho⟩, hb⟩
        · rw [hh] at hf; cases hf
        · obtain ⟨p', c', rfl, _, hL, _⟩ := own_in ho rfl
          exact ⟨⟨p', c', rfl, hL⟩, hb⟩
    · refine ⟨0, fun _ => 0, 7, by omega, fun h => by omega, fun W p c q d hV hU => ?_, fun W p c q d hV hU => ?_⟩
      · refine (resolve_ok p n c V q m d U by' l W hV hU hr hl).mono ?_
        rintro e w' ⟨⟨_, rfl⟩ | ⟨hf, _⟩, hb⟩
        · exact ⟨⟨none, 0, rfl, fun h => by omega⟩, hb⟩
        · exact absurd hf hh
      · refine (refResolve_ok p n c V q m d U by' l W hV hU hr hl).mono ?_
        rintro e w' ⟨⟨_, rfl⟩ | ⟨hf, _⟩, hb⟩
        · exact ⟨⟨none, 0, rfl, fun h => by omega⟩, hb⟩
        · exact absurd hf hh
  · refine ⟨0, fun _ => 0, 2, by omega, fun h => by omega, fun W p c q d hV hU => ?_, fun W p c q d hV hU => ?_⟩
    · refine (resolve_no p n c V q m d U by' W hV (by omega) hU (by omega) hr).mono ?_
      rintro e w' ⟨rfl, rfl⟩
      exact ⟨⟨none, 0, rfl, fun h => by omega⟩, Below.refl _ _⟩
    · refine (refResolve_no p n c V q m d U by' W hV (by omega) hU (by omega) hr).mono ?_
      rintro e w' ⟨rfl, rfl⟩
      exact ⟨⟨none, 0, rfl, fun h => by omega⟩, Below.refl _ _⟩
set_option maxRecDepth 100000 in
set_option maxHeartbeats 800000 in
theorem lawres_out (p : Option Addr) (n c : Nat) (q : Option Addr) (m d : Nat) (by' : Int) (w : World) (h : 300 < n ∨ (n ≤ 300 ∧ 300 < m)) (h1 : n ≤ 9223372036854775807) (h2 : m ≤ 9223372036854775807) :
    Calls Try.prog 4 #[.slice p n c, .slice q m d, .int .i64 by'] w fun e w' => e = .returned (.bool true) ∧ Below w.heap.size w w' := by
  rcases h with h | ⟨h, h'⟩
  all_goals
    go_enter Try.func4, Try.ntmps4
    go_wp2_with fail
    refine (known14_any _).mono ?_
    rintro e w1 ⟨rfl, hb⟩
    go_wp2_with fail
    go_ret
    exact ⟨rfl, hb⟩
set_option maxRecDepth 100000 in
set_option maxHeartbeats 2000000 in
theorem lawres_in (p : Option Addr) (n c : Nat) (V : Nat → Int) (q : Option Addr) (m d : Nat) (U : Nat → Int) (by' : Int) (w : World) (hV : LitsIn w p n V) (hn : n ≤ 300) (hp : p = none → c = 0) (hU : LitsIn w q m U) (hm : m ≤ 300) (hq : q = none → d = 0) :
    Calls Try.prog 4 #[.slice p n c, .slice q m d, .int .i64 by'] w fun e w' => e = .returned (.bool true) ∧ Below w.heap.size w w' := by
  obtain ⟨k, Z, er, hk, _, h1, h2⟩ := resolve_same n V m U by' (by omega) (by omega)
  have H1 := Lib.hid h1
  have H2 := Lib.hid h2
  have HV := Lib.hid hV
  have HU := Lib.hid hU
  have HP := Lib.hid hp
  have HQ := Lib.hid hq
  have HB := Lib.hid (below_self w)
  clear hV hU h1 h2 hp hq
  have q1 : (er == er) = true := by simp
  go_enter Try.func4, Try.ntmps4
  go_wp2_with fail
  refine (copied_any p n c V _ (HV.out.later HB.out) (by omega) HP.out).mono ?_
  rintro e w1 ⟨v, rfl, ho, hb⟩
  obtain ⟨px, cx, rfl, _, hL, _⟩ := own_row ho
  have HB := Lib.hid (chain HB.out hb)
  have HCx := Lib.hid hL
  clear ho hL hb
  go_wp2_with fail
  refine (copied_any q m d U _ (HU.out.later HB.out) (by omega) HQ.out).mono ?_
  rintro e w2 ⟨v, rfl, ho, hb⟩
  obtain ⟨py, cy, rfl, _, hL, _⟩ := own_row ho
  have HCx := Lib.hid (HCx.out.later hb)
  have HB := Lib.hid (chain HB.out hb)
  have HCy := Lib.hid hL
  clear ho hL hb
  go_wp2_with fail
  refine (H1.out _ px cx py cy HCx.out HCy.out).mono ?_
  rintro e w3 ⟨⟨pl, cl, rfl, hx⟩, hb⟩
  have HCx := Lib.hid (HCx.out.later hb)
  have HCy := Lib.hid (HCy.out.later hb)
  have HB := Lib.hid (chain HB.out hb)
  have HOl := Lib.hid hx
  clear hx hb
  go_wp2_with fail
  refine (H2.out _ p c q d (HV.out.later HB.out) (HU.out.later HB.out)).mono ?_
  rintro e w4 ⟨⟨pm, cm, rfl, hx⟩, hb⟩
  have HCx := Lib.hid (HCx.out.later hb)
  have HCy := Lib.hid (HCy.out.later hb)
  have HOl := Lib.hid (HOl.out.later hb)
  have HB := Lib.hid (chain HB.out hb)
  have HOm := Lib.hid hx
  clear hx hb
  go_wp2_with fail
  refine (alike_same pl k cl Z pm cm _ HOl.out (by omega) HOm.out).mono ?_
  rintro e w5 ⟨rfl, hb⟩
  have HCx := Lib.hid (HCx.out.later hb)
  have HCy := Lib.hid (HCy.out.later hb)
  have HOl := Lib.hid (HOl.out.later hb)
  have HOm := Lib.hid (HOm.out.later hb)
  have HB := Lib.hid (chain HB.out hb)
  clear hb
  go_wp2_with fail
  refine (alike_same px n cx V p c _ HCx.out (by omega) (HV.out.later HB.out)).mono ?_
  rintro e w6 ⟨rfl, hb⟩
  have HCx := Lib.hid (HCx.out.later hb)
  have HCy := Lib.hid (HCy.out.later hb)
  have HOl := Lib.hid (HOl.out.later hb)
  have HOm := Lib.hid (HOm.out.later hb)
  have HB := Lib.hid (chain HB.out hb)
  clear hb
  go_wp2_with fail
  refine (alike_same py m cy U q d _ HCy.out (by omega) (HU.out.later HB.out)).mono ?_
  rintro e w7 ⟨rfl, hb⟩
  have HCx := Lib.hid (HCx.out.later hb)
  have HCy := Lib.hid (HCy.out.later hb)
  have HOl := Lib.hid (HOl.out.later hb)
  have HOm := Lib.hid (HOm.out.later hb)
  have HB := Lib.hid (chain HB.out hb)
  clear hb
  go_wp2_with fail
  refine (known14_any _).mono ?_
  rintro e w8 ⟨rfl, hb⟩
  have HCx := Lib.hid (HCx.out.later hb)
  have HCy := Lib.hid (HCy.out.later hb)
  have HOl := Lib.hid (HOl.out.later hb)
  have HOm := Lib.hid (HOm.out.later hb)
  have HB := Lib.hid (chain HB.out hb)
  clear hb
  have hbz := HB.out
  go_wp2_with fail
  go_ret
  exact ⟨rfl, hbz⟩
theorem lawres_any {w : World} (p : Option Addr) (n c : Nat) (V : Nat → Int) (hV : LitsIn w p n V) (hn : n ≤ 9223372036854775807) (hI : ∀ i, i < n → I64 (V i)) (hp : p = none → c = 0) (q : Option Addr) (m d : Nat) (U : Nat → Int) (hU : LitsIn w q m U) (hm : m ≤ 9223372036854775807) (hJ : ∀ i, i < m → I64 (U i)) (hq : q = none → d = 0) (by' : Int) (hx : -9223372036854775808 ≤ by' ∧ by' ≤ 9223372036854775807) (W : World) (hW : W = w := by rfl) :
    Calls Try.prog 4 #[.slice p n c, .slice q m d, .int .i64 by'] W fun e w' => e = .returned (.bool true) ∧ Below W.heap.size W w' := by
  subst hW
  by_cases h : 300 < n ∨ (n ≤ 300 ∧ 300 < m)
  · exact lawres_out p n c q m d by' W h hn hm
  · exact lawres_in p n c V q m d U by' W hV (by omega) hp hU (by omega) hq
end Go.Proofs.Ytiadnifbjdnflaa
