/- The walk of the law ClausesForms. -/
import Derived.Test.YtiadnifbjdnflaaLawRes
namespace Go.Proofs.Ytiadnifbjdnflaa
open Go Go.RowKit

theorem eql_self (g : Bool) (W : World) : (binOp .eql 4 (.bool g) (.bool g)).run Try.prog W = .ok (.bool true) W := by cases g <;> kernel_rfl
theorem lits_all (n : Nat) (V : Nat → Int) : ∃ l : List LitT, l.length = n ∧ (MayP n V → ∀ i, i < n → (nums l)[i]? = some (V i)) := by
  by_cases h : MayP n V
  · obtain ⟨l, hl, hz⟩ := lits_of V n h.2
    exact ⟨l, hl, fun _ => hz⟩
  · exact ⟨List.replicate n ⟨1, by decide⟩, by simp, fun h' => absurd h' h⟩
/-- Normal, of any list. -/
theorem normal_same (n : Nat) (V : Nat → Int) (hn : n ≤ 9223372036854775807) :
    ∃ (k : Nat) (Z : Nat → Int) (er : Int), k ≤ 5000 ∧ (MayP n V → er = 0 ∧ ∃ l : List LitT, (∀ x, x ∈ nums l ↔ ∃ i, i < n ∧ V i = x) ∧ k = (formL l).length ∧ Z = fun i => (formL l).getD i 0) ∧ (¬ MayP n V → er = 2 ∧ k = 0) ∧
      (∀ W p c, LitsIn W p n V → Calls Try.prog 20 #[.slice p n c] W fun e w' => Outs k Z er e w' ∧ Below W.heap.size W w') ∧
      (MayP n V → ∀ W p c, LitsIn W p n V → Calls Try.prog 24 #[.slice p n c] W fun e w' => (∃ (q : Option Addr) (d : Nat), e = .returned (.slice q k d) ∧ LitsIn w' q k Z) ∧ Below W.heap.size W w') := by
  obtain ⟨l, hl, hz⟩ := lits_all n V
  by_cases h : MayP n V
  · have hk : (formL l).length ≤ 5000 := by
      have := formL_len l
      have := h.1
      omega
    refine ⟨(formL l).length, fun i => (formL l).getD i 0, 0, hk, fun _ => ⟨rfl, l, nums_mem l n V hl (hz h), rfl, rfl⟩, fun h' => absurd h h', fun W p c hV => ?_, fun _ W p c hV => ?_⟩
    · refine (normal_any p n c V l W hV hl (hz h) h).mono ?_
      rintro e w' ⟨v', rfl, ho, hb⟩
      obtain ⟨p', c', rfl, _, hL, _⟩ := own_in ho rfl
      exact ⟨⟨p', c', rfl, hL⟩, hb⟩
    · refine (refNormal_any p n c V l W hV (by have := h.1; omega) h.2 (nums_mem l n V hl (hz h))).mono ?_
      rintro e w' ⟨v', rfl, ho, hb⟩
      obtain ⟨p', c', rfl, _, hL, _⟩ := own_in ho rfl
      exact ⟨⟨p', c', rfl, hL⟩, hb⟩
  · refine ⟨0, fun _ => 0, 2, by omega, fun h' => absurd h' h, fun _ => ⟨rfl, rfl⟩, fun W p c hV => ?_, fun h' => absurd h' h⟩
    refine (normal_no p n c V W hV hn h).mono ?_
    rintro e w' ⟨rfl, rfl⟩
    exact ⟨⟨none, 0, rfl, fun h => by omega⟩, Below.refl _ _⟩
theorem may_yes (p : Option Addr) (n c : Nat) (V : Nat → Int) (w : World) (hV : LitsIn w p n V) (hn : n ≤ 9223372036854775807) (g : Bool) (hg : g = true ↔ MayP n V) :
    Calls Try.prog 21 #[.slice p n c] w fun e w' => e = .returned (.bool g) ∧ Below w.heap.size w w' := by
  refine (may_any p n c V w hV hn).mono ?_
  rintro e w' ⟨⟨rfl, h⟩ | ⟨rfl, h⟩, rfl⟩
  · rw [hg.2 h]; exact ⟨rfl, Below.refl _ _⟩
  · cases g with
    | false => exact ⟨rfl, Below.refl _ _⟩
    | true => exact absurd (hg.1 rfl) h
theorem refMay_yes (p : Option Addr) (n c : Nat) (V : Nat → Int) (w : World) (hV : LitsIn w p n V) (hn : n ≤ 9223372036854775807) (g : Bool) (hg : g = true ↔ MayP n V) :
    Calls Try.prog 22 #[.slice p n c] w fun e w' => e = .returned (.bool g) ∧ Below w.heap.size w w' := by
  refine (refMay_any p n c V w hV hn).mono ?_
  rintro e w' ⟨⟨rfl, h⟩ | ⟨rfl, h⟩, rfl⟩
  · rw [hg.2 h]; exact ⟨rfl, Below.refl _ _⟩
  · cases g with
    | false => exact ⟨rfl, Below.refl _ _⟩
    | true => exact absurd (hg.1 rfl) h
theorem refSays_same (p : Option Addr) (n c : Nat) (V : Nat → Int) (w : World) (hV : LitsIn w p n V) (hn : n ≤ 9223372036854775807) (hI : ∀ i, i < n → I64 (V i)) :
    Calls Try.prog 26 #[.slice p n c] w fun e w' => e = .returned (.bool (nothB n V)) ∧ Below w.heap.size w w' := by
  rw [nothB_ref n V hI]
  exact refSays_any p n c V w hV hn hI
theorem refWithin_same (p : Option Addr) (n c : Nat) (V : Nat → Int) (q : Option Addr) (m d : Nat) (U : Nat → Int) (w : World) (hV : LitsIn w p n V) (hn : n ≤ 9223372036854775807) (hU : LitsIn w q m U) (hm : m ≤ 9223372036854775807) :
    Calls Try.prog 28 #[.slice p n c, .slice q m d] w fun e w' => e = .returned (.bool (withB n V m U)) ∧ Below w.heap.size w w' := by
  rw [withB_all]
  refine (refWithin_any p n c V q m d U w hV hn hU hm).mono ?_
  rintro e w' ⟨he, rfl⟩
  exact ⟨he, Below.refl _ _⟩
set_option maxRecDepth 100000 in
set_option maxHeartbeats 800000 in
theorem forms_out (p : Option Addr) (n c : Nat) (q : Option Addr) (m d : Nat) (w : World) (h : (300 < n ∧ n ≤ 5000) ∨ (300 < n ∧ 5000 < n ∧ 6000 < n) ∨ (n ≤ 300 ∧ n ≤ 6000 ∧ 300 < m) ∨ (300 < n ∧ 5000 < n ∧ n ≤ 6000 ∧ 300 < m)) (h1 : n ≤ 9223372036854775807) (h2 : m ≤ 9223372036854775807) :
    Calls Try.prog 3 #[.slice p n c, .slice q m d] w fun e w' => e = .returned (.bool true) ∧ Below w.heap.size w w' := by
  rcases h with ⟨h, h'⟩ | ⟨h, h', h''⟩ | ⟨h, h', h''⟩ | ⟨h, h', h'', hh⟩
  all_goals
    go_enter Try.func3, Try.ntmps3
    go_wp2_with fail
    refine (known14_any _).mono ?_
    rintro e w1 ⟨rfl, hb⟩
    go_wp2_with fail
    go_ret
    exact ⟨rfl, hb⟩
set_option maxRecDepth 100000 in
set_option maxHeartbeats 3000000 in
theorem forms_no (p : Option Addr) (n c : Nat) (V : Nat → Int) (q : Option Addr) (m d : Nat) (U : Nat → Int) (w : World) (hV : LitsIn w p n V) (hI : ∀ i, i < n → I64 (V i)) (hp : p = none → c = 0) (hU : LitsIn w q m U) (hm : m ≤ 300) (hJ : ∀ i, i < m → I64 (U i)) (hq : q = none → d = 0) (hn : n ≤ 300) (hmay : ¬ MayP n V) :
    Calls Try.prog 3 #[.slice p n c, .slice q m d] w fun e w' => e = .returned (.bool true) ∧ Below w.heap.size w w' := by
  obtain ⟨k, Z, er, hk, hyes, hno, h1, h2⟩ := normal_same n V (by omega)
  have H1 := Lib.hid h1
  have H2 := Lib.hid h2
  have HV := Lib.hid hV
  have HU := Lib.hid hU
  have HP := Lib.hid hp
  have HQ := Lib.hid hq
  have HI := Lib.hid hI
  have HJ := Lib.hid hJ
  have HB := Lib.hid (below_self w)
  have HEQ := eql_self
  obtain ⟨rfl, rfl⟩ := hno hmay
  have hgm : false = true ↔ MayP n V := ⟨(fun h => by cases h), (fun h => absurd h hmay)⟩
  have HGM := Lib.hid hgm
  clear hgm hmay
  clear hV hU h1 h2 hp hq hyes hno hI hJ
  go_enter Try.func3, Try.ntmps3
  go_wp2_with fail
  refine (copied_any p n c V _ (HV.out.later HB.out) (by omega) HP.out).mono ?_
  rintro e w1 ⟨v, rfl, ho, hb⟩
  obtain ⟨px, cx, rfl, _, hL, _⟩ := own_row ho
  have HB := Lib.hid (chain HB.out hb)
  have HCx := Lib.hid hL
  clear ho hL hb
  go_wp2_with fail
  refine (copied_any q m d U _ (HU.out.later HB.out) (by omega) HQ.out).mono ?_
  rintro e w2 ⟨v, rfl, ho, hb⟩
  obtain ⟨py, cy, rfl, _, hL, _⟩ := own_row ho
  have HCx := Lib.hid (HCx.out.later hb)
  have HB := Lib.hid (chain HB.out hb)
  have HCy := Lib.hid hL
  clear ho hL hb
  go_wp2_with fail
  refine (H1.out _ px cx HCx.out).mono ?_
  rintro e w3 ⟨⟨pl, cl, rfl, hx⟩, hb⟩
  have HCx := Lib.hid (HCx.out.later hb)
  have HCy := Lib.hid (HCy.out.later hb)
  have HB := Lib.hid (chain HB.out hb)
  have HOl := Lib.hid hx
  clear hx hb
  go_wp2_with fail
  refine (may_yes px n cx V _ HCx.out (by omega) false HGM.out).mono ?_
  rintro e w4 ⟨rfl, hb⟩
  have HCx := Lib.hid (HCx.out.later hb)
  have HCy := Lib.hid (HCy.out.later hb)
  have HOl := Lib.hid (HOl.out.later hb)
  have HB := Lib.hid (chain HB.out hb)
  clear hb
  go_wp2_with fail
  refine (refMay_yes p n c V _ (HV.out.later HB.out) (by omega) false HGM.out).mono ?_
  rintro e w5 ⟨rfl, hb⟩
  have HCx := Lib.hid (HCx.out.later hb)
  have HCy := Lib.hid (HCy.out.later hb)
  have HOl := Lib.hid (HOl.out.later hb)
  have HB := Lib.hid (chain HB.out hb)
  clear hb
  go_wp2_with fail
  refine (refMay_yes p n c V _ (HV.out.later HB.out) (by omega) false HGM.out).mono ?_
  rintro e w6 ⟨rfl, hb⟩
  have HCx := Lib.hid (HCx.out.later hb)
  have HCy := Lib.hid (HCy.out.later hb)
  have HOl := Lib.hid (HOl.out.later hb)
  have HB := Lib.hid (chain HB.out hb)
  clear hb
  have HW := Lib.hid (show True from trivial)
  go_wp2_with fail
  refine (says_any px n cx V _ HCx.out (by omega) HI.out).mono ?_
  rintro e w7 ⟨rfl, hb⟩
  have HCx := Lib.hid (HCx.out.later hb)
  have HCy := Lib.hid (HCy.out.later hb)
  have HOl := Lib.hid (HOl.out.later hb)
  have HB := Lib.hid (chain HB.out hb)
  clear hb
  go_wp2_with fail
  refine (refSays_same p n c V _ (HV.out.later HB.out) (by omega) HI.out).mono ?_
  rintro e w8 ⟨rfl, hb⟩
  have HCx := Lib.hid (HCx.out.later hb)
  have HCy := Lib.hid (HCy.out.later hb)
  have HOl := Lib.hid (HOl.out.later hb)
  have HB := Lib.hid (chain HB.out hb)
  clear hb
  go_wp2_with fail
  refine (within_any px n cx V py m cy U _ HCx.out (by omega) HI.out HCy.out (by omega) HJ.out).mono ?_
  rintro e w9 ⟨rfl, hb⟩
  have HCx := Lib.hid (HCx.out.later hb)
  have HCy := Lib.hid (HCy.out.later hb)
  have HOl := Lib.hid (HOl.out.later hb)
  have HB := Lib.hid (chain HB.out hb)
  clear hb
  go_wp2_with fail
  refine (refWithin_same p n c V q m d U _ (HV.out.later HB.out) (by omega) (HU.out.later HB.out) (by omega)).mono ?_
  rintro e w10 ⟨rfl, hb⟩
  have HCx := Lib.hid (HCx.out.later hb)
  have HCy := Lib.hid (HCy.out.later hb)
  have HOl := Lib.hid (HOl.out.later hb)
  have HB := Lib.hid (chain HB.out hb)
  clear hb
  go_wp2_with fail
  refine (same_any px n cx V py m cy U _ HCx.out (by omega) HI.out HCy.out (by omega) HJ.out).mono ?_
  rintro e w11 ⟨rfl, hb⟩
  have HCx := Lib.hid (HCx.out.later hb)
  have HCy := Lib.hid (HCy.out.later hb)
  have HOl := Lib.hid (HOl.out.later hb)
  have HB := Lib.hid (chain HB.out hb)
  clear hb
  go_wp2_with fail
  refine (refWithin_same p n c V q m d U _ (HV.out.later HB.out) (by omega) (HU.out.later HB.out) (by omega)).mono ?_
  rintro e w12 ⟨rfl, hb⟩
  have HCx := Lib.hid (HCx.out.later hb)
  have HCy := Lib.hid (HCy.out.later hb)
  have HOl := Lib.hid (HOl.out.later hb)
  have HB := Lib.hid (chain HB.out hb)
  clear hb
  cases hw : withB n V m U with
  | false =>
    go_wp2_with fail
    refine (alike_same px n cx V p c _ HCx.out (by omega) (HV.out.later HB.out)).mono ?_
    rintro e w13 ⟨rfl, hb⟩
    have HCx := Lib.hid (HCx.out.later hb)
    have HCy := Lib.hid (HCy.out.later hb)
    have HOl := Lib.hid (HOl.out.later hb)
    have HB := Lib.hid (chain HB.out hb)
    clear hb
    go_wp2_with fail
    refine (alike_same py m cy U q d _ HCy.out (by omega) (HU.out.later HB.out)).mono ?_
    rintro e w14 ⟨rfl, hb⟩
    have HCx := Lib.hid (HCx.out.later hb)
    have HCy := Lib.hid (HCy.out.later hb)
    have HOl := Lib.hid (HOl.out.later hb)
    have HB := Lib.hid (chain HB.out hb)
    clear hb
    go_wp2_with fail
    refine (known14_any _).mono ?_
    rintro e w15 ⟨rfl, hb⟩
    have HCx := Lib.hid (HCx.out.later hb)
    have HCy := Lib.hid (HCy.out.later hb)
    have HOl := Lib.hid (HOl.out.later hb)
    have HB := Lib.hid (chain HB.out hb)
    clear hb
    have hbz := HB.out
    go_wp2_with fail
    go_ret
    exact ⟨rfl, hbz⟩
  | true =>
    go_wp2_with fail
    refine (refWithin_same q m d U p n c V _ (HU.out.later HB.out) (by omega) (HV.out.later HB.out) (by omega)).mono ?_
    rintro e w13 ⟨rfl, hb⟩
    have HCx := Lib.hid (HCx.out.later hb)
    have HCy := Lib.hid (HCy.out.later hb)
    have HOl := Lib.hid (HOl.out.later hb)
    have HB := Lib.hid (chain HB.out hb)
    clear hb
    go_wp2_with fail
    refine (alike_same px n cx V p c _ HCx.out (by omega) (HV.out.later HB.out)).mono ?_
    rintro e w14 ⟨rfl, hb⟩
    have HCx := Lib.hid (HCx.out.later hb)
    have HCy := Lib.hid (HCy.out.later hb)
    have HOl := Lib.hid (HOl.out.later hb)
    have HB := Lib.hid (chain HB.out hb)
    clear hb
    go_wp2_with fail
    refine (alike_same py m cy U q d _ HCy.out (by omega) (HU.out.later HB.out)).mono ?_
    rintro e w15 ⟨rfl, hb⟩
    have HCx := Lib.hid (HCx.out.later hb)
    have HCy := Lib.hid (HCy.out.later hb)
    have HOl := Lib.hid (HOl.out.later hb)
    have HB := Lib.hid (chain HB.out hb)
    clear hb
    go_wp2_with fail
    refine (known14_any _).mono ?_
    rintro e w16 ⟨rfl, hb⟩
    have HCx := Lib.hid (HCx.out.later hb)
    have HCy := Lib.hid (HCy.out.later hb)
    have HOl := Lib.hid (HOl.out.later hb)
    have HB := Lib.hid (chain HB.out hb)
    clear hb
    have hbz := HB.out
    go_wp2_with fail
    go_ret
    exact ⟨rfl, hbz⟩
set_option maxRecDepth 100000 in
set_option maxHeartbeats 3000000 in
theorem forms_yes (p : Option Addr) (n c : Nat) (V : Nat → Int) (q : Option Addr) (m d : Nat) (U : Nat → Int) (w : World) (hV : LitsIn w p n V) (hI : ∀ i, i < n → I64 (V i)) (hp : p = none → c = 0) (hU : LitsIn w q m U) (hm : m ≤ 300) (hJ : ∀ i, i < m → I64 (U i)) (hq : q = none → d = 0) (hn : n ≤ 300) (hmay : MayP n V) :
    Calls Try.prog 3 #[.slice p n c, .slice q m d] w fun e w' => e = .returned (.bool true) ∧ Below w.heap.size w w' := by
  obtain ⟨k, Z, er, hk, hyes, hno, h1, h2⟩ := normal_same n V (by omega)
  have H1 := Lib.hid h1
  have H2 := Lib.hid h2
  have HV := Lib.hid hV
  have HU := Lib.hid hU
  have HP := Lib.hid hp
  have HQ := Lib.hid hq
  have HI := Lib.hid hI
  have HJ := Lib.hid hJ
  have HB := Lib.hid (below_self w)
  have HEQ := eql_self
  obtain ⟨rfl, _⟩ := hyes hmay
  have HMAY := Lib.hid hmay
  have H3 := Lib.hid (H2.out hmay)
  clear hmay
  clear hV hU h1 h2 hp hq hyes hno hI hJ
  go_enter Try.func3, Try.ntmps3
  go_wp2_with fail
  refine (copied_any p n c V _ (HV.out.later HB.out) (by omega) HP.out).mono ?_
  rintro e w1 ⟨v, rfl, ho, hb⟩
  obtain ⟨px, cx, rfl, _, hL, _⟩ := own_row ho
  have HB := Lib.hid (chain HB.out hb)
  have HCx := Lib.hid hL
  clear ho hL hb
  go_wp2_with fail
  refine (copied_any q m d U _ (HU.out.later HB.out) (by omega) HQ.out).mono ?_
  rintro e w2 ⟨v, rfl, ho, hb⟩
  obtain ⟨py, cy, rfl, _, hL, _⟩ := own_row ho
  have HCx := Lib.hid (HCx.out.later hb)
  have HB := Lib.hid (chain HB.out hb)
  have HCy := Lib.hid hL
  clear ho hL hb
  go_wp2_with fail
  refine (H1.out _ px cx HCx.out).mono ?_
  rintro e w3 ⟨⟨pl, cl, rfl, hx⟩, hb⟩
  have HCx := Lib.hid (HCx.out.later hb)
  have HCy := Lib.hid (HCy.out.later hb)
  have HB := Lib.hid (chain HB.out hb)
  have HOl := Lib.hid hx
  clear hx hb
  go_wp2_with fail
  refine (may_yes px n cx V _ HCx.out (by omega) true ⟨fun _ => HMAY.out, fun _ => rfl⟩).mono ?_
  rintro e w4 ⟨rfl, hb⟩
  have HCx := Lib.hid (HCx.out.later hb)
  have HCy := Lib.hid (HCy.out.later hb)
  have HOl := Lib.hid (HOl.out.later hb)
  have HB := Lib.hid (chain HB.out hb)
  clear hb
  go_wp2_with fail
  refine (refMay_yes p n c V _ (HV.out.later HB.out) (by omega) true ⟨fun _ => HMAY.out, fun _ => rfl⟩).mono ?_
  rintro e w5 ⟨rfl, hb⟩
  have HCx := Lib.hid (HCx.out.later hb)
  have HCy := Lib.hid (HCy.out.later hb)
  have HOl := Lib.hid (HOl.out.later hb)
  have HB := Lib.hid (chain HB.out hb)
  clear hb
  go_wp2_with fail
  refine (refMay_yes p n c V _ (HV.out.later HB.out) (by omega) true ⟨fun _ => HMAY.out, fun _ => rfl⟩).mono ?_
  rintro e w6 ⟨rfl, hb⟩
  have HCx := Lib.hid (HCx.out.later hb)
  have HCy := Lib.hid (HCy.out.later hb)
  have HOl := Lib.hid (HOl.out.later hb)
  have HB := Lib.hid (chain HB.out hb)
  clear hb
  go_wp2_with fail
  refine (H3.out _ p c (HV.out.later HB.out)).mono ?_
  rintro e w7 ⟨⟨pr, cr, rfl, hx⟩, hb⟩
  have HCx := Lib.hid (HCx.out.later hb)
  have HCy := Lib.hid (HCy.out.later hb)
  have HOl := Lib.hid (HOl.out.later hb)
  have HB := Lib.hid (chain HB.out hb)
  have HOr := Lib.hid hx
  clear hx hb
  go_wp2_with fail
  refine (alike_same pl k cl Z pr cr _ HOl.out (by omega) HOr.out).mono ?_
  rintro e w8 ⟨rfl, hb⟩
  have HCx := Lib.hid (HCx.out.later hb)
  have HCy := Lib.hid (HCy.out.later hb)
  have HOl := Lib.hid (HOl.out.later hb)
  have HOr := Lib.hid (HOr.out.later hb)
  have HB := Lib.hid (chain HB.out hb)
  clear hb
  have HW := Lib.hid (show True from trivial)
  go_wp2_with fail
  refine (says_any px n cx V _ HCx.out (by omega) HI.out).mono ?_
  rintro e w9 ⟨rfl, hb⟩
  have HCx := Lib.hid (HCx.out.later hb)
  have HCy := Lib.hid (HCy.out.later hb)
  have HOl := Lib.hid (HOl.out.later hb)
  have HOr := Lib.hid (HOr.out.later hb)
  have HB := Lib.hid (chain HB.out hb)
  clear hb
  go_wp2_with fail
  refine (refSays_same p n c V _ (HV.out.later HB.out) (by omega) HI.out).mono ?_
  rintro e w10 ⟨rfl, hb⟩
  have HCx := Lib.hid (HCx.out.later hb)
  have HCy := Lib.hid (HCy.out.later hb)
  have HOl := Lib.hid (HOl.out.later hb)
  have HOr := Lib.hid (HOr.out.later hb)
  have HB := Lib.hid (chain HB.out hb)
  clear hb
  go_wp2_with fail
  refine (within_any px n cx V py m cy U _ HCx.out (by omega) HI.out HCy.out (by omega) HJ.out).mono ?_
  rintro e w11 ⟨rfl, hb⟩
  have HCx := Lib.hid (HCx.out.later hb)
  have HCy := Lib.hid (HCy.out.later hb)
  have HOl := Lib.hid (HOl.out.later hb)
  have HOr := Lib.hid (HOr.out.later hb)
  have HB := Lib.hid (chain HB.out hb)
  clear hb
  go_wp2_with fail
  refine (refWithin_same p n c V q m d U _ (HV.out.later HB.out) (by omega) (HU.out.later HB.out) (by omega)).mono ?_
  rintro e w12 ⟨rfl, hb⟩
  have HCx := Lib.hid (HCx.out.later hb)
  have HCy := Lib.hid (HCy.out.later hb)
  have HOl := Lib.hid (HOl.out.later hb)
  have HOr := Lib.hid (HOr.out.later hb)
  have HB := Lib.hid (chain HB.out hb)
  clear hb
  go_wp2_with fail
  refine (same_any px n cx V py m cy U _ HCx.out (by omega) HI.out HCy.out (by omega) HJ.out).mono ?_
  rintro e w13 ⟨rfl, hb⟩
  have HCx := Lib.hid (HCx.out.later hb)
  have HCy := Lib.hid (HCy.out.later hb)
  have HOl := Lib.hid (HOl.out.later hb)
  have HOr := Lib.hid (HOr.out.later hb)
  have HB := Lib.hid (chain HB.out hb)
  clear hb
  go_wp2_with fail
  refine (refWithin_same p n c V q m d U _ (HV.out.later HB.out) (by omega) (HU.out.later HB.out) (by omega)).mono ?_
  rintro e w14 ⟨rfl, hb⟩
  have HCx := Lib.hid (HCx.out.later hb)
  have HCy := Lib.hid (HCy.out.later hb)
  have HOl := Lib.hid (HOl.out.later hb)
  have HOr := Lib.hid (HOr.out.later hb)
  have HB := Lib.hid (chain HB.out hb)
  clear hb
  cases hw : withB n V m U with
  | false =>
    go_wp2_with fail
    refine (alike_same px n cx V p c _ HCx.out (by omega) (HV.out.later HB.out)).mono ?_
    rintro e w15 ⟨rfl, hb⟩
    have HCx := Lib.hid (HCx.out.later hb)
    have HCy := Lib.hid (HCy.out.later hb)
    have HOl := Lib.hid (HOl.out.later hb)
    have HOr := Lib.hid (HOr.out.later hb)
    have HB := Lib.hid (chain HB.out hb)
    clear hb
    go_wp2_with fail
    refine (alike_same py m cy U q d _ HCy.out (by omega) (HU.out.later HB.out)).mono ?_
    rintro e w16 ⟨rfl, hb⟩
    have HCx := Lib.hid (HCx.out.later hb)
    have HCy := Lib.hid (HCy.out.later hb)
    have HOl := Lib.hid (HOl.out.later hb)
    have HOr := Lib.hid (HOr.out.later hb)
    have HB := Lib.hid (chain HB.out hb)
    clear hb
    go_wp2_with fail
    refine (known14_any _).mono ?_
    rintro e w17 ⟨rfl, hb⟩
    have HCx := Lib.hid (HCx.out.later hb)
    have HCy := Lib.hid (HCy.out.later hb)
    have HOl := Lib.hid (HOl.out.later hb)
    have HOr := Lib.hid (HOr.out.later hb)
    have HB := Lib.hid (chain HB.out hb)
    clear hb
    have hbz := HB.out
    go_wp2_with fail
    go_ret
    exact ⟨rfl, hbz⟩
  | true =>
    go_wp2_with fail
    refine (refWithin_same q m d U p n c V _ (HU.out.later HB.out) (by omega) (HV.out.later HB.out) (by omega)).mono ?_
    rintro e w15 ⟨rfl, hb⟩
    have HCx := Lib.hid (HCx.out.later hb)
    have HCy := Lib.hid (HCy.out.later hb)
    have HOl := Lib.hid (HOl.out.later hb)
    have HOr := Lib.hid (HOr.out.later hb)
    have HB := Lib.hid (chain HB.out hb)
    clear hb
    go_wp2_with fail
    refine (alike_same px n cx V p c _ HCx.out (by omega) (HV.out.later HB.out)).mono ?_
    rintro e w16 ⟨rfl, hb⟩
    have HCx := Lib.hid (HCx.out.later hb)
    have HCy := Lib.hid (HCy.out.later hb)
    have HOl := Lib.hid (HOl.out.later hb)
    have HOr := Lib.hid (HOr.out.later hb)
    have HB := Lib.hid (chain HB.out hb)
    clear hb
    go_wp2_with fail
    refine (alike_same py m cy U q d _ HCy.out (by omega) (HU.out.later HB.out)).mono ?_
    rintro e w17 ⟨rfl, hb⟩
    have HCx := Lib.hid (HCx.out.later hb)
    have HCy := Lib.hid (HCy.out.later hb)
    have HOl := Lib.hid (HOl.out.later hb)
    have HOr := Lib.hid (HOr.out.later hb)
    have HB := Lib.hid (chain HB.out hb)
    clear hb
    go_wp2_with fail
    refine (known14_any _).mono ?_
    rintro e w18 ⟨rfl, hb⟩
    have HCx := Lib.hid (HCx.out.later hb)
    have HCy := Lib.hid (HCy.out.later hb)
    have HOl := Lib.hid (HOl.out.later hb)
    have HOr := Lib.hid (HOr.out.later hb)
    have HB := Lib.hid (chain HB.out hb)
    clear hb
    have hbz := HB.out
    go_wp2_with fail
    go_ret
    exact ⟨rfl, hbz⟩
set_option maxRecDepth 100000 in
set_option maxHeartbeats 3000000 in
theorem forms_long (p : Option Addr) (n c : Nat) (V : Nat → Int) (q : Option Addr) (m d : Nat) (U : Nat → Int) (w : World) (hV : LitsIn w p n V) (hI : ∀ i, i < n → I64 (V i)) (hp : p = none → c = 0) (hU : LitsIn w q m U) (hm : m ≤ 300) (hJ : ∀ i, i < m → I64 (U i)) (hq : q = none → d = 0) (hn : n ≤ 6000) (hn1 : 5000 < n) (hn2 : 300 < n) :
    Calls Try.prog 3 #[.slice p n c, .slice q m d] w fun e w' => e = .returned (.bool true) ∧ Below w.heap.size w w' := by
  obtain ⟨k, Z, er, hk, hyes, hno, h1, h2⟩ := normal_same n V (by omega)
  have H1 := Lib.hid h1
  have H2 := Lib.hid h2
  have HV := Lib.hid hV
  have HU := Lib.hid hU
  have HP := Lib.hid hp
  have HQ := Lib.hid hq
  have HI := Lib.hid hI
  have HJ := Lib.hid hJ
  have HB := Lib.hid (below_self w)
  have HEQ := eql_self
  have hmay : ¬ MayP n V := fun h => by have := h.1; omega
  obtain ⟨rfl, rfl⟩ := hno hmay
  have hgm : false = true ↔ MayP n V := ⟨(fun h => by cases h), (fun h => absurd h hmay)⟩
  have HGM := Lib.hid hgm
  clear hgm hmay
  clear hV hU h1 h2 hp hq hyes hno hI hJ
  go_enter Try.func3, Try.ntmps3
  go_wp2_with fail
  refine (copied_any p n c V _ (HV.out.later HB.out) (by omega) HP.out).mono ?_
  rintro e w1 ⟨v, rfl, ho, hb⟩
  obtain ⟨px, cx, rfl, _, hL, _⟩ := own_row ho
  have HB := Lib.hid (chain HB.out hb)
  have HCx := Lib.hid hL
  clear ho hL hb
  go_wp2_with fail
  refine (copied_any q m d U _ (HU.out.later HB.out) (by omega) HQ.out).mono ?_
  rintro e w2 ⟨v, rfl, ho, hb⟩
  obtain ⟨py, cy, rfl, _, hL, _⟩ := own_row ho
  have HCx := Lib.hid (HCx.out.later hb)
  have HB := Lib.hid (chain HB.out hb)
  have HCy := Lib.hid hL
  clear ho hL hb
  go_wp2_with fail
  refine (H1.out _ px cx HCx.out).mono ?_
  rintro e w3 ⟨⟨pl, cl, rfl, hx⟩, hb⟩
  have HCx := Lib.hid (HCx.out.later hb)
  have HCy := Lib.hid (HCy.out.later hb)
  have HB := Lib.hid (chain HB.out hb)
  have HOl := Lib.hid hx
  clear hx hb
  go_wp2_with fail
  refine (may_yes px n cx V _ HCx.out (by omega) false HGM.out).mono ?_
  rintro e w4 ⟨rfl, hb⟩
  have HCx := Lib.hid (HCx.out.later hb)
  have HCy := Lib.hid (HCy.out.later hb)
  have HOl := Lib.hid (HOl.out.later hb)
  have HB := Lib.hid (chain HB.out hb)
  clear hb
  go_wp2_with fail
  refine (refMay_yes p n c V _ (HV.out.later HB.out) (by omega) false HGM.out).mono ?_
  rintro e w5 ⟨rfl, hb⟩
  have HCx := Lib.hid (HCx.out.later hb)
  have HCy := Lib.hid (HCy.out.later hb)
  have HOl := Lib.hid (HOl.out.later hb)
  have HB := Lib.hid (chain HB.out hb)
  clear hb
  go_wp2_with fail
  refine (refMay_yes p n c V _ (HV.out.later HB.out) (by omega) false HGM.out).mono ?_
  rintro e w6 ⟨rfl, hb⟩
  have HCx := Lib.hid (HCx.out.later hb)
  have HCy := Lib.hid (HCy.out.later hb)
  have HOl := Lib.hid (HOl.out.later hb)
  have HB := Lib.hid (chain HB.out hb)
  clear hb
  go_wp2_with fail
  refine (known14_any _).mono ?_
  rintro e w7 ⟨rfl, hb⟩
  have HCx := Lib.hid (HCx.out.later hb)
  have HCy := Lib.hid (HCy.out.later hb)
  have HOl := Lib.hid (HOl.out.later hb)
  have HB := Lib.hid (chain HB.out hb)
  clear hb
  have hbz := HB.out
  go_wp2_with fail
  go_ret
  exact ⟨rfl, hbz⟩
theorem forms_any {w : World} (p : Option Addr) (n c : Nat) (V : Nat → Int) (hV : LitsIn w p n V) (hn : n ≤ 9223372036854775807) (hI : ∀ i, i < n → I64 (V i)) (hp : p = none → c = 0) (q : Option Addr) (m d : Nat) (U : Nat → Int) (hU : LitsIn w q m U) (hm : m ≤ 9223372036854775807) (hJ : ∀ i, i < m → I64 (U i)) (hq : q = none → d = 0) (W : World) (hW : W = w := by rfl) :
    Calls Try.prog 3 #[.slice p n c, .slice q m d] W fun e w' => e = .returned (.bool true) ∧ Below W.heap.size W w' := by
  subst hW
  by_cases h : (300 < n ∧ n ≤ 5000) ∨ (300 < n ∧ 5000 < n ∧ 6000 < n) ∨ (n ≤ 300 ∧ n ≤ 6000 ∧ 300 < m) ∨ (300 < n ∧ 5000 < n ∧ n ≤ 6000 ∧ 300 < m)
  · exact forms_out p n c q m d W h hn hm
  · by_cases h5 : n ≤ 300
    · by_cases hmay : MayP n V
      · exact forms_yes p n c V q m d U W hV hI hp hU (by omega) hJ hq h5 hmay
      · exact forms_no p n c V q m d U W hV hI hp hU (by omega) hJ hq h5 hmay
    · exact forms_long p n c V q m d U W hV hI hp hU (by omega) hJ hq (by omega) (by omega) (by omega)
end Go.Proofs.Ytiadnifbjdnflaa
