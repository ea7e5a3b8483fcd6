/- juristref14: Holds, Alike, SaysNothing, Copied. -/
import Derived.Test.YtiadnifbjdnflaaSetB
namespace Go.Proofs.Ytiadnifbjdnflaa
open Go Go.RowKit

/-- does a literal hold by an assignment? -/
def bitB (bits a : Int) : Bool := (bits / 2 ^ (a.toNat - 1)).tmod 2 == 1
def litB (bits x : Int) : Bool := bitB bits (absI x) == decide (0 < x)
def holdB (bits : Int) (n : Nat) (V : Nat → Int) : Bool := anyB n fun i => litB bits (V i)
set_option maxRecDepth 100000 in
set_option maxHeartbeats 800000 in
theorem holds39_any (p : Option Addr) (n c : Nat) (V : Nat → Int) (bits : Int) (w : World) (hV : LitsIn w p n V) (hn : n ≤ 9223372036854775807) (hR : ∀ i, i < n → V i ≠ 0 ∧ -60 ≤ V i ∧ V i ≤ 60) (hb0 : 0 ≤ bits) (hb1 : bits ≤ 18446744073709551615) :
    Calls Try.prog 39 #[.slice p n c, .int .u64 bits] w fun e w' => e = .returned (.bool (holdB bits n V)) ∧ w' = w := by
  have HV := Lib.hid hV
  have HR := Lib.hid hR
  clear hV hR
  go_enter Try.func39, Try.ntmps39
  go_wp2_with fail
  go_loopw [5] (fun i wr => ∃ j : Nat, j ≤ n ∧ i = .int .i64 j ∧ w = wr ∧ ∀ t, t < j → litB bits (V t) = false) (fun i _ => n - (intOf i).toNat)
  case atStart => exact ⟨0, by omega, rfl, rfl, fun t ht => by omega⟩
  case round =>
    obtain ⟨j, hj, rfl, rfl, hall⟩ := hrel
    have HALL := Lib.hid hall
    clear hall
    by_cases hlt : j < n
    · obtain ⟨b, off, rfl, hV⟩ := HV.out (by omega)
      have hj0 : (0 : Int) ≤ (j : Int) := by omega
      have hj1 : (j : Int) < (n : Int) := by omega
      have cv := hV j hlt
      clear hV
      obtain ⟨r0, r1, r2⟩ := HR.out j hlt
      have H1 := atom_any (V j) w (by omega) (by omega)
      have ha : 1 ≤ absI (V j) ∧ absI (V j) ≤ 60 := by unfold absI; omega
      obtain ⟨a0, a1⟩ := ha
      have R0 := Lib.hid r0
      clear r0
      cases hl : litB bits (V j) with
      | true =>
        have q : (((bits / 2 ^ ((absI (V j)).toNat - 1)).tmod 2 == 1) == decide (0 < V j)) = true := hl
        have HH := Lib.hid (anyB_yes (f := fun i => litB bits (V i)) j hlt hl)
        have HG := Lib.hid (show holdB bits n V = anyB n (fun i => litB bits (V i)) from rfl)
        clear hl
        generalize absI (V j) = a at *
        go_wp2_with fail
        refine H1.mono ?_
        rintro e w1 ⟨rfl, rfl⟩
        clear H1
        go_wp2_with fail
        go_ret
        exact ⟨by rw [HG.out, HH.out]; rfl, rfl⟩
      | false =>
        have q : (((bits / 2 ^ ((absI (V j)).toNat - 1)).tmod 2 == 1) == decide (0 < V j)) = false := hl
        have HH := Lib.hid hl
        clear hl
        generalize absI (V j) = a at *
        go_wp2_with fail
        refine H1.mono ?_
        rintro e w1 ⟨rfl, rfl⟩
        clear H1
        go_wp2_with fail
        go_roundw
        case rel => exact ⟨j + 1, by omega, by go_num, trivial, fun t ht => by
          by_cases htj : t < j
          · exact HALL.out t htj
          · obtain rfl : t = j := by omega
            exact HH.out⟩
        case measure => simp [intOf]; omega
    · obtain rfl : j = n := by omega
      have HH := Lib.hid (anyB_no (f := fun i => litB bits (V i)) HALL.out)
      have HG := Lib.hid (show holdB bits j V = anyB j (fun i => litB bits (V i)) from rfl)
      go_wp2_with fail
      go_ret
      exact ⟨by rw [HG.out, HH.out]; rfl, rfl⟩
/-- the same lists? -/
def alikeB (n : Nat) (V : Nat → Int) (m : Nat) (U : Nat → Int) : Bool := decide (n = m) && !anyB n fun i => V i != U i
theorem alikeB_yes {n m : Nat} {V U : Nat → Int} (h : n = m) (h2 : ∀ i, i < n → V i = U i) : alikeB n V m U = true := by
  unfold alikeB
  rw [decide_eq_true h, anyB_no (fun i hi => by simp [h2 i hi])]
  rfl
theorem alikeB_len {n m : Nat} {V U : Nat → Int} (h : n ≠ m) : alikeB n V m U = false := by
  unfold alikeB
  rw [decide_eq_false h]
  rfl
theorem alikeB_at {n m : Nat} {V U : Nat → Int} (i : Nat) (hi : i < n) (h2 : V i ≠ U i) : alikeB n V m U = false := by
  unfold alikeB
  rw [anyB_yes (f := fun i => V i != U i) i hi (by simp [h2])]
  simp
set_option maxRecDepth 100000 in
set_option maxHeartbeats 800000 in
theorem alike_any (p : Option Addr) (n c : Nat) (V : Nat → Int) (q : Option Addr) (m d : Nat) (U : Nat → Int) (w : World) (hV : LitsIn w p n V) (hn : n ≤ 9223372036854775807) (hU : LitsIn w q m U) (hm : m ≤ 9223372036854775807) :
    Calls Try.prog 23 #[.slice p n c, .slice q m d] w fun e w' => e = .returned (.bool (alikeB n V m U)) ∧ Below w.heap.size w w' := by
  have HV := Lib.hid hV
  have HU := Lib.hid hU
  clear hV hU
  by_cases hnm : n = m
  · subst hnm
    go_enter Try.func23, Try.ntmps23
    go_wp2_with fail
    go_loopw [5] (fun i wr => ∃ j : Nat, j ≤ n ∧ i = .int .i64 j ∧ Below w.heap.size w wr ∧ ∀ t, t < j → V t = U t) (fun i _ => n - (intOf i).toNat)
    case atStart => exact ⟨0, by omega, rfl, Below.refl _ _, fun t ht => by omega⟩
    case round =>
      obtain ⟨j, hj, rfl, hb, hall⟩ := hrel
      have HALL := Lib.hid hall
      have HB := Lib.hid hb
      clear hall hb
      by_cases hlt : j < n
      · obtain ⟨b, off, rfl, hV⟩ := HV.out (by omega)
        obtain ⟨b2, off2, rfl, hU⟩ := HU.out (by omega)
        have hj0 : (0 : Int) ≤ (j : Int) := by omega
        have hj1 : (j : Int) < (n : Int) := by omega
        have cv := (hV.later HB.out) j hlt
        have cu := (hU.later HB.out) j hlt
        clear hV hU
        have hb2 := HB.out.trans ((below_drewN wr 1).mono HB.out.size)
        by_cases he : V j = U j
        · have q1 : (V j != U j) = false := by simp [he]
          have HE := Lib.hid he
          clear he
          go_wp2_with fail
          go_quiet (fail)
          go_wp2
          go_roundw
          case rel => exact ⟨j + 1, by omega, by go_num, HB.out.trans ((below_drewN _ _).mono HB.out.size), fun t ht => by
            by_cases htj : t < j
            · exact HALL.out t htj
            · obtain rfl : t = j := by omega
              exact HE.out⟩
          case measure => simp [intOf]; omega
        · have q1 : (V j != U j) = true := by simp [he]
          have HE := Lib.hid (alikeB_at (m := n) j hlt he)
          clear he
          go_wp2_with fail
          go_quiet (fail)
          go_wp2
          go_ret
          exact ⟨by rw [HE.out]; rfl, HB.out.trans ((below_drewN _ _).mono HB.out.size)⟩
      · obtain rfl : j = n := by omega
        have HE := Lib.hid (alikeB_yes rfl HALL.out)
        have hb2 := HB.out
        go_wp2_with fail
        go_ret
        exact ⟨by rw [HE.out]; rfl, hb2⟩
  · have HE := Lib.hid (alikeB_len (V := V) (U := U) hnm)
    have q1 : ((n : Int) == (m : Int)) = false := by rw [beq_eq_false_iff_ne]; omega
    have q2 : ((n : Int) != (m : Int)) = true := by rw [bne_iff_ne]; omega
    go_enter Try.func23, Try.ntmps23
    go_wp2_with fail
    go_ret
    exact ⟨by rw [HE.out]; rfl, Below.refl _ _⟩
end Go.Proofs.Ytiadnifbjdnflaa
