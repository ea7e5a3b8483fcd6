/- The walk of the law CyclesChecks. -/
import Derived.Test.YtiadnifbjdnflaaRefCheck
import Derived.Test.YtiadnifbjdnflaaSoundWalk
namespace Go.Proofs.Ytiadnifbjdnflaa
open Go Go.RowKit

/-- a call's outcome: a list and a number. -/
def Outs (k : Nat) (Z : Nat → Int) (er : Int) (e : Ending) (w' : World) : Prop := ∃ (p : Option Addr) (c : Nat), e = .returned (.tuple #[.slice p k c, .int .i64 er]) ∧ LitsIn w' p k Z
theorem formL_len (l : List LitT) : (formL l).length ≤ l.length := by
  have h := formL_spec l
  refine srt_len (fun i => (nums l).getD i 0) l.length (formL l) (srt_nodup h.1) (fun x hx => ?_)
  obtain ⟨i, hi, he⟩ := List.getElem_of_mem ((h.2 x).1 hx)
  have hi' : i < l.length := by simpa [nums] using hi
  exact ⟨i, hi', by simp [List.getD, List.getElem?_eq_getElem hi, he]⟩
theorem check_same (p : Option Addr) (nA cA : Nat) (K A B C : Nat → Int) (n : Nat) (V : Nat → Int) (hnA : nA ≤ 1000000) (hC : ∀ i, i < nA → I64 (C i)) (hn : n ≤ 5000) (hI : ∀ i, i < n → I64 (V i)) :
    ∃ (k : Nat) (Z : Nat → Int) (er : Int), k ≤ 5000 ∧ (∀ W q c, AtomsIn W p nA K A B C → LitsIn W q n V → Calls Try.prog 45 #[.slice p nA cA, .slice q n c] W fun e w' => Outs k Z er e w' ∧ Below W.heap.size W w') ∧
      (∀ W q c, AtomsIn W p nA K A B C → LitsIn W q n V → Calls Try.prog 46 #[.slice p nA cA, .slice q n c] W fun e w' => Outs k Z er e w' ∧ Below W.heap.size W w') := by
  obtain ⟨l, hl, hz⟩ := lits_some nA n K V hnA hn
  by_cases h1 : ∀ i, i < n → okA nA K (V i)
  · by_cases h2 : Good n A B C V
    · refine ⟨(formL l).length, fun i => (formL l).getD i 0, 0, by have := formL_len l; omega, fun W q c hA hV => ?_, fun W q c hA hV => ?_⟩
      · refine (check_any p nA cA K A B C q n c V W hA hnA hC hV hn hI l hl hz).mono ?_
        rintro e w' ⟨⟨⟨i, hi, hb⟩, _⟩ | ⟨_, hb, _⟩ | ⟨_, _, v', rfl, ho⟩, hb'⟩
        · exact absurd (h1 i hi) hb
        · exact absurd h2 hb
        · obtain ⟨p', c', rfl, _, hL, _⟩ := own_in ho rfl
          exact ⟨⟨p', c', rfl, hL⟩, hb'⟩
      · refine (refCheck_any p nA cA K A B C q n c V W hA hnA hC hV hn hI l hl hz).mono ?_
        rintro e w' ⟨⟨⟨i, hi, hb⟩, _⟩ | ⟨_, hb, _⟩ | ⟨_, _, v', rfl, ho⟩, hb'⟩
        · exact absurd (h1 i hi) hb
        · exact absurd h2 hb
        · obtain ⟨p', c', rfl, _, hL, _⟩ := own_in ho rfl
          exact ⟨⟨p', c', rfl, hL⟩, hb'⟩
    · refine ⟨0, fun _ => 0, 5, by omega, fun W q c hA hV => ?_, fun W q c hA hV => ?_⟩
      · refine (check_any p nA cA K A B C q n c V W hA hnA hC hV hn hI l hl hz).mono ?_
        rintro e w' ⟨⟨⟨i, hi, hb⟩, _⟩ | ⟨_, hb, rfl⟩ | ⟨_, hb, _⟩, hb'⟩
        · exact absurd (h1 i hi) hb
        · exact ⟨⟨none, 0, rfl, fun h => by omega⟩, hb'⟩
        · exact absurd hb h2
      · refine (refCheck_any p nA cA K A B C q n c V W hA hnA hC hV hn hI l hl hz).mono ?_
        rintro e w' ⟨⟨⟨i, hi, hb⟩, _⟩ | ⟨_, hb, rfl⟩ | ⟨_, hb, _⟩, hb'⟩
        · exact absurd (h1 i hi) hb
        · exact ⟨⟨none, 0, rfl, fun h => by omega⟩, hb'⟩
        · exact absurd hb h2
  · refine ⟨0, fun _ => 0, 2, by omega, fun W q c hA hV => ?_, fun W q c hA hV => ?_⟩
    · refine (check_any p nA cA K A B C q n c V W hA hnA hC hV hn hI l hl hz).mono ?_
      rintro e w' ⟨⟨_, rfl⟩ | ⟨hb, _⟩ | ⟨hb, _⟩, hb'⟩
      · exact ⟨⟨none, 0, rfl, fun h => by omega⟩, hb'⟩
      · exact absurd hb h1
      · exact absurd hb h1
    · refine (refCheck_any p nA cA K A B C q n c V W hA hnA hC hV hn hI l hl hz).mono ?_
      rintro e w' ⟨⟨_, rfl⟩ | ⟨hb, _⟩ | ⟨hb, _⟩, hb'⟩
      · exact ⟨⟨none, 0, rfl, fun h => by omega⟩, hb'⟩
      · exact absurd hb h1
      · exact absurd hb h1
theorem alike_same (p : Option Addr) (n c : Nat) (V : Nat → Int) (q : Option Addr) (d : Nat) (w : World) (hV : LitsIn w p n V) (hn : n ≤ 9223372036854775807) (hU : LitsIn w q n V) :
    Calls Try.prog 23 #[.slice p n c, .slice q n d] w fun e w' => e = .returned (.bool true) ∧ Below w.heap.size w w' := by
  have h := alike_any p n c V q n d V w hV hn hU hn
  rw [alikeB_yes rfl (fun _ _ => rfl)] at h
  exact h
set_option maxRecDepth 100000 in
set_option maxHeartbeats 800000 in
theorem checks_out (p : Option Addr) (nA cA : Nat) (q : Option Addr) (n c : Nat) (w : World) (h : 1000 < nA ∨ (nA ≤ 1000 ∧ 300 < n)) (h1 : nA ≤ 9223372036854775807) (h2 : n ≤ 9223372036854775807) :
    Calls Try.prog 12 #[.slice p nA cA, .slice q n c] w fun e w' => e = .returned (.bool true) ∧ Below w.heap.size w w' := by
  rcases h with h | ⟨h, h'⟩
  all_goals
    go_enter Try.func12, Try.ntmps12
    go_wp2_with fail
    refine (known_any _).mono ?_
    rintro e w1 ⟨rfl, hb⟩
    go_wp2_with fail
    go_ret
    exact ⟨rfl, hb⟩
set_option maxRecDepth 100000 in
set_option maxHeartbeats 2000000 in
theorem checks_in (p : Option Addr) (nA cA : Nat) (K A B C : Nat → Int) (q : Option Addr) (n c : Nat) (V : Nat → Int) (w : World) (hA : AtomsIn w p nA K A B C) (hnA : nA ≤ 1000) (hC : ∀ i, i < nA → I64 (C i)) (hV : LitsIn w q n V) (hn : n ≤ 300) (hI : ∀ i, i < n → I64 (V i)) (hq : q = none → c = 0) :
    Calls Try.prog 12 #[.slice p nA cA, .slice q n c] w fun e w' => e = .returned (.bool true) ∧ Below w.heap.size w w' := by
  obtain ⟨k, Z, er, hk, h1, h2⟩ := check_same p nA cA K A B C n V (by omega) hC (by omega) hI
  have H0 := copied_any q n c V w hV (by omega) hq
  have H1 := Lib.hid h1
  have H2 := Lib.hid h2
  have HA := Lib.hid hA
  have HV := Lib.hid hV
  clear hA hV hC hI h1 h2 hq
  have q1 : (er == er) = true := by simp
  go_enter Try.func12, Try.ntmps12
  go_wp2_with fail
  refine H0.mono ?_
  rintro e w1 ⟨v1, rfl, ho, hb1⟩
  obtain ⟨p1, c1, rfl, _, hL, _⟩ := own_row ho
  have HL := Lib.hid hL
  have HB := Lib.hid hb1
  clear ho hL hb1 H0
  go_wp2_with fail
  refine (H1.out _ p1 c1 (HA.out.later HB.out) HL.out).mono ?_
  rintro e w2 ⟨⟨p2, c2, rfl, hx⟩, hb2⟩
  have HX := Lib.hid hx
  have HL := Lib.hid (HL.out.later hb2)
  have HB := Lib.hid (chain HB.out hb2)
  clear hx hb2
  go_wp2_with fail
  refine (H2.out _ q c (HA.out.later HB.out) (HV.out.later HB.out)).mono ?_
  rintro e w3 ⟨⟨p3, c3, rfl, hy⟩, hb3⟩
  have HY := Lib.hid hy
  have HX := Lib.hid (HX.out.later hb3)
  have HL := Lib.hid (HL.out.later hb3)
  have HB := Lib.hid (chain HB.out hb3)
  clear hy hb3
  go_wp2_with fail
  refine (alike_same p2 k c2 Z p3 c3 _ HX.out (by omega) HY.out).mono ?_
  rintro e w4 ⟨rfl, hb4⟩
  have HL := Lib.hid (HL.out.later hb4)
  have HB := Lib.hid (chain HB.out hb4)
  clear hb4
  go_wp2_with fail
  refine (alike_same p1 n c1 V q c _ HL.out (by omega) (HV.out.later HB.out)).mono ?_
  rintro e w5 ⟨rfl, hb5⟩
  have HB := Lib.hid (chain HB.out hb5)
  clear hb5
  go_wp2_with fail
  refine (known_any _).mono ?_
  rintro e w6 ⟨rfl, hb6⟩
  have hb7 := chain HB.out hb6
  clear hb6
  go_wp2_with fail
  go_ret
  exact ⟨rfl, hb7⟩
theorem checks_any {w : World} (p : Option Addr) (nA cA : Nat) (K A B C : Nat → Int) (hA' : 0 < nA → ∃ b off, p = some ⟨b, off, none⟩ ∧ AtomsAt w b off nA K A B C) (hnA : nA ≤ 9223372036854775807) (hC : ∀ i, i < nA → I64 (C i)) (q : Option Addr) (n c : Nat) (V : Nat → Int) (hV : LitsIn w q n V) (hn : n ≤ 9223372036854775807) (hI : ∀ i, i < n → I64 (V i)) (hq : q = none → c = 0) (W : World) (hW : W = w := by rfl) :
    Calls Try.prog 12 #[.slice p nA cA, .slice q n c] W fun e w' => e = .returned (.bool true) ∧ Below W.heap.size W w' := by
  subst hW
  by_cases h : 1000 < nA ∨ (nA ≤ 1000 ∧ 300 < n)
  · exact checks_out p nA cA q n c W h hnA hn
  · exact checks_in p nA cA K A B C q n c V W hA' (by omega) hC hV (by omega) hI hq
end Go.Proofs.Ytiadnifbjdnflaa
