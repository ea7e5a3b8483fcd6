/- The walk of the law CyclesSound. -/
import Derived.Test.YtiadnifbjdnflaaTele
namespace Go.Proofs.Ytiadnifbjdnflaa
open Go Go.RowKit

theorem lits_some (nA n : Nat) (K V : Nat → Int) (hA : nA ≤ 1000000) (hn : n ≤ 5000) : ∃ l : List LitT, l.length = n ∧ ((∀ i, i < n → okA nA K (V i)) → ∀ i, i < n → (nums l)[i]? = some (V i)) := by
  by_cases h : ∀ i, i < n → okA nA K (V i)
  · obtain ⟨l, hl, hz⟩ := lits_of V n (ok_may nA n K V hA hn h).2
    exact ⟨l, hl, fun _ => hz⟩
  · exact ⟨List.replicate n ⟨1, by decide⟩, by simp, fun h' => absurd h' h⟩
set_option maxRecDepth 100000 in
set_option maxHeartbeats 800000 in
theorem sound_out (p : Option Addr) (nA cA : Nat) (q : Option Addr) (n c : Nat) (r : Option Addr) (m cp : Nat) (w : World) (h : 1000 < nA ∨ (nA ≤ 1000 ∧ 300 < n) ∨ (nA ≤ 1000 ∧ n ≤ 300 ∧ 1000 < m)) (h1 : nA ≤ 9223372036854775807) (h2 : n ≤ 9223372036854775807) (h3 : m ≤ 9223372036854775807) :
    Calls Try.prog 13 #[.slice p nA cA, .slice q n c, .slice r m cp] w fun e w' => e = .returned (.bool true) ∧ Below w.heap.size w w' := by
  rcases h with h | ⟨h, h'⟩ | ⟨h, h', h''⟩
  all_goals
    go_enter Try.func13, Try.ntmps13
    go_wp2_with fail
    refine (known_any _).mono ?_
    rintro e w1 ⟨rfl, hb⟩
    go_wp2_with fail
    go_ret
    exact ⟨rfl, hb⟩
/-- an edge holds by values. -/
def Fit (m : Nat) (Vv : Nat → Int) (x y c : Int) : Prop := 0 ≤ x ∧ x < (m : Int) ∧ 0 ≤ y ∧ y < (m : Int) ∧ Vv x.toNat - Vv y.toNat ≤ c
set_option maxRecDepth 100000 in
set_option maxHeartbeats 2000000 in
theorem sound_in (p : Option Addr) (nA cA : Nat) (K A B C : Nat → Int) (q : Option Addr) (n c : Nat) (V : Nat → Int) (r : Option Addr) (m cp : Nat) (Vv : Nat → Int) (w : World) (hA : AtomsIn w p nA K A B C) (hnA : nA ≤ 1000) (hC : ∀ i, i < nA → I64 (C i)) (hV : LitsIn w q n V) (hn : n ≤ 300) (hI : ∀ i, i < n → I64 (V i)) (hW : LitsIn w r m Vv) (hm : m ≤ 1000) :
    Calls Try.prog 13 #[.slice p nA cA, .slice q n c, .slice r m cp] w fun e w' => e = .returned (.bool true) ∧ Below w.heap.size w w' := by
  obtain ⟨l, hl, hz⟩ := lits_some nA n K V (by omega) (by omega)
  have HCK := Lib.hid (fun W hA hV => check_any p nA cA K A B C q n c V W hA (by omega) hC hV (by omega) hI l hl hz)
  have HA := Lib.hid hA
  have HV := Lib.hid hV
  have HC := Lib.hid hC
  have HW := Lib.hid hW
  clear hA hV hC hW hz hl hI
  go_enter Try.func13, Try.ntmps13
  go_wp2_with fail
  go_loopw [29] (fun i wr => ∃ j : Nat, j ≤ m ∧ i = .int .i64 j ∧ w = wr ∧ ∀ t, t < j → -2305843009213693952 ≤ Vv t ∧ Vv t ≤ 2305843009213693952) (fun i _ => m - (intOf i).toNat)
  case atStart => exact ⟨0, by omega, rfl, rfl, fun t ht => by omega⟩
  case round =>
    obtain ⟨j, hj, rfl, rfl, hall⟩ := hrel
    have HALL := Lib.hid hall
    clear hall
    by_cases hlt : j < m
    · have hj0 : (0 : Int) ≤ (j : Int) := by omega
      have hj1 : (j : Int) < (m : Int) := by omega
      obtain ⟨b, off, rfl, hv⟩ := HW.out (by omega)
      have cv := hv j hlt
      clear hv
      have key : (2305843009213693952 < Vv j) ∨ (Vv j ≤ 2305843009213693952 ∧ Vv j < -2305843009213693952) ∨ (Vv j ≤ 2305843009213693952 ∧ -2305843009213693952 ≤ Vv j) := by omega
      rcases key with h | ⟨h, h2⟩ | ⟨h, h2⟩
      · go_wp2_with fail
        refine (known_any _).mono ?_
        rintro e w1 ⟨rfl, hb⟩
        go_wp2_with fail
        go_ret
        exact ⟨rfl, hb⟩
      · go_wp2_with fail
        refine (known_any _).mono ?_
        rintro e w1 ⟨rfl, hb⟩
        go_wp2_with fail
        go_ret
        exact ⟨rfl, hb⟩
      · have HH := Lib.hid (And.intro h2 h)
        go_wp2_with fail
        go_roundw
        case rel => exact ⟨j + 1, by omega, by go_num, trivial, fun t ht => by
          by_cases htj : t < j
          · exact HALL.out t htj
          · obtain rfl : t = j := by omega
            exact HH.out⟩
        case measure => simp [intOf]; omega
    · obtain rfl : j = m := by omega
      go_wp2_with fail
      refine (HCK.out _ HA.out HV.out).mono ?_
      rintro e w1 ⟨⟨hb0, rfl⟩ | ⟨hb0, hg, rfl⟩ | ⟨hb0, hg, v', rfl, ho⟩, hb⟩
      · clear hb0
        go_wp2_with fail
        refine (known_any _).mono ?_
        rintro e w2 ⟨rfl, hb2⟩
        have hb3 := chain hb hb2
        clear hb hb2
        go_wp2_with fail
        go_ret
        exact ⟨rfl, hb3⟩
      · clear hb0 hg
        go_wp2_with fail
        refine (known_any _).mono ?_
        rintro e w2 ⟨rfl, hb2⟩
        have hb3 := chain hb hb2
        clear hb hb2
        go_wp2_with fail
        go_ret
        exact ⟨rfl, hb3⟩
      · have HB := Lib.hid hb
        have HG := Lib.hid hg
        have HOK := Lib.hid hb0
        clear hb hg hb0 ho HCK
        go_wp2_with fail
        go_loopw [57] (fun i wr => ∃ k : Nat, k ≤ n ∧ i = .int .i64 k ∧ Below w.heap.size w wr ∧ ∀ t, t < k → Fit j Vv (eX A B (V t)) (eX B A (V t)) (eC C (V t))) (fun i _ => n - (intOf i).toNat)
        case atStart => exact ⟨0, by omega, rfl, HB.out, fun t ht => by omega⟩
        case round =>
          obtain ⟨k, hk, rfl, hb, hfit⟩ := hrel
          have HFIT := Lib.hid hfit
          have HB := Lib.hid hb
          clear hb hfit
          by_cases hlt : k < n
          · have hk0 : (0 : Int) ≤ (k : Int) := by omega
            have hk1 : (k : Int) < (n : Int) := by omega
            obtain ⟨b, off, rfl, hv⟩ := HV.out (by omega)
            have cv := (hv.later HB.out) k hlt
            clear hv
            have H1 := of_ok p nA cA (V k) K A B C wr (HA.out.later HB.out) (by omega) HC.out (HOK.out k hlt)
            have HNEW := Lib.hid (show Fit j Vv (eX A B (V k)) (eX B A (V k)) (eC C (V k)) → ∀ t, t < k + 1 → Fit j Vv (eX A B (V t)) (eX B A (V t)) (eC C (V t)) from fun h t ht => by
              by_cases htk : t < k
              · exact HFIT.out t htk
              · obtain rfl : t = k := by omega
                exact h)
            generalize eX A B (V k) = x at *
            generalize eX B A (V k) = y at *
            generalize eC C (V k) = z at *
            go_wp2_with fail
            refine H1.mono ?_
            rintro e w2 ⟨rfl, hb2⟩
            have hb3 := chain HB.out hb2
            have HB4 := Lib.hid (chain hb3 (below1 w2 (.cells #[.int .i64 x, .int .i64 y, .int .i64 z] 56)))
            have HV4 := Lib.hid (HW.out.later HB4.out)
            clear hb2 hb3 H1 cv
            have x0 : (w2.alloc (.cells #[.int .i64 x, .int .i64 y, .int .i64 z] 56)).cell? ⟨w2.heap.size, 0, none⟩ = some (.int .i64 x) := by simp [go_sem]
            have x1 : (w2.alloc (.cells #[.int .i64 x, .int .i64 y, .int .i64 z] 56)).cell? ⟨w2.heap.size, 1, none⟩ = some (.int .i64 y) := by simp [go_sem]
            have x2 : (w2.alloc (.cells #[.int .i64 x, .int .i64 y, .int .i64 z] 56)).cell? ⟨w2.heap.size, 2, none⟩ = some (.int .i64 z) := by simp [go_sem]
            have key : x < 0 ∨ (0 ≤ x ∧ (j : Int) ≤ x) ∨ (0 ≤ x ∧ x < (j : Int) ∧ y < 0) ∨ (0 ≤ x ∧ x < (j : Int) ∧ 0 ≤ y ∧ (j : Int) ≤ y) ∨ (0 ≤ x ∧ x < (j : Int) ∧ 0 ≤ y ∧ y < (j : Int)) := by omega
            rcases key with h | ⟨h, h'⟩ | ⟨h, h', h''⟩ | ⟨h, h', h'', h'''⟩ | ⟨h, h', h'', h'''⟩
            iterate 4
              · go_wp2_with fail
                refine (known_any _).mono ?_
                rintro e w3 ⟨rfl, hb5⟩
                have hb6 := chain HB4.out hb5
                clear hb5
                go_wp2_with fail
                go_ret
                exact ⟨rfl, hb6⟩
            · obtain ⟨xi, rfl⟩ : ∃ xi : Nat, x = xi := ⟨x.toNat, by omega⟩
              obtain ⟨yi, rfl⟩ : ∃ yi : Nat, y = yi := ⟨y.toNat, by omega⟩
              obtain ⟨bv, ov, rfl, hvv⟩ := HV4.out (by omega)
              have b1 := HALL.out xi (by omega)
              have b2 := HALL.out yi (by omega)
              have H2 := holds_any bv ov j cp xi yi z Vv _ hvv (by omega) (by omega) (by omega) (by omega) (by omega)
              have HD := Lib.hid (show decide (Vv xi - Vv yi ≤ z) = true → Fit j Vv (xi : Int) (yi : Int) z from fun hd => ⟨h, h', h'', h''', by simpa using hd⟩)
              clear b1 b2 hvv
              cases hd : decide (Vv xi - Vv yi ≤ z) with
              | false =>
                rw [hd] at H2
                clear hd
                go_wp2_with fail
                refine H2.mono ?_
                rintro e w3 ⟨rfl, hb5⟩
                have hb6 := chain HB4.out hb5
                clear hb5 H2
                go_wp2_with fail
                refine (known_any _).mono ?_
                rintro e w4 ⟨rfl, hb5⟩
                have hb7 := chain hb6 hb5
                clear hb5 hb6
                go_wp2_with fail
                go_ret
                exact ⟨rfl, hb7⟩
              | true =>
                rw [hd] at H2
                have HF := Lib.hid (HNEW.out (HD.out hd))
                clear hd
                go_wp2_with fail
                refine H2.mono ?_
                rintro e w3 ⟨rfl, hb5⟩
                have hb6 := chain HB4.out hb5
                clear hb5 H2
                go_wp2_with fail
                go_roundw
                case rel => exact ⟨k + 1, by omega, by go_num, hb6, HF.out⟩
                case measure => simp [intOf]; omega
          · obtain rfl : k = n := by omega
            exact (good_false k A B C V (fun x => Vv x.toNat) HG.out (fun i hi => (HFIT.out i hi).2.2.2.2)).elim
end Go.Proofs.Ytiadnifbjdnflaa
