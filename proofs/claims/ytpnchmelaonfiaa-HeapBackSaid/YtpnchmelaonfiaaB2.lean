/- HeapBack: the law's walk. -/
import Derived.Test.YtpnchmelaonfiaaB1
namespace Go.Proofs.Ytpnchmelaonfiaa
open Go Go.RowKit

set_option maxRecDepth 100000 in
set_option maxHeartbeats 1000000 in
theorem back_any (p : Option Addr) (m c : Nat) (S : Nat → ByteArray) (q : Option Addr) (r c2 : Nat) (U : Nat → ByteArray) (mk : Int) (W : World) (hp : StrsIn W p m S) (hq : StrsIn W q r U) (hm : m ≤ 9223372036854775807) (hr : r ≤ 9223372036854775807) :
    Calls Try.prog 7 #[.slice p m c, .slice q r c2, .int .i64 mk] W fun e w' => e = .returned (.bool true) ∧ Below W.heap.size W w' := by
  have HP := Lib.hid hp
  have HQ := Lib.hid hq
  have HK := Lib.hid (fun W => known_any W)
  clear hp hq
  have key : 300 < m ∨ (m ≤ 300 ∧ 300 < r) ∨ (m ≤ 300 ∧ r ≤ 300 ∧ mk < 0) ∨ (m ≤ 300 ∧ r ≤ 300 ∧ ¬ mk < 0 ∧ 100 < mk) ∨ (m ≤ 300 ∧ r ≤ 300 ∧ ¬ mk < 0 ∧ ¬ 100 < mk) := by omega
  rcases key with g1 | ⟨g1, g2⟩ | ⟨g1, g2, g3⟩ | ⟨g1, g2, g3, g4⟩ | ⟨g1, g2, g3, g4⟩
  · have u1 : (300 : Int) < (m : Int) := by omega
    go_enter Try.func7, Try.ntmps7
    go_wp2_with fail
    refine (HK.out _).mono ?_
    rintro e w1 ⟨rfl, hb⟩
    go_wp2_with fail
    go_ret
    exact ⟨rfl, hb⟩
  · have u1 : ¬ (300 : Int) < (m : Int) := by omega
    have u2 : (300 : Int) < (r : Int) := by omega
    go_enter Try.func7, Try.ntmps7
    go_wp2_with fail
    refine (HK.out _).mono ?_
    rintro e w1 ⟨rfl, hb⟩
    go_wp2_with fail
    go_ret
    exact ⟨rfl, hb⟩
  · have u1 : ¬ (300 : Int) < (m : Int) := by omega
    have u2 : ¬ (300 : Int) < (r : Int) := by omega
    go_enter Try.func7, Try.ntmps7
    go_wp2_with fail
    refine (HK.out _).mono ?_
    rintro e w1 ⟨rfl, hb⟩
    go_wp2_with fail
    go_ret
    exact ⟨rfl, hb⟩
  · have u1 : ¬ (300 : Int) < (m : Int) := by omega
    have u2 : ¬ (300 : Int) < (r : Int) := by omega
    go_enter Try.func7, Try.ntmps7
    go_wp2_with fail
    refine (HK.out _).mono ?_
    rintro e w1 ⟨rfl, hb⟩
    go_wp2_with fail
    go_ret
    exact ⟨rfl, hb⟩
  have u1 : ¬ (300 : Int) < (m : Int) := by omega
  have u2 : ¬ (300 : Int) < (r : Int) := by omega
  have HT := Lib.hid (mineS_new W)
  have HBA := Lib.hid (below1 W (.cells #[.slice none 0 0, .slice none 0 0] 48))
  go_enter Try.func7, Try.ntmps7
  go_wp2_with fail
  generalize W.alloc (.cells #[.slice none 0 0, .slice none 0 0] 48) = w1 at *
  go_loopw [35] (fun i wr => ∃ j : Nat, j ≤ m ∧ i = .int .i64 j ∧ Below W.heap.size W wr ∧ MineS W.heap.size wr W.heap.size (strsOf j S) []) (fun i _ => m - (intOf i).toNat)
  case atStart => exact ⟨0, by omega, rfl, HBA.out, HT.out⟩
  case round =>
    obtain ⟨j, hj, rfl, hb, hr⟩ := hrel
    obtain ⟨wo, rfl⟩ : ∃ wo : World, wo = wr := ⟨_, rfl⟩
    have HB := Lib.hid hb
    have HR := Lib.hid hr
    clear hb hr HT HBA
    by_cases hlt : j < m
    · have j0 : (0 : Int) ≤ (j : Int) := by omega
      have j1 : (j : Int) < (m : Int) := by omega
      obtain ⟨b, off, rfl, hU⟩ := HP.out (by omega)
      have x1 := cell_later HB.out (hU j hlt)
      clear hU
      have H1 := mineS_push HR.out HB.out.size (S j) (by rw [strsOf_len]; omega)
      rw [← strsOf_succ] at H1
      go_wp2_with fail
      refine H1.mono ?_
      rintro e w3 ⟨rfl, hpl, hbl⟩
      clear H1
      go_wp2_with fail
      go_roundw
      case rel => exact ⟨j + 1, by omega, by go_num, HB.out.trans hbl, hpl⟩
      case measure => simp [intOf]; omega
    · obtain rfl : j = m := by omega
      clear hlt hj
      have H1 := mineS_mark HR.out HB.out.size (by simp) (by rw [strsOf_len]; omega)
      rw [strsOf_len] at H1
      go_wp2_with fail
      refine H1.mono ?_
      rintro e w3 ⟨rfl, hpl, hbl⟩
      have HB3 := Lib.hid (HB.out.trans hbl)
      have HR3 := Lib.hid hpl
      clear H1 hpl hbl HB HR
      go_wp2_with fail
      go_loopw [47] (fun i wr => ∃ (k : Nat) (ms : List Nat), k ≤ r ∧ i = .int .i64 k ∧ ms.length ≤ k ∧ Below W.heap.size W wr ∧ MineS W.heap.size wr W.heap.size (strsOf j S ++ strsOf k U) (j :: ms)) (fun i _ => r - (intOf i).toNat)
      case atStart => exact ⟨0, [], by omega, rfl, by simp, HB3.out, by simpa [strsOf] using HR3.out⟩
      case round =>
        obtain ⟨k, ms, hk, rfl, hml, hb, hr⟩ := hrel
        obtain ⟨wp, rfl⟩ : ∃ wp : World, wp = wr := ⟨_, rfl⟩
        have HB := Lib.hid hb
        have HR := Lib.hid hr
        clear hb hr HB3 HR3
        by_cases hlt : k < r
        · have j0 : (0 : Int) ≤ (k : Int) := by omega
          have j1 : (k : Int) < (r : Int) := by omega
          obtain ⟨b, off, rfl, hU⟩ := HQ.out (by omega)
          have HU := Lib.hid hU
          clear hU
          by_cases hmk : (k : Int) < mk
          · have H1 := mineS_mark HR.out HB.out.size (by simp; omega) (by simp [strsOf_len]; omega)
            go_wp2_with fail
            refine H1.mono ?_
            rintro e w4 ⟨rfl, hpl, hbl⟩
            rw [List.cons_append] at hpl
            have HB4 := Lib.hid (HB.out.trans hbl)
            have x1 := cell_later HB4.out (HU.out k hlt)
            have H2 := mineS_push hpl HB4.out.size (U k) (by simp [strsOf_len]; omega)
            rw [List.append_assoc, ← strsOf_succ] at H2
            clear H1 hpl hbl HR HB
            go_wp2_with fail
            refine H2.mono ?_
            rintro e w5 ⟨rfl, hpl, hbl⟩
            clear H2
            go_wp2_with fail
            go_roundw
            case rel => exact ⟨k + 1, _, by omega, by go_num, by simp; omega, HB4.out.trans hbl, hpl⟩
            case measure => simp [intOf]; omega
          · have x1 := cell_later HB.out (HU.out k hlt)
            have H2 := mineS_push HR.out HB.out.size (U k) (by simp [strsOf_len]; omega)
            rw [List.append_assoc, ← strsOf_succ] at H2
            go_wp2_with fail
            refine H2.mono ?_
            rintro e w5 ⟨rfl, hpl, hbl⟩
            clear H2
            go_wp2_with fail
            go_roundw
            case rel => exact ⟨k + 1, ms, by omega, by go_num, by omega, HB.out.trans hbl, hpl⟩
            case measure => simp [intOf]; omega
        · obtain rfl : k = r := by omega
          clear hlt hk
          have H1 := mineS_back HR.out HB.out.size 0 j (by simp) rfl (by simp [strsOf_len]) (by simp [strsOf_len]; omega) (by simp; omega)
          rw [show (strsOf j S ++ strsOf k U).take j = strsOf j S from by rw [List.take_append_of_le_length (by rw [strsOf_len]; omega)]; exact List.take_of_length_le (by rw [strsOf_len]; omega), show (strsOf j S ++ strsOf k U).drop j = strsOf k U from by rw [List.drop_append_of_le_length (by rw [strsOf_len]; omega), List.drop_of_length_le (by rw [strsOf_len]; omega)]; rfl, show (strsOf j S ++ strsOf k U).length - j = k by simp [strsOf_len], List.take_zero] at H1
          go_wp2_with fail
          refine H1.mono ?_
          rintro e w4 ⟨v, rfl, hv, hpl, hbl⟩
          obtain ⟨pv, cvv, rfl, hsh⟩ := own_shape hv
          clear hsh
          have HV := Lib.hid hv
          have HB4 := Lib.hid (HB.out.trans hbl)
          have HR4 := Lib.hid hpl
          have H2 : Calls Try.prog 34 #[.pointer (some ⟨W.heap.size, 0, none⟩)] w4 fun e w' => e = .returned (.int .i64 j) ∧ w' = w4 := by
            have := mineS_len hpl
            rw [strsOf_len] at this
            exact this
          have H3 : Calls Try.prog 35 #[.pointer (some ⟨W.heap.size, 0, none⟩)] w4 fun e w' => e = .returned (.int .i64 0) ∧ w' = w4 := mineS_level hpl
          clear H1 hpl hbl hv HB HR
          go_wp2_with fail
          refine H2.mono ?_
          rintro e w5 ⟨rfl, rfl⟩
          clear H2
          go_wp2_with fail
          refine H3.mono ?_
          rintro e w5 ⟨rfl, rfl⟩
          clear H3
          go_wp2_with fail
          go_loopw [80] (fun i wr => ∃ n : Nat, n ≤ k ∧ i = .int .i64 n ∧ Below w5.heap.size w5 wr) (fun i _ => k - (intOf i).toNat)
          case atStart => exact ⟨0, by omega, rfl, Below.refl _ _⟩
          case round =>
            obtain ⟨n, hn, rfl, hb⟩ := hrel
            obtain ⟨wp, rfl⟩ : ∃ wp : World, wp = wr := ⟨_, rfl⟩
            have HB := Lib.hid hb
            clear hb
            by_cases hlt : n < k
            · have j0 : (0 : Int) ≤ (n : Int) := by omega
              have j1 : (n : Int) < (k : Int) := by omega
              obtain ⟨b, off, rfl, hU⟩ := HQ.out (by omega)
              obtain ⟨l, hl⟩ : ∃ l, k = n + 1 + l := ⟨k - (n + 1), by omega⟩
              have x1 : wp.cell? ⟨b, off + l, none⟩ = some (.string (U l)) := cell_later HB.out (cell_later HB4.out (hU l (by omega)))
              obtain ⟨g, rfl⟩ : ∃ g, pv = some ⟨g, 0, none⟩ := by
                rcases HV.out.2 with ⟨e, _⟩ | ⟨g, _, _, e, _⟩
                · injection e with _ e2 _; omega
                · injection e with e2 _ _; exact ⟨g, e2⟩
              have x2 : wp.cell? ⟨g, n, none⟩ = some (.string (U l)) := cell_later HB.out (own_cell HV.out n (.string (U l)) (strsOf_rev U hl)).1
              clear hU
              have hS : wp.drew.cell? ⟨g, n, none⟩ = some (.string (U l)) ∧ wp.drew.cell? ⟨b, off + l, none⟩ = some (.string (U l)) := ⟨x2, x1⟩
              have w1 : IntKind.i64.wrap ((k : Int) - 1) = (k : Int) - 1 := IntWalk.i64_in _ (by omega)
              have w2 : IntKind.i64.wrap ((k : Int) - 1 - (n : Int)) = (l : Int) := by rw [IntWalk.i64_in _ (by omega)]; omega
              have l0 : (0 : Int) ≤ (l : Int) := by omega
              have l1 : (l : Int) < (k : Int) := by omega
              clear x1 x2 hl
              go_wp2_with fail
              go_region_held3 (fun w' => w'.cell? ⟨g, n, none⟩ = some (.string (U l)) ∧ w'.cell? ⟨b, off + l, none⟩ = some (.string (U l))) (exact hS) (first | fail)
              go_wp2_with fail
              go_roundw
              case rel => exact ⟨n + 1, by omega, by go_num, HB.out.drew⟩
              case measure => simp [intOf]; omega
            · obtain rfl : n = k := by omega
              clear hlt hn
              have HR5 := Lib.hid (HR4.out.later HB.out)
              have HB5 := Lib.hid (chain2 HB4.out HB.out HB4.out.size)
              clear HB HB4 HR4
              go_wp2_with fail
              go_loopw [99] (fun i wr => ∃ n : Nat, n ≤ j ∧ i = .int .i64 n ∧ wr = wp) (fun i _ => j - (intOf i).toNat)
              case atStart => exact ⟨0, by omega, rfl, rfl⟩
              case round =>
                obtain ⟨k, hk, rfl, rfl⟩ := hrel
                by_cases hlt : k < j
                · have j0 : (0 : Int) ≤ (k : Int) := by omega
                  have j1 : (k : Int) < (j : Int) := by omega
                  obtain ⟨b, off, rfl, hU⟩ := HP.out (by omega)
                  have x1 := cell_later HB5.out (hU k hlt)
                  have H2 := mineS_at HR5.out k (S k) (strsOf_get S hlt)
                  clear hU
                  go_wp2_with fail
                  refine H2.mono ?_
                  rintro e w6 ⟨rfl, rfl⟩
                  clear H2
                  go_wp2_with fail
                  go_roundw
                  case rel => exact ⟨k + 1, by omega, by go_num, trivial⟩
                  case measure => simp [intOf]; omega
                · obtain rfl : k = j := by omega
                  clear hlt hk
                  go_wp2_with fail
                  refine (HK.out _).mono ?_
                  rintro e w6 ⟨rfl, hbk⟩
                  go_wp2_with fail
                  go_ret
                  exact ⟨rfl, chain2 HB5.out hbk HB5.out.size⟩
end Go.Proofs.Ytpnchmelaonfiaa
