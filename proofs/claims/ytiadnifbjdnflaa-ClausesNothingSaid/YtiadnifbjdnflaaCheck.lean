/- cycles.Check of any lists. -/
import Derived.Test.YtiadnifbjdnflaaOfFn
import Derived.Test.YtiadnifbjdnflaaJoinWalk
namespace Go.Proofs.Ytiadnifbjdnflaa
open Go Go.RowKit

theorem own_base {w : World} {base base' : Nat} {e : TypeId} {size : Nat} {v : Value} {n : Nat} {xs : List Value} (h : w.ownsRow base e size v n xs) (hb : base' ≤ base) : w.ownsRow base' e size v n xs := by
  rcases h.2 with h0 | ⟨g, cap, cur, hv, hg, r⟩
  · exact ⟨h.1, .inl h0⟩
  · exact ⟨h.1, .inr ⟨g, cap, cur, hv, Nat.le_trans hb hg, r⟩⟩
theorem sumV_five (n : Nat) (X Y C : Nat → Int) : sumV n X Y C = .tuple #[.int .i64 0, .int .i64 3] ∨ sumV n X Y C = .tuple #[.int .i64 0, .int .i64 5] ∨ sumV n X Y C = .tuple #[.int .i64 0, .int .i64 0] ∨ sumV n X Y C = .tuple #[.int .i64 1, .int .i64 0] ∨ sumV n X Y C = .tuple #[.int .i64 (-1), .int .i64 0] := by
  unfold sumV
  split
  · exact .inl rfl
  · split
    · exact .inr (.inl rfl)
    · split
      · rcases sgn_cases (sumC C n) with ⟨_, h⟩ | ⟨_, h⟩ | ⟨_, h⟩ <;> rw [h]
        · exact .inr (.inr (.inr (.inr rfl)))
        · exact .inr (.inr (.inl rfl))
        · exact .inr (.inr (.inr (.inl rfl)))
      · exact .inr (.inl rfl)
theorem ok_may (nA n : Nat) (K V : Nat → Int) (hA : nA ≤ 1000000) (hn : n ≤ 5000) (h : ∀ i, i < n → okA nA K (V i)) : MayP n V := by
  refine ⟨hn, fun i hi => ?_⟩
  obtain ⟨h0, h1, h2, _⟩ := h i hi
  unfold isLitB
  simp only [Bool.and_eq_true, bne_iff_ne, decide_eq_true_eq]
  exact ⟨⟨h0, by omega⟩, by omega⟩
/-- the row of edges sums up below nothing. -/
def Good (n : Nat) (A B C V : Nat → Int) : Prop := sumV n (fun i => eX A B (V i)) (fun i => eX B A (V i)) (fun i => eC C (V i)) = .tuple #[.int .i64 (-1), .int .i64 0]
set_option maxRecDepth 100000 in
set_option maxHeartbeats 800000 in
theorem check_any (p : Option Addr) (nA cA : Nat) (K A B C : Nat → Int) (q : Option Addr) (n c : Nat) (V : Nat → Int) (w : World) (hA : AtomsIn w p nA K A B C) (hnA : nA ≤ 1000000) (hC : ∀ i, i < nA → I64 (C i)) (hV : LitsIn w q n V) (hn : n ≤ 5000) (hI : ∀ i, i < n → I64 (V i)) (l : List LitT) (hl : l.length = n) (hz : (∀ i, i < n → okA nA K (V i)) → ∀ i, i < n → (nums l)[i]? = some (V i)) :
    Calls Try.prog 45 #[.slice p nA cA, .slice q n c] w fun e w' =>
      (((∃ i, i < n ∧ ¬ okA nA K (V i)) ∧ e = .returned (.tuple #[.slice none 0 0, .int .i64 2])) ∨
       ((∀ i, i < n → okA nA K (V i)) ∧ ¬ Good n A B C V ∧ e = .returned (.tuple #[.slice none 0 0, .int .i64 5])) ∨
       ((∀ i, i < n → okA nA K (V i)) ∧ Good n A B C V ∧ ∃ v', e = .returned (.tuple #[v', .int .i64 0]) ∧ w'.ownsRow w.heap.size 30 1 v' (formL l).length ((formL l).map (Value.int .i64)))) ∧ Below w.heap.size w w' := by
  obtain ⟨i0, hi, hz0, hz1, hz2⟩ := info56
  have HA := Lib.hid hA
  have HV := Lib.hid hV
  have HC := Lib.hid hC
  have HI := Lib.hid hI
  have HZ := Lib.hid hz
  clear hA hV hC hI hz
  go_enter Try.func45, Try.ntmps45
  go_wp2_with fail
  go_loopw [6, 18] (fun v i wr => ∃ (j : Nat) (vm : Value), vm = v ∧ j ≤ n ∧ i = .int .i64 j ∧ wr.ownsRow w.heap.size 56 3 vm j (flatE (fun i => eX A B (V i)) (fun i => eX B A (V i)) (fun i => eC C (V i)) j) ∧ (1 ≤ j → vm ≠ .slice none 0 0) ∧ (∀ i, i < j → okA nA K (V i)) ∧ Below w.heap.size w wr) (fun _ i _ => n - (intOf i).toNat)
  case atStart => exact ⟨0, _, rfl, by omega, rfl, ⟨by simp [flatE], .inl ⟨rfl, rfl⟩⟩, fun h => by omega, fun i hi => by omega, Below.refl _ _⟩
  case round =>
    obtain ⟨j, vm, rfl, hj, rfl, hown, hne, hall, hb⟩ := hrel
    have HOWN := Lib.hid hown
    have HNE := Lib.hid hne
    have HALL := Lib.hid hall
    have HB := Lib.hid hb
    clear hown hne hall hb
    by_cases hlt : j < n
    · obtain ⟨b, off, rfl, he⟩ := HV.out (by omega)
      have cv := (he.later HB.out) j hlt
      have hj0 : (0 : Int) ≤ (j : Int) := by omega
      have hj1 : (j : Int) < (n : Int) := by omega
      have hx := HI.out j hlt
      clear he
      by_cases hok : okA nA K (V j)
      · have H1 := of_ok p nA cA (V j) K A B C wr (HA.out.later HB.out) hnA HC.out hok
        have HOK := Lib.hid hok
        clear hok hx
        go_wp2_with fail
        refine H1.mono ?_
        rintro e w1 ⟨rfl, hb1⟩
        have hb2 := chain HB.out hb1
        have hgo := own_later (own_later (own_later HOWN.out hb1) (below1 w1 (.cells #[.int .i64 (eX A B (V j)), .int .i64 (eX B A (V j)), .int .i64 (eC C (V j))] 56))) (below1 _ (.cells #[.int .i64 (eX A B (V j)), .int .i64 (eX B A (V j)), .int .i64 (eC C (V j))] 56))
        have HGO := Lib.hid hgo
        have hsz := hb2.size
        have HB4 := Lib.hid ((hb2.alloc hb2.size (.cells #[.int .i64 (eX A B (V j)), .int .i64 (eX B A (V j)), .int .i64 (eC C (V j))] 56)).alloc (by rw [World.size_alloc]; omega) (.cells #[.int .i64 (eX A B (V j)), .int .i64 (eX B A (V j)), .int .i64 (eC C (V j))] 56))
        clear hgo HOWN HB hb2 hb1 H1 cv
        go_wp2_with (at_builtin; refine wpList_append_own _ rfl _ _ 60 rfl w.heap.size 56 i0 (.agg #[.int .i64 0, .int .i64 0, .int .i64 0]) 3 24 Try.underlying60 hi hz0 hz1 hz2 rfl (by omega) _ j (flatE (fun i => eX A B (V i)) (fun i => eX B A (V i)) (fun i => eC C (V i)) j) rfl ?qc0 _ 1 1 [.int .i64 (eX A B (V j)), .int .i64 (eX B A (V j)), .int .i64 (eC C (V j))] rfl rfl ?qc2 ?qc3 ?qc4 ?qc5 ?qc6 ?_)
        case qc0 => exact HGO.out
        case qc2 =>
          intro jj u hjj
          rw [Lib.add_plain]
          match jj, hjj with
          | 0, hjj => cases hjj; simp [go_sem]
          | 1, hjj => cases hjj; simp [go_sem]
          | 2, hjj => cases hjj; simp [go_sem]
        case qc3 => intro u hu; simp at hu; rcases hu with rfl | rfl | rfl <;> rfl
        case qc4 => have hml : maxLen = 9223372036854775807 := rfl; omega
        case qc5 => omega
        case qc6 => simp; omega
        intro v' w2 hown hgrow hnil
        have hlt2 := (HGO.out).lt
        have hb2 : Below w.heap.size w w2 := (HB4.out).grown hgrow (by simp; omega) (fun k hk => (hlt2 k hk).1)
        have HOWN := Lib.hid hown
        have HB := Lib.hid hb2
        have hnil2 : v' ≠ .slice none 0 0 := by
          intro e
          exact hnil e
        clear hown hgrow hnil hlt2 HB4 HGO hb2
        go_wp2_with fail
        go_roundw
        case rel => exact ⟨j + 1, _, rfl, by omega, by go_num, HOWN.out, fun _ => hnil2, fun i hi => by
          by_cases hij : i < j
          · exact HALL.out i hij
          · obtain rfl : i = j := by omega
            exact HOK.out, HB.out⟩
        case measure => simp [intOf]; omega
      · have H1 := of_bad p nA cA (V j) K A B C wr (HA.out.later HB.out) hnA hx.1 hx.2 hok
        have HOK := Lib.hid hok
        clear hok hx
        go_wp2_with fail
        refine H1.mono ?_
        rintro e w1 ⟨rfl, hb1⟩
        have hb2 := chain HB.out hb1
        have HB4 := Lib.hid (hb2.alloc hb2.size (.cells #[.int .i64 0, .int .i64 0, .int .i64 0] 56))
        clear hb2 hb1 H1 cv
        go_wp2_with fail
        go_ret2
        exact ⟨.inl ⟨⟨j, hlt, HOK.out⟩, rfl⟩, HB4.out⟩
    · obtain rfl : j = n := by omega
      have H1 := sum_own _ _ _ HOWN.out (by omega) (fun i hi => eC_bd C nA K (V i) HC.out (HALL.out i hi)) HNE.out
      have H2 := fun W hW => normal_any q j c V l W hW hl (HZ.out HALL.out) (ok_may nA j K V hnA hn HALL.out)
      rcases sumV_five j (fun i => eX A B (V i)) (fun i => eX B A (V i)) (fun i => eC C (V i)) with hs | hs | hs | hs | hs
      iterate 4
        · have hg : ¬ Good j A B C V := fun h => by
            unfold Good at h
            rw [hs] at h
            simp at h
          rw [hs] at H1
          have HG := Lib.hid hg
          clear hg hs H2
          go_wp2_with fail
          refine H1.mono ?_
          rintro e w1 ⟨rfl, hb1⟩
          have hb2 := chain HB.out hb1
          clear hb1 H1
          go_wp2_with fail
          go_ret2
          exact ⟨.inr (.inl ⟨HALL.out, HG.out, rfl⟩), hb2⟩
      · have hg : Good j A B C V := hs
        rw [hs] at H1
        have HG := Lib.hid hg
        clear hg hs
        go_wp2_with fail
        refine H1.mono ?_
        rintro e w1 ⟨rfl, hb1⟩
        have hb2 := chain HB.out hb1
        clear hb1 H1
        go_wp2_with fail
        refine (H2 _ (HV.out.later hb2)).mono ?_
        rintro e w2 ⟨v', rfl, ho, hb3⟩
        have hb4 := chain hb2 hb3
        have HO := Lib.hid (own_base ho hb2.size)
        clear H2 hb3 ho
        go_wp2_with fail
        go_ret2
        exact ⟨.inr (.inr ⟨HALL.out, HG.out, _, rfl, HO.out⟩), hb4⟩
end Go.Proofs.Ytiadnifbjdnflaa
