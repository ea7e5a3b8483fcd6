/- Sorting literals. -/
import Derived.Test.YtgdncnalahdjeaaJQ2
import Derived.Laws.AppendOwnNone
import Derived.Test.YtgdncnalahdjeaaJQ1
import Derived.Shelf.SlSortCmp.NoneTotal
import Derived.Shelf.SlGeneric
import Derived.Shelf.SlicesE.Compact
import Derived.Ground.SlsfProg
import Derived.Ground.SlgnProg
import Derived.Lib.RowBridge
import Derived.Lib.SortBridge
import Derived.Sort.OwnSortedInts
namespace Go.Proofs.Ytgdncnalahdjeaa
open Go Go.RowKit

/-- the first numbers. -/
def rowL (n : Nat) (V : Nat → Int) : List Int := (List.range n).map V
theorem rowL_len (n : Nat) (V : Nat → Int) : (rowL n V).length = n := by simp [rowL]
theorem rowL_get (n : Nat) (V : Nat → Int) (i : Nat) (hi : i < n) : (rowL n V)[i]? = some (V i) := by simp [rowL, hi]
theorem rowL_mem (n : Nat) (V : Nat → Int) (x : Int) : x ∈ rowL n V ↔ ∃ i, i < n ∧ V i = x := by simp [rowL]
/-- a row of the call's own is a slice that reads as its numbers. -/
theorem own_in {w : World} {base n : Nat} {v : Value} {zs : List Int} (h : w.ownsRow base 54 1 v n (zs.map (Value.int .i64))) (hl : zs.length = n) :
    ∃ (p : Option Addr) (c : Nat), v = .slice p n c ∧ (p = none → c = 0) ∧ LitsIn w p n (fun i => zs.getD i 0) ∧ ∀ ad, p = some ad → base ≤ ad.block := by
  rcases h.2 with ⟨rfl, rfl⟩ | ⟨g, cap, cur, rfl, hg, hh, hc, hm, hcs, ht⟩
  · exact ⟨none, 0, rfl, fun _ => rfl, fun h => by omega, fun ad h => by cases h⟩
  · refine ⟨some ⟨g, 0, none⟩, cap, rfl, (fun h => by cases h), ?_, (fun ad h => by cases h; exact hg)⟩
    intro _
    refine ⟨g, 0, rfl, fun i hi => ?_⟩
    have hv : (Value.slice (some ⟨g, 0, none⟩) n cap) ≠ .slice none 0 0 := by simp
    obtain ⟨b', c', he, _, hcell⟩ := own_cells h hv
    cases he
    rw [Nat.zero_add]
    refine hcell i _ ?_
    rw [List.getElem?_map, List.getElem?_eq_getElem (by omega)]
    simp [List.getD, List.getElem?_eq_getElem (show i < zs.length by omega)]
theorem lits_ext {W : World} {p : Option Addr} {n : Nat} {V U : Nat → Int} (h : LitsIn W p n V) (he : ∀ i, i < n → V i = U i) : LitsIn W p n U := fun hn => by
  obtain ⟨b, off, e, ha⟩ := h hn
  exact ⟨b, off, e, fun i hi => by rw [← he i hi]; exact ha i hi⟩
theorem own_row {w : World} {base n : Nat} {v : Value} {V : Nat → Int} (h : w.ownsRow base 54 1 v n ((rowL n V).map (Value.int .i64))) :
    ∃ (p : Option Addr) (c : Nat), v = .slice p n c ∧ (p = none → c = 0) ∧ LitsIn w p n V ∧ ∀ ad, p = some ad → base ≤ ad.block := by
  obtain ⟨p, c, h1, h2, h3, h4⟩ := own_in h (rowL_len _ _)
  refine ⟨p, c, h1, h2, lits_ext h3 (fun i hi => ?_), h4⟩
  simp [List.getD, rowL_get n V i hi]
theorem row_one (zs : List Int) : ∀ u ∈ zs.map (Value.int .i64), u.oneCell' = true := by
  intro u hu
  obtain ⟨x, _, rfl⟩ := List.mem_map.1 hu
  rfl
theorem lits_cells {W : World} {b off n : Nat} {V : Nat → Int} (h : IntsAt W b off n V) (j : Nat) (u : Value) (hj : ((rowL n V).map (Value.int .i64))[j]? = some u) : W.cell? ⟨b, off + j, none⟩ = some u := by
  have hjn : j < n := by
    have := (List.getElem?_eq_some_iff.1 hj).1
    simpa [rowL_len] using this
  rw [h j hjn]
  rw [List.getElem?_map, rowL_get n V j hjn] at hj
  simpa using hj
set_option maxRecDepth 100000 in
set_option maxHeartbeats 800000 in
theorem copied_any (p : Option Addr) (n c : Nat) (V : Nat → Int) (w : World) (hV : LitsIn w p n V) (hn : n ≤ 17592186044415) (hp : p = none → c = 0) :
    Calls Try.prog 20 #[.slice p n c] w fun e w' => ∃ v', e = .returned v' ∧ w'.ownsRow w.heap.size 54 1 v' n ((rowL n V).map (Value.int .i64)) ∧ Below w.heap.size w w' := by
  obtain ⟨i0, hi, hz0, hz1, hz2⟩ := info30
  have hown0 : (w.alloc (.cells #[] 54)).ownsRow w.heap.size 54 1 (.slice (some ⟨w.heap.size, 0, none⟩) 0 0) 0 [] := World.ownsRow_made w #[] 0 (Nat.le_refl _) (by omega) (by simp)
  have hB := below1 w (.cells #[] 54)
  have hz3 := hB.size
  cases p with
  | none =>
    have hc := hp rfl
    have h0 : n = 0 := by
      rcases Nat.eq_zero_or_pos n with h | h
      · exact h
      · obtain ⟨b, off, e, _⟩ := hV h; cases e
    subst hc
    subst h0
    have HO := Lib.hid hown0
    have HB := Lib.hid hB
    clear hV hp hown0 hB
    go_enter Try.func20, Try.ntmps20
    go_wp2_with (at_builtin; refine wpList_append_own_none rfl _ _ 23 rfl w.heap.size 54 i0 1 Try.underlying23 hi _ 0 [] rfl HO.out rfl ?_)
    go_ret
    exact ⟨_, rfl, by simpa [rowL] using HO.out, HB.out⟩
  | some ad =>
    have hcells : ∀ j u, ((rowL n V).map (Value.int .i64))[j]? = some u → w.cell? (ad.add j) = some u := by
      intro j u hj
      have hjn : j < n := by
        have := (List.getElem?_eq_some_iff.1 hj).1
        simpa [rowL_len] using this
      obtain ⟨b, off, e, ha⟩ := hV (by omega)
      cases e
      rw [Lib.add_plain]
      exact lits_cells ha j u hj
    have HO := Lib.hid hown0
    have HB := Lib.hid hB
    have HC := Lib.hid (fun j u hj => cell_later hB (hcells j u hj))
    clear hV hp hown0 hB hcells
    go_enter Try.func20, Try.ntmps20
    go_wp2_with (at_builtin; refine wpList_append_own _ rfl _ _ 23 rfl w.heap.size 54 i0 (.int .i64 0) 1 8 Try.underlying23 hi hz0 hz1 hz2 rfl (by omega) _ 0 [] rfl HO.out ad n c ((rowL n V).map (Value.int .i64)) rfl (by simp [rowL_len]) ?qc2 (row_one _) ?qc4 ?qc5 ?qc6 ?_)
    case qc2 => exact HC.out
    case qc4 => have hml : maxLen = 9223372036854775807 := rfl; omega
    case qc5 => omega
    try (case qc6 => first | exact hz3 | (simp only [World.size_alloc] at hz3 ⊢; omega))
    intro v4 w4 hown hgrow hnil
    try rw [Nat.zero_add] at hown
    try rw [List.nil_append] at hown
    have HW := Lib.hid hown
    have HB4 := Lib.hid ((HB.out).grown hgrow hz3 (fun k hk => (World.ownsRow.lt HO.out k hk).1))
    clear hown hgrow hnil
    go_wp2
    go_ret
    exact ⟨_, rfl, HW.out, HB4.out⟩
/-- does a list say nothing, as the document has it? -/
def refNothB (n : Nat) (V : Nat → Int) : Bool := anyB n fun i => anyB i fun k => V i != 0 && V i == negI (V k) && V i != V k
theorem negI_negI (x : Int) (h : x ≤ 9223372036854775807) : negI (negI x) = x := by
  unfold negI
  by_cases h0 : x = -9223372036854775808
  · rw [if_pos h0, if_pos h0]
  · rw [if_neg h0, if_neg (by omega)]; omega
theorem nothB_ref (n : Nat) (V : Nat → Int) (hI : ∀ i, i < n → I64 (V i)) : nothB n V = refNothB n V := by
  rw [Bool.eq_iff_iff]
  unfold nothB refNothB
  rw [anyB_iff, anyB_iff]
  constructor
  · rintro ⟨i, hi, h⟩
    unfold pred54 at h
    rw [Bool.and_eq_true, hasB_iff, bne_iff_ne] at h
    obtain ⟨⟨k, hk, he⟩, hne⟩ := h
    have hz : V i ≠ 0 := by
      intro h0
      rw [h0] at hne
      exact hne (by decide)
    have hik : i ≠ k := fun e => hne (by rw [← he, e])
    rcases Nat.lt_or_gt_of_ne hik with h | h
    · refine ⟨k, hk, (anyB_iff _ _).2 ⟨i, h, ?_⟩⟩
      simp only [Bool.and_eq_true, bne_iff_ne, beq_iff_eq]
      refine ⟨⟨?_, he⟩, ?_⟩
      · rw [he]; unfold negI; split <;> omega
      · rw [he]; exact fun e => hne e.symm
    · refine ⟨i, hi, (anyB_iff _ _).2 ⟨k, h, ?_⟩⟩
      simp only [Bool.and_eq_true, bne_iff_ne, beq_iff_eq]
      refine ⟨⟨hz, ?_⟩, ?_⟩
      · rw [he, negI_negI _ (hI _ hi).2]
      · rw [he]; exact hne
  · rintro ⟨i, hi, h⟩
    obtain ⟨k, hk, h⟩ := (anyB_iff _ _).1 h
    simp only [Bool.and_eq_true, bne_iff_ne, beq_iff_eq] at h
    obtain ⟨⟨h0, h1⟩, h2⟩ := h
    refine ⟨i, hi, ?_⟩
    unfold pred54
    rw [Bool.and_eq_true, bne_iff_ne]
    refine ⟨hasB_yes k (by omega) ?_, ?_⟩
    · rw [h1, negI_negI _ (hI k (by omega)).2]
    · intro e
      apply h2
      have := congrArg negI h1
      rw [negI_negI _ (hI k (by omega)).2] at this
      rw [← this, ← e]
theorem refNothB_no {n : Nat} {V : Nat → Int} (h : ∀ i, i < n → ∀ k, k < i → (V i != 0 && V i == negI (V k) && V i != V k) = false) : refNothB n V = false := anyB_no fun i hi => anyB_no fun k hk => h i hi k hk
set_option maxRecDepth 100000 in
set_option maxHeartbeats 1600000 in
theorem refSays_any (p : Option Addr) (n c : Nat) (V : Nat → Int) (w : World) (hV : LitsIn w p n V) (hn : n ≤ 9223372036854775807) (hI : ∀ i, i < n → I64 (V i)) :
    Calls Try.prog 79 #[.slice p n c] w fun e w' => e = .returned (.bool (refNothB n V)) ∧ Below w.heap.size w w' := by
  have HV := Lib.hid hV
  have HI := Lib.hid hI
  clear hV hI
  go_enter Try.func79, Try.ntmps79
  go_wp2_with fail
  go_loopw [3] (fun i wr => ∃ j : Nat, j ≤ n ∧ i = .int .i64 j ∧ Below w.heap.size w wr ∧ ∀ t, t < j → ∀ k, k < t → (V t != 0 && V t == negI (V k) && V t != V k) = false) (fun i _ => n - (intOf i).toNat)
  case atStart => exact ⟨0, by omega, rfl, Below.refl _ _, fun t ht => by omega⟩
  case round =>
    obtain ⟨j, hj, rfl, hb, hall⟩ := hrel
    have HALL := Lib.hid hall
    have HB := Lib.hid hb
    clear hall hb
    by_cases hlt : j < n
    · obtain ⟨b, off, rfl, hV⟩ := HV.out (by omega)
      have HVV := Lib.hid hV
      have hj0 : (0 : Int) ≤ (j : Int) := by omega
      have hj1 : (j : Int) < (n : Int) := by omega
      clear hV
      obtain ⟨wo, rfl⟩ : ∃ wo : World, wo = wr := ⟨_, rfl⟩
      go_wp2_with fail
      go_loopw [4] (fun i wr => ∃ k : Nat, k ≤ j ∧ i = .int .i64 k ∧ Below w.heap.size w wr ∧ ∀ t, t < k → (V j != 0 && V j == negI (V t) && V j != V t) = false) (fun i _ => j - (intOf i).toNat)
      case atStart => exact ⟨0, by omega, rfl, HB.out, fun t ht => by omega⟩
      case round =>
        obtain ⟨k, hk, rfl, hb, hin⟩ := hrel
        have HIN := Lib.hid hin
        have HB := Lib.hid hb
        clear hin hb
        by_cases hlt2 : k < j
        · have hk0 : (0 : Int) ≤ (k : Int) := by omega
          have hk1 : (k : Int) < (n : Int) := by omega
          have hk2 : (k : Int) < (j : Int) := by omega
          have cv := (HVV.out.later HB.out) j hlt
          have cu := (HVV.out.later HB.out) k (by omega)
          have i0 := HI.out j hlt
          have i1 := HI.out k (by omega)
          have HNEW := Lib.hid (show (V j != 0 && V j == negI (V k) && V j != V k) = false → ∀ t, t < k + 1 → (V j != 0 && V j == negI (V t) && V j != V t) = false from fun h t ht => by
            by_cases htk : t < k
            · exact HIN.out t htk
            · obtain rfl : t = k := by omega
              exact h)
          have HTRUE := Lib.hid (show (V j != 0 && V j == negI (V k) && V j != V k) = true → refNothB n V = true from fun h => anyB_yes j hlt (anyB_yes k hlt2 h))
          obtain ⟨x, hx⟩ : ∃ x, x = V j := ⟨_, rfl⟩
          obtain ⟨y, hy⟩ : ∃ y, y = V k := ⟨_, rfl⟩
          rw [← hx] at cv i0
          rw [← hy] at cu i1
          have key : x = 0 ∨ (x ≠ 0 ∧ x ≠ negI y) ∨ (x ≠ 0 ∧ x = negI y ∧ x = y) ∨ (x ≠ 0 ∧ x = negI y ∧ x ≠ y) := by
            by_cases a1 : x = 0
            · exact .inl a1
            · by_cases a2 : x = negI y
              · by_cases a3 : x = y
                · exact .inr (.inr (.inl ⟨a1, a2, a3⟩))
                · exact .inr (.inr (.inr ⟨a1, a2, a3⟩))
              · exact .inr (.inl ⟨a1, a2⟩)
          have HV2 := Lib.hid (And.intro hx hy)
          obtain ⟨i00, i01⟩ := i0
          obtain ⟨i10, i11⟩ := i1
          clear hx hy
          by_cases hm : y = -9223372036854775808
          · have hn : negI y = -9223372036854775808 := by unfold negI; rw [if_pos hm, hm]
            have hw2 : wrap64 9223372036854775808 = -9223372036854775808 := by rw [wrap64_eq]; omega
            have HM := Lib.hid hm
            rw [hm] at cu
            clear hm
            rcases key with k0 | ⟨k0, k1⟩ | ⟨k0, k1, k2⟩ | ⟨k0, k1, k2⟩
            · have HK := Lib.hid (show (V j != 0 && V j == negI (V k) && V j != V k) = false by rw [← HV2.out.1, ← HV2.out.2]; rw [k0]; rfl)
              skip
              have f1 : (x != 0) = false := by simp [k0]
              clear hn hw2 k0
              go_wp2_with fail
              go_quiet (fail)
              go_wp2
              go_roundw
              case rel => exact ⟨k + 1, by omega, by go_num, HB.out.trans ((below_drewN _ _).mono HB.out.size), HNEW.out HK.out⟩
              case measure => simp [intOf]; omega
            · have HK := Lib.hid (show (V j != 0 && V j == negI (V k) && V j != V k) = false by rw [← HV2.out.1, ← HV2.out.2]; rw [show (x == negI y) = false from by simpa using k1]; simp)
              rw [hn] at k1
              have f1 : (x != 0) = true := by simp [k0]
              have f2 : (x == wrap64 9223372036854775808) = false := by rw [hw2]; simpa using k1
              clear hn hw2 k0 k1
              go_wp2_with fail
              go_quiet (fail)
              go_wp2
              go_roundw
              case rel => exact ⟨k + 1, by omega, by go_num, HB.out.trans ((below_drewN _ _).mono HB.out.size), HNEW.out HK.out⟩
              case measure => simp [intOf]; omega
            · have HK := Lib.hid (show (V j != 0 && V j == negI (V k) && V j != V k) = false by rw [← HV2.out.1, ← HV2.out.2]; rw [show (x != y) = false from by rw [bne_eq_false_iff_eq]; exact k2]; simp)
              rw [hn] at k1
              have f1 : (x != 0) = true := by simp [k0]
              have f2 : (x == wrap64 9223372036854775808) = true := by rw [hw2]; simpa using k1
              have f3 : (x != -9223372036854775808) = false := by rw [← HM.out]; first | (rw [bne_eq_false_iff_eq]; exact k2) | (rw [bne_iff_ne]; exact k2)
              clear hn hw2 k0 k1 k2
              go_wp2_with fail
              go_quiet (fail)
              go_wp2
              go_roundw
              case rel => exact ⟨k + 1, by omega, by go_num, HB.out.trans ((below_drewN _ _).mono HB.out.size), HNEW.out HK.out⟩
              case measure => simp [intOf]; omega
            · have HK := Lib.hid (show (V j != 0 && V j == negI (V k) && V j != V k) = true by rw [← HV2.out.1, ← HV2.out.2]; simp only [Bool.and_eq_true, bne_iff_ne, beq_iff_eq]; exact ⟨⟨k0, k1⟩, k2⟩)
              rw [hn] at k1
              have f1 : (x != 0) = true := by simp [k0]
              have f2 : (x == wrap64 9223372036854775808) = true := by rw [hw2]; simpa using k1
              have f3 : (x != -9223372036854775808) = true := by rw [← HM.out]; first | (rw [bne_eq_false_iff_eq]; exact k2) | (rw [bne_iff_ne]; exact k2)
              clear hn hw2 k0 k1 k2
              go_wp2_with fail
              go_quiet (fail)
              go_wp2
              go_ret
              exact ⟨by rw [HTRUE.out HK.out]; rfl, HB.out.trans ((below_drewN _ _).mono HB.out.size)⟩
          · have hn : negI y = -y := by unfold negI; rw [if_neg hm]
            have h63 : -9223372036854775807 ≤ y := by omega
            have HM := Lib.hid hm
            clear hm
            rcases key with k0 | ⟨k0, k1⟩ | ⟨k0, k1, k2⟩ | ⟨k0, k1, k2⟩
            · have HK := Lib.hid (show (V j != 0 && V j == negI (V k) && V j != V k) = false by rw [← HV2.out.1, ← HV2.out.2]; rw [k0]; rfl)
              skip
              have f1 : (x != 0) = false := by simp [k0]
              clear hn k0
              go_wp2_with fail
              go_quiet (fail)
              go_wp2
              go_roundw
              case rel => exact ⟨k + 1, by omega, by go_num, HB.out.trans ((below_drewN _ _).mono HB.out.size), HNEW.out HK.out⟩
              case measure => simp [intOf]; omega
            · have HK := Lib.hid (show (V j != 0 && V j == negI (V k) && V j != V k) = false by rw [← HV2.out.1, ← HV2.out.2]; rw [show (x == negI y) = false from by simpa using k1]; simp)
              rw [hn] at k1
              have f1 : (x != 0) = true := by simp [k0]
              have f2 : (x == -y) = false := by simpa using k1
              clear hn k0 k1
              go_wp2_with fail
              go_quiet (fail)
              go_wp2
              go_roundw
              case rel => exact ⟨k + 1, by omega, by go_num, HB.out.trans ((below_drewN _ _).mono HB.out.size), HNEW.out HK.out⟩
              case measure => simp [intOf]; omega
            · have HK := Lib.hid (show (V j != 0 && V j == negI (V k) && V j != V k) = false by rw [← HV2.out.1, ← HV2.out.2]; rw [show (x != y) = false from by rw [bne_eq_false_iff_eq]; exact k2]; simp)
              rw [hn] at k1
              have f1 : (x != 0) = true := by simp [k0]
              have f2 : (x == -y) = true := by simpa using k1
              have f3 : (x != y) = false := by rw [bne_eq_false_iff_eq]; exact k2
              clear hn k0 k1 k2
              go_wp2_with fail
              go_quiet (fail)
              go_wp2
              go_roundw
              case rel => exact ⟨k + 1, by omega, by go_num, HB.out.trans ((below_drewN _ _).mono HB.out.size), HNEW.out HK.out⟩
              case measure => simp [intOf]; omega
            · have HK := Lib.hid (show (V j != 0 && V j == negI (V k) && V j != V k) = true by rw [← HV2.out.1, ← HV2.out.2]; simp only [Bool.and_eq_true, bne_iff_ne, beq_iff_eq]; exact ⟨⟨k0, k1⟩, k2⟩)
              rw [hn] at k1
              have f1 : (x != 0) = true := by simp [k0]
              have f2 : (x == -y) = true := by simpa using k1
              have f3 : (x != y) = true := by rw [bne_iff_ne]; exact k2
              clear hn k0 k1 k2
              go_wp2_with fail
              go_quiet (fail)
              go_wp2
              go_ret
              exact ⟨by rw [HTRUE.out HK.out]; rfl, HB.out.trans ((below_drewN _ _).mono HB.out.size)⟩
        · obtain rfl : k = j := by omega
          go_wp2_with fail
          go_roundw
          case rel => exact ⟨k + 1, by omega, by go_num, HB.out, fun t ht => by
            by_cases htj : t < k
            · exact HALL.out t htj
            · obtain rfl : t = k := by omega
              exact HIN.out⟩
          case measure => simp [intOf]; omega
    · obtain rfl : j = n := by omega
      have HE := Lib.hid (refNothB_no HALL.out)
      have hb2 := HB.out
      go_wp2_with fail
      go_ret
      exact ⟨by rw [HE.out]; rfl, hb2⟩
end Go.Proofs.Ytgdncnalahdjeaa
namespace Go.Proofs.Ytgdncnalahdjeaa
open Go Go.RowKit Go.Proofs Go.Sort

/-- a literal. -/
abbrev LitT : Type := {x : Int // isLitB x = true}
instance : Inhabited LitT := ⟨⟨1, by decide⟩⟩
theorem LitT.bd (x : LitT) : x.1 ≠ 0 ∧ -1048576 ≤ x.1 ∧ x.1 ≤ 1048576 := by
  have h := x.2
  unfold isLitB at h
  simp only [Bool.and_eq_true, bne_iff_ne, decide_eq_true_eq] at h
  exact ⟨h.1.1, h.1.2, h.2⟩
def cfL (x y : LitT) : Int := cmpL x.1 y.1
/-- x before y. -/
theorem cmpL_neg (x y : Int) : cmpL x y < 0 ↔ absI x < absI y ∨ (absI x = absI y ∧ y < x) := by
  unfold cmpL cmpI
  split <;> split at * <;> (try split at *) <;> (try split) <;> (try split) <;> omega
theorem ltL (x y : LitT) : ltOf cfL x y = decide (absI x.1 < absI y.1 ∨ (absI x.1 = absI y.1 ∧ y.1 < x.1)) := by
  have h := cmpL_neg x.1 y.1
  unfold ltOf cfL
  by_cases h1 : cmpL x.1 y.1 < 0
  · rw [decide_eq_true (h.1 h1)]; simp [h1]
  · rw [decide_eq_false (fun h2 => h1 (h.2 h2))]; simp [h1]
theorem swoL : SWO (ltOf cfL) where
  irrefl x := by rw [ltL]; simp
  trans x y z h1 h2 := by
    rw [ltL] at *
    simp only [decide_eq_true_eq] at *
    omega
  ntrans x y z h1 h2 := by
    rw [ltL] at *
    simp only [decide_eq_false_iff_not] at *
    omega
theorem totL (x y : LitT) (h1 : ltOf cfL x y = false) (h2 : ltOf cfL y x = false) : x = y := by
  rw [ltL] at h1 h2
  simp only [decide_eq_false_iff_not] at h1 h2
  exact Subtype.ext (by omega)
end Go.Proofs.Ytgdncnalahdjeaa
namespace Go.Proofs
open Go.Shelf
def Try.sortL_ren : Go.Shelf.Ren := ⟨fun | 6 => 49 | 15 => 78 | 14 => 77 | 28 => 100 | 29 => 101 | 20 => 92 | 21 => 93 | 22 => 94 | 23 => 95 | 24 => 96 | 25 => 97 | 26 => 98 | 27 => 99 | 46 => 107 | 47 => 108 | 48 => 109 | 49 => 110 | 50 => 111 | 57 => 112 | n => n, fun | 22 => 23 | 24 => 54 | 25 => 74 | 3 => 3 | 39 => 79 | 0 => 0 | 53 => 131 | 55 => 38 | 4 => 4 | 46 => 124 | 45 => 123 | 50 => 128 | 5 => 5 | 9 => 9 | 66 => 138 | 70 => 142 | 76 => 144 | 77 => 145 | n => n, fun | n => n⟩
theorem Try.sortL : Go.Proofs.SlLaysF.n6 Try.prog Try.sortL_ren := {
  mixed := by kernel_rfl
  f6 := ⟨Try.f49.name, by decide, Try.func49.trans (congrArg some (by kernel_rfl))⟩
  f14 := ⟨Try.f77.name, by decide, Try.func77.trans (congrArg some (by kernel_rfl))⟩
  f15 := Try.func78.trans (congrArg some (by kernel_rfl))
  f20 := ⟨Try.f92.name, by decide, Try.func92.trans (congrArg some (by kernel_rfl))⟩
  f21 := ⟨Try.f93.name, by decide, Try.func93.trans (congrArg some (by kernel_rfl))⟩
  f22 := ⟨Try.f94.name, by decide, Try.func94.trans (congrArg some (by kernel_rfl))⟩
  f23 := ⟨Try.f95.name, by decide, Try.func95.trans (congrArg some (by kernel_rfl))⟩
  f24 := ⟨Try.f96.name, by decide, Try.func96.trans (congrArg some (by kernel_rfl))⟩
  f25 := ⟨Try.f97.name, by decide, Try.func97.trans (congrArg some (by kernel_rfl))⟩
  f26 := ⟨Try.f98.name, by decide, Try.func98.trans (congrArg some (by kernel_rfl))⟩
  f27 := ⟨Try.f99.name, by decide, Try.func99.trans (congrArg some (by kernel_rfl))⟩
  f28 := Try.func100.trans (congrArg some (by kernel_rfl))
  f29 := Try.func101.trans (congrArg some (by kernel_rfl))
  f46 := ⟨Try.f107.name, by decide, Try.func107.trans (congrArg some (by kernel_rfl))⟩
  f47 := Try.func108.trans (congrArg some (by kernel_rfl))
  f48 := Try.func109.trans (congrArg some (by kernel_rfl))
  f49 := ⟨Try.f110.name, by decide, Try.func110.trans (congrArg some (by kernel_rfl))⟩
  f50 := ⟨Try.f111.name, by decide, Try.func111.trans (congrArg some (by kernel_rfl))⟩
  f57 := ⟨Try.f112.name, by decide, Try.func112.trans (congrArg some (by kernel_rfl))⟩
  t0 := Try.underlying0
  a0 := Try.isAgg0
  z0 := Try.sizeOf0
  v0 := Try.zeroValue0
  t3 := Try.underlying3
  a3 := Try.isAgg3
  z3 := Try.sizeOf3
  v3 := Try.zeroValue3
  t4 := Try.underlying4
  a4 := Try.isAgg4
  z4 := Try.sizeOf4
  v4 := Try.zeroValue4
  t5 := Try.underlying5
  a5 := Try.isAgg5
  z5 := Try.sizeOf5
  v5 := Try.zeroValue5
  t9 := Try.underlying9
  a9 := Try.isAgg9
  z9 := Try.sizeOf9
  v9 := Try.zeroValue9
  t22 := Try.underlying23
  a22 := Try.isAgg23
  z22 := Try.sizeOf23
  v22 := Try.zeroValue23
  a24 := Try.isAgg54
  z24 := Try.sizeOf54
  t25 := Try.underlying74
  a25 := Try.isAgg74
  z25 := Try.sizeOf74
  v25 := Try.zeroValue74
  t39 := Try.underlying79
  a39 := Try.isAgg79
  z39 := Try.sizeOf79
  v39 := Try.zeroValue79
  t45 := Try.underlying123
  a45 := Try.isAgg123
  z45 := Try.sizeOf123
  v45 := Try.zeroValue123
  t46 := Try.underlying124
  a46 := Try.isAgg124
  z46 := Try.sizeOf124
  v46 := Try.zeroValue124
  t50 := Try.underlying128
  a50 := Try.isAgg128
  z50 := Try.sizeOf128
  v50 := Try.zeroValue128
  t53 := Try.underlying131
  a53 := Try.isAgg131
  z53 := Try.sizeOf131
  v53 := Try.zeroValue131
  t55 := Try.underlying38
  a55 := Try.isAgg38
  z55 := Try.sizeOf38
  v55 := Try.zeroValue38
  t66 := Try.underlying138
  a66 := Try.isAgg138
  z66 := Try.sizeOf138
  v66 := Try.zeroValue138
  t70 := Try.underlying142
  a70 := Try.isAgg142
  z70 := Try.sizeOf142
  v70 := Try.zeroValue142
  t76 := Try.underlying144
  a76 := Try.isAgg144
  z76 := Try.sizeOf144
  v76 := Try.zeroValue144
  t77 := Try.underlying145
  a77 := Try.isAgg145
  z77 := Try.sizeOf145
  v77 := Try.zeroValue145 }
def Try.compL_ren : Go.Shelf.Ren := ⟨fun | 43 => 91 | n => n, fun | 22 => 23 | 23 => 54 | 3 => 3 | 4 => 4 | 0 => 0 | n => n, fun | n => n⟩
theorem Try.compL : Go.Proofs.SlLaysE.n43 Try.prog Try.compL_ren := {
  mixed := by kernel_rfl
  f43 := ⟨Try.f91.name, by decide, Try.func91.trans (congrArg some (by kernel_rfl))⟩
  t0 := Try.underlying0
  a0 := Try.isAgg0
  z0 := Try.sizeOf0
  v0 := Try.zeroValue0
  t3 := Try.underlying3
  a3 := Try.isAgg3
  z3 := Try.sizeOf3
  v3 := Try.zeroValue3
  t4 := Try.underlying4
  a4 := Try.isAgg4
  z4 := Try.sizeOf4
  v4 := Try.zeroValue4
  t22 := Try.underlying23
  a22 := Try.isAgg23
  z22 := Try.sizeOf23
  v22 := Try.zeroValue23
  a23 := Try.isAgg54
  z23 := Try.sizeOf54 }
end Go.Proofs
namespace Go.Proofs.Ytgdncnalahdjeaa
open Go Go.RowKit Go.Proofs Go.Sort

def encL (x : LitT) : Value := .int .i64 x.1
set_option maxRecDepth 100000 in
theorem cmpLays (blk off size : Nat) (w : World) : CmpLays1 Try.prog 88 #[] encL cfL blk off size w := fun m os dk hs x y => by
  have hx := x.bd
  have hy := y.bd
  have h := cmp_any x.1 y.1 (sortWorld encL w blk off m dk os) hx.2.1 hx.2.2 hy.2.1 hy.2.2
  rw [alloc_eq_grow] at h
  exact h.mono fun e w' ⟨he, hw⟩ => ⟨he, 0, _, hw⟩
/-- the literals in their order. -/
def sortL (l : List LitT) : List LitT := l.mergeSort fun x y => !ltOf cfL y x
set_option maxRecDepth 100000 in
theorem sort_lits (blk off cap : Nat) (d : Array LitT) (w : World) (hH : Holds encL w blk off d) (hblk : blk < w.heap.size) (hsz : d.size < 4611686018427387904) :
    Calls Try.prog 49 #[.slice (some ⟨blk, off, none⟩) d.size cap, .func (.func 88) #[] #[]] w fun e w' => e = .returned (.tuple #[]) ∧ ∃ n os, w' = sortWorld encL w blk off n (sortL d.toList).toArray os := by
  have eg : ∀ args w, (callFunc 88 args).run Try.prog w = .ok (.enter 88 args) w := enters_of Try.func88 (by kernel_rfl) rfl
  have hS := Any.slices_SortFunc_total Try.sortL encL (fun _ => rfl) cfL swoL 88 #[] blk off cap d w eg (cmpLays blk off d.size w) hH hblk hsz totL
  exact hS
set_option maxRecDepth 100000 in
theorem sort_none (p : Option Addr) (c : Nat) (w : World) : Calls Try.prog 49 #[.slice p 0 c, .func (.func 88) #[] #[]] w fun e w' => e = .returned (.tuple #[]) ∧ w' = w := by
  have hS := AnyF.slices_SortFunc_none (P := Try.prog) (ρ := Try.sortL_ren) { Try.sortL with } p c (.func (.func 88) #[] #[]) w
  exact hS
set_option maxRecDepth 100000 in
theorem zero30 (w : World) : (zeroValue 54).run Try.prog w = .ok (.int .i64 0) w := by
  exact Try.zeroValue54 w
set_option maxRecDepth 100000 in
theorem compact_lits (blk off cap : Nat) (d : Array Int) (w : World) (hH : Holds (Value.int .i64) w blk off d) (hsz : d.size ≤ 9223372036854775807) (hcap : d.size ≤ cap) :
    Calls Try.prog 91 #[.slice (some ⟨blk, off, none⟩) d.size cap] w fun e w' => e = .returned (.slice (some ⟨blk, off, none⟩) (Lib.compactUpTo d d.size).length cap) ∧ ∃ q, w' = putRow (Value.int .i64) (Sort.ahead w q) blk off (Lib.compactUpTo d d.size ++ List.replicate (d.size - (Lib.compactUpTo d d.size).length) 0).toArray := by
  have hS := AnyE.slices_Compact Try.compL (Value.int .i64) (fun _ => rfl) (EqlAt.intD _ _ .i64) (NeqAt.intD _ _ .i64) 0 zero30 blk off cap d w hH hsz hcap
  exact hS
end Go.Proofs.Ytgdncnalahdjeaa
namespace Go.Proofs.Ytgdncnalahdjeaa
open Go Go.RowKit Go.Proofs Go.Sort

/-- the numbers of literals. -/
def nums (l : List LitT) : List Int := l.map (·.1)
theorem putCells_val (off : Nat) (d : Array LitT) (cur : Array Value) : putCells encL off d cur = putCells (Value.int .i64) off (d.map (·.1)) cur := by
  apply Array.ext_getElem?
  intro i
  simp only [putCells, Array.size_map, Array.getElem?_mapIdx]
  cases hc : cur[i]? with
  | none => rfl
  | some v =>
    simp only [Option.map_some]
    by_cases h : off ≤ i ∧ i < off + d.size
    · rw [if_pos h, if_pos h]
      have hi : i - off < d.size := by omega
      simp [encL, getElem!_pos, hi]
    · rw [if_neg h, if_neg h]
theorem sortWorld_val (w : World) (blk off n : Nat) (l : List LitT) (os : Array Obj) : sortWorld encL w blk off n l.toArray os = grow (putRow (Value.int .i64) (Sort.ahead w n) blk off (nums l).toArray) os := by
  unfold sortWorld putRow
  rw [show (putCells encL off l.toArray) = putCells (Value.int .i64) off (nums l).toArray from funext fun cur => by rw [putCells_val]; simp [nums]]
theorem sortL_len (l : List LitT) : (sortL l).length = l.length := by simp [sortL]
theorem holdsL {w : World} {g : Nat} {l : List LitT} (h : Holds (Value.int .i64) w g 0 (nums l).toArray) : Holds encL w g 0 l.toArray := by
  intro j hj
  have hj' : j < l.length := by simpa using hj
  obtain ⟨h1, h2⟩ := h j (by simpa [nums] using hj')
  refine ⟨?_, h2⟩
  rw [h1]
  simp [encL, nums, hj']
theorem sort_own {w : World} {base n : Nat} {v : Value} (l : List LitT) (hl : l.length = n) (h : w.ownsRow base 54 1 v n ((nums l).map (Value.int .i64))) (hn : n < 4611686018427387904) :
    Calls Try.prog 49 #[v, .func (.func 88) #[] #[]] w fun e w' => e = .returned (.tuple #[]) ∧ w'.ownsRow base 54 1 v n ((nums (sortL l)).map (Value.int .i64)) ∧ Below base w w' := by
  rcases h.2 with ⟨rfl, h0⟩ | ⟨g, cap, cur, rfl, hg, hh, hc, hm, hcs, ht⟩
  · subst h0
    have : l = [] := List.length_eq_zero_iff.1 hl
    subst this
    refine (sort_none none 0 w).mono ?_
    rintro e w' ⟨rfl, rfl⟩
    exact ⟨rfl, by rw [show sortL [] = [] from List.length_eq_zero_iff.1 (sortL_len [])]; exact h, Below.refl _ _⟩
  · subst hl
    have hlen : (nums l).length = l.length := by simp [nums]
    have hH := holds_of_blockI (ss := nums l) hh (by rw [hlen, ← ht, Nat.mul_one])
    have hblk : g < w.heap.size := (Array.getElem?_eq_some_iff.1 hh).1
    have hS := sort_lits g 0 cap l.toArray w (holdsL hH) hblk (by simpa using hn)
    simp only [List.size_toArray] at hS
    refine hS.mono ?_
    rintro e w' ⟨rfl, m, os, rfl⟩
    rw [sortWorld_val]
    refine ⟨rfl, ?_, ?_⟩
    · have := ownsRow_sortedI (base := base) (n := m) (os := os) (ss := nums l) (ts := nums (sortL l)) (by simp [nums, sortL_len]) hg hh (by rw [hlen]; exact hc) hm hcs
      rw [hlen] at this
      exact this
    · have := (Below.refl base w).grown (grownBy_sortedI (w := w) (g := g) (n := m) (os := os) (nums (sortL l)).toArray) (by omega) (fun k hk => by cases hk; exact hg)
      exact this
end Go.Proofs.Ytgdncnalahdjeaa
namespace Go.Proofs.Ytgdncnalahdjeaa
open Go Go.RowKit Go.Proofs Go.Sort

set_option maxRecDepth 100000 in
set_option maxHeartbeats 800000 in
theorem compact_none (p : Option Addr) (c : Nat) (w : World) : Calls Try.prog 91 #[.slice p 0 c] w fun e w' => e = .returned (.slice p 0 c) ∧ w' = w := by
  go_enter Try.func91, Try.ntmps91
  go_wp2_with fail
  go_ret
  exact ⟨rfl, rfl⟩
/-- the normal form. -/
def formL (l : List LitT) : List Int := Lib.compact (nums (sortL l))
theorem compact_own {w : World} {base n : Nat} {v : Value} (zs : List Int) (hl : zs.length = n) (h : w.ownsRow base 54 1 v n (zs.map (Value.int .i64))) (hn : n < 4611686018427387904) :
    Calls Try.prog 91 #[v] w fun e w' => ∃ v', e = .returned v' ∧ w'.ownsRow base 54 1 v' (Lib.compact zs).length ((Lib.compact zs).map (Value.int .i64)) ∧ (v' = .slice none 0 0 ↔ v = .slice none 0 0) ∧ Below base w w' := by
  rcases h.2 with ⟨rfl, h0⟩ | ⟨g, cap, cur, rfl, hg, hh, hc, hm, hcs, ht⟩
  · subst h0
    have : zs = [] := List.length_eq_zero_iff.1 hl
    subst this
    refine (compact_none none 0 w).mono ?_
    rintro e w' ⟨rfl, rfl⟩
    exact ⟨_, rfl, h, Iff.rfl, Below.refl _ _⟩
  · subst hl
    have hH := holds_of_blockI (ss := zs) hh (by rw [← ht, Nat.mul_one])
    have hS := compact_lits g 0 cap zs.toArray w hH (by simp; omega) (by simpa using hc)
    simp only [List.size_toArray] at hS
    have hle : (Lib.compactUpTo zs.toArray zs.length).length ≤ zs.length := by
      unfold Lib.compactUpTo
      rw [List.length_map]
      exact Nat.le_trans (List.length_filter_le _ _) (by simp)
    refine hS.mono ?_
    rintro e w' ⟨rfl, m, rfl⟩
    refine ⟨_, rfl, ?_, by simp, ?_⟩
    · have hr := ownsRow_sortedI (base := base) (n := m) (os := #[]) (ss := zs) (ts := Lib.compactUpTo zs.toArray zs.length ++ List.replicate (zs.length - (Lib.compactUpTo zs.toArray zs.length).length) 0) (by simp; omega) hg hh hc hm hcs
      rw [grow_empty] at hr
      rcases hr.2 with ⟨hx, _⟩ | ⟨g', cap', cur', hv, hg', hh', hc', hm', hcs', ht'⟩
      · cases hx
      · cases hv
        refine ⟨by simp [Lib.compact], .inr ⟨g, cap, cur', rfl, hg', hh', Nat.le_trans hle hc', hm', hcs', ?_⟩⟩
        have := congrArg (List.take (Lib.compactUpTo zs.toArray zs.length).length) ht'
        rw [List.take_take, Nat.mul_one, Nat.min_eq_left hle] at this
        unfold Lib.compact
        rw [Nat.mul_one, this]
        simp [List.map_append]
    · have := (Below.refl base w).grown (grownBy_sortedI (w := w) (g := g) (n := m) (os := #[]) (Lib.compactUpTo zs.toArray zs.length ++ List.replicate (zs.length - (Lib.compactUpTo zs.toArray zs.length).length) 0).toArray) (by have := (Array.getElem?_eq_some_iff.1 hh).1; omega) (fun k hk => by cases hk; exact hg)
      rw [grow_empty] at this
      exact this
end Go.Proofs.Ytgdncnalahdjeaa
namespace Go.Proofs.Ytgdncnalahdjeaa
open Go Go.RowKit Go.Proofs Go.Sort

/-- the order of literals, on numbers. -/
def ltI (x y : Int) : Prop := absI x < absI y ∨ (absI x = absI y ∧ y < x)
theorem ltI_irrefl (x : Int) : ¬ ltI x x := by unfold ltI; omega
theorem ltI_trans {x y z : Int} (h : ltI x y) (k : ltI y z) : ltI x z := by unfold ltI at *; omega
theorem ltI_total (x y : Int) : ltI x y ∨ x = y ∨ ltI y x := by
  unfold ltI
  have h1 := absI_cases x
  have h2 := absI_cases y
  omega
/-- strictly sorted lists with the same members are one. -/
theorem srt_unique : ∀ (a b : List Int), a.Pairwise ltI → b.Pairwise ltI → (∀ x, x ∈ a ↔ x ∈ b) → a = b := by
  intro a
  induction a with
  | nil =>
    intro b _ _ h
    cases b with
    | nil => rfl
    | cons y b => exact absurd ((h y).2 (by simp)) (by simp)
  | cons x a ih =>
    intro b ha hb h
    cases b with
    | nil => exact absurd ((h x).1 (by simp)) (by simp)
    | cons y b =>
      rw [List.pairwise_cons] at ha hb
      have e : x = y := by
        have h1 := (h x).1 (by simp)
        have h2 := (h y).2 (by simp)
        rw [List.mem_cons] at h1 h2
        rcases h1 with h1 | h1
        · exact h1
        · rcases h2 with h2 | h2
          · exact h2.symm
          · exact absurd (ltI_trans (ha.1 y h2) (hb.1 x h1)) (ltI_irrefl x)
      subst e
      congr 1
      refine ih b ha.2 hb.2 (fun z => ?_)
      have hz := h z
      rw [List.mem_cons, List.mem_cons] at hz
      constructor
      · intro hm
        rcases hz.1 (.inr hm) with rfl | h'
        · exact absurd (ha.1 z hm) (ltI_irrefl z)
        · exact h'
      · intro hm
        rcases hz.2 (.inr hm) with rfl | h'
        · exact absurd (hb.1 z hm) (ltI_irrefl z)
        · exact h'
theorem compact_srt (d : Array Int) (hs : ∀ i j, i ≤ j → j < d.size → ¬ ltI d[j]! d[i]!) : ∀ m, m ≤ d.size → (Lib.compactUpTo d m).Pairwise ltI ∧ ∀ x, x ∈ Lib.compactUpTo d m ↔ ∃ j, j < m ∧ d[j]! = x := by
  intro m
  induction m with
  | zero => intro _; exact ⟨by simp [Lib.compactUpTo], fun x => by simp [Lib.compactUpTo]⟩
  | succ m ih =>
    intro hm
    obtain ⟨h1, h2⟩ := ih (by omega)
    rw [Lib.compactUpTo_succ]
    by_cases hk : m = 0 ∨ d[m]! ≠ d[m - 1]!
    · have hkk : Lib.keeps d m = true := by unfold Lib.keeps; exact decide_eq_true hk
      rw [if_pos hkk]
      constructor
      · rw [List.pairwise_append]
        refine ⟨h1, by simp, fun x hx y hy => ?_⟩
        rw [List.mem_singleton] at hy
        subst hy
        obtain ⟨j, hj, rfl⟩ := (h2 x).1 hx
        have hk' : d[m]! ≠ d[m - 1]! := by
          rcases hk with h0 | h0
          · omega
          · exact h0
        have a1 := hs j (m - 1) (by omega) (by omega)
        have a2 := hs (m - 1) m (by omega) (by omega)
        have t1 := ltI_total d[j]! d[m - 1]!
        have t2 := ltI_total d[m - 1]! d[m]!
        rcases t1 with t1 | t1 | t1
        · rcases t2 with t2 | t2 | t2
          · exact ltI_trans t1 t2
          · exact absurd t2.symm hk'
          · exact absurd t2 a2
        · rw [t1]
          rcases t2 with t2 | t2 | t2
          · exact t2
          · exact absurd t2.symm hk'
          · exact absurd t2 a2
        · exact absurd t1 a1
      · intro x
        rw [List.mem_append, List.mem_singleton, h2]
        constructor
        · rintro (⟨j, hj, rfl⟩ | rfl)
          · exact ⟨j, by omega, rfl⟩
          · exact ⟨m, by omega, rfl⟩
        · rintro ⟨j, hj, rfl⟩
          by_cases hjm : j < m
          · exact .inl ⟨j, hjm, rfl⟩
          · obtain rfl : j = m := by omega
            exact .inr rfl
    · have hkk : ¬ Lib.keeps d m = true := by unfold Lib.keeps; rw [decide_eq_true_eq]; exact hk
      rw [if_neg hkk, List.append_nil]
      refine ⟨h1, fun x => ?_⟩
      rw [h2]
      constructor
      · rintro ⟨j, hj, rfl⟩
        exact ⟨j, by omega, rfl⟩
      · rintro ⟨j, hj, rfl⟩
        by_cases hjm : j < m
        · exact ⟨j, hjm, rfl⟩
        · obtain rfl : j = m := by omega
          by_cases h0 : j = 0
          · exact absurd (.inl h0) hk
          · refine ⟨j - 1, by omega, ?_⟩
            by_cases e : d[j]! = d[j - 1]!
            · exact e.symm
            · exact absurd (.inr e) hk
theorem sortL_pair (l : List LitT) : (sortL l).Pairwise fun x y => ¬ ltI y.1 x.1 := by
  have h := List.pairwise_mergeSort (le := fun x y : LitT => !ltOf cfL y x) (fun a b c h1 h2 => by
      simp only [Bool.not_eq_true'] at *
      exact swoL.ntrans _ _ _ h2 h1) (fun a b => by
      simp only [Bool.or_eq_true, Bool.not_eq_true']
      by_cases h1 : ltOf cfL b a = true
      · refine .inr ?_
        by_cases h2 : ltOf cfL a b = true
        · exact absurd (swoL.trans _ _ _ h1 h2) (by rw [swoL.irrefl]; simp)
        · simpa using h2
      · exact .inl (by simpa using h1)) l
  refine h.imp fun {x y} hxy => ?_
  rw [ltL] at hxy
  simp only [Bool.not_eq_true', decide_eq_false_iff_not] at hxy
  exact hxy
theorem sortL_mem (l : List LitT) (x : LitT) : x ∈ sortL l ↔ x ∈ l := (List.mergeSort_perm l _).mem_iff
theorem formL_spec (l : List LitT) : (formL l).Pairwise ltI ∧ ∀ x, x ∈ formL l ↔ x ∈ nums l := by
  have hs : ∀ i j, i ≤ j → j < (nums (sortL l)).toArray.size → ¬ ltI (nums (sortL l)).toArray[j]! (nums (sortL l)).toArray[i]! := by
    intro i j hij hj
    have hj' : j < (sortL l).length := by simpa [nums] using hj
    have hi' : i < (sortL l).length := by omega
    rw [getElem!_pos _ j hj, getElem!_pos _ i (by omega)]
    simp only [nums, List.getElem_toArray, List.getElem_map]
    by_cases e : i = j
    · subst e; exact ltI_irrefl _
    · exact List.pairwise_iff_getElem.1 (sortL_pair l) i j hi' hj' (by omega)
  obtain ⟨h1, h2⟩ := compact_srt _ hs (nums (sortL l)).length (by simp)
  refine ⟨h1, fun x => ?_⟩
  unfold formL Lib.compact
  rw [h2]
  constructor
  · rintro ⟨j, hj, rfl⟩
    rw [getElem!_pos _ j (by simpa using hj)]
    have hj' : j < (sortL l).length := by simpa [nums] using hj
    simp only [nums, List.getElem_toArray, List.getElem_map]
    exact List.mem_map.2 ⟨(sortL l)[j], (sortL_mem l _).1 (List.getElem_mem hj'), rfl⟩
  · intro hx
    obtain ⟨y, hy, rfl⟩ := List.mem_map.1 hx
    obtain ⟨j, hj, he⟩ := List.getElem_of_mem ((sortL_mem l y).2 hy)
    refine ⟨j, by simpa [nums] using hj, ?_⟩
    rw [getElem!_pos _ j (by simpa [nums] using hj)]
    simp [nums, he]
theorem formL_of (l : List LitT) (o : List Int) (h1 : o.Pairwise ltI) (h2 : ∀ x, x ∈ o ↔ x ∈ nums l) : formL l = o :=
  srt_unique _ _ (formL_spec l).1 h1 (fun x => by rw [(formL_spec l).2, h2])
end Go.Proofs.Ytgdncnalahdjeaa
