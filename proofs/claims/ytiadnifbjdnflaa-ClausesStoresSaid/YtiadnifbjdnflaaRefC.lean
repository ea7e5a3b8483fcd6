/- juristref14: Copied, SaysNothing; rows of the call's own as arguments. -/
import Derived.Test.YtiadnifbjdnflaaRefB
import Derived.Laws.AppendOwnNone
namespace Go.Proofs.Ytiadnifbjdnflaa
open Go Go.RowKit

/-- the first numbers. -/
def rowL (n : Nat) (V : Nat → Int) : List Int := (List.range n).map V
theorem rowL_len (n : Nat) (V : Nat → Int) : (rowL n V).length = n := by simp [rowL]
theorem rowL_get (n : Nat) (V : Nat → Int) (i : Nat) (hi : i < n) : (rowL n V)[i]? = some (V i) := by simp [rowL, hi]
theorem rowL_mem (n : Nat) (V : Nat → Int) (x : Int) : x ∈ rowL n V ↔ ∃ i, i < n ∧ V i = x := by simp [rowL]
/-- a row of the call's own is a slice that reads as its numbers. -/
theorem own_in {w : World} {base n : Nat} {v : Value} {zs : List Int} (h : w.ownsRow base 30 1 v n (zs.map (Value.int .i64))) (hl : zs.length = n) :
    ∃ (p : Option Addr) (c : Nat), v = .slice p n c ∧ (p = none → c = 0) ∧ LitsIn w p n (fun i => zs.getD i 0) ∧ ∀ ad, p = some ad → base ≤ ad.block := by
  rcases h.2 with ⟨rfl, rfl⟩ | ⟨g, cap, cur, rfl, hg, hh, hc, hm, hcs, ht⟩
  · exact ⟨none, 0, rfl, fun _ => rfl, fun h => by omega, fun ad h => by cases h⟩
  · refine ⟨some ⟨g, 0, none⟩, cap, rfl, (fun h => by cases h), ?_, (fun ad h => by cases h; exact hg)⟩
    intro _
    refine ⟨g, 0, rfl, fun i hi => ?_⟩
    have hv : (Value.slice (some ⟨g, 0, none⟩) n cap) ≠ .slice none 0 0 := by simp
    obtain ⟨b', c', he, _, hcell⟩ := own_cells h hv
    cases he
    rw [Nat.zero_add]
    refine hcell i _ ?_
    rw [List.getElem?_map, List.getElem?_eq_getElem (by omega)]
    simp [List.getD, List.getElem?_eq_getElem (show i < zs.length by omega)]
theorem lits_ext {W : World} {p : Option Addr} {n : Nat} {V U : Nat → Int} (h : LitsIn W p n V) (he : ∀ i, i < n → V i = U i) : LitsIn W p n U := fun hn => by
  obtain ⟨b, off, e, ha⟩ := h hn
  exact ⟨b, off, e, fun i hi => by rw [← he i hi]; exact ha i hi⟩
theorem own_row {w : World} {base n : Nat} {v : Value} {V : Nat → Int} (h : w.ownsRow base 30 1 v n ((rowL n V).map (Value.int .i64))) :
    ∃ (p : Option Addr) (c : Nat), v = .slice p n c ∧ (p = none → c = 0) ∧ LitsIn w p n V ∧ ∀ ad, p = some ad → base ≤ ad.block := by
  obtain ⟨p, c, h1, h2, h3, h4⟩ := own_in h (rowL_len _ _)
  refine ⟨p, c, h1, h2, lits_ext h3 (fun i hi => ?_), h4⟩
  simp [List.getD, rowL_get n V i hi]
theorem row_one (zs : List Int) : ∀ u ∈ zs.map (Value.int .i64), u.oneCell' = true := by
  intro u hu
  obtain ⟨x, _, rfl⟩ := List.mem_map.1 hu
  rfl
theorem lits_cells {W : World} {b off n : Nat} {V : Nat → Int} (h : IntsAt W b off n V) (j : Nat) (u : Value) (hj : ((rowL n V).map (Value.int .i64))[j]? = some u) : W.cell? ⟨b, off + j, none⟩ = some u := by
  have hjn : j < n := by
    have := (List.getElem?_eq_some_iff.1 hj).1
    simpa [rowL_len] using this
  rw [h j hjn]
  rw [List.getElem?_map, rowL_get n V j hjn] at hj
  simpa using hj
set_option maxRecDepth 100000 in
set_option maxHeartbeats 800000 in
theorem copied_any (p : Option Addr) (n c : Nat) (V : Nat → Int) (w : World) (hV : LitsIn w p n V) (hn : n ≤ 17592186044415) (hp : p = none → c = 0) :
    Calls Try.prog 19 #[.slice p n c] w fun e w' => ∃ v', e = .returned v' ∧ w'.ownsRow w.heap.size 30 1 v' n ((rowL n V).map (Value.int .i64)) ∧ Below w.heap.size w w' := by
  obtain ⟨i0, hi, hz0, hz1, hz2⟩ := info30
  have hown0 : (w.alloc (.cells #[] 30)).ownsRow w.heap.size 30 1 (.slice (some ⟨w.heap.size, 0, none⟩) 0 0) 0 [] := World.ownsRow_made w #[] 0 (Nat.le_refl _) (by omega) (by simp)
  have hB := below1 w (.cells #[] 30)
  have hz3 := hB.size
  cases p with
  | none =>
    have hc := hp rfl
    have h0 : n = 0 := by
      rcases Nat.eq_zero_or_pos n with h | h
      · exact h
      · obtain ⟨b, off, e, _⟩ := hV h; cases e
    subst hc
    subst h0
    have HO := Lib.hid hown0
    have HB := Lib.hid hB
    clear hV hp hown0 hB
    go_enter Try.func19, Try.ntmps19
    go_wp2_with (at_builtin; refine wpList_append_own_none rfl _ _ 22 rfl w.heap.size 30 i0 1 Try.underlying22 hi _ 0 [] rfl HO.out rfl ?_)
    go_ret
    exact ⟨_, rfl, by simpa [rowL] using HO.out, HB.out⟩
  | some ad =>
    have hcells : ∀ j u, ((rowL n V).map (Value.int .i64))[j]? = some u → w.cell? (ad.add j) = some u := by
      intro j u hj
      have hjn : j < n := by
        have := (List.getElem?_eq_some_iff.1 hj).1
        simpa [rowL_len] using this
      obtain ⟨b, off, e, ha⟩ := hV (by omega)
      cases e
      rw [Lib.add_plain]
      exact lits_cells ha j u hj
    have HO := Lib.hid hown0
    have HB := Lib.hid hB
    have HC := Lib.hid (fun j u hj => cell_later hB (hcells j u hj))
    clear hV hp hown0 hB hcells
    go_enter Try.func19, Try.ntmps19
    go_wp2_with (at_builtin; refine wpList_append_own _ rfl _ _ 22 rfl w.heap.size 30 i0 (.int .i64 0) 1 8 Try.underlying22 hi hz0 hz1 hz2 rfl (by omega) _ 0 [] rfl HO.out ad n c ((rowL n V).map (Value.int .i64)) rfl (by simp [rowL_len]) ?qc2 (row_one _) ?qc4 ?qc5 ?qc6 ?_)
    case qc2 => exact HC.out
    case qc4 => have hml : maxLen = 9223372036854775807 := rfl; omega
    case qc5 => omega
    try (case qc6 => first | exact hz3 | (simp only [World.size_alloc] at hz3 ⊢; omega))
    intro v4 w4 hown hgrow hnil
    try rw [Nat.zero_add] at hown
    try rw [List.nil_append] at hown
    have HW := Lib.hid hown
    have HB4 := Lib.hid ((HB.out).grown hgrow hz3 (fun k hk => (World.ownsRow.lt HO.out k hk).1))
    clear hown hgrow hnil
    go_wp2
    go_ret
    exact ⟨_, rfl, HW.out, HB4.out⟩
/-- does a list say nothing, as the document has it? -/
def refNothB (n : Nat) (V : Nat → Int) : Bool := anyB n fun i => anyB i fun k => V i != 0 && V i == negI (V k) && V i != V k
theorem negI_negI (x : Int) (h : x ≤ 9223372036854775807) : negI (negI x) = x := by
  unfold negI
  by_cases h0 : x = -9223372036854775808
  · rw [if_pos h0, if_pos h0]
  · rw [if_neg h0, if_neg (by omega)]; omega
theorem nothB_ref (n : Nat) (V : Nat → Int) (hI : ∀ i, i < n → I64 (V i)) : nothB n V = refNothB n V := by
  rw [Bool.eq_iff_iff]
  unfold nothB refNothB
  rw [anyB_iff, anyB_iff]
  constructor
  · rintro ⟨i, hi, h⟩
    unfold pred54 at h
    rw [Bool.and_eq_true, hasB_iff, bne_iff_ne] at h
    obtain ⟨⟨k, hk, he⟩, hne⟩ := h
    have hz : V i ≠ 0 := by
      intro h0
      rw [h0] at hne
      exact hne (by decide)
    have hik : i ≠ k := fun e => hne (by rw [← he, e])
    rcases Nat.lt_or_gt_of_ne hik with h | h
    · refine ⟨k, hk, (anyB_iff _ _).2 ⟨i, h, ?_⟩⟩
      simp only [Bool.and_eq_true, bne_iff_ne, beq_iff_eq]
      refine ⟨⟨?_, he⟩, ?_⟩
      · rw [he]; unfold negI; split <;> omega
      · rw [he]; exact fun e => hne e.symm
    · refine ⟨i, hi, (anyB_iff _ _).2 ⟨k, h, ?_⟩⟩
      simp only [Bool.and_eq_true, bne_iff_ne, beq_iff_eq]
      refine ⟨⟨hz, ?_⟩, ?_⟩
      · rw [he, negI_negI _ (hI _ hi).2]
      · rw [he]; exact hne
  · rintro ⟨i, hi, h⟩
    obtain ⟨k, hk, h⟩ := (anyB_iff _ _).1 h
    simp only [Bool.and_eq_true, bne_iff_ne, beq_iff_eq] at h
    obtain ⟨⟨h0, h1⟩, h2⟩ := h
    refine ⟨i, hi, ?_⟩
    unfold pred54
    rw [Bool.and_eq_true, bne_iff_ne]
    refine ⟨hasB_yes k (by omega) ?_, ?_⟩
    · rw [h1, negI_negI _ (hI k (by omega)).2]
    · intro e
      apply h2
      have := congrArg negI h1
      rw [negI_negI _ (hI k (by omega)).2] at this
      rw [← this, ← e]
theorem refNothB_no {n : Nat} {V : Nat → Int} (h : ∀ i, i < n → ∀ k, k < i → (V i != 0 && V i == negI (V k) && V i != V k) = false) : refNothB n V = false := anyB_no fun i hi => anyB_no fun k hk => h i hi k hk
set_option maxRecDepth 100000 in
set_option maxHeartbeats 1600000 in
theorem refSays_any (p : Option Addr) (n c : Nat) (V : Nat → Int) (w : World) (hV : LitsIn w p n V) (hn : n ≤ 9223372036854775807) (hI : ∀ i, i < n → I64 (V i)) :
    Calls Try.prog 26 #[.slice p n c] w fun e w' => e = .returned (.bool (refNothB n V)) ∧ Below w.heap.size w w' := by
  have HV := Lib.hid hV
  have HI := Lib.hid hI
  clear hV hI
  go_enter Try.func26, Try.ntmps26
  go_wp2_with fail
  go_loopw [3] (fun i wr => ∃ j : Nat, j ≤ n ∧ i = .int .i64 j ∧ Below w.heap.size w wr ∧ ∀ t, t < j → ∀ k, k < t → (V t != 0 && V t == negI (V k) && V t != V k) = false) (fun i _ => n - (intOf i).toNat)
  case atStart => exact ⟨0, by omega, rfl, Below.refl _ _, fun t ht => by omega⟩
  case round =>
    obtain ⟨j, hj, rfl, hb, hall⟩ := hrel
    have HALL := Lib.hid hall
    have HB := Lib.hid hb
    clear hall hb
    by_cases hlt : j < n
    · obtain ⟨b, off, rfl, hV⟩ := HV.out (by omega)
      have HVV := Lib.hid hV
      have hj0 : (0 : Int) ≤ (j : Int) := by omega
      have hj1 : (j : Int) < (n : Int) := by omega
      clear hV
      obtain ⟨wo, rfl⟩ : ∃ wo : World, wo = wr := ⟨_, rfl⟩
      go_wp2_with fail
      go_loopw [4] (fun i wr => ∃ k : Nat, k ≤ j ∧ i = .int .i64 k ∧ Below w.heap.size w wr ∧ ∀ t, t < k → (V j != 0 && V j == negI (V t) && V j != V t) = false) (fun i _ => j - (intOf i).toNat)
      case atStart => exact ⟨0, by omega, rfl, HB.out, fun t ht => by omega⟩
      case round =>
        obtain ⟨k, hk, rfl, hb, hin⟩ := hrel
        have HIN := Lib.hid hin
        have HB := Lib.hid hb
        clear hin hb
        by_cases hlt2 : k < j
        · have hk0 : (0 : Int) ≤ (k : Int) := by omega
          have hk1 : (k : Int) < (n : Int) := by omega
          have hk2 : (k : Int) < (j : Int) := by omega
          have cv := (HVV.out.later HB.out) j hlt
          have cu := (HVV.out.later HB.out) k (by omega)
          have i0 := HI.out j hlt
          have i1 := HI.out k (by omega)
          have HNEW := Lib.hid (show (V j != 0 && V j == negI (V k) && V j != V k) = false → ∀ t, t < k + 1 → (V j != 0 && V j == negI (V t) && V j != V t) = false from fun h t ht => by
            by_cases htk : t < k
            · exact HIN.out t htk
            · obtain rfl : t = k := by omega
              exact h)
          have HTRUE := Lib.hid (show (V j != 0 && V j == negI (V k) && V j != V k) = true → refNothB n V = true from fun h => anyB_yes j hlt (anyB_yes k hlt2 h))
          obtain ⟨x, hx⟩ : ∃ x, x = V j := ⟨_, rfl⟩
          obtain ⟨y, hy⟩ : ∃ y, y = V k := ⟨_, rfl⟩
          rw [← hx] at cv i0
          rw [← hy] at cu i1
          have key : x = 0 ∨ (x ≠ 0 ∧ x ≠ negI y) ∨ (x ≠ 0 ∧ x = negI y ∧ x = y) ∨ (x ≠ 0 ∧ x = negI y ∧ x ≠ y) := by
            by_cases a1 : x = 0
            · exact .inl a1
            · by_cases a2 : x = negI y
              · by_cases a3 : x = y
                · exact .inr (.inr (.inl ⟨a1, a2, a3⟩))
                · exact .inr (.inr (.inr ⟨a1, a2, a3⟩))
              · exact .inr (.inl ⟨a1, a2⟩)
          have HV2 := Lib.hid (And.intro hx hy)
          obtain ⟨i00, i01⟩ := i0
          obtain ⟨i10, i11⟩ := i1
          clear hx hy
          by_cases hm : y = -9223372036854775808
          · have hn : negI y = -9223372036854775808 := by unfold negI; rw [if_pos hm, hm]
            have hw2 : wrap64 9223372036854775808 = -9223372036854775808 := by rw [wrap64_eq]; omega
            have HM := Lib.hid hm
            rw [hm] at cu
            clear hm
            rcases key with k0 | ⟨k0, k1⟩ | ⟨k0, k1, k2⟩ | ⟨k0, k1, k2⟩
            · have HK := Lib.hid (show (V j != 0 && V j == negI (V k) && V j != V k) = false by rw [← HV2.out.1, ← HV2.out.2]; rw [k0]; rfl)
              skip
              have f1 : (x != 0) = false := by simp [k0]
              clear hn hw2 k0
              go_wp2_with fail
              go_quiet (fail)
              go_wp2
              go_roundw
              case rel => exact ⟨k + 1, by omega, by go_num, HB.out.trans ((below_drewN _ _).mono HB.out.size), HNEW.out HK.out⟩
              case measure => simp [intOf]; omega
            · have HK := Lib.hid (show (V j != 0 && V j == negI (V k) && V j != V k) = false by rw [← HV2.out.1, ← HV2.out.2]; rw [show (x == negI y) = false from by simpa using k1]; simp)
              rw [hn] at k1
              have f1 : (x != 0) = true := by simp [k0]
              have f2 : (x == wrap64 9223372036854775808) = false := by rw [hw2]; simpa using k1
              clear hn hw2 k0 k1
              go_wp2_with fail
              go_quiet (fail)
              go_wp2
              go_roundw
              case rel => exact ⟨k + 1, by omega, by go_num, HB.out.trans ((below_drewN _ _).mono HB.out.size), HNEW.out HK.out⟩
              case measure => simp [intOf]; omega
            · have HK := Lib.hid (show (V j != 0 && V j == negI (V k) && V j != V k) = false by rw [← HV2.out.1, ← HV2.out.2]; rw [show (x != y) = false from by rw [bne_eq_false_iff_eq]; exact k2]; simp)
              rw [hn] at k1
              have f1 : (x != 0) = true := by simp [k0]
              have f2 : (x == wrap64 9223372036854775808) = true := by rw [hw2]; simpa using k1
              have f3 : (x != -9223372036854775808) = false := by rw [← HM.out]; first | (rw [bne_eq_false_iff_eq]; exact k2) | (rw [bne_iff_ne]; exact k2)
              clear hn hw2 k0 k1 k2
              go_wp2_with fail
              go_quiet (fail)
              go_wp2
              go_roundw
              case rel => exact ⟨k + 1, by omega, by go_num, HB.out.trans ((below_drewN _ _).mono HB.out.size), HNEW.out HK.out⟩
              case measure => simp [intOf]; omega
            · have HK := Lib.hid (show (V j != 0 && V j == negI (V k) && V j != V k) = true by rw [← HV2.out.1, ← HV2.out.2]; simp only [Bool.and_eq_true, bne_iff_ne, beq_iff_eq]; exact ⟨⟨k0, k1⟩, k2⟩)
              rw [hn] at k1
              have f1 : (x != 0) = true := by simp [k0]
              have f2 : (x == wrap64 9223372036854775808) = true := by rw [hw2]; simpa using k1
              have f3 : (x != -9223372036854775808) = true := by rw [← HM.out]; first | (rw [bne_eq_false_iff_eq]; exact k2) | (rw [bne_iff_ne]; exact k2)
              clear hn hw2 k0 k1 k2
              go_wp2_with fail
              go_quiet (fail)
              go_wp2
              go_ret
              exact ⟨by rw [HTRUE.out HK.out]; rfl, HB.out.trans ((below_drewN _ _).mono HB.out.size)⟩
          · have hn : negI y = -y := by unfold negI; rw [if_neg hm]
            have h63 : -9223372036854775807 ≤ y := by omega
            have HM := Lib.hid hm
            clear hm
            rcases key with k0 | ⟨k0, k1⟩ | ⟨k0, k1, k2⟩ | ⟨k0, k1, k2⟩
            · have HK := Lib.hid (show (V j != 0 && V j == negI (V k) && V j != V k) = false by rw [← HV2.out.1, ← HV2.out.2]; rw [k0]; rfl)
              skip
              have f1 : (x != 0) = false := by simp [k0]
              clear hn k0
              go_wp2_with fail
              go_quiet (fail)
              go_wp2
              go_roundw
              case rel => exact ⟨k + 1, by omega, by go_num, HB.out.trans ((below_drewN _ _).mono HB.out.size), HNEW.out HK.out⟩
              case measure => simp [intOf]; omega
            · have HK := Lib.hid (show (V j != 0 && V j == negI (V k) && V j != V k) = false by rw [← HV2.out.1, ← HV2.out.2]; rw [show (x == negI y) = false from by simpa using k1]; simp)
              rw [hn] at k1
              have f1 : (x != 0) = true := by simp [k0]
              have f2 : (x == -y) = false := by simpa using k1
              clear hn k0 k1
              go_wp2_with fail
              go_quiet (fail)
              go_wp2
              go_roundw
              case rel => exact ⟨k + 1, by omega, by go_num, HB.out.trans ((below_drewN _ _).mono HB.out.size), HNEW.out HK.out⟩
              case measure => simp [intOf]; omega
            · have HK := Lib.hid (show (V j != 0 && V j == negI (V k) && V j != V k) = false by rw [← HV2.out.1, ← HV2.out.2]; rw [show (x != y) = false from by rw [bne_eq_false_iff_eq]; exact k2]; simp)
              rw [hn] at k1
              have f1 : (x != 0) = true := by simp [k0]
              have f2 : (x == -y) = true := by simpa using k1
              have f3 : (x != y) = false := by rw [bne_eq_false_iff_eq]; exact k2
              clear hn k0 k1 k2
              go_wp2_with fail
              go_quiet (fail)
              go_wp2
              go_roundw
              case rel => exact ⟨k + 1, by omega, by go_num, HB.out.trans ((below_drewN _ _).mono HB.out.size), HNEW.out HK.out⟩
              case measure => simp [intOf]; omega
            · have HK := Lib.hid (show (V j != 0 && V j == negI (V k) && V j != V k) = true by rw [← HV2.out.1, ← HV2.out.2]; simp only [Bool.and_eq_true, bne_iff_ne, beq_iff_eq]; exact ⟨⟨k0, k1⟩, k2⟩)
              rw [hn] at k1
              have f1 : (x != 0) = true := by simp [k0]
              have f2 : (x == -y) = true := by simpa using k1
              have f3 : (x != y) = true := by rw [bne_iff_ne]; exact k2
              clear hn k0 k1 k2
              go_wp2_with fail
              go_quiet (fail)
              go_wp2
              go_ret
              exact ⟨by rw [HTRUE.out HK.out]; rfl, HB.out.trans ((below_drewN _ _).mono HB.out.size)⟩
        · obtain rfl : k = j := by omega
          go_wp2_with fail
          go_roundw
          case rel => exact ⟨k + 1, by omega, by go_num, HB.out, fun t ht => by
            by_cases htj : t < k
            · exact HALL.out t htj
            · obtain rfl : t = k := by omega
              exact HIN.out⟩
          case measure => simp [intOf]; omega
    · obtain rfl : j = n := by omega
      have HE := Lib.hid (refNothB_no HALL.out)
      have hb2 := HB.out
      go_wp2_with fail
      go_ret
      exact ⟨by rw [HE.out]; rfl, hb2⟩
end Go.Proofs.Ytiadnifbjdnflaa
