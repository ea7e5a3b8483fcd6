/- The walk of the law ClausesFollow. -/
import Derived.Test.YtiadnifbjdnflaaLawForms
namespace Go.Proofs.Ytiadnifbjdnflaa
open Go Go.RowKit

theorem litB_neg {bits x : Int} (h : litB bits x = true) (h0 : x ≠ 0) : litB bits (-x) = false := by
  unfold litB at *
  rw [show absI (-x) = absI x by unfold absI; omega]
  by_cases hx : 0 < x
  · rw [decide_eq_true hx] at h
    rw [decide_eq_false (show ¬ 0 < -x by omega)]
    simp at h ⊢
    exact h
  · rw [decide_eq_false hx] at h
    rw [decide_eq_true (show 0 < -x by omega)]
    simp at h ⊢
    exact h
theorem holdB_list {bits : Int} {o : List Int} {x : Int} (h : x ∈ o) (hl : litB bits x = true) : holdB bits o.length (fun i => o.getD i 0) = true := by
  obtain ⟨i, hi, he⟩ := List.getElem_of_mem h
  exact anyB_yes (f := fun i => litB bits (o.getD i 0)) i hi (by simp only [List.getD, List.getElem?_eq_getElem hi, Option.getD_some, he]; exact hl)
theorem follow_true {n m : Nat} {V U : Nat → Int} {by' bits : Int} {l : List LitT} (hl : nums l = resL n V m U by') (hok : ResOK n V m U by') (h1 : holdB bits n V = true) (h2 : holdB bits m U = true) : holdB bits (formL l).length (fun i => (formL l).getD i 0) = true := by
  obtain ⟨i, hi, h1⟩ := (anyB_iff _ _).1 h1
  obtain ⟨j, hj, h2⟩ := (anyB_iff _ _).1 h2
  have key : ∀ x, x ∈ resL n V m U by' → litB bits x = true → holdB bits (formL l).length (fun i => (formL l).getD i 0) = true := fun x hx hx2 => holdB_list (((formL_spec l).2 x).2 (by rw [hl]; exact hx)) hx2
  by_cases e : V i = by'
  · refine key (U j) ?_ h2
    unfold resL
    refine List.mem_append.2 (.inr (List.mem_filter.2 ⟨(rowL_mem m U _).2 ⟨j, hj, rfl⟩, ?_⟩))
    rw [bne_iff_ne]
    intro e2
    have h3 := litB_neg (x := by') (by rw [← e]; exact h1) (by have := hok.2.2.1; omega)
    rw [e2, h3] at h2
    cases h2
  · refine key (V i) ?_ h1
    unfold resL
    refine List.mem_append.2 (.inl (List.mem_filter.2 ⟨(rowL_mem n V _).2 ⟨i, hi, rfl⟩, ?_⟩))
    rw [bne_iff_ne]
    exact e
/-- a literal of the first sixty atoms. -/
def Sixty (x : Int) : Prop := x ≠ 0 ∧ -60 ≤ x ∧ x ≤ 60
theorem form_sixty {n m : Nat} {V U : Nat → Int} {by' : Int} {l : List LitT} (hl : nums l = resL n V m U by') (h1 : ∀ i, i < n → Sixty (V i)) (h2 : ∀ i, i < m → Sixty (U i)) : ∀ i, i < (formL l).length → Sixty ((formL l).getD i 0) := by
  intro i hi
  have hm : (formL l).getD i 0 ∈ formL l := by
    rw [List.getD, List.getElem?_eq_getElem hi]
    exact List.getElem_mem hi
  have h := ((formL_spec l).2 _).1 hm
  rw [hl] at h
  unfold resL at h
  rcases List.mem_append.1 h with h | h
  · obtain ⟨k, hk, he⟩ := (rowL_mem n V _).1 (List.mem_filter.1 h).1
    rw [← he]; exact h1 k hk
  · obtain ⟨k, hk, he⟩ := (rowL_mem m U _).1 (List.mem_filter.1 h).1
    rw [← he]; exact h2 k hk
def catF (n : Nat) (V : Nat → Int) (m : Nat) (U : Nat → Int) (i : Nat) : Int := (rowL n V ++ rowL m U).getD i 0
theorem catF_left {n m : Nat} {V U : Nat → Int} (i : Nat) (hi : i < n) : catF n V m U i = V i := by
  unfold catF
  rw [List.getD, List.getElem?_append_left (by rw [rowL_len]; exact hi), rowL_get n V i hi]
  rfl
theorem catF_right {n m : Nat} {V U : Nat → Int} (i : Nat) (hi : i < m) : catF n V m U (n + i) = U i := by
  unfold catF
  rw [List.getD, List.getElem?_append_right (by rw [rowL_len]; omega), rowL_len, Nat.add_sub_cancel_left, rowL_get m U i hi]
  rfl
theorem u64_of {x : Int} (h : (Lit.int .u64 x).wf = true) : 0 ≤ x ∧ x ≤ 18446744073709551615 := by
  simpa [Lit.wf, IntKind.min, IntKind.max, IntKind.signed, IntKind.bits] using h
theorem holds39_b (p : Option Addr) (n c : Nat) (V : Nat → Int) (bits : Int) (w : World) (g : Bool) (hg : holdB bits n V = g) (hV : LitsIn w p n V) (hn : n ≤ 9223372036854775807) (hR : ∀ i, i < n → Sixty (V i)) (hb0 : 0 ≤ bits) (hb1 : bits ≤ 18446744073709551615) :
    Calls Try.prog 39 #[.slice p n c, .int .u64 bits] w fun e w' => e = .returned (.bool g) ∧ Below w.heap.size w w' := by
  subst hg
  refine (holds39_any p n c V bits w hV hn hR hb0 hb1).mono ?_
  rintro e w' ⟨rfl, rfl⟩
  exact ⟨rfl, Below.refl _ _⟩
set_option maxRecDepth 100000 in
set_option maxHeartbeats 800000 in
theorem follow_out (p : Option Addr) (n c : Nat) (q : Option Addr) (m d : Nat) (by' bits : Int) (w : World) (h : 300 < n ∨ (n ≤ 300 ∧ 300 < m)) (h1 : n ≤ 9223372036854775807) (h2 : m ≤ 9223372036854775807) :
    Calls Try.prog 7 #[.slice p n c, .slice q m d, .int .i64 by', .int .u64 bits] w fun e w' => e = .returned (.bool true) ∧ Below w.heap.size w w' := by
  rcases h with h | ⟨h, h'⟩
  all_goals
    go_enter Try.func7, Try.ntmps7
    go_wp2_with fail
    refine (known14_any _).mono ?_
    rintro e w1 ⟨rfl, hb⟩
    go_wp2_with fail
    go_ret
    exact ⟨rfl, hb⟩
set_option maxRecDepth 100000 in
set_option maxHeartbeats 4000000 in
theorem follow_some (p : Option Addr) (n c : Nat) (V : Nat → Int) (aq : Addr) (m d : Nat) (U : Nat → Int) (by' bits : Int) (w : World) (hV : LitsIn w p n V) (hn : n ≤ 300) (hp : p = none → c = 0) (hb0 : 0 ≤ bits) (hb1 : bits ≤ 18446744073709551615) (hU : LitsIn w (some aq) m U) (hm : m ≤ 300) :
    Calls Try.prog 7 #[.slice p n c, .slice (some aq) m d, .int .i64 by', .int .u64 bits] w fun e w' => e = .returned (.bool true) ∧ Below w.heap.size w w' := by
  obtain ⟨kk, Z, er, hk, her, h1, _⟩ := resolve_same n V m U by' (by omega) (by omega)
  obtain ⟨i0, hi, hz0, hz1, hz2⟩ := info30
  have H1 := Lib.hid h1
  have HER := Lib.hid her
  have HV := Lib.hid hV
  have HU := Lib.hid hU
  have HP := Lib.hid hp
  have HB := Lib.hid (below_self w)
  clear hV hU h1 her hp
  go_enter Try.func7, Try.ntmps7
  go_wp2_with fail
  refine (copied_any p n c V w HV.out (by omega) HP.out).mono ?_
  rintro e w1 ⟨v, rfl, ho, hb⟩
  have HO := Lib.hid ho
  have HB := Lib.hid (chain HB.out hb)
  clear ho hb
  have hz3 := HB.out.size
  have HC := Lib.hid (show ∀ j u, ((rowL m U).map (Value.int .i64))[j]? = some u → w1.cell? (aq.add j) = some u from fun j u hj => by
    have hjn : j < m := by
      have := (List.getElem?_eq_some_iff.1 hj).1
      simpa [rowL_len] using this
    obtain ⟨b, off, e, ha⟩ := (HU.out.later HB.out) (by omega)
    cases e
    rw [Lib.add_plain]
    exact lits_cells ha j u hj)
  go_wp2_with (at_builtin; refine wpList_append_own _ rfl _ _ 22 rfl w.heap.size 30 i0 (.int .i64 0) 1 8 Try.underlying22 hi hz0 hz1 hz2 rfl (by omega) _ n ((rowL n V).map (Value.int .i64)) rfl HO.out aq m d ((rowL m U).map (Value.int .i64)) rfl (by simp [rowL_len]) ?qc2 (row_one _) ?qc4 ?qc5 ?qc6 ?_)
  case qc2 => exact HC.out
  case qc4 => have hml : maxLen = 9223372036854775807 := rfl; omega
  case qc5 => omega
  try (case qc6 => first | exact hz3 | (simp only [World.size_alloc] at hz3 ⊢; omega))
  intro v4 w4 hown hgrow hnil
  have HB := Lib.hid ((HB.out).grown hgrow hz3 (fun k hk => (World.ownsRow.lt HO.out k hk).1))
  obtain ⟨pa, ca, rfl, _, hL, _⟩ := own_in (zs := rowL n V ++ rowL m U) (n := n + m) (by simpa using hown) (by simp [rowL_len])
  have HL := Lib.hid (show LitsIn w4 pa (n + m) (catF n V m U) from hL)
  clear hown hgrow hnil hL
  have HGET := Lib.hid (show ∀ j, j < n + m → w4.cell? = w4.cell? from fun _ _ => rfl)
  go_wp2_with fail
  go_loopw [28] (fun i wr => ∃ j : Nat, j ≤ n + m ∧ i = .int .i64 j ∧ w4 = wr ∧ ∀ t, t < j → Sixty (catF n V m U t)) (fun i _ => n + m - (intOf i).toNat)
  case atStart => exact ⟨0, by omega, rfl, rfl, fun t ht => by omega⟩
  case round =>
    obtain ⟨j, hj, rfl, rfl, hall⟩ := hrel
    have HALL := Lib.hid hall
    clear hall
    by_cases hlt : j < n + m
    · obtain ⟨b, off, rfl, hX⟩ := HL.out (by omega)
      have hj0 : (0 : Int) ≤ (j : Int) := by omega
      have hj1 : (j : Int) < ((n + m : Nat) : Int) := by omega
      have hj2 : (j : Int) < (n : Int) + (m : Int) := by omega
      have cv := hX j hlt
      have HNEW := Lib.hid (show Sixty (catF n V m U j) → ∀ t, t < j + 1 → Sixty (catF n V m U t) from fun h t ht => by
        by_cases htj : t < j
        · exact HALL.out t htj
        · obtain rfl : t = j := by omega
          exact h)
      clear hX
      generalize catF n V m U j = x at *
      have key : x = 0 ∨ (x ≠ 0 ∧ 60 < x) ∨ (x ≠ 0 ∧ x ≤ 60 ∧ x < -60) ∨ (x ≠ 0 ∧ x ≤ 60 ∧ -60 ≤ x) := by omega
      rcases key with rfl | ⟨h, h'⟩ | ⟨h, h', h''⟩ | ⟨h, h', h''⟩
      · go_wp2_with fail
        refine (known14_any _).mono ?_
        rintro e w5 ⟨rfl, hb⟩
        have hbz := chain HB.out hb
        clear hb
        go_wp2_with fail
        go_ret
        exact ⟨rfl, hbz⟩
      · have q1 : (x == 0) = false := by rw [beq_eq_false_iff_ne]; exact h
        clear h
        go_wp2_with fail
        refine (known14_any _).mono ?_
        rintro e w5 ⟨rfl, hb⟩
        have hbz := chain HB.out hb
        clear hb
        go_wp2_with fail
        go_ret
        exact ⟨rfl, hbz⟩
      · have q1 : (x == 0) = false := by rw [beq_eq_false_iff_ne]; exact h
        clear h
        go_wp2_with fail
        refine (known14_any _).mono ?_
        rintro e w5 ⟨rfl, hb⟩
        have hbz := chain HB.out hb
        clear hb
        go_wp2_with fail
        go_ret
        exact ⟨rfl, hbz⟩
      · have HN := Lib.hid (HNEW.out ⟨h, h'', h'⟩)
        have q1 : (x == 0) = false := by rw [beq_eq_false_iff_ne]; exact h
        clear h
        go_wp2_with fail
        go_roundw
        case rel => exact ⟨j + 1, by omega, by go_num, trivial, HN.out⟩
        case measure => simp [intOf]; omega
    · obtain rfl : j = n + m := by omega
      have HSA := Lib.hid (show ∀ i, i < n → Sixty (V i) from fun i hi => by rw [← catF_left (m := m) (V := V) (U := U) i hi]; exact HALL.out i (by omega))
      have HSB := Lib.hid (show ∀ i, i < m → Sixty (U i) from fun i hi => by rw [← catF_right (n := n) (V := V) (U := U) i hi]; exact HALL.out (n + i) (by omega))
      clear HALL
      go_wp2_with fail
      refine (H1.out _ p c _ d (HV.out.later HB.out) (HU.out.later HB.out)).mono ?_
      rintro e w5 ⟨⟨pl, cl, rfl, hx⟩, hb⟩
      have HB := Lib.hid (chain HB.out hb)
      have HOl := Lib.hid hx
      clear hx hb
      by_cases he : er = 0
      · subst he
        obtain ⟨l, hl, rfl, rfl, hok, _, _⟩ := HER.out rfl
        have HSC := Lib.hid (form_sixty hl HSA.out HSB.out)
        have HT := Lib.hid (fun h1 h2 => follow_true (bits := bits) hl hok h1 h2)
        clear hl hok
        cases hg1 : holdB bits n V with
        | false =>
          go_wp2_with fail
          refine (holds39_b p n c V bits _ false hg1 (HV.out.later HB.out) (by omega) HSA.out hb0 hb1).mono ?_
          rintro e w6 ⟨rfl, hb⟩
          have HOl := Lib.hid (HOl.out.later hb)
          have HB := Lib.hid (chain HB.out hb)
          clear hb
          go_wp2_with fail
          refine (known14_any _).mono ?_
          rintro e w7 ⟨rfl, hb⟩
          have HOl := Lib.hid (HOl.out.later hb)
          have HB := Lib.hid (chain HB.out hb)
          clear hb
          have hbz := HB.out
          go_wp2_with fail
          go_ret
          exact ⟨rfl, hbz⟩
        | true =>
          go_wp2_with fail
          refine (holds39_b p n c V bits _ true hg1 (HV.out.later HB.out) (by omega) HSA.out hb0 hb1).mono ?_
          rintro e w6 ⟨rfl, hb⟩
          have HOl := Lib.hid (HOl.out.later hb)
          have HB := Lib.hid (chain HB.out hb)
          clear hb
          cases hg2 : holdB bits m U with
          | false =>
            go_wp2_with fail
            refine (holds39_b _ m d U bits _ false hg2 (HU.out.later HB.out) (by omega) HSB.out hb0 hb1).mono ?_
            rintro e w7 ⟨rfl, hb⟩
            have HOl := Lib.hid (HOl.out.later hb)
            have HB := Lib.hid (chain HB.out hb)
            clear hb
            go_wp2_with fail
            refine (known14_any _).mono ?_
            rintro e w8 ⟨rfl, hb⟩
            have HOl := Lib.hid (HOl.out.later hb)
            have HB := Lib.hid (chain HB.out hb)
            clear hb
            have hbz := HB.out
            go_wp2_with fail
            go_ret
            exact ⟨rfl, hbz⟩
          | true =>
            have hg3 := HT.out hg1 hg2
            go_wp2_with fail
            refine (holds39_b _ m d U bits _ true hg2 (HU.out.later HB.out) (by omega) HSB.out hb0 hb1).mono ?_
            rintro e w7 ⟨rfl, hb⟩
            have HOl := Lib.hid (HOl.out.later hb)
            have HB := Lib.hid (chain HB.out hb)
            clear hb
            go_wp2_with fail
            refine (holds39_b pl _ cl _ bits _ true hg3 HOl.out (by omega) HSC.out hb0 hb1).mono ?_
            rintro e w8 ⟨rfl, hb⟩
            have HOl := Lib.hid (HOl.out.later hb)
            have HB := Lib.hid (chain HB.out hb)
            clear hb
            go_wp2_with fail
            refine (known14_any _).mono ?_
            rintro e w9 ⟨rfl, hb⟩
            have HOl := Lib.hid (HOl.out.later hb)
            have HB := Lib.hid (chain HB.out hb)
            clear hb
            have hbz := HB.out
            go_wp2_with fail
            go_ret
            exact ⟨rfl, hbz⟩
      · have q1 : (er == 0) = false := by rw [beq_eq_false_iff_ne]; exact he
        have q2 : (er != 0) = true := by rw [bne_iff_ne]; exact he
        clear he
        go_wp2_with fail
        refine (known14_any _).mono ?_
        rintro e w6 ⟨rfl, hb⟩
        have HOl := Lib.hid (HOl.out.later hb)
        have HB := Lib.hid (chain HB.out hb)
        clear hb
        have hbz := HB.out
        go_wp2_with fail
        go_ret
        exact ⟨rfl, hbz⟩
set_option maxRecDepth 100000 in
set_option maxHeartbeats 4000000 in
theorem follow_none (p : Option Addr) (n c : Nat) (V : Nat → Int) (d : Nat) (hd : d = 0) (U : Nat → Int) (by' bits : Int) (w : World) (hV : LitsIn w p n V) (hn : n ≤ 300) (hp : p = none → c = 0) (hb0 : 0 ≤ bits) (hb1 : bits ≤ 18446744073709551615) (hU : LitsIn w none 0 U) :
    Calls Try.prog 7 #[.slice p n c, .slice none 0 d, .int .i64 by', .int .u64 bits] w fun e w' => e = .returned (.bool true) ∧ Below w.heap.size w w' := by
  subst hd
  obtain ⟨kk, Z, er, hk, her, h1, _⟩ := resolve_same n V 0 U by' (by omega) (by omega)
  obtain ⟨i0, hi, hz0, hz1, hz2⟩ := info30
  have H1 := Lib.hid h1
  have HER := Lib.hid her
  have HV := Lib.hid hV
  have HU := Lib.hid hU
  have HP := Lib.hid hp
  have HB := Lib.hid (below_self w)
  clear hV hU h1 her hp
  go_enter Try.func7, Try.ntmps7
  go_wp2_with fail
  refine (copied_any p n c V w HV.out (by omega) HP.out).mono ?_
  rintro e w1 ⟨v, rfl, ho, hb⟩
  have HO := Lib.hid ho
  have HB := Lib.hid (chain HB.out hb)
  clear ho hb
  have hz3 := HB.out.size
  go_wp2_with (at_builtin; refine wpList_append_own_none rfl _ _ 22 rfl w.heap.size 30 i0 1 Try.underlying22 hi _ n ((rowL n V).map (Value.int .i64)) rfl HO.out rfl ?_)
  obtain ⟨pa, ca, rfl, _, hL, _⟩ := own_in (zs := rowL n V ++ rowL 0 U) (n := n + 0) (by simpa [rowL] using HO.out) (by simp [rowL_len])
  have HL := Lib.hid (show LitsIn w1 pa (n + 0) (catF n V 0 U) from hL)
  obtain ⟨w4, rfl⟩ : ∃ w4 : World, w4 = w1 := ⟨_, rfl⟩
  clear hL
  have HGET := Lib.hid (show ∀ j, j < n + 0 → w4.cell? = w4.cell? from fun _ _ => rfl)
  go_wp2_with fail
  go_loopw [28] (fun i wr => ∃ j : Nat, j ≤ n + 0 ∧ i = .int .i64 j ∧ w4 = wr ∧ ∀ t, t < j → Sixty (catF n V 0 U t)) (fun i _ => n + 0 - (intOf i).toNat)
  case atStart => exact ⟨0, by omega, rfl, rfl, fun t ht => by omega⟩
  case round =>
    obtain ⟨j, hj, rfl, rfl, hall⟩ := hrel
    have HALL := Lib.hid hall
    clear hall
    by_cases hlt : j < n + 0
    · obtain ⟨b, off, rfl, hX⟩ := HL.out (by omega)
      have hj0 : (0 : Int) ≤ (j : Int) := by omega
      have hj1 : (j : Int) < ((n + 0 : Nat) : Int) := by omega
      have hj2 : (j : Int) < (n : Int) + (0 : Int) := by omega
      have cv := hX j hlt
      have HNEW := Lib.hid (show Sixty (catF n V 0 U j) → ∀ t, t < j + 1 → Sixty (catF n V 0 U t) from fun h t ht => by
        by_cases htj : t < j
        · exact HALL.out t htj
        · obtain rfl : t = j := by omega
          exact h)
      clear hX
      generalize catF n V 0 U j = x at *
      have key : x = 0 ∨ (x ≠ 0 ∧ 60 < x) ∨ (x ≠ 0 ∧ x ≤ 60 ∧ x < -60) ∨ (x ≠ 0 ∧ x ≤ 60 ∧ -60 ≤ x) := by omega
      rcases key with rfl | ⟨h, h'⟩ | ⟨h, h', h''⟩ | ⟨h, h', h''⟩
      · go_wp2_with fail
        refine (known14_any _).mono ?_
        rintro e w5 ⟨rfl, hb⟩
        have hbz := chain HB.out hb
        clear hb
        go_wp2_with fail
        go_ret
        exact ⟨rfl, hbz⟩
      · have q1 : (x == 0) = false := by rw [beq_eq_false_iff_ne]; exact h
        clear h
        go_wp2_with fail
        refine (known14_any _).mono ?_
        rintro e w5 ⟨rfl, hb⟩
        have hbz := chain HB.out hb
        clear hb
        go_wp2_with fail
        go_ret
        exact ⟨rfl, hbz⟩
      · have q1 : (x == 0) = false := by rw [beq_eq_false_iff_ne]; exact h
        clear h
        go_wp2_with fail
        refine (known14_any _).mono ?_
        rintro e w5 ⟨rfl, hb⟩
        have hbz := chain HB.out hb
        clear hb
        go_wp2_with fail
        go_ret
        exact ⟨rfl, hbz⟩
      · have HN := Lib.hid (HNEW.out ⟨h, h'', h'⟩)
        have q1 : (x == 0) = false := by rw [beq_eq_false_iff_ne]; exact h
        clear h
        go_wp2_with fail
        go_roundw
        case rel => exact ⟨j + 1, by omega, by go_num, trivial, HN.out⟩
        case measure => simp [intOf]; omega
    · obtain rfl : n = j := by omega
      have HSA := Lib.hid (show ∀ i, i < n → Sixty (V i) from fun i hi => by rw [← catF_left (m := 0) (V := V) (U := U) i hi]; exact HALL.out i (by omega))
      have HSB := Lib.hid (show ∀ i, i < 0 → Sixty (U i) from fun i hi => by rw [← catF_right (n := n) (V := V) (U := U) i hi]; exact HALL.out (n + i) (by omega))
      clear HALL
      go_wp2_with fail
      refine (H1.out _ p c _ 0 (HV.out.later HB.out) (HU.out.later HB.out)).mono ?_
      rintro e w5 ⟨⟨pl, cl, rfl, hx⟩, hb⟩
      have HB := Lib.hid (chain HB.out hb)
      have HOl := Lib.hid hx
      clear hx hb
      by_cases he : er = 0
      · subst he
        obtain ⟨l, hl, rfl, rfl, hok, _, _⟩ := HER.out rfl
        have HSC := Lib.hid (form_sixty hl HSA.out HSB.out)
        have HT := Lib.hid (fun h1 h2 => follow_true (bits := bits) hl hok h1 h2)
        clear hl hok
        cases hg1 : holdB bits n V with
        | false =>
          go_wp2_with fail
          refine (holds39_b p n c V bits _ false hg1 (HV.out.later HB.out) (by omega) HSA.out hb0 hb1).mono ?_
          rintro e w6 ⟨rfl, hb⟩
          have HOl := Lib.hid (HOl.out.later hb)
          have HB := Lib.hid (chain HB.out hb)
          clear hb
          go_wp2_with fail
          refine (known14_any _).mono ?_
          rintro e w7 ⟨rfl, hb⟩
          have HOl := Lib.hid (HOl.out.later hb)
          have HB := Lib.hid (chain HB.out hb)
          clear hb
          have hbz := HB.out
          go_wp2_with fail
          go_ret
          exact ⟨rfl, hbz⟩
        | true =>
          go_wp2_with fail
          refine (holds39_b p n c V bits _ true hg1 (HV.out.later HB.out) (by omega) HSA.out hb0 hb1).mono ?_
          rintro e w6 ⟨rfl, hb⟩
          have HOl := Lib.hid (HOl.out.later hb)
          have HB := Lib.hid (chain HB.out hb)
          clear hb
          cases hg2 : holdB bits 0 U with
          | false =>
            go_wp2_with fail
            refine (holds39_b _ 0 0 U bits _ false hg2 (HU.out.later HB.out) (by omega) HSB.out hb0 hb1).mono ?_
            rintro e w7 ⟨rfl, hb⟩
            have HOl := Lib.hid (HOl.out.later hb)
            have HB := Lib.hid (chain HB.out hb)
            clear hb
            go_wp2_with fail
            refine (known14_any _).mono ?_
            rintro e w8 ⟨rfl, hb⟩
            have HOl := Lib.hid (HOl.out.later hb)
            have HB := Lib.hid (chain HB.out hb)
            clear hb
            have hbz := HB.out
            go_wp2_with fail
            go_ret
            exact ⟨rfl, hbz⟩
          | true =>
            have hg3 := HT.out hg1 hg2
            go_wp2_with fail
            refine (holds39_b _ 0 0 U bits _ true hg2 (HU.out.later HB.out) (by omega) HSB.out hb0 hb1).mono ?_
            rintro e w7 ⟨rfl, hb⟩
            have HOl := Lib.hid (HOl.out.later hb)
            have HB := Lib.hid (chain HB.out hb)
            clear hb
            go_wp2_with fail
            refine (holds39_b pl _ cl _ bits _ true hg3 HOl.out (by omega) HSC.out hb0 hb1).mono ?_
            rintro e w8 ⟨rfl, hb⟩
            have HOl := Lib.hid (HOl.out.later hb)
            have HB := Lib.hid (chain HB.out hb)
            clear hb
            go_wp2_with fail
            refine (known14_any _).mono ?_
            rintro e w9 ⟨rfl, hb⟩
            have HOl := Lib.hid (HOl.out.later hb)
            have HB := Lib.hid (chain HB.out hb)
            clear hb
            have hbz := HB.out
            go_wp2_with fail
            go_ret
            exact ⟨rfl, hbz⟩
      · have q1 : (er == 0) = false := by rw [beq_eq_false_iff_ne]; exact he
        have q2 : (er != 0) = true := by rw [bne_iff_ne]; exact he
        clear he
        go_wp2_with fail
        refine (known14_any _).mono ?_
        rintro e w6 ⟨rfl, hb⟩
        have HOl := Lib.hid (HOl.out.later hb)
        have HB := Lib.hid (chain HB.out hb)
        clear hb
        have hbz := HB.out
        go_wp2_with fail
        go_ret
        exact ⟨rfl, hbz⟩
theorem follow_any {w : World} (p : Option Addr) (n c : Nat) (V : Nat → Int) (hV : LitsIn w p n V) (hn : n ≤ 9223372036854775807) (hI : ∀ i, i < n → I64 (V i)) (hp : p = none → c = 0) (q : Option Addr) (m d : Nat) (U : Nat → Int) (hU : LitsIn w q m U) (hm : m ≤ 9223372036854775807) (hJ : ∀ i, i < m → I64 (U i)) (hq : q = none → d = 0) (by' : Int) (hx : -9223372036854775808 ≤ by' ∧ by' ≤ 9223372036854775807) (bits : Int) (hb : 0 ≤ bits ∧ bits ≤ 18446744073709551615) (W : World) (hW : W = w := by rfl) :
    Calls Try.prog 7 #[.slice p n c, .slice q m d, .int .i64 by', .int .u64 bits] W fun e w' => e = .returned (.bool true) ∧ Below W.heap.size W w' := by
  subst hW
  by_cases h : 300 < n ∨ (n ≤ 300 ∧ 300 < m)
  · exact follow_out p n c q m d by' bits W h hn hm
  · cases q with
    | none =>
      have h0 : m = 0 := by
        rcases Nat.eq_zero_or_pos m with h | h
        · exact h
        · obtain ⟨b, off, e, _⟩ := hU h; cases e
      subst h0
      exact follow_none p n c V d (hq rfl) U by' bits W hV (by omega) hp hb.1 hb.2 hU
    | some aq => exact follow_some p n c V aq m d U by' bits W hV (by omega) hp hb.1 hb.2 hU (by omega)
end Go.Proofs.Ytiadnifbjdnflaa
