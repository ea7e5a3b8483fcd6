/- clauses.Resolve and juristref14.Resolve. -/
import Derived.Test.YtiadnifbjdnflaaRefD
import Derived.Test.YtiadnifbjdnflaaNorm
namespace Go.Proofs.Ytiadnifbjdnflaa
open Go Go.RowKit

def resL (n : Nat) (V : Nat → Int) (m : Nat) (U : Nat → Int) (by' : Int) : List Int := (rowL n V).filter (· != by') ++ (rowL m U).filter (· != -by')
def ResOK (n : Nat) (V : Nat → Int) (m : Nat) (U : Nat → Int) (by' : Int) : Prop := MayP n V ∧ MayP m U ∧ 1 ≤ by' ∧ by' ≤ 1048576
theorem rowL_succ (n : Nat) (V : Nat → Int) : rowL (n + 1) V = rowL n V ++ [V n] := by
  unfold rowL
  rw [List.range_succ, List.map_append]
  rfl
theorem filt_keep {n : Nat} {V : Nat → Int} {f : Int → Bool} (A : List Int) (h : f (V n) = true) : A ++ (rowL (n + 1) V).filter f = (A ++ (rowL n V).filter f) ++ [V n] := by
  rw [rowL_succ, List.filter_append]
  simp [h]
theorem filt_drop {n : Nat} {V : Nat → Int} {f : Int → Bool} (A : List Int) (h : f (V n) = false) : A ++ (rowL (n + 1) V).filter f = A ++ (rowL n V).filter f := by
  rw [rowL_succ, List.filter_append]
  simp [h]
theorem filt_len (n : Nat) (V : Nat → Int) (f : Int → Bool) : ((rowL n V).filter f).length ≤ n := by
  have := List.length_filter_le f (rowL n V)
  rw [rowL_len] at this
  exact this
theorem resL_lit {n m : Nat} {V U : Nat → Int} {by' : Int} (h : ResOK n V m U by') : ∀ x ∈ resL n V m U by', isLitB x = true := by
  intro x hx
  unfold resL at hx
  rcases List.mem_append.1 hx with hx | hx
  · obtain ⟨i, hi, rfl⟩ := (rowL_mem n V x).1 (List.mem_filter.1 hx).1
    exact h.1.2 i hi
  · obtain ⟨i, hi, rfl⟩ := (rowL_mem m U x).1 (List.mem_filter.1 hx).1
    exact h.2.1.2 i hi
theorem getD_lit {l : List LitT} {o : List Int} (h : nums l = o) : ∀ i, i < o.length → isLitB (o.getD i 0) = true := by
  intro i hi
  subst h
  have hi' : i < l.length := by simpa [nums] using hi
  have e : (nums l).getD i 0 = l[i].1 := by
    rw [List.getD, List.getElem?_eq_getElem hi]
    simp only [nums, List.getElem_map, Option.getD_some]
  rw [e]
  exact l[i].2
theorem getD_mem {l : List LitT} {o : List Int} (h : nums l = o) : ∀ x, x ∈ nums l ↔ ∃ i, i < o.length ∧ o.getD i 0 = x := by
  intro x
  rw [h]
  constructor
  · intro hx
    obtain ⟨i, hi, he⟩ := List.getElem_of_mem hx
    exact ⟨i, hi, by simp [List.getD, List.getElem?_eq_getElem hi, he]⟩
  · rintro ⟨i, hi, rfl⟩
    simp [List.getD, List.getElem?_eq_getElem hi]
theorem list_lits : ∀ o : List Int, (∀ x ∈ o, isLitB x = true) → ∃ l : List LitT, nums l = o := by
  intro o
  induction o with
  | nil => intro _; exact ⟨[], rfl⟩
  | cons x o ih =>
    intro h
    obtain ⟨l, hl⟩ := ih (fun y hy => h y (by simp [hy]))
    exact ⟨⟨x, h x (by simp)⟩ :: l, by simp [nums] at *; exact hl⟩
theorem own_base14 {w : World} {base base' : Nat} {e : TypeId} {size : Nat} {v : Value} {n : Nat} {xs : List Value} (h : w.ownsRow base e size v n xs) (hb : base' ≤ base) : w.ownsRow base' e size v n xs := by
  rcases h.2 with h0 | ⟨g, cap, cur, hv, hg, r⟩
  · exact ⟨h.1, .inl h0⟩
  · exact ⟨h.1, .inr ⟨g, cap, cur, hv, Nat.le_trans hb hg, r⟩⟩
set_option maxRecDepth 100000 in
set_option maxHeartbeats 1600000 in
theorem resolve_no (p : Option Addr) (n c : Nat) (V : Nat → Int) (q : Option Addr) (m d : Nat) (U : Nat → Int) (by' : Int) (w : World) (hV : LitsIn w p n V) (hn : n ≤ 9223372036854775807) (hU : LitsIn w q m U) (hm : m ≤ 9223372036854775807) (h : ¬ ResOK n V m U by') :
    Calls Try.prog 30 #[.slice p n c, .slice q m d, .int .i64 by'] w fun e w' => e = .returned (.tuple #[.slice none 0 0, .int .i64 2]) ∧ w' = w := by
  have H1 := may_any p n c V w hV hn
  have H2 := may_any q m d U w hU hm
  have HN := Lib.hid h
  clear hV hU h
  have H3 := isLit_any by' w
  have HL := Lib.hid (show isLitB by' = true ↔ by' ≠ 0 ∧ -1048576 ≤ by' ∧ by' ≤ 1048576 by unfold isLitB; simp only [Bool.and_eq_true, bne_iff_ne, decide_eq_true_eq]; constructor <;> (intro h; omega))
  have key : by' < 0 ∨ by' = 0 ∨ (0 ≤ by' ∧ by' ≠ 0 ∧ 1048576 < by') ∨ (1 ≤ by' ∧ by' ≤ 1048576) := by omega
  go_enter Try.func30, Try.ntmps30
  go_wp2_with fail
  refine H1.mono ?_
  rintro e w1 ⟨⟨rfl, h1⟩ | ⟨rfl, h1⟩, rfl⟩
  · have K1 := Lib.hid h1
    clear h1 H1
    go_wp2_with fail
    refine H2.mono ?_
    rintro e w1 ⟨⟨rfl, h2⟩ | ⟨rfl, h2⟩, rfl⟩
    · have K2 := Lib.hid h2
      clear h2 H2
      rcases key with h | h | ⟨h, h', h''⟩ | ⟨h, h'⟩
      · cases hl : isLitB by' with
        | false =>
          rw [hl] at H3
          clear hl
          go_wp2_with fail
          refine H3.mono ?_
          rintro e w1 ⟨rfl, rfl⟩
          go_wp2_with fail
          go_ret2
          exact ⟨rfl, rfl⟩
        | true =>
          rw [hl] at H3
          clear hl
          go_wp2_with fail
          refine H3.mono ?_
          rintro e w1 ⟨rfl, rfl⟩
          go_wp2_with fail
          go_ret2
          exact ⟨rfl, rfl⟩
      · have hl : isLitB by' = false := by rw [Bool.eq_false_iff]; intro h0; have := HL.out.1 h0; omega
        rw [hl] at H3
        clear hl h
        go_wp2_with fail
        refine H3.mono ?_
        rintro e w1 ⟨rfl, rfl⟩
        go_wp2_with fail
        go_ret2
        exact ⟨rfl, rfl⟩
      · have hl : isLitB by' = false := by rw [Bool.eq_false_iff]; intro h0; have := HL.out.1 h0; omega
        rw [hl] at H3
        clear hl h
        go_wp2_with fail
        refine H3.mono ?_
        rintro e w1 ⟨rfl, rfl⟩
        go_wp2_with fail
        go_ret2
        exact ⟨rfl, rfl⟩
      · exact absurd ⟨K1.out, K2.out, h, h'⟩ HN.out
    · clear h2 H2
      go_wp2_with fail
      go_ret2
      exact ⟨rfl, rfl⟩
  · clear h1 H1 H2
    go_wp2_with fail
    go_ret2
    exact ⟨rfl, rfl⟩
set_option maxRecDepth 100000 in
set_option maxHeartbeats 3000000 in
theorem resolve_ok (p : Option Addr) (n c : Nat) (V : Nat → Int) (q : Option Addr) (m d : Nat) (U : Nat → Int) (by' : Int) (l : List LitT) (w : World) (hV : LitsIn w p n V) (hU : LitsIn w q m U) (h : ResOK n V m U by') (hl : nums l = resL n V m U by') :
    Calls Try.prog 30 #[.slice p n c, .slice q m d, .int .i64 by'] w fun e w' => (((hasB n V by' && hasB m U (-by')) = false ∧ e = .returned (.tuple #[.slice none 0 0, .int .i64 7])) ∨ ((hasB n V by' && hasB m U (-by')) = true ∧ ∃ v', e = .returned (.tuple #[v', .int .i64 0]) ∧ w'.ownsRow w.heap.size 30 1 v' (formL l).length ((formL l).map (Value.int .i64)))) ∧ Below w.heap.size w w' := by
  obtain ⟨i0, hi, hz0, hz1, hz2⟩ := info30
  have hn := h.1.1
  have hm := h.2.1.1
  have H1 := may_any p n c V w hV (by omega)
  have H2 := may_any q m d U w hU (by omega)
  have H4 := contains1_any p n c V by' w hV (by omega)
  have H5 := contains1_any q m d U (-by') w hU (by omega)
  have b0 := h.2.2.1
  have b1 := h.2.2.2
  have HR := Lib.hid h
  have HV := Lib.hid hV
  have HU := Lib.hid hU
  have HLEN := Lib.hid hl
  have HG := Lib.hid (show resL n V m U by' = (rowL n V).filter (· != by') ++ (rowL m U).filter (· != -by') from rfl)
  have H3 := isLit_any by' w
  have hlit : isLitB by' = true := by unfold isLitB; simp only [Bool.and_eq_true, bne_iff_ne, decide_eq_true_eq]; omega
  rw [hlit] at H3
  clear hlit
  clear hV hU h hl
  generalize hasB n V by' = g1 at *
  generalize hasB m U (-by') = g2 at *
  go_enter Try.func30, Try.ntmps30
  go_wp2_with fail
  refine H1.mono ?_
  rintro e w1 ⟨⟨rfl, h1⟩ | ⟨rfl, h1⟩, rfl⟩
  rotate_left
  · exact absurd HR.out.1 h1
  clear h1 H1
  go_wp2_with fail
  refine H2.mono ?_
  rintro e w1 ⟨⟨rfl, h1⟩ | ⟨rfl, h1⟩, rfl⟩
  rotate_left
  · exact absurd HR.out.2.1 h1
  clear h1 H2
  go_wp2_with fail
  refine H3.mono ?_
  rintro e w1 ⟨rfl, rfl⟩
  clear H3
  go_wp2_with fail
  refine H4.mono ?_
  rintro e w1 ⟨rfl, rfl⟩
  clear H4
  cases g1
  · go_wp2_with fail
    go_ret2
    exact ⟨.inl ⟨rfl, rfl⟩, Below.refl _ _⟩
  go_wp2_with fail
  refine H5.mono ?_
  rintro e w1 ⟨rfl, rfl⟩
  clear H5
  cases g2
  · go_wp2_with fail
    go_ret2
    exact ⟨.inl ⟨rfl, rfl⟩, Below.refl _ _⟩
  go_wp2_with fail
  go_loopw [8, 43] (fun v i wr => ∃ (j : Nat) (r : Option Addr) (z : Nat) (o : List Int), j ≤ n ∧ v = .slice r o.length z ∧ i = .int .i64 j ∧ wr.ownsRow w1.heap.size 30 1 (.slice r o.length z) o.length (o.map (Value.int .i64)) ∧ o = [] ++ (rowL j V).filter (· != by') ∧ Below w1.heap.size w1 wr) (fun _ i _ => n - (intOf i).toNat)
  case atStart => exact ⟨0, none, 0, [], by omega, rfl, rfl, ⟨by simp, .inl ⟨rfl, rfl⟩⟩, by simp [rowL], Below.refl _ _⟩
  case round =>
    obtain ⟨j, r, z, o, hj, rfl, rfl, hown, ho, hb⟩ := hrel
    have HO := Lib.hid hown
    have HE := Lib.hid ho
    have HB := Lib.hid hb
    have hol : o.length ≤ 0 + j := by rw [ho, List.length_append]; have := filt_len j V (· != by'); simp only [List.length_nil]; omega
    clear hown ho hb
    by_cases hlt : j < n
    · obtain ⟨b, off, rfl, hX⟩ := HV.out (by omega)
      have hj0 : (0 : Int) ≤ (j : Int) := by omega
      have hj1 : (j : Int) < (n : Int) := by omega
      have cv := (hX.later HB.out) j hlt
      clear hX
      cases hf : (V j != by') with
      | false =>
        have HD := Lib.hid (filt_drop (n := j) (V := V) (f := (· != by')) ([]) hf)
        have q1 : (V j == by') = true := by simpa using hf
        go_wp2_with fail
        go_roundw
        case rel => exact ⟨j + 1, r, z, o, by omega, rfl, by go_num, HO.out, by rw [HD.out]; exact HE.out, HB.out⟩
        case measure => simp [intOf]; omega
      | true =>
        have HD := Lib.hid (filt_keep (n := j) (V := V) (f := (· != by')) ([]) hf)
        have q1 : (V j == by') = false := by simpa using hf
        have hz3 := HB.out.size
        go_wp2_with (at_builtin; refine wpList_append_own _ rfl _ _ 22 rfl w1.heap.size 30 i0 (.int .i64 0) 1 8 Try.underlying22 hi hz0 hz1 hz2 rfl (by omega) _ o.length (o.map (Value.int .i64)) rfl ?qc0 ⟨wr.heap.size, 0, none⟩ 1 1 [.int .i64 (V j)] rfl rfl ?qc2 ?qc3 ?qc4 ?qc5 ?qc6 ?_)
        case qc0 => exact own_later HO.out (below1 _ _)
        case qc2 =>
          intro jj u hjj
          rw [Lib.add_plain]
          match jj, hjj with
          | 0, hjj => cases hjj; simp [go_sem]
        case qc3 => intro u hu; simp at hu; rcases hu with rfl; rfl
        case qc4 => have hml : maxLen = 9223372036854775807 := rfl; omega
        case qc5 => omega
        case qc6 => simp; omega
        intro v' w2 hown hgrow hnil
        have hlt2 := (HO.out).lt
        have hb2 : Below w1.heap.size w1 w2 := ((HB.out).alloc hz3 _).grown hgrow (by simp; omega) (fun k hk => (hlt2 k hk).1)
        obtain ⟨q', d', he, _, _, _⟩ := own_in (zs := o ++ [V j]) (n := o.length + 1) (by simpa using hown) (by simp)
        subst he
        have hown2 : w2.ownsRow w1.heap.size 30 1 (.slice q' (o ++ [V j]).length d') (o ++ [V j]).length ((o ++ [V j]).map (Value.int .i64)) := by simpa using hown
        have HOW := Lib.hid hown2
        have HB2 := Lib.hid hb2
        clear hown hown2 hgrow hnil hlt2 hb2
        go_wp2_with fail
        go_roundw
        case rel => exact ⟨j + 1, q', d', o ++ [V j], by omega, by simp, by go_num, HOW.out, by rw [HD.out, ← HE.out], HB2.out⟩
        case measure => simp [intOf]; omega
    · obtain rfl : n = j := by omega
      have HE1 := Lib.hid (show o = (rowL n V).filter (· != by') by rw [HE.out]; rfl)
      clear HE
      go_wp2_with fail
      go_loopw [8, 57] (fun v i wr => ∃ (j : Nat) (r : Option Addr) (z : Nat) (o : List Int), j ≤ m ∧ v = .slice r o.length z ∧ i = .int .i64 j ∧ wr.ownsRow w1.heap.size 30 1 (.slice r o.length z) o.length (o.map (Value.int .i64)) ∧ o = (rowL n V).filter (· != by') ++ (rowL j U).filter (· != -by') ∧ Below w1.heap.size w1 wr) (fun _ i _ => m - (intOf i).toNat)
      case atStart => exact ⟨0, r, z, o, by omega, rfl, rfl, HO.out, by rw [HE1.out]; simp [rowL], HB.out⟩
      case round =>
        obtain ⟨j, r, z, o, hj, rfl, rfl, hown, ho, hb⟩ := hrel
        have HO := Lib.hid hown
        have HE := Lib.hid ho
        have HB := Lib.hid hb
        have hol : o.length ≤ n + j := by rw [ho, List.length_append]; have := filt_len j U (· != -by'); have := filt_len n V (· != by'); omega
        clear hown ho hb
        by_cases hlt : j < m
        · obtain ⟨b, off, rfl, hX⟩ := HU.out (by omega)
          have hj0 : (0 : Int) ≤ (j : Int) := by omega
          have hj1 : (j : Int) < (m : Int) := by omega
          have cv := (hX.later HB.out) j hlt
          clear hX
          cases hf : (U j != -by') with
          | false =>
            have HD := Lib.hid (filt_drop (n := j) (V := U) (f := (· != -by')) ((rowL n V).filter (· != by')) hf)
            have q1 : (U j == -by') = true := by simpa using hf
            go_wp2_with fail
            go_roundw
            case rel => exact ⟨j + 1, r, z, o, by omega, rfl, by go_num, HO.out, by rw [HD.out]; exact HE.out, HB.out⟩
            case measure => simp [intOf]; omega
          | true =>
            have HD := Lib.hid (filt_keep (n := j) (V := U) (f := (· != -by')) ((rowL n V).filter (· != by')) hf)
            have q1 : (U j == -by') = false := by simpa using hf
            have hz3 := HB.out.size
            go_wp2_with (at_builtin; refine wpList_append_own _ rfl _ _ 22 rfl w1.heap.size 30 i0 (.int .i64 0) 1 8 Try.underlying22 hi hz0 hz1 hz2 rfl (by omega) _ o.length (o.map (Value.int .i64)) rfl ?qc0 ⟨wr.heap.size, 0, none⟩ 1 1 [.int .i64 (U j)] rfl rfl ?qc2 ?qc3 ?qc4 ?qc5 ?qc6 ?_)
            case qc0 => exact own_later HO.out (below1 _ _)
            case qc2 =>
              intro jj u hjj
              rw [Lib.add_plain]
              match jj, hjj with
              | 0, hjj => cases hjj; simp [go_sem]
            case qc3 => intro u hu; simp at hu; rcases hu with rfl; rfl
            case qc4 => have hml : maxLen = 9223372036854775807 := rfl; omega
            case qc5 => omega
            case qc6 => simp; omega
            intro v' w2 hown hgrow hnil
            have hlt2 := (HO.out).lt
            have hb2 : Below w1.heap.size w1 w2 := ((HB.out).alloc hz3 _).grown hgrow (by simp; omega) (fun k hk => (hlt2 k hk).1)
            obtain ⟨q', d', he, _, _, _⟩ := own_in (zs := o ++ [U j]) (n := o.length + 1) (by simpa using hown) (by simp)
            subst he
            have hown2 : w2.ownsRow w1.heap.size 30 1 (.slice q' (o ++ [U j]).length d') (o ++ [U j]).length ((o ++ [U j]).map (Value.int .i64)) := by simpa using hown
            have HOW := Lib.hid hown2
            have HB2 := Lib.hid hb2
            clear hown hown2 hgrow hnil hlt2 hb2
            go_wp2_with fail
            go_roundw
            case rel => exact ⟨j + 1, q', d', o ++ [U j], by omega, by simp, by go_num, HOW.out, by rw [HD.out, ← HE.out], HB2.out⟩
            case measure => simp [intOf]; omega
        · obtain rfl : j = m := by omega
          have HL2 := Lib.hid (show nums l = o by rw [HLEN.out, HG.out]; exact HE.out.symm)
          obtain ⟨r', z', he, _, hR, _⟩ := own_in HO.out rfl
          cases he
          have H6 := form_any r o.length z (fun i => o.getD i 0) l wr hR (by rw [← HL2.out]; simp [nums]) (fun i hi => by rw [HL2.out]; simp [List.getD, List.getElem?_eq_getElem hi]) (by omega)
          clear hR
          go_wp2_with fail
          refine H6.mono ?_
          rintro e w3 ⟨v', rfl, ho3, hb3⟩
          have HF := Lib.hid (own_base14 ho3 HB.out.size)
          have HB3 := Lib.hid (chain HB.out hb3)
          clear H6 ho3 hb3
          go_wp2_with fail
          go_ret2
          exact ⟨.inr ⟨rfl, _, rfl, HF.out⟩, HB3.out⟩
set_option maxRecDepth 100000 in
set_option maxHeartbeats 1600000 in
theorem refResolve_no (p : Option Addr) (n c : Nat) (V : Nat → Int) (q : Option Addr) (m d : Nat) (U : Nat → Int) (by' : Int) (w : World) (hV : LitsIn w p n V) (hn : n ≤ 9223372036854775807) (hU : LitsIn w q m U) (hm : m ≤ 9223372036854775807) (h : ¬ ResOK n V m U by') :
    Calls Try.prog 31 #[.slice p n c, .slice q m d, .int .i64 by'] w fun e w' => e = .returned (.tuple #[.slice none 0 0, .int .i64 2]) ∧ w' = w := by
  have H1 := refMay_any p n c V w hV hn
  have H2 := refMay_any q m d U w hU hm
  have HN := Lib.hid h
  clear hV hU h
  have key : by' < 0 ∨ by' = 0 ∨ (0 ≤ by' ∧ by' ≠ 0 ∧ 1048576 < by') ∨ (1 ≤ by' ∧ by' ≤ 1048576) := by omega
  go_enter Try.func31, Try.ntmps31
  go_wp2_with fail
  refine H1.mono ?_
  rintro e w1 ⟨⟨rfl, h1⟩ | ⟨rfl, h1⟩, rfl⟩
  · have K1 := Lib.hid h1
    clear h1 H1
    go_wp2_with fail
    refine H2.mono ?_
    rintro e w1 ⟨⟨rfl, h2⟩ | ⟨rfl, h2⟩, rfl⟩
    · have K2 := Lib.hid h2
      clear h2 H2
      rcases key with h | h | ⟨h, h', h''⟩ | ⟨h, h'⟩
      · have h0 : by' < 1 := by omega
        go_wp2_with fail
        go_ret2
        exact ⟨rfl, rfl⟩
      · have h0 : by' < 1 := by omega
        clear h
        go_wp2_with fail
        go_ret2
        exact ⟨rfl, rfl⟩
      · have h0 : 1 ≤ by' := by omega
        clear h'
        go_wp2_with fail
        go_ret2
        exact ⟨rfl, rfl⟩
      · exact absurd ⟨K1.out, K2.out, h, h'⟩ HN.out
    · clear h2 H2
      go_wp2_with fail
      go_ret2
      exact ⟨rfl, rfl⟩
  · clear h1 H1 H2
    go_wp2_with fail
    go_ret2
    exact ⟨rfl, rfl⟩
set_option maxRecDepth 100000 in
set_option maxHeartbeats 3000000 in
theorem refResolve_ok (p : Option Addr) (n c : Nat) (V : Nat → Int) (q : Option Addr) (m d : Nat) (U : Nat → Int) (by' : Int) (l : List LitT) (w : World) (hV : LitsIn w p n V) (hU : LitsIn w q m U) (h : ResOK n V m U by') (hl : nums l = resL n V m U by') :
    Calls Try.prog 31 #[.slice p n c, .slice q m d, .int .i64 by'] w fun e w' => (((hasB n V by' && hasB m U (-by')) = false ∧ e = .returned (.tuple #[.slice none 0 0, .int .i64 7])) ∨ ((hasB n V by' && hasB m U (-by')) = true ∧ ∃ v', e = .returned (.tuple #[v', .int .i64 0]) ∧ w'.ownsRow w.heap.size 30 1 v' (formL l).length ((formL l).map (Value.int .i64)))) ∧ Below w.heap.size w w' := by
  obtain ⟨i0, hi, hz0, hz1, hz2⟩ := info30
  have hn := h.1.1
  have hm := h.2.1.1
  have H1 := refMay_any p n c V w hV (by omega)
  have H2 := refMay_any q m d U w hU (by omega)
  have H4 := refHas_any p n c V by' w hV (by omega)
  have H5 := refHas_any q m d U (-by') w hU (by omega)
  have b0 := h.2.2.1
  have b1 := h.2.2.2
  have HR := Lib.hid h
  have HV := Lib.hid hV
  have HU := Lib.hid hU
  have HLEN := Lib.hid hl
  have HG := Lib.hid (show resL n V m U by' = (rowL n V).filter (· != by') ++ (rowL m U).filter (· != -by') from rfl)
  clear hV hU h hl
  generalize hasB n V by' = g1 at *
  generalize hasB m U (-by') = g2 at *
  go_enter Try.func31, Try.ntmps31
  go_wp2_with fail
  refine H1.mono ?_
  rintro e w1 ⟨⟨rfl, h1⟩ | ⟨rfl, h1⟩, rfl⟩
  rotate_left
  · exact absurd HR.out.1 h1
  clear h1 H1
  go_wp2_with fail
  refine H2.mono ?_
  rintro e w1 ⟨⟨rfl, h1⟩ | ⟨rfl, h1⟩, rfl⟩
  rotate_left
  · exact absurd HR.out.2.1 h1
  clear h1 H2
  go_wp2_with fail
  refine H4.mono ?_
  rintro e w1 ⟨rfl, rfl⟩
  clear H4
  cases g1
  · go_wp2_with fail
    go_ret2
    exact ⟨.inl ⟨rfl, rfl⟩, Below.refl _ _⟩
  go_wp2_with fail
  refine H5.mono ?_
  rintro e w1 ⟨rfl, rfl⟩
  clear H5
  cases g2
  · go_wp2_with fail
    go_ret2
    exact ⟨.inl ⟨rfl, rfl⟩, Below.refl _ _⟩
  go_wp2_with fail
  go_loopw [8, 9] (fun v i wr => ∃ (j : Nat) (r : Option Addr) (z : Nat) (o : List Int), j ≤ n ∧ v = .slice r o.length z ∧ i = .int .i64 j ∧ wr.ownsRow w1.heap.size 30 1 (.slice r o.length z) o.length (o.map (Value.int .i64)) ∧ o = [] ++ (rowL j V).filter (· != by') ∧ Below w1.heap.size w1 wr) (fun _ i _ => n - (intOf i).toNat)
  case atStart => exact ⟨0, none, 0, [], by omega, rfl, rfl, ⟨by simp, .inl ⟨rfl, rfl⟩⟩, by simp [rowL], Below.refl _ _⟩
  case round =>
    obtain ⟨j, r, z, o, hj, rfl, rfl, hown, ho, hb⟩ := hrel
    have HO := Lib.hid hown
    have HE := Lib.hid ho
    have HB := Lib.hid hb
    have hol : o.length ≤ 0 + j := by rw [ho, List.length_append]; have := filt_len j V (· != by'); simp only [List.length_nil]; omega
    clear hown ho hb
    by_cases hlt : j < n
    · obtain ⟨b, off, rfl, hX⟩ := HV.out (by omega)
      have hj0 : (0 : Int) ≤ (j : Int) := by omega
      have hj1 : (j : Int) < (n : Int) := by omega
      have cv := (hX.later HB.out) j hlt
      clear hX
      cases hf : (V j != by') with
      | false =>
        have HD := Lib.hid (filt_drop (n := j) (V := V) (f := (· != by')) ([]) hf)
        have q1 : (V j == by') = true := by simpa using hf
        go_wp2_with fail
        go_roundw
        case rel => exact ⟨j + 1, r, z, o, by omega, rfl, by go_num, HO.out, by rw [HD.out]; exact HE.out, HB.out⟩
        case measure => simp [intOf]; omega
      | true =>
        have HD := Lib.hid (filt_keep (n := j) (V := V) (f := (· != by')) ([]) hf)
        have q1 : (V j == by') = false := by simpa using hf
        have hz3 := HB.out.size
        go_wp2_with (at_builtin; refine wpList_append_own _ rfl _ _ 22 rfl w1.heap.size 30 i0 (.int .i64 0) 1 8 Try.underlying22 hi hz0 hz1 hz2 rfl (by omega) _ o.length (o.map (Value.int .i64)) rfl ?qc0 ⟨wr.heap.size, 0, none⟩ 1 1 [.int .i64 (V j)] rfl rfl ?qc2 ?qc3 ?qc4 ?qc5 ?qc6 ?_)
        case qc0 => exact own_later HO.out (below1 _ _)
        case qc2 =>
          intro jj u hjj
          rw [Lib.add_plain]
          match jj, hjj with
          | 0, hjj => cases hjj; simp [go_sem]
        case qc3 => intro u hu; simp at hu; rcases hu with rfl; rfl
        case qc4 => have hml : maxLen = 9223372036854775807 := rfl; omega
        case qc5 => omega
        case qc6 => simp; omega
        intro v' w2 hown hgrow hnil
        have hlt2 := (HO.out).lt
        have hb2 : Below w1.heap.size w1 w2 := ((HB.out).alloc hz3 _).grown hgrow (by simp; omega) (fun k hk => (hlt2 k hk).1)
        obtain ⟨q', d', he, _, _, _⟩ := own_in (zs := o ++ [V j]) (n := o.length + 1) (by simpa using hown) (by simp)
        subst he
        have hown2 : w2.ownsRow w1.heap.size 30 1 (.slice q' (o ++ [V j]).length d') (o ++ [V j]).length ((o ++ [V j]).map (Value.int .i64)) := by simpa using hown
        have HOW := Lib.hid hown2
        have HB2 := Lib.hid hb2
        clear hown hown2 hgrow hnil hlt2 hb2
        go_wp2_with fail
        go_roundw
        case rel => exact ⟨j + 1, q', d', o ++ [V j], by omega, by simp, by go_num, HOW.out, by rw [HD.out, ← HE.out], HB2.out⟩
        case measure => simp [intOf]; omega
    · obtain rfl : n = j := by omega
      have HE1 := Lib.hid (show o = (rowL n V).filter (· != by') by rw [HE.out]; rfl)
      clear HE
      go_wp2_with fail
      go_loopw [8, 10] (fun v i wr => ∃ (j : Nat) (r : Option Addr) (z : Nat) (o : List Int), j ≤ m ∧ v = .slice r o.length z ∧ i = .int .i64 j ∧ wr.ownsRow w1.heap.size 30 1 (.slice r o.length z) o.length (o.map (Value.int .i64)) ∧ o = (rowL n V).filter (· != by') ++ (rowL j U).filter (· != -by') ∧ Below w1.heap.size w1 wr) (fun _ i _ => m - (intOf i).toNat)
      case atStart => exact ⟨0, r, z, o, by omega, rfl, rfl, HO.out, by rw [HE1.out]; simp [rowL], HB.out⟩
      case round =>
        obtain ⟨j, r, z, o, hj, rfl, rfl, hown, ho, hb⟩ := hrel
        have HO := Lib.hid hown
        have HE := Lib.hid ho
        have HB := Lib.hid hb
        have hol : o.length ≤ n + j := by rw [ho, List.length_append]; have := filt_len j U (· != -by'); have := filt_len n V (· != by'); omega
        clear hown ho hb
        by_cases hlt : j < m
        · obtain ⟨b, off, rfl, hX⟩ := HU.out (by omega)
          have hj0 : (0 : Int) ≤ (j : Int) := by omega
          have hj1 : (j : Int) < (m : Int) := by omega
          have cv := (hX.later HB.out) j hlt
          clear hX
          cases hf : (U j != -by') with
          | false =>
            have HD := Lib.hid (filt_drop (n := j) (V := U) (f := (· != -by')) ((rowL n V).filter (· != by')) hf)
            have q1 : (U j == -by') = true := by simpa using hf
            go_wp2_with fail
            go_roundw
            case rel => exact ⟨j + 1, r, z, o, by omega, rfl, by go_num, HO.out, by rw [HD.out]; exact HE.out, HB.out⟩
            case measure => simp [intOf]; omega
          | true =>
            have HD := Lib.hid (filt_keep (n := j) (V := U) (f := (· != -by')) ((rowL n V).filter (· != by')) hf)
            have q1 : (U j == -by') = false := by simpa using hf
            have hz3 := HB.out.size
            go_wp2_with (at_builtin; refine wpList_append_own _ rfl _ _ 22 rfl w1.heap.size 30 i0 (.int .i64 0) 1 8 Try.underlying22 hi hz0 hz1 hz2 rfl (by omega) _ o.length (o.map (Value.int .i64)) rfl ?qc0 ⟨wr.heap.size, 0, none⟩ 1 1 [.int .i64 (U j)] rfl rfl ?qc2 ?qc3 ?qc4 ?qc5 ?qc6 ?_)
            case qc0 => exact own_later HO.out (below1 _ _)
            case qc2 =>
              intro jj u hjj
              rw [Lib.add_plain]
              match jj, hjj with
              | 0, hjj => cases hjj; simp [go_sem]
            case qc3 => intro u hu; simp at hu; rcases hu with rfl; rfl
            case qc4 => have hml : maxLen = 9223372036854775807 := rfl; omega
            case qc5 => omega
            case qc6 => simp; omega
            intro v' w2 hown hgrow hnil
            have hlt2 := (HO.out).lt
            have hb2 : Below w1.heap.size w1 w2 := ((HB.out).alloc hz3 _).grown hgrow (by simp; omega) (fun k hk => (hlt2 k hk).1)
            obtain ⟨q', d', he, _, _, _⟩ := own_in (zs := o ++ [U j]) (n := o.length + 1) (by simpa using hown) (by simp)
            subst he
            have hown2 : w2.ownsRow w1.heap.size 30 1 (.slice q' (o ++ [U j]).length d') (o ++ [U j]).length ((o ++ [U j]).map (Value.int .i64)) := by simpa using hown
            have HOW := Lib.hid hown2
            have HB2 := Lib.hid hb2
            clear hown hown2 hgrow hnil hlt2 hb2
            go_wp2_with fail
            go_roundw
            case rel => exact ⟨j + 1, q', d', o ++ [U j], by omega, by simp, by go_num, HOW.out, by rw [HD.out, ← HE.out], HB2.out⟩
            case measure => simp [intOf]; omega
        · obtain rfl : j = m := by omega
          have HL2 := Lib.hid (show nums l = o by rw [HLEN.out, HG.out]; exact HE.out.symm)
          obtain ⟨r', z', he, _, hR, _⟩ := own_in HO.out rfl
          cases he
          have H6 := refNormal_any r o.length z (fun i => o.getD i 0) l wr hR (by omega) (getD_lit HL2.out) (getD_mem HL2.out)
          clear hR
          go_wp2_with fail
          refine H6.mono ?_
          rintro e w3 ⟨v', rfl, ho3, hb3⟩
          have HF := Lib.hid (own_base14 ho3 HB.out.size)
          have HB3 := Lib.hid (chain HB.out hb3)
          clear H6 ho3 hb3
          go_wp2_with fail
          go_ret2
          exact ⟨.inr ⟨rfl, _, rfl, HF.out⟩, HB3.out⟩
end Go.Proofs.Ytiadnifbjdnflaa
