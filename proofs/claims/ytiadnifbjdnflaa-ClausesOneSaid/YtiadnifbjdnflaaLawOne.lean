/- The walk of the law ClausesOne. -/
import Derived.Test.YtiadnifbjdnflaaLawFol
namespace Go.Proofs.Ytiadnifbjdnflaa
open Go Go.RowKit

theorem form_may (l : List LitT) (hl : (formL l).length ≤ 5000) : MayP (formL l).length (fun i => (formL l).getD i 0) := by
  refine ⟨hl, fun i hi => ?_⟩
  have hm : (formL l).getD i 0 ∈ formL l := by
    rw [List.getD, List.getElem?_eq_getElem hi]
    exact List.getElem_mem hi
  obtain ⟨y, _, hy⟩ := List.mem_map.1 (((formL_spec l).2 _).1 hm)
  show isLitB ((formL l).getD i 0) = true
  rw [← hy]
  exact y.2
theorem getD_mem_iff (o : List Int) (x : Int) : (∃ i, i < o.length ∧ o.getD i 0 = x) ↔ x ∈ o := by
  constructor
  · rintro ⟨i, hi, rfl⟩
    simp [List.getD, List.getElem?_eq_getElem hi]
  · intro hx
    obtain ⟨i, hi, he⟩ := List.getElem_of_mem hx
    exact ⟨i, hi, by simp [List.getD, List.getElem?_eq_getElem hi, he]⟩
theorem form_form (l l' : List LitT) (h : ∀ x, x ∈ nums l' ↔ ∃ i, i < (formL l).length ∧ (formL l).getD i 0 = x) : formL l' = formL l :=
  formL_of l' _ (formL_spec l).1 (fun x => by rw [h, getD_mem_iff])
theorem alikeB_list (a b : List Int) : alikeB a.length (fun i => a.getD i 0) b.length (fun i => b.getD i 0) = decide (a = b) := by
  by_cases h : a = b
  · subst h
    rw [decide_eq_true rfl, alikeB_yes rfl (fun _ _ => rfl)]
  · rw [decide_eq_false h]
    by_cases hl : a.length = b.length
    · by_cases he : ∀ i, i < a.length → a.getD i 0 = b.getD i 0
      · refine absurd (List.ext_getElem hl fun i h1 h2 => ?_) h
        have := he i h1
        simpa [List.getD, List.getElem?_eq_getElem h1, List.getElem?_eq_getElem h2] using this
      · rw [Classical.not_forall] at he
        obtain ⟨i, he⟩ := he
        rw [Classical.not_imp] at he
        exact alikeB_at i he.1 he.2
    · exact alikeB_len hl
theorem one_same {n m : Nat} {V U : Nat → Int} (l l' : List LitT) (h : ∀ x, x ∈ nums l ↔ ∃ i, i < n ∧ V i = x) (h' : ∀ x, x ∈ nums l' ↔ ∃ i, i < m ∧ U i = x) : alikeB (formL l).length (fun i => (formL l).getD i 0) (formL l').length (fun i => (formL l').getD i 0) = (withB n V m U && withB m U n V) := by
  rw [alikeB_list, Bool.eq_iff_iff, decide_eq_true_eq, Bool.and_eq_true, withB_iff, withB_iff]
  constructor
  · intro e
    have key : ∀ x, (∃ i, i < n ∧ V i = x) ↔ ∃ i, i < m ∧ U i = x := fun x => by rw [← h, ← h', ← (formL_spec l).2, e, (formL_spec l').2]
    exact ⟨fun i hi => (hasB_iff _ _ _).2 ((key (V i)).1 ⟨i, hi, rfl⟩), fun i hi => (hasB_iff _ _ _).2 ((key (U i)).2 ⟨i, hi, rfl⟩)⟩
  · rintro ⟨h1, h2⟩
    refine formL_of l _ (formL_spec l').1 fun x => ?_
    rw [(formL_spec l').2, h, h']
    constructor
    · rintro ⟨i, hi, rfl⟩; exact (hasB_iff _ _ _).1 (h2 i hi)
    · rintro ⟨i, hi, rfl⟩; exact (hasB_iff _ _ _).1 (h1 i hi)
theorem hold_form {n : Nat} {V : Nat → Int} (bits : Int) (l : List LitT) (h : ∀ x, x ∈ nums l ↔ ∃ i, i < n ∧ V i = x) : holdB bits (formL l).length (fun i => (formL l).getD i 0) = holdB bits n V := by
  unfold holdB
  rw [Bool.eq_iff_iff, anyB_iff, anyB_iff]
  constructor
  · rintro ⟨i, hi, hl⟩
    have hm := (getD_mem_iff (formL l) _).1 ⟨i, hi, rfl⟩
    obtain ⟨j, hj, he⟩ := (h _).1 (((formL_spec l).2 _).1 hm)
    exact ⟨j, hj, by rw [he]; exact hl⟩
  · rintro ⟨i, hi, hl⟩
    obtain ⟨j, hj, he⟩ := (getD_mem_iff (formL l) (V i)).2 (((formL_spec l).2 _).2 ((h _).2 ⟨i, hi, rfl⟩))
    exact ⟨j, hj, by show litB bits ((formL l).getD j 0) = true; rw [he]; exact hl⟩
/-- what the first Normal, the one of its outcome, and the other list's tell. -/
theorem may_sixty {n : Nat} {V : Nat → Int} (h : MayP n V) (hs : ∀ i, i < n → -60 ≤ V i ∧ V i ≤ 60) : ∀ i, i < n → Sixty (V i) := fun i hi => by
  have := h.2 i hi
  unfold isLitB at this
  simp only [Bool.and_eq_true, bne_iff_ne, decide_eq_true_eq] at this
  exact ⟨this.1.1, (hs i hi).1, (hs i hi).2⟩
theorem form_sixty1 {n : Nat} {V : Nat → Int} (l : List LitT) (h : ∀ x, x ∈ nums l ↔ ∃ i, i < n ∧ V i = x) (hs : ∀ i, i < n → Sixty (V i)) : ∀ i, i < (formL l).length → Sixty ((formL l).getD i 0) := fun i hi => by
  have hm := (getD_mem_iff (formL l) _).1 ⟨i, hi, rfl⟩
  obtain ⟨j, hj, he⟩ := (h _).1 (((formL_spec l).2 _).1 hm)
  rw [← he]
  exact hs j hj
/-- are the first ones small? -/
def smallB (V : Nat → Int) (j : Nat) : Bool := (List.range j).all fun i => decide (V i ≤ 60) && decide (-60 ≤ V i)
theorem smallB_succ (V : Nat → Int) (j : Nat) : smallB V (j + 1) = (smallB V j && (decide (V j ≤ 60) && decide (-60 ≤ V j))) := by
  unfold smallB
  rw [List.range_succ, List.all_append]
  simp
theorem smallB_at {V : Nat → Int} {n : Nat} (h : smallB V n = true) : ∀ i, i < n → -60 ≤ V i ∧ V i ≤ 60 := by
  intro i hi
  have := List.all_eq_true.1 h i (List.mem_range.2 hi)
  simp only [Bool.and_eq_true, decide_eq_true_eq] at this
  exact ⟨this.2, this.1⟩
set_option maxRecDepth 100000 in
set_option maxHeartbeats 800000 in
theorem one_out (p : Option Addr) (n c : Nat) (q : Option Addr) (m d : Nat) (bits : Int) (w : World) (h : 300 < n ∨ (n ≤ 300 ∧ 300 < m)) (h1 : n ≤ 9223372036854775807) (h2 : m ≤ 9223372036854775807) :
    Calls Try.prog 8 #[.slice p n c, .slice q m d, .int .u64 bits] w fun e w' => e = .returned (.bool true) ∧ Below w.heap.size w w' := by
  rcases h with h | ⟨h, h'⟩
  all_goals
    go_enter Try.func8, Try.ntmps8
    go_wp2_with fail
    refine (known14_any _).mono ?_
    rintro e w1 ⟨rfl, hb⟩
    go_wp2_with fail
    go_ret
    exact ⟨rfl, hb⟩
set_option maxRecDepth 100000 in
set_option maxHeartbeats 1600000 in
theorem one_bad (p : Option Addr) (n c : Nat) (V : Nat → Int) (q : Option Addr) (m d : Nat) (U : Nat → Int) (bits : Int) (w : World) (hV : LitsIn w p n V) (hn : n ≤ 300) (hU : LitsIn w q m U) (hm : m ≤ 300) (h : ¬ MayP n V ∨ (MayP n V ∧ ¬ MayP m U)) :
    Calls Try.prog 8 #[.slice p n c, .slice q m d, .int .u64 bits] w fun e w' => e = .returned (.bool true) ∧ Below w.heap.size w w' := by
  obtain ⟨k, Z, er, hk, hyes, hno, h1, _⟩ := normal_same n V (by omega)
  obtain ⟨k2, Z2, er2, hk2, hyes2, hno2, h2, _⟩ := normal_same m U (by omega)
  have H1 := Lib.hid h1
  have H2 := Lib.hid h2
  have HV := Lib.hid hV
  have HU := Lib.hid hU
  have HB := Lib.hid (below_self w)
  clear hV hU h1 h2
  rcases h with h | ⟨h, h'⟩
  · obtain ⟨rfl, rfl⟩ := hno h
    clear hno hyes hno2 hyes2 h
    go_enter Try.func8, Try.ntmps8
    go_wp2_with fail
    refine (H1.out _ p c (HV.out.later HB.out)).mono ?_
    rintro e w1 ⟨⟨px, cx, rfl, hx⟩, hb⟩
    have HB := Lib.hid (chain HB.out hb)
    have HOx := Lib.hid hx
    clear hx hb
    go_wp2_with fail
    refine (H2.out _ q d (HU.out.later HB.out)).mono ?_
    rintro e w2 ⟨⟨py, cy, rfl, hx⟩, hb⟩
    have HOx := Lib.hid (HOx.out.later hb)
    have HB := Lib.hid (chain HB.out hb)
    have HOy := Lib.hid hx
    clear hx hb
    go_wp2_with fail
    refine (known14_any _).mono ?_
    rintro e w3 ⟨rfl, hb⟩
    have HOx := Lib.hid (HOx.out.later hb)
    have HOy := Lib.hid (HOy.out.later hb)
    have HB := Lib.hid (chain HB.out hb)
    clear hb
    have hbz := HB.out
    go_wp2_with fail
    go_ret
    exact ⟨rfl, hbz⟩
  · obtain ⟨rfl, _⟩ := hyes h
    obtain ⟨rfl, rfl⟩ := hno2 h'
    clear hno hyes hno2 hyes2 h h'
    go_enter Try.func8, Try.ntmps8
    go_wp2_with fail
    refine (H1.out _ p c (HV.out.later HB.out)).mono ?_
    rintro e w1 ⟨⟨px, cx, rfl, hx⟩, hb⟩
    have HB := Lib.hid (chain HB.out hb)
    have HOx := Lib.hid hx
    clear hx hb
    go_wp2_with fail
    refine (H2.out _ q d (HU.out.later HB.out)).mono ?_
    rintro e w2 ⟨⟨py, cy, rfl, hx⟩, hb⟩
    have HOx := Lib.hid (HOx.out.later hb)
    have HB := Lib.hid (chain HB.out hb)
    have HOy := Lib.hid hx
    clear hx hb
    go_wp2_with fail
    refine (known14_any _).mono ?_
    rintro e w3 ⟨rfl, hb⟩
    have HOx := Lib.hid (HOx.out.later hb)
    have HOy := Lib.hid (HOy.out.later hb)
    have HB := Lib.hid (chain HB.out hb)
    clear hb
    have hbz := HB.out
    go_wp2_with fail
    go_ret
    exact ⟨rfl, hbz⟩
set_option maxRecDepth 100000 in
set_option maxHeartbeats 4000000 in
theorem one_in (p : Option Addr) (n c : Nat) (V : Nat → Int) (q : Option Addr) (m d : Nat) (U : Nat → Int) (bits : Int) (w : World) (hV : LitsIn w p n V) (hn : n ≤ 300) (hI : ∀ i, i < n → I64 (V i)) (hU : LitsIn w q m U) (hm : m ≤ 300) (hJ : ∀ i, i < m → I64 (U i)) (hb0 : 0 ≤ bits) (hb1 : bits ≤ 18446744073709551615) (hmay : MayP n V) (hmay2 : MayP m U) :
    Calls Try.prog 8 #[.slice p n c, .slice q m d, .int .u64 bits] w fun e w' => e = .returned (.bool true) ∧ Below w.heap.size w w' := by
  obtain ⟨k, Z, er, hk, hyes, -, h1, -⟩ := normal_same n V (by omega)
  obtain ⟨k2, Z2, er2, hk2, hyes2, -, h2, -⟩ := normal_same m U (by omega)
  obtain ⟨rfl, l, hl, rfl, rfl⟩ := hyes hmay
  obtain ⟨rfl, l2, hl2, rfl, rfl⟩ := hyes2 hmay2
  obtain ⟨k3, Z3, er3, hk3, hyes3, -, h3, -⟩ := normal_same (formL l).length (fun i => (formL l).getD i 0) (by omega)
  obtain ⟨rfl, l3, hl3, rfl, rfl⟩ := hyes3 (form_may l hk)
  rw [form_form l l3 hl3] at h3 hk3
  have hsame := one_same l l2 hl hl2
  have hhold := hold_form bits l hl
  have HS6 := Lib.hid (fun hs => form_sixty1 l hl (may_sixty hmay hs))
  have HM6 := Lib.hid (fun hs => may_sixty hmay hs)
  have H1 := Lib.hid h1
  have H2 := Lib.hid h2
  have H3 := Lib.hid h3
  have HV := Lib.hid hV
  have HU := Lib.hid hU
  have HI := Lib.hid hI
  have HJ := Lib.hid hJ
  have HB := Lib.hid (below_self w)
  have HEQ := eql_self
  have HSAME := Lib.hid hsame
  have HHOLD := Lib.hid hhold
  clear hV hU h1 h2 h3 hyes hyes2 hyes3 hI hJ hmay hmay2 hsame hhold hl hl2 hl3
  generalize formL l = F at *
  generalize formL l2 = F2 at *
  clear l l2 l3
  go_enter Try.func8, Try.ntmps8
  go_wp2_with fail
  refine (H1.out _ p c (HV.out.later HB.out)).mono ?_
  rintro e w1 ⟨⟨px, cx, rfl, hx⟩, hb⟩
  have HB := Lib.hid (chain HB.out hb)
  have HOx := Lib.hid hx
  clear hx hb
  go_wp2_with fail
  refine (H2.out _ q d (HU.out.later HB.out)).mono ?_
  rintro e w2 ⟨⟨py, cy, rfl, hx⟩, hb⟩
  have HOx := Lib.hid (HOx.out.later hb)
  have HB := Lib.hid (chain HB.out hb)
  have HOy := Lib.hid hx
  clear hx hb
  go_wp2_with fail
  refine (H3.out _ px cx HOx.out).mono ?_
  rintro e w3 ⟨⟨pz, cz, rfl, hx⟩, hb⟩
  have HOx := Lib.hid (HOx.out.later hb)
  have HOy := Lib.hid (HOy.out.later hb)
  have HB := Lib.hid (chain HB.out hb)
  have HOz := Lib.hid hx
  clear hx hb
  go_wp2_with fail
  go_loopw [13, 48] (fun s i wr => ∃ j : Nat, j ≤ n ∧ s = .bool (smallB V j) ∧ i = .int .i64 j ∧ w3 = wr) (fun _ i _ => n - (intOf i).toNat)
  case atStart => exact ⟨0, by omega, rfl, rfl, rfl⟩
  case round =>
    obtain ⟨j, hj, rfl, rfl, rfl⟩ := hrel
    by_cases hlt : j < n
    · have hj0 : (0 : Int) ≤ (j : Int) := by omega
      have hj1 : (j : Int) < (n : Int) := by omega
      obtain ⟨b, off, rfl, hX⟩ := (HV.out.later HB.out) (by omega)
      have cv := hX j hlt
      clear hX
      have HSU := Lib.hid (smallB_succ V j)
      cases hs : smallB V j with
      | false =>
        rw [hs] at HSU
        have HS := Lib.hid (show smallB V (j + 1) = false by rw [HSU.out]; rfl)
        clear hs
        go_wp2_with fail
        go_roundw
        case rel => exact ⟨j + 1, by omega, by rw [HS.out], by go_num, trivial⟩
        case measure => simp [intOf]; omega
      | true =>
        rw [hs] at HSU
        clear hs
        generalize hx : V j = x at *
        have HX := Lib.hid hx
        clear hx
        have key : 60 < x ∨ (x ≤ 60 ∧ x < -60) ∨ (x ≤ 60 ∧ -60 ≤ x) := by omega
        rcases key with h | ⟨h, h'⟩ | ⟨h, h'⟩
        · have HS := Lib.hid (show smallB V (j + 1) = false by rw [HSU.out, decide_eq_false (show ¬ x ≤ 60 by omega)]; rfl)
          go_wp2_with fail
          go_roundw
          case rel => exact ⟨j + 1, by omega, by first | (rw [HS.out]; done) | (rw [HS.out]; congr 1; exact decide_eq_false (by omega)) | (rw [HS.out]; congr 1; exact decide_eq_true (by omega)), by go_num, trivial⟩
          case measure => simp [intOf]; omega
        · have HS := Lib.hid (show smallB V (j + 1) = false by rw [HSU.out, decide_eq_true h, decide_eq_false (show ¬ -60 ≤ x by omega)]; rfl)
          go_wp2_with fail
          go_roundw
          case rel => exact ⟨j + 1, by omega, by first | (rw [HS.out]; done) | (rw [HS.out]; congr 1; exact decide_eq_false (by omega)) | (rw [HS.out]; congr 1; exact decide_eq_true (by omega)), by go_num, trivial⟩
          case measure => simp [intOf]; omega
        · have HS := Lib.hid (show smallB V (j + 1) = true by rw [HSU.out, decide_eq_true h, decide_eq_true h']; rfl)
          go_wp2_with fail
          go_roundw
          case rel => exact ⟨j + 1, by omega, by first | (rw [HS.out]; done) | (rw [HS.out]; congr 1; exact decide_eq_false (by omega)) | (rw [HS.out]; congr 1; exact decide_eq_true (by omega)), by go_num, trivial⟩
          case measure => simp [intOf]; omega
    · obtain rfl : j = n := by omega
      go_wp2_with fail
      refine (alike_same pz _ cz _ px cx _ HOz.out (by omega) HOx.out).mono ?_
      rintro e w4 ⟨rfl, hb⟩
      have HOx := Lib.hid (HOx.out.later hb)
      have HOy := Lib.hid (HOy.out.later hb)
      have HOz := Lib.hid (HOz.out.later hb)
      have HB := Lib.hid (chain HB.out hb)
      clear hb
      have H6 := alike_any px _ cx _ py _ cy _ _ HOx.out (by omega) HOy.out (by omega)
      rw [HSAME.out] at H6
      go_wp2_with fail
      refine (H6).mono ?_
      rintro e w5 ⟨rfl, hb⟩
      have HOx := Lib.hid (HOx.out.later hb)
      have HOy := Lib.hid (HOy.out.later hb)
      have HOz := Lib.hid (HOz.out.later hb)
      have HB := Lib.hid (chain HB.out hb)
      clear hb
      clear H6
      go_wp2_with fail
      refine (same_any p j c V q m d U _ (HV.out.later HB.out) (by omega) HI.out (HU.out.later HB.out) (by omega) HJ.out).mono ?_
      rintro e w6 ⟨rfl, hb⟩
      have HOx := Lib.hid (HOx.out.later hb)
      have HOy := Lib.hid (HOy.out.later hb)
      have HOz := Lib.hid (HOz.out.later hb)
      have HB := Lib.hid (chain HB.out hb)
      clear hb
      cases hs : smallB V j with
      | false =>
        go_wp2_with fail
        refine (known14_any _).mono ?_
        rintro e w7 ⟨rfl, hb⟩
        have HOx := Lib.hid (HOx.out.later hb)
        have HOy := Lib.hid (HOy.out.later hb)
        have HOz := Lib.hid (HOz.out.later hb)
        have HB := Lib.hid (chain HB.out hb)
        clear hb
        have hbz := HB.out
        go_wp2_with fail
        go_ret
        exact ⟨rfl, hbz⟩
      | true =>
        have HSX := Lib.hid (smallB_at hs)
        clear hs
        go_wp2_with fail
        refine (holds39_b p j c V bits _ _ rfl (HV.out.later HB.out) (by omega) (HM6.out HSX.out) hb0 hb1).mono ?_
        rintro e w7 ⟨rfl, hb⟩
        have HOx := Lib.hid (HOx.out.later hb)
        have HOy := Lib.hid (HOy.out.later hb)
        have HOz := Lib.hid (HOz.out.later hb)
        have HB := Lib.hid (chain HB.out hb)
        clear hb
        go_wp2_with fail
        refine (holds39_b px _ cx _ bits _ _ HHOLD.out HOx.out (by omega) (HS6.out HSX.out) hb0 hb1).mono ?_
        rintro e w8 ⟨rfl, hb⟩
        have HOx := Lib.hid (HOx.out.later hb)
        have HOy := Lib.hid (HOy.out.later hb)
        have HOz := Lib.hid (HOz.out.later hb)
        have HB := Lib.hid (chain HB.out hb)
        clear hb
        go_wp2_with fail
        refine (known14_any _).mono ?_
        rintro e w9 ⟨rfl, hb⟩
        have HOx := Lib.hid (HOx.out.later hb)
        have HOy := Lib.hid (HOy.out.later hb)
        have HOz := Lib.hid (HOz.out.later hb)
        have HB := Lib.hid (chain HB.out hb)
        clear hb
        have hbz := HB.out
        go_wp2_with fail
        go_ret
        exact ⟨rfl, hbz⟩
theorem one_any {w : World} (p : Option Addr) (n c : Nat) (V : Nat → Int) (hV : LitsIn w p n V) (hn : n ≤ 9223372036854775807) (hI : ∀ i, i < n → I64 (V i)) (hp : p = none → c = 0) (q : Option Addr) (m d : Nat) (U : Nat → Int) (hU : LitsIn w q m U) (hm : m ≤ 9223372036854775807) (hJ : ∀ i, i < m → I64 (U i)) (hq : q = none → d = 0) (bits : Int) (hb : 0 ≤ bits ∧ bits ≤ 18446744073709551615) (W : World) (hW : W = w := by rfl) :
    Calls Try.prog 8 #[.slice p n c, .slice q m d, .int .u64 bits] W fun e w' => e = .returned (.bool true) ∧ Below W.heap.size W w' := by
  subst hW
  by_cases h : 300 < n ∨ (n ≤ 300 ∧ 300 < m)
  · exact one_out p n c q m d bits W h hn hm
  · by_cases h1 : MayP n V
    · by_cases h2 : MayP m U
      · exact one_in p n c V q m d U bits W hV (by omega) hI hU (by omega) hJ hb.1 hb.2 h1 h2
      · exact one_bad p n c V q m d U bits W hV (by omega) hU (by omega) (.inr ⟨h1, h2⟩)
    · exact one_bad p n c V q m d U bits W hV (by omega) hU (by omega) (.inl h1)
end Go.Proofs.Ytiadnifbjdnflaa
