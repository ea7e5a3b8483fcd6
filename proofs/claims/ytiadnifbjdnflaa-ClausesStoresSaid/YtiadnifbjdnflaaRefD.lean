/- juristref14.Normal: the least one that is not there yet, again and again. -/
import Derived.Test.YtiadnifbjdnflaaRefC
import Derived.Test.YtiadnifbjdnflaaSrt
namespace Go.Proofs.Ytiadnifbjdnflaa
open Go Go.RowKit

theorem srt_len (V : Nat → Int) : ∀ (n : Nat) (o : List Int), o.Nodup → (∀ x ∈ o, ∃ i, i < n ∧ V i = x) → o.length ≤ n := by
  intro n
  induction n with
  | zero =>
    intro o _ h
    cases o with
    | nil => simp
    | cons x o => obtain ⟨i, hi, _⟩ := h x (by simp); omega
  | succ n ih =>
    intro o hn h
    have h2 := ih (o.erase (V n)) (hn.erase _) (fun x hx => by
      rw [hn.mem_erase_iff] at hx
      obtain ⟨i, hi, he⟩ := h x hx.2
      refine ⟨i, ?_, he⟩
      rcases Nat.lt_or_ge i n with h1 | h1
      · exact h1
      · obtain rfl : i = n := by omega
        exact absurd he.symm hx.1)
    have h3 := List.length_erase (a := V n) (l := o)
    split at h3 <;> omega
theorem srt_nodup {o : List Int} (h : o.Pairwise ltI) : o.Nodup := h.imp fun {a b} hab e => by subst e; exact ltI_irrefl _ hab
theorem hasB_list (o : List Int) (x : Int) : hasB o.length (fun i => o.getD i 0) x = decide (x ∈ o) := by
  rw [Bool.eq_iff_iff, hasB_iff, decide_eq_true_eq]
  constructor
  · rintro ⟨i, hi, rfl⟩
    simp [List.getD, hi]
  · intro h
    obtain ⟨i, hi, he⟩ := List.getElem_of_mem h
    exact ⟨i, hi, by simp [List.getD, hi, he]⟩
/-- what is taken so far. -/
structure Taken (n : Nat) (V : Nat → Int) (o : List Int) : Prop where
  srt : o.Pairwise ltI
  mem : ∀ x ∈ o, ∃ i, i < n ∧ V i = x
  low : ∀ x ∈ o, ∀ i, i < n → V i ∉ o → ltI x (V i)
/-- the least of the first ones that are not taken. -/
def Best (V : Nat → Int) (o : List Int) (j : Nat) (b : Int) : Prop :=
  (b = 0 ∧ ∀ t, t < j → V t ∈ o) ∨ (b ≠ 0 ∧ b ∉ o ∧ (∃ t, t < j ∧ V t = b) ∧ ∀ t, t < j → V t ∉ o → b = V t ∨ ltI b (V t))
theorem Best.start (V : Nat → Int) (o : List Int) : Best V o 0 0 := .inl ⟨rfl, fun t ht => by omega⟩
theorem Best.skip {V : Nat → Int} {o : List Int} {j : Nat} {b : Int} (h : Best V o j b) (hm : V j ∈ o) : Best V o (j + 1) b := by
  rcases h with ⟨h0, h1⟩ | ⟨h0, h1, ⟨t, ht, he⟩, h3⟩
  · refine .inl ⟨h0, fun t ht => ?_⟩
    by_cases htj : t < j
    · exact h1 t htj
    · obtain rfl : t = j := by omega
      exact hm
  · refine .inr ⟨h0, h1, ⟨t, by omega, he⟩, fun s hs hn => ?_⟩
    by_cases hsj : s < j
    · exact h3 s hsj hn
    · obtain rfl : s = j := by omega
      exact absurd hm hn
theorem Best.take {V : Nat → Int} {o : List Int} {j : Nat} {b : Int} (h : Best V o j b) (hm : V j ∉ o) (h0 : V j ≠ 0) (hl : b = 0 ∨ ltI (V j) b) : Best V o (j + 1) (V j) := by
  refine .inr ⟨h0, hm, ⟨j, by omega, rfl⟩, fun s hs hn => ?_⟩
  by_cases hsj : s < j
  · rcases h with ⟨_, h1⟩ | ⟨g0, _, _, h3⟩
    · exact absurd (h1 s hsj) hn
    · rcases hl with hl | hl
      · exact absurd hl g0
      · rcases h3 s hsj hn with h4 | h4
        · rw [← h4]; exact .inr hl
        · exact .inr (ltI_trans hl h4)
  · obtain rfl : s = j := by omega
    exact .inl rfl
theorem Best.stay {V : Nat → Int} {o : List Int} {j : Nat} {b : Int} (h : Best V o j b) (hb : b ≠ 0) (hl : ¬ ltI (V j) b) : Best V o (j + 1) b := by
  rcases h with ⟨h0, _⟩ | ⟨h0, h1, ⟨t, ht, he⟩, h3⟩
  · exact absurd h0 hb
  · refine .inr ⟨h0, h1, ⟨t, by omega, he⟩, fun s hs hn => ?_⟩
    by_cases hsj : s < j
    · exact h3 s hsj hn
    · obtain rfl : s = j := by omega
      rcases ltI_total b (V s) with h4 | h4 | h4
      · exact .inr h4
      · exact .inl h4
      · exact absurd h4 hl
theorem Taken.more {n : Nat} {V : Nat → Int} {o : List Int} {b : Int} (h : Taken n V o) (hb : Best V o n b) (h0 : b ≠ 0) : Taken n V (o ++ [b]) := by
  rcases hb with ⟨h1, _⟩ | ⟨_, h1, ⟨t, ht, he⟩, h3⟩
  · exact absurd h1 h0
  · refine ⟨?_, ?_, ?_⟩
    · rw [List.pairwise_append]
      refine ⟨h.srt, by simp, fun x hx y hy => ?_⟩
      rw [List.mem_singleton] at hy
      subst hy
      have := h.low x hx t ht (by rw [he]; exact h1)
      rwa [he] at this
    · intro x hx
      rcases List.mem_append.1 hx with hx | hx
      · exact h.mem x hx
      · rw [List.mem_singleton] at hx
        subst hx
        exact ⟨t, ht, he⟩
    · intro x hx i hi hn
      rw [List.mem_append, List.mem_singleton] at hn
      rcases List.mem_append.1 hx with hx | hx
      · exact h.low x hx i hi (fun h' => hn (.inl h'))
      · rw [List.mem_singleton] at hx
        subst hx
        rcases h3 i hi (fun h' => hn (.inl h')) with h4 | h4
        · exact absurd (.inr h4.symm) hn
        · exact h4
theorem Taken.done {n : Nat} {V : Nat → Int} {o : List Int} (l : List LitT) (h : Taken n V o) (hb : Best V o n 0) (hz : ∀ x, x ∈ nums l ↔ ∃ i, i < n ∧ V i = x) : o = formL l := by
  rcases hb with ⟨_, h1⟩ | ⟨h1, _⟩
  · refine (formL_of l o h.srt fun x => ?_).symm
    rw [hz]
    constructor
    · exact h.mem x
    · rintro ⟨i, hi, rfl⟩; exact h1 i hi
  · exact absurd rfl h1
theorem Taken.len {n : Nat} {V : Nat → Int} {o : List Int} (h : Taken n V o) : o.length ≤ n := srt_len V n o (srt_nodup h.srt) h.mem
def lenOf : Value → Nat
  | .slice _ n _ => n
  | _ => 0
set_option maxRecDepth 100000 in
set_option maxHeartbeats 3000000 in
theorem refNormal_any (p : Option Addr) (n c : Nat) (V : Nat → Int) (l : List LitT) (w : World) (hV : LitsIn w p n V) (hn : n ≤ 1000000) (hL : ∀ i, i < n → isLitB (V i) = true) (hz : ∀ x, x ∈ nums l ↔ ∃ i, i < n ∧ V i = x) :
    Calls Try.prog 24 #[.slice p n c] w fun e w' => ∃ v', e = .returned v' ∧ w'.ownsRow w.heap.size 30 1 v' (formL l).length ((formL l).map (Value.int .i64)) ∧ Below w.heap.size w w' := by
  obtain ⟨i0, hi, hz0, hz1, hz2⟩ := info30
  have HV := Lib.hid hV
  have HL := Lib.hid hL
  have HZ := Lib.hid hz
  clear hV hL hz
  go_enter Try.func24, Try.ntmps24
  go_wp2_with fail
  go_loopw [3] (fun v wr => ∃ (q : Option Addr) (d : Nat) (o : List Int), v = .slice q o.length d ∧ wr.ownsRow w.heap.size 30 1 (.slice q o.length d) o.length (o.map (Value.int .i64)) ∧ Taken n V o ∧ Below w.heap.size w wr) (fun v _ => n - lenOf v)
  case atStart => exact ⟨none, 0, [], rfl, ⟨by simp, .inl ⟨rfl, rfl⟩⟩, ⟨by simp, by simp, by simp⟩, Below.refl _ _⟩
  case round =>
    obtain ⟨q, d, o, rfl, hown, htk, hb⟩ := hrel
    obtain ⟨q', d', he, _, hq, _⟩ := own_in hown rfl
    cases he
    have HQ := Lib.hid hq
    have HO := Lib.hid hown
    have HT := Lib.hid htk
    have HB := Lib.hid hb
    have hol := htk.len
    clear hown htk hb hq
    go_wp2_with fail
    go_loopw [4, 5] (fun b i wi => ∃ (j : Nat) (x : Int), j ≤ n ∧ b = .int .i64 x ∧ i = .int .i64 j ∧ wr = wi ∧ Best V o j x ∧ -1048576 ≤ x ∧ x ≤ 1048576) (fun _ i _ => n - (intOf i).toNat)
    case atStart => exact ⟨0, 0, by omega, rfl, rfl, rfl, Best.start V o, by omega, by omega⟩
    case round =>
      obtain ⟨j, x, hj, rfl, rfl, rfl, hbest, x0, x1⟩ := hrel
      have HBEST := Lib.hid hbest
      clear hbest
      by_cases hlt : j < n
      · obtain ⟨b, off, rfl, hV⟩ := HV.out (by omega)
        have hj0 : (0 : Int) ≤ (j : Int) := by omega
        have hj1 : (j : Int) < (n : Int) := by omega
        have cv := (hV.later HB.out) j hlt
        clear hV
        have hlit := HL.out j hlt
        have H1 := refHas_any q o.length d (fun i => o.getD i 0) (V j) wr HQ.out (by omega)
        rw [hasB_list] at H1
        have hy : V j ≠ 0 ∧ -1048576 ≤ V j ∧ V j ≤ 1048576 := by
          unfold isLitB at hlit
          simp only [Bool.and_eq_true, bne_iff_ne, decide_eq_true_eq] at hlit
          exact ⟨hlit.1.1, hlit.1.2, hlit.2⟩
        clear hlit
        have HY := Lib.hid hy.1
        have y0 := hy.2.1
        have y1 := hy.2.2
        clear hy
        by_cases hm : V j ∈ o
        · have HN := Lib.hid (HBEST.out.skip hm)
          rw [decide_eq_true hm] at H1
          clear hm
          go_wp2_with fail
          refine H1.mono ?_
          rintro e w1 ⟨rfl, rfl⟩
          go_wp2_with fail
          go_roundw
          case rel => exact ⟨j + 1, x, by omega, rfl, by go_num, trivial, HN.out, x0, x1⟩
          case measure => simp [intOf]; omega
        · rw [decide_eq_false hm] at H1
          have HM := Lib.hid hm
          clear hm
          have HTAKE := Lib.hid (show (x = 0 ∨ ltI (V j) x) → Best V o (j + 1) (V j) from fun h => HBEST.out.take HM.out HY.out h)
          have HSTAY := Lib.hid (show x ≠ 0 → ¬ ltI (V j) x → Best V o (j + 1) x from fun h h' => HBEST.out.stay h h')
          have HA := atom_any (V j) wr (by omega) (by omega)
          have HX := atom_any x wr (by omega) (by omega)
          have ba : 0 ≤ absI (V j) ∧ absI (V j) ≤ 1048576 := by unfold absI; omega
          have bx : 0 ≤ absI x ∧ absI x ≤ 1048576 := by unfold absI; omega
          have HLT := Lib.hid (show ltI (V j) x ↔ (absI (V j) < absI x ∨ (absI (V j) = absI x ∧ x < V j)) from Iff.rfl)
          obtain ⟨ba0, ba1⟩ := ba
          obtain ⟨bx0, bx1⟩ := bx
          generalize absI (V j) = a at *
          generalize absI x = b at *
          have key : x = 0 ∨ (x ≠ 0 ∧ a < b) ∨ (x ≠ 0 ∧ b ≤ a ∧ a ≠ b) ∨ (x ≠ 0 ∧ a = b ∧ x < V j) ∨ (x ≠ 0 ∧ a = b ∧ V j ≤ x) := by omega
          rcases key with rfl | ⟨h0, h1⟩ | ⟨h0, h1, h2⟩ | ⟨h0, h1, h2⟩ | ⟨h0, h1, h2⟩
          · have HN := Lib.hid (HTAKE.out (.inl rfl))
            go_wp2_with fail
            refine H1.mono ?_
            rintro e w1 ⟨rfl, rfl⟩
            go_wp2_with fail
            go_roundw
            case rel => exact ⟨j + 1, V j, by omega, rfl, by go_num, trivial, HN.out, y0, y1⟩
            case measure => simp [intOf]; omega
          · have HN := Lib.hid (HTAKE.out (.inr (HLT.out.2 (.inl h1))))
            have q1 : (x == 0) = false := by rw [beq_eq_false_iff_ne]; exact h0
            clear h0
            go_wp2_with fail
            refine H1.mono ?_
            rintro e w1 ⟨rfl, rfl⟩
            go_wp2_with fail
            refine HA.mono ?_
            rintro e w1 ⟨rfl, rfl⟩
            go_wp2_with fail
            refine HX.mono ?_
            rintro e w1 ⟨rfl, rfl⟩
            go_wp2_with fail
            go_roundw
            case rel => exact ⟨j + 1, V j, by omega, rfl, by go_num, trivial, HN.out, y0, y1⟩
            case measure => simp [intOf]; omega
          · have HN := Lib.hid (HSTAY.out h0 (fun h => by have := HLT.out.1 h; omega))
            have q1 : (x == 0) = false := by rw [beq_eq_false_iff_ne]; exact h0
            have q2 : (a == b) = false := by rw [beq_eq_false_iff_ne]; exact h2
            clear h2
            clear h0
            go_wp2_with fail
            refine H1.mono ?_
            rintro e w1 ⟨rfl, rfl⟩
            go_wp2_with fail
            refine HA.mono ?_
            rintro e w1 ⟨rfl, rfl⟩
            go_wp2_with fail
            refine HX.mono ?_
            rintro e w1 ⟨rfl, rfl⟩
            go_wp2_with fail
            refine HA.mono ?_
            rintro e w1 ⟨rfl, rfl⟩
            go_wp2_with fail
            refine HX.mono ?_
            rintro e w1 ⟨rfl, rfl⟩
            go_wp2_with fail
            go_roundw
            case rel => exact ⟨j + 1, x, by omega, rfl, by go_num, trivial, HN.out, x0, x1⟩
            case measure => simp [intOf]; omega
          · have HN := Lib.hid (HTAKE.out (.inr (HLT.out.2 (.inr ⟨h1, h2⟩))))
            have q1 : (x == 0) = false := by rw [beq_eq_false_iff_ne]; exact h0
            have q2 : (a == b) = true := by rw [beq_iff_eq]; exact h1
            have h3 : b ≤ a := by omega
            clear h1
            clear h0
            go_wp2_with fail
            refine H1.mono ?_
            rintro e w1 ⟨rfl, rfl⟩
            go_wp2_with fail
            refine HA.mono ?_
            rintro e w1 ⟨rfl, rfl⟩
            go_wp2_with fail
            refine HX.mono ?_
            rintro e w1 ⟨rfl, rfl⟩
            go_wp2_with fail
            refine HA.mono ?_
            rintro e w1 ⟨rfl, rfl⟩
            go_wp2_with fail
            refine HX.mono ?_
            rintro e w1 ⟨rfl, rfl⟩
            go_wp2_with fail
            go_roundw
            case rel => exact ⟨j + 1, V j, by omega, rfl, by go_num, trivial, HN.out, y0, y1⟩
            case measure => simp [intOf]; omega
          · have HN := Lib.hid (HSTAY.out h0 (fun h => by have := HLT.out.1 h; omega))
            have q1 : (x == 0) = false := by rw [beq_eq_false_iff_ne]; exact h0
            have q2 : (a == b) = true := by rw [beq_iff_eq]; exact h1
            have h3 : b ≤ a := by omega
            clear h1
            clear h0
            go_wp2_with fail
            refine H1.mono ?_
            rintro e w1 ⟨rfl, rfl⟩
            go_wp2_with fail
            refine HA.mono ?_
            rintro e w1 ⟨rfl, rfl⟩
            go_wp2_with fail
            refine HX.mono ?_
            rintro e w1 ⟨rfl, rfl⟩
            go_wp2_with fail
            refine HA.mono ?_
            rintro e w1 ⟨rfl, rfl⟩
            go_wp2_with fail
            refine HX.mono ?_
            rintro e w1 ⟨rfl, rfl⟩
            go_wp2_with fail
            go_roundw
            case rel => exact ⟨j + 1, x, by omega, rfl, by go_num, trivial, HN.out, x0, x1⟩
            case measure => simp [intOf]; omega
      · obtain rfl : j = n := by omega
        by_cases h0 : x = 0
        · subst h0
          have HE := Lib.hid (HT.out.done l HBEST.out HZ.out)
          go_wp2_with fail
          go_ret
          exact ⟨_, rfl, by rw [← HE.out]; exact HO.out, HB.out⟩
        · have q1 : (x == 0) = false := by rw [beq_eq_false_iff_ne]; exact h0
          have HT2 := Lib.hid (HT.out.more HBEST.out h0)
          have hl2 := HT2.out.len
          rw [List.length_append, List.length_singleton] at hl2
          clear h0
          have hz3 := HB.out.size
          go_wp2_with (at_builtin; refine wpList_append_own _ rfl _ _ 22 rfl w.heap.size 30 i0 (.int .i64 0) 1 8 Try.underlying22 hi hz0 hz1 hz2 rfl (by omega) _ o.length (o.map (Value.int .i64)) rfl ?qc0 ⟨wr.heap.size, 0, none⟩ 1 1 [.int .i64 x] rfl rfl ?qc2 ?qc3 ?qc4 ?qc5 ?qc6 ?_)
          case qc0 => exact own_later HO.out (below1 _ _)
          case qc2 =>
            intro jj u hjj
            rw [Lib.add_plain]
            match jj, hjj with
            | 0, hjj => cases hjj; simp [go_sem]
          case qc3 => intro u hu; simp at hu; rcases hu with rfl; rfl
          case qc4 => have hml : maxLen = 9223372036854775807 := rfl; omega
          case qc5 => omega
          case qc6 => simp; omega
          intro v' w2 hown hgrow hnil
          have hlt2 := (HO.out).lt
          have hb2 : Below w.heap.size w w2 := ((HB.out).alloc hz3 _).grown hgrow (by simp; omega) (fun k hk => (hlt2 k hk).1)
          obtain ⟨q', d', he, _, _, _⟩ := own_in (zs := o ++ [x]) (n := o.length + 1) (by simpa using hown) (by simp)
          subst he
          have hown2 : w2.ownsRow w.heap.size 30 1 (.slice q' (o ++ [x]).length d') (o ++ [x]).length ((o ++ [x]).map (Value.int .i64)) := by simpa using hown
          have HOW := Lib.hid hown2
          have HB2 := Lib.hid hb2
          clear hown hown2 hgrow hnil hlt2 hb2
          go_wp2_with fail
          go_roundw
          case rel => exact ⟨q', d', o ++ [x], by simp, HOW.out, HT2.out, HB2.out⟩
          case measure => simp [lenOf]; omega
end Go.Proofs.Ytiadnifbjdnflaa
