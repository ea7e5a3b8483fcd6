/- clauses.Normal of any list. -/
import Derived.Test.YtiadnifbjdnflaaForm
namespace Go.Proofs.Ytiadnifbjdnflaa
open Go Go.RowKit Go.Proofs Go.Sort

theorem lits_of (V : Nat → Int) : ∀ n, (∀ i, i < n → isLitB (V i) = true) → ∃ l : List LitT, l.length = n ∧ ∀ i, i < n → (nums l)[i]? = some (V i) := by
  intro n
  induction n with
  | zero => intro _; exact ⟨[], rfl, fun i hi => by omega⟩
  | succ n ih =>
    intro h
    obtain ⟨l, hl, hg⟩ := ih (fun i hi => h i (by omega))
    refine ⟨l ++ [⟨V n, h n (by omega)⟩], by simp [hl], fun i hi => ?_⟩
    have hn : (nums l).length = n := by simp [nums, hl]
    simp only [nums, List.map_append]
    by_cases h1 : i < n
    · rw [List.getElem?_append_left (by simpa [nums] using (by omega : i < (nums l).length))]
      exact hg i h1
    · obtain rfl : i = n := by omega
      rw [List.getElem?_append_right (by simp [hl])]
      simp [hl]
set_option maxRecDepth 100000 in
set_option maxHeartbeats 800000 in
theorem clone_zero (ad : Addr) (c : Nat) (w : World) :
    Calls Try.prog 59 #[.slice (some ad) 0 c] w fun e w' => ∃ v', e = .returned v' ∧ w'.ownsRow w.heap.size 30 1 v' 0 [] ∧ Below w.heap.size w w' := by
  have q22 : ∀ (w : World) (a : Option Addr) (n c n' c' : Nat), (binOp .eql 22 (.slice a n c) (.slice none n' c')).run Try.prog w = .ok (.bool a.isNone) w := fun w a n c n' c' => Lib.run_eql_slice_nil w _ _ a n c n' c' Try.underlying22
  obtain ⟨i0, hi, hz0, hz1, hz2⟩ := info30
  go_enter Try.func59, Try.ntmps59
  go_wp2_with (at_builtin; refine wpList_append_own _ rfl _ _ 22 rfl w.heap.size 30 i0 (.int .i64 0) 1 8 Try.underlying22 hi hz0 hz1 hz2 rfl (by omega) _ _ _ rfl (World.ownsRow_made w #[] 0 (Nat.le_refl _) (Nat.zero_le _) (by simp)) ad 0 c [] rfl rfl (fun j u hj => by simp at hj) (fun u hu => by simp at hu) ?qc4 ?qc5 ?qc6 ?_)
  case qc4 => rw [Nat.zero_add]; unfold maxLen; omega
  case qc5 => omega
  try (case qc6 => simp)
  intro v' w1 hown hgrow hnil
  go_wp2
  go_ret
  exact ⟨v', rfl, by simpa using hown, ((Below.refl _ w).alloc (Nat.le_refl _) _).grown hgrow (by simp) (by intro k hk; simp [Value.ownBlock] at hk; omega)⟩
set_option maxRecDepth 100000 in
set_option maxHeartbeats 800000 in
theorem clone_nil (c : Nat) (w : World) :
    Calls Try.prog 59 #[.slice none 0 c] w fun e w' => e = .returned (.slice none 0 0) ∧ w' = w := by
  have q22 : ∀ (w : World) (a : Option Addr) (n c n' c' : Nat), (binOp .eql 22 (.slice a n c) (.slice none n' c')).run Try.prog w = .ok (.bool a.isNone) w := fun w a n c n' c' => Lib.run_eql_slice_nil w _ _ a n c n' c' Try.underlying22
  go_enter Try.func59, Try.ntmps59
  go_wp2
  go_ret
  exact ⟨rfl, rfl⟩
theorem clone_any (p : Option Addr) (n c : Nat) (V : Nat → Int) (zs : List Int) (w : World) (hV : LitsIn w p n V) (hl : zs.length = n) (hz : ∀ i, i < n → zs[i]? = some (V i)) (hn : n ≤ 17592186044415) :
    Calls Try.prog 59 #[.slice p n c] w fun e w' => ∃ v', e = .returned v' ∧ w'.ownsRow w.heap.size 30 1 v' n (zs.map (Value.int .i64)) ∧ Below w.heap.size w w' := by
  by_cases h0 : n = 0
  · subst h0
    have : zs = [] := List.length_eq_zero_iff.1 hl
    subst this
    cases p with
    | none =>
      refine (clone_nil c w).mono ?_
      rintro e w' ⟨rfl, rfl⟩
      exact ⟨_, rfl, ⟨by simp, .inl ⟨rfl, rfl⟩⟩, Below.refl _ _⟩
    | some ad => exact clone_zero ad c w
  · obtain ⟨b, off, rfl, hE⟩ := hV (by omega)
    refine (clone_lits b off n c (zs.map (Value.int .i64)) w (by simpa using hl) hn (fun j u hj => ?_) (fun u hu => ?_)).mono ?_
    · have hjn : j < n := by
        have := (List.getElem?_eq_some_iff.1 hj).1
        simpa [hl] using this
      rw [hE j hjn]
      rw [List.getElem?_map, hz j hjn] at hj
      simpa using hj
    · obtain ⟨x, _, rfl⟩ := List.mem_map.1 hu
      rfl
    · rintro e w' ⟨v', he, ho, _, hb⟩
      exact ⟨v', he, ho, hb⟩
set_option maxRecDepth 100000 in
set_option maxHeartbeats 800000 in
theorem form_any (p : Option Addr) (n c : Nat) (V : Nat → Int) (l : List LitT) (w : World) (hV : LitsIn w p n V) (hl : l.length = n) (hz : ∀ i, i < n → (nums l)[i]? = some (V i)) (hn : n ≤ 17592186044415) :
    Calls Try.prog 48 #[.slice p n c] w fun e w' => ∃ v', e = .returned v' ∧ w'.ownsRow w.heap.size 30 1 v' (formL l).length ((formL l).map (Value.int .i64)) ∧ Below w.heap.size w w' := by
  have H1 := clone_any p n c V (nums l) w hV (by simpa [nums] using hl) hz hn
  have H2 := fun (v : Value) (W : World) (h : W.ownsRow w.heap.size 30 1 v n ((nums l).map (Value.int .i64))) => sort_own l hl h (by omega)
  have H3 := fun (v : Value) (W : World) (h : W.ownsRow w.heap.size 30 1 v n ((nums (sortL l)).map (Value.int .i64))) => compact_own (nums (sortL l)) (by simp [nums, sortL_len, hl]) h (by omega)
  clear hV hz
  go_enter Try.func48, Try.ntmps48
  go_wp2_with fail
  refine H1.mono ?_
  rintro e w1 ⟨v1, rfl, ho1, hb1⟩
  go_wp2_with fail
  refine (H2 v1 _ ho1).mono ?_
  rintro e w2 ⟨rfl, ho2, hb2⟩
  go_wp2_with fail
  refine (H3 v1 _ ho2).mono ?_
  rintro e w3 ⟨v3, rfl, ho3, _, hb3⟩
  have HO := Lib.hid ho3
  have HB := Lib.hid ((hb1.trans hb2).trans hb3)
  clear ho1 ho2 ho3 hb1 hb2 hb3 H1 H2 H3
  go_wp2_with fail
  go_ret
  exact ⟨_, rfl, HO.out, HB.out⟩
set_option maxRecDepth 100000 in
set_option maxHeartbeats 800000 in
theorem normal_no (p : Option Addr) (n c : Nat) (V : Nat → Int) (w : World) (hV : LitsIn w p n V) (hn : n ≤ 9223372036854775807) (hm : ¬ MayP n V) :
    Calls Try.prog 20 #[.slice p n c] w fun e w' => e = .returned (.tuple #[.slice none 0 0, .int .i64 2]) ∧ w' = w := by
  have H1 := may_any p n c V w hV hn
  clear hV
  go_enter Try.func20, Try.ntmps20
  go_wp2_with fail
  refine H1.mono ?_
  rintro e w1 ⟨⟨rfl, h⟩ | ⟨rfl, h⟩, rfl⟩
  · exact absurd h hm
  clear H1
  go_wp2_with fail
  go_ret2
  exact ⟨rfl, rfl⟩
set_option maxRecDepth 100000 in
set_option maxHeartbeats 800000 in
theorem normal_any (p : Option Addr) (n c : Nat) (V : Nat → Int) (l : List LitT) (w : World) (hV : LitsIn w p n V) (hl : l.length = n) (hz : ∀ i, i < n → (nums l)[i]? = some (V i)) (hm : MayP n V) :
    Calls Try.prog 20 #[.slice p n c] w fun e w' => ∃ v', e = .returned (.tuple #[v', .int .i64 0]) ∧ w'.ownsRow w.heap.size 30 1 v' (formL l).length ((formL l).map (Value.int .i64)) ∧ Below w.heap.size w w' := by
  have H1 := may_any p n c V w hV (by have := hm.1; omega)
  have H2 := form_any p n c V l w hV hl hz (by have := hm.1; omega)
  clear hV hz
  go_enter Try.func20, Try.ntmps20
  go_wp2_with fail
  refine H1.mono ?_
  rintro e w1 ⟨⟨rfl, h⟩ | ⟨rfl, h⟩, rfl⟩
  · clear H1 h
    go_wp2_with fail
    refine H2.mono ?_
    rintro e w2 ⟨v', rfl, ho, hb⟩
    have HO := Lib.hid ho
    have HB := Lib.hid hb
    clear ho hb H2
    go_wp2_with fail
    go_ret2
    exact ⟨_, rfl, HO.out, HB.out⟩
  · exact absurd hm h
end Go.Proofs.Ytiadnifbjdnflaa
