/- Stage 6: Len, check; the row that is kept. -/
import Derived.Test.YtkjmmdffelhkiaaT4
namespace Go.Proofs.Ytkjmmdffelhkiaa
open Go Go.RowKit Go.Maps

variable {W : World} {K : Nat → Nat} {base c : Nat} {T : Sto}
set_option maxRecDepth 100000 in
set_option maxHeartbeats 2000000 in
theorem clone_ints82 (b off n c : Nat) (news : List Value) (w : World) (hl : news.length = n) (hn : n ≤ 17592186044415)
    (hc : ∀ j u, news[j]? = some u → w.cell? ⟨b, off + j, none⟩ = some u) (h1 : ∀ u ∈ news, u.oneCell' = true) :
    Calls Try.prog 82 #[.slice (some ⟨b, off, none⟩) n c] w fun e w' => ∃ v', e = .returned v' ∧ w'.ownsRow w.heap.size 73 1 v' n news ∧ v' ≠ .slice none 0 0 ∧ Below w.heap.size w w' := by
  have q22 : ∀ (w : World) (a : Option Addr) (n c n' c' : Nat), (binOp .eql 74 (.slice a n c) (.slice none n' c')).run Try.prog w = .ok (.bool a.isNone) w := fun w a n c n' c' => Lib.run_eql_slice_nil w _ _ a n c n' c' Try.underlying74
  have A := Lib.hid hc
  clear hc
  obtain ⟨i0, hi, hz0, hz1, hz2⟩ := info_of (e := 73) (z := .int .i64 0) (s := 1) (b := 8) (by kernel_rfl)
  have hcc : ∀ j u, news[j]? = some u → (w.alloc (.cells #[] 73)).cell? ⟨b, off + j, none⟩ = some u := fun j u hu => cell_later (below1 w _) (A.out j u hu)
  have HCC := Lib.hid hcc
  clear hcc A
  go_enter Try.func82, Try.ntmps82
  go_wp2_with (at_builtin; refine wpList_append_own _ rfl _ _ 74 rfl w.heap.size 73 i0 (.int .i64 0) 1 8 Try.underlying74 hi hz0 hz1 hz2 rfl (by omega) _ _ _ rfl (World.ownsRow_made w #[] 0 (Nat.le_refl _) (Nat.zero_le _) (by simp)) ⟨b, off, none⟩ n c news rfl ?qc1 ?qc2 ?qc3 ?qc4 ?qc5 ?qc6 ?_)
  case qc1 => omega
  case qc2 =>
    intro j u hj
    rw [show (⟨b, off, none⟩ : Addr).add j = ⟨b, off + j, none⟩ from Lib.add_plain _ _ _]
    exact HCC.out j u hj
  case qc3 => exact h1
  case qc4 => rw [Nat.zero_add]; unfold maxLen; omega
  case qc5 => rw [Nat.zero_add]; omega
  case qc6 => simp
  intro v' w1 hown hgrow hnil
  go_wp2
  go_ret
  refine ⟨v', rfl, by simpa using hown, ?_, ?_⟩
  · exact hnil
  · exact ((Below.refl _ w).alloc (Nat.le_refl _) _).grown hgrow (by simp) (by intro k hk; simp [Value.ownBlock] at hk; omega)
set_option maxRecDepth 100000 in
set_option maxHeartbeats 800000 in
theorem clone_zero82 (ad : Addr) (c : Nat) (w : World) :
    Calls Try.prog 82 #[.slice (some ad) 0 c] w fun e w' => ∃ v', e = .returned v' ∧ w'.ownsRow w.heap.size 73 1 v' 0 [] ∧ Below w.heap.size w w' := by
  have q22 : ∀ (w : World) (a : Option Addr) (n c n' c' : Nat), (binOp .eql 74 (.slice a n c) (.slice none n' c')).run Try.prog w = .ok (.bool a.isNone) w := fun w a n c n' c' => Lib.run_eql_slice_nil w _ _ a n c n' c' Try.underlying74
  obtain ⟨i0, hi, hz0, hz1, hz2⟩ := info_of (e := 73) (z := .int .i64 0) (s := 1) (b := 8) (by kernel_rfl)
  go_enter Try.func82, Try.ntmps82
  go_wp2_with (at_builtin; refine wpList_append_own _ rfl _ _ 74 rfl w.heap.size 73 i0 (.int .i64 0) 1 8 Try.underlying74 hi hz0 hz1 hz2 rfl (by omega) _ _ _ rfl (World.ownsRow_made w #[] 0 (Nat.le_refl _) (Nat.zero_le _) (by simp)) ad 0 c [] rfl rfl (fun j u hj => by simp at hj) (fun u hu => by simp at hu) ?qc4 ?qc5 ?qc6 ?_)
  case qc4 => rw [Nat.zero_add]; unfold maxLen; omega
  case qc5 => omega
  try (case qc6 => simp)
  intro v' w1 hown hgrow hnil
  go_wp2
  go_ret
  exact ⟨v', rfl, by simpa using hown, ((Below.refl _ w).alloc (Nat.le_refl _) _).grown hgrow (by simp) (by intro k hk; simp [Value.ownBlock] at hk; omega)⟩
set_option maxRecDepth 100000 in
theorem clone_nil82 (c : Nat) (w : World) :
    Calls Try.prog 82 #[.slice none 0 c] w fun e w' => e = .returned (.slice none 0 0) ∧ w' = w := by
  have q22 : ∀ (w : World) (a : Option Addr) (n c n' c' : Nat), (binOp .eql 74 (.slice a n c) (.slice none n' c')).run Try.prog w = .ok (.bool a.isNone) w := fun w a n c n' c' => Lib.run_eql_slice_nil w _ _ a n c n' c' Try.underlying74
  go_enter Try.func82, Try.ntmps82
  go_wp2
  go_ret
  exact ⟨rfl, rfl⟩
theorem clone_any82 (p : Option Addr) (n c : Nat) (V : Nat → Int) (w : World) (hV : IntsIn w p n V) (hn : n ≤ 1000000) :
    Calls Try.prog 82 #[.slice p n c] w fun e w' => ∃ v', e = .returned v' ∧ w'.ownsRow w.heap.size 73 1 v' n (rowV n V) ∧ Below w.heap.size w w' := by
  by_cases h0 : n = 0
  · subst h0
    cases p with
    | none =>
      refine (clone_nil82 c w).mono ?_
      rintro e w' ⟨rfl, rfl⟩
      exact ⟨_, rfl, ⟨by simp [rowV], .inl ⟨rfl, rfl⟩⟩, Below.refl _ _⟩
    | some ad => exact clone_zero82 ad c w
  · obtain ⟨b, off, rfl, hE⟩ := hV (by omega)
    refine (clone_ints82 b off n c (rowV n V) w (rowV_len n V) (by omega) (fun j u hj => ?_) (fun u hu => ?_)).mono ?_
    · have hjn : j < n := by
        have := (List.getElem?_eq_some_iff.1 hj).1
        simpa [rowV_len] using this
      rw [hE j hjn]
      rwa [rowV_get n V j hjn] at hj
    · obtain ⟨x, _, rfl⟩ := List.mem_map.1 hu
      rfl
    · rintro e w' ⟨v', he, ho, _, hb⟩
      exact ⟨v', he, ho, hb⟩
set_option maxRecDepth 100000 in
theorem len_any (h : StoAt W K base c T) : Calls Try.prog 39 #[.pointer (some ⟨c, 0, none⟩)] W fun e w' => e = .returned (.int .i64 (T.nodes.length : Int)) ∧ w' = W := by
  obtain ⟨p, z, x0, o0⟩ := h.row0
  clear h o0
  go_enter Try.func39, Try.ntmps39
  go_wp2_with fail
  go_ret
  exact ⟨rfl, rfl⟩
def InS (T : Sto) (x : Int) : Prop := 0 ≤ x ∧ x < (T.nodes.length : Int)
def CheckP (T : Sto) (n : Nat) (V : Nat → Int) (W : World) (e : Ending) (w' : World) : Prop := ∃ er, e = .returned (.int .i64 er) ∧ w' = W ∧ ((er = 0 ∧ ∀ i, i < n → InS T (V i)) ∨ (er = 7 ∧ ∃ i, i < n ∧ ¬ InS T (V i)))
set_option maxRecDepth 100000 in
set_option maxHeartbeats 1600000 in
theorem check_any (h : StoAt W K base c T) (g : GoodS T) (h0 : 0 < T.nodes.length) (p : Option Addr) (n z : Nat) (V : Nat → Int) (hV : IntsIn W p n V) (hn : n ≤ 9223372036854775807) :
    Calls Try.prog 70 #[.pointer (some ⟨c, 0, none⟩), .slice p n z] W (CheckP T n V W) := by
  have HL := len_any h
  obtain ⟨p0, z0, x0, o0⟩ := h.row0
  have hb0 := g.b0
  have q0 : ((T.nodes.length : Int) == 0) = false := by rw [beq_eq_false_iff_ne]; omega
  have H := Lib.hid hV
  clear h o0 g hV
  go_enter Try.func70, Try.ntmps70
  go_wp2_with fail
  refine HL.mono ?_
  rintro e w1 ⟨rfl, hw⟩
  obtain rfl := hw.symm
  clear HL hw
  go_wp2_with fail
  go_loop [12] (fun i => ∃ k : Nat, k ≤ n ∧ i = .int .i64 k ∧ ∀ j, j < k → InS T (V j)) (fun i => n - (intOf i).toNat)
  case atStart => exact ⟨0, Nat.zero_le _, rfl, fun j hj => absurd hj (Nat.not_lt_zero _)⟩
  case round =>
    obtain ⟨k, hk, rfl, hall⟩ := hrel
    have HA := Lib.hid hall
    clear hall
    by_cases hlt : k < n
    · obtain ⟨b, off, rfl, ha⟩ := H.out (by omega)
      have ck := ha k hlt
      have hk0 : (0 : Int) ≤ (k : Int) := by omega
      have hk1 : (k : Int) < (n : Int) := by omega
      have HN := Lib.hid (show InS T (V k) → ∀ j, j < k + 1 → InS T (V j) from fun h j hj => by
        by_cases e : j = k
        · subst e; exact h
        · exact HA.out j (by omega))
      have HB := Lib.hid (show ¬ InS T (V k) → ∃ i, i < n ∧ ¬ InS T (V i) from fun h => ⟨k, hlt, h⟩)
      generalize V k = x at *
      clear ha
      by_cases h1 : x < 0
      · go_wp2_with fail
        go_ret
        exact ⟨7, rfl, rfl, .inr ⟨rfl, HB.out (fun h => by unfold InS at h; omega)⟩⟩
      · by_cases h2 : (T.nodes.length : Int) ≤ x
        · go_wp2_with fail
          go_ret
          exact ⟨7, rfl, rfl, .inr ⟨rfl, HB.out (fun h => by unfold InS at h; omega)⟩⟩
        · have hin : InS T x := ⟨by omega, by omega⟩
          go_wp2_with fail
          go_round
          case rel => exact ⟨k + 1, by omega, by go_num, HN.out hin⟩
          case measure => simp [intOf]; omega
    · obtain rfl : k = n := by omega
      go_wp2_with fail
      go_ret
      exact ⟨0, rfl, rfl, .inl ⟨rfl, HA.out⟩⟩
end Go.Proofs.Ytkjmmdffelhkiaa
