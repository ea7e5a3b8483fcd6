/- The form of the literals 1, 2, third part. -/
import Derived.Test.YtiadnifbjdnflaaKn2
namespace Go.Proofs.Ytiadnifbjdnflaa
open Go Go.RowKit

set_option maxRecDepth 100000 in
set_option maxHeartbeats 1000000 in
theorem len_2 (w : World) : Calls Try.prog 71 #[.int .u64 2] w fun e w' => ∃ r : Int, e = .returned (.int .i64 r) ∧ Below w.heap.size w w' := by
  go_enter Try.func71, Try.ntmps71
  go_wp2
  go_ret
  exact ⟨_, rfl, Below.refl _ _⟩
set_option maxRecDepth 100000 in
set_option maxHeartbeats 1000000 in
theorem pdq_12 (b c : Nat) (r : Int) (w : World) (c0 : w.cell? ⟨b, 0, none⟩ = some (.int .i64 1)) (c1 : w.cell? ⟨b, 1, none⟩ = some (.int .i64 2)) :
    Calls Try.prog 70 #[.slice (some ⟨b, 0, none⟩) 2 c, .int .i64 0, .int .i64 2, .int .i64 r, .func (.func 64) #[] #[]] w fun e w' => e = .returned (.tuple #[]) ∧ Below w.heap.size w w' := by
  go_enter Try.func70, Try.ntmps70
  go_wp2_with fail
  refine wp_loop_rounds 1 ?_
  rw [rounds_succ]
  go_wp2_with fail
  refine (ins_12 b c _ c0 c1).mono ?_
  rintro e w1 ⟨rfl, hb⟩
  go_wp2_with fail
  refine bodyPost_ret (v := .tuple #[]) (by simp [results, Try.results70, go_sem]) rfl ⟨rfl, hb⟩

set_option maxRecDepth 100000 in
set_option maxHeartbeats 1000000 in
theorem sort_12 (b c : Nat) (w : World) (c0 : w.cell? ⟨b, 0, none⟩ = some (.int .i64 1)) (c1 : w.cell? ⟨b, 1, none⟩ = some (.int .i64 2)) :
    Calls Try.prog 63 #[.slice (some ⟨b, 0, none⟩) 2 c, .func (.func 64) #[] #[]] w fun e w' => e = .returned (.tuple #[]) ∧ Below w.heap.size w w' := by
  go_enter Try.func63, Try.ntmps63
  go_wp2_with fail
  refine (len_2 _).mono ?_
  rintro e w1 ⟨r, rfl, hb⟩
  go_wp2_with fail
  refine (pdq_12 b c r _ (cell_later hb c0) (cell_later hb c1)).mono ?_
  rintro e w2 ⟨rfl, hb2⟩
  go_wp2_with fail
  go_end0
  exact ⟨rfl, chain hb hb2⟩

set_option maxRecDepth 100000 in
set_option maxHeartbeats 1000000 in
theorem compact_12 (b c : Nat) (w : World) (c0 : w.cell? ⟨b, 0, none⟩ = some (.int .i64 1)) (c1 : w.cell? ⟨b, 1, none⟩ = some (.int .i64 2)) :
    Calls Try.prog 67 #[.slice (some ⟨b, 0, none⟩) 2 c] w fun e w' => e = .returned (.slice (some ⟨b, 0, none⟩) 2 c) ∧ Below w.heap.size w w' := by
  go_enter Try.func67, Try.ntmps67
  go_wp2
  refine wp_loop_rounds 2 ?_
  rw [rounds_succ]
  go_wp2
  go_quiet (fail)
  go_wp2
  rw [rounds_succ]
  go_wp2
  go_ret
  exact ⟨rfl, below_drewN _ _⟩

theorem own_12 {w w' : World} {v : Value} (h : w'.ownsRow w.heap.size 30 1 v 2 [.int .i64 1, .int .i64 2]) (hv : v ≠ .slice none 0 0) :
    ∃ b c : Nat, v = .slice (some ⟨b, 0, none⟩) 2 c ∧ w'.cell? ⟨b, 0, none⟩ = some (.int .i64 1) ∧ w'.cell? ⟨b, 1, none⟩ = some (.int .i64 2) := by
  rcases h.2 with ⟨h1, h2⟩ | ⟨g, cap, cur, rfl, hg, hh, hc, hm, hcs, ht⟩
  · exact absurd h1 hv
  · refine ⟨g, cap, rfl, ?_, ?_⟩
    · have e : cur[0]? = some (.int .i64 1) := by
        have := congrArg (·[0]?) ht
        simpa [List.getElem?_take] using this
      simp [World.cell?, hh, e]
    · have e : cur[1]? = some (.int .i64 2) := by
        have := congrArg (·[1]?) ht
        simpa [List.getElem?_take] using this
      simp [World.cell?, hh, e]

set_option maxRecDepth 100000 in
set_option maxHeartbeats 1000000 in
theorem form_12 (b c : Nat) (w : World) (c0 : w.cell? ⟨b, 0, none⟩ = some (.int .i64 1)) (c1 : w.cell? ⟨b, 1, none⟩ = some (.int .i64 2)) :
    Calls Try.prog 48 #[.slice (some ⟨b, 0, none⟩) 2 c] w fun e w' => ∃ b' c' : Nat, e = .returned (.slice (some ⟨b', 0, none⟩) 2 c') ∧ w'.cell? ⟨b', 0, none⟩ = some (.int .i64 1) ∧ w'.cell? ⟨b', 1, none⟩ = some (.int .i64 2) ∧ Below w.heap.size w w' := by
  have HC := clone_lits b 0 2 c [.int .i64 1, .int .i64 2] w rfl (by omega) (fun j u hj => by
    match j, hj with
    | 0, hj => cases hj; simpa using c0
    | 1, hj => cases hj; simpa using c1) (fun u hu => by simp at hu; rcases hu with rfl | rfl <;> rfl)
  go_enter Try.func48, Try.ntmps48
  go_wp2_with fail
  refine HC.mono ?_
  rintro e w1 ⟨v, rfl, hown, hne, hb⟩
  obtain ⟨b1, n1, rfl, d0, d1⟩ := own_12 hown hne
  clear hown hne
  go_wp2_with fail
  refine (sort_12 b1 n1 _ d0 d1).mono ?_
  rintro e w2 ⟨rfl, hb2⟩
  have d0 := cell_later hb2 d0
  have d1 := cell_later hb2 d1
  have hb := chain hb hb2
  go_wp2_with fail
  refine (compact_12 b1 n1 _ d0 d1).mono ?_
  rintro e w3 ⟨rfl, hb3⟩
  have d0 := cell_later hb3 d0
  have d1 := cell_later hb3 d1
  have hb := chain hb hb3
  go_wp2_with fail
  go_ret
  exact ⟨b1, n1, rfl, d0, d1, hb⟩

set_option maxRecDepth 100000 in
set_option maxHeartbeats 1000000 in
theorem normal_12 (b c : Nat) (w : World) (c0 : w.cell? ⟨b, 0, none⟩ = some (.int .i64 1)) (c1 : w.cell? ⟨b, 1, none⟩ = some (.int .i64 2)) :
    Calls Try.prog 20 #[.slice (some ⟨b, 0, none⟩) 2 c] w fun e w' => ∃ b' c' : Nat, e = .returned (.tuple #[.slice (some ⟨b', 0, none⟩) 2 c', .int .i64 0]) ∧ w'.cell? ⟨b', 0, none⟩ = some (.int .i64 1) ∧ w'.cell? ⟨b', 1, none⟩ = some (.int .i64 2) ∧ Below w.heap.size w w' := by
  go_enter Try.func20, Try.ntmps20
  go_wp2_with fail
  refine (may_12 b c _ c0 c1).mono ?_
  rintro e w1 ⟨rfl, rfl⟩
  go_wp2_with fail
  refine (form_12 b c _ c0 c1).mono ?_
  rintro e w2 ⟨b', c', rfl, d0, d1, hb⟩
  go_wp2_with fail
  go_ret2
  exact ⟨b', c', rfl, d0, d1, hb⟩
end Go.Proofs.Ytiadnifbjdnflaa
