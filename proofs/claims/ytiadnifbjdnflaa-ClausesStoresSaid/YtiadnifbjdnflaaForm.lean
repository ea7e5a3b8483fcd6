/- clauses.normal and clauses.Normal of any list. -/
import Derived.Test.YtiadnifbjdnflaaSortOwn
namespace Go.Proofs.Ytiadnifbjdnflaa
open Go Go.RowKit Go.Proofs Go.Sort

set_option maxRecDepth 100000 in
set_option maxHeartbeats 800000 in
theorem compact_none (p : Option Addr) (c : Nat) (w : World) : Calls Try.prog 67 #[.slice p 0 c] w fun e w' => e = .returned (.slice p 0 c) ∧ w' = w := by
  go_enter Try.func67, Try.ntmps67
  go_wp2_with fail
  go_ret
  exact ⟨rfl, rfl⟩
/-- the normal form. -/
def formL (l : List LitT) : List Int := Lib.compact (nums (sortL l))
theorem compact_own {w : World} {base n : Nat} {v : Value} (zs : List Int) (hl : zs.length = n) (h : w.ownsRow base 30 1 v n (zs.map (Value.int .i64))) (hn : n < 4611686018427387904) :
    Calls Try.prog 67 #[v] w fun e w' => ∃ v', e = .returned v' ∧ w'.ownsRow base 30 1 v' (Lib.compact zs).length ((Lib.compact zs).map (Value.int .i64)) ∧ (v' = .slice none 0 0 ↔ v = .slice none 0 0) ∧ Below base w w' := by
  rcases h.2 with ⟨rfl, h0⟩ | ⟨g, cap, cur, rfl, hg, hh, hc, hm, hcs, ht⟩
  · subst h0
    have : zs = [] := List.length_eq_zero_iff.1 hl
    subst this
    refine (compact_none none 0 w).mono ?_
    rintro e w' ⟨rfl, rfl⟩
    exact ⟨_, rfl, h, Iff.rfl, Below.refl _ _⟩
  · subst hl
    have hH := holds_of_blockI (ss := zs) hh (by rw [← ht, Nat.mul_one])
    have hS := compact_lits g 0 cap zs.toArray w hH (by simp; omega) (by simpa using hc)
    simp only [List.size_toArray] at hS
    have hle : (Lib.compactUpTo zs.toArray zs.length).length ≤ zs.length := by
      unfold Lib.compactUpTo
      rw [List.length_map]
      exact Nat.le_trans (List.length_filter_le _ _) (by simp)
    refine hS.mono ?_
    rintro e w' ⟨rfl, m, rfl⟩
    refine ⟨_, rfl, ?_, by simp, ?_⟩
    · have hr := ownsRow_sortedI (base := base) (n := m) (os := #[]) (ss := zs) (ts := Lib.compactUpTo zs.toArray zs.length ++ List.replicate (zs.length - (Lib.compactUpTo zs.toArray zs.length).length) 0) (by simp; omega) hg hh hc hm hcs
      rw [grow_empty] at hr
      rcases hr.2 with ⟨hx, _⟩ | ⟨g', cap', cur', hv, hg', hh', hc', hm', hcs', ht'⟩
      · cases hx
      · cases hv
        refine ⟨by simp [Lib.compact], .inr ⟨g, cap, cur', rfl, hg', hh', Nat.le_trans hle hc', hm', hcs', ?_⟩⟩
        have := congrArg (List.take (Lib.compactUpTo zs.toArray zs.length).length) ht'
        rw [List.take_take, Nat.mul_one, Nat.min_eq_left hle] at this
        unfold Lib.compact
        rw [Nat.mul_one, this]
        simp [List.map_append]
    · have := (Below.refl base w).grown (grownBy_sortedI (w := w) (g := g) (n := m) (os := #[]) (Lib.compactUpTo zs.toArray zs.length ++ List.replicate (zs.length - (Lib.compactUpTo zs.toArray zs.length).length) 0).toArray) (by have := (Array.getElem?_eq_some_iff.1 hh).1; omega) (fun k hk => by cases hk; exact hg)
      rw [grow_empty] at this
      exact this
end Go.Proofs.Ytiadnifbjdnflaa
