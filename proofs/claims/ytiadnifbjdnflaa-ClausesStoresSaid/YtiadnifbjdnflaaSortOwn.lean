/- slices.SortFunc of a row of literals of the call's own. -/
import Derived.Test.YtiadnifbjdnflaaLay
import Derived.Sort.OwnSortedInts
namespace Go.Proofs.Ytiadnifbjdnflaa
open Go Go.RowKit Go.Proofs Go.Sort

/-- the numbers of literals. -/
def nums (l : List LitT) : List Int := l.map (·.1)
theorem putCells_val (off : Nat) (d : Array LitT) (cur : Array Value) : putCells encL off d cur = putCells (Value.int .i64) off (d.map (·.1)) cur := by
  apply Array.ext_getElem?
  intro i
  simp only [putCells, Array.size_map, Array.getElem?_mapIdx]
  cases hc : cur[i]? with
  | none => rfl
  | some v =>
    simp only [Option.map_some]
    by_cases h : off ≤ i ∧ i < off + d.size
    · rw [if_pos h, if_pos h]
      have hi : i - off < d.size := by omega
      simp [encL, getElem!_pos, hi]
    · rw [if_neg h, if_neg h]
theorem sortWorld_val (w : World) (blk off n : Nat) (l : List LitT) (os : Array Obj) : sortWorld encL w blk off n l.toArray os = grow (putRow (Value.int .i64) (Sort.ahead w n) blk off (nums l).toArray) os := by
  unfold sortWorld putRow
  rw [show (putCells encL off l.toArray) = putCells (Value.int .i64) off (nums l).toArray from funext fun cur => by rw [putCells_val]; simp [nums]]
theorem sortL_len (l : List LitT) : (sortL l).length = l.length := by simp [sortL]
theorem holdsL {w : World} {g : Nat} {l : List LitT} (h : Holds (Value.int .i64) w g 0 (nums l).toArray) : Holds encL w g 0 l.toArray := by
  intro j hj
  have hj' : j < l.length := by simpa using hj
  obtain ⟨h1, h2⟩ := h j (by simpa [nums] using hj')
  refine ⟨?_, h2⟩
  rw [h1]
  simp [encL, nums, hj']
theorem sort_own {w : World} {base n : Nat} {v : Value} (l : List LitT) (hl : l.length = n) (h : w.ownsRow base 30 1 v n ((nums l).map (Value.int .i64))) (hn : n < 4611686018427387904) :
    Calls Try.prog 63 #[v, .func (.func 64) #[] #[]] w fun e w' => e = .returned (.tuple #[]) ∧ w'.ownsRow base 30 1 v n ((nums (sortL l)).map (Value.int .i64)) ∧ Below base w w' := by
  rcases h.2 with ⟨rfl, h0⟩ | ⟨g, cap, cur, rfl, hg, hh, hc, hm, hcs, ht⟩
  · subst h0
    have : l = [] := List.length_eq_zero_iff.1 hl
    subst this
    refine (sort_none none 0 w).mono ?_
    rintro e w' ⟨rfl, rfl⟩
    exact ⟨rfl, by rw [show sortL [] = [] from List.length_eq_zero_iff.1 (sortL_len [])]; exact h, Below.refl _ _⟩
  · subst hl
    have hlen : (nums l).length = l.length := by simp [nums]
    have hH := holds_of_blockI (ss := nums l) hh (by rw [hlen, ← ht, Nat.mul_one])
    have hblk : g < w.heap.size := (Array.getElem?_eq_some_iff.1 hh).1
    have hS := sort_lits g 0 cap l.toArray w (holdsL hH) hblk (by simpa using hn)
    simp only [List.size_toArray] at hS
    refine hS.mono ?_
    rintro e w' ⟨rfl, m, os, rfl⟩
    rw [sortWorld_val]
    refine ⟨rfl, ?_, ?_⟩
    · have := ownsRow_sortedI (base := base) (n := m) (os := os) (ss := nums l) (ts := nums (sortL l)) (by simp [nums, sortL_len]) hg hh (by rw [hlen]; exact hc) hm hcs
      rw [hlen] at this
      exact this
    · have := (Below.refl base w).grown (grownBy_sortedI (w := w) (g := g) (n := m) (os := os) (nums (sortL l)).toArray) (by omega) (fun k hk => by cases hk; exact hg)
      exact this
end Go.Proofs.Ytiadnifbjdnflaa
