/- Whether a step may be: the program's answer is the plain one. -/
import Derived.Test.YtookoagcmejkpaaGreatDoorS11
import Derived.Test.YtookoagcmejkpaaGreatDoorS12
namespace Go.Proofs.YtookoagcmejkpaaGreatDoor
open Go Go.RowKit Go.Maps
theorem qs8 (x : Stp) (p : Option Addr) (c : Nat) (q : Option Addr) (d : Nat) (W : World) (hk0 : 0 <= x.k) (hk1 : x.k <= 255) (h1 : IntsIn W p x.lits) (h2 : LksIn W q x.links) (hkd : KdL x.links) (n1 : x.lits.length <= 9223372036854775807) (n2 : x.links.length <= 9223372036854775807) :
  Calls Tryz.prog 11 #[stV x p c q d] W fun e w' => e = .returned (.bool (qau x)) /\ Below W.heap.size W w' := by
 obtain ⟨k, lits, links, a, b⟩ := x;simp only at hk0 hk1 h1 h2 hkd n1 n2;simp only [stV]
 have e0 : ∀ {α : Type} (l : List α) (f : α -> Bool), l.length = 0 -> l.all f = true := fun l f h => by
  rw [List.eq_nil_of_length_eq_zero h]; rfl
 by_cases k1 : k = 1
 ·subst k1
  refine qgp 1 a b p c lits.length q d links.length qb5 lits links _ W hk0 hk1 rfl h1 h2 hkd rfl rfl n1 n2 ?_;unfold qau fldC;simp only [true_or, if_true, Bool.true_or, Bool.and_true, Bool.false_or, Bool.false_eq_true, if_false]
  by_cases hm : links.length = 0
  ·rw [e0 links qaz hm, hm]; simp [Bool.and_comm, Bool.and_left_comm]
  ·simp [hm]
 by_cases k3 : k = 3
 ·subst k3
  refine qgp 3 a b p c lits.length q d links.length qcq lits links _ W hk0 hk1 rfl h1 h2 hkd rfl rfl n1 n2 ?_;unfold qau fldC;simp only [or_true, if_true, Bool.true_or, Bool.and_true, Bool.false_or, Bool.false_eq_true, if_false]
  by_cases hm : links.length = 0
  ·rw [e0 links qaz hm, hm]; simp [Bool.and_comm, Bool.and_left_comm]
  ·simp [hm]
 by_cases k2 : k = 2
 ·subst k2
  refine qjm 2 a b p c lits.length q d links.length qcp lits links _ W hk0 hk1 rfl h1 h2 hkd rfl rfl n1 n2 ?_;unfold qau fldC
  by_cases hm : lits.length = 0
  ·rw [e0 lits litB hm, hm]; simp [Bool.and_comm, Bool.and_left_comm]
  ·simp [hm]
 by_cases k4 : k = 4
 ·subst k4
  refine qlu 4 a b p c lits.length q d links.length qew lits links _ W hk0 hk1 rfl h1 h2 hkd rfl rfl n1 n2 ?_;unfold qau fldC
  by_cases hm : lits.length = 0
  ·by_cases hn : links.length = 0
   ·rw [e0 lits litB hm, e0 links qaz hn, hm, hn]; simp
   ·simp [hn]
  ·simp [hm]
 have hz : qau ⟨k, lits, links, a, b⟩ = false := by unfold qau; simp [k1, k2, k3, k4]
 rw [hz];exact qlv k a b p c lits.length q d links.length W hk0 hk1 (by unfold qem; rw [if_neg k1, if_neg k2, if_neg k3, if_neg k4])
end Go.Proofs.YtookoagcmejkpaaGreatDoor
