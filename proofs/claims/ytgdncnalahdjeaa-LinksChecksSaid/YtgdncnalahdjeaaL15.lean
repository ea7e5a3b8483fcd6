/- The checker: the closing link in one; links.May in one; a run over the links. -/
import Derived.Test.YtgdncnalahdjeaaL14
import Derived.Test.YtgdncnalahdjeaaL2
namespace Go.Proofs.Ytgdncnalahdjeaa
open Go Go.RowKit

theorem closes_quiet {c : Nat} {T M : Option Nat} {p : Option Addr} {n cv : Nat} {q : Option Addr} {m ca : Nat} {ts : List (Int × Int)} {ls : List Int} {w : World} (h : CheckerAt w c T M p n cv q m ca ts ls) {args : Array Value} {b b' : Bool} (hbb : b = b')
    (hc : Calls Try.prog 60 args w fun e w' => e = .returned (.bool b) ∧ Below w.heap.size w w') :
    Calls Try.prog 60 args w fun e w' => e = .returned (.bool b') ∧ (∃ M', CheckerAt w' c T M' p n cv q m ca ts ls) ∧ Below c w w' :=
  hc.mono (fun _ _ hr => ⟨by rw [hr.1, hbb], ⟨M, h.later hr.2⟩, hr.2.mono (Nat.le_of_lt h.lt)⟩)
theorem closes_any (c : Nat) (T M : Option Nat) (p : Option Addr) (n cv : Nat) (q : Option Addr) (m ca : Nat) (ts : List (Int × Int)) (ls : List Int) (K Tt A B I J : Int) (P : Option Addr) (L C : Nat) (w : World) (h : CheckerAt w c T M p n cv q m ca ts ls) (hl : ts.length ≤ 1000000) (hll : ls.length ≤ 1000000) (w0 : World) (hw : Below w0.heap.size w0 w) (d : VD) (a : AD) (g : Given w0 c p n d q m a) (l0 : -9223372036854775808 ≤ Tt) (l1 : Tt ≤ 9223372036854775807) :
    Calls Try.prog 60 #[.pointer (some ⟨c, 0, none⟩), linkV K Tt A B I J P L C] w fun e w' => e = .returned (.bool (closeL m a ts K Tt I)) ∧ (∃ M', CheckerAt w' c T M' p n cv q m ca ts (closeT ts K Tt I ls)) ∧ Below c w w' := by
  have e := g.le
  cases hr : (atL ts I).2 with
  | false =>
    have h1 : closeL m a ts K Tt I = false := by unfold closeL; rw [hr]; rfl
    have h2 : closeT ts K Tt I ls = ls := by unfold closeT; simp [hr]
    rw [h2]
    exact closes_quiet h h1.symm (closes_at c T M p n cv q m ca ts ls K Tt A B I J P L C w h hl hr)
  | true =>
    by_cases k7 : K = 7
    · subst k7
      have h2 : closeT ts 7 Tt I ls = ls := by unfold closeT; simp
      rw [h2]
      exact closes_quiet h (by unfold closeL; rw [hr]; simp) (closes_clash c T M p n cv q m ca ts ls Tt A B I J P L C w h hl hr)
    by_cases k6 : K = 6
    · subst k6
      have h2 : closeT ts 6 Tt I ls = ls ++ [Tt] := by unfold closeT; simp [hr]
      have h1 : closeL m a ts 6 Tt I = ((okL m Tt && decide (Tt < 0) && a.K (Tt.natAbs - 1) == 1) && ((atL ts I).1.1 == a.A (Tt.natAbs - 1) && (atL ts I).1.2 == a.B (Tt.natAbs - 1))) := by unfold closeL; rw [hr]; rfl
      rw [h2, h1]
      exact closes_against c T M p n cv q m ca ts ls Tt A B I J P L C w h hl hll a (fun W hW => g.at_.later (hw.trans (hW.mono e))) g.hm l0 l1 hr
    · have h1 : closeL m a ts K Tt I = false := by unfold closeL; simp [k7, k6]
      have h2 : closeT ts K Tt I ls = ls := by unfold closeT; simp [k6]
      rw [h2]
      exact closes_quiet h h1.symm (closes_other c T M p n cv q m ca ts ls K Tt A B I J P L C w h hl hr k7 k6)
theorem linksMay_any (p : Option Addr) (n c : Nat) (d : VD) (q : Option Addr) (m e : Nat) (a : AD) (w : World) (hd : VertsIn w p n d) (hn : n ≤ 9223372036854775807) (ha : AtomsIn w q m a) (hm : m ≤ 9223372036854775807) :
    Calls Try.prog 39 #[.slice p n c, .slice q m e] w fun e w' => e = .returned (.bool (mayB n d m a)) ∧ Below w.heap.size w w' := by
  by_cases h : n < 2 ∨ 20000 < n ∨ d.F 0 ≠ -1 ∨ d.F 1 ≠ -2
  · exact may_no p n c d q m e a w hd hn h
  · exact may_yes p n c d q m e a w hd (by omega) (by omega) (by omega) (by omega) ha hm
/-- what is concluded, and which literals are named, behind the first links. -/
def goL (n : Nat) (d : VD) (m : Nat) (a : AD) (ld : LD) : Nat → List (Int × Int) × List Int
  | 0 => ([], [])
  | k + 1 => ((goL n d m a ld k).1 ++ [(conclL n d m a (goL n d m a ld k).1 (ld.K k) (ld.T k) (ld.A k) (ld.B k) (ld.I k) (ld.J k) (ld.L k) (ld.V k)).1], litsT (ld.K k) (ld.T k) (goL n d m a ld k).2)
/-- does a link conclude? -/
def okAt (n : Nat) (d : VD) (m : Nat) (a : AD) (ld : LD) (k : Nat) : Bool := (conclL n d m a (goL n d m a ld k).1 (ld.K k) (ld.T k) (ld.A k) (ld.B k) (ld.I k) (ld.J k) (ld.L k) (ld.V k)).2
theorem goL_len (n : Nat) (d : VD) (m : Nat) (a : AD) (ld : LD) : ∀ k, (goL n d m a ld k).1.length = k ∧ (goL n d m a ld k).2.length ≤ k
  | 0 => ⟨rfl, Nat.le_refl _⟩
  | k + 1 => by
    have h := goL_len n d m a ld k
    refine ⟨by show (_ ++ [_]).length = _; rw [List.length_append, h.1]; rfl, ?_⟩
    show (litsT _ _ _).length ≤ _
    unfold litsT
    by_cases hk : ld.K k = 1
    · rw [if_pos hk, List.length_append]
      have := h.2
      show _ + 1 ≤ _
      omega
    · rw [if_neg hk]; have := h.2; omega
theorem closeT_len (ts : List (Int × Int)) (K Tt I : Int) (ls : List Int) : (closeT ts K Tt I ls).length ≤ ls.length + 1 := by
  unfold closeT
  split
  · simp
  · omega
end Go.Proofs.Ytgdncnalahdjeaa
