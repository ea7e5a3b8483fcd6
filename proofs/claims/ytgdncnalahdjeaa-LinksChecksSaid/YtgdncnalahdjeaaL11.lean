/- The checker: what a link concludes, in one. -/
import Derived.Test.YtgdncnalahdjeaaL10
namespace Go.Proofs.Ytgdncnalahdjeaa
open Go Go.RowKit

/-- what is given lies below the checker. -/
structure Given (w0 : World) (c : Nat) (p : Option Addr) (n : Nat) (d : VD) (q : Option Addr) (m : Nat) (a : AD) : Prop where
  le : w0.heap.size ≤ c
  vs : VertsIn w0 p n d
  at_ : AtomsIn w0 q m a
  hn : n ≤ 20000
  hm : m ≤ 1000000
/-- the literals of a list of links that are given. -/
def litsT (K Tt : Int) (ls : List Int) : List Int := if K = 1 then ls ++ [Tt] else ls
theorem concl_quiet {c : Nat} {T M : Option Nat} {p : Option Addr} {n cv : Nat} {q : Option Addr} {m ca : Nat} {ts : List (Int × Int)} {ls : List Int} {w : World} (h : CheckerAt w c T M p n cv q m ca ts ls) {args : Array Value} {x y : Int} {b : Bool}
    (hc : Calls Try.prog 84 args w fun e w' => e = .returned (.tuple #[.agg #[.int .i64 x, .int .i64 y], .bool b]) ∧ Below w.heap.size w w') :
    Calls Try.prog 84 args w fun e w' => e = .returned (.tuple #[.agg #[.int .i64 x, .int .i64 y], .bool b]) ∧ (∃ M', CheckerAt w' c T M' p n cv q m ca ts ls) ∧ Below c w w' :=
  hc.mono (fun _ _ hr => ⟨hr.1, ⟨M, h.later hr.2⟩, hr.2.mono (Nat.le_of_lt h.lt)⟩)
theorem concl_any (c : Nat) (T M : Option Nat) (p : Option Addr) (n cv : Nat) (q : Option Addr) (m ca : Nat) (ts : List (Int × Int)) (ls : List Int) (K Tt A B I J : Int) (P : Option Addr) (L C : Nat) (w : World) (h : CheckerAt w c T M p n cv q m ca ts ls) (hl : ts.length ≤ 1000000) (hll : ls.length ≤ 1000000) (w0 : World) (hw : Below w0.heap.size w0 w) (d : VD) (a : AD) (g : Given w0 c p n d q m a) (V : Nat → Int) (hV : LitsIn w0 P L V) (hL : L ≤ 9223372036854775807) (l0 : -9223372036854775808 ≤ Tt) (l1 : Tt ≤ 9223372036854775807) :
    Calls Try.prog 84 #[.pointer (some ⟨c, 0, none⟩), linkV K Tt A B I J P L C] w fun e w' => e = .returned (.tuple #[.agg #[.int .i64 (conclL n d m a ts K Tt A B I J L V).1.1, .int .i64 (conclL n d m a ts K Tt A B I J L V).1.2], .bool (conclL n d m a ts K Tt A B I J L V).2]) ∧ (∃ M', CheckerAt w' c T M' p n cv q m ca ts (litsT K Tt ls)) ∧ Below c w w' := by
  have e := g.le
  by_cases k1 : K = 1
  · subst k1
    have hc : conclL n d m a ts 1 Tt A B I J L V = toldL m a Tt := by unfold conclL; rfl
    rw [hc, show litsT 1 Tt ls = ls ++ [Tt] from rfl]
    exact concl_given c T M p n cv q m ca ts ls Tt A B I J P L C w h hl a (fun W hW => g.at_.later (hw.trans (hW.mono e))) g.hm l0 l1 hll
  · have hl' : litsT K Tt ls = ls := by unfold litsT; rw [if_neg k1]
    rw [hl']
    apply concl_quiet h
    by_cases k2 : K = 2
    · subst k2; exact concl_same c T M p n cv q m ca ts ls Tt A B I J P L C w h hl
    by_cases k3 : K = 3
    · subst k3; exact concl_turn c T M p n cv q m ca ts ls Tt A B I J P L C w h hl
    by_cases k4 : K = 4
    · subst k4; exact concl_then c T M p n cv q m ca ts ls Tt A B I J P L C w h hl
    by_cases k5 : K = 5
    · subst k5; exact concl_apply c T M p n cv q m ca ts ls Tt A B I J P L C w h hl d (g.vs.later hw) g.hn V (hV.later hw) hL
    · have hc : conclL n d m a ts K Tt A B I J L V = ((0, 0), false) := by unfold conclL; simp [k1, k2, k3, k4, k5]
      rw [hc]
      exact concl_other c T M p n cv q m ca ts ls K Tt A B I J P L C w h hl ⟨k1, k2, k3, k4, k5⟩
end Go.Proofs.Ytgdncnalahdjeaa
