/- The law ClausesStores: a round's state. -/
import Derived.Test.YtiadnifbjdnflaaZ8
namespace Go.Proofs.Ytiadnifbjdnflaa
open Go Go.RowKit Go.Maps

theorem below_drewZ (w : World) (n : Nat) : Below w.heap.size w (w.drewN n) := ⟨rfl, rfl, rfl, Nat.le_refl _, fun _ _ => rfl⟩
structure LawSt (W wr : World) (K : Nat → Nat) (O : Nat) (cs ca : List (List Int)) (v6 : Value) (T : Int) : Prop where
  sto : StoC wr K O cs T
  all : Rows wr K 5 v6 ca
  b : Below W.heap.size W wr
  new : ∀ b, K b ≠ 0 → W.heap.size ≤ b
  forms : ∀ c ∈ cs, ∃ l : List LitT, c = formL l ∧ c.length ≤ 30
section
variable {W wr w2 : World} {K K' : Nat → Nat} {O : Nat} {cs ca cs' : List (List Int)} {v6 v' : Value} {T T' : Int} {P : Nat → Prop}
theorem LawSt.only (h : LawSt W wr K O cs ca v6 T) (ho : Only P wr w2) (hP : ∀ b, P b → K b = 0 ∧ W.heap.size ≤ b) : LawSt W w2 K O cs ca v6 T :=
  ⟨h.sto.only ho (fun b hb e => by have := (hP b e).1; omega) (fun _ _ => rfl) (fun k hk => h.sto.fr k (Nat.le_trans ho.size hk)), h.all.only ho (fun b hb e => by have := (hP b e).1; omega) (fun _ _ => rfl) (by decide), h.b.trans (ho.below (fun k e => (hP k e).2) h.b.size), h.new, h.forms⟩
theorem LawSt.later (h : LawSt W wr K O cs ca v6 T) (hb : Below wr.heap.size wr w2) : LawSt W w2 K O cs ca v6 T :=
  h.only (P := fun _ => False) (Only.of_below hb) (fun _ e => e.elim)
theorem LawSt.add (h : LawSt W wr K O cs ca v6 T) (hS : StoC w2 K' O cs' T') (hC : Chain wr K w2 K') (hf : ∀ c ∈ cs', ∃ l : List LitT, c = formL l ∧ c.length ≤ 30) : LawSt W w2 K' O cs' ca v6 T' :=
  ⟨hS, h.all.only hC.only (fun b hb e => by omega) hC.old (by decide), h.b.trans (hC.only.below (fun k e => h.new k (by omega)) h.b.size), fun b hb => by
    by_cases h0 : K b = 0
    · rcases hC.new b h0 with e | ⟨e, _⟩
      · exact absurd e hb
      · exact Nat.le_trans h.b.size e
    · exact h.new b h0, hf⟩
theorem LawSt.push {c : List Int} {p : Option Addr} {z : Nat} {xs : List Value} (h : LawSt W wr K O cs ca v6 T) (h1 : wr.ownsRow 0 22 1 v6 ca.length xs) (h2 : ∀ k, v6.ownBlock = some k → K k = 5)
    (h3 : ∀ i (h : i < ca.length), ∃ (p : Option Addr) (z : Nat), xs[i]? = some (.slice p (ca[i]).length z) ∧ LitsIn wr p (ca[i]).length (fnL ca[i]) ∧ (∀ ad, p = some ad → K ad.block = 5 + 1) ∧ (p = none → (ca[i]).length = 0 ∧ z = 0))
    (hp : LitsIn wr p c.length (fnL c)) (hf : ∀ ad, p = some ad → K ad.block = 0 ∧ ad.block < wr.heap.size) (hw : ∀ ad, p = some ad → W.heap.size ≤ ad.block) (hn : p = none → c.length = 0 ∧ z = 0)
    (own : w2.ownsRow 0 22 1 v' (ca.length + 1) (xs ++ [.slice p c.length z])) (hg : wr.grownBy w2 v6.ownBlock) (hloc : v'.ownBlock = v6.ownBlock ∨ v'.ownBlock = some wr.heap.size) :
    ∃ K', LawSt W w2 K' O cs (ca ++ [c]) v' T := by
  obtain ⟨K', r, g1, g2, g3, o⟩ := Rows.push (by decide) h1 h2 h3 (by have := h1.1; omega) hp hf hn h.sto.fr own hg hloc
  refine ⟨K', h.sto.only o (fun b hb e => by have e : K b = 5 := e; omega) g1 g3, r, h.b.trans (o.below (fun k e => h.new k (by have e : K k = 5 := e; omega)) h.b.size), fun b hb => ?_, h.forms⟩
  by_cases h0 : K b = 0
  · rcases g2 b h0 with e | ⟨_, e⟩ | ⟨_, ad, e, rfl⟩
    · exact absurd e hb
    · exact Nat.le_trans h.b.size e
    · exact hw ad e
  · exact h.new b h0
theorem LawSt.len (h : LawSt W wr K O cs ca v6 T) : ∃ (p : Option Addr) (z : Nat), v6 = .slice p ca.length z := h.all.shape
end
end Go.Proofs.Ytiadnifbjdnflaa
