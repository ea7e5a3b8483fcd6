/- Trees, and trees in memory. -/
import Derived.Test.YtjhaccpljgdlpaaGreatM0
namespace Go.Proofs.YtjhaccpljgdlpaaGreat
open Go Go.RowKit

/-- trees, one behind the other: the first one's list, kind, text, place and kids; the rest. -/
inductive Fo where
  | nil : Fo
  | cons (l : Bool) (k : Int) (s : ByteArray) (a : Int) (kids rest : Fo) : Fo
namespace Fo
def len : Fo → Nat
  | .nil => 0
  | .cons _ _ _ _ _ r => r.len + 1
def size : Fo → Nat
  | .nil => 0
  | .cons _ _ _ _ x r => x.size + r.size + 1
/-- one more tree at the end. -/
def snoc : Fo → Bool → Int → ByteArray → Int → Fo → Fo
  | .nil, l, k, s, a, x => .cons l k s a x .nil
  | .cons l0 k0 s0 a0 x0 r, l, k, s, a, x => .cons l0 k0 s0 a0 x0 (r.snoc l k s a x)
def app : Fo → Fo → Fo
  | .nil, g => g
  | .cons l k s a x r, g => .cons l k s a x (r.app g)
set_option maxRecDepth 100000 in
theorem len_snoc (l : Bool) (k : Int) (s : ByteArray) (a : Int) (x : Fo) : ∀ f : Fo, (f.snoc l k s a x).len = f.len + 1
  | .nil => rfl
  | .cons _ _ _ _ _ r => by simp only [snoc, len, len_snoc l k s a x r]
set_option maxRecDepth 100000 in
theorem app_nil : ∀ f : Fo, f.app .nil = f
  | .nil => rfl
  | .cons _ _ _ _ _ r => by simp only [app, app_nil r]
set_option maxRecDepth 100000 in
theorem snoc_app (l : Bool) (k : Int) (s : ByteArray) (a : Int) (x g : Fo) : ∀ f : Fo, (f.snoc l k s a x).app g = f.app (.cons l k s a x g)
  | .nil => rfl
  | .cons _ _ _ _ _ r => by simp only [app, snoc, snoc_app l k s a x g r]
end Fo
/-- alike, but for the places. -/
def sameF : Fo → Fo → Bool
  | .nil, .nil => true
  | .cons l k s _ x r, .cons l' k' s' _ x' r' => (decide (l = l') && decide (k = k') && decide (s = s') && decide (x.len = x'.len)) && sameF x x' && sameF r r'
  | _, _ => false
def sameT (l : Bool) (k : Int) (s : ByteArray) (x : Fo) (l' : Bool) (k' : Int) (s' : ByteArray) (x' : Fo) : Bool := (decide (l = l') && decide (k = k') && decide (s = s') && decide (x.len = x'.len)) && sameF x x'
set_option maxRecDepth 100000 in
theorem sameF_refl : ∀ f : Fo, sameF f f = true
  | .nil => rfl
  | .cons _ _ _ _ x r => by simp [sameF, sameF_refl x, sameF_refl r]
set_option maxRecDepth 100000 in
theorem sameT_refl (l : Bool) (k : Int) (s : ByteArray) (x : Fo) : sameT l k s x l k s x = true := by simp [sameT, sameF_refl]
/-- the trees in memory, from a place on, in blocks of a kind. -/
def FoIn (W : World) (F : Nat → Prop) : Fo → Option Addr → Prop
  | .nil, _ => True
  | .cons l k s a x r, p => ∃ b off, p = some ⟨b, off, none⟩ ∧ F b ∧ W.cell? ⟨b, off, none⟩ = some (.bool l) ∧ W.cell? ⟨b, off + 1, none⟩ = some (.int .u8 k) ∧ W.cell? ⟨b, off + 2, none⟩ = some (.string s) ∧ W.cell? ⟨b, off + 3, none⟩ = some (.int .i64 a) ∧
    (∃ q c, W.cell? ⟨b, off + 4, none⟩ = some (.slice q x.len c) ∧ x.len ≤ c ∧ x.len ≤ 281474976710656 ∧ FoIn W F x q) ∧ FoIn W F r (some ⟨b, off + 5, none⟩)
set_option maxRecDepth 100000 in
theorem FoIn.move {W W' : World} {F F' : Nat → Prop} (hc : ∀ b o v, F b → W.cell? ⟨b, o, none⟩ = some v → W'.cell? ⟨b, o, none⟩ = some v ∧ F' b) : ∀ (f : Fo) (p : Option Addr), FoIn W F f p → FoIn W' F' f p
  | .nil, _, _ => trivial
  | .cons l k s a x r, p, h => by
    obtain ⟨b, off, e, hF, h0, h1, h2, h3, ⟨q, c, h4, hn, hm, hx⟩, hr⟩ := h
    exact ⟨b, off, e, (hc b _ _ hF h0).2, (hc b _ _ hF h0).1, (hc b _ _ hF h1).1, (hc b _ _ hF h2).1, (hc b _ _ hF h3).1, ⟨q, c, (hc b _ _ hF h4).1, hn, hm, FoIn.move hc x q hx⟩, FoIn.move hc r _ hr⟩
set_option maxRecDepth 100000 in
theorem FoIn.later {W W' : World} {F : Nat → Prop} {f : Fo} {p : Option Addr} (h : FoIn W F f p) (hb : Below W.heap.size W W') : FoIn W' F f p :=
  FoIn.move (fun _ _ _ hF hv => ⟨cell_later hb hv, hF⟩) f p h
set_option maxRecDepth 100000 in
theorem FoIn.only {W W' : World} {F T : Nat → Prop} {f : Fo} {p : Option Addr} (h : FoIn W F f p) (ho : Only T W W') (hn : ∀ b, F b → ¬ T b) : FoIn W' F f p :=
  FoIn.move (fun _ _ _ hF hv => ⟨ho.cell hv (hn _ hF), hF⟩) f p h
set_option maxRecDepth 100000 in
theorem FoIn.mono {W : World} {F F' : Nat → Prop} {f : Fo} {p : Option Addr} (h : FoIn W F f p) (hn : ∀ b, F b → b < W.heap.size → F' b) : FoIn W F' f p :=
  FoIn.move (fun b _ _ hF hv => ⟨hv, hn b hF (World.block_lt_of_cell? W _ hv)⟩) f p h
/-- a tree's value. -/
def trV (l : Bool) (k : Int) (s : ByteArray) (a : Int) (q : Option Addr) (n c : Nat) : Value := .agg #[.bool l, .int .u8 k, .string s, .int .i64 a, .slice q n c]
/-- the place of the i-th tree. -/
def pl (q : Option Addr) (i : Nat) : Option Addr := q.map fun a => ⟨a.block, a.off + i * 5, none⟩
set_option maxRecDepth 100000 in
theorem pl_zero {W : World} {F : Nat → Prop} {f : Fo} {q : Option Addr} (h : FoIn W F f q) : FoIn W F f (pl q 0) := by
  cases f with
  | nil => trivial
  | cons l k s a x r =>
    obtain ⟨b, off, rfl, hr⟩ := h
    exact ⟨b, off, by simp [pl], hr⟩
set_option maxRecDepth 100000 in
theorem FoIn.head {W : World} {F : Nat → Prop} {l : Bool} {k : Int} {s : ByteArray} {a : Int} {x r : Fo} {b off i : Nat} (h : FoIn W F (.cons l k s a x r) (pl (some ⟨b, off, none⟩) i)) :
    F b ∧ W.cell? ⟨b, off + i * 5, none⟩ = some (.bool l) ∧ W.cell? ⟨b, off + i * 5 + 1, none⟩ = some (.int .u8 k) ∧ W.cell? ⟨b, off + i * 5 + 2, none⟩ = some (.string s) ∧ W.cell? ⟨b, off + i * 5 + 3, none⟩ = some (.int .i64 a) ∧
    (∃ q c, W.cell? ⟨b, off + i * 5 + 4, none⟩ = some (.slice q x.len c) ∧ x.len ≤ c ∧ x.len ≤ 281474976710656 ∧ FoIn W F x q) ∧ FoIn W F r (pl (some ⟨b, off, none⟩) (i + 1)) := by
  obtain ⟨b', off', e, hF, h0, h1, h2, h3, h4, h5⟩ := h
  simp only [pl, Option.map_some, Option.some.injEq, Addr.mk.injEq] at e
  obtain ⟨rfl, rfl, _⟩ := e
  refine ⟨hF, h0, h1, h2, h3, h4, ?_⟩
  have e2 : pl (some ⟨b, off, none⟩) (i + 1) = some ⟨b, off + i * 5 + 5, none⟩ := by
    simp only [pl, Option.map_some, Option.some.injEq, Addr.mk.injEq]; exact ⟨trivial, by omega, trivial⟩
  rw [e2]; exact h5
set_option maxRecDepth 100000 in
theorem FoIn.some {W : World} {F : Nat → Prop} {f : Fo} {q : Option Addr} (h : FoIn W F f q) (h0 : 0 < f.len) : ∃ b off, q = some ⟨b, off, none⟩ := by
  cases f with
  | nil => exact absurd h0 (by decide)
  | cons l k s a x r =>
    obtain ⟨b, off, rfl, _⟩ := h
    exact ⟨b, off, rfl⟩
end Go.Proofs.YtjhaccpljgdlpaaGreat

