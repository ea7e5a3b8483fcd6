/- Tokens in memory; known; Same of the same. -/
import Derived.Test.YtdompkenblnjjaaGreatR3
import Derived.Lib.SlBytesConst
namespace Go.Proofs.YtdompkenblnjjaaGreat
open Go Go.RowKit

/-- tokens in memory, one behind the other. -/
def TksIn (W : World) (p : Option Addr) (l : List Tk) : Prop := ∀ i (h : i < l.length), ∃ b off, p = some ⟨b, off, none⟩ ∧ W.cell? ⟨b, off + i * 3, none⟩ = some (.int .u8 (l[i].kind : Int)) ∧ W.cell? ⟨b, off + i * 3 + 1, none⟩ = some (.string ⟨l[i].text.toArray⟩) ∧ W.cell? ⟨b, off + i * 3 + 2, none⟩ = some (.int .i64 (l[i].at_ : Int))
set_option maxRecDepth 100000 in
theorem TksIn.later {W W' : World} {p : Option Addr} {l : List Tk} (h : TksIn W p l) (hb : Below W.heap.size W W') : TksIn W' p l := fun i hi => by
  obtain ⟨b, off, e, h1, h2, h3⟩ := h i hi
  exact ⟨b, off, e, cell_later hb h1, cell_later hb h2, cell_later hb h3⟩
set_option maxRecDepth 100000 in
theorem TksIn.take {W : World} {p : Option Addr} {l : List Tk} (h : TksIn W p l) (k : Nat) : TksIn W p (l.take k) := fun i hi => by
  have hi' : i < l.length := by simp at hi; omega
  have := h i hi'
  simpa using this
set_option maxRecDepth 100000 in
theorem own_cell3 {w : World} {base n c : Nat} {e : TypeId} {g : Nat} {xs : List Value} (h : w.ownsRow base e 3 (.slice (some ⟨g, 0, none⟩) n c) n xs) (i : Nat) (u : Value) (hu : xs[i]? = some u) : w.cell? ⟨g, i, none⟩ = some u ∧ w.frozen? ⟨g, i, none⟩ = false := by
  obtain ⟨h0, ⟨h1, _⟩ | ⟨g', cap, cur, hv, hg, hh, hn, hm, hs, ht⟩⟩ := h
  · cases h1
  · cases hv
    have hlt := (List.getElem?_eq_some_iff.1 hu).1
    rw [← ht, List.getElem?_take_of_lt (by omega)] at hu
    have e' : cur[i]? = some u := by simpa using hu
    exact ⟨by simp [World.cell?, hh, e'], by simp [World.frozen?, hh]⟩
set_option maxRecDepth 100000 in
theorem rowT_get : ∀ (l : List Tk) (i : Nat) (h : i < l.length), (rowT l)[i * 3]? = some (.int .u8 (l[i].kind : Int)) ∧ (rowT l)[i * 3 + 1]? = some (.string ⟨l[i].text.toArray⟩) ∧ (rowT l)[i * 3 + 2]? = some (.int .i64 (l[i].at_ : Int))
  | [], i, h => by simp at h
  | t :: l, 0, h => by simp [rowT, tkV]
  | t :: l, i + 1, h => by
    have := rowT_get l i (by simpa using h)
    have e : rowT (t :: l) = tkV t ++ rowT l := rfl
    rw [e]
    have hl : (tkV t).length = 3 := rfl
    refine ⟨?_, ?_, ?_⟩
    · rw [List.getElem?_append_right (by omega), hl, show (i + 1) * 3 - 3 = i * 3 by omega]; exact this.1
    · rw [List.getElem?_append_right (by omega), hl, show (i + 1) * 3 + 1 - 3 = i * 3 + 1 by omega]; exact this.2.1
    · rw [List.getElem?_append_right (by omega), hl, show (i + 1) * 3 + 2 - 3 = i * 3 + 2 by omega]; exact this.2.2
set_option maxRecDepth 100000 in
theorem own_tks {w : World} {base c : Nat} {p : Option Addr} {l : List Tk} (h : w.ownsRow base 44 3 (.slice p l.length c) l.length (rowT l)) : TksIn w p l := fun i hi => by
  have hg := rowT_get l i hi
  obtain ⟨g, rfl⟩ : ∃ g, p = some ⟨g, 0, none⟩ := by
    rcases h.2 with ⟨e, _⟩ | ⟨g, _, _, e, _⟩
    · injection e with _ e2 _; omega
    · injection e with e2 _ _; exact ⟨g, e2⟩
  refine ⟨g, 0, rfl, ?_, ?_, ?_⟩
  · rw [Nat.zero_add]; exact (own_cell3 h _ _ hg.1).1
  · rw [Nat.zero_add]; exact (own_cell3 h _ _ hg.2.1).1
  · rw [Nat.zero_add]; exact (own_cell3 h _ _ hg.2.2).1
set_option maxRecDepth 100000 in
theorem own_cap {w : World} {base n c : Nat} {e : TypeId} {size : Nat} {p : Option Addr} {xs : List Value} (h : w.ownsRow base e size (.slice p n c) n xs) : n ≤ c := by
  rcases h with ⟨h0, ⟨h1, h2⟩ | ⟨g, cap, cur, hv, hg, hh, hn, hm, hs, ht⟩⟩
  · injection h1 with _ h3 h4; omega
  · injection hv with _ _ h4; subst h4; omega
/-- the law's own example -/
def kbs : List UInt8 := [40, 97, 32, 124, 98, 32, 99, 124, 32, 49, 48, 41, 32, 59, 32, 120]
def ktk : List Tk := [⟨1, [40], 0⟩, ⟨3, [97], 1⟩, ⟨3, [98, 32, 99], 3⟩, ⟨4, [49, 48], 9⟩, ⟨2, [41], 11⟩]
set_option maxRecDepth 100000 in
theorem ktoks : Toks kbs 0 ktk 16 0 := by
  refine Toks.step (b := kbs) (at_ := 0) (k := 1) (n := 1) (t := [40]) (by decide) (by decide) ?_
  refine Toks.step (b := kbs) (at_ := 1) (k := 3) (n := 1) (t := [97]) (by decide) (by decide) ?_
  refine Toks.step (b := kbs) (at_ := 2) (k := 3) (n := 5) (t := [98, 32, 99]) (by decide) (by decide) ?_
  refine Toks.step (b := kbs) (at_ := 8) (k := 4) (n := 2) (t := [49, 48]) (by decide) (by decide) ?_
  refine Toks.step (b := kbs) (at_ := 11) (k := 2) (n := 1) (t := [41]) (by decide) (by decide) ?_
  exact Toks.done (b := kbs) (at_ := 12) (by decide)
set_option maxRecDepth 100000 in
theorem bytes_lit (w : World) (l : List UInt8) (t : TypeId) (fr : Nat × Nat) : BytesIn (w.alloc (.cells (l.map u8v).toArray t fr)) (some ⟨w.heap.size, 0, none⟩) l := fun i hi => by
  refine ⟨_, _, rfl, ?_⟩
  rw [Nat.zero_add, cell_of_row _ _ _ _ t fr (heap_alloc_new w _)]
  simp [u8v, List.getElem?_eq_getElem hi]
set_option maxRecDepth 100000 in
theorem kcells : (kbs.map u8v).toArray = #[.int .u8 40, .int .u8 97, .int .u8 32, .int .u8 124, .int .u8 98, .int .u8 32, .int .u8 99, .int .u8 124, .int .u8 32, .int .u8 49, .int .u8 48, .int .u8 41, .int .u8 32, .int .u8 59, .int .u8 32, .int .u8 120] := by kernel_rfl
set_option maxRecDepth 100000 in
theorem kbytes (w : World) : BytesIn (w.alloc (.cells #[.int .u8 40, .int .u8 97, .int .u8 32, .int .u8 124, .int .u8 98, .int .u8 32, .int .u8 99, .int .u8 124, .int .u8 32, .int .u8 49, .int .u8 48, .int .u8 41, .int .u8 32, .int .u8 59, .int .u8 32, .int .u8 120] 5 (16, 17))) (some ⟨w.heap.size, 0, none⟩) kbs := by
  rw [← kcells]; exact bytes_lit w kbs 5 (16, 17)
end Go.Proofs.YtdompkenblnjjaaGreat

