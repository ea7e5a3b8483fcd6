/- Tokens: the reader is made. -/
import Derived.Test.YtdompkenblnjjaaGreatJW
import Derived.Deep.MidRow
namespace Go.Proofs.YtdompkenblnjjaaGreat
open Go Go.RowKit

set_option maxRecDepth 100000 in
theorem wpList_build_to {P : Program} {ops : Array Oper} {rest : List Oper} {o : Oper} {a : Act} {w : World} {Q : Exit → Act → World → Prop} (hgd : o.guard = none) (t : TypeId) (parts : Array (Nat × Operand)) (ho : o.op = .build t parts)
    (cells : Array Value) (hc : P.built t (parts.map fun (i, x) => (i, a.eval x)).toList = some cells) (h : wpList P ops Q rest (a.put o.dst (.agg cells)) w) : wpList P ops Q (o :: rest) a w :=
  wpList_plain hgd fun _ hK => by
    unfold Oper.wp execOp
    simp only [ho, Sem.run_bind, run_build w t _ cells hc, Result.andThen_ok]
    exact hK _ _ h
set_option maxRecDepth 100000 in
theorem Only.newCells {T : Nat → Prop} {w : World} {b : Nat} (hb : w.heap.size ≤ b) : ∀ (l : List Value) (o : Nat) (w2 : World), Only T w w2 → Only T w (w2.setCells b o l)
  | [], _, _, h => h
  | v :: l, o, w2, h => by
    rw [World.setCells]
    exact Only.newCells hb l (o + 1) _ (h.new hb)
set_option maxRecDepth 100000 in
theorem size_setCells (b : Nat) : ∀ (l : List Value) (o : Nat) (w : World), (w.setCells b o l).heap.size = w.heap.size
  | [], _, _ => rfl
  | v :: l, o, w => by rw [World.setCells, size_setCells b l, World.size_setCell]
/-- a token's three cells -/
def tkV (t : Tk) : List Value := [.int .u8 (t.kind : Int), .string ⟨t.text.toArray⟩, .int .i64 (t.at_ : Int)]
def rowT (l : List Tk) : List Value := l.flatMap tkV
set_option maxRecDepth 100000 in
theorem rowT_len (l : List Tk) : (rowT l).length = l.length * 3 := by
  induction l with
  | nil => rfl
  | cons t l ih => simp [rowT, tkV] at ih ⊢; omega
def Z33 : Value := .agg #[.int .u8 0, .string ByteArray.empty, .int .i64 0]
set_option maxRecDepth 100000 in
theorem info33 : ∃ i0, Tryz.prog.info? 44 = some i0 ∧ i0.zero = some Z33 ∧ i0.size = 3 ∧ i0.bytes = 32 := info_of (by kernel_rfl)
set_option maxRecDepth 100000 in
theorem tok_cell (w : World) (C : Array Value) (j : Nat) {v : Value} (h : C[j]? = some v) : ((w.alloc (.cells C 44)).alloc (.cells C 44)).cell? ⟨w.heap.size + 1, 0 + j, none⟩ = some v := by
  rw [Nat.zero_add, show w.heap.size + 1 = (w.alloc (.cells C 44)).heap.size by simp, World.cell?_alloc_new]
  exact h
set_option maxRecDepth 100000 in
theorem own_mono {w : World} {base base' n : Nat} {e : TypeId} {size : Nat} {v : Value} {xs : List Value} (h : w.ownsRow base e size v n xs) (hb : base' ≤ base) : w.ownsRow base' e size v n xs := by
  rcases h with ⟨h0, ⟨h1, h2⟩ | ⟨g, cap, cur, rfl, hg, hh, hc⟩⟩
  · exact ⟨h0, .inl ⟨h1, h2⟩⟩
  · exact ⟨h0, .inr ⟨g, cap, cur, rfl, Nat.le_trans hb hg, hh, hc⟩⟩
set_option maxRecDepth 100000 in
theorem quo_err : ∀ (s acc : List UInt8) {e : Nat}, quo acc s = .err e → 0 < e
  | [], acc, e, h => by simp only [quo] at h; cases h; decide
  | c :: s, acc, e, h => by
    simp only [quo] at h
    split at h
    · cases h
    · split at h
      · cases h; decide
      · exact quo_err s _ h
set_option maxRecDepth 100000 in
theorem lit_err : ∀ (s : List UInt8) (m : Bool) (acc : List UInt8) (i : Nat) {e : Nat}, lit m acc i s = .err e → 0 < e
  | [], true, acc, i, e, h => by simp [lit] at h
  | [], false, acc, i, e, h => by simp only [lit] at h; cases h; decide
  | c :: s, true, acc, i, e, h => by
    simp only [lit] at h
    split at h
    · exact lit_err s _ _ _ h
    · cases h
  | c :: s, false, acc, i, e, h => by
    simp only [lit] at h
    split at h
    · cases h; decide
    · split at h
      · exact lit_err s _ _ _ h
      · exact lit_err s _ _ _ h
set_option maxRecDepth 100000 in
theorem err_pos {s : List UInt8} {e : Nat} (h : oneR s = .err e) (hs : 0 < s.length) : 0 < e := by
  cases s with
  | nil => simp at hs
  | cons c s =>
    simp only [oneR] at h
    split at h
    · cases h
    · split at h
      · cases h
      · split at h
        · exact quo_err _ _ h
        · split at h
          · exact lit_err _ _ _ _ h
          · split at h
            · unfold keyR at h
              split at h <;> cases h
              decide
            · split at h
              · unfold basedR at h
                split at h
                · cases h; decide
                · split at h <;> cases h
                  decide
              · split at h
                · unfold plainR at h
                  split at h
                  · cases h
                  · simp only at h
                    split at h
                    · cases h; decide
                    · split at h
                      · cases h
                      · split at h <;> cases h
                        decide
                · cases h; decide
/-- what Tokens answers -/
def TokensP (bs : List UInt8) (W : World) (e : Ending) (w' : World) : Prop := ∃ (p : Option Addr) (c : Nat) (l : List Tk) (a er : Nat), e = .returned (.tuple #[.slice p l.length c, .int .i64 (a : Int), .int .i64 (er : Int)]) ∧ Toks bs 0 l a er ∧ w'.ownsRow W.heap.size 44 3 (.slice p l.length c) l.length (rowT l) ∧ Below W.heap.size W w'
end Go.Proofs.YtdompkenblnjjaaGreat

