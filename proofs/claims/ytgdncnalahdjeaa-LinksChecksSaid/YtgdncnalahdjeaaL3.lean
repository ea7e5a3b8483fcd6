/- The checker: what earlier links conclude, and what literals say. -/
import Derived.Test.YtgdncnalahdjeaaL1
namespace Go.Proofs.Ytgdncnalahdjeaa
open Go Go.RowKit

def flat2 (ts : List (Int × Int)) : List Value := ts.flatMap fun t => [.int .i64 t.1, .int .i64 t.2]
theorem flat2_len (ts : List (Int × Int)) : (flat2 ts).length = ts.length * 2 := by
  induction ts with
  | nil => rfl
  | cons t ts ih => simp only [flat2, List.flatMap_cons, List.length_append, List.length_cons, List.length_nil] at *; omega
theorem flat2_get : ∀ (ts : List (Int × Int)) (i : Nat) (hi : i < ts.length), (flat2 ts)[i * 2]? = some (.int .i64 ts[i].1) ∧ (flat2 ts)[i * 2 + 1]? = some (.int .i64 ts[i].2) := by
  intro ts
  induction ts with
  | nil => intro i hi; simp at hi
  | cons t ts ih =>
    intro i hi
    cases i with
    | zero => exact ⟨rfl, rfl⟩
    | succ i =>
      have := ih i (by simpa using hi)
      have e1 : (i + 1) * 2 = i * 2 + 2 := by omega
      have e2 : (i + 1) * 2 + 1 = i * 2 + 1 + 2 := by omega
      rw [e2, e1]
      simpa [flat2] using this
/-- a checker in block c: its rows from block c on. -/
structure CheckerAt (W : World) (c : Nat) (T M : Option Nat) (p : Option Addr) (n cv : Nat) (q : Option Addr) (m ca : Nat) (ts : List (Int × Int)) (ls : List Int) : Prop where
  c0 : W.cell? ⟨c, 0, none⟩ = some (.slice p n cv)
  c1 : W.cell? ⟨c, 1, none⟩ = some (.slice q m ca)
  c2 : ∃ r z, W.cell? ⟨c, 2, none⟩ = some (.slice r ts.length z) ∧ (Value.slice r ts.length z).ownBlock = T ∧ W.ownsRow (c + 1) 113 2 (.slice r ts.length z) ts.length (flat2 ts)
  c3 : ∃ r z, W.cell? ⟨c, 3, none⟩ = some (.slice r ls.length z) ∧ (Value.slice r ls.length z).ownBlock = M ∧ W.ownsRow (c + 1) 54 1 (.slice r ls.length z) ls.length (ls.map (Value.int .i64))
  f2 : W.frozen? ⟨c, 2, none⟩ = false
  f3 : W.frozen? ⟨c, 3, none⟩ = false
  ne : ∀ k, T = some k → M ≠ some k
theorem CheckerAt.lt {W : World} {c : Nat} {T M : Option Nat} {p : Option Addr} {n cv : Nat} {q : Option Addr} {m ca : Nat} {ts : List (Int × Int)} {ls : List Int} (h : CheckerAt W c T M p n cv q m ca ts ls) : c < W.heap.size := World.block_lt_of_cell? W _ h.c0
theorem CheckerAt.later {W W' : World} {c : Nat} {T M : Option Nat} {p : Option Addr} {n cv : Nat} {q : Option Addr} {m ca : Nat} {ts : List (Int × Int)} {ls : List Int} (h : CheckerAt W c T M p n cv q m ca ts ls) (hb : Below W.heap.size W W') : CheckerAt W' c T M p n cv q m ca ts ls := by
  obtain ⟨r, z, a1, a2, a3⟩ := h.c2
  obtain ⟨r2, z2, b1, b2, b3⟩ := h.c3
  exact ⟨cell_later hb h.c0, cell_later hb h.c1, ⟨r, z, cell_later hb a1, a2, own_later a3 hb⟩, ⟨r2, z2, cell_later hb b1, b2, own_later b3 hb⟩, by rw [hb.frozen h.lt]; exact h.f2, by rw [hb.frozen h.lt]; exact h.f3, h.ne⟩
/-- what an earlier link concludes. -/
def atL (ts : List (Int × Int)) (i : Int) : (Int × Int) × Bool := if 0 ≤ i ∧ i < (ts.length : Int) then (ts.getD i.toNat (0, 0), true) else ((0, 0), false)
set_option maxRecDepth 100000 in
set_option maxHeartbeats 800000 in
theorem at_any (c : Nat) (T M : Option Nat) (p : Option Addr) (n cv : Nat) (q : Option Addr) (m ca : Nat) (ts : List (Int × Int)) (ls : List Int) (i : Int) (w : World) (h : CheckerAt w c T M p n cv q m ca ts ls) (_hl : ts.length ≤ 1000000) :
    Calls Try.prog 82 #[.pointer (some ⟨c, 0, none⟩), .int .i64 i] w fun e w' => e = .returned (.tuple #[.agg #[.int .i64 (atL ts i).1.1, .int .i64 (atL ts i).1.2], .bool (atL ts i).2]) ∧ Below w.heap.size w w' := by
  have hB := below1 w (.cells #[.int .i64 0, .int .i64 0] 113)
  obtain ⟨r, z, a1, a2, a3⟩ := (h.later hB).c2
  by_cases hi : 0 ≤ i ∧ i < (ts.length : Int)
  · have hat : atL ts i = (ts.getD i.toNat (0, 0), true) := if_pos hi
    rw [hat]
    obtain ⟨k, rfl⟩ : ∃ k : Nat, i = k := ⟨i.toNat, by omega⟩
    have hk : k < ts.length := by omega
    have hne : (Value.slice r ts.length z) ≠ .slice none 0 0 := by intro e; simp at e; rw [e.2.1] at hk; simp at hk
    obtain ⟨g, z', e, _, hcell⟩ := own_cells a3 hne
    simp only [Value.slice.injEq] at e
    obtain ⟨rfl, _, rfl⟩ := e
    have hg := flat2_get ts k hk
    have x0 := hcell _ _ hg.1
    have x1 := hcell _ _ hg.2
    have e2 : ts.getD (k : Int).toNat (0, 0) = ts[k] := by simp [List.getD, List.getElem?_eq_getElem hk]
    rw [e2]
    generalize ts[k] = t at *
    obtain ⟨tx, ty⟩ := t
    have k0 : (0 : Int) ≤ (k : Int) := by omega
    have k1 : (k : Int) < (ts.length : Int) := by omega
    clear h a2 a3 hcell hg e2 hat hi hne
    generalize ts.length = L at *
    go_enter Try.func82, Try.ntmps82
    go_wp2
    refine bodyPost_ret (v := .tuple #[.agg #[.int .i64 tx, .int .i64 ty], .bool true]) (by simp [results, Try.results82, go_sem]) rfl ⟨rfl, ?_⟩
    first | exact hB | exact hB.setCell (by simp) _ | exact (hB.setCell (by simp) _).setCell (by simp) _ | simp [below1]
  · have hat : atL ts i = ((0, 0), false) := if_neg hi
    rw [hat]
    have key : i < 0 ∨ (0 ≤ i ∧ (ts.length : Int) ≤ i) := by omega
    clear h a2 a3 hat hi
    generalize ts.length = L at *
    rcases key with h | ⟨h, h'⟩
    all_goals
      go_enter Try.func82, Try.ntmps82
      go_wp2
      refine bodyPost_ret (v := .tuple #[.agg #[.int .i64 0, .int .i64 0], .bool false]) (by simp [results, Try.results82, go_sem]) rfl ⟨rfl, ?_⟩
      first | exact hB | exact hB.setCell (by simp) _ | exact (hB.setCell (by simp) _).setCell (by simp) _
/-- does a literal have an atom? -/
def okL (m : Nat) (l : Int) : Bool := l != 0 && decide (-1048576 ≤ l) && decide (l ≤ 1048576) && decide (absI l ≤ (m : Int))
def atomV (a : AD) (l : Int) : Value := .agg #[.int .u8 (a.K (l.natAbs - 1)), .int .i64 (a.A (l.natAbs - 1)), .int .i64 (a.B (l.natAbs - 1)), .int .i64 (a.C (l.natAbs - 1))]
def atom0 : Value := .agg #[.int .u8 0, .int .i64 0, .int .i64 0, .int .i64 0]
set_option maxRecDepth 100000 in
set_option maxHeartbeats 800000 in
theorem atom83_any (c : Nat) (T M : Option Nat) (p : Option Addr) (n cv : Nat) (q : Option Addr) (m ca : Nat) (a : AD) (ts : List (Int × Int)) (ls : List Int) (l : Int) (w : World) (h : CheckerAt w c T M p n cv q m ca ts ls) (ha : AtomsIn w q m a) (hm : m ≤ 1000000) (l0 : -9223372036854775808 ≤ l) (l1 : l ≤ 9223372036854775807) :
    Calls Try.prog 83 #[.pointer (some ⟨c, 0, none⟩), .int .i64 l] w fun e w' => e = .returned (.tuple #[if okL m l then atomV a l else atom0, .bool (okL m l)]) ∧ Below w.heap.size w w' := by
  have hB := below1 w (.cells #[.int .u8 0, .int .i64 0, .int .i64 0, .int .i64 0] 99)
  have c1 := (h.later hB).c1
  have key : l = 0 ∨ (l ≠ 0 ∧ l < -1048576) ∨ (l ≠ 0 ∧ -1048576 ≤ l ∧ 1048576 < l) ∨ (l ≠ 0 ∧ -1048576 ≤ l ∧ l ≤ 1048576 ∧ (m : Int) < max l (-l)) ∨ (l ≠ 0 ∧ -1048576 ≤ l ∧ l ≤ 1048576 ∧ max l (-l) ≤ (m : Int)) := by omega
  rcases key with h1 | ⟨h1, h2⟩ | ⟨h1, h2, h3⟩ | ⟨h1, h2, h3, h4⟩ | ⟨h1, h2, h3, h4⟩
  · have hok : okL m l = false := by subst h1; rfl
    rw [hok]
    simp only [Bool.false_eq_true, if_false]
    clear hok ha h
    subst h1
    go_enter Try.func83, Try.ntmps83
    go_wp2
    refine bodyPost_ret (v := .tuple #[atom0, .bool false]) (by simp [results, Try.results83, go_sem, atom0]) rfl ⟨rfl, ?_⟩
    first | exact hB | exact hB.setCell (by simp) _ | exact (((hB.setCell (by simp) _).setCell (by simp) _).setCell (by simp) _).setCell (by simp) _
  · have hok : okL m l = false := by unfold okL; rw [decide_eq_false (show ¬ -1048576 ≤ l by omega)]; simp
    rw [hok]
    simp only [Bool.false_eq_true, if_false]
    clear hok ha h
    have q1 : (l == 0) = false := by rw [beq_eq_false_iff_ne]; exact h1
    clear h1
    go_enter Try.func83, Try.ntmps83
    go_wp2
    refine bodyPost_ret (v := .tuple #[atom0, .bool false]) (by simp [results, Try.results83, go_sem, atom0]) rfl ⟨rfl, ?_⟩
    first | exact hB | exact hB.setCell (by simp) _ | exact (((hB.setCell (by simp) _).setCell (by simp) _).setCell (by simp) _).setCell (by simp) _
  · have hok : okL m l = false := by unfold okL; rw [decide_eq_false (show ¬ l ≤ 1048576 by omega)]; simp
    rw [hok]
    simp only [Bool.false_eq_true, if_false]
    clear hok ha h
    have q1 : (l == 0) = false := by rw [beq_eq_false_iff_ne]; exact h1
    clear h1
    go_enter Try.func83, Try.ntmps83
    go_wp2
    refine bodyPost_ret (v := .tuple #[atom0, .bool false]) (by simp [results, Try.results83, go_sem, atom0]) rfl ⟨rfl, ?_⟩
    first | exact hB | exact hB.setCell (by simp) _ | exact (((hB.setCell (by simp) _).setCell (by simp) _).setCell (by simp) _).setCell (by simp) _
  · have hok : okL m l = false := by unfold okL absI; rw [decide_eq_false (show ¬ max l (-l) ≤ (m : Int) by omega)]; simp
    rw [hok]
    simp only [Bool.false_eq_true, if_false]
    clear hok ha h
    have q1 : (l == 0) = false := by rw [beq_eq_false_iff_ne]; exact h1
    clear h1
    go_enter Try.func83, Try.ntmps83
    go_wp2
    refine bodyPost_ret (v := .tuple #[atom0, .bool false]) (by simp [results, Try.results83, go_sem, atom0]) rfl ⟨rfl, ?_⟩
    first | exact hB | exact hB.setCell (by simp) _ | exact (((hB.setCell (by simp) _).setCell (by simp) _).setCell (by simp) _).setCell (by simp) _
  · have hok : okL m l = true := by unfold okL absI; rw [decide_eq_true h2, decide_eq_true h3, decide_eq_true h4]; simp [h1]
    rw [hok]
    simp only [if_true]
    obtain ⟨b, off, rfl, hat⟩ := (ha.later hB) (by omega)
    have hk : l.natAbs - 1 < m := by omega
    have x0 := hat.k _ hk
    have x1 := hat.a _ hk
    have x2 := hat.bb _ hk
    have x3 := hat.c _ hk
    have e : max l (-l) - 1 = ((l.natAbs - 1 : Nat) : Int) := by omega
    unfold atomV
    generalize l.natAbs - 1 = k at *
    have q1 : (l == 0) = false := by rw [beq_eq_false_iff_ne]; exact h1
    have k0 : (0 : Int) ≤ (k : Int) := by omega
    have k1 : (k : Int) < (m : Int) := by omega
    clear h1 hok ha h hat
    go_enter Try.func83, Try.ntmps83
    go_wp2_with fail
    refine bodyPost_ret (v := .tuple #[.agg #[.int .u8 (a.K k), .int .i64 (a.A k), .int .i64 (a.B k), .int .i64 (a.C k)], .bool true]) (by simp [results, Try.results83, go_sem]) rfl ⟨rfl, ?_⟩
    first | exact hB | exact hB.setCell (by simp) _ | exact (((hB.setCell (by simp) _).setCell (by simp) _).setCell (by simp) _).setCell (by simp) _ | simp [below1]
end Go.Proofs.Ytgdncnalahdjeaa
