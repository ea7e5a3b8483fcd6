/- LexBlanks: the law's walk. -/
import Derived.Test.YtlifankiljbdjaaDoorL3
namespace Go.Proofs.YtlifankiljbdjaaDoor
open Go Go.RowKit

set_option maxRecDepth 100000 in
set_option maxHeartbeats 400000 in
theorem blanks_great (p q : Option Addr) (c d n m : Nat) (W : World) (hn : 2000 < n) :
    Calls Tryd.prog 5 #[.slice p n c, .slice q m d] W fun e w' => e = .returned (.bool true) ∧ Below W.heap.size W w' := by
  have i0 : (2000 : Int) < (n : Int) := by omega
  go_enter Tryd.func5, Tryd.ntmps5
  go_wp2_with (go_at_call 13; refine (known_any _).mono ?_; rintro e w1 ⟨rfl, hb⟩; have HB := Lib.hid hb; clear hb)
  go_ret
  exact ⟨rfl, HB.out⟩
/-- which blanks stand behind token i -/
def blankAt (bt : List UInt8) (i : Nat) : List UInt8 := between.getD ((bt.getD i 0).toNat % 5) []
def blanksL (bt : List UInt8) (i k : Nat) : List (List UInt8) := (List.range k).map fun j => blankAt bt (i + j)
theorem blankAt_len (bt : List UInt8) (i : Nat) : (blankAt bt i).length ≤ 7 := by
  unfold blankAt
  have h : (bt.getD i 0).toNat % 5 < 5 := Nat.mod_lt _ (by decide)
  generalize (bt.getD i 0).toNat % 5 = m at *
  have : m = 0 ∨ m = 1 ∨ m = 2 ∨ m = 3 ∨ m = 4 := by omega
  rcases this with rfl | rfl | rfl | rfl | rfl <;> decide
/-- what is written of the first k tokens -/
def wroteL (bt : List UInt8) (l : List Tk) (k : Nat) : List UInt8 := writeL (l.take k) (blanksL bt 0 k)
theorem writeL_append : ∀ (ts : List Tk) (zs : List (List UInt8)) (t : Tk) (z : List UInt8), ts.length = zs.length → writeL (ts ++ [t]) (zs ++ [z]) = writeL ts zs ++ (rendL t.kind t.text ++ z)
  | [], [], t, z, _ => by simp [writeL]
  | [], _ :: _, _, _, h => by simp at h
  | _ :: _, [], _, _, h => by simp at h
  | t' :: ts, z' :: zs, t, z, h => by
    simp only [List.cons_append, writeL]
    rw [writeL_append ts zs t z (by simpa using h)]
    simp
theorem wrote_succ (bt : List UInt8) (l : List Tk) (k : Nat) (h : k < l.length) : wroteL bt l (k + 1) = wroteL bt l k ++ (rendL l[k].kind l[k].text ++ blankAt bt k) := by
  unfold wroteL blanksL
  rw [List.take_succ_eq_append_getElem h, List.range_succ, List.map_append]
  rw [List.map_cons, List.map_nil, writeL_append _ _ _ _ (by simp; omega), Nat.zero_add]
theorem wrote_len (bt : List UInt8) (l : List Tk) (k : Nat) (h : k ≤ l.length) : (wroteL bt l k).length ≤ 2 * ((l.take k).map fun t => t.text.length).sum + 9 * k := by
  induction k with
  | zero => simp [wroteL, writeL]
  | succ k ih =>
    have h1 := ih (by omega)
    have h2 := rend_len l[k].kind l[k].text
    have h3 := blankAt_len bt k
    rw [wrote_succ bt l k (by omega), List.take_succ_eq_append_getElem (by omega)]
    simp only [List.length_append, List.map_append, List.map_cons, List.map_nil, List.sum_append, List.sum_cons, List.sum_nil]
    omega
theorem sum_take (l : List Tk) (k : Nat) : ((l.take k).map fun t => t.text.length).sum ≤ (l.map fun t => t.text.length).sum := by
  conv => rhs; rw [← List.take_append_drop k l]
  simp only [List.map_append, List.sum_append]; omega
/-- all written: read again -/
theorem wrote_all {b : List UInt8} {l : List Tk} {p e : Nat} (h : Toks b 0 l p e) (bt : List UInt8) :
    ∃ l2, Toks (wroteL bt l l.length) 0 l2 (wroteL bt l l.length).length 0 ∧ l2.length = l.length ∧ ∀ i (h : i < l2.length) (h' : i < l.length), l2[i].kind = l[i].kind ∧ l2[i].text = l[i].text := by
  refine written l (blanksL bt 0 l.length) _ 0 (by simp [blanksL]) h.good (fun z hz => ?_) (Nat.zero_le _) ⟨[], .inl rfl, ?_⟩
  · obtain ⟨j, _, rfl⟩ := List.mem_map.1 hz
    exact blank_get _ (Nat.mod_lt _ (by decide))
  · unfold wroteL; rw [List.take_length]; rfl
end Go.Proofs.YtlifankiljbdjaaDoor
