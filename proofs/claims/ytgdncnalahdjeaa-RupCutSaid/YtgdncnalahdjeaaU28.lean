/- A row that is cut, a base that grows: where the conflict comes. -/
import Derived.Test.YtgdncnalahdjeaaU27
namespace Go.Proofs.Ytgdncnalahdjeaa
open Go Go.RowKit Go.Maps

theorem wrap_u' (x : Int) : IntKind.u64.wrap x = x % 18446744073709551616 := by
  simp [IntKind.wrap, IntKind.bits, IntKind.signed]
theorem row_cut {db row : List (List Int)} {n m k : Nat} {a b : Bool} (h : RowOut db row n a) (hk : k ≤ row.length) (h2 : RowOut db (row.take k) m b) : m = min n k ∧ (b = true → m = k) := by
  obtain ⟨a1, a2, a3, a4⟩ := h
  obtain ⟨b1, b2, b3, b4⟩ := h2
  have hlen : (row.take k).length = k := by rw [List.length_take]; omega
  rw [hlen] at b1 b4
  have htt : ∀ i, i ≤ k → (row.take k).take i = row.take i := fun i hi => by rw [List.take_take, Nat.min_eq_left hi]
  refine ⟨?_, fun h => (b4.1 h).1⟩
  rcases Nat.lt_trichotomy m (min n k) with hlt | heq | hgt
  · exfalso
    have hmk : m < k := by omega
    have hmr : m < row.length := by omega
    have hc := a2 m _ (by omega) (List.getElem?_eq_getElem hmr)
    have hn := b3 row[m] (by rw [List.getElem?_take_of_lt hmk]; exact List.getElem?_eq_getElem hmr)
    rw [htt m (by omega)] at hn
    exact hn hc
  · exact heq
  · exfalso
    have hnm : n < m := by omega
    have hnr : n < row.length := by omega
    have hc := b2 n row[n] hnm (by rw [List.getElem?_take_of_lt (by omega)]; exact List.getElem?_eq_getElem hnr)
    rw [htt n (by omega)] at hc
    exact a3 _ (List.getElem?_eq_getElem hnr) hc
theorem row_more {db more row : List (List Int)} {n o : Nat} {a c : Bool} (h : RowOut db row n a) (h2 : RowOut (db ++ more) row o c) : n ≤ o ∧ (a = true → c = true) := by
  obtain ⟨a1, a2, a3, a4⟩ := h
  obtain ⟨b1, b2, b3, b4⟩ := h2
  have hle : n ≤ o := by
    rcases Nat.lt_or_ge o n with hlt | hge
    · exfalso
      have hor : o < row.length := by omega
      have hc := a2 o _ hlt (List.getElem?_eq_getElem hor)
      exact b3 _ (List.getElem?_eq_getElem hor) (hc.mono (fun d hd => by
        rcases List.mem_append.1 hd with hd | hd
        · exact List.mem_append_left _ (List.mem_append_left _ hd)
        · exact List.mem_append_right _ hd) (fun _ h => h))
    · exact hge
  refine ⟨hle, fun h => b4.2 ?_⟩
  obtain ⟨e1, e2⟩ := a4.1 h
  exact ⟨by omega, e2⟩
end Go.Proofs.Ytgdncnalahdjeaa
