/- turned: a clause the other way round. -/
import Derived.Test.YtgdncnalahdjeaaU23
namespace Go.Proofs.Ytgdncnalahdjeaa
open Go Go.RowKit Go.Maps

theorem rev_take {c : List Int} {j k : Nat} (hj : j < c.length) (hk : k + j + 1 = c.length) : c.reverse.take (j + 1) = c.reverse.take j ++ [fnL c k] := by
  have hl : j < c.reverse.length := by simpa using hj
  rw [← List.take_append_getElem hl]
  congr 2
  unfold fnL
  rw [getD_eq (by omega), List.getElem_reverse]
  congr 1
  omega
set_option maxRecDepth 100000 in
set_option maxHeartbeats 1600000 in
theorem turned_any (p : Option Addr) (z : Nat) (c : List Int) (w : World) (hV : LitsIn w p c.length (fnL c)) (hn : c.length ≤ 1000000) :
    Calls Try.prog 33 #[.slice p c.length z] w fun e w' => ∃ v', e = .returned v' ∧ w'.ownsRow w.heap.size 54 1 v' c.length (c.reverse.map (Value.int .i64)) ∧ Below w.heap.size w w' := by
  obtain ⟨i54, hi54, hz0, hz1, hz2⟩ := info54
  have HV := Lib.hid hV
  clear hV
  obtain ⟨n, hnn⟩ : ∃ n, c.length = n := ⟨_, rfl⟩
  rw [hnn] at hn ⊢
  have HN := Lib.hid hnn
  clear hnn
  go_enter Try.func33, Try.ntmps33
  go_wp2_with fail
  go_loopg [3, 7] n (fun gk s3 s7 wx => ∃ j : Nat, j + gk = n ∧ s7 = .int .i64 (j : Int) ∧ Hid (Below w.heap.size w wx ∧ wx.ownsRow w.heap.size 54 1 s3 j ((c.reverse.take j).map (Value.int .i64))))
  case atStart => exact ⟨0, by omega, rfl, Lib.hid ⟨Below.refl _ _, World.ownsRow_nil _ _ _ _⟩⟩
  case round =>
    obtain ⟨j, hjg, rfl, HI⟩ := hrel
    have HJG := Lib.hid hjg
    obtain ⟨hbl, hrow⟩ := HI.out
    by_cases hjn : j < n
    · obtain ⟨b, off, rfl, hVi⟩ := HV.out (by have := HN.out; omega)
      obtain ⟨k, hk⟩ : ∃ k, k + j + 1 = n := ⟨n - 1 - j, by omega⟩
      have cx := cell_later hbl (hVi k (by have := HN.out; omega))
      have htk := rev_take (c := c) (j := j) (k := k) (by have := HN.out; omega) (by have := HN.out; omega)
      have e1 : (n : Int) - 1 - (j : Int) = (k : Int) := by omega
      have e0 : (0 : Int) ≤ (n : Int) - 1 := by omega
      have e2 : (0 : Int) ≤ (k : Int) := by omega
      have e3 : (k : Int) < (n : Int) := by omega
      have j1 : (j : Int) < (n : Int) := by omega
      have n1 : (n : Int) ≤ 1000000 := by omega
      obtain ⟨ps, cs, hs3, hB_⟩ := own_shp hrow
      clear hB_
      subst hs3
      have hal := below1 wr (.cells #[.int .i64 (fnL c k)] 54)
      have HOW := Lib.hid (own_later hrow hal)
      have HBL := Lib.hid (hbl.trans (hal.mono hbl.size))
      have HTK := Lib.hid htk
      have hws := hbl.size
      generalize fnL c k = x at *
      clear hVi hbl hrow hal htk HI hk hjg
      go_wp2_with (at_builtin; refine wpList_append_own_at _ rfl _ _ 23 rfl w.heap.size 54 i54 (.int .i64 0) 1 8 Try.underlying23 hi54 hz0 hz1 hz2 rfl (by omega) _ j ((c.reverse.take j).map (Value.int .i64)) rfl HOW.out ⟨wr.heap.size, 0, none⟩ 1 1 [.int .i64 x] rfl rfl ?qc2 ?qc3 ?qc4 ?qc5 ?qc6 ?_)
      case qc2 =>
        intro jj u hjj
        rw [Lib.add_plain]
        match jj, hjj with
        | 0, hjj => cases hjj; simp [go_sem]
      case qc3 => intro u hu; simp at hu; rcases hu with rfl; rfl
      case qc4 => have hml : maxLen = 9223372036854775807 := rfl; omega
      case qc5 => omega
      case qc6 => simp; omega
      intro v5 w5 hown hgrow _ hloc
      have hb5 : Below w.heap.size w w5 := HBL.out.grown hgrow (by simp; omega) (fun k hk => (own_lt HOW.out hk).1)
      have hown' : w5.ownsRow w.heap.size 54 1 v5 (j + 1) ((c.reverse.take (j + 1)).map (Value.int .i64)) := by
        rw [HTK.out]
        simpa using hown
      have HI5 := Lib.hid (And.intro hb5 hown')
      clear hown hown' hgrow hloc hb5
      go_wp2_with fail
      go_roundg (n - (j + 1))
      case measure => have := HJG.out; omega
      case rel => exact ⟨j + 1, by omega, by go_num, HI5⟩
    · obtain rfl : j = n := by omega
      rw [← HN.out, ← List.length_reverse, List.take_length, List.length_reverse, HN.out] at hrow
      have HI5 := Lib.hid (And.intro hbl hrow)
      clear hbl hrow HI hjg
      go_wp2_with fail
      go_ret
      exact ⟨_, rfl, HI5.out.2, HI5.out.1⟩
end Go.Proofs.Ytgdncnalahdjeaa
