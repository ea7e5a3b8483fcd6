/- The law ClausesStores returns true, whatever rows it is given. -/
import Derived.Test.YtiadnifbjdnflaaZ10
namespace Go.Proofs.Ytiadnifbjdnflaa
open Go Go.RowKit Go.Maps

set_option maxRecDepth 100000 in
set_option maxHeartbeats 2000000 in
theorem stores_any (p : Option Addr) (n c : Nat) (L : Nat → Nat) (V : Nat → Nat → Int) (q : Option Addr) (m d : Nat) (M : Nat → Nat) (U : Nat → Nat → Int) (W : World) (hA : ArgIn W p n L V) (hB : ArgIn W q m M U) (hn : n ≤ 9223372036854775807) (hm : m ≤ 9223372036854775807) (hL : ∀ i, i < n → L i ≤ 9223372036854775807) (hM : ∀ i, i < m → M i ≤ 9223372036854775807) :
    Calls Try.prog 5 #[.slice p n c, .slice q m d] W fun e w' => e = .returned (.bool true) ∧ Below W.heap.size W w' := by
  by_cases h1 : n ≤ 150
  · by_cases h2 : m ≤ 150
    · exact stores_in p n c L V q m d M U W hA hB h1 h2 hL hM
    · clear hA hB hL hM
      have n1 : (n : Int) ≤ 150 := by omega
      have m1 : (150 : Int) < (m : Int) := by omega
      clear h1 h2
      go_enter Try.func5, Try.ntmps5
      go_wp2_with fail
      refine (known14_any W).mono ?_
      rintro e w2 ⟨rfl, hb⟩
      go_wp2_with fail
      exact bodyPost_ret (v := .bool true) (by simp [results, Try.results5, go_sem]) rfl ⟨rfl, hb⟩
  · clear hA hB hL hM
    have n1 : (150 : Int) < (n : Int) := by omega
    clear h1
    go_enter Try.func5, Try.ntmps5
    go_wp2_with fail
    refine (known14_any W).mono ?_
    rintro e w2 ⟨rfl, hb⟩
    go_wp2_with fail
    exact bodyPost_ret (v := .bool true) (by simp [results, Try.results5, go_sem]) rfl ⟨rfl, hb⟩
end Go.Proofs.Ytiadnifbjdnflaa
