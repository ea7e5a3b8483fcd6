/- The walk of the law CyclesOf. -/
import Derived.Test.YtiadnifbjdnflaaRefOf
import Derived.Test.YtiadnifbjdnflaaKn4
namespace Go.Proofs.Ytiadnifbjdnflaa
open Go Go.RowKit

/-- an argument that is a slice of atoms, in a world. -/
def AtomsIn (W : World) (p : Option Addr) (n : Nat) (K A B C : Nat → Int) : Prop := 0 < n → ∃ b off, p = some ⟨b, off, none⟩ ∧ AtomsAt W b off n K A B C
theorem AtomsIn.later {W W' : World} {p : Option Addr} {n : Nat} {K A B C : Nat → Int} (h : AtomsIn W p n K A B C) (hb : Below W.heap.size W W') : AtomsIn W' p n K A B C := fun hn => by
  obtain ⟨b, off, e, ha⟩ := h hn
  exact ⟨b, off, e, ha.later hb⟩
theorem of_same (p : Option Addr) (n c : Nat) (l : Int) (K A B C : Nat → Int) (hn : n ≤ 1000000) (l0 : -9223372036854775808 ≤ l) (l1 : l ≤ 9223372036854775807) (hC : ∀ i, i < n → I64 (C i)) :
    ∃ x y z e : Int, (∀ W, AtomsIn W p n K A B C → Calls Try.prog 41 #[.slice p n c, .int .i64 l] W fun e' w' => e' = .returned (.tuple #[.agg #[.int .i64 x, .int .i64 y, .int .i64 z], .int .i64 e]) ∧ Below W.heap.size W w') ∧ (∀ W, AtomsIn W p n K A B C → Calls Try.prog 42 #[.slice p n c, .int .i64 l] W fun e' w' => e' = .returned (.tuple #[.agg #[.int .i64 x, .int .i64 y, .int .i64 z], .int .i64 e]) ∧ Below W.heap.size W w') := by
  by_cases ho : l = 0 ∨ (n : Int) < l ∨ l < -(n : Int)
  · exact ⟨0, 0, 0, 2, fun W _ => of_out p n c l W (by omega) l0 l1 ho, fun W _ => ref_out p n c l W (by omega) l0 l1 ho⟩
  · have hpos : l = ((l.natAbs - 1 : Nat) : Int) + 1 ∨ l = -(((l.natAbs - 1 : Nat) : Int) + 1) := by omega
    have hk : l.natAbs - 1 < n := by omega
    generalize l.natAbs - 1 = k at *
    by_cases hK : K k = 2
    · rcases hpos with rfl | rfl
      · refine ⟨A k, B k, C k, 0, fun W h => ?_, fun W h => ?_⟩
        · obtain ⟨b, off, rfl, ha⟩ := h (by omega)
          exact of_pos b off n c k K A B C W ha hk hn hK
        · obtain ⟨b, off, rfl, ha⟩ := h (by omega)
          exact ref_pos b off n c k K A B C W ha hk hn hK
      · refine ⟨B k, A k, -C k - 1, 0, fun W h => ?_, fun W h => ?_⟩
        · obtain ⟨b, off, rfl, ha⟩ := h (by omega)
          exact of_neg b off n c k K A B C W ha hk hn hK (hC k hk).1 (hC k hk).2
        · obtain ⟨b, off, rfl, ha⟩ := h (by omega)
          exact ref_neg b off n c k K A B C W ha hk hn hK (hC k hk).1 (hC k hk).2
    · refine ⟨0, 0, 0, 2, fun W h => ?_, fun W h => ?_⟩
      · obtain ⟨b, off, rfl, ha⟩ := h (by omega)
        exact of_kind b off n c k l K A B C W ha hk (by omega) hK hpos
      · obtain ⟨b, off, rfl, ha⟩ := h (by omega)
        exact ref_kind b off n c k l K A B C W ha hk (by omega) hK hpos
theorem agg3_equalIn (a b c a' b' c' : Int) (w : World) : (Op.equalIn 10000 56 (.agg #[.int .i64 a, .int .i64 b, .int .i64 c]) (.agg #[.int .i64 a', .int .i64 b', .int .i64 c'])).run Try.prog w = .ok (a == a' && b == b' && c == c') w := by
  have u2 := Try.underlying2
  have a2 := Try.isAgg2
  have z2 := Try.sizeOf2
  have u3 := Try.underlying3
  have a3 := Try.isAgg3
  have z3 := Try.sizeOf3
  have hS : Try.prog.underlying 56 = some (.struct (Try.prog.fieldsOf 56)) := by kernel_rfl
  rw [show (10000 : Nat) = 9999 + 1 from rfl, run_equalIn_agg w 9999 56 _ _ hS (by kernel_rfl)]
  simp only [Program.fieldsOf, Try.underlying56]
  go_simp
  by_cases h1 : a = a' <;> by_cases h2 : b = b' <;> by_cases h3 : c = c' <;> simp [h1, h2, h3]
theorem agg3_same (x y z : Int) (w : World) : (binOp .eql 56 (.agg #[.int .i64 x, .int .i64 y, .int .i64 z]) (.agg #[.int .i64 x, .int .i64 y, .int .i64 z])).run Try.prog w = .ok (.bool true) w := by
  rw [run_eql_struct, agg3_equalIn]; simp [Result.andThen_ok]

set_option maxRecDepth 100000 in
set_option maxHeartbeats 2000000 in
theorem oflaw_any (p : Option Addr) (n c : Nat) (l : Int) (K A B C : Nat → Int) (w : World) (hA : AtomsIn w p n K A B C) (hn : n ≤ 9223372036854775807) (l0 : -9223372036854775808 ≤ l) (l1 : l ≤ 9223372036854775807) (hC : ∀ i, i < n → I64 (C i)) :
    Calls Try.prog 10 #[.slice p n c, .int .i64 l] w fun e w' => e = .returned (.bool true) ∧ Below w.heap.size w w' := by
  by_cases hbig : 1000 < n
  · clear hA hC
    go_enter Try.func10, Try.ntmps10
    go_wp2_with fail
    refine (known_any _).mono ?_
    rintro e w1 ⟨rfl, hb⟩
    go_wp2_with fail
    go_ret
    exact ⟨rfl, hb⟩
  · obtain ⟨x, y, z, e, h1, h2⟩ := of_same p n c l K A B C (by omega) l0 l1 hC
    have HE := fun W => agg3_same x y z W
    have hee : (e == e) = true := by simp
    have HA := Lib.hid hA
    clear hA hC
    go_enter Try.func10, Try.ntmps10
    go_wp2_with fail
    refine (h1 _ HA.out).mono ?_
    rintro e1 w1 ⟨rfl, hb1⟩
    have HA1 := Lib.hid ((HA.out.later hb1).later (below1 w1 (.cells #[.int .i64 x, .int .i64 y, .int .i64 z] 56)))
    have hB1 := chain hb1 (below1 w1 (.cells #[.int .i64 x, .int .i64 y, .int .i64 z] 56))
    have x0 : (w1.alloc (.cells #[.int .i64 x, .int .i64 y, .int .i64 z] 56)).cell? ⟨w1.heap.size, 0, none⟩ = some (.int .i64 x) := by simp [go_sem]
    have x1 : (w1.alloc (.cells #[.int .i64 x, .int .i64 y, .int .i64 z] 56)).cell? ⟨w1.heap.size, 1, none⟩ = some (.int .i64 y) := by simp [go_sem]
    have x2 : (w1.alloc (.cells #[.int .i64 x, .int .i64 y, .int .i64 z] 56)).cell? ⟨w1.heap.size, 2, none⟩ = some (.int .i64 z) := by simp [go_sem]
    have X0 := Lib.hid x0
    have X1 := Lib.hid x1
    have X2 := Lib.hid x2
    have HB1 := Lib.hid hB1
    clear hb1 hB1 x0 x1 x2 HA h1
    go_wp2_with fail
    refine (h2 _ HA1.out).mono ?_
    rintro e2 w2 ⟨rfl, hb2⟩
    have x0 := cell_later (below1 w2 (.cells #[.int .i64 x, .int .i64 y, .int .i64 z] 56)) (cell_later hb2 X0.out)
    have x1 := cell_later (below1 w2 (.cells #[.int .i64 x, .int .i64 y, .int .i64 z] 56)) (cell_later hb2 X1.out)
    have x2 := cell_later (below1 w2 (.cells #[.int .i64 x, .int .i64 y, .int .i64 z] 56)) (cell_later hb2 X2.out)
    have HB2 := Lib.hid (chain (chain HB1.out hb2) (below1 w2 (.cells #[.int .i64 x, .int .i64 y, .int .i64 z] 56)))
    clear hb2 HB1 X0 X1 X2 HA1 h2
    go_wp2_with fail
    refine (known_any _).mono ?_
    rintro e3 w3 ⟨rfl, hb3⟩
    have hB3 := chain HB2.out hb3
    clear hb3 HB2 x0 x1 x2
    go_wp2_with fail
    go_ret
    exact ⟨rfl, hB3⟩
end Go.Proofs.Ytiadnifbjdnflaa
