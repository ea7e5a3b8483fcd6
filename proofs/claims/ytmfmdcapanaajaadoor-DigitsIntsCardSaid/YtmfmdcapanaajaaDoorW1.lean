/- Contracts of the two-word arithmetic, by walking the text. -/
import Derived.Test.YtmfmdcapanaajaaDoorProg
import Derived.WalkKit
import Derived.WalkSpells
import Derived.WalkLawsBesides
import Derived.Below
import Derived.Laws.Externs
import Derived.Outline
import Derived.Lib.Hide
namespace Go.Proofs.YtmfmdcapanaajaaDoor
open Go Go.RowKit

theorem add64 (x y c : Int) (hx : 0 ≤ x) (hy : 0 ≤ y) (h0 : 0 ≤ c) (hc : c ≤ 1) (w : World) :
    (callFunc 39 #[.int .u64 x, .int .u64 y, .int .u64 c]).run Tryd.prog w = .ok (.value (.tuple #[.int .u64 ((x + y + c) % 18446744073709551616), .int .u64 ((x + y + c) / 18446744073709551616)])) w := by
  rw [run_callFunc_extern Tryd.func39 (by kernel_rfl) (by kernel_rfl) (by kernel_rfl) (e := add64Entry) (by kernel_rfl), run_add64 x y c hx hy h0 hc]
  rfl

/-- the upper and the lower word of a number. -/
def hiW (s : Int) : Int := s / 18446744073709551616 % 18446744073709551616
def loW (s : Int) : Int := s % 18446744073709551616
theorem hiW_bd (s : Int) : 0 ≤ hiW s ∧ hiW s ≤ 18446744073709551615 := by unfold hiW; omega
theorem loW_bd (s : Int) : 0 ≤ loW s ∧ loW s ≤ 18446744073709551615 := by unfold loW; omega

/-- the carry of a number and one more word. -/
def cyW (s x : Int) : Int := (s % 18446744073709551616 + x % 18446744073709551616) / 18446744073709551616
theorem add_lo (s x : Int) (w : World) :
    (callFunc 39 #[.int .u64 (loW s), .int .u64 (IntKind.u64.wrap x), .int .u64 0]).run Tryd.prog w = .ok (.value (.tuple #[.int .u64 (loW (s + x)), .int .u64 (cyW s x)])) w := by
  have hs := loW_bd s
  have hx : IntKind.u64.wrap x = x % 18446744073709551616 := by simp [IntKind.wrap, IntKind.signed, IntKind.bits]
  rw [hx, add64 _ _ _ hs.1 (by omega) (by omega) (by omega)]
  have e1 : (loW s + x % 18446744073709551616 + 0) % 18446744073709551616 = loW (s + x) := by unfold loW; omega
  have e2 : (loW s + x % 18446744073709551616 + 0) / 18446744073709551616 = cyW s x := by unfold loW cyW; omega
  rw [e1, e2]
def cyH (s x : Int) : Int := (hiW s + (x / 9223372036854775808) % 18446744073709551616 + cyW s x) / 18446744073709551616
theorem add_hi (s x : Int) (h0 : -9223372036854775808 ≤ x) (h1 : x ≤ 9223372036854775807) (w : World) :
    (callFunc 39 #[.int .u64 (hiW s), .int .u64 (IntKind.u64.wrap (x / 9223372036854775808)), .int .u64 (cyW s x)]).run Tryd.prog w = .ok (.value (.tuple #[.int .u64 (hiW (s + x)), .int .u64 (cyH s x)])) w := by
  have hs := hiW_bd s
  have hc : 0 ≤ cyW s x ∧ cyW s x ≤ 1 := by unfold cyW; omega
  have hx : IntKind.u64.wrap (x / 9223372036854775808) = (x / 9223372036854775808) % 18446744073709551616 := by simp [IntKind.wrap, IntKind.signed, IntKind.bits]
  rw [hx, add64 _ _ _ hs.1 (by omega) hc.1 hc.2]
  have e1 : (hiW s + (x / 9223372036854775808) % 18446744073709551616 + cyW s x) % 18446744073709551616 = hiW (s + x) := by
    have k1 : (s + x) / 18446744073709551616 = s / 18446744073709551616 + x / 9223372036854775808 + cyW s x := by unfold cyW; omega
    unfold hiW; rw [k1]
    generalize s / 18446744073709551616 = A; generalize x / 9223372036854775808 = B; generalize cyW s x = C
    omega
  rw [e1]
  rfl
theorem below3 (w : World) (o1 o2 o3 : Obj) : Below w.heap.size w (((w.alloc o1).alloc o2).alloc o3) :=
  (((Below.refl _ _).alloc (Nat.le_refl _) _).alloc (by simp) _).alloc (by simp; omega) _
theorem below2 (w : World) (o1 o2 : Obj) : Below w.heap.size w ((w.alloc o1).alloc o2) :=
  ((Below.refl _ _).alloc (Nat.le_refl _) _).alloc (by simp) _
def tsum (a b c d : Int) : Nat → Int
  | 0 => 0
  | 1 => a
  | 2 => a + b
  | 3 => a + b + c
  | _ => a + b + c + d
theorem tsum_1 (a b c d : Int) : tsum a b c d 1 = 0 + a := (Int.zero_add a).symm

set_option maxRecDepth 100000 in
theorem total_any (a b c d : Int) (w : World) (a0 : -9223372036854775808 ≤ a) (a1 : a ≤ 9223372036854775807) (b0 : -9223372036854775808 ≤ b) (b1 : b ≤ 9223372036854775807) (c0 : -9223372036854775808 ≤ c) (c1 : c ≤ 9223372036854775807) (d0 : -9223372036854775808 ≤ d) (d1 : d ≤ 9223372036854775807) :
    Calls Tryd.prog 37 #[.agg #[.int .i64 a, .int .i64 b, .int .i64 c, .int .i64 d]] w fun e w' => e = .returned (.agg #[.int .u64 (hiW (a + b + c + d)), .int .u64 (loW (a + b + c + d))]) ∧ Below w.heap.size w w' := by
  have i0 : ∀ w, (Instr.index 63 (.agg #[.int .i64 a, .int .i64 b, .int .i64 c, .int .i64 d]) (.int .i64 0)).run Tryd.prog w = .ok (.int .i64 a) w := fun _ => by kernel_rfl
  have i1 : ∀ w, (Instr.index 63 (.agg #[.int .i64 a, .int .i64 b, .int .i64 c, .int .i64 d]) (.int .i64 1)).run Tryd.prog w = .ok (.int .i64 b) w := fun _ => by kernel_rfl
  have i2 : ∀ w, (Instr.index 63 (.agg #[.int .i64 a, .int .i64 b, .int .i64 c, .int .i64 d]) (.int .i64 2)).run Tryd.prog w = .ok (.int .i64 c) w := fun _ => by kernel_rfl
  have i3 : ∀ w, (Instr.index 63 (.agg #[.int .i64 a, .int .i64 b, .int .i64 c, .int .i64 d]) (.int .i64 3)).run Tryd.prog w = .ok (.int .i64 d) w := fun _ => by kernel_rfl
  go_enter Tryd.func37, Tryd.ntmps37
  go_wp2
  go_loopw [8] (fun i wr => ∃ k : Nat, k ≤ 4 ∧ i = .int .i64 k ∧ wr = ((w.alloc (.cells #[.int .i64 a, .int .i64 b, .int .i64 c, .int .i64 d] 63)).alloc (.cells #[.int .u64 0, .int .u64 0] 61)).alloc (.cells #[.int .u64 (hiW (tsum a b c d k)), .int .u64 (loW (tsum a b c d k))] 61)) (fun i _ => 4 - (intOf i).toNat)
  case atStart => exact ⟨0, by omega, rfl, rfl⟩
  case round =>
    obtain ⟨k, hk, rfl, rfl⟩ := hrel
    have hk5 : k = 0 ∨ k = 1 ∨ k = 2 ∨ k = 3 ∨ k = 4 := by omega
    rcases hk5 with rfl | rfl | rfl | rfl | rfl
    · have A := fun w => add_lo (tsum a b c d 0) a w
      have B := fun w => add_hi (tsum a b c d 0) a a0 a1 w
      go_wp2
      go_roundw
      case rel => exact ⟨1, by omega, rfl, by rw [show tsum a b c d 0 + a = tsum a b c d 1 from Int.zero_add a]⟩
      case measure => simp [intOf]
    · have A := fun w => add_lo (tsum a b c d 1) b w
      have B := fun w => add_hi (tsum a b c d 1) b b0 b1 w
      go_wp2
      go_roundw
      case rel => exact ⟨2, by omega, rfl, rfl⟩
      case measure => simp [intOf]
    · have A := fun w => add_lo (tsum a b c d 2) c w
      have B := fun w => add_hi (tsum a b c d 2) c c0 c1 w
      go_wp2
      go_roundw
      case rel => exact ⟨3, by omega, rfl, rfl⟩
      case measure => simp [intOf]
    · have A := fun w => add_lo (tsum a b c d 3) d w
      have B := fun w => add_hi (tsum a b c d 3) d d0 d1 w
      go_wp2
      go_roundw
      case rel => exact ⟨4, by omega, rfl, rfl⟩
      case measure => simp [intOf]
    · go_wp2
      refine bodyPost_ret (v := .agg #[.int .u64 (hiW (tsum a b c d 4)), .int .u64 (loW (tsum a b c d 4))]) (by simp [results, Tryd.results37, go_sem]) rfl ⟨rfl, ?_⟩
      exact below3 _ _ _ _

theorem wrap_u (x : Int) : IntKind.u64.wrap x = x % 18446744073709551616 := by simp [IntKind.wrap, IntKind.signed, IntKind.bits]
theorem wrap64_eq (x : Int) : wrap64 x = (x + 9223372036854775808) % 18446744073709551616 - 9223372036854775808 := by
  simp only [wrap64]
theorem sat_one (s : Int) : wrap64 (loW s) = (s + 9223372036854775808) % 18446744073709551616 - 9223372036854775808 := by
  rw [wrap64_eq]; unfold loW; omega
theorem sat_fits (s : Int) (h0 : -9223372036854775808 ≤ s) (h1 : s ≤ 9223372036854775807) : (IntKind.u64.wrap (wrap64 (loW s) / 9223372036854775808) == hiW s) = true := by
  rw [sat_one, wrap_u, beq_iff_eq]; unfold hiW; omega
theorem sat_not (s : Int) (h : s < -9223372036854775808 ∨ 9223372036854775807 < s) (h0 : -170141183460469231731687303715884105728 ≤ s) (h1 : s ≤ 170141183460469231731687303715884105727) : (IntKind.u64.wrap (wrap64 (loW s) / 9223372036854775808) == hiW s) = false := by
  rw [sat_one, wrap_u, beq_eq_false_iff_ne]; unfold hiW; omega
theorem sat_low (s : Int) (h : s < -9223372036854775808) (h0 : -170141183460469231731687303715884105728 ≤ s) : wrap64 (hiW s) < 0 := by
  rw [wrap64_eq]; unfold hiW; omega
theorem sat_high (s : Int) (h : 9223372036854775807 < s) (h1 : s ≤ 170141183460469231731687303715884105727) : 0 ≤ wrap64 (hiW s) := by
  rw [wrap64_eq]; unfold hiW; omega

set_option maxRecDepth 100000 in
theorem sat_in (s low : Int) (w : World) (h0 : -9223372036854775808 ≤ s) (h1 : s ≤ 9223372036854775807) :
    Calls Tryd.prog 36 #[.agg #[.int .u64 (hiW s), .int .u64 (loW s)], .int .i64 low] w fun e w' => e = .returned (.agg #[.int .i64 s, .int .i64 low]) ∧ Below w.heap.size w w' := by
  have F := sat_fits s h0 h1
  go_enter Tryd.func36, Tryd.ntmps36
  go_wp2
  refine bodyPost_ret (v := .agg #[.int .i64 (wrap64 (loW s)), .int .i64 low]) (by simp [results, Tryd.results36, go_sem]) rfl ⟨?_, below2 _ _ _⟩
  rw [show wrap64 (loW s) = s by rw [sat_one]; omega]
set_option maxRecDepth 100000 in
theorem sat_under (s low : Int) (w : World) (h : s < -9223372036854775808) (h0 : -170141183460469231731687303715884105728 ≤ s) :
    Calls Tryd.prog 36 #[.agg #[.int .u64 (hiW s), .int .u64 (loW s)], .int .i64 low] w fun e w' => e = .returned (.agg #[.int .i64 (-9223372036854775808), .int .i64 0]) ∧ Below w.heap.size w w' := by
  have F := sat_not s (by omega) h0 (by omega)
  have G := sat_low s h h0
  clear h h0
  go_enter Tryd.func36, Tryd.ntmps36
  go_wp2
  exact bodyPost_ret (v := .agg #[.int .i64 (-9223372036854775808), .int .i64 0]) (by simp [results, Tryd.results36, go_sem]) rfl ⟨rfl, below2 _ _ _⟩
set_option maxRecDepth 100000 in
theorem sat_over (s low : Int) (w : World) (h : 9223372036854775807 < s) (h1 : s ≤ 170141183460469231731687303715884105727) :
    Calls Tryd.prog 36 #[.agg #[.int .u64 (hiW s), .int .u64 (loW s)], .int .i64 low] w fun e w' => e = .returned (.agg #[.int .i64 9223372036854775807, .int .i64 0]) ∧ Below w.heap.size w w' := by
  have F := sat_not s (by omega) (by omega) h1
  have G := sat_high s h h1
  clear h h1
  go_enter Tryd.func36, Tryd.ntmps36
  go_wp2
  exact bodyPost_ret (v := .agg #[.int .i64 9223372036854775807, .int .i64 0]) (by simp [results, Tryd.results36, go_sem]) rfl ⟨rfl, below2 _ _ _⟩
end Go.Proofs.YtmfmdcapanaajaaDoor
