/- cycles.Sum: whether edges are a cycle, and the sign of their sum. -/
import Derived.Test.YtiadnifbjdnflaaOf
import Derived.Laws.Bits128
import Derived.Laws.StructEq
import Derived.Tactics
import Derived.Tactics2
import Derived.LoopTactic
namespace Go.Proofs.Ytiadnifbjdnflaa
open Go Go.RowKit

theorem add64 (x y c : Int) (hx : 0 ≤ x) (hy : 0 ≤ y) (h0 : 0 ≤ c) (hc : c ≤ 1) (w : World) :
    (callFunc 61 #[.int .u64 x, .int .u64 y, .int .u64 c]).run Try.prog w = .ok (.value (.tuple #[.int .u64 ((x + y + c) % 18446744073709551616), .int .u64 ((x + y + c) / 18446744073709551616)])) w := by
  rw [run_callFunc_extern Try.func61 (by kernel_rfl) (by kernel_rfl) (by kernel_rfl) (e := add64Entry) (by kernel_rfl), run_add64 x y c hx hy h0 hc]
  rfl

/-- the upper and the lower word of a number. -/
def hiW (s : Int) : Int := s / 18446744073709551616 % 18446744073709551616
def loW (s : Int) : Int := s % 18446744073709551616
theorem hiW_bd (s : Int) : 0 ≤ hiW s ∧ hiW s ≤ 18446744073709551615 := by unfold hiW; omega
theorem loW_bd (s : Int) : 0 ≤ loW s ∧ loW s ≤ 18446744073709551615 := by unfold loW; omega

/-- the carry of a number and one more word. -/
def cyW (s x : Int) : Int := (s % 18446744073709551616 + x % 18446744073709551616) / 18446744073709551616
theorem add_lo (s x : Int) (w : World) :
    (callFunc 61 #[.int .u64 (loW s), .int .u64 (IntKind.u64.wrap x), .int .u64 0]).run Try.prog w = .ok (.value (.tuple #[.int .u64 (loW (s + x)), .int .u64 (cyW s x)])) w := by
  have hs := loW_bd s
  have hx : IntKind.u64.wrap x = x % 18446744073709551616 := by simp [IntKind.wrap, IntKind.signed, IntKind.bits]
  rw [hx, add64 _ _ _ hs.1 (by omega) (by omega) (by omega)]
  have e1 : (loW s + x % 18446744073709551616 + 0) % 18446744073709551616 = loW (s + x) := by unfold loW; omega
  have e2 : (loW s + x % 18446744073709551616 + 0) / 18446744073709551616 = cyW s x := by unfold loW cyW; omega
  rw [e1, e2]
def cyH (s x : Int) : Int := (hiW s + (x / 9223372036854775808) % 18446744073709551616 + cyW s x) / 18446744073709551616
theorem add_hi (s x : Int) (h0 : -9223372036854775808 ≤ x) (h1 : x ≤ 9223372036854775807) (w : World) :
    (callFunc 61 #[.int .u64 (hiW s), .int .u64 (IntKind.u64.wrap (x / 9223372036854775808)), .int .u64 (cyW s x)]).run Try.prog w = .ok (.value (.tuple #[.int .u64 (hiW (s + x)), .int .u64 (cyH s x)])) w := by
  have hs := hiW_bd s
  have hc : 0 ≤ cyW s x ∧ cyW s x ≤ 1 := by unfold cyW; omega
  have hx : IntKind.u64.wrap (x / 9223372036854775808) = (x / 9223372036854775808) % 18446744073709551616 := by simp [IntKind.wrap, IntKind.signed, IntKind.bits]
  rw [hx, add64 _ _ _ hs.1 (by omega) hc.1 hc.2]
  have e1 : (hiW s + (x / 9223372036854775808) % 18446744073709551616 + cyW s x) % 18446744073709551616 = hiW (s + x) := by
    have k1 : (s + x) / 18446744073709551616 = s / 18446744073709551616 + x / 9223372036854775808 + cyW s x := by unfold cyW; omega
    unfold hiW; rw [k1]
    generalize s / 18446744073709551616 = A; generalize x / 9223372036854775808 = B; generalize cyW s x = C
    omega
  rw [e1]
  rfl
theorem two_equalIn (c0 c1 : Int) (w : World) : (Op.equalIn 10000 84 (.agg #[.int .u64 c0, .int .u64 c1]) (.agg #[.int .u64 0, .int .u64 0])).run Try.prog w = .ok ((c0 == 0) && (c1 == 0)) w := by
  have u2 := Try.underlying49
  have a2 := Try.isAgg49
  have z2 := Try.sizeOf49
  rw [show (10000 : Nat) = 9999 + 1 from rfl, Op.equalIn]
  simp only [Sem.run_bind, run_underlying Try.underlying84, Result.andThen_ok]
  simp only [Std.Legacy.Range.forIn_eq_forIn_range', Std.Legacy.Range.size, Nat.sub_zero, Nat.add_sub_cancel, Nat.div_one, List.range'_succ, List.range'_zero, List.forIn_cons, List.forIn_nil]
  go_simp
  repeat' split
  all_goals simp_all
theorem two_eql (c0 c1 : Int) (w : World) : (binOp .eql 84 (.agg #[.int .u64 c0, .int .u64 c1]) (.agg #[.int .u64 0, .int .u64 0])).run Try.prog w = .ok (.bool ((c0 == 0) && (c1 == 0))) w := by
  rw [run_eql_struct, two_equalIn]; rfl
theorem wrap_u (x : Int) : IntKind.u64.wrap x = x % 18446744073709551616 := by simp [IntKind.wrap, IntKind.signed, IntKind.bits]
/-- edges in memory: n of them, three cells each. -/
structure EdgesAt (w : World) (b off n : Nat) (X Y C : Nat → Int) : Prop where
  k0 : ∀ i, i < n → w.cell? ⟨b, off + i * 3, none⟩ = some (.int .i64 (X i))
  k1 : ∀ i, i < n → w.cell? ⟨b, off + i * 3 + 1, none⟩ = some (.int .i64 (Y i))
  k2 : ∀ i, i < n → w.cell? ⟨b, off + i * 3 + 2, none⟩ = some (.int .i64 (C i))
theorem EdgesAt.later {W W' : World} {b off n : Nat} {X Y C : Nat → Int} (h : EdgesAt W b off n X Y C) (hb : Below W.heap.size W W') : EdgesAt W' b off n X Y C :=
  ⟨fun i hi => cell_later hb (h.k0 i hi), fun i hi => cell_later hb (h.k1 i hi), fun i hi => cell_later hb (h.k2 i hi)⟩
def I64 (x : Int) : Prop := -9223372036854775808 ≤ x ∧ x ≤ 9223372036854775807
/-- the sum of the first bounds. -/
def sumC (C : Nat → Int) : Nat → Int
  | 0 => 0
  | k + 1 => sumC C k + C k
theorem sumC_bd (C : Nat → Int) (n : Nat) (h : ∀ i, i < n → I64 (C i)) : ∀ k, k ≤ n → -9223372036854775808 * (k : Int) ≤ sumC C k ∧ sumC C k ≤ 9223372036854775807 * (k : Int) := by
  intro k
  induction k with
  | zero => intro _; simp [sumC]
  | succ k ih =>
    intro hk
    have h1 := ih (by omega)
    have h2 := h k (by omega)
    unfold I64 at h2
    simp only [sumC]
    omega
/-- the end of the edge ahead of one. -/
def prevY (Y : Nat → Int) (n i : Nat) : Int := if i = 0 then Y (n - 1) else Y (i - 1)
def Cyc (n : Nat) (X Y : Nat → Int) : Prop := ∀ i, i < n → prevY Y n i = X i
def sgn (t : Int) : Int := if t = 0 then 0 else if t < 0 then -1 else 1
open Classical in
/-- what Sum tells. -/
noncomputable def sumV (n : Nat) (X Y C : Nat → Int) : Value :=
  if 5000 < n then .tuple #[.int .i64 0, .int .i64 3] else if n = 0 then .tuple #[.int .i64 0, .int .i64 5] else if Cyc n X Y then .tuple #[.int .i64 (sgn (sumC C n)), .int .i64 0] else .tuple #[.int .i64 0, .int .i64 5]
theorem sum_sgn (t : Int) (h0 : -46116860184273879040000 ≤ t) (h1 : t ≤ 46116860184273879040000) : ((hiW t == 0 && loW t == 0) = true ∧ sgn t = 0) ∨ ((hiW t == 0 && loW t == 0) = false ∧ wrap64 (hiW t) < 0 ∧ sgn t = -1) ∨ ((hiW t == 0 && loW t == 0) = false ∧ 0 ≤ wrap64 (hiW t) ∧ sgn t = 1) := by
  unfold sgn
  rcases Int.lt_trichotomy t 0 with h | h | h
  · refine Or.inr (Or.inl ⟨?_, ?_, ?_⟩)
    · have : hiW t ≠ 0 := by unfold hiW; omega
      simp [this]
    · rw [wrap64_eq]; unfold hiW; omega
    · rw [if_neg (by omega), if_pos h]
  · subst h
    exact Or.inl ⟨by decide, rfl⟩
  · refine Or.inr (Or.inr ⟨?_, ?_, ?_⟩)
    · by_cases hh : hiW t = 0
      · have : loW t ≠ 0 := by unfold hiW at hh; unfold loW; omega
        simp [this]
      · simp [hh]
    · rw [wrap64_eq]; unfold hiW; omega
    · rw [if_neg (by omega), if_neg (by omega)]

set_option maxRecDepth 100000 in
set_option maxHeartbeats 1000000 in
theorem sum_long (p : Option Addr) (n c : Nat) (w : World) (hn : n ≤ 4611686018427387904) (h : 5000 < n ∨ n = 0) :
    Calls Try.prog 43 #[.slice p n c] w fun e w' => e = .returned (.tuple #[.int .i64 0, .int .i64 (if n = 0 then 5 else 3)]) ∧ w' = w := by
  rcases h with h | rfl
  · rw [if_neg (by omega)]
    go_enter Try.func43, Try.ntmps43
    go_wp2
    go_ret2
    exact ⟨rfl, rfl⟩
  · go_enter Try.func43, Try.ntmps43
    go_wp2
    go_ret2
    exact ⟨rfl, rfl⟩

/-- the two blocks of Sum: the edge ahead, and the sum's two words. -/
structure SumAt (w : World) (B : Nat) (x y c s : Int) : Prop where
  b0 : w.cell? ⟨B, 0, none⟩ = some (.int .i64 x)
  b1 : w.cell? ⟨B, 1, none⟩ = some (.int .i64 y)
  b2 : w.cell? ⟨B, 2, none⟩ = some (.int .i64 c)
  t0 : w.cell? ⟨B + 1, 0, none⟩ = some (.int .u64 (hiW s))
  t1 : w.cell? ⟨B + 1, 1, none⟩ = some (.int .u64 (loW s))
  f0 : w.frozen? ⟨B, 0, none⟩ = false
  f1 : w.frozen? ⟨B, 1, none⟩ = false
  f2 : w.frozen? ⟨B, 2, none⟩ = false
  g0 : w.frozen? ⟨B + 1, 0, none⟩ = false
  g1 : w.frozen? ⟨B + 1, 1, none⟩ = false
theorem keep {W w1 : World} (hb : Below W.heap.size W w1) {a : Addr} {v : Value} (h : W.cell? a = some v) (hf : W.frozen? a = false) : w1.frozen? a = false := by
  rw [← hf]; exact hb.frozen (World.block_lt_of_cell? W a h)
theorem SumAt.alloc {w : World} {B : Nat} {x y c s : Int} (h : SumAt w B x y c s) (o : Obj) : SumAt (w.alloc o) B x y c s := by
  have hb := below1 w o
  exact ⟨cell_later hb h.b0, cell_later hb h.b1, cell_later hb h.b2, cell_later hb h.t0, cell_later hb h.t1, keep hb h.b0 h.f0, keep hb h.b1 h.f1, keep hb h.b2 h.f2, keep hb h.t0 h.g0, keep hb h.t1 h.g1⟩

theorem SumAt.next {w : World} {B : Nat} {x y c s : Int} (h : SumAt w B x y c s) (x' y' c' s' : Int) : SumAt (((((w.setCell ⟨B + 1, 1, none⟩ (.int .u64 (loW s'))).setCell ⟨B + 1, 0, none⟩ (.int .u64 (hiW s'))).setCell ⟨B, 0, none⟩ (.int .i64 x')).setCell ⟨B, 1, none⟩ (.int .i64 y')).setCell ⟨B, 2, none⟩ (.int .i64 c')) B x' y' c' s' := by
  obtain ⟨b0, b1, b2, t0, t1, f0, f1, f2, g0, g1⟩ := h
  constructor <;> simp [go_sem, b0, b1, b2, t0, t1, f0, f1, f2, g0, g1]

set_option maxRecDepth 100000 in
set_option maxHeartbeats 4000000 in
theorem sum_in (b off n c : Nat) (X Y C : Nat → Int) (w : World) (hE : EdgesAt w b off n X Y C) (h0 : 1 ≤ n) (h1 : n ≤ 5000) (hC : ∀ i, i < n → I64 (C i)) :
    Calls Try.prog 43 #[.slice (some ⟨b, off, none⟩) n c] w fun e w' => e = .returned (sumV n X Y C) ∧ Below w.heap.size w w' := by
  have hS := sumC_bd C n hC
  have HC := Lib.hid hC
  have HS := Lib.hid hS
  have HE := Lib.hid hE
  clear hC hS hE
  have e0 := HE.out.k0 (n - 1) (by omega)
  have e1 := HE.out.k1 (n - 1) (by omega)
  have e2 := HE.out.k2 (n - 1) (by omega)
  have hn1 : ((n : Int) - 1) = ((n - 1 : Nat) : Int) := by omega
  go_enter Try.func43, Try.ntmps43
  go_wp2
  have hB := below2 w (.cells #[.int .i64 (X (n - 1)), .int .i64 (Y (n - 1)), .int .i64 (C (n - 1))] 56) (.cells #[.int .u64 0, .int .u64 0] 84)
  have hst : ∃ W : World, W = (w.alloc (.cells #[.int .i64 (X (n - 1)), .int .i64 (Y (n - 1)), .int .i64 (C (n - 1))] 56)).alloc (.cells #[.int .u64 0, .int .u64 0] 84) := ⟨_, rfl⟩
  obtain ⟨W, hW⟩ := hst
  have s0 : SumAt W w.heap.size (X (n - 1)) (Y (n - 1)) (C (n - 1)) 0 := by rw [hW]; constructor <;> simp [go_sem, hiW, loW]
  have hsz : w.heap.size + 1 + 1 ≤ W.heap.size := by rw [hW]; simp
  rw [← hW] at hB ⊢
  clear hW e0 e1 e2
  go_loopw [23] (fun i wr => ∃ (j : Nat) (x c' : Int), j ≤ n ∧ i = .int .i64 j ∧ SumAt wr w.heap.size x (prevY Y n j) c' (sumC C j) ∧ (∀ i, i < j → prevY Y n i = X i) ∧ Below w.heap.size w wr ∧ w.heap.size + 1 + 1 ≤ wr.heap.size) (fun i _ => n - (intOf i).toNat)
  case atStart => exact ⟨0, _, _, by omega, rfl, s0, fun i hi => by omega, hB, hsz⟩
  case round =>
    obtain ⟨j, x, c', hj, rfl, hs, hcy, hb, hz⟩ := hrel
    have HCY := Lib.hid hcy
    have HB := Lib.hid hb
    have HSS := Lib.hid hs
    clear hcy hb hs s0 hB hsz
    by_cases hlt : j < n
    · have hj0 : (0 : Int) ≤ (j : Int) := by omega
      have hj1 : (j : Int) < (n : Int) := by omega
      have he := HE.out.later HB.out
      have e0 := he.k0 j hlt
      have e1 := he.k1 j hlt
      have e2 := he.k2 j hlt
      clear he
      have hA := (HSS.out).alloc (.cells #[.int .i64 (X j), .int .i64 (Y j), .int .i64 (C j)] 56)
      obtain ⟨b0, b1, b2, t0, t1, f0, f1, f2, g0, g1⟩ := hA
      have hcj := HC.out j hlt
      have A := fun w => add_lo (sumC C j) (C j) w
      have B := fun w => add_hi (sumC C j) (C j) hcj.1 hcj.2 w
      by_cases heq : prevY Y n j = X j
      · have h1 : (prevY Y n j == X j) = true := by simp [heq]
        have h2 : (prevY Y n j != X j) = false := by simp [heq]
        obtain ⟨py, hpy⟩ : ∃ py, py = prevY Y n j := ⟨_, rfl⟩
        rw [← hpy] at b1 heq h1 h2 HSS
        have HPY := Lib.hid hpy.symm
        clear hpy
        go_wp2
        go_roundw
        case rel => exact ⟨j + 1, _, _, by omega, by go_num, by rw [show prevY Y n (j + 1) = Y j from rfl]; exact ((HSS.out).alloc _).next _ _ _ _, fun i hi => by
            by_cases hij : i < j
            · exact HCY.out i hij
            · obtain rfl : i = j := by omega
              rw [HPY.out]; exact heq, (((((((HB.out).alloc (by omega) _).setCell (by simp) _).setCell (by simp) _).setCell (by simp) _).setCell (by simp) _).setCell (by simp) _), by simp; omega⟩
        case measure => simp [intOf]; omega
      · have h1 : (prevY Y n j == X j) = false := by simp [heq]
        have h2 : (prevY Y n j != X j) = true := by simp [heq]
        have hv : sumV n X Y C = .tuple #[.int .i64 0, .int .i64 5] := by
          unfold sumV
          rw [if_neg (by omega), if_neg (by omega), if_neg (fun hc => heq (hc j hlt))]
        have HVV := Lib.hid hv
        have hBB := (HB.out).alloc (by omega) (.cells #[.int .i64 (X j), .int .i64 (Y j), .int .i64 (C j)] 56)
        clear hv
        generalize prevY Y n j = py at *
        go_wp2
        go_ret2
        exact ⟨by rw [HVV.out]; rfl, hBB⟩
    · obtain rfl : j = n := by omega
      have hv : sumV j X Y C = .tuple #[.int .i64 (sgn (sumC C j)), .int .i64 0] := by
        unfold sumV
        rw [if_neg (by omega), if_neg (by omega), if_pos (show Cyc j X Y from fun i hi => HCY.out i hi)]
      have HVV := Lib.hid hv
      obtain ⟨b0, b1, b2, t0, t1, f0, f1, f2, g0, g1⟩ := HSS.out
      have hbd := HS.out j (by omega)
      have E := fun w => two_eql (hiW (sumC C j)) (loW (sumC C j)) w
      have hsg := sum_sgn (sumC C j) (by omega) (by omega)
      have hBB := HB.out
      clear hv
      rcases hsg with ⟨h1, h2⟩ | ⟨h1, h2, h3⟩ | ⟨h1, h2, h3⟩
      · have HH := Lib.hid h2
        clear h2
        simp only [h1] at E
        go_wp2
        go_ret2
        exact ⟨by rw [HVV.out, HH.out]; rfl, hBB⟩
      · have HH := Lib.hid h3
        clear h3
        simp only [h1] at E
        go_wp2
        go_ret2
        exact ⟨by rw [HVV.out, HH.out]; rfl, hBB⟩
      · have HH := Lib.hid h3
        clear h3
        simp only [h1] at E
        go_wp2
        go_ret2
        exact ⟨by rw [HVV.out, HH.out]; rfl, hBB⟩
/-- Sum, of whatever edges. -/
theorem sum_any (b off n c : Nat) (X Y C : Nat → Int) (w : World) (hE : EdgesAt w b off n X Y C) (hn : n ≤ 4611686018427387904) (hC : ∀ i, i < n → I64 (C i)) :
    Calls Try.prog 43 #[.slice (some ⟨b, off, none⟩) n c] w fun e w' => e = .returned (sumV n X Y C) ∧ Below w.heap.size w w' := by
  by_cases h : 5000 < n ∨ n = 0
  · refine (sum_long _ n c w hn h).mono ?_
    rintro e w' ⟨rfl, rfl⟩
    refine ⟨?_, Below.refl _ _⟩
    unfold sumV
    rcases h with h | rfl
    · rw [if_pos h, if_neg (by omega)]
    · rfl
  · exact sum_in b off n c X Y C w hE (by omega) (by omega) hC
end Go.Proofs.Ytiadnifbjdnflaa
