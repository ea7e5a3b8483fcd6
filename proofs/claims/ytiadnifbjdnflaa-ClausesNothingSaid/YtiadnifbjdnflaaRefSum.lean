/- juristref18.Sign and Sum. -/
import Derived.Test.YtiadnifbjdnflaaScaleWalk
import Derived.OwnWalk
namespace Go.Proofs.Ytiadnifbjdnflaa
open Go Go.RowKit

theorem sumC_split (C : Nat → Int) : ∀ n, sumC C n = sumC (fun i => C i / 4294967296) n * 4294967296 + sumC (fun i => C i % 4294967296) n := by
  intro n
  induction n with
  | zero => simp [sumC]
  | succ n ih => simp only [sumC]; rw [ih]; omega
theorem sumC_hi (C : Nat → Int) (n : Nat) (h : ∀ i, i < n → I64 (C i)) : ∀ k, k ≤ n → -2147483648 * (k : Int) ≤ sumC (fun i => C i / 4294967296) k ∧ sumC (fun i => C i / 4294967296) k ≤ 2147483647 * (k : Int) := by
  intro k
  induction k with
  | zero => intro _; simp [sumC]
  | succ k ih =>
    intro hk
    have h1 := ih (by omega)
    have h2 := h k (by omega)
    unfold I64 at h2
    simp only [sumC]
    omega
theorem sumC_lo (C : Nat → Int) : ∀ k : Nat, 0 ≤ sumC (fun i => C i % 4294967296) k ∧ sumC (fun i => C i % 4294967296) k ≤ 4294967295 * (k : Int) := by
  intro k
  induction k with
  | zero => simp [sumC]
  | succ k ih => simp only [sumC]; omega

theorem low_step (y c : Int) (h0 : 0 ≤ y) (h1 : y ≤ 4611686018427387904) : wrap64 (wrap64 (y + c) - c / 4294967296 * 4294967296) = y + c % 4294967296 := by
  unfold wrap64; omega

set_option maxRecDepth 100000 in
set_option maxHeartbeats 800000 in
theorem sign_any (b n c : Nat) (C : Nat → Int) (w : World) (hV : ∀ i, i < n → w.cell? ⟨b, i, none⟩ = some (.int .i64 (C i))) (hn : n ≤ 6000) (hC : ∀ i, i < n → I64 (C i)) :
    Calls Try.prog 62 #[.slice (some ⟨b, 0, none⟩) n c] w fun e w' => e = .returned (.int .i64 (sgn (sumC C n))) ∧ w' = w := by
  have HV := Lib.hid hV
  have HC := Lib.hid hC
  have HH := Lib.hid (sumC_hi C n hC)
  have HL := Lib.hid (sumC_lo C)
  have HS := Lib.hid (sumC_split C n)
  clear hV hC
  go_enter Try.func62, Try.ntmps62
  go_wp2
  go_loopw [3, 4, 5] (fun h l i wr => ∃ j : Nat, j ≤ n ∧ w = wr ∧ i = .int .i64 j ∧ h = .int .i64 (sumC (fun i => C i / 4294967296) j) ∧ l = .int .i64 (sumC (fun i => C i % 4294967296) j)) (fun _ _ i _ => n - (intOf i).toNat)
  case atStart => exact ⟨0, by omega, rfl, rfl, rfl, rfl⟩
  case round =>
    obtain ⟨j, hj, rfl, rfl, rfl, rfl⟩ := hrel
    obtain ⟨a0, a1⟩ := HH.out j hj
    obtain ⟨b0, b1⟩ := HL.out j
    by_cases hlt : j < n
    · have cv := HV.out j hlt
      have hj0 : (0 : Int) ≤ (j : Int) := by omega
      have hj1 : (j : Int) < (n : Int) := by omega
      have hc := HC.out j hlt
      unfold I64 at hc
      obtain ⟨c0, c1⟩ := hc
      obtain ⟨x, hx⟩ : ∃ x, x = sumC (fun i => C i / 4294967296) j := ⟨_, rfl⟩
      obtain ⟨y, hy⟩ : ∃ y, y = sumC (fun i => C i % 4294967296) j := ⟨_, rfl⟩
      have HX := Lib.hid hx
      have HY := Lib.hid hy
      rw [← hx] at a0 a1 ⊢
      rw [← hy] at b0 b1 ⊢
      clear hx hy
      go_wp2
      go_roundw
      case rel =>
        refine ⟨j + 1, by omega, trivial, by go_num, by simp only [sumC]; rw [HX.out], ?_⟩
        simp only [sumC]
        rw [← HY.out, low_step y (C j) b0 (by omega)]
      case measure => simp [intOf]; omega
    · obtain rfl : j = n := by omega
      have hs := HS.out
      obtain ⟨x, hx⟩ : ∃ x, x = sumC (fun i => C i / 4294967296) j := ⟨_, rfl⟩
      obtain ⟨y, hy⟩ : ∃ y, y = sumC (fun i => C i % 4294967296) j := ⟨_, rfl⟩
      rw [← hx] at a0 a1 hs ⊢
      rw [← hy] at b0 b1 hs ⊢
      have hy2 : y.tmod 4294967296 = y % 4294967296 := Int.tmod_eq_emod_of_nonneg b0
      clear hx hy
      have key : (x + y / 4294967296 < 0 ∧ sgn (sumC C j) = -1) ∨ (x + y / 4294967296 = 0 ∧ y % 4294967296 = 0 ∧ sgn (sumC C j) = 0) ∨ (x + y / 4294967296 = 0 ∧ y % 4294967296 ≠ 0 ∧ sgn (sumC C j) = 1) ∨ (0 < x + y / 4294967296 ∧ sgn (sumC C j) = 1) := by
        unfold sgn
        rcases Int.lt_trichotomy (x + y / 4294967296) 0 with h | h | h
        · exact Or.inl ⟨h, by rw [if_neg (by omega), if_pos (by omega)]⟩
        · by_cases h2 : y % 4294967296 = 0
          · exact Or.inr (Or.inl ⟨h, h2, by rw [if_pos (by omega)]⟩)
          · exact Or.inr (Or.inr (Or.inl ⟨h, h2, by rw [if_neg (by omega), if_neg (by omega)]⟩))
        · exact Or.inr (Or.inr (Or.inr ⟨h, by rw [if_neg (by omega), if_neg (by omega)]⟩))
      clear hs
      rcases key with ⟨h, hg⟩ | ⟨h, h2, hg⟩ | ⟨h, h2, hg⟩ | ⟨h, hg⟩
      · have HG := Lib.hid hg
        clear hg
        go_wp2
        go_ret
        exact ⟨by rw [HG.out]; rfl, rfl⟩
      · have HG := Lib.hid hg
        have g1 : (x + y / 4294967296 == 0) = true := by simp [h]
        have g2 : (y % 4294967296 == 0) = true := by simp [h2]
        clear hg
        go_wp2
        go_ret
        exact ⟨by rw [HG.out]; rfl, rfl⟩
      · have HG := Lib.hid hg
        have g1 : (x + y / 4294967296 == 0) = true := by simp [h]
        have g2 : (y % 4294967296 == 0) = false := by simp [h2]
        clear hg
        go_wp2
        go_ret
        exact ⟨by rw [HG.out]; rfl, rfl⟩
      · have HG := Lib.hid hg
        have g1 : (x + y / 4294967296 == 0) = false := by rw [beq_eq_false_iff_ne]; omega
        have g3 : decide (x + y / 4294967296 < 0) = false := by rw [decide_eq_false_iff_not]; omega
        clear hg
        go_wp2
        go_ret
        exact ⟨by rw [HG.out]; rfl, rfl⟩

theorem info2 : ∃ i0, Try.prog.info? 2 = some i0 ∧ i0.zero = some (.int .i64 0) ∧ i0.size = 1 ∧ i0.bytes = 8 := by
  have h : (Try.prog.info? 2).map (fun i => (i.zero, i.size, i.bytes)) = some (some (.int .i64 0), 1, 8) := by kernel_rfl
  obtain ⟨i, hi, hb⟩ := Option.map_eq_some_iff.1 h
  simp only [Prod.mk.injEq] at hb
  exact ⟨i, hi, hb.1, hb.2.1, hb.2.2⟩
/-- the cells of n bounds. -/
def flatC (C : Nat → Int) : Nat → List Value
  | 0 => []
  | n + 1 => flatC C n ++ [.int .i64 (C n)]
theorem flatC_len (C : Nat → Int) : ∀ n, (flatC C n).length = n := by
  intro n
  induction n with
  | zero => rfl
  | succ n ih => simp [flatC, ih]
theorem flatC_get (C : Nat → Int) : ∀ n i, i < n → (flatC C n)[i]? = some (.int .i64 (C i)) := by
  intro n
  induction n with
  | zero => intro i hi; omega
  | succ n ih =>
    intro i hi
    have hl := flatC_len C n
    simp only [flatC]
    by_cases h : i < n
    · rw [List.getElem?_append_left (by omega)]; exact ih i h
    · obtain rfl : i = n := by omega
      rw [List.getElem?_append_right (by omega), hl]; simp
/-- the next edge's beginning. -/
def nextX (X : Nat → Int) (n i : Nat) : Int := if i + 1 < n then X (i + 1) else X 0
theorem cyc_next (n : Nat) (X Y : Nat → Int) (h : 1 ≤ n) : Cyc n X Y ↔ ∀ i, i < n → Y i = nextX X n i := by
  constructor
  · intro hc i hi
    unfold nextX
    by_cases h1 : i + 1 < n
    · rw [if_pos h1]
      have := hc (i + 1) h1
      unfold prevY at this
      rw [if_neg (by omega), Nat.add_sub_cancel] at this
      exact this
    · rw [if_neg h1]
      have := hc 0 (by omega)
      unfold prevY at this
      rw [if_pos rfl] at this
      rw [← this]
      exact congrArg Y (by omega)
  · intro hc i hi
    unfold prevY
    by_cases h0 : i = 0
    · subst h0
      rw [if_pos rfl]
      have := hc (n - 1) (by omega)
      unfold nextX at this
      rw [if_neg (by omega)] at this
      exact this
    · rw [if_neg h0]
      have := hc (i - 1) (by omega)
      unfold nextX at this
      rw [if_pos (by omega)] at this
      rw [this]
      exact congrArg X (by omega)
end Go.Proofs.Ytiadnifbjdnflaa
