/- The decimal text of two words: two chunks. -/
import Derived.Test.YtmfmdcapanaajaaDoorW4
import Derived.LoopTactic
namespace Go.Proofs.YtmfmdcapanaajaaDoor
open Go Go.RowKit Go.Sort

def pad (c : List UInt8) : List UInt8 := List.replicate (19 - c.length) 48 ++ c
def dtext (n : Nat) : List UInt8 := if n < 10000000000000000000 then Lib.decDigits n else 49 :: pad (Lib.decDigits (n - 10000000000000000000))

theorem decLen19 (u : Nat) (h : u < 10000000000000000000) : (Lib.decDigits u).length ≤ 19 := by
  rw [Lib.decDigits_length]
  by_cases h1 : u = 0
  · subst h1; rw [Lib.nDigits_small (by omega)]; omega
  · have hk : ∀ k, k < 19 ∨ 19 ≤ k := fun k => by omega
    rcases Nat.lt_or_ge 19 (Lib.nDigits u) with h2 | h2
    · exfalso
      obtain ⟨j, hj⟩ : ∃ j, Lib.nDigits u = j + 1 := ⟨Lib.nDigits u - 1, by omega⟩
      have hlow : 10 ^ (Lib.nDigits u - 1) ≤ u := by
        have : ∀ n v : Nat, 1 ≤ v → Lib.nDigits v = n + 1 → 10 ^ n ≤ v := by
          intro n
          induction n with
          | zero => intro v hv _; simpa using hv
          | succ n ih =>
            intro v hv hn
            by_cases h10 : v < 10
            · rw [Lib.nDigits_small h10] at hn; omega
            · rw [Lib.nDigits_big h10] at hn
              have := ih (v / 10) (by omega) (by omega)
              rw [Nat.pow_succ]; omega
        have := this j u (by omega) hj
        rw [hj]; simpa using this
      have : 10 ^ 19 ≤ 10 ^ (Lib.nDigits u - 1) := Nat.pow_le_pow_right (by omega) (by omega)
      omega
    · exact h2

/-- the chunk with k noughts ahead. -/
def ahead (k : Nat) (c : List UInt8) : Value := .string ⟨(List.replicate k 48 ++ c).toArray⟩

theorem ahead_succ (j : Nat) (c : List UInt8) : Value.string ((⟨#[48]⟩ : ByteArray) ++ (⟨(List.replicate j 48 ++ c).toArray⟩ : ByteArray)) = ahead (j + 1) c := by
  unfold ahead
  congr 1
def strLen : Value → Nat
  | .string b => b.size
  | _ => 0
theorem ahead_len (j : Nat) (c : List UInt8) : strLen (ahead j c) = j + c.length := by simp [strLen, ahead, ByteArray.size]
theorem ahead_less (j : Nat) (c : List UInt8) (h : j + c.length < 19) : 19 - strLen (ahead (j + 1) c) < 19 - strLen (ahead j c) := by rw [ahead_len, ahead_len]; omega
set_option maxRecDepth 100000 in
set_option maxHeartbeats 1000000 in
theorem decimal_two (hi lo : Int) (r : Nat) (w : World) (h0 : 0 ≤ hi) (h1 : hi ≤ 1) (_hl0 : 0 ≤ lo) (_hl1 : lo ≤ 18446744073709551615) (hr : r < 10000000000000000000)
    (hdiv : Hid (∀ W, Calls Tryd.prog 42 #[.int .u64 hi, .int .u64 lo, .int .u64 10000000000000000000] W fun e w' => e = .returned (.tuple #[.int .u64 1, .int .u64 r]) ∧ ∃ n, w' = W.drewN n))
    (htab : Lib.TabIs Tryd.prog w "internal/strconv.uint64pow10" .u64 Lib.pow10Tab) :
    Calls Tryd.prog 40 #[.agg #[.int .u64 hi, .int .u64 lo]] w fun e w' => e = .returned (.string ⟨(49 :: pad (Lib.decDigits r)).toArray⟩) ∧ Below w.heap.size w w' := by
  have q0 : hi / 10000000000000000000 = 0 := by omega
  have q1 : hi % 10000000000000000000 = hi := by omega
  have Q0 := Lib.hid q0
  have Q1 := Lib.hid q1
  clear q0 q1
  go_enter Tryd.func40, Tryd.ntmps40
  go_wp2_with fail
  refine wp_loop_rounds 2 ?_
  rw [rounds_succ]
  go_wp2_with fail
  rw [Q0.out, Q1.out]
  refine (hdiv.out _).mono ?_
  rintro e w1 ⟨rfl, k, rfl⟩
  go_wp2_with fail
  have hB : Below w.heap.size w ((((w.alloc (.cells #[.int .u64 hi, .int .u64 lo] 61)).drewN k).setCell ⟨w.heap.size, 1, none⟩ (.int .u64 1)).setCell ⟨w.heap.size, 0, none⟩ (.int .u64 0)) :=
    ((belowDrewN ((Below.refl _ _).alloc (Nat.le_refl _) _) k).setCell (Nat.le_refl _) _).setCell (Nat.le_refl _) _
  have g0 : ((((w.alloc (.cells #[.int .u64 hi, .int .u64 lo] 61)).drewN k).setCell ⟨w.heap.size, 1, none⟩ (.int .u64 1)).setCell ⟨w.heap.size, 0, none⟩ (.int .u64 0)).cell? ⟨w.heap.size, 0, none⟩ = some (.int .u64 0) ∧ ((((w.alloc (.cells #[.int .u64 hi, .int .u64 lo] 61)).drewN k).setCell ⟨w.heap.size, 1, none⟩ (.int .u64 1)).setCell ⟨w.heap.size, 0, none⟩ (.int .u64 0)).frozen? ⟨w.heap.size, 0, none⟩ = false := by simp [go_sem]
  have g1 : ((((w.alloc (.cells #[.int .u64 hi, .int .u64 lo] 61)).drewN k).setCell ⟨w.heap.size, 1, none⟩ (.int .u64 1)).setCell ⟨w.heap.size, 0, none⟩ (.int .u64 0)).cell? ⟨w.heap.size, 1, none⟩ = some (.int .u64 1) ∧ ((((w.alloc (.cells #[.int .u64 hi, .int .u64 lo] 61)).drewN k).setCell ⟨w.heap.size, 1, none⟩ (.int .u64 1)).setCell ⟨w.heap.size, 0, none⟩ (.int .u64 0)).frozen? ⟨w.heap.size, 1, none⟩ = false := by simp [go_sem]
  generalize ((((w.alloc (.cells #[.int .u64 hi, .int .u64 lo] 61)).drewN k).setCell ⟨w.heap.size, 1, none⟩ (.int .u64 1)).setCell ⟨w.heap.size, 0, none⟩ (.int .u64 0)) = W at *
  refine (fmtUintPub_any r _ (by omega) (tabIs_below htab hB)).mono ?_
  rintro e w2 ⟨rfl, hb⟩
  have k0 := keep hb g0.1 g0.2
  have k1 := keep hb g1.1 g1.2
  obtain ⟨k00, k01⟩ := k0
  obtain ⟨k10, k11⟩ := k1
  have hB2 : Below w.heap.size w w2 := hB.trans (hb.mono hB.size)
  have ht2 := tabIs_below htab hB2
  have hz := hB2.size
  clear hb g0 g1 hB
  have hl := decLen19 r hr
  have he : ∀ w, (binOp .eql 61 (.agg #[.int .u64 0, .int .u64 1]) (.agg #[.int .u64 0, .int .u64 0])).run Tryd.prog w = .ok (.bool false) w := fun _ => by kernel_rfl
  go_wp2_with fail
  generalize hc : Lib.decDigits r = c at *
  have HC := Lib.hid hc
  clear hc
  go_loop [6] (fun v => ∃ j : Nat, j + c.length ≤ 19 ∧ v = ahead j c) (fun v => 19 - strLen v)
  case atStart => exact ⟨0, by omega, rfl⟩
  case round =>
    obtain ⟨j, hj, rfl⟩ := hrel
    unfold ahead
    have hs : (⟨(List.replicate j 48 ++ c).toArray⟩ : ByteArray).size = j + c.length := by simp [ByteArray.size]
    go_wp2
    · go_round
      case rel => exact ⟨j + 1, by omega, ahead_succ j c⟩
      case measure => rw [ahead_succ]; exact ahead_less j c (by omega)
    · have hj2 : j = 19 - c.length := by omega
      rw [rounds_succ]
      go_wp2_with fail
      refine (div_low _ _ _ (by omega) (by omega) (by omega) (by omega)).mono ?_
      rintro e w3 ⟨rfl, k3, rfl⟩
      rw [show (1 : Int) / 10000000000000000000 = 0 from rfl, show (1 : Int) % 10000000000000000000 = ((1 : Nat) : Int) from rfl]
      go_wp2_with fail
      have hB3 : Below w.heap.size w (((w2.drewN k3).setCell ⟨w.heap.size, 1, none⟩ (.int .u64 0)).setCell ⟨w.heap.size, 0, none⟩ (.int .u64 0)) :=
        ((belowDrewN hB2 k3).setCell (Nat.le_refl _) _).setCell (Nat.le_refl _) _
      have m0 : (((w2.drewN k3).setCell ⟨w.heap.size, 1, none⟩ (.int .u64 0)).setCell ⟨w.heap.size, 0, none⟩ (.int .u64 0)).cell? ⟨w.heap.size, 0, none⟩ = some (.int .u64 0) := by simp [go_sem, k00]
      have m1 : (((w2.drewN k3).setCell ⟨w.heap.size, 1, none⟩ (.int .u64 0)).setCell ⟨w.heap.size, 0, none⟩ (.int .u64 0)).cell? ⟨w.heap.size, 1, none⟩ = some (.int .u64 0) := by simp [go_sem, k10]
      generalize (((w2.drewN k3).setCell ⟨w.heap.size, 1, none⟩ (.int .u64 0)).setCell ⟨w.heap.size, 0, none⟩ (.int .u64 0)) = W3 at *
      refine (fmtUintPub_any 1 _ (by omega) (tabIs_below htab hB3)).mono ?_
      rintro e w4 ⟨rfl, hb4⟩
      have n0 := cell_later hb4 m0
      have n1 := cell_later hb4 m1
      have hB4 : Below w.heap.size w w4 := hB3.trans (hb4.mono hB3.size)
      clear hb4 hB3 m0 m1 hB2 k00 k01 k10 k11
      rw [Lib.decDigits_one (by omega)]
      have he2 : ∀ w, (binOp .eql 61 (.agg #[.int .u64 0, .int .u64 0]) (.agg #[.int .u64 0, .int .u64 0])).run Tryd.prog w = .ok (.bool true) w := fun _ => by kernel_rfl
      go_wp2_with fail
      go_ret
      refine ⟨?_, hB4⟩
      rw [HC.out]
      show Ending.returned (Value.string ((⟨#[49]⟩ : ByteArray) ++ ((⟨(List.replicate (19 - c.length) 48 ++ c).toArray⟩ : ByteArray) ++ (⟨#[]⟩ : ByteArray)))) = _
      exact congrArg (fun b => Ending.returned (Value.string b)) (ByteArray.ext (by simp [pad]))

set_option maxRecDepth 100000 in
set_option maxHeartbeats 1000000 in
theorem div_one (w : World) :
    Calls Tryd.prog 42 #[.int .u64 1, .int .u64 0, .int .u64 10000000000000000000] w fun e w' => e = .returned (.tuple #[.int .u64 1, .int .u64 8446744073709551616]) ∧ ∃ n, w' = w.drewN n := by
  have hbl : Lib.bitLen (10000000000000000000 : Int).toNat = 64 := by decide +kernel
  have b1 : bits .and .u64 10000000000000000000 4294967295 = 2313682944 := by decide +kernel
  have b2 : bits .or .u64 1 0 = 1 := by decide +kernel
  have b3 : bits .and .u64 0 4294967295 = 0 := by decide +kernel
  go_enter Tryd.func42, Tryd.ntmps42
  go_wp2_with fail
  refine (Tryd.bits_LeadingZeros64 _ _ (by omega) (by omega)).mono ?_
  rintro e w1 ⟨rfl, rfl⟩
  rw [hbl]
  go_wp2_with fail
  refine wp_loop_rounds 1 ?_
  rw [rounds_succ]
  go_wp2_with fail
  refine wp_loop_rounds 1 ?_
  rw [rounds_succ]
  go_wp2_with fail
  go_ret2
  refine ⟨?_, 0, by simp [World.drewN_zero]⟩
  show Ending.returned (Value.tuple #[.int .u64 1, .int .u64 (IntKind.u64.wrap (IntKind.u64.wrap (IntKind.u64.wrap 18446744073709551616) - 10000000000000000000))]) = _
  rw [show IntKind.u64.wrap (IntKind.u64.wrap (IntKind.u64.wrap 18446744073709551616) - 10000000000000000000) = 8446744073709551616 by rw [wrap_u, wrap_u, wrap_u]; omega]

theorem decimal_any (n : Nat) (w : World) (hn : n ≤ 18446744073709551616) (htab : Lib.TabIs Tryd.prog w "internal/strconv.uint64pow10" .u64 Lib.pow10Tab) :
    Calls Tryd.prog 40 #[.agg #[.int .u64 (hiW n), .int .u64 (loW n)]] w fun e w' => e = .returned (.string ⟨(dtext n).toArray⟩) ∧ Below w.heap.size w w' := by
  unfold dtext
  by_cases h : n < 10000000000000000000
  · rw [if_pos h, show hiW n = 0 by unfold hiW; omega, show loW n = n by unfold loW; omega]
    exact decimal_one n w h htab
  · rw [if_neg h]
    by_cases h2 : n < 18446744073709551616
    · rw [show hiW n = 0 by unfold hiW; omega, show loW n = n by unfold loW; omega]
      refine decimal_two 0 n (n - 10000000000000000000) w (by omega) (by omega) (by omega) (by omega) (by omega) (Lib.hid fun W => ?_) htab
      have := div_low n 10000000000000000000 W (by omega) (by omega) (by omega) (by omega)
      rw [show (n : Int) / 10000000000000000000 = 1 by omega, show (n : Int) % 10000000000000000000 = ((n - 10000000000000000000 : Nat) : Int) by omega] at this
      exact this
    · obtain rfl : n = 18446744073709551616 := by omega
      exact decimal_two 1 0 8446744073709551616 w (by omega) (by omega) (by omega) (by omega) (by omega) (Lib.hid fun W => div_one W) htab
end Go.Proofs.YtmfmdcapanaajaaDoor
