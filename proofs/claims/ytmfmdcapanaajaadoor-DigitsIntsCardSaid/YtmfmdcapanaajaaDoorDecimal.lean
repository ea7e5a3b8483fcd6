/- The decimal text of two words. -/
import Derived.Test.YtmfmdcapanaajaaDoorDiv2
import Derived.Test.YtmfmdcapanaajaaDoorTextN
import Derived.Laws.StructEq
import Derived.Tactics
import Derived.Tactics2
namespace Go.Proofs.YtmfmdcapanaajaaDoor
open Go Go.RowKit Go.Sort

theorem two_equalIn (c0 c1 : Int) (w : World) : (Op.equalIn 10000 61 (.agg #[.int .u64 c0, .int .u64 c1]) (.agg #[.int .u64 0, .int .u64 0])).run Tryd.prog w = .ok ((c0 == 0) && (c1 == 0)) w := by
  have u2 := Tryd.underlying60
  have a2 := Tryd.isAgg60
  have z2 := Tryd.sizeOf60
  rw [show (10000 : Nat) = 9999 + 1 from rfl, Op.equalIn]
  simp only [Sem.run_bind, run_underlying Tryd.underlying61, Result.andThen_ok]
  simp only [Std.Legacy.Range.forIn_eq_forIn_range', Std.Legacy.Range.size, Nat.sub_zero, Nat.add_sub_cancel, Nat.div_one, List.range'_succ, List.range'_zero, List.forIn_cons, List.forIn_nil]
  go_simp
  repeat' split
  all_goals simp_all
theorem two_eql (c0 c1 : Int) (w : World) : (binOp .eql 61 (.agg #[.int .u64 c0, .int .u64 c1]) (.agg #[.int .u64 0, .int .u64 0])).run Tryd.prog w = .ok (.bool ((c0 == 0) && (c1 == 0))) w := by
  rw [run_eql_struct, two_equalIn]; rfl
theorem div_all (m : Int) (w : World) (h0 : 0 ≤ m) (h1 : m < 170141183460469231731687303715884105728) :
    Calls Tryd.prog 42 #[.int .u64 (m / 18446744073709551616), .int .u64 (m % 18446744073709551616), .int .u64 10000000000000000000] w fun e w' => e = .returned (.tuple #[.int .u64 (m / 10000000000000000000), .int .u64 (m % 10000000000000000000)]) ∧ ∃ n, w' = w.drewN n := by
  by_cases h : m / 18446744073709551616 = 0
  · rw [h]
    have := div_low (m % 18446744073709551616) 10000000000000000000 w (by omega) (by omega) (by omega) (by omega)
    rwa [show m % 18446744073709551616 = m by omega] at this ⊢
  · have := div_any (m / 18446744073709551616) (m % 18446744073709551616) w (by omega) (by omega) (by omega) (by omega)
    rwa [show m / 18446744073709551616 * 18446744073709551616 + m % 18446744073709551616 = m by omega] at this
def DT (N m : Int) (t : List UInt8) : Prop := 0 ≤ m ∧ m < 170141183460469231731687303715884105728 ∧ Lib.decDigits N.toNat = Lib.decDigits m.toNat ++ t ∧ t.length ≤ 40
theorem ndig39 (N : Int) (h0 : 0 ≤ N) (h1 : N < 170141183460469231731687303715884105728) : Lib.nDigits N.toNat ≤ 40 := ndig_le 40 N.toNat (by omega) (by rw [show (10 : Nat) ^ 40 = 10000000000000000000000000000000000000000 by decide]; omega)
theorem dt_start (N : Int) (h0 : 0 ≤ N) (h1 : N < 170141183460469231731687303715884105728) : DT N N [] := ⟨h0, h1, by simp, by simp⟩
theorem pad_len (r : Nat) (h : r < 10000000000000000000) : (pad (Lib.decDigits r)).length = 19 := by
  have := decLen19 r h
  unfold pad
  rw [List.length_append, List.length_replicate]
  omega
theorem dt_step (N m : Int) (t : List UInt8) (n0 : 0 ≤ N) (n1 : N < 170141183460469231731687303715884105728) (h : DT N m t) (hm : 10000000000000000000 ≤ m) : DT N (m / 10000000000000000000) (pad (Lib.decDigits (m % 10000000000000000000).toNat) ++ t) := by
  obtain ⟨h0, h1, h2, h3⟩ := h
  have key : Lib.decDigits N.toNat = Lib.decDigits (m / 10000000000000000000).toNat ++ (pad (Lib.decDigits (m % 10000000000000000000).toNat) ++ t) := by
    rw [h2, dec_chunk m.toNat (by omega), show (m / 10000000000000000000).toNat = m.toNat / 10000000000000000000 by omega, show (m % 10000000000000000000).toNat = m.toNat % 10000000000000000000 by omega, List.append_assoc]
  refine ⟨by omega, by omega, key, ?_⟩
  have hl := congrArg List.length key
  rw [List.length_append, Lib.decDigits_length] at hl
  have := ndig39 N n0 n1
  omega

set_option maxRecDepth 100000 in
set_option maxHeartbeats 4000000 in
theorem decimal_n (N : Int) (w : World) (n0 : 0 ≤ N) (n1 : N < 170141183460469231731687303715884105728)
    (htab : Lib.TabIs Tryd.prog w "internal/strconv.uint64pow10" .u64 Lib.pow10Tab) :
    Calls Tryd.prog 40 #[.agg #[.int .u64 (N / 18446744073709551616), .int .u64 (N % 18446744073709551616)]] w fun e w' => e = .returned (.string ⟨(Lib.decDigits N.toNat).toArray⟩) ∧ Below w.heap.size w w' := by
  have HD := Lib.hid (dt_start N n0 n1)
  have HN := Lib.hid (And.intro n0 n1)
  have HT := Lib.hid htab
  clear n0 n1 htab
  go_enter Tryd.func40, Tryd.ntmps40
  go_wp2_with fail
  have hc0 : (w.alloc (.cells #[.int .u64 (N / 18446744073709551616), .int .u64 (N % 18446744073709551616)] 61)).cell? ⟨w.heap.size, 0, none⟩ = some (.int .u64 (N / 18446744073709551616)) := by simp [go_sem]
  have hc1 : (w.alloc (.cells #[.int .u64 (N / 18446744073709551616), .int .u64 (N % 18446744073709551616)] 61)).cell? ⟨w.heap.size, 1, none⟩ = some (.int .u64 (N % 18446744073709551616)) := by simp [go_sem]
  have hf0 : (w.alloc (.cells #[.int .u64 (N / 18446744073709551616), .int .u64 (N % 18446744073709551616)] 61)).frozen? ⟨w.heap.size, 0, none⟩ = false := by simp [go_sem]
  have hf1 : (w.alloc (.cells #[.int .u64 (N / 18446744073709551616), .int .u64 (N % 18446744073709551616)] 61)).frozen? ⟨w.heap.size, 1, none⟩ = false := by simp [go_sem]
  have hB0 := (Below.refl w.heap.size w).alloc (Nat.le_refl _) (.cells #[.int .u64 (N / 18446744073709551616), .int .u64 (N % 18446744073709551616)] 61)
  generalize (w.alloc (.cells #[.int .u64 (N / 18446744073709551616), .int .u64 (N % 18446744073709551616)] 61)) = W at *
  go_loopw [3] (fun t wr => ∃ (m : Int) (l : List UInt8), t = .string ⟨l.toArray⟩ ∧ DT N m l ∧ wr.cell? ⟨w.heap.size, 0, none⟩ = some (.int .u64 (m / 18446744073709551616)) ∧ wr.cell? ⟨w.heap.size, 1, none⟩ = some (.int .u64 (m % 18446744073709551616)) ∧ wr.frozen? ⟨w.heap.size, 0, none⟩ = false ∧ wr.frozen? ⟨w.heap.size, 1, none⟩ = false ∧ Below w.heap.size w wr) (fun t _ => 60 - strLn t)
  case atStart => exact ⟨N, [], rfl, HD.out, hc0, hc1, hf0, hf1, hB0⟩
  case round =>
    obtain ⟨m, l, rfl, hT, c0, c1, f0, f1, hb⟩ := hrel
    have m0 := hT.1
    have m1 := hT.2.1
    have hlen := hT.2.2.2
    have hdec := Lib.hid hT.2.2.1
    have HDT := Lib.hid hT
    have hB := hb
    clear hT hc0 hc1 hf0 hf1 hB0 hb
    have q0 : m / 18446744073709551616 / 10000000000000000000 = 0 := by omega
    have q1 : m / 18446744073709551616 % 10000000000000000000 = m / 18446744073709551616 := by omega
    have Q0 := Lib.hid q0
    have Q1 := Lib.hid q1
    have hhi : 0 ≤ m / 18446744073709551616 ∧ m / 18446744073709551616 < 10000000000000000000 := by omega
    have HDV := fun W => div_all m W m0 m1
    have hq : 0 ≤ m / 10000000000000000000 ∧ m / 10000000000000000000 < 18446744073709551616 := by omega
    have hr : 0 ≤ m % 10000000000000000000 ∧ m % 10000000000000000000 < 10000000000000000000 := by omega
    clear q0 q1
    obtain ⟨hi, hhiE⟩ : ∃ hi, hi = m / 18446744073709551616 := ⟨_, rfl⟩
    rw [← hhiE] at c0 hhi HDV Q0 Q1
    obtain ⟨hhi0, hhi1⟩ := hhi
    clear hhiE
    obtain ⟨lo, hloE⟩ : ∃ lo, lo = m % 18446744073709551616 := ⟨_, rfl⟩
    rw [← hloE] at c1 HDV
    clear hloE
    obtain ⟨q, hqE⟩ : ∃ q, q = m / 10000000000000000000 := ⟨_, rfl⟩
    obtain ⟨r, hrE⟩ : ∃ r : Nat, (r : Int) = m % 10000000000000000000 := ⟨(m % 10000000000000000000).toNat, by omega⟩
    rw [← hqE] at hq
    rw [← hqE, ← hrE] at HDV
    obtain ⟨hq0, hq1⟩ := hq
    have hr2 : r < 10000000000000000000 := by omega
    have HQ := Lib.hid hqE
    have HR := Lib.hid hrE
    clear hqE hrE hr
    go_wp2_with fail
    rw [Q0.out, Q1.out]
    refine (HDV _).mono ?_
    rintro e w1 ⟨rfl, k, rfl⟩
    go_wp2_with fail
    have hB1 : Below w.heap.size w (((wr.drewN k).setCell ⟨w.heap.size, 1, none⟩ (.int .u64 q)).setCell ⟨w.heap.size, 0, none⟩ (.int .u64 0)) :=
      ((belowDrewN hB k).setCell (Nat.le_refl _) _).setCell (Nat.le_refl _) _
    have g0 : (((wr.drewN k).setCell ⟨w.heap.size, 1, none⟩ (.int .u64 q)).setCell ⟨w.heap.size, 0, none⟩ (.int .u64 0)).cell? ⟨w.heap.size, 0, none⟩ = some (.int .u64 0) ∧ (((wr.drewN k).setCell ⟨w.heap.size, 1, none⟩ (.int .u64 q)).setCell ⟨w.heap.size, 0, none⟩ (.int .u64 0)).frozen? ⟨w.heap.size, 0, none⟩ = false := by simp [go_sem, c0, f0]
    have g1 : (((wr.drewN k).setCell ⟨w.heap.size, 1, none⟩ (.int .u64 q)).setCell ⟨w.heap.size, 0, none⟩ (.int .u64 0)).cell? ⟨w.heap.size, 1, none⟩ = some (.int .u64 q) ∧ (((wr.drewN k).setCell ⟨w.heap.size, 1, none⟩ (.int .u64 q)).setCell ⟨w.heap.size, 0, none⟩ (.int .u64 0)).frozen? ⟨w.heap.size, 1, none⟩ = false := by simp [go_sem, c1, f1]
    generalize (((wr.drewN k).setCell ⟨w.heap.size, 1, none⟩ (.int .u64 q)).setCell ⟨w.heap.size, 0, none⟩ (.int .u64 0)) = W2 at *
    clear c0 c1 f0 f1
    refine (fmtUintPub_any r _ (by omega) (tabIs_below HT.out hB1)).mono ?_
    rintro e w3 ⟨rfl, hb⟩
    obtain ⟨k00, k01⟩ := keep hb g0.1 g0.2
    obtain ⟨k10, k11⟩ := keep hb g1.1 g1.2
    have hB3 : Below w.heap.size w w3 := hB1.trans (hb.mono hB1.size)
    clear hb g0 g1 hB1
    have hl := decLen19 r hr2
    have he := fun W => two_eql 0 q W
    by_cases hqz : q = 0
    · subst hqz
      go_wp2_with fail
      go_ret
      refine ⟨?_, hB3⟩
      have e1 : m.toNat = r := by have := HQ.out; have := HR.out; omega
      rw [hdec.out, e1]
      exact congrArg (fun b => Ending.returned (Value.string b)) (ByteArray.ext (by simp))
    · have e2 : (q == 0) = false := by rw [beq_eq_false_iff_ne]; exact hqz
      go_wp2_with fail
      have HSTEP := Lib.hid (dt_step N m l HN.out.1 HN.out.2 HDT.out (by have := HQ.out; omega))
      rw [← HQ.out, show (m % 10000000000000000000).toNat = r by have := HR.out; omega] at HSTEP
      have hpl := pad_len r hr2
      unfold pad at HSTEP hpl
      generalize Lib.decDigits r = c at *
      go_loop [6] (fun v => ∃ j : Nat, j + c.length ≤ 19 ∧ v = ahead j c) (fun v => 19 - strLen v)
      case atStart => exact ⟨0, by omega, rfl⟩
      case round =>
        obtain ⟨j, hj, rfl⟩ := hrel
        unfold ahead
        have hs : (⟨(List.replicate j 48 ++ c).toArray⟩ : ByteArray).size = j + c.length := by simp [ByteArray.size]
        go_wp2
        · go_round
          case rel => exact ⟨j + 1, by omega, ahead_succ j c⟩
          case measure => rw [ahead_succ]; exact ahead_less j c (by omega)
        · have hj2 : j = 19 - c.length := by omega
          subst hj2
          go_roundw
          case rel => exact ⟨q, _, congrArg Value.string (ByteArray.ext (by simp)), HSTEP.out, by rw [show q / 18446744073709551616 = 0 by omega]; exact k00, by rw [show q % 18446744073709551616 = q by omega]; exact k10, k01, k11, hB3⟩
          case measure =>
            simp [strLn, ByteArray.size]
            omega
end Go.Proofs.YtmfmdcapanaajaaDoor
