/- What Read does at any string; Write at one argument. -/
import Derived.Test.YtookoagcmejkpaaGreatDoorJ1
import Derived.Test.YtookoagcmejkpaaGreatDoorJ0
import Derived.LoopTactic
import Derived.Lib.Strings
set_option maxHeartbeats 1000000
namespace Go.Proofs.YtookoagcmejkpaaGreatDoor
set_option maxRecDepth 100000
open Go Go.RowKit Go.Sort
theorem qk7 (s : ByteArray) (k : Nat) (h : k < s.size) : s.data.toList.take (k + 1) = s.data.toList.take k ++ [s[k]] := by
 rw [List.take_succ_eq_append_getElem (by simpa using h)]; rfl

theorem qn0 (s : ByteArray) : s.data.toList.length = s.size := Array.length_toList
theorem qhi (s : ByteArray) (h : 0 < s.size) : s.data.toList.isEmpty = false := by
 rw [List.isEmpty_eq_false_iff]; intro e; have h2 := congrArg List.length e; rw [qn0, List.length_nil] at h2; omega
def RdAt (s : ByteArray) (k : Nat) (n : Int) (fits : Bool) : Prop :=
 (s.data.toList.take k).all dig = true /\ 0 <= n /\ n <= 4611686018427387903 /\ fits = decide (dval (s.data.toList.take k) <= 4611686018427387903) /\ (fits = true -> n = dval (s.data.toList.take k))

theorem qki (s : ByteArray) (k : Nat) (h : k < s.size) (hc : s[k].toNat < 48 \/ 57 < s[k].toNat) : qdd s.data.toList = 0 /\ qee s.data.toList = 5 := by
 have hf : qgk s.data.toList = false := by
  unfold qgk
  have : s.data.toList.all dig = false := by
   rw [List.all_eq_false];refine ⟨s[k], List.mem_iff_getElem.2 ⟨k, by simpa using h, rfl⟩, ?_⟩;simp [dig]; omega
  rw [this]; simp
 unfold qdd qee;rw [hf]; simp
theorem qnb (s : ByteArray) (k : Nat) (h : k < s.size) (ha : (s.data.toList.take k).all dig = true) (h0 : 48 <= s[k].toNat) (h1 : s[k].toNat <= 57) : (s.data.toList.take (k + 1)).all dig = true := by
 rw [qk7 s k h, List.all_append, ha]; simp [dig]; omega
theorem qkg (s : ByteArray) (k : Nat) (h : k < s.size) : dval (s.data.toList.take (k + 1)) = dval (s.data.toList.take k) * 10 + (s[k].toNat - 48) := by
 rw [qk7 s k h, qiy]
theorem qm9 (s : ByteArray) (k : Nat) (m : Int) (b : Bool) (h : k < s.size) (hR : RdAt s k m b) (h0 : 48 <= (s[k].toNat : Int)) (h1 : (s[k].toNat : Int) <= 57) (hm : (4611686018427387903 - ((s[k].toNat : Int) - 48)) / 10 < m) : RdAt s (k + 1) m false := by
 obtain ⟨ha, m0, m1, hb, hv⟩ := hR;refine ⟨qnb s k h ha (by omega) (by omega), m0, m1, ?_, by simp⟩;rw [qkg s k h, eq_comm, decide_eq_false_iff_not]
 cases b with
 | true => have := hv rfl; omega
 | false => have hb' := of_decide_eq_false hb.symm; omega
theorem qm8 (s : ByteArray) (k : Nat) (m : Int) (b : Bool) (h : k < s.size) (hR : RdAt s k m b) (h0 : 48 <= (s[k].toNat : Int)) (h1 : (s[k].toNat : Int) <= 57) (hm : m <= (4611686018427387903 - ((s[k].toNat : Int) - 48)) / 10) (hb1 : b = true) : RdAt s (k + 1) (m * 10 + ((s[k].toNat : Int) - 48)) b := by
 subst hb1;obtain ⟨ha, m0, m1, hb, hv⟩ := hR;have hm' := hv rfl;refine ⟨qnb s k h ha (by omega) (by omega), by omega, by omega, ?_, fun _ => ?_⟩
 ·rw [qkg s k h, eq_comm, decide_eq_true_eq]; omega
 ·rw [qkg s k h]; omega
theorem qna (s : ByteArray) (k : Nat) (m : Int) (b : Bool) (h : k < s.size) (hR : RdAt s k m b) (h0 : 48 <= (s[k].toNat : Int)) (h1 : (s[k].toNat : Int) <= 57) (hb0 : b = false) : RdAt s (k + 1) m b := by
 subst hb0;obtain ⟨ha, m0, m1, hb, hv⟩ := hR;refine ⟨qnb s k h ha (by omega) (by omega), m0, m1, ?_, by simp⟩;have hb' := of_decide_eq_false hb.symm;rw [qkg s k h, eq_comm, decide_eq_false_iff_not]; omega
theorem qsp (s : ByteArray) (hne : 0 < s.size) (h0 : ¬ (s[0].toNat = 48 /\ 1 < s.size)) (ha : s.data.toList.all dig = true) : qgk s.data.toList = true := by
 unfold qgk;rw [ha];have e1 := qhi s hne;rw [e1]
 have e2 : s.data.toList.head? = some s[0] := by
  rw [List.head?_eq_getElem?, List.getElem?_eq_getElem (by simpa using hne)]; rfl
 rw [e2];simp only [Bool.not_false, Bool.true_and, Bool.and_true, Bool.not_eq_true', Bool.and_eq_false_imp, decide_eq_true_eq, decide_eq_false_iff_not];intro e hl
 apply h0
 have e3 : s[0] = 48 := by simpa using e
 exact ⟨by rw [e3]; rfl, by simpa using hl⟩
theorem qkh (s : ByteArray) (k : Nat) (m : Int) (b : Bool) (hk : k <= s.size) (hk' : ¬ k < s.size) (hne : 0 < s.size) (h0 : ¬ (s[0].toNat = 48 /\ 1 < s.size)) (hR : RdAt s k m b) : (b = true -> qdd s.data.toList = m /\ qee s.data.toList = 0) /\ (b = false -> qdd s.data.toList = 0 /\ qee s.data.toList = 6) := by
 obtain rfl : k = s.size := by omega
 obtain ⟨ha, m0, m1, hb, hv⟩ := hR;have et : s.data.toList.take s.size = s.data.toList := List.take_of_length_le (by simp);rw [et] at ha hb hv;have hn := qsp s hne h0 ha;unfold qdd qee;rw [hn];refine ⟨fun e => ?_, fun e => ?_⟩
 ·subst e
  have hb' := of_decide_eq_true hb.symm;have := hv rfl;simp [hb', this]
 ·subst e
  have hb' := of_decide_eq_false hb.symm;simp [hb']

theorem qm5 (s : ByteArray) (w : World) (hs : s.size <= 140737488351232) (hne : 0 < s.size) (h0 : ¬ (s[0].toNat = 48 /\ 1 < s.size)) :
  Calls Tryz.prog 111 #[.string s] w fun e w' => e = .returned (.tuple #[.int .i64 (qdd s.data.toList), .int .i64 (qee s.data.toList)]) /\ w' = w := by
 have hstart : RdAt s 0 0 true := ⟨by simp, by omega, by omega, by simp [dval], fun _ => by simp [dval]⟩;have HS := Zh hstart;have H0 := Zh h0;clear hstart;have e1 : s.toList.isEmpty = false := by rw [Lib.toList_data]; exact qhi s hne
 by_cases hd : s[0].toNat = 48
 ·have hz : s.size <= 1 := by omega
  have b1 : ((s[0].toNat : Int) == 48) = true := by simp [hd]
  clear hd h0;go_enter Tryz.func111, Tryz.ntmps111
  go_wp2
  go_loop [4, 5, 6] (fun n f i => ∃ (k : Nat) (m : Int) (b : Bool), k <= s.size /\ i = .int .i64 k /\ n = .int .i64 m /\ f = .bool b /\ RdAt s k m b) (fun _ _ i => s.size - (intOf i).toNat)
  case atStart => exact ⟨0, 0, true, by omega, rfl, rfl, rfl, HS.o⟩
  case round =>
   obtain ⟨k, m, b, hk, rfl, rfl, rfl, hR⟩ := hrel;have m0 := hR.2.1;have m1 := hR.2.2.1;have HR := Zh hR;clear hR
   go_wp2
   ·have hlt : k < s.size := by assumption
    have hb := qki s k hlt (by omega)
    go_ret2
    exact ⟨by rw [hb.1, hb.2]; rfl, rfl⟩
   ·have hlt : k < s.size := by assumption
    go_round
    case rel => exact ⟨k + 1, m, false, by omega, by go_num, rfl, rfl, qm9 s k m b hlt HR.o (by omega) (by omega) (by assumption)⟩
    case measure => simp [intOf]; omega
   ·have hlt : k < s.size := by assumption
    go_round
    case rel => exact ⟨k + 1, _, b, by omega, by go_num, rfl, rfl, qm8 s k m b hlt HR.o (by omega) (by omega) (by assumption) (by assumption)⟩
    case measure => simp [intOf]; omega
   ·have hlt : k < s.size := by assumption
    go_round
    case rel => exact ⟨k + 1, m, b, by omega, by go_num, rfl, rfl, qna s k m b hlt HR.o (by omega) (by omega) (by assumption)⟩
    case measure => simp [intOf]; omega
   ·have hlt : k < s.size := by assumption
    have hb := qki s k hlt (by omega)
    go_ret2
    exact ⟨by rw [hb.1, hb.2]; rfl, rfl⟩
   ·have hb := (qkh s k m b hk (by assumption) hne H0.o HR.o).2 (by simpa using (by assumption : (!b) = true))
    go_ret2
    exact ⟨by rw [hb.1, hb.2]; rfl, rfl⟩
   ·have hb := (qkh s k m b hk (by assumption) hne H0.o HR.o).1 (by simpa using (by assumption : (!b) = false))
    go_ret2
    exact ⟨by rw [hb.1, hb.2]; rfl, rfl⟩
 ·have b1 : ((s[0].toNat : Int) == 48) = false := by rw [beq_eq_false_iff_ne]; omega
  clear hd h0;go_enter Tryz.func111, Tryz.ntmps111
  go_wp2
  go_loop [4, 5, 6] (fun n f i => ∃ (k : Nat) (m : Int) (b : Bool), k <= s.size /\ i = .int .i64 k /\ n = .int .i64 m /\ f = .bool b /\ RdAt s k m b) (fun _ _ i => s.size - (intOf i).toNat)
  case atStart => exact ⟨0, 0, true, by omega, rfl, rfl, rfl, HS.o⟩
  case round =>
   obtain ⟨k, m, b, hk, rfl, rfl, rfl, hR⟩ := hrel;have m0 := hR.2.1;have m1 := hR.2.2.1;have HR := Zh hR;clear hR
   go_wp2
   ·have hlt : k < s.size := by assumption
    have hb := qki s k hlt (by omega)
    go_ret2
    exact ⟨by rw [hb.1, hb.2]; rfl, rfl⟩
   ·have hlt : k < s.size := by assumption
    go_round
    case rel => exact ⟨k + 1, m, false, by omega, by go_num, rfl, rfl, qm9 s k m b hlt HR.o (by omega) (by omega) (by assumption)⟩
    case measure => simp [intOf]; omega
   ·have hlt : k < s.size := by assumption
    go_round
    case rel => exact ⟨k + 1, _, b, by omega, by go_num, rfl, rfl, qm8 s k m b hlt HR.o (by omega) (by omega) (by assumption) (by assumption)⟩
    case measure => simp [intOf]; omega
   ·have hlt : k < s.size := by assumption
    go_round
    case rel => exact ⟨k + 1, m, b, by omega, by go_num, rfl, rfl, qna s k m b hlt HR.o (by omega) (by omega) (by assumption)⟩
    case measure => simp [intOf]; omega
   ·have hlt : k < s.size := by assumption
    have hb := qki s k hlt (by omega)
    go_ret2
    exact ⟨by rw [hb.1, hb.2]; rfl, rfl⟩
   ·have hb := (qkh s k m b hk (by assumption) hne H0.o HR.o).2 (by simpa using (by assumption : (!b) = true))
    go_ret2
    exact ⟨by rw [hb.1, hb.2]; rfl, rfl⟩
   ·have hb := (qkh s k m b hk (by assumption) hne H0.o HR.o).1 (by simpa using (by assumption : (!b) = false))
    go_ret2
    exact ⟨by rw [hb.1, hb.2]; rfl, rfl⟩

theorem qpa (s : ByteArray) (w : World) (hs : s.size <= 140737488351232) :
  Calls Tryz.prog 111 #[.string s] w fun e w' => e = .returned (.tuple #[.int .i64 (qdd s.data.toList), .int .i64 (qee s.data.toList)]) /\ w' = w := by
 by_cases hne : 0 < s.size
 ·by_cases h0 : s[0].toNat = 48 /\ 1 < s.size
  ·have hf : qgk s.data.toList = false := by
    have e2 : s.data.toList.head? = some s[0] := by
     rw [List.head?_eq_getElem?, List.getElem?_eq_getElem (by simpa using hne)]; rfl
    have e3 : s[0] = 48 := UInt8.toNat_inj.1 h0.1;have e4 : 1 < s.data.toList.length := by rw [qn0]; exact h0.2
    unfold qgk;rw [e2, e3];simp only [decide_true, decide_eq_true e4, Bool.and_self, Bool.not_true, Bool.and_false, Bool.false_and]
   have h1 : qdd s.data.toList = 0 := by unfold qdd; rw [hf]; simp
   have h2 : qee s.data.toList = 5 := by unfold qee; rw [hf]; simp
   have H1 := Zh h1;have H2 := Zh h2;have e1 : s.toList.isEmpty = false := by rw [Lib.toList_data]; exact qhi s hne
   have b1 : ((s[0].toNat : Int) == 48) = true := by simp [h0.1]
   have b2 : 1 < s.size := h0.2;clear h1 h2 h0 hf;go_enter Tryz.func111, Tryz.ntmps111
   go_wp2
   go_ret2
   exact ⟨by rw [H1.o, H2.o]; rfl, rfl⟩
  ·exact qm5 s w hs hne h0
 ·have e0 : s.data.toList = [] := List.eq_nil_of_length_eq_zero (by rw [qn0]; omega)
  have e1 : s.toList.isEmpty = true := by rw [Lib.toList_data, e0]; rfl
  have h1 : qdd s.data.toList = 0 := by rw [e0]; rfl
  have h2 : qee s.data.toList = 5 := by rw [e0]; rfl
  have H1 := Zh h1;have H2 := Zh h2;clear h1 h2 e0;go_enter Tryz.func111, Tryz.ntmps111
  go_wp2
  go_ret2
  exact ⟨by rw [H1.o, H2.o]; rfl, rfl⟩
end Go.Proofs.YtookoagcmejkpaaGreatDoor
