/- TermsNone: its walk. -/
import Derived.Test.YtkjmmdffelhkiaaT0
import Derived.Test.YtkjmmdffelhkiaaT11
namespace Go.Proofs.Ytkjmmdffelhkiaa
open Go Go.RowKit Go.Maps

structure NoneR (W wr : World) (a z : Nat) : Prop where
  c0 : wr.cell? ⟨a, 0, none⟩ = some (.pointer none)
  c1 : wr.cell? ⟨a, 1, none⟩ = some (.pointer (some ⟨z, 0, none⟩))
  z0 : wr.cell? ⟨z, 0, none⟩ = some (.slice none 0 0)
  b : Below W.heap.size W wr
theorem NoneR.later {W wr w' : World} {a z : Nat} (h : NoneR W wr a z) (hb : Below wr.heap.size wr w') : NoneR W w' a z :=
  ⟨cell_later hb h.c0, cell_later hb h.c1, cell_later hb h.z0, h.b.trans (hb.mono h.b.size)⟩
theorem NoneR.bad {W wr : World} {a z k : Nat} (h : NoneR W wr a z) (hk : k < 2) : ∃ s, wr.cell? ⟨a, k, none⟩ = some s ∧ BadS wr s := by
  have : k = 0 ∨ k = 1 := by omega
  rcases this with rfl | rfl
  · exact ⟨_, h.c0, .inl rfl⟩
  · exact ⟨_, h.c1, .inr ⟨z, rfl, h.z0⟩⟩
set_option maxRecDepth 100000 in
set_option maxHeartbeats 8000000 in
theorem tnone_any (a : Int) (m : Int) (p : Option Addr) (n z : Nat) (W : World) :
    Calls Try.prog 9 #[.int .i64 a, .int .i64 m, .slice p n z] W fun e w' => e = .returned (.bool true) ∧ Below W.heap.size W w' := by
  by_cases hbig : 100 < n
  · go_enter Try.func9, Try.ntmps9
    go_wp2_with fail
    refine (knownS_any _).mono ?_
    rintro e w2 ⟨rfl, hb⟩
    go_wp2_with fail
    go_ret
    exact ⟨rfl, hb⟩
  have HR := Lib.hid (show NoneR W ((W.alloc (.cells #[.slice none 0 0, .map none, .map none] 101)).alloc (.cells #[.pointer none, .pointer (some ⟨W.heap.size, 0, none⟩)] 69)) (W.heap.size + 1) W.heap.size from
    ⟨by rw [show W.heap.size + 1 = (W.alloc (.cells #[.slice none 0 0, .map none, .map none] 101)).heap.size by simp]; simp [go_sem], by rw [show W.heap.size + 1 = (W.alloc (.cells #[.slice none 0 0, .map none, .map none] 101)).heap.size by simp]; simp [go_sem], cell_later (below1 (W.alloc (.cells #[.slice none 0 0, .map none, .map none] 101)) _) (by simp [go_sem]), chain (below1 W _) (below1 (W.alloc (.cells #[.slice none 0 0, .map none, .map none] 101)) _)⟩)
  go_enter Try.func9, Try.ntmps9
  go_wp2_with fail
  go_loopw [9] (fun i wr => ∃ (k : Nat), k ≤ 2 ∧ i = .int .i64 k ∧ NoneR W wr (W.heap.size + 1) W.heap.size) (fun i _ => 2 - (intOf i).toNat)
  case atStart => exact ⟨0, Nat.zero_le _, rfl, HR.out⟩
  case round =>
    obtain ⟨k, hk, rfl, hr⟩ := hrel
    clear HR
    by_cases hlt : k < 2
    rotate_left
    · have HB := Lib.hid hr.b
      obtain rfl : k = 2 := by omega
      clear hr
      go_wp2_with fail
      refine (knownS_any _).mono ?_
      rintro e w2 ⟨rfl, hb⟩
      have HB2 := Lib.hid (HB.out.trans (hb.mono HB.out.size))
      clear hb
      go_wp2_with fail
      go_ret
      exact ⟨rfl, HB2.out⟩
    obtain ⟨s, hs, hbad⟩ := hr.bad hlt
    have hk0 : (0 : Int) ≤ (k : Int) := by omega
    have hk1 : (k : Int) < 2 := by omega
    have HR := Lib.hid hr
    have HS := Lib.hid hbad
    clear hr hbad

    have HC := not_bad HS.out a
    go_wp2_with fail
    refine HC.mono ?_
    rintro e w2 ⟨rfl, hb⟩
    have HR := Lib.hid (HR.out.later hb)
    have HS := Lib.hid (HS.out.later hb)
    clear HC hb
    clear hs
    have HC := and_bad HS.out p n z
    go_wp2_with fail
    refine HC.mono ?_
    rintro e w3 ⟨rfl, hb⟩
    have HR := Lib.hid (HR.out.later hb)
    have HS := Lib.hid (HS.out.later hb)
    clear HC hb
    have HC := or_bad HS.out p n z
    go_wp2_with fail
    refine HC.mono ?_
    rintro e w4 ⟨rfl, hb⟩
    have HR := Lib.hid (HR.out.later hb)
    have HS := Lib.hid (HS.out.later hb)
    clear HC hb
    have HC := eq_bad HS.out a a
    go_wp2_with fail
    refine HC.mono ?_
    rintro e w5 ⟨rfl, hb⟩
    have HR := Lib.hid (HR.out.later hb)
    have HS := Lib.hid (HS.out.later hb)
    clear HC hb
    have HC := ite_bad HS.out a a a
    go_wp2_with fail
    refine HC.mono ?_
    rintro e w6 ⟨rfl, hb⟩
    have HR := Lib.hid (HR.out.later hb)
    have HS := Lib.hid (HS.out.later hb)
    clear HC hb
    have HC := app_bad HS.out 1 1 p n z
    go_wp2_with fail
    refine HC.mono ?_
    rintro e w7 ⟨rfl, hb⟩
    have HR := Lib.hid (HR.out.later hb)
    have HS := Lib.hid (HS.out.later hb)
    clear HC hb
    have HC := num_bad HS.out m
    go_wp2_with fail
    refine HC.mono ?_
    rintro e w8 ⟨rfl, hb⟩
    have HR := Lib.hid (HR.out.later hb)
    have HS := Lib.hid (HS.out.later hb)
    clear HC hb
    have HC := plus_bad HS.out a m
    go_wp2_with fail
    refine HC.mono ?_
    rintro e w9 ⟨rfl, hb⟩
    have HR := Lib.hid (HR.out.later hb)
    have HS := Lib.hid (HS.out.later hb)
    clear HC hb
    have HC := le_bad HS.out a a m
    go_wp2_with fail
    refine HC.mono ?_
    rintro e w10 ⟨rfl, hb⟩
    have HR := Lib.hid (HR.out.later hb)
    have HS := Lib.hid (HS.out.later hb)
    clear HC hb
    have HC := node_bad HS.out a
    go_wp2_with fail
    refine HC.mono ?_
    rintro e w11 ⟨rfl, hb⟩
    have HR := Lib.hid (HR.out.later hb)
    have HS := Lib.hid (HS.out.later hb)
    clear HC hb
    have hb := below1 w11 (.cells #[.int .u8 0, .int .i64 0, .int .i64 0, .int .i64 0, .slice none 0 0] 89)
    have HR := Lib.hid (HR.out.later hb)
    have HS := Lib.hid (HS.out.later hb)
    clear hb
    have HC := split_bad HS.out a
    go_wp2_with fail
    refine HC.mono ?_
    rintro e w12 ⟨rfl, hb⟩
    have HR := Lib.hid (HR.out.later hb)
    have HS := Lib.hid (HS.out.later hb)
    clear HC hb
    have HC := len_bad HS.out
    have HC2 := copy_bad HS.out
    go_wp2_with fail
    refine HC.mono ?_
    rintro e w20 ⟨rfl, hw⟩
    obtain rfl := hw.symm
    clear HC hw
    go_wp2_with fail
    refine HC2.mono ?_
    rintro e w20 ⟨rfl, hw⟩
    obtain rfl := hw.symm
    clear HC2 hw
    go_wp2_with fail
    go_roundw
    case rel => exact ⟨k + 1, by omega, by go_num, HR.out⟩
    case measure => simp [intOf]; omega
end Go.Proofs.Ytkjmmdffelhkiaa
