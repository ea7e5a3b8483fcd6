/- A table that is not there, or was not made. -/
import Derived.Test.YtkjmmdffelhkiaaS16
namespace Go.Proofs.Ytkjmmdffelhkiaa
open Go Go.RowKit Go.Maps

variable {W : World} {p : Option Addr}
def NoTab (W : World) (p : Option Addr) : Prop := p = none ∨ ∃ b, p = some ⟨b, 0, none⟩ ∧ W.cell? ⟨b, 2, none⟩ = some (.slice none 0 0) ∧ W.cell? ⟨b, 3, none⟩ = some (.slice none 0 0) ∧ W.cell? ⟨b, 4, none⟩ = some (.map none) ∧ W.cell? ⟨b, 6, none⟩ = some (.slice none 0 0)
theorem NoTab.later {W' : World} (h : NoTab W p) (hb : Below W.heap.size W W') : NoTab W' p := by
  rcases h with h | ⟨b, h, h2, h3, h4, h6⟩
  · exact .inl h
  · exact .inr ⟨b, h, cell_later hb h2, cell_later hb h3, cell_later hb h4, cell_later hb h6⟩
theorem ready_no (h : NoTab W p) : Calls Try.prog 58 #[.pointer p] W fun e w' => e = .returned (.bool false) ∧ w' = W := by
  rcases h with rfl | ⟨b, rfl, _, _, h4, _⟩
  · exact ready_nil W
  · exact ready_zero W b h4
set_option maxRecDepth 100000 in
set_option maxHeartbeats 1600000 in
theorem none25 (h : NoTab W p) (s : ByteArray) : Calls Try.prog 25 #[.pointer p, .string s] W fun e w' => e = .returned (.tuple #[.int .i64 0, .int .i64 1]) ∧ w' = W := by
  have HR := ready_no h
  clear h
  go_enter Try.func25, Try.ntmps25
  go_wp2_with fail
  refine HR.mono ?_
  rintro e w1 ⟨rfl, hw⟩
  obtain rfl := hw.symm
  clear HR
  go_wp2_with fail
  go_ret2
  exact ⟨rfl, rfl⟩
set_option maxRecDepth 100000 in
set_option maxHeartbeats 1600000 in
theorem none22 (h : NoTab W p) (s : ByteArray) : Calls Try.prog 22 #[.pointer p, .string s] W fun e w' => e = .returned (.tuple #[.int .i64 0, .int .i64 1]) ∧ w' = W := by
  have HR := ready_no h
  clear h
  go_enter Try.func22, Try.ntmps22
  go_wp2_with fail
  refine HR.mono ?_
  rintro e w1 ⟨rfl, hw⟩
  obtain rfl := hw.symm
  clear HR
  go_wp2_with fail
  go_ret2
  exact ⟨rfl, rfl⟩
set_option maxRecDepth 100000 in
set_option maxHeartbeats 1600000 in
theorem none24 (h : NoTab W p) (s : ByteArray) : Calls Try.prog 24 #[.pointer p, .string s] W fun e w' => e = .returned (.tuple #[.int .i64 0, .int .i64 1]) ∧ w' = W := by
  have HR := ready_no h
  clear h
  go_enter Try.func24, Try.ntmps24
  go_wp2_with fail
  refine HR.mono ?_
  rintro e w1 ⟨rfl, hw⟩
  obtain rfl := hw.symm
  clear HR
  go_wp2_with fail
  go_ret2
  exact ⟨rfl, rfl⟩
set_option maxRecDepth 100000 in
set_option maxHeartbeats 1600000 in
theorem none21 (h : NoTab W p) (n : Int) : Calls Try.prog 21 #[.pointer p, .int .i64 n] W fun e w' => e = .returned (.tuple #[.string ⟨#[]⟩, .int .i64 1]) ∧ w' = W := by
  have HR := ready_no h
  clear h
  go_enter Try.func21, Try.ntmps21
  go_wp2_with fail
  refine HR.mono ?_
  rintro e w1 ⟨rfl, hw⟩
  obtain rfl := hw.symm
  clear HR
  go_wp2_with fail
  go_ret2
  exact ⟨rfl, rfl⟩
set_option maxRecDepth 100000 in
set_option maxHeartbeats 1600000 in
theorem none19 (h : NoTab W p) : Calls Try.prog 19 #[.pointer p] W fun e w' => e = .returned (.int .i64 1) ∧ w' = W := by
  have HR := ready_no h
  clear h
  go_enter Try.func19, Try.ntmps19
  go_wp2_with fail
  refine HR.mono ?_
  rintro e w1 ⟨rfl, hw⟩
  obtain rfl := hw.symm
  clear HR
  go_wp2_with fail
  go_ret
  exact ⟨rfl, rfl⟩
set_option maxRecDepth 100000 in
set_option maxHeartbeats 1600000 in
theorem none20 (h : NoTab W p) (n : Int) : Calls Try.prog 20 #[.pointer p, .int .i64 n] W fun e w' => e = .returned (.int .i64 1) ∧ w' = W := by
  have HR := ready_no h
  clear h
  go_enter Try.func20, Try.ntmps20
  go_wp2_with fail
  refine HR.mono ?_
  rintro e w1 ⟨rfl, hw⟩
  obtain rfl := hw.symm
  clear HR
  go_wp2_with fail
  go_ret
  exact ⟨rfl, rfl⟩
set_option maxRecDepth 100000 in
set_option maxHeartbeats 1600000 in
theorem none27 (h : NoTab W p) : Calls Try.prog 27 #[.pointer p] W fun e w' => e = .returned (.pointer none) ∧ w' = W := by
  have HR := ready_no h
  clear h
  go_enter Try.func27, Try.ntmps27
  go_wp2_with fail
  refine HR.mono ?_
  rintro e w1 ⟨rfl, hw⟩
  obtain rfl := hw.symm
  clear HR
  go_wp2_with fail
  go_ret
  exact ⟨rfl, rfl⟩
set_option maxRecDepth 100000 in
set_option maxHeartbeats 1600000 in
theorem none61 (h : NoTab W p) (s : ByteArray) : Calls Try.prog 61 #[.pointer p, .agg #[.string s, .slice none 0 0, .int .i64 0, .bool false]] W fun e w' => e = .returned (.int .i64 1) ∧ Below W.heap.size W w' := by
  have hb := below1 W (.cells #[.string s, .slice none 0 0, .int .i64 0, .bool false] 35)
  have HR := ready_no (h.later hb)
  have HB := Lib.hid hb
  clear h hb
  go_enter Try.func61, Try.ntmps61
  go_wp2_with fail
  refine HR.mono ?_
  rintro e w1 ⟨rfl, hw⟩
  obtain rfl := hw.symm
  clear HR
  go_wp2_with fail
  go_ret
  exact ⟨rfl, HB.out⟩
set_option maxRecDepth 100000 in
set_option maxHeartbeats 1600000 in
theorem none26 (h : NoTab W p) (s : ByteArray) : Calls Try.prog 26 #[.pointer p, .agg #[.string s, .slice none 0 0, .int .i64 0, .bool false]] W fun e w' => e = .returned (.tuple #[.int .i64 0, .int .i64 1]) ∧ Below W.heap.size W w' := by
  have hb := below1 W (.cells #[.string s, .slice none 0 0, .int .i64 0, .bool false] 35)
  have HR := none61 (h.later hb) s
  have HB := Lib.hid hb
  clear h hb
  go_enter Try.func26, Try.ntmps26
  go_wp2_with fail
  refine HR.mono ?_
  rintro e w1 ⟨rfl, hb1⟩
  have HB1 := Lib.hid (chain HB.out hb1)
  clear HR hb1
  go_wp2_with fail
  go_ret2
  exact ⟨rfl, HB1.out⟩
set_option maxRecDepth 100000 in
set_option maxHeartbeats 1600000 in
theorem none23 (h : NoTab W p) (n : Int) : Calls Try.prog 23 #[.pointer p, .int .i64 n] W fun e w' => e = .returned (.tuple #[.agg #[.string ⟨#[]⟩, .slice none 0 0, .int .i64 0, .bool false], .int .i64 1]) ∧ Below W.heap.size W w' := by
  have hb := below1 W (.cells #[.string ⟨#[]⟩, .slice none 0 0, .int .i64 0, .bool false] 35)
  have HR := ready_no (h.later hb)
  have HB := Lib.hid hb
  clear h hb
  go_enter Try.func23, Try.ntmps23
  go_wp2_with fail
  refine HR.mono ?_
  rintro e w1 ⟨rfl, hw⟩
  obtain rfl := hw.symm
  clear HR
  go_wp2_with fail
  refine bodyPost_ret (v := .tuple #[.agg #[.string ⟨#[]⟩, .slice none 0 0, .int .i64 0, .bool false], .int .i64 1]) (by simp [results, Try.results23, go_sem]) rfl ⟨rfl, ?_⟩
  first | exact HB.out | exact (((HB.out.setCell (by simp) _).setCell (by simp) _).setCell (by simp) _).setCell (by simp) _
theorem clone57_nil (c : Nat) (w : World) :
    Calls Try.prog 57 #[.slice none 0 c] w fun e w' => e = .returned (.slice none 0 0) ∧ w' = w := by
  have q22 : ∀ (w : World) (a : Option Addr) (n c n' c' : Nat), (binOp .eql 39 (.slice a n c) (.slice none n' c')).run Try.prog w = .ok (.bool a.isNone) w := fun w a n c n' c' => Lib.run_eql_slice_nil w _ _ a n c n' c' Try.underlying39
  go_enter Try.func57, Try.ntmps57
  go_wp2
  go_ret
  exact ⟨rfl, rfl⟩
set_option maxRecDepth 100000 in
set_option maxHeartbeats 1600000 in
theorem none16 (h : NoTab W p) : Calls Try.prog 16 #[.pointer p] W fun e w' => e = .returned (.slice none 0 0) ∧ w' = W := by
  rcases h with rfl | ⟨b, rfl, h2, h3, h4, h6⟩
  · go_enter Try.func16, Try.ntmps16
    go_wp2_with fail
    go_ret
    exact ⟨rfl, rfl⟩
  · go_enter Try.func16, Try.ntmps16
    go_wp2_with fail
    refine (clone_nil _ _).mono ?_
    rintro e w1 ⟨rfl, hw⟩
    obtain rfl := hw.symm
    go_wp2_with fail
    go_ret
    exact ⟨rfl, rfl⟩
set_option maxRecDepth 100000 in
set_option maxHeartbeats 1600000 in
theorem none17 (h : NoTab W p) : Calls Try.prog 17 #[.pointer p] W fun e w' => e = .returned (.slice none 0 0) ∧ w' = W := by
  rcases h with rfl | ⟨b, rfl, h2, h3, h4, h6⟩
  · go_enter Try.func17, Try.ntmps17
    go_wp2_with fail
    go_ret
    exact ⟨rfl, rfl⟩
  · go_enter Try.func17, Try.ntmps17
    go_wp2_with fail
    refine (clone57_nil _ _).mono ?_
    rintro e w1 ⟨rfl, hw⟩
    obtain rfl := hw.symm
    go_wp2_with fail
    go_ret
    exact ⟨rfl, rfl⟩
set_option maxRecDepth 100000 in
set_option maxHeartbeats 1600000 in
theorem none18 (h : NoTab W p) : Calls Try.prog 18 #[.pointer p] W fun e w' => e = .returned (.int .i64 0) ∧ w' = W := by
  rcases h with rfl | ⟨b, rfl, h2, h3, h4, h6⟩
  · go_enter Try.func18, Try.ntmps18
    go_wp2_with fail
    go_ret
    exact ⟨rfl, rfl⟩
  · go_enter Try.func18, Try.ntmps18
    go_wp2_with fail
    go_ret
    exact ⟨rfl, rfl⟩
set_option maxRecDepth 100000 in
set_option maxHeartbeats 4000000 in
theorem none_any (s : ByteArray) (hs : s.size ≤ maxLen) (n : Int) (_hn : -9223372036854775808 ≤ n ∧ n ≤ 9223372036854775807) (W : World) :
    Calls Try.prog 4 #[.string s, .int .i64 n] W fun e w' => e = .returned (.bool true) ∧ Below W.heap.size W w' := by
  unfold maxLen at hs
  by_cases h1 : 2000 < s.size
  · go_enter Try.func4, Try.ntmps4
    go_wp2_with fail
    refine (known_any _).mono ?_
    rintro e w2 ⟨rfl, hb⟩
    go_wp2_with fail
    go_ret
    exact ⟨rfl, hb⟩
  go_enter Try.func4, Try.ntmps4
  go_wp2_with fail
  have HB2 := Lib.hid (below2 W (.cells #[.slice none 0 0, .slice none 0 0, .slice none 0 0, .slice none 0 0, .map none, .map none, .slice none 0 0] 60) (.cells #[.pointer none, .pointer (some ⟨W.heap.size, 0, none⟩)] 25))
  have l0 : ((W.alloc (.cells #[.slice none 0 0, .slice none 0 0, .slice none 0 0, .slice none 0 0, .map none, .map none, .slice none 0 0] 60)).alloc (.cells #[.pointer none, .pointer (some ⟨W.heap.size, 0, none⟩)] 25)).cell? ⟨W.heap.size + 1, 0, none⟩ = some (.pointer none) := by simp [go_sem]
  have l1 : ((W.alloc (.cells #[.slice none 0 0, .slice none 0 0, .slice none 0 0, .slice none 0 0, .map none, .map none, .slice none 0 0] 60)).alloc (.cells #[.pointer none, .pointer (some ⟨W.heap.size, 0, none⟩)] 25)).cell? ⟨W.heap.size + 1, 1, none⟩ = some (.pointer (some ⟨W.heap.size, 0, none⟩)) := by simp [go_sem]
  have hz : NoTab ((W.alloc (.cells #[.slice none 0 0, .slice none 0 0, .slice none 0 0, .slice none 0 0, .map none, .map none, .slice none 0 0] 60)).alloc (.cells #[.pointer none, .pointer (some ⟨W.heap.size, 0, none⟩)] 25)) (some ⟨W.heap.size, 0, none⟩) := .inr ⟨W.heap.size, rfl, by simp [go_sem], by simp [go_sem], by simp [go_sem], by simp [go_sem]⟩
  have HZ := Lib.hid hz
  clear hz
  generalize (W.alloc (.cells #[.slice none 0 0, .slice none 0 0, .slice none 0 0, .slice none 0 0, .map none, .map none, .slice none 0 0] 60)).alloc (.cells #[.pointer none, .pointer (some ⟨W.heap.size, 0, none⟩)] 25) = w1 at *
  generalize hq : W.heap.size = q at *
  have HQ := Lib.hid hq
  clear hq
  go_loopw [7] (fun i wr => ∃ k : Nat, k ≤ 2 ∧ i = .int .i64 k ∧ Below w1.heap.size w1 wr) (fun i _ => 2 - (intOf i).toNat)
  case atStart => exact ⟨0, by omega, rfl, Below.refl _ _⟩
  case round =>
    obtain ⟨k, hk, rfl, hb⟩ := hrel
    have HBW := Lib.hid hb
    have hkk : k = 0 ∨ k = 1 ∨ k = 2 := by omega
    rcases hkk with rfl | rfl | rfl
    rotate_left 2
    · have HB3 := Lib.hid (HB2.out.trans (HBW.out.mono (by rw [← HQ.out]; exact HB2.out.size)))
      clear hb hk
      go_wp2_with fail
      refine (known_any _).mono ?_
      rintro e w2 ⟨rfl, hb⟩
      have HB4 := Lib.hid (HB3.out.trans (hb.mono (by rw [← HQ.out]; exact HB3.out.size)))
      clear hb
      go_wp2_with fail
      go_ret
      exact ⟨rfl, by rw [HQ.out]; exact HB4.out⟩
    · have cl := cell_later hb l0
      have HN := Lib.hid (show ∀ W', Below wr.heap.size wr W' → NoTab W' none from fun W' h => .inl rfl)
      have HB := Lib.hid (Below.refl wr.heap.size wr)
      clear hb hk
      go_wp2_with fail
      refine (none25 (HN.out _ HB.out) s).mono ?_
      rintro e w' ⟨rfl, hw⟩
      subst hw
      go_wp2_with fail
      refine (none26 (HN.out _ HB.out) s).mono ?_
      rintro e w' ⟨rfl, hb⟩
      replace HB := Lib.hid (chain HB.out hb)
      clear hb
      go_wp2_with fail
      refine (none22 (HN.out _ HB.out) s).mono ?_
      rintro e w' ⟨rfl, hw⟩
      subst hw
      go_wp2_with fail
      refine (none24 (HN.out _ HB.out) s).mono ?_
      rintro e w' ⟨rfl, hw⟩
      subst hw
      go_wp2_with fail
      refine (none21 (HN.out _ HB.out) n).mono ?_
      rintro e w' ⟨rfl, hw⟩
      subst hw
      go_wp2_with fail
      refine (none23 (HN.out _ HB.out) n).mono ?_
      rintro e w' ⟨rfl, hb⟩
      replace HB := Lib.hid (chain HB.out hb)
      clear hb
      have hbx := fun (w : World) => below1 w (.cells #[.string ⟨#[]⟩, .slice none 0 0, .int .i64 0, .bool false] 35)
      replace HB := Lib.hid (chain HB.out (hbx _))
      clear hbx
      go_wp2_with fail
      refine (none19 (HN.out _ HB.out)).mono ?_
      rintro e w' ⟨rfl, hw⟩
      subst hw
      go_wp2_with fail
      refine (none20 (HN.out _ HB.out) n).mono ?_
      rintro e w' ⟨rfl, hw⟩
      subst hw
      go_wp2_with fail
      refine (none16 (HN.out _ HB.out)).mono ?_
      rintro e w' ⟨rfl, hw⟩
      subst hw
      go_wp2_with fail
      refine (none17 (HN.out _ HB.out)).mono ?_
      rintro e w' ⟨rfl, hw⟩
      subst hw
      go_wp2_with fail
      refine (none18 (HN.out _ HB.out)).mono ?_
      rintro e w' ⟨rfl, hw⟩
      subst hw
      go_wp2_with fail
      refine (none27 (HN.out _ HB.out)).mono ?_
      rintro e w' ⟨rfl, hw⟩
      subst hw
      go_wp2_with fail
      go_roundw
      case rel => exact ⟨1, by omega, rfl, chain HBW.out HB.out⟩
      case measure => simp [intOf]
    · have cl := cell_later hb l1
      have HN := Lib.hid (show ∀ W', Below wr.heap.size wr W' → NoTab W' (some ⟨q, 0, none⟩) from fun W' h => HZ.out.later (chain hb h))
      have HB := Lib.hid (Below.refl wr.heap.size wr)
      clear hb hk
      go_wp2_with fail
      refine (none25 (HN.out _ HB.out) s).mono ?_
      rintro e w' ⟨rfl, hw⟩
      subst hw
      go_wp2_with fail
      refine (none26 (HN.out _ HB.out) s).mono ?_
      rintro e w' ⟨rfl, hb⟩
      replace HB := Lib.hid (chain HB.out hb)
      clear hb
      go_wp2_with fail
      refine (none22 (HN.out _ HB.out) s).mono ?_
      rintro e w' ⟨rfl, hw⟩
      subst hw
      go_wp2_with fail
      refine (none24 (HN.out _ HB.out) s).mono ?_
      rintro e w' ⟨rfl, hw⟩
      subst hw
      go_wp2_with fail
      refine (none21 (HN.out _ HB.out) n).mono ?_
      rintro e w' ⟨rfl, hw⟩
      subst hw
      go_wp2_with fail
      refine (none23 (HN.out _ HB.out) n).mono ?_
      rintro e w' ⟨rfl, hb⟩
      replace HB := Lib.hid (chain HB.out hb)
      clear hb
      have hbx := fun (w : World) => below1 w (.cells #[.string ⟨#[]⟩, .slice none 0 0, .int .i64 0, .bool false] 35)
      replace HB := Lib.hid (chain HB.out (hbx _))
      clear hbx
      go_wp2_with fail
      refine (none19 (HN.out _ HB.out)).mono ?_
      rintro e w' ⟨rfl, hw⟩
      subst hw
      go_wp2_with fail
      refine (none20 (HN.out _ HB.out) n).mono ?_
      rintro e w' ⟨rfl, hw⟩
      subst hw
      go_wp2_with fail
      refine (none16 (HN.out _ HB.out)).mono ?_
      rintro e w' ⟨rfl, hw⟩
      subst hw
      go_wp2_with fail
      refine (none17 (HN.out _ HB.out)).mono ?_
      rintro e w' ⟨rfl, hw⟩
      subst hw
      go_wp2_with fail
      refine (none18 (HN.out _ HB.out)).mono ?_
      rintro e w' ⟨rfl, hw⟩
      subst hw
      go_wp2_with fail
      refine (none27 (HN.out _ HB.out)).mono ?_
      rintro e w' ⟨rfl, hw⟩
      subst hw
      go_wp2_with fail
      go_roundw
      case rel => exact ⟨2, by omega, rfl, chain HBW.out HB.out⟩
      case measure => simp [intOf]
end Go.Proofs.Ytkjmmdffelhkiaa
