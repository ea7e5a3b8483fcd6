/- What a table tells of a name. -/
import Derived.Test.YtkjmmdffelhkiaaS9
namespace Go.Proofs.Ytkjmmdffelhkiaa
open Go Go.RowKit Go.Maps

variable {W : World} {K : Nat → Nat} {base c : Nat} {T : Tab}
def SortP (T : Tab) (N : ByteArray) (W : World) (e : Ending) (w' : World) : Prop :=
  ∃ v er, e = .returned (.tuple #[v, .int .i64 er]) ∧ w' = W ∧ (NotGiven N → (∀ u, T.f1 (keyS N) = some u → v = u ∧ er = 0) ∧ (T.f1 (keyS N) = none → er = 7 ∧ v = .int .i64 0))
def FunP (T : Tab) (N : ByteArray) (W : World) (e : Ending) (w' : World) : Prop :=
  ∃ v er, e = .returned (.tuple #[v, .int .i64 er]) ∧ w' = W ∧ (∀ u, T.f2 (keyS N) = some u → v = u ∧ er = 0) ∧ (T.f2 (keyS N) = none → er = 7 ∧ v = .int .i64 0)
set_option maxRecDepth 100000 in
set_option maxHeartbeats 1600000 in
theorem sort_any (h : TabAt W K base c T) (N : ByteArray) (hs : N.size ≤ 100000) :
    Calls Try.prog 22 #[.pointer (some ⟨c, 0, none⟩), .string N] W (SortP T N W) := by
  have HR := ready_at h
  obtain ⟨m1, x4, q4⟩ := h.map1
  have hlk := q4.look_ok K9 Try.underlying56 (zero33 _) (key9 N (by unfold maxLen; omega))
  clear h q4
  go_enter Try.func22, Try.ntmps22
  go_wp2_with fail
  refine HR.mono ?_
  rintro e w1 ⟨rfl, rfl⟩
  by_cases hN1 : N.toList = [66, 111, 111, 108]
  · have q1 : (N.toList == [66, 111, 111, 108]) = true := by simpa using hN1
    go_wp2_with fail
    go_ret2
    exact ⟨_, _, rfl, rfl, fun hn => absurd hN1 hn.1⟩
  by_cases hN2 : N.toList = [73, 110, 116]
  · have q2 : (N.toList == [73, 110, 116]) = true := by simpa using hN2
    go_wp2_with fail
    go_ret2
    exact ⟨_, _, rfl, rfl, fun hn => absurd hN2 hn.2⟩
  have q1 : (N.toList == [66, 111, 111, 108]) = false := by simpa using hN1
  have q2 : (N.toList == [73, 110, 116]) = false := by simpa using hN2
  cases hf : T.f1 (keyS N) with
  | some v =>
    rw [hf] at hlk
    simp only [Option.getD_some, Option.isSome_some] at hlk
    have HF := Lib.hid hf
    clear hf
    go_wp2_with fail
    go_ret2
    exact ⟨_, _, rfl, rfl, fun _ => ⟨fun u hu => ⟨Option.some.inj (HF.out.symm.trans hu), rfl⟩, fun hu => absurd (HF.out.symm.trans hu) (by simp)⟩⟩
  | none =>
    rw [hf] at hlk
    simp only [Option.getD_none, Option.isSome_none] at hlk
    have HF := Lib.hid hf
    clear hf
    go_wp2_with fail
    go_ret2
    exact ⟨_, _, rfl, rfl, fun _ => ⟨fun u hu => absurd (HF.out.symm.trans hu) (by simp), fun _ => ⟨rfl, rfl⟩⟩⟩
set_option maxRecDepth 100000 in
set_option maxHeartbeats 1600000 in
theorem fun_any (h : TabAt W K base c T) (N : ByteArray) (hs : N.size ≤ 100000) :
    Calls Try.prog 24 #[.pointer (some ⟨c, 0, none⟩), .string N] W (FunP T N W) := by
  have HR := ready_at h
  obtain ⟨m1, x4, q4⟩ := h.map2
  have hlk := q4.look_ok K9 Try.underlying57 (zero3 _) (key9 N (by unfold maxLen; omega))
  clear h q4
  go_enter Try.func24, Try.ntmps24
  go_wp2_with fail
  refine HR.mono ?_
  rintro e w1 ⟨rfl, rfl⟩
  cases hf : T.f2 (keyS N) with
  | some v =>
    rw [hf] at hlk
    simp only [Option.getD_some, Option.isSome_some] at hlk
    have HF := Lib.hid hf
    clear hf
    go_wp2_with fail
    go_ret2
    exact ⟨_, _, rfl, rfl, fun u hu => ⟨Option.some.inj (HF.out.symm.trans hu), rfl⟩, fun hu => absurd (HF.out.symm.trans hu) (by simp)⟩
  | none =>
    rw [hf] at hlk
    simp only [Option.getD_none, Option.isSome_none] at hlk
    have HF := Lib.hid hf
    clear hf
    go_wp2_with fail
    go_ret2
    exact ⟨_, _, rfl, rfl, fun u hu => absurd (HF.out.symm.trans hu) (by simp), fun _ => ⟨rfl, rfl⟩⟩
def noF : Lit → Option Value := fun _ => none
def tab0 : Tab := ⟨[], [], [], [], noF, 0, noF, 0, []⟩
theorem good0 : Good tab0 :=
  ⟨fun _ h => (by cases h), List.Pairwise.nil, fun _ h => (by cases h), List.Pairwise.nil, List.Pairwise.nil, fun _ h => (by cases h), Nat.zero_le _, Nat.zero_le _, Nat.zero_le _, Nat.le_refl _, Nat.le_refl _, Nat.le_refl _, Nat.le_refl _, fun _ h => (by cases h), fun _ h => (by cases h)⟩
theorem row0_at (W : World) (K : Nat → Nat) (t : Nat) (e : TypeId) (sz : Nat) : RowAt W K t e sz (.slice none 0 0) 0 [] := ⟨⟨by simp, .inl ⟨rfl, rfl⟩⟩, fun k h => by cases h⟩
set_option maxRecDepth 100000 in
set_option maxHeartbeats 1600000 in
theorem new_any (W : World) : Calls Try.prog 14 #[] W fun e w' => ∃ c K, e = .returned (.pointer (some ⟨c, 0, none⟩)) ∧ TabAt w' K W.heap.size c tab0 ∧ W.heap.size ≤ c ∧ Below W.heap.size W w' := by
  have hmm := @run_makeMap Try.prog
  go_enter Try.func14, Try.ntmps14
  go_wp2_with fail
  go_ret
  have hb1 := below1 W (.map #[] 0)
  have hb2 := hb1.trans ((below1 (W.alloc (.map #[] 0)) (.map #[] 0)).mono (by simp))
  have hb3 := hb2.trans ((below1 ((W.alloc (.map #[] 0)).alloc (.map #[] 0)) (.cells #[.slice none 0 0, .slice none 0 0, .slice none 0 0, .slice none 0 0, .map (some W.heap.size), .map (some (W.heap.size + 1)), .slice none 0 0] 60)).mono (by simp; omega))
  have m1 := ((FMap.made W 9).later (below1 (W.alloc (.map #[] 0)) (.map #[] 0))).later (below1 ((W.alloc (.map #[] 0)).alloc (.map #[] 0)) (.cells #[.slice none 0 0, .slice none 0 0, .slice none 0 0, .slice none 0 0, .map (some W.heap.size), .map (some (W.heap.size + 1)), .slice none 0 0] 60))
  have m2 := ((FMap.made (W.alloc (.map #[] 0)) 9)).later (below1 ((W.alloc (.map #[] 0)).alloc (.map #[] 0)) (.cells #[.slice none 0 0, .slice none 0 0, .slice none 0 0, .slice none 0 0, .map (some W.heap.size), .map (some (W.heap.size + 1)), .slice none 0 0] 60))
  refine ⟨_, fun k => if k = W.heap.size then 6 else if k = W.heap.size + 1 then 7 else if k = W.heap.size + 2 then 1 else 0, rfl, ⟨fun k hk => ?_, fun k hk => ?_, ?_, ?_⟩, ?_, hb3⟩
  · simp at hk
    rw [if_neg (by omega), if_neg (by omega), if_neg (by omega)]
  · rw [if_neg (by omega), if_neg (by omega), if_neg (by omega)]
  · simp; omega
  · refine ⟨fun i => match i with | 4 => .map (some W.heap.size) | 5 => .map (some (W.heap.size + 1)) | _ => .slice none 0 0, W.heap.size, W.heap.size + 1, ⟨fun i hi => ?_, fun i => by simp [go_sem]⟩, ?_⟩
    · match i, hi with
      | 0, _ => simp [go_sem]
      | 1, _ => simp [go_sem]
      | 2, _ => simp [go_sem]
      | 3, _ => simp [go_sem]
      | 4, _ => simp [go_sem]
      | 5, _ => simp [go_sem]
      | 6, _ => simp [go_sem]
    · exact ⟨row0_at _ _ _ _ _, row0_at _ _ _ _ _, row0_at _ _ _ _ _, row0_at _ _ _ _ _, rfl, rfl, by simp, by simp, m1, by rw [World.size_alloc] at m2; exact m2, row0_at _ _ _ _ _, fun i x h => by simp [tab0] at h⟩
  · first | omega | (simp; omega)
end Go.Proofs.Ytkjmmdffelhkiaa
