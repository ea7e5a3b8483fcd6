/- DeclareSort: its walk. -/
import Derived.Test.YtkjmmdffelhkiaaS7
import Derived.Deep.DeepCutAuto
namespace Go.Proofs.Ytkjmmdffelhkiaa
open Go Go.RowKit Go.Maps

variable {W : World} {K : Nat → Nat} {base c : Nat} {T : Tab}
theorem info9 : ∃ i0, Try.prog.info? 9 = some i0 ∧ i0.zero = some (.string ⟨#[]⟩) ∧ i0.size = 1 ∧ i0.bytes = 16 := info_of (by kernel_rfl)
theorem info33 : ∃ i0, Try.prog.info? 33 = some i0 ∧ i0.zero = some (.int .i64 0) ∧ i0.size = 1 ∧ i0.bytes = 8 := info_of (by kernel_rfl)
theorem info3 : ∃ i0, Try.prog.info? 3 = some i0 ∧ i0.zero = some (.int .i64 0) ∧ i0.size = 1 ∧ i0.bytes = 8 := info_of (by kernel_rfl)
set_option maxRecDepth 100000 in
set_option maxHeartbeats 4000000 in
theorem declareSort_gen (bs : Bool → Prop) (h : TabAt W K base c T) (g : Good T) (N : ByteArray) (hs : N.size ≤ 100000) (HV : Calls Try.prog 59 #[.string N] W fun e w' => ∃ b, e = .returned (.bool b) ∧ w' = W ∧ bs b) :
    Calls Try.prog 25 #[.pointer (some ⟨c, 0, none⟩), .string N] W (DeclS T N bs base c K W) := by
  have HR := ready_at h
  obtain ⟨m1, x4, q4⟩ := h.map1
  have hkey := key9 N (by unfold maxLen; omega)
  have hlk := q4.look_ok K9 Try.underlying56 (zero33 _) hkey
  obtain ⟨p0, z0, x0, hO_⟩ := h.row0
  have HC := clone60 N W (by omega)
  have hn := g.b1
  have hn4 := g.b4
  have hn6 := g.b6
  have H := Lib.hid h
  have HG := Lib.hid g
  have HK := Lib.hid hkey
  obtain ⟨i9, hi9, hz90, hz91, hz92⟩ := info9
  obtain ⟨i33, hi33, hz330, hz331, hz332⟩ := info33
  clear h g q4 hkey hO_
  go_enter Try.func25, Try.ntmps25
  go_wp2_with fail
  refine HR.mono ?_
  rintro e w1 ⟨rfl, rfl⟩
  go_wp2_with fail
  refine HV.mono ?_
  rintro e w1 ⟨b1, rfl, rfl, hbs⟩
  cases b1
  · have HBS := Lib.hid hbs
    clear hbs
    go_wp2_with fail
    go_ret2
    exact ⟨K, T, _, _, rfl, H.out, HG.out, StepT.refl _ _, .inl ⟨by omega, rfl, .inl HBS.out⟩⟩
  clear hbs
  by_cases hN1 : N.toList = [66, 111, 111, 108]
  · go_wp2_with fail
    go_ret2
    exact ⟨K, T, _, _, rfl, H.out, HG.out, StepT.refl _ _, .inl ⟨by omega, rfl, .inr (.inl (fun h => h.1 hN1))⟩⟩
  by_cases hN2 : N.toList = [73, 110, 116]
  · go_wp2_with fail
    go_ret2
    exact ⟨K, T, _, _, rfl, H.out, HG.out, StepT.refl _ _, .inl ⟨by omega, rfl, .inr (.inl (fun h => h.2 hN2))⟩⟩
  have q1 : (N.toList == [66, 111, 111, 108]) = false := by simpa using hN1
  have q2 : (N.toList == [73, 110, 116]) = false := by simpa using hN2
  cases hf : T.f1 (keyS N) with
  | some v =>
    rw [hf] at hlk
    simp only [Option.getD_some, Option.isSome_some] at hlk
    have HF := Lib.hid hf
    clear hf
    go_wp2_with fail
    go_ret2
    exact ⟨K, T, _, _, rfl, H.out, HG.out, StepT.refl _ _, .inl ⟨by omega, rfl, .inr (.inr (.inl (by rw [HF.out]; simp)))⟩⟩
  | none =>
    rw [hf] at hlk
    simp only [Option.getD_none, Option.isSome_none] at hlk
    have HF := Lib.hid hf
    clear hf
    by_cases h2000 : 2000 ≤ T.names.length
    · go_wp2_with fail
      go_ret2
      exact ⟨K, T, _, _, rfl, H.out, HG.out, StepT.refl _ _, .inl ⟨by omega, rfl, .inr (.inr (.inr h2000))⟩⟩
    go_wp2_with fail
    have HNG := Lib.hid (show NotGiven N from ⟨hN1, hN2⟩)
    clear hlk x4 x0 HV HR hN1 hN2 q1 q2
    refine HC.mono ?_
    rintro e w2 ⟨rfl, hb2⟩
    have hb3 := chain hb2 (below1 w2 (.cells #[.string N] 9))
    obtain ⟨p0, z0, x0, o0⟩ := (H.out.later hb2).row0
    obtain ⟨p1, z1, x1, o1⟩ := (H.out.later hb3).row0
    have x1' := cell_later (below1 w2 (.cells #[.string N] 9)) x0
    rw [x1'] at x1
    cases x1
    have HT3 := Lib.hid (H.out.later hb3)
    have HB3 := Lib.hid hb3
    have HO := Lib.hid o1
    have HX := Lib.hid x1'
    clear o0 o1 x1' hb2 hb3 HC
    go_wp2_with (at_builtin; refine wpList_append_own_at _ rfl _ _ 54 rfl 0 9 i9 (.string ⟨#[]⟩) 1 16 Try.underlying54 hi9 hz90 hz91 hz92 rfl (by omega) _ T.names.length (T.names.map Value.string) rfl HO.out ⟨w2.heap.size, 0, none⟩ 1 1 [.string N] rfl rfl ?qc2 ?qc3 ?qc4 ?qc5 ?qc6 ?_)
    case qc2 =>
      intro jj u hjj
      rw [Lib.add_plain]
      match jj, hjj with
      | 0, hjj => cases hjj; simp [go_sem]
    case qc3 => intro u hu; simp at hu; rcases hu with rfl; rfl
    case qc4 => have hml : maxLen = 9223372036854775807 := rfl; omega
    case qc5 => omega
    case qc6 => exact Nat.zero_le _
    intro v5 w5 hown hgrow hnil_ hloc
    obtain ⟨p5, c5, hv⟩ := own_shape hown
    subst hv
    clear hnil_
    obtain ⟨K5, hT5, hS5, x5, f5⟩ := HT3.out.pushN HX.out N hown hgrow (by simpa using hloc)
    have HT5 := Lib.hid hT5
    have HS5 := Lib.hid hS5
    obtain ⟨p6, z6, x6, o6_⟩ := HT5.out.row2
    clear hown hgrow hloc hT5 hS5 HO x0 o6_
    go_upto_region 13 with (fail)
    generalize w5.setCell ⟨c, 0, none⟩ (.slice p5 (T.names.length + 1) c5) = w6 at *
    clear x5 f5
    have hb7 := below1 w6 (.cells #[.int .i64 (2 + (T.names.length : Int))] 33)
    have HT7 := Lib.hid (HT5.out.later hb7)
    have HB7 := Lib.hid hb7
    obtain ⟨p7, z7, x7, o7⟩ := HT7.out.row2
    have x7' := cell_later hb7 x6
    rw [x7'] at x7
    cases x7
    have HO7 := Lib.hid o7
    have HX7 := Lib.hid x7'
    clear o7 x7' hb7
    go_wp2_with (at_builtin; refine wpList_append_own_at _ rfl _ _ 32 rfl 0 33 i33 (.int .i64 0) 1 8 Try.underlying32 hi33 hz330 hz331 hz332 rfl (by omega) _ T.sorts.length (T.sorts.map sV) rfl HO7.out ⟨w6.heap.size, 0, none⟩ 1 1 [.int .i64 (2 + (T.names.length : Int))] rfl rfl ?qd2 ?qd3 ?qd4 ?qd5 ?qd6 ?_)
    try (case qd2 =>
      intro jj u hjj
      rw [Lib.add_plain]
      match jj, hjj with
      | 0, hjj => cases hjj; simp [go_sem])
    try (case qd3 => first | rfl | (intro u hu; simp at hu; rcases hu with rfl; rfl))
    try (case qd4 => have hml : maxLen = 9223372036854775807 := rfl; omega)
    try (case qd5 => omega)
    try (case qd6 => exact Nat.zero_le _)
    intro v8 w8 hown hgrow hnil_ hloc
    obtain ⟨p8, c8, hv⟩ := own_shape hown
    subst hv
    clear hnil_
    obtain ⟨K8, hT8, hS8, x8, f8⟩ := HT7.out.pushS HX7.out T.names.length hown hgrow (by simpa using hloc)
    have HT8 := Lib.hid hT8
    have HS8 := Lib.hid hS8
    obtain ⟨m9, x9, q9⟩ := HT8.out.map1
    have HQ9 := Lib.hid q9
    clear hown hgrow hloc hT8 hS8 HO7 x6 q9
    go_upto_region 14 with (fail)
    generalize w8.setCell ⟨c, 2, none⟩ (.slice p8 (T.sorts.length + 1) c8) = w9 at *
    clear x8 f8
    obtain ⟨w10, hr10, hq10, hg10⟩ := HQ9.out.put K9 Try.underlying56 (by have hml : maxLen = 9223372036854775807 := rfl; simp only; omega) HK.out (sV T.names.length)
    unfold sV at hr10
    obtain ⟨hT10, hS10⟩ := HT8.out.inM1 x9 hg10 hq10
    have HT10 := Lib.hid hT10
    have HS10 := Lib.hid hS10
    clear hq10 hg10 hT10 hS10
    go_wp2_with fail
    go_ret2
    refine ⟨K8, addS T N, _, _, rfl, HT10.out, HG.out.addS HF.out (by omega) HNG.out hs, (StepT.below HB3.out).trans (HS5.out.trans ((StepT.below HB7.out).trans (HS8.out.trans HS10.out))), .inr ⟨rfl, rfl, HNG.out, rfl⟩⟩
theorem declareSort_any (h : TabAt W K base c T) (g : Good T) (N : ByteArray) (hs : N.size ≤ 100000) :
    Calls Try.prog 25 #[.pointer (some ⟨c, 0, none⟩), .string N] W (DeclS T N (fun _ => True) base c K W) :=
  declareSort_gen _ h g N hs ((validName_any N W (by unfold maxLen; omega)).mono fun _ _ ⟨b, h1, h2⟩ => ⟨b, h1, h2, trivial⟩)
end Go.Proofs.Ytkjmmdffelhkiaa
