/- The law's own example: a sort in a scope. -/
import Derived.Test.YtkjmmdffelhkiaaS15
namespace Go.Proofs.Ytkjmmdffelhkiaa
open Go Go.RowKit Go.Maps

variable {W : World} {K : Nat → Nat} {base c : Nat} {T : Tab}
def bU : ByteArray := ⟨#[85]⟩
def bV : ByteArray := ⟨#[86]⟩
theorem ngU : NotGiven bU := by
  unfold NotGiven bU
  decide +kernel
theorem ngV : NotGiven bV := by
  unfold NotGiven bV
  decide +kernel
theorem keyUV : keyS bV ≠ keyS bU := by
  intro h
  have := keyS_inj h
  cases this
set_option maxRecDepth 100000 in
theorem validU (w : World) : Calls Try.prog 59 #[.string bU] w fun e w' => ∃ b, e = .returned (.bool b) ∧ w' = w ∧ b = true := by
  unfold bU
  go_enter Try.func59, Try.ntmps59
  go_wp2
  go_ret
  exact ⟨_, rfl, rfl, rfl⟩
set_option maxRecDepth 100000 in
theorem validV (w : World) : Calls Try.prog 59 #[.string bV] w fun e w' => ∃ b, e = .returned (.bool b) ∧ w' = w ∧ b = true := by
  unfold bV
  go_enter Try.func59, Try.ntmps59
  go_wp2
  go_ret
  exact ⟨_, rfl, rfl, rfl⟩
theorem declared (h : TabAt W K base c T) (g : Good T) (N : ByteArray) (hs : N.size ≤ 100000) (HV : Calls Try.prog 59 #[.string N] W fun e w' => ∃ b, e = .returned (.bool b) ∧ w' = W ∧ b = true) (hn : NotGiven N) (hf : T.f1 (keyS N) = none) (hl : T.names.length < 2000) :
    Calls Try.prog 25 #[.pointer (some ⟨c, 0, none⟩), .string N] W fun e w' => e = .returned (.tuple #[.int .i64 (2 + (T.names.length : Int)), .int .i64 0]) ∧ ∃ K', TabAt w' K' base c (addS T N) ∧ Good (addS T N) ∧ StepT W w' K K' := by
  refine (declareSort_gen (fun b => b = true) h g N hs HV).mono fun e w' hp => ?_
  obtain ⟨K', T', s, er, he, ht, hg, hst, hp⟩ := hp
  rcases hp with ⟨_, _, h1 | h1 | h1 | h1⟩ | ⟨rfl, rfl, _, rfl⟩
  · cases h1
  · exact absurd hn h1
  · exact absurd hf h1
  · omega
  · exact ⟨he, K', ht, hg, hst⟩
theorem pushed (h : TabAt W K base c T) (g : Good T) (hl : T.scopes.length < 200) :
    Calls Try.prog 19 #[.pointer (some ⟨c, 0, none⟩)] W fun e w' => e = .returned (.int .i64 0) ∧ ∃ K', TabAt w' K' base c (addP T) ∧ Good (addP T) ∧ StepT W w' K K' := by
  refine (push_any h g).mono fun e w' hp => ?_
  obtain ⟨K', T', er, he, ht, hg, hst, hp⟩ := hp
  rcases hp with ⟨_, _, h1⟩ | ⟨rfl, _, rfl⟩
  · omega
  · exact ⟨he, K', ht, hg, hst⟩
set_option maxRecDepth 100000 in
set_option maxHeartbeats 1600000 in
theorem known_any (W : World) : Calls Try.prog 13 #[] W fun e w' => e = .returned (.bool true) ∧ Below W.heap.size W w' := by
  go_enter Try.func13, Try.ntmps13
  go_wp2_with fail
  refine (new_any W).mono ?_
  rintro e w1 ⟨c, K1, rfl, h1, _, hb1⟩
  have HT1 := Lib.hid h1
  have HB1 := Lib.hid hb1
  have H2 : Calls Try.prog 25 #[.pointer (some ⟨c, 0, none⟩), .string ⟨#[85]⟩] w1 fun e w' => e = .returned (.tuple #[.int .i64 2, .int .i64 0]) ∧ ∃ K', TabAt w' K' W.heap.size c (addS tab0 bU) ∧ Good (addS tab0 bU) ∧ StepT w1 w' K1 K' := declared h1 good0 bU (by decide) (validU w1) ngU rfl (by decide)
  clear h1 hb1
  go_wp2_with fail
  refine H2.mono ?_
  rintro e w2 ⟨rfl, K2, h2, g2, s2⟩
  have HS2 := Lib.hid s2
  have H3 := pushed h2 g2 (by decide)
  clear H2 h2 s2 g2
  go_wp2_with fail
  refine H3.mono ?_
  rintro e w3 ⟨rfl, K3, h3, g3, s3⟩
  have HS3 := Lib.hid s3
  have H4 : Calls Try.prog 25 #[.pointer (some ⟨c, 0, none⟩), .string ⟨#[86]⟩] w3 fun e w' => e = .returned (.tuple #[.int .i64 3, .int .i64 0]) ∧ ∃ K', TabAt w' K' W.heap.size c (addS (addP (addS tab0 bU)) bV) ∧ Good (addS (addP (addS tab0 bU)) bV) ∧ StepT w3 w' K3 K' := declared h3 g3 bV (by decide) (validV w3) ngV (by
    show updF noF (keyS bU) _ (keyS bV) = none
    unfold updF
    rw [if_neg keyUV]
    rfl) (by decide)
  clear H3 h3 s3 g3
  go_wp2_with fail
  refine H4.mono ?_
  rintro e w4 ⟨rfl, K4, h4, g4, s4⟩
  have HS4 := Lib.hid s4
  have H5 := pop_any h4 g4 1 ⟨by omega, by omega⟩
  clear H4 h4 s4 g4
  go_wp2_with fail
  refine H5.mono ?_
  rintro e w5 ⟨T5, er, rfl, h5, g5, s5, hp⟩
  have HS5 := Lib.hid s5
  have hn : er = 0 ∧ T5.f1 (keyS bV) = none := by
    rcases hp with ⟨_, _, h1 | h1⟩ | ⟨_, h1, _⟩ | ⟨h0, l, a, b, g1, n1, g2, n2, _, hl, hs, rfl, hc, _⟩
    · omega
    · exact absurd h1 (by decide)
    · omega
    · refine ⟨h0, ?_⟩
      have e : l = 0 := by
        have : ((addS (addP (addS tab0 bU)) bV).scopes.length : Int) = 1 := rfl
        omega
      subst e
      have e2 : (1, 0) = (a, b) := Option.some.inj hs
      cases e2
      exact hc.1 0 (by decide) 1 bV rfl rfl
  obtain ⟨rfl, hn⟩ := hn
  have H6 := sort_any h5 bV (by decide)
  have HN := Lib.hid hn
  have HB5 := Lib.hid (HB1.out.trans (StepT.toBelow (HS2.out.trans (HS3.out.trans (HS4.out.trans HS5.out))) HT1.out))
  unfold bV at H6
  clear H5 h5 s5 g5 hp hn
  go_wp2_with fail
  refine H6.mono ?_
  rintro e w6 ⟨v, er, rfl, hw, h6⟩
  subst hw
  obtain ⟨rfl, rfl⟩ := (h6 ngV).2 HN.out
  clear h6 H6
  go_wp2_with fail
  go_ret
  exact ⟨rfl, HB5.out⟩
end Go.Proofs.Ytkjmmdffelhkiaa
