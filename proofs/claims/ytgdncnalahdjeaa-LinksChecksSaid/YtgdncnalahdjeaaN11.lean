/- Copied links are checked alike, and both checkers answer one thing. -/
import Derived.Test.YtgdncnalahdjeaaN10
import Derived.Test.YtgdncnalahdjeaaN4
import Derived.Test.YtgdncnalahdjeaaL21
namespace Go.Proofs.Ytgdncnalahdjeaa
open Go Go.RowKit

section
variable {n : Nat} {d : VD} {m : Nat} {a : AD} {ld ld2 : LD} {N : Nat}
theorem anyB_eq {k : Nat} {f g : Nat → Bool} (h : ∀ i, i < k → f i = g i) : anyB k f = anyB k g := by
  cases hg : anyB k g with
  | false =>
    refine anyB_no (fun i hi => ?_)
    rw [h i hi]
    cases hq : g i with
    | false => rfl
    | true => rw [anyB_yes i hi hq] at hg; cases hg
  | true =>
    obtain ⟨i, hi, hq⟩ := (anyB_iff _ _).1 hg
    exact anyB_yes i hi (by rw [h i hi]; exact hq)
theorem concl_copied {ts : List (Int × Int)} {K T A B I J : Int} {L : Nat} {V V2 : Nat → Int} (h : ∀ k, k < L → V2 k = V k) : conclL n d m a ts K T A B I J L V2 = conclL n d m a ts K T A B I J L V := by
  have e : appB n d ts A B L V2 = appB n d ts A B L V := by
    unfold appB
    rw [anyB_eq (f := fun k => !(atL ts (V2 k) == ((d.V A.toNat k, d.V B.toNat k), true))) (g := fun k => !(atL ts (V k) == ((d.V A.toNat k, d.V B.toNat k), true))) (fun i hi => by rw [h i hi])]
  unfold conclL
  rw [e]
theorem goL_copied (h : SameL ld ld2 N) : ∀ k, k ≤ N → goL n d m a ld2 k = goL n d m a ld k
  | 0, _ => rfl
  | k + 1, hk => by
    have ih := goL_copied h k (by omega)
    have hlt : k < N := by omega
    simp only [goL, ih, h.k k hlt, h.t k hlt, h.a k hlt, h.bb k hlt, h.i k hlt, h.jj k hlt, h.l k hlt]
    rw [concl_copied (h.v k hlt)]
theorem okAt_copied (h : SameL ld ld2 N) {k : Nat} (hk : k < N) : okAt n d m a ld2 k = okAt n d m a ld k := by
  unfold okAt
  rw [goL_copied h k (by omega), h.k k hk, h.t k hk, h.a k hk, h.bb k hk, h.i k hk, h.jj k hk, h.l k hk, concl_copied (h.v k hk)]
theorem closes_copied (h : SameL ld ld2 N) : (ClosesAll n d m a ld2 N ↔ ClosesAll n d m a ld N) ∧ litsOf n d m a ld2 N = litsOf n d m a ld N := by
  by_cases h0 : N = 0
  · subst h0
    refine ⟨⟨fun h => absurd rfl h.1, fun h => absurd rfl h.1⟩, ?_⟩
    have e : ∀ l : LD, litsOf n d m a l 0 = [] := fun l => by
      have h1 : (atL (goL n d m a l (0 - 1)).1 (l.I (0 - 1))).2 = false := by
        show (atL [] (l.I 0)).2 = false
        unfold atL
        rw [if_neg (by simp only [List.length_nil]; omega)]
      unfold litsOf closeT
      rw [if_neg (by rw [h1]; simp)]
      rfl
    rw [e, e]
  · have hlt : N - 1 < N := by omega
    refine ⟨?_, ?_⟩
    · unfold ClosesAll
      rw [goL_copied h (N - 1) (by omega), h.k _ hlt, h.t _ hlt, h.i _ hlt]
      constructor
      · rintro ⟨h1, h2, h3⟩
        exact ⟨h1, fun i hi => by rw [← okAt_copied h (by omega)]; exact h2 i hi, h3⟩
      · rintro ⟨h1, h2, h3⟩
        exact ⟨h1, fun i hi => by rw [okAt_copied h (by omega)]; exact h2 i hi, h3⟩
    · unfold litsOf
      rw [goL_copied h (N - 1) (by omega), h.k _ hlt, h.t _ hlt, h.i _ hlt]
theorem told_okL {l : Int} (h : (toldL m a l).2 = true) : okL m l = true := by
  unfold toldL at h
  cases ho : okL m l with
  | true => rfl
  | false => rw [ho] at h; simp at h
theorem goL_lits : ∀ k, (∀ i, i < k → okAt n d m a ld i = true) → ∀ l ∈ (goL n d m a ld k).2, okL m l = true
  | 0, _, l, hl => by simp [goL] at hl
  | k + 1, h, l, hl => by
    have ih := goL_lits k (fun i hi => h i (by omega))
    have hk := h k (by omega)
    simp only [goL] at hl
    unfold litsT at hl
    by_cases h1 : ld.K k = 1
    · rw [if_pos h1] at hl
      rcases List.mem_append.1 hl with hl | hl
      · exact ih l hl
      · simp at hl
        subst hl
        unfold okAt at hk
        rw [h1, conclL_1] at hk
        exact told_okL hk
    · rw [if_neg h1] at hl
      exact ih l hl
theorem lits_okL (h : ClosesAll n d m a ld N) : ∀ l ∈ litsOf n d m a ld N, okL m l = true := by
  intro l hl
  have hg := goL_lits (N - 1) h.2.1
  unfold litsOf closeT at hl
  split at hl
  · rename_i hc
    rcases List.mem_append.1 hl with hl | hl
    · exact hg l hl
    · simp at hl
      subst hl
      have h3 := h.2.2
      unfold closeL at h3
      rw [hc.2] at h3
      simp at h3
      exact h3.2.1.1.1
  · exact hg l hl
theorem lits_may (h : ClosesAll n d m a ld N) (hN : N ≤ 300) : MayP (litsOf n d m a ld N).length (fun i => (litsOf n d m a ld N).getD i 0) := by
  have hl := litsOf_len n d m a ld N
  refine ⟨by omega, fun i hi => ?_⟩
  have := lits_okL h _ ((getD_mem_iff (litsOf n d m a ld N) _).1 ⟨i, hi, rfl⟩)
  unfold okL at this
  simp only [Bool.and_eq_true] at this
  show isLitB _ = true
  unfold isLitB
  simp only [Bool.and_eq_true]
  exact this.1
end
/-- both checkers, of links and of these copied: one answer. -/
theorem links_fixed (n : Nat) (d : VD) (m : Nat) (a : AD) (ld : LD) (N : Nat) (hn : n ≤ 9223372036854775807) (hm : m ≤ 1000000) (hN : N ≤ 300) (hLL : ∀ j, j < N → ld.L j ≤ 30) (hT : ∀ i, i < N → -9223372036854775808 ≤ ld.T i ∧ ld.T i ≤ 9223372036854775807) :
    ∃ (k : Nat) (Z : Nat → Int) (er : Int), k ≤ 5000 ∧ (∀ ld2, SameL ld ld2 N → ∀ p cv q ca s cs w, VertsIn w p n d → AtomsIn w q m a → LinksIn w s N ld2 → Calls Try.prog 37 #[.slice p n cv, .slice q m ca, .slice s N cs] w fun e w' => Outs k Z er e w' ∧ Below w.heap.size w w') ∧
      (∀ p cv q ca s cs w, VertsIn w p n d → AtomsIn w q m a → LinksIn w s N ld → Calls Try.prog 38 #[.slice p n cv, .slice q m ca, .slice s N cs] w fun e w' => Outs k Z er e w' ∧ Below w.heap.size w w') := by
  cases hmay : mayB n d m a with
  | false =>
    refine ⟨0, fun _ => 0, 2, by omega, fun ld2 h p cv q ca s cs w hd ha hl => ?_, fun p cv q ca s cs w hd ha hl => ?_⟩
    · refine (check_no n d m a _ p cv q ca s cs w hd ha hn hm hmay).mono ?_
      rintro e w1 ⟨rfl, hb⟩
      exact ⟨⟨none, 0, rfl, fun h => by omega⟩, hb⟩
    · refine (refCheck_no p n cv d q m ca a s N cs w hd hn ha (by omega) hmay).mono ?_
      rintro e w1 ⟨rfl, hb⟩
      exact ⟨⟨none, 0, rfl, fun h => by omega⟩, hb⟩
  | true =>
    have hlen := litsOf_len n d m a ld N
    obtain ⟨k, Z, er, hk, h1, _, hC, hR⟩ := normal_same (litsOf n d m a ld N).length (fun i => (litsOf n d m a ld N).getD i 0) (by omega)
    have hT2 : ∀ ld2, SameL ld ld2 N → ∀ i, i < N → -9223372036854775808 ≤ ld2.T i ∧ ld2.T i ≤ 9223372036854775807 := fun ld2 h i hi => by rw [h.t i hi]; exact hT i hi
    by_cases hc : ClosesAll n d m a ld N
    · have hMP := lits_may hc hN
      have her := (h1 hMP).1
      subst her
      refine ⟨k, Z, 0, hk, fun ld2 h p cv q ca s cs w hd ha hl => ?_, fun p cv q ca s cs w hd ha hl => ?_⟩
      · have h2 := closes_copied (n := n) (d := d) (m := m) (a := a) h
        refine (check_run n d m a ld2 N p cv q ca s cs k Z 0 w hd ha hl hm (by omega) (hT2 ld2 h) hmay (by rw [h2.2]; exact hC)).mono ?_
        rintro e w1 ⟨hres, hb⟩
        rcases hres with ⟨h3, _⟩ | ⟨_, h3, _⟩ | ⟨_, _, h3⟩
        · exact absurd (h2.1.2 hc) h3
        · rw [h2.2] at h3; omega
        · exact ⟨h3, hb⟩
      · refine (refCheck_run p n cv d q m ca a s N cs ld k Z w hd ha hm hmay hl hN hLL hT (fun _ => hR hMP)).mono ?_
        rintro e w1 ⟨hres, hb⟩
        rcases hres with ⟨h3, _⟩ | ⟨_, h3⟩
        · exact absurd hc h3
        · exact ⟨h3, hb⟩
    · refine ⟨0, fun _ => 0, 5, by omega, fun ld2 h p cv q ca s cs w hd ha hl => ?_, fun p cv q ca s cs w hd ha hl => ?_⟩
      · have h2 := closes_copied (n := n) (d := d) (m := m) (a := a) h
        refine (check_run n d m a ld2 N p cv q ca s cs k Z er w hd ha hl hm (by omega) (hT2 ld2 h) hmay (by rw [h2.2]; exact hC)).mono ?_
        rintro e w1 ⟨hres, hb⟩
        rcases hres with ⟨_, rfl⟩ | ⟨h3, _⟩ | ⟨h3, _⟩
        · exact ⟨⟨none, 0, rfl, fun h => by omega⟩, hb⟩
        · exact absurd (h2.1.1 h3) hc
        · exact absurd (h2.1.1 h3) hc
      · refine (refCheck_run p n cv d q m ca a s N cs ld k Z w hd ha hm hmay hl hN hLL hT (fun h3 => absurd h3 hc)).mono ?_
        rintro e w1 ⟨hres, hb⟩
        rcases hres with ⟨_, rfl⟩ | ⟨h3, _⟩
        · exact ⟨⟨none, 0, rfl, fun h => by omega⟩, hb⟩
        · exact absurd h3 hc
end Go.Proofs.Ytgdncnalahdjeaa
