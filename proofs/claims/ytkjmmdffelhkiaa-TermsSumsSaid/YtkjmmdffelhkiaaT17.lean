/- TermsSums: its walk. -/
import Derived.Test.YtkjmmdffelhkiaaT16
namespace Go.Proofs.Ytkjmmdffelhkiaa
open Go Go.RowKit Go.Maps

variable {W : World} {K : Nat → Nat} {base c : Nat} {T : Sto}
theorem base1 {w w' : World} {e : Ending} (h : KR W w K c T) (hf : Firsts T 3) (hm : AppP T 3 1 none 0 0 (fun _ => 0) W.heap.size c K w e w') :
    ∃ K' T', e = .returned (.tuple #[.int .i64 3, .int .i64 0]) ∧ KR W w' K' c T' ∧ T'.nodes.length = 4 ∧ IsBase T' 3 := by
  have hl := hf.1
  rcases hm with ⟨h, _⟩ | ⟨_, _, ⟨i, hi, _⟩, _⟩ | ⟨_, _, _, h, _⟩ | ⟨_, _, _, _, hm⟩
  · omega
  · omega
  · omega
  · obtain ⟨K', T', P, C, he, hst, hg, hs, hn⟩ := hm.new (by omega) (fun y hy => by
      have := hf.qs (by omega) y hy
      show y.q ≠ 5
      omega)
    rw [hl] at he
    have hln : T'.nodes.length = 4 := by rw [hn, List.length_append, hl]; rfl
    exact ⟨K', T', he, ⟨hst, hg, h.b.trans (hs.toBelowS h.st)⟩, hln, ⟨by unfold InS; omega, _, by rw [hn]; show (T.nodes ++ [_])[3]? = _; rw [List.getElem?_append_right (by omega), hl]; rfl, rfl, by show (5 : Int) ≠ 3; decide, by show (5 : Int) ≠ 4; decide⟩⟩
theorem KR.plus {w w' : World} {e : Ending} {t s n : Int} (h : KR W w K c T) (hl : T.nodes.length < 20000) (hb : IsBase T 3) (hr : Rep T 3 t s) (hn : InB n) (hs : InB (s + n)) (hp : PlusP T t n W.heap.size c K w e w') :
    ∃ K' T' t', e = .returned (.tuple #[.int .i64 t', .int .i64 0]) ∧ KR W w' K' c T' ∧ IsBase T' 3 ∧ Grown T T' ∧ T'.nodes.length ≤ T.nodes.length + 1 ∧ Rep T' 3 t' (s + n) := by
  obtain ⟨K', T', t', he, hst, hg, hs, hgr, hln, hrep⟩ := hp.rep h.st h.g hl hb (by decide) hr hn (by unfold InB at hs; unfold I64; omega) hs
  exact ⟨K', T', t', he, ⟨hst, hg, h.b.trans (hs.toBelowS h.st)⟩, hb.grown hgr, hgr, hln, hrep⟩
structure SumR (W wr : World) (K : Nat → Nat) (c : Nat) (T : Sto) (V : Nat → Int) (n r k : Nat) (t u : Int) : Prop where
  kr : KR W wr K c T
  b : IsBase T 3
  l : T.nodes.length ≤ 4 + 2 * k
  t : Rep T 3 t (sumF V k)
  u : Rep T 3 u (sumF (fun j => V ((j + r) % n)) k)
theorem seed_r (seed : Int) : ∃ r : Nat, r < 8 ∧ wrap64 ((IntKind.u64.wrap seed).tmod 8) = (r : Int) := by
  have e : IntKind.u64.wrap seed = seed % 18446744073709551616 := by simp [IntKind.wrap, IntKind.bits, IntKind.signed]
  rw [e, Int.tmod_eq_emod_of_nonneg (by omega), wrap64_eq]
  exact ⟨(seed % 18446744073709551616 % 8).toNat, by omega, by omega⟩
set_option maxRecDepth 100000 in
set_option maxHeartbeats 8000000 in
theorem sums_any (p : Option Addr) (n z : Nat) (V : Nat → Int) (seed : Int) (W : World) (h : IntsIn W p n V) (hn : n ≤ 9223372036854775807) (hs : I64 seed) :
    Calls Try.prog 8 #[.slice p n z, .int .i64 seed] W fun e w' => e = .returned (.bool true) ∧ Below W.heap.size W w' := by
  have H := Lib.hid h
  clear h
  obtain ⟨r, hr8, hrs⟩ := seed_r seed
  have HRS := Lib.hid (And.intro hr8 hrs)
  clear hr8 hrs
  by_cases hbig : 8 < n
  · go_enter Try.func8, Try.ntmps8
    go_wp2_with fail
    refine (knownS_any _).mono ?_
    rintro e w2 ⟨rfl, hb⟩
    go_wp2_with fail
    go_ret
    exact ⟨rfl, hb⟩
  go_enter Try.func8, Try.ntmps8
  go_wp2_with fail
  go_loop [5, 6] (fun tot i => ∃ k : Nat, k ≤ n ∧ i = .int .i64 k ∧ tot = .int .i64 (sumF V k) ∧ ∀ j, j < k → -288230376151711744 ≤ V j ∧ V j ≤ 288230376151711744) (fun _ i => n - (intOf i).toNat)
  case atStart => exact ⟨0, Nat.zero_le _, rfl, rfl, fun j hj => absurd hj (Nat.not_lt_zero _)⟩
  case round =>
    obtain ⟨k, hk, rfl, rfl, hall⟩ := hrel
    have HA := Lib.hid hall
    have hsm := Tm58.sum (k := k) hall (by omega)
    clear hall
    by_cases hlt : k < n
    · obtain ⟨b, off, rfl, ha⟩ := H.out (by omega)
      have ck := ha k hlt
      have hk0 : (0 : Int) ≤ (k : Int) := by omega
      have hk1 : (k : Int) < (n : Int) := by omega
      have HN := Lib.hid (show -288230376151711744 ≤ V k ∧ V k ≤ 288230376151711744 → ∀ j, j < k + 1 → -288230376151711744 ≤ V j ∧ V j ≤ 288230376151711744 from fun h j hj => by
        by_cases e : j = k
        · subst e; exact h
        · exact HA.out j (by omega))
      have HSUM := Lib.hid (show sumF V (k + 1) = sumF V k + V k from rfl)
      clear ha
      by_cases h1 : V k < -288230376151711744
      · generalize V k = x at *
        go_wp2_with fail
        refine (knownS_any _).mono ?_
        rintro e w2 ⟨rfl, hb⟩
        go_wp2_with fail
        go_ret
        exact ⟨rfl, hb⟩
      · by_cases h2 : 288230376151711744 < V k
        · generalize V k = x at *
          go_wp2_with fail
          refine (knownS_any _).mono ?_
          rintro e w2 ⟨rfl, hb⟩
          go_wp2_with fail
          go_ret
          exact ⟨rfl, hb⟩
        · have HN2 := Lib.hid (HN.out ⟨by omega, by omega⟩)
          clear HN
          obtain ⟨x, hx⟩ : ∃ x, x = V k := ⟨_, rfl⟩
          rw [← hx] at ck h1 h2
          have HX := Lib.hid hx
          obtain ⟨y, hy⟩ : ∃ y, y = sumF V k := ⟨_, rfl⟩
          rw [← hy] at hsm ⊢
          have HY := Lib.hid hy
          clear hx hy
          go_wp2_with fail
          go_round
          case rel => exact ⟨k + 1, by omega, by go_num, by rw [HSUM.out, ← HX.out, ← HY.out], HN2.out⟩
          case measure => simp [intOf]; omega
    · obtain rfl : k = n := by omega
      clear hlt hk
      go_wp2_with fail
      refine (newS_any W).mono ?_
      rintro e w1 ⟨c, K1, T1, rfl, hst, hg, hf, hb⟩
      have HR := Lib.hid (show KR W w1 K1 c T1 from ⟨hst, hg, hb⟩)
      have HF := Lib.hid hf
      clear hst hg hf hb
      have HAP := (app_any HR.out.st HR.out.g (by have := HF.out.1; omega) 3 1 (by unfold I64; decide) i1 none 0 0 (fun _ => 0) (fun h => absurd h (Nat.not_lt_zero _)) (by omega)).mono fun e w' h => base1 HR.out HF.out h
      go_wp2_with fail
      refine HAP.mono ?_
      rintro e w2 ⟨K2, T2, rfl, hr, hl, hbs⟩
      have HS := Lib.hid (show ∀ r, SumR W w2 K2 c T2 V k r 0 3 3 from fun r => ⟨hr, hbs, by omega, .inl ⟨rfl, rfl⟩, .inl ⟨rfl, rfl⟩⟩)
      clear HAP hr hl hbs HR HF
      go_wp2_with fail
      go_loopw [10, 11, 12] (fun t u i wr => ∃ (j : Nat) (K : Nat → Nat) (T : Sto) (tt uu : Int), j ≤ k ∧ i = .int .i64 j ∧ t = .int .i64 tt ∧ u = .int .i64 uu ∧ SumR W wr K c T V k r j tt uu) (fun _ _ i _ => k - (intOf i).toNat)
      case atStart => exact ⟨0, _, _, _, _, Nat.zero_le _, rfl, rfl, rfl, HS.out _⟩
      case round =>
        obtain ⟨j, K, T, t, u, hj, rfl, rfl, rfl, hr⟩ := hrel
        clear HS
        have HR := Lib.hid hr
        clear hr
        by_cases hlt : j < k
        · obtain ⟨b, off, rfl, ha⟩ := (H.out.later HR.out.kr.b) (by omega)
          have cj := ha j hlt
          have hj0 : (0 : Int) ≤ (j : Int) := by omega
          have hj1 : (j : Int) < (k : Int) := by omega
          have hVj := HA.out j hlt
          have hsm1 := Tm58.sum (k := j + 1) (fun i hi => HA.out i (by omega)) (by omega)
          have HP1 := (plus_any HR.out.kr.st HR.out.kr.g (by have := HR.out.b.i.2; have := HR.out.b.i.1; omega) t (V j) (by unfold I64; omega)).mono fun e w' h => HR.out.kr.plus (by have := HR.out.l; omega) HR.out.b HR.out.t (show InB (V j) by unfold InB; omega) (show InB (sumF V (j + 1)) by unfold InB; omega) h
          go_wp2_with fail
          refine HP1.mono ?_
          rintro e w3 ⟨K3, T3, t3, rfl, hr3, hb3, hg3, hl3, hrep3⟩
          have HU3 := Lib.hid (HR.out.u.grown hg3)
          have HL3 := Lib.hid (show T3.nodes.length ≤ 5 + 2 * j by have := HR.out.l; omega)
          have HR3 := Lib.hid (And.intro hr3 (And.intro hb3 hrep3))
          clear HP1 hr3 hb3 hg3 hl3 hrep3
          have hq : (j + r) % k < k := Nat.mod_lt _ (by omega)
          obtain ⟨b', off', e', ha'⟩ := (H.out.later HR3.out.1.b) (by omega)
          cases e'
          have cq := ha' _ hq
          have hVq := HA.out _ hq
          obtain ⟨hr8, hw1⟩ := HRS.out
          have hw2 : wrap64 ((j : Int) + (r : Int)) = (j : Int) + (r : Int) := by rw [wrap64_eq]; omega
          have hw2' : IntKind.i64.wrap ((j : Int) + (r : Int)) = (j : Int) + (r : Int) := by rw [IntKind.wrap_i64]; omega
          have hi1 : ((j : Int) + (r : Int)) % (k : Int) = (((j + r) % k : Nat) : Int) := by push_cast; rfl
          have hi2 : ((j : Int) + (r : Int)).tmod (k : Int) = (((j + r) % k : Nat) : Int) := by rw [Int.tmod_eq_emod_of_nonneg (by omega)]; exact hi1
          obtain ⟨qq, hqq⟩ : ∃ qq, qq = (j + r) % k := ⟨_, rfl⟩
          have HQQ := Lib.hid hqq
          rw [← hqq] at hq cq hVq hi1 hi2
          have hq0 : (0 : Int) ≤ (qq : Int) := by omega
          have hq1 : (qq : Int) < (k : Int) := by omega
          clear ha ha' hqq
          have hsm2 := Tm58.sum (V := fun j => V ((j + r) % k)) (k := j + 1) (fun i hi => HA.out _ (Nat.mod_lt _ (by omega))) (by omega)
          have HP2 := (plus_any HR3.out.1.st HR3.out.1.g (by have := HR3.out.2.1.i.2; have := HR3.out.2.1.i.1; omega) u (V qq) (by unfold I64; omega)).mono fun e w' h => HR3.out.1.plus (by have := HL3.out; omega) HR3.out.2.1 HU3.out (show InB (V qq) by unfold InB; omega) (show InB (sumF (fun j => V ((j + r) % k)) j + V qq) by rw [HQQ.out]; show InB (sumF (fun j => V ((j + r) % k)) (j + 1)); unfold InB; omega) h
          clear hsm2 hi1
          go_wp2_with fail
          refine HP2.mono ?_
          rintro e w4 ⟨K4, T4, t4, rfl, hr4, hb4, hg4, hl4, hrep4⟩
          have HS4 := Lib.hid (show SumR W w4 K4 c T4 V k r (j + 1) t3 t4 from ⟨hr4, hb4, by have := HL3.out; omega, HR3.out.2.2.grown hg4, by
            rw [HQQ.out] at hrep4; exact hrep4⟩)
          clear HP2 hr4 hb4 hg4 hl4 hrep4 HR3 HU3 HL3 HR
          go_wp2_with fail
          go_roundw
          case rel => exact ⟨j + 1, _, _, _, _, by omega, by go_num, rfl, rfl, HS4.out⟩
          case measure => simp [intOf]; omega
        · obtain rfl : j = k := by omega
          have htu : t = u := by
            have hu := HR.out.u
            rw [sumF_turn] at hu
            exact HR.out.t.uniq HR.out.kr.g hu
          subst htu
          obtain ⟨y, hy⟩ : ∃ y, y = sumF V j := ⟨_, rfl⟩
          rw [← hy] at hsm ⊢
          have hrt := HR.out.t
          rw [← hy] at hrt
          have HT := Lib.hid hrt
          have HL := Lib.hid (show T.nodes.length ≤ 20 by have := HR.out.l; omega)
          have HB := Lib.hid (And.intro HR.out.kr HR.out.b)
          clear hy hrt HR hlt
          have hyB : InB y := by unfold InB; omega
          have hyI : I64 y := by unfold I64; omega
          have HP1 := (plus_any HB.out.1.st HB.out.1.g (by have := HB.out.2.i.2; have := HB.out.2.i.1; omega) 3 y hyI).mono fun e w' h => HB.out.1.plus (by have := HL.out; omega) HB.out.2 (show Rep T 3 3 0 from .inl ⟨rfl, rfl⟩) hyB (by rw [Int.zero_add]; exact hyB) h
          go_wp2_with fail
          refine HP1.mono ?_
          rintro e w3 ⟨K3, T3, t3, rfl, hr3, hb3, hg3, hl3, hrep3⟩
          rw [Int.zero_add] at hrep3
          obtain rfl : t = t3 := (HT.out.grown hg3).uniq hr3.g hrep3
          have HL3 := Lib.hid (show T3.nodes.length ≤ 21 by have := HL.out; omega)
          have HR3 := Lib.hid (And.intro hr3 (And.intro hb3 hrep3))
          clear HP1 hr3 hb3 hg3 hl3 hrep3 HT HL HB
          have HSP := split_any HR3.out.1.st HR3.out.1.g (by have := HR3.out.2.1.i.2; have := HR3.out.2.1.i.1; omega) t
          go_wp2_with fail
          refine HSP.mono ?_
          rintro e w4 ⟨b, o, er, rfl, hb4, hsp⟩
          obtain ⟨rfl, rfl, rfl⟩ := HR3.out.2.2.split HR3.out.2.1 hsp
          have HK4 := Lib.hid (show KR W w4 K3 c T3 from ⟨HR3.out.1.st.later hb4, HR3.out.1.g, HR3.out.1.b.trans (hb4.mono HR3.out.1.b.size)⟩)
          clear HSP hb4 hsp
          have HP1 := (plus_any HK4.out.st HK4.out.g (by have := HR3.out.2.1.i.2; have := HR3.out.2.1.i.1; omega) 3 o hyI).mono fun e w' h => HK4.out.plus (by have := HL3.out; omega) HR3.out.2.1 (show Rep T3 3 3 0 from .inl ⟨rfl, rfl⟩) hyB (by rw [Int.zero_add]; exact hyB) h
          go_wp2_with fail
          refine HP1.mono ?_
          rintro e w5 ⟨K5, T5, t5, rfl, hr5, hb5, hg5, hl5, hrep5⟩
          rw [Int.zero_add] at hrep5
          obtain rfl : t = t5 := (HR3.out.2.2.grown hg5).uniq hr5.g hrep5
          have HB5 := Lib.hid hr5.b
          clear HP1 hr5 hb5 hg5 hl5 hrep5 HK4 HR3 HL3
          go_wp2_with fail
          refine (knownS_any _).mono ?_
          rintro e w6 ⟨rfl, hb⟩
          have HB6 := Lib.hid (HB5.out.trans (hb.mono HB5.out.size))
          clear hb
          go_wp2_with fail
          go_ret
          exact ⟨rfl, HB6.out⟩
end Go.Proofs.Ytkjmmdffelhkiaa
