/- RupOrder: every case. -/
import Derived.Test.YtgdncnalahdjeaaU25
namespace Go.Proofs.Ytgdncnalahdjeaa
open Go Go.RowKit Go.Maps

set_option maxRecDepth 100000 in
set_option maxHeartbeats 1600000 in
theorem order_skip (p : Option Addr) (z n : Nat) (q : Option Addr) (zq m : Nat) (w : World) (b : Bool) (hb : b = true ∨ 30 < m) (HL : Calls Try.prog 17 #[.slice p n z] w fun e w' => e = .returned (.bool b) ∧ w' = w) :
    Calls Try.prog 9 #[.slice p n z, .slice q m zq] w fun e w' => e = .returned (.bool true) ∧ Below w.heap.size w w' := by
  have HK := Lib.hid known_any
  cases b with
  | true =>
    clear hb
    go_enter Try.func9, Try.ntmps9
    go_wp2_with fail
    refine HL.mono ?_
    rintro e w1 ⟨rfl, hw⟩
    obtain rfl := hw.symm
    clear HL
    go_wp2_with fail
    refine (HK.out _).mono ?_
    rintro e w2 ⟨rfl, hb⟩
    have HB := Lib.hid hb
    clear hb
    go_wp2_with fail
    go_ret
    exact ⟨rfl, HB.out⟩
  | false =>
    have h30 : 30 < m := by
      rcases hb with h | h
      · cases h
      · exact h
    have q1 : (30 : Int) < (m : Int) := by omega
    clear hb
    go_enter Try.func9, Try.ntmps9
    go_wp2_with fail
    refine HL.mono ?_
    rintro e w1 ⟨rfl, hw⟩
    obtain rfl := hw.symm
    clear HL
    go_wp2_with fail
    refine (HK.out _).mono ?_
    rintro e w2 ⟨rfl, hb⟩
    have HB := Lib.hid hb
    clear hb
    go_wp2_with fail
    go_ret
    exact ⟨rfl, HB.out⟩
theorem lits_none (W : World) (p : Option Addr) : LitsIn W p ([] : List Int).length (fnL []) := fun h => by simp at h
theorem order_any (p : Option Addr) (z : Nat) (dbl : List (List Int)) (q : Option Addr) (zq : Nat) (c : List Int) (w : World) (hV : RowsIn w p dbl) (hn : dbl.length ≤ 9223372036854775807) (hf : Fit63 dbl) (hq : LitsIn w q c.length (fnL c)) (hc : c.length ≤ 9223372036854775807) :
    Calls Try.prog 9 #[.slice p dbl.length z, .slice q c.length zq] w fun e w' => e = .returned (.bool true) ∧ Below w.heap.size w w' := by
  have HL := large_any p z dbl w hV hn hf
  by_cases hskip : largeB dbl = true ∨ 30 < c.length
  · exact order_skip p z _ q zq _ w _ hskip HL
  · have hl : largeB dbl = false := by
      cases h : largeB dbl with
      | true => exact absurd (.inl h) hskip
      | false => rfl
    have h30 : c.length ≤ 30 := Nat.le_of_not_lt (fun h => hskip (.inr h))
    obtain ⟨h60, hall⟩ := largeB_no hl
    rw [hl] at HL
    have hbl := backL_len dbl
    have hfb : ∀ d, d ∈ backL dbl → d.length ≤ 30 := fun d hd => by
      have := hall _ (mem_back.1 hd)
      rwa [List.length_reverse] at this
    have hf63 : Fit63 (backL dbl) := fun d hd => by have := hfb d hd; omega
    have hrl : c.reverse.length = c.length := List.length_reverse
    by_cases hok : allMay dbl = true ∧ mayC c = true
    · obtain ⟨h1, h2⟩ := hok
      have hs1 : (dbl.flatten ++ c).length ≤ 5000 := by
        rw [List.length_append]
        have := flat_len hall
        omega
      have hs2 : ((backL dbl).flatten ++ c.reverse).length ≤ 5000 := by
        rw [List.length_append]
        have := flat_len hfb
        omega
      have u1 := fun W (hb : Below w.heap.size w W) => rupUnits_yes p z dbl q zq c W (hV.later hb) (by omega) hf (hq.later hb) h1 h2 hs1
      have u2 := fun W ps cs pg cg (hr : RowsIn W ps (backL dbl)) (hg : LitsIn W pg c.length (fnL c.reverse)) => rupUnits_yes ps cs (backL dbl) pg cg c.reverse W hr (by omega) hf63 (by rw [hrl]; exact hg) (by rw [allMay_back]; exact h1) (by rw [mayC_rev]; exact h2) hs2
      rw [hbl, hrl] at u2
      by_cases hcf : Confl dbl c
      · refine order_walk p z dbl q zq c w true 0 (fun o => o = []) (fun a b ha hb => ha.trans hb.symm) (fun a ha => by rw [ha]; simp) (.inr (.inl ⟨rfl, rfl⟩)) hV hq h60 hall h30 HL (fun W hb => ?_) (fun W ps cs pg cg hb hr hg => ?_)
        · refine (u1 W hb).mono ?_
          rintro e w' ⟨h | h, hb9⟩
          · exact ⟨⟨[], none, 0, rfl, h.2, lits_none _ _⟩, hb9⟩
          · exact absurd hcf h.1
        · refine (u2 W ps cs pg cg hr hg).mono ?_
          rintro e w' ⟨h | h, hb9⟩
          · exact ⟨⟨[], none, 0, rfl, h.2, lits_none _ _⟩, hb9⟩
          · exact absurd ((back_confl dbl c).1 hcf) h.1
      · refine order_walk p z dbl q zq c w false 0 (fun o => o.Pairwise ltI ∧ o.length ≤ 5000 ∧ ∀ l, l ∈ o ↔ Der dbl c l) (fun a b ha hb => srt_unique a b ha.1 hb.1 (fun x => (ha.2.2 x).trans (hb.2.2 x).symm)) (fun a ha => ha.2.1) (.inr (.inr ⟨rfl, rfl⟩)) hV hq h60 hall h30 HL (fun W hb => ?_) (fun W ps cs pg cg hb hr hg => ?_)
        · refine (u1 W hb).mono ?_
          rintro e w' ⟨h | ⟨_, pp, cc, o, he, hl9, a1, a2, a3⟩, hb9⟩
          · exact absurd h.1 hcf
          · exact ⟨⟨o, pp, cc, ⟨a1, a2, a3⟩, he, hl9⟩, hb9⟩
        · refine (u2 W ps cs pg cg hr hg).mono ?_
          rintro e w' ⟨h | ⟨_, pp, cc, o, he, hl9, a1, a2, a3⟩, hb9⟩
          · exact absurd ((back_confl dbl c).2 h.1) hcf
          · exact ⟨⟨o, pp, cc, ⟨a1, a2, fun l => (a3 l).trans (back_der dbl c l).symm⟩, he, hl9⟩, hb9⟩
    · have hno : allMay dbl = false ∨ mayC c = false := by
        cases ha : allMay dbl with
        | false => exact .inl rfl
        | true =>
          cases hm : mayC c with
          | false => exact .inr rfl
          | true => exact absurd ⟨ha, hm⟩ hok
      refine order_walk p z dbl q zq c w false 2 (fun o => o = []) (fun a b ha hb => ha.trans hb.symm) (fun a ha => by rw [ha]; simp) (.inl ⟨rfl, rfl⟩) hV hq h60 hall h30 HL (fun W hb => ?_) (fun W ps cs pg cg hb hr hg => ?_)
      · refine (rupUnits_no p z dbl q zq c W (hV.later hb) hn hf (hq.later hb) hc hno).mono ?_
        rintro e w' ⟨he, rfl⟩
        exact ⟨⟨[], none, 0, rfl, he, lits_none _ _⟩, Below.refl _ _⟩
      · have := rupUnits_no ps cs (backL dbl) pg cg c.reverse W hr (by omega) hf63 (by rw [hrl]; exact hg) (by omega) (by rw [allMay_back, mayC_rev]; exact hno)
        rw [hbl, hrl] at this
        refine this.mono ?_
        rintro e w' ⟨he, rfl⟩
        exact ⟨⟨[], none, 0, rfl, he, lits_none _ _⟩, Below.refl _ _⟩
end Go.Proofs.Ytgdncnalahdjeaa
