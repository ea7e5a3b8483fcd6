/- RupMore: every case. -/
import Derived.Test.YtgdncnalahdjeaaU31
import Derived.Test.YtgdncnalahdjeaaU23
namespace Go.Proofs.Ytgdncnalahdjeaa
open Go Go.RowKit Go.Maps

theorem units_fixed (dbl : List (List Int)) (g : List Int) (hn : dbl.length ≤ 400000) (hf : Fit63 dbl) (hsum : (dbl.flatten ++ g).length ≤ 5000) : ∃ (a : Bool) (e : Int) (P : List Int → Prop),
    ((e = 2) ∨ (e = 0 ∧ (a = true ↔ Confl dbl g) ∧ (a = false → ∀ o, P o → ∀ l, l ∈ o ↔ Der dbl g l))) ∧ (∀ o, P o → o.length ≤ 5000) ∧
    ∀ W p z q zq, RowsIn W p dbl → LitsIn W q g.length (fnL g) → Calls Try.prog 21 #[.slice p dbl.length z, .slice q g.length zq] W fun e' w' => (∃ o pp cc, P o ∧ e' = .returned (.tuple #[.slice pp o.length cc, .bool a, .int .i64 e]) ∧ LitsIn w' pp o.length (fnL o)) ∧ Below W.heap.size W w' := by
  have hg : g.length ≤ 5000 := by rw [List.length_append] at hsum; omega
  have hnil : ∀ (w' : World), LitsIn w' none ([] : List Int).length (fnL []) := fun w' h => by simp at h
  by_cases hok : allMay dbl = true ∧ mayC g = true
  · by_cases hcf : Confl dbl g
    · refine ⟨true, 0, (· = []), .inr ⟨rfl, ⟨fun _ => hcf, fun _ => rfl⟩, fun h => by cases h⟩, fun o ho => by rw [ho]; simp, fun W p z q zq hp hq => ?_⟩
      refine (rupUnits_yes p z dbl q zq g W hp hn hf hq hok.1 hok.2 hsum).mono ?_
      rintro e w' ⟨h | h, hb9⟩
      · exact ⟨⟨[], none, 0, rfl, h.2, hnil _⟩, hb9⟩
      · exact absurd hcf h.1
    · refine ⟨false, 0, fun o => o.length ≤ 5000 ∧ ∀ l, l ∈ o ↔ Der dbl g l, .inr ⟨rfl, ⟨fun h => absurd h (by decide), fun h => absurd h hcf⟩, fun _ o ho => ho.2⟩, fun o ho => ho.1, fun W p z q zq hp hq => ?_⟩
      refine (rupUnits_yes p z dbl q zq g W hp hn hf hq hok.1 hok.2 hsum).mono ?_
      rintro e w' ⟨h | ⟨_, pp, cc, o, he, hl9, a1, a2, a3⟩, hb9⟩
      · exact absurd h.1 hcf
      · exact ⟨⟨o, pp, cc, ⟨a2, a3⟩, he, hl9⟩, hb9⟩
  · have hno : allMay dbl = false ∨ mayC g = false := by
      cases ha : allMay dbl with
      | false => exact .inl rfl
      | true =>
        cases hm : mayC g with
        | false => exact .inr rfl
        | true => exact absurd ⟨ha, hm⟩ hok
    refine ⟨false, 2, (· = []), .inl rfl, fun o ho => by rw [ho]; simp, fun W p z q zq hp hq => ?_⟩
    refine (rupUnits_no p z dbl q zq g W hp (by omega) hf hq (by omega) hno).mono ?_
    rintro e w' ⟨he, rfl⟩
    exact ⟨⟨[], none, 0, rfl, he, hnil _⟩, Below.refl _ _⟩
set_option maxRecDepth 100000 in
set_option maxHeartbeats 1600000 in
theorem more_skip (p : Option Addr) (z n : Nat) (r : Option Addr) (zr m : Nat) (q : Option Addr) (zq g : Nat) (s : Option Addr) (zs h : Nat) (w : World) (b1 b2 : Bool) (hb : b1 = true ∨ (b1 = false ∧ b2 = true) ∨ (b1 = false ∧ b2 = false ∧ 30 < g) ∨ (b1 = false ∧ b2 = false ∧ g ≤ 30 ∧ 30 < h))
    (L1 : Calls Try.prog 17 #[.slice p n z] w fun e w' => e = .returned (.bool b1) ∧ w' = w)
    (L2 : Calls Try.prog 17 #[.slice r m zr] w fun e w' => e = .returned (.bool b2) ∧ w' = w) :
    Calls Try.prog 8 #[.slice p n z, .slice r m zr, .slice q g zq, .slice s h zs] w fun e w' => e = .returned (.bool true) ∧ Below w.heap.size w w' := by
  have HK := Lib.hid known_any
  rcases hb with hb | ⟨hb, hb2⟩ | ⟨hb, hb2, hb3⟩ | ⟨hb, hb2, hb3, hb4⟩
  · subst hb
    clear L2
    go_enter Try.func8, Try.ntmps8
    go_wp2_with fail
    refine L1.mono ?_
    rintro e w1 ⟨rfl, hw⟩
    obtain rfl := hw.symm
    clear L1
    go_wp2_with fail
    refine (HK.out _).mono ?_
    rintro e w2 ⟨rfl, hb⟩
    have HB := Lib.hid hb
    clear hb
    go_wp2_with fail
    go_ret
    exact ⟨rfl, HB.out⟩
  · subst hb hb2
    go_enter Try.func8, Try.ntmps8
    go_wp2_with fail
    refine L1.mono ?_
    rintro e w1 ⟨rfl, hw⟩
    obtain rfl := hw.symm
    clear L1
    go_wp2_with fail
    refine L2.mono ?_
    rintro e w1 ⟨rfl, hw⟩
    obtain rfl := hw.symm
    clear L2
    go_wp2_with fail
    refine (HK.out _).mono ?_
    rintro e w2 ⟨rfl, hb⟩
    have HB := Lib.hid hb
    clear hb
    go_wp2_with fail
    go_ret
    exact ⟨rfl, HB.out⟩
  · subst hb hb2
    have q1 : (30 : Int) < (g : Int) := by omega
    go_enter Try.func8, Try.ntmps8
    go_wp2_with fail
    refine L1.mono ?_
    rintro e w1 ⟨rfl, hw⟩
    obtain rfl := hw.symm
    clear L1
    go_wp2_with fail
    refine L2.mono ?_
    rintro e w1 ⟨rfl, hw⟩
    obtain rfl := hw.symm
    clear L2
    go_wp2_with fail
    refine (HK.out _).mono ?_
    rintro e w2 ⟨rfl, hb⟩
    have HB := Lib.hid hb
    clear hb
    go_wp2_with fail
    go_ret
    exact ⟨rfl, HB.out⟩
  · subst hb hb2
    have q1 : ¬ (30 : Int) < (g : Int) := by omega
    have q2x : (30 : Int) < (h : Int) := by omega
    go_enter Try.func8, Try.ntmps8
    go_wp2_with fail
    refine L1.mono ?_
    rintro e w1 ⟨rfl, hw⟩
    obtain rfl := hw.symm
    clear L1
    go_wp2_with fail
    refine L2.mono ?_
    rintro e w1 ⟨rfl, hw⟩
    obtain rfl := hw.symm
    clear L2
    go_wp2_with fail
    refine (HK.out _).mono ?_
    rintro e w2 ⟨rfl, hb⟩
    have HB := Lib.hid hb
    clear hb
    go_wp2_with fail
    go_ret
    exact ⟨rfl, HB.out⟩
theorem more_any (p : Option Addr) (z : Nat) (dbl : List (List Int)) (r : Option Addr) (zr : Nat) (more : List (List Int)) (q : Option Addr) (zq : Nat) (g : List Int) (s : Option Addr) (zs : Nat) (h : List Int) (w : World)
    (hV : RowsZ w p dbl) (hn : dbl.length ≤ 9223372036854775807) (hf : Fit63 dbl) (hR : RowsZ w r more) (hn2 : more.length ≤ 9223372036854775807) (hf2 : Fit63 more) (hrz : r = none → zr = 0)
    (hq : LitsIn w q g.length (fnL g)) (hqz : q = none → zq = 0) (hs : LitsIn w s h.length (fnL h)) (hsz : s = none → zs = 0) :
    Calls Try.prog 8 #[.slice p dbl.length z, .slice r more.length zr, .slice q g.length zq, .slice s h.length zs] w fun e w' => e = .returned (.bool true) ∧ Below w.heap.size w w' := by
  have L1 := large_any p z dbl w hV.rows hn hf
  have L2 := large_any r zr more w hR.rows hn2 hf2
  by_cases hskip : largeB dbl = true ∨ (largeB dbl = false ∧ largeB more = true) ∨ (largeB dbl = false ∧ largeB more = false ∧ 30 < g.length) ∨ (largeB dbl = false ∧ largeB more = false ∧ g.length ≤ 30 ∧ 30 < h.length)
  · exact more_skip p z _ r zr _ q zq _ s zs _ w _ _ hskip L1 L2
  · obtain ⟨l1, l2, hg, hh⟩ : largeB dbl = false ∧ largeB more = false ∧ g.length ≤ 30 ∧ h.length ≤ 30 := by
      cases h1 : largeB dbl with
      | true => exact absurd (.inl h1) hskip
      | false =>
        cases h2 : largeB more with
        | true => exact absurd (.inr (.inl ⟨h1, h2⟩)) hskip
        | false =>
          by_cases h3 : 30 < g.length
          · exact absurd (.inr (.inr (.inl ⟨h1, h2, h3⟩))) hskip
          · by_cases h4 : 30 < h.length
            · exact absurd (.inr (.inr (.inr ⟨h1, h2, by omega, h4⟩))) hskip
            · exact ⟨rfl, rfl, by omega, by omega⟩
    rw [l1] at L1
    rw [l2] at L2
    obtain ⟨d60, dall⟩ := largeB_no l1
    obtain ⟨m60, mall⟩ := largeB_no l2
    have hfm : Fit63 (dbl ++ more) := fun c hc => by
      rcases List.mem_append.1 hc with h | h
      · exact hf c h
      · exact hf2 c h
    have f1 := flat_len dall
    have f2 := flat_len mall
    obtain ⟨a, e1, P1, c1, x1, U1⟩ := units_fixed dbl g (by omega) hf (by rw [List.length_append]; omega)
    obtain ⟨b, e2, P2, c2, x2, U2⟩ := units_fixed (dbl ++ more) (g ++ h) (by rw [List.length_append]; omega) hfm (by rw [List.flatten_append, List.length_append, List.length_append, List.length_append]; omega)
    refine more_walk p z dbl r zr more q zq g s zs h w a b e1 e2 P1 P2 ?_ x1 x2 hV hR hrz d60 dall m60 hq hqz hg hs hsz hh L1 L2 (fun W hb => U1 W p z q zq (hV.rows.later hb) (hq.later hb)) (fun W ps cs pg cg hb hr hl => U2 W ps cs pg cg hr hl)
    rcases c1 with h1 | ⟨h1, h2, h3⟩
    · exact .inl h1
    · rcases c2 with k1 | ⟨k1, k2, k3⟩
      · exact .inr (.inl ⟨h1, k1⟩)
      · have mono1 : ∀ c, c ∈ dbl → c ∈ dbl ++ more := fun c hc => List.mem_append_left _ hc
        have mono2 : ∀ l, l ∈ g → l ∈ g ++ h := fun l hl => List.mem_append_left _ hl
        have hab : a = true → b = true := fun ha => k2.2 ((h2.1 ha).mono mono1 mono2)
        refine .inr (.inr ⟨h1, k1, hab, fun hb o1 o2 p1 p2 x hx => ?_⟩)
        have ha : a = false := by
          cases a with
          | false => rfl
          | true => rw [hab rfl] at hb; cases hb
        exact (k3 hb o2 p2 x).2 (((h3 ha o1 p1 x).1 hx).mono mono1 mono2)
end Go.Proofs.Ytgdncnalahdjeaa
