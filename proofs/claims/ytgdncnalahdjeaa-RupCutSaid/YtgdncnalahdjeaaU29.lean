/- RupCut's walk. -/
import Derived.Test.YtgdncnalahdjeaaU28
namespace Go.Proofs.Ytgdncnalahdjeaa
open Go Go.RowKit Go.Maps

theorem RowsZ.later {W W' : World} {p : Option Addr} {dbl : List (List Int)} (h : RowsZ W p dbl) (hb : Below W.heap.size W W') : RowsZ W' p dbl := fun hn => by
  obtain ⟨b, off, e, hc⟩ := h hn
  refine ⟨b, off, e, fun i c hi => ?_⟩
  obtain ⟨q, z, h1, h2, h3⟩ := hc i c hi
  exact ⟨q, z, cell_later hb h1, h2.later hb, h3⟩
set_option maxRecDepth 100000 in
set_option maxHeartbeats 3200000 in
theorem cut_walk (p : Option Addr) (z : Nat) (dbl : List (List Int)) (q : Option Addr) (zq m : Nat) (r : Option Addr) (zr : Nat) (more : List (List Int)) (t : Int) (w : World) (k : Nat) (n m2 o : Nat) (a b c : Bool) (e1 e2 e3 : Int)
    (hcase : (e1 = 2) ∨ (e1 = 0 ∧ e2 = 0 ∧ m2 = min n k ∧ (b = true → m2 = k) ∧ ((e3 = 2) ∨ (e3 = 0 ∧ n ≤ o ∧ (a = true → c = true)))))
    (hV : RowsZ w p dbl) (hR : RowsZ w r more) (hrz : r = none → zr = 0) (h60 : dbl.length ≤ 60) (hall : ∀ d, d ∈ dbl → d.length ≤ 30) (hm60 : m ≤ 60) (hmo : more.length ≤ 60) (hz1 : m ≤ zq) (hz2 : zq ≤ 9223372036854775807) (hk : k ≤ m)
    (hkw : (IntKind.u64.wrap t).tmod ((m : Int) + 1) = (k : Int))
    (L1 : Calls Try.prog 17 #[.slice p dbl.length z] w fun e w' => e = .returned (.bool false) ∧ w' = w)
    (L2 : Calls Try.prog 17 #[.slice q m zq] w fun e w' => e = .returned (.bool false) ∧ w' = w)
    (L3 : Calls Try.prog 17 #[.slice r more.length zr] w fun e w' => e = .returned (.bool false) ∧ w' = w)
    (R1 : ∀ W, Below w.heap.size w W → Calls Try.prog 27 #[.slice p dbl.length z, .slice q m zq] W fun e w' => e = .returned (.tuple #[.int .i64 (n : Int), .bool a, .int .i64 e1]) ∧ Below W.heap.size W w')
    (R2 : ∀ W, Below w.heap.size w W → Calls Try.prog 27 #[.slice p dbl.length z, .slice q k zq] W fun e w' => e = .returned (.tuple #[.int .i64 (m2 : Int), .bool b, .int .i64 e2]) ∧ Below W.heap.size W w')
    (R3 : ∀ W ps cs, Below w.heap.size w W → RowsIn W ps (dbl ++ more) → Calls Try.prog 27 #[.slice ps (dbl ++ more).length cs, .slice q m zq] W fun e w' => e = .returned (.tuple #[.int .i64 (o : Int), .bool c, .int .i64 e3]) ∧ Below W.heap.size W w') :
    Calls Try.prog 10 #[.slice p dbl.length z, .slice q m zq, .slice r more.length zr, .int .i64 t] w fun e w' => e = .returned (.bool true) ∧ Below w.heap.size w w' := by
  have HK := Lib.hid known_any
  have HV := Lib.hid hV
  have HR := Lib.hid hR
  have HA := Lib.hid hall
  have K1 := Lib.hid R1
  have K2 := Lib.hid R2
  have K3 := Lib.hid R3
  have HC := Lib.hid hcase
  have HRZ := Lib.hid hrz
  have HCP := Lib.hid (fun (W : World) (hb : Below w.heap.size w W) (hVW : RowsZ W p dbl) => copied_at p z dbl W hVW h60 hall)
  have hmz : ((m : Int) + 1 == 0) = false := by rw [beq_eq_false_iff_ne]; omega
  have HMO := Lib.hid (And.intro hmo h60)
  clear hV hR hall R1 R2 R3 hcase hrz hmo h60
  obtain ⟨nd, hnd⟩ : ∃ n, dbl.length = n := ⟨_, rfl⟩
  obtain ⟨nm, hnm⟩ : ∃ n, more.length = n := ⟨_, rfl⟩
  rw [hnd] at L1 K1 K2 HCP ⊢
  rw [hnm] at L3 ⊢
  have HND := Lib.hid hnd
  have HNM := Lib.hid hnm
  clear hnd hnm
  have k0 : (0 : Int) ≤ (k : Int) := by omega
  have k1 : (k : Int) ≤ (m : Int) := by omega
  have k2 : (k : Int) ≤ (zq : Int) := by omega
  have k3 : (m : Int) ≤ 60 := by omega
  go_enter Try.func10, Try.ntmps10
  go_wp2_with fail
  refine L1.mono ?_
  rintro e w1 ⟨rfl, hw⟩
  obtain rfl := hw.symm
  clear L1
  go_wp2_with fail
  refine L2.mono ?_
  rintro e w1 ⟨rfl, hw⟩
  obtain rfl := hw.symm
  clear L2
  go_wp2_with fail
  refine L3.mono ?_
  rintro e w1 ⟨rfl, hw⟩
  obtain rfl := hw.symm
  clear L3
  go_wp2_with fail
  refine (K1.out w (Below.refl _ _)).mono ?_
  rintro e w2 ⟨rfl, hb2⟩
  have HB2 := Lib.hid hb2
  clear hb2
  go_wp2_with fail
  refine (K2.out w2 HB2.out).mono ?_
  rintro e w3 ⟨rfl, hb3⟩
  have HB3 := Lib.hid (chain HB2.out hb3)
  clear hb3
  go_wp2_with fail
  refine (HCP.out w3 HB3.out (HV.out.later HB3.out)).mono ?_
  rintro e w4 ⟨v4, rfl, hB4⟩
  obtain ⟨rows4, hr4, _⟩ := hB4.row
  obtain ⟨ps4, cs4, hs4, hB_⟩ := own_shp hr4
  clear hB_
  subst hs4
  obtain ⟨v5, w5, hr5, ps, cs, hv5, hR5, hb5⟩ := hB4.join (by have := HND.out; omega) (HR.out.rows.later HB3.out) HRZ.out (by have := HMO.out.2; have := HND.out; omega) (by have := HMO.out.1; omega)
  subst hv5
  have HB4 := Lib.hid hB4
  have HB5 := Lib.hid (chain HB3.out hb5)
  have HR5 := Lib.hid hR5
  rw [HNM.out] at hr5
  have hlen5 : (dbl ++ more).length = nd + nm := by rw [List.length_append, HND.out, HNM.out]
  rw [hlen5] at hr5
  have HL5 := Lib.hid hlen5
  have H5 := Lib.hid hr5
  clear hr4 hr5 hR5 hb5 hB4 hlen5
  go_wp2_with (at_builtin; refine Lib.wpList_append_run _ rfl _ _ 22 22 rfl _ _ rfl rfl _ _ H5.out ?_)
  have hR3 := K3.out w5 ps cs HB5.out HR5.out
  rw [HL5.out] at hR3
  refine hR3.mono ?_
  rintro e w6 ⟨rfl, hb6⟩
  have HB6 := Lib.hid (chain HB5.out hb6)
  clear hb6 hR3
  rcases HC.out with hE | ⟨hE, hE2, hm2, hbk, hE3⟩
  · subst hE
    go_wp2_with fail
    refine (HK.out w6).mono ?_
    rintro e w7 ⟨rfl, hb7⟩
    have HF := Lib.hid (chain HB6.out hb7)
    clear hb7
    go_wp2_with fail
    go_ret
    exact ⟨rfl, HF.out⟩
  · subst hE hE2
    have hmn : min (n : Int) (k : Int) = (m2 : Int) := by omega
    rcases hE3 with hE3 | ⟨hE3, hno, hac⟩
    · subst hE3
      cases b with
      | true =>
        have hmk := hbk rfl
        subst hmk
        clear hbk hm2
        go_wp2_with fail
        refine (HK.out w6).mono ?_
        rintro e w7 ⟨rfl, hb7⟩
        have HF := Lib.hid (chain HB6.out hb7)
        clear hb7
        go_wp2_with fail
        go_ret
        exact ⟨rfl, HF.out⟩
      | false =>
        clear hbk hm2
        go_wp2_with fail
        refine (HK.out w6).mono ?_
        rintro e w7 ⟨rfl, hb7⟩
        have HF := Lib.hid (chain HB6.out hb7)
        clear hb7
        go_wp2_with fail
        go_ret
        exact ⟨rfl, HF.out⟩
    · subst hE3
      have hlt : ¬ (o : Int) < (n : Int) := by omega
      clear hno
      cases a with
      | true =>
        have hc := hac rfl
        subst hc
        clear hac
        cases b with
        | true =>
          have hmk := hbk rfl
          subst hmk
          clear hbk hm2
          go_wp2_with fail
          refine (HK.out w6).mono ?_
          rintro e w7 ⟨rfl, hb7⟩
          have HF := Lib.hid (chain HB6.out hb7)
          clear hb7
          go_wp2_with fail
          go_ret
          exact ⟨rfl, HF.out⟩
        | false =>
          clear hbk hm2
          go_wp2_with fail
          refine (HK.out w6).mono ?_
          rintro e w7 ⟨rfl, hb7⟩
          have HF := Lib.hid (chain HB6.out hb7)
          clear hb7
          go_wp2_with fail
          go_ret
          exact ⟨rfl, HF.out⟩
      | false =>
        clear hac
        cases b with
        | true =>
          have hmk := hbk rfl
          subst hmk
          clear hbk hm2
          go_wp2_with fail
          refine (HK.out w6).mono ?_
          rintro e w7 ⟨rfl, hb7⟩
          have HF := Lib.hid (chain HB6.out hb7)
          clear hb7
          go_wp2_with fail
          go_ret
          exact ⟨rfl, HF.out⟩
        | false =>
          clear hbk hm2
          go_wp2_with fail
          refine (HK.out w6).mono ?_
          rintro e w7 ⟨rfl, hb7⟩
          have HF := Lib.hid (chain HB6.out hb7)
          clear hb7
          go_wp2_with fail
          go_ret
          exact ⟨rfl, HF.out⟩
end Go.Proofs.Ytgdncnalahdjeaa
