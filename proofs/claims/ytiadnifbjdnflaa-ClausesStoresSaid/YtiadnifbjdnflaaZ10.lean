/- The law ClausesStores: its walk. -/
import Derived.Test.YtiadnifbjdnflaaZ9
import Derived.Test.YtiadnifbjdnflaaKnown14
namespace Go.Proofs.Ytiadnifbjdnflaa
open Go Go.RowKit Go.Maps

set_option maxRecDepth 100000 in
set_option maxHeartbeats 8000000 in
theorem stores_in (p : Option Addr) (n c : Nat) (L : Nat → Nat) (V : Nat → Nat → Int) (q : Option Addr) (m d : Nat) (M : Nat → Nat) (U : Nat → Nat → Int) (W : World) (hA : ArgIn W p n L V) (hB : ArgIn W q m M U) (hn : n ≤ 150) (hm : m ≤ 150) (hL : ∀ i, i < n → L i ≤ 9223372036854775807) (hM : ∀ i, i < m → M i ≤ 9223372036854775807) :
    Calls Try.prog 5 #[.slice p n c, .slice q m d] W fun e w' => e = .returned (.bool true) ∧ Below W.heap.size W w' := by
  have HA := Lib.hid hA
  have HB := Lib.hid hB
  have HL := Lib.hid hL
  have HM := Lib.hid hM
  have n0 : (0 : Int) ≤ (n : Int) := by omega
  have n1 : (n : Int) ≤ 150 := by omega
  have m0 : (0 : Int) ≤ (m : Int) := by omega
  have m1 : (m : Int) ≤ 150 := by omega
  obtain ⟨i0, hi, hz0, hz1, hz2⟩ := info_of (e := 22) (z := .slice none 0 0) (s := 1) (b := 24) (by kernel_rfl)
  clear hA hB hL hM
  go_enter Try.func5, Try.ntmps5
  go_wp2_with fail
  refine (new32 W).mono ?_
  rintro e w1 ⟨O, rfl, hO, ⟨K, hS, hK⟩, hb⟩
  have HS1 := Lib.hid (show LawSt W w1 K O [] [] (.slice none 0 0) 0 from ⟨hS, Rows.nil _ _ _, hb, fun b e => (hK b e).1, fun c hc => by cases hc⟩)
  clear hS hK hb hO
  go_wp2_with fail
  go_loopw [6, 7, 37] (fun v6 t i wr => ∃ (k : Nat) (K : Nat → Nat) (cl : List (List Int)) (T : Int), k ≤ n ∧ i = .int .i64 (k : Int) ∧ t = .int .i64 T ∧ cl.length ≤ k ∧ Hid (LawSt W wr K O cl cl v6 T)) (fun _ _ i _ => n - (intOf i).toNat)
  case atStart => exact ⟨0, K, [], 0, Nat.zero_le _, rfl, rfl, Nat.le_refl _, HS1⟩
  case round =>
    obtain ⟨k, K, cl, T, hk, rfl, rfl, hck, HS⟩ := hrel
    clear HS1
    by_cases hlt : k < n
    · obtain ⟨b, off, rfl, ha⟩ := HA.out (by omega)
      obtain ⟨qi, ci, c1, hq, hqn⟩ := ha k hlt
      have HQ := Lib.hid hq
      have hLk := HL.out k hlt
      have hk0 : (0 : Int) ≤ (k : Int) := by omega
      have hk1 : (k : Int) < (n : Int) := by omega
      have hk' : k + 1 ≤ n := Nat.succ_le_of_lt hlt
      have hms : n - (k + 1) < n - k := Nat.sub_lt_sub_left hlt (Nat.lt_succ_self k)
      have ek : wrap64 ((k : Int) + 1) = ((k + 1 : Nat) : Int) := by rw [wrap64_eq]; omega
      have HKK := Lib.hid (And.intro hk' (And.intro hms ek))
      obtain ⟨N, hN⟩ : ∃ N, N = L k := ⟨_, rfl⟩
      obtain ⟨X, hX⟩ : ∃ X, X = V k := ⟨_, rfl⟩
      rw [← hN] at c1 HQ hLk
      rw [← hX] at HQ
      have HC1 := Lib.hid c1
      obtain ⟨p6, z6, rfl⟩ := HS.out.len
      have c1 := cell_later HS.out.b HC1.out
      clear hq hN hX ha hk' hms ek
      by_cases h30 : 30 < N
      case pos =>
        have h30' : (30 : Int) < (N : Int) := by omega
        go_wp2_with fail
        refine (known14_any wr).mono ?_
        rintro e w2 ⟨rfl, hb⟩
        go_wp2_with fail
        exact bodyPost_ret (v := .bool true) (by simp [results, Try.results5, go_sem]) rfl ⟨rfl, HS.out.b.trans (hb.mono HS.out.b.size)⟩
      have h30' : (N : Int) ≤ 30 := by omega
      have HN30 := Lib.hid (show N ≤ 30 by omega)
      go_wp2_with fail
      refine (copied_any qi N ci X wr (HQ.out.later HS.out.b) (by omega) hqn).mono ?_
      rintro e w2 ⟨v', rfl, hown, hb⟩
      obtain ⟨pi, ci2, rfl, hpn, hin, hpb⟩ := own_row hown
      have HIN2 := Lib.hid hown
      have HLI := Lib.hid hin
      have HS2 := Lib.hid (HS.out.later hb)
      have HFR := Lib.hid (fun (g : Nat) (e : (Value.slice pi N ci2).ownBlock = some g) => (show K g = 0 ∧ g < w2.heap.size ∧ W.heap.size ≤ g from ⟨HS.out.sto.fr g (own_lt hown e).1, (own_lt hown e).2, Nat.le_trans HS.out.b.size (own_lt hown e).1⟩))
      clear hpn hin hpb hown hb c1
      by_cases hM : MayP N X

      · obtain ⟨l, hl, hz⟩ := lits_of X N hM.2
        have HF := Lib.hid (And.intro hl hz)
        have HFL := Lib.hid (show (formL l).length ≤ 30 from by have := formL_short l; have := HN30.out; omega)
        have HTN := Lib.hid (topN_form hl hz T)
        have HMEM := Lib.hid (nums_mem hl hz)
        clear hl hz
        go_wp2_with fail
        refine (add33 HS2.out.sto pi N ci2 X l HLI.out hM HF.out.1 HF.out.2 (by omega)).mono ?_
        rintro e w3 ⟨rfl, K', hS3, hC3⟩
        rw [HTN.out] at hS3
        obtain ⟨cf, hcf⟩ : ∃ cf, cf = formL l := ⟨_, rfl⟩
        have HIN := Lib.hid (own_only HIN2.out hC3.only (fun g e => by have := (HFR.out g e).1; omega))
        have HS3 := Lib.hid (HS2.out.add hS3 hC3 (fun c hc => by
          rcases List.mem_append.1 hc with h | h
          · exact HS2.out.forms c h
          · obtain rfl := List.mem_singleton.1 h
            exact ⟨l, rfl, HFL.out⟩))
        have HFR3 := Lib.hid (fun (g : Nat) (e : (Value.slice pi N ci2).ownBlock = some g) => (show K' g = 0 ∧ W.heap.size ≤ g from ⟨by
          rcases hC3.new g (HFR.out g e).1 with h | ⟨h, _⟩
          · exact h
          · have := (HFR.out g e).2.1; omega, (HFR.out g e).2.2⟩))
        clear hS3 hC3 HS2 HIN2 HS
        obtain ⟨B0, HIN⟩ : ∃ B0, Hid (w3.ownsRow B0 30 1 (.slice pi N ci2) N ((rowL N X).map (Value.int .i64))) := ⟨_, HIN⟩
        go_wp2_with fail
        go_loopw [60] (fun x wr => ∃ (t : Nat) (ys : List Int), t ≤ N ∧ x = .int .i64 (t : Int) ∧ Hid (wr.ownsRow B0 30 1 (.slice pi N ci2) N (ys.map (Value.int .i64)) ∧ Only (fun b => (Value.slice pi N ci2).ownBlock = some b) w3 wr)) (fun x _ => N - (intOf x).toNat)
        case atStart => exact ⟨0, _, Nat.zero_le _, rfl, Lib.hid ⟨HIN.out, Only.refl _ _⟩⟩
        case round =>
          obtain ⟨t, ys, ht, rfl, HX⟩ := hrel
          by_cases hlt2 : t < N
          · obtain ⟨g, c9, e9⟩ := own_some HX.out.1 (Nat.lt_of_le_of_lt (Nat.zero_le _) hlt2)
            injection e9 with e9 _ _
            subst e9
            have ht0 : (0 : Int) ≤ (t : Int) := Int.natCast_nonneg t
            have ht1 : (t : Int) < (N : Int) := Int.ofNat_lt.2 hlt2
            obtain ⟨u, hu⟩ : ∃ u : Int, (ys.map (Value.int .i64))[t]? = some (.int .i64 u) := by
              have h1 := HX.out.1.1
              rw [List.length_map] at h1
              have h2 : t < ys.length := Nat.lt_of_lt_of_eq hlt2 (by rw [h1, Nat.mul_one])
              exact ⟨ys[t]'h2, by rw [List.getElem?_map, List.getElem?_eq_getElem h2]; rfl⟩
            obtain ⟨cu, fu⟩ := own_cell HX.out.1 t _ hu
            clear hu
            have ht2 : t + 1 ≤ N := Nat.succ_le_of_lt hlt2
            have hms : N - (t + 1) < N - t := Nat.sub_lt_sub_left hlt2 (Nat.lt_succ_self t)
            have HE3 := Lib.hid (show wrap64 ((t : Int) + 1) = ((t + 1 : Nat) : Int) from by rw [wrap64_eq]; have := HN30.out; omega)
            go_wp2_with fail
            refine ⟨⟨t + 1, _, ht2, by first | rfl | rw [HE3.out], Lib.hid ⟨by have h9 := own_set HX.out.1 t (.int .i64 7); rw [show (ys.map (Value.int .i64)).set t (.int .i64 7) = (ys.set t 7).map (Value.int .i64) from by rw [List.map_set]] at h9; exact h9, HX.out.2.trans ((Only.of_setCell wr ⟨g, t, none⟩ _).mono (fun b _ e => by have e : b = g := e; rw [e]; rfl))⟩⟩, ?_⟩
            first | rw [HE3.out] | skip
            simp only [intOf, Int.toNat_natCast]
            exact hms
          · obtain rfl : N = t := (Nat.le_antisymm ht (Nat.le_of_not_lt hlt2)).symm
            have HS4 := Lib.hid (HS3.out.only HX.out.2 HFR3.out)
            clear HX HS3 HIN
            have c1 := cell_later HS4.out.b HC1.out
            have HQ4 := Lib.hid (HQ.out.later HS4.out.b)
            go_wp2_with fail
            refine (refMay_any qi N ci X wr HQ4.out hLk).mono ?_
            rintro e w5 ⟨⟨rfl, _⟩ | ⟨rfl, hno⟩, hw⟩ <;> obtain rfl := hw.symm <;> clear hw
            case inr => exact absurd hM hno
            go_wp2_with fail
            have HLB : ∀ i, i < N → isLitB (X i) = true := hM.2
            refine (refNormal_any qi N ci X l wr HQ4.out (by have := HN30.out; omega) HLB HMEM.out).mono ?_
            rintro e w6 ⟨v', rfl, hown, hb⟩
            obtain ⟨pj, cj, rfl, hjn, hj, hjb⟩ := own_in hown rfl
            have HJ := Lib.hid hj
            have HJB := Lib.hid (fun ad (e : pj = some ad) => (show wr.heap.size ≤ ad.block ∧ ad.block < w6.heap.size from ⟨hjb ad e, own_lt hown (by rw [e]; rfl) |>.2⟩))
            have HJN := Lib.hid hjn
            have HF4 := Lib.hid HS4.out.sto.fr
            have HB4 := Lib.hid HS4.out.b
            have HS6 := Lib.hid (HS4.out.later hb)
            clear hown hb hj hjb hjn HS4 HQ4 c1
            have HSa := Lib.hid (HS6.out.later (below1 w6 (.cells #[.slice pj (formL l).length cj] 22)))
            obtain ⟨xs, r1, r2, r3⟩ := HSa.out.all
            have R1 := Lib.hid r1
            have R2 := Lib.hid r2
            have R3 := Lib.hid r3
            clear r1 r2 r3
            go_wp2_with (at_builtin; refine wpList_append_own_at _ rfl _ _ 33 rfl 0 22 i0 (.slice none 0 0) 1 24 Try.underlying33 hi hz0 hz1 hz2 rfl (by decide) (.slice p6 cl.length z6) cl.length xs rfl R1.out ⟨w6.heap.size, 0, none⟩ 1 1 [.slice pj (formL l).length cj] rfl rfl ?c2 ?c3 ?c4 ?c5 (Nat.zero_le _) ?_)
            case c2 =>
              intro j u hj
              rw [Lib.add_plain]
              match j, hj with
              | 0, hj => cases hj; simp [go_sem]
            case c3 => intro u hu; simp at hu; subst hu; rfl
            case c4 => have hml : maxLen = 9223372036854775807 := rfl; omega
            case c5 => omega
            intro v' w7 hown hgr _ hloc
            obtain ⟨p9, z9, rfl⟩ := own_shape hown
            have HR := HSa.out.push (p := pj) (z := cj) (c := formL l) R1.out R2.out R3.out (HJ.out.later (below1 w6 _)) (fun ad e => ⟨HF4.out _ (HJB.out ad e).1, by have := (HJB.out ad e).2; simp; omega⟩) (fun ad e => Nat.le_trans HB4.out.size (HJB.out ad e).1) (fun e => ⟨Nat.eq_zero_of_not_pos (fun h0 => by obtain ⟨b, off, e2, _⟩ := HJ.out h0; rw [e] at e2; cases e2), HJN.out e⟩) hown hgr (by simpa using hloc)
            obtain ⟨K7, HS7⟩ := HR
            have HS7 := Lib.hid HS7
            clear hown hgr hloc R1 R2 R3 HSa HS6
            have c1 := cell_later HS7.out.b HC1.out
            have HQ7 := Lib.hid (HQ.out.later HS7.out.b)
            go_wp2_with fail
            go_loopw [7, 100] (fun t x wr => ∃ (j : Nat), j ≤ N ∧ x = .int .i64 (j : Int) ∧ t = .int .i64 (topN X j T) ∧ w7 = wr) (fun _ x _ => N - (intOf x).toNat)
            case atStart => exact ⟨0, Nat.zero_le _, rfl, rfl, rfl⟩
            case round =>
              obtain ⟨j, hj, rfl, rfl, rfl⟩ := hrel
              by_cases hlt3 : j < N
              · obtain ⟨bq, oq, rfl, hv⟩ := HQ7.out (Nat.lt_of_le_of_lt (Nat.zero_le _) hlt3)
                have cx := hv j hlt3
                have hb9 := HLB j hlt3
                obtain ⟨x, hx⟩ : ∃ x, x = X j := ⟨_, rfl⟩
                have HTX := Lib.hid (show topN X (j + 1) T = max (topN X j T) (absI x) from by rw [hx]; rfl)
                rw [← hx] at cx hb9
                clear hx hv
                obtain ⟨T2, hT2⟩ : ∃ t, t = topN X j T := ⟨_, rfl⟩
                rw [← hT2] at HTX ⊢
                clear hT2
                have hx0 : -9223372036854775807 ≤ x ∧ x ≤ 9223372036854775807 := by simp [isLitB] at hb9; omega
                have hj0 : (0 : Int) ≤ (j : Int) := Int.natCast_nonneg j
                have hj1 : (j : Int) < (N : Int) := Int.ofNat_lt.2 hlt3
                have hj2 : j + 1 ≤ N := Nat.succ_le_of_lt hlt3
                have hjm : N - (j + 1) < N - j := Nat.sub_lt_sub_left hlt3 (Nat.lt_succ_self j)
                have HE3 := Lib.hid (show wrap64 ((j : Int) + 1) = ((j + 1 : Nat) : Int) from by rw [wrap64_eq]; have := HN30.out; omega)
                have HAX := Lib.hid (atom_any x w7 hx0.1 hx0.2)
                clear hb9 hx0
                go_wp2_with fail
                refine HAX.out.mono ?_
                rintro e w8 ⟨rfl, hw⟩
                obtain rfl := hw.symm
                clear hw
                go_wp2_with fail
                refine ⟨⟨j + 1, hj2, by first | rfl | rw [HE3.out], by rw [HTX.out], trivial⟩, ?_⟩
                first | rw [HE3.out] | skip
                simp only [intOf, Int.toNat_natCast]
                exact hjm
              · obtain rfl : N = j := (Nat.le_antisymm hj (Nat.le_of_not_lt hlt3)).symm
                go_wp2_with fail
                refine ⟨⟨k + 1, K7, cl ++ [formL l], topN X N T, HKK.out.1, by first | rfl | rw [HKK.out.2.2], rfl, by rw [List.length_append]; exact Nat.add_le_add_right hck 1, HS7⟩, ?_⟩
                first | rw [HKK.out.2.2] | skip
                simp only [intOf, Int.toNat_natCast]
                exact HKK.out.2.1

      · go_wp2_with fail
        refine (add33_no HS2.out.sto pi N ci2 X HLI.out hLk hM).mono ?_
        rintro e w3 ⟨rfl, hw⟩
        obtain rfl := hw.symm
        clear hw
        have HIN := HIN2
        obtain ⟨B0, HIN⟩ : ∃ B0, Hid (w2.ownsRow B0 30 1 (.slice pi N ci2) N ((rowL N X).map (Value.int .i64))) := ⟨_, HIN⟩
        have HFR3 := Lib.hid (fun (g : Nat) (e : (Value.slice pi N ci2).ownBlock = some g) => (show K g = 0 ∧ W.heap.size ≤ g from ⟨(HFR.out g e).1, (HFR.out g e).2.2⟩))
        clear HIN2 HS
        go_wp2_with fail
        go_loopw [60] (fun x wr => ∃ (t : Nat) (ys : List Int), t ≤ N ∧ x = .int .i64 (t : Int) ∧ Hid (wr.ownsRow B0 30 1 (.slice pi N ci2) N (ys.map (Value.int .i64)) ∧ Only (fun b => (Value.slice pi N ci2).ownBlock = some b) w2 wr)) (fun x _ => N - (intOf x).toNat)
        case atStart => exact ⟨0, _, Nat.zero_le _, rfl, Lib.hid ⟨HIN.out, Only.refl _ _⟩⟩
        case round =>
          obtain ⟨t, ys, ht, rfl, HX⟩ := hrel
          by_cases hlt2 : t < N
          · obtain ⟨g, c9, e9⟩ := own_some HX.out.1 (Nat.lt_of_le_of_lt (Nat.zero_le _) hlt2)
            injection e9 with e9 _ _
            subst e9
            have ht0 : (0 : Int) ≤ (t : Int) := Int.natCast_nonneg t
            have ht1 : (t : Int) < (N : Int) := Int.ofNat_lt.2 hlt2
            obtain ⟨u, hu⟩ : ∃ u : Int, (ys.map (Value.int .i64))[t]? = some (.int .i64 u) := by
              have h1 := HX.out.1.1
              rw [List.length_map] at h1
              have h2 : t < ys.length := Nat.lt_of_lt_of_eq hlt2 (by rw [h1, Nat.mul_one])
              exact ⟨ys[t]'h2, by rw [List.getElem?_map, List.getElem?_eq_getElem h2]; rfl⟩
            obtain ⟨cu, fu⟩ := own_cell HX.out.1 t _ hu
            clear hu
            have ht2 : t + 1 ≤ N := Nat.succ_le_of_lt hlt2
            have hms : N - (t + 1) < N - t := Nat.sub_lt_sub_left hlt2 (Nat.lt_succ_self t)
            have HE3 := Lib.hid (show wrap64 ((t : Int) + 1) = ((t + 1 : Nat) : Int) from by rw [wrap64_eq]; have := HN30.out; omega)
            go_wp2_with fail
            refine ⟨⟨t + 1, _, ht2, by first | rfl | rw [HE3.out], Lib.hid ⟨by have h9 := own_set HX.out.1 t (.int .i64 7); rw [show (ys.map (Value.int .i64)).set t (.int .i64 7) = (ys.set t 7).map (Value.int .i64) from by rw [List.map_set]] at h9; exact h9, HX.out.2.trans ((Only.of_setCell wr ⟨g, t, none⟩ _).mono (fun b _ e => by have e : b = g := e; rw [e]; rfl))⟩⟩, ?_⟩
            first | rw [HE3.out] | skip
            simp only [intOf, Int.toNat_natCast]
            exact hms
          · obtain rfl : N = t := (Nat.le_antisymm ht (Nat.le_of_not_lt hlt2)).symm
            have HS4 := Lib.hid (HS2.out.only HX.out.2 HFR3.out)
            clear HX HS2 HIN
            have c1 := cell_later HS4.out.b HC1.out
            have HQ4 := Lib.hid (HQ.out.later HS4.out.b)
            go_wp2_with fail
            refine (refMay_any qi N ci X wr HQ4.out hLk).mono ?_
            rintro e w5 ⟨⟨rfl, hno⟩ | ⟨rfl, _⟩, hw⟩ <;> obtain rfl := hw.symm <;> clear hw
            case inl => exact absurd hno hM
            go_wp2_with fail
            refine ⟨⟨k + 1, K, cl, T, HKK.out.1, by first | rfl | rw [HKK.out.2.2], rfl, Nat.le_succ_of_le hck, HS4⟩, ?_⟩
            first | rw [HKK.out.2.2] | skip
            simp only [intOf, Int.toNat_natCast]
            exact HKK.out.2.1

    · obtain rfl : k = n := by omega
      obtain ⟨p6, z6, rfl⟩ := HS.out.len
      have H35 := Lib.hid (len35 HS.out.sto)
      have H36 := Lib.hid (atoms36 HS.out.sto)
      have hc150 : (cl.length : Int) ≤ 150 := by omega
      have hc0 : (0 : Int) ≤ (cl.length : Int) := Int.natCast_nonneg _
      have HC150 := Lib.hid (show cl.length ≤ 150 by omega)
      go_wp2_with fail
      refine H35.out.mono ?_
      rintro e w2 ⟨rfl, hw⟩
      obtain rfl := hw.symm
      clear hw
      go_wp2_with fail
      refine H36.out.mono ?_
      rintro e w2 ⟨rfl, hw⟩
      obtain rfl := hw.symm
      clear hw H35 H36
      go_wp2_with fail
      go_loopw [128] (fun x wr => ∃ (j : Nat), j ≤ cl.length ∧ x = .int .i64 (j : Int) ∧ Hid (LawSt W wr K O cl cl (.slice p6 cl.length z6) T)) (fun x _ => cl.length - (intOf x).toNat)
      case atStart => exact ⟨0, Nat.zero_le _, rfl, HS⟩
      case round =>
        obtain ⟨j, hj, rfl, HT⟩ := hrel
        clear HS
        by_cases hlt : j < cl.length
        · have hj0 : (0 : Int) ≤ (j : Int) := Int.natCast_nonneg j
          have hj1 : (j : Int) < (cl.length : Int) := Int.ofNat_lt.2 hlt
          have HJJ := Lib.hid (show j + 1 ≤ cl.length ∧ cl.length - (j + 1) < cl.length - j ∧ wrap64 ((j : Int) + 1) = ((j + 1 : Nat) : Int) from ⟨Nat.succ_le_of_lt hlt, Nat.sub_lt_sub_left hlt (Nat.lt_succ_self j), by rw [wrap64_eq]; have := HC150.out; omega⟩)
          have hN30 : (cl[j]).length ≤ 30 := by obtain ⟨_, _, h⟩ := HT.out.forms _ (List.getElem_mem hlt); exact h
          have H37 := Lib.hid (clause37 HT.out.sto j hlt (Nat.le_trans hN30 (by decide)))
          obtain ⟨cj, hcj⟩ : ∃ x, x = cl[j] := ⟨_, rfl⟩
          have HCJ := Lib.hid hcj
          rw [← hcj] at H37 hN30
          have HN30 := Lib.hid hN30
          have hN0 : (cj.length : Int) ≤ 30 := by omega
          clear hcj hN30
          go_wp2_with fail
          refine H37.out.mono ?_
          rintro e w2 ⟨v', rfl, hown, hb⟩
          obtain ⟨pc, cc, rfl, _, hin, _⟩ := own_in hown rfl
          have HIN2 := Lib.hid hown
          have HLI := Lib.hid hin
          have HT2 := Lib.hid (HT.out.later hb)
          have HFR := Lib.hid (fun (g : Nat) (e : (Value.slice pc cj.length cc).ownBlock = some g) => (show K g = 0 ∧ W.heap.size ≤ g from ⟨HT.out.sto.fr g (own_lt hown e).1, Nat.le_trans HT.out.b.size (own_lt hown e).1⟩))
          obtain ⟨xs, r1, r2, r3⟩ := HT2.out.all
          obtain ⟨q9, z9, e9, hq9, _, _⟩ := r3 j hlt
          rw [← HCJ.out] at e9 hq9
          have HQ9 := Lib.hid hq9
          obtain ⟨g6, c6, e6⟩ := own_some r1 (Nat.lt_of_le_of_lt (Nat.zero_le _) hlt)
          injection e6 with e6 _ e7
          subst e6
          subst e7
          have kc := (own_cell r1 j _ e9).1
          clear hown hin hb HT H37 r1 r2 r3 e9 hq9
          go_wp2_with fail
          refine (alike_self pc cj.length cc (fnL cj) q9 z9 w2 HLI.out (Nat.le_trans HN30.out (by decide)) HQ9.out).mono ?_
          rintro e w3 ⟨rfl, hb3⟩
          have HIN := Lib.hid (own_only HIN2.out (Only.of_below (T := fun _ => False) hb3) (fun _ _ e => e))
          obtain ⟨B0, HIN⟩ : ∃ B0, Hid (w3.ownsRow B0 30 1 (.slice pc cj.length cc) cj.length (cj.map (Value.int .i64))) := ⟨_, HIN⟩
          have HT3 := Lib.hid (HT2.out.later hb3)
          clear hb3 HT2 HIN2 kc
          go_wp2_with fail
          go_loopw [143] (fun x wr => ∃ (t : Nat) (ys : List Int), t ≤ cj.length ∧ x = .int .i64 (t : Int) ∧ Hid (wr.ownsRow B0 30 1 (.slice pc cj.length cc) cj.length (ys.map (Value.int .i64)) ∧ Only (fun b => (Value.slice pc cj.length cc).ownBlock = some b) w3 wr)) (fun x _ => cj.length - (intOf x).toNat)
          case atStart => exact ⟨0, _, Nat.zero_le _, rfl, Lib.hid ⟨HIN.out, Only.refl _ _⟩⟩
          case round =>
            obtain ⟨t, ys, ht, rfl, HX⟩ := hrel
            by_cases hlt2 : t < cj.length
            · obtain ⟨g, c9, e9⟩ := own_some HX.out.1 (Nat.lt_of_le_of_lt (Nat.zero_le _) hlt2)
              injection e9 with e9 _ _
              subst e9
              have ht0 : (0 : Int) ≤ (t : Int) := Int.natCast_nonneg t
              have ht1 : (t : Int) < (cj.length : Int) := Int.ofNat_lt.2 hlt2
              obtain ⟨u, hu⟩ : ∃ u : Int, (ys.map (Value.int .i64))[t]? = some (.int .i64 u) := by
                have h1 := HX.out.1.1
                rw [List.length_map] at h1
                have h2 : t < ys.length := Nat.lt_of_lt_of_eq hlt2 (by rw [h1, Nat.mul_one])
                exact ⟨ys[t]'h2, by rw [List.getElem?_map, List.getElem?_eq_getElem h2]; rfl⟩
              obtain ⟨cu, fu⟩ := own_cell HX.out.1 t _ hu
              clear hu
              have ht2 : t + 1 ≤ cj.length := Nat.succ_le_of_lt hlt2
              have hms : cj.length - (t + 1) < cj.length - t := Nat.sub_lt_sub_left hlt2 (Nat.lt_succ_self t)
              have HE3 := Lib.hid (show wrap64 ((t : Int) + 1) = ((t + 1 : Nat) : Int) from by rw [wrap64_eq]; have := HN30.out; omega)
              go_wp2_with fail
              refine ⟨⟨t + 1, ys.set t (wrap64 (u + 1)), ht2, by first | rfl | rw [HE3.out], Lib.hid ⟨by have h9 := own_set HX.out.1 t (.int .i64 (wrap64 (u + 1))); rw [show (ys.map (Value.int .i64)).set t (.int .i64 (wrap64 (u + 1))) = (ys.set t (wrap64 (u + 1))).map (Value.int .i64) from by rw [List.map_set]] at h9; exact h9, HX.out.2.trans ((Only.of_setCell wr ⟨g, t, none⟩ _).mono (fun b _ e => by have e : b = g := e; rw [e]; rfl))⟩⟩, ?_⟩
              first | rw [HE3.out] | skip
              simp only [intOf, Int.toNat_natCast]
              exact hms
            · have HT4 := Lib.hid (HT3.out.only HX.out.2 HFR.out)
              clear HX HT3 HIN
              go_wp2_with fail
              refine ⟨⟨j + 1, HJJ.out.1, by first | rfl | rw [HJJ.out.2.2], HT4⟩, ?_⟩
              first | rw [HJJ.out.2.2] | skip
              simp only [intOf, Int.toNat_natCast]
              exact HJJ.out.2.1
        · obtain rfl : j = cl.length := Nat.le_antisymm hj (Nat.le_of_not_lt hlt)
          clear hlt hj
          go_wp2_with fail
          go_loopw [156] (fun x wr => ∃ (j : Nat), j ≤ m ∧ x = .int .i64 (j : Int) ∧ Hid (LawSt W wr K O cl cl (.slice p6 cl.length z6) T)) (fun x _ => m - (intOf x).toNat)
          case atStart => exact ⟨0, Nat.zero_le _, rfl, HT⟩
          case round =>
            obtain ⟨j, hj, rfl, HV⟩ := hrel
            clear HT
            by_cases hlt : j < m
            · obtain ⟨b, off, rfl, ha⟩ := HB.out (Nat.lt_of_le_of_lt (Nat.zero_le _) hlt)
              obtain ⟨qi, ci, c1, hq, hqn⟩ := ha j hlt
              have HQ := Lib.hid hq
              have hLk := HM.out j hlt
              have hk0 : (0 : Int) ≤ (j : Int) := Int.natCast_nonneg j
              have hk1 : (j : Int) < (m : Int) := Int.ofNat_lt.2 hlt
              have HKK := Lib.hid (show j + 1 ≤ m ∧ m - (j + 1) < m - j ∧ wrap64 ((j : Int) + 1) = ((j + 1 : Nat) : Int) from ⟨Nat.succ_le_of_lt hlt, Nat.sub_lt_sub_left hlt (Nat.lt_succ_self j), by rw [wrap64_eq]; omega⟩)
              obtain ⟨N, hN⟩ : ∃ N, N = M j := ⟨_, rfl⟩
              obtain ⟨X, hX⟩ : ∃ X, X = U j := ⟨_, rfl⟩
              rw [← hN] at c1 HQ hLk
              rw [← hX] at HQ
              have HC1 := Lib.hid c1
              have c1 := cell_later HV.out.b HC1.out
              have HQ1 := Lib.hid (HQ.out.later HV.out.b)
              clear hq hN hX ha
              by_cases h30 : 30 < N
              case pos =>
                have h30' : (30 : Int) < (N : Int) := by omega
                go_wp2_with fail
                refine ⟨⟨j + 1, HKK.out.1, by first | rfl | rw [HKK.out.2.2], HV⟩, ?_⟩
                first | rw [HKK.out.2.2] | skip
                simp only [intOf, Int.toNat_natCast]
                exact HKK.out.2.1
              have h30' : (N : Int) ≤ 30 := by omega
              have HN30 := Lib.hid (show N ≤ 30 by omega)
              by_cases hz : cl.length = 0
              case pos =>
                have hz1 : decide ((0 : Int) ≤ (cl.length : Int) - 1) = false := decide_eq_false (by omega)
                have hz3 : ¬ (1 : Int) ≤ (cl.length : Int) := by omega
                have hz4 : (cl.length : Int) < 1 := by omega
                have HZW := Lib.hid (show wrap64 ((cl.length : Int) - 1) = (cl.length : Int) - 1 from by rw [wrap64_eq]; have := HC150.out; omega)
                have HFN := Lib.hid (find38_no HV.out.sto qi N ci X HQ1.out hLk (.inl hz))
                clear hz
                go_wp2_with fail
                refine HFN.out.mono ?_
                rintro e w2 ⟨rfl, hw⟩
                obtain rfl := hw.symm
                clear hw HFN
                go_wp2_with fail
                go_loopw [20, 21, 22] (fun a f x wr2 => a = .int .i64 0 ∧ f = .bool false ∧ x = .int .i64 ((cl.length : Int) - 1) ∧ wr = wr2) (fun _ _ _ _ => 0)
                case atStart => exact ⟨rfl, rfl, by first | rfl | rw [HZW.out], rfl⟩
                case round =>
                  obtain ⟨rfl, rfl, rfl, rfl⟩ := hrel
                  go_wp2_with fail
                  refine ⟨⟨j + 1, HKK.out.1, by first | rfl | rw [HKK.out.2.2], HV⟩, ?_⟩
                  first | rw [HKK.out.2.2] | skip
                  simp only [intOf, Int.toNat_natCast]
                  exact HKK.out.2.1
              by_cases hM : MayP N X
              case neg =>
                have hz1 : decide ((0 : Int) ≤ (cl.length : Int) - 1) = true := decide_eq_true (by omega)
                have HZW := Lib.hid (show wrap64 ((cl.length : Int) - 1) = (cl.length : Int) - 1 from by rw [wrap64_eq]; have := HC150.out; omega)
                go_wp2_with fail
                refine (find38_no HV.out.sto qi N ci X HQ1.out hLk (.inr (fun h => hM ⟨by have := HN30.out; omega, h⟩))).mono ?_
                rintro e w2 ⟨rfl, hw⟩
                obtain rfl := hw.symm
                clear hw
                have HMY := Lib.hid (refMay_any qi N ci X wr HQ1.out hLk)
                go_wp2_with fail
                go_loopw [20, 21, 22] (fun a f x wr2 => a = .int .i64 0 ∧ f = .bool false ∧ x = .int .i64 ((cl.length : Int) - 1) ∧ wr = wr2) (fun _ _ _ _ => 0)
                case atStart => exact ⟨rfl, rfl, by first | rfl | rw [HZW.out], rfl⟩
                case round =>
                  obtain ⟨rfl, rfl, rfl, rfl⟩ := hrel
                  go_wp2_with fail
                  refine HMY.out.mono ?_
                  rintro e w5 ⟨⟨rfl, hno⟩ | ⟨rfl, _⟩, hw⟩ <;> obtain rfl := hw.symm <;> clear hw
                  case inl => exact absurd hno hM
                  go_wp2_with fail
                  refine ⟨⟨j + 1, HKK.out.1, by first | rfl | rw [HKK.out.2.2], HV⟩, ?_⟩
                  first | rw [HKK.out.2.2] | skip
                  simp only [intOf, Int.toNat_natCast]
                  exact HKK.out.2.1
              obtain ⟨l, hl, hz2⟩ := lits_of X N hM.2
              have HFL := Lib.hid (show (formL l).length ≤ 5000 from by have := formL_short l; have := HN30.out; omega)
              have HSK := Lib.hid (fun (t : Nat) (ht : t < cl.length) => (show keyI cl[t] = keyI (formL l) ↔ bothB (cl[t]).length (fnL cl[t]) N X = true from by
                obtain ⟨l', e1, e2⟩ := HV.out.forms _ (List.getElem_mem ht)
                rw [e1] at e2 ⊢
                exact same_key hl hz2 HFL.out (Nat.le_trans e2 (by decide))))
              have HFN := Lib.hid (find38 HV.out.sto qi N ci X l HQ1.out hM hl hz2 hz)
              obtain ⟨key, hkey⟩ : ∃ key, key = keyI (formL l) := ⟨_, rfl⟩
              obtain ⟨av, hav⟩ : ∃ av, av = at0 cl (formL l) := ⟨_, rfl⟩
              obtain ⟨iv, hiv⟩ : ∃ iv, iv = is0 cl (formL l) := ⟨_, rfl⟩
              have HAV := Lib.hid (show av = (idxOf cl key 0).getD 0 ∧ iv = (idxOf cl key 0).isSome from ⟨by rw [hav, hkey]; rfl, by rw [hiv, hkey]; rfl⟩)
              rw [← hav, ← hiv] at HFN
              rw [← hkey] at HSK
              clear hkey hav hiv hl hz2 HFL hz
              have HZW := Lib.hid (show wrap64 ((cl.length : Int) - 1) = (cl.length : Int) - 1 from by rw [wrap64_eq]; have := HC150.out; omega)
              go_wp2_with fail
              refine HFN.out.mono ?_
              rintro e w2 ⟨rfl, hb⟩
              have HV2 := Lib.hid (HV.out.later hb)
              clear hb HFN HV HQ1 c1
              go_wp2_with fail
              go_loopw [20, 21, 22] (fun a f x wr2 => ∃ t : Nat, t ≤ cl.length ∧ a = .int .i64 (((idxOf (cl.drop t) key t).getD 0 : Nat) : Int) ∧ f = .bool (idxOf (cl.drop t) key t).isSome ∧ x = .int .i64 ((t : Int) - 1) ∧ Hid (LawSt W wr2 K O cl cl (.slice p6 cl.length z6) T)) (fun _ _ x _ => (intOf x + 1).toNat)
              case atStart => exact ⟨cl.length, Nat.le_refl _, by rw [List.drop_length]; rfl, by rw [List.drop_length]; rfl, by first | rfl | rw [HZW.out], HV2⟩
              case round =>
                obtain ⟨t, ht, rfl, rfl, rfl, HY⟩ := hrel
                clear HV2
                by_cases ht0 : t = 0
                case pos =>
                  subst ht0
                  have HEQ : idxOf (cl.drop 0) key 0 = idxOf cl key 0 := by rw [List.drop_zero]
                  rw [HEQ, ← HAV.out.1, ← HAV.out.2]
                  clear HEQ ht
                  go_wp2_with fail
                  refine ⟨⟨j + 1, HKK.out.1, by first | rfl | rw [HKK.out.2.2], HY⟩, ?_⟩
                  first | rw [HKK.out.2.2] | skip
                  simp only [intOf, Int.toNat_natCast]
                  exact HKK.out.2.1
                have ht1 : t - 1 < cl.length := by omega
                obtain ⟨u, rfl⟩ : ∃ u, t = u + 1 := ⟨t - 1, by omega⟩
                have hu1 : u < cl.length := by simpa using ht1
                have e0 : (((u + 1 : Nat) : Int) - 1) = (u : Int) := by omega
                rw [e0]
                have hu0 : (0 : Int) ≤ (u : Int) := Int.natCast_nonneg u
                have hu2 : (u : Int) < (cl.length : Int) := Int.ofNat_lt.2 hu1
                have HST := Lib.hid (idx_step cl key u hu1)
                have HSU := Lib.hid (HSK.out u hu1)
                have HUW := Lib.hid (show wrap64 ((u : Int) - 1) = (u : Int) - 1 from by rw [wrap64_eq]; have := HC150.out; omega)
                have HMY := Lib.hid (refMay_any qi N ci X wr (HQ.out.later HY.out.b) hLk)
                obtain ⟨oi, hoi⟩ : ∃ oi, oi = idxOf (cl.drop (u + 1)) key (u + 1) := ⟨_, rfl⟩
                rw [← hoi] at HST ⊢
                clear hoi e0 ht1 ht ht0
                obtain ⟨xs, r1, r2, r3⟩ := HY.out.all
                obtain ⟨q9, z9, e9, hq9, _, _⟩ := r3 u hu1
                obtain ⟨g6, c6, e6⟩ := own_some r1 (Nat.lt_of_le_of_lt (Nat.zero_le _) hu1)
                injection e6 with e6 _ e7
                subst e6
                subst e7
                have kc := (own_cell r1 u _ e9).1
                have hN9 : (cl[u]).length ≤ 30 := by obtain ⟨_, _, h⟩ := HY.out.forms _ (List.getElem_mem hu1); exact h
                have HN9 := Lib.hid hN9
                have HQ9 := Lib.hid hq9
                have HQY := Lib.hid (HQ.out.later HY.out.b)
                have c1 := cell_later HY.out.b HC1.out
                obtain ⟨cu, hcu⟩ : ∃ cu, cu = cl[u] := ⟨_, rfl⟩
                rw [← hcu] at kc HN9 HQ9 HST HSU
                clear r1 r2 r3 e9 hq9 hN9 hcu
                go_wp2_with fail
                refine HMY.out.mono ?_
                rintro e w5 ⟨⟨rfl, _⟩ | ⟨rfl, hno⟩, hw⟩ <;> obtain rfl := hw.symm <;> clear hw
                case inr => exact absurd hM hno
                obtain ⟨b1, hb1⟩ : ∃ b1, b1 = (List.range cu.length).all fun i => hasB N X (fnL cu i) := ⟨_, rfl⟩
                obtain ⟨b2, hb2⟩ : ∃ b2, b2 = (List.range N).all fun i => hasB cu.length (fnL cu) (X i) := ⟨_, rfl⟩
                have HBB := Lib.hid (show bothB cu.length (fnL cu) N X = (b1 && b2) from by rw [hb1, hb2]; rfl)
                have HW1 := Lib.hid (fun (nd : Nat) => (show Calls Try.prog 28 #[.slice q9 cu.length z9, .slice qi N ci] (wr.drewN nd) (fun e w' => e = .returned (.bool b1) ∧ w' = wr.drewN nd) from by rw [hb1]; exact refWithin_any q9 cu.length z9 (fnL cu) qi N ci X _ (HQ9.out.later (below_drewZ wr nd)) (Nat.le_trans HN9.out (by decide)) (HQY.out.later (below_drewZ wr nd)) hLk))
                have HW2 := Lib.hid (fun (nd : Nat) => (show Calls Try.prog 28 #[.slice qi N ci, .slice q9 cu.length z9] (wr.drewN nd) (fun e w' => e = .returned (.bool b2) ∧ w' = wr.drewN nd) from by rw [hb2]; exact refWithin_any qi N ci X q9 cu.length z9 (fnL cu) _ (HQY.out.later (below_drewZ wr nd)) hLk (HQ9.out.later (below_drewZ wr nd)) (Nat.le_trans HN9.out (by decide))))
                clear hb1 hb2
                go_wp2_with fail
                cases b1 with
                | false =>
                  go_quiet (first | (go_at_call_of 28 (Value.slice q9 cu.length z9); exact Calls.quiet_of_same (HW1.out _)) | (go_at_call_of 28 (Value.slice qi N ci); exact Calls.quiet_of_same (HW2.out _)))
                  have HI := Lib.hid (show idxOf (cl.drop u) key u = oi from by rw [HST.out]; exact if_neg (fun h => by have h2 := HSU.out.1 h; rw [HBB.out] at h2; cases h2))
                  have HYN := Lib.hid (HY.out.later (below_drewZ wr nq))
                  clear kc c1
                  go_wp2_with fail
                  refine ⟨⟨u, Nat.le_of_lt hu1, by rw [HI.out], by rw [HI.out], by first | rfl | rw [HUW.out], HYN⟩, ?_⟩
                  first | rw [HUW.out] | skip
                  simp only [intOf]
                  omega
                | true =>
                cases b2 with
                | false =>
                  refine wp_region_quiet_lit (by kernel_rfl) (by kernel_rfl) ?_
                  iterate 9 (go_big_quiet_step ((go_at_call_of 28 (Value.slice q9 cu.length z9); exact Calls.quiet_of_same (HW1.out _))))
                  repeat (go_big_quiet_step ((go_at_call_of 28 (Value.slice qi N ci); exact Calls.quiet_of_same (HW2.out _))))
                  refine wpQuiet_nil ?_
                  intro _ hw'
                  obtain ⟨nq, hw2⟩ := hw'
                  subst hw2
                  have HI := Lib.hid (show idxOf (cl.drop u) key u = oi from by rw [HST.out]; exact if_neg (fun h => by have h2 := HSU.out.1 h; rw [HBB.out] at h2; cases h2))
                  have HYN := Lib.hid (HY.out.later (below_drewZ wr nq))
                  clear kc c1
                  go_wp2_with fail
                  refine ⟨⟨u, Nat.le_of_lt hu1, by rw [HI.out], by rw [HI.out], by first | rfl | rw [HUW.out], HYN⟩, ?_⟩
                  first | rw [HUW.out] | skip
                  simp only [intOf]
                  omega
                | true =>
                  refine wp_region_quiet_lit (by kernel_rfl) (by kernel_rfl) ?_
                  iterate 9 (go_big_quiet_step ((go_at_call_of 28 (Value.slice q9 cu.length z9); exact Calls.quiet_of_same (HW1.out _))))
                  repeat (go_big_quiet_step ((go_at_call_of 28 (Value.slice qi N ci); exact Calls.quiet_of_same (HW2.out _))))
                  refine wpQuiet_nil ?_
                  intro _ hw'
                  obtain ⟨nq, hw2⟩ := hw'
                  subst hw2
                  have HI := Lib.hid (show idxOf (cl.drop u) key u = some u from by rw [HST.out]; exact if_pos (HSU.out.2 (by rw [HBB.out]; rfl)))
                  have HYN := Lib.hid (HY.out.later (below_drewZ wr nq))
                  clear kc c1
                  go_wp2_with fail
                  refine ⟨⟨u, Nat.le_of_lt hu1, by rw [HI.out]; rfl, by rw [HI.out]; rfl, by first | rfl | rw [HUW.out], HYN⟩, ?_⟩
                  first | rw [HUW.out] | skip
                  simp only [intOf]
                  omega
            · obtain rfl : j = m := Nat.le_antisymm hj (Nat.le_of_not_lt hlt)
              have H1 := Lib.hid (clause37_no HV.out.sto (-1) (.inl (by decide)))
              have H2 := Lib.hid (clause37_no HV.out.sto (cl.length : Int) (.inr (Int.le_refl _)))
              have H3 := Lib.hid (known14_any wr)
              clear hlt hj
              go_wp2_with fail
              refine H1.out.mono ?_
              rintro e w2 ⟨rfl, hw⟩
              obtain rfl := hw.symm
              clear hw
              go_wp2_with fail
              refine H2.out.mono ?_
              rintro e w2 ⟨rfl, hw⟩
              obtain rfl := hw.symm
              clear hw
              go_wp2_with fail
              refine H3.out.mono ?_
              rintro e w2 ⟨rfl, hb⟩
              go_wp2_with fail
              exact bodyPost_ret (v := .bool true) (by simp [results, Try.results5, go_sem]) rfl ⟨rfl, HV.out.b.trans (hb.mono HV.out.b.size)⟩

end Go.Proofs.Ytiadnifbjdnflaa
