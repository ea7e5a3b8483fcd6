/- HeapTrails: the law's walk. -/
import Derived.Test.YtpnchmelaonfiaaR3
namespace Go.Proofs.Ytpnchmelaonfiaa
open Go Go.RowKit

/-- calls in cells, one behind the other. -/
def StepsAt (W : World) (b off n : Nat) (K N : Nat → Int) (X : Nat → ByteArray) : Prop := ∀ i, i < n → W.cell? ⟨b, off + i * 3, none⟩ = some (.int .i64 (K i)) ∧ W.cell? ⟨b, off + i * 3 + 1, none⟩ = some (.int .i64 (N i)) ∧ W.cell? ⟨b, off + i * 3 + 2, none⟩ = some (.string (X i))
def StepsIn (W : World) (p : Option Addr) (n : Nat) (K N : Nat → Int) (X : Nat → ByteArray) : Prop := 0 < n → ∃ b off, p = some ⟨b, off, none⟩ ∧ StepsAt W b off n K N X
set_option maxRecDepth 100000 in
set_option maxHeartbeats 2000000 in
theorem trails_any (p : Option Addr) (m c : Nat) (K N : Nat → Int) (X : Nat → ByteArray) (W : World) (hp : StepsIn W p m K N X) (hm : m ≤ 9223372036854775807) :
    Calls Try.prog 4 #[.slice p m c] W fun e w' => e = .returned (.bool true) ∧ Below W.heap.size W w' := by
  have HP := Lib.hid hp
  have HK := Lib.hid (fun W => known_any W)
  clear hp
  have key : 500 < m ∨ m ≤ 500 := by omega
  rcases key with g1 | g1
  · have u1 : (500 : Int) < (m : Int) := by omega
    go_enter Try.func4, Try.ntmps4
    go_wp2_with fail
    refine (HK.out _).mono ?_
    rintro e w1 ⟨rfl, hb⟩
    go_wp2_with fail
    go_ret
    exact ⟨rfl, hb⟩
  have u1 : ¬ (500 : Int) < (m : Int) := by omega
  have HT := Lib.hid (both_new W)
  have HBA := Lib.hid (((Below.refl _ W).alloc (Nat.le_refl _) (.cells #[.slice none 0 0, .slice none 0 0] 48)).alloc (by simp) (.cells #[.slice none 0 0, .slice none 0 0, .int .i64 0] 51))
  go_enter Try.func4, Try.ntmps4
  go_wp2_with fail
  generalize (W.alloc (.cells #[.slice none 0 0, .slice none 0 0] 48)).alloc (.cells #[.slice none 0 0, .slice none 0 0, .int .i64 0] 51) = w1 at *
  go_loopw [24] (fun i wr => ∃ (j : Nat) (xs : List ByteArray) (ms ls : List Nat), j ≤ m ∧ i = .int .i64 j ∧ Below W.heap.size W wr ∧ Both W.heap.size wr W.heap.size (W.heap.size + 1) xs ms xs ls ms.length ∧ Rel xs.length ls ms ∧ xs.length ≤ j ∧ ms.length ≤ j) (fun i _ => m - (intOf i).toNat)
  case atStart => exact ⟨0, [], [], [], by omega, rfl, HBA.out, HT.out, rel_nil, by simp, by simp⟩
  case round =>
    obtain ⟨j, xs, ms, ls, hj, rfl, hb, hr, hrel2, hx, hms⟩ := hrel
    obtain ⟨wo, rfl⟩ : ∃ wo : World, wo = wr := ⟨_, rfl⟩
    have HB := Lib.hid hb
    have HR := Lib.hid hr
    have HRel := Lib.hid hrel2
    have HX := Lib.hid hx
    have HM := Lib.hid hms
    clear hb hr HT HBA hrel2 hx hms
    generalize W.heap.size + 1 = bb at *
    by_cases hlt : j < m
    · have j0 : (0 : Int) ≤ (j : Int) := by omega
      have j1 : (j : Int) < (m : Int) := by omega
      obtain ⟨b, off, rfl, hU⟩ := HP.out (by omega)
      obtain ⟨x0, x1, x2⟩ := hU j hlt
      replace x0 := cell_later HB.out x0
      replace x1 := cell_later HB.out x1
      replace x2 := cell_later HB.out x2
      clear hU
      by_cases k1 : K j = 1
      · rw [k1] at x0
        go_wp2_with fail
        have hA := below1 wo (.cells #[.int .i64 1, .int .i64 (N j), .string (X j)] 53)
        refine (both_push1_z HR.out hA (X j) (by have := HX.out; omega)).mono ?_
        rintro e w3 ⟨rfl, hb3, hbl, hz⟩
        have y2 : w3.cell? ⟨wo.heap.size, 2, none⟩ = some (.string (X j)) := hz _ 2 _ (Nat.le_refl _) (by simp [go_sem])
        have HB3 := Lib.hid ((HB.out.trans (hA.mono HB.out.size)).trans hbl)
        have H2 := both_push2 hb3 (X j) (by have := HX.out; omega) (by have := HX.out; have := HRel.out.len; omega)
        clear hA hbl hz hb3
        go_wp2_with fail
        refine H2.mono ?_
        rintro e w4 ⟨rfl, hb4, hbl4⟩
        have HB4 := Lib.hid (HB3.out.trans hbl4)
        have HR4 := Lib.hid hb4
        clear H2 hb4 hbl4 HB3 y2 x0 x1 x2
        go_wp2_with fail
        have hd := HR4.out.later (Below.refl w4.heap.size w4).drew
        obtain ⟨p0, c0, a1, a8, a9, a2, a7⟩ := hd.cells
        clear a7 a8 a9
        have C1 := Lib.hid (show ∀ w', (w' = w4.drew ∧ w'.cell? ⟨bb, 0, none⟩ = some (.slice p0 (xs ++ [X j]).length c0) ∧ w'.cell? ⟨bb, 2, none⟩ = some (.int .i64 ((ms).length : Int))) → Calls Try.prog 34 #[.pointer (some ⟨W.heap.size, 0, none⟩)] w' fun e w'' => e = .returned (.int .i64 (xs ++ [X j]).length) ∧ w'' = w' from fun w' h => by rw [h.1]; exact mineS_len hd.mine)
        have C2 := Lib.hid (show ∀ w', (w' = w4.drew ∧ w'.cell? ⟨bb, 0, none⟩ = some (.slice p0 (xs ++ [X j]).length c0) ∧ w'.cell? ⟨bb, 2, none⟩ = some (.int .i64 ((ms).length : Int))) → Calls Try.prog 35 #[.pointer (some ⟨W.heap.size, 0, none⟩)] w' fun e w'' => e = .returned (.int .i64 (ms).length) ∧ w'' = w' from fun w' h => by rw [h.1]; exact mineS_level hd.mine)
        have HE := Lib.hid (show (∃ (j' : Nat) (xs' : List ByteArray) (ms' ls' : List Nat), j' ≤ m ∧ Value.int .i64 ((j : Int) + 1) = .int .i64 j' ∧ Below W.heap.size W w4.drew ∧ Both W.heap.size w4.drew W.heap.size bb xs' ms' xs' ls' ms'.length ∧ Rel xs'.length ls' ms' ∧ xs'.length ≤ j' ∧ ms'.length ≤ j') from ⟨j + 1, xs ++ [X j], ms, _, by omega, by simp, (HB4.out).trans ((Below.refl w4.heap.size w4).drew.mono HR4.out.hB), hd, by simpa using rel_push HRel.out, by have := HX.out; simp; omega, by have := HM.out; simp; omega⟩)
        have hs : (w4.drew = w4.drew ∧ w4.drew.cell? ⟨bb, 0, none⟩ = some (.slice p0 (xs ++ [X j]).length c0) ∧ w4.drew.cell? ⟨bb, 2, none⟩ = some (.int .i64 ((ms).length : Int))) := ⟨rfl, a1, a2⟩
        have HS := Lib.hid hs
        generalize (ms).length = nm at *
        generalize (xs ++ [X j]).length = nx at *
        clear hs a1 a2 hd
        go_region_held3 (fun w' => w' = w4.drew ∧ w'.cell? ⟨bb, 0, none⟩ = some (.slice p0 nx c0) ∧ w'.cell? ⟨bb, 2, none⟩ = some (.int .i64 (nm : Int))) (exact ⟨rfl, HS.out.2.1, HS.out.2.2⟩) (first | (go_at_call 34; refine (C1.out _ (by assumption)).mono ?_; rintro e w' ⟨rfl, rfl⟩) | (go_at_call 35; refine (C2.out _ (by assumption)).mono ?_; rintro e w' ⟨rfl, rfl⟩))
        go_wp2_with fail
        go_roundw
        case rel => exact HE.out
        case measure => simp [intOf]; omega
      by_cases k2 : K j = 2
      · rw [k2] at x0
        have hA := (below1 wo (.cells #[.int .i64 2, .int .i64 (N j), .string (X j)] 53)).drew
        have hbA := HR.out.later hA
        have H1 := both_mark1 hbA (by have := HM.out; omega) (by have := HX.out; omega)
        obtain ⟨p9, c9, a7, a8, a9, cv, fv⟩ := hbA.cells
        have HBA := Lib.hid (HB.out.trans (hA.mono HB.out.size))
        clear a7 a8 a9 hA hbA
        go_wp2_with fail
        go_region_held3 (fun w' => w'.cell? ⟨bb, 2, none⟩ = some (.int .i64 (ms.length : Int))) (first | exact cv | exact cvm) (first | (go_at_call 30; refine H1.mono ?_; rintro e w3 ⟨rfl, hb3, hbl3⟩; obtain ⟨p9, c9, a7, a8, a9, cvm, fvm⟩ := hb3.cells; have HR3 := Lib.hid hb3; have HBL3 := Lib.hid hbl3; clear a7 a8 a9 hb3 hbl3))
        have HB3 := Lib.hid (HBA.out.trans HBL3.out)
        have fw := fvm 2
        have hw1 : IntKind.i64.wrap ((ms.length : Int) + 1) = (ms.length : Int) + 1 := by rw [IntWalk.i64_in _ (by have := HM.out; omega)]
        obtain ⟨hl4, hbl4⟩ := both_level HR3.out (ms.length + 1)
        rw [show ((ms.length + 1 : Nat) : Int) = (ms.length : Int) + 1 by omega, show ms.length + 1 = (ms ++ [xs.length]).length by simp] at hl4
        rw [show ((ms.length + 1 : Nat) : Int) = (ms.length : Int) + 1 by omega] at hbl4
        have HR4 := Lib.hid hl4
        have HB4 := Lib.hid (HB3.out.trans hbl4)
        clear H1 hl4 hbl4 cv fv fvm x0 x1 x2
        go_wp2_with fail
        generalize w3.setCell ⟨bb, 2, none⟩ (.int .i64 ((ms.length : Int) + 1)) = w4 at *
        clear cvm fw hw1
        have hd := HR4.out.later (Below.refl w4.heap.size w4).drew
        obtain ⟨p0, c0, a1, a8, a9, a2, a7⟩ := hd.cells
        clear a7 a8 a9
        have C1 := Lib.hid (show ∀ w', (w' = w4.drew ∧ w'.cell? ⟨bb, 0, none⟩ = some (.slice p0 (xs).length c0) ∧ w'.cell? ⟨bb, 2, none⟩ = some (.int .i64 ((ms ++ [xs.length]).length : Int))) → Calls Try.prog 34 #[.pointer (some ⟨W.heap.size, 0, none⟩)] w' fun e w'' => e = .returned (.int .i64 (xs).length) ∧ w'' = w' from fun w' h => by rw [h.1]; exact mineS_len hd.mine)
        have C2 := Lib.hid (show ∀ w', (w' = w4.drew ∧ w'.cell? ⟨bb, 0, none⟩ = some (.slice p0 (xs).length c0) ∧ w'.cell? ⟨bb, 2, none⟩ = some (.int .i64 ((ms ++ [xs.length]).length : Int))) → Calls Try.prog 35 #[.pointer (some ⟨W.heap.size, 0, none⟩)] w' fun e w'' => e = .returned (.int .i64 (ms ++ [xs.length]).length) ∧ w'' = w' from fun w' h => by rw [h.1]; exact mineS_level hd.mine)
        have HE := Lib.hid (show (∃ (j' : Nat) (xs' : List ByteArray) (ms' ls' : List Nat), j' ≤ m ∧ Value.int .i64 ((j : Int) + 1) = .int .i64 j' ∧ Below W.heap.size W w4.drew ∧ Both W.heap.size w4.drew W.heap.size bb xs' ms' xs' ls' ms'.length ∧ Rel xs'.length ls' ms' ∧ xs'.length ≤ j' ∧ ms'.length ≤ j') from ⟨j + 1, xs, ms ++ [xs.length], _, by omega, by simp, (HB4.out).trans ((Below.refl w4.heap.size w4).drew.mono HR4.out.hB), hd, rel_mark HRel.out, by have := HX.out; simp; omega, by have := HM.out; simp; omega⟩)
        have hs : (w4.drew = w4.drew ∧ w4.drew.cell? ⟨bb, 0, none⟩ = some (.slice p0 (xs).length c0) ∧ w4.drew.cell? ⟨bb, 2, none⟩ = some (.int .i64 ((ms ++ [xs.length]).length : Int))) := ⟨rfl, a1, a2⟩
        have HS := Lib.hid hs
        generalize (ms ++ [xs.length]).length = nm at *
        generalize (xs).length = nx at *
        clear hs a1 a2 hd
        go_region_held3 (fun w' => w' = w4.drew ∧ w'.cell? ⟨bb, 0, none⟩ = some (.slice p0 nx c0) ∧ w'.cell? ⟨bb, 2, none⟩ = some (.int .i64 (nm : Int))) (exact ⟨rfl, HS.out.2.1, HS.out.2.2⟩) (first | (go_at_call 34; refine (C1.out _ (by assumption)).mono ?_; rintro e w' ⟨rfl, rfl⟩) | (go_at_call 35; refine (C2.out _ (by assumption)).mono ?_; rintro e w' ⟨rfl, rfl⟩))
        go_wp2_with fail
        go_roundw
        case rel => exact HE.out
        case measure => simp [intOf]; omega
      by_cases k3 : K j = 3
      · rw [k3] at x0
        have hA := (below1 wo (.cells #[.int .i64 3, .int .i64 (N j), .string (X j)] 53)).drew
        have hbA := HR.out.later hA
        have HBA := Lib.hid (HB.out.trans (hA.mono HB.out.size))
        have hin : (N j < 0 ∨ (ms.length : Int) ≤ N j) ∨ ∃ l : Nat, l < ms.length ∧ N j = (l : Int) := by
          by_cases h1 : N j < 0
          · exact .inl (.inl h1)
          · by_cases h2 : (ms.length : Int) ≤ N j
            · exact .inl (.inr h2)
            · exact .inr ⟨(N j).toNat, by omega, by omega⟩
        have cx : ((wo.alloc (.cells #[.int .i64 3, .int .i64 (N j), .string (X j)] 53)).drew).cell? ⟨wo.heap.size, 1, none⟩ = some (.int .i64 (N j)) := by simp [go_sem]
        rcases hin with ho | ⟨l, hl, hNl⟩
        · have H1 := mineS_out hbA.mine (N j) ho
          have H2 := both_out2 hbA (N j) ho
          have HRA := Lib.hid hbA
          clear hA hbA ho
          go_wp2_with fail
          go_region_held3 (fun w' => w'.cell? ⟨wo.heap.size, 1, none⟩ = some (.int .i64 (N j))) (first | exact cx) (first | (go_at_call 31; refine H1.mono ?_; rintro e w3 ⟨rfl, rfl⟩) | (go_at_call 32; refine H2.mono ?_; rintro e w3 ⟨rfl, rfl⟩))
          clear H1 H2 cx x0 x1 x2
          go_wp2_with fail
          generalize (wo.alloc (.cells #[.int .i64 3, .int .i64 (N j), .string (X j)] 53)).drew = w4 at *
          refine wp_loop_rounds 1 ?_
          rw [rounds_succ]
          go_wp2_with fail
          have hd := HRA.out.later (Below.refl w4.heap.size w4).drew
          obtain ⟨p0, c0, a1, a8, a9, a2, a7⟩ := hd.cells
          clear a7 a8 a9
          have C1 := Lib.hid (show ∀ w', (w' = w4.drew ∧ w'.cell? ⟨bb, 0, none⟩ = some (.slice p0 (xs).length c0) ∧ w'.cell? ⟨bb, 2, none⟩ = some (.int .i64 ((ms).length : Int))) → Calls Try.prog 34 #[.pointer (some ⟨W.heap.size, 0, none⟩)] w' fun e w'' => e = .returned (.int .i64 (xs).length) ∧ w'' = w' from fun w' h => by rw [h.1]; exact mineS_len hd.mine)
          have C2 := Lib.hid (show ∀ w', (w' = w4.drew ∧ w'.cell? ⟨bb, 0, none⟩ = some (.slice p0 (xs).length c0) ∧ w'.cell? ⟨bb, 2, none⟩ = some (.int .i64 ((ms).length : Int))) → Calls Try.prog 35 #[.pointer (some ⟨W.heap.size, 0, none⟩)] w' fun e w'' => e = .returned (.int .i64 (ms).length) ∧ w'' = w' from fun w' h => by rw [h.1]; exact mineS_level hd.mine)
          have HE := Lib.hid (show (∃ (j' : Nat) (xs' : List ByteArray) (ms' ls' : List Nat), j' ≤ m ∧ Value.int .i64 ((j : Int) + 1) = .int .i64 j' ∧ Below W.heap.size W w4.drew ∧ Both W.heap.size w4.drew W.heap.size bb xs' ms' xs' ls' ms'.length ∧ Rel xs'.length ls' ms' ∧ xs'.length ≤ j' ∧ ms'.length ≤ j') from ⟨j + 1, xs, ms, _, by omega, by simp, (HBA.out).trans ((Below.refl w4.heap.size w4).drew.mono HRA.out.hB), hd, HRel.out, by have := HX.out; simp; omega, by have := HM.out; simp; omega⟩)
          have hs : (w4.drew = w4.drew ∧ w4.drew.cell? ⟨bb, 0, none⟩ = some (.slice p0 (xs).length c0) ∧ w4.drew.cell? ⟨bb, 2, none⟩ = some (.int .i64 ((ms).length : Int))) := ⟨rfl, a1, a2⟩
          have HS := Lib.hid hs
          generalize (ms).length = nm at *
          generalize (xs).length = nx at *
          clear hs a1 a2 hd
          go_region_held3 (fun w' => w' = w4.drew ∧ w'.cell? ⟨bb, 0, none⟩ = some (.slice p0 nx c0) ∧ w'.cell? ⟨bb, 2, none⟩ = some (.int .i64 (nm : Int))) (exact ⟨rfl, HS.out.2.1, HS.out.2.2⟩) (first | (go_at_call 34; refine (C1.out _ (by assumption)).mono ?_; rintro e w' ⟨rfl, rfl⟩) | (go_at_call 35; refine (C2.out _ (by assumption)).mono ?_; rintro e w' ⟨rfl, rfl⟩))
          go_wp2_with fail
          go_roundw
          case rel => exact HE.out
          case measure => simp [intOf]; omega
        · obtain ⟨k, hk⟩ : ∃ k, ms[l]? = some k := ⟨_, List.getElem?_eq_getElem hl⟩
          have hkx := HRel.out.le l k hk
          rw [hNl] at cx x1
          rw [hNl] at hA hbA HBA
          have H1 := both_back1_z HR.out hA l k hl hk hkx (by have := HX.out; omega) (by have := HM.out; omega)
          have HHK := Lib.hid (And.intro hk (And.intro hkx hl))
          have hbn : bb < wo.heap.size := World.block_lt_of_cell? wo _ (HR.out.cells.choose_spec.choose_spec.1)
          have hbn2 : wo.heap.size ≤ ((wo.alloc (.cells #[.int .i64 3, .int .i64 (l : Int), .string (X j)] 53)).drew).heap.size := hA.size
          have NB := Lib.hid (show ¬ wo.heap.size = bb by omega)
          have HBN := Lib.hid (And.intro hbn hbn2)
          clear hA hbA hk hkx hl hbn hbn2
          go_wp2_with fail
          go_region_held3 (fun w' => w'.cell? ⟨wo.heap.size, 1, none⟩ = some (.int .i64 (l : Int))) (first | exact cx | exact cx3 | exact cx4) (first | (go_at_call 31; refine H1.mono ?_; rintro e w3 ⟨u1, rfl, ho1, hb3, hbl3, hz3⟩; have cx3 := hz3 _ 1 _ (Nat.le_refl _) cx; have H2 := both_back2 hb3 HRel.out.len l k HHK.out.2.2 HHK.out.2.1 (HRel.out.cut l k HHK.out.1) (by have := HX.out; omega); obtain ⟨pu1, cu1, hv, hxx⟩ := own_shape ho1; clear hxx; subst hv; have HO1 := Lib.hid ho1; have HBL3 := Lib.hid hbl3; clear ho1 hb3 hbl3 hz3) | (go_at_call 32; refine H2.mono ?_; rintro e w4 ⟨u2, rfl, ho2, hb4, hO4⟩; have cx4 := hO4.cell cx3 NB.out; obtain ⟨pu2, cu2, hv, hxx⟩ := own_shape ho2; clear hxx; subst hv; have HO2 := Lib.hid ho2; have HB4 := Lib.hid hb4; have HOO := Lib.hid hO4; clear ho2 hb4 hO4))
          clear H1 H2 cx cx3 cx4 x0 x1 x2
          have HV1 := Lib.hid (own_only HO1.out HOO.out (fun q hq e => by have h1 := (own_lt HO1.out hq).1; have h2 := HBN.out; omega))
          have HB3 := Lib.hid (HBA.out.trans HBL3.out)
          have HB5 := Lib.hid (HB3.out.trans (HOO.out.below (fun q hq => by rw [hq]; exact HR.out.lb.1) HB3.out.size))
          have HR4 := Lib.hid (show Both W.heap.size w4 W.heap.size bb (xs.take k) (ms.take l) (xs.take k) (ls.take k) (ms.take l).length by rw [List.length_take, Nat.min_eq_left (by have := HHK.out.2.2; omega)]; exact HB4.out)
          have HVL := Lib.hid (show (xs.drop k).reverse.length = xs.length - k by simp)
          have HNB := Lib.hid (show xs.length - k ≤ 1000000 by have := HX.out; omega)
          clear HO1 HBL3 HOO HB4 HB3
          generalize xs.length - k = nn at *
          have nnb := HNB.out
          generalize (xs.drop k).reverse = vs at *
          go_wp2_with fail
          go_loopw [118] (fun i wr => ∃ n : Nat, n ≤ nn ∧ i = .int .i64 n ∧ Below w4.heap.size w4 wr) (fun i _ => nn - (intOf i).toNat)
          case atStart => exact ⟨0, by omega, rfl, Below.refl _ _⟩
          case round =>
            obtain ⟨n, hn, rfl, hb⟩ := hrel
            obtain ⟨wp, rfl⟩ : ∃ wp : World, wp = wr := ⟨_, rfl⟩
            have HBp := Lib.hid hb
            clear hb
            by_cases hlt : n < nn
            · have n0 : (0 : Int) ≤ (n : Int) := by omega
              have n1 : (n : Int) < (nn : Int) := by omega
              obtain ⟨g1, rfl, hg1⟩ := own_form HV1.out (by omega)
              obtain ⟨g2, rfl, hg2⟩ := own_form HO2.out (by omega)
              obtain ⟨y, hy⟩ : ∃ y, vs[n]? = some y := ⟨_, List.getElem?_eq_getElem (by have := HVL.out; omega)⟩
              have y1 := cell_later HBp.out.drew (own_cell HV1.out n (.string y) (by rw [List.getElem?_map, hy]; rfl)).1
              have y2 := cell_later HBp.out.drew (own_cell HO2.out n (.string y) (by rw [List.getElem?_map, hy]; rfl)).1
              clear hg1 hg2 hy
              go_wp2_with fail
              go_region_held3 (fun w' => w'.cell? ⟨g1, n, none⟩ = some (.string y) ∧ w'.cell? ⟨g2, n, none⟩ = some (.string y)) (exact ⟨y1, y2⟩) (first | fail)
              go_wp2_with fail
              go_roundw
              case rel => exact ⟨n + 1, by omega, by go_num, HBp.out.drew⟩
              case measure => simp [intOf]; have := HNB.out; omega
            · obtain rfl : n = nn := by omega
              have HR5 := Lib.hid (HR4.out.later HBp.out)
              have HB6 := Lib.hid (chain2 HB5.out HBp.out HB5.out.size)
              clear hlt hn HR4 HB5 HV1 HO2 HBp
              go_wp2_with fail
              have hd := HR5.out.later (Below.refl wp.heap.size wp).drew
              obtain ⟨p0, c0, a1, a8, a9, a2, a7⟩ := hd.cells
              clear a7 a8 a9
              have C1 := Lib.hid (show ∀ w', (w' = wp.drew ∧ w'.cell? ⟨bb, 0, none⟩ = some (.slice p0 (xs.take k).length c0) ∧ w'.cell? ⟨bb, 2, none⟩ = some (.int .i64 ((ms.take l).length : Int))) → Calls Try.prog 34 #[.pointer (some ⟨W.heap.size, 0, none⟩)] w' fun e w'' => e = .returned (.int .i64 (xs.take k).length) ∧ w'' = w' from fun w' h => by rw [h.1]; exact mineS_len hd.mine)
              have C2 := Lib.hid (show ∀ w', (w' = wp.drew ∧ w'.cell? ⟨bb, 0, none⟩ = some (.slice p0 (xs.take k).length c0) ∧ w'.cell? ⟨bb, 2, none⟩ = some (.int .i64 ((ms.take l).length : Int))) → Calls Try.prog 35 #[.pointer (some ⟨W.heap.size, 0, none⟩)] w' fun e w'' => e = .returned (.int .i64 (ms.take l).length) ∧ w'' = w' from fun w' h => by rw [h.1]; exact mineS_level hd.mine)
              have HE := Lib.hid (show (∃ (j' : Nat) (xs' : List ByteArray) (ms' ls' : List Nat), j' ≤ m ∧ Value.int .i64 ((j : Int) + 1) = .int .i64 j' ∧ Below W.heap.size W wp.drew ∧ Both W.heap.size wp.drew W.heap.size bb xs' ms' xs' ls' ms'.length ∧ Rel xs'.length ls' ms' ∧ xs'.length ≤ j' ∧ ms'.length ≤ j') from ⟨j + 1, xs.take k, ms.take l, _, by omega, by simp, (HB6.out).trans ((Below.refl wp.heap.size wp).drew.mono HR5.out.hB), hd, by have := rel_back HRel.out HHK.out.1; rw [List.length_take, Nat.min_eq_left HHK.out.2.1]; exact this, by have := HX.out; simp; omega, by have := HM.out; simp; omega⟩)
              have hs : (wp.drew = wp.drew ∧ wp.drew.cell? ⟨bb, 0, none⟩ = some (.slice p0 (xs.take k).length c0) ∧ wp.drew.cell? ⟨bb, 2, none⟩ = some (.int .i64 ((ms.take l).length : Int))) := ⟨rfl, a1, a2⟩
              have HS := Lib.hid hs
              generalize (ms.take l).length = nm at *
              generalize (xs.take k).length = nx at *
              clear hs a1 a2 hd
              go_region_held3 (fun w' => w' = wp.drew ∧ w'.cell? ⟨bb, 0, none⟩ = some (.slice p0 nx c0) ∧ w'.cell? ⟨bb, 2, none⟩ = some (.int .i64 (nm : Int))) (exact ⟨rfl, HS.out.2.1, HS.out.2.2⟩) (first | (go_at_call 34; refine (C1.out _ (by assumption)).mono ?_; rintro e w' ⟨rfl, rfl⟩) | (go_at_call 35; refine (C2.out _ (by assumption)).mono ?_; rintro e w' ⟨rfl, rfl⟩))
              go_wp2_with fail
              go_roundw
              case rel => exact HE.out
              case measure => simp [intOf]; omega
      have q1 : (K j == 1) = false := by rw [beq_eq_false_iff_ne]; exact k1
      have q2 : (K j == 2) = false := by rw [beq_eq_false_iff_ne]; exact k2
      have q3 : (K j == 3) = false := by rw [beq_eq_false_iff_ne]; exact k3
      have hA := below1 wo (.cells #[.int .i64 (K j), .int .i64 (N j), .string (X j)] 53)
      have hbA := HR.out.later hA
      have HR4 := Lib.hid (HR.out.later (hA.drew.drew))
      have HB4 := Lib.hid (HB.out.trans (hA.drew.drew.mono HB.out.size))
      have hin : N j < 0 ∨ (¬ N j < 0 ∧ (xs.length : Int) ≤ N j) ∨ ∃ l : Nat, l < xs.length ∧ N j = (l : Int) := by
        by_cases h1 : N j < 0
        · exact .inl h1
        · by_cases h2 : (xs.length : Int) ≤ N j
          · exact .inr (.inl ⟨h1, h2⟩)
          · exact .inr (.inr ⟨(N j).toNat, by omega, by omega⟩)
      have cx : (wo.alloc (.cells #[.int .i64 (K j), .int .i64 (N j), .string (X j)] 53)).cell? ⟨wo.heap.size, 1, none⟩ = some (.int .i64 (N j)) := by simp [go_sem]
      obtain ⟨p9, c9, d1, d8, d9, d7, d6⟩ := hbA.cells
      rcases hin with ho | ⟨ho, ho2⟩ | ⟨l, hl, hNl⟩
      · have H1 := mineS_none hbA.mine (N j) (.inl ho)
        have q4 : ¬ (0 : Int) ≤ N j := by omega
        have q5 := decide_eq_false q4
        clear hA hbA d6 d7 d8 d9 k1 k2 k3
        go_wp2_with fail
        refine H1.mono ?_
        rintro e w9 ⟨rfl, rfl⟩
        clear H1
        go_wp2_with fail
        go_region
        all_goals go_wp2_with fail
        all_goals go_region
        all_goals go_wp2_with fail
        all_goals generalize ((wo.alloc (.cells #[.int .i64 (K j), .int .i64 (N j), .string (X j)] 53)).drew).drew = w4 at *
        all_goals clear cx d1 x0 x1 x2 q1 q2 q3 q4 q5 ho
        all_goals (
          have hd := HR4.out.later (Below.refl w4.heap.size w4).drew
          obtain ⟨p0, c0, a1, a8, a9, a2, a7⟩ := hd.cells
          clear a7 a8 a9
          have C1 := Lib.hid (show ∀ w', (w' = w4.drew ∧ w'.cell? ⟨bb, 0, none⟩ = some (.slice p0 (xs).length c0) ∧ w'.cell? ⟨bb, 2, none⟩ = some (.int .i64 ((ms).length : Int))) → Calls Try.prog 34 #[.pointer (some ⟨W.heap.size, 0, none⟩)] w' fun e w'' => e = .returned (.int .i64 (xs).length) ∧ w'' = w' from fun w' h => by rw [h.1]; exact mineS_len hd.mine)
          have C2 := Lib.hid (show ∀ w', (w' = w4.drew ∧ w'.cell? ⟨bb, 0, none⟩ = some (.slice p0 (xs).length c0) ∧ w'.cell? ⟨bb, 2, none⟩ = some (.int .i64 ((ms).length : Int))) → Calls Try.prog 35 #[.pointer (some ⟨W.heap.size, 0, none⟩)] w' fun e w'' => e = .returned (.int .i64 (ms).length) ∧ w'' = w' from fun w' h => by rw [h.1]; exact mineS_level hd.mine)
          have HE := Lib.hid (show (∃ (j' : Nat) (xs' : List ByteArray) (ms' ls' : List Nat), j' ≤ m ∧ Value.int .i64 ((j : Int) + 1) = .int .i64 j' ∧ Below W.heap.size W w4.drew ∧ Both W.heap.size w4.drew W.heap.size bb xs' ms' xs' ls' ms'.length ∧ Rel xs'.length ls' ms' ∧ xs'.length ≤ j' ∧ ms'.length ≤ j') from ⟨j + 1, xs, ms, _, by omega, by simp, (HB4.out).trans ((Below.refl w4.heap.size w4).drew.mono HR4.out.hB), hd, HRel.out, by have := HX.out; simp; omega, by have := HM.out; simp; omega⟩)
          have hs : (w4.drew = w4.drew ∧ w4.drew.cell? ⟨bb, 0, none⟩ = some (.slice p0 (xs).length c0) ∧ w4.drew.cell? ⟨bb, 2, none⟩ = some (.int .i64 ((ms).length : Int))) := ⟨rfl, a1, a2⟩
          have HS := Lib.hid hs
          generalize (ms).length = nm at *
          generalize (xs).length = nx at *
          clear hs a1 a2 hd
          go_region_held3 (fun w' => w' = w4.drew ∧ w'.cell? ⟨bb, 0, none⟩ = some (.slice p0 nx c0) ∧ w'.cell? ⟨bb, 2, none⟩ = some (.int .i64 (nm : Int))) (exact ⟨rfl, HS.out.2.1, HS.out.2.2⟩) (first | (go_at_call 34; refine (C1.out _ (by assumption)).mono ?_; rintro e w' ⟨rfl, rfl⟩) | (go_at_call 35; refine (C2.out _ (by assumption)).mono ?_; rintro e w' ⟨rfl, rfl⟩))
          go_wp2_with fail
          go_roundw
          case rel => exact HE.out
          case measure => simp [intOf]; omega
          )
      · have H1 := mineS_none hbA.mine (N j) (.inr ho2)
        have ho3 : (0 : Int) ≤ N j := by omega
        have q4 : ¬ N j < (xs.length : Int) := by omega
        have q5 := decide_eq_false q4
        have q6 := decide_eq_true ho3
        clear hA hbA d6 d7 d8 d9 k1 k2 k3
        go_wp2_with fail
        refine H1.mono ?_
        rintro e w9 ⟨rfl, rfl⟩
        clear H1
        go_wp2_with fail
        go_region
        all_goals go_wp2_with fail
        all_goals go_region
        all_goals go_wp2_with fail
        all_goals generalize ((wo.alloc (.cells #[.int .i64 (K j), .int .i64 (N j), .string (X j)] 53)).drew).drew = w4 at *
        all_goals clear cx d1 x0 x1 x2 q1 q2 q3 q4 q5 q6 ho ho2 ho3
        all_goals (
          have hd := HR4.out.later (Below.refl w4.heap.size w4).drew
          obtain ⟨p0, c0, a1, a8, a9, a2, a7⟩ := hd.cells
          clear a7 a8 a9
          have C1 := Lib.hid (show ∀ w', (w' = w4.drew ∧ w'.cell? ⟨bb, 0, none⟩ = some (.slice p0 (xs).length c0) ∧ w'.cell? ⟨bb, 2, none⟩ = some (.int .i64 ((ms).length : Int))) → Calls Try.prog 34 #[.pointer (some ⟨W.heap.size, 0, none⟩)] w' fun e w'' => e = .returned (.int .i64 (xs).length) ∧ w'' = w' from fun w' h => by rw [h.1]; exact mineS_len hd.mine)
          have C2 := Lib.hid (show ∀ w', (w' = w4.drew ∧ w'.cell? ⟨bb, 0, none⟩ = some (.slice p0 (xs).length c0) ∧ w'.cell? ⟨bb, 2, none⟩ = some (.int .i64 ((ms).length : Int))) → Calls Try.prog 35 #[.pointer (some ⟨W.heap.size, 0, none⟩)] w' fun e w'' => e = .returned (.int .i64 (ms).length) ∧ w'' = w' from fun w' h => by rw [h.1]; exact mineS_level hd.mine)
          have HE := Lib.hid (show (∃ (j' : Nat) (xs' : List ByteArray) (ms' ls' : List Nat), j' ≤ m ∧ Value.int .i64 ((j : Int) + 1) = .int .i64 j' ∧ Below W.heap.size W w4.drew ∧ Both W.heap.size w4.drew W.heap.size bb xs' ms' xs' ls' ms'.length ∧ Rel xs'.length ls' ms' ∧ xs'.length ≤ j' ∧ ms'.length ≤ j') from ⟨j + 1, xs, ms, _, by omega, by simp, (HB4.out).trans ((Below.refl w4.heap.size w4).drew.mono HR4.out.hB), hd, HRel.out, by have := HX.out; simp; omega, by have := HM.out; simp; omega⟩)
          have hs : (w4.drew = w4.drew ∧ w4.drew.cell? ⟨bb, 0, none⟩ = some (.slice p0 (xs).length c0) ∧ w4.drew.cell? ⟨bb, 2, none⟩ = some (.int .i64 ((ms).length : Int))) := ⟨rfl, a1, a2⟩
          have HS := Lib.hid hs
          generalize (ms).length = nm at *
          generalize (xs).length = nx at *
          clear hs a1 a2 hd
          go_region_held3 (fun w' => w' = w4.drew ∧ w'.cell? ⟨bb, 0, none⟩ = some (.slice p0 nx c0) ∧ w'.cell? ⟨bb, 2, none⟩ = some (.int .i64 (nm : Int))) (exact ⟨rfl, HS.out.2.1, HS.out.2.2⟩) (first | (go_at_call 34; refine (C1.out _ (by assumption)).mono ?_; rintro e w' ⟨rfl, rfl⟩) | (go_at_call 35; refine (C2.out _ (by assumption)).mono ?_; rintro e w' ⟨rfl, rfl⟩))
          go_wp2_with fail
          go_roundw
          case rel => exact HE.out
          case measure => simp [intOf]; omega
          )
      · obtain ⟨y, hy⟩ : ∃ y, xs[l]? = some y := ⟨_, List.getElem?_eq_getElem hl⟩
        rw [hNl] at cx x1 d1 d9 hbA HR4 HB4
        have H1 := mineS_at hbA.mine l y hy
        obtain ⟨g9, rfl, d5⟩ := d9 l y hy
        have l0 : (0 : Int) ≤ (l : Int) := by omega
        have l1 : (l : Int) < (xs.length : Int) := by omega
        clear hA hbA d6 d7 d8 d9 k1 k2 k3 hy hl
        go_wp2_with fail
        refine H1.mono ?_
        rintro e w9 ⟨rfl, rfl⟩
        clear H1
        go_wp2_with fail
        go_region
        all_goals go_wp2_with fail
        all_goals go_region
        all_goals go_wp2_with fail
        all_goals generalize ((wo.alloc (.cells #[.int .i64 (K j), .int .i64 (l : Int), .string (X j)] 53)).drew).drew = w4 at *
        all_goals clear cx d1 d5 x0 x1 x2 q1 q2 q3 l0 l1
        all_goals (
          have hd := HR4.out.later (Below.refl w4.heap.size w4).drew
          obtain ⟨p0, c0, a1, a8, a9, a2, a7⟩ := hd.cells
          clear a7 a8 a9
          have C1 := Lib.hid (show ∀ w', (w' = w4.drew ∧ w'.cell? ⟨bb, 0, none⟩ = some (.slice p0 (xs).length c0) ∧ w'.cell? ⟨bb, 2, none⟩ = some (.int .i64 ((ms).length : Int))) → Calls Try.prog 34 #[.pointer (some ⟨W.heap.size, 0, none⟩)] w' fun e w'' => e = .returned (.int .i64 (xs).length) ∧ w'' = w' from fun w' h => by rw [h.1]; exact mineS_len hd.mine)
          have C2 := Lib.hid (show ∀ w', (w' = w4.drew ∧ w'.cell? ⟨bb, 0, none⟩ = some (.slice p0 (xs).length c0) ∧ w'.cell? ⟨bb, 2, none⟩ = some (.int .i64 ((ms).length : Int))) → Calls Try.prog 35 #[.pointer (some ⟨W.heap.size, 0, none⟩)] w' fun e w'' => e = .returned (.int .i64 (ms).length) ∧ w'' = w' from fun w' h => by rw [h.1]; exact mineS_level hd.mine)
          have HE := Lib.hid (show (∃ (j' : Nat) (xs' : List ByteArray) (ms' ls' : List Nat), j' ≤ m ∧ Value.int .i64 ((j : Int) + 1) = .int .i64 j' ∧ Below W.heap.size W w4.drew ∧ Both W.heap.size w4.drew W.heap.size bb xs' ms' xs' ls' ms'.length ∧ Rel xs'.length ls' ms' ∧ xs'.length ≤ j' ∧ ms'.length ≤ j') from ⟨j + 1, xs, ms, _, by omega, by simp, (HB4.out).trans ((Below.refl w4.heap.size w4).drew.mono HR4.out.hB), hd, HRel.out, by have := HX.out; simp; omega, by have := HM.out; simp; omega⟩)
          have hs : (w4.drew = w4.drew ∧ w4.drew.cell? ⟨bb, 0, none⟩ = some (.slice p0 (xs).length c0) ∧ w4.drew.cell? ⟨bb, 2, none⟩ = some (.int .i64 ((ms).length : Int))) := ⟨rfl, a1, a2⟩
          have HS := Lib.hid hs
          generalize (ms).length = nm at *
          generalize (xs).length = nx at *
          clear hs a1 a2 hd
          go_region_held3 (fun w' => w' = w4.drew ∧ w'.cell? ⟨bb, 0, none⟩ = some (.slice p0 nx c0) ∧ w'.cell? ⟨bb, 2, none⟩ = some (.int .i64 (nm : Int))) (exact ⟨rfl, HS.out.2.1, HS.out.2.2⟩) (first | (go_at_call 34; refine (C1.out _ (by assumption)).mono ?_; rintro e w' ⟨rfl, rfl⟩) | (go_at_call 35; refine (C2.out _ (by assumption)).mono ?_; rintro e w' ⟨rfl, rfl⟩))
          go_wp2_with fail
          go_roundw
          case rel => exact HE.out
          case measure => simp [intOf]; omega
          )
    · obtain rfl : j = m := by omega
      clear hlt hj
      obtain ⟨p9, c9, d1, d8, d9, d7, d6⟩ := HR.out.cells
      have HD9 := Lib.hid d9
      have xb : xs.length ≤ 500 := by have := HX.out; omega
      clear d6 d7 d8 d9
      go_wp2_with fail
      go_loopw [152] (fun i wr => ∃ n : Nat, n ≤ xs.length ∧ i = .int .i64 n ∧ wo = wr) (fun i _ => xs.length - (intOf i).toNat)
      case atStart => exact ⟨0, by omega, rfl, rfl⟩
      case round =>
        obtain ⟨n, hn, rfl, rfl⟩ := hrel
        by_cases hlt : n < xs.length
        · have n0 : (0 : Int) ≤ (n : Int) := by omega
          have n1 : (n : Int) < (xs.length : Int) := by omega
          obtain ⟨y, hy⟩ : ∃ y, xs[n]? = some y := ⟨_, List.getElem?_eq_getElem hlt⟩
          have H1 := mineS_at HR.out.mine n y hy
          obtain ⟨g9, rfl, d5⟩ := HD9.out n y hy
          clear hy
          go_wp2_with fail
          refine H1.mono ?_
          rintro e w9 ⟨rfl, rfl⟩
          clear H1
          go_wp2_with fail
          go_roundw
          case rel => exact ⟨n + 1, by omega, by go_num, trivial⟩
          case measure => simp [intOf]; omega
        · have e9 : n = xs.length := by omega
          subst e9
          clear hlt hn
          go_wp2_with fail
          refine (HK.out _).mono ?_
          rintro e w9 ⟨rfl, hbk⟩
          go_wp2_with fail
          go_ret
          exact ⟨rfl, chain2 HB.out hbk HB.out.size⟩
end Go.Proofs.Ytpnchmelaonfiaa
