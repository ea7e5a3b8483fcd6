/- Check at known's lists. -/
import Derived.Test.YtiadnifbjdnflaaKn3
namespace Go.Proofs.Ytiadnifbjdnflaa
open Go Go.RowKit

theorem info56 : ∃ i0, Try.prog.info? 56 = some i0 ∧ i0.zero = some (.agg #[.int .i64 0, .int .i64 0, .int .i64 0]) ∧ i0.size = 3 ∧ i0.bytes = 24 := by
  have h : (Try.prog.info? 56).map (fun i => (i.zero, i.size, i.bytes)) = some (some (.agg #[.int .i64 0, .int .i64 0, .int .i64 0]), 3, 24) := by kernel_rfl
  obtain ⟨i, hi, hb⟩ := Option.map_eq_some_iff.1 h
  simp only [Prod.mk.injEq] at hb
  exact ⟨i, hi, hb.1, hb.2.1, hb.2.2⟩
/-- the cells of an own row. -/
theorem own_cells {w : World} {base n : Nat} {e : TypeId} {size : Nat} {v : Value} {xs : List Value} (h : w.ownsRow base e size v n xs) (hv : v ≠ .slice none 0 0) :
    ∃ b c : Nat, v = .slice (some ⟨b, 0, none⟩) n c ∧ base ≤ b ∧ ∀ (j : Nat) (u : Value), xs[j]? = some u → w.cell? ⟨b, j, none⟩ = some u := by
  rcases h.2 with ⟨h1, h2⟩ | ⟨g, cap, cur, rfl, hg, hh, hc, hm, hcs, ht⟩
  · exact absurd h1 hv
  · refine ⟨g, cap, rfl, hg, fun j u hj => ?_⟩
    rw [← ht] at hj
    have hlt := (List.getElem?_eq_some_iff.1 hj).1
    rw [List.length_take] at hlt
    rw [List.getElem?_take_of_lt (by omega)] at hj
    have e : cur[j]? = some u := by simpa using hj
    simp [World.cell?, hh, e]
theorem own_later {w w' : World} {base n : Nat} {e : TypeId} {size : Nat} {v : Value} {xs : List Value} (h : w.ownsRow base e size v n xs) (hb : Below w.heap.size w w') : w'.ownsRow base e size v n xs := by
  rcases h with ⟨h0, ⟨h1, h2⟩ | ⟨g, cap, cur, rfl, hg, hh, hc⟩⟩
  · exact ⟨h0, .inl ⟨h1, h2⟩⟩
  · refine ⟨h0, .inr ⟨g, cap, cur, rfl, hg, ?_, hc⟩⟩
    rw [← hh]
    exact hb.block g (by
      rcases Nat.lt_or_ge g w.heap.size with h | h
      · exact h
      · rw [Array.getElem?_eq_none h] at hh; cases hh)

def kA (i : Nat) : Int := if i = 0 then 0 else 1
def kB (i : Nat) : Int := if i = 0 then 1 else 0
def kC (i : Nat) : Int := if i = 0 then 2 else -3

set_option maxRecDepth 100000 in
set_option maxHeartbeats 2000000 in
theorem check_12 (a b ca cb : Nat) (w : World) (hA : AtomsAt w a 0 2 (fun _ => 2) kA kB kC) (c0 : w.cell? ⟨b, 0, none⟩ = some (.int .i64 1)) (c1 : w.cell? ⟨b, 1, none⟩ = some (.int .i64 2)) :
    Calls Try.prog 45 #[.slice (some ⟨a, 0, none⟩) 2 ca, .slice (some ⟨b, 0, none⟩) 2 cb] w fun e w' => ∃ b' c' : Nat, e = .returned (.tuple #[.slice (some ⟨b', 0, none⟩) 2 c', .int .i64 0]) ∧ w'.cell? ⟨b', 0, none⟩ = some (.int .i64 1) ∧ w'.cell? ⟨b', 1, none⟩ = some (.int .i64 2) ∧ Below w.heap.size w w' := by
  obtain ⟨i0, hi, hz0, hz1, hz2⟩ := info56
  have HA := Lib.hid hA
  have C0 := Lib.hid c0
  have C1 := Lib.hid c1
  clear hA
  go_enter Try.func45, Try.ntmps45
  go_wp2_with fail
  refine wp_loop_rounds 3 ?_
  rw [rounds_succ]
  go_wp2_with fail
  refine (of_pos a 0 2 ca 0 (fun _ => 2) kA kB kC _ HA.out (by omega) (by omega) rfl).mono ?_
  rintro e w1 ⟨rfl, hb1⟩
  have c0 := cell_later hb1 c0
  have c1 := cell_later hb1 c1
  have HA := Lib.hid (HA.out.later hb1)
  have hs1 := hb1.size
  rw [show kA 0 = 0 from rfl, show kB 0 = 1 from rfl, show kC 0 = 2 from rfl]
  go_wp2_with (at_builtin; refine wpList_append_own _ rfl _ _ 60 rfl w.heap.size 56 i0 (.agg #[.int .i64 0, .int .i64 0, .int .i64 0]) 3 24 Try.underlying60 hi hz0 hz1 hz2 rfl (by omega) (.slice none 0 0) 0 [] rfl ?qc0 _ 1 1 [.int .i64 0, .int .i64 1, .int .i64 2] rfl rfl ?qc2 ?qc3 ?qc4 ?qc5 ?qc6 ?_)
  case qc0 => exact ⟨by simp, .inl ⟨rfl, rfl⟩⟩
  case qc2 =>
    intro j u hj
    rw [Lib.add_plain]
    match j, hj with
    | 0, hj => cases hj; simp [go_sem]
    | 1, hj => cases hj; simp [go_sem]
    | 2, hj => cases hj; simp [go_sem]
  case qc3 => intro u hu; simp at hu; rcases hu with rfl | rfl | rfl <;> rfl
  case qc4 => decide
  case qc5 => decide
  case qc6 => simp; omega
  intro v' w2 hown hgrow hnil
  have hb2 : Below w.heap.size w w2 := ((hb1.alloc (by omega) _).alloc (by simp; omega) _).grown hgrow (by simp; omega) (by intro k hk; simp [Value.ownBlock] at hk)
  have hb12 : Below w1.heap.size w1 w2 := (((Below.refl w1.heap.size w1).alloc (Nat.le_refl _) _).alloc (by simp) _).grown hgrow (by simp; omega) (by intro k hk; simp [Value.ownBlock] at hk)
  have c0 := cell_later hb12 c0
  have c1 := cell_later hb12 c1
  have HA := Lib.hid (HA.out.later hb12)
  have HOWN := Lib.hid hown
  have hv : v' ≠ .slice none 0 0 := by intro e; exact hnil e
  clear hb1 hb12 hown hgrow hnil hs1
  go_wp2_with fail
  rw [rounds_succ]
  go_wp2_with fail
  refine (of_pos a 0 2 ca 1 (fun _ => 2) kA kB kC _ HA.out (by omega) (by omega) rfl).mono ?_
  rintro e w3 ⟨rfl, hb3⟩
  have c0 := cell_later hb3 c0
  have c1 := cell_later hb3 c1
  have hown := own_later HOWN.out hb3
  have hb3' := chain hb2 hb3
  have hs3 := hb3'.size
  clear hb3 hb2 HOWN
  have hown4 := own_later (own_later hown (below1 w3 (.cells #[.int .i64 1, .int .i64 0, .int .i64 (-3)] 56))) (below1 _ (.cells #[.int .i64 1, .int .i64 0, .int .i64 (-3)] 56))
  have HOWN := Lib.hid hown4
  clear hown hown4
  rw [show kA 1 = 1 from rfl, show kB 1 = 0 from rfl, show kC 1 = -3 from rfl]
  go_wp2_with (at_builtin; refine wpList_append_own _ rfl _ _ 60 rfl w.heap.size 56 i0 (.agg #[.int .i64 0, .int .i64 0, .int .i64 0]) 3 24 Try.underlying60 hi hz0 hz1 hz2 rfl (by omega) v' 1 [.int .i64 0, .int .i64 1, .int .i64 2] rfl ?qc0 _ 1 1 [.int .i64 1, .int .i64 0, .int .i64 (-3)] rfl rfl ?qc2 ?qc3 ?qc4 ?qc5 ?qc6 ?_)
  case qc0 => exact HOWN.out
  case qc2 =>
    intro j u hj
    rw [Lib.add_plain]
    match j, hj with
    | 0, hj => cases hj; simp [go_sem]
    | 1, hj => cases hj; simp [go_sem]
    | 2, hj => cases hj; simp [go_sem]
  case qc3 => intro u hu; simp at hu; rcases hu with rfl | rfl | rfl <;> rfl
  case qc4 => decide
  case qc5 => decide
  case qc6 => simp; omega
  intro v2 w4 hown hgrow hnil
  have hlt := (HOWN.out).lt
  have hb4 : Below w.heap.size w w4 := ((hb3'.alloc (by omega) _).alloc (by simp; omega) _).grown hgrow (by simp; omega) (fun k hk => (hlt k hk).1)
  have hv2 : v2 ≠ .slice none 0 0 := by intro e; exact hnil e
  obtain ⟨g, cg, rfl, hg, hcells⟩ := own_cells hown hv2
  have hE : EdgesAt w4 g 0 2 kA kB kC := ⟨fun i hi => by
      match i, hi with
      | 0, _ => exact hcells 0 _ rfl
      | 1, _ => exact hcells 3 _ rfl, fun i hi => by
      match i, hi with
      | 0, _ => exact hcells 1 _ rfl
      | 1, _ => exact hcells 4 _ rfl, fun i hi => by
      match i, hi with
      | 0, _ => exact hcells 2 _ rfl
      | 1, _ => exact hcells 5 _ rfl⟩
  have d0 := cell_later hb4 C0.out
  have d1 := cell_later hb4 C1.out
  have HE := Lib.hid hE
  clear hown hgrow hnil hlt hcells hE HOWN HA c0 c1 hb3'
  go_wp2_with fail
  rw [rounds_succ]
  go_wp2_with fail
  refine (sum_any g 0 2 cg kA kB kC _ HE.out (by omega) (fun i hi => by unfold I64 kC; split <;> omega)).mono ?_
  rintro e w5 ⟨rfl, hb5⟩
  have hsv : sumV 2 kA kB kC = .tuple #[.int .i64 (-1), .int .i64 0] := by
    unfold sumV
    rw [if_neg (by omega), if_neg (by omega), if_pos (show Cyc 2 kA kB from fun i hi => by
      match i, hi with
      | 0, _ => rfl
      | 1, _ => rfl)]
    rfl
  rw [hsv]
  have d0 := cell_later hb5 d0
  have d1 := cell_later hb5 d1
  have hb6 := chain hb4 hb5
  clear hb5 hb4 HE
  go_wp2_with fail
  refine (normal_12 b cb _ d0 d1).mono ?_
  rintro e w6 ⟨b', c', rfl, g0, g1, hb7⟩
  go_wp2_with fail
  go_ret2
  exact ⟨b', c', rfl, g0, g1, chain hb6 hb7⟩

set_option maxRecDepth 100000 in
set_option maxHeartbeats 2000000 in
theorem check_1 (a b ca cb : Nat) (w : World) (hA : AtomsAt w a 0 2 (fun _ => 2) kA kB kC) (c0 : w.cell? ⟨b, 0, none⟩ = some (.int .i64 1)) :
    Calls Try.prog 45 #[.slice (some ⟨a, 0, none⟩) 2 ca, .slice (some ⟨b, 0, none⟩) 1 cb] w fun e w' => e = .returned (.tuple #[.slice none 0 0, .int .i64 5]) ∧ Below w.heap.size w w' := by
  obtain ⟨i0, hi, hz0, hz1, hz2⟩ := info56
  have HA := Lib.hid hA
  clear hA
  go_enter Try.func45, Try.ntmps45
  go_wp2_with fail
  refine wp_loop_rounds 2 ?_
  rw [rounds_succ]
  go_wp2_with fail
  refine (of_pos a 0 2 ca 0 (fun _ => 2) kA kB kC _ HA.out (by omega) (by omega) rfl).mono ?_
  rintro e w1 ⟨rfl, hb1⟩
  have hs1 := hb1.size
  rw [show kA 0 = 0 from rfl, show kB 0 = 1 from rfl, show kC 0 = 2 from rfl]
  go_wp2_with (at_builtin; refine wpList_append_own _ rfl _ _ 60 rfl w.heap.size 56 i0 (.agg #[.int .i64 0, .int .i64 0, .int .i64 0]) 3 24 Try.underlying60 hi hz0 hz1 hz2 rfl (by omega) (.slice none 0 0) 0 [] rfl ?qc0 _ 1 1 [.int .i64 0, .int .i64 1, .int .i64 2] rfl rfl ?qc2 ?qc3 ?qc4 ?qc5 ?qc6 ?_)
  case qc0 => exact ⟨by simp, .inl ⟨rfl, rfl⟩⟩
  case qc2 =>
    intro j u hj
    rw [Lib.add_plain]
    match j, hj with
    | 0, hj => cases hj; simp [go_sem]
    | 1, hj => cases hj; simp [go_sem]
    | 2, hj => cases hj; simp [go_sem]
  case qc3 => intro u hu; simp at hu; rcases hu with rfl | rfl | rfl <;> rfl
  case qc4 => decide
  case qc5 => decide
  case qc6 => simp; omega
  intro v' w2 hown hgrow hnil
  have hb2 : Below w.heap.size w w2 := ((hb1.alloc (by omega) _).alloc (by simp; omega) _).grown hgrow (by simp; omega) (by intro k hk; simp [Value.ownBlock] at hk)
  have hv : v' ≠ .slice none 0 0 := by intro e; exact hnil e
  obtain ⟨g, cg, rfl, hg, hcells⟩ := own_cells hown hv
  have hE : EdgesAt w2 g 0 1 kA kB kC := ⟨fun i hi => by
      obtain rfl : i = 0 := by omega
      exact hcells 0 _ rfl, fun i hi => by
      obtain rfl : i = 0 := by omega
      exact hcells 1 _ rfl, fun i hi => by
      obtain rfl : i = 0 := by omega
      exact hcells 2 _ rfl⟩
  have HE := Lib.hid hE
  clear hb1 hown hgrow hnil hs1 hcells hE HA
  go_wp2_with fail
  rw [rounds_succ]
  go_wp2_with fail
  refine (sum_any g 0 1 cg kA kB kC _ HE.out (by omega) (fun i hi => by unfold I64 kC; split <;> omega)).mono ?_
  rintro e w5 ⟨rfl, hb5⟩
  have hsv : sumV 1 kA kB kC = .tuple #[.int .i64 0, .int .i64 5] := by
    unfold sumV
    rw [if_neg (by omega), if_neg (by omega), if_neg (show ¬ Cyc 1 kA kB from fun h => by have := h 0 (by omega); revert this; decide)]
  rw [hsv]
  have hb6 := chain hb2 hb5
  clear hb5 hb2 HE
  go_wp2_with fail
  go_ret2
  exact ⟨rfl, hb6⟩

set_option maxRecDepth 100000 in
set_option maxHeartbeats 1000000 in
theorem alike_12 (a b ca cb : Nat) (w : World) (c0 : w.cell? ⟨a, 0, none⟩ = some (.int .i64 1)) (c1 : w.cell? ⟨a, 1, none⟩ = some (.int .i64 2)) (d0 : w.cell? ⟨b, 0, none⟩ = some (.int .i64 1)) (d1 : w.cell? ⟨b, 1, none⟩ = some (.int .i64 2)) :
    Calls Try.prog 23 #[.slice (some ⟨a, 0, none⟩) 2 ca, .slice (some ⟨b, 0, none⟩) 2 cb] w fun e w' => e = .returned (.bool true) ∧ Below w.heap.size w w' := by
  go_enter Try.func23, Try.ntmps23
  go_wp2_with fail
  refine wp_loop_rounds 3 ?_
  rw [rounds_succ]
  go_wp2
  (try go_quiet (fail))
  go_wp2
  rw [rounds_succ]
  go_wp2
  (try go_quiet (fail))
  go_wp2
  rw [rounds_succ]
  go_wp2
  go_ret
  refine ⟨rfl, ?_⟩
  first | exact Below.refl _ _ | exact below_drewN _ _ | exact chain (below_drewN _ _) (below_drewN _ _)
theorem atoms_k (w : World) : AtomsAt (w.alloc (.cells #[.int .u8 2, .int .i64 0, .int .i64 1, .int .i64 2, .int .u8 2, .int .i64 1, .int .i64 0, .int .i64 (-3)] 70)) w.heap.size 0 2 (fun _ => 2) kA kB kC := by
  constructor <;> intro i hi <;> (have hh : i = 0 ∨ i = 1 := by omega) <;> rcases hh with rfl | rfl
  all_goals simp [go_sem, kA, kB, kC]

set_option maxRecDepth 100000 in
set_option maxHeartbeats 4000000 in
theorem known_any (w : World) : Calls Try.prog 40 #[] w fun e w' => e = .returned (.bool true) ∧ Below w.heap.size w w' := by
  have HE := fun W => (by kernel_rfl : (binOp .eql 56 (.agg #[.int .i64 1, .int .i64 0, .int .i64 (-3)]) (.agg #[.int .i64 1, .int .i64 0, .int .i64 (-3)])).run Try.prog W = .ok (.bool true) W)
  have hA := (atoms_k w).later (below1 _ (.cells #[.int .i64 1, .int .i64 2] 30))
  have HA := Lib.hid hA
  have hB := below2 w (.cells #[.int .u8 2, .int .i64 0, .int .i64 1, .int .i64 2, .int .u8 2, .int .i64 1, .int .i64 0, .int .i64 (-3)] 70) (.cells #[.int .i64 1, .int .i64 2] 30)
  clear hA
  go_enter Try.func40, Try.ntmps40
  go_wp2_with fail
  refine (check_12 _ _ 2 2 _ HA.out (by simp [go_sem]) (by simp [go_sem])).mono ?_
  rintro e w1 ⟨b', c', rfl, g0, g1, hb1⟩
  have hA1 := (HA.out.later hb1).later (below1 w1 (.cells #[.int .i64 1] 30))
  have hB1 := chain (chain hB hb1) (below1 w1 (.cells #[.int .i64 1] 30))
  have g0 := cell_later (below1 w1 (.cells #[.int .i64 1] 30)) g0
  have g1 := cell_later (below1 w1 (.cells #[.int .i64 1] 30)) g1
  have HA1 := Lib.hid hA1
  have HB1 := Lib.hid hB1
  have G0 := Lib.hid g0
  have G1 := Lib.hid g1
  clear hA1 hB1 hB hb1 HA g0 g1
  go_wp2_with fail
  refine (check_1 _ _ 2 1 _ HA1.out (by simp [go_sem])).mono ?_
  rintro e w2 ⟨rfl, hb2⟩
  have HA2 := Lib.hid (HA1.out.later hb2)
  have HB2 := Lib.hid (chain HB1.out hb2)
  have K0 := Lib.hid (cell_later hb2 G0.out)
  have K1 := Lib.hid (cell_later hb2 G1.out)
  clear hb2 HA1 HB1 G0 G1
  go_wp2_with fail
  refine (of_neg _ 0 2 2 0 (fun _ => 2) kA kB kC _ HA2.out (by omega) (by omega) rfl (by decide) (by decide)).mono ?_
  rintro e w3 ⟨rfl, hb3⟩
  rw [show kA 0 = 0 from rfl, show kB 0 = 1 from rfl, show -kC 0 - 1 = -3 from rfl]
  have hB3 := chain (chain (chain HB2.out hb3) (below1 w3 (.cells #[.int .i64 1, .int .i64 0, .int .i64 (-3)] 56))) (below1 _ (.cells #[.int .i64 1, .int .i64 2] 30))
  have e0 := cell_later (below1 _ (.cells #[.int .i64 1, .int .i64 2] 30)) (cell_later (below1 w3 (.cells #[.int .i64 1, .int .i64 0, .int .i64 (-3)] 56)) (cell_later hb3 K0.out))
  have e1 := cell_later (below1 _ (.cells #[.int .i64 1, .int .i64 2] 30)) (cell_later (below1 w3 (.cells #[.int .i64 1, .int .i64 0, .int .i64 (-3)] 56)) (cell_later hb3 K1.out))
  have HB3 := Lib.hid hB3
  have E0 := Lib.hid e0
  have E1 := Lib.hid e1
  clear hb3 HA2 HB2 K0 K1 hB3 e0 e1
  have x0 : ((w3.alloc (.cells #[.int .i64 1, .int .i64 0, .int .i64 (-3)] 56)).alloc (.cells #[.int .i64 1, .int .i64 2] 30)).cell? ⟨w3.heap.size, 0, none⟩ = some (.int .i64 1) := by simp [go_sem]
  have x1 : ((w3.alloc (.cells #[.int .i64 1, .int .i64 0, .int .i64 (-3)] 56)).alloc (.cells #[.int .i64 1, .int .i64 2] 30)).cell? ⟨w3.heap.size, 1, none⟩ = some (.int .i64 0) := by simp [go_sem]
  have x2 : ((w3.alloc (.cells #[.int .i64 1, .int .i64 0, .int .i64 (-3)] 56)).alloc (.cells #[.int .i64 1, .int .i64 2] 30)).cell? ⟨w3.heap.size, 2, none⟩ = some (.int .i64 (-3)) := by simp [go_sem]
  have X0 := Lib.hid x0
  have X1 := Lib.hid x1
  have X2 := Lib.hid x2
  clear x0 x1 x2
  go_wp2_with fail
  refine (alike_12 _ _ c' 2 _ E0.out E1.out (by simp [go_sem]) (by simp [go_sem])).mono ?_
  rintro e w4 ⟨rfl, hb4⟩
  have x0 := cell_later hb4 X0.out
  have x1 := cell_later hb4 X1.out
  have x2 := cell_later hb4 X2.out
  have hB4 := chain HB3.out hb4
  clear hb4 HB3 X0 X1 X2 E0 E1
  go_wp2_with fail
  go_ret
  exact ⟨rfl, hB4⟩
end Go.Proofs.Ytiadnifbjdnflaa
