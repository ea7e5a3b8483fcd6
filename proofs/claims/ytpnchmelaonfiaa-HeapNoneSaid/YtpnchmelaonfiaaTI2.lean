/- A trail of ints: Clone, Reverse. -/
import Derived.Test.YtpnchmelaonfiaaTI1
import Derived.Lib.SliceRun
namespace Go.Proofs.Ytpnchmelaonfiaa
open Go Go.RowKit

theorem zeroI : ∀ w, (zeroValue 3).run Try.prog w = .ok (.int .i64 0) w := fun w => by kernel_rfl
set_option maxRecDepth 100000 in
set_option maxHeartbeats 800000 in
theorem cloneI_any (p : Option Addr) (k c : Nat) (zs : List Int) (w : World) (hl : zs.length = k) (hk : k ≤ 1000000) (hp : p = none → k = 0) (hc : ∀ ad, p = some ad → ∀ j u, (zs.map (Value.int .i64))[j]? = some u → w.cell? (ad.add j) = some u) :
    Calls Try.prog 51 #[.slice p k c] w fun e w' => ∃ v', e = .returned v' ∧ w'.ownsRow w.heap.size 3 1 v' k (zs.map (Value.int .i64)) ∧ Below w.heap.size w w' := by
  have q22 : ∀ (w : World) (a : Option Addr) (n c n' c' : Nat), (binOp .eql 46 (.slice a n c) (.slice none n' c')).run Try.prog w = .ok (.bool a.isNone) w := fun w a n c n' c' => Lib.run_eql_slice_nil w _ _ a n c n' c' Try.underlying46
  obtain ⟨i0, hi, hz0, hz1, hz2⟩ := info3
  cases p with
  | none =>
    have hk0 := hp rfl
    subst hk0
    have hz : zs = [] := List.length_eq_zero_iff.1 hl
    subst hz
    clear hc hp
    go_enter Try.func51, Try.ntmps51
    go_wp2
    go_ret
    exact ⟨_, rfl, ⟨by simp, .inl ⟨rfl, rfl⟩⟩, Below.refl _ _⟩
  | some ad =>
    have HC := Lib.hid (fun j u h => cell_later (below1 w (.cells #[] 3)) (hc ad rfl j u h))
    have HONE := Lib.hid (show ∀ u ∈ zs.map (Value.int .i64), u.oneCell' = true from fun u hu => by
      obtain ⟨x, _, rfl⟩ := List.mem_map.1 hu
      rfl)
    have HLEN := Lib.hid (show (zs.map (Value.int .i64)).length = k * 1 by rw [List.length_map, Nat.mul_one]; exact hl)
    clear hc hp
    go_enter Try.func51, Try.ntmps51
    go_wp2_with (at_builtin; refine wpList_append_own _ rfl _ _ 46 rfl w.heap.size 3 i0 (.int .i64 0) 1 8 Try.underlying46 hi hz0 hz1 hz2 rfl (by omega) _ _ _ rfl (World.ownsRow_made w #[] 0 (Nat.le_refl _) (Nat.zero_le _) (by simp)) ad k c (zs.map (Value.int .i64)) rfl HLEN.out HC.out HONE.out ?qc4 ?qc5 ?qc6 ?_)
    case qc4 => rw [Nat.zero_add]; unfold maxLen; omega
    case qc5 => rw [Nat.zero_add]; omega
    try (case qc6 => simp)
    intro v' w1 hown hgrow hnil
    go_wp2
    go_ret
    exact ⟨v', rfl, by simpa using hown, ((Below.refl _ w).alloc (Nat.le_refl _) _).grown hgrow (by simp) (by intro k hk; simp [Value.ownBlock] at hk; omega)⟩
/-- cells by number. -/
def rowI (n : Nat) (F : Nat → Int) : List Value := (List.range n).map fun t => .int .i64 (F t)
theorem rowI_len (n : Nat) (F : Nat → Int) : (rowI n F).length = n := by simp [rowI]
theorem rowI_get (n : Nat) (F : Nat → Int) (i : Nat) (hi : i < n) : (rowI n F)[i]? = some (.int .i64 (F i)) := by simp [rowI, hi]
theorem rowI_ext {n : Nat} {F G : Nat → Int} (h : ∀ i, i < n → F i = G i) : rowI n F = rowI n G := by
  unfold rowI
  refine List.map_congr_left (fun i hi => ?_)
  rw [h i (List.mem_range.1 hi)]
theorem rowI_set (n : Nat) (F : Nat → Int) (i : Nat) (v : Int) : (rowI n F).set i (.int .i64 v) = rowI n (up1 F i v) := by
  refine List.ext_getElem? (fun j => ?_)
  rw [List.getElem?_set, rowI_len]
  by_cases h : i = j
  · subst h
    by_cases hn : i < n
    · rw [if_pos rfl, if_pos hn, rowI_get n _ i hn, up1_same]
    · rw [if_pos rfl, if_neg hn]
      rw [List.getElem?_eq_none (by rw [rowI_len]; omega)]
  · rw [if_neg h]
    by_cases hn : j < n
    · rw [rowI_get n _ j hn, rowI_get n _ j hn, up1_ne F v (Ne.symm h)]
    · rw [List.getElem?_eq_none (by rw [rowI_len]; omega), List.getElem?_eq_none (by rw [rowI_len]; omega)]
theorem rowI_of (zs : List Int) : zs.map (Value.int .i64) = rowI zs.length (fun t => zs.getD t default) := by
  refine List.ext_getElem? (fun j => ?_)
  rw [List.getElem?_map]
  by_cases h : j < zs.length
  · rw [rowI_get _ _ j h, List.getElem?_eq_getElem h]
    simp [List.getD, List.getElem?_eq_getElem h]
  · rw [List.getElem?_eq_none (by omega), List.getElem?_eq_none (by rw [rowI_len]; omega)]
    rfl
/-- turned round from both ends. -/
def mirI (k : Nat) (F : Nat → Int) (t : Nat) : Nat → Int := fun x => if x < t ∨ k ≤ x + t then F (k - 1 - x) else F x
theorem mirI_step (k : Nat) (F : Nat → Int) (t x : Nat) (h : 2 * t + 1 < k) (hx : x < k) : up1 (up1 (mirI k F t) t (mirI k F t (k - 1 - t))) (k - 1 - t) (mirI k F t t) x = mirI k F (t + 1) x := by
  unfold up1 mirI
  by_cases h1 : x = k - 1 - t
  · subst h1
    rw [if_pos rfl, if_neg (by omega), if_pos (by omega)]
    congr 1
    omega
  · rw [if_neg h1]
    by_cases h2 : x = t
    · subst h2
      rw [if_pos rfl, if_neg (by omega), if_pos (by omega)]
    · rw [if_neg h2]
      by_cases h3 : x < t ∨ k ≤ x + t
      · rw [if_pos h3, if_pos (by omega)]
      · rw [if_neg h3, if_neg (by omega)]
theorem mirI_done (k : Nat) (F : Nat → Int) (t x : Nat) (h : k ≤ 2 * t + 1) (hx : x < k) : mirI k F t x = F (k - 1 - x) := by
  unfold mirI
  by_cases h3 : x < t ∨ k ≤ x + t
  · rw [if_pos h3]
  · rw [if_neg h3]
    congr 1
    omega
theorem revI_row (zs : List Int) : rowI zs.length (fun x => zs.getD (zs.length - 1 - x) default) = zs.reverse.map (Value.int .i64) := by
  refine List.ext_getElem? (fun j => ?_)
  rw [List.getElem?_map]
  by_cases h : j < zs.length
  · rw [rowI_get _ _ j h, List.getElem?_reverse h]
    have h2 : zs.length - 1 - j < zs.length := by omega
    simp [List.getD, List.getElem?_eq_getElem h2]
  · rw [List.getElem?_eq_none (by rw [rowI_len]; omega), List.getElem?_eq_none (by rw [List.length_reverse]; omega)]
    rfl
set_option maxRecDepth 100000 in
set_option maxHeartbeats 1600000 in
theorem revI_any {W : World} {base k : Nat} {v : Value} (zs : List Int) (hl : zs.length = k) (h : W.ownsRow base 3 1 v k (zs.map (Value.int .i64))) (hk : k ≤ 1000000) :
    Calls Try.prog 55 #[v] W fun e w' => e = .returned (.tuple #[]) ∧ w'.ownsRow base 3 1 v k (zs.reverse.map (Value.int .i64)) ∧ Only (fun j => v.ownBlock = some j) W w' := by
  obtain ⟨p, c, rfl, hx9⟩ := own_shape h
  clear hx9
  by_cases h0 : k = 0
  · subst h0
    have hz : zs = [] := List.length_eq_zero_iff.1 hl
    subst hz
    have H := Lib.hid h
    clear h
    go_enter Try.func55, Try.ntmps55
    go_wp2_with fail
    refine wp_loop_rounds 1 ?_
    rw [rounds_succ]
    go_wp2_with fail
    go_end0
    exact ⟨rfl, H.out, Only.refl _ _⟩
  obtain ⟨g, rfl⟩ : ∃ g, p = some ⟨g, 0, none⟩ := by
    rcases h.2 with ⟨_, e⟩ | ⟨g, _, _, e, _⟩
    · exact absurd e h0
    · cases e; exact ⟨g, rfl⟩
  obtain ⟨F, hF⟩ : ∃ F : Nat → Int, F = fun t => zs.getD t default := ⟨_, rfl⟩
  have hre : zs.reverse.map (Value.int .i64) = rowI k (fun x => F (k - 1 - x)) := by rw [← revI_row, hl, hF]
  rw [rowI_of, hl, ← hF] at h
  rw [hre]
  have H := Lib.hid h
  clear h hre hl hF
  go_enter Try.func55, Try.ntmps55
  go_wp2_with fail
  go_loopw [2, 3] (fun u v wr => ∃ t : Nat, u = .int .i64 t ∧ v = .int .i64 ((k : Int) - 1 - (t : Int)) ∧ 2 * t ≤ k ∧ wr.ownsRow base 3 1 (.slice (some ⟨g, 0, none⟩) k c) k (rowI k (mirI k F t)) ∧ Only (fun j => j = g) W wr) (fun u _ _ => k - (intOf u).toNat)
  case atStart => exact ⟨0, rfl, by simp, by omega, by rw [rowI_ext (G := F) (fun i hi => by unfold mirI; rw [if_neg (by omega)])]; exact H.out, Only.refl _ _⟩
  case round =>
    obtain ⟨t, rfl, rfl, ht, hown, ho⟩ := hrel
    have HW := Lib.hid hown
    have HO := Lib.hid ho
    by_cases hlt : 2 * t + 1 < k
    · have t0 : (0 : Int) ≤ (t : Int) := by omega
      have t1 : (t : Int) < (k : Int) - 1 - (t : Int) := by omega
      have t2 : (t : Int) < (k : Int) := by omega
      obtain ⟨j, hj⟩ : ∃ j, k - 1 - t = j := ⟨_, rfl⟩
      have ej : (k : Int) - 1 - (t : Int) = (j : Int) := by omega
      have j0 : (0 : Int) ≤ (j : Int) := by omega
      have j1 : (j : Int) < (k : Int) := by omega
      have HJ := Lib.hid hj
      have hjt : t < j := by omega
      rw [ej] at t1 ⊢
      obtain ⟨x1, f1⟩ := own_cell hown t _ (rowI_get k _ t (by omega))
      obtain ⟨x2, f2⟩ := own_cell hown j _ (rowI_get k _ j (by omega))
      have HSET := Lib.hid (own_set (own_set hown t (.int .i64 (mirI k F t j))) j (.int .i64 (mirI k F t t)))
      have hy2 : (wr.setCell ⟨g, t, none⟩ (.int .i64 (mirI k F t j))).cell? ⟨g, j, none⟩ = some (.int .i64 (mirI k F t j)) := by
        rw [World.cell?_setCell_other _ _ _ _ (by intro e; injection e; omega)]
        exact x2
      clear hown ho hj ej
      generalize hmj : mirI k F t j = mj at *
      generalize hmt : mirI k F t t = mt at *
      have HM := Lib.hid (And.intro hmj hmt)
      clear hmj hmt
      go_wp2_with fail
      go_region
      have HD := Lib.hid (own_later HSET.out ((Below.refl _ _).drew))
      have HOD := Lib.hid (HO.out.trans (((Only.of_setCell wr ⟨g, t, none⟩ (.int .i64 mj)).trans (Only.of_setCell _ ⟨g, j, none⟩ (.int .i64 mt))).trans (Only.of_below ((Below.refl _ _).drew))))
      have HROW := Lib.hid (show ((rowI k (mirI k F t)).set t (.int .i64 mj)).set j (.int .i64 mt) = rowI k (mirI k F (t + 1)) from by
        rw [rowI_set, rowI_set, ← HM.out.1, ← HM.out.2, ← HJ.out]
        exact rowI_ext (fun x hx => mirI_step k F t x hlt hx))
      generalize ((wr.setCell ⟨g, t, none⟩ (.int .i64 mj)).setCell ⟨g, j, none⟩ (.int .i64 mt)).drew = D at *
      clear x1 x2 hy2 f1 f2 HSET
      go_wp2_with fail
      go_roundw
      case rel => exact ⟨t + 1, by go_num, (by have := HJ.out; show Value.int .i64 ((j : Int) - 1) = Value.int .i64 ((k : Int) - 1 - ((t + 1 : Nat) : Int)); congr 1; omega), by omega, by rw [← HROW.out]; exact HD.out, HOD.out⟩
      case measure => simp [intOf]; omega
    · have t1 : ¬ (t : Int) < (k : Int) - 1 - (t : Int) := by omega
      obtain ⟨z, hz⟩ : ∃ z : Int, (k : Int) - 1 - (t : Int) = z := ⟨_, rfl⟩
      rw [hz] at t1 ⊢
      clear hown ho hz
      go_wp2_with fail
      go_end0
      refine ⟨rfl, ?_, HO.out.mono (fun j _ hj => by rw [hj]; rfl)⟩
      rw [rowI_ext (G := mirI k F t) (fun x hx => (mirI_done k F t x (by omega) hx).symm)]
      exact HW.out
end Go.Proofs.Ytpnchmelaonfiaa
