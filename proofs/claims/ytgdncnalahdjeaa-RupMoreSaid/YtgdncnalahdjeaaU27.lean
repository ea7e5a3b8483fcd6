/- copied: clauses in memory of their own. -/
import Derived.Test.YtgdncnalahdjeaaU25
namespace Go.Proofs.Ytgdncnalahdjeaa
open Go Go.RowKit Go.Maps

/-- .. and what is nil has no room. -/
def RowsZ (W : World) (p : Option Addr) (dbl : List (List Int)) : Prop := 0 < dbl.length → ∃ b off, p = some ⟨b, off, none⟩ ∧ ∀ (i : Nat) (c : List Int), dbl[i]? = some c → ∃ q z, W.cell? ⟨b, off + i, none⟩ = some (.slice q c.length z) ∧ LitsIn W q c.length (fnL c) ∧ (q = none → z = 0)
theorem RowsZ.rows {W : World} {p : Option Addr} {dbl : List (List Int)} (h : RowsZ W p dbl) : RowsIn W p dbl := fun hn => by
  obtain ⟨b, off, e, hc⟩ := h hn
  refine ⟨b, off, e, fun i c hi => ?_⟩
  obtain ⟨q, z, h1, h2, _⟩ := hc i c hi
  exact ⟨q, z, h1, h2⟩
set_option maxRecDepth 100000 in
set_option maxHeartbeats 1600000 in
theorem copied_at (p : Option Addr) (z : Nat) (dbl : List (List Int)) (w : World) (hV : RowsZ w p dbl) (h60 : dbl.length ≤ 60) (hall : ∀ d, d ∈ dbl → d.length ≤ 30) :
    Calls Try.prog 19 #[.slice p dbl.length z] w fun e w' => ∃ v', e = .returned v' ∧ BackAt w w' v' dbl.length dbl := by
  obtain ⟨i23, hi23, hy0, hy1, hy2⟩ := info23
  have HV := Lib.hid hV
  have HA := Lib.hid hall
  clear hV hall
  obtain ⟨n, hnn⟩ : ∃ n, dbl.length = n := ⟨_, rfl⟩
  rw [hnn] at h60 ⊢
  have HN := Lib.hid hnn
  clear hnn
  go_enter Try.func19, Try.ntmps19
  go_wp2_with fail
  go_loopg [3, 7] n (fun gk s5 s23 wx => ∃ j : Nat, j + gk = n ∧ s23 = .int .i64 (j : Int) ∧ Hid (BackAt w wx s5 j (dbl.take j)))
  case atStart => exact ⟨0, by omega, rfl, Lib.hid ⟨Below.refl _ _, [], World.ownsRow_nil _ _ _ _, fun i c hi => by simp at hi⟩⟩
  case round =>
    obtain ⟨j, hjg, rfl, HI⟩ := hrel
    have HJG := Lib.hid hjg
    by_cases hjn : j < n
    · obtain ⟨b, off, rfl, hVi⟩ := HV.out (by have := HN.out; omega)
      have hkl : j < dbl.length := by have := HN.out; omega
      obtain ⟨qc, zc, cv0, hqc, hqz⟩ := hVi j _ (List.getElem?_eq_getElem hkl)
      have cx := cell_later HI.out.below cv0
      have htk : dbl.take (j + 1) = dbl.take j ++ [dbl[j]] := (List.take_append_getElem hkl).symm
      have hT := copied_any qc dbl[j].length zc (fnL dbl[j]) wr (hqc.later HI.out.below) (by have := HA.out _ (List.getElem_mem hkl); omega) hqz
      rw [rowL_fn] at hT
      have e2 : (0 : Int) ≤ (j : Int) := by omega
      have j1 : (j : Int) < (n : Int) := by omega
      have n1 : (n : Int) ≤ 60 := by omega
      have HTK := Lib.hid htk
      clear hVi cv0 hqc hqz htk hjg
      generalize dbl[j] = d at *
      clear hkl
      obtain ⟨L, hL⟩ : ∃ L, d.length = L := ⟨_, rfl⟩
      rw [hL] at cx hT
      have HLL := Lib.hid hL
      clear hL
      go_wp2_with fail
      refine hT.mono ?_
      rintro e w3 ⟨v3, rfl, ho3, hb3⟩
      obtain ⟨p3, z3, hv3, hp3⟩ := own_shp ho3
      subst hv3
      have hB3 := HI.out.later hb3
      obtain ⟨rows, hrow, _⟩ := hB3.row
      obtain ⟨ps, cs, hs5, hB_⟩ := own_shp hrow
      clear hB_
      subst hs5
      have hal := below1 w3 (.cells #[.slice p3 L z3] 23)
      have hB4 := hB3.later hal
      have hl3 : LitsIn w3 p3 L (fnL d) := by
        have ho := ho3
        rw [← HLL.out] at ho ⊢
        exact lits_own ho
      have hne : ∀ ad, p3 = some ad → (Value.slice ps j cs).ownBlock ≠ some ad.block ∧ ad.block < w3.heap.size := fun ad e => by
        have h1 := own_lt ho3 (k := ad.block) (by rw [e]; rfl)
        refine ⟨fun e2 => ?_, h1.2⟩
        obtain ⟨rows0, hr0, _⟩ := HI.out.row
        have := (own_lt hr0 e2).2
        omega
      have HB4 := Lib.hid hB4
      have HL4 := Lib.hid (hl3.later hal)
      have HNE := Lib.hid (show ∀ ad, p3 = some ad → (Value.slice ps j cs).ownBlock ≠ some ad.block ∧ ad.block < (w3.alloc (.cells #[.slice p3 L z3] 23)).heap.size from fun ad e => ⟨(hne ad e).1, Nat.lt_of_lt_of_le (hne ad e).2 hal.size⟩)
      have HOW := Lib.hid (own_later hrow hal)
      have hws := hB4.below.size
      clear hT ho3 hb3 hp3 hB3 hrow hal hB4 hl3 hne HI
      go_wp2_with (at_builtin; refine wpList_append_own_at _ rfl _ _ 22 rfl w.heap.size 23 i23 (.slice none 0 0) 1 24 Try.underlying22 hi23 hy0 hy1 hy2 rfl (by omega) _ j rows rfl HOW.out ⟨w3.heap.size, 0, none⟩ 1 1 [.slice p3 L z3] rfl rfl ?qc2 ?qc3 ?qc4 ?qc5 ?qc6 ?_)
      case qc2 =>
        intro jj u hjj
        rw [Lib.add_plain]
        match jj, hjj with
        | 0, hjj => cases hjj; simp [go_sem]
      case qc3 => intro u hu; simp at hu; rcases hu with rfl; rfl
      case qc4 => have hml : maxLen = 9223372036854775807 := rfl; omega
      case qc5 => omega
      case qc6 => exact hws
      intro v5 w5 hown hgrow _ hloc
      have h5 := HB4.out.push (c := d) (z := z3) (by rw [List.length_take, HN.out]; omega) (by rw [HLL.out]; exact HL4.out) HNE.out hgrow (fun rows2 hr2 => by
        have := own_same hr2 HOW.out
        subst this
        rw [HLL.out]
        exact hown) (by rw [World.size_alloc]; exact hloc)
      rw [← HTK.out] at h5
      have H5 := Lib.hid h5
      clear h5 hown hgrow hloc
      go_wp2_with fail
      go_roundg (n - (j + 1))
      case measure => have := HJG.out; omega
      case rel => exact ⟨j + 1, by omega, by go_num, H5⟩
    · obtain rfl : j = n := by omega
      have hI := HI.out
      rw [show dbl.take j = dbl by rw [← HN.out, List.take_length]] at hI
      have HF := Lib.hid hI
      clear hI HI hjg
      go_wp2_with fail
      go_ret
      exact ⟨_, rfl, HF.out⟩
/-- an argument's clauses put behind the call's own, by the run. -/
theorem BackAt.join {w wr : World} {s : Value} {j : Nat} {bl : List (List Int)} (h : BackAt w wr s j bl) (hlen : bl.length = j) {p : Option Addr} {z : Nat} {more : List (List Int)} (hm : RowsIn w p more) (hz : p = none → z = 0) (hj : j ≤ 1000) (hk : more.length ≤ 1000) :
    ∃ v' w', (Builtin.append_ #[22, 22] 22 #[s, .slice p more.length z]).run Try.prog wr = .ok v' w' ∧ ∃ ps cs, v' = .slice ps (bl ++ more).length cs ∧ RowsIn w' ps (bl ++ more) ∧ Below w.heap.size w w' := by
  obtain ⟨i23, hi23, hy0, hy1, hy2⟩ := info23
  obtain ⟨rows, h1, h2⟩ := h.row
  have hrl : rows.length = j := by have := h1.1; omega
  cases p with
  | none =>
    have hz0 := hz rfl
    subst hz0
    have hm0 : more = [] := by
      cases more with
      | nil => rfl
      | cons c m => obtain ⟨b, off, e, _⟩ := hm (by simp); cases e
    subst hm0
    obtain ⟨ps, cs, hs, _⟩ := own_shp h1
    subst hs
    refine ⟨.slice ps j cs, wr, run_append_owned_none (P := Try.prog) (w := wr) w.heap.size 22 22 23 i23 1 Try.underlying22 hi23 _ j rows h1, ps, cs, by simp [hlen], by simpa using h.rows hlen, h.below⟩
  | some ad =>
    have each : ∀ i, i < more.length → ∃ y : Option Addr × Nat, w.cell? (ad.add i) = some (.slice y.1 (more.getD i []).length y.2) ∧ LitsIn w y.1 (more.getD i []).length (fnL (more.getD i [])) := fun i hi => by
      obtain ⟨b, off, e, hc⟩ := hm (by omega)
      cases e
      obtain ⟨q, zq, a1, a2⟩ := hc i _ (List.getElem?_eq_getElem hi)
      have eg : more.getD i [] = more[i] := getD_eq hi
      rw [eg]
      exact ⟨(q, zq), by rw [Lib.add_plain]; exact a1, a2⟩
    obtain ⟨y, hy⟩ := Deep.choose_lt each
    obtain ⟨v', w', hr, ho, hg, _, hloc⟩ := run_append_own_at (P := Try.prog) wr w.heap.size 22 22 23 i23 (.slice none 0 0) 1 24 Try.underlying22 hi23 hy0 hy1 hy2 rfl (by omega) s j rows h1 ad more.length z ((List.range more.length).map fun i => .slice (y i).1 (more.getD i []).length (y i).2) (by simp) (fun i u hu => by
      have him : i < more.length := by
        have := (List.getElem?_eq_some_iff.1 hu).1
        simpa using this
      simp [him] at hu
      subst hu
      have := (hy i him).1
      rw [show more.getD i [] = more[i] from getD_eq him] at this
      have := cell_later h.below this
      simpa [getD_eq him] using this) (fun u hu => by obtain ⟨i, _, rfl⟩ := List.mem_map.1 hu; rfl) (by unfold maxLen; omega) (by omega) h.below.size
    obtain ⟨ps, cs, hs, _⟩ := own_shp ho
    subst hs
    have ho1 : Only (fun k => s.ownBlock = some k) wr w' := Only.of_grown hg
    have hbw : Below w.heap.size w w' := h.below.grown hg h.below.size (fun k hk => (own_lt h1 hk).1)
    refine ⟨_, w', hr, ps, cs, by rw [List.length_append, hlen], fun hn => ?_, hbw⟩
    rw [List.length_append, hlen] at hn
    obtain ⟨g, c', e⟩ := own_some ho hn
    cases e
    refine ⟨g, 0, rfl, fun i c hi => ?_⟩
    rw [Nat.zero_add]
    by_cases hij : i < j
    · rw [List.getElem?_append_left (by omega)] at hi
      obtain ⟨q, zq, a1, a2, a3⟩ := h2 i c hi
      exact ⟨q, zq, (own_cell ho i _ (by rw [List.getElem?_append_left (by omega)]; exact a1)).1, a2.only ho1 (fun ad e1 => (a3 ad e1).1)⟩
    · rw [List.getElem?_append_right (by omega), hlen] at hi
      have him : i - j < more.length := (List.getElem?_eq_some_iff.1 hi).1
      have hce : more.getD (i - j) [] = c := by rw [getD_eq him]; exact (List.getElem?_eq_some_iff.1 hi).2
      have hyi := hy _ him
      rw [hce] at hyi
      refine ⟨(y (i - j)).1, (y (i - j)).2, (own_cell ho i _ (by
        rw [List.getElem?_append_right (by omega), hrl, List.getElem?_map, List.getElem?_range him]
        simp only [Option.map_some]
        rw [hce])).1, hyi.2.later hbw⟩
end Go.Proofs.Ytgdncnalahdjeaa
