/- RupOrder's walk. -/
import Derived.Test.YtgdncnalahdjeaaU24
namespace Go.Proofs.Ytgdncnalahdjeaa
open Go Go.RowKit Go.Maps

theorem LitsIn.only {W W' : World} {p : Option Addr} {n : Nat} {V : Nat → Int} {T : Nat → Prop} (h : LitsIn W p n V) (ho : Only T W W') (hT : ∀ ad, p = some ad → ¬ T ad.block) : LitsIn W' p n V := fun hn => by
  obtain ⟨b, off, e, hc⟩ := h hn
  exact ⟨b, off, e, fun i hi => ho.cell (hc i hi) (show ¬ T b from hT ⟨b, off, none⟩ e)⟩
/-- clauses the other way round. -/
def backL (dbl : List (List Int)) : List (List Int) := dbl.reverse.map List.reverse
theorem backL_len (dbl : List (List Int)) : (backL dbl).length = dbl.length := by simp [backL]
theorem back_take {dbl : List (List Int)} {j k : Nat} (hj : j < dbl.length) (hk : k + j + 1 = dbl.length) (hkl : k < dbl.length) : (backL dbl).take (j + 1) = (backL dbl).take j ++ [dbl[k].reverse] := by
  unfold backL
  have hl : j < (dbl.reverse.map List.reverse).length := by simpa using hj
  rw [← List.take_append_getElem hl, List.getElem_map, List.getElem_reverse]
  have e : dbl.length - 1 - j = k := by omega
  simp only [e]
theorem mem_back {dbl : List (List Int)} {d : List Int} : d ∈ backL dbl ↔ d.reverse ∈ dbl := by
  unfold backL
  rw [List.mem_map]
  constructor
  · rintro ⟨e, he, rfl⟩; rw [List.reverse_reverse]; exact List.mem_reverse.1 he
  · intro h; exact ⟨d.reverse, List.mem_reverse.2 h, List.reverse_reverse d⟩
theorem back_der (dbl : List (List Int)) (c : List Int) (l : Int) : Der dbl c l ↔ Der (backL dbl) c.reverse l :=
  ⟨fun h => h.same (fun d hd => ⟨d.reverse, mem_back.2 (by rw [List.reverse_reverse]; exact hd), fun l => List.mem_reverse.symm⟩) (fun l hl => List.mem_reverse.2 hl),
   fun h => h.same (fun d hd => ⟨d.reverse, mem_back.1 hd, fun l => List.mem_reverse.symm⟩) (fun l hl => List.mem_reverse.1 hl)⟩
theorem back_confl (dbl : List (List Int)) (c : List Int) : Confl dbl c ↔ Confl (backL dbl) c.reverse :=
  ⟨fun h => h.same (fun d hd => ⟨d.reverse, mem_back.2 (by rw [List.reverse_reverse]; exact hd), fun l => List.mem_reverse.symm⟩) (fun l hl => List.mem_reverse.2 hl),
   fun h => h.same (fun d hd => ⟨d.reverse, mem_back.1 hd, fun l => List.mem_reverse.symm⟩) (fun l hl => List.mem_reverse.1 hl)⟩
theorem mayC_rev (c : List Int) : mayC c.reverse = mayC c := by unfold mayC; simp
theorem allMay_back (dbl : List (List Int)) : allMay (backL dbl) = allMay dbl := by
  unfold allMay backL
  rw [List.all_map]
  have : (mayC ∘ List.reverse) = mayC := funext mayC_rev
  rw [this]
  exact List.all_reverse
/-- rows of the call's own, under way. -/
structure BackAt (w wr : World) (s : Value) (j : Nat) (bl : List (List Int)) : Prop where
  below : Below w.heap.size w wr
  row : ∃ rows : List Value, wr.ownsRow w.heap.size 23 1 s j rows ∧ ∀ (i : Nat) (c : List Int), bl[i]? = some c → ∃ p z, rows[i]? = some (Value.slice p c.length z) ∧ LitsIn wr p c.length (fnL c) ∧ ∀ ad, p = some ad → s.ownBlock ≠ some ad.block ∧ ad.block < wr.heap.size
theorem BackAt.later {w wr w' : World} {s : Value} {j : Nat} {bl : List (List Int)} (h : BackAt w wr s j bl) (hb : Below wr.heap.size wr w') : BackAt w w' s j bl := by
  obtain ⟨rows, h1, h2⟩ := h.row
  refine ⟨h.below.trans (hb.mono h.below.size), rows, own_later h1 hb, fun i c hi => ?_⟩
  obtain ⟨p, z, a, b, d⟩ := h2 i c hi
  exact ⟨p, z, a, b.later hb, fun ad e => ⟨(d ad e).1, Nat.lt_of_lt_of_le (d ad e).2 hb.size⟩⟩
theorem BackAt.push {w wr w5 : World} {s v5 : Value} {j : Nat} {bl : List (List Int)} {c : List Int} {p : Option Addr} {z : Nat} (h : BackAt w wr s j bl) (hlen : bl.length = j) (hl : LitsIn wr p c.length (fnL c)) (hp : ∀ ad, p = some ad → s.ownBlock ≠ some ad.block ∧ ad.block < wr.heap.size)
    (hg : wr.grownBy w5 s.ownBlock) (hrow : ∀ rows, wr.ownsRow w.heap.size 23 1 s j rows → w5.ownsRow w.heap.size 23 1 v5 (j + 1) (rows ++ [.slice p c.length z])) (hloc : v5.ownBlock = s.ownBlock ∨ v5.ownBlock = some wr.heap.size) : BackAt w w5 v5 (j + 1) (bl ++ [c]) := by
  obtain ⟨rows, h1, h2⟩ := h.row
  have hrl : rows.length = j := by have := h1.1; omega
  have ho : Only (fun k => s.ownBlock = some k) wr w5 := Only.of_grown hg
  have hne : ∀ ad : Addr, s.ownBlock ≠ some ad.block ∧ ad.block < wr.heap.size → v5.ownBlock ≠ some ad.block ∧ ad.block < w5.heap.size := fun ad ⟨a, b⟩ => ⟨fun e => by
    rcases hloc with e2 | e2
    · exact a (e2.symm.trans e)
    · rw [e] at e2; have := Option.some.inj e2; omega, Nat.lt_of_lt_of_le b hg.size⟩
  refine ⟨h.below.grown hg h.below.size (fun k hk => (own_lt h1 hk).1), _, hrow rows h1, fun i d hi => ?_⟩
  by_cases hij : i < j
  · rw [List.getElem?_append_left (by omega)] at hi
    obtain ⟨q, zq, a, b, e⟩ := h2 i d hi
    exact ⟨q, zq, by rw [List.getElem?_append_left (by omega)]; exact a, b.only ho (fun ad e1 => (e ad e1).1), fun ad e1 => hne ad (e ad e1)⟩
  · have hi2 : i = j := by
      have := (List.getElem?_eq_some_iff.1 hi).1
      simp at this
      omega
    subst hi2
    rw [List.getElem?_append_right (by omega), hlen] at hi
    simp at hi
    subst hi
    exact ⟨p, z, by rw [List.getElem?_append_right (by omega), hrl]; simp, hl.only ho (fun ad e1 => (hp ad e1).1), fun ad e1 => hne ad (hp ad e1)⟩
theorem BackAt.rows {w wr : World} {ps : Option Addr} {cs j : Nat} {bl : List (List Int)} (h : BackAt w wr (.slice ps j cs) j bl) (hlen : bl.length = j) : RowsIn wr ps bl := fun hn => by
  obtain ⟨rows, h1, h2⟩ := h.row
  obtain ⟨g, c', e⟩ := own_some h1 (by omega)
  cases e
  refine ⟨g, 0, rfl, fun i c hi => ?_⟩
  obtain ⟨p, z, a, b, _⟩ := h2 i c hi
  rw [Nat.zero_add]
  exact ⟨p, z, (own_cell h1 i _ a).1, b⟩
set_option maxRecDepth 100000 in
set_option maxHeartbeats 1600000 in
theorem order_walk (p : Option Addr) (z : Nat) (dbl : List (List Int)) (q : Option Addr) (zq : Nat) (c : List Int) (w : World) (con : Bool) (er : Int) (P : List Int → Prop) (hP : ∀ a b, P a → P b → a = b) (hP5 : ∀ a, P a → a.length ≤ 5000) (her : (con = false ∧ er = 2) ∨ (con = true ∧ er = 0) ∨ (con = false ∧ er = 0))
    (hV : RowsIn w p dbl) (hq : LitsIn w q c.length (fnL c)) (h60 : dbl.length ≤ 60) (hall : ∀ d, d ∈ dbl → d.length ≤ 30) (h30 : c.length ≤ 30)
    (HL : Calls Try.prog 17 #[.slice p dbl.length z] w fun e w' => e = .returned (.bool false) ∧ w' = w)
    (U1 : ∀ W, Below w.heap.size w W → Calls Try.prog 21 #[.slice p dbl.length z, .slice q c.length zq] W fun e w' => (∃ o pp cc, P o ∧ e = .returned (.tuple #[.slice pp o.length cc, .bool con, .int .i64 er]) ∧ LitsIn w' pp o.length (fnL o)) ∧ Below W.heap.size W w')
    (U2 : ∀ W ps cs pg cg, Below w.heap.size w W → RowsIn W ps (backL dbl) → LitsIn W pg c.length (fnL c.reverse) → Calls Try.prog 21 #[.slice ps dbl.length cs, .slice pg c.length cg] W fun e w' => (∃ o pp cc, P o ∧ e = .returned (.tuple #[.slice pp o.length cc, .bool con, .int .i64 er]) ∧ LitsIn w' pp o.length (fnL o)) ∧ Below W.heap.size W w') :
    Calls Try.prog 9 #[.slice p dbl.length z, .slice q c.length zq] w fun e w' => e = .returned (.bool true) ∧ Below w.heap.size w w' := by
  obtain ⟨i23, hi23, hy0, hy1, hy2⟩ := info23
  have HK := Lib.hid known_any
  have HV := Lib.hid hV
  have HQ := Lib.hid hq
  have HA := Lib.hid hall
  have HU1 := Lib.hid U1
  have HU2 := Lib.hid U2
  have HP := Lib.hid hP
  have HP5 := Lib.hid hP5
  have hbl := backL_len dbl
  clear hV hq hall U1 U2 hP hP5
  obtain ⟨n, hnn⟩ : ∃ n, dbl.length = n := ⟨_, rfl⟩
  obtain ⟨m, hmm⟩ : ∃ m, c.length = m := ⟨_, rfl⟩
  rw [hnn] at HL h60 HU1 HU2 hbl ⊢
  rw [hmm] at h30 HU1 HU2 ⊢
  have HN := Lib.hid hnn
  have HM := Lib.hid hmm
  have HBLL := Lib.hid hbl
  clear hnn hmm hbl
  have q1 : ¬ ((30 : Int) < (m : Int)) := by omega
  go_enter Try.func9, Try.ntmps9
  go_wp2_with fail
  refine HL.mono ?_
  rintro e w1 ⟨rfl, hw⟩
  obtain rfl := hw.symm
  clear HL
  go_wp2_with fail
  go_loopg [5, 23] n (fun gk s5 s23 wx => ∃ j : Nat, j + gk = n ∧ s23 = .int .i64 (j : Int) ∧ Hid (BackAt w wx s5 j ((backL dbl).take j)))
  case atStart => exact ⟨0, by omega, rfl, Lib.hid ⟨Below.refl _ _, [], World.ownsRow_nil _ _ _ _, fun i c hi => by simp at hi⟩⟩
  case round =>
    obtain ⟨j, hjg, rfl, HI⟩ := hrel
    have HJG := Lib.hid hjg
    by_cases hjn : j < n
    · obtain ⟨b, off, rfl, hVi⟩ := HV.out (by have := HN.out; omega)
      obtain ⟨k, hk⟩ : ∃ k, k + j + 1 = n := ⟨n - 1 - j, by omega⟩
      have hkl : k < dbl.length := by have := HN.out; omega
      obtain ⟨qc, zc, cv0, hqc⟩ := hVi k _ (List.getElem?_eq_getElem hkl)
      have cx := cell_later HI.out.below cv0
      have htk := back_take (dbl := dbl) (j := j) (k := k) (by have := HN.out; omega) (by have := HN.out; omega) hkl
      have hT := turned_any qc zc dbl[k] wr (hqc.later HI.out.below) (by have := HA.out _ (List.getElem_mem hkl); omega)
      have e1 : (n : Int) - 1 - (j : Int) = (k : Int) := by omega
      have e0 : (0 : Int) ≤ (n : Int) - 1 := by omega
      have e2 : (0 : Int) ≤ (k : Int) := by omega
      have e3 : (k : Int) < (n : Int) := by omega
      have j1 : (j : Int) < (n : Int) := by omega
      have n1 : (n : Int) ≤ 60 := by omega
      have HTK := Lib.hid htk
      clear hVi cv0 hqc htk hk hjg
      generalize dbl[k] = d at *
      clear hkl
      obtain ⟨L, hL⟩ : ∃ L, d.length = L := ⟨_, rfl⟩
      rw [hL] at cx hT
      have HLL := Lib.hid (show d.reverse.length = L by rw [List.length_reverse]; exact hL)
      clear hL
      go_wp2_with fail
      refine hT.mono ?_
      rintro e w3 ⟨v3, rfl, ho3, hb3⟩
      obtain ⟨p3, z3, hv3, hp3⟩ := own_shp ho3
      subst hv3
      have hB3 := HI.out.later hb3
      obtain ⟨rows, hrow, _⟩ := hB3.row
      obtain ⟨ps, cs, hs5, hB_⟩ := own_shp hrow
      clear hB_
      subst hs5
      have hal := below1 w3 (.cells #[.slice p3 L z3] 23)
      have hB4 := hB3.later hal
      have hl3 : LitsIn w3 p3 L (fnL d.reverse) := by
        have ho := ho3
        rw [← HLL.out] at ho ⊢
        exact lits_own ho
      have hne : ∀ ad, p3 = some ad → (Value.slice ps j cs).ownBlock ≠ some ad.block ∧ ad.block < w3.heap.size := fun ad e => by
        have h1 := own_lt ho3 (k := ad.block) (by rw [e]; rfl)
        refine ⟨fun e2 => ?_, h1.2⟩
        obtain ⟨rows0, hr0, _⟩ := HI.out.row
        have := (own_lt hr0 e2).2
        omega
      have HB4 := Lib.hid hB4
      have HL4 := Lib.hid (hl3.later hal)
      have HNE := Lib.hid (show ∀ ad, p3 = some ad → (Value.slice ps j cs).ownBlock ≠ some ad.block ∧ ad.block < (w3.alloc (.cells #[.slice p3 L z3] 23)).heap.size from fun ad e => ⟨(hne ad e).1, Nat.lt_of_lt_of_le (hne ad e).2 hal.size⟩)
      have HOW := Lib.hid (own_later hrow hal)
      have hws := hB4.below.size
      clear hT ho3 hb3 hp3 hB3 hrow hal hB4 hl3 hne HI
      go_wp2_with (at_builtin; refine wpList_append_own_at _ rfl _ _ 22 rfl w.heap.size 23 i23 (.slice none 0 0) 1 24 Try.underlying22 hi23 hy0 hy1 hy2 rfl (by omega) _ j rows rfl HOW.out ⟨w3.heap.size, 0, none⟩ 1 1 [.slice p3 L z3] rfl rfl ?qc2 ?qc3 ?qc4 ?qc5 ?qc6 ?_)
      case qc2 =>
        intro jj u hjj
        rw [Lib.add_plain]
        match jj, hjj with
        | 0, hjj => cases hjj; simp [go_sem]
      case qc3 => intro u hu; simp at hu; rcases hu with rfl; rfl
      case qc4 => have hml : maxLen = 9223372036854775807 := rfl; omega
      case qc5 => omega
      case qc6 => exact hws
      intro v5 w5 hown hgrow _ hloc
      have h5 := HB4.out.push (c := d.reverse) (z := z3) (by rw [List.length_take, HBLL.out]; omega) (by rw [HLL.out]; exact HL4.out) HNE.out hgrow (fun rows2 hr2 => by
        have := own_same hr2 HOW.out
        subst this
        rw [HLL.out]
        exact hown) (by rw [World.size_alloc]; exact hloc)
      rw [← HTK.out] at h5
      have H5 := Lib.hid h5
      clear h5 hown hgrow hloc
      go_wp2_with fail
      go_roundg (n - (j + 1))
      case measure => have := HJG.out; omega
      case rel => exact ⟨j + 1, by omega, by go_num, H5⟩
    · obtain rfl : j = n := by omega
      have hfull : (backL dbl).take j = backL dbl := by rw [← HBLL.out, List.take_length]
      have hI := HI.out
      rw [hfull] at hI
      obtain ⟨rows, hrow, _⟩ := hI.row
      obtain ⟨ps, cs, hs5, hB_⟩ := own_shp hrow
      clear hB_
      subst hs5
      have HR := Lib.hid (hI.rows HBLL.out)
      have HBE := Lib.hid hI.below
      clear hI hrow HI hfull hjg
      go_wp2_with fail
      refine (HU1.out wr HBE.out).mono ?_
      rintro e w3 ⟨⟨o1, p1, c1, hp1, rfl, hl1⟩, hb3⟩
      have HB3 := Lib.hid (chain HBE.out hb3)
      have HR3 := Lib.hid (HR.out.later hb3)
      have HP1 := Lib.hid hp1
      have HL1 := Lib.hid hl1
      clear hp1 hl1 hb3
      have hT := turned_any q zq c w3 (HQ.out.later HB3.out) (by rw [HM.out]; omega)
      rw [HM.out] at hT
      have ho15 := HP5.out o1 HP1.out
      obtain ⟨L1, hL1⟩ : ∃ L, o1.length = L := ⟨_, rfl⟩
      rw [hL1] at HL1 ho15 ⊢
      have HLL1 := Lib.hid hL1
      clear hL1
      go_wp2_with fail
      refine hT.mono ?_
      rintro e w4 ⟨v4, rfl, ho4, hb4⟩
      obtain ⟨p4, z4, hv4, hB_⟩ := own_shp ho4
      clear hB_
      subst hv4
      have hrl : c.reverse.length = m := by rw [List.length_reverse]; exact HM.out
      have hl4 : LitsIn w4 p4 m (fnL c.reverse) := by
        rw [← hrl] at ho4 ⊢
        exact lits_own ho4
      have HB4 := Lib.hid (chain HB3.out hb4)
      have hU := HU2.out w4 ps cs p4 z4 HB4.out (HR3.out.later hb4) hl4
      have HL14 := Lib.hid (HL1.out.later hb4)
      clear hT ho4 hb4 hl4 hrl
      go_wp2_with fail
      refine hU.mono ?_
      rintro e w5 ⟨⟨o2, p2, c2, hp2, rfl, hl2⟩, hb5⟩
      obtain rfl := HP.out o1 o2 HP1.out hp2
      rw [HLL1.out] at hl2 ⊢
      have hAl := alike_same p1 L1 c1 (fnL o1) p2 c2 w5 (HL14.out.later hb5) (by omega) hl2
      have HB5 := Lib.hid (chain HB4.out hb5)
      clear hU hb5 hl2 hp2
      rcases her with ⟨rfl, rfl⟩ | ⟨rfl, rfl⟩ | ⟨rfl, rfl⟩
      all_goals
        go_wp2_with fail
        refine hAl.mono ?_
        rintro e w6 ⟨rfl, hb6⟩
        have HB6 := Lib.hid (chain HB5.out hb6)
        clear hb6 hAl
        go_wp2_with fail
        refine (HK.out _).mono ?_
        rintro e w7 ⟨rfl, hb7⟩
        have HB7 := Lib.hid (chain HB6.out hb7)
        clear hb7
        go_wp2_with fail
        go_ret
        exact ⟨rfl, HB7.out⟩
end Go.Proofs.Ytgdncnalahdjeaa
