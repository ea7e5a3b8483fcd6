/- turned: a clause the other way round. RupOrder's walk. RupOrder: every case. copied: clauses in memory of their own. A row that is cut, a base that grows: where the conflict comes. RupCut's walk. RupCut: every case. -/
import Derived.Test.YtgdncnalahdjeaaU23
import Derived.Test.YtgdncnalahdjeaaU22
namespace Go.Proofs.Ytgdncnalahdjeaa
open Go Go.RowKit Go.Maps

theorem rev_take {c : List Int} {j k : Nat} (hj : j < c.length) (hk : k + j + 1 = c.length) : c.reverse.take (j + 1) = c.reverse.take j ++ [fnL c k] := by
  have hl : j < c.reverse.length := by simpa using hj
  rw [← List.take_append_getElem hl]
  congr 2
  unfold fnL
  rw [getD_eq (by omega), List.getElem_reverse]
  congr 1
  omega
set_option maxRecDepth 100000 in
set_option maxHeartbeats 1600000 in
theorem turned_any (p : Option Addr) (z : Nat) (c : List Int) (w : World) (hV : LitsIn w p c.length (fnL c)) (hn : c.length ≤ 1000000) :
    Calls Try.prog 33 #[.slice p c.length z] w fun e w' => ∃ v', e = .returned v' ∧ w'.ownsRow w.heap.size 54 1 v' c.length (c.reverse.map (Value.int .i64)) ∧ Below w.heap.size w w' := by
  obtain ⟨i54, hi54, hz0, hz1, hz2⟩ := info54
  have HV := Lib.hid hV
  clear hV
  obtain ⟨n, hnn⟩ : ∃ n, c.length = n := ⟨_, rfl⟩
  rw [hnn] at hn ⊢
  have HN := Lib.hid hnn
  clear hnn
  go_enter Try.func33, Try.ntmps33
  go_wp2_with fail
  go_loopg [3, 7] n (fun gk s3 s7 wx => ∃ j : Nat, j + gk = n ∧ s7 = .int .i64 (j : Int) ∧ Hid (Below w.heap.size w wx ∧ wx.ownsRow w.heap.size 54 1 s3 j ((c.reverse.take j).map (Value.int .i64))))
  case atStart => exact ⟨0, by omega, rfl, Lib.hid ⟨Below.refl _ _, World.ownsRow_nil _ _ _ _⟩⟩
  case round =>
    obtain ⟨j, hjg, rfl, HI⟩ := hrel
    have HJG := Lib.hid hjg
    obtain ⟨hbl, hrow⟩ := HI.out
    by_cases hjn : j < n
    · obtain ⟨b, off, rfl, hVi⟩ := HV.out (by have := HN.out; omega)
      obtain ⟨k, hk⟩ : ∃ k, k + j + 1 = n := ⟨n - 1 - j, by omega⟩
      have cx := cell_later hbl (hVi k (by have := HN.out; omega))
      have htk := rev_take (c := c) (j := j) (k := k) (by have := HN.out; omega) (by have := HN.out; omega)
      have e1 : (n : Int) - 1 - (j : Int) = (k : Int) := by omega
      have e0 : (0 : Int) ≤ (n : Int) - 1 := by omega
      have e2 : (0 : Int) ≤ (k : Int) := by omega
      have e3 : (k : Int) < (n : Int) := by omega
      have j1 : (j : Int) < (n : Int) := by omega
      have n1 : (n : Int) ≤ 1000000 := by omega
      obtain ⟨ps, cs, hs3, hB_⟩ := own_shp hrow
      clear hB_
      subst hs3
      have hal := below1 wr (.cells #[.int .i64 (fnL c k)] 54)
      have HOW := Lib.hid (own_later hrow hal)
      have HBL := Lib.hid (hbl.trans (hal.mono hbl.size))
      have HTK := Lib.hid htk
      have hws := hbl.size
      generalize fnL c k = x at *
      clear hVi hbl hrow hal htk HI hk hjg
      go_wp2_with (at_builtin; refine wpList_append_own_at _ rfl _ _ 23 rfl w.heap.size 54 i54 (.int .i64 0) 1 8 Try.underlying23 hi54 hz0 hz1 hz2 rfl (by omega) _ j ((c.reverse.take j).map (Value.int .i64)) rfl HOW.out ⟨wr.heap.size, 0, none⟩ 1 1 [.int .i64 x] rfl rfl ?qc2 ?qc3 ?qc4 ?qc5 ?qc6 ?_)
      case qc2 =>
        intro jj u hjj
        rw [Lib.add_plain]
        match jj, hjj with
        | 0, hjj => cases hjj; simp [go_sem]
      case qc3 => intro u hu; simp at hu; rcases hu with rfl; rfl
      case qc4 => have hml : maxLen = 9223372036854775807 := rfl; omega
      case qc5 => omega
      case qc6 => simp; omega
      intro v5 w5 hown hgrow _ hloc
      have hb5 : Below w.heap.size w w5 := HBL.out.grown hgrow (by simp; omega) (fun k hk => (own_lt HOW.out hk).1)
      have hown' : w5.ownsRow w.heap.size 54 1 v5 (j + 1) ((c.reverse.take (j + 1)).map (Value.int .i64)) := by
        rw [HTK.out]
        simpa using hown
      have HI5 := Lib.hid (And.intro hb5 hown')
      clear hown hown' hgrow hloc hb5
      go_wp2_with fail
      go_roundg (n - (j + 1))
      case measure => have := HJG.out; omega
      case rel => exact ⟨j + 1, by omega, by go_num, HI5⟩
    · obtain rfl : j = n := by omega
      rw [← HN.out, ← List.length_reverse, List.take_length, List.length_reverse, HN.out] at hrow
      have HI5 := Lib.hid (And.intro hbl hrow)
      clear hbl hrow HI hjg
      go_wp2_with fail
      go_ret
      exact ⟨_, rfl, HI5.out.2, HI5.out.1⟩
end Go.Proofs.Ytgdncnalahdjeaa
namespace Go.Proofs.Ytgdncnalahdjeaa
open Go Go.RowKit Go.Maps

theorem LitsIn.only {W W' : World} {p : Option Addr} {n : Nat} {V : Nat → Int} {T : Nat → Prop} (h : LitsIn W p n V) (ho : Only T W W') (hT : ∀ ad, p = some ad → ¬ T ad.block) : LitsIn W' p n V := fun hn => by
  obtain ⟨b, off, e, hc⟩ := h hn
  exact ⟨b, off, e, fun i hi => ho.cell (hc i hi) (show ¬ T b from hT ⟨b, off, none⟩ e)⟩
/-- clauses the other way round. -/
def backL (dbl : List (List Int)) : List (List Int) := dbl.reverse.map List.reverse
theorem backL_len (dbl : List (List Int)) : (backL dbl).length = dbl.length := by simp [backL]
theorem back_take {dbl : List (List Int)} {j k : Nat} (hj : j < dbl.length) (hk : k + j + 1 = dbl.length) (hkl : k < dbl.length) : (backL dbl).take (j + 1) = (backL dbl).take j ++ [dbl[k].reverse] := by
  unfold backL
  have hl : j < (dbl.reverse.map List.reverse).length := by simpa using hj
  rw [← List.take_append_getElem hl, List.getElem_map, List.getElem_reverse]
  have e : dbl.length - 1 - j = k := by omega
  simp only [e]
theorem mem_back {dbl : List (List Int)} {d : List Int} : d ∈ backL dbl ↔ d.reverse ∈ dbl := by
  unfold backL
  rw [List.mem_map]
  constructor
  · rintro ⟨e, he, rfl⟩; rw [List.reverse_reverse]; exact List.mem_reverse.1 he
  · intro h; exact ⟨d.reverse, List.mem_reverse.2 h, List.reverse_reverse d⟩
theorem back_der (dbl : List (List Int)) (c : List Int) (l : Int) : Der dbl c l ↔ Der (backL dbl) c.reverse l :=
  ⟨fun h => h.same (fun d hd => ⟨d.reverse, mem_back.2 (by rw [List.reverse_reverse]; exact hd), fun l => List.mem_reverse.symm⟩) (fun l hl => List.mem_reverse.2 hl),
   fun h => h.same (fun d hd => ⟨d.reverse, mem_back.1 hd, fun l => List.mem_reverse.symm⟩) (fun l hl => List.mem_reverse.1 hl)⟩
theorem back_confl (dbl : List (List Int)) (c : List Int) : Confl dbl c ↔ Confl (backL dbl) c.reverse :=
  ⟨fun h => h.same (fun d hd => ⟨d.reverse, mem_back.2 (by rw [List.reverse_reverse]; exact hd), fun l => List.mem_reverse.symm⟩) (fun l hl => List.mem_reverse.2 hl),
   fun h => h.same (fun d hd => ⟨d.reverse, mem_back.1 hd, fun l => List.mem_reverse.symm⟩) (fun l hl => List.mem_reverse.1 hl)⟩
theorem mayC_rev (c : List Int) : mayC c.reverse = mayC c := by unfold mayC; simp
theorem allMay_back (dbl : List (List Int)) : allMay (backL dbl) = allMay dbl := by
  unfold allMay backL
  rw [List.all_map]
  have : (mayC ∘ List.reverse) = mayC := funext mayC_rev
  rw [this]
  exact List.all_reverse
/-- rows of the call's own, under way. -/
structure BackAt (w wr : World) (s : Value) (j : Nat) (bl : List (List Int)) : Prop where
  below : Below w.heap.size w wr
  row : ∃ rows : List Value, wr.ownsRow w.heap.size 23 1 s j rows ∧ ∀ (i : Nat) (c : List Int), bl[i]? = some c → ∃ p z, rows[i]? = some (Value.slice p c.length z) ∧ LitsIn wr p c.length (fnL c) ∧ ∀ ad, p = some ad → s.ownBlock ≠ some ad.block ∧ ad.block < wr.heap.size
theorem BackAt.later {w wr w' : World} {s : Value} {j : Nat} {bl : List (List Int)} (h : BackAt w wr s j bl) (hb : Below wr.heap.size wr w') : BackAt w w' s j bl := by
  obtain ⟨rows, h1, h2⟩ := h.row
  refine ⟨h.below.trans (hb.mono h.below.size), rows, own_later h1 hb, fun i c hi => ?_⟩
  obtain ⟨p, z, a, b, d⟩ := h2 i c hi
  exact ⟨p, z, a, b.later hb, fun ad e => ⟨(d ad e).1, Nat.lt_of_lt_of_le (d ad e).2 hb.size⟩⟩
theorem BackAt.push {w wr w5 : World} {s v5 : Value} {j : Nat} {bl : List (List Int)} {c : List Int} {p : Option Addr} {z : Nat} (h : BackAt w wr s j bl) (hlen : bl.length = j) (hl : LitsIn wr p c.length (fnL c)) (hp : ∀ ad, p = some ad → s.ownBlock ≠ some ad.block ∧ ad.block < wr.heap.size)
    (hg : wr.grownBy w5 s.ownBlock) (hrow : ∀ rows, wr.ownsRow w.heap.size 23 1 s j rows → w5.ownsRow w.heap.size 23 1 v5 (j + 1) (rows ++ [.slice p c.length z])) (hloc : v5.ownBlock = s.ownBlock ∨ v5.ownBlock = some wr.heap.size) : BackAt w w5 v5 (j + 1) (bl ++ [c]) := by
  obtain ⟨rows, h1, h2⟩ := h.row
  have hrl : rows.length = j := by have := h1.1; omega
  have ho : Only (fun k => s.ownBlock = some k) wr w5 := Only.of_grown hg
  have hne : ∀ ad : Addr, s.ownBlock ≠ some ad.block ∧ ad.block < wr.heap.size → v5.ownBlock ≠ some ad.block ∧ ad.block < w5.heap.size := fun ad ⟨a, b⟩ => ⟨fun e => by
    rcases hloc with e2 | e2
    · exact a (e2.symm.trans e)
    · rw [e] at e2; have := Option.some.inj e2; omega, Nat.lt_of_lt_of_le b hg.size⟩
  refine ⟨h.below.grown hg h.below.size (fun k hk => (own_lt h1 hk).1), _, hrow rows h1, fun i d hi => ?_⟩
  by_cases hij : i < j
  · rw [List.getElem?_append_left (by omega)] at hi
    obtain ⟨q, zq, a, b, e⟩ := h2 i d hi
    exact ⟨q, zq, by rw [List.getElem?_append_left (by omega)]; exact a, b.only ho (fun ad e1 => (e ad e1).1), fun ad e1 => hne ad (e ad e1)⟩
  · have hi2 : i = j := by
      have := (List.getElem?_eq_some_iff.1 hi).1
      simp at this
      omega
    subst hi2
    rw [List.getElem?_append_right (by omega), hlen] at hi
    simp at hi
    subst hi
    exact ⟨p, z, by rw [List.getElem?_append_right (by omega), hrl]; simp, hl.only ho (fun ad e1 => (hp ad e1).1), fun ad e1 => hne ad (hp ad e1)⟩
theorem BackAt.rows {w wr : World} {ps : Option Addr} {cs j : Nat} {bl : List (List Int)} (h : BackAt w wr (.slice ps j cs) j bl) (hlen : bl.length = j) : RowsIn wr ps bl := fun hn => by
  obtain ⟨rows, h1, h2⟩ := h.row
  obtain ⟨g, c', e⟩ := own_some h1 (by omega)
  cases e
  refine ⟨g, 0, rfl, fun i c hi => ?_⟩
  obtain ⟨p, z, a, b, _⟩ := h2 i c hi
  rw [Nat.zero_add]
  exact ⟨p, z, (own_cell h1 i _ a).1, b⟩
set_option maxRecDepth 100000 in
set_option maxHeartbeats 1600000 in
theorem order_walk (p : Option Addr) (z : Nat) (dbl : List (List Int)) (q : Option Addr) (zq : Nat) (c : List Int) (w : World) (con : Bool) (er : Int) (P : List Int → Prop) (hP : ∀ a b, P a → P b → a = b) (hP5 : ∀ a, P a → a.length ≤ 5000) (her : (con = false ∧ er = 2) ∨ (con = true ∧ er = 0) ∨ (con = false ∧ er = 0))
    (hV : RowsIn w p dbl) (hq : LitsIn w q c.length (fnL c)) (h60 : dbl.length ≤ 60) (hall : ∀ d, d ∈ dbl → d.length ≤ 30) (h30 : c.length ≤ 30)
    (HL : Calls Try.prog 17 #[.slice p dbl.length z] w fun e w' => e = .returned (.bool false) ∧ w' = w)
    (U1 : ∀ W, Below w.heap.size w W → Calls Try.prog 21 #[.slice p dbl.length z, .slice q c.length zq] W fun e w' => (∃ o pp cc, P o ∧ e = .returned (.tuple #[.slice pp o.length cc, .bool con, .int .i64 er]) ∧ LitsIn w' pp o.length (fnL o)) ∧ Below W.heap.size W w')
    (U2 : ∀ W ps cs pg cg, Below w.heap.size w W → RowsIn W ps (backL dbl) → LitsIn W pg c.length (fnL c.reverse) → Calls Try.prog 21 #[.slice ps dbl.length cs, .slice pg c.length cg] W fun e w' => (∃ o pp cc, P o ∧ e = .returned (.tuple #[.slice pp o.length cc, .bool con, .int .i64 er]) ∧ LitsIn w' pp o.length (fnL o)) ∧ Below W.heap.size W w') :
    Calls Try.prog 9 #[.slice p dbl.length z, .slice q c.length zq] w fun e w' => e = .returned (.bool true) ∧ Below w.heap.size w w' := by
  obtain ⟨i23, hi23, hy0, hy1, hy2⟩ := info23
  have HK := Lib.hid known_any
  have HV := Lib.hid hV
  have HQ := Lib.hid hq
  have HA := Lib.hid hall
  have HU1 := Lib.hid U1
  have HU2 := Lib.hid U2
  have HP := Lib.hid hP
  have HP5 := Lib.hid hP5
  have hbl := backL_len dbl
  clear hV hq hall U1 U2 hP hP5
  obtain ⟨n, hnn⟩ : ∃ n, dbl.length = n := ⟨_, rfl⟩
  obtain ⟨m, hmm⟩ : ∃ m, c.length = m := ⟨_, rfl⟩
  rw [hnn] at HL h60 HU1 HU2 hbl ⊢
  rw [hmm] at h30 HU1 HU2 ⊢
  have HN := Lib.hid hnn
  have HM := Lib.hid hmm
  have HBLL := Lib.hid hbl
  clear hnn hmm hbl
  have q1 : ¬ ((30 : Int) < (m : Int)) := by omega
  go_enter Try.func9, Try.ntmps9
  go_wp2_with fail
  refine HL.mono ?_
  rintro e w1 ⟨rfl, hw⟩
  obtain rfl := hw.symm
  clear HL
  go_wp2_with fail
  go_loopg [5, 23] n (fun gk s5 s23 wx => ∃ j : Nat, j + gk = n ∧ s23 = .int .i64 (j : Int) ∧ Hid (BackAt w wx s5 j ((backL dbl).take j)))
  case atStart => exact ⟨0, by omega, rfl, Lib.hid ⟨Below.refl _ _, [], World.ownsRow_nil _ _ _ _, fun i c hi => by simp at hi⟩⟩
  case round =>
    obtain ⟨j, hjg, rfl, HI⟩ := hrel
    have HJG := Lib.hid hjg
    by_cases hjn : j < n
    · obtain ⟨b, off, rfl, hVi⟩ := HV.out (by have := HN.out; omega)
      obtain ⟨k, hk⟩ : ∃ k, k + j + 1 = n := ⟨n - 1 - j, by omega⟩
      have hkl : k < dbl.length := by have := HN.out; omega
      obtain ⟨qc, zc, cv0, hqc⟩ := hVi k _ (List.getElem?_eq_getElem hkl)
      have cx := cell_later HI.out.below cv0
      have htk := back_take (dbl := dbl) (j := j) (k := k) (by have := HN.out; omega) (by have := HN.out; omega) hkl
      have hT := turned_any qc zc dbl[k] wr (hqc.later HI.out.below) (by have := HA.out _ (List.getElem_mem hkl); omega)
      have e1 : (n : Int) - 1 - (j : Int) = (k : Int) := by omega
      have e0 : (0 : Int) ≤ (n : Int) - 1 := by omega
      have e2 : (0 : Int) ≤ (k : Int) := by omega
      have e3 : (k : Int) < (n : Int) := by omega
      have j1 : (j : Int) < (n : Int) := by omega
      have n1 : (n : Int) ≤ 60 := by omega
      have HTK := Lib.hid htk
      clear hVi cv0 hqc htk hk hjg
      generalize dbl[k] = d at *
      clear hkl
      obtain ⟨L, hL⟩ : ∃ L, d.length = L := ⟨_, rfl⟩
      rw [hL] at cx hT
      have HLL := Lib.hid (show d.reverse.length = L by rw [List.length_reverse]; exact hL)
      clear hL
      go_wp2_with fail
      refine hT.mono ?_
      rintro e w3 ⟨v3, rfl, ho3, hb3⟩
      obtain ⟨p3, z3, hv3, hp3⟩ := own_shp ho3
      subst hv3
      have hB3 := HI.out.later hb3
      obtain ⟨rows, hrow, _⟩ := hB3.row
      obtain ⟨ps, cs, hs5, hB_⟩ := own_shp hrow
      clear hB_
      subst hs5
      have hal := below1 w3 (.cells #[.slice p3 L z3] 23)
      have hB4 := hB3.later hal
      have hl3 : LitsIn w3 p3 L (fnL d.reverse) := by
        have ho := ho3
        rw [← HLL.out] at ho ⊢
        exact lits_own ho
      have hne : ∀ ad, p3 = some ad → (Value.slice ps j cs).ownBlock ≠ some ad.block ∧ ad.block < w3.heap.size := fun ad e => by
        have h1 := own_lt ho3 (k := ad.block) (by rw [e]; rfl)
        refine ⟨fun e2 => ?_, h1.2⟩
        obtain ⟨rows0, hr0, _⟩ := HI.out.row
        have := (own_lt hr0 e2).2
        omega
      have HB4 := Lib.hid hB4
      have HL4 := Lib.hid (hl3.later hal)
      have HNE := Lib.hid (show ∀ ad, p3 = some ad → (Value.slice ps j cs).ownBlock ≠ some ad.block ∧ ad.block < (w3.alloc (.cells #[.slice p3 L z3] 23)).heap.size from fun ad e => ⟨(hne ad e).1, Nat.lt_of_lt_of_le (hne ad e).2 hal.size⟩)
      have HOW := Lib.hid (own_later hrow hal)
      have hws := hB4.below.size
      clear hT ho3 hb3 hp3 hB3 hrow hal hB4 hl3 hne HI
      go_wp2_with (at_builtin; refine wpList_append_own_at _ rfl _ _ 22 rfl w.heap.size 23 i23 (.slice none 0 0) 1 24 Try.underlying22 hi23 hy0 hy1 hy2 rfl (by omega) _ j rows rfl HOW.out ⟨w3.heap.size, 0, none⟩ 1 1 [.slice p3 L z3] rfl rfl ?qc2 ?qc3 ?qc4 ?qc5 ?qc6 ?_)
      case qc2 =>
        intro jj u hjj
        rw [Lib.add_plain]
        match jj, hjj with
        | 0, hjj => cases hjj; simp [go_sem]
      case qc3 => intro u hu; simp at hu; rcases hu with rfl; rfl
      case qc4 => have hml : maxLen = 9223372036854775807 := rfl; omega
      case qc5 => omega
      case qc6 => exact hws
      intro v5 w5 hown hgrow _ hloc
      have h5 := HB4.out.push (c := d.reverse) (z := z3) (by rw [List.length_take, HBLL.out]; omega) (by rw [HLL.out]; exact HL4.out) HNE.out hgrow (fun rows2 hr2 => by
        have := own_same hr2 HOW.out
        subst this
        rw [HLL.out]
        exact hown) (by rw [World.size_alloc]; exact hloc)
      rw [← HTK.out] at h5
      have H5 := Lib.hid h5
      clear h5 hown hgrow hloc
      go_wp2_with fail
      go_roundg (n - (j + 1))
      case measure => have := HJG.out; omega
      case rel => exact ⟨j + 1, by omega, by go_num, H5⟩
    · obtain rfl : j = n := by omega
      have hfull : (backL dbl).take j = backL dbl := by rw [← HBLL.out, List.take_length]
      have hI := HI.out
      rw [hfull] at hI
      obtain ⟨rows, hrow, _⟩ := hI.row
      obtain ⟨ps, cs, hs5, hB_⟩ := own_shp hrow
      clear hB_
      subst hs5
      have HR := Lib.hid (hI.rows HBLL.out)
      have HBE := Lib.hid hI.below
      clear hI hrow HI hfull hjg
      go_wp2_with fail
      refine (HU1.out wr HBE.out).mono ?_
      rintro e w3 ⟨⟨o1, p1, c1, hp1, rfl, hl1⟩, hb3⟩
      have HB3 := Lib.hid (chain HBE.out hb3)
      have HR3 := Lib.hid (HR.out.later hb3)
      have HP1 := Lib.hid hp1
      have HL1 := Lib.hid hl1
      clear hp1 hl1 hb3
      have hT := turned_any q zq c w3 (HQ.out.later HB3.out) (by rw [HM.out]; omega)
      rw [HM.out] at hT
      have ho15 := HP5.out o1 HP1.out
      obtain ⟨L1, hL1⟩ : ∃ L, o1.length = L := ⟨_, rfl⟩
      rw [hL1] at HL1 ho15 ⊢
      have HLL1 := Lib.hid hL1
      clear hL1
      go_wp2_with fail
      refine hT.mono ?_
      rintro e w4 ⟨v4, rfl, ho4, hb4⟩
      obtain ⟨p4, z4, hv4, hB_⟩ := own_shp ho4
      clear hB_
      subst hv4
      have hrl : c.reverse.length = m := by rw [List.length_reverse]; exact HM.out
      have hl4 : LitsIn w4 p4 m (fnL c.reverse) := by
        rw [← hrl] at ho4 ⊢
        exact lits_own ho4
      have HB4 := Lib.hid (chain HB3.out hb4)
      have hU := HU2.out w4 ps cs p4 z4 HB4.out (HR3.out.later hb4) hl4
      have HL14 := Lib.hid (HL1.out.later hb4)
      clear hT ho4 hb4 hl4 hrl
      go_wp2_with fail
      refine hU.mono ?_
      rintro e w5 ⟨⟨o2, p2, c2, hp2, rfl, hl2⟩, hb5⟩
      obtain rfl := HP.out o1 o2 HP1.out hp2
      rw [HLL1.out] at hl2 ⊢
      have hAl := alike_same p1 L1 c1 (fnL o1) p2 c2 w5 (HL14.out.later hb5) (by omega) hl2
      have HB5 := Lib.hid (chain HB4.out hb5)
      clear hU hb5 hl2 hp2
      rcases her with ⟨rfl, rfl⟩ | ⟨rfl, rfl⟩ | ⟨rfl, rfl⟩
      all_goals
        go_wp2_with fail
        refine hAl.mono ?_
        rintro e w6 ⟨rfl, hb6⟩
        have HB6 := Lib.hid (chain HB5.out hb6)
        clear hb6 hAl
        go_wp2_with fail
        refine (HK.out _).mono ?_
        rintro e w7 ⟨rfl, hb7⟩
        have HB7 := Lib.hid (chain HB6.out hb7)
        clear hb7
        go_wp2_with fail
        go_ret
        exact ⟨rfl, HB7.out⟩
end Go.Proofs.Ytgdncnalahdjeaa
namespace Go.Proofs.Ytgdncnalahdjeaa
open Go Go.RowKit Go.Maps

set_option maxRecDepth 100000 in
set_option maxHeartbeats 1600000 in
theorem order_skip (p : Option Addr) (z n : Nat) (q : Option Addr) (zq m : Nat) (w : World) (b : Bool) (hb : b = true ∨ 30 < m) (HL : Calls Try.prog 17 #[.slice p n z] w fun e w' => e = .returned (.bool b) ∧ w' = w) :
    Calls Try.prog 9 #[.slice p n z, .slice q m zq] w fun e w' => e = .returned (.bool true) ∧ Below w.heap.size w w' := by
  have HK := Lib.hid known_any
  cases b with
  | true =>
    clear hb
    go_enter Try.func9, Try.ntmps9
    go_wp2_with fail
    refine HL.mono ?_
    rintro e w1 ⟨rfl, hw⟩
    obtain rfl := hw.symm
    clear HL
    go_wp2_with fail
    refine (HK.out _).mono ?_
    rintro e w2 ⟨rfl, hb⟩
    have HB := Lib.hid hb
    clear hb
    go_wp2_with fail
    go_ret
    exact ⟨rfl, HB.out⟩
  | false =>
    have h30 : 30 < m := by
      rcases hb with h | h
      · cases h
      · exact h
    have q1 : (30 : Int) < (m : Int) := by omega
    clear hb
    go_enter Try.func9, Try.ntmps9
    go_wp2_with fail
    refine HL.mono ?_
    rintro e w1 ⟨rfl, hw⟩
    obtain rfl := hw.symm
    clear HL
    go_wp2_with fail
    refine (HK.out _).mono ?_
    rintro e w2 ⟨rfl, hb⟩
    have HB := Lib.hid hb
    clear hb
    go_wp2_with fail
    go_ret
    exact ⟨rfl, HB.out⟩
theorem lits_none (W : World) (p : Option Addr) : LitsIn W p ([] : List Int).length (fnL []) := fun h => by simp at h
theorem order_any (p : Option Addr) (z : Nat) (dbl : List (List Int)) (q : Option Addr) (zq : Nat) (c : List Int) (w : World) (hV : RowsIn w p dbl) (hn : dbl.length ≤ 9223372036854775807) (hf : Fit63 dbl) (hq : LitsIn w q c.length (fnL c)) (hc : c.length ≤ 9223372036854775807) :
    Calls Try.prog 9 #[.slice p dbl.length z, .slice q c.length zq] w fun e w' => e = .returned (.bool true) ∧ Below w.heap.size w w' := by
  have HL := large_any p z dbl w hV hn hf
  by_cases hskip : largeB dbl = true ∨ 30 < c.length
  · exact order_skip p z _ q zq _ w _ hskip HL
  · have hl : largeB dbl = false := by
      cases h : largeB dbl with
      | true => exact absurd (.inl h) hskip
      | false => rfl
    have h30 : c.length ≤ 30 := Nat.le_of_not_lt (fun h => hskip (.inr h))
    obtain ⟨h60, hall⟩ := largeB_no hl
    rw [hl] at HL
    have hbl := backL_len dbl
    have hfb : ∀ d, d ∈ backL dbl → d.length ≤ 30 := fun d hd => by
      have := hall _ (mem_back.1 hd)
      rwa [List.length_reverse] at this
    have hf63 : Fit63 (backL dbl) := fun d hd => by have := hfb d hd; omega
    have hrl : c.reverse.length = c.length := List.length_reverse
    by_cases hok : allMay dbl = true ∧ mayC c = true
    · obtain ⟨h1, h2⟩ := hok
      have hs1 : (dbl.flatten ++ c).length ≤ 5000 := by
        rw [List.length_append]
        have := flat_len hall
        omega
      have hs2 : ((backL dbl).flatten ++ c.reverse).length ≤ 5000 := by
        rw [List.length_append]
        have := flat_len hfb
        omega
      have u1 := fun W (hb : Below w.heap.size w W) => rupUnits_yes p z dbl q zq c W (hV.later hb) (by omega) hf (hq.later hb) h1 h2 hs1
      have u2 := fun W ps cs pg cg (hr : RowsIn W ps (backL dbl)) (hg : LitsIn W pg c.length (fnL c.reverse)) => rupUnits_yes ps cs (backL dbl) pg cg c.reverse W hr (by omega) hf63 (by rw [hrl]; exact hg) (by rw [allMay_back]; exact h1) (by rw [mayC_rev]; exact h2) hs2
      rw [hbl, hrl] at u2
      by_cases hcf : Confl dbl c
      · refine order_walk p z dbl q zq c w true 0 (fun o => o = []) (fun a b ha hb => ha.trans hb.symm) (fun a ha => by rw [ha]; simp) (.inr (.inl ⟨rfl, rfl⟩)) hV hq h60 hall h30 HL (fun W hb => ?_) (fun W ps cs pg cg hb hr hg => ?_)
        · refine (u1 W hb).mono ?_
          rintro e w' ⟨h | h, hb9⟩
          · exact ⟨⟨[], none, 0, rfl, h.2, lits_none _ _⟩, hb9⟩
          · exact absurd hcf h.1
        · refine (u2 W ps cs pg cg hr hg).mono ?_
          rintro e w' ⟨h | h, hb9⟩
          · exact ⟨⟨[], none, 0, rfl, h.2, lits_none _ _⟩, hb9⟩
          · exact absurd ((back_confl dbl c).1 hcf) h.1
      · refine order_walk p z dbl q zq c w false 0 (fun o => o.Pairwise ltI ∧ o.length ≤ 5000 ∧ ∀ l, l ∈ o ↔ Der dbl c l) (fun a b ha hb => srt_unique a b ha.1 hb.1 (fun x => (ha.2.2 x).trans (hb.2.2 x).symm)) (fun a ha => ha.2.1) (.inr (.inr ⟨rfl, rfl⟩)) hV hq h60 hall h30 HL (fun W hb => ?_) (fun W ps cs pg cg hb hr hg => ?_)
        · refine (u1 W hb).mono ?_
          rintro e w' ⟨h | ⟨_, pp, cc, o, he, hl9, a1, a2, a3⟩, hb9⟩
          · exact absurd h.1 hcf
          · exact ⟨⟨o, pp, cc, ⟨a1, a2, a3⟩, he, hl9⟩, hb9⟩
        · refine (u2 W ps cs pg cg hr hg).mono ?_
          rintro e w' ⟨h | ⟨_, pp, cc, o, he, hl9, a1, a2, a3⟩, hb9⟩
          · exact absurd ((back_confl dbl c).2 h.1) hcf
          · exact ⟨⟨o, pp, cc, ⟨a1, a2, fun l => (a3 l).trans (back_der dbl c l).symm⟩, he, hl9⟩, hb9⟩
    · have hno : allMay dbl = false ∨ mayC c = false := by
        cases ha : allMay dbl with
        | false => exact .inl rfl
        | true =>
          cases hm : mayC c with
          | false => exact .inr rfl
          | true => exact absurd ⟨ha, hm⟩ hok
      refine order_walk p z dbl q zq c w false 2 (fun o => o = []) (fun a b ha hb => ha.trans hb.symm) (fun a ha => by rw [ha]; simp) (.inl ⟨rfl, rfl⟩) hV hq h60 hall h30 HL (fun W hb => ?_) (fun W ps cs pg cg hb hr hg => ?_)
      · refine (rupUnits_no p z dbl q zq c W (hV.later hb) hn hf (hq.later hb) hc hno).mono ?_
        rintro e w' ⟨he, rfl⟩
        exact ⟨⟨[], none, 0, rfl, he, lits_none _ _⟩, Below.refl _ _⟩
      · have := rupUnits_no ps cs (backL dbl) pg cg c.reverse W hr (by omega) hf63 (by rw [hrl]; exact hg) (by omega) (by rw [allMay_back, mayC_rev]; exact hno)
        rw [hbl, hrl] at this
        refine this.mono ?_
        rintro e w' ⟨he, rfl⟩
        exact ⟨⟨[], none, 0, rfl, he, lits_none _ _⟩, Below.refl _ _⟩
end Go.Proofs.Ytgdncnalahdjeaa
namespace Go.Proofs.Ytgdncnalahdjeaa
open Go Go.RowKit Go.Maps

/-- .. and what is nil has no room. -/
def RowsZ (W : World) (p : Option Addr) (dbl : List (List Int)) : Prop := 0 < dbl.length → ∃ b off, p = some ⟨b, off, none⟩ ∧ ∀ (i : Nat) (c : List Int), dbl[i]? = some c → ∃ q z, W.cell? ⟨b, off + i, none⟩ = some (.slice q c.length z) ∧ LitsIn W q c.length (fnL c) ∧ (q = none → z = 0)
theorem RowsZ.rows {W : World} {p : Option Addr} {dbl : List (List Int)} (h : RowsZ W p dbl) : RowsIn W p dbl := fun hn => by
  obtain ⟨b, off, e, hc⟩ := h hn
  refine ⟨b, off, e, fun i c hi => ?_⟩
  obtain ⟨q, z, h1, h2, _⟩ := hc i c hi
  exact ⟨q, z, h1, h2⟩
set_option maxRecDepth 100000 in
set_option maxHeartbeats 1600000 in
theorem copied_at (p : Option Addr) (z : Nat) (dbl : List (List Int)) (w : World) (hV : RowsZ w p dbl) (h60 : dbl.length ≤ 60) (hall : ∀ d, d ∈ dbl → d.length ≤ 30) :
    Calls Try.prog 19 #[.slice p dbl.length z] w fun e w' => ∃ v', e = .returned v' ∧ BackAt w w' v' dbl.length dbl := by
  obtain ⟨i23, hi23, hy0, hy1, hy2⟩ := info23
  have HV := Lib.hid hV
  have HA := Lib.hid hall
  clear hV hall
  obtain ⟨n, hnn⟩ : ∃ n, dbl.length = n := ⟨_, rfl⟩
  rw [hnn] at h60 ⊢
  have HN := Lib.hid hnn
  clear hnn
  go_enter Try.func19, Try.ntmps19
  go_wp2_with fail
  go_loopg [3, 7] n (fun gk s5 s23 wx => ∃ j : Nat, j + gk = n ∧ s23 = .int .i64 (j : Int) ∧ Hid (BackAt w wx s5 j (dbl.take j)))
  case atStart => exact ⟨0, by omega, rfl, Lib.hid ⟨Below.refl _ _, [], World.ownsRow_nil _ _ _ _, fun i c hi => by simp at hi⟩⟩
  case round =>
    obtain ⟨j, hjg, rfl, HI⟩ := hrel
    have HJG := Lib.hid hjg
    by_cases hjn : j < n
    · obtain ⟨b, off, rfl, hVi⟩ := HV.out (by have := HN.out; omega)
      have hkl : j < dbl.length := by have := HN.out; omega
      obtain ⟨qc, zc, cv0, hqc, hqz⟩ := hVi j _ (List.getElem?_eq_getElem hkl)
      have cx := cell_later HI.out.below cv0
      have htk : dbl.take (j + 1) = dbl.take j ++ [dbl[j]] := (List.take_append_getElem hkl).symm
      have hT := copied_any qc dbl[j].length zc (fnL dbl[j]) wr (hqc.later HI.out.below) (by have := HA.out _ (List.getElem_mem hkl); omega) hqz
      rw [rowL_fn] at hT
      have e2 : (0 : Int) ≤ (j : Int) := by omega
      have j1 : (j : Int) < (n : Int) := by omega
      have n1 : (n : Int) ≤ 60 := by omega
      have HTK := Lib.hid htk
      clear hVi cv0 hqc hqz htk hjg
      generalize dbl[j] = d at *
      clear hkl
      obtain ⟨L, hL⟩ : ∃ L, d.length = L := ⟨_, rfl⟩
      rw [hL] at cx hT
      have HLL := Lib.hid hL
      clear hL
      go_wp2_with fail
      refine hT.mono ?_
      rintro e w3 ⟨v3, rfl, ho3, hb3⟩
      obtain ⟨p3, z3, hv3, hp3⟩ := own_shp ho3
      subst hv3
      have hB3 := HI.out.later hb3
      obtain ⟨rows, hrow, _⟩ := hB3.row
      obtain ⟨ps, cs, hs5, hB_⟩ := own_shp hrow
      clear hB_
      subst hs5
      have hal := below1 w3 (.cells #[.slice p3 L z3] 23)
      have hB4 := hB3.later hal
      have hl3 : LitsIn w3 p3 L (fnL d) := by
        have ho := ho3
        rw [← HLL.out] at ho ⊢
        exact lits_own ho
      have hne : ∀ ad, p3 = some ad → (Value.slice ps j cs).ownBlock ≠ some ad.block ∧ ad.block < w3.heap.size := fun ad e => by
        have h1 := own_lt ho3 (k := ad.block) (by rw [e]; rfl)
        refine ⟨fun e2 => ?_, h1.2⟩
        obtain ⟨rows0, hr0, _⟩ := HI.out.row
        have := (own_lt hr0 e2).2
        omega
      have HB4 := Lib.hid hB4
      have HL4 := Lib.hid (hl3.later hal)
      have HNE := Lib.hid (show ∀ ad, p3 = some ad → (Value.slice ps j cs).ownBlock ≠ some ad.block ∧ ad.block < (w3.alloc (.cells #[.slice p3 L z3] 23)).heap.size from fun ad e => ⟨(hne ad e).1, Nat.lt_of_lt_of_le (hne ad e).2 hal.size⟩)
      have HOW := Lib.hid (own_later hrow hal)
      have hws := hB4.below.size
      clear hT ho3 hb3 hp3 hB3 hrow hal hB4 hl3 hne HI
      go_wp2_with (at_builtin; refine wpList_append_own_at _ rfl _ _ 22 rfl w.heap.size 23 i23 (.slice none 0 0) 1 24 Try.underlying22 hi23 hy0 hy1 hy2 rfl (by omega) _ j rows rfl HOW.out ⟨w3.heap.size, 0, none⟩ 1 1 [.slice p3 L z3] rfl rfl ?qc2 ?qc3 ?qc4 ?qc5 ?qc6 ?_)
      case qc2 =>
        intro jj u hjj
        rw [Lib.add_plain]
        match jj, hjj with
        | 0, hjj => cases hjj; simp [go_sem]
      case qc3 => intro u hu; simp at hu; rcases hu with rfl; rfl
      case qc4 => have hml : maxLen = 9223372036854775807 := rfl; omega
      case qc5 => omega
      case qc6 => exact hws
      intro v5 w5 hown hgrow _ hloc
      have h5 := HB4.out.push (c := d) (z := z3) (by rw [List.length_take, HN.out]; omega) (by rw [HLL.out]; exact HL4.out) HNE.out hgrow (fun rows2 hr2 => by
        have := own_same hr2 HOW.out
        subst this
        rw [HLL.out]
        exact hown) (by rw [World.size_alloc]; exact hloc)
      rw [← HTK.out] at h5
      have H5 := Lib.hid h5
      clear h5 hown hgrow hloc
      go_wp2_with fail
      go_roundg (n - (j + 1))
      case measure => have := HJG.out; omega
      case rel => exact ⟨j + 1, by omega, by go_num, H5⟩
    · obtain rfl : j = n := by omega
      have hI := HI.out
      rw [show dbl.take j = dbl by rw [← HN.out, List.take_length]] at hI
      have HF := Lib.hid hI
      clear hI HI hjg
      go_wp2_with fail
      go_ret
      exact ⟨_, rfl, HF.out⟩
/-- an argument's clauses put behind the call's own, by the run. -/
theorem BackAt.join {w wr : World} {s : Value} {j : Nat} {bl : List (List Int)} (h : BackAt w wr s j bl) (hlen : bl.length = j) {p : Option Addr} {z : Nat} {more : List (List Int)} (hm : RowsIn w p more) (hz : p = none → z = 0) (hj : j ≤ 1000) (hk : more.length ≤ 1000) :
    ∃ v' w', (Builtin.append_ #[22, 22] 22 #[s, .slice p more.length z]).run Try.prog wr = .ok v' w' ∧ ∃ ps cs, v' = .slice ps (bl ++ more).length cs ∧ RowsIn w' ps (bl ++ more) ∧ Below w.heap.size w w' := by
  obtain ⟨i23, hi23, hy0, hy1, hy2⟩ := info23
  obtain ⟨rows, h1, h2⟩ := h.row
  have hrl : rows.length = j := by have := h1.1; omega
  cases p with
  | none =>
    have hz0 := hz rfl
    subst hz0
    have hm0 : more = [] := by
      cases more with
      | nil => rfl
      | cons c m => obtain ⟨b, off, e, _⟩ := hm (by simp); cases e
    subst hm0
    obtain ⟨ps, cs, hs, _⟩ := own_shp h1
    subst hs
    refine ⟨.slice ps j cs, wr, run_append_owned_none (P := Try.prog) (w := wr) w.heap.size 22 22 23 i23 1 Try.underlying22 hi23 _ j rows h1, ps, cs, by simp [hlen], by simpa using h.rows hlen, h.below⟩
  | some ad =>
    have each : ∀ i, i < more.length → ∃ y : Option Addr × Nat, w.cell? (ad.add i) = some (.slice y.1 (more.getD i []).length y.2) ∧ LitsIn w y.1 (more.getD i []).length (fnL (more.getD i [])) := fun i hi => by
      obtain ⟨b, off, e, hc⟩ := hm (by omega)
      cases e
      obtain ⟨q, zq, a1, a2⟩ := hc i _ (List.getElem?_eq_getElem hi)
      have eg : more.getD i [] = more[i] := getD_eq hi
      rw [eg]
      exact ⟨(q, zq), by rw [Lib.add_plain]; exact a1, a2⟩
    obtain ⟨y, hy⟩ := Deep.choose_lt each
    obtain ⟨v', w', hr, ho, hg, _, hloc⟩ := run_append_own_at (P := Try.prog) wr w.heap.size 22 22 23 i23 (.slice none 0 0) 1 24 Try.underlying22 hi23 hy0 hy1 hy2 rfl (by omega) s j rows h1 ad more.length z ((List.range more.length).map fun i => .slice (y i).1 (more.getD i []).length (y i).2) (by simp) (fun i u hu => by
      have him : i < more.length := by
        have := (List.getElem?_eq_some_iff.1 hu).1
        simpa using this
      simp [him] at hu
      subst hu
      have := (hy i him).1
      rw [show more.getD i [] = more[i] from getD_eq him] at this
      have := cell_later h.below this
      simpa [getD_eq him] using this) (fun u hu => by obtain ⟨i, _, rfl⟩ := List.mem_map.1 hu; rfl) (by unfold maxLen; omega) (by omega) h.below.size
    obtain ⟨ps, cs, hs, _⟩ := own_shp ho
    subst hs
    have ho1 : Only (fun k => s.ownBlock = some k) wr w' := Only.of_grown hg
    have hbw : Below w.heap.size w w' := h.below.grown hg h.below.size (fun k hk => (own_lt h1 hk).1)
    refine ⟨_, w', hr, ps, cs, by rw [List.length_append, hlen], fun hn => ?_, hbw⟩
    rw [List.length_append, hlen] at hn
    obtain ⟨g, c', e⟩ := own_some ho hn
    cases e
    refine ⟨g, 0, rfl, fun i c hi => ?_⟩
    rw [Nat.zero_add]
    by_cases hij : i < j
    · rw [List.getElem?_append_left (by omega)] at hi
      obtain ⟨q, zq, a1, a2, a3⟩ := h2 i c hi
      exact ⟨q, zq, (own_cell ho i _ (by rw [List.getElem?_append_left (by omega)]; exact a1)).1, a2.only ho1 (fun ad e1 => (a3 ad e1).1)⟩
    · rw [List.getElem?_append_right (by omega), hlen] at hi
      have him : i - j < more.length := (List.getElem?_eq_some_iff.1 hi).1
      have hce : more.getD (i - j) [] = c := by rw [getD_eq him]; exact (List.getElem?_eq_some_iff.1 hi).2
      have hyi := hy _ him
      rw [hce] at hyi
      refine ⟨(y (i - j)).1, (y (i - j)).2, (own_cell ho i _ (by
        rw [List.getElem?_append_right (by omega), hrl, List.getElem?_map, List.getElem?_range him]
        simp only [Option.map_some]
        rw [hce])).1, hyi.2.later hbw⟩
end Go.Proofs.Ytgdncnalahdjeaa
namespace Go.Proofs.Ytgdncnalahdjeaa
open Go Go.RowKit Go.Maps

theorem wrap_u' (x : Int) : IntKind.u64.wrap x = x % 18446744073709551616 := by
  simp [IntKind.wrap, IntKind.bits, IntKind.signed]
theorem row_cut {db row : List (List Int)} {n m k : Nat} {a b : Bool} (h : RowOut db row n a) (hk : k ≤ row.length) (h2 : RowOut db (row.take k) m b) : m = min n k ∧ (b = true → m = k) := by
  obtain ⟨a1, a2, a3, a4⟩ := h
  obtain ⟨b1, b2, b3, b4⟩ := h2
  have hlen : (row.take k).length = k := by rw [List.length_take]; omega
  rw [hlen] at b1 b4
  have htt : ∀ i, i ≤ k → (row.take k).take i = row.take i := fun i hi => by rw [List.take_take, Nat.min_eq_left hi]
  refine ⟨?_, fun h => (b4.1 h).1⟩
  rcases Nat.lt_trichotomy m (min n k) with hlt | heq | hgt
  · exfalso
    have hmk : m < k := by omega
    have hmr : m < row.length := by omega
    have hc := a2 m _ (by omega) (List.getElem?_eq_getElem hmr)
    have hn := b3 row[m] (by rw [List.getElem?_take_of_lt hmk]; exact List.getElem?_eq_getElem hmr)
    rw [htt m (by omega)] at hn
    exact hn hc
  · exact heq
  · exfalso
    have hnm : n < m := by omega
    have hnr : n < row.length := by omega
    have hc := b2 n row[n] hnm (by rw [List.getElem?_take_of_lt (by omega)]; exact List.getElem?_eq_getElem hnr)
    rw [htt n (by omega)] at hc
    exact a3 _ (List.getElem?_eq_getElem hnr) hc
theorem row_more {db more row : List (List Int)} {n o : Nat} {a c : Bool} (h : RowOut db row n a) (h2 : RowOut (db ++ more) row o c) : n ≤ o ∧ (a = true → c = true) := by
  obtain ⟨a1, a2, a3, a4⟩ := h
  obtain ⟨b1, b2, b3, b4⟩ := h2
  have hle : n ≤ o := by
    rcases Nat.lt_or_ge o n with hlt | hge
    · exfalso
      have hor : o < row.length := by omega
      have hc := a2 o _ hlt (List.getElem?_eq_getElem hor)
      exact b3 _ (List.getElem?_eq_getElem hor) (hc.mono (fun d hd => by
        rcases List.mem_append.1 hd with hd | hd
        · exact List.mem_append_left _ (List.mem_append_left _ hd)
        · exact List.mem_append_right _ hd) (fun _ h => h))
    · exact hge
  refine ⟨hle, fun h => b4.2 ?_⟩
  obtain ⟨e1, e2⟩ := a4.1 h
  exact ⟨by omega, e2⟩
end Go.Proofs.Ytgdncnalahdjeaa
namespace Go.Proofs.Ytgdncnalahdjeaa
open Go Go.RowKit Go.Maps

theorem RowsZ.later {W W' : World} {p : Option Addr} {dbl : List (List Int)} (h : RowsZ W p dbl) (hb : Below W.heap.size W W') : RowsZ W' p dbl := fun hn => by
  obtain ⟨b, off, e, hc⟩ := h hn
  refine ⟨b, off, e, fun i c hi => ?_⟩
  obtain ⟨q, z, h1, h2, h3⟩ := hc i c hi
  exact ⟨q, z, cell_later hb h1, h2.later hb, h3⟩
set_option maxRecDepth 100000 in
set_option maxHeartbeats 3200000 in
theorem cut_walk (p : Option Addr) (z : Nat) (dbl : List (List Int)) (q : Option Addr) (zq m : Nat) (r : Option Addr) (zr : Nat) (more : List (List Int)) (t : Int) (w : World) (k : Nat) (n m2 o : Nat) (a b c : Bool) (e1 e2 e3 : Int)
    (hcase : (e1 = 2) ∨ (e1 = 0 ∧ e2 = 0 ∧ m2 = min n k ∧ (b = true → m2 = k) ∧ ((e3 = 2) ∨ (e3 = 0 ∧ n ≤ o ∧ (a = true → c = true)))))
    (hV : RowsZ w p dbl) (hR : RowsZ w r more) (hrz : r = none → zr = 0) (h60 : dbl.length ≤ 60) (hall : ∀ d, d ∈ dbl → d.length ≤ 30) (hm60 : m ≤ 60) (hmo : more.length ≤ 60) (hz1 : m ≤ zq) (hz2 : zq ≤ 9223372036854775807) (hk : k ≤ m)
    (hkw : (IntKind.u64.wrap t).tmod ((m : Int) + 1) = (k : Int))
    (L1 : Calls Try.prog 17 #[.slice p dbl.length z] w fun e w' => e = .returned (.bool false) ∧ w' = w)
    (L2 : Calls Try.prog 17 #[.slice q m zq] w fun e w' => e = .returned (.bool false) ∧ w' = w)
    (L3 : Calls Try.prog 17 #[.slice r more.length zr] w fun e w' => e = .returned (.bool false) ∧ w' = w)
    (R1 : ∀ W, Below w.heap.size w W → Calls Try.prog 27 #[.slice p dbl.length z, .slice q m zq] W fun e w' => e = .returned (.tuple #[.int .i64 (n : Int), .bool a, .int .i64 e1]) ∧ Below W.heap.size W w')
    (R2 : ∀ W, Below w.heap.size w W → Calls Try.prog 27 #[.slice p dbl.length z, .slice q k zq] W fun e w' => e = .returned (.tuple #[.int .i64 (m2 : Int), .bool b, .int .i64 e2]) ∧ Below W.heap.size W w')
    (R3 : ∀ W ps cs, Below w.heap.size w W → RowsIn W ps (dbl ++ more) → Calls Try.prog 27 #[.slice ps (dbl ++ more).length cs, .slice q m zq] W fun e w' => e = .returned (.tuple #[.int .i64 (o : Int), .bool c, .int .i64 e3]) ∧ Below W.heap.size W w') :
    Calls Try.prog 10 #[.slice p dbl.length z, .slice q m zq, .slice r more.length zr, .int .i64 t] w fun e w' => e = .returned (.bool true) ∧ Below w.heap.size w w' := by
  have HK := Lib.hid known_any
  have HV := Lib.hid hV
  have HR := Lib.hid hR
  have HA := Lib.hid hall
  have K1 := Lib.hid R1
  have K2 := Lib.hid R2
  have K3 := Lib.hid R3
  have HC := Lib.hid hcase
  have HRZ := Lib.hid hrz
  have HCP := Lib.hid (fun (W : World) (hb : Below w.heap.size w W) (hVW : RowsZ W p dbl) => copied_at p z dbl W hVW h60 hall)
  have hmz : ((m : Int) + 1 == 0) = false := by rw [beq_eq_false_iff_ne]; omega
  have HMO := Lib.hid (And.intro hmo h60)
  clear hV hR hall R1 R2 R3 hcase hrz hmo h60
  obtain ⟨nd, hnd⟩ : ∃ n, dbl.length = n := ⟨_, rfl⟩
  obtain ⟨nm, hnm⟩ : ∃ n, more.length = n := ⟨_, rfl⟩
  rw [hnd] at L1 K1 K2 HCP ⊢
  rw [hnm] at L3 ⊢
  have HND := Lib.hid hnd
  have HNM := Lib.hid hnm
  clear hnd hnm
  have k0 : (0 : Int) ≤ (k : Int) := by omega
  have k1 : (k : Int) ≤ (m : Int) := by omega
  have k2 : (k : Int) ≤ (zq : Int) := by omega
  have k3 : (m : Int) ≤ 60 := by omega
  go_enter Try.func10, Try.ntmps10
  go_wp2_with fail
  refine L1.mono ?_
  rintro e w1 ⟨rfl, hw⟩
  obtain rfl := hw.symm
  clear L1
  go_wp2_with fail
  refine L2.mono ?_
  rintro e w1 ⟨rfl, hw⟩
  obtain rfl := hw.symm
  clear L2
  go_wp2_with fail
  refine L3.mono ?_
  rintro e w1 ⟨rfl, hw⟩
  obtain rfl := hw.symm
  clear L3
  go_wp2_with fail
  refine (K1.out w (Below.refl _ _)).mono ?_
  rintro e w2 ⟨rfl, hb2⟩
  have HB2 := Lib.hid hb2
  clear hb2
  go_wp2_with fail
  refine (K2.out w2 HB2.out).mono ?_
  rintro e w3 ⟨rfl, hb3⟩
  have HB3 := Lib.hid (chain HB2.out hb3)
  clear hb3
  go_wp2_with fail
  refine (HCP.out w3 HB3.out (HV.out.later HB3.out)).mono ?_
  rintro e w4 ⟨v4, rfl, hB4⟩
  obtain ⟨rows4, hr4, _⟩ := hB4.row
  obtain ⟨ps4, cs4, hs4, hB_⟩ := own_shp hr4
  clear hB_
  subst hs4
  obtain ⟨v5, w5, hr5, ps, cs, hv5, hR5, hb5⟩ := hB4.join (by have := HND.out; omega) (HR.out.rows.later HB3.out) HRZ.out (by have := HMO.out.2; have := HND.out; omega) (by have := HMO.out.1; omega)
  subst hv5
  have HB4 := Lib.hid hB4
  have HB5 := Lib.hid (chain HB3.out hb5)
  have HR5 := Lib.hid hR5
  rw [HNM.out] at hr5
  have hlen5 : (dbl ++ more).length = nd + nm := by rw [List.length_append, HND.out, HNM.out]
  rw [hlen5] at hr5
  have HL5 := Lib.hid hlen5
  have H5 := Lib.hid hr5
  clear hr4 hr5 hR5 hb5 hB4 hlen5
  go_wp2_with (at_builtin; refine Lib.wpList_append_run _ rfl _ _ 22 22 rfl _ _ rfl rfl _ _ H5.out ?_)
  have hR3 := K3.out w5 ps cs HB5.out HR5.out
  rw [HL5.out] at hR3
  refine hR3.mono ?_
  rintro e w6 ⟨rfl, hb6⟩
  have HB6 := Lib.hid (chain HB5.out hb6)
  clear hb6 hR3
  rcases HC.out with hE | ⟨hE, hE2, hm2, hbk, hE3⟩
  · subst hE
    go_wp2_with fail
    refine (HK.out w6).mono ?_
    rintro e w7 ⟨rfl, hb7⟩
    have HF := Lib.hid (chain HB6.out hb7)
    clear hb7
    go_wp2_with fail
    go_ret
    exact ⟨rfl, HF.out⟩
  · subst hE hE2
    have hmn : min (n : Int) (k : Int) = (m2 : Int) := by omega
    rcases hE3 with hE3 | ⟨hE3, hno, hac⟩
    · subst hE3
      cases b with
      | true =>
        have hmk := hbk rfl
        subst hmk
        clear hbk hm2
        go_wp2_with fail
        refine (HK.out w6).mono ?_
        rintro e w7 ⟨rfl, hb7⟩
        have HF := Lib.hid (chain HB6.out hb7)
        clear hb7
        go_wp2_with fail
        go_ret
        exact ⟨rfl, HF.out⟩
      | false =>
        clear hbk hm2
        go_wp2_with fail
        refine (HK.out w6).mono ?_
        rintro e w7 ⟨rfl, hb7⟩
        have HF := Lib.hid (chain HB6.out hb7)
        clear hb7
        go_wp2_with fail
        go_ret
        exact ⟨rfl, HF.out⟩
    · subst hE3
      have hlt : ¬ (o : Int) < (n : Int) := by omega
      clear hno
      cases a with
      | true =>
        have hc := hac rfl
        subst hc
        clear hac
        cases b with
        | true =>
          have hmk := hbk rfl
          subst hmk
          clear hbk hm2
          go_wp2_with fail
          refine (HK.out w6).mono ?_
          rintro e w7 ⟨rfl, hb7⟩
          have HF := Lib.hid (chain HB6.out hb7)
          clear hb7
          go_wp2_with fail
          go_ret
          exact ⟨rfl, HF.out⟩
        | false =>
          clear hbk hm2
          go_wp2_with fail
          refine (HK.out w6).mono ?_
          rintro e w7 ⟨rfl, hb7⟩
          have HF := Lib.hid (chain HB6.out hb7)
          clear hb7
          go_wp2_with fail
          go_ret
          exact ⟨rfl, HF.out⟩
      | false =>
        clear hac
        cases b with
        | true =>
          have hmk := hbk rfl
          subst hmk
          clear hbk hm2
          go_wp2_with fail
          refine (HK.out w6).mono ?_
          rintro e w7 ⟨rfl, hb7⟩
          have HF := Lib.hid (chain HB6.out hb7)
          clear hb7
          go_wp2_with fail
          go_ret
          exact ⟨rfl, HF.out⟩
        | false =>
          clear hbk hm2
          go_wp2_with fail
          refine (HK.out w6).mono ?_
          rintro e w7 ⟨rfl, hb7⟩
          have HF := Lib.hid (chain HB6.out hb7)
          clear hb7
          go_wp2_with fail
          go_ret
          exact ⟨rfl, HF.out⟩
end Go.Proofs.Ytgdncnalahdjeaa
namespace Go.Proofs.Ytgdncnalahdjeaa
open Go Go.RowKit Go.Maps

theorem row_ex (db row : List (List Int)) : ∃ n a, RowOut db row n a := by
  have key : ∀ j, j ≤ row.length → (∃ n, n < j ∧ (∀ i c, i < n → row[i]? = some c → Confl (db ++ row.take i) (negs c)) ∧ (∀ c, row[n]? = some c → ¬ Confl (db ++ row.take n) (negs c))) ∨ (∀ i c, i < j → row[i]? = some c → Confl (db ++ row.take i) (negs c)) := by
    intro j
    induction j with
    | zero => intro _; exact .inr (fun i c hi => by omega)
    | succ j ih =>
      intro hj
      rcases ih (by omega) with ⟨n, h1, h2, h3⟩ | h
      · exact .inl ⟨n, by omega, h2, h3⟩
      · by_cases hc : Confl (db ++ row.take j) (negs row[j])
        · refine .inr (fun i c hi hic => ?_)
          rcases Nat.lt_or_ge i j with hij | hij
          · exact h i c hij hic
          · obtain rfl : i = j := by omega
            rw [List.getElem?_eq_getElem (by omega)] at hic
            cases hic
            exact hc
        · refine .inl ⟨j, by omega, h, fun c hic => ?_⟩
          rw [List.getElem?_eq_getElem (by omega)] at hic
          cases hic
          exact hc
  rcases key row.length (Nat.le_refl _) with ⟨n, h1, h2, h3⟩ | h
  · exact ⟨n, decide (n = row.length ∧ [] ∈ row), by omega, h2, h3, by rw [decide_eq_true_eq]⟩
  · refine ⟨row.length, decide (row.length = row.length ∧ [] ∈ row), Nat.le_refl _, h, fun c hc => ?_, by rw [decide_eq_true_eq]⟩
    rw [List.getElem?_eq_none (Nat.le_refl _)] at hc
    cases hc
theorem row_uniq {db row : List (List Int)} {n n2 : Nat} {a a2 : Bool} (h : RowOut db row n a) (h2 : RowOut db row n2 a2) : n2 = n ∧ a2 = a := by
  have hl : row.take row.length = row := List.take_length
  have h3 := row_cut h (Nat.le_refl _) (by rw [hl]; exact h2)
  have e : n2 = n := by have := h.1; omega
  subst e
  refine ⟨rfl, ?_⟩
  rw [Bool.eq_iff_iff, h2.2.2.2, h.2.2.2]
theorem row_fixed (dbl row : List (List Int)) (hn : dbl.length ≤ 200000) (hf : Fit63 dbl) (hn2 : row.length ≤ 200000) (hf2 : Fit63 row) : ∃ (n : Nat) (a : Bool) (e : Int),
    (((allMay dbl = true ∧ allMay row = true) ∧ e = 0 ∧ RowOut dbl row n a) ∨ ((allMay dbl = false ∨ allMay row = false) ∧ e = 2)) ∧
    ∀ W p z q zq, RowsIn W p dbl → RowsIn W q row → Calls Try.prog 27 #[.slice p dbl.length z, .slice q row.length zq] W fun e' w' => e' = .returned (.tuple #[.int .i64 (n : Int), .bool a, .int .i64 e]) ∧ Below W.heap.size W w' := by
  by_cases hok : allMay dbl = true ∧ allMay row = true
  · obtain ⟨n, a, hro⟩ := row_ex dbl row
    refine ⟨n, a, 0, .inl ⟨hok, rfl, hro⟩, fun W p z q zq hp hq => ?_⟩
    refine (rupRow_yes p z dbl q zq row W hp hn hf hq hn2 hf2 hok.1 hok.2).mono ?_
    rintro e w' ⟨n2, a2, he, hro2, hb⟩
    obtain ⟨e1, e2⟩ := row_uniq hro hro2
    subst e1 e2
    exact ⟨he, hb⟩
  · have hno : allMay dbl = false ∨ allMay row = false := by
      cases ha : allMay dbl with
      | false => exact .inl rfl
      | true =>
        cases hm : allMay row with
        | false => exact .inr rfl
        | true => exact absurd ⟨ha, hm⟩ hok
    refine ⟨0, false, 2, .inr ⟨hno, rfl⟩, fun W p z q zq hp hq => ?_⟩
    refine (rupRow_no p z dbl q zq row W hp (by omega) hf hq (by omega) hf2 hno).mono ?_
    rintro e w' ⟨he, rfl⟩
    exact ⟨he, Below.refl _ _⟩
set_option maxRecDepth 100000 in
set_option maxHeartbeats 1600000 in
theorem cut_skip (p : Option Addr) (z n : Nat) (q : Option Addr) (zq m : Nat) (r : Option Addr) (zr o : Nat) (t : Int) (w : World) (b1 b2 b3 : Bool) (hb : b1 = true ∨ (b1 = false ∧ b2 = true) ∨ (b1 = false ∧ b2 = false ∧ b3 = true))
    (L1 : Calls Try.prog 17 #[.slice p n z] w fun e w' => e = .returned (.bool b1) ∧ w' = w)
    (L2 : Calls Try.prog 17 #[.slice q m zq] w fun e w' => e = .returned (.bool b2) ∧ w' = w)
    (L3 : Calls Try.prog 17 #[.slice r o zr] w fun e w' => e = .returned (.bool b3) ∧ w' = w) :
    Calls Try.prog 10 #[.slice p n z, .slice q m zq, .slice r o zr, .int .i64 t] w fun e w' => e = .returned (.bool true) ∧ Below w.heap.size w w' := by
  have HK := Lib.hid known_any
  rcases hb with hb | ⟨hb, hb2⟩ | ⟨hb, hb2, hb3⟩
  · subst hb
    clear L2 L3
    go_enter Try.func10, Try.ntmps10
    go_wp2_with fail
    refine L1.mono ?_
    rintro e w1 ⟨rfl, hw⟩
    obtain rfl := hw.symm
    clear L1
    go_wp2_with fail
    refine (HK.out _).mono ?_
    rintro e w2 ⟨rfl, hb⟩
    have HB := Lib.hid hb
    clear hb
    go_wp2_with fail
    go_ret
    exact ⟨rfl, HB.out⟩
  · subst hb hb2
    clear L3
    go_enter Try.func10, Try.ntmps10
    go_wp2_with fail
    refine L1.mono ?_
    rintro e w1 ⟨rfl, hw⟩
    obtain rfl := hw.symm
    clear L1
    go_wp2_with fail
    refine L2.mono ?_
    rintro e w1 ⟨rfl, hw⟩
    obtain rfl := hw.symm
    clear L2
    go_wp2_with fail
    refine (HK.out _).mono ?_
    rintro e w2 ⟨rfl, hb⟩
    have HB := Lib.hid hb
    clear hb
    go_wp2_with fail
    go_ret
    exact ⟨rfl, HB.out⟩
  · subst hb hb2 hb3
    go_enter Try.func10, Try.ntmps10
    go_wp2_with fail
    refine L1.mono ?_
    rintro e w1 ⟨rfl, hw⟩
    obtain rfl := hw.symm
    clear L1
    go_wp2_with fail
    refine L2.mono ?_
    rintro e w1 ⟨rfl, hw⟩
    obtain rfl := hw.symm
    clear L2
    go_wp2_with fail
    refine L3.mono ?_
    rintro e w1 ⟨rfl, hw⟩
    obtain rfl := hw.symm
    clear L3
    go_wp2_with fail
    refine (HK.out _).mono ?_
    rintro e w2 ⟨rfl, hb⟩
    have HB := Lib.hid hb
    clear hb
    go_wp2_with fail
    go_ret
    exact ⟨rfl, HB.out⟩
theorem cut_any (p : Option Addr) (z : Nat) (dbl : List (List Int)) (q : Option Addr) (zq : Nat) (row : List (List Int)) (r : Option Addr) (zr : Nat) (more : List (List Int)) (t : Int) (w : World)
    (hV : RowsZ w p dbl) (hn : dbl.length ≤ 9223372036854775807) (hf : Fit63 dbl) (hQ : RowsIn w q row) (hn2 : row.length ≤ 9223372036854775807) (hf2 : Fit63 row) (hz1 : row.length ≤ zq) (hz2 : zq ≤ 9223372036854775807)
    (hR : RowsZ w r more) (hn3 : more.length ≤ 9223372036854775807) (hf3 : Fit63 more) (hrz : r = none → zr = 0) :
    Calls Try.prog 10 #[.slice p dbl.length z, .slice q row.length zq, .slice r more.length zr, .int .i64 t] w fun e w' => e = .returned (.bool true) ∧ Below w.heap.size w w' := by
  have L1 := large_any p z dbl w hV.rows hn hf
  have L2 := large_any q zq row w hQ hn2 hf2
  have L3 := large_any r zr more w hR.rows hn3 hf3
  by_cases hskip : largeB dbl = true ∨ (largeB dbl = false ∧ largeB row = true) ∨ (largeB dbl = false ∧ largeB row = false ∧ largeB more = true)
  · exact cut_skip p z _ q zq _ r zr _ t w _ _ _ hskip L1 L2 L3
  · obtain ⟨l1, l2, l3⟩ : largeB dbl = false ∧ largeB row = false ∧ largeB more = false := by
      cases h1 : largeB dbl with
      | true => exact absurd (.inl h1) hskip
      | false =>
        cases h2 : largeB row with
        | true => exact absurd (.inr (.inl ⟨h1, h2⟩)) hskip
        | false =>
          cases h3 : largeB more with
          | true => exact absurd (.inr (.inr ⟨h1, h2, h3⟩)) hskip
          | false => exact ⟨rfl, rfl, rfl⟩
    rw [l1] at L1
    rw [l2] at L2
    rw [l3] at L3
    obtain ⟨d60, dall⟩ := largeB_no l1
    obtain ⟨r60, rall⟩ := largeB_no l2
    obtain ⟨m60, mall⟩ := largeB_no l3
    obtain ⟨k, hk⟩ : ∃ k : Nat, (k : Int) = t % 18446744073709551616 % ((row.length : Int) + 1) := ⟨(t % 18446744073709551616 % ((row.length : Int) + 1)).toNat, by
      have := Int.emod_nonneg (t % 18446744073709551616) (show (row.length : Int) + 1 ≠ 0 by omega); omega⟩
    have hkm : k ≤ row.length := by
      have := Int.emod_lt_of_pos (t % 18446744073709551616) (show (0 : Int) < (row.length : Int) + 1 by omega); omega
    have hkw : (IntKind.u64.wrap t).tmod ((row.length : Int) + 1) = (k : Int) := by
      rw [wrap_u', Int.tmod_eq_emod_of_nonneg (by omega), hk]
    have hkl : (row.take k).length = k := by rw [List.length_take]; omega
    have hfk : Fit63 (row.take k) := fun c hc => hf2 c (List.mem_of_mem_take hc)
    have hfm : Fit63 (dbl ++ more) := fun c hc => by
      rcases List.mem_append.1 hc with h | h
      · exact hf c h
      · exact hf3 c h
    obtain ⟨n, a, e1, c1, R1⟩ := row_fixed dbl row (by omega) hf (by omega) hf2
    obtain ⟨m2, b, e2, c2, R2⟩ := row_fixed dbl (row.take k) (by omega) hf (by omega) hfk
    obtain ⟨o, c, e3, c3, R3⟩ := row_fixed (dbl ++ more) row (by rw [List.length_append]; omega) hfm (by omega) hf2
    rw [hkl] at R2
    refine cut_walk p z dbl q zq row.length r zr more t w k n m2 o a b c e1 e2 e3 ?_ hV hR hrz d60 dall r60 m60 hz1 hz2 hkm hkw L1 L2 L3 (fun W hb => R1 W p z q zq (hV.rows.later hb) (hQ.later hb)) (fun W hb => R2 W p z q zq (hV.rows.later hb) ((hQ.later hb).take k)) (fun W ps cs hb hr => R3 W ps cs q zq hr (hQ.later hb))
    rcases c1 with ⟨⟨h1, h2⟩, he1, hr1⟩ | ⟨_, he1⟩
    · have ht : allMay (row.take k) = true := List.all_eq_true.2 (fun c hc => List.all_eq_true.1 h2 c (List.mem_of_mem_take hc))
      rcases c2 with ⟨_, he2, hr2⟩ | ⟨h, _⟩
      · obtain ⟨x1, x2⟩ := row_cut hr1 hkm hr2
        refine .inr ⟨he1, he2, x1, x2, ?_⟩
        rcases c3 with ⟨_, he3, hr3⟩ | ⟨_, he3⟩
        · exact .inr ⟨he3, row_more hr1 hr3⟩
        · exact .inl he3
      · rcases h with h | h
        · rw [h1] at h; cases h
        · rw [ht] at h; cases h
    · exact .inl he1
end Go.Proofs.Ytgdncnalahdjeaa
