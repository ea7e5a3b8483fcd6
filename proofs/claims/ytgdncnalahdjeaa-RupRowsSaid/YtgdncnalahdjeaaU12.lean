/- A base at rest; Follows. -/
import Derived.Test.YtgdncnalahdjeaaU11
import Derived.Test.YtgdncnalahdjeaaRefC
import Derived.Test.YtgdncnalahdjeaaNorm
namespace Go.Proofs.Ytgdncnalahdjeaa
open Go Go.RowKit Go.Maps

/-- a base to which the clauses db were added. -/
structure Rest (db cl : List (List Int)) (wt : Int → List Nat) (T : List Int) (nx : Nat) (br : Bool) : Prop where
  stc : Struct db cl wt T
  der : ∀ l, l ∈ T → Der db [] l
  bad : br = true → Confl db []
  ok : br = false → nx = T.length ∧ Watch cl T T ∧ ∀ c, c ∈ db → Taut c ∨ (∃ l, l ∈ c ∧ l ∈ T) ∨ ∃ d, d ∈ cl ∧ ∀ l, l ∈ d → l ∈ c
  le : nx ≤ T.length
def BaseR (W : World) (K : Nat → Kd) (a m : Nat) (db : List (List Int)) : Prop := ∃ cl wt T nx br, BaseAt W K a m (fun _ => False) cl wt T T nx br ∧ Rest db cl wt T nx br
theorem BaseR.later {W W' : World} {K : Nat → Kd} {a m : Nat} {db : List (List Int)} (h : BaseR W K a m db) (hb : Below W.heap.size W W') : BaseR W' K a m db := by
  obtain ⟨cl, wt, T, nx, br, h1, h2⟩ := h
  exact ⟨cl, wt, T, nx, br, h1.later hb, h2⟩
def negs (c : List Int) : List Int := c.map fun x => -x
theorem negs_mem {c : List Int} {l : Int} : l ∈ negs c ↔ -l ∈ c := by
  unfold negs
  rw [List.mem_map]
  constructor
  · rintro ⟨x, hx, rfl⟩; rw [Int.neg_neg]; exact hx
  · intro h; exact ⟨-l, h, Int.neg_neg l⟩
theorem nothB_taut {n : Nat} {V : Nat → Int} (h : ∀ i, i < n → isLitB (V i) = true) : nothB n V = true ↔ Taut (rowL n V) := by
  unfold nothB pred54 Taut
  rw [anyB_iff]
  have hneg : ∀ i, i < n → negI (V i) = -V i := fun i hi => by
    obtain ⟨_, a, b⟩ := litB_in (h i hi)
    unfold negI; rw [if_neg (by omega)]
  constructor
  · rintro ⟨i, hi, hh⟩
    simp only [Bool.and_eq_true, bne_iff_ne, hasB_iff, hneg i hi] at hh
    exact ⟨V i, (rowL_mem n V _).2 ⟨i, hi, rfl⟩, (rowL_mem n V _).2 hh.1, hh.2⟩
  · rintro ⟨l, h1, h2, h3⟩
    obtain ⟨i, hi, rfl⟩ := (rowL_mem n V _).1 h1
    refine ⟨i, hi, ?_⟩
    simp only [Bool.and_eq_true, bne_iff_ne, hasB_iff, hneg i hi]
    exact ⟨(rowL_mem n V _).1 h2, h3⟩
theorem taut_confl {db : List (List Int)} {c : List Int} (h : Taut c) : Confl db (negs c) := by
  obtain ⟨l, h1, h2, _⟩ := h
  exact .inr ⟨l, .given (negs_mem.2 h2), .given (negs_mem.2 (by rw [Int.neg_neg]; exact h1))⟩
/-- no conflict behind a whole propagation. -/
theorem no_confl {db cl : List (List Int)} {wt : Int → List Nat} {T gv : List Int} (h : Struct db cl wt T) (hw : Watch cl T T) (hg : ∀ l, l ∈ gv → l ∈ T)
    (hc : ∀ c, c ∈ db → Taut c ∨ (∃ l, l ∈ c ∧ l ∈ T) ∨ ∃ d, d ∈ cl ∧ ∀ l, l ∈ d → l ∈ c) : ¬ Confl db gv := by
  have hall := closed_all h hw hg hc
  rintro (he | ⟨l, a, b⟩)
  · rcases hc _ he with ⟨x, hx, _⟩ | ⟨x, hx, _⟩ | ⟨d, hd, hs⟩
    · simp at hx
    · simp at hx
    · have := hs _ (w0_mem (h.two d hd).1)
      simp at this
  · exact h.cons l (hall l a) (hall _ b)
theorem Alk.cover {cl cl' : List (List Int)} (h : Alk cl cl') {c : List Int} (hd : ∃ d, d ∈ cl ∧ ∀ l, l ∈ d → l ∈ c) : ∃ d, d ∈ cl' ∧ ∀ l, l ∈ d → l ∈ c := by
  obtain ⟨d, hd, hs⟩ := hd
  obtain ⟨d', hd', hp⟩ := h.mem hd
  exact ⟨d', hd', fun l hl => hs l (hp.mem_iff.1 hl)⟩
/-- what is derived on trial. -/
structure Trial (db cl : List (List Int)) (wt : Int → List Nat) (T gv T1 : List Int) : Prop where
  stc : Struct db cl wt T1
  der : ∀ l, l ∈ T1 → Der db gv l
  pre : ∃ new, T1 = T ++ new
theorem Trial.step {db cl : List (List Int)} {wt : Int → List Nat} {T gv T1 : List Int} (h : Trial db cl wt T gv T1) {l : Int} (hl : l ∈ gv) (hli : isLitB l = true) :
    Trial db cl wt T gv (addT T1 l) ∧ (0 ≤ valT T1 l → l ∈ addT T1 l) ∧ (¬ 0 ≤ valT T1 l → Confl db gv) ∧ ∀ x, x ∈ T1 → x ∈ addT T1 l := by
  obtain ⟨new, hn⟩ := h.pre
  rcases valT_cases T1 l with hv | hv | hv
  · have e : addT T1 l = T1 := by unfold addT; rw [if_neg (by omega)]
    rw [e]
    exact ⟨h, fun _ => valT_one.1 hv, fun hf => by omega, fun _ h => h⟩
  · have e : addT T1 l = T1 := by unfold addT; rw [if_neg (by omega)]
    rw [e]
    exact ⟨h, fun hf => by omega, fun _ => .inr ⟨l, .given hl, h.der _ ((valT_neg h.stc.cons).1 hv)⟩, fun _ h => h⟩
  · have e : addT T1 l = T1 ++ [l] := by unfold addT; rw [if_pos hv]
    rw [e]
    refine ⟨⟨h.stc.add hv hli, fun x hx => ?_, new ++ [l], by rw [hn]; simp⟩, fun _ => by simp, fun hf => by omega, fun _ h => List.mem_append_left _ h⟩
    rcases List.mem_append.1 hx with hx | hx
    · exact h.der x hx
    · simp at hx; subst hx; exact .given hl
set_option maxRecDepth 100000 in
set_option maxHeartbeats 3200000 in
theorem follows_at {W : World} {K0 : Nat → Kd} {a m : Nat} {db : List (List Int)} (h : BaseR W K0 a m db) (hdb : db.length ≤ 1000000) (p : Option Addr) (n c : Nat) (V : Nat → Int) (hV : LitsIn W p n V) (hm : MayP n V) :
    Calls Try.prog 54 #[.pointer (some ⟨a, 0, none⟩), .slice p n c] W fun e w' => ∃ f : Bool, e = .returned (.tuple #[.bool f, .int .i64 0]) ∧ (f = true ↔ Confl db (negs (rowL n V))) ∧ ∃ K', BaseR w' K' a m db ∧ StepB NoQ W w' K0 K' := by
  obtain ⟨cl, wt, T, nx, br, hb, hr⟩ := h
  have hn5 := hm.1
  have HI : ∀ i, i < n → I64 (V i) := fun i hi => by obtain ⟨_, a, b⟩ := litB_in (hm.2 i hi); exact ⟨by omega, by omega⟩
  have HMay := may_any p n c V W hV (by omega)
  have HSay := says_any p n c V W hV (by omega) HI
  obtain ⟨v0, v2, v3, ob, _, _, _⟩ := hb.ob
  have c5W := ob.c5
  cases br with
  | true =>
    have hcf := (hr.bad rfl).mono (db' := db) (gv' := negs (rowL n V)) (fun _ h => h) (fun _ h => by simp at h)
    have HR := Lib.hid (show BaseR W K0 a m db from ⟨cl, wt, T, nx, true, hb, hr⟩)
    have HCF := Lib.hid hcf
    have HM := Lib.hid hm
    clear hb hr ob hcf hV HSay HI hm
    go_enter Try.func54, Try.ntmps54
    go_wp2_with fail
    refine HMay.mono ?_
    rintro e w1 ⟨⟨rfl, _⟩ | ⟨rfl, h9⟩, hw1⟩
    · obtain rfl := hw1.symm
      clear HMay
      go_wp2_with fail
      go_ret2
      exact ⟨true, rfl, ⟨fun _ => HCF.out, fun _ => rfl⟩, K0, HR.out, StepB.refl _ _⟩
    · exact absurd HM.out h9
  | false =>
    by_cases ht : nothB n V = true
    · have hcf := taut_confl (db := db) ((nothB_taut hm.2).1 ht)
      rw [ht] at HSay
      have HR := Lib.hid (show BaseR W K0 a m db from ⟨cl, wt, T, nx, false, hb, hr⟩)
      have HCF := Lib.hid hcf
      have HM := Lib.hid hm
      clear hb hr ob hcf hV HI hm ht
      go_enter Try.func54, Try.ntmps54
      go_wp2_with fail
      refine HMay.mono ?_
      rintro e w1 ⟨⟨rfl, _⟩ | ⟨rfl, h9⟩, hw1⟩
      · obtain rfl := hw1.symm
        clear HMay
        go_wp2_with fail
        refine HSay.mono ?_
        rintro e w2 ⟨rfl, hb2⟩
        have HB2 := Lib.hid hb2
        clear hb2 HSay
        go_wp2_with fail
        go_ret2
        exact ⟨true, rfl, ⟨fun _ => HCF.out, fun _ => rfl⟩, K0, HR.out.later HB2.out, StepB.below HB2.out⟩
      · exact absurd HM.out h9
    · have htf : nothB n V = false := by simpa using ht
      rw [htf] at HSay
      clear ht htf
      obtain ⟨hnx, hwat, hcov⟩ := hr.ok rfl
      subst hnx
      have HB := Lib.hid hb
      have HR := Lib.hid hr
      have HW := Lib.hid hwat
      have HC := Lib.hid hcov
      have HM := Lib.hid hm
      have HV := Lib.hid hV
      have htl := hr.stc.tlen
      have hfew := hr.stc.few
      clear hb hr ob hwat hcov hV HI hm
      go_enter Try.func54, Try.ntmps54
      go_wp2_with fail
      refine HMay.mono ?_
      rintro e w1 ⟨⟨rfl, _⟩ | ⟨rfl, h9⟩, hw1⟩
      rotate_left
      · exact absurd HM.out h9
      obtain rfl := hw1.symm
      clear HMay
      go_wp2_with fail
      refine HSay.mono ?_
      rintro e w2 ⟨rfl, hb2⟩
      have HB2 := Lib.hid hb2
      clear hb2 HSay c5W
      have HBw := Lib.hid (HB.out.later HB2.out)
      go_wp2_with fail
      have hDr : Below w2.heap.size w2 w2.drew := (Below.refl _ _).drew
      have hbD := HBw.out.later hDr
      obtain ⟨u0, u2, u3, ub, _, _, r3⟩ := hbD.ob
      obtain ⟨p3, c3, hv3, hB_⟩ := own_shp r3.own
      clear hB_
      subst hv3
      rw [List.length_map] at ub r3
      have hS := ub.c3
      have hW2D : Below W.heap.size W w2.drew := HB2.out.trans (hDr.mono HB2.out.size)
      have HCL := Lib.hid (clone_any p n c V (rowL n V) w2.drew (HV.out.later hW2D) (rowL_len n V) (fun i hi => rowL_get n V i hi) (by omega))
      have HBD := Lib.hid hbD
      have HW2D := Lib.hid hW2D
      have hkf : ∀ k, w2.drew.heap.size ≤ k → K0 k = .junk := hbD.fr
      have HKF := Lib.hid hkf
      clear hbD ub r3 hDr hW2D hkf
      go_region_held3 (fun w' => w'.cell? ⟨a, 3, none⟩ = some (.slice p3 T.length c3)) (first | exact hS | exact cvm) (first | (go_at_call 48; refine HCL.out.mono ?_; rintro e w3 ⟨vg, rfl, hog, hbg⟩; have cvm := cell_later hbg hS; have HBG := Lib.hid hbg; have HOG := Lib.hid hog; clear hbg hog))
      generalize w2.drew = D at *
      obtain ⟨pg, cg, hvg, hB_⟩ := own_shp HOG.out
      clear hB_
      subst hvg
      have hjunk : Tg K0 (.slice pg n cg) .junk := fun k hk => HKF.out k (own_lt HOG.out hk).1
      have hRG : RowAt w3 K0 .junk 54 (.slice pg n cg) ((rowL n V).map (Value.int .i64)) := ⟨by rw [List.length_map, rowL_len]; exact own_base HOG.out (fun k _ => Nat.zero_le _), hjunk⟩
      have HB3 := Lib.hid (HBD.out.later HBG.out)
      have hst3 : StepB NoQ W w3 K0 K0 := StepB.below (HW2D.out.trans (HBG.out.mono HW2D.out.size))
      have HST3 := Lib.hid hst3
      have HRG := Lib.hid hRG
      clear hst3 hRG hjunk hS cvm
      go_wp2_with fail
      go_loopg [8, 31] n (fun gk s8 s31 wx => ∃ (i : Nat) (con : Bool) (K1 : Nat → Kd) (T1 : List Int), i + gk = n ∧ s31 = .int .i64 (i : Int) ∧ s8 = .bool con ∧ Hid (BaseAt wx K1 a m (fun _ => False) cl wt T1 T1 T.length false ∧ StepB NoQ W wx K0 K1 ∧ RowAt wx K1 .junk 54 (.slice pg n cg) ((rowL n V).map (Value.int .i64)) ∧ Trial db cl wt T (negs (rowL n V)) T1 ∧ (con = true → Confl db (negs (rowL n V))) ∧ (con = false → ∀ j, j < i → -(V j) ∈ T1)))
      case atStart => exact ⟨0, false, K0, T, by omega, rfl, rfl, Lib.hid ⟨HB3.out, HST3.out, HRG.out, ⟨HR.out.stc, fun l hl => gv_der (HR.out.der l hl), [], by simp⟩, fun h => (by cases h), fun _ j hj => by omega⟩⟩
      case round =>
        obtain ⟨i, con, K1, T1, hig, rfl, rfl, HI⟩ := hrel
        cases gk with
        | zero =>
          have hin : i = n := by omega
          subst hin
          obtain ⟨hb1, hs1, hrow1, htr, hc1, hc2⟩ := HI.out
          have ht1l := htr.stc.tlen
          obtain ⟨new, hnew⟩ := htr.pre
          cases con with
          | true =>
            have hU := undo_at hb1 htr.stc.cons htr.stc.nd htr.stc.lit T.length (by rw [hnew]; simp) (by omega)
            have htk : T1.take T.length = T := by rw [hnew, List.take_left]
            rw [htk] at hU
            have HCF := Lib.hid (hc1 rfl)
            have HS1 := Lib.hid hs1
            clear hb1 hs1 hrow1 htr hc1 hc2 hnew htk
            go_wp2_with fail
            refine hU.mono ?_
            rintro e w9 ⟨rfl, hb9, hs9⟩
            have HB9 := Lib.hid hb9
            have HS9 := Lib.hid hs9
            clear hb9 hs9 hU
            go_wp2_with fail
            go_ret2
            exact ⟨true, rfl, ⟨fun _ => HCF.out, fun _ => rfl⟩, K1, ⟨cl, wt, T, T.length, false, HB9.out, HR.out⟩, HS1.out.trans HS9.out.no⟩
          | false =>
            have hPI : PropI True W K0 db cl T1 T (negs (rowL i V)) a m false wr K1 cl wt T1 T.length := ⟨hb1, hs1, htr.stc, htr.der, Alk.refl _, ⟨[], by simp⟩, fun l hl => by rw [hnew]; exact List.mem_append_left _ hl, fun _ => HW.out, fun _ => by
              rw [hnew, List.take_left]
              exact fun c hc => ⟨fun hm => List.mem_append_left _ ((HW.out c hc).1 hm), fun hm => List.mem_append_left _ ((HW.out c hc).2 hm)⟩, by rw [hnew]; simp⟩
            have hP := propagate_at hPI (by omega)
            have HG := Lib.hid (hc2 rfl)
            have HN := Lib.hid hnew
            clear hb1 hs1 hrow1 htr hc1 hc2 hnew hPI
            go_wp2_with fail
            refine hP.mono ?_
            rintro e w8 ⟨ok, rfl, K8, cl8, wt8, T8, nx8, hE⟩
            clear hP
            obtain ⟨new8, hn8⟩ := hE.pre
            have hU := undo_at hE.base hE.stc.cons hE.stc.nd hE.stc.lit T.length (by rw [hn8, HN.out]; simp <;> omega) (by have := hE.stc.tlen; omega)
            have htk : T8.take T.length = T := by rw [hn8, HN.out, List.append_assoc, List.take_left]
            rw [htk] at hU
            have HE := Lib.hid hE
            have HN8 := Lib.hid hn8
            clear hE hn8
            have hrest : Rest db cl8 wt8 T T.length false := by
              have hcut := HE.out.stc.cut T.length
              rw [htk] at hcut
              exact ⟨hcut, HR.out.der, fun h => (by cases h), fun _ => ⟨rfl, HE.out.wt0 trivial, fun c hc => (HC.out c hc).imp id (fun h => h.imp id (fun h => HE.out.alk.cover h))⟩, Nat.le_refl _⟩
            have HRE := Lib.hid hrest
            clear hrest htk
            have hiff : (!ok) = true ↔ Confl db (negs (rowL i V)) := by
              cases ok with
              | false => exact ⟨fun _ => HE.out.no rfl, fun _ => rfl⟩
              | true =>
                refine ⟨(fun h => by cases h), fun hcf => ?_⟩
                exfalso
                refine no_confl HE.out.stc ((HE.out.yes rfl).2 trivial) (fun l hl => ?_) (fun c hc => ?_) hcf
                · rw [negs_mem, rowL_mem] at hl
                  obtain ⟨j, hj, e⟩ := hl
                  have := HG.out j hj
                  rw [e, Int.neg_neg] at this
                  rw [HN.out] at this
                  exact (by first | (rw [HN8.out]; exact List.mem_append_left _ this) | (rw [HN8.out, HN.out]; exact List.mem_append_left _ this))
                · rcases HC.out c hc with h1 | ⟨x, h1, h2⟩ | h1
                  · exact .inl h1
                  · exact .inr (.inl ⟨x, h1, by rw [HN8.out, HN.out]; exact List.mem_append_left _ (List.mem_append_left _ h2)⟩)
                  · exact .inr (.inr (HE.out.alk.cover h1))
            have HIFF := Lib.hid hiff
            clear hiff
            go_wp2_with fail
            refine hU.mono ?_
            rintro e w9 ⟨rfl, hb9, hs9⟩
            have HB9 := Lib.hid hb9
            have HS9 := Lib.hid hs9
            clear hb9 hs9 hU
            go_wp2_with fail
            go_ret2
            exact ⟨!ok, rfl, HIFF.out, K8, ⟨cl8, wt8, T, T.length, false, HB9.out, HRE.out⟩, HE.out.st.trans HS9.out.no⟩
        | succ G =>
          obtain ⟨hb1, hs1, hrow1, htr, hc1, hc2⟩ := HI.out
          have hin : i < n := by omega
          have hro1 := hrow1.own
          rw [List.length_map, rowL_len] at hro1
          obtain ⟨gg, cg2, hpg⟩ := own_some hro1 (by omega)
          simp only [Value.slice.injEq] at hpg
          obtain ⟨hpg1, _, hpg2⟩ := hpg
          subst hpg1
          subst hpg2
          have hcell := (own_cell hro1 i (.int .i64 (V i)) (by rw [List.getElem?_map, rowL_get n V i hin]; rfl)).1
          have hli := HM.out.2 i hin
          obtain ⟨l0, l1, l2⟩ := litB_in hli
          have hlin : isLitB (-(V i)) = true := by unfold isLitB; simp; omega
          have hgv : -(V i) ∈ negs (rowL n V) := negs_mem.2 (by rw [Int.neg_neg]; exact (rowL_mem n V _).2 ⟨i, hin, rfl⟩)
          have HT := Lib.hid (htr.step hgv hlin)
          have i0 : (0 : Int) ≤ (i : Int) := by omega
          have i1 : (i : Int) < (n : Int) := by omega
          have i2 : (n : Int) ≤ 5000 := by omega
          have hD := derive_at hb1 htr.stc.cons _ hlin (by have := htr.stc.tlen; omega)
          have HRW := Lib.hid hrow1
          have HS1 := Lib.hid hs1
          have HC1 := Lib.hid hc1
          have HC2 := Lib.hid hc2
          have HB1 := Lib.hid hb1
          have HTR := Lib.hid htr
          have HIG := Lib.hid hig
          clear hb1 hs1 hrow1 htr hc1 hc2 hro1 hli hlin hgv hig hin
          obtain ⟨x, hx⟩ : ∃ x, V i = x := ⟨_, rfl⟩
          rw [hx] at hcell hD l0 l1 l2
          have HX := Lib.hid hx
          clear hx
          cases con with
          | true =>
            clear hD
            go_wp2_with fail
            go_roundg G
            case measure => have := HIG.out; omega
            case rel => exact ⟨i + 1, true, K1, T1, by have := HIG.out; omega, by go_num, rfl, Lib.hid ⟨HB1.out, HS1.out, HRW.out, HTR.out, fun _ => HC1.out (by first | exact rfl | exact trivial), (fun h => by cases h)⟩⟩
          | false =>
            obtain ⟨dv, hdv⟩ : ∃ d : Bool, decide (0 ≤ valT T1 (-x)) = d := ⟨_, rfl⟩
            rw [hdv] at hD
            have HDV := Lib.hid hdv
            clear hdv
            go_wp2_with fail
            refine hD.mono ?_
            rintro e w5 ⟨rfl, K5, hb5, hs5⟩
            clear hD
            have HB5 := Lib.hid hb5
            have HS5 := Lib.hid hs5
            clear hb5 hs5
            go_wp2_with fail
            go_roundg G
            case measure => have := HIG.out; omega
            case rel =>
              have hT := HT.out
              rw [HX.out] at hT
              refine ⟨i + 1, !dv, K5, addT T1 (-x), by have := HIG.out; omega, by go_num, rfl, Lib.hid ⟨HB5.out, HS1.out.trans HS5.out.no, HRW.out.step HS5.out (.inl rfl), hT.1, fun h => ?_, fun h j hj => ?_⟩⟩
              · have hlt : ¬ 0 ≤ valT T1 (-x) := fun h0 => by
                  have := HDV.out
                  rw [decide_eq_true h0] at this
                  subst this
                  cases h
                exact hT.2.2.1 (by omega)
              · have hd1 : dv = true := by cases dv <;> simp_all
                have h0 := HDV.out
                rw [hd1, decide_eq_true_eq] at h0
                by_cases e : j < i
                · exact hT.2.2.2 _ (HC2.out (by first | exact rfl | exact trivial) j e)
                · obtain rfl : j = i := by omega
                  rw [HX.out]; exact hT.2.1 h0
end Go.Proofs.Ytgdncnalahdjeaa
