/- A base: derive. -/
import Derived.Test.YtgdncnalahdjeaaU3
namespace Go.Proofs.Ytgdncnalahdjeaa
open Go Go.RowKit

def addT (T : List Int) (l : Int) : List Int := if valT T l = 0 then T ++ [l] else T
theorem TruAt.grow {W W1 : World} {K : Nat → Kd} {p : Option Addr} {n c k : Nat} {T : List Int} (h : TruAt W K (.slice p n c) T) (hk : n ≤ k) (hm : k ≤ 1048576) {v' : Value} (hz : ∀ xs, W.ownsRow 0 105 1 (.slice p n c) n xs → W1.ownsRow 0 105 1 v' (n + (k + 1)) (xs ++ List.replicate (k + 1) (.int .i8 0))) (K' : Nat → Kd) (ht : Tg K' v' .tru) : TruAt W1 K' v' T := by
  obtain ⟨tr, hr, hlen, hv, hT⟩ := h.row
  have hn : tr.length = n := by
    obtain ⟨p', c', e, _⟩ := own_shp hr.own
    simp at e
    exact e.2.1.symm
  have ho := hr.own
  rw [List.length_map, hn] at ho
  have := hz _ ho
  refine ⟨tr ++ List.replicate (k + 1) 0, ⟨by simpa [hn] using this, ht⟩, by simp; omega, fun i x hi => ?_, fun l hl => by have := hT l hl; simp; omega⟩
  by_cases hlt : i < tr.length
  · rw [List.getElem?_append_left hlt] at hi
    exact hv i x hi
  · rw [List.getElem?_append_right (by omega), List.getElem?_replicate] at hi
    have hx : x = 0 := by split at hi <;> simp_all
    rw [hx, eq_comm]
    exact valT_zero.2 ⟨fun hm => by have := hT _ hm; omega, fun hm => by have := hT _ hm; omega⟩
/-- an atom's value is laid. -/
theorem TruAt.mark {W : World} {K : Nat → Kd} {g n c k : Nat} {T : List Int} (h : TruAt W K (.slice (some ⟨g, 0, none⟩) n c) T) (hk : k < n) {W1 : World} {T' : List Int} {x : Int} (hx : x = valT T' (k : Int)) (hT : ∀ i : Nat, i ≠ k → valT T' (i : Int) = valT T (i : Int)) (hin : ∀ l, l ∈ T' → l ∈ T ∨ l.natAbs = k)
    (hs : ∀ xs, W.ownsRow 0 105 1 (.slice (some ⟨g, 0, none⟩) n c) n xs → W1.ownsRow 0 105 1 (.slice (some ⟨g, 0, none⟩) n c) n (xs.set k (.int .i8 x))) : TruAt W1 K (.slice (some ⟨g, 0, none⟩) n c) T' := by
  obtain ⟨tr, hr, hlen, hv, hT0⟩ := h.row
  have hn : tr.length = n := by
    obtain ⟨p', c', e, _⟩ := own_shp hr.own
    simp at e
    exact e.2.1.symm
  have ho := hr.own
  rw [List.length_map, hn] at ho
  have := hs _ ho
  refine ⟨tr.set k x, ⟨by rw [List.map_set]; simpa [hn] using this, hr.tg⟩, by simpa using hlen, fun i y hi => ?_, fun l hl => ?_⟩
  · rw [List.getElem?_set] at hi
    by_cases e : k = i
    · subst e
      simp [hn, hk] at hi
      rw [← hi, hx]
    · rw [if_neg e] at hi
      rw [hT i (Ne.symm e)]
      exact hv i y hi
  · rw [List.length_set]
    rcases hin l hl with h1 | h1
    · exact hT0 l h1
    · omega
theorem valT_add {T : List Int} {l : Int} (h : valT T l = 0) (i : Int) (h0 : l ≠ 0) : valT (T ++ [l]) i = if i = l then 1 else if i = -l then -1 else valT T i := by
  obtain ⟨a, b⟩ := valT_zero.1 h
  unfold valT
  by_cases e : i = l
  · subst e; simp
  · by_cases e2 : i = -l
    · subst e2
      have : ¬ -l = l := by omega
      simp [this, a, b]
    · have e3 : ¬ -i = l := by omega
      simp [e, e2, e3]
theorem valT_abs {T : List Int} (hc : Cons T) (l : Int) : valT T l = 0 ↔ valT T (l.natAbs : Int) = 0 := by
  rcases Int.natAbs_eq l with e | e
  · rw [← e]
  · have : valT T l = - valT T (l.natAbs : Int) := by
      have := valT_flip hc (l.natAbs : Int)
      rw [← e] at this
      exact this
    rw [this]; omega
theorem own_same {w : World} {base n : Nat} {e : TypeId} {size : Nat} {v : Value} {xs ys : List Value} (h : w.ownsRow base e size v n xs) (k : w.ownsRow base e size v n ys) : xs = ys := by
  rcases h with ⟨h0, ⟨h1, h2⟩ | ⟨g, cap, cur, h1, hg, hh, hn, hm, hs, ht⟩⟩
  · subst h2
    have k0 := k.1
    rw [List.length_eq_zero_iff.1 (by omega : xs.length = 0), List.length_eq_zero_iff.1 (by omega : ys.length = 0)]
  · rcases k with ⟨k0, ⟨k1, k2⟩ | ⟨g', cap', cur', k1, kg, kh, kn, km, ks, kt⟩⟩
    · rw [h1] at k1; cases k1
    · rw [h1] at k1
      cases k1
      rw [hh] at kh
      cases kh
      rw [← ht, ← kt]
set_option maxRecDepth 100000 in
set_option maxHeartbeats 1600000 in
theorem derive_at {W : World} {K : Nat → Kd} {a m : Nat} {hl : Int → Prop} {cl : List (List Int)} {wt : Int → List Nat} {T : List Int} {nx : Nat} {br : Bool} (h : BaseAt W K a m hl cl wt T T nx br) (hc : Cons T) (l : Int) (hli : isLitB l = true) (hlen : T.length ≤ 3000000) :
    Calls Try.prog 73 #[.pointer (some ⟨a, 0, none⟩), .int .i64 l] W fun e w' => e = .returned (.bool (decide (0 ≤ valT T l))) ∧ ∃ K', BaseAt w' K' a m hl cl wt (addT T l) (addT T l) nx br ∧ StepB Wats W w' K K' := by
  have H1 := value_at h hc l hli
  obtain ⟨h0, h1, h2⟩ := litB_in hli
  rcases valT_cases T l with hv | hv | hv
  · have e1 : addT T l = T := by unfold addT; rw [if_neg (by omega)]
    rw [e1, hv]
    rw [hv] at H1
    have HH := Lib.hid h
    clear h e1 hv
    go_enter Try.func73, Try.ntmps73
    go_wp2_with fail
    refine H1.mono ?_
    rintro e w1 ⟨rfl, rfl⟩
    clear H1
    go_wp2_with fail
    go_ret
    exact ⟨rfl, K, HH.out, StepB.refl _ _⟩
  · have e1 : addT T l = T := by unfold addT; rw [if_neg (by omega)]
    rw [e1, hv]
    rw [hv] at H1
    have HH := Lib.hid h
    clear h e1 hv
    go_enter Try.func73, Try.ntmps73
    go_wp2_with fail
    refine H1.mono ?_
    rintro e w1 ⟨rfl, rfl⟩
    clear H1
    go_wp2_with fail
    go_ret
    exact ⟨rfl, K, HH.out, StepB.refl _ _⟩
  · have e1 : addT T l = T ++ [l] := by unfold addT; rw [if_pos hv]
    have hva := (valT_abs hc l).1 hv
    have hadd := fun i => valT_add hv i h0
    rw [e1, hv]
    rw [hv] at H1
    obtain ⟨i54, hi54, hz0, hz1, hz2⟩ := info54
    obtain ⟨i105, hi105, hy0, hy1, hy2⟩ := info105
    have em : max l (-l) = (l.natAbs : Int) := by omega
    have hkm : l.natAbs ≤ 1048576 := by omega
    obtain ⟨v0, v2, v3, ob, r0, r2, r3⟩ := h.ob
    obtain ⟨p, n, c, hvv, hn, hz, hat⟩ := r2.short
    subst hvv
    by_cases hk : l.natAbs < n
    · obtain ⟨g, rfl, cg, fg, gK⟩ := hat l.natAbs hk
      rw [hva] at cg
      have HD := Lib.hid h
      have HSD := Lib.hid ((StepB.refl W K : StepB Wats W W K K))
      have obD := ob
      have r2D := r2
      have r3D := r3
      clear h ob r0 r2 r3 hv e1 hli hva
      have hga : g ≠ a := fun e => by rw [e, HD.out.ka] at gK; cases gK
      have hag : a ≠ g := Ne.symm hga
      obtain ⟨p3, c3, hv3, _⟩ := own_shp r3D.own
      subst hv3
      rw [List.length_map] at r3D
      rcases Int.lt_or_le l 0 with hs | hs
      · have q2 : decide (l < 0) = true := by rw [decide_eq_true_eq]; exact hs
        have hOT : Only (fun k => K k = .tru) W ((W.setCell ⟨g, l.natAbs, none⟩ (.int .i8 1)).setCell ⟨g, l.natAbs, none⟩ (.int .i8 (-1))) := ((Only.of_setCell W ⟨g, l.natAbs, none⟩ _).trans (Only.of_setCell _ ⟨g, l.natAbs, none⟩ _)).mono (fun k _ e => by rw [show k = g from e]; exact gK)
        have hM : ∀ v, W.cell? ⟨a, 2, none⟩ = some v → TruAt ((W.setCell ⟨g, l.natAbs, none⟩ (.int .i8 1)).setCell ⟨g, l.natAbs, none⟩ (.int .i8 (-1))) K v (T ++ [l]) := fun v hv2 => by
          rw [obD.c2] at hv2; cases hv2
          refine r2D.mark hk (x := (-1)) ?_ (fun i hi => ?_) (fun y hy => ?_) (fun xs hxs => ?_)
          · rw [hadd]; rw [if_neg (by omega), if_pos (by omega)]
          · rw [hadd, if_neg (by omega), if_neg (by omega)]
          · rcases List.mem_append.1 hy with hy | hy
            · exact .inl hy
            · simp at hy; subst hy; exact .inr rfl
          · have := own_set (own_set hxs l.natAbs (.int .i8 1)) l.natAbs (.int .i8 (-1)); rw [List.set_set] at this; exact this
        obtain ⟨hD2, sD2⟩ := HD.out.in2 hOT (by simp) hM
        have hal := below1 ((W.setCell ⟨g, l.natAbs, none⟩ (.int .i8 1)).setCell ⟨g, l.natAbs, none⟩ (.int .i8 (-1))) (.cells #[.int .i64 l] 54)
        have hD3 := hD2.later hal
        have hOW := ((r3D.only hOT (Ext.refl _ _) (fun k e1 e2 => by rw [e1] at e2; cases e2)).only (Only.of_below (T := fun _ => False) hal) (Ext.refl _ _) (fun _ _ h => h)).own
        rw [List.length_map] at hOW
        have HOW := Lib.hid hOW
        clear hOW
        have ob3 := Lib.hid ((obD.only hOT (fun e => by rw [HD.out.ka] at e; cases e)).only (Only.of_below (T := fun _ => False) hal) (fun h => h))
        have HD3 := Lib.hid hD3
        have HST := Lib.hid ((HSD.out.trans sD2).trans (StepB.below hal))
        have HTG := Lib.hid r3D.tg
        have c2D := obD.c2
        have c3D := obD.c3
        have f2D := obD.fz 2
        have f3D := obD.fz 3
        have k0 : (0 : Int) ≤ (l.natAbs : Int) := by omega
        have k1 : (l.natAbs : Int) < (n : Int) := by omega
        skip
        clear hD2 sD2 hal hD3 hOT hM hadd obD r2D r3D hat hz
        generalize l.natAbs = k at *
        go_enter Try.func73, Try.ntmps73
        go_wp2_with fail
        refine H1.mono ?_
        rintro e w1 ⟨rfl, hw1⟩
        obtain rfl := hw1.symm
        clear H1
        go_wp2_with (at_builtin; refine wpList_append_own_at _ rfl _ _ 23 rfl 0 54 i54 (.int .i64 0) 1 8 Try.underlying23 hi54 hz0 hz1 hz2 rfl (by omega) _ T.length (T.map litV) rfl HOW.out ⟨W.heap.size, 0, none⟩ 1 1 [.int .i64 l] rfl rfl ?qc2 ?qc3 ?qc4 ?qc5 ?qc6 ?_)
        case qc2 =>
          intro jj u hjj
          rw [Lib.add_plain]
          match jj, hjj with
          | 0, hjj => cases hjj; simp [go_sem]
        case qc3 => intro u hu; simp at hu; rcases hu with rfl; rfl
        case qc4 => have hml : maxLen = 9223372036854775807 := rfl; omega
        case qc5 => omega
        case qc6 => exact Nat.zero_le _
        intro v5 w5 hown hgrow _ hloc
        obtain ⟨p5, c5, hv5, _⟩ := own_shp hown
        subst hv5
        have hO5 : Only (fun k => K k = .tra) _ w5 := (Only.of_grown hgrow).mono (fun k _ e => HTG.out k e)
        have ob5 := ob3.out.only hO5 (fun e => by rw [HD3.out.ka] at e; cases e)
        have c35 := ob5.c3
        have f35 := ob5.fz 3
        have hx5 : Ext K (upK K (Value.slice p5 (T.length + 1) c5).ownBlock .tra) (((W.setCell ⟨g, k, none⟩ (.int .i8 1)).setCell ⟨g, k, none⟩ (.int .i8 (-1))).alloc (.cells #[.int .i64 l] 54)).heap.size := upK_ext _ (fun k e hk => by
          rcases hloc with e2 | e2
          · exact HTG.out k (e2.symm.trans e)
          · rw [e] at e2; cases e2; simp at hk; try omega)
        have hf5 := upK_fr (t := .tra) (n := (((W.setCell ⟨g, k, none⟩ (.int .i8 1)).setCell ⟨g, k, none⟩ (.int .i8 (-1))).alloc (.cells #[.int .i64 l] 54)).heap.size) (n' := w5.heap.size) HD3.out.fr hgrow.size (fun k e => (own_lt hown (show (Value.slice p5 (T.length + 1) c5).ownBlock = some k from e)).2)
        have hr5 : RowAt w5 (upK K (Value.slice p5 (T.length + 1) c5).ownBlock .tra) .tra 54 (.slice p5 (T.length + 1) c5) ((T ++ [l]).map litV) := ⟨by simpa [litV] using hown, upK_tg _ _ _⟩
        obtain ⟨hF, sF⟩ := HD3.out.put3 hO5 hx5 hf5 hr5
        have HF := Lib.hid hF
        have HS := Lib.hid (HST.out.trans sF)
        clear hown hgrow hloc hO5 ob5 hx5 hf5 hr5 hF sF
        go_wp2_with fail
        go_ret
        exact ⟨rfl, _, HF.out, HS.out⟩
      · have q2 : decide (l < 0) = false := by rw [decide_eq_false_iff_not]; omega
        have hOT : Only (fun k => K k = .tru) W (W.setCell ⟨g, l.natAbs, none⟩ (.int .i8 1)) := (Only.of_setCell W ⟨g, l.natAbs, none⟩ _).mono (fun k _ e => by rw [show k = g from e]; exact gK)
        have hM : ∀ v, W.cell? ⟨a, 2, none⟩ = some v → TruAt (W.setCell ⟨g, l.natAbs, none⟩ (.int .i8 1)) K v (T ++ [l]) := fun v hv2 => by
          rw [obD.c2] at hv2; cases hv2
          refine r2D.mark hk (x := (1)) ?_ (fun i hi => ?_) (fun y hy => ?_) (fun xs hxs => ?_)
          · rw [hadd]; rw [if_pos (by omega)]
          · rw [hadd, if_neg (by omega), if_neg (by omega)]
          · rcases List.mem_append.1 hy with hy | hy
            · exact .inl hy
            · simp at hy; subst hy; exact .inr rfl
          · exact own_set hxs l.natAbs (.int .i8 1)
        obtain ⟨hD2, sD2⟩ := HD.out.in2 hOT (by simp) hM
        have hal := below1 (W.setCell ⟨g, l.natAbs, none⟩ (.int .i8 1)) (.cells #[.int .i64 l] 54)
        have hD3 := hD2.later hal
        have hOW := ((r3D.only hOT (Ext.refl _ _) (fun k e1 e2 => by rw [e1] at e2; cases e2)).only (Only.of_below (T := fun _ => False) hal) (Ext.refl _ _) (fun _ _ h => h)).own
        rw [List.length_map] at hOW
        have HOW := Lib.hid hOW
        clear hOW
        have ob3 := Lib.hid ((obD.only hOT (fun e => by rw [HD.out.ka] at e; cases e)).only (Only.of_below (T := fun _ => False) hal) (fun h => h))
        have HD3 := Lib.hid hD3
        have HST := Lib.hid ((HSD.out.trans sD2).trans (StepB.below hal))
        have HTG := Lib.hid r3D.tg
        have c2D := obD.c2
        have c3D := obD.c3
        have f2D := obD.fz 2
        have f3D := obD.fz 3
        have k0 : (0 : Int) ≤ (l.natAbs : Int) := by omega
        have k1 : (l.natAbs : Int) < (n : Int) := by omega
        skip
        clear hD2 sD2 hal hD3 hOT hM hadd obD r2D r3D hat hz
        generalize l.natAbs = k at *
        go_enter Try.func73, Try.ntmps73
        go_wp2_with fail
        refine H1.mono ?_
        rintro e w1 ⟨rfl, hw1⟩
        obtain rfl := hw1.symm
        clear H1
        go_wp2_with (at_builtin; refine wpList_append_own_at _ rfl _ _ 23 rfl 0 54 i54 (.int .i64 0) 1 8 Try.underlying23 hi54 hz0 hz1 hz2 rfl (by omega) _ T.length (T.map litV) rfl HOW.out ⟨W.heap.size, 0, none⟩ 1 1 [.int .i64 l] rfl rfl ?qc2 ?qc3 ?qc4 ?qc5 ?qc6 ?_)
        case qc2 =>
          intro jj u hjj
          rw [Lib.add_plain]
          match jj, hjj with
          | 0, hjj => cases hjj; simp [go_sem]
        case qc3 => intro u hu; simp at hu; rcases hu with rfl; rfl
        case qc4 => have hml : maxLen = 9223372036854775807 := rfl; omega
        case qc5 => omega
        case qc6 => exact Nat.zero_le _
        intro v5 w5 hown hgrow _ hloc
        obtain ⟨p5, c5, hv5, _⟩ := own_shp hown
        subst hv5
        have hO5 : Only (fun k => K k = .tra) _ w5 := (Only.of_grown hgrow).mono (fun k _ e => HTG.out k e)
        have ob5 := ob3.out.only hO5 (fun e => by rw [HD3.out.ka] at e; cases e)
        have c35 := ob5.c3
        have f35 := ob5.fz 3
        have hx5 : Ext K (upK K (Value.slice p5 (T.length + 1) c5).ownBlock .tra) ((W.setCell ⟨g, k, none⟩ (.int .i8 1)).alloc (.cells #[.int .i64 l] 54)).heap.size := upK_ext _ (fun k e hk => by
          rcases hloc with e2 | e2
          · exact HTG.out k (e2.symm.trans e)
          · rw [e] at e2; cases e2; simp at hk; try omega)
        have hf5 := upK_fr (t := .tra) (n := ((W.setCell ⟨g, k, none⟩ (.int .i8 1)).alloc (.cells #[.int .i64 l] 54)).heap.size) (n' := w5.heap.size) HD3.out.fr hgrow.size (fun k e => (own_lt hown (show (Value.slice p5 (T.length + 1) c5).ownBlock = some k from e)).2)
        have hr5 : RowAt w5 (upK K (Value.slice p5 (T.length + 1) c5).ownBlock .tra) .tra 54 (.slice p5 (T.length + 1) c5) ((T ++ [l]).map litV) := ⟨by simpa [litV] using hown, upK_tg _ _ _⟩
        obtain ⟨hF, sF⟩ := HD3.out.put3 hO5 hx5 hf5 hr5
        have HF := Lib.hid hF
        have HS := Lib.hid (HST.out.trans sF)
        clear hown hgrow hloc hO5 ob5 hx5 hf5 hr5 hF sF
        go_wp2_with fail
        go_ret
        exact ⟨rfl, _, HF.out, HS.out⟩
    · have hrow : ∃ xs, W.ownsRow 0 105 1 (.slice p n c) n xs := by
        obtain ⟨tr, hr, _⟩ := r2.row
        have ho := hr.own
        obtain ⟨p9, c9, e9, _⟩ := own_shp hr.own
        simp only [Value.slice.injEq] at e9
        exact ⟨_, by rw [← e9.2.1] at ho; exact ho⟩
      obtain ⟨xs, hxs⟩ := hrow
      obtain ⟨v6, w6, hr, ho6, hg6, hl6⟩ := run_append_own_zeros W 69 3 69 105 i105 (.int .i8 0) .i64 .i64 Try.underlying69 Try.underlying3 hi105 hy0 hy1 hy2 rfl rfl _ n xs hxs (l.natAbs + 1) (by omega) (by omega)
      have htg2 : Tg K (.slice p n c) .tru := by obtain ⟨_, hr, _⟩ := r2.row; exact hr.tg
      have hO6 : Only (fun k => K k = .tru) W w6 := (Only.of_grown hg6).mono (fun k _ e => htg2 k e)
      have hx6 : Ext K (upK K v6.ownBlock .tru) W.heap.size := upK_ext _ (fun k e hk => by
        rcases hl6 with e2 | e2
        · exact htg2 k (e2.symm.trans e)
        · rw [e] at e2; cases e2; omega)
      have hf6 := upK_fr (t := .tru) (n := W.heap.size) (n' := w6.heap.size) h.fr hg6.size (fun k e => (own_lt ho6 e).2)
      have ht6 : TruAt w6 (upK K v6.ownBlock .tru) v6 T := r2.grow (k := l.natAbs) (by omega) hkm (fun ys hys => by
        have : ys = xs := own_same hys hxs
        rw [this]; exact ho6) _ (upK_tg _ _ _)
      obtain ⟨hD, sD⟩ := h.put2 hO6 hx6 hf6 ht6
      have ob6 := ob.only hO6 (fun e => by rw [h.ka] at e; cases e)
      have c26 := ob6.c2
      have f26 := ob6.fz 2
      have c2W := ob.c2
      have q1 : (n : Int) ≤ (l.natAbs : Int) := by omega
      have ekk : ((l.natAbs + 1 : Nat) : Int) = (l.natAbs : Int) + 1 := by omega
      rw [ekk] at hr
      have HR := Lib.hid hr
      have HD0 := Lib.hid hD
      have HSD0 := Lib.hid sD
      have hkn : l.natAbs < n + (l.natAbs + 1) := by omega
      have hva2 := Lib.hid hva
      have hr3 := r3.only hO6 hx6 (fun k e1 e2 => by rw [e1] at e2; cases e2)
      obtain ⟨g, c6, hv6⟩ := own_some ho6 (by omega)
      subst hv6
      have obE := ob6.set2 (.slice (some ⟨g, 0, none⟩) (n + (l.natAbs + 1)) c6)
      have hr3E := hr3.only (only_obj w6 a 2 (.slice (some ⟨g, 0, none⟩) (n + (l.natAbs + 1)) c6)) (Ext.refl _ _) (fun k e1 e2 => by rw [e2, (hx6 a h.lt).trans h.ka] at e1; cases e1)
      have ht6E := ht6.only (only_obj w6 a 2 (.slice (some ⟨g, 0, none⟩) (n + (l.natAbs + 1)) c6)) (Ext.refl _ _) (fun k e1 e2 => by rw [e2, (hx6 a h.lt).trans h.ka] at e1; cases e1)
      clear hr3 ht6 r3 r2
      have HD := Lib.hid hD
      have HSD := Lib.hid sD
      have hk : l.natAbs < n + (l.natAbs + 1) := by omega
      have own6 := own_cell ho6 l.natAbs (.int .i8 0) (by rw [List.getElem?_append_right (by have := hxs.1; omega), List.getElem?_replicate, if_pos (by have := hxs.1; omega)])
      have cg0 := own6.1
      have fg0 := own6.2
      have gK := upK_tg K (Value.slice (some ⟨g, 0, none⟩) (n + (l.natAbs + 1)) c6) .tru g rfl
      have obD := obE
      have r3D := hr3E
      have r2D := ht6E
      have c36 := ob6.c3
      have f36 := ob6.fz 3
      clear h ob r0 hv e1 hli hva hat hz hf6 hx6 hO6 hg6 hl6 ho6 hxs hr hD sD ob6 htg2 own6 obE hr3E ht6E
      generalize hK1 : upK K (Value.slice (some ⟨g, 0, none⟩) (n + (l.natAbs + 1)) c6).ownBlock .tru = K1 at *
      clear hK1
      generalize hN : n + (l.natAbs + 1) = N at *
      have hga : g ≠ a := fun e => by rw [e, HD.out.ka] at gK; cases gK
      have hag : a ≠ g := Ne.symm hga
      obtain ⟨p3, c3, hv3, _⟩ := own_shp r3D.own
      subst hv3
      rw [List.length_map] at r3D
      rcases Int.lt_or_le l 0 with hs | hs
      · have q2 : decide (l < 0) = true := by rw [decide_eq_true_eq]; exact hs
        have hOT : Only (fun k => K1 k = .tru) (w6.setCell ⟨a, 2, none⟩ (.slice (some ⟨g, 0, none⟩) N c6)) (((w6.setCell ⟨a, 2, none⟩ (.slice (some ⟨g, 0, none⟩) N c6)).setCell ⟨g, l.natAbs, none⟩ (.int .i8 1)).setCell ⟨g, l.natAbs, none⟩ (.int .i8 (-1))) := ((Only.of_setCell (w6.setCell ⟨a, 2, none⟩ (.slice (some ⟨g, 0, none⟩) N c6)) ⟨g, l.natAbs, none⟩ _).trans (Only.of_setCell _ ⟨g, l.natAbs, none⟩ _)).mono (fun k _ e => by rw [show k = g from e]; exact gK)
        have hM : ∀ v, (w6.setCell ⟨a, 2, none⟩ (.slice (some ⟨g, 0, none⟩) N c6)).cell? ⟨a, 2, none⟩ = some v → TruAt (((w6.setCell ⟨a, 2, none⟩ (.slice (some ⟨g, 0, none⟩) N c6)).setCell ⟨g, l.natAbs, none⟩ (.int .i8 1)).setCell ⟨g, l.natAbs, none⟩ (.int .i8 (-1))) K1 v (T ++ [l]) := fun v hv2 => by
          rw [obD.c2] at hv2; cases hv2
          refine r2D.mark hk (x := (-1)) ?_ (fun i hi => ?_) (fun y hy => ?_) (fun xs hxs => ?_)
          · rw [hadd]; rw [if_neg (by omega), if_pos (by omega)]
          · rw [hadd, if_neg (by omega), if_neg (by omega)]
          · rcases List.mem_append.1 hy with hy | hy
            · exact .inl hy
            · simp at hy; subst hy; exact .inr rfl
          · have := own_set (own_set hxs l.natAbs (.int .i8 1)) l.natAbs (.int .i8 (-1)); rw [List.set_set] at this; exact this
        obtain ⟨hD2, sD2⟩ := HD.out.in2 hOT (by simp) hM
        have hal := below1 (((w6.setCell ⟨a, 2, none⟩ (.slice (some ⟨g, 0, none⟩) N c6)).setCell ⟨g, l.natAbs, none⟩ (.int .i8 1)).setCell ⟨g, l.natAbs, none⟩ (.int .i8 (-1))) (.cells #[.int .i64 l] 54)
        have hD3 := hD2.later hal
        have hOW := ((r3D.only hOT (Ext.refl _ _) (fun k e1 e2 => by rw [e1] at e2; cases e2)).only (Only.of_below (T := fun _ => False) hal) (Ext.refl _ _) (fun _ _ h => h)).own
        rw [List.length_map] at hOW
        have HOW := Lib.hid hOW
        clear hOW
        have ob3 := Lib.hid ((obD.only hOT (fun e => by rw [HD.out.ka] at e; cases e)).only (Only.of_below (T := fun _ => False) hal) (fun h => h))
        have HD3 := Lib.hid hD3
        have HST := Lib.hid ((HSD.out.trans sD2).trans (StepB.below hal))
        have HTG := Lib.hid r3D.tg
        have c2D := obD.c2
        have c3D := obD.c3
        have f2D := obD.fz 2
        have f3D := obD.fz 3
        have k0 : (0 : Int) ≤ (l.natAbs : Int) := by omega
        have k1 : (l.natAbs : Int) < (N : Int) := by omega
        skip
        clear hD2 sD2 hal hD3 hOT hM hadd obD r2D r3D
        generalize l.natAbs = k at *
        go_enter Try.func73, Try.ntmps73
        go_wp2_with fail
        refine H1.mono ?_
        rintro e w1 ⟨rfl, hw1⟩
        obtain rfl := hw1.symm
        clear H1
        go_wp2_with (at_builtin; first | (refine Lib.wpList_append_run _ rfl _ _ 69 3 rfl _ _ rfl rfl _ _ HR.out ?_) | refine wpList_append_own_at _ rfl _ _ 23 rfl 0 54 i54 (.int .i64 0) 1 8 Try.underlying23 hi54 hz0 hz1 hz2 rfl (by omega) _ T.length (T.map litV) rfl HOW.out ⟨w6.heap.size, 0, none⟩ 1 1 [.int .i64 l] rfl rfl ?qc2 ?qc3 ?qc4 ?qc5 ?qc6 ?_)
        case qc2 =>
          intro jj u hjj
          rw [Lib.add_plain]
          match jj, hjj with
          | 0, hjj => cases hjj; simp [go_sem]
        case qc3 => intro u hu; simp at hu; rcases hu with rfl; rfl
        case qc4 => have hml : maxLen = 9223372036854775807 := rfl; omega
        case qc5 => omega
        case qc6 => exact Nat.zero_le _
        intro v5 w5 hown hgrow _ hloc
        obtain ⟨p5, c5, hv5, _⟩ := own_shp hown
        subst hv5
        have hO5 : Only (fun k => K1 k = .tra) _ w5 := (Only.of_grown hgrow).mono (fun k _ e => HTG.out k e)
        have ob5 := ob3.out.only hO5 (fun e => by rw [HD3.out.ka] at e; cases e)
        have c35 := ob5.c3
        have f35 := ob5.fz 3
        have hx5 : Ext K1 (upK K1 (Value.slice p5 (T.length + 1) c5).ownBlock .tra) ((((w6.setCell ⟨a, 2, none⟩ (.slice (some ⟨g, 0, none⟩) N c6)).setCell ⟨g, k, none⟩ (.int .i8 1)).setCell ⟨g, k, none⟩ (.int .i8 (-1))).alloc (.cells #[.int .i64 l] 54)).heap.size := upK_ext _ (fun k e hk => by
          rcases hloc with e2 | e2
          · exact HTG.out k (e2.symm.trans e)
          · rw [e] at e2; cases e2; simp at hk; try omega)
        have hf5 := upK_fr (t := .tra) (n := ((((w6.setCell ⟨a, 2, none⟩ (.slice (some ⟨g, 0, none⟩) N c6)).setCell ⟨g, k, none⟩ (.int .i8 1)).setCell ⟨g, k, none⟩ (.int .i8 (-1))).alloc (.cells #[.int .i64 l] 54)).heap.size) (n' := w5.heap.size) HD3.out.fr hgrow.size (fun k e => (own_lt hown (show (Value.slice p5 (T.length + 1) c5).ownBlock = some k from e)).2)
        have hr5 : RowAt w5 (upK K1 (Value.slice p5 (T.length + 1) c5).ownBlock .tra) .tra 54 (.slice p5 (T.length + 1) c5) ((T ++ [l]).map litV) := ⟨by simpa [litV] using hown, upK_tg _ _ _⟩
        obtain ⟨hF, sF⟩ := HD3.out.put3 hO5 hx5 hf5 hr5
        have HF := Lib.hid hF
        have HS := Lib.hid (HST.out.trans sF)
        clear hown hgrow hloc hO5 ob5 hx5 hf5 hr5 hF sF
        go_wp2_with fail
        go_ret
        exact ⟨rfl, _, HF.out, HS.out⟩
      · have q2 : decide (l < 0) = false := by rw [decide_eq_false_iff_not]; omega
        have hOT : Only (fun k => K1 k = .tru) (w6.setCell ⟨a, 2, none⟩ (.slice (some ⟨g, 0, none⟩) N c6)) ((w6.setCell ⟨a, 2, none⟩ (.slice (some ⟨g, 0, none⟩) N c6)).setCell ⟨g, l.natAbs, none⟩ (.int .i8 1)) := (Only.of_setCell (w6.setCell ⟨a, 2, none⟩ (.slice (some ⟨g, 0, none⟩) N c6)) ⟨g, l.natAbs, none⟩ _).mono (fun k _ e => by rw [show k = g from e]; exact gK)
        have hM : ∀ v, (w6.setCell ⟨a, 2, none⟩ (.slice (some ⟨g, 0, none⟩) N c6)).cell? ⟨a, 2, none⟩ = some v → TruAt ((w6.setCell ⟨a, 2, none⟩ (.slice (some ⟨g, 0, none⟩) N c6)).setCell ⟨g, l.natAbs, none⟩ (.int .i8 1)) K1 v (T ++ [l]) := fun v hv2 => by
          rw [obD.c2] at hv2; cases hv2
          refine r2D.mark hk (x := (1)) ?_ (fun i hi => ?_) (fun y hy => ?_) (fun xs hxs => ?_)
          · rw [hadd]; rw [if_pos (by omega)]
          · rw [hadd, if_neg (by omega), if_neg (by omega)]
          · rcases List.mem_append.1 hy with hy | hy
            · exact .inl hy
            · simp at hy; subst hy; exact .inr rfl
          · exact own_set hxs l.natAbs (.int .i8 1)
        obtain ⟨hD2, sD2⟩ := HD.out.in2 hOT (by simp) hM
        have hal := below1 ((w6.setCell ⟨a, 2, none⟩ (.slice (some ⟨g, 0, none⟩) N c6)).setCell ⟨g, l.natAbs, none⟩ (.int .i8 1)) (.cells #[.int .i64 l] 54)
        have hD3 := hD2.later hal
        have hOW := ((r3D.only hOT (Ext.refl _ _) (fun k e1 e2 => by rw [e1] at e2; cases e2)).only (Only.of_below (T := fun _ => False) hal) (Ext.refl _ _) (fun _ _ h => h)).own
        rw [List.length_map] at hOW
        have HOW := Lib.hid hOW
        clear hOW
        have ob3 := Lib.hid ((obD.only hOT (fun e => by rw [HD.out.ka] at e; cases e)).only (Only.of_below (T := fun _ => False) hal) (fun h => h))
        have HD3 := Lib.hid hD3
        have HST := Lib.hid ((HSD.out.trans sD2).trans (StepB.below hal))
        have HTG := Lib.hid r3D.tg
        have c2D := obD.c2
        have c3D := obD.c3
        have f2D := obD.fz 2
        have f3D := obD.fz 3
        have k0 : (0 : Int) ≤ (l.natAbs : Int) := by omega
        have k1 : (l.natAbs : Int) < (N : Int) := by omega
        skip
        clear hD2 sD2 hal hD3 hOT hM hadd obD r2D r3D
        generalize l.natAbs = k at *
        go_enter Try.func73, Try.ntmps73
        go_wp2_with fail
        refine H1.mono ?_
        rintro e w1 ⟨rfl, hw1⟩
        obtain rfl := hw1.symm
        clear H1
        go_wp2_with (at_builtin; first | (refine Lib.wpList_append_run _ rfl _ _ 69 3 rfl _ _ rfl rfl _ _ HR.out ?_) | refine wpList_append_own_at _ rfl _ _ 23 rfl 0 54 i54 (.int .i64 0) 1 8 Try.underlying23 hi54 hz0 hz1 hz2 rfl (by omega) _ T.length (T.map litV) rfl HOW.out ⟨w6.heap.size, 0, none⟩ 1 1 [.int .i64 l] rfl rfl ?qc2 ?qc3 ?qc4 ?qc5 ?qc6 ?_)
        case qc2 =>
          intro jj u hjj
          rw [Lib.add_plain]
          match jj, hjj with
          | 0, hjj => cases hjj; simp [go_sem]
        case qc3 => intro u hu; simp at hu; rcases hu with rfl; rfl
        case qc4 => have hml : maxLen = 9223372036854775807 := rfl; omega
        case qc5 => omega
        case qc6 => exact Nat.zero_le _
        intro v5 w5 hown hgrow _ hloc
        obtain ⟨p5, c5, hv5, _⟩ := own_shp hown
        subst hv5
        have hO5 : Only (fun k => K1 k = .tra) _ w5 := (Only.of_grown hgrow).mono (fun k _ e => HTG.out k e)
        have ob5 := ob3.out.only hO5 (fun e => by rw [HD3.out.ka] at e; cases e)
        have c35 := ob5.c3
        have f35 := ob5.fz 3
        have hx5 : Ext K1 (upK K1 (Value.slice p5 (T.length + 1) c5).ownBlock .tra) (((w6.setCell ⟨a, 2, none⟩ (.slice (some ⟨g, 0, none⟩) N c6)).setCell ⟨g, k, none⟩ (.int .i8 1)).alloc (.cells #[.int .i64 l] 54)).heap.size := upK_ext _ (fun k e hk => by
          rcases hloc with e2 | e2
          · exact HTG.out k (e2.symm.trans e)
          · rw [e] at e2; cases e2; simp at hk; try omega)
        have hf5 := upK_fr (t := .tra) (n := (((w6.setCell ⟨a, 2, none⟩ (.slice (some ⟨g, 0, none⟩) N c6)).setCell ⟨g, k, none⟩ (.int .i8 1)).alloc (.cells #[.int .i64 l] 54)).heap.size) (n' := w5.heap.size) HD3.out.fr hgrow.size (fun k e => (own_lt hown (show (Value.slice p5 (T.length + 1) c5).ownBlock = some k from e)).2)
        have hr5 : RowAt w5 (upK K1 (Value.slice p5 (T.length + 1) c5).ownBlock .tra) .tra 54 (.slice p5 (T.length + 1) c5) ((T ++ [l]).map litV) := ⟨by simpa [litV] using hown, upK_tg _ _ _⟩
        obtain ⟨hF, sF⟩ := HD3.out.put3 hO5 hx5 hf5 hr5
        have HF := Lib.hid hF
        have HS := Lib.hid (HST.out.trans sF)
        clear hown hgrow hloc hO5 ob5 hx5 hf5 hr5 hF sF
        go_wp2_with fail
        go_ret
        exact ⟨rfl, _, HF.out, HS.out⟩
end Go.Proofs.Ytgdncnalahdjeaa
