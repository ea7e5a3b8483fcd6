/- A base: NewBase, undo. -/
import Derived.Test.YtgdncnalahdjeaaU5
namespace Go.Proofs.Ytgdncnalahdjeaa
open Go Go.RowKit Go.Maps

theorem own_caps {w : World} {base n c : Nat} {e : TypeId} {g : Nat} {xs : List Value} (h : w.ownsRow base e 1 (.slice (some ⟨g, 0, none⟩) n c) n xs) : n ≤ c ∧ c ≤ maxLen := by
  rcases h.2 with ⟨h1, _⟩ | ⟨g', cap, cur, hv, _, _, hn, hm, _⟩
  · cases h1
  · cases hv; exact ⟨hn, hm⟩
set_option maxRecDepth 100000 in
set_option maxHeartbeats 800000 in
theorem newbase_at (W : World) : Calls Try.prog 71 #[] W fun e w' => ∃ a m K', e = .returned (.pointer (some ⟨a, 0, none⟩)) ∧ BaseAt w' K' a m (fun _ => False) [] (fun _ => []) [] [] 0 false ∧ Below W.heap.size W w' ∧ ∀ k, k < W.heap.size → K' k = .junk := by
  have hmm := @run_makeMap Try.prog
  go_enter Try.func71, Try.ntmps71
  go_wp2_with fail
  go_ret
  refine ⟨_, W.heap.size, fun k => if k = W.heap.size then .map else if k = W.heap.size + 1 then .obj else .junk, rfl, ?_, below2 _ _ _, fun k hk => by show (if k = W.heap.size then Kd.map else if k = W.heap.size + 1 then Kd.obj else Kd.junk) = .junk; rw [if_neg (by omega), if_neg (by omega)]⟩
  have hrow : ∀ t e (W' : World) (K : Nat → Kd), RowAt W' K t e (.slice none 0 0) [] := fun t e W' K => ⟨World.ownsRow_nil _ _ _ _, fun k hk => by cases hk⟩
  refine ⟨fun k hk => ?_, ?_, ⟨by simp, .map [], ⟨0, (World.ownsMap_made W _ _ _).kept (World.grownBy_alloc _ _ none) (by simp)⟩, ⟨[], rfl, by simp⟩, fun x _ _ => ⟨.slice none 0 0, rfl, hrow _ _ _ _⟩⟩, .slice none 0 0, .slice none 0 0, .slice none 0 0, ?_, ⟨[], rfl, hrow _ _ _ _, fun i c hi => by simp at hi⟩, ⟨[], hrow _ _ _ _, by simp, fun i x hi => by simp at hi, fun l hl => by simp at hl⟩, hrow _ _ _ _⟩
  · simp at hk
    rw [if_neg (by omega), if_neg (by omega)]
  · simp
  · constructor <;> first | (intro o; simp [World.frozen?]; done) | simp [go_sem]
/-- a literal's truth is taken away. -/
theorem valT_gone {A : List Int} {x : Int} {B : List Int} (hc : Cons (A ++ x :: B)) (hn : (A ++ x :: B).Nodup) (i : Int) (h0 : x ≠ 0) : valT (A ++ B) i = if i = x ∨ i = -x then 0 else valT (A ++ x :: B) i := by
  have h1 : x ∉ A ++ B := (List.nodup_cons.1 (List.perm_middle.nodup_iff.1 hn)).1
  have h2 : -x ∉ A ++ B := fun hm => hc x (by simp) (by
    rcases List.mem_append.1 hm with hm | hm
    · exact List.mem_append_left _ hm
    · exact List.mem_append_right _ (List.mem_cons_of_mem _ hm))
  by_cases e : i = x ∨ i = -x
  · rw [if_pos e]
    rcases e with rfl | rfl
    · exact valT_zero.2 ⟨h1, h2⟩
    · exact valT_zero.2 ⟨h2, by rw [Int.neg_neg]; exact h1⟩
  · rw [if_neg e]
    have e1 : i ≠ x := fun h => e (.inl h)
    have e2 : -i ≠ x := fun h => e (.inr (by omega))
    unfold valT
    simp [e1, e2]
theorem drop_step {T : List Int} {mark j : Nat} (h : mark + j < T.length) : T.take mark ++ T.drop (mark + j) = T.take mark ++ T[mark + j] :: T.drop (mark + (j + 1)) := by
  rw [List.drop_eq_getElem_cons h]; rfl
set_option maxRecDepth 100000 in
set_option maxHeartbeats 1600000 in
theorem undo_at {W : World} {K : Nat → Kd} {a m : Nat} {hl : Int → Prop} {cl : List (List Int)} {wt : Int → List Nat} {T : List Int} {nx : Nat} {br : Bool} (h : BaseAt W K a m hl cl wt T T nx br) (hc : Cons T) (hn : T.Nodup) (hlit : ∀ l, l ∈ T → isLitB l = true) (mark : Nat) (hm : mark ≤ T.length) (hlen : T.length ≤ 3000000) :
    Calls Try.prog 81 #[.pointer (some ⟨a, 0, none⟩), .int .i64 (mark : Int)] W fun e w' => e = .returned (.tuple #[]) ∧ BaseAt w' K a m hl cl wt (T.take mark) (T.take mark) mark br ∧ StepB Wats W w' K K := by
  obtain ⟨v0, v2, v3, ob, r0, r2, r3⟩ := h.ob
  obtain ⟨p3, c3, hv3, hp3⟩ := own_shp r3.own
  subst hv3
  rw [List.length_map] at r3 ob
  cases p3 with
  | none =>
    have hT : T = [] := by
      rcases r3.own.2 with ⟨e1, e2⟩ | ⟨g, cap, cur, hv, _⟩
      · rw [List.length_map] at e2; exact List.length_eq_zero_iff.1 e2
      · cases hv
    subst hT
    have hm0 : mark = 0 := by simpa using hm
    subst hm0
    have hc3 : c3 = 0 := by
      rcases r3.own.2 with ⟨e1, e2⟩ | ⟨g, cap, cur, hv, _⟩
      · cases e1; rfl
      · cases hv
    subst hc3
    have c3W := ob.c3
    have f3W := ob.fz 3
    have f4W := ob.fz 4
    have c4W := ob.c4
    have e0 := Only.refl (fun k => K k = .tra) W
    obtain ⟨h5, s5⟩ := h.put3 (K' := K) (u := .slice none 0 0) (R' := []) e0 (Ext.refl _ _) h.fr r3
    obtain ⟨h6, s6⟩ := h5.put4 0
    have HF := Lib.hid h6
    have HS := Lib.hid (s5.trans s6)
    clear h r0 r2 r3 ob h5 h6 s5 s6 hp3
    go_enter Try.func81, Try.ntmps81
    go_wp2_with fail
    refine wp_loop_rounds 1 ?_
    rw [rounds_succ]
    go_wp2_with fail
    go_end0
    exact ⟨rfl, HF.out, HS.out⟩
  | some ad =>
    obtain ⟨e1, _⟩ := hp3 ad rfl
    generalize ad.block = g at *
    subst e1
    have htr := r3.own
    rw [List.length_map] at htr
    have hcaps := own_caps htr
    have hml : maxLen = 9223372036854775807 := rfl
    have c3W := ob.c3
    have hgK : K g = .tra := r3.tg g rfl
    have hcell : ∀ (i : Nat) (hi : i < T.length), W.cell? ⟨g, i, none⟩ = some (.int .i64 T[i]) := fun i hi => (own_cell htr i (litV T[i]) (by simp [List.getElem?_map, List.getElem?_eq_getElem hi])).1
    have m0 : (0 : Int) ≤ (mark : Int) := by omega
    have m1 : (mark : Int) ≤ (T.length : Int) := by omega
    have m2 : (T.length : Int) ≤ (c3 : Int) := by omega
    have H := Lib.hid h
    have OB := Lib.hid ob
    have R3 := Lib.hid r3
    have HC := Lib.hid hc
    have HN := Lib.hid hn
    have HLI := Lib.hid hlit
    have HCE := Lib.hid hcell
    have hcm := hcaps.1
    have hcm2 := hcaps.2
    clear h r0 r2 r3 ob hc hn hlit hcell htr hcaps hp3
    by_cases hlt : mark < T.length
    · have m3 : mark < c3 := by omega
      go_enter Try.func81, Try.ntmps81
      go_wp2_with fail
      go_loopw [13] (fun i wr => ∃ j : Nat, j ≤ T.length - mark ∧ i = .int .i64 j ∧ BaseAt wr K a m hl cl wt (T.take mark ++ T.drop (mark + j)) T nx br ∧ StepB Wats W wr K K ∧ Only (fun k => K k = .tru) W wr) (fun i _ => T.length - mark - (intOf i).toNat)
      case atStart => exact ⟨0, by omega, rfl, by simpa using H.out, StepB.refl _ _, Only.refl _ _⟩
      case round =>
        obtain ⟨j, hj, rfl, hb, hs, ho⟩ := hrel
        have HB := Lib.hid hb
        have HS := Lib.hid hs
        have HO := Lib.hid ho
        have cg3 := ho.cell c3W (fun e => by rw [H.out.ka] at e; cases e)
        by_cases hjl : mark + j < T.length
        · have cx := ho.cell (HCE.out (mark + j) hjl) (fun e => by rw [hgK] at e; cases e)
          have hx := HLI.out _ (List.getElem_mem hjl)
          have hmem : T[mark + j] ∈ T.take mark ++ T.drop (mark + j) := by rw [drop_step hjl]; simp
          have hsubl : (T.take mark ++ T.drop (mark + j)).Sublist T := by
            have : (T.take mark ++ T.drop (mark + j)).Sublist (T.take mark ++ T.drop mark) := List.Sublist.append (List.Sublist.refl _) (by rw [← List.drop_drop]; exact List.drop_sublist ..)
            rwa [List.take_append_drop] at this
          have hc1 : Cons (T.take mark ++ T.drop (mark + j)) := fun l hl hl2 => HC.out l (hsubl.subset hl) (hsubl.subset hl2)
          have hn1 : (T.take mark ++ T.drop (mark + j)).Nodup := HN.out.sublist hsubl
          rw [drop_step hjl] at hc1 hn1
          have hgone := fun i => valT_gone hc1 hn1 i (litB_in hx).1
          obtain ⟨u0, u2, u3, ub, _, t2, _⟩ := hb.ob
          obtain ⟨p2, n2, c2, hu2, _, hz2, hat2⟩ := t2.short
          subst hu2
          have hk2 : T[mark + j].natAbs < n2 := by
            rcases Nat.lt_or_ge T[mark + j].natAbs n2 with h | h
            · exact h
            · have := hz2 _ h; rw [valT_zero] at this; exact absurd hmem this.1
          obtain ⟨g2, hp2, cg2, fg2, gK2⟩ := hat2 _ hk2
          subst hp2
          generalize hxx : T[mark + j] = x at *
          obtain ⟨x0, x1, x2⟩ := litB_in hx
          have em : max x (-x) = (x.natAbs : Int) := by omega
          have hM : ∀ v, wr.cell? ⟨a, 2, none⟩ = some v → TruAt (wr.setCell ⟨g2, x.natAbs, none⟩ (.int .i8 0)) K v (T.take mark ++ T.drop (mark + (j + 1))) := fun v hv2 => by
            rw [ub.c2] at hv2; cases hv2
            refine t2.mark hk2 (x := 0) ?_ (fun i hi => ?_) (fun y hy => ?_) (fun xs hxs => own_set hxs _ _)
            · rw [hgone, if_pos (by omega)]
            · rw [hgone, if_neg (by omega), ← hxx, ← drop_step hjl]
            · left; rw [drop_step hjl]; rcases List.mem_append.1 hy with hy | hy
              · exact List.mem_append_left _ hy
              · exact List.mem_append_right _ (List.mem_cons_of_mem _ hy)
          have hO7 : Only (fun k => K k = .tru) wr (wr.setCell ⟨g2, x.natAbs, none⟩ (.int .i8 0)) := (Only.of_setCell wr ⟨g2, x.natAbs, none⟩ _).mono (fun k _ e => by rw [show k = g2 from e]; exact gK2)
          obtain ⟨hb7, s7⟩ := hb.in2 hO7 (by simp) hM
          have HB7 := Lib.hid hb7
          have HS7 := Lib.hid (hs.trans s7)
          have HO7 := Lib.hid (ho.trans hO7)
          have c2r := ub.c2
          have j0 : (0 : Int) ≤ (j : Int) := by omega
          have j1 : (j : Int) < (T.length : Int) - (mark : Int) := by omega
          have k0 : (0 : Int) ≤ (x.natAbs : Int) := by omega
          have k1 : (x.natAbs : Int) < (n2 : Int) := by omega
          clear hb hs ho hb7 s7 hO7 hM hgone hat2 hz2 ub t2 hc1 hn1 hsubl hmem hxx hx
          generalize x.natAbs = kx at *
          go_wp2_with fail
          go_roundw
          case rel => exact ⟨j + 1, by omega, by go_num, HB7.out, HS7.out, HO7.out⟩
          case measure => simp [intOf]; omega
        · have hjm : mark + j = T.length := by omega
          have hb8 := HB.out
          rw [hjm, List.drop_length, List.append_nil] at hb8
          have hB8 := Lib.hid hb8
          clear hb hs ho hb8
          obtain rfl : j = T.length - mark := by omega
          have ejj : ((T.length - mark : Nat) : Int) = (T.length : Int) - (mark : Int) := by omega
          obtain ⟨w0_, w2_, w3_, wb, _, _, q3⟩ := hB8.out.ob
          have hw3 : w3_ = .slice (some ⟨g, 0, none⟩) T.length c3 := by have := wb.c3; rw [cg3] at this; cases this; rfl
          subst hw3
          have hcut : RowAt wr K .tra 54 (.slice (some ⟨g, 0, none⟩) mark c3) ((T.take mark).map litV) := ⟨by
            have q3o := q3.own
            rw [List.length_map] at q3o
            have := own_cut q3o (k := mark) (by omega)
            rw [List.length_map, List.length_take, Nat.min_eq_left (by omega), List.map_take]
            exact this, fun k hk => by cases hk; exact hgK⟩
          obtain ⟨h5, s5⟩ := hB8.out.put3 (K' := K) (Only.refl _ _) (Ext.refl _ _) hB8.out.fr hcut
          obtain ⟨h6, s6⟩ := h5.put4 mark
          have HF := Lib.hid h6
          have HSF := Lib.hid ((HS.out.trans s5).trans s6)
          have f3r := wb.fz 3
          have f4r := wb.fz 4
          have c4r := wb.c4
          have c3r := wb.c3
          clear h5 h6 s5 s6 wb q3 hcut hB8
          go_wp2_with fail
          go_end0
          exact ⟨rfl, HF.out, HSF.out⟩
    · obtain rfl : mark = T.length := by omega
      by_cases m3 : T.length < c3
      · skip
        go_enter Try.func81, Try.ntmps81
        go_wp2_with fail
        have cg3 := c3W
        have HO := Lib.hid (Only.refl (fun k => K k = .tru) W)
        have HS := Lib.hid ((StepB.refl W K : StepB Wats W W K K))
        have hB8 := Lib.hid (show BaseAt W K a m hl cl wt (T.take T.length) T nx br by rw [List.take_length]; exact H.out)
        refine wp_loop_rounds 1 ?_
        rw [rounds_succ]
        obtain ⟨w0_, w2_, w3_, wb, _, _, q3⟩ := hB8.out.ob
        have hw3 : w3_ = .slice (some ⟨g, 0, none⟩) T.length c3 := by have := wb.c3; rw [cg3] at this; cases this; rfl
        subst hw3
        have hcut : RowAt W K .tra 54 (.slice (some ⟨g, 0, none⟩) T.length c3) ((T.take T.length).map litV) := ⟨by
          have q3o := q3.own
          rw [List.length_map] at q3o
          have := own_cut q3o (k := T.length) (by omega)
          rw [List.length_map, List.length_take, Nat.min_eq_left (by omega), List.map_take]
          exact this, fun k hk => by cases hk; exact hgK⟩
        obtain ⟨h5, s5⟩ := hB8.out.put3 (K' := K) (Only.refl _ _) (Ext.refl _ _) hB8.out.fr hcut
        obtain ⟨h6, s6⟩ := h5.put4 T.length
        have HF := Lib.hid h6
        have HSF := Lib.hid ((HS.out.trans s5).trans s6)
        have f3r := wb.fz 3
        have f4r := wb.fz 4
        have c4r := wb.c4
        have c3r := wb.c3
        clear h5 h6 s5 s6 wb q3 hcut hB8
        go_wp2_with fail
        go_end0
        exact ⟨rfl, HF.out, HSF.out⟩
      · skip
        obtain rfl : c3 = T.length := by omega
        go_enter Try.func81, Try.ntmps81
        go_wp2_with fail
        have cg3 := c3W
        have HO := Lib.hid (Only.refl (fun k => K k = .tru) W)
        have HS := Lib.hid ((StepB.refl W K : StepB Wats W W K K))
        have hB8 := Lib.hid (show BaseAt W K a m hl cl wt (T.take T.length) T nx br by rw [List.take_length]; exact H.out)
        refine wp_loop_rounds 1 ?_
        rw [rounds_succ]
        obtain ⟨w0_, w2_, w3_, wb, _, _, q3⟩ := hB8.out.ob
        have hw3 : w3_ = .slice (some ⟨g, 0, none⟩) T.length T.length := by have := wb.c3; rw [cg3] at this; cases this; rfl
        subst hw3
        have hcut : RowAt W K .tra 54 (.slice (some ⟨g, 0, none⟩) T.length T.length) ((T.take T.length).map litV) := ⟨by
          have q3o := q3.own
          rw [List.length_map] at q3o
          have := own_cut q3o (k := T.length) (by omega)
          rw [List.length_map, List.length_take, Nat.min_eq_left (by omega), List.map_take]
          exact this, fun k hk => by cases hk; exact hgK⟩
        obtain ⟨h5, s5⟩ := hB8.out.put3 (K' := K) (Only.refl _ _) (Ext.refl _ _) hB8.out.fr hcut
        obtain ⟨h6, s6⟩ := h5.put4 T.length
        have HF := Lib.hid h6
        have HSF := Lib.hid ((HS.out.trans s5).trans s6)
        have f3r := wb.fz 3
        have f4r := wb.fz 4
        have c4r := wb.c4
        have c3r := wb.c3
        clear h5 h6 s5 s6 wb q3 hcut hB8
        go_wp2_with fail
        go_end0
        exact ⟨rfl, HF.out, HSF.out⟩
end Go.Proofs.Ytgdncnalahdjeaa
