/-
  Every operation over the abstract memory is what the model does.
-/
import Derived.Test.YtjhaccpljgdlpaaGreatAb13
namespace Go.Proofs.YtjhaccpljgdlpaaGreat.Ab
open Go
section
variable {P : Program} {ρ : Rn} {A : AW} {w : World}

theorem newOk {s : Sem Value} {v : AV} {ob : AO} (h : ∃ x obj w' room, s.run P w = .ok x w' ∧ Pushed w obj w' ∧ ∀ ρ', Sub ρ ρ' → ρ' A.next = some ⟨w.heap.size, 0, room⟩ → VR ρ' v x ∧ OR P ρ' ⟨w.heap.size, 0, room⟩ ob obj) :
    ArOk P ρ A w ((vOf s).run P w) (.new v ob) := by
  obtain ⟨x, obj, w', room, e, p, k⟩ := h
  exact ⟨x, obj, w', room, gives_v e, p, k⟩

theorem sliceOpd {T : Tr AV} {c : Operand → Value} {x : Operand} {lo hi mx : Option Operand} (hv : ∀ y ∈ (#[x] ++ lo.toArray ++ hi.toArray ++ mx.toArray).toList, VR ρ (ev T y) (c y)) :
    VR ρ (ev T x) (c x) ∧ (∀ y, lo = some y → VR ρ (ev T y) (c y)) ∧ (∀ y, hi = some y → VR ρ (ev T y) (c y)) ∧ (∀ y, mx = some y → VR ρ (ev T y) (c y)) := by
  refine ⟨hv _ (by simp), ?_, ?_, ?_⟩
  · rintro y rfl; exact hv _ (by simp)
  · rintro y rfl; exact hv _ (by simp)
  · rintro y rfl; exact hv _ (by simp)

theorem op_sound (hs : Sim P ρ A.live w) (hN : Named P) {T : Tr AV} {c : Operand → Value} {o : Oper} {r : AR} (h : opA P T A o = some r) (hv : ∀ x ∈ o.op.operands.toList, VR ρ (ev T x) (c x)) :
    ArOk P ρ A w ((execOp c o).run P w) r := by
  obtain ⟨dst, op, ty, pos, after, gd⟩ := o
  cases op with
  | move x => cases h; exact nextOk (hv x (by simp [Op.operands]))
  | assign x => cases h; exact nextOk (hv x (by simp [Op.operands]))
  | pick b x y =>
    obtain ⟨t, e, rfl⟩ := map_some h
    have e1 := boolOf?_spec e (hv b (by simp [Op.operands]))
    cases t
    · exact ⟨c y, by simp [execOp, e1, asBool, Gives], hv y (by simp [Op.operands])⟩
    · exact ⟨c x, by simp [execOp, e1, asBool, Gives], hv x (by simp [Op.operands])⟩
  | alloc t =>
    simp only [opA] at h
    split at h
    · rename_i z hz
      cases h
      obtain ⟨v, rfl, hr⟩ := run_zero hz
      obtain ⟨obj, w', h1, h2, h3⟩ := box_sound (P := P) (w := w) (t := t) (VR.fromV (ρ := ρ) v)
      have hrun : (Instr.alloc t true (.tuple #[])).run P w = .ok (.pointer (some ⟨w.heap.size, 0, none⟩)) w' := by simp [Instr.alloc, hr, h1]
      refine newOk ⟨_, obj, w', 0, hrun, h2, fun ρ' hsub hat => ⟨?_, h3 ρ' hsub _ rfl rfl⟩⟩
      exact VR.ptr (l := ⟨w.heap.size, 0, 0⟩) 0 hat
    · cases h
  | box t x =>
    cases h
    obtain ⟨obj, w', h1, h2, h3⟩ := box_sound (P := P) (w := w) (t := t) (hv x (by simp [Op.operands]))
    have hrun : (Instr.box t (c x)).run P w = .ok (.pointer (some ⟨w.heap.size, 0, none⟩)) w' := by simp [Instr.box, h1]
    refine newOk ⟨_, obj, w', 0, hrun, h2, fun ρ' hsub hat => ⟨?_, h3 ρ' hsub _ rfl rfl⟩⟩
    exact VR.ptr (l := ⟨w.heap.size, 0, 0⟩) 0 hat
  | build t parts =>
    obtain ⟨v, e, rfl⟩ := map_some h
    have hp : PRs ρ (parts.toList.map fun (i, x) => (i, ev T x)) (parts.toList.map fun (i, x) => (i, c x)) := PRs.evs fun x hx => hv x (by simpa [Op.operands] using hx)
    have he : (parts.toList.map fun (i, x) => (i, c x)).toArray = parts.map fun (i, x) => (i, c x) := Array.ext' (by simp)
    have := build_sound e hp w
    rw [he] at this
    exact argOk this
  | buildSlice t len parts =>
    simp only [opA] at h
    split at h
    · rename_i elem hu
      split at h
      · rename_i i hi
        split at h
        · rename_i z hz
          split at h
          · rename_i hk
            simp only [Bool.and_eq_true, decide_eq_true_eq, ne_eq] at hk
            obtain ⟨⟨k1, k2⟩, k3⟩ := hk
            split at h
            · rename_i l hl
              cases h
              have hp : PRs ρ (parts.toList.map fun (i, x) => (i, ev T x)) (parts.toList.map fun (i, x) => (i, c x)) := PRs.evs fun x hx => hv x (by simpa [Op.operands] using hx)
              have he : (parts.toList.map fun (i, x) => (i, c x)).toArray = parts.map fun (i, x) => (i, c x) := Array.ext' (by simp)
              obtain ⟨obj, w', h1, h2, h3⟩ := buildSlice_sound (w := w) hu hi hz k1 k2 k3 hl hp
              rw [he] at h1
              refine newOk ⟨_, obj, w', 0, h1, h2, fun ρ' hsub hat => ⟨?_, h3 ρ' hsub⟩⟩
              have := VR.sl (ρ := ρ') (l := ⟨w.heap.size, 0, 0⟩) 0 len len false hat
              simpa using this
            · cases h
          · cases h
        · cases h
      · cases h
    · cases h
  | load t a =>
    have hx := hv a (by simp [Op.operands])
    simp only [opA] at h
    split at h
    · rename_i n k e
      obtain ⟨v, e1, rfl⟩ := map_some h
      rw [e] at hx
      generalize hc : c a = ca at hx
      cases hx with
      | ptr _ hl =>
      have := load_sound hs e1 hl
      rw [← hc] at this
      exact argOk this
    · cases h
  | store t a x =>
    have hx := hv a (by simp [Op.operands])
    have hy := hv x (by simp [Op.operands])
    simp only [opA] at h
    split at h
    · rename_i n k e
      obtain ⟨A', e1, rfl⟩ := map_some h
      rw [e] at hx
      generalize hc : c a = ca at hx
      cases hx with
      | ptr _ hl =>
      obtain ⟨w', h1, h2, h3⟩ := store_sound hs e1 hl hy
      rw [← hc] at h1
      exact fun _ => ⟨_, w', ρ, gives_u h1, .flat _, h2, h3⟩
    · cases h
  | nilCheck x =>
    have hx := hv x (by simp [Op.operands])
    simp only [opA] at h
    split at h
    · rename_i n o e
      cases h
      rw [e] at hx
      generalize hc : c x = cx at hx
      cases hx with
      | ptr _ hl => exact ⟨_, by simp [execOp, hc, Gives], .ptr o hl⟩
    · rename_i f a b e
      cases h
      rw [e] at hx
      generalize hc : c x = cx at hx
      cases hx with
      | fn _ h1 h2 => exact ⟨_, by simp [execOp, hc, Gives], .fn f h1 h2⟩
    · rename_i n e
      cases h
      rw [e] at hx
      generalize hc : c x = cx at hx
      cases hx with
      | yld hl => exact ⟨_, by simp [execOp, hc, Gives], .yld hl⟩
    · cases h
  | binOp op t x y yt =>
    obtain ⟨v, e, rfl⟩ := map_some h
    exact argOk (bin_sound e (hv x (by simp [Op.operands])) (hv y (by simp [Op.operands])) w)
  | unOp op t x =>
    have hx := hv x (by simp [Op.operands])
    simp only [opA] at h
    split at h
    · rename_i v e
      obtain ⟨u, e1, rfl⟩ := map_some h
      obtain ⟨z, e2, rfl⟩ := map_some e1
      rw [e] at hx
      generalize hc : c x = cx at hx
      cases hx
      refine argOk ⟨z, ?_, VR.fromV z⟩
      rw [hc]
      exact pureRun_spec _ _ e2 w
    · cases h
  | convert src dst x => exact conv_sound hs h (hv x (by simp [Op.operands]))
  | makeFunc f a b =>
    cases f with
    | func f =>
      cases h
      have h1 : VRs ρ (a.toList.map (ev T)) (a.toList.map c) := VRs.evs fun x hx => hv x (by simp [Op.operands] at hx ⊢; exact .inl hx)
      have h2 : VRs ρ (b.toList.map (ev T)) (b.toList.map c) := VRs.evs fun x hx => hv x (by simp [Op.operands] at hx ⊢; exact .inr hx)
      have e1 : (a.toList.map c).toArray = a.map c := Array.ext' (by simp)
      have e2 : (b.toList.map c).toArray = b.map c := Array.ext' (by simp)
      have := VR.fn f h1 h2
      rw [e1, e2] at this
      exact argOk ⟨_, rfl, this⟩
    | _ => simp [opA] at h
  | makeMap t r' =>
    have hnew : (newObj (.map #[] 0)).run P w = .ok w.heap.size (w.alloc (.map #[] 0)) := by simp
    cases r' with
    | none =>
      cases h
      have hrun : (Instr.makeMap t (Option.map c none)).run P w = .ok (.map (some w.heap.size)) (w.alloc (.map #[] 0)) := by simp [Instr.makeMap, hnew]
      refine newOk ⟨_, _, _, 0, hrun, ⟨rfl, rfl, rfl, rfl⟩, fun ρ' hsub hat => ⟨VR.mp (l := ⟨w.heap.size, 0, 0⟩) hat, [], rfl, .nil⟩⟩
    | some x =>
      simp only [opA] at h
      split at h
      · rename_i n k e hn hu
        cases h
        obtain ⟨ik, hc⟩ := intOf?_spec hn (hv x (by simp [Op.operands]))
        have hrun : (Instr.makeMap t (Option.map c (some x))).run P w = .ok (.map (some w.heap.size)) (w.alloc (.map #[] 0)) := by simp [Instr.makeMap, hnew, hc, run_und hu, asInt, asIntOf]
        refine newOk ⟨_, _, _, 0, hrun, ⟨rfl, rfl, rfl, rfl⟩, fun ρ' hsub hat => ⟨VR.mp (l := ⟨w.heap.size, 0, 0⟩) hat, [], rfl, .nil⟩⟩
      · cases h
  | makeSlice t l' c' =>
    simp only [opA] at h
    split at h
    · rename_i elem hu
      split at h
      · rename_i i l k hi hl hk
        split at h
        · rename_i z hz
          split at h
          · rename_i hb
            cases h
            simp only [Bool.and_eq_true, decide_eq_true_eq, ne_eq] at hb
            obtain ⟨⟨⟨⟨k1, k2⟩, k3⟩, k4⟩, k5⟩ := hb
            obtain ⟨i1, e1⟩ := natOf?_spec hl (hv l' (by simp [Op.operands]))
            obtain ⟨i2, e2⟩ := natOf?_spec hk (hv c' (by simp [Op.operands]))
            obtain ⟨obj, w', h1, h2, h3⟩ := makeSlice_sound (P := P) (ρ := ρ) (w := w) (kl := i1) (kc := i2) hu hi hz k1 k2 k3 k4 k5
            rw [← e1, ← e2] at h1
            refine newOk ⟨_, obj, w', 0, h1, h2, fun ρ' hsub hat => ⟨?_, h3 ρ' hsub⟩⟩
            have := VR.sl (ρ := ρ') (l := ⟨w.heap.size, 0, 0⟩) 0 l k false hat
            simpa using this
          · cases h
        · cases h
      · cases h
    · cases h
  | slice t x lo hi mx =>
    obtain ⟨v, e, rfl⟩ := map_some h
    obtain ⟨h1, h2, h3, h4⟩ := sliceOpd hv
    exact argOk (slice_sound e h1 h2 h3 h4 w)
  | fieldAddr t x f =>
    have hx := hv x (by simp [Op.operands])
    simp only [opA] at h
    split at h
    · rename_i fs n k hu e
      rw [e] at hx
      generalize hc : c x = cx at hx
      cases hx with
      | ptr _ hl =>
      split at h
      · rename_i fd hf
        split at h
        · rename_i s hz
          split at h
          · cases h
          · rename_i h0
            cases h
            refine argOk ⟨_, ?_, VR.ptr (k + fd.offset) hl⟩
            rw [hc]
            exact fieldAt_sound hu hf hz h0 w
        · cases h
      · cases h
    · cases h
  | field t x f =>
    have hx := hv x (by simp [Op.operands])
    simp only [opA] at h
    split at h
    · rename_i fs l hu e
      rw [e] at hx
      generalize hc : c x = cx at hx
      cases hx with
      | agg hl =>
      split at h
      · rename_i fd hf
        obtain ⟨v, e1, rfl⟩ := map_some h
        obtain ⟨y, h1, h2⟩ := part_sound e1 hl w
        refine argOk ⟨y, ?_, h2⟩
        rw [hc]
        simp [Instr.field, run_und hu, hf, asAgg, h1]
      · cases h
    · cases h
  | indexAddr t x ix =>
    have hx := hv x (by simp [Op.operands])
    have hi := hv ix (by simp [Op.operands])
    simp only [opA] at h
    split at h
    · rename_i len elem n k i hu e ei
      rw [e] at hx
      generalize hc : c x = cx at hx
      obtain ⟨ik, ec⟩ := natOf?_spec ei hi
      cases hx with
      | ptr _ hl =>
      split at h
      · rename_i s hz
        split at h
        · rename_i hlt
          cases h
          refine argOk ⟨_, ?_, VR.ptr (k + i * s) hl⟩
          rw [hc, ec]
          exact indexAt_arr hu hz hlt w
        · cases h
      · cases h
    · rename_i elem n k len cap b i hu e ei
      rw [e] at hx
      generalize hc : c x = cx at hx
      obtain ⟨ik, ec⟩ := natOf?_spec ei hi
      cases hx with
      | sl _ _ _ _ hl =>
      split at h
      · rename_i s hz
        split at h
        · rename_i hlt
          cases h
          refine argOk ⟨_, ?_, VR.ptr (k + i * s) hl⟩
          rw [hc, ec]
          exact indexAt_sl hu hz hlt w
        · cases h
      · cases h
    · cases h
  | index t x ix =>
    have hx := hv x (by simp [Op.operands])
    have hi := hv ix (by simp [Op.operands])
    simp only [opA] at h
    split at h
    · rename_i len elem l i hu e ei
      rw [e] at hx
      generalize hc : c x = cx at hx
      obtain ⟨ik, ec⟩ := natOf?_spec ei hi
      cases hx with
      | agg hl =>
      split at h
      · rename_i s hz
        split at h
        · rename_i hlt
          obtain ⟨v, e1, rfl⟩ := map_some h
          have := index_arr (k := ik) hu hz hlt e1 hl w
          rw [← hc, ← ec] at this
          exact argOk this
        · cases h
      · cases h
    · rename_i s i hu e ei
      rw [e] at hx
      generalize hc : c x = cx at hx
      obtain ⟨ik, ec⟩ := natOf?_spec ei hi
      cases hx
      split at h
      · rename_i b hb
        cases h
        refine argOk ⟨_, ?_, .flat _⟩
        rw [hc, ec]
        exact index_str hu hb w
      · cases h
    · cases h
  | lookup t x ix ok =>
    obtain ⟨v, e, rfl⟩ := map_some h
    exact argOk (lookup_sound hs e (hv x (by simp [Op.operands])) (hv ix (by simp [Op.operands])))
  | mapUpdate t m k x =>
    obtain ⟨A', e, rfl⟩ := map_some h
    obtain ⟨w', h1, h2, h3⟩ := update_sound hs e (hv m (by simp [Op.operands])) (hv k (by simp [Op.operands])) (hv x (by simp [Op.operands]))
    exact fun _ => ⟨_, w', ρ, gives_u h1, .flat _, h2, h3⟩
  | insert t m k x =>
    obtain ⟨A', e, rfl⟩ := map_some h
    obtain ⟨w', h1, h2, h3⟩ := update_sound hs e (hv m (by simp [Op.operands])) (hv k (by simp [Op.operands])) (hv x (by simp [Op.operands]))
    exact fun _ => ⟨_, w', ρ, gives_u h1, .flat _, h2, h3⟩
  | range t x =>
    obtain ⟨r1, r2, r3⟩ := range_sound (t := t) hs (hv x (by simp [Op.operands]))
    simp only [opA] at h
    split at h
    · rename_i s hu e
      cases h
      obtain ⟨w', h1, h2⟩ := r1 s hu e
      exact newOk ⟨_, _, w', 0, h1, h2, fun ρ' hsub hat => ⟨VR.ptr (l := ⟨w.heap.size, 0, 0⟩) 0 hat, rfl, rfl⟩⟩
    · rename_i k el hu e
      cases h
      obtain ⟨w', h1, h2⟩ := r2 _ _ hu e
      exact newOk ⟨_, _, w', 0, h1, h2, fun ρ' hsub hat => ⟨VR.ptr (l := ⟨w.heap.size, 0, 0⟩) 0 hat, rfl, _, [], rfl, rfl, [], .nil, List.nodup_nil, (fun _ h => by cases h), rfl⟩⟩
    · rename_i k el m hu e
      split at h
      · rename_i es clock hg
        cases h
        obtain ⟨w', l, hl, h1, h2⟩ := r3 _ _ m es clock hu e hg
        exact newOk ⟨_, _, w', 0, h1, h2, fun ρ' hsub hat => ⟨VR.ptr (l := ⟨w.heap.size, 0, 0⟩) 0 hat, rfl, _, [], rfl, ⟨l, hsub _ _ hl, rfl⟩, [], .nil, List.nodup_nil, (fun _ h => by cases h), rfl⟩⟩
      · cases h
    · cases h
  | next it b => exact next_sound hs h (hv it (by simp [Op.operands]))
  | entry it =>
    obtain ⟨x, e, rfl⟩ := map_some h
    exact argOk (entry_sound hs e (hv it (by simp [Op.operands])))
  | makeInterface t x =>
    have hx := hv x (by simp [Op.operands])
    simp only [opA] at h
    split at h
    · cases h
    · rename_i d hd hu
      cases h
      refine argOk ⟨_, ?_, VR.ifc t hx⟩
      rw [Instr.makeInterface, Sem.run_bind, run_und hu, Result.andThen_ok]
      cases d <;> first | rfl | exact (hd _ rfl).elim
    · cases h
  | typeAssert x xt t ok =>
    have hx := hv x (by simp [Op.operands])
    simp only [opA] at h
    split at h
    · cases h
    · rename_i d u v hd hu e
      rw [e] at hx
      generalize hc : c x = cx at hx
      cases hx with
      | ifc _ hl =>
      rename_i y
      split at h
      · rename_i hut
        cases h
        subst hut
        have hrun : (Instr.typeAssert (.iface u y) xt u ok).run P w = .ok (if ok = true then .tuple #[y, .bool true] else y) w := by
          rw [Instr.typeAssert, Sem.run_bind, run_und hu, Result.andThen_ok]
          cases d <;> first | (simp; done) | exact (hd _ rfl).elim
        refine argOk ⟨if ok = true then .tuple #[y, .bool true] else y, ?_, ?_⟩
        · rw [hc]; exact hrun
        · cases ok
          · exact hl
          · exact .tup (.cons hl (.cons (.flat _) .nil))
      · cases h
    · cases h
  | extract t ix =>
    have hx := hv t (by simp [Op.operands])
    simp only [opA] at h
    split at h
    · rename_i l e
      rw [e] at hx
      generalize hc : c t = ct at hx
      cases hx with
      | tup hl =>
        obtain ⟨v, e1, rfl⟩ := map_some h
        obtain ⟨y, h1, h2⟩ := hl.get e1
        refine argOk ⟨y, ?_, h2⟩
        rw [hc]
        simp [Instr.extract, h1]
      | tupx hl =>
        obtain ⟨v, e1, rfl⟩ := map_some h
        obtain ⟨y, h1, h2⟩ := hl.get e1
        refine argOk ⟨y, ?_, h2⟩
        rename_i vs ws
        have h3 : (vs ++ ws)[ix]? = some y := by rw [List.getElem?_append_left (List.getElem?_eq_some_iff.1 h1).1]; exact h1
        rw [hc]
        simp only [Instr.extract, List.getElem?_toArray]
        rw [h3]; rfl
    · cases h
  | call k => exact call_sound hs hN h (by simpa [Op.operands] using hv)
  | defer k =>
    simp only [opA] at h
    split at h
    · rename_i f hf
      have hargs : VRs ρ (k.args.toList.map (Ab.ev T)) (k.args.toList.map c) := VRs.evs fun x hx => hv x (by simp_all [Op.operands, Call.operands])
      have hfv := hv f (by simp [Op.operands, Call.operands, hf])
      split at h
      · rename_i g fst cap hg
        cases h
        rw [hg] at hfv
        generalize hcf : c f = cf at hfv
        cases hfv with
        | fn _ ha hb =>
        rename_i as bs
        refine ⟨as ++ k.args.toList.map c, bs, ?_, ha.append hargs, hb⟩
        simp [execOp, resolve, hf, hcf, Deferred.ofValue]
      · cases h
    · cases h
  | _ => simp [opA] at h
end
end Go.Proofs.YtjhaccpljgdlpaaGreat.Ab
