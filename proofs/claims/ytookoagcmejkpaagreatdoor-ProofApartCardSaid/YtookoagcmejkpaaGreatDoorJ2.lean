/- Ab14 Ab15 Ab16 Ab17 -/
import Derived.Test.YtookoagcmejkpaaGreatDoorJ1
import Derived.OrdersIn
import Derived.Defers
namespace Go.Proofs.YtookoagcmejkpaaGreatDoor.Ab
open Go
section
variable {P : Program} {ρ : Rn} {A : AW} {w : World}
theorem newOk {s : Sem Value} {v : AV} {ob : AO} (h : ∃ x obj w' room, s.run P w = .ok x w' ∧ Pushed w obj w' ∧ ∀ ρ', Sub ρ ρ' → ρ' A.next = some ⟨w.heap.size, 0, room⟩ → VR ρ' v x ∧ OR P ρ' ⟨w.heap.size, 0, room⟩ ob obj) :
  ArOk P ρ A w ((vOf s).run P w) (.new v ob) := by
 obtain ⟨x, obj, w', room, e, p, k⟩ := h
 exact ⟨x, obj, w', room, gives_v e, p, k⟩

theorem sliceOpd {T : Tr AV} {c : Operand → Value} {x : Operand} {lo hi mx : Option Operand} (hv : ∀ y ∈ (#[x] ++ lo.toArray ++ hi.toArray ++ mx.toArray).toList, VR ρ (ev T y) (c y)) :
  VR ρ (ev T x) (c x) ∧ (∀ y, lo = some y → VR ρ (ev T y) (c y)) ∧ (∀ y, hi = some y → VR ρ (ev T y) (c y)) ∧ (∀ y, mx = some y → VR ρ (ev T y) (c y)) := by
 refine ⟨hv _ (by simp), ?_, ?_, ?_⟩
 ·rintro y rfl; exact hv _ (by simp)
 ·rintro y rfl; exact hv _ (by simp)
 ·rintro y rfl; exact hv _ (by simp)

theorem op_sound (hs : Sim P ρ A.live w) (hN : Named P) {T : Tr AV} {c : Operand → Value} {o : Oper} {r : AR} (h : opA P T A o = some r) (hv : ∀ x ∈ o.op.operands.toList, VR ρ (ev T x) (c x)) :
  ArOk P ρ A w ((execOp c o).run P w) r := by
 obtain ⟨dst, op, ty, pos, after, gd⟩ := o
 cases op with
 | move x => cases h; exact nextOk (hv x (by simp [Op.operands]))
 | assign x => cases h; exact nextOk (hv x (by simp [Op.operands]))
 | pick b x y =>
  obtain ⟨t, e, rfl⟩ := map_some h
  have e1 := boolOf?_spec e (hv b (by simp [Op.operands]))
  cases t
  ·exact ⟨c y, by simp [execOp, e1, asBool, Gives], hv y (by simp [Op.operands])⟩
  ·exact ⟨c x, by simp [execOp, e1, asBool, Gives], hv x (by simp [Op.operands])⟩
 | alloc t =>
  simp only [opA] at h
  split at h
  ·rename_i z hz
   cases h
   obtain ⟨v, rfl, hr⟩ := run_zero hz
   obtain ⟨obj, w', h1, h2, h3⟩ := box_sound (P := P) (w := w) (t := t) (VR.fromV (ρ := ρ) v)
   have hrun : (Instr.alloc t true (.tuple #[])).run P w = .ok (.pointer (some ⟨w.heap.size, 0, none⟩)) w' := by simp [Instr.alloc, hr, h1]
   refine newOk ⟨_, obj, w', 0, hrun, h2, fun ρ' hsub hat => ⟨?_, h3 ρ' hsub _ rfl rfl⟩⟩
   exact VR.ptr (l := ⟨w.heap.size, 0, 0⟩) 0 hat
  ·cases h
 | box t x =>
  cases h
  obtain ⟨obj, w', h1, h2, h3⟩ := box_sound (P := P) (w := w) (t := t) (hv x (by simp [Op.operands]))
  have hrun : (Instr.box t (c x)).run P w = .ok (.pointer (some ⟨w.heap.size, 0, none⟩)) w' := by simp [Instr.box, h1]
  refine newOk ⟨_, obj, w', 0, hrun, h2, fun ρ' hsub hat => ⟨?_, h3 ρ' hsub _ rfl rfl⟩⟩
  exact VR.ptr (l := ⟨w.heap.size, 0, 0⟩) 0 hat
 | build t parts =>
  obtain ⟨v, e, rfl⟩ := map_some h
  have hp : PRs ρ (parts.toList.map fun (i, x) => (i, ev T x)) (parts.toList.map fun (i, x) => (i, c x)) := PRs.evs fun x hx => hv x (by simpa [Op.operands] using hx)
  have he : (parts.toList.map fun (i, x) => (i, c x)).toArray = parts.map fun (i, x) => (i, c x) := Array.ext' (by simp)
  have := build_sound e hp w
  rw [he] at this
  exact argOk this
 | buildSlice t len parts =>
  simp only [opA] at h
  split at h
  ·rename_i elem hu
   split at h
   ·rename_i i hi
    split at h
    ·rename_i z hz
     split at h
     ·rename_i hk
      simp only [Bool.and_eq_true, decide_eq_true_eq, ne_eq] at hk
      obtain ⟨⟨k1, k2⟩, k3⟩ := hk
      split at h
      ·rename_i l hl
       cases h
       have hp : PRs ρ (parts.toList.map fun (i, x) => (i, ev T x)) (parts.toList.map fun (i, x) => (i, c x)) := PRs.evs fun x hx => hv x (by simpa [Op.operands] using hx)
       have he : (parts.toList.map fun (i, x) => (i, c x)).toArray = parts.map fun (i, x) => (i, c x) := Array.ext' (by simp)
       obtain ⟨obj, w', h1, h2, h3⟩ := buildSlice_sound (w := w) hu hi hz k1 k2 k3 hl hp
       rw [he] at h1
       refine newOk ⟨_, obj, w', 0, h1, h2, fun ρ' hsub hat => ⟨?_, h3 ρ' hsub⟩⟩
       have := VR.sl (ρ := ρ') (l := ⟨w.heap.size, 0, 0⟩) 0 len len false hat
       simpa using this
      ·cases h
     ·cases h
    ·cases h
   ·cases h
  ·cases h
 | load t a =>
  have hx := hv a (by simp [Op.operands])
  simp only [opA] at h
  split at h
  ·rename_i n k e
   obtain ⟨v, e1, rfl⟩ := map_some h
   rw [e] at hx
   generalize hc : c a = ca at hx
   cases hx with
   | ptr _ hl =>
   have := load_sound hs e1 hl
   rw [← hc] at this
   exact argOk this
  ·cases h
 | store t a x =>
  have hx := hv a (by simp [Op.operands])
  have hy := hv x (by simp [Op.operands])
  simp only [opA] at h
  split at h
  ·rename_i n k e
   obtain ⟨A', e1, rfl⟩ := map_some h
   rw [e] at hx
   generalize hc : c a = ca at hx
   cases hx with
   | ptr _ hl =>
   obtain ⟨w', h1, h2, h3⟩ := store_sound hs e1 hl hy
   rw [← hc] at h1
   exact fun _ => ⟨_, w', ρ, gives_u h1, .flat _, h2, h3⟩
  ·cases h
 | nilCheck x =>
  have hx := hv x (by simp [Op.operands])
  simp only [opA] at h
  split at h
  ·rename_i n o e
   cases h
   rw [e] at hx
   generalize hc : c x = cx at hx
   cases hx with
   | ptr _ hl => exact ⟨_, by simp [execOp, hc, Gives], .ptr o hl⟩
  ·rename_i f a b e
   cases h
   rw [e] at hx
   generalize hc : c x = cx at hx
   cases hx with
   | fn _ h1 h2 => exact ⟨_, by simp [execOp, hc, Gives], .fn f h1 h2⟩
  ·rename_i n e
   cases h
   rw [e] at hx
   generalize hc : c x = cx at hx
   cases hx with
   | yld hl => exact ⟨_, by simp [execOp, hc, Gives], .yld hl⟩
  ·cases h
 | binOp op t x y yt =>
  obtain ⟨v, e, rfl⟩ := map_some h
  exact argOk (bin_sound e (hv x (by simp [Op.operands])) (hv y (by simp [Op.operands])) w)
 | unOp op t x =>
  have hx := hv x (by simp [Op.operands])
  simp only [opA] at h
  split at h
  ·rename_i v e
   obtain ⟨u, e1, rfl⟩ := map_some h
   obtain ⟨z, e2, rfl⟩ := map_some e1
   rw [e] at hx
   generalize hc : c x = cx at hx
   cases hx
   refine argOk ⟨z, ?_, VR.fromV z⟩
   rw [hc]
   exact pureRun_spec _ _ e2 w
  ·cases h
 | convert src dst x => exact conv_sound hs h (hv x (by simp [Op.operands]))
 | makeFunc f a b =>
  cases f with
  | func f =>
   cases h
   have h1 : VRs ρ (a.toList.map (ev T)) (a.toList.map c) := VRs.evs fun x hx => hv x (by simp [Op.operands] at hx ⊢; exact .inl hx)
   have h2 : VRs ρ (b.toList.map (ev T)) (b.toList.map c) := VRs.evs fun x hx => hv x (by simp [Op.operands] at hx ⊢; exact .inr hx)
   have e1 : (a.toList.map c).toArray = a.map c := Array.ext' (by simp)
   have e2 : (b.toList.map c).toArray = b.map c := Array.ext' (by simp)
   have := VR.fn f h1 h2
   rw [e1, e2] at this
   exact argOk ⟨_, rfl, this⟩
  | _ => simp [opA] at h
 | makeMap t r' =>
  have hnew : (newObj (.map #[] 0)).run P w = .ok w.heap.size (w.alloc (.map #[] 0)) := by simp
  cases r' with
  | none =>
   cases h
   have hrun : (Instr.makeMap t (Option.map c none)).run P w = .ok (.map (some w.heap.size)) (w.alloc (.map #[] 0)) := by simp [Instr.makeMap, hnew]
   refine newOk ⟨_, _, _, 0, hrun, ⟨rfl, rfl, rfl, rfl⟩, fun ρ' hsub hat => ⟨VR.mp (l := ⟨w.heap.size, 0, 0⟩) hat, [], rfl, .nil⟩⟩
  | some x =>
   simp only [opA] at h
   split at h
   ·rename_i n k e hn hu
    cases h
    obtain ⟨ik, hc⟩ := intOf?_spec hn (hv x (by simp [Op.operands]))
    have hrun : (Instr.makeMap t (Option.map c (some x))).run P w = .ok (.map (some w.heap.size)) (w.alloc (.map #[] 0)) := by simp [Instr.makeMap, hnew, hc, run_und hu, asInt, asIntOf]
    refine newOk ⟨_, _, _, 0, hrun, ⟨rfl, rfl, rfl, rfl⟩, fun ρ' hsub hat => ⟨VR.mp (l := ⟨w.heap.size, 0, 0⟩) hat, [], rfl, .nil⟩⟩
   ·cases h
 | makeSlice t l' c' =>
  simp only [opA] at h
  split at h
  ·rename_i elem hu
   split at h
   ·rename_i i l k hi hl hk
    split at h
    ·rename_i z hz
     split at h
     ·rename_i hb
      cases h
      simp only [Bool.and_eq_true, decide_eq_true_eq, ne_eq] at hb
      obtain ⟨⟨⟨⟨k1, k2⟩, k3⟩, k4⟩, k5⟩ := hb
      obtain ⟨i1, e1⟩ := natOf?_spec hl (hv l' (by simp [Op.operands]))
      obtain ⟨i2, e2⟩ := natOf?_spec hk (hv c' (by simp [Op.operands]))
      obtain ⟨obj, w', h1, h2, h3⟩ := makeSlice_sound (P := P) (ρ := ρ) (w := w) (kl := i1) (kc := i2) hu hi hz k1 k2 k3 k4 k5
      rw [← e1, ← e2] at h1
      refine newOk ⟨_, obj, w', 0, h1, h2, fun ρ' hsub hat => ⟨?_, h3 ρ' hsub⟩⟩
      have := VR.sl (ρ := ρ') (l := ⟨w.heap.size, 0, 0⟩) 0 l k false hat
      simpa using this
     ·cases h
    ·cases h
   ·cases h
  ·cases h
 | slice t x lo hi mx =>
  obtain ⟨v, e, rfl⟩ := map_some h
  obtain ⟨h1, h2, h3, h4⟩ := sliceOpd hv
  exact argOk (slice_sound e h1 h2 h3 h4 w)
 | fieldAddr t x f =>
  have hx := hv x (by simp [Op.operands])
  simp only [opA] at h
  split at h
  ·rename_i fs n k hu e
   rw [e] at hx
   generalize hc : c x = cx at hx
   cases hx with
   | ptr _ hl =>
   split at h
   ·rename_i fd hf
    split at h
    ·rename_i s hz
     split at h
     ·cases h
     ·rename_i h0
      cases h
      refine argOk ⟨_, ?_, VR.ptr (k + fd.offset) hl⟩
      rw [hc]
      exact fieldAt_sound hu hf hz h0 w
    ·cases h
   ·cases h
  ·cases h
 | field t x f =>
  have hx := hv x (by simp [Op.operands])
  simp only [opA] at h
  split at h
  ·rename_i fs l hu e
   rw [e] at hx
   generalize hc : c x = cx at hx
   cases hx with
   | agg hl =>
   split at h
   ·rename_i fd hf
    obtain ⟨v, e1, rfl⟩ := map_some h
    obtain ⟨y, h1, h2⟩ := part_sound e1 hl w
    refine argOk ⟨y, ?_, h2⟩
    rw [hc]
    simp [Instr.field, run_und hu, hf, asAgg, h1]
   ·cases h
  ·cases h
 | indexAddr t x ix =>
  have hx := hv x (by simp [Op.operands])
  have hi := hv ix (by simp [Op.operands])
  simp only [opA] at h
  split at h
  ·rename_i len elem n k i hu e ei
   rw [e] at hx
   generalize hc : c x = cx at hx
   obtain ⟨ik, ec⟩ := natOf?_spec ei hi
   cases hx with
   | ptr _ hl =>
   split at h
   ·rename_i s hz
    split at h
    ·rename_i hlt
     cases h
     refine argOk ⟨_, ?_, VR.ptr (k + i * s) hl⟩
     rw [hc, ec]
     exact indexAt_arr hu hz hlt w
    ·cases h
   ·cases h
  ·rename_i elem n k len cap b i hu e ei
   rw [e] at hx
   generalize hc : c x = cx at hx
   obtain ⟨ik, ec⟩ := natOf?_spec ei hi
   cases hx with
   | sl _ _ _ _ hl =>
   split at h
   ·rename_i s hz
    split at h
    ·rename_i hlt
     cases h
     refine argOk ⟨_, ?_, VR.ptr (k + i * s) hl⟩
     rw [hc, ec]
     exact indexAt_sl hu hz hlt w
    ·cases h
   ·cases h
  ·cases h
 | index t x ix =>
  have hx := hv x (by simp [Op.operands])
  have hi := hv ix (by simp [Op.operands])
  simp only [opA] at h
  split at h
  ·rename_i len elem l i hu e ei
   rw [e] at hx
   generalize hc : c x = cx at hx
   obtain ⟨ik, ec⟩ := natOf?_spec ei hi
   cases hx with
   | agg hl =>
   split at h
   ·rename_i s hz
    split at h
    ·rename_i hlt
     obtain ⟨v, e1, rfl⟩ := map_some h
     have := index_arr (k := ik) hu hz hlt e1 hl w
     rw [← hc, ← ec] at this
     exact argOk this
    ·cases h
   ·cases h
  ·rename_i s i hu e ei
   rw [e] at hx
   generalize hc : c x = cx at hx
   obtain ⟨ik, ec⟩ := natOf?_spec ei hi
   cases hx
   split at h
   ·rename_i b hb
    cases h
    refine argOk ⟨_, ?_, .flat _⟩
    rw [hc, ec]
    exact index_str hu hb w
   ·cases h
  ·cases h
 | lookup t x ix ok =>
  obtain ⟨v, e, rfl⟩ := map_some h
  exact argOk (lookup_sound hs e (hv x (by simp [Op.operands])) (hv ix (by simp [Op.operands])))
 | mapUpdate t m k x =>
  obtain ⟨A', e, rfl⟩ := map_some h
  obtain ⟨w', h1, h2, h3⟩ := update_sound hs e (hv m (by simp [Op.operands])) (hv k (by simp [Op.operands])) (hv x (by simp [Op.operands]))
  exact fun _ => ⟨_, w', ρ, gives_u h1, .flat _, h2, h3⟩
 | insert t m k x =>
  obtain ⟨A', e, rfl⟩ := map_some h
  obtain ⟨w', h1, h2, h3⟩ := update_sound hs e (hv m (by simp [Op.operands])) (hv k (by simp [Op.operands])) (hv x (by simp [Op.operands]))
  exact fun _ => ⟨_, w', ρ, gives_u h1, .flat _, h2, h3⟩
 | range t x =>
  obtain ⟨r1, r2, r3⟩ := range_sound (t := t) hs (hv x (by simp [Op.operands]))
  simp only [opA] at h
  split at h
  ·rename_i s hu e
   cases h
   obtain ⟨w', h1, h2⟩ := r1 s hu e
   exact newOk ⟨_, _, w', 0, h1, h2, fun ρ' hsub hat => ⟨VR.ptr (l := ⟨w.heap.size, 0, 0⟩) 0 hat, rfl, rfl⟩⟩
  ·rename_i k el hu e
   cases h
   obtain ⟨w', h1, h2⟩ := r2 _ _ hu e
   exact newOk ⟨_, _, w', 0, h1, h2, fun ρ' hsub hat => ⟨VR.ptr (l := ⟨w.heap.size, 0, 0⟩) 0 hat, rfl, _, [], rfl, rfl, [], .nil, List.nodup_nil, (fun _ h => by cases h), rfl⟩⟩
  ·rename_i k el m hu e
   split at h
   ·rename_i es clock hg
    cases h
    obtain ⟨w', l, hl, h1, h2⟩ := r3 _ _ m es clock hu e hg
    exact newOk ⟨_, _, w', 0, h1, h2, fun ρ' hsub hat => ⟨VR.ptr (l := ⟨w.heap.size, 0, 0⟩) 0 hat, rfl, _, [], rfl, ⟨l, hsub _ _ hl, rfl⟩, [], .nil, List.nodup_nil, (fun _ h => by cases h), rfl⟩⟩
   ·cases h
  ·cases h
 | next it b => exact next_sound hs h (hv it (by simp [Op.operands]))
 | entry it =>
  obtain ⟨x, e, rfl⟩ := map_some h
  exact argOk (entry_sound hs e (hv it (by simp [Op.operands])))
 | makeInterface t x =>
  have hx := hv x (by simp [Op.operands])
  simp only [opA] at h
  split at h
  ·cases h
  ·rename_i d hd hu
   cases h
   refine argOk ⟨_, ?_, VR.ifc t hx⟩
   rw [Instr.makeInterface, Sem.run_bind, run_und hu, Result.andThen_ok]
   cases d <;> first | rfl | exact (hd _ rfl).elim
  ·cases h
 | typeAssert x xt t ok =>
  have hx := hv x (by simp [Op.operands])
  simp only [opA] at h
  split at h
  ·cases h
  ·rename_i d u v hd hu e
   rw [e] at hx
   generalize hc : c x = cx at hx
   cases hx with
   | ifc _ hl =>
   rename_i y
   split at h
   ·rename_i hut
    cases h
    subst hut
    have hrun : (Instr.typeAssert (.iface u y) xt u ok).run P w = .ok (if ok = true then .tuple #[y, .bool true] else y) w := by
     rw [Instr.typeAssert, Sem.run_bind, run_und hu, Result.andThen_ok]
     cases d <;> first | (simp; done) | exact (hd _ rfl).elim
    refine argOk ⟨if ok = true then .tuple #[y, .bool true] else y, ?_, ?_⟩
    ·rw [hc]; exact hrun
    ·cases ok
     ·exact hl
     ·exact .tup (.cons hl (.cons (.flat _) .nil))
   ·cases h
  ·cases h
 | extract t ix =>
  have hx := hv t (by simp [Op.operands])
  simp only [opA] at h
  split at h
  ·rename_i l e
   rw [e] at hx
   generalize hc : c t = ct at hx
   cases hx with
   | tup hl =>
    obtain ⟨v, e1, rfl⟩ := map_some h
    obtain ⟨y, h1, h2⟩ := hl.get e1
    refine argOk ⟨y, ?_, h2⟩
    rw [hc]
    simp [Instr.extract, h1]
   | tupx hl =>
    obtain ⟨v, e1, rfl⟩ := map_some h
    obtain ⟨y, h1, h2⟩ := hl.get e1
    refine argOk ⟨y, ?_, h2⟩
    rename_i vs ws
    have h3 : (vs ++ ws)[ix]? = some y := by rw [List.getElem?_append_left (List.getElem?_eq_some_iff.1 h1).1]; exact h1
    rw [hc]
    simp only [Instr.extract, List.getElem?_toArray]
    rw [h3]; rfl
  ·cases h
 | call k => exact call_sound hs hN h (by simpa [Op.operands] using hv)
 | defer k =>
  simp only [opA] at h
  split at h
  ·rename_i f hf
   have hargs : VRs ρ (k.args.toList.map (Ab.ev T)) (k.args.toList.map c) := VRs.evs fun x hx => hv x (by simp_all [Op.operands, Call.operands])
   have hfv := hv f (by simp [Op.operands, Call.operands, hf])
   split at h
   ·rename_i g fst cap hg
    cases h
    rw [hg] at hfv
    generalize hcf : c f = cf at hfv
    cases hfv with
    | fn _ ha hb =>
    rename_i as bs
    refine ⟨as ++ k.args.toList.map c, bs, ?_, ha.append hargs, hb⟩
    simp [execOp, resolve, hf, hcf, Deferred.ofValue]
   ·cases h
  ·cases h
 | _ => simp [opA] at h
end
section
variable {P : Program} {ρ : Rn} {A : AW} {w : World}
def Fw (ro : Option Nat) : Fence := { fn := fun _ => True, depth := none, alive := false, round := ro }

theorem calls_fw {ro : Option Nat} {n : Nat} {f : FuncId} {args : Array Value} {R : Ending → World → Prop} (h : Calls P f args w R) : CallsIn (Fw ro) n P f args w R :=
  (callsIn_wide.2 h : CallsIn Fence.wide n P f args w R)

def Outc (P : Program) (ρ : Rn) (w : World) (A : AW) (v : AV) (A' : AW) : Ending → World → Prop := fun e w' =>
  ∃ x ρ', e = .returned x ∧ VR ρ' v x ∧ Sim P ρ' A'.live w' ∧ Ext ρ w A ρ' w' A'

inductive DefsR (ρ : Rn) : List Def → List Deferred → Prop
  | nil : DefsR ρ [] []
  | mark {r : Nat} {l : Loc} {rs : List Def} {ds : List Deferred} : ρ r = some l → DefsR ρ rs ds → DefsR ρ (.mark r :: rs) ({ target := .collected l.blk, args := #[] } :: ds)
  | call (f : FuncId) {args cap : List AV} {xs cs : List Value} {rs : List Def} {ds : List Deferred} : VRs ρ args xs → VRs ρ cap cs → DefsR ρ rs ds → DefsR ρ (.call f args cap :: rs) ({ target := .fn (.func f) cs.toArray, args := xs.toArray } :: ds)
theorem DefsR.mono {ρ ρ' : Rn} (s : Sub ρ ρ') {rs : List Def} {ds : List Deferred} (h : DefsR ρ rs ds) : DefsR ρ' rs ds := by
  induction h with
  | nil => exact .nil
  | mark a _ ih => exact .mark (s _ _ a) ih
  | call f a b _ ih => exact .call f (a.mono s) (b.mono s) ih
theorem DefsR.append {ρ : Rn} {rs rs' : List Def} {ds ds' : List Deferred} (h : DefsR ρ rs ds) (k : DefsR ρ rs' ds') : DefsR ρ (rs ++ rs') (ds ++ ds') := by
  induction h with
  | nil => exact k
  | mark a _ ih => exact .mark a ih
  | call f a b _ ih => exact .call f a b ih

def ReqOk (P : Program) (rq : Req) (ρ : Rn) (w : World) (A : AW) (v : AV) (A' : AW) : Prop :=
  match rq with
  | .enter f args => ∀ xs, VRs ρ args xs → Calls P f xs.toArray w (Outc P ρ w A v A')
  | .dfr f args => ∀ xs, VRs ρ args xs → CallsD P f xs.toArray .returning w (fun e u' w' => u' = .returning ∧ Outc P ρ w A v A' e w')
  | .round n args => ∀ xs l, ρ n = some l → VRs ρ args xs → ∃ f tmps as body, (Instr.yield l.blk xs.toArray).run P w = .ok (.round l.blk f tmps as body) w ∧
      RoundIn Fence.wide 0 P l.blk f tmps as body w (Outc P ρ w A v A')

def RecOk (P : Program) (rec : Rec) : Prop := ∀ rq A v A', rec rq A = some (v, A') → ∀ ρ w, Sim P ρ A.live w → Free ρ A.next A'.next → ReqOk P rq ρ w A v A'

theorem TR.ev {nt : Nat} {T : Tr AV} {a : Act} (h : TR ρ nt T a.tmps) (x : Operand) : VR ρ (Ab.ev T x) (a.eval x) := by
  cases x with
  | tmp t => exact h.2 t
  | const v => exact VR.fromV v
  | global g => exact .flat _
  | func f => exact VR.fn f .nil .nil

theorem setT_get (T : Tr AV) (d : Option Tmp) (v : AV) (t : Nat) : (setT T d v).get t = if d = some t then some v else T.get t := by
  cases d with
  | none => simp [setT]
  | some d =>
    simp only [setT, Tr.get_set]
    by_cases h : t = d
    · simp [h]
    · rw [if_neg h, if_neg (by simpa using fun e => h e.symm)]

theorem put_getD (a : Act) {nt : Nat} (hn : a.tmps.size = nt) (d : Option Tmp) (x : Value) (hd : dstOk nt d = true) (t : Nat) : (a.put d x).tmps.getD t undef = if d = some t then x else a.tmps.getD t undef := by
  cases d with
  | none => simp [Act.put]
  | some d =>
    have hlt : d < a.tmps.size := by simpa [dstOk, hn] using hd
    simp only [Act.put]
    by_cases h : d = t
    · subst h
      simp [Array.getD_eq_getD_getElem?, hlt]
    · rw [if_neg (by simpa using h)]
      simp [Array.getD_eq_getD_getElem?, Array.getElem?_setIfInBounds_ne h]

theorem put_size (a : Act) (d : Option Tmp) (x : Value) : (a.put d x).tmps.size = a.tmps.size := by
  cases d <;> simp [Act.put]
theorem put_defers (a : Act) (d : Option Tmp) (x : Value) : (a.put d x).defers = a.defers := by
  cases d <;> rfl

theorem TR.put {nt : Nat} {T : Tr AV} {a : Act} {d : Option Tmp} {v : AV} {x : Value} (h : TR ρ nt T a.tmps) (hd : dstOk nt d = true) (hx : VR ρ v x) : TR ρ nt (setT T d v) (a.put d x).tmps := by
  refine ⟨(put_size a d x).trans h.1, fun t => ?_⟩
  rw [setT_get, put_getD a h.1 d x hd]
  by_cases e : d = some t
  · rw [if_pos e, if_pos e]; exact hx
  · rw [if_neg e, if_neg e]; exact h.2 t

theorem TR.congr {nt : Nat} {T T' : Tr AV} {tmps : Array Value} (h : TR ρ nt T tmps) (e : ∀ t, T'.get t = T.get t) : TR ρ nt T' tmps := ⟨h.1, fun t => by rw [e]; exact h.2 t⟩

theorem want_sound' {ops : Array Oper} {T : Tr AV} {o : Oper} {b : Bool} {tmps : Array Value}
    (h : ∀ j w, o.guard = some (j, w) → ∀ d, (ops[j]?).bind (·.dst) = some d → VR ρ ((T.get d).getD undefA) (tmps.getD d undef)) (hw : wantA ops T o = some b) : Region.wanted o (yielded ops tmps) = b := by
  unfold wantA at hw
  unfold Region.wanted
  split at hw
  · rename_i hg; rw [hg]; cases hw; rfl
  · rename_i j want hg
    rw [hg]
    simp only
    split at hw
    · rename_i hd
      cases hw
      simp [yielded, hd]
    · rename_i d hd
      have hv := h j want hg d hd
      split at hw
      · rename_i b' e
        cases hw
        rw [e] at hv
        generalize hx : tmps.getD d undef = x at hv
        cases hv
        have : tmps[d]? = some (.bool b') := by
          rw [Array.getD_eq_getD_getElem?] at hx
          cases ht : tmps[d]? with
          | none => rw [ht] at hx; simp [undef] at hx
          | some y => rw [ht] at hx; simp at hx; rw [hx]
        simp [yielded, hd, this]
      · rename_i v hnb e
        cases hw
        rw [e] at hv
        generalize hx : tmps.getD d undef = x at hv
        cases hv
        have : ∀ b, tmps[d]? ≠ some (.bool b) := by
          intro b hb
          rw [Array.getD_eq_getD_getElem?, hb] at hx
          simp at hx
          try exact hnb b hx.symm
        have hy : yielded ops tmps j = none := by
          unfold yielded
          rw [hd]
          simp only [Option.bind_some]
          all_goals (split <;> first | rfl | (rename_i b hb; exact absurd hb (this b)))
        rw [hy]
        try rfl
      · cases hw

theorem want_sound {ops : Array Oper} {nt : Nat} {T : Tr AV} {o : Oper} {b : Bool} {a : Act} (h : TR ρ nt T a.tmps) (hw : wantA ops T o = some b) : Region.wanted o (yielded ops a.tmps) = b :=
  want_sound' (fun _ _ _ d _ => h.2 d) hw

section wp
variable {ro : Option Nat} {n : Nat} {o : Oper} {a : Act} {next : Act → World → Prop} {Q : Exit → Act → World → Prop}
theorem gives_upon {res : Result Next} {x : Value} {w' : World} (h : Gives res x w') (k : next (a.put o.dst x) w') : o.uponIn (Fw ro) n P a next Q res := by
  rcases h with rfl | ⟨rfl, rfl⟩
  · exact k
  · exact k

theorem sem_of {T : Tr AV} {r : AR} (h : opA P T A o = some r) (hr : ∀ f x y, r ≠ .dfr f x y) (e : Operand → Value) : o.semAt (Fw ro).round e = execOp e o :=
  Oper.semAt_eq _ _ _ fun c hc => by
    simp only [opA, hc] at h
    split at h
    · split at h
      · cases h; exact hr _ _ _ rfl
      · cases h
    · cases h

theorem val_wp (hs : Sim P ρ A.live w) (hN : Named P) {T : Tr AV} {v : AV} (h : opA P T A o = some (.val v)) (hv : ∀ x ∈ o.op.operands.toList, VR ρ (Ab.ev T x) (a.eval x))
    (hnext : ∀ x, VR ρ v x → next (a.put o.dst x) w) : o.wpIn (Fw ro) n P a w next Q := by
  refine ⟨fun _ _ => trivial, ?_⟩
  rw [sem_of h (by intros; simp)]
  obtain ⟨x, g, k⟩ := op_sound hs hN h hv
  exact gives_upon g (hnext x k)

theorem step_wp {rec : Rec} (hrec : RecOk P rec) (hs : Sim P ρ A.live w) (hN : Named P) {ops : Array Oper} {T : Tr AV} {loud : Bool} {v : AV} {A' : AW} (h : stepA P rec ops o T A = some (loud, v, A')) (hw : wantA ops T o = some true)
    (hf : Free ρ A.next A'.next) (hv : ∀ x ∈ o.op.operands.toList, VR ρ (Ab.ev T x) (a.eval x))
    (hnext : ∀ x ρ' w', VR ρ' v x → Sim P ρ' A'.live w' → Ext ρ w A ρ' w' A' → next (a.put o.dst x) w') : o.wpIn (Fw ro) n P a w next Q := by
  unfold stepA at h
  rw [hw] at h
  simp only [opF_eq] at h
  split at h
  · cases h
  · rename_i v' hop
    cases h
    exact val_wp hs hN hop hv fun x hx => hnext x ρ w hx hs (Ext.refl _ _ _)
  · rename_i v' ob hop
    cases h
    refine ⟨fun _ _ => trivial, ?_⟩
    rw [sem_of hop (by intros; simp)]
    obtain ⟨x, obj, w', room, g, p, k⟩ := op_sound hs hN hop hv
    have hfr : ρ A.next = none := hf A.next (Nat.le_refl _) (by simp [AW.new])
    obtain ⟨k1, k2⟩ := k (upd ρ A.next ⟨w.heap.size, 0, room⟩) (upd_sub hfr) upd_at
    obtain ⟨s1, s2⟩ := hs.push p hfr k2
    exact gives_upon g (hnext x _ w' k1 s1 s2)
  · rename_i v' A1 hop
    split at h
    · cases h
      refine ⟨fun _ _ => trivial, ?_⟩
      rw [sem_of hop (by intros; simp)]
      obtain ⟨x, w', ρ', g, k1, k2, k3⟩ := op_sound hs hN hop hv hf
      exact gives_upon g (hnext x _ w' k1 k2 k3)
    · cases h
  · rename_i f args hop
    unfold calledA at h
    split at h
    · rename_i v1 A1 hr
      split at h
      · cases h
        refine ⟨fun _ _ => trivial, ?_⟩
        rw [sem_of hop (by intros; simp)]
        obtain ⟨xs, e, k⟩ := op_sound hs hN hop hv
        have e' := e
        unfold ArOk at *
        rw [e', Oper.uponIn_enter]
        refine ⟨fun hd => by simp [Fw] at hd, (calls_fw (hrec _ _ _ _ hr ρ w hs hf xs k)).mono ?_⟩
        rintro e w' ⟨x, ρ', rfl, h1, h2, h3⟩
        exact hnext x ρ' w' h1 h2 h3
      · cases h
    · cases h
  · rename_i m args hop
    unfold calledA at h
    split at h
    · rename_i v1 A1 hr
      split at h
      · cases h
        refine ⟨fun _ _ => trivial, ?_⟩
        rw [sem_of hop (by intros; simp)]
        obtain ⟨xs, l, hl, e, k⟩ := op_sound hs hN hop hv
        obtain ⟨f, tmps, as, body, y1, y2⟩ := hrec _ _ _ _ hr ρ w hs hf xs l hl k
        rw [e, y1, Oper.uponIn_round]
        refine ⟨fun hd => by simp [Fw] at hd, RoundIn.mono (F := Fw ro) (n := n - 1) (R := Outc P ρ w A v A') ⟨trivial, fun c cs _ => y2.2 c cs (room_wide _)⟩ ?_⟩
        rintro e w' ⟨x, ρ', rfl, h1, h2, h3⟩
        exact hnext x ρ' w' h1 h2 h3
      · cases h
    · cases h
  · cases h
end wp
theorem step_next {rec : Rec} {ops : Array Oper} {o : Oper} {T : Tr AV} {loud : Bool} {v : AV} {A' : AW} (h : stepA P rec ops o T A = some (loud, v, A')) : A.next ≤ A'.next ∧ (loud = false → A' = A) := by
  unfold stepA at h
  split at h
  · cases h
  · cases h; exact ⟨Nat.le_refl _, fun _ => rfl⟩
  · split at h
    · cases h
    · cases h; exact ⟨Nat.le_refl _, fun _ => rfl⟩
    · cases h; exact ⟨by simp [AW.new], fun e => by cases e⟩
    · split at h
      · rename_i hb; cases h; exact ⟨Nat.le_of_ble_eq_true hb, fun e => by cases e⟩
      · cases h
    all_goals first
      | (cases h; done)
      | (unfold calledA at h
         split at h
         · split at h
           · rename_i hb; cases h; exact ⟨Nat.le_of_ble_eq_true hb, fun e => by cases e⟩
           · cases h
         · cases h)

theorem opsA_cons {rec : Rec} {nt : Nat} {rnd : Bool} {ops : Array Oper} (o : Oper) (l : List Oper) (T : Tr AV) (A : AW) : opsA P rec nt rnd ops (o :: l) T A = opsStep P rec nt rnd ops o (opsA P rec nt rnd ops l) T A := rfl
theorem ops_next {rec : Rec} {nt : Nat} {rnd : Bool} {ops : Array Oper} : ∀ {l : List Oper} {T : Tr AV} {A : AW} {T' : Tr AV} {A' : AW} {xs : List Def}, opsA P rec nt rnd ops l T A = some (T', A', xs) → A.next ≤ A'.next
  | [], _, _, _, _, _, h => by cases h; exact Nat.le_refl _
  | o :: l, T, A, T', A', xs, h => by
    rw [opsA_cons] at h
    unfold opsStep at h
    split at h
    · unfold opsPut at h
      split at h
      · cases h
      · split at h
        · split at h
          · rename_i hr; cases h; exact ops_next hr
          · cases h
        · cases h
    · unfold opsGo at h
      split at h
      · rename_i b v A1 hst
        split at h
        · exact Nat.le_trans (step_next hst).1 (ops_next h)
        · cases h
      · cases h

theorem Free.first {ρ : Rn} {a b c : Nat} (h : Free ρ a c) (hb : b ≤ c) : Free ρ a b := fun n h1 h2 => h n h1 (by omega)

theorem skip_about {ro : Option Nat} {w : World} {o : Oper} {a : Act} : ∀ f, o.about P w a.eval = some f → (Fw ro).fn f := fun _ _ => trivial

theorem ops_sound {rec : Rec} (hrec : RecOk P rec) (hN : Named P) {ro : Option Nat} {n nt : Nat} {rnd : Bool} (hro : rnd = false → ro = none) {ops : Array Oper} {Q : Exit → Act → World → Prop} : ∀ (l : List Oper) (i : Nat) (T : Tr AV) (A : AW) (T' : Tr AV) (A' : AW) (xs : List Def) (ρ : Rn) (w : World) (a : Act),
    opsA P rec nt rnd ops l T A = some (T', A', xs) → ops.toList.drop i = l → Sim P ρ A.live w → Free ρ A.next A'.next → TR ρ nt T a.tmps →
    (∀ a' w' ρ' nd, a'.defers = nd ++ a.defers → DefsR ρ' xs nd → TR ρ' nt T' a'.tmps → Sim P ρ' A'.live w' → Ext ρ w A ρ' w' A' → Q .normal a' w') →
    wpOpsIn (Fw ro) n P ops Q (List.range' i l.length) a w
  | [], i, T, A, T', A', xs, ρ, w, a, h, _, hs, hf, ht, hQ => by
    cases h
    exact hQ a w ρ [] rfl .nil ht hs (Ext.refl _ _ _)
  | o :: l, i, T, A, T', A', xs, ρ, w, a, h, hdr, hs, hf, ht, hQ => by
    have hi : ops[i]? = some o := by
      have : (ops.toList.drop i)[0]? = some o := by rw [hdr]; rfl
      simpa [List.getElem?_drop] using this
    have hdr' : ops.toList.drop (i + 1) = l := by
      have : (ops.toList.drop i).drop 1 = l := by rw [hdr]; rfl
      simpa [List.drop_drop] using this
    rw [opsA_cons] at h
    unfold opsStep at h
    split at h
    · rename_i x hx
      unfold opsPut at h
      split at h
      · cases h
      · split at h
        · rename_i hdst
          split at h
          · rename_i T1 A1 xs1 hr
            cases h
            unfold deferA at hx
            simp only [opF_eq] at hx
            split at hx
            · rename_i c hc
              split at hx
              · rename_i hw
                split at hx
                · rename_i f args cap hop
                  cases hx
                  rw [List.length_cons, List.range'_succ]
                  simp only [wpOpsIn, hi]
                  rw [want_sound ht hw]
                  simp only [if_true]
                  refine ⟨fun _ _ => trivial, ?_⟩
                  obtain ⟨ys, cs, e, k1, k2⟩ := op_sound hs hN hop (c := a.eval) (fun x _ => ht.ev x)
                  have hr0 := hro rfl
                  subst hr0
                  have e2 : o.semAt (Fw none).round a.eval = execOp a.eval o := rfl
                  rw [e2, e, Oper.uponIn_defer]
                  refine ops_sound hrec hN hro l (i + 1) _ A T' A' xs1 ρ w _ hr hdr' hs hf (TR.put (a := { a with defers := _ }) ht hdst (.flat _)) fun a' w' ρ' nd d1 d2 d3 d4 d5 => ?_
                  refine hQ a' w' ρ' (nd ++ [{ target := .fn (.func f) cs.toArray, args := ys.toArray }]) ?_ (d2.append (.call f (k1.mono d5.sub) (k2.mono d5.sub) .nil)) d3 d4 d5
                  rw [d1, put_defers]; simp
                · cases hx
              · cases hx
            · cases hx
          · cases h
        · cases h
    · unfold opsGo at h
      split at h
      · rename_i b v A1 hst
        split at h
        · rename_i hdst
          have n1 := (step_next hst).1
          have n2 := ops_next h
          have key : ∀ x ρ' w', VR ρ' v x → Sim P ρ' A1.live w' → Ext ρ w A ρ' w' A1 → wpOpsIn (Fw ro) n P ops Q (List.range' (i + 1) l.length) (a.put o.dst x) w' := by
            intro x ρ' w' hx hs' he
            exact ops_sound hrec hN hro l (i + 1) _ A1 T' A' xs ρ' w' _ h hdr' hs' (hf.later he) ((ht.mono he.sub).put hdst hx)
              fun a' w'' ρ'' nd d1 d2 d3 d4 d5 => hQ a' w'' ρ'' nd (by rw [d1, put_defers]) d2 d3 d4 (he.trans d5)
          rw [List.length_cons, List.range'_succ]
          simp only [wpOpsIn, hi]
          cases hw : wantA ops T o with
          | none => simp [stepA, hw] at hst
          | some b' =>
            rw [want_sound ht hw]
            cases b' with
            | false =>
              simp only [stepA, hw] at hst
              cases hst
              simp only [Bool.false_eq_true, if_false]
              exact ⟨skip_about, key undef ρ w (.flat _) hs (Ext.refl _ _ _)⟩
            | true =>
              simp only [if_true]
              exact step_wp hrec hs hN hst hw (hf.first n2) (fun x _ => ht.ev x) key
        · cases h
      · cases h
end
noncomputable section
def slotsAll (l : List Done) (T : Tr AV) : Tr AV := l.foldl (fun T d => setT T d.o.dst d.v) T
def nxt (d : Done) (X : AW × Nat) : AW × Nat := if d.kind = 3 then (d.C', d.ab') else X
def memAll (l : List Done) (X : AW × Nat) : AW × Nat := l.foldl (fun X d => nxt d X) X
def slotsD : Nat → List Done → (Nat → Bool) → Tr AV → Tr AV
 | _, [], _, T => T
 | s, d :: l, D, T => slotsD (s + 1) l D (if D s then setT T d.o.dst d.v else T)
def memD : Nat → List Done → (Nat → Bool) → AW × Nat → AW × Nat
 | _, [], _, X => X
 | s, d :: l, D, X => memD (s + 1) l D (if D s then nxt d X else X)

theorem nxt_quiet {d : Done} (h : d.kind ≠ 3) (X : AW × Nat) : nxt d X = X := if_neg h
theorem nxt_loud {d : Done} (h : d.kind = 3) (X : AW × Nat) : nxt d X = (d.C', d.ab') := if_pos h

theorem memD_eq : ∀ (l : List Done) (s : Nat) (D D' : Nat → Bool) (X : AW × Nat), (∀ j d, l[j]? = some d → d.kind = 3 → D (s + j) = D' (s + j)) → memD s l D X = memD s l D' X
 | [], _, _, _, _, _ => rfl
 | d :: l, s, D, D', X, h => by
  have h0 : (if D s = true then nxt d X else X) = (if D' s = true then nxt d X else X) := by
   by_cases hl : d.kind = 3
   ·have := h 0 d rfl hl; simp at this; simp [this]
   ·rw [nxt_quiet hl]; simp
  simp only [memD, h0]
  exact memD_eq l (s + 1) D D' _ fun j e he hl => by
   have := h (j + 1) e (by simpa using he) hl
   have e2 : s + 1 + j = s + (j + 1) := by omega
   rw [e2]; exact this

theorem memD_lt : ∀ (l : List Done) (s k : Nat) (X : AW × Nat), memD s l (fun j => decide (j < s + k)) X = memAll (l.take k) X
 | [], _, _, _ => by simp [memD, memAll]
 | d :: l, s, 0, X => by
  have h0 : decide (s < s + 0) = false := by simp
  simp only [memD, h0, Bool.false_eq_true, if_false, List.take_zero]
  have := memD_lt l (s + 1) 0 X
  rw [List.take_zero] at this
  rw [← this]
  exact memD_eq l (s + 1) _ _ X fun j e _ _ => by simp; omega
 | d :: l, s, k + 1, X => by
  have h0 : decide (s < s + (k + 1)) = true := by simp
  simp only [memD, h0, if_true, List.take_succ_cons, memAll, List.foldl_cons]
  have := memD_lt l (s + 1) k (nxt d X)
  simp only [memAll] at this
  rw [← this]
  have e : s + 1 + k = s + (k + 1) := by omega
  rw [e]

theorem slotsD_get : ∀ (l : List Done) (s : Nat) (D D' : Nat → Bool) (T T' : Tr AV) (t : Nat), T.get t = T'.get t → (∀ j d, l[j]? = some d → d.o.dst = some t → D (s + j) = D' (s + j)) →
  (slotsD s l D T).get t = (slotsD s l D' T').get t
 | [], _, _, _, _, _, _, e, _ => e
 | d :: l, s, D, D', T, T', t, e, h => by
  simp only [slotsD]
  refine slotsD_get l (s + 1) D D' _ _ t ?_ fun j d' he hd => by
   have := h (j + 1) d' (by simpa using he) hd
   have e2 : s + 1 + j = s + (j + 1) := by omega
   rw [e2]; exact this
  by_cases hd : d.o.dst = some t
  ·have h0 := h 0 d rfl hd
   simp only [Nat.add_zero] at h0
   rw [h0]
   cases D' s <;> simp [setT_get, e]
  ·cases D s <;> cases D' s <;> simp [setT_get, e, hd]

theorem slotsD_lt : ∀ (l : List Done) (s k : Nat) (T : Tr AV) (t : Nat), (slotsD s l (fun j => decide (j < s + k)) T).get t = (slotsAll (l.take k) T).get t
 | [], _, _, _, _ => by simp [slotsD, slotsAll]
 | d :: l, s, 0, T, t => by
  have h0 : decide (s < s + 0) = false := by simp
  simp only [slotsD, h0, Bool.false_eq_true, if_false, List.take_zero]
  have := slotsD_lt l (s + 1) 0 T t
  rw [List.take_zero] at this
  rw [← this]
  exact slotsD_get l (s + 1) _ _ T T t rfl fun j e _ _ => by simp; omega
 | d :: l, s, k + 1, T, t => by
  have h0 : decide (s < s + (k + 1)) = true := by simp
  simp only [slotsD, h0, if_true, List.take_succ_cons, slotsAll, List.foldl_cons]
  have := slotsD_lt l (s + 1) k (setT T d.o.dst d.v) t
  simp only [slotsAll] at this
  rw [← this]
  have e : s + 1 + k = s + (k + 1) := by omega
  rw [e]

theorem slotsD_last : ∀ (l : List Done) (s i : Nat) (D : Nat → Bool) (T : Tr AV) (t : Nat) (d : Done), l[i]? = some d → d.o.dst = some t → D (s + i) = true →
  (∀ j d', i < j → l[j]? = some d' → d'.o.dst = some t → D (s + j) = false) → (slotsD s l D T).get t = some d.v
 | [], _, _, _, _, _, _, h, _, _, _ => by simp at h
 | d0 :: l, s, 0, D, T, t, d, h, hd, hD, hj => by
  simp at h; subst h
  simp only [Nat.add_zero] at hD
  simp only [slotsD, hD, if_true]
  have : (slotsD (s + 1) l D (setT T d0.o.dst d0.v)).get t = (slotsD (s + 1) l (fun _ => false) (setT T d0.o.dst d0.v)).get t :=
   slotsD_get l (s + 1) _ _ _ _ t rfl fun j d' he hd' => by
    have := hj (j + 1) d' (by omega) (by simpa using he) hd'
    have e2 : s + 1 + j = s + (j + 1) := by omega
    rw [e2]; exact this
  rw [this]
  have nil : ∀ (l : List Done) (s : Nat) (T : Tr AV), slotsD s l (fun _ => false) T = T := by
   intro l
   induction l with
   | nil => intros; rfl
   | cons d l ih => intro s T; simp [slotsD, ih]
  rw [nil, setT_get, if_pos hd]
 | d0 :: l, s, i + 1, D, T, t, d, h, hd, hD, hj => by
  simp only [slotsD]
  have e2 : s + 1 + i = s + (i + 1) := by omega
  refine slotsD_last l (s + 1) i D _ t d (by simpa using h) hd (by rw [e2]; exact hD) fun j d' hlt he hd' => ?_
  have := hj (j + 1) d' (by omega) (by simpa using he) hd'
  have e3 : s + 1 + j = s + (j + 1) := by omega
  rw [e3]; exact this

theorem least (p : Nat → Prop) : ∀ n, ∃ k, k ≤ n ∧ (∀ j, j < k → ¬ p j) ∧ (k = n ∨ p k)
 | 0 => ⟨0, Nat.le_refl _, fun j h => absurd h (Nat.not_lt_zero _), .inl rfl⟩
 | n + 1 => by
  obtain ⟨k, h1, h2, h3⟩ := least p n
  rcases h3 with rfl | h3
  ·rcases Classical.em (p k) with h | h
   ·exact ⟨k, by omega, h2, .inr h⟩
   ·refine ⟨k + 1, by omega, fun j hj => ?_, .inl rfl⟩
    rcases Nat.lt_succ_iff_lt_or_eq.1 hj with h' | rfl
    ·exact h2 j h'
    ·exact h
  ·exact ⟨k, by omega, h2, .inr h3⟩

theorem lastBelow (p : Nat → Prop) (i : Nat) : ∀ k, i ≤ k → ∃ m, i ≤ m ∧ m ≤ k ∧ (∀ j, m ≤ j → j < k → ¬ p j) ∧ (m = i ∨ ∃ l, m = l + 1 ∧ i ≤ l ∧ p l) := by
 intro k hk
 induction k with
 | zero => exact ⟨0, by omega, Nat.le_refl _, fun j _ h => absurd h (Nat.not_lt_zero _), .inl (by omega)⟩
 | succ k ih =>
  rcases Nat.lt_or_ge k i with h | h
  ·have : i = k + 1 := by omega
   subst this
   exact ⟨k + 1, Nat.le_refl _, Nat.le_refl _, fun j h1 h2 => absurd h2 (by omega), .inl rfl⟩
  ·rcases Classical.em (p k) with hp | hp
   ·exact ⟨k + 1, hk, Nat.le_refl _, fun j h1 h2 => absurd h2 (by omega), .inr ⟨k, rfl, h, hp⟩⟩
   ·obtain ⟨m, h1, h2, h3, h4⟩ := ih h
    refine ⟨m, h1, by omega, fun j a b => ?_, h4⟩
    rcases Nat.lt_succ_iff_lt_or_eq.1 b with h' | rfl
    ·exact h3 j a h'
    ·exact hp

structure GoodD (P : Program) (rec : Rec) (ops : Array Oper) (T0 : Tr AV) (X0 : AW × Nat) (s0 : Nat) (tr : List Done) (k : Nat) (d : Done) : Prop where
 op : ops[k]? = some d.o
 pos : d.i = k
 want : wantA ops d.T d.o = some d.want
 off : d.want = false → d.kind = 0 ∧ d.v = undefA
 on0 : d.want = true → d.kind = 0 → opA P d.T ⟨.lf, d.s⟩ d.o = some (.val d.v)
 on1 : d.kind = 1 → d.want = true ∧ opA P d.T ⟨.lf, d.s⟩ d.o = some (.new d.v d.ob) ∧ d.e = d.s + 1 ∧ notDead d.ob = true
 on2 : d.kind = 2 → d.want = true ∧ ∃ fs M, (∀ f ∈ fs, f ∈ tr.take k ∧ f.kind = 1) ∧ stepA P rec ops d.o d.T (runA fs d.mask d.ab d.s d.C) = some (false, d.v, M)
 on3 : d.kind = 3 → d.want = true ∧ ∃ fs, (∀ f ∈ fs, f ∈ tr.take k ∧ f.kind = 1) ∧ stepA P rec ops d.o d.T (runA fs d.mask d.ab d.s d.C) = some (true, d.v, d.C') ∧ d.e = d.C'.next ∧ d.ab' = d.ab ||| d.mask
 kinds : d.kind = 0 ∨ d.kind = 1 ∨ d.kind = 2 ∨ d.kind = 3
 slots : d.T = slotsAll (tr.take k) T0
 mem : (d.C, d.ab) = memAll (tr.take k) X0
 mask : ∀ j, d.mask.testBit j = true → ∃ e ∈ d.o.after, Region.binds .any e = true ∧ (j = e.on ∨ ∃ d', tr[e.on]? = some d' ∧ d'.mask.testBit j = true)
 names : s0 ≤ d.s ∧ d.s ≤ d.e ∧ ∀ j d', j < k → tr[j]? = some d' → d'.e ≤ d.s

def Good (P : Program) (rec : Rec) (ops : Array Oper) (T0 : Tr AV) (X0 : AW × Nat) (s0 : Nat) (tr : List Done) : Prop := ∀ k d, tr[k]? = some d → GoodD P rec ops T0 X0 s0 tr k d

section
variable {P : Program} {rec : Rec} {ops : Array Oper} {T0 : Tr AV} {X0 : AW × Nat} {s0 : Nat}
theorem GoodD.snoc {tr : List Done} {k : Nat} {d x : Done} (h : GoodD P rec ops T0 X0 s0 tr k d) (hk : k ≤ tr.length) : GoodD P rec ops T0 X0 s0 (tr ++ [x]) k d where
 op := h.op
 pos := h.pos
 want := h.want
 off := h.off
 on0 := h.on0
 on1 := h.on1
 on2 := by rw [List.take_append_of_le_length hk]; exact h.on2
 on3 := by rw [List.take_append_of_le_length hk]; exact h.on3
 kinds := h.kinds
 slots := by rw [List.take_append_of_le_length hk]; exact h.slots
 mem := by rw [List.take_append_of_le_length hk]; exact h.mem
 mask j hj := by
  obtain ⟨e, e1, e2, e3⟩ := h.mask j hj
  refine ⟨e, e1, e2, e3.imp id fun ⟨d', a, b⟩ => ⟨d', ?_, b⟩⟩
  rw [List.getElem?_append_left (List.getElem?_eq_some_iff.1 a).1]; exact a
 names := ⟨h.names.1, h.names.2.1, fun j d' hj he => by
  rw [List.getElem?_append_left (by omega)] at he
  exact h.names.2.2 j d' hj he⟩

theorem mask_bit (ms : Tr Nat) (j : Nat) : ∀ (es : List Edge) (s : Nat), (es.foldl (fun s e => if Region.binds .any e then s ||| 2 ^ e.on ||| (ms.get e.on).getD 0 else s) s).testBit j = true →
  s.testBit j = true ∨ ∃ e ∈ es, Region.binds .any e = true ∧ (j = e.on ∨ ((ms.get e.on).getD 0).testBit j = true)
 | [], s, h => .inl h
 | e :: es, s, h => by
  rw [List.foldl_cons] at h
  rcases mask_bit ms j es _ h with h1 | ⟨e', a, b⟩
  ·split at h1
   ·rename_i hb
    rw [Nat.testBit_or, Nat.testBit_or, Bool.or_eq_true, Bool.or_eq_true, Nat.testBit_two_pow] at h1
    rcases h1 with (h1 | h1) | h1
    ·exact .inl h1
    ·exact .inr ⟨e, by simp, hb, .inl (by simpa using (of_decide_eq_true h1).symm)⟩
    ·exact .inr ⟨e, by simp, hb, .inr h1⟩
   ·exact .inl h1
  ·exact .inr ⟨e', by simp [a], b⟩

structure One (P : Program) (rec : Rec) (ops : Array Oper) (i : Nat) (o : Oper) (mask : Nat) (fs : List Done) (T : Tr AV) (C : AW) (ab s : Nat) (d : Done) : Prop where
 qi : d.i = i
 qo : d.o = o
 qT : d.T = T
 qC : d.C = C
 qab : d.ab = ab
 qs : d.s = s
 qmask : d.mask = mask
 qe : s ≤ d.e
 want : wantA ops T o = some d.want
 off : d.want = false → d.kind = 0 ∧ d.v = undefA
 on0 : d.want = true → d.kind = 0 → opA P T ⟨.lf, s⟩ o = some (.val d.v)
 on1 : d.kind = 1 → d.want = true ∧ opA P T ⟨.lf, s⟩ o = some (.new d.v d.ob) ∧ d.e = s + 1 ∧ notDead d.ob = true
 on2 : d.kind = 2 → d.want = true ∧ ∃ M, stepA P rec ops o T (runA fs mask ab s C) = some (false, d.v, M)
 on3 : d.kind = 3 → d.want = true ∧ stepA P rec ops o T (runA fs mask ab s C) = some (true, d.v, d.C') ∧ d.e = d.C'.next ∧ d.ab' = ab ||| mask
 kinds : d.kind = 0 ∨ d.kind = 1 ∨ d.kind = 2 ∨ d.kind = 3
 quiet : d.kind ≠ 3 → d.C' = C ∧ d.ab' = ab

theorem oneA_spec {i : Nat} {o : Oper} {mask : Nat} {fs : List Done} {T : Tr AV} {C : AW} {ab s : Nat} {d : Done} (h : oneA P rec ops i o mask fs T C ab s = some d) : One P rec ops i o mask fs T C ab s d := by
 have ask : ∀ d, wantA ops T o = some true → askA P rec ops i o mask fs T C ab s = some d → One P rec ops i o mask fs T C ab s d := by
  intro d hw h
  unfold askA at h
  split at h
  ·rename_i v M hst; cases h
   exact ⟨rfl, rfl, rfl, rfl, rfl, rfl, rfl, Nat.le_refl _, hw, (fun e => by cases e), (fun _ e => by cases e), (fun e => by cases e), (fun _ => ⟨rfl, M, hst⟩), (fun e => by cases e), by simp [quietD], fun _ => ⟨rfl, rfl⟩⟩
  ·rename_i v A' hst; cases h
   have := (step_next hst).1
   simp only [runA] at this
   exact ⟨rfl, rfl, rfl, rfl, rfl, rfl, rfl, this, hw, (fun e => by cases e), (fun _ e => by cases e), (fun e => by cases e), (fun e => by cases e), (fun _ => ⟨rfl, hst, rfl, rfl⟩), by simp [loudD], fun e => absurd rfl e⟩
  ·cases h
 unfold oneA at h
 split at h
 ·cases h
 ·rename_i hw; cases h
  exact ⟨rfl, rfl, rfl, rfl, rfl, rfl, rfl, Nat.le_refl _, hw, (fun _ => ⟨rfl, rfl⟩), (fun e => by cases e), (fun e => by cases e), (fun e => by cases e), (fun e => by cases e), by simp [quietD], fun _ => ⟨rfl, rfl⟩⟩
 ·rename_i hw
  split at h
  ·unfold pureA at h
   rw [opF_eq] at h
   split at h
   ·rename_i v hop; cases h
    exact ⟨rfl, rfl, rfl, rfl, rfl, rfl, rfl, Nat.le_refl _, hw, (fun e => by cases e), (fun _ _ => hop), (fun e => by cases e), (fun e => by cases e), (fun e => by cases e), by simp [quietD], fun _ => ⟨rfl, rfl⟩⟩
   ·rename_i v ob hop
    split at h
    ·rename_i hnd; cases h
     exact ⟨rfl, rfl, rfl, rfl, rfl, rfl, rfl, Nat.le_succ _, hw, (fun e => by cases e), (fun _ e => by cases e), (fun _ => ⟨rfl, hop, rfl, hnd⟩), (fun e => by cases e), (fun e => by cases e), by simp [freshD], fun _ => ⟨rfl, rfl⟩⟩
    ·cases h
   ·exact ask d hw h
  ·exact ask d hw h

theorem traceA_cons (x : Oper × Nat) (l : List (Oper × Nat)) (i : Nat) (ds fs : List Done) (T : Tr AV) (C : AW) (ab s : Nat) : traceA P rec ops (x :: l) i ds fs T C ab s = traceStep P rec ops x (traceA P rec ops l) i ds fs T C ab s := rfl

theorem draw_trace : ∀ (l : List Oper) (i : Nat) (ms : Tr Nat) (ds fs : List Done) (T : Tr AV) (C : AW) (ab s : Nat) (ds' fs' : List Done) (T' : Tr AV) (C' : AW) (ab' s' : Nat), traceA P rec ops (masksL i l ms) i ds fs T C ab s = some (ds', fs', T', C', ab', s') →
  Good P rec ops T0 X0 s0 ds.reverse → ds.length = i → (∀ k, ms.get k = (ds.reverse[k]?).map (·.mask)) → ops.toList = ds.reverse.map (·.o) ++ l →
  T = slotsAll ds.reverse T0 → (C, ab) = memAll ds.reverse X0 → (∀ d ∈ ds, d.e ≤ s) → s0 ≤ s → (∀ f, f ∈ fs ↔ f ∈ ds ∧ f.kind = 1) →
  Good P rec ops T0 X0 s0 ds'.reverse ∧ ds'.reverse.map (·.o) = ops.toList ∧ T' = slotsAll ds'.reverse T0 ∧ (C', ab') = memAll ds'.reverse X0 ∧ (∀ d ∈ ds', d.e ≤ s') ∧ s0 ≤ s' ∧ (∀ f, f ∈ fs' ↔ f ∈ ds' ∧ f.kind = 1) ∧
  ds'.reverse.map (fun d => (d.o, d.mask)) = ds.reverse.map (fun d => (d.o, d.mask)) ++ masksL i l ms
 | [], i, ms, ds, fs, T, C, ab, s, ds', fs', T', C', ab', s', h, hg, hi, hm, ho, hT, hC, hn, hs, hf => by
  cases h
  exact ⟨hg, by simpa using ho.symm, hT, hC, hn, hs, hf, by simp [masksL]⟩
 | o :: l, i, ms, ds, fs, T, C, ab, s, ds', fs', T', C', ab', s', h, hg, hi, hm, ho, hT, hC, hn, hs, hf => by
  simp only [masksL] at h
  rw [traceA_cons] at h
  unfold traceStep at h
  split at h
  ·cases h
  ·rename_i d hone
   have z := oneA_spec hone
   have hlen : ds.reverse.length = i := by simpa using hi
   have hrev : ∀ d : Done, (d :: ds).reverse = ds.reverse ++ [d] := fun d => List.reverse_cons
   have htake : (ds.reverse ++ [d]).take i = ds.reverse := by rw [List.take_append_of_le_length (by omega), List.take_of_length_le (by omega)]
   refine (fun r => ⟨r.1, r.2.1, r.2.2.1, r.2.2.2.1, r.2.2.2.2.1, r.2.2.2.2.2.1, r.2.2.2.2.2.2.1, ?_⟩) (draw_trace l (i + 1) (ms.set i (maskOf ms o)) (d :: ds) (moreF d fs) (setT T o.dst d.v) d.C' d.ab' d.e ds' fs' T' C' ab' s' h ?_ (by simp [hi]) ?_ ?_ ?_ ?_ ?_ (by have := z.qe; omega) ?_)
   ·rw [hrev]
    intro k d0 hd
    by_cases hk : k < ds.reverse.length
    ·rw [List.getElem?_append_left hk] at hd
     exact (hg k d0 hd).snoc (by omega)
    ·have hk' : k = i := by
      have := (List.getElem?_eq_some_iff.1 hd).1
      simp at this hk; omega
     subst hk'
     rw [List.getElem?_append_right (by omega), hlen, Nat.sub_self] at hd
     simp at hd
     subst hd
     have hfs : ∀ f ∈ fs, f ∈ ds.reverse ∧ f.kind = 1 := fun f hh => by
      have := (hf f).1 hh
      exact ⟨by simpa using this.1, this.2⟩
     refine ⟨?_, z.qi, by rw [z.qT, z.qo]; exact z.want, z.off, by rw [z.qT, z.qo, z.qs]; exact z.on0, by rw [z.qT, z.qo, z.qs]; exact z.on1, ?_, ?_, z.kinds, ?_, ?_, ?_, ?_⟩
     ·have : ops.toList[k]? = some o := by
       rw [ho, List.getElem?_append_right (by simp [hi]), List.length_map, hlen, Nat.sub_self]; rfl
      rw [z.qo]; simpa using this
     ·rw [htake, z.qo, z.qT, z.qC, z.qab, z.qs, z.qmask]
      intro hk2
      obtain ⟨q1, M, q2⟩ := z.on2 hk2
      exact ⟨q1, fs, M, hfs, q2⟩
     ·rw [htake, z.qo, z.qT, z.qC, z.qab, z.qs, z.qmask]
      intro hk2
      obtain ⟨q1, q2, q3, q4⟩ := z.on3 hk2
      exact ⟨q1, fs, hfs, q2, q3, q4⟩
     ·rw [htake, z.qT]; exact hT
     ·rw [htake, z.qC, z.qab]; exact hC
     ·intro j hj
      rw [z.qmask] at hj
      simp only [maskOf] at hj
      rcases mask_bit ms j _ _ hj with h0 | ⟨e, e1, e2, e3⟩
      ·simp at h0
      ·refine ⟨e, by rw [z.qo]; simpa using e1, e2, e3.imp id fun h3 => ?_⟩
       rw [hm] at h3
       cases hq : ds.reverse[e.on]? with
       | none => rw [hq] at h3; simp at h3
       | some d' =>
        rw [hq] at h3
        exact ⟨d', by rw [List.getElem?_append_left (List.getElem?_eq_some_iff.1 hq).1]; exact hq, by simpa using h3⟩
     ·have := z.qe; have := z.qs
      refine ⟨by omega, by omega, fun j d' hj he => ?_⟩
      rw [List.getElem?_append_left (by omega)] at he
      rw [z.qs]
      exact hn d' (by simpa using List.mem_of_getElem? he)
   ·intro k
    rw [Tr.get_set, hrev]
    by_cases hk : k = i
    ·subst hk
     rw [if_pos rfl, List.getElem?_append_right (by omega), hlen, Nat.sub_self]
     simp [z.qmask]
    ·rw [if_neg hk, hm]
     by_cases hk2 : k < ds.reverse.length
     ·rw [List.getElem?_append_left hk2]
     ·rw [List.getElem?_eq_none (by omega), List.getElem?_eq_none (by simp at hk2 ⊢; omega)]
   ·rw [hrev, ho]; simp [z.qo]
   ·rw [hrev, slotsAll, List.foldl_append, hT]; simp only [List.foldl_cons, List.foldl_nil, z.qo]; rfl
   ·rw [hrev, memAll, List.foldl_append]
    have : (C, ab) = List.foldl (fun X d => nxt d X) X0 ds.reverse := hC
    rw [← this]
    simp only [List.foldl_cons, List.foldl_nil]
    by_cases hl : d.kind = 3
    ·rw [nxt_loud hl]
    ·rw [nxt_quiet hl, (z.quiet hl).1, (z.quiet hl).2]
   ·intro d0 hd0
    rcases List.mem_cons.1 hd0 with rfl | hd0
    ·exact Nat.le_refl _
    ·have := hn d0 hd0; have := z.qe; omega
   ·intro f
    unfold moreF
    by_cases hk1 : d.kind = 1
    ·rw [hk1]
     simp only [List.mem_cons]
     constructor
     ·rintro (rfl | h')
      ·exact ⟨.inl rfl, hk1⟩
      ·exact ⟨.inr ((hf f).1 h').1, ((hf f).1 h').2⟩
     ·rintro ⟨rfl | h', h2⟩
      ·exact .inl rfl
      ·exact .inr ((hf f).2 ⟨h', h2⟩)
    ·have hb : Nat.beq d.kind 1 = false := by
      cases hb : Nat.beq d.kind 1 with
      | false => rfl
      | true => exact absurd (Nat.eq_of_beq_eq_true hb) hk1
     rw [hb]
     simp only [List.mem_cons]
     rw [hf]
     constructor
     ·rintro ⟨h1, h2⟩; exact ⟨.inr h1, h2⟩
     ·rintro ⟨rfl | h1, h2⟩
      ·exact absurd h2 hk1
      ·exact ⟨h1, h2⟩
   ·rw [r.2.2.2.2.2.2.2, hrev, masksL]
    simp [z.qo, z.qmask]

theorem apart_spec' {nt : Nat} : ∀ {L : List (Oper × Nat)} {s : Nat}, apartAll ops nt s L = true → ∀ (i : Nat) (x : Oper × Nat), L[i]? = some x →
  edgesOk (s + i) x.1 = true ∧ dstOk nt x.1.dst = true ∧ ∀ (j : Nat) (y : Oper × Nat), i < j → L[j]? = some y → y.2.testBit (s + i) = true ∨ x.1.apart ops y.1 = true
 | [], _, _, i, x, h => by simp at h
 | z :: L, s, h, i, x, hi => by
  simp only [apartAll, Bool.and_eq_true] at h
  obtain ⟨⟨⟨h1, h2⟩, h3⟩, h4⟩ := h
  cases i with
  | zero =>
   simp at hi; subst hi
   refine ⟨h1, h2, fun j y hj hy => ?_⟩
   cases j with
   | zero => omega
   | succ j =>
    simp at hy
    have row : ∀ {l : List (Oper × Nat)}, apartRow ops z.1 s l = true → ∀ y ∈ l, y.2.testBit s = true ∨ z.1.apart ops y.1 = true := by
     intro l
     induction l with
     | nil => intro _ y hy; cases hy
     | cons w l ih =>
      intro hr y hy
      simp only [apartRow, Bool.and_eq_true, Bool.or_eq_true] at hr
      rcases List.mem_cons.1 hy with rfl | hy
      ·exact hr.1
      ·exact ih hr.2 y hy
    exact row h3 y (List.mem_of_getElem? hy)
  | succ i =>
   simp at hi
   obtain ⟨q1, q2, q3⟩ := apart_spec' h4 i x hi
   have e : s + 1 + i = s + (i + 1) := by omega
   rw [e] at q1 q3
   refine ⟨q1, q2, fun j y hj hy => ?_⟩
   cases j with
   | zero => omega
   | succ j => exact q3 j y (by omega) (by simpa using hy)
end
theorem vSame_spec {a b : Value} (h : vSame a b = true) : a = b := by
 unfold vSame at h
 split at h
 ·simp only [Bool.and_eq_true, decide_eq_true_eq] at h; rw [h.1, h.2]
 ·simp at h; rw [h]
 ·simp only [bytesSame, decide_eq_true_eq] at h
  rename_i s t
  have : s.data = t.data := Array.ext' h
  obtain ⟨s⟩ := s; obtain ⟨t⟩ := t
  simp at this; rw [this]
 ·rfl
 ·simp only [Bool.and_eq_true] at h; rw [Nat.eq_of_beq_eq_true h.1, Nat.eq_of_beq_eq_true h.2]
 ·rfl
 ·rfl
 ·rfl
 ·rename_i a b
  simp only [Bool.and_eq_true, List.isEmpty_iff] at h
  have : a = b := Array.ext' (by rw [h.1, h.2])
  rw [this]
 ·cases h

mutual
theorem aSame_spec : ∀ {a b : AV}, aSame a b = true → a = b
 | .flat v, b, h => by cases b <;> simp only [aSame, Bool.false_eq_true] at h; rw [vSame_spec h]
 | .ptr n o, b, h => by
  cases b <;> simp only [aSame, Bool.false_eq_true, Bool.and_eq_true] at h; rw [Nat.eq_of_beq_eq_true h.1, Nat.eq_of_beq_eq_true h.2]
 | .sl n o l c bb, b, h => by
  cases b <;> simp only [aSame, Bool.false_eq_true, Bool.and_eq_true, beq_iff_eq] at h
  obtain ⟨⟨⟨⟨h1, h2⟩, h3⟩, h4⟩, h5⟩ := h
  rw [Nat.eq_of_beq_eq_true h1, Nat.eq_of_beq_eq_true h2, Nat.eq_of_beq_eq_true h3, Nat.eq_of_beq_eq_true h4, h5]
 | .sle n o p, b, h => by
  cases b <;> simp only [aSame, Bool.false_eq_true, Bool.and_eq_true] at h
  obtain ⟨⟨h1, h2⟩, h3⟩ := h
  rw [Nat.eq_of_beq_eq_true h1, Nat.eq_of_beq_eq_true h2, Nat.eq_of_beq_eq_true h3]
 | .mp n, b, h => by cases b <;> simp only [aSame, Bool.false_eq_true] at h; rw [Nat.eq_of_beq_eq_true h]
 | .fn f x y, b, h => by
  cases b <;> simp only [aSame, Bool.false_eq_true, Bool.and_eq_true] at h
  obtain ⟨⟨h1, h2⟩, h3⟩ := h
  rw [Nat.eq_of_beq_eq_true h1, asSame_spec h2, asSame_spec h3]
 | .yld n, b, h => by cases b <;> simp only [aSame, Bool.false_eq_true] at h; rw [Nat.eq_of_beq_eq_true h]
 | .ifc t v, b, h => by
  cases b <;> simp only [aSame, Bool.false_eq_true, Bool.and_eq_true] at h; rw [Nat.eq_of_beq_eq_true h.1, aSame_spec h.2]
 | .agg l, b, h => by cases b <;> simp only [aSame, Bool.false_eq_true] at h; rw [asSame_spec h]
 | .tup l, b, h => by cases b <;> simp only [aSame, Bool.false_eq_true] at h; rw [asSame_spec h]
 | .any, b, h => by cases b <;> simp only [aSame, Bool.false_eq_true] at h; rfl
 | .rng x y, b, h => by
  cases b <;> simp only [aSame, Bool.false_eq_true, Bool.and_eq_true, decide_eq_true_eq] at h
  rw [h.1, h.2]
 | .pick n i l, b, h => by
  cases b <;> simp only [aSame, Bool.false_eq_true, Bool.and_eq_true] at h
  obtain ⟨⟨h1, h2⟩, h3⟩ := h
  rw [Nat.eq_of_beq_eq_true h1, Nat.eq_of_beq_eq_true h2, asSame_spec h3]
theorem asSame_spec : ∀ {a b : List AV}, asSame a b = true → a = b
 | [], [], _ => rfl
 | [], _ :: _, h | _ :: _, [], h => by simp [asSame] at h
 | a :: l, b :: m, h => by
  simp only [asSame, Bool.and_eq_true] at h
  rw [aSame_spec h.1, asSame_spec h.2]
end
end
/-! ### Memory as a function of names; what a run on a part of it leaves alone -/
section
variable {P : Program}
theorem Sim.part {ρ : Rn} {H H' : Nat → Option AO} {w : World} (hs : Sim P ρ H w) (h : ∀ n ao, H' n = some ao → H n = some ao) : Sim P ρ H' w :=
  ⟨fun n ao e => hs.obj n ao (h n ao e), fun n m a b l l' h1 h2 => hs.inj n m a b l l' (h n a h1) (h m b h2)⟩

structure Ext2 (ρ : Rn) (w : World) (H : Nat → Option AO) (ρ' : Rn) (w' : World) (H' : Nat → Option AO) : Prop where
  sub : Sub ρ ρ'
  back : ∀ n ao l, H' n = some ao → ρ' n = some l → w.heap.size ≤ l.blk ∨ ∃ m am l', H m = some am ∧ ρ m = some l' ∧ l'.blk = l.blk
  keep : ∀ b, b < w.heap.size → (∀ n ao l, H n = some ao → ρ n = some l → l.blk ≠ b) → w'.heap[b]? = w.heap[b]?
  size : w.heap.size ≤ w'.heap.size
  os : w'.os = w.os
  tape : w'.tape = w.tape
  output : w'.output = w.output

theorem Ext2.refl (ρ : Rn) (w : World) (H : Nat → Option AO) : Ext2 ρ w H ρ w H :=
  ⟨Sub.refl ρ, fun n ao l h e => .inr ⟨n, ao, l, h, e, rfl⟩, fun _ _ _ => rfl, Nat.le_refl _, rfl, rfl, rfl⟩

theorem Ext2.trans {ρ ρ1 ρ2 : Rn} {w w1 w2 : World} {H H1 H2 : Nat → Option AO} (h : Ext2 ρ w H ρ1 w1 H1) (k : Ext2 ρ1 w1 H1 ρ2 w2 H2) : Ext2 ρ w H ρ2 w2 H2 where
  sub := h.sub.trans k.sub
  back n ao l e e1 := by
    rcases k.back n ao l e e1 with h1 | ⟨m, am, l', a, b, c⟩
    · have := h.size; exact .inl (by omega)
    · rcases h.back m am l' a b with h2 | ⟨m2, am2, l2, a2, b2, c2⟩
      · exact .inl (by omega)
      · exact .inr ⟨m2, am2, l2, a2, b2, c2.trans c⟩
  keep b hb hn := by
    have h1 := h.keep b hb hn
    have hs := h.size
    rw [← h1]
    refine k.keep b (by omega) fun n ao l e e1 hl => ?_
    rcases h.back n ao l e e1 with h2 | ⟨m, am, l', a, bb, c⟩
    · omega
    · exact hn m am l' a bb (c.trans hl)
  size := Nat.le_trans h.size k.size
  os := k.os.trans h.os
  tape := k.tape.trans h.tape
  output := k.output.trans h.output

theorem Ext2.part {ρ ρ' : Rn} {w w' : World} {H H' H2 : Nat → Option AO} (h : Ext2 ρ w H ρ' w' H') (k : ∀ n ao, H2 n = some ao → H' n = some ao) : Ext2 ρ w H ρ' w' H2 :=
  ⟨h.sub, fun n ao l e => h.back n ao l (k n ao e), h.keep, h.size, h.os, h.tape, h.output⟩

theorem frame_rule {ρ ρ' : Rn} {w w' : World} {H : Nat → Option AO} {A A' : AW} (hs : Sim P ρ H w) (hp : ∀ n ao, A.live n = some ao → H n = some ao) (h1 : Sim P ρ' A'.live w') (h2 : Ext ρ w A ρ' w' A') (H' : Nat → Option AO)
    (hH : ∀ n ao, H' n = some ao → A'.live n = some ao ∨ (A'.live n = none ∧ A.live n = none ∧ H n = some ao)) : Sim P ρ' H' w' ∧ Ext2 ρ w H ρ' w' H' := by
  -- a block of the rest
  have rest : ∀ n ao, A.live n = none → H n = some ao → ∃ l o, ρ n = some l ∧ w.heap[l.blk]? = some o ∧ w'.heap[l.blk]? = some o ∧ OR P ρ l ao o ∧ l.blk < w.heap.size ∧ ∀ m am lm, A.live m = some am → ρ m = some lm → lm.blk ≠ l.blk := by
    intro n ao hn hao
    obtain ⟨l, o, e1, e2, e3⟩ := hs.obj n ao hao
    have hlt := (Array.getElem?_eq_some_iff.1 e2).1
    have hne : ∀ m am lm, A.live m = some am → ρ m = some lm → lm.blk ≠ l.blk := fun m am lm hm hl he => by
      have := hs.inj m n am ao lm l (hp m am hm) hao hl e1 he
      subst this
      rw [hn] at hm; cases hm
    exact ⟨l, o, e1, e2, by rw [h2.keep _ hlt fun m am lm hm hl he => hne m am lm hm hl he]; exact e2, e3, hlt, hne⟩
  -- a block of the part's outcome is no block of the rest
  have apart : ∀ n ao l m am lm, A'.live n = some ao → ρ' n = some l → A.live m = none → H m = some am → ρ' m = some lm → l.blk ≠ lm.blk := by
    intro n ao l m am lm hn hl hm hm2 hlm he
    obtain ⟨l2, o, e1, e2, e3, e4, e5, e6⟩ := rest m am hm hm2
    have := h2.sub _ _ e1
    rw [hlm] at this; cases this
    rcases h2.back n ao l hn hl with h | ⟨k, ak, lk, k1, k2, k3⟩
    · omega
    · exact e6 k ak lk k1 k2 (k3.trans he)
  refine ⟨⟨fun n ao hn => ?_, fun n m a b l l' hn hm e1 e2 he => ?_⟩, ⟨h2.sub, fun n ao l hn hl => ?_, fun b hb hk => ?_, h2.size, h2.os, h2.tape, h2.output⟩⟩
  · rcases hH n ao hn with h | ⟨_, h, k⟩
    · exact h1.obj n ao h
    · obtain ⟨l, o, e1, e2, e3, e4, e5, e6⟩ := rest n ao h k
      exact ⟨l, o, h2.sub _ _ e1, e3, e4.mono h2.sub⟩
  · rcases hH n a hn with h | ⟨_, h, k⟩
    · rcases hH m b hm with h' | ⟨_, h', k'⟩
      · exact h1.inj n m a b l l' h h' e1 e2 he
      · exact (apart n a l m b l' h e1 h' k' e2 he).elim
    · rcases hH m b hm with h' | ⟨_, h', k'⟩
      · exact (apart m b l' n a l h' e2 h k e1 he.symm).elim
      · obtain ⟨l1, _, q1, _⟩ := rest n a h k
        obtain ⟨l2, _, q2, _⟩ := rest m b h' k'
        have := h2.sub _ _ q1; rw [e1] at this; cases this
        have := h2.sub _ _ q2; rw [e2] at this; cases this
        exact hs.inj n m a b l l' k k' q1 q2 he
  · rcases hH n ao hn with h | ⟨_, h, k⟩
    · rcases h2.back n ao l h hl with h' | ⟨m, am, lm, k1, k2, k3⟩
      · exact .inl h'
      · exact .inr ⟨m, am, lm, hp m am k1, k2, k3⟩
    · obtain ⟨l1, _, q1, _⟩ := rest n ao h k
      have := h2.sub _ _ q1; rw [hl] at this; cases this
      exact .inr ⟨n, ao, l, k, q1, rfl⟩
  · exact h2.keep b hb fun n ao l hn hl => hk n ao l (hp n ao hn) hl

theorem Sim.pushAt {ρ : Rn} {H : Nat → Option AO} {w w' : World} (hs : Sim P ρ H w) {ao : AO} {o : Obj} {room s : Nat} (hp : Pushed w o w') (hf : ρ s = none)
    (ho : OR P (upd ρ s ⟨w.heap.size, 0, room⟩) ⟨w.heap.size, 0, room⟩ ao o) (H' : Nat → Option AO) (hH : ∀ n am, H' n = some am → (n = s ∧ am = ao) ∨ (n ≠ s ∧ H n = some am)) :
    Sim P (upd ρ s ⟨w.heap.size, 0, room⟩) H' w' ∧ Ext2 ρ w H (upd ρ s ⟨w.heap.size, 0, room⟩) w' H' := by
  have hsub := upd_sub (l := ⟨w.heap.size, 0, room⟩) hf
  have hlt : ∀ m am lm, H m = some am → upd ρ s ⟨w.heap.size, 0, room⟩ m = some lm → m ≠ s → lm.blk < w.heap.size ∧ ρ m = some lm := by
    intro m am lm hm e hne
    obtain ⟨l2, o2, e1, e2, _⟩ := hs.obj m am hm
    simp only [upd, if_neg hne] at e
    rw [e1] at e; cases e
    exact ⟨(Array.getElem?_eq_some_iff.1 e2).1, e1⟩
  refine ⟨⟨fun m am hm => ?_, fun m k a b l l' hm hk e1 e2 he => ?_⟩, ⟨hsub, fun m am l hm e => ?_, fun b hb _ => ?_, ?_, hp.os, hp.tape, hp.output⟩⟩
  · rcases hH m am hm with ⟨rfl, rfl⟩ | ⟨hne, h⟩
    · exact ⟨_, o, upd_at, by rw [hp.heap]; simp, ho⟩
    · obtain ⟨l2, o2, e1, e2, e3⟩ := hs.obj m am h
      refine ⟨l2, o2, hsub _ _ e1, ?_, e3.mono hsub⟩
      have := (Array.getElem?_eq_some_iff.1 e2).1
      rw [hp.heap, Array.getElem?_push, if_neg (by omega)]
      exact e2
  · rcases hH m a hm with ⟨rfl, _⟩ | ⟨hne, h⟩
    · rcases hH k b hk with ⟨rfl, _⟩ | ⟨hne', h'⟩
      · rfl
      · rw [upd_at] at e1; cases e1
        have := (hlt k b l' h' e2 hne').1
        simp at he; omega
    · rcases hH k b hk with ⟨rfl, _⟩ | ⟨hne', h'⟩
      · rw [upd_at] at e2; cases e2
        have := (hlt m a l h e1 hne).1
        simp at he; omega
      · exact hs.inj m k a b l l' h h' (hlt m a l h e1 hne).2 (hlt k b l' h' e2 hne').2 he
  · rcases hH m am hm with ⟨rfl, _⟩ | ⟨hne, h⟩
    · rw [upd_at] at e; cases e; exact .inl (Nat.le_refl _)
    · exact .inr ⟨m, am, l, h, (hlt m am l h e hne).2, rfl⟩
  · rw [hp.heap, Array.getElem?_push, if_neg (by omega)]
  · rw [hp.heap]; simp
end
section
variable {P : Program} {rec : Rec} {nt : Nat} {ops : Array Oper} {T0 : Tr AV} {X0 : AW × Nat} {s0 : Nat}
theorem memAll_succ {tr : List Done} {k : Nat} {d : Done} (h : tr[k]? = some d) : memAll (tr.take (k + 1)) X0 = nxt d (memAll (tr.take k) X0) := by
  have : tr.take (k + 1) = tr.take k ++ [d] := by rw [List.take_add_one, h]; rfl
  rw [this, memAll, List.foldl_append]; rfl

theorem quiet_step {o : Oper} {T : Tr AV} {A A' : AW} {v : AV} (h : stepA P rec ops o T A = some (false, v, A')) (hw : wantA ops T o = some true) : opA P T A o = some (.val v) := by
  unfold stepA at h
  rw [hw] at h
  simp only [opF_eq] at h
  split at h
  · cases h
  · rename_i v' hop; cases h; exact hop
  · cases h
  · split at h <;> cases h
  all_goals first
    | (cases h; done)
    | (unfold calledA at h
       split at h
       · split at h <;> cases h
       · cases h)

theorem again_spec {q : Done} {A : AW} (h : again P q A = true) : opA P q.T A q.o = some (.val q.v) := by
  unfold again at h
  rw [opF_eq] at h
  split at h
  · rename_i v hop; rw [← aSame_spec h]; exact hop
  · cases h

theorem addP_get : ∀ (l : List Done) (m ab : Nat) (A : AW) (n : Nat) (ao : AO), (addP l m ab A).get n = some ao →
    (∃ d ∈ l, m.testBit d.i = true ∧ ab.testBit d.i = false ∧ d.s = n ∧ d.ob = ao) ∨ A.get n = some ao
  | [], _, _, _, _, _, h => .inr h
  | d :: l, m, ab, A, n, ao, h => by
    simp only [addP] at h
    split at h
    · rename_i hb
      simp only [Bool.and_eq_true, Bool.not_eq_true'] at hb
      obtain ⟨b2, b3⟩ := hb
      rcases addP_get l m ab _ n ao h with ⟨d', a, b⟩ | h'
      · exact .inl ⟨d', by simp [a], b⟩
      · simp only [AW.get, AW.set, Tr.get_set] at h'
        by_cases e : n = d.s
        · rw [if_pos e] at h'
          exact .inl ⟨d, by simp, b2, b3, e.symm, by simpa using h'⟩
        · rw [if_neg e] at h'; exact .inr h'
    · rcases addP_get l m ab _ n ao h with ⟨d', a, b⟩ | h'
      · exact .inl ⟨d', by simp [a], b⟩
      · exact .inr h'

theorem runA_get {l : List Done} {m ab s : Nat} {A : AW} {n : Nat} {ao : AO} (h : (runA l m ab s A).live n = some ao) :
    (∃ d ∈ l, m.testBit d.i = true ∧ ab.testBit d.i = false ∧ d.s = n ∧ d.ob = ao) ∨ A.live n = some ao := by
  obtain ⟨h1, h2⟩ := get_of_live h
  rcases addP_get l m ab A n ao h1 with h3 | h3
  · exact .inl h3
  · exact .inr (live_of_get h3 h2)

def Closed (tr : List Done) (L : List Nat) : Prop := ∀ i ∈ L, ∀ d, tr[i]? = some d → ∀ e ∈ d.o.after, Region.binds .any e = true → e.on ∈ L

theorem closed_mask {tr : List Done} (hg : Good P rec ops T0 X0 s0 tr) (hE : ∀ (k : Nat) (d : Done), tr[k]? = some d → ∀ e ∈ d.o.after, Region.binds .any e = true → e.on < k) {L : List Nat} (hc : Closed tr L) : ∀ (i : Nat) (d : Done), tr[i]? = some d → (∀ e ∈ d.o.after, Region.binds .any e = true → e.on ∈ L) →
    ∀ j, d.mask.testBit j = true → j ∈ L := by
  intro i
  induction i using Nat.strongRecOn with
  | _ i ih =>
    intro d hd he j hj
    obtain ⟨e, e1, e2, e3⟩ := (hg i d hd).mask j hj
    have hl := he e e1 e2
    rcases e3 with rfl | ⟨d', a, b⟩
    · exact hl
    · exact ih e.on (hE i d hd e e1 e2) d' a (hc _ hl d' a) j b

def Pend (tr : List Done) (L : List Nat) (ab n : Nat) (ao : AO) : Prop := ∃ j d, j ∈ L ∧ tr[j]? = some d ∧ d.kind = 1 ∧ ab.testBit j = false ∧ d.s = n ∧ d.ob = ao

open Classical in
noncomputable def memL (tr : List Done) (L : List Nat) (X : AW × Nat) : Nat → Option AO := fun n =>
  if h : ∃ ao, Pend tr L X.2 n ao then some h.choose else X.1.live n

theorem same_name {tr : List Done} (hg : Good P rec ops T0 X0 s0 tr) {i j : Nat} {d d' : Done} (hi : tr[i]? = some d) (hj : tr[j]? = some d') {n : Nat} (h1 : d.s ≤ n ∧ n < d.e) (h2 : d'.s ≤ n ∧ n < d'.e) : i = j := by
  rcases Nat.lt_trichotomy i j with h | h | h
  · have := (hg j d' hj).names.2.2 i d h hi; omega
  · exact h
  · have := (hg i d hi).names.2.2 j d' h hj; omega

theorem memL_pend {tr : List Done} (hg : Good P rec ops T0 X0 s0 tr) {L : List Nat} {X : AW × Nat} {n : Nat} {ao : AO} (h : Pend tr L X.2 n ao) : memL tr L X n = some ao := by
  have hx : ∃ ao, Pend tr L X.2 n ao := ⟨ao, h⟩
  unfold memL
  rw [dif_pos hx]
  obtain ⟨j, d, _, h2, h3, _, h5, h6⟩ := hx.choose_spec
  obtain ⟨j', d', _, k2, k3, _, k5, k6⟩ := h
  have e1 := ((hg j d h2).on1 h3).2.2.1
  have e2 := ((hg j' d' k2).on1 k3).2.2.1
  have : j = j' := same_name hg h2 k2 (n := n) (by omega) (by omega)
  subst this
  rw [h2] at k2; cases k2
  rw [← h6, ← k6]

theorem memL_not {tr : List Done} {L : List Nat} {X : AW × Nat} {n : Nat} (h : ¬ ∃ ao, Pend tr L X.2 n ao) : memL tr L X n = X.1.live n := by
  unfold memL; rw [dif_neg h]

theorem memL_cases {tr : List Done} (hg : Good P rec ops T0 X0 s0 tr) {L : List Nat} {X : AW × Nat} {n : Nat} {ao : AO} (h : memL tr L X n = some ao) : Pend tr L X.2 n ao ∨ ((¬ ∃ ao, Pend tr L X.2 n ao) ∧ X.1.live n = some ao) := by
  rcases Classical.em (∃ ao, Pend tr L X.2 n ao) with ⟨a, ha⟩ | hn
  · rw [memL_pend hg ha] at h; cases h; exact .inl ha
  · rw [memL_not hn] at h; exact .inr ⟨hn, h⟩

theorem chain_cases (tr : List Done) : ∀ k, memAll (tr.take k) X0 = X0 ∨ ∃ i l, i < k ∧ tr[i]? = some l ∧ l.kind = 3 ∧ memAll (tr.take k) X0 = (l.C', l.ab') := by
  intro k
  induction k with
  | zero => exact .inl rfl
  | succ k ih =>
    cases h : tr[k]? with
    | none =>
      have : tr.take (k + 1) = tr.take k := by
        rw [List.getElem?_eq_none_iff] at h
        rw [List.take_of_length_le (by omega), List.take_of_length_le h]
      rw [this]
      exact ih.imp id fun ⟨i, l, a, b⟩ => ⟨i, l, by omega, b⟩
    | some d =>
      rw [memAll_succ h]
      by_cases hk : d.kind = 3
      · rw [nxt_loud hk]; exact .inr ⟨k, d, by omega, h, hk, rfl⟩
      · rw [nxt_quiet hk]
        exact ih.imp id fun ⟨i, l, a, b⟩ => ⟨i, l, by omega, b⟩

structure Chk (P : Program) (nt : Nat) (ops : Array Oper) (A0 : AW) (tr fs : List Done) : Prop where
  edges : ∀ (k : Nat) (d : Done), tr[k]? = some d → ∀ e ∈ d.o.after, Region.binds .any e = true → e.on < k
  dst : ∀ (k : Nat) (d : Done), tr[k]? = some d → dstOk nt d.o.dst = true
  apart : ∀ (i j : Nat) (x y : Done), i < j → tr[i]? = some x → tr[j]? = some y → y.mask.testBit i = true ∨ x.o.apart ops y.o = true
  pair : ∀ (i j : Nat) (x y : Done), i < j → tr[i]? = some x → tr[j]? = some y → y.mask.testBit i = true ∨ pairOk P fs x y = true
  start : ∀ (j : Nat) (f : Done), tr[j]? = some f → f.kind = 1 → A0.get f.s = none
  loud : ∀ (j : Nat) (f : Done) (k : Nat) (l : Done), tr[j]? = some f → f.kind = 1 → tr[k]? = some l → l.kind = 3 → (l.ab.testBit j = true ∨ l.C.get f.s = none) ∧ (l.ab'.testBit j = true ∨ l.C'.get f.s = none)
  fresh : ∀ f ∈ fs, f ∈ tr ∧ f.kind = 1

theorem gone_spec {A : AW} {n : Nat} (h : gone A n = true) : A.get n = none := by
  unfold gone at h
  split at h
  · assumption
  · cases h

theorem row_spec {fs : List Done} {y : Done} : ∀ {l : List Done}, rowOk P fs y l = true → ∀ x ∈ l, y.mask.testBit x.i = true ∨ pairOk P fs x y = true
  | [], _, x, h => by cases h
  | z :: l, h, x, hx => by
    simp only [rowOk, Bool.and_eq_true, Bool.or_eq_true] at h
    rcases List.mem_cons.1 hx with rfl | hx
    · exact h.1
    · exact row_spec h.2 x hx

theorem pairs_spec {fs : List Done} : ∀ {l : List Done}, pairsOk P fs l = true → ∀ (i j : Nat) (x y : Done), i < j → l.reverse[i]? = some x → l.reverse[j]? = some y → y.mask.testBit x.i = true ∨ pairOk P fs x y = true
  | [], _, i, j, x, y, _, h, _ => by simp at h
  | z :: l, h, i, j, x, y, hij, hx, hy => by
    rw [List.reverse_cons] at hx hy
    have hj : j < (l.reverse ++ [z]).length := (List.getElem?_eq_some_iff.1 hy).1
    simp only [List.length_append, List.length_reverse, List.length_cons, List.length_nil] at hj
    rw [List.getElem?_append_left (by simp; omega)] at hx
    have hrest : pairsOk P fs l = true := by
      simp only [pairsOk] at h
      split at h
      · simp only [Bool.and_eq_true] at h; exact h.2
      · exact h
    by_cases hjl : j < l.reverse.length
    · rw [List.getElem?_append_left hjl] at hy
      exact pairs_spec hrest i j x y hij hx hy
    · rw [List.getElem?_append_right (by omega)] at hy
      have : j - l.reverse.length = 0 := by simp at hjl ⊢; omega
      rw [this] at hy
      simp at hy; subst hy
      simp only [pairsOk] at h
      split at h
      · simp only [Bool.and_eq_true] at h
        exact row_spec h.1 x (by simpa using List.mem_of_getElem? hx)
      · rename_i hb
        right
        have hk : z.kind < 2 := by
          apply Classical.byContradiction
          intro hn
          have : Nat.ble 2 z.kind = true := Nat.ble_eq_true_of_le (by omega)
          rw [this] at hb; cases hb
        have hz : z.kind = 0 ∨ z.kind = 1 := by omega
        unfold pairOk
        rcases hz with hz | hz <;> rw [hz] <;> split <;> first | rfl | (rename_i h1 h2; cases h2)

theorem chk_of {ds fs : List Done} {A0 : AW} (hg : Good P rec ops T0 X0 s0 ds.reverse) (hfs : ∀ f, f ∈ fs ↔ f ∈ ds ∧ f.kind = 1) (hst : staticOk nt ops = true) (hmap : ds.reverse.map (fun d => (d.o, d.mask)) = masksL 0 ops.toList .lf)
    (h1 : pairsOk P fs ds = true) (h2 : namesOk A0 fs ds = true) : Chk P nt ops A0 ds.reverse fs := by
  unfold namesOk at h2
  have mem : ∀ {j : Nat} {f : Done}, ds.reverse[j]? = some f → f ∈ ds := fun h => by simpa using List.mem_of_getElem? h
  have names : ∀ f ∈ ds, f.kind = 1 → A0.get f.s = none ∧ ∀ l ∈ ds, l.kind = 3 → (l.ab.testBit f.i = true ∨ l.C.get f.s = none) ∧ (l.ab'.testBit f.i = true ∨ l.C'.get f.s = none) := by
    intro f hf hk
    have := List.all_eq_true.1 h2 f ((hfs f).2 ⟨hf, hk⟩)
    simp only [Bool.and_eq_true] at this
    obtain ⟨a, b⟩ := this
    refine ⟨gone_spec a, fun l hl hk3 => ?_⟩
    have := List.all_eq_true.1 b l hl
    rw [hk3] at this
    simp only [Bool.and_eq_true, Bool.or_eq_true] at this
    exact ⟨this.1.imp id gone_spec, this.2.imp id gone_spec⟩
  have stat : ∀ (i : Nat) (d : Done), ds.reverse[i]? = some d → (masksL 0 ops.toList .lf)[i]? = some (d.o, d.mask) := fun i d h => by
    rw [← hmap, List.getElem?_map, h]; rfl
  have hap := fun i x => apart_spec' (ops := ops) (nt := nt) hst i x
  refine ⟨fun k d hd e he hb => ?_, fun k d hd => (hap k _ (stat k d hd)).2.1, fun i j x y hij hx hy => ?_, fun i j x y hij hx hy => ?_, fun j f hf hk => (names f (mem hf) hk).1, fun j f k l hf hk hl hk3 => ?_, fun f hf => ?_⟩
  · have := (hap k _ (stat k d hd)).1
    simp only [edgesOk, Nat.zero_add] at this
    have := List.all_eq_true.1 this e (by simpa using he)
    simpa [hb] using this
  · have := (hap i _ (stat i x hx)).2.2 j _ hij (stat j y hy)
    simpa using this
  · have := pairs_spec h1 i j x y hij hx hy
    rw [(hg i x hx).pos] at this
    exact this
  · have := (names f (mem hf) hk).2 l (mem hl) hk3
    rw [(hg j f hf).pos] at this
    exact this
  · have := (hfs f).1 hf
    exact ⟨by simpa using this.1, this.2⟩

structure Inv (P : Program) (rec : Rec) (nt : Nat) (ops : Array Oper) (T0 : Tr AV) (A0 : AW) (eE : Nat) (tr : List Done) (ρ0 : Rn) (w0 : World) (ds : List Deferred) (L : List Nat) (listed : Array Bool) (a : Act) (w : World) : Prop where
  nodup : L.Nodup
  lt : ∀ i ∈ L, i < tr.length
  size : listed.size = tr.length
  get : ∀ i, listed.getD i false = true ↔ i ∈ L
  closed : Closed tr L
  defers : a.defers = ds
  rest : ∃ ρ, TR ρ nt (slotsD 0 tr (fun j => decide (j ∈ L)) T0) a.tmps ∧ Sim P ρ (memL tr L (memD 0 tr (fun j => decide (j ∈ L)) (A0, 0))) w ∧
    Ext2 ρ0 w0 A0.live ρ w (memL tr L (memD 0 tr (fun j => decide (j ∈ L)) (A0, 0))) ∧
    (∀ n, A0.next ≤ n → n < eE → ρ n ≠ none → ∃ j d, j ∈ L ∧ tr[j]? = some d ∧ d.s ≤ n ∧ n < d.e) ∧
    (∀ n, ρ0 n = none → ρ n ≠ none → A0.next ≤ n ∧ n < eE) ∧
    (∀ n ao, memL tr L (memD 0 tr (fun j => decide (j ∈ L)) (A0, 0)) n = some ao → (∃ x, A0.live n = some x) ∨ (A0.next ≤ n ∧ n < eE))

theorem any_sound {A0 : AW} {eE : Nat} (hrec : RecOk P rec) (hN : Named P) {ro : Option Nat} {n : Nat} {Q : Exit → Act → World → Prop} {tr : List Done} {ρ0 : Rn} {w0 : World} {ds : List Deferred}
    (hg : Good P rec ops T0 (A0, 0) A0.next tr) {fs : List Done} (hc : Chk P nt ops A0 tr fs) (hE : ∀ (j : Nat) (d : Done), tr[j]? = some d → d.e ≤ eE) (hops : tr.map (·.o) = ops.toList)
    (hQ : ∀ a w ρ (A' : AW), a.defers = ds → TR ρ nt (slotsAll tr T0) a.tmps → A' = runA fs (2 ^ ops.size - 1) (memAll tr (A0, 0)).2 eE (memAll tr (A0, 0)).1 → Sim P ρ A'.live w → Ext ρ0 w0 A0 ρ w A' → Q .normal a w) (hE0 : A0.next ≤ eE) :
    ∀ (fuel : Nat) (L : List Nat) (listed : Array Bool) (a : Act) (w : World), Inv P rec nt ops T0 A0 eE tr ρ0 w0 ds L listed a w → L.length + fuel = tr.length →
      wpAnyIn (Fw ro) n P .any ops Q fuel listed a w := by
  have hsize : ops.size = tr.length := by rw [← Array.length_toList, ← hops, List.length_map]
  have hopd : ∀ (i : Nat) (d : Done), tr[i]? = some d → ops[i]? = some d.o := fun i d h => (hg i d h).op
  have loudOf : ∀ {x y : Done}, pairOk P fs x y = true → x.kind = 3 → y.kind = 3 → False := fun {x y} hp h1 h2 => by
    simp only [pairOk] at hp
    rw [h1, h2] at hp; simp at hp
  -- a new block that the chain's memory doesn't hold
  have hgone : ∀ (k j : Nat) (f : Done), tr[j]? = some f → f.kind = 1 → (memAll (tr.take k) (A0, 0)).2.testBit j = false → (memAll (tr.take k) (A0, 0)).1.live f.s = none := by
    intro k j f hf hk hb
    have none_live : ∀ {A : AW} {n : Nat}, A.get n = none → A.live n = none := fun h => by unfold AW.live; rw [h]
    rcases chain_cases (X0 := (A0, 0)) tr k with h | ⟨i, l, _, h2, h3, h4⟩
    · rw [h]; exact none_live (hc.start j f hf hk)
    · rw [h4] at hb ⊢
      rcases (hc.loud j f i l hf hk h2 h3).2 with h5 | h5
      · simp only at hb; rw [hb] at h5; cases h5
      · exact none_live h5
  -- all is listed: the end
  have hend : ∀ (L : List Nat) (listed : Array Bool) (a : Act) (w : World), Inv P rec nt ops T0 A0 eE tr ρ0 w0 ds L listed a w → (∀ i, i < tr.length → i ∈ L) → Q .normal a w := by
    intro L listed a w h hall
    obtain ⟨ρ, h1, h2, h3, h4, h5, h6⟩ := h.rest
    have hm : memD 0 tr (fun j => decide (j ∈ L)) (A0, 0) = memAll (tr.take tr.length) (A0, 0) := by
      rw [← memD_lt tr 0 tr.length (A0, 0)]
      refine memD_eq tr 0 _ _ _ fun j d hd _ => ?_
      have hj := (List.getElem?_eq_some_iff.1 hd).1
      simp [hall j hj, hj]
    rw [hm] at h2 h3 h6
    have hsub : ∀ m ao, (runA fs (2 ^ ops.size - 1) (memAll tr (A0, 0)).2 eE (memAll tr (A0, 0)).1).live m = some ao → memL tr L (memAll (tr.take tr.length) (A0, 0)) m = some ao := by
      intro m ao hm'
      rw [List.take_length]
      rcases runA_get hm' with ⟨f, f1, f3, f4, f5, f6⟩ | hl
      · obtain ⟨f1, f2⟩ := hc.fresh f f1
        obtain ⟨j, hj⟩ := List.mem_iff_getElem?.1 f1
        have hfi := (hg j f hj).pos
        rw [hfi] at f4
        exact memL_pend hg ⟨j, f, hall j (List.getElem?_eq_some_iff.1 hj).1, hj, f2, f4, f5, f6⟩
      · rw [memL_not]
        · exact hl
        · rintro ⟨ao', j, f, g1, g2, g3, g4, g5, g6⟩
          have := hgone tr.length j f g2 g3 (by rw [List.take_length]; exact g4)
          rw [List.take_length, g5] at this
          rw [this] at hl; cases hl
    refine hQ a w ρ _ h.defers (h1.congr fun t => ?_) rfl (h2.part hsub) ?_
    · have e := slotsD_lt tr 0 tr.length T0 t
      rw [List.take_length] at e
      rw [← e]
      refine slotsD_get tr 0 _ _ T0 T0 t rfl fun j d hd _ => ?_
      have hj := (List.getElem?_eq_some_iff.1 hd).1
      simp [hall j hj, hj]
    · have k := h3.part hsub
      exact ⟨k.sub, h5, hE0, fun m ao hm' => h6 m ao (hsub m ao hm'), k.back, k.keep, k.size, k.os, k.tape, k.output⟩
  -- nothing is ready: all is listed
  have hnone : ∀ (L : List Nat) (listed : Array Bool) (a : Act) (w : World), Inv P rec nt ops T0 A0 eE tr ρ0 w0 ds L listed a w → Region.ready .any ops listed = [] → ∀ i, i < tr.length → i ∈ L := by
    intro L listed a w h hr i
    induction i using Nat.strongRecOn with
    | _ i ih =>
      intro hi
      apply Classical.byContradiction
      intro hn
      have hd : tr[i]? = some (tr[i]'hi) := List.getElem?_eq_getElem hi
      generalize tr[i]'hi = d at hd
      have : i ∈ Region.ready .any ops listed := by
        rw [mem_ready]
        refine ⟨?_, d.o, hopd i d hd, fun e he hb => (h.get _).2 (ih e.on (hc.edges i d hd e he hb) (by have := hc.edges i d hd e he hb; omega))⟩
        have hf : ¬ listed.getD i false = true := fun e => hn ((h.get i).1 e)
        have hlt : i < listed.size := by rw [h.size]; exact hi
        simp [hlt] at hf ⊢
        exact hf
      rw [hr] at this; cases this
  intro fuel
  induction fuel with
  | zero =>
    intro L listed a w h hl
    have hall : ∀ i, i < tr.length → i ∈ L := fun i hi => nodup_full h.nodup h.lt (by omega) i hi
    refine ⟨?_, hend L listed a w h hall⟩
    rw [List.eq_nil_iff_forall_not_mem]
    intro j hj
    obtain ⟨h0, o, ho, _⟩ := mem_ready.1 hj
    have hj2 : j < tr.length := by rw [← hsize]; exact (Array.getElem?_eq_some_iff.1 ho).1
    have h1 := (h.get j).2 (hall j hj2)
    have hlt : j < listed.size := by rw [h.size]; exact hj2
    simp [hlt] at h0 h1
    rw [h1] at h0; cases h0
  | succ fuel ih =>
    intro L listed a w h hl
    refine ⟨fun hr => hend L listed a w h (hnone L listed a w h hr), fun i hi => ?_⟩
    obtain ⟨h0, o, ho, hedge⟩ := mem_ready.1 hi
    have hilt : i < tr.length := by rw [← hsize]; exact (Array.getElem?_eq_some_iff.1 ho).1
    have hd : tr[i]? = some (tr[i]'hilt) := List.getElem?_eq_getElem hilt
    generalize tr[i]'hilt = d at hd
    have hdo : o = d.o := by have := hopd i d hd; rw [ho] at this; exact Option.some.inj this
    subst hdo
    have hin : i ∉ L := fun hm => by
      have h1 := (h.get i).2 hm
      have hlt : i < listed.size := by rw [h.size]; exact hilt
      simp [hlt] at h0 h1
      rw [h1] at h0; cases h0
    have hgd := hg i d hd
    have hedge' : ∀ e ∈ d.o.after, Region.binds .any e = true → e.on ∈ L := fun e he hb => (h.get _).1 (hedge e he hb)
    have F1 : ∀ j, d.mask.testBit j = true → j ∈ L := closed_mask hg hc.edges h.closed i d hd hedge'
    -- one that is listed and stands behind i
    have F2 : ∀ j dj, j ∈ L → tr[j]? = some dj → i < j → d.o.apart ops dj.o = true ∧ pairOk P fs d dj = true := fun j dj hj hdj hij => by
      have hnb : ¬ dj.mask.testBit i = true := fun hb => hin (closed_mask hg hc.edges h.closed j dj hdj (h.closed j hj dj hdj) i hb)
      exact ⟨(hc.apart i j d dj hij hd hdj).resolve_left hnb, (hc.pair i j d dj hij hd hdj).resolve_left hnb⟩
    -- one that is not listed and stands ahead of i
    have F3 : ∀ j dj, j ∉ L → tr[j]? = some dj → j < i → dj.o.apart ops d.o = true ∧ pairOk P fs dj d = true := fun j dj hj hdj hij => by
      have hnb : ¬ d.mask.testBit j = true := fun hb => hj (F1 j hb)
      exact ⟨(hc.apart j i dj d hij hdj hd).resolve_left hnb, (hc.pair j i dj d hij hdj hd).resolve_left hnb⟩
    obtain ⟨ρ, h1, h2, h3, h4, h5, h6⟩ := h.rest
    -- the slots that it looks at
    have hslot : ∀ t, t ∈ d.o.looksAt ops → (slotsD 0 tr (fun j => decide (j ∈ L)) T0).get t = d.T.get t := by
      intro t ht
      rw [hgd.slots, ← slotsD_lt tr 0 i T0 t]
      refine slotsD_get tr 0 _ _ T0 T0 t rfl fun j dj hdj hdst => ?_
      have : j ∈ L ↔ j < i := by
        constructor
        · intro hj
          rcases Nat.lt_trichotomy j i with h' | rfl | h'
          · exact h'
          · exact absurd hj hin
          · exact absurd ht ((Oper.apart_spec (F2 j dj hj hdj h').1).2.2 t hdst)
        · intro hj
          apply Classical.byContradiction
          intro hn
          exact absurd ht ((Oper.apart_spec (F3 j dj hn hdj hj).1).1 t hdst)
      simp [this]
    have hopd' : ∀ x ∈ d.o.op.operands.toList, VR ρ (Ab.ev d.T x) (a.eval x) := by
      intro x hx
      cases x with
      | tmp t =>
        have ht : t ∈ d.o.looksAt ops := List.mem_append_left _ (List.mem_filterMap.2 ⟨.tmp t, hx, rfl⟩)
        have := h1.2 t
        rw [hslot t ht] at this
        exact this
      | const v => exact VR.fromV v
      | global g => exact .flat _
      | func f => exact VR.fn f .nil .nil
    have hwant : Region.wanted d.o (yielded ops a.tmps) = d.want := by
      refine want_sound' (T := d.T) (ρ := ρ) (fun j w hgu t ht => ?_) hgd.want
      have htl : t ∈ d.o.looksAt ops := List.mem_append_right _ (by rw [hgu]; simp [ht])
      have := h1.2 t
      rw [hslot t htl] at this
      exact this
    -- the slots behind it
    have hslot' : ∀ t, (slotsD 0 tr (fun j => decide (j ∈ i :: L)) T0).get t = (setT (slotsD 0 tr (fun j => decide (j ∈ L)) T0) d.o.dst d.v).get t := by
      intro t
      rw [setT_get]
      by_cases hdt : d.o.dst = some t
      · rw [if_pos hdt]
        refine slotsD_last tr 0 i _ T0 t d hd hdt (by simp) fun j dj hij hdj hdst => ?_
        have : j ∉ L := fun hj => (Oper.apart_spec (F2 j dj hj hdj hij).1).2.1 t hdt hdst
        simp [this]; omega
      · rw [if_neg hdt]
        refine slotsD_get tr 0 _ _ T0 T0 t rfl fun j dj hdj hdst => ?_
        have : j ≠ i := by rintro rfl; rw [hd] at hdj; cases hdj; exact hdt hdst
        simp [this]
    have hclosed' : Closed tr (i :: L) := by
      intro j hj dj hdj e he hb
      rcases List.mem_cons.1 hj with rfl | hj
      · rw [hd] at hdj; cases hdj
        exact List.mem_cons_of_mem _ (hedge' e he hb)
      · exact List.mem_cons_of_mem _ (h.closed j hj dj hdj e he hb)
    have hget' : ∀ j, (listed.setIfInBounds i true).getD j false = true ↔ j ∈ i :: L := by
      intro j
      by_cases hji : i = j
      · subst hji
        have hlt : i < listed.size := by rw [h.size]; exact hilt
        simp [hlt]
      · rw [getD_set_ne false hji, h.get j]
        simp [Ne.symm hji]
    -- which calls have been: a beginning of them
    obtain ⟨k, hk1, hk2, hk3⟩ := least (fun j => ∃ dj, tr[j]? = some dj ∧ dj.kind = 3 ∧ j ∉ L) tr.length
    have hlouds : ∀ j dj, tr[j]? = some dj → dj.kind = 3 → (j ∈ L ↔ j < k) := by
      intro j dj hdj hlj
      constructor
      · intro hj
        apply Classical.byContradiction
        intro hn
        have hjl := (List.getElem?_eq_some_iff.1 hdj).1
        rcases hk3 with rfl | ⟨dk, e1, e2, e3⟩
        · omega
        · have hkj : k < j := by
            rcases Nat.lt_trichotomy j k with h' | rfl | h'
            · exact absurd h' hn
            · exact absurd hj e3
            · exact h'
          rcases hc.pair k j dk dj hkj e1 hdj with hb | hb
          · exact e3 (closed_mask hg hc.edges h.closed j dj hdj (h.closed j hj dj hdj) k hb)
          · exact loudOf hb e2 hlj
      · intro hj
        apply Classical.byContradiction
        intro hn
        exact hk2 j hj ⟨dj, hdj, hlj, hn⟩
    have hM : memD 0 tr (fun j => decide (j ∈ L)) (A0, 0) = memAll (tr.take k) (A0, 0) := by
      rw [← memD_lt tr 0 k (A0, 0)]
      refine memD_eq tr 0 _ _ _ fun j dj hdj hlj => ?_
      have := hlouds j dj hdj hlj
      simp [this]
    generalize hX : memD 0 tr (fun j => decide (j ∈ L)) (A0, 0) = X at h2 h3 h6 hM
    -- a part of the memory
    have hpart : ∀ (m s' : Nat), (∀ j, m.testBit j = true → j ∈ L) → ∀ (all : List Done), (∀ f ∈ all, f ∈ tr ∧ f.kind = 1) → ∀ n' ao, (runA all m X.2 s' X.1).live n' = some ao → memL tr L X n' = some ao := by
      intro m s' hm all hall n' ao hl'
      rcases runA_get hl' with ⟨f, f1, f3, f4, f5, f6⟩ | hl'
      · obtain ⟨f1, f2⟩ := hall f f1
        obtain ⟨j, hj⟩ := List.mem_iff_getElem?.1 f1
        have hfi := (hg j f hj).pos
        rw [hfi] at f3 f4
        exact memL_pend hg ⟨j, f, hm j f3, hj, f2, f4, f5, f6⟩
      · rw [memL_not]
        · exact hl'
        · rintro ⟨ao', j, f, g1, g2, g3, g4, g5, g6⟩
          rw [hM] at g4 hl'
          have := hgone k j f g2 g3 g4
          rw [g5] at this
          rw [this] at hl'; cases hl'
    have hname : ∀ n', d.s ≤ n' → n' < d.e → ρ n' = none := by
      intro n' a1 a2
      cases hr : ρ n' with
      | none => rfl
      | some c =>
        obtain ⟨j, dj, j1, j2, j3, j4⟩ := h4 n' (by have := hgd.names.1; omega) (by have := hE i d hd; omega) (by rw [hr]; simp)
        have := same_name hg hd j2 (n := n') ⟨a1, a2⟩ ⟨j3, j4⟩
        subst this
        exact absurd j1 hin
    -- the next one
    have hnext : ∀ x ρ' w', VR ρ' d.v x → Sim P ρ' (memL tr (i :: L) (memD 0 tr (fun j => decide (j ∈ i :: L)) (A0, 0))) w' → Ext2 ρ w (memL tr L X) ρ' w' (memL tr (i :: L) (memD 0 tr (fun j => decide (j ∈ i :: L)) (A0, 0))) →
        (∀ n', ρ n' = none → ρ' n' ≠ none → d.s ≤ n' ∧ n' < d.e) → (∀ n' ao, memL tr (i :: L) (memD 0 tr (fun j => decide (j ∈ i :: L)) (A0, 0)) n' = some ao → (∃ x, memL tr L X n' = some x) ∨ (d.s ≤ n' ∧ n' < d.e)) →
        wpAnyIn (Fw ro) n P .any ops Q fuel (listed.setIfInBounds i true) (a.put d.o.dst x) w' := by
      intro x ρ' w' hx hs' he hnew hdom
      have hs0 := hgd.names.1
      have hde := hE i d hd
      refine ih (i :: L) _ _ _ ⟨List.nodup_cons.2 ⟨hin, h.nodup⟩, ?_, by rw [Array.size_setIfInBounds]; exact h.size, hget', hclosed', (put_defers _ _ _).trans h.defers, ρ', ?_, hs', h3.trans he, ?_, ?_, ?_⟩ (by simp only [List.length_cons]; omega)
      · intro j hj
        rcases List.mem_cons.1 hj with rfl | hj
        · exact hilt
        · exact h.lt j hj
      · exact ((h1.mono he.sub).put (hc.dst i d hd) hx).congr hslot'
      · intro n' a1 a2 a3
        cases hr : ρ n' with
        | none => have := hnew n' hr a3; exact ⟨i, d, by simp, hd, this.1, this.2⟩
        | some c =>
          obtain ⟨j, dj, j1, j2⟩ := h4 n' a1 a2 (by rw [hr]; simp)
          exact ⟨j, dj, by simp [j1], j2⟩
      · intro n' a1 a2
        cases hr : ρ n' with
        | none => have := hnew n' hr a2; omega
        | some c => exact h5 n' a1 (by rw [hr]; simp)
      · intro n' ao hao
        rcases hdom n' ao hao with ⟨x, hx⟩ | hx
        · exact h6 n' x hx
        · exact .inr (by omega)
    -- nothing new, nothing turned
    have hstay : d.kind ≠ 1 → d.kind ≠ 3 → ∀ x, VR ρ d.v x → wpAnyIn (Fw ro) n P .any ops Q fuel (listed.setIfInBounds i true) (a.put d.o.dst x) w := by
      intro hk1' hk3' x hx
      have hX' : memD 0 tr (fun j => decide (j ∈ i :: L)) (A0, 0) = X := by
        rw [← hX]
        refine memD_eq tr 0 _ _ _ fun j dj hdj hlj => ?_
        have : j ≠ i := by rintro rfl; rw [hd] at hdj; cases hdj; exact hk3' hlj
        simp [this]
      have hsub : ∀ n' ao, memL tr (i :: L) (memD 0 tr (fun j => decide (j ∈ i :: L)) (A0, 0)) n' = some ao → memL tr L X n' = some ao := by
        rw [hX']
        have hpe : ∀ n' ao, Pend tr (i :: L) X.2 n' ao → Pend tr L X.2 n' ao := by
          rintro n' ao ⟨j, f, g1, g2, g3, g4⟩
          rcases List.mem_cons.1 g1 with rfl | g1
          · rw [hd] at g2; cases g2; exact absurd g3 hk1'
          · exact ⟨j, f, g1, g2, g3, g4⟩
        intro n' ao hao
        rcases memL_cases hg hao with hp | ⟨hp, hl'⟩
        · exact memL_pend hg (hpe n' ao hp)
        · rw [memL_not]
          · exact hl'
          · rintro ⟨ao', j, f, g1, g2⟩
            exact hp ⟨ao', j, f, by simp [g1], g2⟩
      exact hnext x ρ w hx (h2.part hsub) ((Ext2.refl ρ w _).part hsub) (fun _ e k => absurd e k) (fun n' ao hao => .inl ⟨ao, hsub n' ao hao⟩)
    unfold wpOpIn
    rw [ho]
    simp only
    rw [hwant]
    cases hwt : d.want with
    | false =>
      simp only [Bool.false_eq_true, if_false]
      obtain ⟨z1, z2⟩ := hgd.off hwt
      refine ⟨skip_about, hstay (by rw [z1]; decide) (by rw [z1]; decide) undef ?_⟩
      rw [z2]; exact .flat _
    | true =>
      simp only [if_true]
      have hw0 := hgd.want
      rw [hwt] at hw0
      have hempty : ∀ s', Sim P ρ (⟨.lf, s'⟩ : AW).live w := fun s' => h2.part fun n' ao hl' => by simp [AW.live, AW.get, Tr.get_lf] at hl'
      rcases hgd.kinds with hkd | hkd | hkd | hkd
      · exact val_wp (hempty d.s) hN (hgd.on0 hwt hkd) hopd' fun x hx => hstay (by rw [hkd]; decide) (by rw [hkd]; decide) x hx
      · -- a new block
        obtain ⟨-, hop, hee, hnd⟩ := hgd.on1 hkd
        refine ⟨fun _ _ => trivial, ?_⟩
        rw [sem_of hop (by intros; simp)]
        obtain ⟨x, obj, w', room, gv, pu, kk⟩ := op_sound (hempty d.s) hN hop hopd'
        have hfr : ρ d.s = none := hname d.s (Nat.le_refl _) (by omega)
        obtain ⟨k1, k2⟩ := kk (upd ρ d.s ⟨w.heap.size, 0, room⟩) (upd_sub hfr) upd_at
        have hX' : memD 0 tr (fun j => decide (j ∈ i :: L)) (A0, 0) = X := by
          rw [← hX]
          refine memD_eq tr 0 _ _ _ fun j dj hdj hlj => ?_
          have : j ≠ i := by rintro rfl; rw [hd] at hdj; cases hdj; rw [hkd] at hlj; cases hlj
          simp [this]
        have habs : ∀ j, X.2.testBit j = true → j ∈ L := by
          rw [hM]
          -- each bit is of what a listed call waits for
          have key : ∀ m, m ≤ k → ∀ j, (memAll (tr.take m) (A0, 0)).2.testBit j = true → j ∈ L := by
            intro m
            induction m with
            | zero => intro _ j hj; simp [memAll] at hj
            | succ m ihm =>
              intro hmk j hj
              cases hdm : tr[m]? with
              | none =>
                rw [List.getElem?_eq_none_iff] at hdm
                have : tr.take (m + 1) = tr.take m := by rw [List.take_of_length_le (by omega), List.take_of_length_le hdm]
                rw [this] at hj
                exact ihm (by omega) j hj
              | some dm =>
                rw [memAll_succ hdm] at hj
                by_cases hkm : dm.kind = 3
                · rw [nxt_loud hkm] at hj
                  simp only at hj
                  obtain ⟨-, _, -, -, -, q4⟩ := (hg m dm hdm).on3 hkm
                  rw [q4, Nat.testBit_or, Bool.or_eq_true] at hj
                  rcases hj with hj | hj
                  · have := (hg m dm hdm).mem
                    rw [show dm.ab = (memAll (tr.take m) (A0, 0)).2 by rw [← this]] at hj
                    exact ihm (by omega) j hj
                  · have hmL : m ∈ L := (hlouds m dm hdm hkm).2 (by omega)
                    exact closed_mask hg hc.edges h.closed m dm hdm (h.closed m hmL dm hdm) j hj
                · rw [nxt_quiet hkm] at hj
                  exact ihm (by omega) j hj
          exact key k (Nat.le_refl _)
        have hgn : X.1.live d.s = none := by
          have hb : X.2.testBit i = false := by
            cases hb : X.2.testBit i with
            | false => rfl
            | true => exact absurd (habs i hb) hin
          rw [hM] at hb ⊢
          exact hgone k i d hd hkd hb
        have hH : ∀ n' am, memL tr (i :: L) (memD 0 tr (fun j => decide (j ∈ i :: L)) (A0, 0)) n' = some am → (n' = d.s ∧ am = d.ob) ∨ (n' ≠ d.s ∧ memL tr L X n' = some am) := by
          rw [hX']
          intro n' am ham
          rcases memL_cases hg ham with ⟨j, f, g1, g2, g3, g4, g5, g6⟩ | ⟨hp, hl'⟩
          · rcases List.mem_cons.1 g1 with rfl | g1
            · rw [hd] at g2; cases g2
              exact .inl ⟨g5.symm, g6.symm⟩
            · refine .inr ⟨?_, memL_pend hg ⟨j, f, g1, g2, g3, g4, g5, g6⟩⟩
              rintro rfl
              have e1 := ((hg j f g2).on1 g3).2.2.1
              have := same_name hg hd g2 (n := d.s) (by omega) (by omega)
              subst this
              exact hin g1
          · refine .inr ⟨?_, ?_⟩
            · rintro rfl
              rw [hgn] at hl'; cases hl'
            · rw [memL_not]
              · exact hl'
              · rintro ⟨ao', j, f, g1, g2⟩
                exact hp ⟨ao', j, f, by simp [g1], g2⟩
        obtain ⟨s1, s2⟩ := h2.pushAt pu hfr k2 _ hH
        refine gives_upon gv (hnext x _ w' k1 s1 s2 ?_ ?_)
        · intro n' e1 e2
          by_cases hq : n' = d.s
          · omega
          · simp only [upd, if_neg hq] at e2; exact absurd e1 e2
        · intro n' ao hao
          rcases hH n' ao hao with ⟨rfl, _⟩ | ⟨_, hh⟩
          · exact .inr (by omega)
          · exact .inl ⟨_, hh⟩
      · -- it reads
        obtain ⟨-, fs2, M, hfs2, hst⟩ := hgd.on2 hkd
        have hq := quiet_step hst hw0
        have hval : ∃ B : AW, (∀ n' ao, B.live n' = some ao → memL tr L X n' = some ao) ∧ opA P d.T B d.o = some (.val d.v) := by
          have hall : ∀ f ∈ fs, f ∈ tr ∧ f.kind = 1 := hc.fresh
          have hallk : ∀ f ∈ fs2, f ∈ tr ∧ f.kind = 1 := fun f hf => ⟨List.mem_of_mem_take (hfs2 f hf).1, (hfs2 f hf).2⟩
          by_cases hki : k < i
          · rcases hk3 with rfl | ⟨dk, e1, e2, e3⟩
            · omega
            · have hp := (F3 k dk e3 e1 hki).2
              simp only [pairOk] at hp
              rw [e2, hkd] at hp
              simp only [Bool.and_eq_true] at hp
              have hmem := (hg k dk e1).mem
              rw [← hM] at hmem
              refine ⟨_, ?_, again_spec hp.1⟩
              rw [show dk.ab = X.2 by rw [← hmem], show dk.C = X.1 by rw [← hmem]]
              exact hpart d.mask d.s F1 _ hall
          · obtain ⟨m, m1, m2, m3, m4⟩ := lastBelow (fun j => ∃ dj, tr[j]? = some dj ∧ dj.kind = 3) i k (by omega)
            have hmk : memAll (tr.take k) (A0, 0) = memAll (tr.take m) (A0, 0) := by
              rw [← memD_lt tr 0 k (A0, 0), ← memD_lt tr 0 m (A0, 0)]
              refine memD_eq tr 0 _ _ _ fun j dj hdj hlj => ?_
              have : j < k ↔ j < m := by
                constructor
                · intro hj
                  apply Classical.byContradiction
                  intro hn
                  exact m3 j (by omega) hj ⟨dj, hdj, hlj⟩
                · intro hj; omega
              simp [this]
            rcases m4 with rfl | ⟨l, rfl, hil, dl, e1, e2⟩
            · have hmem := hgd.mem
              rw [← hmk, ← hM] at hmem
              refine ⟨_, ?_, hq⟩
              rw [show d.ab = X.2 by rw [← hmem], show d.C = X.1 by rw [← hmem]]
              exact hpart d.mask d.s F1 _ hallk
            · have hli : i < l := by
                rcases Nat.eq_or_lt_of_le hil with rfl | h'
                · rw [hd] at e1; cases e1; rw [hkd] at e2; cases e2
                · exact h'
              have hlL : l ∈ L := (hlouds l dl e1 e2).2 (by omega)
              have hp := (F2 l dl hlL e1 hli).2
              simp only [pairOk] at hp
              rw [e2, hkd] at hp
              simp only [Bool.and_eq_true] at hp
              have hmem : X = (dl.C', dl.ab') := by rw [hM, hmk, memAll_succ e1, nxt_loud e2]
              refine ⟨_, ?_, again_spec hp.2⟩
              rw [show dl.ab' = X.2 by rw [hmem], show dl.C' = X.1 by rw [hmem]]
              exact hpart d.mask d.s F1 _ hall
        obtain ⟨B, hB, hop⟩ := hval
        exact val_wp (h2.part hB) hN hop hopd' fun x hx => hstay (by rw [hkd]; decide) (by rw [hkd]; decide) x hx
      · -- any other
        obtain ⟨-, fs2, hfs2, hst, hee, hab⟩ := hgd.on3 hkd
        have hXd : X = (d.C, d.ab) := by
          rw [hgd.mem, hM, ← memD_lt tr 0 k (A0, 0), ← memD_lt tr 0 i (A0, 0)]
          refine memD_eq tr 0 _ _ _ fun j dj hdj hlj => ?_
          have : j < k ↔ j < i := by
            rw [← hlouds j dj hdj hlj]
            constructor
            · intro hj
              rcases Nat.lt_trichotomy j i with h' | rfl | h'
              · exact h'
              · exact absurd hj hin
              · exact (loudOf (F2 j dj hj hdj h').2 hkd hlj).elim
            · intro hj
              apply Classical.byContradiction
              intro hn
              exact (loudOf (F3 j dj hn hdj hj).2 hlj hkd).elim
          simp [this]
        have hX' : memD 0 tr (fun j => decide (j ∈ i :: L)) (A0, 0) = (d.C', d.ab') := by
          have e1 := memAll_succ (X0 := (A0, 0)) hd
          rw [nxt_loud hkd] at e1
          rw [← e1, ← memD_lt tr 0 (i + 1) (A0, 0)]
          refine memD_eq tr 0 _ _ _ fun j dj hdj hlj => ?_
          have : j ∈ i :: L ↔ j < i + 1 := by
            constructor
            · intro hj
              rcases List.mem_cons.1 hj with rfl | hj
              · omega
              rcases Nat.lt_trichotomy j i with h' | rfl | h'
              · omega
              · omega
              · exact (loudOf (F2 j dj hj hdj h').2 hkd hlj).elim
            · intro hj
              apply Classical.byContradiction
              intro hn
              have h1 : j ≠ i := by rintro rfl; exact hn (by simp)
              have h2 : j ∉ L := fun hm => hn (by simp [hm])
              exact (loudOf (F3 j dj h2 hdj (by omega)).2 hlj hkd).elim
          simp only [Nat.zero_add]
          exact decide_eq_decide.2 this
        have hallk : ∀ f ∈ fs2, f ∈ tr ∧ f.kind = 1 := fun f hf => ⟨List.mem_of_mem_take (hfs2 f hf).1, (hfs2 f hf).2⟩
        have hp1 := hpart d.mask d.s F1 _ hallk
        rw [show X.2 = d.ab by rw [hXd], show X.1 = d.C by rw [hXd]] at hp1
        have hfr : Free ρ (runA fs2 d.mask d.ab d.s d.C).next d.C'.next := fun n' a1 a2 => hname n' a1 (by rw [hee]; exact a2)
        refine step_wp hrec (h2.part hp1) hN hst hw0 hfr hopd' fun x ρ' w' k1 k2 k3 => ?_
        have none_live : ∀ {A : AW} {n : Nat}, A.get n = none → A.live n = none := fun h => by unfold AW.live; rw [h]
        have hH : ∀ n' ao, memL tr (i :: L) (memD 0 tr (fun j => decide (j ∈ i :: L)) (A0, 0)) n' = some ao → d.C'.live n' = some ao ∨ (d.C'.live n' = none ∧ (runA fs2 d.mask d.ab d.s d.C).live n' = none ∧ memL tr L X n' = some ao) := by
          rw [hX']
          intro n' ao hao
          rcases memL_cases hg hao with ⟨j, f, g1, g2, g3, g4, g5, g6⟩ | ⟨_, hl'⟩
          · simp only at g4
            rw [hab, Nat.testBit_or, Bool.or_eq_false_iff] at g4
            have hjL : j ∈ L := by
              rcases List.mem_cons.1 g1 with rfl | g1
              · rw [hd] at g2; cases g2; rw [hkd] at g3; cases g3
              · exact g1
            have q := hc.loud j f i d g2 g3 hd hkd
            refine .inr ⟨?_, ?_, memL_pend hg ⟨j, f, hjL, g2, g3, by rw [hXd]; exact g4.1, g5, g6⟩⟩
            · rcases q.2 with q | q
              · rw [hab, Nat.testBit_or, g4.1, g4.2] at q; cases q
              · rw [← g5]; exact none_live q
            · cases hr : (runA fs2 d.mask d.ab d.s d.C).live n' with
              | none => rfl
              | some ao' =>
                rcases runA_get hr with ⟨f', f1, f3, f4, f5, f6⟩ | hl'
                · obtain ⟨f1, f2⟩ := hallk f' f1
                  obtain ⟨j', hj'⟩ := List.mem_iff_getElem?.1 f1
                  have e1 := ((hg j f g2).on1 g3).2.2.1
                  have e2 := ((hg j' f' hj').on1 f2).2.2.1
                  have := same_name hg g2 hj' (n := n') (by omega) (by omega)
                  subst this
                  rw [(hg j f' hj').pos] at f3
                  rw [f3] at g4; cases g4.2
                · rcases q.1 with q | q
                  · rw [g4.1] at q; cases q
                  · rw [← g5, none_live q] at hl'; cases hl'
          · exact .inl hl'
        obtain ⟨s1, s2⟩ := frame_rule h2 hp1 k2 k3 _ hH
        refine hnext x ρ' w' k1 s1 s2 (fun n' e1 e2 => ?_) (fun n' ao hao => ?_)
        · have := k3.fresh n' e1 e2
          simp only [runA] at this
          rw [hee]; exact this
        · rcases hH n' ao hao with hh | ⟨_, _, hh⟩
          · rcases k3.dom n' ao hh with ⟨ao', q⟩ | q
            · exact .inl ⟨_, hp1 n' ao' q⟩
            · simp only [runA] at q
              exact .inr (by rw [hee]; exact q)
          · exact .inl ⟨_, hh⟩

theorem draw_next {T T' : Tr AV} {A A' : AW} (h : drawA P rec nt ops T A = some (T', A')) : A.next ≤ A'.next := by
  unfold drawA at h
  split at h
  · split at h
    · cases h
    · rename_i r ht
      obtain ⟨ds, fs, T1, C, ab, s⟩ := r
      obtain ⟨-, -, -, -, -, h6, -⟩ := draw_trace (T0 := T) (X0 := (A, 0)) (s0 := A.next) ops.toList 0 .lf [] [] T A 0 A.next ds fs T1 C ab s ht (fun k d hd => by simp at hd) rfl (fun k => by simp [Tr.get_lf]) rfl rfl rfl (fun d hd => by cases hd) (Nat.le_refl _) (fun f => by simp)
      simp only [endA] at h
      split at h
      · cases h; exact h6
      · cases h
  · cases h

theorem region_sound (hm : P.follows .mixedOrders = true) (hrec : RecOk P rec) (hN : Named P) {ro : Option Nat} {n id : Nat} {rnd draw : Bool} (hro : rnd = false → ro = none) {T T' : Tr AV} {A A' : AW} {xs : List Def} {ρ : Rn} {w : World} {a : Act}
    (h : regionA P rec nt rnd ops draw T A = some (T', A', xs)) (hs : Sim P ρ A.live w) (hf : Free ρ A.next A'.next) (ht : TR ρ nt T a.tmps) :
    (Code.region id ops draw).wpIn (Fw ro) n P (fun e a' w' => e = .normal ∧ ∃ ρ' nd, a'.defers = nd ++ a.defers ∧ DefsR ρ' xs nd ∧ TR ρ' nt T' a'.tmps ∧ Sim P ρ' A'.live w' ∧ Ext ρ w A ρ' w' A') a w := by
  cases draw with
  | false =>
    refine wpIn_region ?_
    rw [List.range_eq_range', ← Array.length_toList]
    exact ops_sound hrec hN hro ops.toList 0 T A T' A' xs ρ w a h rfl hs hf ht fun a' w' ρ' nd d1 d2 d3 d4 d5 => ⟨rfl, ρ', nd, d1, d2, d3, d4, d5⟩
  | true =>
    simp only [regionA] at h
    split at h
    · rename_i T2 A2 hd
      cases h
      unfold drawA at hd
      split at hd
      case h_2 => cases hd
      rename_i hst
      split at hd
      · cases hd
      rename_i r htr
      obtain ⟨ds, fs, T1, C, ab, s⟩ := r
      simp only [endA] at hd
      obtain ⟨hg, hops, hT, hC, hE, hE0, hfs, hmap⟩ := draw_trace (T0 := T) (X0 := (A, 0)) (s0 := A.next) ops.toList 0 .lf [] [] T A 0 A.next ds fs T1 C ab s htr (fun k d hd => by simp at hd) rfl (fun k => by simp [Tr.get_lf]) rfl rfl rfl (fun d hd => by cases hd) (Nat.le_refl _) (fun f => by simp)
      split at hd
      · rename_i hck
        simp only [Bool.and_eq_true] at hck
        cases hd
        have hc := chk_of hg hfs hst (by simpa using hmap) hck.1 hck.2
        have hsize : ops.size = ds.reverse.length := by rw [← Array.length_toList, ← hops, List.length_map]
        have hfree : Free ρ A.next s := hf
        refine wpIn_region_any hm ?_
        refine any_sound (ρ0 := ρ) (w0 := w) (ds := a.defers) (eE := s) hrec hN hg hc (fun j d hd => hE d (by simpa using List.mem_of_getElem? hd)) hops (fun a' w' ρ' A1 d1 d2 d3 d4 d5 => ?_) hE0 ops.size [] _ a _
          ⟨List.nodup_nil, (fun i hi => by cases hi), (by simp [hsize]), fun i => ?_, (fun i hi => by cases hi), rfl, ρ, ?_, ?_, ?_, ?_, ?_, ?_⟩ (by simp [hsize])
        · rw [← hC] at d3
          subst d3
          exact ⟨rfl, ρ', [], d1, .nil, by rw [hT]; exact d2, d4, d5⟩
        · simp only [List.not_mem_nil, iff_false]
          intro hc
          by_cases hlt : i < ops.size
          · simp [hlt] at hc
          · simp [hlt] at hc
        · refine ht.congr fun t => ?_
          have := slotsD_lt ds.reverse 0 0 T t
          rw [List.take_zero] at this
          rw [show T.get t = (slotsAll [] T).get t from rfl, ← this]
          exact slotsD_get ds.reverse 0 _ _ T T t rfl fun j d _ _ => by simp
        all_goals
          have hM : memD 0 ds.reverse (fun j => decide (j ∈ ([] : List Nat))) (A, 0) = (A, 0) := by
            have := memD_lt ds.reverse 0 0 (A, 0)
            rw [List.take_zero] at this
            refine Eq.trans ?_ this
            exact memD_eq ds.reverse 0 _ _ _ fun j d _ _ => by simp
          have hsub : ∀ n' ao, memL ds.reverse [] (memD 0 ds.reverse (fun j => decide (j ∈ ([] : List Nat))) (A, 0)) n' = some ao → A.live n' = some ao := by
            rw [hM]
            intro n' ao hao
            rcases memL_cases hg hao with ⟨j, f, g1, _⟩ | ⟨_, hl⟩
            · cases g1
            · exact hl
        · exact (⟨hs.obj, hs.inj⟩ : Sim P ρ A.live { w with drawn := w.drawn + 1 }).part hsub
        · have := (Ext2.refl ρ w A.live).part hsub
          exact ⟨this.sub, this.back, this.keep, this.size, rfl, rfl, rfl⟩
        · intro n' a1 a2 a3
          exact absurd (hfree n' a1 a2) a3
        · intro n' a1 a2
          exact absurd a1 a2
        · intro n' ao hao
          exact .inl ⟨ao, hsub n' ao hao⟩
      · cases hd
    · cases h
end
end Go.Proofs.YtookoagcmejkpaaGreatDoor.Ab
