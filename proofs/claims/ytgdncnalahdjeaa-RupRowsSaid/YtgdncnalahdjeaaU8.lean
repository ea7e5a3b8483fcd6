/- A visit's steps, in memory, outside the walk. -/
import Derived.Test.YtgdncnalahdjeaaU7
namespace Go.Proofs.Ytgdncnalahdjeaa
open Go Go.RowKit Go.Maps

section
variable {F : Prop} {W : World} {K0 : Nat → Kd} {db cl : List (List Int)} {T P T0 gv : List Int} {gone : Int} {L0 : List Nat} {a m g cap nx : Nat} {br : Bool} {i : Nat} {kept cur : List Nat} {cl1 : List (List Int)} {wt1 : Int → List Nat} {T1 : List Int} {K1 : Nat → Kd} {wr : World}
theorem VisM.now (h : VisM F W K0 db cl T P T0 gv gone L0 a m g cap nx br i kept cur cl1 wt1 T1 K1 wr) (hi : i < L0.length) : ∃ j, L0[i]? = some j ∧ L0.drop i = j :: L0.drop (i + 1) ∧ wr.cell? ⟨g, i, none⟩ = some (.int .i64 (j : Int)) ∧ ∃ c, cl1[j]? = some c ∧ (gone = w0 c ∨ gone = w1 c) ∧ 2 ≤ c.length := by
  have hd : L0.drop i = L0[i] :: L0.drop (i + 1) := List.drop_eq_getElem_cons hi
  have hv := h.vis
  rw [hd] at hv
  obtain ⟨c, hc, hg⟩ := hv.next
  refine ⟨L0[i], List.getElem?_eq_getElem hi, hd, ?_, c, hc, hg, (hv.st.two c (List.mem_of_getElem? hc)).1⟩
  have hcur : cur[i]? = some L0[i] := by
    have := congrArg (·[0]?) h.cd
    simpa [List.getElem?_drop, hi] using this
  exact (own_cell h.row i (natV L0[i]) (by rw [List.getElem?_map, hcur]; rfl)).1
/-- the clause's first two change. -/
theorem VisM.swap (h : VisM F W K0 db cl T P T0 gv gone L0 a m g cap nx br i kept cur cl1 wt1 T1 K1 wr) {j : Nat} {c : List Int} (hd : L0.drop i = j :: L0.drop (i + 1)) (hj : cl1[j]? = some c) {w' : World} (hb : BaseAt w' K1 a m (fun x => x = gone) (cl1.set j (swL c 0 1)) wt1 T1 T1 nx br ∧ StepB Wats wr w' K1 K1) :
    VisM F W K0 db cl T P T0 gv gone L0 a m g cap nx br i kept cur (cl1.set j (swL c 0 1)) wt1 T1 K1 w' := by
  have hv := h.vis
  rw [hd] at hv
  have hlen := (hv.st.two c (List.mem_of_getElem? hj)).1
  have hr : RowAt wr K1 (.wat gone) 3 (.slice (some ⟨g, 0, none⟩) L0.length cap) (cur.map natV) := ⟨by rw [List.length_map, h.cl_]; exact h.row, fun k hk => by cases hk; exact h.gk⟩
  have hr2 := (hr.step hb.2 (.inr ⟨gone, rfl⟩)).own
  rw [List.length_map, h.cl_] at hr2
  exact ⟨h.le, h.kl, h.cl_, h.ck, h.cd, hb.1, hr2, h.gk, h.st.trans hb.2.no, by rw [hd]; exact hv.swap hj, h.alk.trans (Alk.set hj (swL_perm (by omega) (by omega))), h.pre⟩
/-- the list's row gets one number behind those that stay. -/
theorem VisM.app (h : VisM F W K0 db cl T P T0 gv gone L0 a m g cap nx br i kept cur cl1 wt1 T1 K1 wr) (hi : i < L0.length) {w' : World} {j : Nat} (hrow : w'.ownsRow 0 3 1 (.slice (some ⟨g, 0, none⟩) L0.length cap) L0.length ((cur.take kept.length ++ [j] ++ cur.drop (kept.length + 1)).map natV)) (hg : wr.grownBy w' (some g)) (hs : w'.heap.size = wr.heap.size) :
    BaseAt w' K1 a m (fun x => x = gone) cl1 wt1 T1 T1 nx br ∧ StepB (Wbut gone) wr w' K1 K1 ∧ ∃ cur', cur' = kept ++ [j] ++ cur.drop (kept.length + 1) ∧ cur'.length = L0.length ∧ cur'.take (kept ++ [j]).length = kept ++ [j] ∧ cur'.drop (i + 1) = L0.drop (i + 1) ∧ w'.ownsRow 0 3 1 (.slice (some ⟨g, 0, none⟩) L0.length cap) L0.length (cur'.map natV) := by
  have ho : Only (fun k => K1 k = .wat gone) wr w' := (Only.of_grown hg).mono (fun k _ e => by cases e; exact h.gk)
  obtain ⟨hb, hst⟩ := h.base.inG ho rfl (by omega)
  refine ⟨hb, hst, _, rfl, ?_, ?_, ?_, by rw [h.ck] at hrow; exact hrow⟩
  · have := h.kl; have := h.cl_; simp; omega
  · rw [List.take_left]
  · have := h.kl
    rw [List.drop_append, List.drop_of_length_le (by simp; omega), List.nil_append, List.drop_drop]
    have e : kept.length + 1 + (i + 1 - (kept ++ [j]).length) = i + 1 := by simp; omega
    rw [e]
    have := congrArg (·.drop 1) h.cd
    simpa [List.drop_drop] using this
/-- the clause stays in the list. -/
theorem VisM.keep (h : VisM F W K0 db cl T P T0 gv gone L0 a m g cap nx br i kept cur cl1 wt1 T1 K1 wr) (hi : i < L0.length) {j : Nat} {c : List Int} (hd : L0.drop i = j :: L0.drop (i + 1)) (hj : cl1[j]? = some c) (hg1 : w1 c = gone) (h0 : w0 c ∈ T1) {w' : World} (hrow : w'.ownsRow 0 3 1 (.slice (some ⟨g, 0, none⟩) L0.length cap) L0.length ((cur.take kept.length ++ [j] ++ cur.drop (kept.length + 1)).map natV)) (hg : wr.grownBy w' (some g)) (hs : w'.heap.size = wr.heap.size) :
    ∃ cur', VisM F W K0 db cl T P T0 gv gone L0 a m g cap nx br (i + 1) (kept ++ [j]) cur' cl1 wt1 T1 K1 w' := by
  obtain ⟨hb, hst, cur', _, e1, e2, e3, hr⟩ := h.app hi hrow hg hs
  have hv := h.vis
  rw [hd] at hv
  have := h.kl
  exact ⟨cur', by omega, by simp; omega, e1, e2, e3, hb, hr, h.gk, h.st.trans hst.no, hv.keep hj hg1 h0, h.alk, h.pre⟩
/-- another literal watches it. -/
theorem VisM.move (h : VisM F W K0 db cl T P T0 gv gone L0 a m g cap nx br i kept cur cl1 wt1 T1 K1 wr) (hi : i < L0.length) {j : Nat} {c : List Int} (hd : L0.drop i = j :: L0.drop (i + 1)) (hj : cl1[j]? = some c) (hg1 : w1 c = gone) (h0 : w0 c ∉ T1) {k : Nat} (hk : k < c.length) (h2 : 2 ≤ k) (hx : -(c.getD k 0) ∉ T1)
    {w1_ w2_ : World} {K2 : Nat → Kd} (hb1 : StepB Wats wr w1_ K1 K1) (hb2 : BaseAt w2_ K2 a m (fun x => x = gone) (cl1.set j (swL c 1 k)) (upW wt1 (c.getD k 0) (wt1 (c.getD k 0) ++ [j])) T1 T1 nx br) (hs2 : StepB (Wbut (c.getD k 0)) w1_ w2_ K1 K2) :
    ∃ wt2, VisM F W K0 db cl T P T0 gv gone L0 a m g cap nx br (i + 1) kept cur (cl1.set j (swL c 1 k)) wt2 T1 K2 w2_ := by
  have hv := h.vis
  rw [hd] at hv
  have hlen := (hv.st.two c (List.mem_of_getElem? hj)).1
  obtain ⟨hne, hv2⟩ := hv.move hj hg1 h0 hk h2 hx
  have hr : RowAt wr K1 (.wat gone) 3 (.slice (some ⟨g, 0, none⟩) L0.length cap) (cur.map natV) := ⟨by rw [List.length_map, h.cl_]; exact h.row, fun k hk => by cases hk; exact h.gk⟩
  have hr1 := hr.step hb1 (.inr ⟨gone, rfl⟩)
  have hr2 := hr1.step hs2 (.inr ⟨by simp, by simp; exact hne.symm⟩)
  have hro := hr2.own
  rw [List.length_map, h.cl_] at hro
  have := h.kl
  refine ⟨_, ⟨by omega, by omega, h.cl_, h.ck, ?_, hb2.holes (fun x hx => ⟨hx, ?_⟩), hro, hr2.tg g rfl, (h.st.trans hb1.no).trans hs2.no, hv2, h.alk.trans (Alk.set hj (swL_perm (by omega) hk)), h.pre⟩⟩
  · have := congrArg (·.drop 1) h.cd
    simpa [List.drop_drop] using this
  · by_cases e : x = c.getD k 0
    · subst e; rw [upW_same, upW_same]
    · rw [upW_ne _ _ e, upW_ne _ _ e, upW_ne _ _ hx]
/-- its first literal is derived. -/
theorem VisM.unit (h : VisM F W K0 db cl T P T0 gv gone L0 a m g cap nx br i kept cur cl1 wt1 T1 K1 wr) (hi : i < L0.length) {j : Nat} {c : List Int} (hd : L0.drop i = j :: L0.drop (i + 1)) (hj : cl1[j]? = some c) (hg1 : w1 c = gone) (h0 : valT T1 (w0 c) = 0) (ha : ∀ k, 2 ≤ k → k < c.length → -(c.getD k 0) ∈ T1)
    {w1_ w2_ : World} {cur' : List Nat} {K2 : Nat → Kd} (e1 : cur'.length = L0.length) (e2 : cur'.take (kept ++ [j]).length = kept ++ [j]) (e3 : cur'.drop (i + 1) = L0.drop (i + 1)) (hrow : w1_.ownsRow 0 3 1 (.slice (some ⟨g, 0, none⟩) L0.length cap) L0.length (cur'.map natV)) (hs1 : StepB (Wbut gone) wr w1_ K1 K1)
    (hb2 : BaseAt w2_ K2 a m (fun x => x = gone) cl1 wt1 (T1 ++ [w0 c]) (T1 ++ [w0 c]) nx br) (hs2 : StepB Wats w1_ w2_ K1 K2) :
    VisM F W K0 db cl T P T0 gv gone L0 a m g cap nx br (i + 1) (kept ++ [j]) cur' cl1 wt1 (T1 ++ [w0 c]) K2 w2_ := by
  have hv := h.vis
  rw [hd] at hv
  have hr : RowAt w1_ K1 (.wat gone) 3 (.slice (some ⟨g, 0, none⟩) L0.length cap) (cur'.map natV) := ⟨by rw [List.length_map, e1]; exact hrow, fun k hk => by cases hk; exact h.gk⟩
  have hr2 := hr.step hs2 (.inr ⟨gone, rfl⟩)
  have hro := hr2.own
  rw [List.length_map, e1] at hro
  have := h.kl
  obtain ⟨new, hn⟩ := h.pre
  exact ⟨by omega, by simp; omega, e1, e2, e3, hb2, hro, hr2.tg g rfl, (h.st.trans hs1.no).trans hs2.no, hv.unit hj hg1 h0 ha, h.alk, ⟨new ++ [w0 c], by rw [hn]; simp⟩⟩
/-- the list goes back into the map. -/
theorem close_list (hli : isLitB gone = true) {w1_ w2_ : World} {k : Nat} {K2 : Nat → Kd} (hst : StepB NoQ W w1_ K0 K2) (hb : BaseAt w1_ K2 a m (fun x => x = gone) cl1 wt1 T1 T1 nx br) (hgk : K2 g = .wat gone) (hk : k = (wt1 gone).length)
    (hrow : w1_.ownsRow 0 3 1 (.slice (some ⟨g, 0, none⟩) k cap) k ((wt1 gone).map natV)) {D : DataW Value} (hD : ∃ n, w1_.ownsMap Try.prog 54 heldR m n D) (hp : ∃ n, w2_.ownsMap Try.prog 54 heldR m n (D.put (.int .i64 gone) (.held (.slice (some ⟨g, 0, none⟩) k cap)))) (hg : w1_.grownBy w2_ (some m)) :
    BaseAt w2_ K2 a m (fun _ => False) cl1 wt1 T1 T1 nx br ∧ StepB NoQ W w2_ K0 K2 := by
  have hx := Ext.refl K2 w1_.heap.size
  have hr1 : RowAt w1_ K2 (.wat gone) 3 (.slice (some ⟨g, 0, none⟩) k cap) ((wt1 gone).map natV) := ⟨by rw [List.length_map, ← hk]; exact hrow, fun k1 hk1 => by cases hk1; exact hgk⟩
  have hm : K2 m = .map := hb.mp.tag
  have hmp := MapAt.put2 (hl' := fun _ => False) hb.mp hli (fun y _ => by
    by_cases e : y = gone
    · exact .inl e
    · exact .inr e) (Only.refl _ w1_) hx hr1 hD hp hg
  have ho : Only (fun k => K2 k = .map ∨ K2 k = .wat gone) w1_ w2_ := (Only.of_grown hg).mono (fun k _ e => by cases e; exact .inl hm)
  obtain ⟨h2, s2⟩ := hb.inM ho hx (fun k hk => hb.fr k (Nat.le_trans ho.size hk)) hmp
  refine ⟨h2.holes (fun x _ => ⟨fun h => h, ?_⟩), hst.trans s2.no⟩
  by_cases e : x = gone
  · subst e; rw [upW_same]
  · rw [upW_ne _ _ e]
end
/-- what a visit leaves. -/
structure VisEnd (F : Prop) (W : World) (K0 : Nat → Kd) (db cl : List (List Int)) (T P T0 gv : List Int) (gone : Int) (a m nx : Nat) (br ok : Bool) (w' : World) (K' : Nat → Kd) (cl' : List (List Int)) (wt' : Int → List Nat) (T' : List Int) : Prop where
  base : BaseAt w' K' a m (fun _ => False) cl' wt' T' T' nx br
  st : StepB NoQ W w' K0 K'
  alk : Alk cl cl'
  pre : ∃ new, T' = T ++ new
  vis : ∃ kept rest, Vis F db cl' wt' T' P T0 gv gone kept rest ∧ (ok = true → rest = [])
  no : ok = false → Confl db gv
end Go.Proofs.Ytgdncnalahdjeaa
