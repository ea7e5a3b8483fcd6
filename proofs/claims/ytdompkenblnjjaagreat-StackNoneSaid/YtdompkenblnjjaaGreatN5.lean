/- StackNone holds: for every call the law returns true, and its argument reads as before. It has no condition. -/
import Derived.Test.YtdompkenblnjjaaGreatN4
import Derived.Deep.Matrix
import Derived.Deep.Strs
import Derived.Lib.ItoaMem
namespace Go.Proofs.YtdompkenblnjjaaGreat
open Go Go.ChangeShapes Go.WideShapes Go.ChangeAt Go.WideMaps Go.WideElems Go.RowKit Go.Joins Go.Deep

theorem cells27 : Tryz.prog.cellsOf 27 = 10 := by kernel_rfl
theorem cells23 : Tryz.prog.cellsOf 23 = 3 := by kernel_rfl
theorem cells3 : Tryz.prog.cellsOf 3 = 1 := by kernel_rfl
theorem cells4 : Tryz.prog.cellsOf 4 = 1 := by kernel_rfl
theorem cells5 : Tryz.prog.cellsOf 5 = 1 := by kernel_rfl
theorem cells9 : Tryz.prog.cellsOf 9 = 1 := by kernel_rfl
theorem cells24 : Tryz.prog.cellsOf 24 = 1 := by kernel_rfl
theorem cells25 : Tryz.prog.cellsOf 25 = 1 := by kernel_rfl
variable {H : Type} {enc : TypeId × Value → H} {W : World}
set_option maxRecDepth 100000 in
theorem read_strs {n : TypeId} {y : Value} {x : DataW H × List MemPlace} (h : DataW.trod enc Tryz.prog W 0 (fun _ => true) true n 24 [y] = some x) :
    ∃ q l c, y = .slice q l c ∧ l ≤ 9223372036854775807 ∧ StrsIn W q l := by
  have hml : maxLen = 9223372036854775807 := rfl
  rcases open_strs Tryz.underlying24 Tryz.underlying9 cells9 h with ⟨hcs, _⟩ | ⟨a', len', cap', mm, zs, hcs, _, hl, hmx, hz, _, hcell⟩
  · simp at hcs
    exact ⟨none, 0, 0, hcs, by simp, fun k hk => absurd hk (Nat.not_lt_zero k)⟩
  · simp at hcs
    simp only [if_true] at hz
    refine ⟨_, _, _, hcs, by omega, fun k hk => ?_⟩
    obtain ⟨bk, off, spot⟩ := a'
    have hspot : spot = none := by simpa [Addr.add] using World.cell?_spot (hcell 0 (by omega)).1
    subst hspot
    exact ⟨bk, off, zs k, rfl, by rw [← Lib.add_plain]; exact (hcell k (by omega)).1⟩
theorem bounds_u8 {n : Int} (h : (Lit.int .u8 n).wf = true) : 0 ≤ n ∧ n ≤ 255 := by
  simpa [Lit.wf, IntKind.min, IntKind.max, IntKind.signed, IntKind.bits] using h
set_option maxRecDepth 100000 in
theorem read_bytes {n : TypeId} {y : Value} {x : DataW H × List MemPlace} (h : DataW.trod enc Tryz.prog W 0 (fun _ => true) true n 25 [y] = some x) :
    ∃ (ad : Option Addr) (c : Nat) (bs : List UInt8), y = .slice ad bs.length c ∧ bs.length ≤ c ∧ BytesIn W ad bs := by
  have hml : maxLen = 9223372036854775807 := rfl
  rcases open_ints Tryz.underlying25 Tryz.underlying5 cells5 h with ⟨hcs, hx⟩ | ⟨a, len, cap, zs, hcs, _, hl, hm, hz, hx, hcell, hwz⟩
  · simp at hcs
    exact ⟨none, 0, [], hcs, by simp, fun i hi => by simp at hi⟩
  · simp at hcs
    simp only [if_true] at hz
    have hlen : ((zs.take len).map fun n => UInt8.ofNat n.toNat).length = len := by simp; omega
    refine ⟨some a, cap, (zs.take len).map fun n => UInt8.ofNat n.toNat, by rw [hlen]; exact hcs, by rw [hlen]; exact hl, fun i hi => ?_⟩
    rw [hlen] at hi
    obtain ⟨ab, ao, spot⟩ := a
    have hspot : spot = none := by simpa [Addr.add] using World.cell?_spot (hcell 0 (by omega))
    subst hspot
    refine ⟨ab, ao, rfl, ?_⟩
    have hcj := hcell i (by omega)
    rw [Lib.add_plain] at hcj
    rw [hcj]
    have hzl : i < zs.length := by omega
    have e : zs.getD i 0 = zs[i] := by simp [List.getD, List.getElem?_eq_getElem hzl]
    have hb := bounds_u8 (hwz zs[i] (List.getElem_mem hzl))
    rw [e]
    simp only [List.getElem_map, List.getElem_take]
    congr 2
    simp only [UInt8.toNat_ofNat']
    omega
set_option maxRecDepth 100000 in
theorem read_op {cs : Array Value} {d : DataW H} {pl : List MemPlace} (h : DataW.Trod enc Tryz.prog W 0 (fun _ => true) true 27 (.agg cs) d pl) :
    ∃ (k n : Int) (b1 b2 b3 : Bool) (s : ByteArray) (p : Option Addr) (np cp : Nat) (q : Option Addr) (mq cq : Nat) (r : ByteArray) (b : Option Addr) (bs : List UInt8) (cb : Nat), cs = opC k n b1 b2 b3 s p np cp q mq cq r b bs.length cb ∧ StrsIn W p np ∧ StrsIn W q mq ∧ BytesIn W b bs ∧ np ≤ 9223372036854775807 ∧ mq ≤ 9223372036854775807 ∧ bs.length ≤ cb := by
  obtain ⟨fuel, hf0⟩ := h
  obtain ⟨l⟩ := cs
  obtain ⟨xs, kk, hk, hxy, hcl, hxl, hf⟩ := DataW.trod_struct Tryz.underlying27 hf0
  rw [cells27] at hcl
  simp only [Value.cells] at hcl hf
  match xs, hxl, l, hcl with
  | [y0, y1, y2, y3, y4, y5, y6, y7], _, [v0, v1, v2, v3, v4, v5, v6, v7, v8, v9], _ =>
    have g0 := hf 0 _ rfl
    have g1 := hf 1 _ rfl
    have g2 := hf 2 _ rfl
    have g3 := hf 3 _ rfl
    have g4 := hf 4 _ rfl
    have g5 := hf 5 _ rfl
    have g6 := hf 6 _ rfl
    have g7 := hf 7 _ rfl
    simp [cells3, cells23, cells9, cells24, cells25] at g0 g1 g2 g3 g4 g5 g6 g7
    obtain ⟨k0, e0, _, _⟩ := DataW.trod_int Tryz.underlying3 g0
    obtain ⟨k1, e1, _, _⟩ := DataW.trod_int Tryz.underlying3 g1
    obtain ⟨s3, e3, _⟩ := DataW.trod_string Tryz.underlying9 g3
    obtain ⟨p4, l4, c4, rfl, h4, ht4⟩ := read_strs g4
    obtain ⟨p5, l5, c5, rfl, h5, ht5⟩ := read_strs g5
    obtain ⟨s6, e6, _⟩ := DataW.trod_string Tryz.underlying9 g6
    obtain ⟨p7, c7, bs7, rfl, h7, ht7⟩ := read_bytes g7
    obtain ⟨xs2, kk2, hk2, hxy2, hcl2, hxl2, hf2⟩ := DataW.trod_struct Tryz.underlying23 g2
    match xs2, hxl2 with
    | [z0, z1, z2], _ =>
      have q0 := hf2 0 _ rfl
      have q1 := hf2 1 _ rfl
      have q2 := hf2 2 _ rfl
      simp [cells4] at q0 q1 q2
      obtain ⟨b0, r0, _⟩ := DataW.trod_bool Tryz.underlying4 q0
      obtain ⟨b1, r1, _⟩ := DataW.trod_bool Tryz.underlying4 q1
      obtain ⟨b2, r2, _⟩ := DataW.trod_bool Tryz.underlying4 q2
      cases e0; cases e1; cases e3; cases e6; cases r0; cases r1; cases r2
      exact ⟨k0, k1, b0, b1, b2, s3, p4, l4, c4, p5, l5, c5, s6, p7, bs7, c7, rfl, ht4, ht5, ht7, h4, h5, h7⟩
theorem is_agg {P : Program} {w : World} {r : Reach} {base : Nat} {t : TypeId} {v : Value} (h : Value.okWide P w r base t v) (ha : Ab.isAggA P t = some true) : ∃ cs, v = .agg cs := by
  have key : ∃ cs, v = .agg cs ∧ cs.size = P.cellsOf t ∧ Row.okWide P w r base t cs := by
    unfold Value.okWide at h
    unfold Ab.isAggA at ha
    split at h <;> first | exact h | (rename_i h1 h2; split at ha <;> first | (rename_i e; first | exact absurd e (h1 _) | exact absurd e (h2 _ _)) | cases ha)
  exact ⟨key.choose, key.choose_spec.1⟩

set_option maxRecDepth 100000 in
theorem law_lifted (os : Os) (started : os.Started) (H : Type) (enc : TypeId × Value → H) :
    ReturnsInHanded {} Tryz.checked os 3 .any (Rows.stackNoneSpec.pre6 enc Tryz.prog Tryz.f3 Rows.stackNoneRow.domain false) (Rows.stackNoneSpec.post enc Tryz.prog Tryz.f3 false true false false) := by
  refine returnsInHanded_of_change (C := Tryz.checked) own started (by kernel_rfl) Tryz.func3
    (ChangeSpec.witness6 (enc := enc) (C := Tryz.checked) false ⟨#[], #[.agg (opC 0 0 false false false ⟨#[]⟩ none 0 0 none 0 0 ⟨#[]⟩ none 0 0)], []⟩ 8 (by kernel_rfl) (by kernel_rfl) (by kernel_rfl) (by kernel_rfl)) ?_
  intro W base args ds gs before hval0 hW _ _
  obtain ⟨argl⟩ := args
  have hval : ∀ (j : Nat) t v, Tryz.f3.params[j]? = some t → (⟨argl⟩ : Array Value)[j]? = some v → Value.okWide Tryz.prog W .any base t v := hval0
  have hW' := hW
  obtain ⟨p, q, hA0, hV, rfl, hfz, hnd⟩ := hW
  have hA : DataW.TrodAll enc Tryz.prog W 0 (fun _ => true) true Tryz.f3.params.toList argl ds p := hA0
  rw [Tryz.params3] at hA hval
  have hA0 : DataW.TrodAll enc Tryz.prog W 0 (fun _ => true) true [27] argl ds p := hA
  obtain ⟨v0, vr0, d0, dr0, p0, pr0, rfl, rfl, rfl, h0, hA1⟩ := trodAll_cons hA0
  obtain ⟨rfl, rfl, rfl⟩ := trodAll_nil hA1
  obtain ⟨rfl, rfl⟩ := trodVars_none hV
  obtain ⟨cs, rfl⟩ := is_agg (hval 0 27 v0 rfl rfl) (by kernel_rfl)
  simp only [List.append_nil] at hW' hA
  have hlt := fun x hx => hW'.lt x hx
  obtain ⟨k, n, b1, b2, b3, s, pp, np, cp, q, mq, cq, r, b, bs, cb, rfl, hp, hq, hb, hnp, hmq, hcb⟩ := read_op h0
  refine (law_any k n b1 b2 b3 s pp np cp q mq cq r b bs cb W hp hq hb hnp hmq hcb).mono fun e W' ⟨he, hb⟩ => ?_
  subst he
  exact ⟨_, rfl, post_of_below (pa := _) (pv := []) hW' (fun _ _ _ => trodAll_mk1 (shut_bool Tryz.underlying4 _)) (fun sp hsp => trodAll_stays _ _ _ _ hA (by rw [show Tryz.f3.params.toList = [27] by rw [Tryz.params3]]; intro t ht; simp at ht; subst ht; exact ⟨by kernel_rfl, by decide +kernel⟩) hb (fun x hx => hlt x (by simpa using hx)) (fun x hx => hsp x (by simpa using hx))) (fun _ _ => rfl) (by simp) hb (ok_one (by kernel_rfl) rfl (okWide_bool_mk Tryz.underlying4 _))⟩

theorem law_holds : Rows.StackNoneSaid :=
  OpenClaim.holds_of_wide 3 Tryz.f3 rfl rfl rfl rfl rfl rfl rfl ⟨rfl, rfl, rfl, rfl, rfl⟩ rfl rfl rfl rfl rfl (by kernel_rfl) Tryz.func3 (by kernel_rfl)
    (of_decide_eq_true (by kernel_rfl)) (by unfold Func.isWrapper; first | (rw [if_pos (by decide +kernel)]; kernel_rfl) | (rw [if_neg (by decide +kernel)]; exact ⟨rfl, rfl⟩))
    (fun os started H enc _ => law_lifted os started H enc)
end Go.Proofs.YtdompkenblnjjaaGreat
