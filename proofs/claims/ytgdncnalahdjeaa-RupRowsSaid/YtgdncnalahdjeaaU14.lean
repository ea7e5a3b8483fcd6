/- A base: settle, the walk. -/
import Derived.Test.YtgdncnalahdjeaaU13
namespace Go.Proofs.Ytgdncnalahdjeaa
open Go Go.RowKit Go.Maps

/-- the open ones of the first literals. -/
def opens (T : List Int) (n : Nat) (V : Nat → Int) : List Int := (rowL n V).filter fun x => valT T x == 0
theorem opens_succ (T : List Int) (n : Nat) (V : Nat → Int) : opens T (n + 1) V = opens T n V ++ (if valT T (V n) = 0 then [V n] else []) := by
  unfold opens rowL
  rw [List.range_succ, List.map_append, List.filter_append]
  by_cases h : valT T (V n) = 0 <;> simp [h]
theorem opens_len (T : List Int) (n : Nat) (V : Nat → Int) : (opens T n V).length ≤ n := by
  have := List.length_filter_le (fun x => valT T x == 0) (rowL n V)
  rw [rowL_len] at this
  exact this
theorem opens_mem {T : List Int} {n : Nat} {V : Nat → Int} {l : Int} : l ∈ opens T n V ↔ l ∈ rowL n V ∧ valT T l = 0 := by
  unfold opens
  rw [List.mem_filter]
  simp
theorem ClsAt.push {W W5 : World} {K K5 : Nat → Kd} {cl : List (List Int)} {op : List Int} {rows : List Value} {v5 u : Value} (hl : rows.length = cl.length) (hc : ∀ (i : Nat) (c : List Int), cl[i]? = some c → ∃ u, rows[i]? = some u ∧ RowAt W K (.cl i) 54 u (c.map litV)) (ho : Only (fun k => K k = .cls) W W5) (hx : Ext K K5 W.heap.size)
    (hr : RowAt W5 K5 .cls 23 v5 (rows ++ [u])) (hu : RowAt W K (.cl cl.length) 54 u (op.map litV)) : ClsAt W5 K5 v5 (cl ++ [op]) := by
  refine ⟨rows ++ [u], by simp [hl], hr, fun i c hi => ?_⟩
  have nt : ∀ j k, K k = .cl j → ¬ K k = Kd.cls := fun j k hk e => by rw [hk] at e; cases e
  by_cases h : i < cl.length
  · rw [List.getElem?_append_left h] at hi
    obtain ⟨w, hw, hrw⟩ := hc i c hi
    exact ⟨w, by rw [List.getElem?_append_left (by omega)]; exact hw, hrw.only ho hx (nt i)⟩
  · have he : i = cl.length := by
      have := (List.getElem?_eq_some_iff.1 hi).1
      simp at this
      omega
    subst he
    rw [List.getElem?_append_right (by omega)] at hi
    simp at hi
    subst hi
    exact ⟨u, by rw [List.getElem?_append_right (by omega)]; simp [hl], hu.only ho hx (nt _)⟩
set_option maxRecDepth 100000 in
set_option maxHeartbeats 3200000 in
theorem settle_at {W : World} {K0 : Nat → Kd} {a m : Nat} {db : List (List Int)} (h : BaseR W K0 a m db) (hdb : db.length ≤ 500000) (p : Option Addr) (n c : Nat) (V : Nat → Int) (hV : LitsIn W p n V) (hm : MayP n V) (hnd : (rowL n V).Nodup) (c0 : List Int) (hc0 : ∀ l, l ∈ c0 ↔ l ∈ rowL n V) :
    Calls Try.prog 46 #[.pointer (some ⟨a, 0, none⟩), .slice p n c] W fun e w' => e = .returned (.tuple #[]) ∧ ∃ K', BaseR w' K' a m (db ++ [c0]) ∧ StepB NoQ W w' K0 K' := by
  obtain ⟨cl, wt, T, nx, br, hb, hr⟩ := h
  have hn5 := hm.1
  obtain ⟨i54, hi54, hz0, hz1, hz2⟩ := info54
  obtain ⟨i23, hi23, hy0, hy1, hy2⟩ := info23
  have htl := hr.stc.tlen
  have hfew := hr.stc.few
  have HB := Lib.hid hb
  have HR := Lib.hid hr
  have HM := Lib.hid hm
  have HV := Lib.hid hV
  have HND := Lib.hid hnd
  have HC0 := Lib.hid hc0
  clear hb hr hm hV hnd hc0
  go_enter Try.func46, Try.ntmps46
  go_wp2_with fail
  go_loopg [4, 10] n (fun gk s4 s10 wx => ∃ i : Nat, i + gk = n ∧ s10 = .int .i64 (i : Int) ∧ Hid (Below W.heap.size W wx ∧ wx.ownsRow W.heap.size 54 1 s4 (opens T i V).length ((opens T i V).map litV) ∧ ∀ j, j < i → valT T (V j) ≠ 1))
  case atStart => exact ⟨0, by omega, rfl, Lib.hid ⟨Below.refl _ _, World.ownsRow_nil _ _ _ _, fun j hj => by omega⟩⟩
  case round =>
    obtain ⟨i, hig, rfl, HI⟩ := hrel
    cases gk with
    | zero =>
      have hin : i = n := by omega
      subst hin
      obtain ⟨hbl, hrow, hno⟩ := HI.out
      have hbx := HB.out.later hbl
      have hop := opens_len T i V
      obtain ⟨ps, cs, hs4, hB_⟩ := own_shp hrow
      clear hB_
      subst hs4
      have hcov : ∀ l, l ∈ c0 → l ∈ opens T i V ∨ -l ∈ T := fun l hl => by
        have h1 := (HC0.out l).1 hl
        obtain ⟨j, hj, e⟩ := (rowL_mem i V l).1 h1
        rcases valT_cases T l with hv | hv | hv
        · exact absurd hv (by rw [← e]; exact hno j hj)
        · exact .inr ((valT_neg HR.out.stc.cons).1 hv)
        · exact .inl (opens_mem.2 ⟨h1, hv⟩)
      have hsub : ∀ l, l ∈ opens T i V → l ∈ c0 := fun l hl => (HC0.out l).2 (opens_mem.1 hl).1
      have hlits : ∀ l, l ∈ opens T i V → isLitB l = true := fun l hl => by
        obtain ⟨j, hj, e⟩ := (rowL_mem i V l).1 (opens_mem.1 hl).1
        rw [← e]; exact HM.out.2 j hj
      have hz : ∀ l, l ∈ opens T i V → valT T l = 0 := fun l hl => (opens_mem.1 hl).2
      have hopnd : (opens T i V).Nodup := HND.out.sublist (List.filter_sublist ..)
      obtain ⟨op, hopE⟩ : ∃ op, opens T i V = op := ⟨_, rfl⟩
      rw [hopE] at hrow hop hcov hsub hlits hz hopnd
      rw [hopE]
      have HBL := Lib.hid hbl
      have HROW := Lib.hid hrow
      have HCOV := Lib.hid hcov
      have HSUB := Lib.hid hsub
      have HLIT := Lib.hid hlits
      have HZ := Lib.hid hz
      have HOND := Lib.hid hopnd
      have HBX := Lib.hid hbx
      clear hbl hrow hno hcov hsub hlits hz hopnd HI hopE hbx
      match op, HCOV, HSUB, HLIT, HZ, HOND, HROW, hop with
      | [], HCOV, HSUB, HLIT, HZ, HOND, HROW, hop =>
        have hrest := HR.out.broke (c0 := c0) (fun l hl => (HCOV.out l hl).resolve_left (by simp))
        obtain ⟨h5, s5⟩ := HBX.out.put5 true
        obtain ⟨u0, u2, u3, ub, _, _, _⟩ := HBX.out.ob
        have c5 := ub.c5
        have f5 := ub.fz 5
        have HE := Lib.hid (show BaseR (wr.setCell ⟨a, 5, none⟩ (.bool true)) K0 a m (db ++ [c0]) from ⟨cl, wt, T, nx, true, h5, hrest⟩)
        have HS := Lib.hid ((StepB.below (Q := NoQ) (K := K0) HBL.out).trans s5.no)
        clear ub h5 s5 hrest
        go_wp2_with fail
        go_end0
        exact ⟨rfl, K0, HE.out, HS.out⟩
      | [x], HCOV, HSUB, HLIT, HZ, HOND, HROW, hop =>
        have hx := HLIT.out x (by simp)
        have hx0 := HZ.out x (by simp)
        have hxc := HSUB.out x (by simp)
        obtain ⟨gs, cs2, hs4⟩ := own_some HROW.out (by simp)
        simp only [Value.slice.injEq] at hs4
        obtain ⟨hs4a, hA_, hs4b⟩ := hs4
        subst hs4a
        subst hs4b
        clear hA_
        have hcx := (own_cell HROW.out 0 (litV x) rfl).1
        have hD := derive_at HBX.out HR.out.stc.cons x hx (by omega)
        rw [show addT T x = T ++ [x] from by unfold addT; rw [if_pos hx0], hx0] at hD
        have HP := Lib.hid (fun (w3 : World) (K3 : Nat → Kd) (hb3 : BaseAt w3 K3 a m (fun _ => False) cl wt (T ++ [x]) (T ++ [x]) nx br) (hs3 : StepB NoQ W w3 K0 K3) => HR.out.unit (F := br = false) Iff.rfl hx0 hx hxc (fun l hl => (HCOV.out l hl).imp (fun h => by simpa using h) id) hb3 hs3)
        have HU := Lib.hid (fun (w9 : World) (K9 : Nat → Kd) (ok : Bool) (cl9 : List (List Int)) (wt9 : Int → List Nat) (T9 : List Int) (nx9 : Nat) => HR.out.unit_end (F := br = false) (W := W) (K0 := K0) (a := a) (m := m) (c0 := c0) Iff.rfl hxc (w' := w9) (K1 := K9) (ok := ok) (cl' := cl9) (wt' := wt9) (T' := T9) (nx' := nx9))
        clear hx hx0 hxc
        go_wp2_with fail
        refine hD.mono ?_
        rintro e w3 ⟨rfl, K3, hb3, hs3⟩
        clear hD
        have hPI := HP.out w3 K3 hb3 ((StepB.below HBL.out).trans hs3.no)
        have hPr := propagate_at hPI (by simp; omega)
        clear hPI hb3 hs3 hcx
        go_wp2_with fail
        refine hPr.mono ?_
        rintro e w9 ⟨ok, rfl, K9, cl9, wt9, T9, nx9, hE⟩
        clear hPr
        have hU := HU.out _ _ _ _ _ _ _ hE
        have hb9 := hE.base
        have hs9 := hE.st
        have HU9 := Lib.hid hU
        have HB9 := Lib.hid hb9
        have HS9 := Lib.hid hs9
        clear hU hE
        cases ok with
        | true =>
          clear hb9 hs9
          go_wp2_with fail
          go_end0
          exact ⟨rfl, K9, ⟨cl9, wt9, T9, nx9, br, HB9.out, HU9.out.1 (by first | exact rfl | exact trivial)⟩, HS9.out⟩
        | false =>
          obtain ⟨h5, s5⟩ := hb9.put5 true
          obtain ⟨u0, u2, u3, ub, _, _, _⟩ := hb9.ob
          have c5 := ub.c5
          have f5 := ub.fz 5
          have HH5 := Lib.hid h5
          have HS5 := Lib.hid s5
          clear hb9 hs9 ub h5 s5
          go_wp2_with fail
          go_end0
          exact ⟨rfl, K9, ⟨cl9, wt9, T9, nx9, true, HH5.out, HU9.out.2 (by first | exact rfl | exact trivial)⟩, HS9.out.trans HS5.out.no⟩
      | x :: y :: op, HCOV, HSUB, HLIT, HZ, HOND, HROW, hop =>
        obtain ⟨gs, cs2, hs4⟩ := own_some HROW.out (by simp)
        simp only [Value.slice.injEq] at hs4
        obtain ⟨hs4a, hA_, hs4b⟩ := hs4
        subst hs4a
        subst hs4b
        clear hA_
        have hcx := (own_cell HROW.out 0 (litV x) rfl).1
        have hcy := (own_cell HROW.out 1 (litV y) rfl).1
        have hlx := HLIT.out x (by simp)
        have hly := HLIT.out y (by simp)
        have hgs := (own_lt HROW.out (k := gs) rfl)
        have hrest := HR.out.push (op := x :: y :: op) (c0 := c0) (by simp) HOND.out HLIT.out HZ.out HSUB.out HCOV.out
        obtain ⟨K1, hK1⟩ : ∃ K1, K1 = upK K0 (some gs) (.cl cl.length) := ⟨_, rfl⟩
        have hkj : K0 gs = .junk := HB.out.fr gs hgs.1
        have hb1 : BaseAt wr K1 a m (fun _ => False) cl wt T T nx br := by
          rw [hK1]
          refine HBX.out.retag (fun k hk => ?_) (fun k hk => ?_)
          · unfold upK; rw [if_neg (fun e => by cases e; exact hk hkj)]
          · unfold upK; rw [if_neg (fun e => by cases e; omega)]; exact HBX.out.fr k hk
        have hs1 : StepB NoQ W wr K0 K1 := by
          refine ⟨(Only.of_below HBL.out), ?_⟩
          rw [hK1]
          exact upK_ext _ (fun k e hk => by cases e; have := hgs.1; omega)
        have hu1 : RowAt wr K1 (.cl cl.length) 54 (.slice (some ⟨gs, 0, none⟩) (x :: y :: op).length cs) ((x :: y :: op).map litV) := ⟨by rw [List.length_map]; exact own_base HROW.out (fun k _ => Nat.zero_le _), fun k hk => by cases hk; rw [hK1]; unfold upK; rw [if_pos rfl]⟩
        obtain ⟨v0, v2, v3, ob, r0, r2, r3⟩ := hb1.ob
        obtain ⟨rows, hrl, hrr, hrc⟩ := r0.row
        obtain ⟨p0, z0, hv0, hB_⟩ := own_shp hrr.own
        clear hB_
        subst hv0
        have hown0 := hrr.own
        rw [hrl] at hown0 ob hrr
        skip
        have hal := below1 wr (.cells #[.slice (some ⟨gs, 0, none⟩) (x :: y :: op).length cs] 23)
        have hb4 := hb1.later hal
        have HOW := Lib.hid (own_later hown0 hal)
        have hrc4 : ∀ (i : Nat) (c : List Int), cl[i]? = some c → ∃ u, rows[i]? = some u ∧ RowAt (wr.alloc (.cells #[.slice (some ⟨gs, 0, none⟩) (x :: y :: op).length cs] 23)) K1 (.cl i) 54 u (c.map litV) := fun i c hi => by
          obtain ⟨u, a1, a2⟩ := hrc i c hi
          exact ⟨u, a1, a2.only (Only.of_below (T := fun _ => False) hal) (Ext.refl _ _) (fun _ _ h => h)⟩
        have hu4 := hu1.only (Only.of_below (T := fun _ => False) hal) (Ext.refl K1 _) (fun _ _ h => h)
        have ob4 := ob.only (Only.of_below (T := fun _ => False) hal) (fun h => h)
        have c04 := ob.c0
        have hwl0 := HR.out.stc.wlen x
        have hwl1 := HR.out.stc.wlen y
        have hxy : y ≠ x := by have := HOND.out; simp at this; exact fun e => this.1.1 e.symm
        have HB4 := Lib.hid hb4
        have HRC4 := Lib.hid hrc4
        have HU4 := Lib.hid hu4
        have OB4 := Lib.hid ob4
        have HS1 := Lib.hid hs1
        have HRS := Lib.hid hrest
        have HRL := Lib.hid hrl
        have HTG0 := Lib.hid hrr.tg
        have HXY := Lib.hid hxy
        have HLX := Lib.hid hlx
        have HLY := Lib.hid hly
        have HAL := Lib.hid hal
        have HK1 := Lib.hid hK1
        have hgs2 := hgs.2
        clear hb1 hs1 hu1 ob r0 r2 r3 hrr hrc hown0 hal hb4 hrc4 hu4 ob4 hrest hrl hxy hlx hly hK1 hkj hgs
        have hlen2 : (x :: y :: op).length = op.length + 2 := rfl
        go_wp2_with (at_builtin; refine wpList_append_own_at _ rfl _ _ 22 rfl 0 23 i23 (.slice none 0 0) 1 24 Try.underlying22 hi23 hy0 hy1 hy2 rfl (by omega) _ cl.length rows rfl HOW.out ⟨wr.heap.size, 0, none⟩ 1 1 [.slice (some ⟨gs, 0, none⟩) (x :: y :: op).length cs] rfl rfl ?qc2 ?qc3 ?qc4 ?qc5 ?qc6 ?_)
        case qc2 =>
          intro jj u hjj
          rw [Lib.add_plain]
          match jj, hjj with
          | 0, hjj => cases hjj; simp [go_sem]
        case qc3 => intro u hu; simp at hu; rcases hu with rfl; rfl
        case qc4 => have hml : maxLen = 9223372036854775807 := rfl; omega
        case qc5 => omega
        case qc6 => exact Nat.zero_le _
        intro v5 w5 hown hgrow _ hloc
        have hO5 : Only (fun k => K1 k = .cls) _ w5 := (Only.of_grown hgrow).mono (fun k _ e => HTG0.out k e)
        have ob5 := OB4.out.only hO5 (fun e => by rw [HB4.out.ka] at e; cases e)
        have c05 := ob5.c0
        have f05 := ob5.fz 0
        obtain ⟨g5, z5, hv5⟩ := own_some hown (by omega)
        subst hv5
        have hx5 : Ext K1 (upK K1 (some g5) .cls) (wr.alloc (.cells #[.slice (some ⟨gs, 0, none⟩) (x :: y :: op).length cs] 23)).heap.size := upK_ext _ (fun k e hk => by
          rcases hloc with e2 | e2
          · exact HTG0.out k (e2.symm.trans e)
          · rw [show (Value.slice (some ⟨g5, 0, none⟩) (cl.length + 1) z5).ownBlock = some k from e] at e2; cases e2; simp at hk <;> omega)
        have hf5 := upK_fr (o := some g5) (t := .cls) (n := (wr.alloc (.cells #[.slice (some ⟨gs, 0, none⟩) (x :: y :: op).length cs] 23)).heap.size) (n' := w5.heap.size) HB4.out.fr hgrow.size (fun k e => (own_lt hown (show (Value.slice (some ⟨g5, 0, none⟩) (cl.length + 1) z5).ownBlock = some k from e)).2)
        have hr5 : RowAt w5 (upK K1 (some g5) .cls) .cls 23 (.slice (some ⟨g5, 0, none⟩) (cl.length + 1) z5) (rows ++ [.slice (some ⟨gs, 0, none⟩) (x :: y :: op).length cs]) := ⟨by rw [List.length_append, HRL.out]; exact hown, upK_tg K1 (.slice (some ⟨g5, 0, none⟩) (cl.length + 1) z5) .cls⟩
        have hcls := ClsAt.push HRL.out HRC4.out hO5 hx5 hr5 HU4.out
        obtain ⟨hF, sF⟩ := HB4.out.put0 hO5 hx5 hf5 hcls
        have hcx5 := hO5.cell (cell_later HAL.out hcx) (fun e => by have := HU4.out.tg gs rfl; simp only at e; rw [this] at e; cases e)
        have hcy5 := hO5.cell (cell_later HAL.out hcy) (fun e => by have := HU4.out.tg gs rfl; simp only at e; rw [this] at e; cases e)
        have hga : gs ≠ a := fun e => by have := HU4.out.tg gs rfl; rw [e, HB4.out.ka] at this; cases this
        have HF := Lib.hid hF
        have HS := Lib.hid (((HS1.out.trans (StepB.below HAL.out))).trans sF.no)
        have HGK := Lib.hid ((hx5 gs (by simp <;> omega)).trans (HU4.out.tg gs rfl))
        have hcx6 := set_cell_far (p := ⟨a, 0, none⟩) (u := .slice (some ⟨g5, 0, none⟩) (cl.length + 1) z5) hcx5 (fun e => by cases e; exact hga rfl)
        have hcy6 := set_cell_far (p := ⟨a, 0, none⟩) (u := .slice (some ⟨g5, 0, none⟩) (cl.length + 1) z5) hcy5 (fun e => by cases e)
        clear hown hgrow hloc hO5 ob5 hx5 hf5 hr5 hcls hF sF hcx hcy hcx5 hcy5
        generalize upK K1 (some g5) .cls = K5 at *
        have H6 := watch_at HF.out x HLX.out (fun h => h) cl.length (by omega)
        go_wp2_with fail
        generalize w5.setCell ⟨a, 0, none⟩ (.slice (some ⟨g5, 0, none⟩) (cl.length + 1) z5) = w6 at *
        refine H6.mono ?_
        rintro e w7 ⟨rfl, K7, hb7, hs7⟩
        clear H6
        have hcy7 := hs7.only.cell hcy6 (fun e => by
          have e2 := e.2
          rw [show K5 gs = .cl cl.length from HGK.out] at e2
          exact e2 ⟨by simp, by simp⟩)
        have H7 := watch_at hb7 y HLY.out (fun h => h) cl.length (by rw [upW_ne _ _ HXY.out]; omega)
        have HS7 := Lib.hid (HS.out.trans hs7.no)
        clear hb7 hs7
        go_wp2_with fail
        refine H7.mono ?_
        rintro e w8 ⟨rfl, K8, hb8, hs8⟩
        clear H7
        have HE := Lib.hid (show BaseR w8 K8 a m (db ++ [c0]) from ⟨_, _, _, _, _, hb8, HRS.out⟩)
        have HSE := Lib.hid (HS7.out.trans hs8.no)
        clear hb8 hs8
        go_wp2_with fail
        go_end0
        exact ⟨rfl, K8, HE.out, HSE.out⟩
    | succ G =>
      obtain ⟨hbl, hrow, hno⟩ := HI.out
      have hin : i < n := by omega
      have hop := opens_len T i V
      obtain ⟨b, off, hp, hVi⟩ := (HV.out.later hbl) (by omega)
      subst hp
      have cv := hVi i hin
      have hli := HM.out.2 i hin
      have hbx := HB.out.later hbl
      have H1 := value_at hbx HR.out.stc.cons (V i) hli
      have i0 : (0 : Int) ≤ (i : Int) := by omega
      have i1 : (i : Int) < (n : Int) := by omega
      have i2 : (n : Int) ≤ 5000 := by omega
      have hsucc := opens_succ T i V
      obtain ⟨ps, cs, hs4, hB_⟩ := own_shp hrow
      clear hB_
      subst hs4
      have HBL := Lib.hid hbl
      have HROW := Lib.hid hrow
      have HNO := Lib.hid hno
      have HIG := Lib.hid hig
      have HIN := Lib.hid hin
      have HBX := Lib.hid hbx
      have HSU := Lib.hid hsucc
      have hlast : ∀ v, valT T (V i) = v → v ≠ 1 → ∀ j, j < i + 1 → valT T (V j) ≠ 1 := fun v hv h1 j hj => by
        by_cases e : j < i
        · exact HNO.out j e
        · obtain rfl : j = i := by omega
          rw [hv]; exact h1
      have HLA := Lib.hid hlast
      have hsat : valT T (V i) = 1 → Rest (db ++ [c0]) cl wt T nx br := fun hv => HR.out.more (fun _ => .inr (.inl ⟨V i, (HC0.out _).2 ((rowL_mem n V _).2 ⟨i, hin, rfl⟩), valT_one.1 hv⟩))
      have HSA := Lib.hid hsat
      clear hbl hrow hno hVi hli hbx HI hig hin hlast hsat hsucc
      obtain ⟨x, hx⟩ : ∃ x, V i = x := ⟨_, rfl⟩
      rw [hx] at cv H1
      have HX := Lib.hid hx
      clear hx
      rcases valT_cases T x with hv | hv | hv
      · rw [hv] at H1
        have hre := HSA.out (by rw [HX.out]; exact hv)
        have HRE := Lib.hid hre
        clear hre hv
        go_wp2_with fail
        refine H1.mono ?_
        rintro e w1 ⟨rfl, hw1⟩
        obtain rfl := hw1.symm
        clear H1
        go_wp2_with fail
        exact bodyPost_ret (v := .tuple #[]) (by simp [results, Try.results46, go_sem]) rfl ⟨rfl, K0, ⟨cl, wt, T, nx, br, HBX.out, HRE.out⟩, StepB.below HBL.out⟩
      · rw [hv] at H1
        have hla := HLA.out (-1) (by rw [HX.out]; exact hv) (by omega)
        have hsu := HSU.out
        rw [HX.out, if_neg (by omega), List.append_nil] at hsu
        have hr2 := HROW.out
        rw [← hsu] at hr2
        have HR2 := Lib.hid hr2
        have HL2 := Lib.hid hla
        have HSU2 := Lib.hid hsu
        clear hla hsu hr2 hv
        go_wp2_with fail
        refine H1.mono ?_
        rintro e w1 ⟨rfl, hw1⟩
        obtain rfl := hw1.symm
        clear H1
        go_wp2_with fail
        go_roundg G
        case measure => omega
        case rel => exact ⟨i + 1, by have := HIG.out; omega, by go_num, Lib.hid ⟨HBL.out, by rw [HSU2.out]; exact HROW.out, HL2.out⟩⟩
      · rw [hv] at H1
        have hla := HLA.out 0 (by rw [HX.out]; exact hv) (by omega)
        have hsu := HSU.out
        rw [HX.out, if_pos hv] at hsu
        have HL2 := Lib.hid hla
        have HSU2 := Lib.hid hsu
        clear hla hsu hv
        have hal := below1 wr (.cells #[.int .i64 x] 54)
        have HOW := Lib.hid (own_later HROW.out hal)
        have HAL := Lib.hid hal
        have hws := HBL.out.size
        clear hal
        go_wp2_with fail
        refine H1.mono ?_
        rintro e w1 ⟨rfl, hw1⟩
        obtain rfl := hw1.symm
        clear H1
        go_wp2_with (at_builtin; refine wpList_append_own_at _ rfl _ _ 23 rfl W.heap.size 54 i54 (.int .i64 0) 1 8 Try.underlying23 hi54 hz0 hz1 hz2 rfl (by omega) _ (opens T i V).length ((opens T i V).map litV) rfl HOW.out ⟨wr.heap.size, 0, none⟩ 1 1 [.int .i64 x] rfl rfl ?qc2 ?qc3 ?qc4 ?qc5 ?qc6 ?_)
        case qc2 =>
          intro jj u hjj
          rw [Lib.add_plain]
          match jj, hjj with
          | 0, hjj => cases hjj; simp [go_sem]
        case qc3 => intro u hu; simp at hu; rcases hu with rfl; rfl
        case qc4 => have hml : maxLen = 9223372036854775807 := rfl; omega
        case qc5 => omega
        case qc6 => simp; omega
        intro v5 w5 hown hgrow _ hloc
        have hb5 : Below W.heap.size W w5 := (HBL.out.trans (HAL.out.mono HBL.out.size)).grown hgrow (by simp; omega) (fun k hk => (own_lt HOW.out hk).1)
        have hown' : w5.ownsRow W.heap.size 54 1 v5 (opens T (i + 1) V).length ((opens T (i + 1) V).map litV) := by
          rw [HSU2.out]
          simpa [litV] using hown
        have HOW5 := Lib.hid hown'
        have HB5 := Lib.hid hb5
        clear hown hown' hgrow hloc hb5
        go_wp2_with fail
        go_roundg G
        case measure => omega
        case rel => exact ⟨i + 1, by have := HIG.out; omega, by go_num, Lib.hid ⟨HB5.out, HOW5.out, HL2.out⟩⟩
end Go.Proofs.Ytgdncnalahdjeaa
