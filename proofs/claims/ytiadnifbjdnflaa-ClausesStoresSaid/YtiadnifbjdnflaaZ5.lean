/- The store of clauses: a clause added. -/
import Derived.Test.YtiadnifbjdnflaaZ4
import Derived.Test.YtiadnifbjdnflaaRefD
import Derived.Lib.MinMax
import Derived.Deep.DeepCutAuto
namespace Go.Proofs.Ytiadnifbjdnflaa
open Go Go.RowKit Go.Maps

theorem formL_short (l : List LitT) : (formL l).length ≤ l.length := by
  have h := formL_spec l
  refine srt_len (fun i => (nums l).getD i 0) l.length (formL l) (srt_nodup h.1) (fun x hx => ?_)
  obtain ⟨i, hi, he⟩ := List.getElem_of_mem ((h.2 x).1 hx)
  have hi' : i < l.length := by simpa [nums] using hi
  exact ⟨i, hi', by simp [List.getD, List.getElem?_eq_getElem hi, he]⟩
theorem form_mayP (l : List LitT) (hl : (formL l).length ≤ 5000) : MayP (formL l).length (fun i => (formL l).getD i 0) := by
  refine ⟨hl, fun i hi => ?_⟩
  have hm : (formL l).getD i 0 ∈ formL l := by
    rw [List.getD, List.getElem?_eq_getElem hi]
    exact List.getElem_mem hi
  obtain ⟨y, _, hy⟩ := List.mem_map.1 (((formL_spec l).2 _).1 hm)
  show isLitB ((formL l).getD i 0) = true
  rw [← hy]
  exact y.2
theorem map_eql {t k e : TypeId} (w : World) (m : Nat) (h : Try.prog.underlying t = some (.map k e)) : (binOp .eql t (.map (some m)) (.map none)).run Try.prog w = .ok (.bool false) w := by
  simp only [binOp]
  simp [run_equal_map_nil w t k e (some m) h]
def topN (V : Nat → Int) : Nat → Int → Int
  | 0, t => t
  | k + 1, t => max (topN V k t) (max (V k) (-(V k)))
theorem may_num {n : Nat} {V : Nat → Int} (h : MayP n V) : ∀ i, i < n → -1048576 ≤ V i ∧ V i ≤ 1048576 := fun i hi => by
  have := h.2 i hi
  simp [isLitB] at this
  omega
set_option maxRecDepth 100000 in
set_option maxHeartbeats 4000000 in
theorem add33 {W : World} {K : Nat → Nat} {O : Nat} {cl : List (List Int)} {top : Int} (h : StoC W K O cl top) (p : Option Addr) (n z : Nat) (V : Nat → Int) (l : List LitT) (hV : LitsIn W p n V) (hm : MayP n V) (hl : l.length = n) (hz : ∀ i, i < n → (nums l)[i]? = some (V i)) (hc : cl.length < 1048576) :
    Calls Try.prog 33 #[.pointer (some ⟨O, 0, none⟩), .slice p n z] W fun e w' => e = .returned (.tuple #[.int .i64 (cl.length : Int), .int .i64 0]) ∧ ∃ K', StoC w' K' O (cl ++ [formL l]) (topN (fnL (formL l)) (formL l).length top) ∧ Chain W K w' K' := by
  have hn5 : n ≤ 5000 := hm.1
  obtain ⟨i0, hi, hz0, hz1, hz2⟩ := info_of (e := 22) (z := .slice none 0 0) (s := 1) (b := 24) (by kernel_rfl)
  obtain ⟨v0, m, nm, f, hd⟩ := h.split
  clear h
  have H1 := may_any p n z V W hV (by omega)
  have H2 := form_any p n z V l W hV hl hz (by omega)
  have HN0 : (formL l).length ≤ 5000 := by have := formL_short l; omega
  have HM0 := form_mayP l HN0
  generalize formL l = c at H2 HM0 HN0 ⊢
  have HR0 := Lib.hid (may_num HM0)
  have HN := Lib.hid HN0
  have HH1 := Lib.hid H1
  have HH2 := Lib.hid H2
  obtain ⟨p0, z0, rfl⟩ := hd.rows.shape
  have k0 := hd.c0
  have k1 := hd.c1
  have HD := Lib.hid hd
  have HF := Lib.hid hd.fr
  have HKM := Lib.hid hd.km
  have HKA := Lib.hid hd.ka
  have hcl0 : (0 : Int) ≤ (cl.length : Int) := by omega
  have HCL := Lib.hid hc
  have hge : decide (1048576 ≤ (cl.length : Int)) = false := decide_eq_false (by omega)
  clear hc
  clear hd hV hz hl H1 H2 HM0 HN0
  have hme := map_eql W m Try.underlying44
  go_enter Try.func33, Try.ntmps33
  go_wp2_with fail
  refine HH1.out.mono ?_
  rintro e w1 ⟨⟨rfl, _⟩ | ⟨rfl, hno⟩, hw⟩ <;> obtain rfl := hw.symm <;> clear hw
  case inr => exact absurd hm hno
  go_wp2_with fail
  refine HH2.out.mono ?_
  rintro e w2 ⟨v', rfl, hown, hb⟩
  obtain ⟨q, c2, rfl, hqn, hq, hqb⟩ := own_in hown rfl
  have HQ := Lib.hid hq
  have HQB := Lib.hid hqb
  have HQN := Lib.hid hqn
  have HQL := Lib.hid (fun ad (e : q = some ad) => (World.ownsRow.lt hown ad.block (by rw [e]; rfl)).2)
  have HD2 := Lib.hid (HD.out.later hb)
  have HB2 := Lib.hid hb
  clear hown hb hq hqb hqn k0 k1 HD
  have k0 := HD2.out.c0
  have k1 := HD2.out.c1
  have HDa := Lib.hid (HD2.out.later (below1 w2 (.cells #[.slice q c.length c2] 22)))
  obtain ⟨xs, r1, r2, r3⟩ := HDa.out.rows
  have R1 := Lib.hid r1
  have R2 := Lib.hid r2
  have R3 := Lib.hid r3
  clear r1 r2 r3
  go_wp2_with (at_builtin; refine wpList_append_own_at _ rfl _ _ 33 rfl 0 22 i0 (.slice none 0 0) 1 24 Try.underlying33 hi hz0 hz1 hz2 rfl (by omega) (.slice p0 cl.length z0) cl.length xs rfl R1.out ⟨w2.heap.size, 0, none⟩ 1 1 [.slice q c.length c2] rfl rfl ?c2 ?c3 ?c4 ?c5 (Nat.zero_le _) ?_)
  case c2 =>
    intro j u hj
    rw [Lib.add_plain]
    match j, hj with
    | 0, hj => cases hj; simp [go_sem]
  case c3 => intro u hu; simp at hu; subst hu; rfl
  case c4 => have hml : maxLen = 9223372036854775807 := rfl; have := HCL.out; omega
  case c5 => have := HCL.out; omega
  intro v' w3 hown hgr _ hloc
  obtain ⟨p9, z9, rfl⟩ := own_shape hown
  have HR := HDa.out.row (B := W.heap.size) (p := q) (z := c2) (c := c) R1.out R2.out R3.out (HQ.out.later (below1 w2 _)) (fun ad e => ⟨HF.out _ (HQB.out ad e), HQB.out ad e, by have := HQL.out ad e; simp; omega⟩) (by have := HB2.out.size; simp; omega) (fun e => ⟨Nat.eq_zero_of_not_pos (fun h0 => by obtain ⟨b, off, e2, _⟩ := HQ.out h0; rw [e] at e2; cases e2), HQN.out e⟩) hown hgr (by simpa using hloc)
  have ho0 := Only.of_grown hgr
  have ho := ho0.mono (T' := fun k => K k = 3) (fun k _ e => R2.out k e)
  have nO : ¬ K O = 3 := by rw [HDa.out.ka]; decide
  have x0 := ho.cell HDa.out.c0 nO
  have xf := ho.frozen (a := ⟨O, 0, none⟩) HDa.out.lt nO
  rw [HDa.out.fz 0] at xf
  have hq3 : LitsIn (w3.setCell ⟨O, 0, none⟩ (.slice p9 (cl.length + 1) z9)) q c.length (fnL c) :=
    ((HQ.out.later (below1 w2 _)).only' ho0 (fun ad e e2 => by have := R2.out ad.block e2; rw [HF.out _ (HQB.out ad e)] at this; cases this)).only' (Only.of_setCell w3 ⟨O, 0, none⟩ _) (fun ad e e2 => by have e2 : ad.block = O := e2; have := HF.out _ (HQB.out ad e); rw [e2, HDa.out.ka] at this; cases this)
  have HQ3 := Lib.hid hq3
  clear hq3 ho0 ho nO hown hgr hloc k0 k1
  obtain ⟨K', HD3, HK1, HK2, HO3⟩ := HR
  have HC3 := Lib.hid (show Chain W K (w3.setCell ⟨O, 0, none⟩ (.slice p9 (cl.length + 1) z9)) K' from ⟨HK1, HK2, by
    refine (Only.of_below (T := fun b => 1 ≤ K b ∧ K b ≤ 4) (HB2.out.trans ((below1 w2 _).mono HB2.out.size))).comp HO3 (fun _ _ e => e) (fun _ _ e => e)⟩)
  have HD3 := Lib.hid HD3
  clear HK1 HK2 HO3 HD2 HDa R1 R2 R3
  go_wp2_with fail
  clear x0 xf
  obtain ⟨W4, hW4⟩ : ∃ x, x = w3.setCell ⟨O, 0, none⟩ (.slice p9 (cl.length + 1) z9) := ⟨_, rfl⟩
  rw [← hW4] at HD3 HC3 HQ3 ⊢
  clear hW4
  refine (key_any q c.length c2 (fnL c) W4 HQ3.out HN.out HR0.out).mono ?_
  rintro e w5 ⟨rfl, hb5⟩
  have HD5 := Lib.hid (HD3.out.later hb5)
  have HC5 := Lib.hid (HC3.out.below hb5)
  have HQ5 := Lib.hid (HQ3.out.later hb5)
  clear hb5 HD3 HC3 HQ3
  have k1 := HD5.out.c1
  go_wp2_with fail
  refine (hasD58 HD5.out (textOf c.length (fnL c)) (by rw [textOf, strOfNums_size, quads_len]; have := HN.out; omega)).mono ?_
  rintro e w6 ⟨rfl, hw⟩
  obtain rfl := hw.symm
  clear hw
  obtain ⟨g, hg⟩ : ∃ g, (idxOf cl (keyS (textOf c.length (fnL c))) 0).isSome = g := ⟨_, rfl⟩
  rw [hg]
  have HG := Lib.hid hg
  clear hg
  go_upto_if 53 with (fail)
  go_cut [] (fun wx => ∃ nm' f', Hid (StoD wx K' O (cl ++ [c]) (cl ++ [c]) top (.slice p9 (cl.length + 1) z9) m nm' f' ∧ Chain W K wx K' ∧ LitsIn wx q c.length (fnL c)))
  case first =>
    cases g with
    | true =>
      go_wp2_with fail
      go_meet
      exact ⟨nm, f, Lib.hid ⟨HD5.out.same HG.out, HC5.out, HQ5.out⟩⟩
    | false =>
      obtain ⟨W7, hr, hfm, hgr⟩ := HD5.out.fm.put K9 Try.underlying44 (by have := HD5.out.le; have hml : maxLen = 9223372036854775807 := rfl; have := HCL.out; omega) (key9 (textOf c.length (fnL c)) (by rw [textOf, strOfNums_size, quads_len]; have hml : maxLen = 9223372036854775807 := rfl; have := HN.out; omega)) (.int .i64 (cl.length : Int))
      have HD7 := Lib.hid (HD5.out.upd (c := c) HG.out hfm (by have := HD5.out.le; split <;> omega) hgr)
      have HC7 := Lib.hid (HC5.out.set (Only.of_grown hgr) (fun b e => by have e : some m = some b := e; injection e with e; rw [← e, HD5.out.km]; omega))
      have HQ7 := Lib.hid (HQ5.out.only' (Only.of_grown hgr) (fun ad e e2 => by have e2 : some m = some ad.block := e2; injection e2 with e2; have := HF.out _ (HQB.out ad e); rw [← e2, HKM.out] at this; cases this))
      clear hfm hgr
      go_wp2_with (refine wpList_upd_run rfl _ _ _ _ rfl (.map (some m)) (.string (textOf c.length (fnL c))) (.int .i64 (cl.length : Int)) W7 rfl rfl rfl hr ?_)
      go_meet
      exact ⟨_, _, Lib.hid ⟨HD7.out, HC7.out, HQ7.out⟩⟩
  case rest =>
  obtain ⟨nm', f', HX⟩ := hcut
  have HD8 := Lib.hid HX.out.1
  have HC8 := Lib.hid HX.out.2.1
  have HQ8 := Lib.hid HX.out.2.2
  clear HX HD5 HC5 HQ5 k1 HG
  go_wp2_with fail
  go_loopw [62] (fun i wr => ∃ k, k ≤ c.length ∧ i = .int .i64 (k : Int) ∧ Hid (StoD wr K' O (cl ++ [c]) (cl ++ [c]) (topN (fnL c) k top) (.slice p9 (cl.length + 1) z9) m nm' f' ∧ Chain W K wr K' ∧ LitsIn wr q c.length (fnL c))) (fun i _ => c.length - (intOf i).toNat)
  case atStart => exact ⟨0, Nat.zero_le _, rfl, Lib.hid ⟨HD8.out, HC8.out, HQ8.out⟩⟩
  case round =>
    obtain ⟨k, hk, rfl, HX⟩ := hrel
    clear HD8 HC8 HQ8
    have HD9 := Lib.hid HX.out.1
    have HC9 := Lib.hid HX.out.2.1
    have HQ9 := Lib.hid HX.out.2.2
    clear HX
    have k2 := HD9.out.c2
    have f2 := HD9.out.fz 2
    by_cases hlt : k < c.length
    · obtain ⟨b, off, rfl, ha⟩ := HQ9.out (by omega)
      have ck := ha k hlt
      have hv := HR0.out k hlt
      obtain ⟨x, hx⟩ : ∃ x, x = fnL c k := ⟨_, rfl⟩
      have hv : -1048576 ≤ x ∧ x ≤ 1048576 := by rw [hx]; exact hv
      rw [← hx] at ck
      have hX : topN (fnL c) (k + 1) top = max (topN (fnL c) k top) (max x (-x)) := by rw [hx]; rfl
      have HX := Lib.hid hX
      clear hX hx ha
      obtain ⟨hv0, hv1⟩ := hv
      obtain ⟨T, hT⟩ : ∃ T, T = topN (fnL c) k top := ⟨_, rfl⟩
      rw [← hT] at k2 HX HD9
      clear hT
      have e1 : wrap64 (-x) = -x := by rw [wrap64_eq]; omega
      have e2 : IntKind.i64.wrap (-x) = -x := by rw [IntKind.wrap_i64]; omega
      have hk0 : (0 : Int) ≤ (k : Int) := by omega
      have hk1 : (k : Int) < (c.length : Int) := by omega
      have e3 : wrap64 ((k : Int) + 1) = ((k + 1 : Nat) : Int) := by rw [wrap64_eq]; have := HN.out; omega
      have hk' : k + 1 ≤ c.length := Nat.succ_le_of_lt hlt
      have hms : c.length - (k + 1) < c.length - k := Nat.sub_lt_sub_left hlt (Nat.lt_succ_self k)
      go_wp2_with fail
      refine ⟨⟨k + 1, hk', by first | rfl | rw [e3], Lib.hid ⟨by rw [HX.out]; exact HD9.out.up _, HC9.out.trans ⟨fun _ _ => rfl, fun _ e => .inl e, HD9.out.up_only _ _⟩, HQ9.out.only' (Only.of_setCell wr ⟨O, 2, none⟩ _) (fun ad e e2 => by have e2 : ad.block = O := e2; have := HF.out _ (HQB.out ad e); rw [e2, HKA.out] at this; cases this)⟩⟩, ?_⟩
      first | rw [e3] | skip
      simp only [intOf, Int.toNat_natCast]
      exact hms
    · obtain rfl : k = c.length := by omega
      go_wp2_with fail
      exact bodyPost_ret (v := .tuple #[.int .i64 (cl.length : Int), .int .i64 0]) (by simp [results, Try.results33, go_sem]) rfl ⟨rfl, K', HD9.out.join, HC9.out⟩
end Go.Proofs.Ytiadnifbjdnflaa
