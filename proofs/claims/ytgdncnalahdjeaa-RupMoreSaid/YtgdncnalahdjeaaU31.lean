/- RupMore's walk. -/
import Derived.Test.YtgdncnalahdjeaaU27
namespace Go.Proofs.Ytgdncnalahdjeaa
open Go Go.RowKit Go.Maps

theorem RowsZ.after {W W' : World} {p : Option Addr} {dbl : List (List Int)} (h : RowsZ W p dbl) (hb : Below W.heap.size W W') : RowsZ W' p dbl := fun hn => by
  obtain ⟨b, off, e, hc⟩ := h hn
  refine ⟨b, off, e, fun i c hi => ?_⟩
  obtain ⟨q, z, h1, h2, h3⟩ := hc i c hi
  exact ⟨q, z, cell_later hb h1, h2.later hb, h3⟩
theorem wpList_append_any2 {P : Program} {w : World} {ops : Array Oper} {rest : List Oper} {o : Oper} {a : Act} {Q : Exit → Act → World → Prop} (hgd : o.guard = none) (s x : Operand) (t : TypeId)
    (ho : o.op = .call { callee := .builtin .append, args := #[s, x], argTypes := #[t, t] })
    (base : Nat) (e : TypeId) (i : TypeInfo) (z : Value) (size bytes : Nat) (ht : P.underlying t = some (.slice e)) (hi : P.info? e = some i) (hz : i.zero = some z)
    (hsize : i.size = size) (hby : i.bytes = bytes) (hzs : z.cells.size = size) (hsz : 0 < size)
    (v : Value) (n : Nat) (xs : List Value) (hs : a.eval s = v) (hown : w.ownsRow base e size v n xs)
    (p : Option Addr) (m c : Nat) (news : List Value) (hx : a.eval x = .slice p m c) (hp : p = none → m = 0 ∧ c = 0) (hl : news.length = m * size) (hnews : ∀ ad, p = some ad → ∀ j u, news[j]? = some u → w.cell? (ad.add j) = some u) (h1 : ∀ u ∈ news, u.oneCell' = true)
    (h63 : n + m ≤ maxLen) (hbytes : (n + m) * bytes ≤ 140737488355328) (hbase : base ≤ w.heap.size)
    (h : ∀ v' w', w'.ownsRow base e size v' (n + m) (xs ++ news) → Below base w w' → wpList P ops Q rest (a.put o.dst v') w') :
    wpList P ops Q (o :: rest) a w := by
  cases p with
  | none =>
    obtain ⟨rfl, rfl⟩ := hp rfl
    have hn : news = [] := by
      rw [Nat.zero_mul] at hl
      exact List.length_eq_zero_iff.1 hl
    subst hn
    exact wpList_append_own_none hgd s x t ho base e i size ht hi v n xs hs hown hx (h v w (by simpa using hown) (Below.refl _ _))
  | some ad =>
    exact wpList_append_own_at w hgd s x t ho base e i z size bytes ht hi hz hsize hby hzs hsz v n xs hs hown ad m c news hx hl (hnews ad rfl) h1 h63 hbytes hbase
      (fun v' w' ho' hg _ _ => h v' w' ho' ((Below.refl base w).grown hg hbase (fun k hk => (World.ownsRow.lt hown k hk).1)))
theorem within_all (o1 o2 : List Int) (h : ∀ x, x ∈ o1 → x ∈ o2) : ((List.range o1.length).all fun i => hasB o2.length (fnL o2) (fnL o1 i)) = true := by
  rw [List.all_eq_true]
  intro i hi
  have hil := List.mem_range.1 hi
  have e : fnL o1 i = o1[i] := by unfold fnL; exact getD_eq hil
  rw [e, show fnL o2 = fun i => o2.getD i 0 from rfl, hasB_list, decide_eq_true_eq]
  exact h _ (List.getElem_mem hil)
theorem lits_cells2 {W : World} {p : Option Addr} {c : List Int} (h : LitsIn W p c.length (fnL c)) : ∀ ad, p = some ad → ∀ j u, (c.map (Value.int .i64))[j]? = some u → W.cell? (ad.add j) = some u := fun ad e j u hu => by
  rw [List.getElem?_map] at hu
  obtain ⟨x, hx, rfl⟩ := Option.map_eq_some_iff.1 hu
  have hj := (List.getElem?_eq_some_iff.1 hx).1
  obtain ⟨b, off, e2, hc⟩ := h (by omega)
  rw [e] at e2
  cases e2
  have := hc j hj
  have hv : fnL c j = x := by
    unfold fnL
    rw [getD_eq hj]
    exact (List.getElem?_eq_some_iff.1 hx).2
  rw [hv] at this
  rw [Lib.add_plain]
  exact this
set_option maxRecDepth 100000 in
set_option maxHeartbeats 3200000 in
theorem more_walk (p : Option Addr) (z : Nat) (dbl : List (List Int)) (r : Option Addr) (zr : Nat) (more : List (List Int)) (q : Option Addr) (zq : Nat) (g : List Int) (s : Option Addr) (zs : Nat) (h : List Int) (w : World) (a b : Bool) (e1 e2 : Int) (P1 P2 : List Int → Prop)
    (hcase : (e1 = 2) ∨ (e1 = 0 ∧ e2 = 2) ∨ (e1 = 0 ∧ e2 = 0 ∧ (a = true → b = true) ∧ (b = false → ∀ o1 o2, P1 o1 → P2 o2 → ∀ x, x ∈ o1 → x ∈ o2)))
    (hP1 : ∀ o, P1 o → o.length ≤ 5000) (hP2 : ∀ o, P2 o → o.length ≤ 5000)
    (hV : RowsZ w p dbl) (hR : RowsZ w r more) (hrz : r = none → zr = 0) (h60 : dbl.length ≤ 60) (hall : ∀ d, d ∈ dbl → d.length ≤ 30) (hmo : more.length ≤ 60)
    (hq : LitsIn w q g.length (fnL g)) (hqz : q = none → zq = 0) (hg : g.length ≤ 30) (hs : LitsIn w s h.length (fnL h)) (hsz : s = none → zs = 0) (hh : h.length ≤ 30)
    (L1 : Calls Try.prog 17 #[.slice p dbl.length z] w fun e w' => e = .returned (.bool false) ∧ w' = w)
    (L2 : Calls Try.prog 17 #[.slice r more.length zr] w fun e w' => e = .returned (.bool false) ∧ w' = w)
    (U1 : ∀ W, Below w.heap.size w W → Calls Try.prog 21 #[.slice p dbl.length z, .slice q g.length zq] W fun e w' => (∃ o pp cc, P1 o ∧ e = .returned (.tuple #[.slice pp o.length cc, .bool a, .int .i64 e1]) ∧ LitsIn w' pp o.length (fnL o)) ∧ Below W.heap.size W w')
    (U2 : ∀ W ps cs pg cg, Below w.heap.size w W → RowsIn W ps (dbl ++ more) → LitsIn W pg (g ++ h).length (fnL (g ++ h)) → Calls Try.prog 21 #[.slice ps (dbl ++ more).length cs, .slice pg (g ++ h).length cg] W fun e w' => (∃ o pp cc, P2 o ∧ e = .returned (.tuple #[.slice pp o.length cc, .bool b, .int .i64 e2]) ∧ LitsIn w' pp o.length (fnL o)) ∧ Below W.heap.size W w') :
    Calls Try.prog 8 #[.slice p dbl.length z, .slice r more.length zr, .slice q g.length zq, .slice s h.length zs] w fun e w' => e = .returned (.bool true) ∧ Below w.heap.size w w' := by
  obtain ⟨i0, hi0, hz0, hz1, hz2⟩ := info30
  have HK := Lib.hid known_any
  have HV := Lib.hid hV
  have HR := Lib.hid hR
  have HQ := Lib.hid hq
  have HS := Lib.hid hs
  have K1 := Lib.hid U1
  have K2 := Lib.hid U2
  have HC := Lib.hid hcase
  have HRZ := Lib.hid hrz
  have HQZ := Lib.hid hqz
  have HSZ := Lib.hid hsz
  have HP1 := Lib.hid hP1
  have HP2 := Lib.hid hP2
  have HCP := Lib.hid (fun (W : World) (hb : Below w.heap.size w W) (hVW : RowsZ W p dbl) => copied_at p z dbl W hVW h60 hall)
  have HMO := Lib.hid (And.intro hmo h60)
  clear hV hR hq hs U1 U2 hcase hrz hqz hsz hP1 hP2 hall hmo h60
  obtain ⟨nd, hnd⟩ : ∃ n, dbl.length = n := ⟨_, rfl⟩
  obtain ⟨nm, hnm⟩ : ∃ n, more.length = n := ⟨_, rfl⟩
  obtain ⟨ng, hng⟩ : ∃ n, g.length = n := ⟨_, rfl⟩
  obtain ⟨nh, hnh⟩ : ∃ n, h.length = n := ⟨_, rfl⟩
  have hlen5 : (dbl ++ more).length = nd + nm := by rw [List.length_append, hnd, hnm]
  have hlen6 : (g ++ h).length = ng + nh := by rw [List.length_append, hng, hnh]
  rw [hnd] at L1 K1 HCP ⊢
  rw [hnm] at L2 ⊢
  rw [hng] at K1 hg ⊢
  rw [hnh] at hh ⊢
  rw [hlen5, hlen6] at K2
  have HND := Lib.hid hnd
  have HNM := Lib.hid hnm
  have HNG := Lib.hid hng
  have HNH := Lib.hid hnh
  have HL5 := Lib.hid hlen5
  have HL6 := Lib.hid hlen6
  clear hnd hnm hng hnh hlen5 hlen6
  have q1 : ¬ ((30 : Int) < (ng : Int)) := by omega
  have q2x : ¬ ((30 : Int) < (nh : Int)) := by omega
  go_enter Try.func8, Try.ntmps8
  go_wp2_with fail
  refine L1.mono ?_
  rintro e w1 ⟨rfl, hw⟩
  obtain rfl := hw.symm
  clear L1
  go_wp2_with fail
  refine L2.mono ?_
  rintro e w1 ⟨rfl, hw⟩
  obtain rfl := hw.symm
  clear L2
  go_wp2_with fail
  refine (K1.out w (Below.refl _ _)).mono ?_
  rintro e w3 ⟨⟨o1, p1, c1, hp1, rfl, hl1⟩, hb3⟩
  have HB3 := Lib.hid hb3
  have ho15 := HP1.out o1 hp1
  have HO1 := Lib.hid hp1
  have HLL := Lib.hid hl1
  clear hb3 hp1 hl1
  obtain ⟨n1, hn1⟩ : ∃ n, o1.length = n := ⟨_, rfl⟩
  rw [hn1] at ho15 HLL ⊢
  have HN1 := Lib.hid hn1
  clear hn1
  go_wp2_with fail
  refine (HCP.out w3 HB3.out (HV.out.after HB3.out)).mono ?_
  rintro e w4 ⟨v4, rfl, hB4⟩
  obtain ⟨rows4, hr4, _⟩ := hB4.row
  obtain ⟨ps4, cs4, hs4, hB_⟩ := own_shp hr4
  clear hB_
  subst hs4
  obtain ⟨v5, w5, hr5, ps, cs, hv5, hR5, hb5⟩ := hB4.join (by have := HND.out; omega) (HR.out.rows.later HB3.out) HRZ.out (by have := HMO.out.2; have := HND.out; omega) (by have := HMO.out.1; omega)
  subst hv5
  have HB5 := Lib.hid (chain HB3.out hb5)
  have HR5 := Lib.hid hR5
  have HLL5 := Lib.hid (HLL.out.later hb5)
  rw [HNM.out, HL5.out] at hr5
  have H5 := Lib.hid hr5
  have hT := copied_any q ng zq (fnL g) w5 (by have := HQ.out.later HB5.out; rwa [HNG.out] at this) (by omega) HQZ.out
  rw [show rowL ng (fnL g) = g by rw [← HNG.out]; exact rowL_fn g] at hT
  clear hr4 hr5 hR5 hb5 hB4
  go_wp2_with (at_builtin; refine Lib.wpList_append_run _ rfl _ _ 22 22 rfl _ _ rfl rfl _ _ H5.out ?_)
  refine hT.mono ?_
  rintro e w6 ⟨v6, rfl, ho6, hb6⟩
  clear hT
  have HO6 := Lib.hid ho6
  have HB6 := Lib.hid hb6
  have hws := hb6.size
  have HS6 := Lib.hid (HS.out.later (chain HB5.out hb6))
  clear ho6 hb6
  go_wp2_with (at_builtin; refine wpList_append_any2 rfl _ _ 23 rfl w5.heap.size 54 i0 (.int .i64 0) 1 8 Try.underlying23 hi0 hz0 hz1 hz2 rfl (by omega) _ ng (g.map (Value.int .i64)) rfl HO6.out s nh zs (h.map (Value.int .i64)) rfl ?qc1 ?qc2 (lits_cells2 HS6.out) ?qc3 ?qc4 ?qc5 hws ?_)
  case qc1 =>
    intro e
    refine ⟨?_, HSZ.out e⟩
    rcases Nat.eq_zero_or_pos nh with h0 | h0
    · exact h0
    · obtain ⟨b, off, e2, _⟩ := HS.out (by rw [HNH.out]; exact h0)
      rw [e] at e2
      cases e2
  case qc2 => rw [List.length_map, HNH.out]; omega
  case qc3 => intro u hu; obtain ⟨x, _, rfl⟩ := List.mem_map.1 hu; rfl
  case qc4 => have hml : maxLen = 9223372036854775807 := rfl; omega
  case qc5 => omega
  intro v7 w7 ho7 hb7
  obtain ⟨p7, c7, hs7, hB_⟩ := own_shp ho7
  clear hB_
  subst hs7
  rw [← List.map_append] at ho7
  have hl7 : LitsIn w7 p7 (g ++ h).length (fnL (g ++ h)) := by
    rw [← HL6.out] at ho7
    exact lits_own ho7
  rw [HL6.out] at hl7
  have hb57 := HB6.out.trans hb7
  have HB7 := Lib.hid (chain HB5.out hb57)
  have hU := K2.out w7 ps cs p7 c7 HB7.out (HR5.out.later hb57) hl7
  have HLL7 := Lib.hid (HLL5.out.later hb57)
  clear ho7 hb7 hl7 hb57
  go_wp2_with fail
  refine hU.mono ?_
  rintro e w8 ⟨⟨o2, p2, c2, hp2, rfl, hl2⟩, hb8⟩
  have hW := refWithin_any p1 n1 c1 (fnL o1) p2 o2.length c2 (fnL o2) w8 (HLL7.out.later hb8) (by omega) hl2 (by have := HP2.out o2 hp2; omega)
  have HB8 := Lib.hid (chain HB7.out hb8)
  have HO2 := Lib.hid hp2
  clear hU hb8 hl2 hp2
  obtain ⟨n2, hn2⟩ : ∃ n, o2.length = n := ⟨_, rfl⟩
  have HN2 := Lib.hid hn2
  rw [hn2] at hW ⊢
  clear hn2
  rcases HC.out with hE | ⟨hE, hE2⟩ | ⟨hE, hE2, hab, hin⟩
  · subst hE
    clear hW
    go_wp2_with fail
    refine (HK.out w8).mono ?_
    rintro e w9 ⟨rfl, hb9⟩
    have HF := Lib.hid (chain HB8.out hb9)
    clear hb9
    go_wp2_with fail
    go_ret
    exact ⟨rfl, HF.out⟩
  · subst hE hE2
    clear hW
    go_wp2_with fail
    refine (HK.out w8).mono ?_
    rintro e w9 ⟨rfl, hb9⟩
    have HF := Lib.hid (chain HB8.out hb9)
    clear hb9
    go_wp2_with fail
    go_ret
    exact ⟨rfl, HF.out⟩
  · subst hE hE2
    cases b with
    | true =>
      clear hW hin hab
      cases a with
      | true =>
        go_wp2_with fail
        refine (HK.out w8).mono ?_
        rintro e w9 ⟨rfl, hb9⟩
        have HF := Lib.hid (chain HB8.out hb9)
        clear hb9
        go_wp2_with fail
        go_ret
        exact ⟨rfl, HF.out⟩
      | false =>
        go_wp2_with fail
        refine (HK.out w8).mono ?_
        rintro e w9 ⟨rfl, hb9⟩
        have HF := Lib.hid (chain HB8.out hb9)
        clear hb9
        go_wp2_with fail
        go_ret
        exact ⟨rfl, HF.out⟩
    | false =>
      cases a with
      | true => cases hab rfl
      | false =>
        have hall := within_all o1 o2 (hin rfl o1 o2 HO1.out HO2.out)
        rw [HN1.out, HN2.out] at hall
        rw [hall] at hW
        clear hall hin hab
        go_wp2_with fail
        refine hW.mono ?_
        rintro e w9 ⟨rfl, hw⟩
        obtain rfl := hw.symm
        clear hW
        go_wp2_with fail
        refine (HK.out _).mono ?_
        rintro e w10 ⟨rfl, hb9⟩
        have HF := Lib.hid (chain HB8.out hb9)
        clear hb9
        go_wp2_with fail
        go_ret
        exact ⟨rfl, HF.out⟩
end Go.Proofs.Ytgdncnalahdjeaa
