/- A base: watch. -/
import Derived.Test.YtgdncnalahdjeaaU4
namespace Go.Proofs.Ytgdncnalahdjeaa
open Go Go.RowKit Go.Maps Go.ChangeMaps

theorem mem_insert {H : Type} (x y : Lit × DataW H) : ∀ l : List (Lit × DataW H), y ∈ DataW.insert x l → y = x ∨ y ∈ l
  | [], h => .inl (List.mem_singleton.1 h)
  | z :: r, h => by
    unfold DataW.insert at h
    split at h
    · rcases List.mem_cons.1 h with h | h
      · exact .inl h
      · exact .inr h
    · rcases List.mem_cons.1 h with h | h
      · exact .inr (h ▸ List.mem_cons_self ..)
      · exact (mem_insert x y r h).imp id (fun h => List.mem_cons_of_mem _ h)
theorem okKeys_put {D : DataW Value} (h : okKeys D) {x : Int} (hx : isLitB x = true) (d : DataW Value) : okKeys (D.put (.int .i64 x) d) := by
  obtain ⟨es, rfl, he⟩ := h
  refine ⟨_, DataW.put_eq es _ d, fun p hp => ?_⟩
  unfold putKey at hp
  rcases mem_insert _ _ _ hp with rfl | hp
  · exact hx
  · exact he p (List.mem_filter.1 hp).1
def keyI : Lit → Int
  | .int _ x => x
  | _ => 0
theorem few_keys {D : DataW Value} (h : okKeys D) (ht : Tidy D) : Maps.size D ≤ 2097153 := by
  obtain ⟨es, rfl, he⟩ := h
  obtain ⟨es', e, hp⟩ := ht
  cases e
  rw [Maps.size_eq]
  have hn : (es.map fun p => keyI p.1).Nodup := by
    refine List.pairwise_map.2 (hp.imp_of_mem (fun {p q} hp hq hne e => hne ?_))
    have h1 := he p hp
    have h2 := he q hq
    revert h1 h2 e
    cases p.1 <;> simp [okKey] <;> rename_i k x <;> cases k <;> simp [okKey]
    cases q.1 <;> simp [okKey] <;> rename_i k y <;> cases k <;> simp [okKey, keyI]
    intro e _ _; exact e
  have := nodup_sub hn (b := (List.range 2097153).map fun (i : Nat) => (i : Int) - 1048576) (fun x hx => by
    obtain ⟨p, hp, rfl⟩ := List.mem_map.1 hx
    have h1 := he p hp
    refine List.mem_map.2 ?_
    revert h1
    cases p.1 <;> simp [okKey] <;> rename_i k x <;> cases k <;> simp [okKey]
    intro h1
    obtain ⟨_, a, b⟩ := litB_in h1
    simp only [keyI]
    exact ⟨(x + 1048576).toNat, by omega, by omega⟩)
  simpa using this
/-- the map of a base turns at one key. -/
theorem MapAt.put {W W1 W2 : World} {K K1 : Nat → Kd} {m : Nat} {hl hl' : Int → Prop} {wt : Int → List Nat} {x : Int} {ys : List Nat} {v' : Value} (h : MapAt W K m hl wt) (hx : isLitB x = true) (hq : ∀ y, ¬ hl' y → y = x ∨ ¬ hl y) (ho1 : Only (fun k => K k = .wat x) W W1) (he : Ext K K1 W.heap.size)
    (hr : RowAt W1 K1 (.wat x) 3 v' (ys.map natV)) (hp : ∀ D, (∃ n, W1.ownsMap Try.prog 54 heldR m n D) → (∀ x, isLitB x = true → ¬ hl x → ∃ v, D.atKey (.int .i64 x) (.held (.slice none 0 0)) = .held v ∧ RowAt W K (.wat x) 3 v ((wt x).map natV)) → ∃ n, W2.ownsMap Try.prog 54 heldR m n (D.put (.int .i64 x) (.held v'))) (hg : W1.grownBy W2 (some m)) : MapAt W2 K1 m hl' (upW wt x ys) := by
  obtain ⟨D, ⟨n, hD⟩, hk, hv⟩ := h.has
  have hD1 := ownsMap_only hD ho1 (fun e => by rw [h.tag] at e; cases e)
  have hm1 : K1 m = .map := (he m hD.lt).trans h.tag
  have hO2 : Only (fun k => k = m) W1 W2 := (Only.of_grown hg).mono (fun k _ e => by cases e; rfl)
  refine ⟨hm1, _, hp D ⟨n, hD1⟩ hv, okKeys_put hk hx _, fun y hy hny => ?_⟩
  by_cases e : y = x
  · subst e
    rw [upW_same]
    exact ⟨v', atKey_put_same (hD.isMap) (by trivial) _ _, hr.only hO2 (Ext.refl _ _) (fun k e1 e2 => by rw [e2, hm1] at e1; cases e1)⟩
  · obtain ⟨v, e1, hrv⟩ := hv y hy ((hq y hny).resolve_left e)
    rw [upW_ne _ _ e]
    refine ⟨v, by rw [atKey_put_other (by intro e2; cases e2; exact e rfl)]; exact e1, (hrv.only ho1 he (fun k e1 e2 => ?_)).only hO2 (Ext.refl _ _) (fun k e1 e2 => by rw [e2, hm1] at e1; cases e1)⟩
    rw [e1] at e2
    cases e2
    exact e rfl
theorem infoI3 : ∃ i0, Try.prog.info? 3 = some i0 ∧ i0.zero = some (.int .i64 0) ∧ i0.size = 1 ∧ i0.bytes = 8 := info_of (by kernel_rfl)
theorem MapAt.put2 {W W1 W2 : World} {K K1 : Nat → Kd} {m : Nat} {hl hl' : Int → Prop} {wt : Int → List Nat} {x : Int} {ys : List Nat} {v' : Value} {D : DataW Value} (h : MapAt W K m hl wt) (hx : isLitB x = true) (hq : ∀ y, ¬ hl' y → y = x ∨ ¬ hl y) (ho1 : Only (fun k => K k = .wat x) W W1) (he : Ext K K1 W.heap.size)
    (hr : RowAt W1 K1 (.wat x) 3 v' (ys.map natV)) (hD : ∃ n, W.ownsMap Try.prog 54 heldR m n D) (hp : ∃ n, W2.ownsMap Try.prog 54 heldR m n (D.put (.int .i64 x) (.held v'))) (hg : W1.grownBy W2 (some m)) : MapAt W2 K1 m hl' (upW wt x ys) :=
  h.put hx hq ho1 he hr (fun D' hD' _ => by
    obtain ⟨n', hD'⟩ := hD'
    obtain ⟨n, hD⟩ := hD
    have h1 := ownsMap_only hD ho1 (fun e => by rw [h.tag] at e; cases e)
    obtain ⟨es, cl, a1, a2, a3, a4⟩ := hD'
    obtain ⟨es2, cl2, b1, b2, b3, b4⟩ := h1
    rw [a1] at b1
    cases b1
    rw [a4, ← b4]
    exact hp) hg
theorem nat_row {w : World} {v : Value} {ys : List Nat} {K : Nat → Kd} {t : Kd} (h : RowAt w K t 3 v (ys.map natV)) : w.ownsRow 0 3 1 v ys.length (ys.map natV) := by
  have := h.own
  rwa [List.length_map] at this
theorem zero55 (w : World) : (zeroValue 55).run Try.prog w = .ok (.slice none 0 0) w := by kernel_rfl
set_option maxRecDepth 100000 in
set_option maxHeartbeats 1600000 in
theorem watch_at {W : World} {K0 : Nat → Kd} {a m : Nat} {hl : Int → Prop} {cl : List (List Int)} {wt : Int → List Nat} {T R : List Int} {nx : Nat} {br : Bool} (h : BaseAt W K0 a m hl cl wt T R nx br) (l : Int) (hli : isLitB l = true) (hh : ¬ hl l) (j : Nat) (hlen : (wt l).length ≤ 1000000) :
    Calls Try.prog 75 #[.pointer (some ⟨a, 0, none⟩), .int .i64 l, .int .i64 (j : Int)] W fun e w' => e = .returned (.tuple #[]) ∧ ∃ K', BaseAt w' K' a m hl cl (upW wt l (wt l ++ [j])) T R nx br ∧ StepB (Wbut l) W w' K0 K' := by
  obtain ⟨i3, hi3, hz0, hz1, hz2⟩ := infoI3
  obtain ⟨h0, h1, h2⟩ := litB_in hli
  have hkey := Lib.hid (key30 (show I64 l from ⟨by omega, by omega⟩))
  have hDr : Below W.heap.size W W.drew := (Below.refl _ _).drew
  have hd := h.later hDr
  obtain ⟨D, ⟨n0, hD0⟩, hk, hv⟩ := hd.mp.has
  have hD := ownsMap_tight hD0
  have hfew := few_keys hk (hD0.tidy law30)
  obtain ⟨v, ev, hrv⟩ := hv l hli hh
  obtain ⟨p, c, hvv, _⟩ := own_shp hrv.own
  subst hvv
  obtain ⟨v0, v2, v3, ob, _, _, _⟩ := hd.ob
  have hS : W.drew.cell? ⟨a, 1, none⟩ = some (.map (some m)) := ob.c1
  have HD := Lib.hid hd
  have HDR := Lib.hid hDr
  have HR := Lib.hid hrv
  have HM := Lib.hid hD
  have HV := Lib.hid ev
  have HF := Lib.hid hfew
  skip
  clear h hd hD hD0 hk hv ev hrv ob hDr hfew
  go_enter Try.func75, Try.ntmps75
  go_wp2_with fail
  refine wp_region_held_drew (S := (fun w' : World => w'.cell? ⟨a, 1, none⟩ = some (.map (some m)))) (by kernel_rfl) hS (fun hHeld => ?_)
  generalize W.drew = w2 at *
  refine wpAnyH_take (i := 0) (oi := { dst := some 6, op := Op.move (Operand.tmp 0), type := 65, pos := "base.go:79", after := #[], guard := none }) (v := ?_) rfl (by kernel_rfl) (by kernel_rfl) (by kernel_rfl) (fun _ _ _ h => h) (Or.inl ⟨by rfl, ?_⟩) (by assumption) ?_
  rotate_left
  · intro w hSw
    (try dsimp only at hSw)
    go_simp
    try with_reducible rfl
  try simp only [Act.put, List.setIfInBounds_toArray, List.set_cons_zero, List.set_cons_succ]
  refine wpAnyH_take (i := 1) (oi := { dst := some 7, op := Op.nilCheck (Operand.tmp 6), type := 0, pos := "base.go:79", after := #[{ on := 0, ground := Ground.data }], guard := none }) (v := ?_) rfl (by kernel_rfl) (by kernel_rfl) (by kernel_rfl) (fun _ _ _ h => h) (Or.inl ⟨by rfl, ?_⟩) (by assumption) ?_
  rotate_left
  · intro w hSw
    (try dsimp only at hSw)
    go_simp
    try with_reducible rfl
  try simp only [Act.put, List.setIfInBounds_toArray, List.set_cons_zero, List.set_cons_succ]
  refine wpAnyH_take (i := 2) (oi := { dst := some 8, op := Op.fieldAddr 71 (Operand.tmp 7) 1, type := 0, pos := "base.go:79", after := #[{ on := 1, ground := Ground.data }], guard := none }) (v := ?_) rfl (by kernel_rfl) (by kernel_rfl) (by kernel_rfl) (fun _ _ _ h => h) (Or.inl ⟨by rfl, ?_⟩) (by assumption) ?_
  rotate_left
  · intro w hSw
    (try dsimp only at hSw)
    go_simp
    try with_reducible rfl
  try simp only [Act.put, List.setIfInBounds_toArray, List.set_cons_zero, List.set_cons_succ]
  refine wpAnyH_take (i := 3) (oi := { dst := some 9, op := Op.load 68 (Operand.tmp 8), type := 68, pos := "base.go:79", after := #[{ on := 2, ground := Ground.data }], guard := none }) (v := ?_) rfl (by kernel_rfl) (by kernel_rfl) (by kernel_rfl) (fun _ _ _ h => h) (Or.inl ⟨by rfl, ?_⟩) (by assumption) ?_
  rotate_left
  · intro w hSw
    (try dsimp only at hSw)
    go_simp
    try with_reducible rfl
  try simp only [Act.put, List.setIfInBounds_toArray, List.set_cons_zero, List.set_cons_succ]
  refine wpAnyH_take (i := 4) (oi := { dst := some 10, op := Op.move (Operand.tmp 1), type := 54, pos := "base.go:79", after := #[], guard := none }) (v := ?_) rfl (by kernel_rfl) (by kernel_rfl) (by kernel_rfl) (fun _ _ _ h => h) (Or.inl ⟨by rfl, ?_⟩) (by assumption) ?_
  rotate_left
  · intro w hSw
    (try dsimp only at hSw)
    go_simp
    try with_reducible rfl
  try simp only [Act.put, List.setIfInBounds_toArray, List.set_cons_zero, List.set_cons_succ]
  refine wpAnyH_take (i := 5) (oi := { dst := some 11, op := Op.move (Operand.tmp 0), type := 65, pos := "base.go:79", after := #[], guard := none }) (v := ?_) rfl (by kernel_rfl) (by kernel_rfl) (by kernel_rfl) (fun _ _ _ h => h) (Or.inl ⟨by rfl, ?_⟩) (by assumption) ?_
  rotate_left
  · intro w hSw
    (try dsimp only at hSw)
    go_simp
    try with_reducible rfl
  try simp only [Act.put, List.setIfInBounds_toArray, List.set_cons_zero, List.set_cons_succ]
  refine wpAnyH_take (i := 6) (oi := { dst := some 12, op := Op.nilCheck (Operand.tmp 11), type := 0, pos := "base.go:79", after := #[{ on := 5, ground := Ground.data }], guard := none }) (v := ?_) rfl (by kernel_rfl) (by kernel_rfl) (by kernel_rfl) (fun _ _ _ h => h) (Or.inl ⟨by rfl, ?_⟩) (by assumption) ?_
  rotate_left
  · intro w hSw
    (try dsimp only at hSw)
    go_simp
    try with_reducible rfl
  try simp only [Act.put, List.setIfInBounds_toArray, List.set_cons_zero, List.set_cons_succ]
  refine wpAnyH_take (i := 7) (oi := { dst := some 13, op := Op.fieldAddr 71 (Operand.tmp 12) 1, type := 0, pos := "base.go:79", after := #[{ on := 6, ground := Ground.data }], guard := none }) (v := ?_) rfl (by kernel_rfl) (by kernel_rfl) (by kernel_rfl) (fun _ _ _ h => h) (Or.inl ⟨by rfl, ?_⟩) (by assumption) ?_
  rotate_left
  · intro w hSw
    (try dsimp only at hSw)
    go_simp
    try with_reducible rfl
  try simp only [Act.put, List.setIfInBounds_toArray, List.set_cons_zero, List.set_cons_succ]
  refine wpAnyH_take (i := 8) (oi := { dst := some 14, op := Op.load 68 (Operand.tmp 13), type := 68, pos := "base.go:79", after := #[{ on := 7, ground := Ground.data }], guard := none }) (v := ?_) rfl (by kernel_rfl) (by kernel_rfl) (by kernel_rfl) (fun _ _ _ h => h) (Or.inl ⟨by rfl, ?_⟩) (by assumption) ?_
  rotate_left
  · intro w hSw
    (try dsimp only at hSw)
    go_simp
    try with_reducible rfl
  try simp only [Act.put, List.setIfInBounds_toArray, List.set_cons_zero, List.set_cons_succ]
  refine wpAnyH_take (i := 9) (oi := { dst := some 15, op := Op.move (Operand.tmp 1), type := 54, pos := "base.go:79", after := #[], guard := none }) (v := ?_) rfl (by kernel_rfl) (by kernel_rfl) (by kernel_rfl) (fun _ _ _ h => h) (Or.inl ⟨by rfl, ?_⟩) (by assumption) ?_
  rotate_left
  · intro w hSw
    (try dsimp only at hSw)
    go_simp
    try with_reducible rfl
  try simp only [Act.put, List.setIfInBounds_toArray, List.set_cons_zero, List.set_cons_succ]
  refine wpAnyH_take (i := 11) (oi := { dst := some 17, op := Op.move (Operand.tmp 2), type := 3, pos := "base.go:79", after := #[], guard := none }) (v := ?_) rfl (by kernel_rfl) (by kernel_rfl) (by kernel_rfl) (fun _ _ _ h => h) (Or.inl ⟨by rfl, ?_⟩) (by assumption) ?_
  rotate_left
  · intro w hSw
    (try dsimp only at hSw)
    go_simp
    try with_reducible rfl
  try simp only [Act.put, List.setIfInBounds_toArray, List.set_cons_zero, List.set_cons_succ]
  refine wpAnyH_ready (rs := [10, 12]) (by kernel_rfl) (by simp) ?_
  refine AllReadyH.cons (o := { dst := some 16, op := Op.lookup 68 (Operand.tmp 14) (Operand.tmp 15) false, type := 55, pos := "base.go:79", after := #[{ on := 8, ground := Ground.data }, { on := 9, ground := Ground.data }], guard := none }) rfl (fun K hK => ?_) (AllReadyH.cons (o := { dst := some 18, op := Op.buildSlice 55 1 #[(0, Operand.tmp 17)], type := 55, pos := "base.go:79", after := #[{ on := 11, ground := Ground.data }], guard := none }) rfl (fun K hK => ?_) AllReadyH.nil)
  · rw [if_pos (by rfl)]
    refine wp_lookup_held _ _ 68 rfl 54 55 law30 Try.underlying68 _ (zero55 _) m _ D rfl HM.out _ _ rfl hkey.out _ HV.out ?_
    refine hK.out _ _ ?_ (fun hHeld => ?_)
    · exact hHeld
    clear hK K
    try simp only [Act.put, List.setIfInBounds_toArray, List.set_cons_zero, List.set_cons_succ]
    refine wpAnyH_ready (rs := [12]) (by kernel_rfl) (by simp) ?_
    refine AllReadyH.cons (o := { dst := some 18, op := Op.buildSlice 55 1 #[(0, Operand.tmp 17)], type := 55, pos := "base.go:79", after := #[{ on := 11, ground := Ground.data }], guard := none }) rfl (fun K hK => ?_) AllReadyH.nil
    go_simp
    refine hK.out _ _ ?_ (fun hHeld => ?_)
    · exact cell_later (below1 w2 _) hS
    clear hK K
    try simp only [Act.put, List.setIfInBounds_toArray, List.set_cons_zero, List.set_cons_succ]
    have HB4 := Lib.hid (below1 w2 (.cells #[.int .i64 (j : Int)] 3))
    have HD4 := Lib.hid (HD.out.later HB4.out)
    have hR4 : RowAt (w2.alloc (.cells #[.int .i64 (j : Int)] 3)) K0 (.wat l) 3 (.slice p ((wt l).map natV).length c) ((wt l).map natV) := HR.out.only (Only.of_below (T := fun _ => False) HB4.out) (Ext.refl _ _) (fun _ _ h => h)
    have own4 := hR4.own
    rw [List.length_map] at own4
    have HR4 := Lib.hid hR4
    clear hR4
    refine wpAnyH_ready (rs := [13]) (by kernel_rfl) (by simp) ?_
    refine AllReadyH.cons (o := { dst := some 19, op := Op.call { callee := Callee.builtin Builtin.append, args := #[Operand.tmp 16, Operand.tmp 18], argTypes := #[55, 55] }, type := 55, pos := "base.go:79", after := #[{ on := 10, ground := Ground.data }, { on := 12, ground := Ground.data }], guard := none }) rfl (fun K hK => ?_) AllReadyH.nil
    rw [if_pos (by rfl)]
    refine wp_append_own_at _ _ 55 rfl 0 3 i3 (.int .i64 0) 1 8 Try.underlying55 hi3 hz0 hz1 hz2 rfl (by omega) _ (wt l).length ((wt l).map natV) (by simp [Act.eval]) own4 ⟨w2.heap.size, 0, none⟩ 1 1 [.int .i64 (j : Int)] rfl rfl ?_ ?_ ?_ ?_ ?_ ?_
    · intro jj u hjj
      rw [Lib.add_plain]
      match jj, hjj with
      | 0, hjj => cases hjj; simp [go_sem]
    · intro u hu; simp at hu; rcases hu with rfl; rfl
    · have hml : maxLen = 9223372036854775807 := rfl; omega
    · omega
    · exact Nat.zero_le _
    intro v5 w5 hown hgrow _ hloc
    have hO5 : Only (fun k => K0 k = .wat l) (w2.alloc (.cells #[.int .i64 (j : Int)] 3)) w5 := (Only.of_grown hgrow).mono (fun k _ e => HR4.out.tg k (by rw [List.length_map]; exact e))
    have hx5 : Ext K0 (upK K0 v5.ownBlock (.wat l)) (w2.alloc (.cells #[.int .i64 (j : Int)] 3)).heap.size := upK_ext _ (fun k e hk => by
      rcases hloc with e2 | e2
      · exact HR4.out.tg k (by rw [List.length_map]; exact e2.symm.trans e)
      · rw [e] at e2; cases e2; simp at hk; try omega)
    have hf5 := upK_fr (t := .wat l) (n := (w2.alloc (.cells #[.int .i64 (j : Int)] 3)).heap.size) (n' := w5.heap.size) HD4.out.fr hgrow.size (fun k e => (own_lt hown e).2)
    have hr5 : RowAt w5 (upK K0 v5.ownBlock (.wat l)) (.wat l) 3 v5 ((wt l ++ [j]).map natV) := ⟨by simpa [natV] using hown, upK_tg _ _ _⟩
    have hm4 := HD4.out.mp
    have hM4 := ownsMap_only HM.out (Only.of_below (T := fun _ => False) HB4.out) (fun h => h)
    have hM5 := ownsMap_only hM4 hO5 (fun e => by rw [hm4.tag] at e; cases e)
    have c15 := hO5.cell (cell_later HB4.out hS) (fun e => by have := HD4.out.ka; simp only at e; rw [this] at e; cases e)
    refine hK.out _ _ ?_ (fun hHeld => ?_)
    · exact c15
    clear hK K
    try simp only [Act.put, List.setIfInBounds_toArray, List.set_cons_zero, List.set_cons_succ]
    refine wpAnyH_ready (rs := [14]) (by kernel_rfl) (by simp) ?_
    refine AllReadyH.cons (o := { dst := none, op := Op.mapUpdate 68 (Operand.tmp 9) (Operand.tmp 10) (Operand.tmp 19), type := 0, pos := "base.go:79", after := #[{ on := 3, ground := Ground.data }, { on := 4, ground := Ground.data }, { on := 13, ground := Ground.data }, { on := 13, ground := Ground.chain }, { on := 0, ground := Ground.phase }, { on := 1, ground := Ground.phase }, { on := 2, ground := Ground.phase }, { on := 3, ground := Ground.phase }, { on := 4, ground := Ground.phase }, { on := 5, ground := Ground.phase }, { on := 6, ground := Ground.phase }, { on := 7, ground := Ground.phase }, { on := 8, ground := Ground.phase }, { on := 9, ground := Ground.phase }, { on := 10, ground := Ground.phase }, { on := 11, ground := Ground.phase }, { on := 12, ground := Ground.phase }, { on := 13, ground := Ground.phase }], guard := none }) rfl (fun K hK => ?_) AllReadyH.nil
    rw [if_pos (by rfl)]
    refine wp_update_held _ _ _ 68 rfl 54 55 law30 Try.underlying68 m _ D rfl hM5 (by have hml : maxLen = 9223372036854775807 := rfl; have := HF.out; omega) _ _ _ rfl rfl hkey.out ?_
    intro w6 hM6 hg6
    have hO6 : Only (fun k => k = m) w5 w6 := (Only.of_grown hg6).mono (fun k _ e => by cases e; rfl)
    have hmp := MapAt.put2 hm4 hli (fun y hy => .inr hy) hO5 hx5 hr5 ⟨_, hM4⟩ ⟨_, hM6⟩ hg6
    obtain ⟨hF, sF⟩ := HD4.out.inM (hO5.comp hO6 (fun k _ e => .inr e) (fun k _ e => .inl (by rw [show k = m from e]; exact hm4.tag))) hx5 (fun k hk => hf5 k (Nat.le_trans hO6.size hk)) hmp
    have c16 := hO6.cell c15 (fun e => by have := HD4.out.ka; have h9 := hm4.tag; simp only at e; rw [e, h9] at this; cases this)
    have HF6 := Lib.hid hF
    have HS6 := Lib.hid ((StepB.below (K := K0) (HDR.out.trans (HB4.out.mono HDR.out.size))).trans sF)
    clear hF sF hmp hM6 hg6 hM5 hM4 hm4 hr5 hf5 hx5 hO5 hown hgrow hloc hO6
    refine hK.out _ _ ?_ (fun hHeld => ?_)
    · exact c16
    clear hK K
    try simp only [Act.put, List.setIfInBounds_toArray, List.set_cons_zero, List.set_cons_succ]
    refine wpAnyH_done (by kernel_rfl) ?_ _
    go_wp2_with fail
    go_end0
    exact ⟨rfl, _, HF6.out, HS6.out⟩
  · go_simp
    refine hK.out _ _ ?_ (fun hHeld => ?_)
    · exact cell_later (below1 w2 _) hS
    clear hK K
    try simp only [Act.put, List.setIfInBounds_toArray, List.set_cons_zero, List.set_cons_succ]
    refine wpAnyH_ready (rs := [10]) (by kernel_rfl) (by simp) ?_
    refine AllReadyH.cons (o := { dst := some 16, op := Op.lookup 68 (Operand.tmp 14) (Operand.tmp 15) false, type := 55, pos := "base.go:79", after := #[{ on := 8, ground := Ground.data }, { on := 9, ground := Ground.data }], guard := none }) rfl (fun K hK => ?_) AllReadyH.nil
    rw [if_pos (by rfl)]
    refine wp_lookup_held _ _ 68 rfl 54 55 law30 Try.underlying68 _ (zero55 _) m _ D rfl (ownsMap_only HM.out (Only.of_below (T := fun _ => False) (below1 w2 (.cells #[.int .i64 (j : Int)] 3))) (fun h => h)) _ _ rfl hkey.out _ HV.out ?_
    refine hK.out _ _ ?_ (fun hHeld => ?_)
    · exact cell_later (below1 w2 _) hS
    clear hK K
    try simp only [Act.put, List.setIfInBounds_toArray, List.set_cons_zero, List.set_cons_succ]
    have HB4 := Lib.hid (below1 w2 (.cells #[.int .i64 (j : Int)] 3))
    have HD4 := Lib.hid (HD.out.later HB4.out)
    have hR4 : RowAt (w2.alloc (.cells #[.int .i64 (j : Int)] 3)) K0 (.wat l) 3 (.slice p ((wt l).map natV).length c) ((wt l).map natV) := HR.out.only (Only.of_below (T := fun _ => False) HB4.out) (Ext.refl _ _) (fun _ _ h => h)
    have own4 := hR4.own
    rw [List.length_map] at own4
    have HR4 := Lib.hid hR4
    clear hR4
    refine wpAnyH_ready (rs := [13]) (by kernel_rfl) (by simp) ?_
    refine AllReadyH.cons (o := { dst := some 19, op := Op.call { callee := Callee.builtin Builtin.append, args := #[Operand.tmp 16, Operand.tmp 18], argTypes := #[55, 55] }, type := 55, pos := "base.go:79", after := #[{ on := 10, ground := Ground.data }, { on := 12, ground := Ground.data }], guard := none }) rfl (fun K hK => ?_) AllReadyH.nil
    rw [if_pos (by rfl)]
    refine wp_append_own_at _ _ 55 rfl 0 3 i3 (.int .i64 0) 1 8 Try.underlying55 hi3 hz0 hz1 hz2 rfl (by omega) _ (wt l).length ((wt l).map natV) (by simp [Act.eval]) own4 ⟨w2.heap.size, 0, none⟩ 1 1 [.int .i64 (j : Int)] rfl rfl ?_ ?_ ?_ ?_ ?_ ?_
    · intro jj u hjj
      rw [Lib.add_plain]
      match jj, hjj with
      | 0, hjj => cases hjj; simp [go_sem]
    · intro u hu; simp at hu; rcases hu with rfl; rfl
    · have hml : maxLen = 9223372036854775807 := rfl; omega
    · omega
    · exact Nat.zero_le _
    intro v5 w5 hown hgrow _ hloc
    have hO5 : Only (fun k => K0 k = .wat l) (w2.alloc (.cells #[.int .i64 (j : Int)] 3)) w5 := (Only.of_grown hgrow).mono (fun k _ e => HR4.out.tg k (by rw [List.length_map]; exact e))
    have hx5 : Ext K0 (upK K0 v5.ownBlock (.wat l)) (w2.alloc (.cells #[.int .i64 (j : Int)] 3)).heap.size := upK_ext _ (fun k e hk => by
      rcases hloc with e2 | e2
      · exact HR4.out.tg k (by rw [List.length_map]; exact e2.symm.trans e)
      · rw [e] at e2; cases e2; simp at hk; try omega)
    have hf5 := upK_fr (t := .wat l) (n := (w2.alloc (.cells #[.int .i64 (j : Int)] 3)).heap.size) (n' := w5.heap.size) HD4.out.fr hgrow.size (fun k e => (own_lt hown e).2)
    have hr5 : RowAt w5 (upK K0 v5.ownBlock (.wat l)) (.wat l) 3 v5 ((wt l ++ [j]).map natV) := ⟨by simpa [natV] using hown, upK_tg _ _ _⟩
    have hm4 := HD4.out.mp
    have hM4 := ownsMap_only HM.out (Only.of_below (T := fun _ => False) HB4.out) (fun h => h)
    have hM5 := ownsMap_only hM4 hO5 (fun e => by rw [hm4.tag] at e; cases e)
    have c15 := hO5.cell (cell_later HB4.out hS) (fun e => by have := HD4.out.ka; simp only at e; rw [this] at e; cases e)
    refine hK.out _ _ ?_ (fun hHeld => ?_)
    · exact c15
    clear hK K
    try simp only [Act.put, List.setIfInBounds_toArray, List.set_cons_zero, List.set_cons_succ]
    refine wpAnyH_ready (rs := [14]) (by kernel_rfl) (by simp) ?_
    refine AllReadyH.cons (o := { dst := none, op := Op.mapUpdate 68 (Operand.tmp 9) (Operand.tmp 10) (Operand.tmp 19), type := 0, pos := "base.go:79", after := #[{ on := 3, ground := Ground.data }, { on := 4, ground := Ground.data }, { on := 13, ground := Ground.data }, { on := 13, ground := Ground.chain }, { on := 0, ground := Ground.phase }, { on := 1, ground := Ground.phase }, { on := 2, ground := Ground.phase }, { on := 3, ground := Ground.phase }, { on := 4, ground := Ground.phase }, { on := 5, ground := Ground.phase }, { on := 6, ground := Ground.phase }, { on := 7, ground := Ground.phase }, { on := 8, ground := Ground.phase }, { on := 9, ground := Ground.phase }, { on := 10, ground := Ground.phase }, { on := 11, ground := Ground.phase }, { on := 12, ground := Ground.phase }, { on := 13, ground := Ground.phase }], guard := none }) rfl (fun K hK => ?_) AllReadyH.nil
    rw [if_pos (by rfl)]
    refine wp_update_held _ _ _ 68 rfl 54 55 law30 Try.underlying68 m _ D rfl hM5 (by have hml : maxLen = 9223372036854775807 := rfl; have := HF.out; omega) _ _ _ rfl rfl hkey.out ?_
    intro w6 hM6 hg6
    have hO6 : Only (fun k => k = m) w5 w6 := (Only.of_grown hg6).mono (fun k _ e => by cases e; rfl)
    have hmp := MapAt.put2 hm4 hli (fun y hy => .inr hy) hO5 hx5 hr5 ⟨_, hM4⟩ ⟨_, hM6⟩ hg6
    obtain ⟨hF, sF⟩ := HD4.out.inM (hO5.comp hO6 (fun k _ e => .inr e) (fun k _ e => .inl (by rw [show k = m from e]; exact hm4.tag))) hx5 (fun k hk => hf5 k (Nat.le_trans hO6.size hk)) hmp
    have c16 := hO6.cell c15 (fun e => by have := HD4.out.ka; have h9 := hm4.tag; simp only at e; rw [e, h9] at this; cases this)
    have HF6 := Lib.hid hF
    have HS6 := Lib.hid ((StepB.below (K := K0) (HDR.out.trans (HB4.out.mono HDR.out.size))).trans sF)
    clear hF sF hmp hM6 hg6 hM5 hM4 hm4 hr5 hf5 hx5 hO5 hown hgrow hloc hO6
    refine hK.out _ _ ?_ (fun hHeld => ?_)
    · exact c16
    clear hK K
    try simp only [Act.put, List.setIfInBounds_toArray, List.set_cons_zero, List.set_cons_succ]
    refine wpAnyH_done (by kernel_rfl) ?_ _
    go_wp2_with fail
    go_end0
    exact ⟨rfl, _, HF6.out, HS6.out⟩
end Go.Proofs.Ytgdncnalahdjeaa
