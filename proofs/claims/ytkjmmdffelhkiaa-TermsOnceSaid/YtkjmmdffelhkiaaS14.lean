/- Functions in memory of their own; functions compared; calls told as data. -/
import Derived.Test.YtkjmmdffelhkiaaS13
import Derived.Laws.AppendOwnNone
namespace Go.Proofs.Ytkjmmdffelhkiaa
open Go Go.RowKit Go.Maps

/-- an append of a slice, nil or not, to a row of the call's own. -/
theorem wpList_append_any {P : Program} {w : World} {ops : Array Oper} {rest : List Oper} {o : Oper} {a : Act} {Q : Exit → Act → World → Prop} (hgd : o.guard = none) (s x : Operand) (t : TypeId)
    (ho : o.op = .call { callee := .builtin .append, args := #[s, x], argTypes := #[t, t] })
    (base : Nat) (e : TypeId) (i : TypeInfo) (z : Value) (size bytes : Nat) (ht : P.underlying t = some (.slice e)) (hi : P.info? e = some i) (hz : i.zero = some z)
    (hsize : i.size = size) (hby : i.bytes = bytes) (hzs : z.cells.size = size) (hsz : 0 < size)
    (v : Value) (n : Nat) (xs : List Value) (hs : a.eval s = v) (hown : w.ownsRow base e size v n xs)
    (p : Option Addr) (m c : Nat) (news : List Value) (hx : a.eval x = .slice p m c) (hp : p = none → m = 0 ∧ c = 0) (hl : news.length = m * size) (hnews : ∀ ad, p = some ad → ∀ j u, news[j]? = some u → w.cell? (ad.add j) = some u) (h1 : ∀ u ∈ news, u.oneCell' = true)
    (h63 : n + m ≤ maxLen) (hbytes : (n + m) * bytes ≤ 140737488355328) (hbase : base ≤ w.heap.size)
    (h : ∀ v' w', w'.ownsRow base e size v' (n + m) (xs ++ news) → Below base w w' → wpList P ops Q rest (a.put o.dst v') w') :
    wpList P ops Q (o :: rest) a w := by
  cases p with
  | none =>
    obtain ⟨rfl, rfl⟩ := hp rfl
    have hn : news = [] := by
      rw [Nat.zero_mul] at hl
      exact List.length_eq_zero_iff.1 hl
    subst hn
    exact wpList_append_own_none hgd s x t ho base e i size ht hi v n xs hs hown hx (h v w (by simpa using hown) (Below.refl _ _))
  | some ad =>
    exact wpList_append_own_at w hgd s x t ho base e i z size bytes ht hi hz hsize hby hzs hsz v n xs hs hown ad m c news hx hl (hnews ad rfl) h1 h63 hbytes hbase
      (fun v' w' ho' hg _ _ => h v' w' ho' ((Below.refl base w).grown hg hbase (fun k hk => (World.ownsRow.lt hown k hk).1)))
theorem rowV_cells {W : World} {p : Option Addr} {n : Nat} {V : Nat → Int} (h : IntsIn W p n V) : ∀ ad, p = some ad → ∀ j u, (rowV n V)[j]? = some u → W.cell? (ad.add j) = some u := fun ad e j u hu => by
  have hj : j < n := by
    have := (List.getElem?_eq_some_iff.1 hu).1
    rwa [rowV_len] at this
  rw [rowV_get n V j hj] at hu
  cases hu
  obtain ⟨b, off, e2, ha⟩ := h (by omega)
  rw [e] at e2
  cases e2
  rw [Lib.add_plain]
  exact ha j hj
theorem own_far {w : World} {base n : Nat} {e : TypeId} {size : Nat} {v : Value} {xs : List Value} (h : w.ownsRow base e size v n xs) {a : Addr} (ha : a.block < base) (u : Value) : (w.setCell a u).ownsRow base e size v n xs :=
  own_only h (Only.of_setCell w a u) (fun k hk e => by have := (own_lt h hk).1; have e2 : k = a.block := e; omega)
set_option maxRecDepth 100000 in
set_option maxHeartbeats 1600000 in
theorem copied_any (x : Info) (W : World) (hx : IntsIn W x.P x.L x.V) (hL : x.L ≤ 100000) (hZ : x.P = none → x.L = 0 ∧ x.C = 0) :
    Calls Try.prog 52 #[infoA x] W fun e w' => ∃ P C, e = .returned (infoA { x with P := P, C := C }) ∧ IntsIn w' P x.L x.V ∧ Below W.heap.size W w' ∧ (∀ ad, P = some ad → W.heap.size ≤ ad.block) ∧ w'.ownsRow W.heap.size 33 1 (.slice P x.L C) x.L (rowV x.L x.V) := by
  obtain ⟨N, P, L, C, V, R, D⟩ := x
  simp only at hx hL hZ
  obtain ⟨i33, hi33, hz330, hz331, hz332⟩ := info33
  have hb3 : Below W.heap.size W (((W.alloc (.cells #[.string N, .slice P L C, .int .i64 R, .bool D] 35)).alloc (.cells #[.string ⟨#[]⟩, .slice none 0 0, .int .i64 0, .bool false] 35)).alloc (.cells #[] 33)) := (below2 W _ _).alloc (by simp; omega) _
  have HX := Lib.hid (hx.later hb3)
  have HB3 := Lib.hid hb3
  have hown : (((W.alloc (.cells #[.string N, .slice P L C, .int .i64 R, .bool D] 35)).alloc (.cells #[.string ⟨#[]⟩, .slice none 0 0, .int .i64 0, .bool false] 35)).alloc (.cells #[] 33)).ownsRow (W.heap.size + 2) 33 1 (.slice (some ⟨W.heap.size + 2, 0, none⟩) 0 0) 0 [] := by
    have := World.ownsRow_made (e := 33) (size := 1) ((W.alloc (.cells #[.string N, .slice P L C, .int .i64 R, .bool D] 35)).alloc (.cells #[.string ⟨#[]⟩, .slice none 0 0, .int .i64 0, .bool false] 35)) #[] 0 (Nat.le_refl _) (by show 0 ≤ _; omega) rfl
    simpa using this
  have HO := Lib.hid hown
  have HV := Lib.hid (rowV_cells HX.out)
  clear hx hb3 hown
  unfold infoA
  go_enter Try.func52, Try.ntmps52
  go_wp2_with (at_builtin; refine wpList_append_any rfl _ _ 32 rfl (W.heap.size + 2) 33 i33 (.int .i64 0) 1 8 Try.underlying32 hi33 hz330 hz331 hz332 rfl (by omega) _ 0 [] rfl HO.out P L C (rowV L V) rfl hZ ?qc1 HV.out ?qc3 ?qc4 ?qc5 ?qc6 ?_)
  try (case qc1 => rw [rowV_len]; omega)
  try (case qc3 => intro u hu; obtain ⟨y, _, rfl⟩ := List.mem_map.1 hu; rfl)
  try (case qc4 => rw [Nat.zero_add]; unfold maxLen; omega)
  try (case qc5 => rw [Nat.zero_add]; omega)
  try (case qc6 => first | omega | simp)
  intro v5 w5 ho5 hb5
  try simp only [Nat.zero_add, List.nil_append] at ho5
  obtain ⟨P5, C5, hv, hI5, h95⟩ := own_intsIn ho5
  subst hv
  have HOW := Lib.hid ho5
  have lt0 : W.heap.size < W.heap.size + 2 := by omega
  have lt1 : W.heap.size + 1 < W.heap.size + 2 := by omega
  have cell0 : ∀ j u, (((W.alloc (.cells #[.string N, .slice P L C, .int .i64 R, .bool D] 35)).alloc (.cells #[.string ⟨#[]⟩, .slice none 0 0, .int .i64 0, .bool false] 35)).alloc (.cells #[] 33)).cell? ⟨W.heap.size, j, none⟩ = some u → w5.cell? ⟨W.heap.size, j, none⟩ = some u := fun j u h => by rw [← h]; exact hb5.cell lt0
  have cell1 : ∀ j u, (((W.alloc (.cells #[.string N, .slice P L C, .int .i64 R, .bool D] 35)).alloc (.cells #[.string ⟨#[]⟩, .slice none 0 0, .int .i64 0, .bool false] 35)).alloc (.cells #[] 33)).cell? ⟨W.heap.size + 1, j, none⟩ = some u → w5.cell? ⟨W.heap.size + 1, j, none⟩ = some u := fun j u h => by rw [← h]; exact hb5.cell lt1
  have a0 := cell0 0 (.string N) (by simp [go_sem])
  have a1 := cell0 1 (.slice P L C) (by simp [go_sem])
  have a2 := cell0 2 (.int .i64 R) (by simp [go_sem])
  have a3 := cell0 3 (.bool D) (by simp [go_sem])
  have b0 := cell1 0 (.string ⟨#[]⟩) (by simp [go_sem])
  have b1 := cell1 1 (.slice none 0 0) (by simp [go_sem])
  have b2 := cell1 2 (.int .i64 0) (by simp [go_sem])
  have b3 := cell1 3 (.bool false) (by simp [go_sem])
  have fa : ∀ j, w5.frozen? ⟨W.heap.size, j, none⟩ = false := fun j => by rw [hb5.frozen lt0]; simp [go_sem]
  have fb : ∀ j, w5.frozen? ⟨W.heap.size + 1, j, none⟩ = false := fun j => by rw [hb5.frozen lt1]; simp [go_sem]
  have HI5 := Lib.hid hI5
  have H95 := Lib.hid h95
  have HB5 := Lib.hid (HB3.out.trans (hb5.mono (by omega)))
  have hs5 : W.heap.size + 2 < w5.heap.size := by have := hb5.size; simp at this; omega
  clear hI5 h95 hb5 ho5 HO HV HX cell0 cell1
  have fa1 := fa 1
  clear fa
  have fb0 := fb 0
  have fb1 := fb 1
  have fb2 := fb 2
  have fb3 := fb 3
  clear fb
  have hne : W.heap.size ≠ W.heap.size + 1 := by omega
  generalize hq0 : W.heap.size = q0 at *
  generalize hq1 : q0 + 1 = q1 at *
  have HQ := Lib.hid (And.intro hq0 hq1)
  clear hq0 hq1
  clear lt0
  have e0 : (w5.setCell ⟨q0, 1, none⟩ (.slice P5 L C5)).cell? ⟨q0, 0, none⟩ = some (.string N) := by rw [World.cell?_setCell_other _ _ _ _ (by intro e; cases e)]; exact a0
  have e1 : (w5.setCell ⟨q0, 1, none⟩ (.slice P5 L C5)).cell? ⟨q0, 1, none⟩ = some (.slice P5 L C5) := World.cell?_setCell_same _ _ _ a1
  have e2 : (w5.setCell ⟨q0, 1, none⟩ (.slice P5 L C5)).cell? ⟨q0, 2, none⟩ = some (.int .i64 R) := by rw [World.cell?_setCell_other _ _ _ _ (by intro e; cases e)]; exact a2
  have e3 : (w5.setCell ⟨q0, 1, none⟩ (.slice P5 L C5)).cell? ⟨q0, 3, none⟩ = some (.bool D) := by rw [World.cell?_setCell_other _ _ _ _ (by intro e; cases e)]; exact a3
  have d0 : (w5.setCell ⟨q0, 1, none⟩ (.slice P5 L C5)).cell? ⟨q1, 0, none⟩ = some (.string ⟨#[]⟩) := by rw [World.cell?_setCell_other _ _ _ _ (by intro e; cases e <;> exact hne rfl)]; exact b0
  have d1 : (w5.setCell ⟨q0, 1, none⟩ (.slice P5 L C5)).cell? ⟨q1, 1, none⟩ = some (.slice none 0 0) := by rw [World.cell?_setCell_other _ _ _ _ (by intro e; cases e <;> exact hne rfl)]; exact b1
  have d2 : (w5.setCell ⟨q0, 1, none⟩ (.slice P5 L C5)).cell? ⟨q1, 2, none⟩ = some (.int .i64 0) := by rw [World.cell?_setCell_other _ _ _ _ (by intro e; cases e <;> exact hne rfl)]; exact b2
  have d3 : (w5.setCell ⟨q0, 1, none⟩ (.slice P5 L C5)).cell? ⟨q1, 3, none⟩ = some (.bool false) := by rw [World.cell?_setCell_other _ _ _ _ (by intro e; cases e <;> exact hne rfl)]; exact b3
  have g0 : (w5.setCell ⟨q0, 1, none⟩ (.slice P5 L C5)).frozen? ⟨q1, 0, none⟩ = false := by rw [World.frozen?_setCell]; exact fb0
  have g1 : (w5.setCell ⟨q0, 1, none⟩ (.slice P5 L C5)).frozen? ⟨q1, 1, none⟩ = false := by rw [World.frozen?_setCell]; exact fb1
  have g2 : (w5.setCell ⟨q0, 1, none⟩ (.slice P5 L C5)).frozen? ⟨q1, 2, none⟩ = false := by rw [World.frozen?_setCell]; exact fb2
  have g3 : (w5.setCell ⟨q0, 1, none⟩ (.slice P5 L C5)).frozen? ⟨q1, 3, none⟩ = false := by rw [World.frozen?_setCell]; exact fb3
  have ho6 : Only (fun k => k = q0 ∨ k = q1) w5 (w5.setCell ⟨q0, 1, none⟩ (.slice P5 L C5)) := (Only.of_setCell w5 ⟨q0, 1, none⟩ _).mono (fun k _ e => .inl e)
  have HO6 := Lib.hid ho6
  have HB6 := Lib.hid (HB5.out.setCell (p := ⟨q0, 1, none⟩) (Nat.le_refl _) (.slice P5 L C5))
  clear ho6 HB5
  go_upto_region 2 with (fail)
  generalize w5.setCell ⟨q0, 1, none⟩ (.slice P5 L C5) = w6 at *
  clear a0 a1 a2 a3 b0 b1 b2 b3 fb0 fb1 fb2 fb3 fa1
  go_wp2_with fail
  refine bodyPost_ret (v := .agg #[.string N, .slice P5 L C5, .int .i64 R, .bool D]) (by simp [results, Try.results52, go_sem, d0, d1, d2, d3]) rfl ⟨P5, C5, rfl, ?_, ?_, fun ad e => ?_, ?_⟩
  · intro hn
    obtain ⟨b9, o9, e9, a9⟩ := HI5.out hn
    have h9 := H95.out _ e9
    have hq := HQ.out
    refine ⟨b9, o9, e9, fun i hi => ?_⟩
    have := HO6.out.cell (a9 i hi) (by simp only at h9 ⊢; omega)
    simp only at h9
    rw [World.cell?_setCell_other _ _ _ _ (by intro e; have := congrArg Addr.block e; simp only at this; omega), World.cell?_setCell_other _ _ _ _ (by intro e; have := congrArg Addr.block e; simp only at this; omega), World.cell?_setCell_other _ _ _ _ (by intro e; have := congrArg Addr.block e; simp only at this; omega), World.cell?_setCell_other _ _ _ _ (by intro e; have := congrArg Addr.block e; simp only at this; omega)]
    exact this
  · have hq := HQ.out
    rw [hq.1]
    exact (((HB6.out.setCell (by simp only; omega) _).setCell (by simp only; omega) _).setCell (by simp only; omega) _).setCell (by simp only; omega) _
  · have h9 := H95.out _ e
    have hq := HQ.out
    omega
  · have hq := HQ.out
    rw [hq.1]
    have h6 := own_only HOW.out HO6.out (fun k hk e => by have := (own_lt HOW.out hk).1; omega)
    have h7 := own_base (own_far (own_far (own_far (own_far h6 (a := ⟨q1, 0, none⟩) (by simp only; omega) (.string N)) (a := ⟨q1, 1, none⟩) (by simp only; omega) (.slice P5 L C5)) (a := ⟨q1, 2, none⟩) (by simp only; omega) (.int .i64 R)) (a := ⟨q1, 3, none⟩) (by simp only; omega) (.bool D)) (base' := q0) (fun k hk => by have := (own_lt HOW.out hk).1; omega)
    exact h7
set_option maxRecDepth 100000 in
set_option maxHeartbeats 1600000 in
theorem names_any (x : Info) (W : World) (hx : IntsIn W x.P x.L x.V) (hL : x.L ≤ 100000) (hZ : x.P = none → x.L = 0 ∧ x.C = 0) :
    Calls Try.prog 28 #[infoA x] W fun e w' => ∃ P C, e = .returned (infoA { x with P := P, C := C }) ∧ IntsIn w' P x.L x.V ∧ Below W.heap.size W w' ∧ (∀ ad, P = some ad → W.heap.size ≤ ad.block) := by
  obtain ⟨N, P, L, C, V, R, D⟩ := x
  simp only at hx hL hZ
  have hb2 : Below W.heap.size W ((W.alloc (.cells #[.string N, .slice P L C, .int .i64 R, .bool D] 35)).alloc (.cells #[.string ⟨#[]⟩, .slice none 0 0, .int .i64 0, .bool false] 35)) := below2 W _ _
  have HC := copied_any ⟨N, P, L, C, V, R, D⟩ _ (hx.later hb2) hL hZ
  unfold infoA at HC ⊢
  have HB2 := Lib.hid hb2
  clear hx hb2
  go_enter Try.func28, Try.ntmps28
  go_wp2_with fail
  refine HC.mono ?_
  rintro e w5 ⟨P5, C5, rfl, hI5, hb5, h95, _⟩
  clear HC
  have cell1 : ∀ j u, ((W.alloc (.cells #[.string N, .slice P L C, .int .i64 R, .bool D] 35)).alloc (.cells #[.string ⟨#[]⟩, .slice none 0 0, .int .i64 0, .bool false] 35)).cell? ⟨W.heap.size + 1, j, none⟩ = some u → w5.cell? ⟨W.heap.size + 1, j, none⟩ = some u := fun j u h => by rw [← h]; exact hb5.cell (by simp)
  have fb : ∀ j, w5.frozen? ⟨W.heap.size + 1, j, none⟩ = false := fun j => by rw [hb5.frozen (by simp)]; simp [go_sem]
  have d0 := cell1 0 (.string ⟨#[]⟩) (by simp [go_sem])
  have d1 := cell1 1 (.slice none 0 0) (by simp [go_sem])
  have d2 := cell1 2 (.int .i64 0) (by simp [go_sem])
  have d3 := cell1 3 (.bool false) (by simp [go_sem])
  have g0 := fb 0
  have g1 := fb 1
  have g2 := fb 2
  have g3 := fb 3
  have HI5 := Lib.hid hI5
  have H95 := Lib.hid (show ∀ ad, P5 = some ad → W.heap.size + 2 ≤ ad.block from fun ad e => by have := h95 ad e; simpa using this)
  have HB5 := Lib.hid (HB2.out.trans (hb5.mono (by simp; omega)))
  clear hI5 h95 hb5 fb cell1 HB2
  generalize hq0 : W.heap.size = q0 at *
  generalize hq1 : q0 + 1 = q1 at *
  have HQ := Lib.hid (And.intro hq0 hq1)
  clear hq0 hq1
  go_wp2_with fail
  refine bodyPost_ret (v := .agg #[.string N, .slice P5 L C5, .int .i64 R, .bool D]) (by simp [results, Try.results28, go_sem, d0, d1, d2, d3]) rfl ⟨P5, C5, rfl, ?_, ?_, fun ad e => ?_⟩
  · intro hn
    obtain ⟨b9, o9, e9, a9⟩ := HI5.out hn
    have h9 := H95.out _ e9
    have hq := HQ.out
    refine ⟨b9, o9, e9, fun i hi => ?_⟩
    simp only at h9
    rw [World.cell?_setCell_other _ _ _ _ (by intro e; have := congrArg Addr.block e; simp only at this; omega), World.cell?_setCell_other _ _ _ _ (by intro e; have := congrArg Addr.block e; simp only at this; omega), World.cell?_setCell_other _ _ _ _ (by intro e; have := congrArg Addr.block e; simp only at this; omega), World.cell?_setCell_other _ _ _ _ (by intro e; have := congrArg Addr.block e; simp only at this; omega)]
    exact a9 i hi
  · have hq := HQ.out
    rw [hq.1]
    exact (((HB5.out.setCell (by simp only; omega) _).setCell (by simp only; omega) _).setCell (by simp only; omega) _).setCell (by simp only; omega) _
  · have h9 := H95.out _ e
    have hq := HQ.out
    omega
/-- two functions that are alike. -/
structure Like (x y : Info) : Prop where
  n : x.N = y.N
  l : x.L = y.L
  v : ∀ i, i < x.L → x.V i = y.V i
  r : x.R = y.R
  d : x.D = y.D
set_option maxRecDepth 100000 in
set_option maxHeartbeats 1600000 in
theorem sameFun_any (x y : Info) (W : World) (hl : Like x y) (hx : IntsIn W x.P x.L x.V) (hy : IntsIn W y.P y.L y.V) (hL : x.L ≤ 100000) :
    Calls Try.prog 29 #[infoA x, infoA y] W fun e w' => e = .returned (.bool true) ∧ Below W.heap.size W w' := by
  obtain ⟨N, P, L, C, V, R, D⟩ := x
  obtain ⟨N2, P2, L2, C2, V2, R2, D2⟩ := y
  obtain ⟨e1, e2, e3, e4, e5⟩ := hl
  simp only at e1 e2 e3 e4 e5 hx hy hL
  subst e1 e2 e4 e5
  have hb2 : Below W.heap.size W ((W.alloc (.cells #[.string N, .slice P L C, .int .i64 R, .bool D] 35)).alloc (.cells #[.string N, .slice P2 L C2, .int .i64 R, .bool D] 35)) := below2 W _ _
  have x1 : ((W.alloc (.cells #[.string N, .slice P L C, .int .i64 R, .bool D] 35)).alloc (.cells #[.string N, .slice P2 L C2, .int .i64 R, .bool D] 35)).cell? ⟨W.heap.size, 1, none⟩ = some (.slice P L C) := by simp [go_sem]
  have y1 : ((W.alloc (.cells #[.string N, .slice P L C, .int .i64 R, .bool D] 35)).alloc (.cells #[.string N, .slice P2 L C2, .int .i64 R, .bool D] 35)).cell? ⟨W.heap.size + 1, 1, none⟩ = some (.slice P2 L C2) := by simp [go_sem]
  have HX := Lib.hid (hx.later hb2)
  have HY := Lib.hid (hy.later hb2)
  have HB := Lib.hid hb2
  have HV := Lib.hid e3
  clear hx hy hb2 e3
  unfold infoA
  go_enter Try.func29, Try.ntmps29
  go_wp2_with fail
  generalize hq0 : W.heap.size = q0 at *
  generalize hq1 : q0 + 1 = q1 at *
  generalize ((W.alloc (.cells #[.string N, .slice P L C, .int .i64 R, .bool D] 35)).alloc (.cells #[.string N, .slice P2 L C2, .int .i64 R, .bool D] 35)) = w1 at *
  clear hq1
  have HQ := Lib.hid hq0
  clear hq0
  go_loopw [5] (fun i wr => ∃ k : Nat, k ≤ L ∧ i = .int .i64 k ∧ Below w1.heap.size w1 wr) (fun i _ => L - (intOf i).toNat)
  case atStart => exact ⟨0, Nat.zero_le _, rfl, Below.refl _ _⟩
  case round =>
    obtain ⟨k, hk, rfl, hb⟩ := hrel
    have z1 := cell_later hb x1
    have z2 := cell_later hb y1
    by_cases hlt : k < L
    · obtain ⟨b, off, rfl, ha⟩ := (HX.out.later hb) (by omega)
      obtain ⟨b', off', rfl, ha'⟩ := (HY.out.later hb) (by omega)
      have c1 := ha k hlt
      have c2 := ha' k hlt
      rw [← HV.out k hlt] at c2
      clear ha ha'
      generalize V k = x at c1 c2
      have hk0 : (0 : Int) ≤ (k : Int) := by omega
      have hk1 : (k : Int) < (L : Int) := by omega
      have HBW := Lib.hid hb
      clear hb
      go_wp2_with fail
      have hD : Below wr.heap.size wr wr.drew := (Below.refl _ _).drew
      replace z1 := cell_later hD z1
      replace z2 := cell_later hD z2
      replace c1 := cell_later hD c1
      replace c2 := cell_later hD c2
      refine wp_region_L [(1000, (fun _ => True : World → Prop)), (1000, (fun w => w.cell? ⟨q0, 1, none⟩ = some (.slice (some ⟨b, off, none⟩) L C) : World → Prop)), (1000, (fun w => w.cell? ⟨q1, 1, none⟩ = some (.slice (some ⟨b', off', none⟩) L C2) : World → Prop)), (1000, (fun w => w.cell? ⟨b, off + k, none⟩ = some (.int .i64 x) : World → Prop)), (1000, (fun w => w.cell? ⟨b', off' + k, none⟩ = some (.int .i64 x) : World → Prop))] (by kernel_rfl) (SL.cons (fun _ => trivial) (SL.cons (fun _ => z1) (SL.cons (fun _ => z2) (SL.cons (fun _ => c1) (SL.cons (fun _ => c2) SL.nil))))) (fun hHeld => ?_)
      refine wpAnyL_take 0 _ _ (i := 0) (oi := { dst := some 41, op := Op.fieldAddr 35 (Operand.tmp 2) 1, type := 0, pos := "ref.go:210", after := #[], guard := none }) (v := ?_) rfl (by kernel_rfl) (by kernel_rfl) (by kernel_rfl) (fun _ _ _ h => h) rfl (by kernel_rfl) (by kernel_rfl) (by kernel_rfl) (Or.inl ⟨by rfl, ?_⟩) hHeld (fun hHeld => ?_)
      rotate_left
      · intro w hSw
        (try dsimp only at hSw)
        go_simp
        try with_reducible rfl
      try simp only [Act.put, List.setIfInBounds_toArray, List.set_cons_zero, List.set_cons_succ]
      refine wpAnyL_take 1 _ _ (i := 1) (oi := { dst := some 42, op := Op.load 32 (Operand.tmp 41), type := 32, pos := "ref.go:210", after := #[{ on := 0, ground := Ground.data }], guard := none }) (v := ?_) rfl (by kernel_rfl) (by kernel_rfl) (by kernel_rfl) (fun _ _ _ h => h) rfl (by kernel_rfl) (by kernel_rfl) (by kernel_rfl) (Or.inl ⟨by rfl, ?_⟩) hHeld (fun hHeld => ?_)
      rotate_left
      · intro w hSw
        (try dsimp only at hSw)
        go_simp
        try with_reducible rfl
      try simp only [Act.put, List.setIfInBounds_toArray, List.set_cons_zero, List.set_cons_succ]
      refine wpAnyL_take 0 _ _ (i := 2) (oi := { dst := some 43, op := Op.move (Operand.tmp 5), type := 3, pos := "ref.go:210", after := #[], guard := none }) (v := ?_) rfl (by kernel_rfl) (by kernel_rfl) (by kernel_rfl) (fun _ _ _ h => h) rfl (by kernel_rfl) (by kernel_rfl) (by kernel_rfl) (Or.inl ⟨by rfl, ?_⟩) hHeld (fun hHeld => ?_)
      rotate_left
      · intro w hSw
        (try dsimp only at hSw)
        go_simp
        try with_reducible rfl
      try simp only [Act.put, List.setIfInBounds_toArray, List.set_cons_zero, List.set_cons_succ]
      refine wpAnyL_take 0 _ _ (i := 3) (oi := { dst := some 44, op := Op.indexAddr 32 (Operand.tmp 42) (Operand.tmp 43), type := 0, pos := "ref.go:210", after := #[{ on := 1, ground := Ground.data }, { on := 2, ground := Ground.data }], guard := none }) (v := ?_) rfl (by kernel_rfl) (by kernel_rfl) (by kernel_rfl) (fun _ _ _ h => h) rfl (by kernel_rfl) (by kernel_rfl) (by kernel_rfl) (Or.inl ⟨by rfl, ?_⟩) hHeld (fun hHeld => ?_)
      rotate_left
      · intro w hSw
        (try dsimp only at hSw)
        go_simp
        try with_reducible rfl
      try simp only [Act.put, List.setIfInBounds_toArray, List.set_cons_zero, List.set_cons_succ]
      refine wpAnyL_take 3 _ _ (i := 4) (oi := { dst := some 45, op := Op.load 33 (Operand.tmp 44), type := 33, pos := "ref.go:210", after := #[{ on := 3, ground := Ground.data }], guard := none }) (v := ?_) rfl (by kernel_rfl) (by kernel_rfl) (by kernel_rfl) (fun _ _ _ h => h) rfl (by kernel_rfl) (by kernel_rfl) (by kernel_rfl) (Or.inl ⟨by rfl, ?_⟩) hHeld (fun hHeld => ?_)
      rotate_left
      · intro w hSw
        (try dsimp only at hSw)
        go_simp
        try with_reducible rfl
      try simp only [Act.put, List.setIfInBounds_toArray, List.set_cons_zero, List.set_cons_succ]
      refine wpAnyL_take 0 _ _ (i := 5) (oi := { dst := some 46, op := Op.fieldAddr 35 (Operand.tmp 3) 1, type := 0, pos := "ref.go:210", after := #[], guard := none }) (v := ?_) rfl (by kernel_rfl) (by kernel_rfl) (by kernel_rfl) (fun _ _ _ h => h) rfl (by kernel_rfl) (by kernel_rfl) (by kernel_rfl) (Or.inl ⟨by rfl, ?_⟩) hHeld (fun hHeld => ?_)
      rotate_left
      · intro w hSw
        (try dsimp only at hSw)
        go_simp
        try with_reducible rfl
      try simp only [Act.put, List.setIfInBounds_toArray, List.set_cons_zero, List.set_cons_succ]
      refine wpAnyL_take 2 _ _ (i := 6) (oi := { dst := some 47, op := Op.load 32 (Operand.tmp 46), type := 32, pos := "ref.go:210", after := #[{ on := 5, ground := Ground.data }], guard := none }) (v := ?_) rfl (by kernel_rfl) (by kernel_rfl) (by kernel_rfl) (fun _ _ _ h => h) rfl (by kernel_rfl) (by kernel_rfl) (by kernel_rfl) (Or.inl ⟨by rfl, ?_⟩) hHeld (fun hHeld => ?_)
      rotate_left
      · intro w hSw
        (try dsimp only at hSw)
        go_simp
        try with_reducible rfl
      try simp only [Act.put, List.setIfInBounds_toArray, List.set_cons_zero, List.set_cons_succ]
      refine wpAnyL_take 0 _ _ (i := 7) (oi := { dst := some 48, op := Op.move (Operand.tmp 5), type := 3, pos := "ref.go:210", after := #[], guard := none }) (v := ?_) rfl (by kernel_rfl) (by kernel_rfl) (by kernel_rfl) (fun _ _ _ h => h) rfl (by kernel_rfl) (by kernel_rfl) (by kernel_rfl) (Or.inl ⟨by rfl, ?_⟩) hHeld (fun hHeld => ?_)
      rotate_left
      · intro w hSw
        (try dsimp only at hSw)
        go_simp
        try with_reducible rfl
      try simp only [Act.put, List.setIfInBounds_toArray, List.set_cons_zero, List.set_cons_succ]
      refine wpAnyL_take 0 _ _ (i := 8) (oi := { dst := some 49, op := Op.indexAddr 32 (Operand.tmp 47) (Operand.tmp 48), type := 0, pos := "ref.go:210", after := #[{ on := 6, ground := Ground.data }, { on := 7, ground := Ground.data }], guard := none }) (v := ?_) rfl (by kernel_rfl) (by kernel_rfl) (by kernel_rfl) (fun _ _ _ h => h) rfl (by kernel_rfl) (by kernel_rfl) (by kernel_rfl) (Or.inl ⟨by rfl, ?_⟩) hHeld (fun hHeld => ?_)
      rotate_left
      · intro w hSw
        (try dsimp only at hSw)
        go_simp
        try with_reducible rfl
      try simp only [Act.put, List.setIfInBounds_toArray, List.set_cons_zero, List.set_cons_succ]
      refine wpAnyL_take 4 _ _ (i := 9) (oi := { dst := some 50, op := Op.load 33 (Operand.tmp 49), type := 33, pos := "ref.go:210", after := #[{ on := 8, ground := Ground.data }], guard := none }) (v := ?_) rfl (by kernel_rfl) (by kernel_rfl) (by kernel_rfl) (fun _ _ _ h => h) rfl (by kernel_rfl) (by kernel_rfl) (by kernel_rfl) (Or.inl ⟨by rfl, ?_⟩) hHeld (fun hHeld => ?_)
      rotate_left
      · intro w hSw
        (try dsimp only at hSw)
        go_simp
        try with_reducible rfl
      try simp only [Act.put, List.setIfInBounds_toArray, List.set_cons_zero, List.set_cons_succ]
      refine wpAnyL_take 0 _ _ (i := 10) (oi := { dst := some 51, op := Op.binOp BinOp.neq 33 (Operand.tmp 45) (Operand.tmp 50) 33, type := 4, pos := "ref.go:210", after := #[{ on := 4, ground := Ground.data }, { on := 9, ground := Ground.data }], guard := none }) (v := ?_) rfl (by kernel_rfl) (by kernel_rfl) (by kernel_rfl) (fun _ _ _ h => h) rfl (by kernel_rfl) (by kernel_rfl) (by kernel_rfl) (Or.inl ⟨by rfl, ?_⟩) hHeld (fun hHeld => ?_)
      rotate_left
      · intro w hSw
        (try dsimp only at hSw)
        go_simp
        try with_reducible rfl
      try simp only [Act.put, List.setIfInBounds_toArray, List.set_cons_zero, List.set_cons_succ]
      refine wpAnyL_done (by kernel_rfl) ?_ _
      clear z1 z2 c1 c2 hHeld
      go_wp2_with fail
      go_roundw
      case rel => exact ⟨k + 1, by omega, by go_num, HBW.out.trans (hD.mono HBW.out.size)⟩
      case measure => simp [intOf]; omega
    · obtain rfl : k = L := by omega
      have HBW := Lib.hid (HB.out.trans (hb.mono (by rw [← HQ.out]; exact HB.out.size)))
      clear hb
      go_wp2_with fail
      go_ret
      exact ⟨rfl, by rw [HQ.out]; exact HBW.out⟩
end Go.Proofs.Ytkjmmdffelhkiaa
