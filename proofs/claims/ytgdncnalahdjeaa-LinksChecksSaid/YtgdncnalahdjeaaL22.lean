/- LinksCut: the law's walk. -/
import Derived.Test.YtgdncnalahdjeaaL21
namespace Go.Proofs.Ytgdncnalahdjeaa
open Go Go.RowKit

/-- the box of a link. -/
structure BoxAt (b : Nat) (K Tt A B I J : Int) (P : Option Addr) (L C : Nat) (W : World) : Prop where
  c0 : W.cell? ⟨b, 0, none⟩ = some (.int .u8 K)
  c1 : W.cell? ⟨b, 1, none⟩ = some (.int .i64 Tt)
  c2 : W.cell? ⟨b, 2, none⟩ = some (.int .i64 A)
  c3 : W.cell? ⟨b, 3, none⟩ = some (.int .i64 B)
  c4 : W.cell? ⟨b, 4, none⟩ = some (.int .i64 I)
  c5 : W.cell? ⟨b, 5, none⟩ = some (.int .i64 J)
  c6 : W.cell? ⟨b, 6, none⟩ = some (.slice P L C)
section
variable {b : Nat} {K Tt A B I J : Int} {P : Option Addr} {L C : Nat} {W W' : World}
theorem BoxAt.later (h : BoxAt b K Tt A B I J P L C W) (hb : Below W.heap.size W W') : BoxAt b K Tt A B I J P L C W' :=
  ⟨cell_later hb h.c0, cell_later hb h.c1, cell_later hb h.c2, cell_later hb h.c3, cell_later hb h.c4, cell_later hb h.c5, cell_later hb h.c6⟩
theorem BoxAt.grown (h : BoxAt b K Tt A B I J P L C W) {row : Option Nat} (hg : W.grownBy W' row) (n1 : row ≠ some b) : BoxAt b K Tt A B I J P L C W' :=
  ⟨grown_cell hg h.c0 n1, grown_cell hg h.c1 n1, grown_cell hg h.c2 n1, grown_cell hg h.c3 n1, grown_cell hg h.c4 n1, grown_cell hg h.c5 n1, grown_cell hg h.c6 n1⟩
theorem BoxAt.lt (h : BoxAt b K Tt A B I J P L C W) : b < W.heap.size := World.block_lt_of_cell? _ _ h.c0
theorem BoxAt.new (w : World) : BoxAt w.heap.size K Tt A B I J P L C (w.alloc (.cells #[.int .u8 K, .int .i64 Tt, .int .i64 A, .int .i64 B, .int .i64 I, .int .i64 J, .slice P L C] 57)) := by
  constructor <;> simp [go_sem]
theorem BoxAt.get (h : BoxAt b K Tt A B I J P L C W) (j : Nat) (u : Value) (hj : ([.int .u8 K, .int .i64 Tt, .int .i64 A, .int .i64 B, .int .i64 I, .int .i64 J, .slice P L C] : List Value)[j]? = some u) : W.cell? ⟨b, j, none⟩ = some u := by
  match j, hj with
  | 0, hj => cases hj; exact h.c0
  | 1, hj => cases hj; exact h.c1
  | 2, hj => cases hj; exact h.c2
  | 3, hj => cases hj; exact h.c3
  | 4, hj => cases hj; exact h.c4
  | 5, hj => cases hj; exact h.c5
  | 6, hj => cases hj; exact h.c6
end
theorem box_one {K Tt A B I J : Int} {P : Option Addr} {L C : Nat} : ∀ u ∈ ([.int .u8 K, .int .i64 Tt, .int .i64 A, .int .i64 B, .int .i64 I, .int .i64 J, .slice P L C] : List Value), u.oneCell' = true := by
  intro u h
  simp only [List.mem_cons, List.mem_nil_iff, or_false] at h
  rcases h with rfl | rfl | rfl | rfl | rfl | rfl | rfl <;> rfl
theorem own_base {w : World} {base base' : Nat} {e : TypeId} {size : Nat} {v : Value} {n : Nat} {xs : List Value} (h : w.ownsRow base e size v n xs) (hb : base' ≤ base) : w.ownsRow base' e size v n xs := by
  rcases h.2 with h0 | ⟨g, cap, cur, hv, hg, r⟩
  · exact ⟨h.1, .inl h0⟩
  · exact ⟨h.1, .inr ⟨g, cap, cur, hv, Nat.le_trans hb hg, r⟩⟩
/-- an empty row, just made. -/
theorem own_empty (w : World) : (w.alloc (.cells #[] 57)).ownsRow w.heap.size 57 7 (.slice (some ⟨w.heap.size, 0, none⟩) 0 0) 0 [] := by
  simpa using World.ownsRow_made (e := 57) (size := 7) w #[] 0 (Nat.le_refl _) (by show 0 ≤ _; omega) rfl
theorem snoc_v {W : World} {s : Option Addr} {N : Nat} {ld : LD} (h : LinksIn W s N ld) {K Tt A B I J : Int} {P : Option Addr} {L C : Nat} {V : Nat → Int} (hV : LitsIn W P L V) (hL : L ≤ 9223372036854775807) : ∀ i, i < N + 1 → LitsIn W ((snoc ld N K Tt A B I J P L C V).P i) ((snoc ld N K Tt A B I J P L C V).L i) ((snoc ld N K Tt A B I J P L C V).V i) ∧ (snoc ld N K Tt A B I J P L C V).L i ≤ 9223372036854775807 := by
  intro i hi
  by_cases hN : i < N
  · obtain ⟨b, off, e, g⟩ := h (by omega)
    have := g.v i hN
    simpa [snoc, hN] using this
  · simpa [snoc, hN] using And.intro hV hL

set_option maxRecDepth 100000 in
set_option maxHeartbeats 3000000 in
theorem cut_any (n : Nat) (d : VD) (m : Nat) (a : AD) (ld : LD) (N : Nat) (p : Option Addr) (cv : Nat) (q : Option Addr) (ca : Nat) (s : Option Addr) (cs : Nat) (Kd Tt A B I J : Int) (P : Option Addr) (L C : Nat) (V : Nat → Int) (w : World) (hd : VertsIn w p n d) (ha : AtomsIn w q m a) (hl : LinksIn w s N ld) (hn : n ≤ 9223372036854775807) (hm : m ≤ 9223372036854775807) (hN : N ≤ cs) (hcs : cs ≤ 9223372036854775807) (hs : s = none → cs = 0) (hV : LitsIn w P L V) (hL : L ≤ 9223372036854775807) (hT : ∀ i, i < N → -9223372036854775808 ≤ ld.T i ∧ ld.T i ≤ 9223372036854775807) (l0 : -9223372036854775808 ≤ Tt) (l1 : Tt ≤ 9223372036854775807) :
    Calls Try.prog 14 #[.slice p n cv, .slice q m ca, .slice s N cs, linkV Kd Tt A B I J P L C] w fun e w' => e = .returned (.bool true) ∧ Below w.heap.size w w' := by
  unfold linkV
  have hB0 := below1 w (.cells #[.int .u8 Kd, .int .i64 Tt, .int .i64 A, .int .i64 B, .int .i64 I, .int .i64 J, .slice P L C] 57)
  have HK := Lib.hid (fun W => known_any W)
  have H1 := large_any n d m N ld p cv q ca s cs _ (hd.later hB0) (hl.later hB0) hn hm (by omega)
  have HD := Lib.hid hd
  have HA := Lib.hid ha
  have HL := Lib.hid hl
  have HV := Lib.hid hV
  have HT := Lib.hid hT
  have HS := Lib.hid hs
  have HB0 := Lib.hid hB0
  have Z := Lib.hid (BoxAt.new (K := Kd) (Tt := Tt) (A := A) (B := B) (I := I) (J := J) (P := P) (L := L) (C := C) w)
  clear hd ha hl hV hT hs hB0
  obtain ⟨lb, hlb⟩ : ∃ lb, largeB n d m N ld = lb := ⟨_, rfl⟩
  rw [hlb] at H1
  go_enter Try.func14, Try.ntmps14
  go_wp2_with fail
  refine H1.mono ?_
  rintro e w1 ⟨rfl, hb1⟩
  have HB1 := Lib.hid (chain HB0.out hb1)
  have hc6 := cell_later hb1 Z.out.c6
  replace Z := Lib.hid (Z.out.later hb1)
  clear hb1 H1 HB0
  have key : lb = true ∨ (lb = false ∧ 30 < L) ∨ (lb = false ∧ ¬ 30 < L) := by cases lb <;> simp <;> omega
  rcases key with rfl | ⟨rfl, hL30⟩ | ⟨rfl, hL30⟩
  · clear hlb
    go_wp2_with fail
    refine (HK.out _).mono ?_
    rintro e w2 ⟨rfl, hb2⟩
    have HB2 := Lib.hid (chain HB1.out hb2)
    clear hb2
    go_wp2_with fail
    go_ret
    exact ⟨rfl, HB2.out⟩
  · clear hlb
    have q1 : (30 : Int) < (L : Int) := by omega
    go_wp2_with fail
    refine (HK.out _).mono ?_
    rintro e w2 ⟨rfl, hb2⟩
    have HB2 := Lib.hid (chain HB1.out hb2)
    clear hb2
    go_wp2_with fail
    go_ret
    exact ⟨rfl, HB2.out⟩
  have hsz := largeB_no hlb
  clear hlb
  have q1 : ¬ (30 : Int) < (L : Int) := by omega
  have H2 := check_err n d m a ld N p cv q ca s cs w1 (HD.out.later HB1.out) (HA.out.later HB1.out) (HL.out.later HB1.out) hn (by omega) (by omega) HT.out
  go_wp2_with fail
  refine H2.mono ?_
  rintro e w3 ⟨⟨r1, k1, c1, er1, rfl, he1⟩, hb3⟩
  have HB3 := Lib.hid (chain HB1.out hb3)
  replace Z := Lib.hid (Z.out.later hb3)
  have HE1 := Lib.hid he1
  clear he1 hb3 H2 hc6 HB1
  by_cases h0 : er1 = 0
  rotate_left
  · have q2 : (er1 != 0) = true := by simpa using h0
    have q3 : (er1 == 0) = false := by simpa using h0
    clear h0
    go_wp2_with fail
    refine (HK.out _).mono ?_
    rintro e w2 ⟨rfl, hb2⟩
    have HB2 := Lib.hid (chain HB3.out hb2)
    clear hb2
    go_wp2_with fail
    go_ret
    exact ⟨rfl, HB2.out⟩
  subst h0
  have HCA := Lib.hid (HE1.out.1 rfl)
  clear HE1
  have hN0 : N ≠ 0 := HCA.out.2.1
  have hN1 : 0 < N := by omega
  have q4 : ((N : Int) == 0) = false := by simp; omega
  have q5 : (0 : Int) ≤ (N : Int) - 1 := by omega
  have q6 : (N : Int) - 1 ≤ (cs : Int) := by omega
  obtain ⟨s0, rfl⟩ : ∃ s0, s = some s0 := by
    cases s with
    | none => have := HS.out rfl; omega
    | some s0 => exact ⟨s0, rfl⟩
  have q7 : ((N : Int) - 1).toNat = N - 1 := by omega
  have H3 := check_err n d m a ld (N - 1) p cv q ca (some s0) cs w3 (HD.out.later HB3.out) (HA.out.later HB3.out) ((HL.out.pre (by omega)).later HB3.out) hn (by omega) (by omega) (fun i hi => HT.out i (by omega))
  go_wp2_with fail
  refine H3.mono ?_
  rintro e w4 ⟨⟨r2, k2, c2, er2, rfl, he2⟩, hb4⟩
  have hr2 : er2 = 5 := he2.2 HCA.out.1 (cut_short HCA.out.2)
  subst hr2
  have HB4 := Lib.hid (chain HB3.out hb4)
  replace Z := Lib.hid (Z.out.later hb4)
  clear hb4 he2 H3 HB3
  obtain ⟨i0, hi, hz0, hz1, hz2⟩ := info57
  go_wp2_with fail
  generalize hBB : w.heap.size = BB at *
  refine wp_region_held_drew (S := (fun w' : World => BoxAt BB Kd Tt A B I J P L C w')) (by kernel_rfl) (Z.out.later ((Below.refl _ _).drew)) (fun hHeld => ?_)
  replace Z := Lib.hid (show BoxAt BB Kd Tt A B I J P L C w4.drew from Z.out.later ((Below.refl _ _).drew))
  replace HB4 := Lib.hid (HB4.out.drew)
  generalize w4.drew = w5 at *
  refine wpAnyH_take (i := 0) (oi := { dst := some 53, op := Op.move (Operand.tmp 0), type := 46, pos := "outright.go:40", after := #[], guard := none }) (v := ?_) rfl (by kernel_rfl) (by kernel_rfl) (by kernel_rfl) (fun _ _ _ h => h) (Or.inl ⟨by rfl, ?_⟩) (by assumption) ?_
  rotate_left
  · intro w hSw
    (try dsimp only at hSw)
    go_simp
    try with_reducible rfl
  try simp only [Act.put, List.setIfInBounds_toArray, List.set_cons_zero, List.set_cons_succ]
  refine wpAnyH_take (i := 1) (oi := { dst := some 54, op := Op.move (Operand.tmp 1), type := 47, pos := "outright.go:40", after := #[], guard := none }) (v := ?_) rfl (by kernel_rfl) (by kernel_rfl) (by kernel_rfl) (fun _ _ _ h => h) (Or.inl ⟨by rfl, ?_⟩) (by assumption) ?_
  rotate_left
  · intro w hSw
    (try dsimp only at hSw)
    go_simp
    try with_reducible rfl
  try simp only [Act.put, List.setIfInBounds_toArray, List.set_cons_zero, List.set_cons_succ]
  refine wpAnyH_take (i := 3) (oi := { dst := some 56, op := Op.move (Operand.tmp 2), type := 48, pos := "outright.go:40", after := #[], guard := none }) (v := ?_) rfl (by kernel_rfl) (by kernel_rfl) (by kernel_rfl) (fun _ _ _ h => h) (Or.inl ⟨by rfl, ?_⟩) (by assumption) ?_
  rotate_left
  · intro w hSw
    (try dsimp only at hSw)
    go_simp
    try with_reducible rfl
  try simp only [Act.put, List.setIfInBounds_toArray, List.set_cons_zero, List.set_cons_succ]
  refine wpAnyH_take (i := 5) (oi := { dst := some 58, op := Op.load 57 (Operand.tmp 7), type := 57, pos := "outright.go:40", after := #[], guard := none }) (v := ?_) rfl (by kernel_rfl) (by kernel_rfl) (by kernel_rfl) (fun _ _ _ h => h) (Or.inl ⟨by rfl, ?_⟩) (by assumption) ?_
  rotate_left
  · intro w hSw
    obtain ⟨hc0, hc1, hc2, hc3, hc4, hc5, hc6⟩ := hSw
    go_simp
    try with_reducible rfl
  try simp only [Act.put, List.setIfInBounds_toArray, List.set_cons_zero, List.set_cons_succ]
  have hZlt := Z.out.lt
  refine wpAnyH_ready (rs := [2, 6]) (by kernel_rfl) (by simp) ?_
  refine AllReadyH.cons (o := { dst := some 55, op := Op.buildSlice 48 0 #[], type := 48, pos := "outright.go:40", after := #[], guard := none }) rfl (fun K hK => ?_) (AllReadyH.cons (o := { dst := some 59, op := Op.buildSlice 48 1 #[(0, Operand.tmp 58)], type := 48, pos := "outright.go:40", after := #[{ on := 5, ground := Ground.data }], guard := none }) rfl (fun K hK => ?_) AllReadyH.nil)
  · go_simp
    have Z6 := Lib.hid (Z.out.later (below1 w5 (.cells #[] 57)))
    have own0 := own_empty w5
    have HBd := Lib.hid (below1 w5 (.cells #[] 57))
    have HS6 := Lib.hid (show (w5.alloc (.cells #[] 57)).heap.size = w5.heap.size + 1 from World.size_alloc _ _)
    generalize hDD : w5.heap.size = DD at *
    generalize w5.alloc (.cells #[] 57) = w6 at *
    refine hK.out _ _ ?_ (fun _ => ?_)
    · exact Z6.out
    clear hK K
    try simp only [Act.put, List.setIfInBounds_toArray, List.set_cons_zero, List.set_cons_succ]
    refine wpAnyH_ready (rs := [4, 6]) (by kernel_rfl) (by simp) ?_
    refine AllReadyH.cons (o := { dst := some 57, op := Op.call { callee := Callee.builtin Builtin.append, args := #[Operand.tmp 55, Operand.tmp 56], argTypes := #[48, 48] }, type := 48, pos := "outright.go:40", after := #[{ on := 2, ground := Ground.data }, { on := 3, ground := Ground.data }], guard := none }) rfl (fun K hK => ?_) (AllReadyH.cons (o := { dst := some 59, op := Op.buildSlice 48 1 #[(0, Operand.tmp 58)], type := 48, pos := "outright.go:40", after := #[{ on := 5, ground := Ground.data }], guard := none }) rfl (fun K hK => ?_) AllReadyH.nil)
    · have hs6 := HS6.out
      have HIN := Lib.hid (HL.out.later (by rw [hBB]; exact HB4.out.trans (HBd.out.mono (by omega : BB ≤ DD))))
      obtain ⟨bs, offs, es, gs⟩ := HIN.out hN1
      cases es
      rw [if_pos (by rfl)]
      refine wp_append_own_at _ _ 48 rfl DD 57 i0 _ 7 72 Try.underlying48 hi hz0 hz1 hz2 rfl (by omega) _ 0 [] rfl own0 ⟨bs, offs, none⟩ N cs (flat7 ld N) rfl (flat7_len ld N) ?_ (flat7_one ld N) ?_ ?_ ?_ ?_
      · intro jj u hjj; rw [Lib.add_plain]; exact flat7_at gs jj u hjj
      · have hml : maxLen = 9223372036854775807 := rfl; omega
      · omega
      · omega
      intro v8 w8 own8 hg8 _ hloc8
      rw [Nat.zero_add, List.nil_append] at own8
      clear gs
      have hg8' : w6.grownBy w8 (some DD) := hg8
      have Z8 := Lib.hid (Z6.out.grown hg8' (fun e => by cases e; omega))
      have HB8 := Lib.hid (HBd.out.grown hg8' (by omega) (fun k hk => by cases hk; exact Nat.le_refl _))
      clear hg8 hg8' own0 hloc8
      refine hK.out _ _ ?_ (fun _ => ?_)
      · exact Z8.out
      clear hK K
      try simp only [Act.put, List.setIfInBounds_toArray, List.set_cons_zero, List.set_cons_succ]
      refine wpAnyH_ready (rs := [6]) (by kernel_rfl) (by simp) ?_
      refine AllReadyH.cons (o := { dst := some 59, op := Op.buildSlice 48 1 #[(0, Operand.tmp 58)], type := 48, pos := "outright.go:40", after := #[{ on := 5, ground := Ground.data }], guard := none }) rfl (fun K hK => ?_) AllReadyH.nil
      go_simp
      have HE := Lib.hid (BoxAt.new (K := Kd) (Tt := Tt) (A := A) (B := B) (I := I) (J := J) (P := P) (L := L) (C := C) w8)
      have own9 := own8.alloc (.cells #[.int .u8 Kd, .int .i64 Tt, .int .i64 A, .int .i64 B, .int .i64 I, .int .i64 J, .slice P L C] 57)
      have Z9 := Lib.hid (Z8.out.later (below1 w8 (.cells #[.int .u8 Kd, .int .i64 Tt, .int .i64 A, .int .i64 B, .int .i64 I, .int .i64 J, .slice P L C] 57)))
      replace HBd := Lib.hid (HB8.out.trans ((below1 w8 (.cells #[.int .u8 Kd, .int .i64 Tt, .int .i64 A, .int .i64 B, .int .i64 I, .int .i64 J, .slice P L C] 57)).mono (by have := HB8.out.size; omega)))
      obtain ⟨v9, rfl⟩ : ∃ v9, v9 = v8 := ⟨_, rfl⟩
      clear own8
      generalize hEE : w8.heap.size = EE at *
      generalize w8.alloc (.cells #[.int .u8 Kd, .int .i64 Tt, .int .i64 A, .int .i64 B, .int .i64 I, .int .i64 J, .slice P L C] 57) = w9 at *
      refine hK.out _ _ ?_ (fun _ => ?_)
      · exact Z9.out
      clear hK K
      try simp only [Act.put, List.setIfInBounds_toArray, List.set_cons_zero, List.set_cons_succ]
      refine wpAnyH_ready (rs := [7]) (by kernel_rfl) (by simp) ?_
      refine AllReadyH.cons (o := { dst := some 60, op := Op.call { callee := Callee.builtin Builtin.append, args := #[Operand.tmp 57, Operand.tmp 59], argTypes := #[48, 48] }, type := 48, pos := "outright.go:40", after := #[{ on := 4, ground := Ground.data }, { on := 6, ground := Ground.data }, { on := 4, ground := Ground.chain }], guard := none }) rfl (fun K hK => ?_) AllReadyH.nil
      rw [if_pos (by rfl)]
      refine wp_append_own_at _ _ 48 rfl DD 57 i0 _ 7 72 Try.underlying48 hi hz0 hz1 hz2 rfl (by omega) _ N (flat7 ld N) rfl own9 ⟨EE, 0, none⟩ 1 1 [.int .u8 Kd, .int .i64 Tt, .int .i64 A, .int .i64 B, .int .i64 I, .int .i64 J, .slice P L C] rfl rfl ?_ box_one ?_ ?_ ?_ ?_
      · intro jj u hjj; rw [Lib.add_plain, Nat.zero_add]; exact HE.out.get jj u hjj
      · have hml : maxLen = 9223372036854775807 := rfl; omega
      · omega
      · have := HBd.out.size; omega
      intro vb wb ownb hgb _ _
      have hvb : ∀ k, v9.ownBlock = some k → DD ≤ k := fun k hk => (World.ownsRow.lt own9 k hk).1
      have HBb := Lib.hid (HBd.out.grown hgb (by have := HBd.out.size; omega) hvb)
      have Zb := Lib.hid (Z9.out.grown hgb (fun e => by have := hvb _ e; omega))
      have HBw := Lib.hid (HB4.out.trans (HBb.out.mono (by omega : BB ≤ DD)))
      rw [← hBB] at HBw
      rw [← flat7_snoc ld N Kd Tt A B I J P L C V] at ownb
      obtain ⟨pb, cb, rfl, hlb⟩ := own_links ownb (snoc_v (HL.out.later HBw.out) (HV.out.later HBw.out) hL)
      have H9 := check_err n d m a (snoc ld N Kd Tt A B I J P L C V) (N + 1) p cv q ca pb cb wb (HD.out.later HBw.out) (HA.out.later HBw.out) hlb hn (by omega) (by omega) (fun i hi => by by_cases h : i < N <;> simp [snoc, h] <;> first | exact HT.out i h | exact ⟨l0, l1⟩)
      rw [hBB] at HBw
      clear ownb hgb hlb hvb own9 HE
      refine hK.out _ _ ?_ (fun _ => ?_)
      · exact Zb.out
      clear hK K
      try simp only [Act.put, List.setIfInBounds_toArray, List.set_cons_zero, List.set_cons_succ]
      refine wpAnyH_ready (rs := [8]) (by kernel_rfl) (by simp) ?_
      refine AllReadyH.cons (o := { dst := some 61, op := Op.call { callee := Callee.value (Operand.func 37), args := #[Operand.tmp 53, Operand.tmp 54, Operand.tmp 60], argTypes := #[46, 47, 48] }, type := 51, pos := "outright.go:40", after := #[{ on := 0, ground := Ground.data }, { on := 1, ground := Ground.data }, { on := 7, ground := Ground.data }, { on := 7, ground := Ground.chain }], guard := none }) rfl (fun K hK => ?_) AllReadyH.nil
      go_simp
      go_at_call 37
      refine H9.mono ?_
      rintro e wc ⟨⟨r3, k3, c3, er3, rfl, he3⟩, hbc⟩
      have hr3 : er3 = 5 := he3.2 HCA.out.1 (cut_long HCA.out.2 (by simp [snoc]; intro h; omega))
      subst hr3
      have HBc := Lib.hid (HBw.out.trans (hbc.mono (by have := HBw.out.size; omega)))
      have Zc := Lib.hid (Zb.out.later hbc)
      clear H9 hbc he3
      refine hK.out _ _ ?_ (fun hHeld => ?_)
      · exact Zc.out
      clear hK K
      try simp only [Act.put, List.setIfInBounds_toArray, List.set_cons_zero, List.set_cons_succ]
      refine wpAnyH_take (i := 9) (oi := { dst := some 52, op := Op.move (Operand.tmp 61), type := 51, pos := "outright.go:40", after := #[{ on := 8, ground := Ground.data }], guard := none }) (v := ?_) rfl (by kernel_rfl) (by kernel_rfl) (by kernel_rfl) (fun _ _ _ h => h) (Or.inl ⟨by rfl, ?_⟩) (by assumption) ?_
      rotate_left
      · intro w hSw
        (try dsimp only at hSw)
        go_simp
        try with_reducible rfl
      try simp only [Act.put, List.setIfInBounds_toArray, List.set_cons_zero, List.set_cons_succ]
      refine wpAnyH_take (i := 10) (oi := { dst := some 62, op := Op.extract (Operand.tmp 52) 0, type := 23, pos := "outright.go:40", after := #[{ on := 9, ground := Ground.data }], guard := none }) (v := ?_) rfl (by kernel_rfl) (by kernel_rfl) (by kernel_rfl) (fun _ _ _ h => h) (Or.inl ⟨by rfl, ?_⟩) (by assumption) ?_
      rotate_left
      · intro w hSw
        (try dsimp only at hSw)
        go_simp
        try with_reducible rfl
      try simp only [Act.put, List.setIfInBounds_toArray, List.set_cons_zero, List.set_cons_succ]
      refine wpAnyH_take (i := 11) (oi := { dst := some 63, op := Op.extract (Operand.tmp 52) 1, type := 28, pos := "outright.go:40", after := #[{ on := 9, ground := Ground.data }, { on := 12, ground := Ground.gcOnly Departure.lateStores }], guard := none }) (v := ?_) rfl (by kernel_rfl) (by kernel_rfl) (by kernel_rfl) (fun _ _ _ h => h) (Or.inl ⟨by rfl, ?_⟩) (by assumption) ?_
      rotate_left
      · intro w hSw
        (try dsimp only at hSw)
        go_simp
        try with_reducible rfl
      try simp only [Act.put, List.setIfInBounds_toArray, List.set_cons_zero, List.set_cons_succ]
      refine wpAnyH_take (i := 12) (oi := { dst := some 13, op := Op.assign (Operand.tmp 62), type := 23, pos := "outright.go:40", after := #[{ on := 10, ground := Ground.data }, { on := 8, ground := Ground.chain }, { on := 0, ground := Ground.phase }, { on := 1, ground := Ground.phase }, { on := 2, ground := Ground.phase }, { on := 3, ground := Ground.phase }, { on := 4, ground := Ground.phase }, { on := 5, ground := Ground.phase }, { on := 6, ground := Ground.phase }, { on := 7, ground := Ground.phase }, { on := 8, ground := Ground.phase }, { on := 9, ground := Ground.phase }, { on := 10, ground := Ground.phase }, { on := 11, ground := Ground.textOnly Departure.lateStores }], guard := none }) (v := ?_) rfl (by kernel_rfl) (by kernel_rfl) (by kernel_rfl) (fun _ _ _ h => h) (Or.inl ⟨by rfl, ?_⟩) (by assumption) ?_
      rotate_left
      · intro w hSw
        (try dsimp only at hSw)
        go_simp
        try with_reducible rfl
      try simp only [Act.put, List.setIfInBounds_toArray, List.set_cons_zero, List.set_cons_succ]
      refine wpAnyH_take (i := 13) (oi := { dst := some 14, op := Op.assign (Operand.tmp 63), type := 28, pos := "outright.go:40", after := #[{ on := 11, ground := Ground.data }, { on := 12, ground := Ground.chain }, { on := 0, ground := Ground.phase }, { on := 1, ground := Ground.phase }, { on := 2, ground := Ground.phase }, { on := 3, ground := Ground.phase }, { on := 4, ground := Ground.phase }, { on := 5, ground := Ground.phase }, { on := 6, ground := Ground.phase }, { on := 7, ground := Ground.phase }, { on := 8, ground := Ground.phase }, { on := 9, ground := Ground.phase }, { on := 10, ground := Ground.phase }, { on := 11, ground := Ground.phase }, { on := 12, ground := Ground.phase }], guard := none }) (v := ?_) rfl (by kernel_rfl) (by kernel_rfl) (by kernel_rfl) (fun _ _ _ h => h) (Or.inl ⟨by rfl, ?_⟩) (by assumption) ?_
      rotate_left
      · intro w hSw
        (try dsimp only at hSw)
        go_simp
        try with_reducible rfl
      try simp only [Act.put, List.setIfInBounds_toArray, List.set_cons_zero, List.set_cons_succ]
      refine wpAnyH_done (by kernel_rfl) ?_ _
      subst hBB
      go_wp2_with fail
      refine (HK.out _).mono ?_
      rintro e wd ⟨rfl, hbd⟩
      have HBe := Lib.hid (chain HBc.out hbd)
      clear hbd
      go_wp2_with fail
      go_ret
      exact ⟨rfl, HBe.out⟩
    · go_simp
      have hs6 := HS6.out
      have HE6 := Lib.hid (BoxAt.new (K := Kd) (Tt := Tt) (A := A) (B := B) (I := I) (J := J) (P := P) (L := L) (C := C) w6)
      have own7 := own0.alloc (.cells #[.int .u8 Kd, .int .i64 Tt, .int .i64 A, .int .i64 B, .int .i64 I, .int .i64 J, .slice P L C] 57)
      have Z7 := Lib.hid (Z6.out.later (below1 w6 (.cells #[.int .u8 Kd, .int .i64 Tt, .int .i64 A, .int .i64 B, .int .i64 I, .int .i64 J, .slice P L C] 57)))
      replace HBd := Lib.hid (HBd.out.trans ((below1 w6 (.cells #[.int .u8 Kd, .int .i64 Tt, .int .i64 A, .int .i64 B, .int .i64 I, .int .i64 J, .slice P L C] 57)).mono (by omega)))
      have hs7 : (w6.alloc (.cells #[.int .u8 Kd, .int .i64 Tt, .int .i64 A, .int .i64 B, .int .i64 I, .int .i64 J, .slice P L C] 57)).heap.size = w6.heap.size + 1 := World.size_alloc _ _
      clear own0
      generalize hEE : w6.heap.size = EE at *
      generalize w6.alloc (.cells #[.int .u8 Kd, .int .i64 Tt, .int .i64 A, .int .i64 B, .int .i64 I, .int .i64 J, .slice P L C] 57) = w7 at *
      refine hK.out _ _ ?_ (fun _ => ?_)
      · exact Z7.out
      clear hK K
      try simp only [Act.put, List.setIfInBounds_toArray, List.set_cons_zero, List.set_cons_succ]
      refine wpAnyH_ready (rs := [4]) (by kernel_rfl) (by simp) ?_
      refine AllReadyH.cons (o := { dst := some 57, op := Op.call { callee := Callee.builtin Builtin.append, args := #[Operand.tmp 55, Operand.tmp 56], argTypes := #[48, 48] }, type := 48, pos := "outright.go:40", after := #[{ on := 2, ground := Ground.data }, { on := 3, ground := Ground.data }], guard := none }) rfl (fun K hK => ?_) AllReadyH.nil
      have HIN := Lib.hid (HL.out.later (by rw [hBB]; exact HB4.out.trans (HBd.out.mono (by omega : BB ≤ DD))))
      obtain ⟨bs, offs, es, gs⟩ := HIN.out hN1
      cases es
      rw [if_pos (by rfl)]
      refine wp_append_own_at _ _ 48 rfl DD 57 i0 _ 7 72 Try.underlying48 hi hz0 hz1 hz2 rfl (by omega) _ 0 [] rfl own7 ⟨bs, offs, none⟩ N cs (flat7 ld N) rfl (flat7_len ld N) ?_ (flat7_one ld N) ?_ ?_ ?_ ?_
      · intro jj u hjj; rw [Lib.add_plain]; exact flat7_at gs jj u hjj
      · have hml : maxLen = 9223372036854775807 := rfl; omega
      · omega
      · omega
      intro v8 w8 own8 hg8 _ hloc8
      rw [Nat.zero_add, List.nil_append] at own8
      clear gs
      have hg8' : w7.grownBy w8 (some DD) := hg8
      have Z9 := Lib.hid (Z7.out.grown hg8' (fun e => by cases e; omega))
      have HE := Lib.hid (HE6.out.grown hg8' (fun e => by cases e; omega))
      replace HBd := Lib.hid (HBd.out.grown hg8' (by omega) (fun k hk => by cases hk; exact Nat.le_refl _))
      obtain ⟨v9, rfl⟩ : ∃ v9, v9 = v8 := ⟨_, rfl⟩
      have own9 := own8
      clear hg8 hg8' own7 hloc8 own8 HE6
      refine hK.out _ _ ?_ (fun _ => ?_)
      · exact Z9.out
      clear hK K
      try simp only [Act.put, List.setIfInBounds_toArray, List.set_cons_zero, List.set_cons_succ]
      refine wpAnyH_ready (rs := [7]) (by kernel_rfl) (by simp) ?_
      refine AllReadyH.cons (o := { dst := some 60, op := Op.call { callee := Callee.builtin Builtin.append, args := #[Operand.tmp 57, Operand.tmp 59], argTypes := #[48, 48] }, type := 48, pos := "outright.go:40", after := #[{ on := 4, ground := Ground.data }, { on := 6, ground := Ground.data }, { on := 4, ground := Ground.chain }], guard := none }) rfl (fun K hK => ?_) AllReadyH.nil
      rw [if_pos (by rfl)]
      refine wp_append_own_at _ _ 48 rfl DD 57 i0 _ 7 72 Try.underlying48 hi hz0 hz1 hz2 rfl (by omega) _ N (flat7 ld N) rfl own9 ⟨EE, 0, none⟩ 1 1 [.int .u8 Kd, .int .i64 Tt, .int .i64 A, .int .i64 B, .int .i64 I, .int .i64 J, .slice P L C] rfl rfl ?_ box_one ?_ ?_ ?_ ?_
      · intro jj u hjj; rw [Lib.add_plain, Nat.zero_add]; exact HE.out.get jj u hjj
      · have hml : maxLen = 9223372036854775807 := rfl; omega
      · omega
      · have := HBd.out.size; omega
      intro vb wb ownb hgb _ _
      have hvb : ∀ k, v9.ownBlock = some k → DD ≤ k := fun k hk => (World.ownsRow.lt own9 k hk).1
      have HBb := Lib.hid (HBd.out.grown hgb (by have := HBd.out.size; omega) hvb)
      have Zb := Lib.hid (Z9.out.grown hgb (fun e => by have := hvb _ e; omega))
      have HBw := Lib.hid (HB4.out.trans (HBb.out.mono (by omega : BB ≤ DD)))
      rw [← hBB] at HBw
      rw [← flat7_snoc ld N Kd Tt A B I J P L C V] at ownb
      obtain ⟨pb, cb, rfl, hlb⟩ := own_links ownb (snoc_v (HL.out.later HBw.out) (HV.out.later HBw.out) hL)
      have H9 := check_err n d m a (snoc ld N Kd Tt A B I J P L C V) (N + 1) p cv q ca pb cb wb (HD.out.later HBw.out) (HA.out.later HBw.out) hlb hn (by omega) (by omega) (fun i hi => by by_cases h : i < N <;> simp [snoc, h] <;> first | exact HT.out i h | exact ⟨l0, l1⟩)
      rw [hBB] at HBw
      clear ownb hgb hlb hvb own9 HE
      refine hK.out _ _ ?_ (fun _ => ?_)
      · exact Zb.out
      clear hK K
      try simp only [Act.put, List.setIfInBounds_toArray, List.set_cons_zero, List.set_cons_succ]
      refine wpAnyH_ready (rs := [8]) (by kernel_rfl) (by simp) ?_
      refine AllReadyH.cons (o := { dst := some 61, op := Op.call { callee := Callee.value (Operand.func 37), args := #[Operand.tmp 53, Operand.tmp 54, Operand.tmp 60], argTypes := #[46, 47, 48] }, type := 51, pos := "outright.go:40", after := #[{ on := 0, ground := Ground.data }, { on := 1, ground := Ground.data }, { on := 7, ground := Ground.data }, { on := 7, ground := Ground.chain }], guard := none }) rfl (fun K hK => ?_) AllReadyH.nil
      go_simp
      go_at_call 37
      refine H9.mono ?_
      rintro e wc ⟨⟨r3, k3, c3, er3, rfl, he3⟩, hbc⟩
      have hr3 : er3 = 5 := he3.2 HCA.out.1 (cut_long HCA.out.2 (by simp [snoc]; intro h; omega))
      subst hr3
      have HBc := Lib.hid (HBw.out.trans (hbc.mono (by have := HBw.out.size; omega)))
      have Zc := Lib.hid (Zb.out.later hbc)
      clear H9 hbc he3
      refine hK.out _ _ ?_ (fun hHeld => ?_)
      · exact Zc.out
      clear hK K
      try simp only [Act.put, List.setIfInBounds_toArray, List.set_cons_zero, List.set_cons_succ]
      refine wpAnyH_take (i := 9) (oi := { dst := some 52, op := Op.move (Operand.tmp 61), type := 51, pos := "outright.go:40", after := #[{ on := 8, ground := Ground.data }], guard := none }) (v := ?_) rfl (by kernel_rfl) (by kernel_rfl) (by kernel_rfl) (fun _ _ _ h => h) (Or.inl ⟨by rfl, ?_⟩) (by assumption) ?_
      rotate_left
      · intro w hSw
        (try dsimp only at hSw)
        go_simp
        try with_reducible rfl
      try simp only [Act.put, List.setIfInBounds_toArray, List.set_cons_zero, List.set_cons_succ]
      refine wpAnyH_take (i := 10) (oi := { dst := some 62, op := Op.extract (Operand.tmp 52) 0, type := 23, pos := "outright.go:40", after := #[{ on := 9, ground := Ground.data }], guard := none }) (v := ?_) rfl (by kernel_rfl) (by kernel_rfl) (by kernel_rfl) (fun _ _ _ h => h) (Or.inl ⟨by rfl, ?_⟩) (by assumption) ?_
      rotate_left
      · intro w hSw
        (try dsimp only at hSw)
        go_simp
        try with_reducible rfl
      try simp only [Act.put, List.setIfInBounds_toArray, List.set_cons_zero, List.set_cons_succ]
      refine wpAnyH_take (i := 11) (oi := { dst := some 63, op := Op.extract (Operand.tmp 52) 1, type := 28, pos := "outright.go:40", after := #[{ on := 9, ground := Ground.data }, { on := 12, ground := Ground.gcOnly Departure.lateStores }], guard := none }) (v := ?_) rfl (by kernel_rfl) (by kernel_rfl) (by kernel_rfl) (fun _ _ _ h => h) (Or.inl ⟨by rfl, ?_⟩) (by assumption) ?_
      rotate_left
      · intro w hSw
        (try dsimp only at hSw)
        go_simp
        try with_reducible rfl
      try simp only [Act.put, List.setIfInBounds_toArray, List.set_cons_zero, List.set_cons_succ]
      refine wpAnyH_take (i := 12) (oi := { dst := some 13, op := Op.assign (Operand.tmp 62), type := 23, pos := "outright.go:40", after := #[{ on := 10, ground := Ground.data }, { on := 8, ground := Ground.chain }, { on := 0, ground := Ground.phase }, { on := 1, ground := Ground.phase }, { on := 2, ground := Ground.phase }, { on := 3, ground := Ground.phase }, { on := 4, ground := Ground.phase }, { on := 5, ground := Ground.phase }, { on := 6, ground := Ground.phase }, { on := 7, ground := Ground.phase }, { on := 8, ground := Ground.phase }, { on := 9, ground := Ground.phase }, { on := 10, ground := Ground.phase }, { on := 11, ground := Ground.textOnly Departure.lateStores }], guard := none }) (v := ?_) rfl (by kernel_rfl) (by kernel_rfl) (by kernel_rfl) (fun _ _ _ h => h) (Or.inl ⟨by rfl, ?_⟩) (by assumption) ?_
      rotate_left
      · intro w hSw
        (try dsimp only at hSw)
        go_simp
        try with_reducible rfl
      try simp only [Act.put, List.setIfInBounds_toArray, List.set_cons_zero, List.set_cons_succ]
      refine wpAnyH_take (i := 13) (oi := { dst := some 14, op := Op.assign (Operand.tmp 63), type := 28, pos := "outright.go:40", after := #[{ on := 11, ground := Ground.data }, { on := 12, ground := Ground.chain }, { on := 0, ground := Ground.phase }, { on := 1, ground := Ground.phase }, { on := 2, ground := Ground.phase }, { on := 3, ground := Ground.phase }, { on := 4, ground := Ground.phase }, { on := 5, ground := Ground.phase }, { on := 6, ground := Ground.phase }, { on := 7, ground := Ground.phase }, { on := 8, ground := Ground.phase }, { on := 9, ground := Ground.phase }, { on := 10, ground := Ground.phase }, { on := 11, ground := Ground.phase }, { on := 12, ground := Ground.phase }], guard := none }) (v := ?_) rfl (by kernel_rfl) (by kernel_rfl) (by kernel_rfl) (fun _ _ _ h => h) (Or.inl ⟨by rfl, ?_⟩) (by assumption) ?_
      rotate_left
      · intro w hSw
        (try dsimp only at hSw)
        go_simp
        try with_reducible rfl
      try simp only [Act.put, List.setIfInBounds_toArray, List.set_cons_zero, List.set_cons_succ]
      refine wpAnyH_done (by kernel_rfl) ?_ _
      subst hBB
      go_wp2_with fail
      refine (HK.out _).mono ?_
      rintro e wd ⟨rfl, hbd⟩
      have HBe := Lib.hid (chain HBc.out hbd)
      clear hbd
      go_wp2_with fail
      go_ret
      exact ⟨rfl, HBe.out⟩
  · go_simp
    have HE6 := Lib.hid (BoxAt.new (K := Kd) (Tt := Tt) (A := A) (B := B) (I := I) (J := J) (P := P) (L := L) (C := C) w5)
    have Z6 := Lib.hid (Z.out.later (below1 w5 (.cells #[.int .u8 Kd, .int .i64 Tt, .int .i64 A, .int .i64 B, .int .i64 I, .int .i64 J, .slice P L C] 57)))
    have HBd := Lib.hid (below1 w5 (.cells #[.int .u8 Kd, .int .i64 Tt, .int .i64 A, .int .i64 B, .int .i64 I, .int .i64 J, .slice P L C] 57))
    have HS6 := Lib.hid (show (w5.alloc (.cells #[.int .u8 Kd, .int .i64 Tt, .int .i64 A, .int .i64 B, .int .i64 I, .int .i64 J, .slice P L C] 57)).heap.size = w5.heap.size + 1 from World.size_alloc _ _)
    generalize hDD : w5.heap.size = DD at *
    generalize w5.alloc (.cells #[.int .u8 Kd, .int .i64 Tt, .int .i64 A, .int .i64 B, .int .i64 I, .int .i64 J, .slice P L C] 57) = w6 at *
    refine hK.out _ _ ?_ (fun _ => ?_)
    · exact Z6.out
    clear hK K
    try simp only [Act.put, List.setIfInBounds_toArray, List.set_cons_zero, List.set_cons_succ]
    refine wpAnyH_ready (rs := [2]) (by kernel_rfl) (by simp) ?_
    refine AllReadyH.cons (o := { dst := some 55, op := Op.buildSlice 48 0 #[], type := 48, pos := "outright.go:40", after := #[], guard := none }) rfl (fun K hK => ?_) AllReadyH.nil
    go_simp
    have hs6 := HS6.out
    have own0 := own_empty w6
    have Z7 := Lib.hid (Z6.out.later (below1 w6 (.cells #[] 57)))
    have HE7 := Lib.hid (HE6.out.later (below1 w6 (.cells #[] 57)))
    replace HBd := Lib.hid (HBd.out.trans ((below1 w6 (.cells #[] 57)).mono (by omega)))
    have hs7 : (w6.alloc (.cells #[] 57)).heap.size = w6.heap.size + 1 := World.size_alloc _ _
    generalize hGG : w6.heap.size = GG at *
    generalize w6.alloc (.cells #[] 57) = w7 at *
    have own7 : w7.ownsRow DD 57 7 (.slice (some ⟨GG, 0, none⟩) 0 0) 0 [] := own_base own0 (by omega)
    clear own0 HE6
    refine hK.out _ _ ?_ (fun _ => ?_)
    · exact Z7.out
    clear hK K
    try simp only [Act.put, List.setIfInBounds_toArray, List.set_cons_zero, List.set_cons_succ]
    refine wpAnyH_ready (rs := [4]) (by kernel_rfl) (by simp) ?_
    refine AllReadyH.cons (o := { dst := some 57, op := Op.call { callee := Callee.builtin Builtin.append, args := #[Operand.tmp 55, Operand.tmp 56], argTypes := #[48, 48] }, type := 48, pos := "outright.go:40", after := #[{ on := 2, ground := Ground.data }, { on := 3, ground := Ground.data }], guard := none }) rfl (fun K hK => ?_) AllReadyH.nil
    have HIN := Lib.hid (HL.out.later (by rw [hBB]; exact HB4.out.trans (HBd.out.mono (by omega : BB ≤ DD))))
    obtain ⟨bs, offs, es, gs⟩ := HIN.out hN1
    cases es
    rw [if_pos (by rfl)]
    refine wp_append_own_at _ _ 48 rfl DD 57 i0 _ 7 72 Try.underlying48 hi hz0 hz1 hz2 rfl (by omega) _ 0 [] rfl own7 ⟨bs, offs, none⟩ N cs (flat7 ld N) rfl (flat7_len ld N) ?_ (flat7_one ld N) ?_ ?_ ?_ ?_
    · intro jj u hjj; rw [Lib.add_plain]; exact flat7_at gs jj u hjj
    · have hml : maxLen = 9223372036854775807 := rfl; omega
    · omega
    · omega
    intro v8 w8 own8 hg8 _ hloc8
    rw [Nat.zero_add, List.nil_append] at own8
    clear gs
    have hg8' : w7.grownBy w8 (some GG) := hg8
    have Z9 := Lib.hid (Z7.out.grown hg8' (fun e => by cases e; omega))
    have HE := Lib.hid (HE7.out.grown hg8' (fun e => by cases e; omega))
    replace HBd := Lib.hid (HBd.out.grown hg8' (by omega) (fun k hk => by cases hk; omega))
    obtain ⟨v9, rfl⟩ : ∃ v9, v9 = v8 := ⟨_, rfl⟩
    have own9 := own8
    clear hg8 hg8' own7 hloc8 own8 HE7
    refine hK.out _ _ ?_ (fun _ => ?_)
    · exact Z9.out
    clear hK K
    try simp only [Act.put, List.setIfInBounds_toArray, List.set_cons_zero, List.set_cons_succ]
    refine wpAnyH_ready (rs := [7]) (by kernel_rfl) (by simp) ?_
    refine AllReadyH.cons (o := { dst := some 60, op := Op.call { callee := Callee.builtin Builtin.append, args := #[Operand.tmp 57, Operand.tmp 59], argTypes := #[48, 48] }, type := 48, pos := "outright.go:40", after := #[{ on := 4, ground := Ground.data }, { on := 6, ground := Ground.data }, { on := 4, ground := Ground.chain }], guard := none }) rfl (fun K hK => ?_) AllReadyH.nil
    rw [if_pos (by rfl)]
    refine wp_append_own_at _ _ 48 rfl DD 57 i0 _ 7 72 Try.underlying48 hi hz0 hz1 hz2 rfl (by omega) _ N (flat7 ld N) rfl own9 ⟨DD, 0, none⟩ 1 1 [.int .u8 Kd, .int .i64 Tt, .int .i64 A, .int .i64 B, .int .i64 I, .int .i64 J, .slice P L C] rfl rfl ?_ box_one ?_ ?_ ?_ ?_
    · intro jj u hjj; rw [Lib.add_plain, Nat.zero_add]; exact HE.out.get jj u hjj
    · have hml : maxLen = 9223372036854775807 := rfl; omega
    · omega
    · have := HBd.out.size; omega
    intro vb wb ownb hgb _ _
    have hvb : ∀ k, v9.ownBlock = some k → DD ≤ k := fun k hk => (World.ownsRow.lt own9 k hk).1
    have HBb := Lib.hid (HBd.out.grown hgb (by have := HBd.out.size; omega) hvb)
    have Zb := Lib.hid (Z9.out.grown hgb (fun e => by have := hvb _ e; omega))
    have HBw := Lib.hid (HB4.out.trans (HBb.out.mono (by omega : BB ≤ DD)))
    rw [← hBB] at HBw
    rw [← flat7_snoc ld N Kd Tt A B I J P L C V] at ownb
    obtain ⟨pb, cb, rfl, hlb⟩ := own_links ownb (snoc_v (HL.out.later HBw.out) (HV.out.later HBw.out) hL)
    have H9 := check_err n d m a (snoc ld N Kd Tt A B I J P L C V) (N + 1) p cv q ca pb cb wb (HD.out.later HBw.out) (HA.out.later HBw.out) hlb hn (by omega) (by omega) (fun i hi => by by_cases h : i < N <;> simp [snoc, h] <;> first | exact HT.out i h | exact ⟨l0, l1⟩)
    rw [hBB] at HBw
    clear ownb hgb hlb hvb own9 HE
    refine hK.out _ _ ?_ (fun _ => ?_)
    · exact Zb.out
    clear hK K
    try simp only [Act.put, List.setIfInBounds_toArray, List.set_cons_zero, List.set_cons_succ]
    refine wpAnyH_ready (rs := [8]) (by kernel_rfl) (by simp) ?_
    refine AllReadyH.cons (o := { dst := some 61, op := Op.call { callee := Callee.value (Operand.func 37), args := #[Operand.tmp 53, Operand.tmp 54, Operand.tmp 60], argTypes := #[46, 47, 48] }, type := 51, pos := "outright.go:40", after := #[{ on := 0, ground := Ground.data }, { on := 1, ground := Ground.data }, { on := 7, ground := Ground.data }, { on := 7, ground := Ground.chain }], guard := none }) rfl (fun K hK => ?_) AllReadyH.nil
    go_simp
    go_at_call 37
    refine H9.mono ?_
    rintro e wc ⟨⟨r3, k3, c3, er3, rfl, he3⟩, hbc⟩
    have hr3 : er3 = 5 := he3.2 HCA.out.1 (cut_long HCA.out.2 (by simp [snoc]; intro h; omega))
    subst hr3
    have HBc := Lib.hid (HBw.out.trans (hbc.mono (by have := HBw.out.size; omega)))
    have Zc := Lib.hid (Zb.out.later hbc)
    clear H9 hbc he3
    refine hK.out _ _ ?_ (fun hHeld => ?_)
    · exact Zc.out
    clear hK K
    try simp only [Act.put, List.setIfInBounds_toArray, List.set_cons_zero, List.set_cons_succ]
    refine wpAnyH_take (i := 9) (oi := { dst := some 52, op := Op.move (Operand.tmp 61), type := 51, pos := "outright.go:40", after := #[{ on := 8, ground := Ground.data }], guard := none }) (v := ?_) rfl (by kernel_rfl) (by kernel_rfl) (by kernel_rfl) (fun _ _ _ h => h) (Or.inl ⟨by rfl, ?_⟩) (by assumption) ?_
    rotate_left
    · intro w hSw
      (try dsimp only at hSw)
      go_simp
      try with_reducible rfl
    try simp only [Act.put, List.setIfInBounds_toArray, List.set_cons_zero, List.set_cons_succ]
    refine wpAnyH_take (i := 10) (oi := { dst := some 62, op := Op.extract (Operand.tmp 52) 0, type := 23, pos := "outright.go:40", after := #[{ on := 9, ground := Ground.data }], guard := none }) (v := ?_) rfl (by kernel_rfl) (by kernel_rfl) (by kernel_rfl) (fun _ _ _ h => h) (Or.inl ⟨by rfl, ?_⟩) (by assumption) ?_
    rotate_left
    · intro w hSw
      (try dsimp only at hSw)
      go_simp
      try with_reducible rfl
    try simp only [Act.put, List.setIfInBounds_toArray, List.set_cons_zero, List.set_cons_succ]
    refine wpAnyH_take (i := 11) (oi := { dst := some 63, op := Op.extract (Operand.tmp 52) 1, type := 28, pos := "outright.go:40", after := #[{ on := 9, ground := Ground.data }, { on := 12, ground := Ground.gcOnly Departure.lateStores }], guard := none }) (v := ?_) rfl (by kernel_rfl) (by kernel_rfl) (by kernel_rfl) (fun _ _ _ h => h) (Or.inl ⟨by rfl, ?_⟩) (by assumption) ?_
    rotate_left
    · intro w hSw
      (try dsimp only at hSw)
      go_simp
      try with_reducible rfl
    try simp only [Act.put, List.setIfInBounds_toArray, List.set_cons_zero, List.set_cons_succ]
    refine wpAnyH_take (i := 12) (oi := { dst := some 13, op := Op.assign (Operand.tmp 62), type := 23, pos := "outright.go:40", after := #[{ on := 10, ground := Ground.data }, { on := 8, ground := Ground.chain }, { on := 0, ground := Ground.phase }, { on := 1, ground := Ground.phase }, { on := 2, ground := Ground.phase }, { on := 3, ground := Ground.phase }, { on := 4, ground := Ground.phase }, { on := 5, ground := Ground.phase }, { on := 6, ground := Ground.phase }, { on := 7, ground := Ground.phase }, { on := 8, ground := Ground.phase }, { on := 9, ground := Ground.phase }, { on := 10, ground := Ground.phase }, { on := 11, ground := Ground.textOnly Departure.lateStores }], guard := none }) (v := ?_) rfl (by kernel_rfl) (by kernel_rfl) (by kernel_rfl) (fun _ _ _ h => h) (Or.inl ⟨by rfl, ?_⟩) (by assumption) ?_
    rotate_left
    · intro w hSw
      (try dsimp only at hSw)
      go_simp
      try with_reducible rfl
    try simp only [Act.put, List.setIfInBounds_toArray, List.set_cons_zero, List.set_cons_succ]
    refine wpAnyH_take (i := 13) (oi := { dst := some 14, op := Op.assign (Operand.tmp 63), type := 28, pos := "outright.go:40", after := #[{ on := 11, ground := Ground.data }, { on := 12, ground := Ground.chain }, { on := 0, ground := Ground.phase }, { on := 1, ground := Ground.phase }, { on := 2, ground := Ground.phase }, { on := 3, ground := Ground.phase }, { on := 4, ground := Ground.phase }, { on := 5, ground := Ground.phase }, { on := 6, ground := Ground.phase }, { on := 7, ground := Ground.phase }, { on := 8, ground := Ground.phase }, { on := 9, ground := Ground.phase }, { on := 10, ground := Ground.phase }, { on := 11, ground := Ground.phase }, { on := 12, ground := Ground.phase }], guard := none }) (v := ?_) rfl (by kernel_rfl) (by kernel_rfl) (by kernel_rfl) (fun _ _ _ h => h) (Or.inl ⟨by rfl, ?_⟩) (by assumption) ?_
    rotate_left
    · intro w hSw
      (try dsimp only at hSw)
      go_simp
      try with_reducible rfl
    try simp only [Act.put, List.setIfInBounds_toArray, List.set_cons_zero, List.set_cons_succ]
    refine wpAnyH_done (by kernel_rfl) ?_ _
    subst hBB
    go_wp2_with fail
    refine (HK.out _).mono ?_
    rintro e wd ⟨rfl, hbd⟩
    have HBe := Lib.hid (chain HBc.out hbd)
    clear hbd
    go_wp2_with fail
    go_ret
    exact ⟨rfl, HBe.out⟩
end Go.Proofs.Ytgdncnalahdjeaa
