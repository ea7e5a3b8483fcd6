/- TreeTexts: the law's walk. -/
import Derived.Test.YtlifankiljbdjaaDoorU10
import Derived.Test.YtlifankiljbdjaaDoorU13
import Derived.Test.YtlifankiljbdjaaDoorU14
import Derived.Test.YtlifankiljbdjaaDoorU17
import Derived.Deep.RegionHeld3
namespace Go.Proofs.YtlifankiljbdjaaDoor
open Go Go.RowKit

theorem texts_eq {X Y : ByteArray} {e f : Int} {t : List UInt8 × Int} (h : (X.data.toList, e) = t) (h' : (Y.data.toList, f) = t) : Y = X ∧ f = e := by
  rw [← h] at h'
  obtain ⟨h1, h2⟩ := Prod.mk.inj h'
  refine ⟨?_, h2⟩
  cases X; cases Y
  simp at h1
  rw [h1]
theorem below_self2 {W w w' : World} (h : Below W.heap.size W w) (k : Below w.heap.size w w') : Below W.heap.size W w' := h.trans (k.mono h.size)
set_option maxRecDepth 100000 in
set_option maxHeartbeats 6400000 in
theorem treetexts_any (l : Bool) (k : Int) (s : ByteArray) (a : Int) (q : Option Addr) (c : Nat) (x : Fo) (l' : Bool) (k' : Int) (s' : ByteArray) (a' : Int) (q' : Option Addr) (c' : Nat) (x' : Fo) (W : World) (F F' : Nat → Prop)
    (hx : FoIn W F x q) (hx' : FoIn W F' x' q') (hc : x.len ≤ c) (hc' : x'.len ≤ c') (hn : x.len ≤ 281474976710656) (hn' : x'.len ≤ 281474976710656) (hs : s.size ≤ 140737488351232) (hs' : s'.size ≤ 140737488351232) (hz : szB 140737488351232 x) (hz' : szB 140737488351232 x') (hm : MaxAt W) :
    Calls Tryd.prog 9 #[trV l k s a q x.len c, trV l' k' s' a' q' x'.len c'] W fun e w' => e = .returned (.bool true) ∧ Below W.heap.size W w' := by
  have HKN := Lib.hid (fun (w : World) (h : Below W.heap.size W w) => known20 w (hm.later h))
  have HG1 := Lib.hid (fun (w : World) (h : Below W.heap.size W w) => great27 l k s a q c x w _ (hx.later h) hc hn hs hz)
  have HG2 := Lib.hid (fun (w : World) (h : Below W.heap.size W w) => great27 l' k' s' a' q' c' x' w _ (hx'.later h) hc' hn' hs' hz')
  have HCP := Lib.hid (fun (hz : x.size ≤ 1000000) (w : World) (h : Below W.heap.size W w) => copy28 x.size x (Nat.le_refl _) hz l k s a q c w (fun b => b < w.heap.size) ((hx.later h).mono (fun b _ hb => hb)) (fun b h => h) hc)
  have HT29 := Lib.hid (fun (h1 : s.size ≤ 65536) (h2 : szB 65536 x) (h3 : x.size ≤ 1099511627776) (q5 : Option Addr) (c5 : Nat) (F5 : Nat → Prop) (w : World) (h : Below W.heap.size W w) (h4 : FoIn w F5 x q5) (h5 : x.len ≤ c5) => text29 l k s a q5 c5 x w F5 h4 h5 hn h1 h2 h3 (hm.later h))
  have HT30 := Lib.hid (fun (h1 : s.size ≤ 65536) (h2 : szB 65536 x) (h3 : x.size ≤ 1000000) (w : World) (h : Below W.heap.size W w) => text30 l k s a q c x w _ (hx.later h) hc hn h1 h2 h3)
  have H31 := Lib.hid (fun (w : World) (h : Below W.heap.size W w) => depth31 l k s a q c x w _ (hx.later h) hc hn)
  have H32 := Lib.hid (fun (w : World) (h : Below W.heap.size W w) => depth32 l k s a q c x w _ (hx.later h) hc hn)
  have H33 := Lib.hid (fun (w : World) (h : Below W.heap.size W w) => same33_any x.size x x' (Nat.le_refl _) l l' k k' s s' a a' q q' c c' w _ _ (hx.later h) (hx'.later h) hc hc' hn hn')
  have H23 := Lib.hid (fun (w : World) (h : Below W.heap.size W w) => same23_any x.size x x' (Nat.le_refl _) l l' k k' s s' a a' q q' c c' w _ _ (hx.later h) (hx'.later h) hc hc' hn hn')
  have H33I := Lib.hid (fun (q5 : Option Addr) (c5 : Nat) (F5 : Nat → Prop) (w : World) (h : Below W.heap.size W w) (h4 : FoIn w F5 x q5) (h5 : x.len ≤ c5) => same33_any x.size x x (Nat.le_refl _) l l k k s s a a q5 q c5 c w _ _ h4 (hx.later h) h5 hc hn hn)
  have H23I := Lib.hid (fun (q5 : Option Addr) (c5 : Nat) (F5 : Nat → Prop) (w : World) (h : Below W.heap.size W w) (h4 : FoIn w F5 x q5) (h5 : x.len ≤ c5) => same23_any x.size x x (Nat.le_refl _) l l k k s s a a q5 q c5 c w _ _ h4 (hx.later h) h5 hc hn hn)
  simp only [sameT_refl] at H33I H23I
  unfold CopyE at HCP
  obtain ⟨S0, hS0⟩ : ∃ S0, S0 = sameT l k s x l' k' s' x' := ⟨_, rfl⟩
  obtain ⟨DP, hDP⟩ : ∃ DP, DP = depT l x 201 := ⟨_, rfl⟩
  obtain ⟨M, hM⟩ : ∃ M, M = x.len := ⟨_, rfl⟩
  obtain ⟨M', hM'⟩ : ∃ M, M = x'.len := ⟨_, rfl⟩
  simp only [← hS0, ← hDP, ← hM, ← hM', trV] at HG1 HG2 HCP HT29 HT30 H31 H32 H33 H23 H33I H23I ⊢
  clear hS0 hDP hM hM' hx hx' hc hc' hn hn' hs hs' hz hz' hm
  have HV2 := Lib.hid (show Below W.heap.size W ((W.alloc (.cells #[.bool l, .int .u8 k, .string s, .int .i64 a, .slice q M c] 41)).alloc (.cells #[.bool l', .int .u8 k', .string s', .int .i64 a', .slice q' M' c'] 41)) ∧ ∀ w, Below ((W.alloc (.cells #[.bool l, .int .u8 k, .string s, .int .i64 a, .slice q M c] 41)).alloc (.cells #[.bool l', .int .u8 k', .string s', .int .i64 a', .slice q' M' c'] 41)).heap.size ((W.alloc (.cells #[.bool l, .int .u8 k, .string s, .int .i64 a, .slice q M c] 41)).alloc (.cells #[.bool l', .int .u8 k', .string s', .int .i64 a', .slice q' M' c'] 41)) w → (w.cell? ⟨W.heap.size, 0, none⟩ = some (.bool l) ∧ w.cell? ⟨W.heap.size, 1, none⟩ = some (.int .u8 k) ∧ w.cell? ⟨W.heap.size, 2, none⟩ = some (.string s) ∧ w.cell? ⟨W.heap.size, 3, none⟩ = some (.int .i64 a) ∧ w.cell? ⟨W.heap.size, 4, none⟩ = some (.slice q M c)) ∧ (w.cell? ⟨(W.heap.size + 1), 0, none⟩ = some (.bool l') ∧ w.cell? ⟨(W.heap.size + 1), 1, none⟩ = some (.int .u8 k') ∧ w.cell? ⟨(W.heap.size + 1), 2, none⟩ = some (.string s') ∧ w.cell? ⟨(W.heap.size + 1), 3, none⟩ = some (.int .i64 a') ∧ w.cell? ⟨(W.heap.size + 1), 4, none⟩ = some (.slice q' M' c')) from ⟨(below1 W _).alloc (by simp) _, fun w h => ⟨⟨cell_later h (by simp [go_sem]), cell_later h (by simp [go_sem]), cell_later h (by simp [go_sem]), cell_later h (by simp [go_sem]), cell_later h (by simp [go_sem])⟩, ⟨cell_later h (by simp [go_sem]), cell_later h (by simp [go_sem]), cell_later h (by simp [go_sem]), cell_later h (by simp [go_sem]), cell_later h (by simp [go_sem])⟩⟩⟩)
  obtain ⟨⟨a0, a1, a2, a3, a4⟩, b0, b1, b2, b3, b4⟩ := HV2.out.2 _ (Below.refl _ _)
  have HG1A := Lib.hid (HG1.out _ HV2.out.1)
  clear HG1
  obtain ⟨V2, hV2⟩ : ∃ V2, V2 = ((W.alloc (.cells #[.bool l, .int .u8 k, .string s, .int .i64 a, .slice q M c] 41)).alloc (.cells #[.bool l', .int .u8 k', .string s', .int .i64 a', .slice q' M' c'] 41)) := ⟨_, rfl⟩
  have HE2 := Lib.hid hV2
  rw [← hV2] at HV2 HG1A
  clear hV2 a0 a1 a2 a3 a4 b0 b1 b2 b3 b4
  go_enter Tryd.func9, Tryd.ntmps9
  go_wp2_with fail
  rw [← HE2.out]
  refine HG1A.out.mono ?_
  rintro e w3 ⟨g1, rfl, hg1, hb3⟩
  have HW3 := Lib.hid (below_self2 HV2.out.1 hb3)
  obtain ⟨⟨a0, a1, a2, a3, a4⟩, b0, b1, b2, b3, b4⟩ := HV2.out.2 _ hb3
  have HB3 := Lib.hid hb3
  have HGA := Lib.hid hg1
  clear hb3 hg1 HG1A
  cases g1 with
  | true =>
    go_wp2_with fail
    refine (HKN.out _ HW3.out).mono ?_
    rintro e w4 ⟨rfl, hb4⟩
    have HB4 := Lib.hid (below_self2 HW3.out hb4)
    clear hb4
    go_wp2_with fail
    go_ret
    exact ⟨rfl, HB4.out⟩
  | false =>
  go_wp2_with fail
  refine (HG2.out _ HW3.out).mono ?_
  rintro e w4 ⟨g2, rfl, _, hb4⟩
  have HW4 := Lib.hid (below_self2 HW3.out hb4)
  have HB4 := Lib.hid (HB3.out.trans (hb4.mono HB3.out.size))
  clear a0 a1 a2 a3 a4 b0 b1 b2 b3 b4
  obtain ⟨⟨a0, a1, a2, a3, a4⟩, b0, b1, b2, b3, b4⟩ := HV2.out.2 _ HB4.out
  clear hb4 HG2
  cases g2 with
  | true =>
    go_wp2_with fail
    refine (HKN.out _ HW4.out).mono ?_
    rintro e w5 ⟨rfl, hb5⟩
    have HB5 := Lib.hid (below_self2 HW4.out hb5)
    clear hb5
    go_wp2_with fail
    go_ret
    exact ⟨rfl, HB5.out⟩
  | false =>
  have htw := HGA.out (by simp)
  have HSZ := Lib.hid (show s.size ≤ 65536 ∧ szB 65536 x ∧ x.size ≤ 1000000 from by
    have h1 := twF_size x
    unfold twT at htw
    exact ⟨by omega, twF_szB x (by omega), by omega⟩)
  clear htw HGA
  go_wp2_with fail
  refine (HCP.out HSZ.out.2.2 _ HW4.out).mono ?_
  rintro e w5 ⟨q5, c5, rfl, hc5, hx5, hb5⟩
  have HW5 := Lib.hid (below_self2 HW4.out hb5)
  have HB5 := Lib.hid (HB4.out.trans (hb5.mono HB4.out.size))
  have hbx := below1 w5 (.cells #[.bool l, .int .u8 k, .string s, .int .i64 a, .slice q5 M c5] 41)
  have HV5 := Lib.hid (show Below W.heap.size W (w5.alloc (.cells #[.bool l, .int .u8 k, .string s, .int .i64 a, .slice q5 M c5] 41)) ∧ ∀ w, Below (w5.alloc (.cells #[.bool l, .int .u8 k, .string s, .int .i64 a, .slice q5 M c5] 41)).heap.size (w5.alloc (.cells #[.bool l, .int .u8 k, .string s, .int .i64 a, .slice q5 M c5] 41)) w → Below W.heap.size W w ∧ (w.cell? ⟨W.heap.size, 0, none⟩ = some (.bool l) ∧ w.cell? ⟨W.heap.size, 1, none⟩ = some (.int .u8 k) ∧ w.cell? ⟨W.heap.size, 2, none⟩ = some (.string s) ∧ w.cell? ⟨W.heap.size, 3, none⟩ = some (.int .i64 a) ∧ w.cell? ⟨W.heap.size, 4, none⟩ = some (.slice q M c)) ∧ (w.cell? ⟨(W.heap.size + 1), 0, none⟩ = some (.bool l') ∧ w.cell? ⟨(W.heap.size + 1), 1, none⟩ = some (.int .u8 k') ∧ w.cell? ⟨(W.heap.size + 1), 2, none⟩ = some (.string s') ∧ w.cell? ⟨(W.heap.size + 1), 3, none⟩ = some (.int .i64 a') ∧ w.cell? ⟨(W.heap.size + 1), 4, none⟩ = some (.slice q' M' c')) ∧ (w.cell? ⟨w5.heap.size, 0, none⟩ = some (.bool l) ∧ w.cell? ⟨w5.heap.size, 1, none⟩ = some (.int .u8 k) ∧ w.cell? ⟨w5.heap.size, 2, none⟩ = some (.string s) ∧ w.cell? ⟨w5.heap.size, 3, none⟩ = some (.int .i64 a) ∧ w.cell? ⟨w5.heap.size, 4, none⟩ = some (.slice q5 M c5)) from ⟨below_self2 HW5.out hbx, fun w h => ⟨below_self2 (below_self2 HW5.out hbx) h, (HV2.out.2 w (HB5.out.trans ((hbx.trans (h.mono hbx.size)).mono HB5.out.size))).1, (HV2.out.2 w (HB5.out.trans ((hbx.trans (h.mono hbx.size)).mono HB5.out.size))).2, ⟨cell_later h (by simp [go_sem]), cell_later h (by simp [go_sem]), cell_later h (by simp [go_sem]), cell_later h (by simp [go_sem]), cell_later h (by simp [go_sem])⟩⟩⟩)
  have HC5 := Lib.hid hc5
  have HX5 := Lib.hid (fun (w : World) (h : Below (w5.alloc (.cells #[.bool l, .int .u8 k, .string s, .int .i64 a, .slice q5 M c5] 41)).heap.size (w5.alloc (.cells #[.bool l, .int .u8 k, .string s, .int .i64 a, .slice q5 M c5] 41)) w) => (hx5.later hbx).later h)
  obtain ⟨_, ⟨e0, e1, e2, e3, e4⟩, ⟨f0, f1, f2, f3, f4⟩, d0, d1, d2, d3, d4⟩ := HV5.out.2 _ (Below.refl _ _)
  have HTA := Lib.hid (HT29.out HSZ.out.1 HSZ.out.2.1 (by have := HSZ.out.2.2; omega) q5 c5 _ (w5.alloc (.cells #[.bool l, .int .u8 k, .string s, .int .i64 a, .slice q5 M c5] 41)) HV5.out.1 (HX5.out _ (Below.refl _ _)) hc5)
  have H33J := Lib.hid (fun (w : World) (h : Below (w5.alloc (.cells #[.bool l, .int .u8 k, .string s, .int .i64 a, .slice q5 M c5] 41)).heap.size (w5.alloc (.cells #[.bool l, .int .u8 k, .string s, .int .i64 a, .slice q5 M c5] 41)) w) => H33I.out q5 c5 _ w (HV5.out.2 w h).1 (HX5.out w h) HC5.out)
  have H23J := Lib.hid (fun (w : World) (h : Below (w5.alloc (.cells #[.bool l, .int .u8 k, .string s, .int .i64 a, .slice q5 M c5] 41)).heap.size (w5.alloc (.cells #[.bool l, .int .u8 k, .string s, .int .i64 a, .slice q5 M c5] 41)) w) => H23I.out q5 c5 _ w (HV5.out.2 w h).1 (HX5.out w h) HC5.out)
  clear hc5 hx5 hb5 hbx HCP HT29 H33I H23I a0 a1 a2 a3 a4 b0 b1 b2 b3 b4
  go_wp2_with fail
  refine HTA.out.mono ?_
  rintro e w6 ⟨X, er, rfl, hX, hb6⟩
  have HX := Lib.hid hX
  have HB6 := Lib.hid hb6
  clear e0 e1 e2 e3 e4 f0 f1 f2 f3 f4 d0 d1 d2 d3 d4
  obtain ⟨hW6, ⟨e0, e1, e2, e3, e4⟩, ⟨f0, f1, f2, f3, f4⟩, d0, d1, d2, d3, d4⟩ := HV5.out.2 _ hb6
  have HTB := Lib.hid (HT30.out HSZ.out.1 HSZ.out.2.1 HSZ.out.2.2 w6 hW6)
  clear hX hb6 hW6 HTA HT30
  go_wp2_with fail
  refine HTB.out.mono ?_
  rintro e w7 ⟨X2, er2, rfl, hX2, hb7⟩
  obtain ⟨rfl, rfl⟩ := texts_eq HX.out hX2
  have HB7 := Lib.hid ((HB6.out.trans (hb7.mono HB6.out.size)).trans ((below_drew w7).mono (HB6.out.trans (hb7.mono HB6.out.size)).size))
  clear e0 e1 e2 e3 e4 f0 f1 f2 f3 f4 d0 d1 d2 d3 d4 hX2 hb7 HX HTB
  have HS := Lib.hid (HV5.out.2 _ HB7.out).2
  go_wp2_with fail
  refine wp_region_L [(1000, (fun _ => True : World → Prop)), (37, ((fun w => (w.cell? ⟨W.heap.size, 0, none⟩ = some (.bool l) ∧ w.cell? ⟨W.heap.size, 1, none⟩ = some (.int .u8 k) ∧ w.cell? ⟨W.heap.size, 2, none⟩ = some (.string s) ∧ w.cell? ⟨W.heap.size, 3, none⟩ = some (.int .i64 a) ∧ w.cell? ⟨W.heap.size, 4, none⟩ = some (.slice q M c)) ∧ (w.cell? ⟨(W.heap.size + 1), 0, none⟩ = some (.bool l') ∧ w.cell? ⟨(W.heap.size + 1), 1, none⟩ = some (.int .u8 k') ∧ w.cell? ⟨(W.heap.size + 1), 2, none⟩ = some (.string s') ∧ w.cell? ⟨(W.heap.size + 1), 3, none⟩ = some (.int .i64 a') ∧ w.cell? ⟨(W.heap.size + 1), 4, none⟩ = some (.slice q' M' c')) ∧ (w.cell? ⟨w5.heap.size, 0, none⟩ = some (.bool l) ∧ w.cell? ⟨w5.heap.size, 1, none⟩ = some (.int .u8 k) ∧ w.cell? ⟨w5.heap.size, 2, none⟩ = some (.string s) ∧ w.cell? ⟨w5.heap.size, 3, none⟩ = some (.int .i64 a) ∧ w.cell? ⟨w5.heap.size, 4, none⟩ = some (.slice q5 M c5))) : World → Prop))] (by kernel_rfl) (SL.cons (fun _ => trivial) (SL.cons (fun _ => HS.out) SL.nil)) (fun hHeld => ?_)
  refine wpAnyL_take 0 _ _ (i := 0) (oi := { dst := some 29, op := Op.move (Operand.tmp 6), type := 9, pos := "law.go:65", after := #[], guard := none }) (v := ?_) rfl (by kernel_rfl) (by kernel_rfl) (by kernel_rfl) (fun _ _ _ h => h) rfl (by kernel_rfl) (by kernel_rfl) (by kernel_rfl) (Or.inl ⟨by rfl, ?_⟩) hHeld (fun hHeld => ?_)
  rotate_left
  · intro w hSw
    (try dsimp only at hSw)
    go_simp
    try with_reducible rfl
  try simp only [Act.put, List.setIfInBounds_toArray, List.set_cons_zero, List.set_cons_succ]
  refine wpAnyL_take 0 _ _ (i := 1) (oi := { dst := some 30, op := Op.move (Operand.tmp 8), type := 9, pos := "law.go:65", after := #[], guard := none }) (v := ?_) rfl (by kernel_rfl) (by kernel_rfl) (by kernel_rfl) (fun _ _ _ h => h) rfl (by kernel_rfl) (by kernel_rfl) (by kernel_rfl) (Or.inl ⟨by rfl, ?_⟩) hHeld (fun hHeld => ?_)
  rotate_left
  · intro w hSw
    (try dsimp only at hSw)
    go_simp
    try with_reducible rfl
  try simp only [Act.put, List.setIfInBounds_toArray, List.set_cons_zero, List.set_cons_succ]
  refine wpAnyL_take 0 _ _ (i := 2) (oi := { dst := some 31, op := Op.binOp BinOp.eql 9 (Operand.tmp 29) (Operand.tmp 30) 9, type := 4, pos := "law.go:65", after := #[{ on := 0, ground := Ground.data }, { on := 1, ground := Ground.data }], guard := none }) (v := ?_) rfl (by kernel_rfl) (by kernel_rfl) (by kernel_rfl) (fun _ _ _ h => h) rfl (by kernel_rfl) (by kernel_rfl) (by kernel_rfl) (Or.inl ⟨by rfl, ?_⟩) hHeld (fun hHeld => ?_)
  rotate_left
  · intro w hSw
    (try dsimp only at hSw)
    go_simp
    try with_reducible rfl
  try simp only [Act.put, List.setIfInBounds_toArray, List.set_cons_zero, List.set_cons_succ]
  refine wpAnyL_take 0 _ _ (i := 3) (oi := { dst := some 32, op := Op.move (Operand.tmp 31), type := 4, pos := "law.go:65", after := #[{ on := 2, ground := Ground.data }], guard := none }) (v := ?_) rfl (by kernel_rfl) (by kernel_rfl) (by kernel_rfl) (fun _ _ _ h => h) rfl (by kernel_rfl) (by kernel_rfl) (by kernel_rfl) (Or.inl ⟨by rfl, ?_⟩) hHeld (fun hHeld => ?_)
  rotate_left
  · intro w hSw
    (try dsimp only at hSw)
    go_simp
    try with_reducible rfl
  try simp only [Act.put, List.setIfInBounds_toArray, List.set_cons_zero, List.set_cons_succ]
  refine wpAnyL_take 0 _ _ (i := 4) (oi := { dst := some 33, op := Op.move (Operand.tmp 7), type := 25, pos := "law.go:65", after := #[{ on := 3, ground := Ground.guard }], guard := some (3, true) }) (v := ?_) rfl (by kernel_rfl) (by kernel_rfl) (by kernel_rfl) (fun _ _ _ h => h) rfl (by kernel_rfl) (by kernel_rfl) (by kernel_rfl) (Or.inl ⟨by rfl, ?_⟩) hHeld (fun hHeld => ?_)
  rotate_left
  · intro w hSw
    (try dsimp only at hSw)
    go_simp
    try with_reducible rfl
  try simp only [Act.put, List.setIfInBounds_toArray, List.set_cons_zero, List.set_cons_succ]
  refine wpAnyL_take 0 _ _ (i := 5) (oi := { dst := some 34, op := Op.move (Operand.tmp 9), type := 25, pos := "law.go:65", after := #[{ on := 3, ground := Ground.guard }], guard := some (3, true) }) (v := ?_) rfl (by kernel_rfl) (by kernel_rfl) (by kernel_rfl) (fun _ _ _ h => h) rfl (by kernel_rfl) (by kernel_rfl) (by kernel_rfl) (Or.inl ⟨by rfl, ?_⟩) hHeld (fun hHeld => ?_)
  rotate_left
  · intro w hSw
    (try dsimp only at hSw)
    go_simp
    try with_reducible rfl
  try simp only [Act.put, List.setIfInBounds_toArray, List.set_cons_zero, List.set_cons_succ]
  refine wpAnyL_take 0 _ _ (i := 6) (oi := { dst := some 35, op := Op.binOp BinOp.eql 25 (Operand.tmp 33) (Operand.tmp 34) 25, type := 4, pos := "law.go:65", after := #[{ on := 4, ground := Ground.data }, { on := 5, ground := Ground.data }, { on := 3, ground := Ground.guard }], guard := some (3, true) }) (v := ?_) rfl (by kernel_rfl) (by kernel_rfl) (by kernel_rfl) (fun _ _ _ h => h) rfl (by kernel_rfl) (by kernel_rfl) (by kernel_rfl) (Or.inl ⟨by rfl, ?_⟩) hHeld (fun hHeld => ?_)
  rotate_left
  · intro w hSw
    (try dsimp only at hSw)
    go_simp
    try with_reducible rfl
  try simp only [Act.put, List.setIfInBounds_toArray, List.set_cons_zero, List.set_cons_succ]
  refine wpAnyL_take 0 _ _ (i := 7) (oi := { dst := some 36, op := Op.pick (Operand.tmp 32) (Operand.tmp 35) (Operand.const (Value.bool false)), type := 4, pos := "law.go:65", after := #[{ on := 3, ground := Ground.data }, { on := 6, ground := Ground.data }], guard := none }) (v := ?_) rfl (by kernel_rfl) (by kernel_rfl) (by kernel_rfl) (fun _ _ _ h => h) rfl (by kernel_rfl) (by kernel_rfl) (by kernel_rfl) (Or.inl ⟨by rfl, ?_⟩) hHeld (fun hHeld => ?_)
  rotate_left
  · intro w hSw
    (try dsimp only at hSw)
    go_simp
    try with_reducible rfl
  try simp only [Act.put, List.setIfInBounds_toArray, List.set_cons_zero, List.set_cons_succ]
  refine wpAnyL_take 0 _ _ (i := 8) (oi := { dst := some 37, op := Op.move (Operand.tmp 36), type := 4, pos := "law.go:65", after := #[{ on := 7, ground := Ground.data }, { on := 3, ground := Ground.chain }], guard := none }) (v := ?_) rfl (by kernel_rfl) (by kernel_rfl) (by kernel_rfl) (fun _ _ _ h => h) rfl (by kernel_rfl) (by kernel_rfl) (by kernel_rfl) (Or.inl ⟨by rfl, ?_⟩) hHeld (fun hHeld => ?_)
  rotate_left
  · intro w hSw
    (try dsimp only at hSw)
    go_simp
    try with_reducible rfl
  try simp only [Act.put, List.setIfInBounds_toArray, List.set_cons_zero, List.set_cons_succ]
  refine wpAnyL_take 1 _ _ (i := 9) (oi := { dst := some 38, op := Op.load 41 (Operand.tmp 2), type := 41, pos := "law.go:65", after := #[{ on := 8, ground := Ground.guard }], guard := some (8, true) }) (v := ?_) rfl (by kernel_rfl) (by kernel_rfl) (by kernel_rfl) (fun _ _ _ h => h) rfl (by kernel_rfl) (by kernel_rfl) (by kernel_rfl) (Or.inl ⟨by rfl, ?_⟩) hHeld (fun hHeld => ?_)
  rotate_left
  · intro w hSw
    (try dsimp only at hSw)
    obtain ⟨⟨e0, e1, e2, e3, e4⟩, ⟨f0, f1, f2, f3, f4⟩, d0, d1, d2, d3, d4⟩ := hSw
    go_simp
    try with_reducible rfl
  try simp only [Act.put, List.setIfInBounds_toArray, List.set_cons_zero, List.set_cons_succ]
  refine wpAnyL_take 1 _ _ (i := 11) (oi := { dst := some 40, op := Op.load 41 (Operand.tmp 2), type := 41, pos := "law.go:65", after := #[{ on := 8, ground := Ground.guard }], guard := some (8, true) }) (v := ?_) rfl (by kernel_rfl) (by kernel_rfl) (by kernel_rfl) (fun _ _ _ h => h) rfl (by kernel_rfl) (by kernel_rfl) (by kernel_rfl) (Or.inl ⟨by rfl, ?_⟩) hHeld (fun hHeld => ?_)
  rotate_left
  · intro w hSw
    (try dsimp only at hSw)
    obtain ⟨⟨e0, e1, e2, e3, e4⟩, ⟨f0, f1, f2, f3, f4⟩, d0, d1, d2, d3, d4⟩ := hSw
    go_simp
    try with_reducible rfl
  try simp only [Act.put, List.setIfInBounds_toArray, List.set_cons_zero, List.set_cons_succ]
  refine wpAnyL_ready (rs := [10]) (by kernel_rfl) (by simp) ?_
  refine AllReadyL.cons (o := { dst := some 39, op := Op.call { callee := Callee.value (Operand.func 31), args := #[Operand.tmp 38], argTypes := #[41] }, type := 3, pos := "law.go:65", after := #[{ on := 9, ground := Ground.data }, { on := 8, ground := Ground.chain }, { on := 8, ground := Ground.guard }], guard := some (8, true) }) rfl (fun K hK => ?_) AllReadyL.nil
  go_simp
  go_at_call 31
  refine (H31.out _ (HV5.out.2 _ HB7.out).1).mono ?_
  rintro e w8 ⟨rfl, hb8⟩
  have HB8 := Lib.hid (HB7.out.trans (hb8.mono HB7.out.size))
  have hs8 := (HV5.out.2 _ HB8.out).2
  clear hb8
  refine hK.out _ _ (SL.cons (fun _ => trivial) (SL.cons (fun _ => hs8) SL.nil)) (fun hHeld => ?_)
  clear hK K
  try simp only [Act.put, List.setIfInBounds_toArray, List.set_cons_zero, List.set_cons_succ]
  refine wpAnyL_ready (rs := [12]) (by kernel_rfl) (by simp) ?_
  refine AllReadyL.cons (o := { dst := some 41, op := Op.call { callee := Callee.value (Operand.func 32), args := #[Operand.tmp 40], argTypes := #[41] }, type := 3, pos := "law.go:65", after := #[{ on := 11, ground := Ground.data }, { on := 10, ground := Ground.chain }, { on := 8, ground := Ground.guard }], guard := some (8, true) }) rfl (fun K hK => ?_) AllReadyL.nil
  go_simp
  go_at_call 32
  refine (H32.out _ (HV5.out.2 _ HB8.out).1).mono ?_
  rintro e w9 ⟨rfl, hb9⟩
  have HB9 := Lib.hid (HB8.out.trans (hb9.mono HB8.out.size))
  have hs9 := (HV5.out.2 _ HB9.out).2
  clear hb9
  refine hK.out _ _ (SL.cons (fun _ => trivial) (SL.cons (fun _ => hs9) SL.nil)) (fun hHeld => ?_)
  clear hK K
  try simp only [Act.put, List.setIfInBounds_toArray, List.set_cons_zero, List.set_cons_succ]
  refine wpAnyL_take 0 _ _ (i := 13) (oi := { dst := some 42, op := Op.binOp BinOp.eql 3 (Operand.tmp 39) (Operand.tmp 41) 3, type := 4, pos := "law.go:65", after := #[{ on := 10, ground := Ground.data }, { on := 12, ground := Ground.data }, { on := 8, ground := Ground.guard }], guard := some (8, true) }) (v := ?_) rfl (by kernel_rfl) (by kernel_rfl) (by kernel_rfl) (fun _ _ _ h => h) rfl (by kernel_rfl) (by kernel_rfl) (by kernel_rfl) (Or.inl ⟨by rfl, ?_⟩) hHeld (fun hHeld => ?_)
  rotate_left
  · intro w hSw
    (try dsimp only at hSw)
    go_simp
    try with_reducible rfl
  try simp only [Act.put, List.setIfInBounds_toArray, List.set_cons_zero, List.set_cons_succ]
  refine wpAnyL_take 0 _ _ (i := 14) (oi := { dst := some 43, op := Op.pick (Operand.tmp 37) (Operand.tmp 42) (Operand.const (Value.bool false)), type := 4, pos := "law.go:65", after := #[{ on := 8, ground := Ground.data }, { on := 13, ground := Ground.data }], guard := none }) (v := ?_) rfl (by kernel_rfl) (by kernel_rfl) (by kernel_rfl) (fun _ _ _ h => h) rfl (by kernel_rfl) (by kernel_rfl) (by kernel_rfl) (Or.inl ⟨by rfl, ?_⟩) hHeld (fun hHeld => ?_)
  rotate_left
  · intro w hSw
    (try dsimp only at hSw)
    go_simp
    try with_reducible rfl
  try simp only [Act.put, List.setIfInBounds_toArray, List.set_cons_zero, List.set_cons_succ]
  refine wpAnyL_take 0 _ _ (i := 15) (oi := { dst := some 44, op := Op.move (Operand.tmp 43), type := 4, pos := "law.go:65", after := #[{ on := 14, ground := Ground.data }, { on := 12, ground := Ground.chain }], guard := none }) (v := ?_) rfl (by kernel_rfl) (by kernel_rfl) (by kernel_rfl) (fun _ _ _ h => h) rfl (by kernel_rfl) (by kernel_rfl) (by kernel_rfl) (Or.inl ⟨by rfl, ?_⟩) hHeld (fun hHeld => ?_)
  rotate_left
  · intro w hSw
    (try dsimp only at hSw)
    go_simp
    try with_reducible rfl
  try simp only [Act.put, List.setIfInBounds_toArray, List.set_cons_zero, List.set_cons_succ]
  refine wpAnyL_take 1 _ _ (i := 16) (oi := { dst := some 45, op := Op.load 41 (Operand.tmp 2), type := 41, pos := "law.go:65", after := #[{ on := 15, ground := Ground.guard }], guard := some (15, true) }) (v := ?_) rfl (by kernel_rfl) (by kernel_rfl) (by kernel_rfl) (fun _ _ _ h => h) rfl (by kernel_rfl) (by kernel_rfl) (by kernel_rfl) (Or.inl ⟨by rfl, ?_⟩) hHeld (fun hHeld => ?_)
  rotate_left
  · intro w hSw
    (try dsimp only at hSw)
    obtain ⟨⟨e0, e1, e2, e3, e4⟩, ⟨f0, f1, f2, f3, f4⟩, d0, d1, d2, d3, d4⟩ := hSw
    go_simp
    try with_reducible rfl
  try simp only [Act.put, List.setIfInBounds_toArray, List.set_cons_zero, List.set_cons_succ]
  refine wpAnyL_take 1 _ _ (i := 17) (oi := { dst := some 46, op := Op.load 41 (Operand.tmp 3), type := 41, pos := "law.go:65", after := #[{ on := 15, ground := Ground.guard }], guard := some (15, true) }) (v := ?_) rfl (by kernel_rfl) (by kernel_rfl) (by kernel_rfl) (fun _ _ _ h => h) rfl (by kernel_rfl) (by kernel_rfl) (by kernel_rfl) (Or.inl ⟨by rfl, ?_⟩) hHeld (fun hHeld => ?_)
  rotate_left
  · intro w hSw
    (try dsimp only at hSw)
    obtain ⟨⟨e0, e1, e2, e3, e4⟩, ⟨f0, f1, f2, f3, f4⟩, d0, d1, d2, d3, d4⟩ := hSw
    go_simp
    try with_reducible rfl
  try simp only [Act.put, List.setIfInBounds_toArray, List.set_cons_zero, List.set_cons_succ]
  refine wpAnyL_take 1 _ _ (i := 19) (oi := { dst := some 48, op := Op.load 41 (Operand.tmp 2), type := 41, pos := "law.go:65", after := #[{ on := 15, ground := Ground.guard }], guard := some (15, true) }) (v := ?_) rfl (by kernel_rfl) (by kernel_rfl) (by kernel_rfl) (fun _ _ _ h => h) rfl (by kernel_rfl) (by kernel_rfl) (by kernel_rfl) (Or.inl ⟨by rfl, ?_⟩) hHeld (fun hHeld => ?_)
  rotate_left
  · intro w hSw
    (try dsimp only at hSw)
    obtain ⟨⟨e0, e1, e2, e3, e4⟩, ⟨f0, f1, f2, f3, f4⟩, d0, d1, d2, d3, d4⟩ := hSw
    go_simp
    try with_reducible rfl
  try simp only [Act.put, List.setIfInBounds_toArray, List.set_cons_zero, List.set_cons_succ]
  refine wpAnyL_take 1 _ _ (i := 20) (oi := { dst := some 49, op := Op.load 41 (Operand.tmp 3), type := 41, pos := "law.go:65", after := #[{ on := 15, ground := Ground.guard }], guard := some (15, true) }) (v := ?_) rfl (by kernel_rfl) (by kernel_rfl) (by kernel_rfl) (fun _ _ _ h => h) rfl (by kernel_rfl) (by kernel_rfl) (by kernel_rfl) (Or.inl ⟨by rfl, ?_⟩) hHeld (fun hHeld => ?_)
  rotate_left
  · intro w hSw
    (try dsimp only at hSw)
    obtain ⟨⟨e0, e1, e2, e3, e4⟩, ⟨f0, f1, f2, f3, f4⟩, d0, d1, d2, d3, d4⟩ := hSw
    go_simp
    try with_reducible rfl
  try simp only [Act.put, List.setIfInBounds_toArray, List.set_cons_zero, List.set_cons_succ]
  refine wpAnyL_ready (rs := [18]) (by kernel_rfl) (by simp) ?_
  refine AllReadyL.cons (o := { dst := some 47, op := Op.call { callee := Callee.value (Operand.func 33), args := #[Operand.tmp 45, Operand.tmp 46], argTypes := #[41, 41] }, type := 4, pos := "law.go:65", after := #[{ on := 16, ground := Ground.data }, { on := 17, ground := Ground.data }, { on := 15, ground := Ground.chain }, { on := 15, ground := Ground.guard }], guard := some (15, true) }) rfl (fun K hK => ?_) AllReadyL.nil
  go_simp
  go_at_call 33
  refine (H33.out _ (HV5.out.2 _ HB9.out).1).mono ?_
  rintro e w10 ⟨rfl, hb10⟩
  have HB10 := Lib.hid (HB9.out.trans (hb10.mono HB9.out.size))
  have hs10 := (HV5.out.2 _ HB10.out).2
  clear hb10
  refine hK.out _ _ (SL.cons (fun _ => trivial) (SL.cons (fun _ => hs10) SL.nil)) (fun hHeld => ?_)
  clear hK K
  try simp only [Act.put, List.setIfInBounds_toArray, List.set_cons_zero, List.set_cons_succ]
  refine wpAnyL_ready (rs := [21]) (by kernel_rfl) (by simp) ?_
  refine AllReadyL.cons (o := { dst := some 50, op := Op.call { callee := Callee.value (Operand.func 23), args := #[Operand.tmp 48, Operand.tmp 49], argTypes := #[41, 41] }, type := 4, pos := "law.go:65", after := #[{ on := 19, ground := Ground.data }, { on := 20, ground := Ground.data }, { on := 18, ground := Ground.chain }, { on := 15, ground := Ground.guard }], guard := some (15, true) }) rfl (fun K hK => ?_) AllReadyL.nil
  go_simp
  go_at_call 23
  refine (H23.out _ (HV5.out.2 _ HB10.out).1).mono ?_
  rintro e w11 ⟨rfl, hb11⟩
  have HB11 := Lib.hid (HB10.out.trans (hb11.mono HB10.out.size))
  have hs11 := (HV5.out.2 _ HB11.out).2
  clear hb11
  refine hK.out _ _ (SL.cons (fun _ => trivial) (SL.cons (fun _ => hs11) SL.nil)) (fun hHeld => ?_)
  clear hK K
  try simp only [Act.put, List.setIfInBounds_toArray, List.set_cons_zero, List.set_cons_succ]
  refine wpAnyL_take 0 _ _ (i := 22) (oi := { dst := some 51, op := Op.binOp BinOp.eql 4 (Operand.tmp 47) (Operand.tmp 50) 4, type := 4, pos := "law.go:65", after := #[{ on := 18, ground := Ground.data }, { on := 21, ground := Ground.data }, { on := 15, ground := Ground.guard }], guard := some (15, true) }) (v := ?_) rfl (by kernel_rfl) (by kernel_rfl) (by kernel_rfl) (fun _ _ _ h => h) rfl (by kernel_rfl) (by kernel_rfl) (by kernel_rfl) (Or.inl ⟨by rfl, ?_⟩) hHeld (fun hHeld => ?_)
  rotate_left
  · intro w hSw
    (try dsimp only at hSw)
    go_simp
    try with_reducible rfl
  try simp only [Act.put, List.setIfInBounds_toArray, List.set_cons_zero, List.set_cons_succ]
  refine wpAnyL_take 0 _ _ (i := 23) (oi := { dst := some 52, op := Op.pick (Operand.tmp 44) (Operand.tmp 51) (Operand.const (Value.bool false)), type := 4, pos := "law.go:65", after := #[{ on := 15, ground := Ground.data }, { on := 22, ground := Ground.data }], guard := none }) (v := ?_) rfl (by kernel_rfl) (by kernel_rfl) (by kernel_rfl) (fun _ _ _ h => h) rfl (by kernel_rfl) (by kernel_rfl) (by kernel_rfl) (Or.inl ⟨by rfl, ?_⟩) hHeld (fun hHeld => ?_)
  rotate_left
  · intro w hSw
    (try dsimp only at hSw)
    go_simp
    try with_reducible rfl
  try simp only [Act.put, List.setIfInBounds_toArray, List.set_cons_zero, List.set_cons_succ]
  refine wpAnyL_take 0 _ _ (i := 24) (oi := { dst := some 53, op := Op.move (Operand.tmp 52), type := 4, pos := "law.go:65", after := #[{ on := 23, ground := Ground.data }, { on := 21, ground := Ground.chain }], guard := none }) (v := ?_) rfl (by kernel_rfl) (by kernel_rfl) (by kernel_rfl) (fun _ _ _ h => h) rfl (by kernel_rfl) (by kernel_rfl) (by kernel_rfl) (Or.inl ⟨by rfl, ?_⟩) hHeld (fun hHeld => ?_)
  rotate_left
  · intro w hSw
    (try dsimp only at hSw)
    go_simp
    try with_reducible rfl
  try simp only [Act.put, List.setIfInBounds_toArray, List.set_cons_zero, List.set_cons_succ]
  refine wpAnyL_take 1 _ _ (i := 25) (oi := { dst := some 54, op := Op.load 41 (Operand.tmp 5), type := 41, pos := "law.go:65", after := #[{ on := 24, ground := Ground.guard }], guard := some (24, true) }) (v := ?_) rfl (by kernel_rfl) (by kernel_rfl) (by kernel_rfl) (fun _ _ _ h => h) rfl (by kernel_rfl) (by kernel_rfl) (by kernel_rfl) (Or.inl ⟨by rfl, ?_⟩) hHeld (fun hHeld => ?_)
  rotate_left
  · intro w hSw
    (try dsimp only at hSw)
    obtain ⟨⟨e0, e1, e2, e3, e4⟩, ⟨f0, f1, f2, f3, f4⟩, d0, d1, d2, d3, d4⟩ := hSw
    go_simp
    try with_reducible rfl
  try simp only [Act.put, List.setIfInBounds_toArray, List.set_cons_zero, List.set_cons_succ]
  refine wpAnyL_take 1 _ _ (i := 26) (oi := { dst := some 55, op := Op.load 41 (Operand.tmp 2), type := 41, pos := "law.go:65", after := #[{ on := 24, ground := Ground.guard }], guard := some (24, true) }) (v := ?_) rfl (by kernel_rfl) (by kernel_rfl) (by kernel_rfl) (fun _ _ _ h => h) rfl (by kernel_rfl) (by kernel_rfl) (by kernel_rfl) (Or.inl ⟨by rfl, ?_⟩) hHeld (fun hHeld => ?_)
  rotate_left
  · intro w hSw
    (try dsimp only at hSw)
    obtain ⟨⟨e0, e1, e2, e3, e4⟩, ⟨f0, f1, f2, f3, f4⟩, d0, d1, d2, d3, d4⟩ := hSw
    go_simp
    try with_reducible rfl
  try simp only [Act.put, List.setIfInBounds_toArray, List.set_cons_zero, List.set_cons_succ]
  refine wpAnyL_ready (rs := [27]) (by kernel_rfl) (by simp) ?_
  refine AllReadyL.cons (o := { dst := some 56, op := Op.call { callee := Callee.value (Operand.func 33), args := #[Operand.tmp 54, Operand.tmp 55], argTypes := #[41, 41] }, type := 4, pos := "law.go:65", after := #[{ on := 25, ground := Ground.data }, { on := 26, ground := Ground.data }, { on := 24, ground := Ground.chain }, { on := 24, ground := Ground.guard }], guard := some (24, true) }) rfl (fun K hK => ?_) AllReadyL.nil
  go_simp
  go_at_call 33
  refine (H33J.out _ HB11.out).mono ?_
  rintro e w12 ⟨rfl, hb12⟩
  have HB12 := Lib.hid (HB11.out.trans (hb12.mono HB11.out.size))
  have hs12 := (HV5.out.2 _ HB12.out).2
  clear hb12
  refine hK.out _ _ (SL.cons (fun _ => trivial) (SL.cons (fun _ => hs12) SL.nil)) (fun hHeld => ?_)
  clear hK K
  try simp only [Act.put, List.setIfInBounds_toArray, List.set_cons_zero, List.set_cons_succ]
  refine wpAnyL_take 0 _ _ (i := 28) (oi := { dst := some 57, op := Op.pick (Operand.tmp 53) (Operand.tmp 56) (Operand.const (Value.bool false)), type := 4, pos := "law.go:65", after := #[{ on := 24, ground := Ground.data }, { on := 27, ground := Ground.data }], guard := none }) (v := ?_) rfl (by kernel_rfl) (by kernel_rfl) (by kernel_rfl) (fun _ _ _ h => h) rfl (by kernel_rfl) (by kernel_rfl) (by kernel_rfl) (Or.inl ⟨by rfl, ?_⟩) hHeld (fun hHeld => ?_)
  rotate_left
  · intro w hSw
    (try dsimp only at hSw)
    go_simp
    try with_reducible rfl
  try simp only [Act.put, List.setIfInBounds_toArray, List.set_cons_zero, List.set_cons_succ]
  refine wpAnyL_take 0 _ _ (i := 29) (oi := { dst := some 58, op := Op.move (Operand.tmp 57), type := 4, pos := "law.go:65", after := #[{ on := 28, ground := Ground.data }, { on := 27, ground := Ground.chain }], guard := none }) (v := ?_) rfl (by kernel_rfl) (by kernel_rfl) (by kernel_rfl) (fun _ _ _ h => h) rfl (by kernel_rfl) (by kernel_rfl) (by kernel_rfl) (Or.inl ⟨by rfl, ?_⟩) hHeld (fun hHeld => ?_)
  rotate_left
  · intro w hSw
    (try dsimp only at hSw)
    go_simp
    try with_reducible rfl
  try simp only [Act.put, List.setIfInBounds_toArray, List.set_cons_zero, List.set_cons_succ]
  refine wpAnyL_take 1 _ _ (i := 30) (oi := { dst := some 59, op := Op.load 41 (Operand.tmp 5), type := 41, pos := "law.go:65", after := #[{ on := 29, ground := Ground.guard }], guard := some (29, true) }) (v := ?_) rfl (by kernel_rfl) (by kernel_rfl) (by kernel_rfl) (fun _ _ _ h => h) rfl (by kernel_rfl) (by kernel_rfl) (by kernel_rfl) (Or.inl ⟨by rfl, ?_⟩) hHeld (fun hHeld => ?_)
  rotate_left
  · intro w hSw
    (try dsimp only at hSw)
    obtain ⟨⟨e0, e1, e2, e3, e4⟩, ⟨f0, f1, f2, f3, f4⟩, d0, d1, d2, d3, d4⟩ := hSw
    go_simp
    try with_reducible rfl
  try simp only [Act.put, List.setIfInBounds_toArray, List.set_cons_zero, List.set_cons_succ]
  refine wpAnyL_take 1 _ _ (i := 31) (oi := { dst := some 60, op := Op.load 41 (Operand.tmp 2), type := 41, pos := "law.go:65", after := #[{ on := 29, ground := Ground.guard }], guard := some (29, true) }) (v := ?_) rfl (by kernel_rfl) (by kernel_rfl) (by kernel_rfl) (fun _ _ _ h => h) rfl (by kernel_rfl) (by kernel_rfl) (by kernel_rfl) (Or.inl ⟨by rfl, ?_⟩) hHeld (fun hHeld => ?_)
  rotate_left
  · intro w hSw
    (try dsimp only at hSw)
    obtain ⟨⟨e0, e1, e2, e3, e4⟩, ⟨f0, f1, f2, f3, f4⟩, d0, d1, d2, d3, d4⟩ := hSw
    go_simp
    try with_reducible rfl
  try simp only [Act.put, List.setIfInBounds_toArray, List.set_cons_zero, List.set_cons_succ]
  refine wpAnyL_ready (rs := [32]) (by kernel_rfl) (by simp) ?_
  refine AllReadyL.cons (o := { dst := some 61, op := Op.call { callee := Callee.value (Operand.func 23), args := #[Operand.tmp 59, Operand.tmp 60], argTypes := #[41, 41] }, type := 4, pos := "law.go:65", after := #[{ on := 30, ground := Ground.data }, { on := 31, ground := Ground.data }, { on := 29, ground := Ground.chain }, { on := 29, ground := Ground.guard }], guard := some (29, true) }) rfl (fun K hK => ?_) AllReadyL.nil
  go_simp
  go_at_call 23
  refine (H23J.out _ HB12.out).mono ?_
  rintro e w13 ⟨rfl, hb13⟩
  have HB13 := Lib.hid (HB12.out.trans (hb13.mono HB12.out.size))
  have hs13 := (HV5.out.2 _ HB13.out).2
  clear hb13
  refine hK.out _ _ (SL.cons (fun _ => trivial) (SL.cons (fun _ => hs13) SL.nil)) (fun hHeld => ?_)
  clear hK K
  try simp only [Act.put, List.setIfInBounds_toArray, List.set_cons_zero, List.set_cons_succ]
  refine wpAnyL_take 0 _ _ (i := 33) (oi := { dst := some 62, op := Op.pick (Operand.tmp 58) (Operand.tmp 61) (Operand.const (Value.bool false)), type := 4, pos := "law.go:65", after := #[{ on := 29, ground := Ground.data }, { on := 32, ground := Ground.data }], guard := none }) (v := ?_) rfl (by kernel_rfl) (by kernel_rfl) (by kernel_rfl) (fun _ _ _ h => h) rfl (by kernel_rfl) (by kernel_rfl) (by kernel_rfl) (Or.inl ⟨by rfl, ?_⟩) hHeld (fun hHeld => ?_)
  rotate_left
  · intro w hSw
    (try dsimp only at hSw)
    go_simp
    try with_reducible rfl
  try simp only [Act.put, List.setIfInBounds_toArray, List.set_cons_zero, List.set_cons_succ]
  refine wpAnyL_take 0 _ _ (i := 34) (oi := { dst := some 63, op := Op.move (Operand.tmp 62), type := 4, pos := "law.go:65", after := #[{ on := 33, ground := Ground.data }, { on := 32, ground := Ground.chain }], guard := none }) (v := ?_) rfl (by kernel_rfl) (by kernel_rfl) (by kernel_rfl) (fun _ _ _ h => h) rfl (by kernel_rfl) (by kernel_rfl) (by kernel_rfl) (Or.inl ⟨by rfl, ?_⟩) hHeld (fun hHeld => ?_)
  rotate_left
  · intro w hSw
    (try dsimp only at hSw)
    go_simp
    try with_reducible rfl
  try simp only [Act.put, List.setIfInBounds_toArray, List.set_cons_zero, List.set_cons_succ]
  refine wpAnyL_ready (rs := [35]) (by kernel_rfl) (by simp) ?_
  refine AllReadyL.cons (o := { dst := some 64, op := Op.call { callee := Callee.value (Operand.func 20), args := #[], argTypes := #[] }, type := 4, pos := "law.go:65", after := #[{ on := 34, ground := Ground.chain }, { on := 34, ground := Ground.guard }], guard := some (34, true) }) rfl (fun K hK => ?_) AllReadyL.nil
  go_simp
  go_at_call 20
  refine (HKN.out _ (HV5.out.2 _ HB13.out).1).mono ?_
  rintro e w14 ⟨rfl, hb14⟩
  have HB14 := Lib.hid (HB13.out.trans (hb14.mono HB13.out.size))
  have hs14 := (HV5.out.2 _ HB14.out).2
  clear hb14
  refine hK.out _ _ (SL.cons (fun _ => trivial) (SL.cons (fun _ => hs14) SL.nil)) (fun hHeld => ?_)
  clear hK K
  try simp only [Act.put, List.setIfInBounds_toArray, List.set_cons_zero, List.set_cons_succ]
  refine wpAnyL_take 0 _ _ (i := 36) (oi := { dst := some 65, op := Op.pick (Operand.tmp 63) (Operand.tmp 64) (Operand.const (Value.bool false)), type := 4, pos := "law.go:65", after := #[{ on := 34, ground := Ground.data }, { on := 35, ground := Ground.data }], guard := none }) (v := ?_) rfl (by kernel_rfl) (by kernel_rfl) (by kernel_rfl) (fun _ _ _ h => h) rfl (by kernel_rfl) (by kernel_rfl) (by kernel_rfl) (Or.inl ⟨by rfl, ?_⟩) hHeld (fun hHeld => ?_)
  rotate_left
  · intro w hSw
    (try dsimp only at hSw)
    go_simp
    try with_reducible rfl
  try simp only [Act.put, List.setIfInBounds_toArray, List.set_cons_zero, List.set_cons_succ]
  refine wpAnyL_ready (rs := [37]) (by kernel_rfl) (by simp) ?_
  refine AllReadyL.cons (o := { dst := some 4, op := Op.assign (Operand.tmp 65), type := 4, pos := "law.go:65", after := #[{ on := 36, ground := Ground.data }, { on := 35, ground := Ground.chain }, { on := 0, ground := Ground.phase }, { on := 1, ground := Ground.phase }, { on := 2, ground := Ground.phase }, { on := 3, ground := Ground.phase }, { on := 4, ground := Ground.phase }, { on := 5, ground := Ground.phase }, { on := 6, ground := Ground.phase }, { on := 7, ground := Ground.phase }, { on := 8, ground := Ground.phase }, { on := 9, ground := Ground.phase }, { on := 10, ground := Ground.phase }, { on := 11, ground := Ground.phase }, { on := 12, ground := Ground.phase }, { on := 13, ground := Ground.phase }, { on := 14, ground := Ground.phase }, { on := 15, ground := Ground.phase }, { on := 16, ground := Ground.phase }, { on := 17, ground := Ground.phase }, { on := 18, ground := Ground.phase }, { on := 19, ground := Ground.phase }, { on := 20, ground := Ground.phase }, { on := 21, ground := Ground.phase }, { on := 22, ground := Ground.phase }, { on := 23, ground := Ground.phase }, { on := 24, ground := Ground.phase }, { on := 25, ground := Ground.phase }, { on := 26, ground := Ground.phase }, { on := 27, ground := Ground.phase }, { on := 28, ground := Ground.phase }, { on := 29, ground := Ground.phase }, { on := 30, ground := Ground.phase }, { on := 31, ground := Ground.phase }, { on := 32, ground := Ground.phase }, { on := 33, ground := Ground.phase }, { on := 34, ground := Ground.phase }, { on := 35, ground := Ground.phase }, { on := 36, ground := Ground.phase }], guard := none }) rfl (fun K hK => ?_) AllReadyL.nil
  go_simp
  refine hK.out _ _ (SL.cons (fun _ => trivial) (SL.cons (fun h => absurd h (by decide +kernel)) SL.nil)) (fun hHeld => ?_)
  clear hK K
  try simp only [Act.put, List.setIfInBounds_toArray, List.set_cons_zero, List.set_cons_succ]
  refine wpAnyL_done (by kernel_rfl) ?_ _
  go_wp2_with fail
  go_ret
  exact ⟨rfl, (HV5.out.2 _ HB14.out).1⟩
end Go.Proofs.YtlifankiljbdjaaDoor
