/- TreeLists: the law's walk. -/
import Derived.Test.YtlifankiljbdjaaDoorU10
import Derived.Test.YtlifankiljbdjaaDoorU19
import Derived.Deep.RegionHeld3
namespace Go.Proofs.YtlifankiljbdjaaDoor
open Go Go.RowKit

theorem list_txt0 {X Y : ByteArray} {l1 : Bool} {k1 : Int} {s1 : ByteArray} {a1 : Int} {x1 r1 : Fo} {T : List UInt8} (h : X.data.toList ++ txtF (decide ((0 : Nat) = 0)) (.cons l1 k1 s1 a1 x1 r1) = T) (hy : Y.data.toList = txtT l1 k1 s1 x1) : (X ++ Y).data.toList ++ txtF false r1 = T := by
  have h2 : X.data.toList ++ (txtT l1 k1 s1 x1 ++ txtF false r1) = T := h
  rw [app_data, hy, List.append_assoc]; exact h2
theorem list_txt1 {X Y : ByteArray} {i : Nat} {l1 : Bool} {k1 : Int} {s1 : ByteArray} {a1 : Int} {x1 r1 : Fo} {T : List UInt8} (hi : ¬ i = 0) (h : X.data.toList ++ txtF (decide (i = 0)) (.cons l1 k1 s1 a1 x1 r1) = T) (hy : Y.data.toList = txtT l1 k1 s1 x1) : (X ++ (⟨#[32]⟩ : ByteArray) ++ Y).data.toList ++ txtF false r1 = T := by
  rw [decide_eq_false hi] at h
  have h2 : X.data.toList ++ ([32] ++ (txtT l1 k1 s1 x1 ++ txtF false r1)) = T := h
  rw [app_data, app_data, hy, List.append_assoc, List.append_assoc]; exact h2
theorem toList_byte' {X Y : ByteArray} (h : X.data.toList = Y.data.toList) : X = Y := by
  cases X; cases Y
  simp at h
  rw [h]
theorem wpAnyL_named {P : Program} {md : Region.Mode} {ops : Array Oper} {Q : Exit → Act → World → Prop} {ks : List (Nat × (World → Prop))} {fuel : Nat} {listed : Array Bool} {a : Act} {w : World} (h : ∀ (Q0 : Exit → Act → World → Prop) (A0 : Act), Q0 = Q → A0 = a → wpAnyL P md ops Q0 ks fuel listed A0 w) : wpAnyL P md ops Q ks fuel listed a w := h Q a rfl rfl
theorem list_size0 (X Y : ByteArray) : (X ++ Y).size = X.size + Y.size := by simp [ByteArray.size_append]
theorem list_size1 (X Y : ByteArray) : (X ++ (⟨#[32]⟩ : ByteArray) ++ Y).size = X.size + 1 + Y.size := by
  rw [ByteArray.size_append, ByteArray.size_append]; rfl
theorem below_self3 {W w w' : World} (h : Below W.heap.size W w) (k : Below w.heap.size w w') : Below W.heap.size W w' := h.trans (k.mono h.size)
set_option maxRecDepth 100000 in
set_option maxHeartbeats 6400000 in
theorem treelists_long (p p' : Option Addr) (n c n' c' : Nat) (W : World) (h : 20 < n ∨ 20 < n') (hn : n ≤ 281474976710656) (hn' : n' ≤ 281474976710656) (hm : MaxAt W) :
    Calls Tryd.prog 12 #[.slice p n c, .slice p' n' c'] W fun e w' => e = .returned (.bool true) ∧ Below W.heap.size W w' := by
  have HKN := Lib.hid (known20 W hm)
  have i1 : (n : Int) ≤ 281474976710656 := by omega
  have i2 : (n' : Int) ≤ 281474976710656 := by omega
  clear hm
  by_cases h1 : 20 < n
  · have j1 : (20 : Int) < (n : Int) := by omega
    go_enter Tryd.func12, Tryd.ntmps12
    go_wp2_with fail
    refine HKN.out.mono ?_
    rintro e w1 ⟨rfl, hb⟩
    have HB := Lib.hid hb
    clear hb
    go_wp2_with fail
    go_ret
    exact ⟨rfl, HB.out⟩
  · have h2 : 20 < n' := by omega
    have j1 : ¬ (20 : Int) < (n : Int) := by omega
    have j3 : decide (20 < n) = false := by simp; omega
    have j2 : (20 : Int) < (n' : Int) := by omega
    go_enter Tryd.func12, Tryd.ntmps12
    go_wp2_with fail
    refine HKN.out.mono ?_
    rintro e w1 ⟨rfl, hb⟩
    have HB := Lib.hid hb
    clear hb
    go_wp2_with fail
    go_ret
    exact ⟨rfl, HB.out⟩
set_option maxRecDepth 100000 in
set_option maxHeartbeats 12800000 in
theorem treelists_short (p p' : Option Addr) (c c' : Nat) (l m : Fo) (W : World) (F F' : Nat → Prop) (hl : FoIn W F l p) (hl' : FoIn W F' m p') (hc : l.len ≤ c) (hc' : m.len ≤ c') (hn : l.len ≤ 20) (hn' : m.len ≤ 20) (hz : szB 140737488351232 l) (hz' : szB 140737488351232 m) (hm : MaxAt W) :
    Calls Tryd.prog 12 #[.slice p l.len c, .slice p' m.len c'] W fun e w' => e = .returned (.bool true) ∧ Below W.heap.size W w' := by
  have HKN := Lib.hid (fun (w : World) (h : Below W.heap.size W w) => known20 w (hm.later h))
  have HG1 := Lib.hid (fun (w : World) (h : Below W.heap.size W w) => great27 true 1 ⟨#[40]⟩ 0 p c l w _ (hl.later h) hc (by omega) (by decide) hz)
  have HG2 := Lib.hid (fun (w : World) (h : Below W.heap.size W w) => great27 true 1 ⟨#[40]⟩ 0 p' c' m w _ (hl'.later h) hc' (by omega) (by decide) hz')
  have HT := Lib.hid (fun (h2 : szB 65536 l) (h3 : l.size ≤ 1099511627776) (w : World) (h : Below W.heap.size W w) => text29 true 1 ⟨#[40]⟩ 0 p c l w F (hl.later h) hc (by omega) (by decide) h2 h3 (hm.later h))
  have HD := Lib.hid (fun (w : World) (h : Below W.heap.size W w) => depth31 true 1 ⟨#[40]⟩ 0 p c l w _ (hl.later h) hc (by omega))
  have HS := Lib.hid (fun (w : World) (h : Below W.heap.size W w) => same33_any l.size l m (Nat.le_refl _) true true 1 1 ⟨#[40]⟩ ⟨#[40]⟩ 0 0 p p' c c' w _ _ (hl.later h) (hl'.later h) hc hc' (by omega) (by omega))
  simp only [sameT_list] at HS
  have HLM := Lib.hid (And.intro hl (And.intro hl' hm))
  obtain ⟨SS, hSS⟩ : ∃ SS, SS = (decide (l.len = m.len) && sameF l m) := ⟨_, rfl⟩
  obtain ⟨n, hnl⟩ : ∃ n, n = l.len := ⟨_, rfl⟩
  obtain ⟨n', hnl'⟩ : ∃ n, n = m.len := ⟨_, rfl⟩
  rw [← hSS] at HS
  rw [← hnl] at HG1 HT HD HS hc hn ⊢
  rw [← hnl'] at HG2 HS hc' hn' ⊢
  have HN := Lib.hid (show n = l.len ∧ n' = m.len ∧ SS = (decide (l.len = m.len) && sameF l m) from ⟨hnl, hnl', hSS⟩)
  obtain ⟨DD, hDD⟩ : ∃ DD, DD = depT true l 201 := ⟨_, rfl⟩
  rw [← hDD] at HD
  have HDD := Lib.hid hDD
  have i1 : (n : Int) ≤ 20 := by omega
  have i2 : (n' : Int) ≤ 20 := by omega
  clear hl hl' hz hz' hm hSS hnl hnl' hDD
  unfold trV at HG1 HG2 HT HD HS
  go_enter Tryd.func12, Tryd.ntmps12
  go_wp2_with fail
  have HC := Lib.hid (show (W.alloc (.cells #[.int .u8 1, .string ⟨#[40]⟩, .int .i64 0] 33)).drew.cell? ⟨W.heap.size, 0, none⟩ = some (.int .u8 1) ∧ (W.alloc (.cells #[.int .u8 1, .string ⟨#[40]⟩, .int .i64 0] 33)).drew.cell? ⟨W.heap.size, 1, none⟩ = some (.string ⟨#[40]⟩) ∧ (W.alloc (.cells #[.int .u8 1, .string ⟨#[40]⟩, .int .i64 0] 33)).drew.cell? ⟨W.heap.size, 2, none⟩ = some (.int .i64 0) from ⟨cell_later (below_drew _) (by simp [go_sem]), cell_later (below_drew _) (by simp [go_sem]), cell_later (below_drew _) (by simp [go_sem])⟩)
  have HBD := Lib.hid ((below1 W (.cells #[.int .u8 1, .string ⟨#[40]⟩, .int .i64 0] 33)).trans ((below_drew (W.alloc (.cells #[.int .u8 1, .string ⟨#[40]⟩, .int .i64 0] 33))).mono (by simp)))
  refine wp_region_L [(1000, (fun _ => True : World → Prop)), (9, ((fun w => w.cell? ⟨W.heap.size, 0, none⟩ = some (.int .u8 1) ∧ w.cell? ⟨W.heap.size, 1, none⟩ = some (.string ⟨#[40]⟩) ∧ w.cell? ⟨W.heap.size, 2, none⟩ = some (.int .i64 0)) : World → Prop))] (by kernel_rfl) (SL.cons (fun _ => trivial) (SL.cons (fun _ => HC.out) SL.nil)) (fun hHeld => ?_)
  generalize (W.alloc (.cells #[.int .u8 1, .string ⟨#[40]⟩, .int .i64 0] 33)).drew = V at *
  refine wpAnyL_take 1 _ _ (i := 0) (oi := { dst := some 27, op := Op.load 33 (Operand.tmp 5), type := 33, pos := "law.go:127", after := #[], guard := none }) (v := ?_) rfl (by kernel_rfl) (by kernel_rfl) (by kernel_rfl) (fun _ _ _ h => h) rfl (by kernel_rfl) (by kernel_rfl) (by kernel_rfl) (Or.inl ⟨by rfl, ?_⟩) hHeld (fun hHeld => ?_)
  rotate_left
  · intro w hSw
    (try dsimp only at hSw)
    obtain ⟨c0, c1, c2⟩ := hSw
    go_simp
    try with_reducible rfl
  try simp only [Act.put, List.setIfInBounds_toArray, List.set_cons_zero, List.set_cons_succ]
  refine wpAnyL_take 0 _ _ (i := 1) (oi := { dst := some 28, op := Op.move (Operand.tmp 0), type := 39, pos := "law.go:127", after := #[], guard := none }) (v := ?_) rfl (by kernel_rfl) (by kernel_rfl) (by kernel_rfl) (fun _ _ _ h => h) rfl (by kernel_rfl) (by kernel_rfl) (by kernel_rfl) (Or.inl ⟨by rfl, ?_⟩) hHeld (fun hHeld => ?_)
  rotate_left
  · intro w hSw
    (try dsimp only at hSw)
    go_simp
    try with_reducible rfl
  try simp only [Act.put, List.setIfInBounds_toArray, List.set_cons_zero, List.set_cons_succ]
  refine wpAnyL_take 0 _ _ (i := 2) (oi := { dst := some 29, op := Op.build 41 #[(0, Operand.const (Value.bool true)), (1, Operand.tmp 27), (2, Operand.tmp 28)], type := 41, pos := "law.go:127", after := #[{ on := 0, ground := Ground.data }, { on := 1, ground := Ground.data }], guard := none }) (v := ?_) rfl (by kernel_rfl) (by kernel_rfl) (by kernel_rfl) (fun _ _ _ h => h) rfl (by kernel_rfl) (by kernel_rfl) (by kernel_rfl) (Or.inl ⟨by rfl, ?_⟩) hHeld (fun hHeld => ?_)
  rotate_left
  · intro w hSw
    (try dsimp only at hSw)
    go_simp
    try with_reducible rfl
  try simp only [Act.put, List.setIfInBounds_toArray, List.set_cons_zero, List.set_cons_succ]
  refine wpAnyL_take 1 _ _ (i := 3) (oi := { dst := some 30, op := Op.load 33 (Operand.tmp 5), type := 33, pos := "law.go:127", after := #[{ on := 8, ground := Ground.gcOnly Departure.lateStores }], guard := none }) (v := ?_) rfl (by kernel_rfl) (by kernel_rfl) (by kernel_rfl) (fun _ _ _ h => h) rfl (by kernel_rfl) (by kernel_rfl) (by kernel_rfl) (Or.inl ⟨by rfl, ?_⟩) hHeld (fun hHeld => ?_)
  rotate_left
  · intro w hSw
    (try dsimp only at hSw)
    obtain ⟨c0, c1, c2⟩ := hSw
    go_simp
    try with_reducible rfl
  try simp only [Act.put, List.setIfInBounds_toArray, List.set_cons_zero, List.set_cons_succ]
  refine wpAnyL_take 0 _ _ (i := 4) (oi := { dst := some 31, op := Op.move (Operand.tmp 1), type := 39, pos := "law.go:127", after := #[{ on := 8, ground := Ground.gcOnly Departure.lateStores }], guard := none }) (v := ?_) rfl (by kernel_rfl) (by kernel_rfl) (by kernel_rfl) (fun _ _ _ h => h) rfl (by kernel_rfl) (by kernel_rfl) (by kernel_rfl) (Or.inl ⟨by rfl, ?_⟩) hHeld (fun hHeld => ?_)
  rotate_left
  · intro w hSw
    (try dsimp only at hSw)
    go_simp
    try with_reducible rfl
  try simp only [Act.put, List.setIfInBounds_toArray, List.set_cons_zero, List.set_cons_succ]
  refine wpAnyL_take 0 _ _ (i := 5) (oi := { dst := some 32, op := Op.build 41 #[(0, Operand.const (Value.bool true)), (1, Operand.tmp 30), (2, Operand.tmp 31)], type := 41, pos := "law.go:127", after := #[{ on := 3, ground := Ground.data }, { on := 4, ground := Ground.data }, { on := 8, ground := Ground.gcOnly Departure.lateStores }], guard := none }) (v := ?_) rfl (by kernel_rfl) (by kernel_rfl) (by kernel_rfl) (fun _ _ _ h => h) rfl (by kernel_rfl) (by kernel_rfl) (by kernel_rfl) (Or.inl ⟨by rfl, ?_⟩) hHeld (fun hHeld => ?_)
  rotate_left
  · intro w hSw
    (try dsimp only at hSw)
    go_simp
    try with_reducible rfl
  try simp only [Act.put, List.setIfInBounds_toArray, List.set_cons_zero, List.set_cons_succ]
  refine wpAnyL_named (fun Q0 A0 hQ hA => ?_)
  have KEY : ∀ (B6 B7 : Nat) (V0 : World), Hid (Below W.heap.size W V0 ∧ ∀ w, Below V0.heap.size V0 w → (w.cell? ⟨B6, 0, none⟩ = some (.bool true) ∧ w.cell? ⟨B6, 1, none⟩ = some (.int .u8 1) ∧ w.cell? ⟨B6, 2, none⟩ = some (.string ⟨#[40]⟩) ∧ w.cell? ⟨B6, 3, none⟩ = some (.int .i64 0) ∧ w.cell? ⟨B6, 4, none⟩ = some (.slice p n c)) ∧ (w.cell? ⟨B7, 0, none⟩ = some (.bool true) ∧ w.cell? ⟨B7, 1, none⟩ = some (.int .u8 1) ∧ w.cell? ⟨B7, 2, none⟩ = some (.string ⟨#[40]⟩) ∧ w.cell? ⟨B7, 3, none⟩ = some (.int .i64 0) ∧ w.cell? ⟨B7, 4, none⟩ = some (.slice p' n' c'))) → Q0 Exit.normal ((A0.put (some 6) (.pointer (some ⟨B6, 0, none⟩))).put (some 7) (.pointer (some ⟨B7, 0, none⟩))) V0 := by
    intro B6 B7 V0 HV0
    subst hQ
    subst hA
    clear hHeld HC HBD
    try simp only [Act.put, List.setIfInBounds_toArray, List.set_cons_zero, List.set_cons_succ]
    obtain ⟨⟨a0, a1, a2, a3, a4⟩, b0, b1, b2, b3, b4⟩ := HV0.out.2 _ (Below.refl _ _)
    go_wp2_with fail
    refine (HG1.out _ HV0.out.1).mono ?_
    rintro e w3 ⟨g1, rfl, hg1, hb3⟩
    have HW3 := Lib.hid (below_self3 HV0.out.1 hb3)
    have HB3 := Lib.hid hb3
    have HGA := Lib.hid hg1
    clear a0 a1 a2 a3 a4 b0 b1 b2 b3 b4
    obtain ⟨⟨a0, a1, a2, a3, a4⟩, b0, b1, b2, b3, b4⟩ := HV0.out.2 _ hb3
    clear hb3 hg1 HG1
    cases g1 with
    | true =>
      go_wp2_with fail
      refine (HKN.out _ HW3.out).mono ?_
      rintro e w4 ⟨rfl, hb4⟩
      have HB4 := Lib.hid (below_self3 HW3.out hb4)
      clear hb4
      go_wp2_with fail
      go_ret
      exact ⟨rfl, HB4.out⟩
    | false =>
    go_wp2_with fail
    refine (HG2.out _ HW3.out).mono ?_
    rintro e w4 ⟨g2, rfl, hg2, hb4⟩
    have HW4 := Lib.hid (below_self3 HW3.out hb4)
    have HB4 := Lib.hid (HB3.out.trans (hb4.mono HB3.out.size))
    have HGB := Lib.hid hg2
    clear a0 a1 a2 a3 a4 b0 b1 b2 b3 b4 hb4 hg2 HG2
    cases g2 with
    | true =>
      go_wp2_with fail
      refine (HKN.out _ HW4.out).mono ?_
      rintro e w5 ⟨rfl, hb5⟩
      have HB5 := Lib.hid (below_self3 HW4.out hb5)
      clear hb5
      go_wp2_with fail
      go_ret
      exact ⟨rfl, HB5.out⟩
    | false =>
    have htw := HGA.out (by simp)
    have htw' := HGB.out (by simp)
    have HSZ := Lib.hid (And.intro htw (show twF l ≤ 5000 ∧ szB 65536 l ∧ l.size ≤ 5000 from by
      have h1 := twF_size l
      unfold twT at htw
      exact ⟨by omega, twF_szB l (by omega), by omega⟩))
    have HSZ' := Lib.hid (show szB 65536 m from by
      unfold twT at htw'
      exact twF_szB m (by omega))
    clear htw htw' HGA HGB
    obtain ⟨sm0, hsm0⟩ : ∃ b, b = ((n : Int) == (n' : Int)) := ⟨_, rfl⟩
    have hse : ((n : Int) == (n' : Int)) = sm0 := hsm0.symm
    have HSM0 := Lib.hid (show (sm0 = true → n = n') ∧ (sm0 = false → n ≠ n') from ⟨fun h => by rw [hsm0] at h; have := eq_of_beq h; omega, fun h e => by rw [hsm0, e] at h; simp at h⟩)
    clear hsm0
    go_wp2_with fail
    have HEF := Lib.hid (show SS = (decide (n = n') && sameF l m) from by rw [HN.out.1, HN.out.2.1]; exact HN.out.2.2)
    go_loopg [8, 9, 10, 11, 12, 13, 14] n (fun gk s8 s9 s10 s11 s12 s13 s14 wx => ∃ (i : Nat) (r : Fo) (X : ByteArray) (ok : Bool) (dp : Nat) (sm : Bool), i + gk = n ∧ s12 = .int .i64 (i : Int) ∧ s8 = .string X ∧ s9 = .bool ok ∧ s10 = .int .i64 (dp : Int) ∧ s11 = .bool sm ∧ Hid (r.len = gk ∧ FoIn wx F r (pl p i) ∧ Below V0.heap.size V0 wx ∧ max dp (depF r 201) = depF l 201 ∧ (ok && eF r) = eF l ∧ (ok = true → X.data.toList ++ txtF (decide (i = 0)) r = 40 :: txtF true l) ∧ X.size ≤ 1 + i * 1048577 ∧ dp ≤ 201 ∧ twF r ≤ 5000 ∧ (sm = false → SS = false) ∧ (sm = true → n = n' ∧ ∃ r', r'.len = gk ∧ FoIn wx F' r' (pl p' i) ∧ sameF r r' = SS)))
    case atStart =>
      refine ⟨0, l, ⟨#[40]⟩, true, 0, sm0, by omega, rfl, rfl, rfl, rfl, rfl, Lib.hid ⟨HN.out.1.symm, pl_zero (HLM.out.1.later HW4.out), HB4.out, by simp, by simp, fun _ => rfl, by decide, by omega, HSZ.out.2.1, fun h => ?_, fun h => ?_⟩⟩
      · rw [HEF.out, decide_eq_false (HSM0.out.2 h), Bool.false_and]
      · have e := HSM0.out.1 h
        exact ⟨e, m, by rw [← HN.out.2.1, e], pl_zero (HLM.out.2.1.later HW4.out), by rw [HEF.out, decide_eq_true e, Bool.true_and]⟩
    case round =>
      obtain ⟨i, r, X, ok, dp, sm, hk, rfl, rfl, rfl, rfl, rfl, HK⟩ := hrel
      have HGK := Lib.hid hk
      have hi2 : i ≤ n := by omega
      clear hk hse
      obtain ⟨wA, hwA⟩ : ∃ w, w = wr := ⟨_, rfl⟩
      subst hwA
      have i3 : (i : Int) ≤ (n : Int) := by omega
      have HWA := Lib.hid (below_self3 HV0.out.1 HK.out.2.2.1)
      have hXs : X.size ≤ 20971541 := by have := HK.out.2.2.2.2.2.2.1; omega
      have hdp : dp ≤ 201 := HK.out.2.2.2.2.2.2.2.1
      have hdp2 : (dp : Int) ≤ 201 := by omega
      by_cases hlt : i < n
      · obtain ⟨G, rfl⟩ : ∃ G, gk = G + 1 := ⟨gk - 1, by have := HGK.out; omega⟩
        have i0 : (0 : Int) ≤ (i : Int) := by omega
        have i5 : (i : Int) < (n : Int) := by omega
        obtain ⟨b, off, rfl⟩ : ∃ b off, p = some ⟨b, off, none⟩ := HLM.out.1.some (by rw [← HN.out.1]; omega)
        cases r with
        | nil => exact absurd HK.out.1 (by simp [Fo.len])
        | cons l1 k1 s1 a1 x1 r1 =>
          obtain ⟨hrl, hfx, hb, hmx, hok, htx, _, _, htw, hsmf, hsmt⟩ := HK.out
          obtain ⟨hbF, e0, e1, e2, e3, ⟨q3, cc3, e4, hc3, hm3, hx3⟩, hr3⟩ := hfx.head
          rw [twF_cons] at htw
          have HTW := Lib.hid (show twT s1 x1 ≤ 5000 ∧ twF r1 ≤ 5000 from ⟨by omega, by omega⟩)
          have hsz1 : s1.size ≤ 65536 ∧ szB 65536 x1 ∧ x1.size ≤ 1099511627776 := by
            have h1 := twF_size x1
            have htw2 := HTW.out.1
            unfold twT at htw2
            exact ⟨by omega, twF_szB x1 (by omega), by omega⟩
          have HTX := Lib.hid (fun (w : World) (h : Below wA.heap.size wA w) => text29 l1 k1 s1 a1 q3 cc3 x1 w F (hx3.later h) hc3 hm3 hsz1.1 hsz1.2.1 hsz1.2.2 (HLM.out.2.2.later (below_self3 HWA.out h)))
          have HDX := Lib.hid (fun (w : World) (h : Below wA.heap.size wA w) => depth31 l1 k1 s1 a1 q3 cc3 x1 w F (hx3.later h) hc3 hm3)
          have HSX := Lib.hid (fun (w : World) (h : Below wA.heap.size wA w) (l2 : Bool) (k2 : Int) (s2 : ByteArray) (a2 : Int) (q4 : Option Addr) (cc4 : Nat) (x2 : Fo) (h4 : FoIn w F' x2 q4) (h5 : x2.len ≤ cc4) (h6 : x2.len ≤ 281474976710656) => same33_any x1.size x1 x2 (Nat.le_refl _) l1 l2 k1 k2 s1 s2 a1 a2 q3 q4 cc3 cc4 w F F' (hx3.later h) h4 hc3 h5 hm3 h6)
          obtain ⟨n3, hn3⟩ : ∃ n3, n3 = x1.len := ⟨_, rfl⟩
          obtain ⟨D1, hD1⟩ : ∃ D1, D1 = depT l1 x1 201 := ⟨_, rfl⟩
          rw [← hn3] at HTX HDX HSX e4
          rw [← hD1] at HDX
          have hD1l : D1 ≤ 201 := by rw [hD1]; exact depT_le _ _ _
          have hD1i : (D1 : Int) ≤ 201 := by omega
          rw [depF_cons, ← hD1] at hmx
          have HMX := Lib.hid hmx
          have HSMF := Lib.hid hsmf
          have HSMT := Lib.hid hsmt
          have HRR := Lib.hid (And.intro hr3 (And.intro hb (show r1.len = G by simpa [Fo.len] using hrl)))
          have hok2 : (ok && (decide ((textR l1 k1 s1 x1).2 = 0) && eF r1)) = eF l := hok
          have HOK := Lib.hid hok2
          have HTXT := Lib.hid htx
          have HX0 := Lib.hid (HK.out.2.2.2.2.2.2.1)
          have HCE := Lib.hid (fun (w : World) (h : Below wA.heap.size wA w) => And.intro (cell_later h e0) (And.intro (cell_later h e1) (And.intro (cell_later h e2) (And.intro (cell_later h e3) (cell_later h e4)))))
          unfold trV at HTX HDX HSX
          clear hn3 hD1 hmx hsmf hsmt hr3 hb hrl hok hok2 htx htw hfx hx3 hc3 hm3 hbF hsz1 HK
          go_wp2_with fail
          refine (HTX.out _ (Below.refl _ _)).mono ?_
          rintro e w5 ⟨Y, er, rfl, hY, hb5⟩
          have hYs : Y.size ≤ 1048576 := by
            have h1 := textR_len l1 k1 s1 x1
            rw [← hY] at h1
            simpa using h1
          obtain ⟨eb, heb⟩ : ∃ eb, eb = (er == 0) := ⟨_, rfl⟩
          have he : (er == 0) = eb := heb.symm
          have HEB := Lib.hid (show eb = decide ((textR l1 k1 s1 x1).2 = 0) from by rw [heb, ← hY]; by_cases h : er = 0 <;> simp [h])
          have HYY := Lib.hid (show eb = true → Y.data.toList = txtT l1 k1 s1 x1 from fun h => by
            rw [heb] at h
            have h0 : (textR l1 k1 s1 x1).2 = 0 := by rw [← hY]; exact eq_of_beq h
            have h2 := textR_txt h0
            rw [← h2, ← hY])
          have HB5 := Lib.hid hb5
          clear e0 e1 e2 e3 e4
          obtain ⟨e0, e1, e2, e3, e4⟩ := HCE.out _ hb5
          have HDX5 := Lib.hid (HDX.out _ hb5)
          clear hb5 hY heb HTX
          cases ok with
          | true =>
            by_cases hi0 : i = 0
            · subst hi0
              simp only [Nat.zero_mul, Nat.add_zero] at e0 e1 e2 e3 e4 HCE
              have HI' := Lib.hid (show (0 : Nat) + 1 = 1 from rfl)
              go_wp2_with fail
              refine HDX5.out.mono ?_
              rintro e w6 ⟨rfl, hb6⟩
              have HB6 := Lib.hid (HB5.out.trans (hb6.mono HB5.out.size))
              clear hb6 e0 e1 e2 e3 e4
              obtain ⟨e0, e1, e2, e3, e4⟩ := HCE.out _ HB6.out
              by_cases hd : dp < D1
              · have hd1 : (dp : Int) < (D1 : Int) := by omega
                go_wp2_with fail
                refine (HDX.out _ HB6.out).mono ?_
                rintro e w7 ⟨rfl, hb7⟩
                have HB7 := Lib.hid (HB6.out.trans (hb7.mono HB6.out.size))
                clear hb7 e0 e1 e2 e3 e4
                go_wp2_with fail
                have HB9 := Lib.hid (HB7.out.trans ((below_drew w7).mono HB7.out.size))
                cases sm with
                | false =>
                  go_quiet (fail)
                  have HBZ := Lib.hid (bdd (n := nq) HB7.out)
                  go_wp2_with fail
                  go_roundg G
                  case measure => omega
                  case rel =>
                    refine ⟨1, r1, (X ++ Y), eb, D1, false, by have := HGK.out; omega, by simp, rfl, rfl, rfl, rfl, Lib.hid ⟨HRR.out.2.2, ?_, HRR.out.2.1.trans (HBZ.out.mono HRR.out.2.1.size), by have := HMX.out; omega, ?_, ?_, ?_, hD1l, HTW.out.2, ?_, ?_⟩⟩
                    · exact HRR.out.1.later HBZ.out
                    · have := HOK.out; rw [HEB.out]; simpa using this
                    · intro h
                      rw [show decide (1 = 0) = false by simp]
                      exact list_txt0 (HTXT.out (by simp)) (HYY.out h)
                    · have h1 := HX0.out; have h2 := list_size0 X Y; omega
                    · intro _; exact HSMF.out (by simp)
                    · intro h; cases h
                | true =>
                  obtain ⟨hnn, r', hrl', hfx', hsf⟩ := HSMT.out (by simp)
                  obtain ⟨b', off', rfl⟩ : ∃ b off, p' = some ⟨b, off, none⟩ := HLM.out.2.1.some (by rw [← HN.out.2.1]; omega)
                  cases r' with
                  | nil => exact absurd hrl' (by simp [Fo.len])
                  | cons l2 k2 s2 a2 x2 r2 =>
                  obtain ⟨_, g0, g1, g2, g3, ⟨q4, cc4, g4, hc4, hm4, hx4⟩, hr4⟩ := hfx'.head
                  simp only [Nat.zero_mul, Nat.add_zero] at g0 g1 g2 g3 g4
                  have HSY := Lib.hid (fun (w : World) (h : Below wA.heap.size wA w) => HSX.out w h l2 k2 s2 a2 q4 cc4 x2 (hx4.later h) hc4 hm4)
                  obtain ⟨n4, hn4⟩ : ∃ n4, n4 = x2.len := ⟨_, rfl⟩
                  rw [← hn4] at HSY g4
                  obtain ⟨SB, hSB⟩ : ∃ SB, SB = sameT l1 k1 s1 x1 l2 k2 s2 x2 := ⟨_, rfl⟩
                  rw [← hSB] at HSY
                  have hsf2 : (SB && sameF r1 r2) = SS := by rw [hSB]; exact hsf
                  have HSF := Lib.hid (And.intro hnn (And.intro hsf2 (And.intro hr4 (show r2.len = G by simpa [Fo.len] using hrl'))))
                  have HK9 := Lib.hid (fun (w : World) (h : Below wA.heap.size wA w) => show (w.cell? ⟨b, off, none⟩ = some (.bool l1) ∧ w.cell? ⟨b, off + 1, none⟩ = some (.int .u8 k1) ∧ w.cell? ⟨b, off + 2, none⟩ = some (.string s1) ∧ w.cell? ⟨b, off + 3, none⟩ = some (.int .i64 a1) ∧ w.cell? ⟨b, off + 4, none⟩ = some (.slice q3 n3 cc3)) ∧ (w.cell? ⟨b', off', none⟩ = some (.bool l2) ∧ w.cell? ⟨b', off' + 1, none⟩ = some (.int .u8 k2) ∧ w.cell? ⟨b', off' + 2, none⟩ = some (.string s2) ∧ w.cell? ⟨b', off' + 3, none⟩ = some (.int .i64 a2) ∧ w.cell? ⟨b', off' + 4, none⟩ = some (.slice q4 n4 cc4)) from ⟨HCE.out w h, cell_later h g0, cell_later h g1, cell_later h g2, cell_later h g3, cell_later h g4⟩)
                  have HS9 := Lib.hid (HK9.out _ HB9.out)
                  have i6 : (0 : Int) < (n' : Int) := by omega
                  have i7 : 0 < n' := by omega
                  clear hnn hrl' hfx' hsf hc4 hm4 hx4 hr4 hn4 hSB hsf2 g0 g1 g2 g3 g4
                  refine wp_region_L [(1000, (fun _ => True : World → Prop)), (12, ((fun w => (w.cell? ⟨b, off, none⟩ = some (.bool l1) ∧ w.cell? ⟨b, off + 1, none⟩ = some (.int .u8 k1) ∧ w.cell? ⟨b, off + 2, none⟩ = some (.string s1) ∧ w.cell? ⟨b, off + 3, none⟩ = some (.int .i64 a1) ∧ w.cell? ⟨b, off + 4, none⟩ = some (.slice q3 n3 cc3)) ∧ (w.cell? ⟨b', off', none⟩ = some (.bool l2) ∧ w.cell? ⟨b', off' + 1, none⟩ = some (.int .u8 k2) ∧ w.cell? ⟨b', off' + 2, none⟩ = some (.string s2) ∧ w.cell? ⟨b', off' + 3, none⟩ = some (.int .i64 a2) ∧ w.cell? ⟨b', off' + 4, none⟩ = some (.slice q4 n4 cc4))) : World → Prop))] (by kernel_rfl) (SL.cons (fun _ => trivial) (SL.cons (fun _ => HS9.out) SL.nil)) (fun hHeld => ?_)
                  refine wpAnyL_take 0 _ _ (i := 0) (oi := { dst := some 83, op := Op.move (Operand.tmp 11), type := 4, pos := "law.go:143", after := #[], guard := none }) (v := ?_) rfl (by kernel_rfl) (by kernel_rfl) (by kernel_rfl) (fun _ _ _ h => h) rfl (by kernel_rfl) (by kernel_rfl) (by kernel_rfl) (Or.inl ⟨by rfl, ?_⟩) hHeld (fun hHeld => ?_)
                  rotate_left
                  · intro w hSw
                    (try dsimp only at hSw)
                    go_simp
                    try with_reducible rfl
                  try simp only [Act.put, List.setIfInBounds_toArray, List.set_cons_zero, List.set_cons_succ]
                  refine wpAnyL_take 0 _ _ (i := 1) (oi := { dst := some 84, op := Op.move (Operand.tmp 83), type := 4, pos := "law.go:143", after := #[{ on := 0, ground := Ground.data }], guard := none }) (v := ?_) rfl (by kernel_rfl) (by kernel_rfl) (by kernel_rfl) (fun _ _ _ h => h) rfl (by kernel_rfl) (by kernel_rfl) (by kernel_rfl) (Or.inl ⟨by rfl, ?_⟩) hHeld (fun hHeld => ?_)
                  rotate_left
                  · intro w hSw
                    (try dsimp only at hSw)
                    go_simp
                    try with_reducible rfl
                  try simp only [Act.put, List.setIfInBounds_toArray, List.set_cons_zero, List.set_cons_succ]
                  refine wpAnyL_take 0 _ _ (i := 2) (oi := { dst := some 85, op := Op.move (Operand.tmp 0), type := 39, pos := "law.go:143", after := #[{ on := 1, ground := Ground.guard }], guard := some (1, true) }) (v := ?_) rfl (by kernel_rfl) (by kernel_rfl) (by kernel_rfl) (fun _ _ _ h => h) rfl (by kernel_rfl) (by kernel_rfl) (by kernel_rfl) (Or.inl ⟨by rfl, ?_⟩) hHeld (fun hHeld => ?_)
                  rotate_left
                  · intro w hSw
                    (try dsimp only at hSw)
                    go_simp
                    try with_reducible rfl
                  try simp only [Act.put, List.setIfInBounds_toArray, List.set_cons_zero, List.set_cons_succ]
                  refine wpAnyL_take 0 _ _ (i := 3) (oi := { dst := some 86, op := Op.move (Operand.tmp 12), type := 3, pos := "law.go:143", after := #[{ on := 1, ground := Ground.guard }], guard := some (1, true) }) (v := ?_) rfl (by kernel_rfl) (by kernel_rfl) (by kernel_rfl) (fun _ _ _ h => h) rfl (by kernel_rfl) (by kernel_rfl) (by kernel_rfl) (Or.inl ⟨by rfl, ?_⟩) hHeld (fun hHeld => ?_)
                  rotate_left
                  · intro w hSw
                    (try dsimp only at hSw)
                    go_simp
                    try with_reducible rfl
                  try simp only [Act.put, List.setIfInBounds_toArray, List.set_cons_zero, List.set_cons_succ]
                  refine wpAnyL_take 0 _ _ (i := 4) (oi := { dst := some 87, op := Op.indexAddr 39 (Operand.tmp 85) (Operand.tmp 86), type := 0, pos := "law.go:143", after := #[{ on := 2, ground := Ground.data }, { on := 3, ground := Ground.data }, { on := 1, ground := Ground.guard }], guard := some (1, true) }) (v := ?_) rfl (by kernel_rfl) (by kernel_rfl) (by kernel_rfl) (fun _ _ _ h => h) rfl (by kernel_rfl) (by kernel_rfl) (by kernel_rfl) (Or.inl ⟨by rfl, ?_⟩) hHeld (fun hHeld => ?_)
                  rotate_left
                  · intro w hSw
                    (try dsimp only at hSw)
                    go_simp
                    try with_reducible rfl
                  try simp only [Act.put, List.setIfInBounds_toArray, List.set_cons_zero, List.set_cons_succ]
                  refine wpAnyL_take 1 _ _ (i := 5) (oi := { dst := some 88, op := Op.load 41 (Operand.tmp 87), type := 41, pos := "law.go:143", after := #[{ on := 4, ground := Ground.data }, { on := 1, ground := Ground.guard }], guard := some (1, true) }) (v := ?_) rfl (by kernel_rfl) (by kernel_rfl) (by kernel_rfl) (fun _ _ _ h => h) rfl (by kernel_rfl) (by kernel_rfl) (by kernel_rfl) (Or.inl ⟨by rfl, ?_⟩) hHeld (fun hHeld => ?_)
                  rotate_left
                  · intro w hSw
                    (try dsimp only at hSw)
                    obtain ⟨⟨c0, c1, c2, c3, c4⟩, d0, d1, d2, d3, d4⟩ := hSw
                    go_simp
                    try with_reducible rfl
                  try simp only [Act.put, List.setIfInBounds_toArray, List.set_cons_zero, List.set_cons_succ]
                  refine wpAnyL_take 0 _ _ (i := 6) (oi := { dst := some 89, op := Op.move (Operand.tmp 1), type := 39, pos := "law.go:143", after := #[{ on := 1, ground := Ground.guard }], guard := some (1, true) }) (v := ?_) rfl (by kernel_rfl) (by kernel_rfl) (by kernel_rfl) (fun _ _ _ h => h) rfl (by kernel_rfl) (by kernel_rfl) (by kernel_rfl) (Or.inl ⟨by rfl, ?_⟩) hHeld (fun hHeld => ?_)
                  rotate_left
                  · intro w hSw
                    (try dsimp only at hSw)
                    go_simp
                    try with_reducible rfl
                  try simp only [Act.put, List.setIfInBounds_toArray, List.set_cons_zero, List.set_cons_succ]
                  refine wpAnyL_take 0 _ _ (i := 7) (oi := { dst := some 90, op := Op.move (Operand.tmp 12), type := 3, pos := "law.go:143", after := #[{ on := 1, ground := Ground.guard }], guard := some (1, true) }) (v := ?_) rfl (by kernel_rfl) (by kernel_rfl) (by kernel_rfl) (fun _ _ _ h => h) rfl (by kernel_rfl) (by kernel_rfl) (by kernel_rfl) (Or.inl ⟨by rfl, ?_⟩) hHeld (fun hHeld => ?_)
                  rotate_left
                  · intro w hSw
                    (try dsimp only at hSw)
                    go_simp
                    try with_reducible rfl
                  try simp only [Act.put, List.setIfInBounds_toArray, List.set_cons_zero, List.set_cons_succ]
                  refine wpAnyL_take 0 _ _ (i := 8) (oi := { dst := some 91, op := Op.indexAddr 39 (Operand.tmp 89) (Operand.tmp 90), type := 0, pos := "law.go:143", after := #[{ on := 6, ground := Ground.data }, { on := 7, ground := Ground.data }, { on := 1, ground := Ground.guard }], guard := some (1, true) }) (v := ?_) rfl (by kernel_rfl) (by kernel_rfl) (by kernel_rfl) (fun _ _ _ h => h) rfl (by kernel_rfl) (by kernel_rfl) (by kernel_rfl) (Or.inl ⟨by rfl, ?_⟩) hHeld (fun hHeld => ?_)
                  rotate_left
                  · intro w hSw
                    (try dsimp only at hSw)
                    go_simp
                    try with_reducible rfl
                  try simp only [Act.put, List.setIfInBounds_toArray, List.set_cons_zero, List.set_cons_succ]
                  refine wpAnyL_take 1 _ _ (i := 9) (oi := { dst := some 92, op := Op.load 41 (Operand.tmp 91), type := 41, pos := "law.go:143", after := #[{ on := 8, ground := Ground.data }, { on := 1, ground := Ground.guard }], guard := some (1, true) }) (v := ?_) rfl (by kernel_rfl) (by kernel_rfl) (by kernel_rfl) (fun _ _ _ h => h) rfl (by kernel_rfl) (by kernel_rfl) (by kernel_rfl) (Or.inl ⟨by rfl, ?_⟩) hHeld (fun hHeld => ?_)
                  rotate_left
                  · intro w hSw
                    (try dsimp only at hSw)
                    obtain ⟨⟨c0, c1, c2, c3, c4⟩, d0, d1, d2, d3, d4⟩ := hSw
                    go_simp
                    try with_reducible rfl
                  try simp only [Act.put, List.setIfInBounds_toArray, List.set_cons_zero, List.set_cons_succ]
                  refine wpAnyL_ready (rs := [10]) (by kernel_rfl) (by simp) ?_
                  refine AllReadyL.cons (o := { dst := some 93, op := Op.call { callee := Callee.value (Operand.func 33), args := #[Operand.tmp 88, Operand.tmp 92], argTypes := #[41, 41] }, type := 4, pos := "law.go:143", after := #[{ on := 5, ground := Ground.data }, { on := 9, ground := Ground.data }, { on := 1, ground := Ground.chain }, { on := 1, ground := Ground.guard }], guard := some (1, true) }) rfl (fun K hK => ?_) AllReadyL.nil
                  go_simp
                  go_at_call 33
                  refine (HSY.out _ HB9.out).mono ?_
                  rintro e w9 ⟨rfl, hb9⟩
                  have HBZ := Lib.hid (HB9.out.trans (hb9.mono HB9.out.size))
                  have hs9 := HK9.out _ HBZ.out
                  clear hb9
                  refine hK.out _ _ (SL.cons (fun _ => trivial) (SL.cons (fun _ => hs9) SL.nil)) (fun hHeld => ?_)
                  clear hK K
                  try simp only [Act.put, List.setIfInBounds_toArray, List.set_cons_zero, List.set_cons_succ]
                  refine wpAnyL_take 0 _ _ (i := 11) (oi := { dst := some 94, op := Op.pick (Operand.tmp 84) (Operand.tmp 93) (Operand.const (Value.bool false)), type := 4, pos := "law.go:143", after := #[{ on := 1, ground := Ground.data }, { on := 10, ground := Ground.data }], guard := none }) (v := ?_) rfl (by kernel_rfl) (by kernel_rfl) (by kernel_rfl) (fun _ _ _ h => h) rfl (by kernel_rfl) (by kernel_rfl) (by kernel_rfl) (Or.inl ⟨by rfl, ?_⟩) hHeld (fun hHeld => ?_)
                  rotate_left
                  · intro w hSw
                    (try dsimp only at hSw)
                    go_simp
                    try with_reducible rfl
                  try simp only [Act.put, List.setIfInBounds_toArray, List.set_cons_zero, List.set_cons_succ]
                  refine wpAnyL_ready (rs := [12]) (by kernel_rfl) (by simp) ?_
                  refine AllReadyL.cons (o := { dst := some 11, op := Op.assign (Operand.tmp 94), type := 4, pos := "law.go:143", after := #[{ on := 11, ground := Ground.data }, { on := 10, ground := Ground.chain }, { on := 0, ground := Ground.phase }, { on := 1, ground := Ground.phase }, { on := 2, ground := Ground.phase }, { on := 3, ground := Ground.phase }, { on := 4, ground := Ground.phase }, { on := 5, ground := Ground.phase }, { on := 6, ground := Ground.phase }, { on := 7, ground := Ground.phase }, { on := 8, ground := Ground.phase }, { on := 9, ground := Ground.phase }, { on := 10, ground := Ground.phase }, { on := 11, ground := Ground.phase }], guard := none }) rfl (fun K hK => ?_) AllReadyL.nil
                  go_simp
                  refine hK.out _ _ (SL.cons (fun _ => trivial) (SL.cons (fun h => absurd h (by decide +kernel)) SL.nil)) (fun hHeld => ?_)
                  clear hK K
                  try simp only [Act.put, List.setIfInBounds_toArray, List.set_cons_zero, List.set_cons_succ]
                  refine wpAnyL_done (by kernel_rfl) ?_ _
                  go_wp2_with fail
                  go_roundg G
                  case measure => omega
                  case rel =>
                    refine ⟨1, r1, (X ++ Y), eb, D1, SB, by have := HGK.out; omega, by simp, rfl, rfl, rfl, rfl, Lib.hid ⟨HRR.out.2.2, ?_, HRR.out.2.1.trans (HBZ.out.mono HRR.out.2.1.size), by have := HMX.out; omega, ?_, ?_, ?_, hD1l, HTW.out.2, ?_, ?_⟩⟩
                    · exact HRR.out.1.later HBZ.out
                    · have := HOK.out; rw [HEB.out]; simpa using this
                    · intro h
                      rw [show decide (1 = 0) = false by simp]
                      exact list_txt0 (HTXT.out (by simp)) (HYY.out h)
                    · have h1 := HX0.out; have h2 := list_size0 X Y; omega
                    · intro h; rw [← HSF.out.2.1, h, Bool.false_and]
                    · intro h; refine ⟨HSF.out.1, r2, HSF.out.2.2.2, HSF.out.2.2.1.later HBZ.out, ?_⟩; rw [← HSF.out.2.1, h, Bool.true_and]
              · have hd1 : ¬ (dp : Int) < (D1 : Int) := by omega
                have hd2 : decide (dp < D1) = false := by simp; omega
                go_wp2_with fail
                clear e0 e1 e2 e3 e4
                have HB9 := Lib.hid (HB6.out.trans ((below_drew w6).mono HB6.out.size))
                cases sm with
                | false =>
                  go_quiet (fail)
                  have HBZ := Lib.hid (bdd (n := nq) HB6.out)
                  go_wp2_with fail
                  go_roundg G
                  case measure => omega
                  case rel =>
                    refine ⟨1, r1, (X ++ Y), eb, dp, false, by have := HGK.out; omega, by simp, rfl, rfl, rfl, rfl, Lib.hid ⟨HRR.out.2.2, ?_, HRR.out.2.1.trans (HBZ.out.mono HRR.out.2.1.size), by have := HMX.out; omega, ?_, ?_, ?_, hdp, HTW.out.2, ?_, ?_⟩⟩
                    · exact HRR.out.1.later HBZ.out
                    · have := HOK.out; rw [HEB.out]; simpa using this
                    · intro h
                      rw [show decide (1 = 0) = false by simp]
                      exact list_txt0 (HTXT.out (by simp)) (HYY.out h)
                    · have h1 := HX0.out; have h2 := list_size0 X Y; omega
                    · intro _; exact HSMF.out (by simp)
                    · intro h; cases h
                | true =>
                  obtain ⟨hnn, r', hrl', hfx', hsf⟩ := HSMT.out (by simp)
                  obtain ⟨b', off', rfl⟩ : ∃ b off, p' = some ⟨b, off, none⟩ := HLM.out.2.1.some (by rw [← HN.out.2.1]; omega)
                  cases r' with
                  | nil => exact absurd hrl' (by simp [Fo.len])
                  | cons l2 k2 s2 a2 x2 r2 =>
                  obtain ⟨_, g0, g1, g2, g3, ⟨q4, cc4, g4, hc4, hm4, hx4⟩, hr4⟩ := hfx'.head
                  simp only [Nat.zero_mul, Nat.add_zero] at g0 g1 g2 g3 g4
                  have HSY := Lib.hid (fun (w : World) (h : Below wA.heap.size wA w) => HSX.out w h l2 k2 s2 a2 q4 cc4 x2 (hx4.later h) hc4 hm4)
                  obtain ⟨n4, hn4⟩ : ∃ n4, n4 = x2.len := ⟨_, rfl⟩
                  rw [← hn4] at HSY g4
                  obtain ⟨SB, hSB⟩ : ∃ SB, SB = sameT l1 k1 s1 x1 l2 k2 s2 x2 := ⟨_, rfl⟩
                  rw [← hSB] at HSY
                  have hsf2 : (SB && sameF r1 r2) = SS := by rw [hSB]; exact hsf
                  have HSF := Lib.hid (And.intro hnn (And.intro hsf2 (And.intro hr4 (show r2.len = G by simpa [Fo.len] using hrl'))))
                  have HK9 := Lib.hid (fun (w : World) (h : Below wA.heap.size wA w) => show (w.cell? ⟨b, off, none⟩ = some (.bool l1) ∧ w.cell? ⟨b, off + 1, none⟩ = some (.int .u8 k1) ∧ w.cell? ⟨b, off + 2, none⟩ = some (.string s1) ∧ w.cell? ⟨b, off + 3, none⟩ = some (.int .i64 a1) ∧ w.cell? ⟨b, off + 4, none⟩ = some (.slice q3 n3 cc3)) ∧ (w.cell? ⟨b', off', none⟩ = some (.bool l2) ∧ w.cell? ⟨b', off' + 1, none⟩ = some (.int .u8 k2) ∧ w.cell? ⟨b', off' + 2, none⟩ = some (.string s2) ∧ w.cell? ⟨b', off' + 3, none⟩ = some (.int .i64 a2) ∧ w.cell? ⟨b', off' + 4, none⟩ = some (.slice q4 n4 cc4)) from ⟨HCE.out w h, cell_later h g0, cell_later h g1, cell_later h g2, cell_later h g3, cell_later h g4⟩)
                  have HS9 := Lib.hid (HK9.out _ HB9.out)
                  have i6 : (0 : Int) < (n' : Int) := by omega
                  have i7 : 0 < n' := by omega
                  clear hnn hrl' hfx' hsf hc4 hm4 hx4 hr4 hn4 hSB hsf2 g0 g1 g2 g3 g4
                  refine wp_region_L [(1000, (fun _ => True : World → Prop)), (12, ((fun w => (w.cell? ⟨b, off, none⟩ = some (.bool l1) ∧ w.cell? ⟨b, off + 1, none⟩ = some (.int .u8 k1) ∧ w.cell? ⟨b, off + 2, none⟩ = some (.string s1) ∧ w.cell? ⟨b, off + 3, none⟩ = some (.int .i64 a1) ∧ w.cell? ⟨b, off + 4, none⟩ = some (.slice q3 n3 cc3)) ∧ (w.cell? ⟨b', off', none⟩ = some (.bool l2) ∧ w.cell? ⟨b', off' + 1, none⟩ = some (.int .u8 k2) ∧ w.cell? ⟨b', off' + 2, none⟩ = some (.string s2) ∧ w.cell? ⟨b', off' + 3, none⟩ = some (.int .i64 a2) ∧ w.cell? ⟨b', off' + 4, none⟩ = some (.slice q4 n4 cc4))) : World → Prop))] (by kernel_rfl) (SL.cons (fun _ => trivial) (SL.cons (fun _ => HS9.out) SL.nil)) (fun hHeld => ?_)
                  refine wpAnyL_take 0 _ _ (i := 0) (oi := { dst := some 83, op := Op.move (Operand.tmp 11), type := 4, pos := "law.go:143", after := #[], guard := none }) (v := ?_) rfl (by kernel_rfl) (by kernel_rfl) (by kernel_rfl) (fun _ _ _ h => h) rfl (by kernel_rfl) (by kernel_rfl) (by kernel_rfl) (Or.inl ⟨by rfl, ?_⟩) hHeld (fun hHeld => ?_)
                  rotate_left
                  · intro w hSw
                    (try dsimp only at hSw)
                    go_simp
                    try with_reducible rfl
                  try simp only [Act.put, List.setIfInBounds_toArray, List.set_cons_zero, List.set_cons_succ]
                  refine wpAnyL_take 0 _ _ (i := 1) (oi := { dst := some 84, op := Op.move (Operand.tmp 83), type := 4, pos := "law.go:143", after := #[{ on := 0, ground := Ground.data }], guard := none }) (v := ?_) rfl (by kernel_rfl) (by kernel_rfl) (by kernel_rfl) (fun _ _ _ h => h) rfl (by kernel_rfl) (by kernel_rfl) (by kernel_rfl) (Or.inl ⟨by rfl, ?_⟩) hHeld (fun hHeld => ?_)
                  rotate_left
                  · intro w hSw
                    (try dsimp only at hSw)
                    go_simp
                    try with_reducible rfl
                  try simp only [Act.put, List.setIfInBounds_toArray, List.set_cons_zero, List.set_cons_succ]
                  refine wpAnyL_take 0 _ _ (i := 2) (oi := { dst := some 85, op := Op.move (Operand.tmp 0), type := 39, pos := "law.go:143", after := #[{ on := 1, ground := Ground.guard }], guard := some (1, true) }) (v := ?_) rfl (by kernel_rfl) (by kernel_rfl) (by kernel_rfl) (fun _ _ _ h => h) rfl (by kernel_rfl) (by kernel_rfl) (by kernel_rfl) (Or.inl ⟨by rfl, ?_⟩) hHeld (fun hHeld => ?_)
                  rotate_left
                  · intro w hSw
                    (try dsimp only at hSw)
                    go_simp
                    try with_reducible rfl
                  try simp only [Act.put, List.setIfInBounds_toArray, List.set_cons_zero, List.set_cons_succ]
                  refine wpAnyL_take 0 _ _ (i := 3) (oi := { dst := some 86, op := Op.move (Operand.tmp 12), type := 3, pos := "law.go:143", after := #[{ on := 1, ground := Ground.guard }], guard := some (1, true) }) (v := ?_) rfl (by kernel_rfl) (by kernel_rfl) (by kernel_rfl) (fun _ _ _ h => h) rfl (by kernel_rfl) (by kernel_rfl) (by kernel_rfl) (Or.inl ⟨by rfl, ?_⟩) hHeld (fun hHeld => ?_)
                  rotate_left
                  · intro w hSw
                    (try dsimp only at hSw)
                    go_simp
                    try with_reducible rfl
                  try simp only [Act.put, List.setIfInBounds_toArray, List.set_cons_zero, List.set_cons_succ]
                  refine wpAnyL_take 0 _ _ (i := 4) (oi := { dst := some 87, op := Op.indexAddr 39 (Operand.tmp 85) (Operand.tmp 86), type := 0, pos := "law.go:143", after := #[{ on := 2, ground := Ground.data }, { on := 3, ground := Ground.data }, { on := 1, ground := Ground.guard }], guard := some (1, true) }) (v := ?_) rfl (by kernel_rfl) (by kernel_rfl) (by kernel_rfl) (fun _ _ _ h => h) rfl (by kernel_rfl) (by kernel_rfl) (by kernel_rfl) (Or.inl ⟨by rfl, ?_⟩) hHeld (fun hHeld => ?_)
                  rotate_left
                  · intro w hSw
                    (try dsimp only at hSw)
                    go_simp
                    try with_reducible rfl
                  try simp only [Act.put, List.setIfInBounds_toArray, List.set_cons_zero, List.set_cons_succ]
                  refine wpAnyL_take 1 _ _ (i := 5) (oi := { dst := some 88, op := Op.load 41 (Operand.tmp 87), type := 41, pos := "law.go:143", after := #[{ on := 4, ground := Ground.data }, { on := 1, ground := Ground.guard }], guard := some (1, true) }) (v := ?_) rfl (by kernel_rfl) (by kernel_rfl) (by kernel_rfl) (fun _ _ _ h => h) rfl (by kernel_rfl) (by kernel_rfl) (by kernel_rfl) (Or.inl ⟨by rfl, ?_⟩) hHeld (fun hHeld => ?_)
                  rotate_left
                  · intro w hSw
                    (try dsimp only at hSw)
                    obtain ⟨⟨c0, c1, c2, c3, c4⟩, d0, d1, d2, d3, d4⟩ := hSw
                    go_simp
                    try with_reducible rfl
                  try simp only [Act.put, List.setIfInBounds_toArray, List.set_cons_zero, List.set_cons_succ]
                  refine wpAnyL_take 0 _ _ (i := 6) (oi := { dst := some 89, op := Op.move (Operand.tmp 1), type := 39, pos := "law.go:143", after := #[{ on := 1, ground := Ground.guard }], guard := some (1, true) }) (v := ?_) rfl (by kernel_rfl) (by kernel_rfl) (by kernel_rfl) (fun _ _ _ h => h) rfl (by kernel_rfl) (by kernel_rfl) (by kernel_rfl) (Or.inl ⟨by rfl, ?_⟩) hHeld (fun hHeld => ?_)
                  rotate_left
                  · intro w hSw
                    (try dsimp only at hSw)
                    go_simp
                    try with_reducible rfl
                  try simp only [Act.put, List.setIfInBounds_toArray, List.set_cons_zero, List.set_cons_succ]
                  refine wpAnyL_take 0 _ _ (i := 7) (oi := { dst := some 90, op := Op.move (Operand.tmp 12), type := 3, pos := "law.go:143", after := #[{ on := 1, ground := Ground.guard }], guard := some (1, true) }) (v := ?_) rfl (by kernel_rfl) (by kernel_rfl) (by kernel_rfl) (fun _ _ _ h => h) rfl (by kernel_rfl) (by kernel_rfl) (by kernel_rfl) (Or.inl ⟨by rfl, ?_⟩) hHeld (fun hHeld => ?_)
                  rotate_left
                  · intro w hSw
                    (try dsimp only at hSw)
                    go_simp
                    try with_reducible rfl
                  try simp only [Act.put, List.setIfInBounds_toArray, List.set_cons_zero, List.set_cons_succ]
                  refine wpAnyL_take 0 _ _ (i := 8) (oi := { dst := some 91, op := Op.indexAddr 39 (Operand.tmp 89) (Operand.tmp 90), type := 0, pos := "law.go:143", after := #[{ on := 6, ground := Ground.data }, { on := 7, ground := Ground.data }, { on := 1, ground := Ground.guard }], guard := some (1, true) }) (v := ?_) rfl (by kernel_rfl) (by kernel_rfl) (by kernel_rfl) (fun _ _ _ h => h) rfl (by kernel_rfl) (by kernel_rfl) (by kernel_rfl) (Or.inl ⟨by rfl, ?_⟩) hHeld (fun hHeld => ?_)
                  rotate_left
                  · intro w hSw
                    (try dsimp only at hSw)
                    go_simp
                    try with_reducible rfl
                  try simp only [Act.put, List.setIfInBounds_toArray, List.set_cons_zero, List.set_cons_succ]
                  refine wpAnyL_take 1 _ _ (i := 9) (oi := { dst := some 92, op := Op.load 41 (Operand.tmp 91), type := 41, pos := "law.go:143", after := #[{ on := 8, ground := Ground.data }, { on := 1, ground := Ground.guard }], guard := some (1, true) }) (v := ?_) rfl (by kernel_rfl) (by kernel_rfl) (by kernel_rfl) (fun _ _ _ h => h) rfl (by kernel_rfl) (by kernel_rfl) (by kernel_rfl) (Or.inl ⟨by rfl, ?_⟩) hHeld (fun hHeld => ?_)
                  rotate_left
                  · intro w hSw
                    (try dsimp only at hSw)
                    obtain ⟨⟨c0, c1, c2, c3, c4⟩, d0, d1, d2, d3, d4⟩ := hSw
                    go_simp
                    try with_reducible rfl
                  try simp only [Act.put, List.setIfInBounds_toArray, List.set_cons_zero, List.set_cons_succ]
                  refine wpAnyL_ready (rs := [10]) (by kernel_rfl) (by simp) ?_
                  refine AllReadyL.cons (o := { dst := some 93, op := Op.call { callee := Callee.value (Operand.func 33), args := #[Operand.tmp 88, Operand.tmp 92], argTypes := #[41, 41] }, type := 4, pos := "law.go:143", after := #[{ on := 5, ground := Ground.data }, { on := 9, ground := Ground.data }, { on := 1, ground := Ground.chain }, { on := 1, ground := Ground.guard }], guard := some (1, true) }) rfl (fun K hK => ?_) AllReadyL.nil
                  go_simp
                  go_at_call 33
                  refine (HSY.out _ HB9.out).mono ?_
                  rintro e w9 ⟨rfl, hb9⟩
                  have HBZ := Lib.hid (HB9.out.trans (hb9.mono HB9.out.size))
                  have hs9 := HK9.out _ HBZ.out
                  clear hb9
                  refine hK.out _ _ (SL.cons (fun _ => trivial) (SL.cons (fun _ => hs9) SL.nil)) (fun hHeld => ?_)
                  clear hK K
                  try simp only [Act.put, List.setIfInBounds_toArray, List.set_cons_zero, List.set_cons_succ]
                  refine wpAnyL_take 0 _ _ (i := 11) (oi := { dst := some 94, op := Op.pick (Operand.tmp 84) (Operand.tmp 93) (Operand.const (Value.bool false)), type := 4, pos := "law.go:143", after := #[{ on := 1, ground := Ground.data }, { on := 10, ground := Ground.data }], guard := none }) (v := ?_) rfl (by kernel_rfl) (by kernel_rfl) (by kernel_rfl) (fun _ _ _ h => h) rfl (by kernel_rfl) (by kernel_rfl) (by kernel_rfl) (Or.inl ⟨by rfl, ?_⟩) hHeld (fun hHeld => ?_)
                  rotate_left
                  · intro w hSw
                    (try dsimp only at hSw)
                    go_simp
                    try with_reducible rfl
                  try simp only [Act.put, List.setIfInBounds_toArray, List.set_cons_zero, List.set_cons_succ]
                  refine wpAnyL_ready (rs := [12]) (by kernel_rfl) (by simp) ?_
                  refine AllReadyL.cons (o := { dst := some 11, op := Op.assign (Operand.tmp 94), type := 4, pos := "law.go:143", after := #[{ on := 11, ground := Ground.data }, { on := 10, ground := Ground.chain }, { on := 0, ground := Ground.phase }, { on := 1, ground := Ground.phase }, { on := 2, ground := Ground.phase }, { on := 3, ground := Ground.phase }, { on := 4, ground := Ground.phase }, { on := 5, ground := Ground.phase }, { on := 6, ground := Ground.phase }, { on := 7, ground := Ground.phase }, { on := 8, ground := Ground.phase }, { on := 9, ground := Ground.phase }, { on := 10, ground := Ground.phase }, { on := 11, ground := Ground.phase }], guard := none }) rfl (fun K hK => ?_) AllReadyL.nil
                  go_simp
                  refine hK.out _ _ (SL.cons (fun _ => trivial) (SL.cons (fun h => absurd h (by decide +kernel)) SL.nil)) (fun hHeld => ?_)
                  clear hK K
                  try simp only [Act.put, List.setIfInBounds_toArray, List.set_cons_zero, List.set_cons_succ]
                  refine wpAnyL_done (by kernel_rfl) ?_ _
                  go_wp2_with fail
                  go_roundg G
                  case measure => omega
                  case rel =>
                    refine ⟨1, r1, (X ++ Y), eb, dp, SB, by have := HGK.out; omega, by simp, rfl, rfl, rfl, rfl, Lib.hid ⟨HRR.out.2.2, ?_, HRR.out.2.1.trans (HBZ.out.mono HRR.out.2.1.size), by have := HMX.out; omega, ?_, ?_, ?_, hdp, HTW.out.2, ?_, ?_⟩⟩
                    · exact HRR.out.1.later HBZ.out
                    · have := HOK.out; rw [HEB.out]; simpa using this
                    · intro h
                      rw [show decide (1 = 0) = false by simp]
                      exact list_txt0 (HTXT.out (by simp)) (HYY.out h)
                    · have h1 := HX0.out; have h2 := list_size0 X Y; omega
                    · intro h; rw [← HSF.out.2.1, h, Bool.false_and]
                    · intro h; refine ⟨HSF.out.1, r2, HSF.out.2.2.2, HSF.out.2.2.1.later HBZ.out, ?_⟩; rw [← HSF.out.2.1, h, Bool.true_and]
            · have hi4 : (0 : Int) < (i : Int) := by omega
              have hi5' : 0 < i := by omega
              go_wp2_with fail
              refine HDX5.out.mono ?_
              rintro e w6 ⟨rfl, hb6⟩
              have HB6 := Lib.hid (HB5.out.trans (hb6.mono HB5.out.size))
              clear hb6 e0 e1 e2 e3 e4
              obtain ⟨e0, e1, e2, e3, e4⟩ := HCE.out _ HB6.out
              by_cases hd : dp < D1
              · have hd1 : (dp : Int) < (D1 : Int) := by omega
                go_wp2_with fail
                refine (HDX.out _ HB6.out).mono ?_
                rintro e w7 ⟨rfl, hb7⟩
                have HB7 := Lib.hid (HB6.out.trans (hb7.mono HB6.out.size))
                clear hb7 e0 e1 e2 e3 e4
                go_wp2_with fail
                have HB9 := Lib.hid (HB7.out.trans ((below_drew w7).mono HB7.out.size))
                cases sm with
                | false =>
                  go_quiet (fail)
                  have HBZ := Lib.hid (bdd (n := nq) HB7.out)
                  go_wp2_with fail
                  go_roundg G
                  case measure => omega
                  case rel =>
                    obtain ⟨i', hi'⟩ : ∃ i', i' = i + 1 := ⟨_, rfl⟩
                    refine ⟨i', r1, (X ++ (⟨#[32]⟩ : ByteArray) ++ Y), eb, D1, false, by have := HGK.out; omega, by rw [hi']; go_num, rfl, rfl, rfl, rfl, Lib.hid ⟨HRR.out.2.2, ?_, HRR.out.2.1.trans (HBZ.out.mono HRR.out.2.1.size), by have := HMX.out; omega, ?_, ?_, ?_, hD1l, HTW.out.2, ?_, ?_⟩⟩
                    · rw [hi']; exact HRR.out.1.later HBZ.out
                    · have := HOK.out; rw [HEB.out]; simpa using this
                    · intro h
                      rw [show decide (i' = 0) = false by simp; omega]
                      exact list_txt1 hi0 (HTXT.out (by simp)) (HYY.out h)
                    · have h1 := HX0.out; have h2 := list_size1 X Y; omega
                    · intro _; exact HSMF.out (by simp)
                    · intro h; cases h
                | true =>
                  obtain ⟨hnn, r', hrl', hfx', hsf⟩ := HSMT.out (by simp)
                  obtain ⟨b', off', rfl⟩ : ∃ b off, p' = some ⟨b, off, none⟩ := HLM.out.2.1.some (by rw [← HN.out.2.1]; omega)
                  cases r' with
                  | nil => exact absurd hrl' (by simp [Fo.len])
                  | cons l2 k2 s2 a2 x2 r2 =>
                  obtain ⟨_, g0, g1, g2, g3, ⟨q4, cc4, g4, hc4, hm4, hx4⟩, hr4⟩ := hfx'.head
                  have HSY := Lib.hid (fun (w : World) (h : Below wA.heap.size wA w) => HSX.out w h l2 k2 s2 a2 q4 cc4 x2 (hx4.later h) hc4 hm4)
                  obtain ⟨n4, hn4⟩ : ∃ n4, n4 = x2.len := ⟨_, rfl⟩
                  rw [← hn4] at HSY g4
                  obtain ⟨SB, hSB⟩ : ∃ SB, SB = sameT l1 k1 s1 x1 l2 k2 s2 x2 := ⟨_, rfl⟩
                  rw [← hSB] at HSY
                  have hsf2 : (SB && sameF r1 r2) = SS := by rw [hSB]; exact hsf
                  have HSF := Lib.hid (And.intro hnn (And.intro hsf2 (And.intro hr4 (show r2.len = G by simpa [Fo.len] using hrl'))))
                  have HK9 := Lib.hid (fun (w : World) (h : Below wA.heap.size wA w) => show (w.cell? ⟨b, off + i * 5, none⟩ = some (.bool l1) ∧ w.cell? ⟨b, off + i * 5 + 1, none⟩ = some (.int .u8 k1) ∧ w.cell? ⟨b, off + i * 5 + 2, none⟩ = some (.string s1) ∧ w.cell? ⟨b, off + i * 5 + 3, none⟩ = some (.int .i64 a1) ∧ w.cell? ⟨b, off + i * 5 + 4, none⟩ = some (.slice q3 n3 cc3)) ∧ (w.cell? ⟨b', off' + i * 5, none⟩ = some (.bool l2) ∧ w.cell? ⟨b', off' + i * 5 + 1, none⟩ = some (.int .u8 k2) ∧ w.cell? ⟨b', off' + i * 5 + 2, none⟩ = some (.string s2) ∧ w.cell? ⟨b', off' + i * 5 + 3, none⟩ = some (.int .i64 a2) ∧ w.cell? ⟨b', off' + i * 5 + 4, none⟩ = some (.slice q4 n4 cc4)) from ⟨HCE.out w h, cell_later h g0, cell_later h g1, cell_later h g2, cell_later h g3, cell_later h g4⟩)
                  have HS9 := Lib.hid (HK9.out _ HB9.out)
                  have i6 : (i : Int) < (n' : Int) := by omega
                  have i7 : i < n' := by omega
                  clear hnn hrl' hfx' hsf hc4 hm4 hx4 hr4 hn4 hSB hsf2 g0 g1 g2 g3 g4
                  refine wp_region_L [(1000, (fun _ => True : World → Prop)), (12, ((fun w => (w.cell? ⟨b, off + i * 5, none⟩ = some (.bool l1) ∧ w.cell? ⟨b, off + i * 5 + 1, none⟩ = some (.int .u8 k1) ∧ w.cell? ⟨b, off + i * 5 + 2, none⟩ = some (.string s1) ∧ w.cell? ⟨b, off + i * 5 + 3, none⟩ = some (.int .i64 a1) ∧ w.cell? ⟨b, off + i * 5 + 4, none⟩ = some (.slice q3 n3 cc3)) ∧ (w.cell? ⟨b', off' + i * 5, none⟩ = some (.bool l2) ∧ w.cell? ⟨b', off' + i * 5 + 1, none⟩ = some (.int .u8 k2) ∧ w.cell? ⟨b', off' + i * 5 + 2, none⟩ = some (.string s2) ∧ w.cell? ⟨b', off' + i * 5 + 3, none⟩ = some (.int .i64 a2) ∧ w.cell? ⟨b', off' + i * 5 + 4, none⟩ = some (.slice q4 n4 cc4))) : World → Prop))] (by kernel_rfl) (SL.cons (fun _ => trivial) (SL.cons (fun _ => HS9.out) SL.nil)) (fun hHeld => ?_)
                  refine wpAnyL_take 0 _ _ (i := 0) (oi := { dst := some 83, op := Op.move (Operand.tmp 11), type := 4, pos := "law.go:143", after := #[], guard := none }) (v := ?_) rfl (by kernel_rfl) (by kernel_rfl) (by kernel_rfl) (fun _ _ _ h => h) rfl (by kernel_rfl) (by kernel_rfl) (by kernel_rfl) (Or.inl ⟨by rfl, ?_⟩) hHeld (fun hHeld => ?_)
                  rotate_left
                  · intro w hSw
                    (try dsimp only at hSw)
                    go_simp
                    try with_reducible rfl
                  try simp only [Act.put, List.setIfInBounds_toArray, List.set_cons_zero, List.set_cons_succ]
                  refine wpAnyL_take 0 _ _ (i := 1) (oi := { dst := some 84, op := Op.move (Operand.tmp 83), type := 4, pos := "law.go:143", after := #[{ on := 0, ground := Ground.data }], guard := none }) (v := ?_) rfl (by kernel_rfl) (by kernel_rfl) (by kernel_rfl) (fun _ _ _ h => h) rfl (by kernel_rfl) (by kernel_rfl) (by kernel_rfl) (Or.inl ⟨by rfl, ?_⟩) hHeld (fun hHeld => ?_)
                  rotate_left
                  · intro w hSw
                    (try dsimp only at hSw)
                    go_simp
                    try with_reducible rfl
                  try simp only [Act.put, List.setIfInBounds_toArray, List.set_cons_zero, List.set_cons_succ]
                  refine wpAnyL_take 0 _ _ (i := 2) (oi := { dst := some 85, op := Op.move (Operand.tmp 0), type := 39, pos := "law.go:143", after := #[{ on := 1, ground := Ground.guard }], guard := some (1, true) }) (v := ?_) rfl (by kernel_rfl) (by kernel_rfl) (by kernel_rfl) (fun _ _ _ h => h) rfl (by kernel_rfl) (by kernel_rfl) (by kernel_rfl) (Or.inl ⟨by rfl, ?_⟩) hHeld (fun hHeld => ?_)
                  rotate_left
                  · intro w hSw
                    (try dsimp only at hSw)
                    go_simp
                    try with_reducible rfl
                  try simp only [Act.put, List.setIfInBounds_toArray, List.set_cons_zero, List.set_cons_succ]
                  refine wpAnyL_take 0 _ _ (i := 3) (oi := { dst := some 86, op := Op.move (Operand.tmp 12), type := 3, pos := "law.go:143", after := #[{ on := 1, ground := Ground.guard }], guard := some (1, true) }) (v := ?_) rfl (by kernel_rfl) (by kernel_rfl) (by kernel_rfl) (fun _ _ _ h => h) rfl (by kernel_rfl) (by kernel_rfl) (by kernel_rfl) (Or.inl ⟨by rfl, ?_⟩) hHeld (fun hHeld => ?_)
                  rotate_left
                  · intro w hSw
                    (try dsimp only at hSw)
                    go_simp
                    try with_reducible rfl
                  try simp only [Act.put, List.setIfInBounds_toArray, List.set_cons_zero, List.set_cons_succ]
                  refine wpAnyL_take 0 _ _ (i := 4) (oi := { dst := some 87, op := Op.indexAddr 39 (Operand.tmp 85) (Operand.tmp 86), type := 0, pos := "law.go:143", after := #[{ on := 2, ground := Ground.data }, { on := 3, ground := Ground.data }, { on := 1, ground := Ground.guard }], guard := some (1, true) }) (v := ?_) rfl (by kernel_rfl) (by kernel_rfl) (by kernel_rfl) (fun _ _ _ h => h) rfl (by kernel_rfl) (by kernel_rfl) (by kernel_rfl) (Or.inl ⟨by rfl, ?_⟩) hHeld (fun hHeld => ?_)
                  rotate_left
                  · intro w hSw
                    (try dsimp only at hSw)
                    go_simp
                    try with_reducible rfl
                  try simp only [Act.put, List.setIfInBounds_toArray, List.set_cons_zero, List.set_cons_succ]
                  refine wpAnyL_take 1 _ _ (i := 5) (oi := { dst := some 88, op := Op.load 41 (Operand.tmp 87), type := 41, pos := "law.go:143", after := #[{ on := 4, ground := Ground.data }, { on := 1, ground := Ground.guard }], guard := some (1, true) }) (v := ?_) rfl (by kernel_rfl) (by kernel_rfl) (by kernel_rfl) (fun _ _ _ h => h) rfl (by kernel_rfl) (by kernel_rfl) (by kernel_rfl) (Or.inl ⟨by rfl, ?_⟩) hHeld (fun hHeld => ?_)
                  rotate_left
                  · intro w hSw
                    (try dsimp only at hSw)
                    obtain ⟨⟨c0, c1, c2, c3, c4⟩, d0, d1, d2, d3, d4⟩ := hSw
                    go_simp
                    try with_reducible rfl
                  try simp only [Act.put, List.setIfInBounds_toArray, List.set_cons_zero, List.set_cons_succ]
                  refine wpAnyL_take 0 _ _ (i := 6) (oi := { dst := some 89, op := Op.move (Operand.tmp 1), type := 39, pos := "law.go:143", after := #[{ on := 1, ground := Ground.guard }], guard := some (1, true) }) (v := ?_) rfl (by kernel_rfl) (by kernel_rfl) (by kernel_rfl) (fun _ _ _ h => h) rfl (by kernel_rfl) (by kernel_rfl) (by kernel_rfl) (Or.inl ⟨by rfl, ?_⟩) hHeld (fun hHeld => ?_)
                  rotate_left
                  · intro w hSw
                    (try dsimp only at hSw)
                    go_simp
                    try with_reducible rfl
                  try simp only [Act.put, List.setIfInBounds_toArray, List.set_cons_zero, List.set_cons_succ]
                  refine wpAnyL_take 0 _ _ (i := 7) (oi := { dst := some 90, op := Op.move (Operand.tmp 12), type := 3, pos := "law.go:143", after := #[{ on := 1, ground := Ground.guard }], guard := some (1, true) }) (v := ?_) rfl (by kernel_rfl) (by kernel_rfl) (by kernel_rfl) (fun _ _ _ h => h) rfl (by kernel_rfl) (by kernel_rfl) (by kernel_rfl) (Or.inl ⟨by rfl, ?_⟩) hHeld (fun hHeld => ?_)
                  rotate_left
                  · intro w hSw
                    (try dsimp only at hSw)
                    go_simp
                    try with_reducible rfl
                  try simp only [Act.put, List.setIfInBounds_toArray, List.set_cons_zero, List.set_cons_succ]
                  refine wpAnyL_take 0 _ _ (i := 8) (oi := { dst := some 91, op := Op.indexAddr 39 (Operand.tmp 89) (Operand.tmp 90), type := 0, pos := "law.go:143", after := #[{ on := 6, ground := Ground.data }, { on := 7, ground := Ground.data }, { on := 1, ground := Ground.guard }], guard := some (1, true) }) (v := ?_) rfl (by kernel_rfl) (by kernel_rfl) (by kernel_rfl) (fun _ _ _ h => h) rfl (by kernel_rfl) (by kernel_rfl) (by kernel_rfl) (Or.inl ⟨by rfl, ?_⟩) hHeld (fun hHeld => ?_)
                  rotate_left
                  · intro w hSw
                    (try dsimp only at hSw)
                    go_simp
                    try with_reducible rfl
                  try simp only [Act.put, List.setIfInBounds_toArray, List.set_cons_zero, List.set_cons_succ]
                  refine wpAnyL_take 1 _ _ (i := 9) (oi := { dst := some 92, op := Op.load 41 (Operand.tmp 91), type := 41, pos := "law.go:143", after := #[{ on := 8, ground := Ground.data }, { on := 1, ground := Ground.guard }], guard := some (1, true) }) (v := ?_) rfl (by kernel_rfl) (by kernel_rfl) (by kernel_rfl) (fun _ _ _ h => h) rfl (by kernel_rfl) (by kernel_rfl) (by kernel_rfl) (Or.inl ⟨by rfl, ?_⟩) hHeld (fun hHeld => ?_)
                  rotate_left
                  · intro w hSw
                    (try dsimp only at hSw)
                    obtain ⟨⟨c0, c1, c2, c3, c4⟩, d0, d1, d2, d3, d4⟩ := hSw
                    go_simp
                    try with_reducible rfl
                  try simp only [Act.put, List.setIfInBounds_toArray, List.set_cons_zero, List.set_cons_succ]
                  refine wpAnyL_ready (rs := [10]) (by kernel_rfl) (by simp) ?_
                  refine AllReadyL.cons (o := { dst := some 93, op := Op.call { callee := Callee.value (Operand.func 33), args := #[Operand.tmp 88, Operand.tmp 92], argTypes := #[41, 41] }, type := 4, pos := "law.go:143", after := #[{ on := 5, ground := Ground.data }, { on := 9, ground := Ground.data }, { on := 1, ground := Ground.chain }, { on := 1, ground := Ground.guard }], guard := some (1, true) }) rfl (fun K hK => ?_) AllReadyL.nil
                  go_simp
                  go_at_call 33
                  refine (HSY.out _ HB9.out).mono ?_
                  rintro e w9 ⟨rfl, hb9⟩
                  have HBZ := Lib.hid (HB9.out.trans (hb9.mono HB9.out.size))
                  have hs9 := HK9.out _ HBZ.out
                  clear hb9
                  refine hK.out _ _ (SL.cons (fun _ => trivial) (SL.cons (fun _ => hs9) SL.nil)) (fun hHeld => ?_)
                  clear hK K
                  try simp only [Act.put, List.setIfInBounds_toArray, List.set_cons_zero, List.set_cons_succ]
                  refine wpAnyL_take 0 _ _ (i := 11) (oi := { dst := some 94, op := Op.pick (Operand.tmp 84) (Operand.tmp 93) (Operand.const (Value.bool false)), type := 4, pos := "law.go:143", after := #[{ on := 1, ground := Ground.data }, { on := 10, ground := Ground.data }], guard := none }) (v := ?_) rfl (by kernel_rfl) (by kernel_rfl) (by kernel_rfl) (fun _ _ _ h => h) rfl (by kernel_rfl) (by kernel_rfl) (by kernel_rfl) (Or.inl ⟨by rfl, ?_⟩) hHeld (fun hHeld => ?_)
                  rotate_left
                  · intro w hSw
                    (try dsimp only at hSw)
                    go_simp
                    try with_reducible rfl
                  try simp only [Act.put, List.setIfInBounds_toArray, List.set_cons_zero, List.set_cons_succ]
                  refine wpAnyL_ready (rs := [12]) (by kernel_rfl) (by simp) ?_
                  refine AllReadyL.cons (o := { dst := some 11, op := Op.assign (Operand.tmp 94), type := 4, pos := "law.go:143", after := #[{ on := 11, ground := Ground.data }, { on := 10, ground := Ground.chain }, { on := 0, ground := Ground.phase }, { on := 1, ground := Ground.phase }, { on := 2, ground := Ground.phase }, { on := 3, ground := Ground.phase }, { on := 4, ground := Ground.phase }, { on := 5, ground := Ground.phase }, { on := 6, ground := Ground.phase }, { on := 7, ground := Ground.phase }, { on := 8, ground := Ground.phase }, { on := 9, ground := Ground.phase }, { on := 10, ground := Ground.phase }, { on := 11, ground := Ground.phase }], guard := none }) rfl (fun K hK => ?_) AllReadyL.nil
                  go_simp
                  refine hK.out _ _ (SL.cons (fun _ => trivial) (SL.cons (fun h => absurd h (by decide +kernel)) SL.nil)) (fun hHeld => ?_)
                  clear hK K
                  try simp only [Act.put, List.setIfInBounds_toArray, List.set_cons_zero, List.set_cons_succ]
                  refine wpAnyL_done (by kernel_rfl) ?_ _
                  go_wp2_with fail
                  go_roundg G
                  case measure => omega
                  case rel =>
                    obtain ⟨i', hi'⟩ : ∃ i', i' = i + 1 := ⟨_, rfl⟩
                    refine ⟨i', r1, (X ++ (⟨#[32]⟩ : ByteArray) ++ Y), eb, D1, SB, by have := HGK.out; omega, by rw [hi']; go_num, rfl, rfl, rfl, rfl, Lib.hid ⟨HRR.out.2.2, ?_, HRR.out.2.1.trans (HBZ.out.mono HRR.out.2.1.size), by have := HMX.out; omega, ?_, ?_, ?_, hD1l, HTW.out.2, ?_, ?_⟩⟩
                    · rw [hi']; exact HRR.out.1.later HBZ.out
                    · have := HOK.out; rw [HEB.out]; simpa using this
                    · intro h
                      rw [show decide (i' = 0) = false by simp; omega]
                      exact list_txt1 hi0 (HTXT.out (by simp)) (HYY.out h)
                    · have h1 := HX0.out; have h2 := list_size1 X Y; omega
                    · intro h; rw [← HSF.out.2.1, h, Bool.false_and]
                    · intro h; refine ⟨HSF.out.1, r2, HSF.out.2.2.2, by rw [hi']; exact HSF.out.2.2.1.later HBZ.out, ?_⟩; rw [← HSF.out.2.1, h, Bool.true_and]
              · have hd1 : ¬ (dp : Int) < (D1 : Int) := by omega
                have hd2 : decide (dp < D1) = false := by simp; omega
                go_wp2_with fail
                clear e0 e1 e2 e3 e4
                have HB9 := Lib.hid (HB6.out.trans ((below_drew w6).mono HB6.out.size))
                cases sm with
                | false =>
                  go_quiet (fail)
                  have HBZ := Lib.hid (bdd (n := nq) HB6.out)
                  go_wp2_with fail
                  go_roundg G
                  case measure => omega
                  case rel =>
                    obtain ⟨i', hi'⟩ : ∃ i', i' = i + 1 := ⟨_, rfl⟩
                    refine ⟨i', r1, (X ++ (⟨#[32]⟩ : ByteArray) ++ Y), eb, dp, false, by have := HGK.out; omega, by rw [hi']; go_num, rfl, rfl, rfl, rfl, Lib.hid ⟨HRR.out.2.2, ?_, HRR.out.2.1.trans (HBZ.out.mono HRR.out.2.1.size), by have := HMX.out; omega, ?_, ?_, ?_, hdp, HTW.out.2, ?_, ?_⟩⟩
                    · rw [hi']; exact HRR.out.1.later HBZ.out
                    · have := HOK.out; rw [HEB.out]; simpa using this
                    · intro h
                      rw [show decide (i' = 0) = false by simp; omega]
                      exact list_txt1 hi0 (HTXT.out (by simp)) (HYY.out h)
                    · have h1 := HX0.out; have h2 := list_size1 X Y; omega
                    · intro _; exact HSMF.out (by simp)
                    · intro h; cases h
                | true =>
                  obtain ⟨hnn, r', hrl', hfx', hsf⟩ := HSMT.out (by simp)
                  obtain ⟨b', off', rfl⟩ : ∃ b off, p' = some ⟨b, off, none⟩ := HLM.out.2.1.some (by rw [← HN.out.2.1]; omega)
                  cases r' with
                  | nil => exact absurd hrl' (by simp [Fo.len])
                  | cons l2 k2 s2 a2 x2 r2 =>
                  obtain ⟨_, g0, g1, g2, g3, ⟨q4, cc4, g4, hc4, hm4, hx4⟩, hr4⟩ := hfx'.head
                  have HSY := Lib.hid (fun (w : World) (h : Below wA.heap.size wA w) => HSX.out w h l2 k2 s2 a2 q4 cc4 x2 (hx4.later h) hc4 hm4)
                  obtain ⟨n4, hn4⟩ : ∃ n4, n4 = x2.len := ⟨_, rfl⟩
                  rw [← hn4] at HSY g4
                  obtain ⟨SB, hSB⟩ : ∃ SB, SB = sameT l1 k1 s1 x1 l2 k2 s2 x2 := ⟨_, rfl⟩
                  rw [← hSB] at HSY
                  have hsf2 : (SB && sameF r1 r2) = SS := by rw [hSB]; exact hsf
                  have HSF := Lib.hid (And.intro hnn (And.intro hsf2 (And.intro hr4 (show r2.len = G by simpa [Fo.len] using hrl'))))
                  have HK9 := Lib.hid (fun (w : World) (h : Below wA.heap.size wA w) => show (w.cell? ⟨b, off + i * 5, none⟩ = some (.bool l1) ∧ w.cell? ⟨b, off + i * 5 + 1, none⟩ = some (.int .u8 k1) ∧ w.cell? ⟨b, off + i * 5 + 2, none⟩ = some (.string s1) ∧ w.cell? ⟨b, off + i * 5 + 3, none⟩ = some (.int .i64 a1) ∧ w.cell? ⟨b, off + i * 5 + 4, none⟩ = some (.slice q3 n3 cc3)) ∧ (w.cell? ⟨b', off' + i * 5, none⟩ = some (.bool l2) ∧ w.cell? ⟨b', off' + i * 5 + 1, none⟩ = some (.int .u8 k2) ∧ w.cell? ⟨b', off' + i * 5 + 2, none⟩ = some (.string s2) ∧ w.cell? ⟨b', off' + i * 5 + 3, none⟩ = some (.int .i64 a2) ∧ w.cell? ⟨b', off' + i * 5 + 4, none⟩ = some (.slice q4 n4 cc4)) from ⟨HCE.out w h, cell_later h g0, cell_later h g1, cell_later h g2, cell_later h g3, cell_later h g4⟩)
                  have HS9 := Lib.hid (HK9.out _ HB9.out)
                  have i6 : (i : Int) < (n' : Int) := by omega
                  have i7 : i < n' := by omega
                  clear hnn hrl' hfx' hsf hc4 hm4 hx4 hr4 hn4 hSB hsf2 g0 g1 g2 g3 g4
                  refine wp_region_L [(1000, (fun _ => True : World → Prop)), (12, ((fun w => (w.cell? ⟨b, off + i * 5, none⟩ = some (.bool l1) ∧ w.cell? ⟨b, off + i * 5 + 1, none⟩ = some (.int .u8 k1) ∧ w.cell? ⟨b, off + i * 5 + 2, none⟩ = some (.string s1) ∧ w.cell? ⟨b, off + i * 5 + 3, none⟩ = some (.int .i64 a1) ∧ w.cell? ⟨b, off + i * 5 + 4, none⟩ = some (.slice q3 n3 cc3)) ∧ (w.cell? ⟨b', off' + i * 5, none⟩ = some (.bool l2) ∧ w.cell? ⟨b', off' + i * 5 + 1, none⟩ = some (.int .u8 k2) ∧ w.cell? ⟨b', off' + i * 5 + 2, none⟩ = some (.string s2) ∧ w.cell? ⟨b', off' + i * 5 + 3, none⟩ = some (.int .i64 a2) ∧ w.cell? ⟨b', off' + i * 5 + 4, none⟩ = some (.slice q4 n4 cc4))) : World → Prop))] (by kernel_rfl) (SL.cons (fun _ => trivial) (SL.cons (fun _ => HS9.out) SL.nil)) (fun hHeld => ?_)
                  refine wpAnyL_take 0 _ _ (i := 0) (oi := { dst := some 83, op := Op.move (Operand.tmp 11), type := 4, pos := "law.go:143", after := #[], guard := none }) (v := ?_) rfl (by kernel_rfl) (by kernel_rfl) (by kernel_rfl) (fun _ _ _ h => h) rfl (by kernel_rfl) (by kernel_rfl) (by kernel_rfl) (Or.inl ⟨by rfl, ?_⟩) hHeld (fun hHeld => ?_)
                  rotate_left
                  · intro w hSw
                    (try dsimp only at hSw)
                    go_simp
                    try with_reducible rfl
                  try simp only [Act.put, List.setIfInBounds_toArray, List.set_cons_zero, List.set_cons_succ]
                  refine wpAnyL_take 0 _ _ (i := 1) (oi := { dst := some 84, op := Op.move (Operand.tmp 83), type := 4, pos := "law.go:143", after := #[{ on := 0, ground := Ground.data }], guard := none }) (v := ?_) rfl (by kernel_rfl) (by kernel_rfl) (by kernel_rfl) (fun _ _ _ h => h) rfl (by kernel_rfl) (by kernel_rfl) (by kernel_rfl) (Or.inl ⟨by rfl, ?_⟩) hHeld (fun hHeld => ?_)
                  rotate_left
                  · intro w hSw
                    (try dsimp only at hSw)
                    go_simp
                    try with_reducible rfl
                  try simp only [Act.put, List.setIfInBounds_toArray, List.set_cons_zero, List.set_cons_succ]
                  refine wpAnyL_take 0 _ _ (i := 2) (oi := { dst := some 85, op := Op.move (Operand.tmp 0), type := 39, pos := "law.go:143", after := #[{ on := 1, ground := Ground.guard }], guard := some (1, true) }) (v := ?_) rfl (by kernel_rfl) (by kernel_rfl) (by kernel_rfl) (fun _ _ _ h => h) rfl (by kernel_rfl) (by kernel_rfl) (by kernel_rfl) (Or.inl ⟨by rfl, ?_⟩) hHeld (fun hHeld => ?_)
                  rotate_left
                  · intro w hSw
                    (try dsimp only at hSw)
                    go_simp
                    try with_reducible rfl
                  try simp only [Act.put, List.setIfInBounds_toArray, List.set_cons_zero, List.set_cons_succ]
                  refine wpAnyL_take 0 _ _ (i := 3) (oi := { dst := some 86, op := Op.move (Operand.tmp 12), type := 3, pos := "law.go:143", after := #[{ on := 1, ground := Ground.guard }], guard := some (1, true) }) (v := ?_) rfl (by kernel_rfl) (by kernel_rfl) (by kernel_rfl) (fun _ _ _ h => h) rfl (by kernel_rfl) (by kernel_rfl) (by kernel_rfl) (Or.inl ⟨by rfl, ?_⟩) hHeld (fun hHeld => ?_)
                  rotate_left
                  · intro w hSw
                    (try dsimp only at hSw)
                    go_simp
                    try with_reducible rfl
                  try simp only [Act.put, List.setIfInBounds_toArray, List.set_cons_zero, List.set_cons_succ]
                  refine wpAnyL_take 0 _ _ (i := 4) (oi := { dst := some 87, op := Op.indexAddr 39 (Operand.tmp 85) (Operand.tmp 86), type := 0, pos := "law.go:143", after := #[{ on := 2, ground := Ground.data }, { on := 3, ground := Ground.data }, { on := 1, ground := Ground.guard }], guard := some (1, true) }) (v := ?_) rfl (by kernel_rfl) (by kernel_rfl) (by kernel_rfl) (fun _ _ _ h => h) rfl (by kernel_rfl) (by kernel_rfl) (by kernel_rfl) (Or.inl ⟨by rfl, ?_⟩) hHeld (fun hHeld => ?_)
                  rotate_left
                  · intro w hSw
                    (try dsimp only at hSw)
                    go_simp
                    try with_reducible rfl
                  try simp only [Act.put, List.setIfInBounds_toArray, List.set_cons_zero, List.set_cons_succ]
                  refine wpAnyL_take 1 _ _ (i := 5) (oi := { dst := some 88, op := Op.load 41 (Operand.tmp 87), type := 41, pos := "law.go:143", after := #[{ on := 4, ground := Ground.data }, { on := 1, ground := Ground.guard }], guard := some (1, true) }) (v := ?_) rfl (by kernel_rfl) (by kernel_rfl) (by kernel_rfl) (fun _ _ _ h => h) rfl (by kernel_rfl) (by kernel_rfl) (by kernel_rfl) (Or.inl ⟨by rfl, ?_⟩) hHeld (fun hHeld => ?_)
                  rotate_left
                  · intro w hSw
                    (try dsimp only at hSw)
                    obtain ⟨⟨c0, c1, c2, c3, c4⟩, d0, d1, d2, d3, d4⟩ := hSw
                    go_simp
                    try with_reducible rfl
                  try simp only [Act.put, List.setIfInBounds_toArray, List.set_cons_zero, List.set_cons_succ]
                  refine wpAnyL_take 0 _ _ (i := 6) (oi := { dst := some 89, op := Op.move (Operand.tmp 1), type := 39, pos := "law.go:143", after := #[{ on := 1, ground := Ground.guard }], guard := some (1, true) }) (v := ?_) rfl (by kernel_rfl) (by kernel_rfl) (by kernel_rfl) (fun _ _ _ h => h) rfl (by kernel_rfl) (by kernel_rfl) (by kernel_rfl) (Or.inl ⟨by rfl, ?_⟩) hHeld (fun hHeld => ?_)
                  rotate_left
                  · intro w hSw
                    (try dsimp only at hSw)
                    go_simp
                    try with_reducible rfl
                  try simp only [Act.put, List.setIfInBounds_toArray, List.set_cons_zero, List.set_cons_succ]
                  refine wpAnyL_take 0 _ _ (i := 7) (oi := { dst := some 90, op := Op.move (Operand.tmp 12), type := 3, pos := "law.go:143", after := #[{ on := 1, ground := Ground.guard }], guard := some (1, true) }) (v := ?_) rfl (by kernel_rfl) (by kernel_rfl) (by kernel_rfl) (fun _ _ _ h => h) rfl (by kernel_rfl) (by kernel_rfl) (by kernel_rfl) (Or.inl ⟨by rfl, ?_⟩) hHeld (fun hHeld => ?_)
                  rotate_left
                  · intro w hSw
                    (try dsimp only at hSw)
                    go_simp
                    try with_reducible rfl
                  try simp only [Act.put, List.setIfInBounds_toArray, List.set_cons_zero, List.set_cons_succ]
                  refine wpAnyL_take 0 _ _ (i := 8) (oi := { dst := some 91, op := Op.indexAddr 39 (Operand.tmp 89) (Operand.tmp 90), type := 0, pos := "law.go:143", after := #[{ on := 6, ground := Ground.data }, { on := 7, ground := Ground.data }, { on := 1, ground := Ground.guard }], guard := some (1, true) }) (v := ?_) rfl (by kernel_rfl) (by kernel_rfl) (by kernel_rfl) (fun _ _ _ h => h) rfl (by kernel_rfl) (by kernel_rfl) (by kernel_rfl) (Or.inl ⟨by rfl, ?_⟩) hHeld (fun hHeld => ?_)
                  rotate_left
                  · intro w hSw
                    (try dsimp only at hSw)
                    go_simp
                    try with_reducible rfl
                  try simp only [Act.put, List.setIfInBounds_toArray, List.set_cons_zero, List.set_cons_succ]
                  refine wpAnyL_take 1 _ _ (i := 9) (oi := { dst := some 92, op := Op.load 41 (Operand.tmp 91), type := 41, pos := "law.go:143", after := #[{ on := 8, ground := Ground.data }, { on := 1, ground := Ground.guard }], guard := some (1, true) }) (v := ?_) rfl (by kernel_rfl) (by kernel_rfl) (by kernel_rfl) (fun _ _ _ h => h) rfl (by kernel_rfl) (by kernel_rfl) (by kernel_rfl) (Or.inl ⟨by rfl, ?_⟩) hHeld (fun hHeld => ?_)
                  rotate_left
                  · intro w hSw
                    (try dsimp only at hSw)
                    obtain ⟨⟨c0, c1, c2, c3, c4⟩, d0, d1, d2, d3, d4⟩ := hSw
                    go_simp
                    try with_reducible rfl
                  try simp only [Act.put, List.setIfInBounds_toArray, List.set_cons_zero, List.set_cons_succ]
                  refine wpAnyL_ready (rs := [10]) (by kernel_rfl) (by simp) ?_
                  refine AllReadyL.cons (o := { dst := some 93, op := Op.call { callee := Callee.value (Operand.func 33), args := #[Operand.tmp 88, Operand.tmp 92], argTypes := #[41, 41] }, type := 4, pos := "law.go:143", after := #[{ on := 5, ground := Ground.data }, { on := 9, ground := Ground.data }, { on := 1, ground := Ground.chain }, { on := 1, ground := Ground.guard }], guard := some (1, true) }) rfl (fun K hK => ?_) AllReadyL.nil
                  go_simp
                  go_at_call 33
                  refine (HSY.out _ HB9.out).mono ?_
                  rintro e w9 ⟨rfl, hb9⟩
                  have HBZ := Lib.hid (HB9.out.trans (hb9.mono HB9.out.size))
                  have hs9 := HK9.out _ HBZ.out
                  clear hb9
                  refine hK.out _ _ (SL.cons (fun _ => trivial) (SL.cons (fun _ => hs9) SL.nil)) (fun hHeld => ?_)
                  clear hK K
                  try simp only [Act.put, List.setIfInBounds_toArray, List.set_cons_zero, List.set_cons_succ]
                  refine wpAnyL_take 0 _ _ (i := 11) (oi := { dst := some 94, op := Op.pick (Operand.tmp 84) (Operand.tmp 93) (Operand.const (Value.bool false)), type := 4, pos := "law.go:143", after := #[{ on := 1, ground := Ground.data }, { on := 10, ground := Ground.data }], guard := none }) (v := ?_) rfl (by kernel_rfl) (by kernel_rfl) (by kernel_rfl) (fun _ _ _ h => h) rfl (by kernel_rfl) (by kernel_rfl) (by kernel_rfl) (Or.inl ⟨by rfl, ?_⟩) hHeld (fun hHeld => ?_)
                  rotate_left
                  · intro w hSw
                    (try dsimp only at hSw)
                    go_simp
                    try with_reducible rfl
                  try simp only [Act.put, List.setIfInBounds_toArray, List.set_cons_zero, List.set_cons_succ]
                  refine wpAnyL_ready (rs := [12]) (by kernel_rfl) (by simp) ?_
                  refine AllReadyL.cons (o := { dst := some 11, op := Op.assign (Operand.tmp 94), type := 4, pos := "law.go:143", after := #[{ on := 11, ground := Ground.data }, { on := 10, ground := Ground.chain }, { on := 0, ground := Ground.phase }, { on := 1, ground := Ground.phase }, { on := 2, ground := Ground.phase }, { on := 3, ground := Ground.phase }, { on := 4, ground := Ground.phase }, { on := 5, ground := Ground.phase }, { on := 6, ground := Ground.phase }, { on := 7, ground := Ground.phase }, { on := 8, ground := Ground.phase }, { on := 9, ground := Ground.phase }, { on := 10, ground := Ground.phase }, { on := 11, ground := Ground.phase }], guard := none }) rfl (fun K hK => ?_) AllReadyL.nil
                  go_simp
                  refine hK.out _ _ (SL.cons (fun _ => trivial) (SL.cons (fun h => absurd h (by decide +kernel)) SL.nil)) (fun hHeld => ?_)
                  clear hK K
                  try simp only [Act.put, List.setIfInBounds_toArray, List.set_cons_zero, List.set_cons_succ]
                  refine wpAnyL_done (by kernel_rfl) ?_ _
                  go_wp2_with fail
                  go_roundg G
                  case measure => omega
                  case rel =>
                    obtain ⟨i', hi'⟩ : ∃ i', i' = i + 1 := ⟨_, rfl⟩
                    refine ⟨i', r1, (X ++ (⟨#[32]⟩ : ByteArray) ++ Y), eb, dp, SB, by have := HGK.out; omega, by rw [hi']; go_num, rfl, rfl, rfl, rfl, Lib.hid ⟨HRR.out.2.2, ?_, HRR.out.2.1.trans (HBZ.out.mono HRR.out.2.1.size), by have := HMX.out; omega, ?_, ?_, ?_, hdp, HTW.out.2, ?_, ?_⟩⟩
                    · rw [hi']; exact HRR.out.1.later HBZ.out
                    · have := HOK.out; rw [HEB.out]; simpa using this
                    · intro h
                      rw [show decide (i' = 0) = false by simp; omega]
                      exact list_txt1 hi0 (HTXT.out (by simp)) (HYY.out h)
                    · have h1 := HX0.out; have h2 := list_size1 X Y; omega
                    · intro h; rw [← HSF.out.2.1, h, Bool.false_and]
                    · intro h; refine ⟨HSF.out.1, r2, HSF.out.2.2.2, by rw [hi']; exact HSF.out.2.2.1.later HBZ.out, ?_⟩; rw [← HSF.out.2.1, h, Bool.true_and]
          | false =>
            by_cases hi0 : i = 0
            · subst hi0
              simp only [Nat.zero_mul, Nat.add_zero] at e0 e1 e2 e3 e4 HCE
              have HI' := Lib.hid (show (0 : Nat) + 1 = 1 from rfl)
              go_wp2_with fail
              refine HDX5.out.mono ?_
              rintro e w6 ⟨rfl, hb6⟩
              have HB6 := Lib.hid (HB5.out.trans (hb6.mono HB5.out.size))
              clear hb6 e0 e1 e2 e3 e4
              obtain ⟨e0, e1, e2, e3, e4⟩ := HCE.out _ HB6.out
              by_cases hd : dp < D1
              · have hd1 : (dp : Int) < (D1 : Int) := by omega
                go_wp2_with fail
                refine (HDX.out _ HB6.out).mono ?_
                rintro e w7 ⟨rfl, hb7⟩
                have HB7 := Lib.hid (HB6.out.trans (hb7.mono HB6.out.size))
                clear hb7 e0 e1 e2 e3 e4
                go_wp2_with fail
                have HB9 := Lib.hid (HB7.out.trans ((below_drew w7).mono HB7.out.size))
                cases sm with
                | false =>
                  go_quiet (fail)
                  have HBZ := Lib.hid (bdd (n := nq) HB7.out)
                  go_wp2_with fail
                  go_roundg G
                  case measure => omega
                  case rel =>
                    refine ⟨1, r1, (X ++ Y), false, D1, false, by have := HGK.out; omega, by simp, rfl, rfl, rfl, rfl, Lib.hid ⟨HRR.out.2.2, ?_, HRR.out.2.1.trans (HBZ.out.mono HRR.out.2.1.size), by have := HMX.out; omega, ?_, ?_, ?_, hD1l, HTW.out.2, ?_, ?_⟩⟩
                    · exact HRR.out.1.later HBZ.out
                    · have := HOK.out; simpa using this
                    · intro h; cases h
                    · have h1 := HX0.out; have h2 := list_size0 X Y; omega
                    · intro _; exact HSMF.out (by simp)
                    · intro h; cases h
                | true =>
                  obtain ⟨hnn, r', hrl', hfx', hsf⟩ := HSMT.out (by simp)
                  obtain ⟨b', off', rfl⟩ : ∃ b off, p' = some ⟨b, off, none⟩ := HLM.out.2.1.some (by rw [← HN.out.2.1]; omega)
                  cases r' with
                  | nil => exact absurd hrl' (by simp [Fo.len])
                  | cons l2 k2 s2 a2 x2 r2 =>
                  obtain ⟨_, g0, g1, g2, g3, ⟨q4, cc4, g4, hc4, hm4, hx4⟩, hr4⟩ := hfx'.head
                  simp only [Nat.zero_mul, Nat.add_zero] at g0 g1 g2 g3 g4
                  have HSY := Lib.hid (fun (w : World) (h : Below wA.heap.size wA w) => HSX.out w h l2 k2 s2 a2 q4 cc4 x2 (hx4.later h) hc4 hm4)
                  obtain ⟨n4, hn4⟩ : ∃ n4, n4 = x2.len := ⟨_, rfl⟩
                  rw [← hn4] at HSY g4
                  obtain ⟨SB, hSB⟩ : ∃ SB, SB = sameT l1 k1 s1 x1 l2 k2 s2 x2 := ⟨_, rfl⟩
                  rw [← hSB] at HSY
                  have hsf2 : (SB && sameF r1 r2) = SS := by rw [hSB]; exact hsf
                  have HSF := Lib.hid (And.intro hnn (And.intro hsf2 (And.intro hr4 (show r2.len = G by simpa [Fo.len] using hrl'))))
                  have HK9 := Lib.hid (fun (w : World) (h : Below wA.heap.size wA w) => show (w.cell? ⟨b, off, none⟩ = some (.bool l1) ∧ w.cell? ⟨b, off + 1, none⟩ = some (.int .u8 k1) ∧ w.cell? ⟨b, off + 2, none⟩ = some (.string s1) ∧ w.cell? ⟨b, off + 3, none⟩ = some (.int .i64 a1) ∧ w.cell? ⟨b, off + 4, none⟩ = some (.slice q3 n3 cc3)) ∧ (w.cell? ⟨b', off', none⟩ = some (.bool l2) ∧ w.cell? ⟨b', off' + 1, none⟩ = some (.int .u8 k2) ∧ w.cell? ⟨b', off' + 2, none⟩ = some (.string s2) ∧ w.cell? ⟨b', off' + 3, none⟩ = some (.int .i64 a2) ∧ w.cell? ⟨b', off' + 4, none⟩ = some (.slice q4 n4 cc4)) from ⟨HCE.out w h, cell_later h g0, cell_later h g1, cell_later h g2, cell_later h g3, cell_later h g4⟩)
                  have HS9 := Lib.hid (HK9.out _ HB9.out)
                  have i6 : (0 : Int) < (n' : Int) := by omega
                  have i7 : 0 < n' := by omega
                  clear hnn hrl' hfx' hsf hc4 hm4 hx4 hr4 hn4 hSB hsf2 g0 g1 g2 g3 g4
                  refine wp_region_L [(1000, (fun _ => True : World → Prop)), (12, ((fun w => (w.cell? ⟨b, off, none⟩ = some (.bool l1) ∧ w.cell? ⟨b, off + 1, none⟩ = some (.int .u8 k1) ∧ w.cell? ⟨b, off + 2, none⟩ = some (.string s1) ∧ w.cell? ⟨b, off + 3, none⟩ = some (.int .i64 a1) ∧ w.cell? ⟨b, off + 4, none⟩ = some (.slice q3 n3 cc3)) ∧ (w.cell? ⟨b', off', none⟩ = some (.bool l2) ∧ w.cell? ⟨b', off' + 1, none⟩ = some (.int .u8 k2) ∧ w.cell? ⟨b', off' + 2, none⟩ = some (.string s2) ∧ w.cell? ⟨b', off' + 3, none⟩ = some (.int .i64 a2) ∧ w.cell? ⟨b', off' + 4, none⟩ = some (.slice q4 n4 cc4))) : World → Prop))] (by kernel_rfl) (SL.cons (fun _ => trivial) (SL.cons (fun _ => HS9.out) SL.nil)) (fun hHeld => ?_)
                  refine wpAnyL_take 0 _ _ (i := 0) (oi := { dst := some 83, op := Op.move (Operand.tmp 11), type := 4, pos := "law.go:143", after := #[], guard := none }) (v := ?_) rfl (by kernel_rfl) (by kernel_rfl) (by kernel_rfl) (fun _ _ _ h => h) rfl (by kernel_rfl) (by kernel_rfl) (by kernel_rfl) (Or.inl ⟨by rfl, ?_⟩) hHeld (fun hHeld => ?_)
                  rotate_left
                  · intro w hSw
                    (try dsimp only at hSw)
                    go_simp
                    try with_reducible rfl
                  try simp only [Act.put, List.setIfInBounds_toArray, List.set_cons_zero, List.set_cons_succ]
                  refine wpAnyL_take 0 _ _ (i := 1) (oi := { dst := some 84, op := Op.move (Operand.tmp 83), type := 4, pos := "law.go:143", after := #[{ on := 0, ground := Ground.data }], guard := none }) (v := ?_) rfl (by kernel_rfl) (by kernel_rfl) (by kernel_rfl) (fun _ _ _ h => h) rfl (by kernel_rfl) (by kernel_rfl) (by kernel_rfl) (Or.inl ⟨by rfl, ?_⟩) hHeld (fun hHeld => ?_)
                  rotate_left
                  · intro w hSw
                    (try dsimp only at hSw)
                    go_simp
                    try with_reducible rfl
                  try simp only [Act.put, List.setIfInBounds_toArray, List.set_cons_zero, List.set_cons_succ]
                  refine wpAnyL_take 0 _ _ (i := 2) (oi := { dst := some 85, op := Op.move (Operand.tmp 0), type := 39, pos := "law.go:143", after := #[{ on := 1, ground := Ground.guard }], guard := some (1, true) }) (v := ?_) rfl (by kernel_rfl) (by kernel_rfl) (by kernel_rfl) (fun _ _ _ h => h) rfl (by kernel_rfl) (by kernel_rfl) (by kernel_rfl) (Or.inl ⟨by rfl, ?_⟩) hHeld (fun hHeld => ?_)
                  rotate_left
                  · intro w hSw
                    (try dsimp only at hSw)
                    go_simp
                    try with_reducible rfl
                  try simp only [Act.put, List.setIfInBounds_toArray, List.set_cons_zero, List.set_cons_succ]
                  refine wpAnyL_take 0 _ _ (i := 3) (oi := { dst := some 86, op := Op.move (Operand.tmp 12), type := 3, pos := "law.go:143", after := #[{ on := 1, ground := Ground.guard }], guard := some (1, true) }) (v := ?_) rfl (by kernel_rfl) (by kernel_rfl) (by kernel_rfl) (fun _ _ _ h => h) rfl (by kernel_rfl) (by kernel_rfl) (by kernel_rfl) (Or.inl ⟨by rfl, ?_⟩) hHeld (fun hHeld => ?_)
                  rotate_left
                  · intro w hSw
                    (try dsimp only at hSw)
                    go_simp
                    try with_reducible rfl
                  try simp only [Act.put, List.setIfInBounds_toArray, List.set_cons_zero, List.set_cons_succ]
                  refine wpAnyL_take 0 _ _ (i := 4) (oi := { dst := some 87, op := Op.indexAddr 39 (Operand.tmp 85) (Operand.tmp 86), type := 0, pos := "law.go:143", after := #[{ on := 2, ground := Ground.data }, { on := 3, ground := Ground.data }, { on := 1, ground := Ground.guard }], guard := some (1, true) }) (v := ?_) rfl (by kernel_rfl) (by kernel_rfl) (by kernel_rfl) (fun _ _ _ h => h) rfl (by kernel_rfl) (by kernel_rfl) (by kernel_rfl) (Or.inl ⟨by rfl, ?_⟩) hHeld (fun hHeld => ?_)
                  rotate_left
                  · intro w hSw
                    (try dsimp only at hSw)
                    go_simp
                    try with_reducible rfl
                  try simp only [Act.put, List.setIfInBounds_toArray, List.set_cons_zero, List.set_cons_succ]
                  refine wpAnyL_take 1 _ _ (i := 5) (oi := { dst := some 88, op := Op.load 41 (Operand.tmp 87), type := 41, pos := "law.go:143", after := #[{ on := 4, ground := Ground.data }, { on := 1, ground := Ground.guard }], guard := some (1, true) }) (v := ?_) rfl (by kernel_rfl) (by kernel_rfl) (by kernel_rfl) (fun _ _ _ h => h) rfl (by kernel_rfl) (by kernel_rfl) (by kernel_rfl) (Or.inl ⟨by rfl, ?_⟩) hHeld (fun hHeld => ?_)
                  rotate_left
                  · intro w hSw
                    (try dsimp only at hSw)
                    obtain ⟨⟨c0, c1, c2, c3, c4⟩, d0, d1, d2, d3, d4⟩ := hSw
                    go_simp
                    try with_reducible rfl
                  try simp only [Act.put, List.setIfInBounds_toArray, List.set_cons_zero, List.set_cons_succ]
                  refine wpAnyL_take 0 _ _ (i := 6) (oi := { dst := some 89, op := Op.move (Operand.tmp 1), type := 39, pos := "law.go:143", after := #[{ on := 1, ground := Ground.guard }], guard := some (1, true) }) (v := ?_) rfl (by kernel_rfl) (by kernel_rfl) (by kernel_rfl) (fun _ _ _ h => h) rfl (by kernel_rfl) (by kernel_rfl) (by kernel_rfl) (Or.inl ⟨by rfl, ?_⟩) hHeld (fun hHeld => ?_)
                  rotate_left
                  · intro w hSw
                    (try dsimp only at hSw)
                    go_simp
                    try with_reducible rfl
                  try simp only [Act.put, List.setIfInBounds_toArray, List.set_cons_zero, List.set_cons_succ]
                  refine wpAnyL_take 0 _ _ (i := 7) (oi := { dst := some 90, op := Op.move (Operand.tmp 12), type := 3, pos := "law.go:143", after := #[{ on := 1, ground := Ground.guard }], guard := some (1, true) }) (v := ?_) rfl (by kernel_rfl) (by kernel_rfl) (by kernel_rfl) (fun _ _ _ h => h) rfl (by kernel_rfl) (by kernel_rfl) (by kernel_rfl) (Or.inl ⟨by rfl, ?_⟩) hHeld (fun hHeld => ?_)
                  rotate_left
                  · intro w hSw
                    (try dsimp only at hSw)
                    go_simp
                    try with_reducible rfl
                  try simp only [Act.put, List.setIfInBounds_toArray, List.set_cons_zero, List.set_cons_succ]
                  refine wpAnyL_take 0 _ _ (i := 8) (oi := { dst := some 91, op := Op.indexAddr 39 (Operand.tmp 89) (Operand.tmp 90), type := 0, pos := "law.go:143", after := #[{ on := 6, ground := Ground.data }, { on := 7, ground := Ground.data }, { on := 1, ground := Ground.guard }], guard := some (1, true) }) (v := ?_) rfl (by kernel_rfl) (by kernel_rfl) (by kernel_rfl) (fun _ _ _ h => h) rfl (by kernel_rfl) (by kernel_rfl) (by kernel_rfl) (Or.inl ⟨by rfl, ?_⟩) hHeld (fun hHeld => ?_)
                  rotate_left
                  · intro w hSw
                    (try dsimp only at hSw)
                    go_simp
                    try with_reducible rfl
                  try simp only [Act.put, List.setIfInBounds_toArray, List.set_cons_zero, List.set_cons_succ]
                  refine wpAnyL_take 1 _ _ (i := 9) (oi := { dst := some 92, op := Op.load 41 (Operand.tmp 91), type := 41, pos := "law.go:143", after := #[{ on := 8, ground := Ground.data }, { on := 1, ground := Ground.guard }], guard := some (1, true) }) (v := ?_) rfl (by kernel_rfl) (by kernel_rfl) (by kernel_rfl) (fun _ _ _ h => h) rfl (by kernel_rfl) (by kernel_rfl) (by kernel_rfl) (Or.inl ⟨by rfl, ?_⟩) hHeld (fun hHeld => ?_)
                  rotate_left
                  · intro w hSw
                    (try dsimp only at hSw)
                    obtain ⟨⟨c0, c1, c2, c3, c4⟩, d0, d1, d2, d3, d4⟩ := hSw
                    go_simp
                    try with_reducible rfl
                  try simp only [Act.put, List.setIfInBounds_toArray, List.set_cons_zero, List.set_cons_succ]
                  refine wpAnyL_ready (rs := [10]) (by kernel_rfl) (by simp) ?_
                  refine AllReadyL.cons (o := { dst := some 93, op := Op.call { callee := Callee.value (Operand.func 33), args := #[Operand.tmp 88, Operand.tmp 92], argTypes := #[41, 41] }, type := 4, pos := "law.go:143", after := #[{ on := 5, ground := Ground.data }, { on := 9, ground := Ground.data }, { on := 1, ground := Ground.chain }, { on := 1, ground := Ground.guard }], guard := some (1, true) }) rfl (fun K hK => ?_) AllReadyL.nil
                  go_simp
                  go_at_call 33
                  refine (HSY.out _ HB9.out).mono ?_
                  rintro e w9 ⟨rfl, hb9⟩
                  have HBZ := Lib.hid (HB9.out.trans (hb9.mono HB9.out.size))
                  have hs9 := HK9.out _ HBZ.out
                  clear hb9
                  refine hK.out _ _ (SL.cons (fun _ => trivial) (SL.cons (fun _ => hs9) SL.nil)) (fun hHeld => ?_)
                  clear hK K
                  try simp only [Act.put, List.setIfInBounds_toArray, List.set_cons_zero, List.set_cons_succ]
                  refine wpAnyL_take 0 _ _ (i := 11) (oi := { dst := some 94, op := Op.pick (Operand.tmp 84) (Operand.tmp 93) (Operand.const (Value.bool false)), type := 4, pos := "law.go:143", after := #[{ on := 1, ground := Ground.data }, { on := 10, ground := Ground.data }], guard := none }) (v := ?_) rfl (by kernel_rfl) (by kernel_rfl) (by kernel_rfl) (fun _ _ _ h => h) rfl (by kernel_rfl) (by kernel_rfl) (by kernel_rfl) (Or.inl ⟨by rfl, ?_⟩) hHeld (fun hHeld => ?_)
                  rotate_left
                  · intro w hSw
                    (try dsimp only at hSw)
                    go_simp
                    try with_reducible rfl
                  try simp only [Act.put, List.setIfInBounds_toArray, List.set_cons_zero, List.set_cons_succ]
                  refine wpAnyL_ready (rs := [12]) (by kernel_rfl) (by simp) ?_
                  refine AllReadyL.cons (o := { dst := some 11, op := Op.assign (Operand.tmp 94), type := 4, pos := "law.go:143", after := #[{ on := 11, ground := Ground.data }, { on := 10, ground := Ground.chain }, { on := 0, ground := Ground.phase }, { on := 1, ground := Ground.phase }, { on := 2, ground := Ground.phase }, { on := 3, ground := Ground.phase }, { on := 4, ground := Ground.phase }, { on := 5, ground := Ground.phase }, { on := 6, ground := Ground.phase }, { on := 7, ground := Ground.phase }, { on := 8, ground := Ground.phase }, { on := 9, ground := Ground.phase }, { on := 10, ground := Ground.phase }, { on := 11, ground := Ground.phase }], guard := none }) rfl (fun K hK => ?_) AllReadyL.nil
                  go_simp
                  refine hK.out _ _ (SL.cons (fun _ => trivial) (SL.cons (fun h => absurd h (by decide +kernel)) SL.nil)) (fun hHeld => ?_)
                  clear hK K
                  try simp only [Act.put, List.setIfInBounds_toArray, List.set_cons_zero, List.set_cons_succ]
                  refine wpAnyL_done (by kernel_rfl) ?_ _
                  go_wp2_with fail
                  go_roundg G
                  case measure => omega
                  case rel =>
                    refine ⟨1, r1, (X ++ Y), false, D1, SB, by have := HGK.out; omega, by simp, rfl, rfl, rfl, rfl, Lib.hid ⟨HRR.out.2.2, ?_, HRR.out.2.1.trans (HBZ.out.mono HRR.out.2.1.size), by have := HMX.out; omega, ?_, ?_, ?_, hD1l, HTW.out.2, ?_, ?_⟩⟩
                    · exact HRR.out.1.later HBZ.out
                    · have := HOK.out; simpa using this
                    · intro h; cases h
                    · have h1 := HX0.out; have h2 := list_size0 X Y; omega
                    · intro h; rw [← HSF.out.2.1, h, Bool.false_and]
                    · intro h; refine ⟨HSF.out.1, r2, HSF.out.2.2.2, HSF.out.2.2.1.later HBZ.out, ?_⟩; rw [← HSF.out.2.1, h, Bool.true_and]
              · have hd1 : ¬ (dp : Int) < (D1 : Int) := by omega
                have hd2 : decide (dp < D1) = false := by simp; omega
                go_wp2_with fail
                clear e0 e1 e2 e3 e4
                have HB9 := Lib.hid (HB6.out.trans ((below_drew w6).mono HB6.out.size))
                cases sm with
                | false =>
                  go_quiet (fail)
                  have HBZ := Lib.hid (bdd (n := nq) HB6.out)
                  go_wp2_with fail
                  go_roundg G
                  case measure => omega
                  case rel =>
                    refine ⟨1, r1, (X ++ Y), false, dp, false, by have := HGK.out; omega, by simp, rfl, rfl, rfl, rfl, Lib.hid ⟨HRR.out.2.2, ?_, HRR.out.2.1.trans (HBZ.out.mono HRR.out.2.1.size), by have := HMX.out; omega, ?_, ?_, ?_, hdp, HTW.out.2, ?_, ?_⟩⟩
                    · exact HRR.out.1.later HBZ.out
                    · have := HOK.out; simpa using this
                    · intro h; cases h
                    · have h1 := HX0.out; have h2 := list_size0 X Y; omega
                    · intro _; exact HSMF.out (by simp)
                    · intro h; cases h
                | true =>
                  obtain ⟨hnn, r', hrl', hfx', hsf⟩ := HSMT.out (by simp)
                  obtain ⟨b', off', rfl⟩ : ∃ b off, p' = some ⟨b, off, none⟩ := HLM.out.2.1.some (by rw [← HN.out.2.1]; omega)
                  cases r' with
                  | nil => exact absurd hrl' (by simp [Fo.len])
                  | cons l2 k2 s2 a2 x2 r2 =>
                  obtain ⟨_, g0, g1, g2, g3, ⟨q4, cc4, g4, hc4, hm4, hx4⟩, hr4⟩ := hfx'.head
                  simp only [Nat.zero_mul, Nat.add_zero] at g0 g1 g2 g3 g4
                  have HSY := Lib.hid (fun (w : World) (h : Below wA.heap.size wA w) => HSX.out w h l2 k2 s2 a2 q4 cc4 x2 (hx4.later h) hc4 hm4)
                  obtain ⟨n4, hn4⟩ : ∃ n4, n4 = x2.len := ⟨_, rfl⟩
                  rw [← hn4] at HSY g4
                  obtain ⟨SB, hSB⟩ : ∃ SB, SB = sameT l1 k1 s1 x1 l2 k2 s2 x2 := ⟨_, rfl⟩
                  rw [← hSB] at HSY
                  have hsf2 : (SB && sameF r1 r2) = SS := by rw [hSB]; exact hsf
                  have HSF := Lib.hid (And.intro hnn (And.intro hsf2 (And.intro hr4 (show r2.len = G by simpa [Fo.len] using hrl'))))
                  have HK9 := Lib.hid (fun (w : World) (h : Below wA.heap.size wA w) => show (w.cell? ⟨b, off, none⟩ = some (.bool l1) ∧ w.cell? ⟨b, off + 1, none⟩ = some (.int .u8 k1) ∧ w.cell? ⟨b, off + 2, none⟩ = some (.string s1) ∧ w.cell? ⟨b, off + 3, none⟩ = some (.int .i64 a1) ∧ w.cell? ⟨b, off + 4, none⟩ = some (.slice q3 n3 cc3)) ∧ (w.cell? ⟨b', off', none⟩ = some (.bool l2) ∧ w.cell? ⟨b', off' + 1, none⟩ = some (.int .u8 k2) ∧ w.cell? ⟨b', off' + 2, none⟩ = some (.string s2) ∧ w.cell? ⟨b', off' + 3, none⟩ = some (.int .i64 a2) ∧ w.cell? ⟨b', off' + 4, none⟩ = some (.slice q4 n4 cc4)) from ⟨HCE.out w h, cell_later h g0, cell_later h g1, cell_later h g2, cell_later h g3, cell_later h g4⟩)
                  have HS9 := Lib.hid (HK9.out _ HB9.out)
                  have i6 : (0 : Int) < (n' : Int) := by omega
                  have i7 : 0 < n' := by omega
                  clear hnn hrl' hfx' hsf hc4 hm4 hx4 hr4 hn4 hSB hsf2 g0 g1 g2 g3 g4
                  refine wp_region_L [(1000, (fun _ => True : World → Prop)), (12, ((fun w => (w.cell? ⟨b, off, none⟩ = some (.bool l1) ∧ w.cell? ⟨b, off + 1, none⟩ = some (.int .u8 k1) ∧ w.cell? ⟨b, off + 2, none⟩ = some (.string s1) ∧ w.cell? ⟨b, off + 3, none⟩ = some (.int .i64 a1) ∧ w.cell? ⟨b, off + 4, none⟩ = some (.slice q3 n3 cc3)) ∧ (w.cell? ⟨b', off', none⟩ = some (.bool l2) ∧ w.cell? ⟨b', off' + 1, none⟩ = some (.int .u8 k2) ∧ w.cell? ⟨b', off' + 2, none⟩ = some (.string s2) ∧ w.cell? ⟨b', off' + 3, none⟩ = some (.int .i64 a2) ∧ w.cell? ⟨b', off' + 4, none⟩ = some (.slice q4 n4 cc4))) : World → Prop))] (by kernel_rfl) (SL.cons (fun _ => trivial) (SL.cons (fun _ => HS9.out) SL.nil)) (fun hHeld => ?_)
                  refine wpAnyL_take 0 _ _ (i := 0) (oi := { dst := some 83, op := Op.move (Operand.tmp 11), type := 4, pos := "law.go:143", after := #[], guard := none }) (v := ?_) rfl (by kernel_rfl) (by kernel_rfl) (by kernel_rfl) (fun _ _ _ h => h) rfl (by kernel_rfl) (by kernel_rfl) (by kernel_rfl) (Or.inl ⟨by rfl, ?_⟩) hHeld (fun hHeld => ?_)
                  rotate_left
                  · intro w hSw
                    (try dsimp only at hSw)
                    go_simp
                    try with_reducible rfl
                  try simp only [Act.put, List.setIfInBounds_toArray, List.set_cons_zero, List.set_cons_succ]
                  refine wpAnyL_take 0 _ _ (i := 1) (oi := { dst := some 84, op := Op.move (Operand.tmp 83), type := 4, pos := "law.go:143", after := #[{ on := 0, ground := Ground.data }], guard := none }) (v := ?_) rfl (by kernel_rfl) (by kernel_rfl) (by kernel_rfl) (fun _ _ _ h => h) rfl (by kernel_rfl) (by kernel_rfl) (by kernel_rfl) (Or.inl ⟨by rfl, ?_⟩) hHeld (fun hHeld => ?_)
                  rotate_left
                  · intro w hSw
                    (try dsimp only at hSw)
                    go_simp
                    try with_reducible rfl
                  try simp only [Act.put, List.setIfInBounds_toArray, List.set_cons_zero, List.set_cons_succ]
                  refine wpAnyL_take 0 _ _ (i := 2) (oi := { dst := some 85, op := Op.move (Operand.tmp 0), type := 39, pos := "law.go:143", after := #[{ on := 1, ground := Ground.guard }], guard := some (1, true) }) (v := ?_) rfl (by kernel_rfl) (by kernel_rfl) (by kernel_rfl) (fun _ _ _ h => h) rfl (by kernel_rfl) (by kernel_rfl) (by kernel_rfl) (Or.inl ⟨by rfl, ?_⟩) hHeld (fun hHeld => ?_)
                  rotate_left
                  · intro w hSw
                    (try dsimp only at hSw)
                    go_simp
                    try with_reducible rfl
                  try simp only [Act.put, List.setIfInBounds_toArray, List.set_cons_zero, List.set_cons_succ]
                  refine wpAnyL_take 0 _ _ (i := 3) (oi := { dst := some 86, op := Op.move (Operand.tmp 12), type := 3, pos := "law.go:143", after := #[{ on := 1, ground := Ground.guard }], guard := some (1, true) }) (v := ?_) rfl (by kernel_rfl) (by kernel_rfl) (by kernel_rfl) (fun _ _ _ h => h) rfl (by kernel_rfl) (by kernel_rfl) (by kernel_rfl) (Or.inl ⟨by rfl, ?_⟩) hHeld (fun hHeld => ?_)
                  rotate_left
                  · intro w hSw
                    (try dsimp only at hSw)
                    go_simp
                    try with_reducible rfl
                  try simp only [Act.put, List.setIfInBounds_toArray, List.set_cons_zero, List.set_cons_succ]
                  refine wpAnyL_take 0 _ _ (i := 4) (oi := { dst := some 87, op := Op.indexAddr 39 (Operand.tmp 85) (Operand.tmp 86), type := 0, pos := "law.go:143", after := #[{ on := 2, ground := Ground.data }, { on := 3, ground := Ground.data }, { on := 1, ground := Ground.guard }], guard := some (1, true) }) (v := ?_) rfl (by kernel_rfl) (by kernel_rfl) (by kernel_rfl) (fun _ _ _ h => h) rfl (by kernel_rfl) (by kernel_rfl) (by kernel_rfl) (Or.inl ⟨by rfl, ?_⟩) hHeld (fun hHeld => ?_)
                  rotate_left
                  · intro w hSw
                    (try dsimp only at hSw)
                    go_simp
                    try with_reducible rfl
                  try simp only [Act.put, List.setIfInBounds_toArray, List.set_cons_zero, List.set_cons_succ]
                  refine wpAnyL_take 1 _ _ (i := 5) (oi := { dst := some 88, op := Op.load 41 (Operand.tmp 87), type := 41, pos := "law.go:143", after := #[{ on := 4, ground := Ground.data }, { on := 1, ground := Ground.guard }], guard := some (1, true) }) (v := ?_) rfl (by kernel_rfl) (by kernel_rfl) (by kernel_rfl) (fun _ _ _ h => h) rfl (by kernel_rfl) (by kernel_rfl) (by kernel_rfl) (Or.inl ⟨by rfl, ?_⟩) hHeld (fun hHeld => ?_)
                  rotate_left
                  · intro w hSw
                    (try dsimp only at hSw)
                    obtain ⟨⟨c0, c1, c2, c3, c4⟩, d0, d1, d2, d3, d4⟩ := hSw
                    go_simp
                    try with_reducible rfl
                  try simp only [Act.put, List.setIfInBounds_toArray, List.set_cons_zero, List.set_cons_succ]
                  refine wpAnyL_take 0 _ _ (i := 6) (oi := { dst := some 89, op := Op.move (Operand.tmp 1), type := 39, pos := "law.go:143", after := #[{ on := 1, ground := Ground.guard }], guard := some (1, true) }) (v := ?_) rfl (by kernel_rfl) (by kernel_rfl) (by kernel_rfl) (fun _ _ _ h => h) rfl (by kernel_rfl) (by kernel_rfl) (by kernel_rfl) (Or.inl ⟨by rfl, ?_⟩) hHeld (fun hHeld => ?_)
                  rotate_left
                  · intro w hSw
                    (try dsimp only at hSw)
                    go_simp
                    try with_reducible rfl
                  try simp only [Act.put, List.setIfInBounds_toArray, List.set_cons_zero, List.set_cons_succ]
                  refine wpAnyL_take 0 _ _ (i := 7) (oi := { dst := some 90, op := Op.move (Operand.tmp 12), type := 3, pos := "law.go:143", after := #[{ on := 1, ground := Ground.guard }], guard := some (1, true) }) (v := ?_) rfl (by kernel_rfl) (by kernel_rfl) (by kernel_rfl) (fun _ _ _ h => h) rfl (by kernel_rfl) (by kernel_rfl) (by kernel_rfl) (Or.inl ⟨by rfl, ?_⟩) hHeld (fun hHeld => ?_)
                  rotate_left
                  · intro w hSw
                    (try dsimp only at hSw)
                    go_simp
                    try with_reducible rfl
                  try simp only [Act.put, List.setIfInBounds_toArray, List.set_cons_zero, List.set_cons_succ]
                  refine wpAnyL_take 0 _ _ (i := 8) (oi := { dst := some 91, op := Op.indexAddr 39 (Operand.tmp 89) (Operand.tmp 90), type := 0, pos := "law.go:143", after := #[{ on := 6, ground := Ground.data }, { on := 7, ground := Ground.data }, { on := 1, ground := Ground.guard }], guard := some (1, true) }) (v := ?_) rfl (by kernel_rfl) (by kernel_rfl) (by kernel_rfl) (fun _ _ _ h => h) rfl (by kernel_rfl) (by kernel_rfl) (by kernel_rfl) (Or.inl ⟨by rfl, ?_⟩) hHeld (fun hHeld => ?_)
                  rotate_left
                  · intro w hSw
                    (try dsimp only at hSw)
                    go_simp
                    try with_reducible rfl
                  try simp only [Act.put, List.setIfInBounds_toArray, List.set_cons_zero, List.set_cons_succ]
                  refine wpAnyL_take 1 _ _ (i := 9) (oi := { dst := some 92, op := Op.load 41 (Operand.tmp 91), type := 41, pos := "law.go:143", after := #[{ on := 8, ground := Ground.data }, { on := 1, ground := Ground.guard }], guard := some (1, true) }) (v := ?_) rfl (by kernel_rfl) (by kernel_rfl) (by kernel_rfl) (fun _ _ _ h => h) rfl (by kernel_rfl) (by kernel_rfl) (by kernel_rfl) (Or.inl ⟨by rfl, ?_⟩) hHeld (fun hHeld => ?_)
                  rotate_left
                  · intro w hSw
                    (try dsimp only at hSw)
                    obtain ⟨⟨c0, c1, c2, c3, c4⟩, d0, d1, d2, d3, d4⟩ := hSw
                    go_simp
                    try with_reducible rfl
                  try simp only [Act.put, List.setIfInBounds_toArray, List.set_cons_zero, List.set_cons_succ]
                  refine wpAnyL_ready (rs := [10]) (by kernel_rfl) (by simp) ?_
                  refine AllReadyL.cons (o := { dst := some 93, op := Op.call { callee := Callee.value (Operand.func 33), args := #[Operand.tmp 88, Operand.tmp 92], argTypes := #[41, 41] }, type := 4, pos := "law.go:143", after := #[{ on := 5, ground := Ground.data }, { on := 9, ground := Ground.data }, { on := 1, ground := Ground.chain }, { on := 1, ground := Ground.guard }], guard := some (1, true) }) rfl (fun K hK => ?_) AllReadyL.nil
                  go_simp
                  go_at_call 33
                  refine (HSY.out _ HB9.out).mono ?_
                  rintro e w9 ⟨rfl, hb9⟩
                  have HBZ := Lib.hid (HB9.out.trans (hb9.mono HB9.out.size))
                  have hs9 := HK9.out _ HBZ.out
                  clear hb9
                  refine hK.out _ _ (SL.cons (fun _ => trivial) (SL.cons (fun _ => hs9) SL.nil)) (fun hHeld => ?_)
                  clear hK K
                  try simp only [Act.put, List.setIfInBounds_toArray, List.set_cons_zero, List.set_cons_succ]
                  refine wpAnyL_take 0 _ _ (i := 11) (oi := { dst := some 94, op := Op.pick (Operand.tmp 84) (Operand.tmp 93) (Operand.const (Value.bool false)), type := 4, pos := "law.go:143", after := #[{ on := 1, ground := Ground.data }, { on := 10, ground := Ground.data }], guard := none }) (v := ?_) rfl (by kernel_rfl) (by kernel_rfl) (by kernel_rfl) (fun _ _ _ h => h) rfl (by kernel_rfl) (by kernel_rfl) (by kernel_rfl) (Or.inl ⟨by rfl, ?_⟩) hHeld (fun hHeld => ?_)
                  rotate_left
                  · intro w hSw
                    (try dsimp only at hSw)
                    go_simp
                    try with_reducible rfl
                  try simp only [Act.put, List.setIfInBounds_toArray, List.set_cons_zero, List.set_cons_succ]
                  refine wpAnyL_ready (rs := [12]) (by kernel_rfl) (by simp) ?_
                  refine AllReadyL.cons (o := { dst := some 11, op := Op.assign (Operand.tmp 94), type := 4, pos := "law.go:143", after := #[{ on := 11, ground := Ground.data }, { on := 10, ground := Ground.chain }, { on := 0, ground := Ground.phase }, { on := 1, ground := Ground.phase }, { on := 2, ground := Ground.phase }, { on := 3, ground := Ground.phase }, { on := 4, ground := Ground.phase }, { on := 5, ground := Ground.phase }, { on := 6, ground := Ground.phase }, { on := 7, ground := Ground.phase }, { on := 8, ground := Ground.phase }, { on := 9, ground := Ground.phase }, { on := 10, ground := Ground.phase }, { on := 11, ground := Ground.phase }], guard := none }) rfl (fun K hK => ?_) AllReadyL.nil
                  go_simp
                  refine hK.out _ _ (SL.cons (fun _ => trivial) (SL.cons (fun h => absurd h (by decide +kernel)) SL.nil)) (fun hHeld => ?_)
                  clear hK K
                  try simp only [Act.put, List.setIfInBounds_toArray, List.set_cons_zero, List.set_cons_succ]
                  refine wpAnyL_done (by kernel_rfl) ?_ _
                  go_wp2_with fail
                  go_roundg G
                  case measure => omega
                  case rel =>
                    refine ⟨1, r1, (X ++ Y), false, dp, SB, by have := HGK.out; omega, by simp, rfl, rfl, rfl, rfl, Lib.hid ⟨HRR.out.2.2, ?_, HRR.out.2.1.trans (HBZ.out.mono HRR.out.2.1.size), by have := HMX.out; omega, ?_, ?_, ?_, hdp, HTW.out.2, ?_, ?_⟩⟩
                    · exact HRR.out.1.later HBZ.out
                    · have := HOK.out; simpa using this
                    · intro h; cases h
                    · have h1 := HX0.out; have h2 := list_size0 X Y; omega
                    · intro h; rw [← HSF.out.2.1, h, Bool.false_and]
                    · intro h; refine ⟨HSF.out.1, r2, HSF.out.2.2.2, HSF.out.2.2.1.later HBZ.out, ?_⟩; rw [← HSF.out.2.1, h, Bool.true_and]
            · have hi4 : (0 : Int) < (i : Int) := by omega
              have hi5' : 0 < i := by omega
              go_wp2_with fail
              refine HDX5.out.mono ?_
              rintro e w6 ⟨rfl, hb6⟩
              have HB6 := Lib.hid (HB5.out.trans (hb6.mono HB5.out.size))
              clear hb6 e0 e1 e2 e3 e4
              obtain ⟨e0, e1, e2, e3, e4⟩ := HCE.out _ HB6.out
              by_cases hd : dp < D1
              · have hd1 : (dp : Int) < (D1 : Int) := by omega
                go_wp2_with fail
                refine (HDX.out _ HB6.out).mono ?_
                rintro e w7 ⟨rfl, hb7⟩
                have HB7 := Lib.hid (HB6.out.trans (hb7.mono HB6.out.size))
                clear hb7 e0 e1 e2 e3 e4
                go_wp2_with fail
                have HB9 := Lib.hid (HB7.out.trans ((below_drew w7).mono HB7.out.size))
                cases sm with
                | false =>
                  go_quiet (fail)
                  have HBZ := Lib.hid (bdd (n := nq) HB7.out)
                  go_wp2_with fail
                  go_roundg G
                  case measure => omega
                  case rel =>
                    obtain ⟨i', hi'⟩ : ∃ i', i' = i + 1 := ⟨_, rfl⟩
                    refine ⟨i', r1, (X ++ (⟨#[32]⟩ : ByteArray) ++ Y), false, D1, false, by have := HGK.out; omega, by rw [hi']; go_num, rfl, rfl, rfl, rfl, Lib.hid ⟨HRR.out.2.2, ?_, HRR.out.2.1.trans (HBZ.out.mono HRR.out.2.1.size), by have := HMX.out; omega, ?_, ?_, ?_, hD1l, HTW.out.2, ?_, ?_⟩⟩
                    · rw [hi']; exact HRR.out.1.later HBZ.out
                    · have := HOK.out; simpa using this
                    · intro h; cases h
                    · have h1 := HX0.out; have h2 := list_size1 X Y; omega
                    · intro _; exact HSMF.out (by simp)
                    · intro h; cases h
                | true =>
                  obtain ⟨hnn, r', hrl', hfx', hsf⟩ := HSMT.out (by simp)
                  obtain ⟨b', off', rfl⟩ : ∃ b off, p' = some ⟨b, off, none⟩ := HLM.out.2.1.some (by rw [← HN.out.2.1]; omega)
                  cases r' with
                  | nil => exact absurd hrl' (by simp [Fo.len])
                  | cons l2 k2 s2 a2 x2 r2 =>
                  obtain ⟨_, g0, g1, g2, g3, ⟨q4, cc4, g4, hc4, hm4, hx4⟩, hr4⟩ := hfx'.head
                  have HSY := Lib.hid (fun (w : World) (h : Below wA.heap.size wA w) => HSX.out w h l2 k2 s2 a2 q4 cc4 x2 (hx4.later h) hc4 hm4)
                  obtain ⟨n4, hn4⟩ : ∃ n4, n4 = x2.len := ⟨_, rfl⟩
                  rw [← hn4] at HSY g4
                  obtain ⟨SB, hSB⟩ : ∃ SB, SB = sameT l1 k1 s1 x1 l2 k2 s2 x2 := ⟨_, rfl⟩
                  rw [← hSB] at HSY
                  have hsf2 : (SB && sameF r1 r2) = SS := by rw [hSB]; exact hsf
                  have HSF := Lib.hid (And.intro hnn (And.intro hsf2 (And.intro hr4 (show r2.len = G by simpa [Fo.len] using hrl'))))
                  have HK9 := Lib.hid (fun (w : World) (h : Below wA.heap.size wA w) => show (w.cell? ⟨b, off + i * 5, none⟩ = some (.bool l1) ∧ w.cell? ⟨b, off + i * 5 + 1, none⟩ = some (.int .u8 k1) ∧ w.cell? ⟨b, off + i * 5 + 2, none⟩ = some (.string s1) ∧ w.cell? ⟨b, off + i * 5 + 3, none⟩ = some (.int .i64 a1) ∧ w.cell? ⟨b, off + i * 5 + 4, none⟩ = some (.slice q3 n3 cc3)) ∧ (w.cell? ⟨b', off' + i * 5, none⟩ = some (.bool l2) ∧ w.cell? ⟨b', off' + i * 5 + 1, none⟩ = some (.int .u8 k2) ∧ w.cell? ⟨b', off' + i * 5 + 2, none⟩ = some (.string s2) ∧ w.cell? ⟨b', off' + i * 5 + 3, none⟩ = some (.int .i64 a2) ∧ w.cell? ⟨b', off' + i * 5 + 4, none⟩ = some (.slice q4 n4 cc4)) from ⟨HCE.out w h, cell_later h g0, cell_later h g1, cell_later h g2, cell_later h g3, cell_later h g4⟩)
                  have HS9 := Lib.hid (HK9.out _ HB9.out)
                  have i6 : (i : Int) < (n' : Int) := by omega
                  have i7 : i < n' := by omega
                  clear hnn hrl' hfx' hsf hc4 hm4 hx4 hr4 hn4 hSB hsf2 g0 g1 g2 g3 g4
                  refine wp_region_L [(1000, (fun _ => True : World → Prop)), (12, ((fun w => (w.cell? ⟨b, off + i * 5, none⟩ = some (.bool l1) ∧ w.cell? ⟨b, off + i * 5 + 1, none⟩ = some (.int .u8 k1) ∧ w.cell? ⟨b, off + i * 5 + 2, none⟩ = some (.string s1) ∧ w.cell? ⟨b, off + i * 5 + 3, none⟩ = some (.int .i64 a1) ∧ w.cell? ⟨b, off + i * 5 + 4, none⟩ = some (.slice q3 n3 cc3)) ∧ (w.cell? ⟨b', off' + i * 5, none⟩ = some (.bool l2) ∧ w.cell? ⟨b', off' + i * 5 + 1, none⟩ = some (.int .u8 k2) ∧ w.cell? ⟨b', off' + i * 5 + 2, none⟩ = some (.string s2) ∧ w.cell? ⟨b', off' + i * 5 + 3, none⟩ = some (.int .i64 a2) ∧ w.cell? ⟨b', off' + i * 5 + 4, none⟩ = some (.slice q4 n4 cc4))) : World → Prop))] (by kernel_rfl) (SL.cons (fun _ => trivial) (SL.cons (fun _ => HS9.out) SL.nil)) (fun hHeld => ?_)
                  refine wpAnyL_take 0 _ _ (i := 0) (oi := { dst := some 83, op := Op.move (Operand.tmp 11), type := 4, pos := "law.go:143", after := #[], guard := none }) (v := ?_) rfl (by kernel_rfl) (by kernel_rfl) (by kernel_rfl) (fun _ _ _ h => h) rfl (by kernel_rfl) (by kernel_rfl) (by kernel_rfl) (Or.inl ⟨by rfl, ?_⟩) hHeld (fun hHeld => ?_)
                  rotate_left
                  · intro w hSw
                    (try dsimp only at hSw)
                    go_simp
                    try with_reducible rfl
                  try simp only [Act.put, List.setIfInBounds_toArray, List.set_cons_zero, List.set_cons_succ]
                  refine wpAnyL_take 0 _ _ (i := 1) (oi := { dst := some 84, op := Op.move (Operand.tmp 83), type := 4, pos := "law.go:143", after := #[{ on := 0, ground := Ground.data }], guard := none }) (v := ?_) rfl (by kernel_rfl) (by kernel_rfl) (by kernel_rfl) (fun _ _ _ h => h) rfl (by kernel_rfl) (by kernel_rfl) (by kernel_rfl) (Or.inl ⟨by rfl, ?_⟩) hHeld (fun hHeld => ?_)
                  rotate_left
                  · intro w hSw
                    (try dsimp only at hSw)
                    go_simp
                    try with_reducible rfl
                  try simp only [Act.put, List.setIfInBounds_toArray, List.set_cons_zero, List.set_cons_succ]
                  refine wpAnyL_take 0 _ _ (i := 2) (oi := { dst := some 85, op := Op.move (Operand.tmp 0), type := 39, pos := "law.go:143", after := #[{ on := 1, ground := Ground.guard }], guard := some (1, true) }) (v := ?_) rfl (by kernel_rfl) (by kernel_rfl) (by kernel_rfl) (fun _ _ _ h => h) rfl (by kernel_rfl) (by kernel_rfl) (by kernel_rfl) (Or.inl ⟨by rfl, ?_⟩) hHeld (fun hHeld => ?_)
                  rotate_left
                  · intro w hSw
                    (try dsimp only at hSw)
                    go_simp
                    try with_reducible rfl
                  try simp only [Act.put, List.setIfInBounds_toArray, List.set_cons_zero, List.set_cons_succ]
                  refine wpAnyL_take 0 _ _ (i := 3) (oi := { dst := some 86, op := Op.move (Operand.tmp 12), type := 3, pos := "law.go:143", after := #[{ on := 1, ground := Ground.guard }], guard := some (1, true) }) (v := ?_) rfl (by kernel_rfl) (by kernel_rfl) (by kernel_rfl) (fun _ _ _ h => h) rfl (by kernel_rfl) (by kernel_rfl) (by kernel_rfl) (Or.inl ⟨by rfl, ?_⟩) hHeld (fun hHeld => ?_)
                  rotate_left
                  · intro w hSw
                    (try dsimp only at hSw)
                    go_simp
                    try with_reducible rfl
                  try simp only [Act.put, List.setIfInBounds_toArray, List.set_cons_zero, List.set_cons_succ]
                  refine wpAnyL_take 0 _ _ (i := 4) (oi := { dst := some 87, op := Op.indexAddr 39 (Operand.tmp 85) (Operand.tmp 86), type := 0, pos := "law.go:143", after := #[{ on := 2, ground := Ground.data }, { on := 3, ground := Ground.data }, { on := 1, ground := Ground.guard }], guard := some (1, true) }) (v := ?_) rfl (by kernel_rfl) (by kernel_rfl) (by kernel_rfl) (fun _ _ _ h => h) rfl (by kernel_rfl) (by kernel_rfl) (by kernel_rfl) (Or.inl ⟨by rfl, ?_⟩) hHeld (fun hHeld => ?_)
                  rotate_left
                  · intro w hSw
                    (try dsimp only at hSw)
                    go_simp
                    try with_reducible rfl
                  try simp only [Act.put, List.setIfInBounds_toArray, List.set_cons_zero, List.set_cons_succ]
                  refine wpAnyL_take 1 _ _ (i := 5) (oi := { dst := some 88, op := Op.load 41 (Operand.tmp 87), type := 41, pos := "law.go:143", after := #[{ on := 4, ground := Ground.data }, { on := 1, ground := Ground.guard }], guard := some (1, true) }) (v := ?_) rfl (by kernel_rfl) (by kernel_rfl) (by kernel_rfl) (fun _ _ _ h => h) rfl (by kernel_rfl) (by kernel_rfl) (by kernel_rfl) (Or.inl ⟨by rfl, ?_⟩) hHeld (fun hHeld => ?_)
                  rotate_left
                  · intro w hSw
                    (try dsimp only at hSw)
                    obtain ⟨⟨c0, c1, c2, c3, c4⟩, d0, d1, d2, d3, d4⟩ := hSw
                    go_simp
                    try with_reducible rfl
                  try simp only [Act.put, List.setIfInBounds_toArray, List.set_cons_zero, List.set_cons_succ]
                  refine wpAnyL_take 0 _ _ (i := 6) (oi := { dst := some 89, op := Op.move (Operand.tmp 1), type := 39, pos := "law.go:143", after := #[{ on := 1, ground := Ground.guard }], guard := some (1, true) }) (v := ?_) rfl (by kernel_rfl) (by kernel_rfl) (by kernel_rfl) (fun _ _ _ h => h) rfl (by kernel_rfl) (by kernel_rfl) (by kernel_rfl) (Or.inl ⟨by rfl, ?_⟩) hHeld (fun hHeld => ?_)
                  rotate_left
                  · intro w hSw
                    (try dsimp only at hSw)
                    go_simp
                    try with_reducible rfl
                  try simp only [Act.put, List.setIfInBounds_toArray, List.set_cons_zero, List.set_cons_succ]
                  refine wpAnyL_take 0 _ _ (i := 7) (oi := { dst := some 90, op := Op.move (Operand.tmp 12), type := 3, pos := "law.go:143", after := #[{ on := 1, ground := Ground.guard }], guard := some (1, true) }) (v := ?_) rfl (by kernel_rfl) (by kernel_rfl) (by kernel_rfl) (fun _ _ _ h => h) rfl (by kernel_rfl) (by kernel_rfl) (by kernel_rfl) (Or.inl ⟨by rfl, ?_⟩) hHeld (fun hHeld => ?_)
                  rotate_left
                  · intro w hSw
                    (try dsimp only at hSw)
                    go_simp
                    try with_reducible rfl
                  try simp only [Act.put, List.setIfInBounds_toArray, List.set_cons_zero, List.set_cons_succ]
                  refine wpAnyL_take 0 _ _ (i := 8) (oi := { dst := some 91, op := Op.indexAddr 39 (Operand.tmp 89) (Operand.tmp 90), type := 0, pos := "law.go:143", after := #[{ on := 6, ground := Ground.data }, { on := 7, ground := Ground.data }, { on := 1, ground := Ground.guard }], guard := some (1, true) }) (v := ?_) rfl (by kernel_rfl) (by kernel_rfl) (by kernel_rfl) (fun _ _ _ h => h) rfl (by kernel_rfl) (by kernel_rfl) (by kernel_rfl) (Or.inl ⟨by rfl, ?_⟩) hHeld (fun hHeld => ?_)
                  rotate_left
                  · intro w hSw
                    (try dsimp only at hSw)
                    go_simp
                    try with_reducible rfl
                  try simp only [Act.put, List.setIfInBounds_toArray, List.set_cons_zero, List.set_cons_succ]
                  refine wpAnyL_take 1 _ _ (i := 9) (oi := { dst := some 92, op := Op.load 41 (Operand.tmp 91), type := 41, pos := "law.go:143", after := #[{ on := 8, ground := Ground.data }, { on := 1, ground := Ground.guard }], guard := some (1, true) }) (v := ?_) rfl (by kernel_rfl) (by kernel_rfl) (by kernel_rfl) (fun _ _ _ h => h) rfl (by kernel_rfl) (by kernel_rfl) (by kernel_rfl) (Or.inl ⟨by rfl, ?_⟩) hHeld (fun hHeld => ?_)
                  rotate_left
                  · intro w hSw
                    (try dsimp only at hSw)
                    obtain ⟨⟨c0, c1, c2, c3, c4⟩, d0, d1, d2, d3, d4⟩ := hSw
                    go_simp
                    try with_reducible rfl
                  try simp only [Act.put, List.setIfInBounds_toArray, List.set_cons_zero, List.set_cons_succ]
                  refine wpAnyL_ready (rs := [10]) (by kernel_rfl) (by simp) ?_
                  refine AllReadyL.cons (o := { dst := some 93, op := Op.call { callee := Callee.value (Operand.func 33), args := #[Operand.tmp 88, Operand.tmp 92], argTypes := #[41, 41] }, type := 4, pos := "law.go:143", after := #[{ on := 5, ground := Ground.data }, { on := 9, ground := Ground.data }, { on := 1, ground := Ground.chain }, { on := 1, ground := Ground.guard }], guard := some (1, true) }) rfl (fun K hK => ?_) AllReadyL.nil
                  go_simp
                  go_at_call 33
                  refine (HSY.out _ HB9.out).mono ?_
                  rintro e w9 ⟨rfl, hb9⟩
                  have HBZ := Lib.hid (HB9.out.trans (hb9.mono HB9.out.size))
                  have hs9 := HK9.out _ HBZ.out
                  clear hb9
                  refine hK.out _ _ (SL.cons (fun _ => trivial) (SL.cons (fun _ => hs9) SL.nil)) (fun hHeld => ?_)
                  clear hK K
                  try simp only [Act.put, List.setIfInBounds_toArray, List.set_cons_zero, List.set_cons_succ]
                  refine wpAnyL_take 0 _ _ (i := 11) (oi := { dst := some 94, op := Op.pick (Operand.tmp 84) (Operand.tmp 93) (Operand.const (Value.bool false)), type := 4, pos := "law.go:143", after := #[{ on := 1, ground := Ground.data }, { on := 10, ground := Ground.data }], guard := none }) (v := ?_) rfl (by kernel_rfl) (by kernel_rfl) (by kernel_rfl) (fun _ _ _ h => h) rfl (by kernel_rfl) (by kernel_rfl) (by kernel_rfl) (Or.inl ⟨by rfl, ?_⟩) hHeld (fun hHeld => ?_)
                  rotate_left
                  · intro w hSw
                    (try dsimp only at hSw)
                    go_simp
                    try with_reducible rfl
                  try simp only [Act.put, List.setIfInBounds_toArray, List.set_cons_zero, List.set_cons_succ]
                  refine wpAnyL_ready (rs := [12]) (by kernel_rfl) (by simp) ?_
                  refine AllReadyL.cons (o := { dst := some 11, op := Op.assign (Operand.tmp 94), type := 4, pos := "law.go:143", after := #[{ on := 11, ground := Ground.data }, { on := 10, ground := Ground.chain }, { on := 0, ground := Ground.phase }, { on := 1, ground := Ground.phase }, { on := 2, ground := Ground.phase }, { on := 3, ground := Ground.phase }, { on := 4, ground := Ground.phase }, { on := 5, ground := Ground.phase }, { on := 6, ground := Ground.phase }, { on := 7, ground := Ground.phase }, { on := 8, ground := Ground.phase }, { on := 9, ground := Ground.phase }, { on := 10, ground := Ground.phase }, { on := 11, ground := Ground.phase }], guard := none }) rfl (fun K hK => ?_) AllReadyL.nil
                  go_simp
                  refine hK.out _ _ (SL.cons (fun _ => trivial) (SL.cons (fun h => absurd h (by decide +kernel)) SL.nil)) (fun hHeld => ?_)
                  clear hK K
                  try simp only [Act.put, List.setIfInBounds_toArray, List.set_cons_zero, List.set_cons_succ]
                  refine wpAnyL_done (by kernel_rfl) ?_ _
                  go_wp2_with fail
                  go_roundg G
                  case measure => omega
                  case rel =>
                    obtain ⟨i', hi'⟩ : ∃ i', i' = i + 1 := ⟨_, rfl⟩
                    refine ⟨i', r1, (X ++ (⟨#[32]⟩ : ByteArray) ++ Y), false, D1, SB, by have := HGK.out; omega, by rw [hi']; go_num, rfl, rfl, rfl, rfl, Lib.hid ⟨HRR.out.2.2, ?_, HRR.out.2.1.trans (HBZ.out.mono HRR.out.2.1.size), by have := HMX.out; omega, ?_, ?_, ?_, hD1l, HTW.out.2, ?_, ?_⟩⟩
                    · rw [hi']; exact HRR.out.1.later HBZ.out
                    · have := HOK.out; simpa using this
                    · intro h; cases h
                    · have h1 := HX0.out; have h2 := list_size1 X Y; omega
                    · intro h; rw [← HSF.out.2.1, h, Bool.false_and]
                    · intro h; refine ⟨HSF.out.1, r2, HSF.out.2.2.2, by rw [hi']; exact HSF.out.2.2.1.later HBZ.out, ?_⟩; rw [← HSF.out.2.1, h, Bool.true_and]
              · have hd1 : ¬ (dp : Int) < (D1 : Int) := by omega
                have hd2 : decide (dp < D1) = false := by simp; omega
                go_wp2_with fail
                clear e0 e1 e2 e3 e4
                have HB9 := Lib.hid (HB6.out.trans ((below_drew w6).mono HB6.out.size))
                cases sm with
                | false =>
                  go_quiet (fail)
                  have HBZ := Lib.hid (bdd (n := nq) HB6.out)
                  go_wp2_with fail
                  go_roundg G
                  case measure => omega
                  case rel =>
                    obtain ⟨i', hi'⟩ : ∃ i', i' = i + 1 := ⟨_, rfl⟩
                    refine ⟨i', r1, (X ++ (⟨#[32]⟩ : ByteArray) ++ Y), false, dp, false, by have := HGK.out; omega, by rw [hi']; go_num, rfl, rfl, rfl, rfl, Lib.hid ⟨HRR.out.2.2, ?_, HRR.out.2.1.trans (HBZ.out.mono HRR.out.2.1.size), by have := HMX.out; omega, ?_, ?_, ?_, hdp, HTW.out.2, ?_, ?_⟩⟩
                    · rw [hi']; exact HRR.out.1.later HBZ.out
                    · have := HOK.out; simpa using this
                    · intro h; cases h
                    · have h1 := HX0.out; have h2 := list_size1 X Y; omega
                    · intro _; exact HSMF.out (by simp)
                    · intro h; cases h
                | true =>
                  obtain ⟨hnn, r', hrl', hfx', hsf⟩ := HSMT.out (by simp)
                  obtain ⟨b', off', rfl⟩ : ∃ b off, p' = some ⟨b, off, none⟩ := HLM.out.2.1.some (by rw [← HN.out.2.1]; omega)
                  cases r' with
                  | nil => exact absurd hrl' (by simp [Fo.len])
                  | cons l2 k2 s2 a2 x2 r2 =>
                  obtain ⟨_, g0, g1, g2, g3, ⟨q4, cc4, g4, hc4, hm4, hx4⟩, hr4⟩ := hfx'.head
                  have HSY := Lib.hid (fun (w : World) (h : Below wA.heap.size wA w) => HSX.out w h l2 k2 s2 a2 q4 cc4 x2 (hx4.later h) hc4 hm4)
                  obtain ⟨n4, hn4⟩ : ∃ n4, n4 = x2.len := ⟨_, rfl⟩
                  rw [← hn4] at HSY g4
                  obtain ⟨SB, hSB⟩ : ∃ SB, SB = sameT l1 k1 s1 x1 l2 k2 s2 x2 := ⟨_, rfl⟩
                  rw [← hSB] at HSY
                  have hsf2 : (SB && sameF r1 r2) = SS := by rw [hSB]; exact hsf
                  have HSF := Lib.hid (And.intro hnn (And.intro hsf2 (And.intro hr4 (show r2.len = G by simpa [Fo.len] using hrl'))))
                  have HK9 := Lib.hid (fun (w : World) (h : Below wA.heap.size wA w) => show (w.cell? ⟨b, off + i * 5, none⟩ = some (.bool l1) ∧ w.cell? ⟨b, off + i * 5 + 1, none⟩ = some (.int .u8 k1) ∧ w.cell? ⟨b, off + i * 5 + 2, none⟩ = some (.string s1) ∧ w.cell? ⟨b, off + i * 5 + 3, none⟩ = some (.int .i64 a1) ∧ w.cell? ⟨b, off + i * 5 + 4, none⟩ = some (.slice q3 n3 cc3)) ∧ (w.cell? ⟨b', off' + i * 5, none⟩ = some (.bool l2) ∧ w.cell? ⟨b', off' + i * 5 + 1, none⟩ = some (.int .u8 k2) ∧ w.cell? ⟨b', off' + i * 5 + 2, none⟩ = some (.string s2) ∧ w.cell? ⟨b', off' + i * 5 + 3, none⟩ = some (.int .i64 a2) ∧ w.cell? ⟨b', off' + i * 5 + 4, none⟩ = some (.slice q4 n4 cc4)) from ⟨HCE.out w h, cell_later h g0, cell_later h g1, cell_later h g2, cell_later h g3, cell_later h g4⟩)
                  have HS9 := Lib.hid (HK9.out _ HB9.out)
                  have i6 : (i : Int) < (n' : Int) := by omega
                  have i7 : i < n' := by omega
                  clear hnn hrl' hfx' hsf hc4 hm4 hx4 hr4 hn4 hSB hsf2 g0 g1 g2 g3 g4
                  refine wp_region_L [(1000, (fun _ => True : World → Prop)), (12, ((fun w => (w.cell? ⟨b, off + i * 5, none⟩ = some (.bool l1) ∧ w.cell? ⟨b, off + i * 5 + 1, none⟩ = some (.int .u8 k1) ∧ w.cell? ⟨b, off + i * 5 + 2, none⟩ = some (.string s1) ∧ w.cell? ⟨b, off + i * 5 + 3, none⟩ = some (.int .i64 a1) ∧ w.cell? ⟨b, off + i * 5 + 4, none⟩ = some (.slice q3 n3 cc3)) ∧ (w.cell? ⟨b', off' + i * 5, none⟩ = some (.bool l2) ∧ w.cell? ⟨b', off' + i * 5 + 1, none⟩ = some (.int .u8 k2) ∧ w.cell? ⟨b', off' + i * 5 + 2, none⟩ = some (.string s2) ∧ w.cell? ⟨b', off' + i * 5 + 3, none⟩ = some (.int .i64 a2) ∧ w.cell? ⟨b', off' + i * 5 + 4, none⟩ = some (.slice q4 n4 cc4))) : World → Prop))] (by kernel_rfl) (SL.cons (fun _ => trivial) (SL.cons (fun _ => HS9.out) SL.nil)) (fun hHeld => ?_)
                  refine wpAnyL_take 0 _ _ (i := 0) (oi := { dst := some 83, op := Op.move (Operand.tmp 11), type := 4, pos := "law.go:143", after := #[], guard := none }) (v := ?_) rfl (by kernel_rfl) (by kernel_rfl) (by kernel_rfl) (fun _ _ _ h => h) rfl (by kernel_rfl) (by kernel_rfl) (by kernel_rfl) (Or.inl ⟨by rfl, ?_⟩) hHeld (fun hHeld => ?_)
                  rotate_left
                  · intro w hSw
                    (try dsimp only at hSw)
                    go_simp
                    try with_reducible rfl
                  try simp only [Act.put, List.setIfInBounds_toArray, List.set_cons_zero, List.set_cons_succ]
                  refine wpAnyL_take 0 _ _ (i := 1) (oi := { dst := some 84, op := Op.move (Operand.tmp 83), type := 4, pos := "law.go:143", after := #[{ on := 0, ground := Ground.data }], guard := none }) (v := ?_) rfl (by kernel_rfl) (by kernel_rfl) (by kernel_rfl) (fun _ _ _ h => h) rfl (by kernel_rfl) (by kernel_rfl) (by kernel_rfl) (Or.inl ⟨by rfl, ?_⟩) hHeld (fun hHeld => ?_)
                  rotate_left
                  · intro w hSw
                    (try dsimp only at hSw)
                    go_simp
                    try with_reducible rfl
                  try simp only [Act.put, List.setIfInBounds_toArray, List.set_cons_zero, List.set_cons_succ]
                  refine wpAnyL_take 0 _ _ (i := 2) (oi := { dst := some 85, op := Op.move (Operand.tmp 0), type := 39, pos := "law.go:143", after := #[{ on := 1, ground := Ground.guard }], guard := some (1, true) }) (v := ?_) rfl (by kernel_rfl) (by kernel_rfl) (by kernel_rfl) (fun _ _ _ h => h) rfl (by kernel_rfl) (by kernel_rfl) (by kernel_rfl) (Or.inl ⟨by rfl, ?_⟩) hHeld (fun hHeld => ?_)
                  rotate_left
                  · intro w hSw
                    (try dsimp only at hSw)
                    go_simp
                    try with_reducible rfl
                  try simp only [Act.put, List.setIfInBounds_toArray, List.set_cons_zero, List.set_cons_succ]
                  refine wpAnyL_take 0 _ _ (i := 3) (oi := { dst := some 86, op := Op.move (Operand.tmp 12), type := 3, pos := "law.go:143", after := #[{ on := 1, ground := Ground.guard }], guard := some (1, true) }) (v := ?_) rfl (by kernel_rfl) (by kernel_rfl) (by kernel_rfl) (fun _ _ _ h => h) rfl (by kernel_rfl) (by kernel_rfl) (by kernel_rfl) (Or.inl ⟨by rfl, ?_⟩) hHeld (fun hHeld => ?_)
                  rotate_left
                  · intro w hSw
                    (try dsimp only at hSw)
                    go_simp
                    try with_reducible rfl
                  try simp only [Act.put, List.setIfInBounds_toArray, List.set_cons_zero, List.set_cons_succ]
                  refine wpAnyL_take 0 _ _ (i := 4) (oi := { dst := some 87, op := Op.indexAddr 39 (Operand.tmp 85) (Operand.tmp 86), type := 0, pos := "law.go:143", after := #[{ on := 2, ground := Ground.data }, { on := 3, ground := Ground.data }, { on := 1, ground := Ground.guard }], guard := some (1, true) }) (v := ?_) rfl (by kernel_rfl) (by kernel_rfl) (by kernel_rfl) (fun _ _ _ h => h) rfl (by kernel_rfl) (by kernel_rfl) (by kernel_rfl) (Or.inl ⟨by rfl, ?_⟩) hHeld (fun hHeld => ?_)
                  rotate_left
                  · intro w hSw
                    (try dsimp only at hSw)
                    go_simp
                    try with_reducible rfl
                  try simp only [Act.put, List.setIfInBounds_toArray, List.set_cons_zero, List.set_cons_succ]
                  refine wpAnyL_take 1 _ _ (i := 5) (oi := { dst := some 88, op := Op.load 41 (Operand.tmp 87), type := 41, pos := "law.go:143", after := #[{ on := 4, ground := Ground.data }, { on := 1, ground := Ground.guard }], guard := some (1, true) }) (v := ?_) rfl (by kernel_rfl) (by kernel_rfl) (by kernel_rfl) (fun _ _ _ h => h) rfl (by kernel_rfl) (by kernel_rfl) (by kernel_rfl) (Or.inl ⟨by rfl, ?_⟩) hHeld (fun hHeld => ?_)
                  rotate_left
                  · intro w hSw
                    (try dsimp only at hSw)
                    obtain ⟨⟨c0, c1, c2, c3, c4⟩, d0, d1, d2, d3, d4⟩ := hSw
                    go_simp
                    try with_reducible rfl
                  try simp only [Act.put, List.setIfInBounds_toArray, List.set_cons_zero, List.set_cons_succ]
                  refine wpAnyL_take 0 _ _ (i := 6) (oi := { dst := some 89, op := Op.move (Operand.tmp 1), type := 39, pos := "law.go:143", after := #[{ on := 1, ground := Ground.guard }], guard := some (1, true) }) (v := ?_) rfl (by kernel_rfl) (by kernel_rfl) (by kernel_rfl) (fun _ _ _ h => h) rfl (by kernel_rfl) (by kernel_rfl) (by kernel_rfl) (Or.inl ⟨by rfl, ?_⟩) hHeld (fun hHeld => ?_)
                  rotate_left
                  · intro w hSw
                    (try dsimp only at hSw)
                    go_simp
                    try with_reducible rfl
                  try simp only [Act.put, List.setIfInBounds_toArray, List.set_cons_zero, List.set_cons_succ]
                  refine wpAnyL_take 0 _ _ (i := 7) (oi := { dst := some 90, op := Op.move (Operand.tmp 12), type := 3, pos := "law.go:143", after := #[{ on := 1, ground := Ground.guard }], guard := some (1, true) }) (v := ?_) rfl (by kernel_rfl) (by kernel_rfl) (by kernel_rfl) (fun _ _ _ h => h) rfl (by kernel_rfl) (by kernel_rfl) (by kernel_rfl) (Or.inl ⟨by rfl, ?_⟩) hHeld (fun hHeld => ?_)
                  rotate_left
                  · intro w hSw
                    (try dsimp only at hSw)
                    go_simp
                    try with_reducible rfl
                  try simp only [Act.put, List.setIfInBounds_toArray, List.set_cons_zero, List.set_cons_succ]
                  refine wpAnyL_take 0 _ _ (i := 8) (oi := { dst := some 91, op := Op.indexAddr 39 (Operand.tmp 89) (Operand.tmp 90), type := 0, pos := "law.go:143", after := #[{ on := 6, ground := Ground.data }, { on := 7, ground := Ground.data }, { on := 1, ground := Ground.guard }], guard := some (1, true) }) (v := ?_) rfl (by kernel_rfl) (by kernel_rfl) (by kernel_rfl) (fun _ _ _ h => h) rfl (by kernel_rfl) (by kernel_rfl) (by kernel_rfl) (Or.inl ⟨by rfl, ?_⟩) hHeld (fun hHeld => ?_)
                  rotate_left
                  · intro w hSw
                    (try dsimp only at hSw)
                    go_simp
                    try with_reducible rfl
                  try simp only [Act.put, List.setIfInBounds_toArray, List.set_cons_zero, List.set_cons_succ]
                  refine wpAnyL_take 1 _ _ (i := 9) (oi := { dst := some 92, op := Op.load 41 (Operand.tmp 91), type := 41, pos := "law.go:143", after := #[{ on := 8, ground := Ground.data }, { on := 1, ground := Ground.guard }], guard := some (1, true) }) (v := ?_) rfl (by kernel_rfl) (by kernel_rfl) (by kernel_rfl) (fun _ _ _ h => h) rfl (by kernel_rfl) (by kernel_rfl) (by kernel_rfl) (Or.inl ⟨by rfl, ?_⟩) hHeld (fun hHeld => ?_)
                  rotate_left
                  · intro w hSw
                    (try dsimp only at hSw)
                    obtain ⟨⟨c0, c1, c2, c3, c4⟩, d0, d1, d2, d3, d4⟩ := hSw
                    go_simp
                    try with_reducible rfl
                  try simp only [Act.put, List.setIfInBounds_toArray, List.set_cons_zero, List.set_cons_succ]
                  refine wpAnyL_ready (rs := [10]) (by kernel_rfl) (by simp) ?_
                  refine AllReadyL.cons (o := { dst := some 93, op := Op.call { callee := Callee.value (Operand.func 33), args := #[Operand.tmp 88, Operand.tmp 92], argTypes := #[41, 41] }, type := 4, pos := "law.go:143", after := #[{ on := 5, ground := Ground.data }, { on := 9, ground := Ground.data }, { on := 1, ground := Ground.chain }, { on := 1, ground := Ground.guard }], guard := some (1, true) }) rfl (fun K hK => ?_) AllReadyL.nil
                  go_simp
                  go_at_call 33
                  refine (HSY.out _ HB9.out).mono ?_
                  rintro e w9 ⟨rfl, hb9⟩
                  have HBZ := Lib.hid (HB9.out.trans (hb9.mono HB9.out.size))
                  have hs9 := HK9.out _ HBZ.out
                  clear hb9
                  refine hK.out _ _ (SL.cons (fun _ => trivial) (SL.cons (fun _ => hs9) SL.nil)) (fun hHeld => ?_)
                  clear hK K
                  try simp only [Act.put, List.setIfInBounds_toArray, List.set_cons_zero, List.set_cons_succ]
                  refine wpAnyL_take 0 _ _ (i := 11) (oi := { dst := some 94, op := Op.pick (Operand.tmp 84) (Operand.tmp 93) (Operand.const (Value.bool false)), type := 4, pos := "law.go:143", after := #[{ on := 1, ground := Ground.data }, { on := 10, ground := Ground.data }], guard := none }) (v := ?_) rfl (by kernel_rfl) (by kernel_rfl) (by kernel_rfl) (fun _ _ _ h => h) rfl (by kernel_rfl) (by kernel_rfl) (by kernel_rfl) (Or.inl ⟨by rfl, ?_⟩) hHeld (fun hHeld => ?_)
                  rotate_left
                  · intro w hSw
                    (try dsimp only at hSw)
                    go_simp
                    try with_reducible rfl
                  try simp only [Act.put, List.setIfInBounds_toArray, List.set_cons_zero, List.set_cons_succ]
                  refine wpAnyL_ready (rs := [12]) (by kernel_rfl) (by simp) ?_
                  refine AllReadyL.cons (o := { dst := some 11, op := Op.assign (Operand.tmp 94), type := 4, pos := "law.go:143", after := #[{ on := 11, ground := Ground.data }, { on := 10, ground := Ground.chain }, { on := 0, ground := Ground.phase }, { on := 1, ground := Ground.phase }, { on := 2, ground := Ground.phase }, { on := 3, ground := Ground.phase }, { on := 4, ground := Ground.phase }, { on := 5, ground := Ground.phase }, { on := 6, ground := Ground.phase }, { on := 7, ground := Ground.phase }, { on := 8, ground := Ground.phase }, { on := 9, ground := Ground.phase }, { on := 10, ground := Ground.phase }, { on := 11, ground := Ground.phase }], guard := none }) rfl (fun K hK => ?_) AllReadyL.nil
                  go_simp
                  refine hK.out _ _ (SL.cons (fun _ => trivial) (SL.cons (fun h => absurd h (by decide +kernel)) SL.nil)) (fun hHeld => ?_)
                  clear hK K
                  try simp only [Act.put, List.setIfInBounds_toArray, List.set_cons_zero, List.set_cons_succ]
                  refine wpAnyL_done (by kernel_rfl) ?_ _
                  go_wp2_with fail
                  go_roundg G
                  case measure => omega
                  case rel =>
                    obtain ⟨i', hi'⟩ : ∃ i', i' = i + 1 := ⟨_, rfl⟩
                    refine ⟨i', r1, (X ++ (⟨#[32]⟩ : ByteArray) ++ Y), false, dp, SB, by have := HGK.out; omega, by rw [hi']; go_num, rfl, rfl, rfl, rfl, Lib.hid ⟨HRR.out.2.2, ?_, HRR.out.2.1.trans (HBZ.out.mono HRR.out.2.1.size), by have := HMX.out; omega, ?_, ?_, ?_, hdp, HTW.out.2, ?_, ?_⟩⟩
                    · rw [hi']; exact HRR.out.1.later HBZ.out
                    · have := HOK.out; simpa using this
                    · intro h; cases h
                    · have h1 := HX0.out; have h2 := list_size1 X Y; omega
                    · intro h; rw [← HSF.out.2.1, h, Bool.false_and]
                    · intro h; refine ⟨HSF.out.1, r2, HSF.out.2.2.2, by rw [hi']; exact HSF.out.2.2.1.later HBZ.out, ?_⟩; rw [← HSF.out.2.1, h, Bool.true_and]
      · obtain rfl : i = n := by omega
        obtain rfl : gk = 0 := by have := HGK.out; omega
        obtain ⟨hrl, _, hb, hmx, hok, htx, _, _, _, hsmf, hsmt⟩ := HK.out
        obtain rfl := fo_len_zero hrl
        have hdpl : dp = depF l 201 := by simpa [depF] using hmx
        have hokl : ok = eF l := by simpa [eF] using hok
        have hsm : sm = SS := by
          cases sm with
          | false => exact (hsmf rfl).symm
          | true =>
            obtain ⟨_, r', h1, _, h2⟩ := hsmt rfl
            obtain rfl := fo_len_zero h1
            exact h2
        subst hsm
        have hss : (sm != sm) = false := bne_self_eq_false _
        have htl := textR_list l HSZ.out.1
        have hdl : DD = min dp 200 + 1 := by rw [HDD.out, dep_list, ← hdpl]
        rw [← hokl, ← hdpl] at htl
        have HTL := Lib.hid htl
        have HTX := Lib.hid (show ok = true → X.data.toList = 40 :: txtF true l from fun h => by have h2 := htx h; simpa [txtF] using h2)
        have HTA := Lib.hid (HT.out HSZ.out.2.2.1 (by have := HSZ.out.2.2.2; omega) wA HWA.out)
        have HBA := Lib.hid hb
        obtain ⟨⟨a0, a1, a2, a3, a4⟩, b0, b1, b2, b3, b4⟩ := HV0.out.2 _ hb
        clear hrl hb hmx hok htx hsmf hsmt hdpl hokl htl HK HLM
        go_wp2_with fail
        refine HTA.out.mono ?_
        rintro e w5 ⟨Y, er, rfl, hY, hb5⟩
        have HB5 := Lib.hid (HBA.out.trans (hb5.mono HBA.out.size))
        have HW5 := Lib.hid (below_self3 HWA.out hb5)
        have HY := Lib.hid hY
        have hYs : Y.size ≤ 1048576 := by
          have h1 := textR_len true 1 ⟨#[40]⟩ l
          rw [← hY] at h1
          simpa using h1
        clear a0 a1 a2 a3 a4 b0 b1 b2 b3 b4 hY hb5
        obtain ⟨⟨a0, a1, a2, a3, a4⟩, b0, b1, b2, b3, b4⟩ := HV0.out.2 _ HB5.out
        go_wp2_with fail
        refine (HS.out _ HW5.out).mono ?_
        rintro e w6 ⟨rfl, hb6⟩
        have HB6 := Lib.hid (HB5.out.trans (hb6.mono HB5.out.size))
        have HW6 := Lib.hid (below_self3 HW5.out hb6)
        clear a0 a1 a2 a3 a4 b0 b1 b2 b3 b4 hb6
        obtain ⟨⟨a0, a1, a2, a3, a4⟩, b0, b1, b2, b3, b4⟩ := HV0.out.2 _ HB6.out
        by_cases hd : dp < 200
        · have hd1 : (dp : Int) < 200 := by omega
          obtain rfl : DD = dp + 1 := by omega
          have hne : (((dp + 1 : Nat) : Int) != (dp : Int) + 1) = false := by simp
          go_wp2_with fail
          refine (HD.out _ HW6.out).mono ?_
          rintro e w7 ⟨rfl, hb7⟩
          have HW7 := Lib.hid (below_self3 HW6.out hb7)
          clear a0 a1 a2 a3 a4 b0 b1 b2 b3 b4 hb7
          cases ok with
          | true =>
            have h1 := HTL.out.1 (by simpa using hd)
            have h2 := HY.out
            rw [h1] at h2
            obtain ⟨h3, rfl⟩ := Prod.mk.inj h2
            have hYX : Y = X ++ (⟨#[41]⟩ : ByteArray) := toList_byte' (by rw [app_data, h3, HTX.out (by simp)]; simp)
            subst hYX
            clear h1 h2 h3
            go_wp2_with fail
            refine (HKN.out _ HW7.out).mono ?_
            rintro e w8 ⟨rfl, hb8⟩
            have HW8 := Lib.hid (below_self3 HW7.out hb8)
            clear hb8
            go_wp2_with fail
            go_ret
            exact ⟨rfl, HW8.out⟩
          | false =>
            have h1 := HTL.out.2 (by simp)
            have her : (er != 0) = true := by rw [← HY.out] at h1; simpa using h1
            clear h1
            go_wp2_with fail
            refine (HKN.out _ HW7.out).mono ?_
            rintro e w8 ⟨rfl, hb8⟩
            have HW8 := Lib.hid (below_self3 HW7.out hb8)
            clear hb8
            go_wp2_with fail
            go_ret
            exact ⟨rfl, HW8.out⟩
        · have hd1 : ¬ (dp : Int) < 200 := by omega
          have hd2 : decide (dp < 200) = false := by simp; omega
          have h1 := HTL.out.2 (by rw [hd2, Bool.and_false])
          have her : (er != 0) = true := by rw [← HY.out] at h1; simpa using h1
          clear h1 a0 a1 a2 a3 a4 b0 b1 b2 b3 b4
          cases ok with
          | true =>
            go_wp2_with fail
            refine (HKN.out _ HW6.out).mono ?_
            rintro e w8 ⟨rfl, hb8⟩
            have HW8 := Lib.hid (below_self3 HW6.out hb8)
            clear hb8
            go_wp2_with fail
            go_ret
            exact ⟨rfl, HW8.out⟩
          | false =>
            go_wp2_with fail
            refine (HKN.out _ HW6.out).mono ?_
            rintro e w8 ⟨rfl, hb8⟩
            have HW8 := Lib.hid (below_self3 HW6.out hb8)
            clear hb8
            go_wp2_with fail
            go_ret
            exact ⟨rfl, HW8.out⟩
  subst hQ
  subst hA
  simp only [Act.put, List.setIfInBounds_toArray, List.set_cons_zero, List.set_cons_succ] at KEY
  clear HG1 HG2 HT HD HS HKN HLM HN HDD
  refine wpAnyL_ready (rs := [6, 7]) (by kernel_rfl) (by simp) ?_
  refine AllReadyL.cons (o := { dst := some 6, op := Op.alloc 41, type := 0, pos := "law.go:127", after := #[], guard := none }) rfl (fun K0 hK => ?_) (AllReadyL.cons (o := { dst := some 7, op := Op.alloc 41, type := 0, pos := "law.go:127", after := #[], guard := none }) rfl (fun K0 hK => ?_) AllReadyL.nil)
  · skip
    go_simp
    refine hK.out _ _ (SL.cons (fun _ => trivial) (SL.cons (fun _ => ⟨cell_later (below1 V _) HC.out.1, cell_later (below1 V _) HC.out.2.1, cell_later (below1 V _) HC.out.2.2⟩) SL.nil)) (fun hHeld => ?_)
    clear hK K0
    try simp only [Act.put, List.setIfInBounds_toArray, List.set_cons_zero, List.set_cons_succ]
    refine wpAnyL_ready (rs := [7]) (by kernel_rfl) (by simp) ?_
    refine AllReadyL.cons (o := { dst := some 7, op := Op.alloc 41, type := 0, pos := "law.go:127", after := #[], guard := none }) rfl (fun K0 hK => ?_) AllReadyL.nil
    go_simp
    refine hK.out _ _ (SL.cons (fun _ => trivial) (SL.cons (fun _ => ⟨cell_later (below1 _ _) (cell_later (below1 V _) HC.out.1), cell_later (below1 _ _) (cell_later (below1 V _) HC.out.2.1), cell_later (below1 _ _) (cell_later (below1 V _) HC.out.2.2)⟩) SL.nil)) (fun hHeld => ?_)
    clear hK K0
    try simp only [Act.put, List.setIfInBounds_toArray, List.set_cons_zero, List.set_cons_succ]
    refine wpAnyL_ready (rs := [8]) (by kernel_rfl) (by simp) ?_
    refine AllReadyL.cons (o := { dst := none, op := Op.store 41 (Operand.tmp 6) (Operand.tmp 29), type := 0, pos := "law.go:127", after := #[{ on := 6, ground := Ground.data }, { on := 2, ground := Ground.data }, { on := 0, ground := Ground.phase }, { on := 1, ground := Ground.phase }, { on := 2, ground := Ground.phase }, { on := 3, ground := Ground.textOnly Departure.lateStores }, { on := 4, ground := Ground.textOnly Departure.lateStores }, { on := 5, ground := Ground.textOnly Departure.lateStores }, { on := 6, ground := Ground.phase }, { on := 7, ground := Ground.phase }], guard := none }) rfl (fun K0 hK => ?_) AllReadyL.nil
    go_simp
    refine hK.out _ _ (SL.cons (fun _ => trivial) (SL.cons (fun _ => ⟨cell_later (below1 _ _) (cell_later (below1 V _) HC.out.1), cell_later (below1 _ _) (cell_later (below1 V _) HC.out.2.1), cell_later (below1 _ _) (cell_later (below1 V _) HC.out.2.2)⟩) SL.nil)) (fun hHeld => ?_)
    clear hK K0
    try simp only [Act.put, List.setIfInBounds_toArray, List.set_cons_zero, List.set_cons_succ]
    refine wpAnyL_ready (rs := [9]) (by kernel_rfl) (by simp) ?_
    refine AllReadyL.cons (o := { dst := none, op := Op.store 41 (Operand.tmp 7) (Operand.tmp 32), type := 0, pos := "law.go:127", after := #[{ on := 7, ground := Ground.data }, { on := 5, ground := Ground.data }, { on := 8, ground := Ground.chain }, { on := 0, ground := Ground.phase }, { on := 1, ground := Ground.phase }, { on := 2, ground := Ground.phase }, { on := 3, ground := Ground.phase }, { on := 4, ground := Ground.phase }, { on := 5, ground := Ground.phase }, { on := 6, ground := Ground.phase }, { on := 7, ground := Ground.phase }, { on := 8, ground := Ground.phase }], guard := none }) rfl (fun K0 hK => ?_) AllReadyL.nil
    go_simp
    refine hK.out _ _ (SL.cons (fun _ => trivial) (SL.cons (fun h => absurd h (by decide +kernel)) SL.nil)) (fun hHeld => ?_)
    clear hK K0
    try simp only [Act.put, List.setIfInBounds_toArray, List.set_cons_zero, List.set_cons_succ]
    refine wpAnyL_done (by kernel_rfl) ?_ _
    clear hHeld
    have HV0 := Lib.hid (show Below W.heap.size W ((V.alloc (.cells #[.bool true, .int .u8 1, .string ⟨#[40]⟩, .int .i64 0, .slice p n c] 41)).alloc (.cells #[.bool true, .int .u8 1, .string ⟨#[40]⟩, .int .i64 0, .slice p' n' c'] 41)) ∧ ∀ w, Below ((V.alloc (.cells #[.bool true, .int .u8 1, .string ⟨#[40]⟩, .int .i64 0, .slice p n c] 41)).alloc (.cells #[.bool true, .int .u8 1, .string ⟨#[40]⟩, .int .i64 0, .slice p' n' c'] 41)).heap.size ((V.alloc (.cells #[.bool true, .int .u8 1, .string ⟨#[40]⟩, .int .i64 0, .slice p n c] 41)).alloc (.cells #[.bool true, .int .u8 1, .string ⟨#[40]⟩, .int .i64 0, .slice p' n' c'] 41)) w → (w.cell? ⟨V.heap.size, 0, none⟩ = some (.bool true) ∧ w.cell? ⟨V.heap.size, 1, none⟩ = some (.int .u8 1) ∧ w.cell? ⟨V.heap.size, 2, none⟩ = some (.string ⟨#[40]⟩) ∧ w.cell? ⟨V.heap.size, 3, none⟩ = some (.int .i64 0) ∧ w.cell? ⟨V.heap.size, 4, none⟩ = some (.slice p n c)) ∧ (w.cell? ⟨(V.heap.size + 1), 0, none⟩ = some (.bool true) ∧ w.cell? ⟨(V.heap.size + 1), 1, none⟩ = some (.int .u8 1) ∧ w.cell? ⟨(V.heap.size + 1), 2, none⟩ = some (.string ⟨#[40]⟩) ∧ w.cell? ⟨(V.heap.size + 1), 3, none⟩ = some (.int .i64 0) ∧ w.cell? ⟨(V.heap.size + 1), 4, none⟩ = some (.slice p' n' c')) from ⟨HBD.out.trans (((below1 V _).alloc (by simp) _).mono HBD.out.size), fun w h => ⟨⟨cell_later h (by simp [go_sem]), cell_later h (by simp [go_sem]), cell_later h (by simp [go_sem]), cell_later h (by simp [go_sem]), cell_later h (by simp [go_sem])⟩, ⟨cell_later h (by simp [go_sem]), cell_later h (by simp [go_sem]), cell_later h (by simp [go_sem]), cell_later h (by simp [go_sem]), cell_later h (by simp [go_sem])⟩⟩⟩)
    exact KEY _ _ _ HV0
  · skip
    go_simp
    refine hK.out _ _ (SL.cons (fun _ => trivial) (SL.cons (fun _ => ⟨cell_later (below1 V _) HC.out.1, cell_later (below1 V _) HC.out.2.1, cell_later (below1 V _) HC.out.2.2⟩) SL.nil)) (fun hHeld => ?_)
    clear hK K0
    try simp only [Act.put, List.setIfInBounds_toArray, List.set_cons_zero, List.set_cons_succ]
    refine wpAnyL_ready (rs := [6]) (by kernel_rfl) (by simp) ?_
    refine AllReadyL.cons (o := { dst := some 6, op := Op.alloc 41, type := 0, pos := "law.go:127", after := #[], guard := none }) rfl (fun K0 hK => ?_) AllReadyL.nil
    go_simp
    refine hK.out _ _ (SL.cons (fun _ => trivial) (SL.cons (fun _ => ⟨cell_later (below1 _ _) (cell_later (below1 V _) HC.out.1), cell_later (below1 _ _) (cell_later (below1 V _) HC.out.2.1), cell_later (below1 _ _) (cell_later (below1 V _) HC.out.2.2)⟩) SL.nil)) (fun hHeld => ?_)
    clear hK K0
    try simp only [Act.put, List.setIfInBounds_toArray, List.set_cons_zero, List.set_cons_succ]
    refine wpAnyL_ready (rs := [8]) (by kernel_rfl) (by simp) ?_
    refine AllReadyL.cons (o := { dst := none, op := Op.store 41 (Operand.tmp 6) (Operand.tmp 29), type := 0, pos := "law.go:127", after := #[{ on := 6, ground := Ground.data }, { on := 2, ground := Ground.data }, { on := 0, ground := Ground.phase }, { on := 1, ground := Ground.phase }, { on := 2, ground := Ground.phase }, { on := 3, ground := Ground.textOnly Departure.lateStores }, { on := 4, ground := Ground.textOnly Departure.lateStores }, { on := 5, ground := Ground.textOnly Departure.lateStores }, { on := 6, ground := Ground.phase }, { on := 7, ground := Ground.phase }], guard := none }) rfl (fun K0 hK => ?_) AllReadyL.nil
    go_simp
    refine hK.out _ _ (SL.cons (fun _ => trivial) (SL.cons (fun _ => ⟨cell_later (below1 _ _) (cell_later (below1 V _) HC.out.1), cell_later (below1 _ _) (cell_later (below1 V _) HC.out.2.1), cell_later (below1 _ _) (cell_later (below1 V _) HC.out.2.2)⟩) SL.nil)) (fun hHeld => ?_)
    clear hK K0
    try simp only [Act.put, List.setIfInBounds_toArray, List.set_cons_zero, List.set_cons_succ]
    refine wpAnyL_ready (rs := [9]) (by kernel_rfl) (by simp) ?_
    refine AllReadyL.cons (o := { dst := none, op := Op.store 41 (Operand.tmp 7) (Operand.tmp 32), type := 0, pos := "law.go:127", after := #[{ on := 7, ground := Ground.data }, { on := 5, ground := Ground.data }, { on := 8, ground := Ground.chain }, { on := 0, ground := Ground.phase }, { on := 1, ground := Ground.phase }, { on := 2, ground := Ground.phase }, { on := 3, ground := Ground.phase }, { on := 4, ground := Ground.phase }, { on := 5, ground := Ground.phase }, { on := 6, ground := Ground.phase }, { on := 7, ground := Ground.phase }, { on := 8, ground := Ground.phase }], guard := none }) rfl (fun K0 hK => ?_) AllReadyL.nil
    go_simp
    refine hK.out _ _ (SL.cons (fun _ => trivial) (SL.cons (fun h => absurd h (by decide +kernel)) SL.nil)) (fun hHeld => ?_)
    clear hK K0
    try simp only [Act.put, List.setIfInBounds_toArray, List.set_cons_zero, List.set_cons_succ]
    refine wpAnyL_done (by kernel_rfl) ?_ _
    clear hHeld
    have HV0 := Lib.hid (show Below W.heap.size W ((V.alloc (.cells #[.bool true, .int .u8 1, .string ⟨#[40]⟩, .int .i64 0, .slice p' n' c'] 41)).alloc (.cells #[.bool true, .int .u8 1, .string ⟨#[40]⟩, .int .i64 0, .slice p n c] 41)) ∧ ∀ w, Below ((V.alloc (.cells #[.bool true, .int .u8 1, .string ⟨#[40]⟩, .int .i64 0, .slice p' n' c'] 41)).alloc (.cells #[.bool true, .int .u8 1, .string ⟨#[40]⟩, .int .i64 0, .slice p n c] 41)).heap.size ((V.alloc (.cells #[.bool true, .int .u8 1, .string ⟨#[40]⟩, .int .i64 0, .slice p' n' c'] 41)).alloc (.cells #[.bool true, .int .u8 1, .string ⟨#[40]⟩, .int .i64 0, .slice p n c] 41)) w → (w.cell? ⟨(V.heap.size + 1), 0, none⟩ = some (.bool true) ∧ w.cell? ⟨(V.heap.size + 1), 1, none⟩ = some (.int .u8 1) ∧ w.cell? ⟨(V.heap.size + 1), 2, none⟩ = some (.string ⟨#[40]⟩) ∧ w.cell? ⟨(V.heap.size + 1), 3, none⟩ = some (.int .i64 0) ∧ w.cell? ⟨(V.heap.size + 1), 4, none⟩ = some (.slice p n c)) ∧ (w.cell? ⟨V.heap.size, 0, none⟩ = some (.bool true) ∧ w.cell? ⟨V.heap.size, 1, none⟩ = some (.int .u8 1) ∧ w.cell? ⟨V.heap.size, 2, none⟩ = some (.string ⟨#[40]⟩) ∧ w.cell? ⟨V.heap.size, 3, none⟩ = some (.int .i64 0) ∧ w.cell? ⟨V.heap.size, 4, none⟩ = some (.slice p' n' c')) from ⟨HBD.out.trans (((below1 V _).alloc (by simp) _).mono HBD.out.size), fun w h => ⟨⟨cell_later h (by simp [go_sem]), cell_later h (by simp [go_sem]), cell_later h (by simp [go_sem]), cell_later h (by simp [go_sem]), cell_later h (by simp [go_sem])⟩, ⟨cell_later h (by simp [go_sem]), cell_later h (by simp [go_sem]), cell_later h (by simp [go_sem]), cell_later h (by simp [go_sem]), cell_later h (by simp [go_sem])⟩⟩⟩)
    exact KEY _ _ _ HV0
theorem treelists_any (p p' : Option Addr) (c c' : Nat) (l m : Fo) (W : World) (F F' : Nat → Prop) (hl : FoIn W F l p) (hl' : FoIn W F' m p') (hc : l.len ≤ c) (hc' : m.len ≤ c') (hn : l.len ≤ 281474976710656) (hn' : m.len ≤ 281474976710656) (hz : szB 140737488351232 l) (hz' : szB 140737488351232 m) (hm : MaxAt W) :
    Calls Tryd.prog 12 #[.slice p l.len c, .slice p' m.len c'] W fun e w' => e = .returned (.bool true) ∧ Below W.heap.size W w' := by
  by_cases h : 20 < l.len ∨ 20 < m.len
  · exact treelists_long p p' l.len c m.len c' W h hn hn' hm
  · exact treelists_short p p' c c' l m W F F' hl hl' hc hc' (by omega) (by omega) hz hz' hm
end Go.Proofs.YtlifankiljbdjaaDoor
