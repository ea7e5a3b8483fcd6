/- The document's tree. -/
import Derived.Test.YtdompkenblnjjaaGreatT6
namespace Go.Proofs.YtdompkenblnjjaaGreat
open Go Go.RowKit

def TreeP (l : List TkA) (p : Option Addr) (c : Nat) (b : Bool) (k : Int) (s : ByteArray) (a : Int) (g : Fo) (W : World) : Prop :=
  Calls Tryz.prog 49 #[.slice p l.length c] W fun e w' => ∃ q c', e = .returned (trV b k s a q g.len c') ∧ g.len ≤ c' ∧ FoIn w' (fun z => W.heap.size ≤ z) g q ∧ Below W.heap.size W w'
set_option maxRecDepth 100000 in
set_option maxHeartbeats 3200000 in
theorem tree_leaf (t : TkA) (p : Option Addr) (c : Nat) (W : World) (h : TksA W p [t]) (h1 : t.k ≠ 1) : TreeP [t] p c false t.k t.s t.a .nil W := by
  unfold TreeP
  obtain ⟨b, off, rfl, x0, x1, x2⟩ := h 0 (by simp)
  obtain ⟨k, s, a⟩ := t
  replace h1 : k ≠ 1 := h1
  have y0 : W.cell? ⟨b, off, none⟩ = some (.int .u8 k) := x0
  have y1 : W.cell? ⟨b, off + 1, none⟩ = some (.string s) := x1
  have y2 : W.cell? ⟨b, off + 2, none⟩ = some (.int .i64 a) := x2
  have z0 := cell_later (below1 W (.cells #[.bool false, .int .u8 0, .string ⟨#[]⟩, .int .i64 0, .slice none 0 0] 47)) y0
  have z1 := cell_later (below1 W (.cells #[.bool false, .int .u8 0, .string ⟨#[]⟩, .int .i64 0, .slice none 0 0] 47)) y1
  have z2 := cell_later (below1 W (.cells #[.bool false, .int .u8 0, .string ⟨#[]⟩, .int .i64 0, .slice none 0 0] 47)) y2
  have e1 : (k != 1) = true := by simp [h1]
  clear x0 x1 x2 h
  simp only [List.length_cons, List.length_nil]
  go_enter Tryz.func49, Tryz.ntmps49
  go_wp2_with fail
  refine bodyPost_ret (v := .agg #[.bool false, .int .u8 k, .string s, .int .i64 a, .slice none 0 0]) (by simp [results, Tryz.results49, go_sem]) rfl ⟨none, 0, rfl, Nat.le_refl _, trivial, ?_⟩
  repeat (first | exact Below.refl _ _ | refine Below.alloc ?_ (by simp) _ | refine Below.setCell ?_ (by simp) _ | exact bdd (Below.refl _ _))
set_option maxRecDepth 100000 in
theorem only_set5 (w : World) (b : Nat) (v0 v1 v2 v3 v4 : Value) : Only (fun k => k = b) w (((((w.setCell ⟨b, 0, none⟩ v0).setCell ⟨b, 1, none⟩ v1).setCell ⟨b, 2, none⟩ v2).setCell ⟨b, 3, none⟩ v3).setCell ⟨b, 4, none⟩ v4) :=
  ((((Only.of_setCell w ⟨b, 0, none⟩ v0).trans (Only.of_setCell _ ⟨b, 1, none⟩ v1)).trans (Only.of_setCell _ ⟨b, 2, none⟩ v2)).trans (Only.of_setCell _ ⟨b, 3, none⟩ v3)).trans (Only.of_setCell _ ⟨b, 4, none⟩ v4)
set_option maxRecDepth 100000 in
set_option maxHeartbeats 6400000 in
theorem tree_list (n : Nat) (ih : ∀ l b k s a g, l.length < n → One l b k s a g → ∀ p c W, TksA W p l → l.length ≤ c → TreeP l p c b k s a g W) (t cl : TkA) (x : List TkA) (g : Fo) (h1 : t.k = 1) (h2 : cl.k = 2) (hr : Rd x g) (hn : (t :: (x ++ [cl])).length = n) (hm : n ≤ 1048576)
    (p : Option Addr) (c : Nat) (W : World) (h : TksA W p (t :: (x ++ [cl]))) (hc : n ≤ c) : TreeP (t :: (x ++ [cl])) p c true t.k t.s t.a g W := by
  unfold TreeP
  rw [hn]
  obtain ⟨b, off, rfl, x0, x1, x2⟩ := h 0 (by simp)
  obtain ⟨k, s, a⟩ := t
  obtain rfl : k = 1 := h1
  obtain ⟨L, hL⟩ : ∃ L, L = (⟨1, s, a⟩ : TkA) :: (x ++ [cl]) := ⟨_, rfl⟩
  rw [← hL] at h hn
  have y0 : W.cell? ⟨b, off, none⟩ = some (.int .u8 1) := x0
  have y1 : W.cell? ⟨b, off + 1, none⟩ = some (.string s) := x1
  have y2 : W.cell? ⟨b, off + 2, none⟩ = some (.int .i64 a) := x2
  have z0 := cell_later (below1 W (.cells #[.bool false, .int .u8 0, .string ⟨#[]⟩, .int .i64 0, .slice none 0 0] 47)) y0
  have z1 := cell_later (below1 W (.cells #[.bool false, .int .u8 0, .string ⟨#[]⟩, .int .i64 0, .slice none 0 0] 47)) y1
  have z2 := cell_later (below1 W (.cells #[.bool false, .int .u8 0, .string ⟨#[]⟩, .int .i64 0, .slice none 0 0] 47)) y2
  have n1 : (n : Int) ≤ 1048576 := by omega
  have n2 : 2 ≤ n := by rw [← hn, hL]; simp
  have H := Lib.hid h
  have HL := Lib.hid (And.intro hL hn)
  have IH := Lib.hid ih
  have HRD := Lib.hid hr
  have HCL := Lib.hid h2
  clear x0 x1 x2 h hL hn ih hr h2
  simp only
  go_enter Tryz.func49, Tryz.ntmps49
  go_wp2_with fail
  go_loopg [4, 5] n (fun gk s4 s5 wx => ∃ (dn rs : List TkA) (fd fr : Fo) (pv : Option Addr) (cv : Nat), s4 = .int .i64 ((1 + dn.length : Nat) : Int) ∧ rs.length ≤ gk ∧ Hid (dn.length + rs.length + 2 = n ∧ L = (⟨1, s, a⟩ : TkA) :: (dn ++ (rs ++ [cl])) ∧ Rd rs fr ∧ fd.app fr = g ∧ fd.len ≤ dn.length ∧ BoxT wx W.heap.size false 0 ⟨#[]⟩ 0 (.slice none 0 0) ∧ BoxT wx (W.heap.size + 1) true 1 s a (.slice pv fd.len cv) ∧ OwnF wx (W.heap.size + 2) (.slice pv fd.len cv) fd ∧ Below W.heap.size W wx))
  case atStart =>
    refine ⟨[], x, .nil, g, none, 0, rfl, ?_, Lib.hid ⟨?_, ?_, HRD.out, rfl, Nat.le_refl _, ?_, ?_, ?_, ?_⟩⟩
    · have := HL.out.2; rw [HL.out.1] at this; simp at this; omega
    · have := HL.out.2; rw [HL.out.1] at this; simp at this; simp; omega
    · exact HL.out.1
    · exact (box_new W false 0 ⟨#[]⟩ 0 (.slice none 0 0)).later (below1 _ _)
    · exact (show W.heap.size + 1 = (W.alloc _).heap.size by simp) ▸ box_new _ true 1 s a (.slice none 0 0)
    · exact OwnF.nil _ _
    · exact (below1 W _).alloc (by simp) _
  case round =>
    obtain ⟨dn, rs, fd, fr, pv, cv, rfl, hgk, HI⟩ := hrel
    obtain ⟨wA, hwA⟩ : ∃ w, w = wr := ⟨_, rfl⟩
    subst hwA
    obtain ⟨i1, i2, i3, i4, i5, i6, i7, i8, i9⟩ := HI.out
    have HG := Lib.hid hgk
    obtain ⟨A0, hA0⟩ : ∃ A0, A0 = 1 + dn.length := ⟨_, rfl⟩
    rw [← hA0]
    have j1 : A0 ≤ n := by omega
    have j2 : (A0 : Int) ≤ 1048576 := by omega
    cases fr with
    | nil =>
      have hrs : rs = [] := by cases i3; rfl
      subst hrs
      have j3 : A0 + 1 = n := by simp at i1; omega
      have j4 : (A0 : Int) = (n : Int) - 1 := by omega
      obtain ⟨b0, b1, b2, b3, b4, bf⟩ := i6
      obtain ⟨d0, d1, d2, d3, d4, df⟩ := i7
      have hfd : fd = g := by rw [Fo.app_nil] at i4; exact i4
      subst hfd
      obtain ⟨q9, c9, hv, hlc, hfo⟩ := i8.foIn
      cases hv
      have HF := Lib.hid (And.intro hlc (And.intro hfo i9))
      clear i1 i2 i3 i4 i5 i8 i9 hlc hfo HI
      go_wp2_with fail
      refine bodyPost_ret (v := trV true 1 s a pv fd.len cv) (by simp [results, Tryz.results49, go_sem, b0, b1, b2, b3, b4, trV]) rfl ⟨pv, cv, rfl, HF.out.1, ?_, ?_⟩
      · exact (HF.out.2.1.only (only_set5 _ _ _ _ _ _ _) (fun z hz e => by omega)).mono (fun z hz _ => by omega)
      · exact HF.out.2.2.trans ((only_set5 wA W.heap.size _ _ _ _ _).below (fun j hj => Nat.le_of_eq hj.symm) HF.out.2.2.size)
    | cons lb k1 s1 a1 x1 fr1 =>
      obtain ⟨u, r, hu, hu0, hone, hrd, hend⟩ := i3.first
      have j3 : (A0 : Int) < (n : Int) - 1 := by have := congrArg List.length hu; simp at this; omega
      have hE : endF (L.drop A0) 0 A0 = some (A0 + u.length) := by
        rw [i2, hA0, Nat.add_comm 1, List.drop_succ_cons, List.drop_left, hu, List.append_assoc]; exact hend _ _
      have HC := Lib.hid (end43 (some ⟨b, off, none⟩) c A0 L wA (H.out.later i9) (by rw [HL.out.2]; exact hc) (by rw [HL.out.2]; omega) (by rw [HL.out.2]; exact j1))
      rw [HL.out.2, hE] at HC
      obtain ⟨E, hEE⟩ : ∃ E, E = A0 + u.length := ⟨_, rfl⟩
      rw [← hEE] at HC
      simp only [endV] at HC
      have HS := Lib.hid (And.intro i1 (And.intro i2 (And.intro i4 (And.intro i5 (And.intro hu (And.intro hone (And.intro hrd (And.intro hA0 hEE))))))))
      have HM := Lib.hid (And.intro i6 (And.intro i7 (And.intro i8 i9)))
      clear i1 i2 i3 i4 i5 i6 i7 i8 i9 hE hu hone hrd hend HI hA0 hEE
      go_wp2_with fail
      refine HC.out.mono ?_
      rintro e w1 ⟨rfl, hb1⟩
      have HUL := Lib.hid (show u.length = E - A0 ∧ A0 < E ∧ E ≤ n ∧ E < n ∧ u.length < n from by
        obtain ⟨i1, -, -, -, hu, -, -, hA0, hEE⟩ := HS.out
        have := congrArg List.length hu
        simp at this
        omega)
      have j5 : A0 < E := HUL.out.2.1
      have j6 : E ≤ n := HUL.out.2.2.1
      have hb2 : Below wA.heap.size wA w1.drew := hb1.trans ((below_drew w1).mono hb1.size)
      obtain ⟨xs, ho, hrw⟩ := HM.out.2.2.1.later hb2
      have hbt := HM.out.1.later hb2
      have hbx := HM.out.2.1.later hb2
      have x4 := hbx.c4
      have hic := IH.out u lb k1 s1 a1 x1 HUL.out.2.2.2.2 HS.out.2.2.2.2.2.1 (some ⟨b, off + A0 * 3, none⟩) (c - A0) w1.drew (by
        have h := (H.out.later (HM.out.2.2.2.trans (hb2.mono HM.out.2.2.2.size)))
        have := TksA.piece (d := (⟨1, s, a⟩ : TkA) :: dn) (u := u) (z := r ++ [cl]) h (by rw [HS.out.2.1, HS.out.2.2.2.2.1]; simp)
        have e : ((⟨1, s, a⟩ : TkA) :: dn).length = A0 := by rw [HS.out.2.2.2.2.2.2.2.1]; simp; omega
        rw [e] at this
        exact this) (by have := HUL.out; omega)
      unfold TreeP trV at hic
      rw [HUL.out.1] at hic
      have hfl : fd.len ≤ 1048576 := by have := HS.out; omega
      have hxl : x1.len ≤ 1048576 := by
        have h1 := HS.out.2.2.2.2.2.1
        have h2 := HUL.out.2.2.2.2
        cases h1 with
        | leaf => exact Nat.zero_le _
        | list _ _ h => have := h.len; simp at h2; omega
      have hb9 := HM.out.2.2.2.trans (hb2.mono HM.out.2.2.2.size)
      have HIC := Lib.hid hic
      have HOW := Lib.hid (And.intro ho hrw)
      have HBX := Lib.hid (And.intro hbt (And.intro hbx hb9))
      obtain ⟨i0, hi, hz0, hz1, hz2⟩ := info41
      clear hb1 hb2 ho hrw hbt hbx hic hb9 HM HC
      go_wp2_with fail
      refine wp_region_L [(1000, (fun _ => True : World → Prop)), (10, (fun w => w.cell? ⟨W.heap.size + 1, 4, none⟩ = some (.slice pv fd.len cv) : World → Prop))] (by kernel_rfl) (SL.cons (fun _ => trivial) (SL.cons (fun _ => x4) SL.nil)) (fun hHeld => ?_)
      generalize w1.drew = w2 at *
      refine wpAnyL_take 0 _ _ (i := 0) (oi := { dst := some 27, op := Op.fieldAddr 47 (Operand.tmp 3) 2, type := 0, pos := "ref.go:101", after := #[], guard := none }) (v := ?_) rfl (by kernel_rfl) (by kernel_rfl) (by kernel_rfl) (fun _ _ _ h => h) rfl (by kernel_rfl) (by kernel_rfl) (by kernel_rfl) (Or.inl ⟨by rfl, ?_⟩) hHeld (fun hHeld => ?_)
      rotate_left
      · intro w hSw
        (try dsimp only at hSw)
        go_simp
        try with_reducible rfl
      try simp only [Act.put, List.setIfInBounds_toArray, List.set_cons_zero, List.set_cons_succ]
      refine wpAnyL_take 1 _ _ (i := 1) (oi := { dst := some 28, op := Op.load 45 (Operand.tmp 27), type := 45, pos := "ref.go:101", after := #[{ on := 0, ground := Ground.data }], guard := none }) (v := ?_) rfl (by kernel_rfl) (by kernel_rfl) (by kernel_rfl) (fun _ _ _ h => h) rfl (by kernel_rfl) (by kernel_rfl) (by kernel_rfl) (Or.inl ⟨by rfl, ?_⟩) hHeld (fun hHeld => ?_)
      rotate_left
      · intro w hSw
        (try dsimp only at hSw)
        go_simp
        try with_reducible rfl
      try simp only [Act.put, List.setIfInBounds_toArray, List.set_cons_zero, List.set_cons_succ]
      refine wpAnyL_take 0 _ _ (i := 2) (oi := { dst := some 29, op := Op.move (Operand.tmp 0), type := 63, pos := "ref.go:101", after := #[], guard := none }) (v := ?_) rfl (by kernel_rfl) (by kernel_rfl) (by kernel_rfl) (fun _ _ _ h => h) rfl (by kernel_rfl) (by kernel_rfl) (by kernel_rfl) (Or.inl ⟨by rfl, ?_⟩) hHeld (fun hHeld => ?_)
      rotate_left
      · intro w hSw
        (try dsimp only at hSw)
        go_simp
        try with_reducible rfl
      try simp only [Act.put, List.setIfInBounds_toArray, List.set_cons_zero, List.set_cons_succ]
      refine wpAnyL_take 0 _ _ (i := 3) (oi := { dst := some 30, op := Op.move (Operand.tmp 4), type := 3, pos := "ref.go:101", after := #[], guard := none }) (v := ?_) rfl (by kernel_rfl) (by kernel_rfl) (by kernel_rfl) (fun _ _ _ h => h) rfl (by kernel_rfl) (by kernel_rfl) (by kernel_rfl) (Or.inl ⟨by rfl, ?_⟩) hHeld (fun hHeld => ?_)
      rotate_left
      · intro w hSw
        (try dsimp only at hSw)
        go_simp
        try with_reducible rfl
      try simp only [Act.put, List.setIfInBounds_toArray, List.set_cons_zero, List.set_cons_succ]
      refine wpAnyL_take 0 _ _ (i := 4) (oi := { dst := some 31, op := Op.move (Operand.tmp 5), type := 3, pos := "ref.go:101", after := #[], guard := none }) (v := ?_) rfl (by kernel_rfl) (by kernel_rfl) (by kernel_rfl) (fun _ _ _ h => h) rfl (by kernel_rfl) (by kernel_rfl) (by kernel_rfl) (Or.inl ⟨by rfl, ?_⟩) hHeld (fun hHeld => ?_)
      rotate_left
      · intro w hSw
        (try dsimp only at hSw)
        go_simp
        try with_reducible rfl
      try simp only [Act.put, List.setIfInBounds_toArray, List.set_cons_zero, List.set_cons_succ]
      refine wpAnyL_take 0 _ _ (i := 5) (oi := { dst := some 32, op := Op.slice 63 (Operand.tmp 29) (some (Operand.tmp 30)) (some (Operand.tmp 31)) none, type := 63, pos := "ref.go:101", after := #[{ on := 2, ground := Ground.data }, { on := 3, ground := Ground.data }, { on := 4, ground := Ground.data }], guard := none }) (v := ?_) rfl (by kernel_rfl) (by kernel_rfl) (by kernel_rfl) (fun _ _ _ h => h) rfl (by kernel_rfl) (by kernel_rfl) (by kernel_rfl) (Or.inl ⟨by rfl, ?_⟩) hHeld (fun hHeld => ?_)
      rotate_left
      · intro w hSw
        (try dsimp only at hSw)
        have hsl := slice_tks w b off n c A0 E j5 j6 hc
        go_simp
        try with_reducible rfl
      try simp only [Act.put, List.setIfInBounds_toArray, List.set_cons_zero, List.set_cons_succ]
      refine wpAnyL_ready (rs := [6]) (by kernel_rfl) (by simp) ?_
      refine AllReadyL.cons (o := { dst := some 33, op := Op.call { callee := Callee.value (Operand.func 49), args := #[Operand.tmp 32], argTypes := #[63] }, type := 47, pos := "ref.go:101", after := #[{ on := 5, ground := Ground.data }], guard := none }) rfl (fun K hK => ?_) AllReadyL.nil
      go_simp
      go_at_call 49
      refine HIC.out.mono ?_
      rintro e w3 ⟨q3, c3, rfl, hq1, hq2, hb3⟩
      refine hK.out _ _ (SL.cons (fun _ => trivial) (SL.cons (fun _ => cell_later hb3 x4) SL.nil)) (fun hHeld => ?_)
      clear hK K
      try simp only [Act.put, List.setIfInBounds_toArray, List.set_cons_zero, List.set_cons_succ]
      have x5 := cell_later hb3 x4
      clear x4 hHeld
      refine wpAnyL_ready (rs := [7]) (by kernel_rfl) (by simp) ?_
      refine AllReadyL.cons (o := { dst := some 34, op := Op.buildSlice 45 1 #[(0, Operand.tmp 33)], type := 45, pos := "ref.go:101", after := #[{ on := 6, ground := Ground.data }], guard := none }) rfl (fun K hK => ?_) AllReadyL.nil
      go_simp
      refine hK.out _ _ (SL.cons (fun _ => trivial) (SL.cons (fun _ => cell_later (below1 w3 _) x5) SL.nil)) (fun hHeld => ?_)
      clear hK K
      try simp only [Act.put, List.setIfInBounds_toArray, List.set_cons_zero, List.set_cons_succ]
      have hb4 := hb3.trans ((below1 w3 (.cells #[.bool lb, .int .u8 k1, .string s1, .int .i64 a1, .slice q3 x1.len c3] 47)).mono hb3.size)
      have hbt := HBX.out.1.later hb4
      have hbx := HBX.out.2.1.later hb4
      have ho := own_later HOW.out.1 hb4
      have hrw := HOW.out.2.later hb4
      have hq4 := hq2.later (below1 w3 (.cells #[.bool lb, .int .u8 k1, .string s1, .int .i64 a1, .slice q3 x1.len c3] 47))
      have hnb := box_new w3 lb k1 s1 a1 (.slice q3 x1.len c3)
      have hsz : W.heap.size + 2 ≤ (w3.alloc (.cells #[.bool lb, .int .u8 k1, .string s1, .int .i64 a1, .slice q3 x1.len c3] 47)).heap.size := by have := hbx.lt; omega
      clear x5 hHeld
      refine wpAnyL_ready (rs := [8]) (by kernel_rfl) (by simp) ?_
      refine AllReadyL.cons (o := { dst := some 35, op := Op.call { callee := Callee.builtin Builtin.append, args := #[Operand.tmp 28, Operand.tmp 34], argTypes := #[45, 45] }, type := 45, pos := "ref.go:101", after := #[{ on := 1, ground := Ground.data }, { on := 7, ground := Ground.data }, { on := 6, ground := Ground.chain }], guard := none }) rfl (fun K hK => ?_) AllReadyL.nil
      rw [if_pos (by rfl)]
      refine wp_append_own_at _ _ 45 (by rfl) (W.heap.size + 2) 47 i0 Z41 5 64 Tryz.underlying45 hi hz0 hz1 hz2 rfl (by omega) _ fd.len xs (by rfl) ho ⟨w3.heap.size, 0, none⟩ 1 1 (trC lb k1 s1 a1 q3 x1.len c3) (by rfl) (by rfl) ?_ ?_ ?_ ?_ ?_ ?_
      · intro jj u hjj
        rw [Lib.add_plain]
        match jj, hjj with
        | 0, hjj => cases hjj; exact hnb.c0
        | 1, hjj => cases hjj; exact hnb.c1
        | 2, hjj => cases hjj; exact hnb.c2
        | 3, hjj => cases hjj; exact hnb.c3
        | 4, hjj => cases hjj; exact hnb.c4
      · intro u hu; simp [trC] at hu; rcases hu with rfl | rfl | rfl | rfl | rfl <;> rfl
      · have hml : maxLen = 9223372036854775807 := rfl; omega
      · omega
      · exact hsz
      intro v8 w8 hown hgrow hnil_ hloc
      have hpush := OwnF.push (N := w2.heap.size) ho hrw (by have := HBX.out.2.1.lt; omega) (fun g hg => (own_lt HOW.out.1 hg).2) hq4 hq1 (by omega) hown hgrow hloc
      obtain ⟨p8, c8, hv, hA_⟩ := own_shape hown
      subst hv
      clear hnil_ hloc hA_
      have ho8 := Only.of_grown hgrow
      have hge : ∀ j, (Value.slice pv fd.len cv).ownBlock = some j → W.heap.size + 2 ≤ j := fun j hj => (own_lt ho hj).1
      have hbx8 := hbx.only ho8 (fun e => by have := hge _ e; omega)
      have hbt8 := hbt.only ho8 (fun e => by have := hge _ e; omega)
      have x8 := hbx8.c4
      have f8 := hbx8.fz
      have hb8 := (HBX.out.2.2.trans (hb4.mono HBX.out.2.2.size)).trans (ho8.below (B := W.heap.size) (fun j hj => by have := hge j hj; omega) (by omega))
      have HE := Lib.hid (And.intro hpush (And.intro hbx8 (And.intro hbt8 hb8)))
      clear hown hgrow ho8 hge hbx8 hbt8 hb8 hpush hb4 hbt hbx ho hrw hq4 hnb hq1 hq2 hb3
      refine hK.out _ _ (SL.cons (fun _ => trivial) (SL.cons (fun _ => x8) SL.nil)) (fun hHeld => ?_)
      clear hK K
      try simp only [Act.put, List.setIfInBounds_toArray, List.set_cons_zero, List.set_cons_succ]
      refine wpAnyL_take 0 _ _ (i := 9) (oi := { dst := some 36, op := Op.fieldAddr 47 (Operand.tmp 3) 2, type := 0, pos := "ref.go:101", after := #[{ on := 0, ground := Ground.phase }, { on := 1, ground := Ground.phase }, { on := 2, ground := Ground.phase }, { on := 3, ground := Ground.phase }, { on := 4, ground := Ground.phase }, { on := 5, ground := Ground.phase }, { on := 6, ground := Ground.phase }, { on := 7, ground := Ground.phase }, { on := 8, ground := Ground.phase }], guard := none }) (v := ?_) rfl (by kernel_rfl) (by kernel_rfl) (by kernel_rfl) (fun _ _ _ h => h) rfl (by kernel_rfl) (by kernel_rfl) (by kernel_rfl) (Or.inl ⟨by rfl, ?_⟩) hHeld (fun hHeld => ?_)
      rotate_left
      · intro w hSw
        (try dsimp only at hSw)
        go_simp
        try with_reducible rfl
      try simp only [Act.put, List.setIfInBounds_toArray, List.set_cons_zero, List.set_cons_succ]
      refine wpAnyL_ready (rs := [10]) (by kernel_rfl) (by simp) ?_
      refine AllReadyL.cons (o := { dst := none, op := Op.store 45 (Operand.tmp 36) (Operand.tmp 35), type := 0, pos := "ref.go:101", after := #[{ on := 9, ground := Ground.data }, { on := 8, ground := Ground.data }, { on := 8, ground := Ground.chain }, { on := 0, ground := Ground.phase }, { on := 1, ground := Ground.phase }, { on := 2, ground := Ground.phase }, { on := 3, ground := Ground.phase }, { on := 4, ground := Ground.phase }, { on := 5, ground := Ground.phase }, { on := 6, ground := Ground.phase }, { on := 7, ground := Ground.phase }, { on := 8, ground := Ground.phase }], guard := none }) rfl (fun K hK => ?_) AllReadyL.nil
      go_simp
      refine hK.out _ _ (SL.cons (fun _ => trivial) (SL.cons (fun h => absurd h (by decide +kernel)) SL.nil)) (fun hHeld => ?_)
      clear hK K
      try simp only [Act.put, List.setIfInBounds_toArray, List.set_cons_zero, List.set_cons_succ]
      refine wpAnyL_done (by kernel_rfl) ?_ _
      obtain ⟨w9, hw9⟩ : ∃ w9, w9 = w8.setCell ⟨W.heap.size + 1, 4, none⟩ (.slice p8 (fd.len + 1) c8) := ⟨_, rfl⟩
      have ho9 : Only (fun k => k = W.heap.size + 1) w8 w9 := by rw [hw9]; exact Only.of_setCell w8 ⟨W.heap.size + 1, 4, none⟩ _
      have HN := Lib.hid (show BoxT w9 W.heap.size false 0 ⟨#[]⟩ 0 (.slice none 0 0) ∧ BoxT w9 (W.heap.size + 1) true 1 s a (.slice p8 (fd.len + 1) c8) ∧ OwnF w9 (W.heap.size + 2) (.slice p8 (fd.len + 1) c8) (fd.snoc lb k1 s1 a1 x1) ∧ Below W.heap.size W w9 from
        ⟨HE.out.2.2.1.only ho9 (by omega), by rw [hw9]; exact HE.out.2.1.set4 _, HE.out.1.only ho9 (fun z hz e => by omega), HE.out.2.2.2.trans (ho9.below (fun j hj => by omega) HE.out.2.2.2.size)⟩)
      rw [← hw9]
      clear hw9 ho9 x8 f8 hHeld
      obtain ⟨G, rfl⟩ : ∃ G, gk = G + 1 := ⟨gk - 1, by have h1 := HG.out; have h2 := congrArg List.length HS.out.2.2.2.2.1; have h3 := HUL.out; simp at h2; omega⟩
      go_wp2_with fail
      go_roundg G
      case measure => omega
      case rel =>
        obtain ⟨i1, i2, i4, i5, hu, hone, hrd, hA0, hEE⟩ := HS.out
        have hul := congrArg List.length hu
        have h3 := HUL.out
        have h1 := HG.out
        simp at hul
        have hfs : (fd.snoc lb k1 s1 a1 x1).len = fd.len + 1 := Fo.len_snoc _ _ _ _ _ _
        refine ⟨dn ++ u, r, fd.snoc lb k1 s1 a1 x1, fr1, p8, c8, ?_, by omega, Lib.hid ⟨?_, ?_, hrd, ?_, ?_, HN.out.1, ?_, ?_, HN.out.2.2.2⟩⟩
        · congr 2; simp; omega
        · simp; omega
        · rw [i2, hu]; simp
        · rw [Fo.snoc_app]; exact i4
        · rw [hfs]; simp; omega
        · rw [hfs]; exact HN.out.2.1
        · rw [hfs]; exact HN.out.2.2.1
set_option maxRecDepth 100000 in
theorem tree_any (n : Nat) : n ≤ 1048576 → ∀ l b k s a g, l.length ≤ n → One l b k s a g → ∀ p c W, TksA W p l → l.length ≤ c → TreeP l p c b k s a g W := by
  induction n with
  | zero =>
    intro _ l b k s a g hl h1
    cases h1 <;> simp at hl
  | succ n ih =>
    intro hn l b k s a g hl h1 p c W h hc
    cases h1 with
    | leaf h1 h2 => exact tree_leaf _ p c W h h1
    | @list t cl x g h1 h2 h3 =>
      exact tree_list (t :: (x ++ [cl])).length (fun l b k s a g hlt ho p c W => ih (by omega) l b k s a g (by omega) ho p c W) t cl x g h1 h2 h3 rfl (by omega) p c W h hc
end Go.Proofs.YtdompkenblnjjaaGreat

