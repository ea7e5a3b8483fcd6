/- Another tree, in memory of its own. -/
import Derived.Test.YtlifankiljbdjaaDoorJT2
namespace Go.Proofs.YtlifankiljbdjaaDoor
open Go Go.RowKit

def CopyE (l : Bool) (k : Int) (s : ByteArray) (a : Int) (x : Fo) (W : World) (e : Ending) (w' : World) : Prop := ∃ (q : Option Addr) (c : Nat), e = .returned (trV l k s a q x.len c) ∧ x.len ≤ c ∧ FoIn w' (fun b => W.heap.size ≤ b) x q ∧ Below W.heap.size W w'
def CopyP (n : Nat) : Prop := ∀ (x : Fo), x.size ≤ n → x.size ≤ 1000000 → ∀ (l : Bool) (k : Int) (s : ByteArray) (a : Int) (q : Option Addr) (c : Nat) (W : World) (F : Nat → Prop), FoIn W F x q → (∀ b, F b → b < W.heap.size) → x.len ≤ c →
  Calls Tryd.prog 28 #[trV l k s a q x.len c] W (CopyE l k s a x W)
theorem app_snoc' (l : Bool) (k : Int) (s : ByteArray) (a : Int) (x : Fo) : ∀ f r : Fo, f.app (.cons l k s a x r) = (f.snoc l k s a x).app r
  | .nil, _ => rfl
  | .cons l0 k0 s0 a0 x0 f, r => by simp only [Fo.app, Fo.snoc, app_snoc' l k s a x f r]
theorem len_app' : ∀ u z : Fo, (u.app z).len = u.len + z.len
  | .nil, z => by simp [Fo.app, Fo.len]
  | .cons l k s a x r, z => by simp only [Fo.app, Fo.len, len_app' r z]; omega
theorem size_app' : ∀ u z : Fo, (u.app z).size = u.size + z.size
  | .nil, z => by simp [Fo.app, Fo.size]
  | .cons l k s a x r, z => by simp only [Fo.app, Fo.size, size_app' r z]; omega
theorem len_size' : ∀ f : Fo, f.len ≤ f.size
  | .nil => Nat.le_refl _
  | .cons _ _ _ _ x r => by have := len_size' r; simp only [Fo.len, Fo.size]; omega
set_option maxRecDepth 100000 in
set_option maxHeartbeats 6400000 in
theorem copy28_step (n : Nat) (ih : ∀ m, m < n → CopyP m) : CopyP n := by
  intro x hsz hsm l k s a q c W F hx hF hc
  obtain ⟨N, hN⟩ : ∃ N, N = x.len := ⟨_, rfl⟩
  have hN6 : N ≤ 1000000 := by have := len_size' x; omega
  unfold CopyE
  rw [← hN] at hc ⊢
  have i1 : (N : Int) ≤ 1000000 := by omega
  have HX := Lib.hid (And.intro hx hF)
  have HI := Lib.hid (show (N = x.len ∧ x.size ≤ n ∧ x.size ≤ 1000000) from ⟨hN, hsz, hsm⟩)
  have IH := Lib.hid ih
  clear hx ih hN hsz hsm hF
  unfold trV
  go_enter Tryd.func28, Tryd.ntmps28
  go_wp2_with fail
  obtain ⟨W3, hW3⟩ : ∃ W3, W3 = ((W.alloc (.cells #[.bool l, .int .u8 k, .string s, .int .i64 a, .slice q N c] 41)).alloc (.cells #[.bool false, .int .u8 0, .string ⟨#[]⟩, .int .i64 0, .slice none 0 0] 41)).alloc (.cells #[.bool l, .int .u8 k, .string s, .int .i64 a, .slice none 0 0] 41) := ⟨_, rfl⟩
  have hb3 : Below W.heap.size W W3 := by rw [hW3]; exact (((Below.refl _ W).alloc (Nat.le_refl _) _).alloc (by simp) _).alloc (by first | (simp; done) | (simp; omega)) _
  have q1 : BoxT W3 W.heap.size l k s a (.slice q N c) := by rw [hW3]; exact ⟨by simp [go_sem], by simp [go_sem], by simp [go_sem], by simp [go_sem], by simp [go_sem], fun o => by simp [go_sem]⟩
  have q2 : BoxT W3 (W.heap.size + 1) false 0 ⟨#[]⟩ 0 (.slice none 0 0) := by rw [hW3]; exact ⟨by simp [go_sem], by simp [go_sem], by simp [go_sem], by simp [go_sem], by simp [go_sem], fun o => by simp [go_sem]⟩
  have q3 : BoxT W3 (W.heap.size + 1 + 1) l k s a (.slice none 0 0) := by rw [hW3]; exact ⟨by simp [go_sem], by simp [go_sem], by simp [go_sem], by simp [go_sem], by simp [go_sem], fun o => by simp [go_sem]⟩
  have HW := Lib.hid (And.intro q1 (And.intro q2 (And.intro q3 hb3)))
  have hnil : OwnF W3 (W.heap.size + 3) (.slice none 0 0) .nil := OwnF.nil _ _
  have HX3 := Lib.hid (HX.out.1.later hb3)
  have x4 := q3.c4
  rw [← hW3]
  clear hW3 hb3 q1 q2 q3
  go_loopg [4] N (fun gk s4 wx => ∃ (i : Nat) (fd f : Fo) (pv : Option Addr) (cv : Nat), i + gk = N ∧ s4 = .int .i64 (i : Int) ∧ Hid (fd.len = i ∧ f.len = gk ∧ x = fd.app f ∧ BoxT wx W.heap.size l k s a (.slice q N c) ∧ BoxT wx (W.heap.size + 1) false 0 ⟨#[]⟩ 0 (.slice none 0 0) ∧ BoxT wx (W.heap.size + 1 + 1) l k s a (.slice pv fd.len cv) ∧ OwnF wx (W.heap.size + 3) (.slice pv fd.len cv) fd ∧ FoIn wx F f (pl q i) ∧ Below W.heap.size W wx))
  case atStart => exact ⟨0, .nil, x, none, 0, by omega, rfl, Lib.hid ⟨rfl, HI.out.1.symm, rfl, HW.out.1, HW.out.2.1, HW.out.2.2.1, OwnF.nil _ _, pl_zero HX3.out, HW.out.2.2.2⟩⟩
  case round =>
    obtain ⟨i, fd, f, pv, cv, hk, rfl, HK⟩ := hrel
    have HG := Lib.hid hk
    have hi2 : i ≤ N := by omega
    clear hk x4 hnil
    obtain ⟨wA, hwA⟩ : ∃ w, w = wr := ⟨_, rfl⟩
    subst hwA
    obtain ⟨hfd, hfl, hxx, q1, q2, q3, hown, hfo, hbw⟩ := HK.out
    have i2 : (i : Int) ≤ (N : Int) := by omega
    have d4 := q1.c4
    by_cases hlt : i < N
    · have i0 : (0 : Int) ≤ (i : Int) := by omega
      have i3 : (i : Int) < (N : Int) := by omega
      obtain ⟨G, rfl⟩ : ∃ G, gk = G + 1 := ⟨gk - 1, by have := HG.out; omega⟩
      obtain ⟨b, off, rfl⟩ : ∃ b off, q = some ⟨b, off, none⟩ := HX.out.1.some (by rw [← HI.out.1]; omega)
      cases f with
      | nil => simp [Fo.len] at hfl
      | cons lb k1 s1 a1 x1 r1 =>
        obtain ⟨hbF, e0, e1, e2, e3, ⟨q5, cc5, e4, hc3, hm3, hx3⟩, hr3⟩ := hfo.head
        have hszx : x1.size < x.size := by rw [hxx, size_app']; simp only [Fo.size]; omega
        have hdr := below_drew wA
        have hbD := hbw.trans (hdr.mono hbw.size)
        have hic := IH.out x1.size (by have := HI.out; omega) x1 (Nat.le_refl _) (by have := HI.out; omega) lb k1 s1 a1 q5 cc5 wA.drew F (hx3.later hdr) (fun b hb => Nat.lt_of_lt_of_le (HX.out.2 b hb) hbD.size) hc3
        have hxl : x1.len ≤ 1000000 := by have h1 := len_size' x1; have := HI.out; omega
        have hfl2 : fd.len ≤ 1000000 := by omega
        obtain ⟨n5, hn5⟩ : ∃ n5, n5 = x1.len := ⟨_, rfl⟩
        obtain ⟨xs, ho, hrw⟩ := hown.later hdr
        unfold CopyE trV at hic
        have HIC := Lib.hid hic
        have HOW := Lib.hid (And.intro ho hrw)
        have HBX := Lib.hid (And.intro (q1.later hdr) (And.intro (q2.later hdr) (And.intro (q3.later hdr) hbD)))
        have HS := Lib.hid (And.intro hfd (And.intro (show r1.len = G by simpa [Fo.len] using hfl) (And.intro (show x = (fd.snoc lb k1 s1 a1 x1).app r1 by rw [← app_snoc']; exact hxx) (And.intro (hr3.later hdr) (And.intro hn5 hfl2)))))
        have hT1 := (q3.later hdr).c4
        have hT36 := And.intro (q1.later hdr).c4 (And.intro (cell_later hdr e0) (And.intro (cell_later hdr e1) (And.intro (cell_later hdr e2) (And.intro (cell_later hdr e3) (cell_later hdr e4)))))
        rw [← hn5] at hT36
        have HN5 := Lib.hid hn5
        obtain ⟨i41, hi, hz0, hz1, hz2⟩ := info41
        rw [← hn5] at e4
        clear hfd hfl hxx q1 q2 q3 hown hfo hbw HK hc3 hm3 hx3 hr3 hszx hdr hbD hic ho hrw hn5
        go_wp2_with fail
        refine wp_region_L [(1000, (fun _ => True : World → Prop)), (5, (fun w => w.cell? ⟨W.heap.size, 4, none⟩ = some (.slice (some ⟨b, off, none⟩) N c) : World → Prop)), (7, (fun w => w.cell? ⟨b, off + i * 5, none⟩ = some (.bool lb) ∧ w.cell? ⟨b, off + i * 5 + 1, none⟩ = some (.int .u8 k1) ∧ w.cell? ⟨b, off + i * 5 + 2, none⟩ = some (.string s1) ∧ w.cell? ⟨b, off + i * 5 + 3, none⟩ = some (.int .i64 a1) ∧ w.cell? ⟨b, off + i * 5 + 4, none⟩ = some (.slice q5 n5 cc5) : World → Prop)), (9, (fun w => w.cell? ⟨W.heap.size + 1 + 1, 4, none⟩ = some (.slice pv fd.len cv) : World → Prop))] (by kernel_rfl) (SL.cons (fun _ => trivial) (SL.cons (fun _ => hT36.1) (SL.cons (fun _ => hT36.2) (SL.cons (fun _ => hT1) SL.nil)))) (fun hHeld => ?_)
        generalize wA.drew = w2 at *
        refine wpAnyL_take 0 _ _ (i := 0) (oi := { dst := some 14, op := Op.fieldAddr 41 (Operand.tmp 3) 2, type := 0, pos := "ref.go:224", after := #[], guard := none }) (v := ?_) rfl (by kernel_rfl) (by kernel_rfl) (by kernel_rfl) (fun _ _ _ h => h) rfl (by kernel_rfl) (by kernel_rfl) (by kernel_rfl) (Or.inl ⟨by rfl, ?_⟩) hHeld (fun hHeld => ?_)
        rotate_left
        · intro w hSw
          (try dsimp only at hSw)
          go_simp
          try with_reducible rfl
        try simp only [Act.put, List.setIfInBounds_toArray, List.set_cons_zero, List.set_cons_succ]
        refine wpAnyL_take 3 _ _ (i := 1) (oi := { dst := some 15, op := Op.load 39 (Operand.tmp 14), type := 39, pos := "ref.go:224", after := #[{ on := 0, ground := Ground.data }], guard := none }) (v := ?_) rfl (by kernel_rfl) (by kernel_rfl) (by kernel_rfl) (fun _ _ _ h => h) rfl (by kernel_rfl) (by kernel_rfl) (by kernel_rfl) (Or.inl ⟨by rfl, ?_⟩) hHeld (fun hHeld => ?_)
        rotate_left
        · intro w hSw
          (try dsimp only at hSw)
          go_simp
          try with_reducible rfl
        try simp only [Act.put, List.setIfInBounds_toArray, List.set_cons_zero, List.set_cons_succ]
        refine wpAnyL_take 0 _ _ (i := 2) (oi := { dst := some 16, op := Op.fieldAddr 41 (Operand.tmp 1) 2, type := 0, pos := "ref.go:224", after := #[], guard := none }) (v := ?_) rfl (by kernel_rfl) (by kernel_rfl) (by kernel_rfl) (fun _ _ _ h => h) rfl (by kernel_rfl) (by kernel_rfl) (by kernel_rfl) (Or.inl ⟨by rfl, ?_⟩) hHeld (fun hHeld => ?_)
        rotate_left
        · intro w hSw
          (try dsimp only at hSw)
          go_simp
          try with_reducible rfl
        try simp only [Act.put, List.setIfInBounds_toArray, List.set_cons_zero, List.set_cons_succ]
        refine wpAnyL_take 1 _ _ (i := 3) (oi := { dst := some 17, op := Op.load 39 (Operand.tmp 16), type := 39, pos := "ref.go:224", after := #[{ on := 2, ground := Ground.data }], guard := none }) (v := ?_) rfl (by kernel_rfl) (by kernel_rfl) (by kernel_rfl) (fun _ _ _ h => h) rfl (by kernel_rfl) (by kernel_rfl) (by kernel_rfl) (Or.inl ⟨by rfl, ?_⟩) hHeld (fun hHeld => ?_)
        rotate_left
        · intro w hSw
          (try dsimp only at hSw)
          go_simp
          try with_reducible rfl
        try simp only [Act.put, List.setIfInBounds_toArray, List.set_cons_zero, List.set_cons_succ]
        refine wpAnyL_take 0 _ _ (i := 4) (oi := { dst := some 18, op := Op.move (Operand.tmp 4), type := 3, pos := "ref.go:224", after := #[], guard := none }) (v := ?_) rfl (by kernel_rfl) (by kernel_rfl) (by kernel_rfl) (fun _ _ _ h => h) rfl (by kernel_rfl) (by kernel_rfl) (by kernel_rfl) (Or.inl ⟨by rfl, ?_⟩) hHeld (fun hHeld => ?_)
        rotate_left
        · intro w hSw
          (try dsimp only at hSw)
          go_simp
          try with_reducible rfl
        try simp only [Act.put, List.setIfInBounds_toArray, List.set_cons_zero, List.set_cons_succ]
        refine wpAnyL_ready (rs := [5]) (by kernel_rfl) (by simp) ?_
        refine AllReadyL.cons (o := { dst := some 19, op := Op.indexAddr 39 (Operand.tmp 17) (Operand.tmp 18), type := 0, pos := "ref.go:224", after := #[{ on := 3, ground := Ground.data }, { on := 4, ground := Ground.data }], guard := none }) rfl (fun K hK => ?_) AllReadyL.nil
        go_simp
        refine hK.out _ _ (SL.cons (fun _ => trivial) (SL.cons (fun h => absurd h (by decide +kernel)) (SL.cons (fun _ => hT36.2) (SL.cons (fun _ => hT1) SL.nil)))) (fun hHeld => ?_)
        clear hK K
        try simp only [Act.put, List.setIfInBounds_toArray, List.set_cons_zero, List.set_cons_succ]
        refine wpAnyL_take 2 _ _ (i := 6) (oi := { dst := some 20, op := Op.load 41 (Operand.tmp 19), type := 41, pos := "ref.go:224", after := #[{ on := 5, ground := Ground.data }], guard := none }) (v := ?_) rfl (by kernel_rfl) (by kernel_rfl) (by kernel_rfl) (fun _ _ _ h => h) rfl (by kernel_rfl) (by kernel_rfl) (by kernel_rfl) (Or.inl ⟨by rfl, ?_⟩) hHeld (fun hHeld => ?_)
        rotate_left
        · intro w hSw
          (try dsimp only at hSw)
          obtain ⟨z1, z2, z3, z4, z5⟩ := hSw
          go_simp
          try with_reducible rfl
        try simp only [Act.put, List.setIfInBounds_toArray, List.set_cons_zero, List.set_cons_succ]
        refine wpAnyL_ready (rs := [7]) (by kernel_rfl) (by simp) ?_
        refine AllReadyL.cons (o := { dst := some 21, op := Op.call { callee := Callee.value (Operand.func 28), args := #[Operand.tmp 20], argTypes := #[41] }, type := 41, pos := "ref.go:224", after := #[{ on := 6, ground := Ground.data }], guard := none }) rfl (fun K hK => ?_) AllReadyL.nil
        go_simp
        rw [HN5.out]
        go_at_call 28
        refine HIC.out.mono ?_
        rintro e w3 ⟨q6, c6, rfl, hq1, hq2, hb3⟩
        rw [← HN5.out]
        refine hK.out _ _ (SL.cons (fun _ => trivial) (SL.cons (fun h => absurd h (by decide +kernel)) (SL.cons (fun h => absurd h (by decide +kernel)) (SL.cons (fun _ => cell_later hb3 hT1) SL.nil)))) (fun hHeld => ?_)
        clear hK K
        try simp only [Act.put, List.setIfInBounds_toArray, List.set_cons_zero, List.set_cons_succ]
        have x5 := cell_later hb3 hT1
        clear hT1 hT36 hHeld
        refine wpAnyL_ready (rs := [8]) (by kernel_rfl) (by simp) ?_
        refine AllReadyL.cons (o := { dst := some 22, op := Op.buildSlice 39 1 #[(0, Operand.tmp 21)], type := 39, pos := "ref.go:224", after := #[{ on := 7, ground := Ground.data }], guard := none }) rfl (fun K hK => ?_) AllReadyL.nil
        go_simp
        refine hK.out _ _ (SL.cons (fun _ => trivial) (SL.cons (fun h => absurd h (by decide +kernel)) (SL.cons (fun h => absurd h (by decide +kernel)) (SL.cons (fun _ => cell_later (below1 w3 _) x5) SL.nil)))) (fun hHeld => ?_)
        clear hK K
        try simp only [Act.put, List.setIfInBounds_toArray, List.set_cons_zero, List.set_cons_succ]
        have hb4 := hb3.trans ((below1 w3 (.cells #[.bool lb, .int .u8 k1, .string s1, .int .i64 a1, .slice q6 n5 c6] 41)).mono hb3.size)
        have hbt1 := HBX.out.1.later hb4
        have hbt := HBX.out.2.1.later hb4
        have hbx := HBX.out.2.2.1.later hb4
        have ho := own_later HOW.out.1 hb4
        have hrw := HOW.out.2.later hb4
        have hq4 := hq2.later (below1 w3 (.cells #[.bool lb, .int .u8 k1, .string s1, .int .i64 a1, .slice q6 n5 c6] 41))
        have hnb := box_new w3 lb k1 s1 a1 (.slice q6 n5 c6)
        have hsz : W.heap.size + 3 ≤ (w3.alloc (.cells #[.bool lb, .int .u8 k1, .string s1, .int .i64 a1, .slice q6 n5 c6] 41)).heap.size := by have := hbx.lt; omega
        clear x5 hHeld
        refine wpAnyL_ready (rs := [9]) (by kernel_rfl) (by simp) ?_
        refine AllReadyL.cons (o := { dst := some 23, op := Op.call { callee := Callee.builtin Builtin.append, args := #[Operand.tmp 15, Operand.tmp 22], argTypes := #[39, 39] }, type := 39, pos := "ref.go:224", after := #[{ on := 1, ground := Ground.data }, { on := 8, ground := Ground.data }, { on := 7, ground := Ground.chain }], guard := none }) rfl (fun K hK => ?_) AllReadyL.nil
        rw [if_pos (by rfl)]
        refine wp_append_own_at _ _ 39 (by rfl) (W.heap.size + 3) 41 i41 Z41 5 64 Tryd.underlying39 hi hz0 hz1 hz2 rfl (by omega) _ fd.len xs (by rfl) ho ⟨w3.heap.size, 0, none⟩ 1 1 (trC lb k1 s1 a1 q6 n5 c6) (by rfl) (by rfl) ?_ ?_ ?_ ?_ ?_ ?_
        · intro jj u hjj
          rw [Lib.add_plain]
          match jj, hjj with
          | 0, hjj => cases hjj; exact hnb.c0
          | 1, hjj => cases hjj; exact hnb.c1
          | 2, hjj => cases hjj; exact hnb.c2
          | 3, hjj => cases hjj; exact hnb.c3
          | 4, hjj => cases hjj; exact hnb.c4
        · intro u hu; simp [trC] at hu; rcases hu with rfl | rfl | rfl | rfl | rfl <;> rfl
        · have hml : maxLen = 9223372036854775807 := rfl; omega
        · omega
        · exact hsz
        intro v8 w8 hown hgrow hnil_ hloc
        have hown' := hown
        rw [HN5.out] at hown'
        have hpush := OwnF.push (N := w2.heap.size) ho hrw (by have := HBX.out.2.2.1.lt; omega) (fun g hg => (own_lt HOW.out.1 hg).2) hq4 hq1 (by omega) hown' hgrow hloc
        obtain ⟨p8, c8, hv, hA_⟩ := own_shape hown
        subst hv
        clear hnil_ hloc hA_ hown'
        have ho8 := Only.of_grown hgrow
        have hge : ∀ j, (Value.slice pv fd.len cv).ownBlock = some j → W.heap.size + 3 ≤ j := fun j hj => (own_lt ho hj).1
        have hbx8 := hbx.only ho8 (fun e => by have := hge _ e; omega)
        have hbt8 := hbt.only ho8 (fun e => by have := hge _ e; omega)
        have hbt18 := hbt1.only ho8 (fun e => by have := hge _ e; omega)
        have hfo8 := (HS.out.2.2.2.1.later hb4).only ho8 (fun b hb e => by have h1 := hge _ e; have h2 := HX.out.2 b hb; omega)
        have x8 := hbx8.c4
        have f8 := hbx8.fz
        have hb8 := (HBX.out.2.2.2.trans (hb4.mono HBX.out.2.2.2.size)).trans (ho8.below (B := W.heap.size) (fun j hj => by have := hge j hj; omega) (by omega))
        have HE := Lib.hid (And.intro hpush (And.intro hbx8 (And.intro hbt8 (And.intro hbt18 (And.intro hfo8 hb8)))))
        clear hown hgrow ho8 hge hbx8 hbt8 hbt18 hfo8 hb8 hpush hb4 hbt hbt1 hbx ho hrw hq4 hnb hq1 hq2 hb3
        refine hK.out _ _ (SL.cons (fun _ => trivial) (SL.cons (fun h => absurd h (by decide +kernel)) (SL.cons (fun h => absurd h (by decide +kernel)) (SL.cons (fun h => absurd h (by decide +kernel)) SL.nil)))) (fun hHeld => ?_)
        clear hK K
        try simp only [Act.put, List.setIfInBounds_toArray, List.set_cons_zero, List.set_cons_succ]
        refine wpAnyL_take 0 _ _ (i := 10) (oi := { dst := some 24, op := Op.fieldAddr 41 (Operand.tmp 3) 2, type := 0, pos := "ref.go:224", after := #[{ on := 0, ground := Ground.phase }, { on := 1, ground := Ground.phase }, { on := 2, ground := Ground.phase }, { on := 3, ground := Ground.phase }, { on := 4, ground := Ground.phase }, { on := 5, ground := Ground.phase }, { on := 6, ground := Ground.phase }, { on := 7, ground := Ground.phase }, { on := 8, ground := Ground.phase }, { on := 9, ground := Ground.phase }], guard := none }) (v := ?_) rfl (by kernel_rfl) (by kernel_rfl) (by kernel_rfl) (fun _ _ _ h => h) rfl (by kernel_rfl) (by kernel_rfl) (by kernel_rfl) (Or.inl ⟨by rfl, ?_⟩) hHeld (fun hHeld => ?_)
        rotate_left
        · intro w hSw
          (try dsimp only at hSw)
          go_simp
          try with_reducible rfl
        try simp only [Act.put, List.setIfInBounds_toArray, List.set_cons_zero, List.set_cons_succ]
        refine wpAnyL_ready (rs := [11]) (by kernel_rfl) (by simp) ?_
        refine AllReadyL.cons (o := { dst := none, op := Op.store 39 (Operand.tmp 24) (Operand.tmp 23), type := 0, pos := "ref.go:224", after := #[{ on := 10, ground := Ground.data }, { on := 9, ground := Ground.data }, { on := 9, ground := Ground.chain }, { on := 0, ground := Ground.phase }, { on := 1, ground := Ground.phase }, { on := 2, ground := Ground.phase }, { on := 3, ground := Ground.phase }, { on := 4, ground := Ground.phase }, { on := 5, ground := Ground.phase }, { on := 6, ground := Ground.phase }, { on := 7, ground := Ground.phase }, { on := 8, ground := Ground.phase }, { on := 9, ground := Ground.phase }], guard := none }) rfl (fun K hK => ?_) AllReadyL.nil
        go_simp
        refine hK.out _ _ (SL.cons (fun _ => trivial) (SL.cons (fun h => absurd h (by decide +kernel)) (SL.cons (fun h => absurd h (by decide +kernel)) (SL.cons (fun h => absurd h (by decide +kernel)) SL.nil)))) (fun hHeld => ?_)
        clear hK K
        try simp only [Act.put, List.setIfInBounds_toArray, List.set_cons_zero, List.set_cons_succ]
        refine wpAnyL_done (by kernel_rfl) ?_ _
        obtain ⟨w9, hw9⟩ : ∃ w9, w9 = w8.setCell ⟨W.heap.size + 1 + 1, 4, none⟩ (.slice p8 (fd.len + 1) c8) := ⟨_, rfl⟩
        have ho9 : Only (fun k => k = W.heap.size + 1 + 1) w8 w9 := by rw [hw9]; exact Only.of_setCell w8 ⟨W.heap.size + 1 + 1, 4, none⟩ _
        have HN := Lib.hid (show BoxT w9 W.heap.size l k s a (.slice (some ⟨b, off, none⟩) N c) ∧ BoxT w9 (W.heap.size + 1) false 0 ⟨#[]⟩ 0 (.slice none 0 0) ∧ BoxT w9 (W.heap.size + 1 + 1) l k s a (.slice p8 (fd.len + 1) c8) ∧ OwnF w9 (W.heap.size + 3) (.slice p8 (fd.len + 1) c8) (fd.snoc lb k1 s1 a1 x1) ∧ FoIn w9 F r1 (pl (some ⟨b, off, none⟩) (i + 1)) ∧ Below W.heap.size W w9 from
          ⟨HE.out.2.2.2.1.only ho9 (by omega), HE.out.2.2.1.only ho9 (by omega), by rw [hw9]; exact HE.out.2.1.set4 _, HE.out.1.only ho9 (fun z hz e => by omega), HE.out.2.2.2.2.1.only ho9 (fun b hb e => by have h2 := HX.out.2 b hb; omega), HE.out.2.2.2.2.2.trans (ho9.below (fun j hj => by omega) HE.out.2.2.2.2.2.size)⟩)
        rw [← hw9]
        clear hw9 ho9 x8 f8 hHeld
        go_wp2_with fail
        go_roundg G
        case measure => omega
        case rel =>
          obtain ⟨i', hi'⟩ : ∃ i', i' = i + 1 := ⟨_, rfl⟩
          have hfs : (fd.snoc lb k1 s1 a1 x1).len = fd.len + 1 := Fo.len_snoc _ _ _ _ _ _
          refine ⟨i', fd.snoc lb k1 s1 a1 x1, r1, p8, c8, by have := HG.out; omega, by rw [hi']; go_num, Lib.hid ⟨by rw [hfs, HS.out.1, hi'], HS.out.2.1, HS.out.2.2.1, HN.out.1, HN.out.2.1, ?_, ?_, by rw [hi']; exact HN.out.2.2.2.2.1, HN.out.2.2.2.2.2⟩⟩
          · rw [hfs]; exact HN.out.2.2.1
          · rw [hfs]; exact HN.out.2.2.2.1
    · obtain rfl : i = N := by omega
      obtain rfl : gk = 0 := by have := HG.out; omega
      obtain rfl := fo_len_zero hfl
      have hxe : x = fd := by rw [hxx, Fo.app_nil]
      obtain ⟨q9, c9, hv9, hc9, hf9⟩ := hown.foIn
      injection hv9 with h91 h92 h93
      subst h91
      subst h93
      have HE := Lib.hid (And.intro hxe (And.intro hc9 (And.intro hf9 hbw)))
      have HQ := Lib.hid (And.intro q2 q3)
      obtain ⟨p0, p1, p2, p3, p4, pf⟩ := q3
      obtain ⟨r0, r1', r2, r3, r4, rf⟩ := q2
      obtain ⟨FL, hFL⟩ : ∃ FL, FL = fd.len := ⟨_, rfl⟩
      rw [← hFL] at p4 hfd
      obtain rfl := hfd
      have HFL := Lib.hid hFL
      clear hxx hown hfo hbw hfl hxe hc9 hf9 HK h92 hFL q1
      go_wp2_with fail

      refine bodyPost_ret (v := .agg #[.bool l, .int .u8 k, .string s, .int .i64 a, .slice pv FL cv]) (by simp [results, Tryd.results28, go_sem, r0, r1', r2, r3, r4, rf]) rfl ?_
      have ho5 := only_set5 wA (W.heap.size + 1) (.bool l) (.int .u8 k) (.string s) (.int .i64 a) (.slice pv FL cv)
      refine ⟨pv, cv, rfl, by have h1 := HE.out.2.1; have h2 := HFL.out; omega, ?_, HE.out.2.2.2.trans (ho5.below (fun j hj => by omega) HE.out.2.2.2.size)⟩
      rw [HE.out.1]
      exact (HE.out.2.2.1.only ho5 (fun b hb e => by omega)).mono (fun b hb _ => by omega)
theorem copy28 (n : Nat) : CopyP n := Nat.strongRecOn n fun n ih => copy28_step n ih
end Go.Proofs.YtlifankiljbdjaaDoor
