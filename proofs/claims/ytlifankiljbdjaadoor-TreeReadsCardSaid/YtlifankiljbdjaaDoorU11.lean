/- TreeNext: the law's walk. -/
import Derived.Test.YtlifankiljbdjaaDoorU10
import Derived.Test.YtlifankiljbdjaaDoorJT3
import Derived.Test.YtlifankiljbdjaaDoorJT2
import Derived.Deep.RegionHeld3
namespace Go.Proofs.YtlifankiljbdjaaDoor
open Go Go.RowKit

theorem AllO.cons_inv {l : List TkA} {i : Nat} {b : Bool} {k : Int} {s : ByteArray} {a : Int} {g f : Fo} {z er : Int} (h : AllO l i (.cons b k s a g f) z er) :
    (∃ n : Nat, i < l.length ∧ NextO l (i : Int) b k s a g (n : Int) 0 ∧ AllO l n f z er) ∨ (∃ (b' : Bool) (k' : Int) (s' : ByteArray) (a' : Int) (g' : Fo) (n : Nat), i < l.length ∧ NextO l (i : Int) b' k' s' a' g' (n : Int) 40 ∧ AllO l n f z er) := by
  cases h with
  | ok h1 h2 h3 => exact .inl ⟨_, h1, h2, h3⟩
  | deep h1 h2 h3 => exact .inr ⟨_, _, _, _, _, _, h1, h2, h3⟩
theorem AllO.nil_inv {l : List TkA} {i : Nat} {z er : Int} (h : AllO l i .nil z er) :
    (i = l.length ∧ z = (i : Int) ∧ er = 0) ∨ (∃ (b : Bool) (k : Int) (s : ByteArray) (a : Int) (g : Fo) (n : Int), i < l.length ∧ NextO l (i : Int) b k s a g n er ∧ er ≠ 0 ∧ er ≠ 40 ∧ z = (i : Int)) := by
  cases h with
  | done h1 => exact .inl ⟨h1, rfl, rfl⟩
  | bad h1 h2 h3 h4 => exact .inr ⟨_, _, _, _, _, _, h1, h2, h3, h4, rfl⟩
set_option maxRecDepth 100000 in
set_option maxHeartbeats 6400000 in
theorem treenext_any (p : Option Addr) (c : Nat) (l : List TkA) (W : World) (h1 : TksA W p l) (hc : l.length ≤ c) (hln : l.length ≤ 281474976710656) (hs : ∀ t ∈ l, t.s.size ≤ 281474976710656) (hm : MaxAt W) :
    Calls Tryd.prog 11 #[.slice p l.length c] W fun e w' => e = .returned (.bool true) ∧ Below W.heap.size W w' := by
  have HKN := Lib.hid (fun (w : World) (h : Below W.heap.size W w) => known20 w (hm.later h))
  obtain ⟨n, hl⟩ : ∃ n, n = l.length := ⟨_, rfl⟩
  by_cases hbig : 1000 < n
  · have i1 : (1000 : Int) < (n : Int) := by omega
    have i2 : (n : Int) ≤ 281474976710656 := by omega
    rw [← hl]
    clear h1 hc hln hs hl hm
    go_enter Tryd.func11, Tryd.ntmps11
    go_wp2_with fail
    refine (HKN.out _ (Below.refl _ _)).mono ?_
    rintro e w1 ⟨rfl, hb⟩
    have HB := Lib.hid hb
    clear hb
    go_wp2_with fail
    go_ret
    exact ⟨rfl, HB.out⟩
  have hall := all24 p c l W h1 hc (by omega) hs
  have HNX := Lib.hid (fun (z : Int) (w : World) (h : Below W.heap.size W w) => next21 p c l z w (h1.later h) hc (by omega) hs)
  rw [← hl] at hall HNX ⊢
  have HL := Lib.hid hl
  have HALL := Lib.hid hall
  have i1 : (n : Int) ≤ 1000 := by omega
  clear h1 hc hln hs hl hm hall hbig
  go_enter Tryd.func11, Tryd.ntmps11
  go_wp2_with fail
  refine HALL.out.mono ?_
  rintro e w1 ⟨v, f, z, er, rfl, hown, hfl, hb1, hA⟩
  obtain ⟨q, c1, rfl, hc1, hfo⟩ := hown.foIn
  obtain ⟨N, hN⟩ : ∃ N, N = f.len := ⟨_, rfl⟩
  rw [← hN] at hc1 hfl ⊢
  have HB1 := Lib.hid hb1
  have HFO := Lib.hid (And.intro hfo (And.intro hN hA))
  have i2 : (N : Int) ≤ 1000 := by have := HL.out; omega
  clear hown hb1 hfo hN hA hfl HALL
  go_wp2_with fail
  go_loopg [6, 7, 8, 9, 10] N (fun gk s6 s7 s8 s9 s10 wx => ∃ (i fr : Nat) (rest : Fo), i + gk = N ∧ s7 = .int .i64 (i : Int) ∧ s6 = .int .i64 (fr : Int) ∧ Hid (rest.len = gk ∧ AllO l fr rest z er ∧ FoIn wx (fun b => W.heap.size ≤ b) rest (pl q i) ∧ Below w1.heap.size w1 wx ∧ fr ≤ n))
  case atStart => exact ⟨0, 0, f, by omega, rfl, rfl, Lib.hid ⟨HFO.out.2.1.symm, HFO.out.2.2, pl_zero HFO.out.1, Below.refl _ _, by omega⟩⟩
  case round =>
    obtain ⟨i, fr, rest, hk, rfl, rfl, HK⟩ := hrel
    have HG := Lib.hid hk
    have hi2 : i ≤ N := by omega
    clear hk
    obtain ⟨wA, hwA⟩ : ∃ w, w = wr := ⟨_, rfl⟩
    subst hwA
    obtain ⟨hrl, hA, hfo, hb, hfr⟩ := HK.out
    have HBA := Lib.hid (HB1.out.trans (hb.mono HB1.out.size))
    have HBB := Lib.hid hb
    have i3 : (i : Int) ≤ (N : Int) := by omega
    have i4 : (fr : Int) ≤ 1000 := by omega
    have hnx := HNX.out (fr : Int) wA HBA.out
    have HNA := Lib.hid hnx
    clear HK hb hnx
    by_cases hlt : i < N
    · obtain ⟨G, rfl⟩ : ∃ G, gk = G + 1 := ⟨gk - 1, by have := HG.out; omega⟩
      have i0 : (0 : Int) ≤ (i : Int) := by omega
      have i5 : (i : Int) < (N : Int) := by omega
      obtain ⟨bq, offq, rfl⟩ : ∃ b off, q = some ⟨b, off, none⟩ := HFO.out.1.some (by rw [← HFO.out.2.1]; omega)
      cases rest with
      | nil => simp [Fo.len] at hrl
      | cons l1 k1 s1 a1 x1 r1 =>
        obtain ⟨hbF, e0, e1, e2, e3, ⟨q3, cc3, e4, hc3, hm3, hx3⟩, hr3⟩ := hfo.head
        have hr1 : r1.len = G := by simpa [Fo.len] using hrl
        obtain ⟨n3, hn3⟩ : ∃ n3, n3 = x1.len := ⟨_, rfl⟩
        rcases hA.cons_inv with ⟨m, him, hO, hA2⟩ | ⟨b', k', s', a', g', m, him, hO, hA2⟩
        · obtain ⟨m', hm', hlt2, hle2, _⟩ := hO.ahead (Or.inl rfl)
          obtain rfl : m = m' := by omega
          have HO := Lib.hid (And.intro hO (And.intro hA2 (And.intro hlt2 (And.intro hle2 (And.intro hr1 hn3)))))
          have j1 : (fr : Int) < (m : Int) := by omega
          have j2 : ¬ (m : Int) ≤ (fr : Int) := by omega
          have j3 : decide ((m : Int) ≤ (fr : Int)) = false := by simpa using j2
          have j4 : decide (m ≤ fr) = false := by simp; omega
          have HX := Lib.hid (And.intro hx3 (And.intro hr3 (And.intro hc3 hm3)))
          have HE := Lib.hid (And.intro e0 (And.intro e1 (And.intro e2 (And.intro e3 e4))))
          rw [← hn3] at hc3 hm3
          have HN3 := Lib.hid hn3
          clear hn3 hO hA2 hm' hlt2 hle2 hA hx3 hr3 hfo hrl e0 e1 e2 e3 e4 him hr1
          go_wp2_with fail
          refine HNA.out.mono ?_
          rintro e w2 ⟨q5, c5, b5, k5, s5, a5, g5, n5, er5, rfl, hg1, hg2, hb2, hO5⟩
          obtain ⟨u1, u2, u3, u4, u5, u6, u7⟩ := HO.out.1.uniq hO5
          obtain rfl := u1.symm
          obtain rfl := u2.symm
          obtain rfl := u3.symm
          obtain rfl := u4.symm
          obtain rfl := u5.symm
          obtain rfl := u6.symm
          obtain rfl := u7.symm
          rw [← HN3.out]
          have HB2 := Lib.hid hb2
          have hbx := below1 w2 (.cells #[.bool l1, .int .u8 k1, .string s1, .int .i64 a1, .slice q5 n3 c5] 41)
          have HS := Lib.hid (show ((w2.alloc (.cells #[.bool l1, .int .u8 k1, .string s1, .int .i64 a1, .slice q5 n3 c5] 41)).drew.cell? ⟨w2.heap.size, 0, none⟩ = some (.bool l1) ∧ (w2.alloc (.cells #[.bool l1, .int .u8 k1, .string s1, .int .i64 a1, .slice q5 n3 c5] 41)).drew.cell? ⟨w2.heap.size, 1, none⟩ = some (.int .u8 k1) ∧ (w2.alloc (.cells #[.bool l1, .int .u8 k1, .string s1, .int .i64 a1, .slice q5 n3 c5] 41)).drew.cell? ⟨w2.heap.size, 2, none⟩ = some (.string s1) ∧ (w2.alloc (.cells #[.bool l1, .int .u8 k1, .string s1, .int .i64 a1, .slice q5 n3 c5] 41)).drew.cell? ⟨w2.heap.size, 3, none⟩ = some (.int .i64 a1) ∧ (w2.alloc (.cells #[.bool l1, .int .u8 k1, .string s1, .int .i64 a1, .slice q5 n3 c5] 41)).drew.cell? ⟨w2.heap.size, 4, none⟩ = some (.slice q5 n3 c5) ∧
            (w2.alloc (.cells #[.bool l1, .int .u8 k1, .string s1, .int .i64 a1, .slice q5 n3 c5] 41)).drew.cell? ⟨bq, offq + i * 5, none⟩ = some (.bool l1) ∧ (w2.alloc (.cells #[.bool l1, .int .u8 k1, .string s1, .int .i64 a1, .slice q5 n3 c5] 41)).drew.cell? ⟨bq, offq + i * 5 + 1, none⟩ = some (.int .u8 k1) ∧ (w2.alloc (.cells #[.bool l1, .int .u8 k1, .string s1, .int .i64 a1, .slice q5 n3 c5] 41)).drew.cell? ⟨bq, offq + i * 5 + 2, none⟩ = some (.string s1) ∧ (w2.alloc (.cells #[.bool l1, .int .u8 k1, .string s1, .int .i64 a1, .slice q5 n3 c5] 41)).drew.cell? ⟨bq, offq + i * 5 + 3, none⟩ = some (.int .i64 a1) ∧ (w2.alloc (.cells #[.bool l1, .int .u8 k1, .string s1, .int .i64 a1, .slice q5 n3 c5] 41)).drew.cell? ⟨bq, offq + i * 5 + 4, none⟩ = some (.slice q3 n3 cc3)) from by
            have hE := HE.out
            rw [← HN3.out] at hE
            have hd := (hb2.trans (hbx.mono hb2.size)).trans ((below_drew (w2.alloc (.cells #[.bool l1, .int .u8 k1, .string s1, .int .i64 a1, .slice q5 n3 c5] 41))).mono (by have := hb2.size; simp; omega))
            have hd0 := below_drew (w2.alloc (.cells #[.bool l1, .int .u8 k1, .string s1, .int .i64 a1, .slice q5 n3 c5] 41))
            exact ⟨cell_later hd0 (by simp [go_sem]), cell_later hd0 (by simp [go_sem]), cell_later hd0 (by simp [go_sem]), cell_later hd0 (by simp [go_sem]), cell_later hd0 (by simp [go_sem]), cell_later hd hE.1, cell_later hd hE.2.1, cell_later hd hE.2.2.1, cell_later hd hE.2.2.2.1, cell_later hd hE.2.2.2.2⟩)
          have hsm := same33_any x1.size x1 x1 (Nat.le_refl _) l1 l1 k1 k1 s1 s1 a1 a1 q5 q3 c5 cc3 (w2.alloc (.cells #[.bool l1, .int .u8 k1, .string s1, .int .i64 a1, .slice q5 n3 c5] 41)).drew _ _ ((hg2.later hbx).later (below_drew _)) (((HX.out.1.later hb2).later hbx).later (below_drew _)) hg1 HX.out.2.2.1 HX.out.2.2.2 HX.out.2.2.2
          rw [sameT_refl, ← HN3.out] at hsm
          unfold trV at hsm
          have HSM := Lib.hid hsm
          have HBD := Lib.hid (hbx.trans ((below_drew _).mono hbx.size))
          clear hg1 hg2 hb2 hO5 hbx hsm HE u1 u2 u3 u4 u5 u6 u7
          simp only [trV]
          go_wp2_with fail
          refine wp_region_L [(1000, (fun _ => True : World → Prop)), (15, ((fun w => w.cell? ⟨w2.heap.size, 0, none⟩ = some (.bool l1) ∧ w.cell? ⟨w2.heap.size, 1, none⟩ = some (.int .u8 k1) ∧ w.cell? ⟨w2.heap.size, 2, none⟩ = some (.string s1) ∧ w.cell? ⟨w2.heap.size, 3, none⟩ = some (.int .i64 a1) ∧ w.cell? ⟨w2.heap.size, 4, none⟩ = some (.slice q5 n3 c5) ∧ w.cell? ⟨bq, offq + i * 5, none⟩ = some (.bool l1) ∧ w.cell? ⟨bq, offq + i * 5 + 1, none⟩ = some (.int .u8 k1) ∧ w.cell? ⟨bq, offq + i * 5 + 2, none⟩ = some (.string s1) ∧ w.cell? ⟨bq, offq + i * 5 + 3, none⟩ = some (.int .i64 a1) ∧ w.cell? ⟨bq, offq + i * 5 + 4, none⟩ = some (.slice q3 n3 cc3)) : World → Prop))] (by kernel_rfl) (SL.cons (fun _ => trivial) (SL.cons (fun _ => HS.out) SL.nil)) (fun hHeld => ?_)
          refine wpAnyL_take 0 _ _ (i := 0) (oi := { dst := some 37, op := Op.move (Operand.tmp 10), type := 25, pos := "law.go:109", after := #[], guard := none }) (v := ?_) rfl (by kernel_rfl) (by kernel_rfl) (by kernel_rfl) (fun _ _ _ h => h) rfl (by kernel_rfl) (by kernel_rfl) (by kernel_rfl) (Or.inl ⟨by rfl, ?_⟩) hHeld (fun hHeld => ?_)
          rotate_left
          · intro w hSw
            (try dsimp only at hSw)
            go_simp
            try with_reducible rfl
          try simp only [Act.put, List.setIfInBounds_toArray, List.set_cons_zero, List.set_cons_succ]
          refine wpAnyL_take 0 _ _ (i := 1) (oi := { dst := some 38, op := Op.binOp BinOp.neq 25 (Operand.tmp 37) (Operand.const (Value.int IntKind.i64 0)) 25, type := 4, pos := "law.go:109", after := #[{ on := 0, ground := Ground.data }], guard := none }) (v := ?_) rfl (by kernel_rfl) (by kernel_rfl) (by kernel_rfl) (fun _ _ _ h => h) rfl (by kernel_rfl) (by kernel_rfl) (by kernel_rfl) (Or.inl ⟨by rfl, ?_⟩) hHeld (fun hHeld => ?_)
          rotate_left
          · intro w hSw
            (try dsimp only at hSw)
            go_simp
            try with_reducible rfl
          try simp only [Act.put, List.setIfInBounds_toArray, List.set_cons_zero, List.set_cons_succ]
          refine wpAnyL_take 0 _ _ (i := 2) (oi := { dst := some 39, op := Op.move (Operand.tmp 38), type := 4, pos := "law.go:109", after := #[{ on := 1, ground := Ground.data }], guard := none }) (v := ?_) rfl (by kernel_rfl) (by kernel_rfl) (by kernel_rfl) (fun _ _ _ h => h) rfl (by kernel_rfl) (by kernel_rfl) (by kernel_rfl) (Or.inl ⟨by rfl, ?_⟩) hHeld (fun hHeld => ?_)
          rotate_left
          · intro w hSw
            (try dsimp only at hSw)
            go_simp
            try with_reducible rfl
          try simp only [Act.put, List.setIfInBounds_toArray, List.set_cons_zero, List.set_cons_succ]
          refine wpAnyL_take 0 _ _ (i := 3) (oi := { dst := some 40, op := Op.move (Operand.tmp 10), type := 25, pos := "law.go:109", after := #[{ on := 2, ground := Ground.guard }], guard := some (2, true) }) (v := undef) rfl (by kernel_rfl) (by kernel_rfl) (by kernel_rfl) (fun _ _ _ h => h) rfl (by kernel_rfl) (by kernel_rfl) (by kernel_rfl) (Or.inr ⟨by rfl, rfl⟩) hHeld (fun hHeld => ?_)
          try simp only [Act.put, List.setIfInBounds_toArray, List.set_cons_zero, List.set_cons_succ]
          refine wpAnyL_take 0 _ _ (i := 4) (oi := { dst := some 41, op := Op.binOp BinOp.neq 25 (Operand.tmp 40) (Operand.const (Value.int IntKind.i64 40)) 25, type := 4, pos := "law.go:109", after := #[{ on := 3, ground := Ground.data }, { on := 2, ground := Ground.guard }], guard := some (2, true) }) (v := undef) rfl (by kernel_rfl) (by kernel_rfl) (by kernel_rfl) (fun _ _ _ h => h) rfl (by kernel_rfl) (by kernel_rfl) (by kernel_rfl) (Or.inr ⟨by rfl, rfl⟩) hHeld (fun hHeld => ?_)
          try simp only [Act.put, List.setIfInBounds_toArray, List.set_cons_zero, List.set_cons_succ]
          refine wpAnyL_take 0 _ _ (i := 5) (oi := { dst := some 42, op := Op.pick (Operand.tmp 39) (Operand.tmp 41) (Operand.const (Value.bool false)), type := 4, pos := "law.go:109", after := #[{ on := 2, ground := Ground.data }, { on := 4, ground := Ground.data }], guard := none }) (v := ?_) rfl (by kernel_rfl) (by kernel_rfl) (by kernel_rfl) (fun _ _ _ h => h) rfl (by kernel_rfl) (by kernel_rfl) (by kernel_rfl) (Or.inl ⟨by rfl, ?_⟩) hHeld (fun hHeld => ?_)
          rotate_left
          · intro w hSw
            (try dsimp only at hSw)
            go_simp
            try with_reducible rfl
          try simp only [Act.put, List.setIfInBounds_toArray, List.set_cons_zero, List.set_cons_succ]
          refine wpAnyL_take 0 _ _ (i := 6) (oi := { dst := some 43, op := Op.move (Operand.tmp 42), type := 4, pos := "law.go:109", after := #[{ on := 5, ground := Ground.data }, { on := 2, ground := Ground.chain }], guard := none }) (v := ?_) rfl (by kernel_rfl) (by kernel_rfl) (by kernel_rfl) (fun _ _ _ h => h) rfl (by kernel_rfl) (by kernel_rfl) (by kernel_rfl) (Or.inl ⟨by rfl, ?_⟩) hHeld (fun hHeld => ?_)
          rotate_left
          · intro w hSw
            (try dsimp only at hSw)
            go_simp
            try with_reducible rfl
          try simp only [Act.put, List.setIfInBounds_toArray, List.set_cons_zero, List.set_cons_succ]
          refine wpAnyL_take 0 _ _ (i := 7) (oi := { dst := some 44, op := Op.move (Operand.tmp 10), type := 25, pos := "law.go:109", after := #[{ on := 6, ground := Ground.guard }], guard := some (6, false) }) (v := ?_) rfl (by kernel_rfl) (by kernel_rfl) (by kernel_rfl) (fun _ _ _ h => h) rfl (by kernel_rfl) (by kernel_rfl) (by kernel_rfl) (Or.inl ⟨by rfl, ?_⟩) hHeld (fun hHeld => ?_)
          rotate_left
          · intro w hSw
            (try dsimp only at hSw)
            go_simp
            try with_reducible rfl
          try simp only [Act.put, List.setIfInBounds_toArray, List.set_cons_zero, List.set_cons_succ]
          refine wpAnyL_take 0 _ _ (i := 8) (oi := { dst := some 45, op := Op.binOp BinOp.eql 25 (Operand.tmp 44) (Operand.const (Value.int IntKind.i64 0)) 25, type := 4, pos := "law.go:109", after := #[{ on := 7, ground := Ground.data }, { on := 6, ground := Ground.guard }], guard := some (6, false) }) (v := ?_) rfl (by kernel_rfl) (by kernel_rfl) (by kernel_rfl) (fun _ _ _ h => h) rfl (by kernel_rfl) (by kernel_rfl) (by kernel_rfl) (Or.inl ⟨by rfl, ?_⟩) hHeld (fun hHeld => ?_)
          rotate_left
          · intro w hSw
            (try dsimp only at hSw)
            go_simp
            try with_reducible rfl
          try simp only [Act.put, List.setIfInBounds_toArray, List.set_cons_zero, List.set_cons_succ]
          refine wpAnyL_take 0 _ _ (i := 9) (oi := { dst := some 46, op := Op.move (Operand.tmp 45), type := 4, pos := "law.go:109", after := #[{ on := 8, ground := Ground.data }, { on := 6, ground := Ground.chain }, { on := 6, ground := Ground.guard }], guard := some (6, false) }) (v := ?_) rfl (by kernel_rfl) (by kernel_rfl) (by kernel_rfl) (fun _ _ _ h => h) rfl (by kernel_rfl) (by kernel_rfl) (by kernel_rfl) (Or.inl ⟨by rfl, ?_⟩) hHeld (fun hHeld => ?_)
          rotate_left
          · intro w hSw
            (try dsimp only at hSw)
            go_simp
            try with_reducible rfl
          try simp only [Act.put, List.setIfInBounds_toArray, List.set_cons_zero, List.set_cons_succ]
          refine wpAnyL_take 1 _ _ (i := 10) (oi := { dst := some 47, op := Op.load 41 (Operand.tmp 8), type := 41, pos := "law.go:109", after := #[{ on := 9, ground := Ground.guard }], guard := some (9, true) }) (v := ?_) rfl (by kernel_rfl) (by kernel_rfl) (by kernel_rfl) (fun _ _ _ h => h) rfl (by kernel_rfl) (by kernel_rfl) (by kernel_rfl) (Or.inl ⟨by rfl, ?_⟩) hHeld (fun hHeld => ?_)
          rotate_left
          · intro w hSw
            (try dsimp only at hSw)
            obtain ⟨z0, z1, z2, z3, z4, z5, z6, z7, z8, z9⟩ := hSw
            go_simp
            try with_reducible rfl
          try simp only [Act.put, List.setIfInBounds_toArray, List.set_cons_zero, List.set_cons_succ]
          refine wpAnyL_take 0 _ _ (i := 11) (oi := { dst := some 48, op := Op.move (Operand.tmp 3), type := 39, pos := "law.go:109", after := #[{ on := 9, ground := Ground.guard }], guard := some (9, true) }) (v := ?_) rfl (by kernel_rfl) (by kernel_rfl) (by kernel_rfl) (fun _ _ _ h => h) rfl (by kernel_rfl) (by kernel_rfl) (by kernel_rfl) (Or.inl ⟨by rfl, ?_⟩) hHeld (fun hHeld => ?_)
          rotate_left
          · intro w hSw
            (try dsimp only at hSw)
            go_simp
            try with_reducible rfl
          try simp only [Act.put, List.setIfInBounds_toArray, List.set_cons_zero, List.set_cons_succ]
          refine wpAnyL_take 0 _ _ (i := 12) (oi := { dst := some 49, op := Op.move (Operand.tmp 7), type := 3, pos := "law.go:109", after := #[{ on := 9, ground := Ground.guard }], guard := some (9, true) }) (v := ?_) rfl (by kernel_rfl) (by kernel_rfl) (by kernel_rfl) (fun _ _ _ h => h) rfl (by kernel_rfl) (by kernel_rfl) (by kernel_rfl) (Or.inl ⟨by rfl, ?_⟩) hHeld (fun hHeld => ?_)
          rotate_left
          · intro w hSw
            (try dsimp only at hSw)
            go_simp
            try with_reducible rfl
          try simp only [Act.put, List.setIfInBounds_toArray, List.set_cons_zero, List.set_cons_succ]
          refine wpAnyL_take 0 _ _ (i := 13) (oi := { dst := some 50, op := Op.indexAddr 39 (Operand.tmp 48) (Operand.tmp 49), type := 0, pos := "law.go:109", after := #[{ on := 11, ground := Ground.data }, { on := 12, ground := Ground.data }, { on := 9, ground := Ground.guard }], guard := some (9, true) }) (v := ?_) rfl (by kernel_rfl) (by kernel_rfl) (by kernel_rfl) (fun _ _ _ h => h) rfl (by kernel_rfl) (by kernel_rfl) (by kernel_rfl) (Or.inl ⟨by rfl, ?_⟩) hHeld (fun hHeld => ?_)
          rotate_left
          · intro w hSw
            (try dsimp only at hSw)
            go_simp
            try with_reducible rfl
          try simp only [Act.put, List.setIfInBounds_toArray, List.set_cons_zero, List.set_cons_succ]
          refine wpAnyL_take 1 _ _ (i := 14) (oi := { dst := some 51, op := Op.load 41 (Operand.tmp 50), type := 41, pos := "law.go:109", after := #[{ on := 13, ground := Ground.data }, { on := 9, ground := Ground.guard }], guard := some (9, true) }) (v := ?_) rfl (by kernel_rfl) (by kernel_rfl) (by kernel_rfl) (fun _ _ _ h => h) rfl (by kernel_rfl) (by kernel_rfl) (by kernel_rfl) (Or.inl ⟨by rfl, ?_⟩) hHeld (fun hHeld => ?_)
          rotate_left
          · intro w hSw
            (try dsimp only at hSw)
            obtain ⟨z0, z1, z2, z3, z4, z5, z6, z7, z8, z9⟩ := hSw
            go_simp
            try with_reducible rfl
          try simp only [Act.put, List.setIfInBounds_toArray, List.set_cons_zero, List.set_cons_succ]
          refine wpAnyL_ready (rs := [15]) (by kernel_rfl) (by simp) ?_
          refine AllReadyL.cons (o := { dst := some 52, op := Op.call { callee := Callee.value (Operand.func 33), args := #[Operand.tmp 47, Operand.tmp 51], argTypes := #[41, 41] }, type := 4, pos := "law.go:109", after := #[{ on := 10, ground := Ground.data }, { on := 14, ground := Ground.data }, { on := 9, ground := Ground.chain }, { on := 9, ground := Ground.guard }], guard := some (9, true) }) rfl (fun K hK => ?_) AllReadyL.nil
          go_simp
          go_at_call 33
          refine HSM.out.mono ?_
          rintro e w3 ⟨rfl, hb3⟩
          have HB3 := Lib.hid hb3
          clear hb3
          refine hK.out _ _ (SL.cons (fun _ => trivial) (SL.cons (fun h => absurd h (by decide +kernel)) SL.nil)) (fun hHeld => ?_)
          clear hK K
          try simp only [Act.put, List.setIfInBounds_toArray, List.set_cons_zero, List.set_cons_succ]
          refine wpAnyL_take 0 _ _ (i := 16) (oi := { dst := some 53, op := Op.unOp UnOp.not 4 (Operand.tmp 52), type := 4, pos := "law.go:109", after := #[{ on := 15, ground := Ground.data }, { on := 9, ground := Ground.guard }], guard := some (9, true) }) (v := ?_) rfl (by kernel_rfl) (by kernel_rfl) (by kernel_rfl) (fun _ _ _ h => h) rfl (by kernel_rfl) (by kernel_rfl) (by kernel_rfl) (Or.inl ⟨by rfl, ?_⟩) hHeld (fun hHeld => ?_)
          rotate_left
          · intro w hSw
            (try dsimp only at hSw)
            go_simp
            try with_reducible rfl
          try simp only [Act.put, List.setIfInBounds_toArray, List.set_cons_zero, List.set_cons_succ]
          refine wpAnyL_take 0 _ _ (i := 17) (oi := { dst := some 54, op := Op.pick (Operand.tmp 46) (Operand.tmp 53) (Operand.const (Value.bool false)), type := 4, pos := "law.go:109", after := #[{ on := 9, ground := Ground.data }, { on := 16, ground := Ground.data }, { on := 6, ground := Ground.guard }], guard := some (6, false) }) (v := ?_) rfl (by kernel_rfl) (by kernel_rfl) (by kernel_rfl) (fun _ _ _ h => h) rfl (by kernel_rfl) (by kernel_rfl) (by kernel_rfl) (Or.inl ⟨by rfl, ?_⟩) hHeld (fun hHeld => ?_)
          rotate_left
          · intro w hSw
            (try dsimp only at hSw)
            go_simp
            try with_reducible rfl
          try simp only [Act.put, List.setIfInBounds_toArray, List.set_cons_zero, List.set_cons_succ]
          refine wpAnyL_take 0 _ _ (i := 18) (oi := { dst := some 55, op := Op.pick (Operand.tmp 43) (Operand.const (Value.bool true)) (Operand.tmp 54), type := 4, pos := "law.go:109", after := #[{ on := 6, ground := Ground.data }, { on := 17, ground := Ground.data }], guard := none }) (v := ?_) rfl (by kernel_rfl) (by kernel_rfl) (by kernel_rfl) (fun _ _ _ h => h) rfl (by kernel_rfl) (by kernel_rfl) (by kernel_rfl) (Or.inl ⟨by rfl, ?_⟩) hHeld (fun hHeld => ?_)
          rotate_left
          · intro w hSw
            (try dsimp only at hSw)
            go_simp
            try with_reducible rfl
          try simp only [Act.put, List.setIfInBounds_toArray, List.set_cons_zero, List.set_cons_succ]
          refine wpAnyL_take 0 _ _ (i := 19) (oi := { dst := some 56, op := Op.move (Operand.tmp 55), type := 4, pos := "law.go:109", after := #[{ on := 18, ground := Ground.data }, { on := 15, ground := Ground.chain }], guard := none }) (v := ?_) rfl (by kernel_rfl) (by kernel_rfl) (by kernel_rfl) (fun _ _ _ h => h) rfl (by kernel_rfl) (by kernel_rfl) (by kernel_rfl) (Or.inl ⟨by rfl, ?_⟩) hHeld (fun hHeld => ?_)
          rotate_left
          · intro w hSw
            (try dsimp only at hSw)
            go_simp
            try with_reducible rfl
          try simp only [Act.put, List.setIfInBounds_toArray, List.set_cons_zero, List.set_cons_succ]
          refine wpAnyL_take 0 _ _ (i := 20) (oi := { dst := some 57, op := Op.move (Operand.tmp 9), type := 3, pos := "law.go:109", after := #[{ on := 19, ground := Ground.guard }], guard := some (19, false) }) (v := ?_) rfl (by kernel_rfl) (by kernel_rfl) (by kernel_rfl) (fun _ _ _ h => h) rfl (by kernel_rfl) (by kernel_rfl) (by kernel_rfl) (Or.inl ⟨by rfl, ?_⟩) hHeld (fun hHeld => ?_)
          rotate_left
          · intro w hSw
            (try dsimp only at hSw)
            go_simp
            try with_reducible rfl
          try simp only [Act.put, List.setIfInBounds_toArray, List.set_cons_zero, List.set_cons_succ]
          refine wpAnyL_take 0 _ _ (i := 21) (oi := { dst := some 58, op := Op.move (Operand.tmp 6), type := 3, pos := "law.go:109", after := #[{ on := 19, ground := Ground.guard }], guard := some (19, false) }) (v := ?_) rfl (by kernel_rfl) (by kernel_rfl) (by kernel_rfl) (fun _ _ _ h => h) rfl (by kernel_rfl) (by kernel_rfl) (by kernel_rfl) (Or.inl ⟨by rfl, ?_⟩) hHeld (fun hHeld => ?_)
          rotate_left
          · intro w hSw
            (try dsimp only at hSw)
            go_simp
            try with_reducible rfl
          try simp only [Act.put, List.setIfInBounds_toArray, List.set_cons_zero, List.set_cons_succ]
          refine wpAnyL_take 0 _ _ (i := 22) (oi := { dst := some 59, op := Op.binOp BinOp.leq 3 (Operand.tmp 57) (Operand.tmp 58) 3, type := 4, pos := "law.go:109", after := #[{ on := 20, ground := Ground.data }, { on := 21, ground := Ground.data }, { on := 19, ground := Ground.guard }], guard := some (19, false) }) (v := ?_) rfl (by kernel_rfl) (by kernel_rfl) (by kernel_rfl) (fun _ _ _ h => h) rfl (by kernel_rfl) (by kernel_rfl) (by kernel_rfl) (Or.inl ⟨by rfl, ?_⟩) hHeld (fun hHeld => ?_)
          rotate_left
          · intro w hSw
            (try dsimp only at hSw)
            go_simp
            try with_reducible rfl
          try simp only [Act.put, List.setIfInBounds_toArray, List.set_cons_zero, List.set_cons_succ]
          refine wpAnyL_take 0 _ _ (i := 23) (oi := { dst := some 60, op := Op.pick (Operand.tmp 56) (Operand.const (Value.bool true)) (Operand.tmp 59), type := 4, pos := "law.go:109", after := #[{ on := 19, ground := Ground.data }, { on := 22, ground := Ground.data }], guard := none }) (v := ?_) rfl (by kernel_rfl) (by kernel_rfl) (by kernel_rfl) (fun _ _ _ h => h) rfl (by kernel_rfl) (by kernel_rfl) (by kernel_rfl) (Or.inl ⟨by rfl, ?_⟩) hHeld (fun hHeld => ?_)
          rotate_left
          · intro w hSw
            (try dsimp only at hSw)
            go_simp
            try with_reducible rfl
          try simp only [Act.put, List.setIfInBounds_toArray, List.set_cons_zero, List.set_cons_succ]
          refine wpAnyL_done (by kernel_rfl) ?_ _
          go_wp2_with fail
          go_roundg G
          case measure => omega
          case rel =>
            obtain ⟨i', hi'⟩ : ∃ i', i' = i + 1 := ⟨_, rfl⟩
            have hbt : Below wA.heap.size wA w3 := (HB2.out.trans (HBD.out.mono HB2.out.size)).trans (HB3.out.mono (HB2.out.trans (HBD.out.mono HB2.out.size)).size)
            refine ⟨i', m, r1, by have := HG.out; omega, by rw [hi']; go_num, rfl, Lib.hid ⟨HO.out.2.2.2.2.1, HO.out.2.1, ?_, HBB.out.trans (hbt.mono HBB.out.size), by have := HO.out.2.2.2.1; have := HL.out; omega⟩⟩
            rw [hi']; exact HX.out.2.1.later hbt
        · obtain ⟨m', hm', hlt2, hle2, _⟩ := hO.ahead (Or.inr rfl)
          obtain rfl : m = m' := by omega
          have HO := Lib.hid (And.intro hO (And.intro hA2 (And.intro hlt2 (And.intro hle2 hr1))))
          have j1 : (fr : Int) < (m : Int) := by omega
          have j2 : ¬ (m : Int) ≤ (fr : Int) := by omega
          have j3 : decide ((m : Int) ≤ (fr : Int)) = false := by simpa using j2
          have j4 : decide (m ≤ fr) = false := by simp; omega
          have HX := Lib.hid hr3
          clear hO hA2 hm' hlt2 hle2 hA hx3 hr3 hfo hrl e0 e1 e2 e3 e4 him hr1 hc3 hm3 hn3
          go_wp2_with fail
          refine HNA.out.mono ?_
          rintro e w2 ⟨q5, c5, b5, k5, s5, a5, g5, n5, er5, rfl, hg1, hg2, hb2, hO5⟩
          obtain ⟨rfl, rfl, rfl, rfl, rfl, rfl, rfl⟩ := HO.out.1.uniq hO5
          obtain ⟨n6, hn6⟩ : ∃ n6, n6 = g5.len := ⟨_, rfl⟩
          rw [← hn6]
          have HB2 := Lib.hid hb2
          have HBX := Lib.hid (below1 w2 (.cells #[.bool b5, .int .u8 k5, .string s5, .int .i64 a5, .slice q5 n6 c5] 41))
          clear hg1 hg2 hb2 hO5 hn6
          simp only [trV]
          go_wp2_with fail
          go_quiet (fail)
          go_wp2_with fail
          go_roundg G
          case measure => omega
          case rel =>
            obtain ⟨i', hi'⟩ : ∃ i', i' = i + 1 := ⟨_, rfl⟩
            have hbt : Below wA.heap.size wA ((w2.alloc (.cells #[.bool b5, .int .u8 k5, .string s5, .int .i64 a5, .slice q5 n6 c5] 41)).drewN nq) := HB2.out.trans ((bdd HBX.out).mono HB2.out.size)
            refine ⟨i', m, r1, by have := HG.out; omega, by rw [hi']; go_num, rfl, Lib.hid ⟨HO.out.2.2.2.2, HO.out.2.1, ?_, HBB.out.trans (hbt.mono HBB.out.size), by have := HO.out.2.2.2.1; have := HL.out; omega⟩⟩
            rw [hi']; exact HX.out.later hbt
    · obtain rfl : i = N := by omega
      obtain rfl : gk = 0 := by have := HG.out; omega
      obtain rfl := fo_len_zero hrl
      rcases hA.nil_inv with ⟨hfl, rfl, rfl⟩ | ⟨b', k', s', a', g', m, him, hO, hne0, hne40, rfl⟩
      · obtain rfl : fr = n := by have := HL.out; omega
        clear hA hfo hrl hfl
        go_wp2_with fail
        refine HNA.out.mono ?_
        rintro e w2 ⟨q5, c5, b5, k5, s5, a5, g5, n5, er5, rfl, hg1, hg2, hb2, hO5⟩
        generalize g5.len = n6 at *
        have hbz := HBA.out.trans ((hb2.trans ((below1 w2 (.cells #[.bool b5, .int .u8 k5, .string s5, .int .i64 a5, .slice q5 n6 c5] 41)).mono hb2.size)).mono HBA.out.size)
        have HBZ := Lib.hid hbz
        clear hg1 hg2 hb2 hO5 hbz
        simp only [trV]
        go_wp2_with fail
        refine (HKN.out _ HBZ.out).mono ?_
        rintro e w3 ⟨rfl, hb3⟩
        have HB3 := Lib.hid (HBZ.out.trans (hb3.mono HBZ.out.size))
        clear hb3
        go_wp2_with fail
        go_ret
        exact ⟨rfl, HB3.out⟩
      · have hb0 : (er == 0) = false := by simpa using hne0
        have HO := Lib.hid hO
        clear hA hfo hrl hO him
        go_wp2_with fail
        refine HNA.out.mono ?_
        rintro e w2 ⟨q5, c5, b5, k5, s5, a5, g5, n5, er5, rfl, hg1, hg2, hb2, hO5⟩
        obtain ⟨rfl, rfl, rfl, rfl, rfl, rfl, rfl⟩ := HO.out.uniq hO5
        generalize g5.len = n6 at *
        have hbz := HBA.out.trans ((hb2.trans ((below1 w2 (.cells #[.bool b5, .int .u8 k5, .string s5, .int .i64 a5, .slice q5 n6 c5] 41)).mono hb2.size)).mono HBA.out.size)
        have HBZ := Lib.hid hbz
        clear hg1 hg2 hb2 hO5 hbz
        simp only [trV]
        go_wp2_with fail
        refine (HKN.out _ HBZ.out).mono ?_
        rintro e w3 ⟨rfl, hb3⟩
        have HB3 := Lib.hid (HBZ.out.trans (hb3.mono HBZ.out.size))
        clear hb3
        go_wp2_with fail
        go_ret
        exact ⟨rfl, HB3.out⟩
end Go.Proofs.YtlifankiljbdjaaDoor
