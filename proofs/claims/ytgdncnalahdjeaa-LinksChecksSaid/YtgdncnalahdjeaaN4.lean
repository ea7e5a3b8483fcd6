/- The reference's CopyLinks. -/
import Derived.Test.YtgdncnalahdjeaaN3
import Derived.Test.YtgdncnalahdjeaaL31
namespace Go.Proofs.Ytgdncnalahdjeaa
open Go Go.RowKit

/-- the same links, in memory of their own. -/
structure SameL (ld ld2 : LD) (c : Nat) : Prop where
  k : ∀ j, j < c → ld2.K j = ld.K j
  t : ∀ j, j < c → ld2.T j = ld.T j
  a : ∀ j, j < c → ld2.A j = ld.A j
  bb : ∀ j, j < c → ld2.B j = ld.B j
  i : ∀ j, j < c → ld2.I j = ld.I j
  jj : ∀ j, j < c → ld2.J j = ld.J j
  l : ∀ j, j < c → ld2.L j = ld.L j
  v : ∀ j, j < c → ∀ k, k < ld.L j → ld2.V j k = ld.V j k
structure RowC (W : World) (base : Nat) (v : Value) (ld ld2 : LD) (c : Nat) : Prop where
  own : W.ownsRow base 57 7 v c (flat7 ld2 c)
  same : SameL ld ld2 c
  part : ∀ t, t < c → PartIn W v (ld2.P t) (ld2.L t) (ld2.V t)
theorem RowC.later {W W' : World} {base : Nat} {v : Value} {ld ld2 : LD} {c : Nat} (h : RowC W base v ld ld2 c) (hb : Below W.heap.size W W') : RowC W' base v ld ld2 c :=
  ⟨own_later h.own hb, h.same, fun t ht => (h.part t ht).later hb⟩
theorem rowC_none (W : World) (base : Nat) (ld ld2 : LD) : RowC W base (.slice none 0 0) ld ld2 0 := by
  refine ⟨⟨rfl, .inl ⟨rfl, rfl⟩⟩, ?_, fun t ht => by omega⟩
  constructor <;> intro j hj <;> omega
theorem RowC.push {W W' : World} {base : Nat} {v v' : Value} {ld ld2 : LD} {c : Nat} (h : RowC W base v ld ld2 c) {P : Option Addr} {C : Nat} (hp : PartIn W v P (ld.L c) (ld.V c))
    (ho : W'.ownsRow base 57 7 v' (c + 1) (flat7 ld2 c ++ [.int .u8 (ld.K c), .int .i64 (ld.T c), .int .i64 (ld.A c), .int .i64 (ld.B c), .int .i64 (ld.I c), .int .i64 (ld.J c), .slice P (ld.L c) C])) (hg : W.grownBy W' v.ownBlock) (hv : v'.ownBlock = v.ownBlock ∨ v'.ownBlock = some W.heap.size) :
    RowC W' base v' ld (snoc ld2 c (ld.K c) (ld.T c) (ld.A c) (ld.B c) (ld.I c) (ld.J c) P (ld.L c) C (ld.V c)) (c + 1) := by
  refine ⟨by rw [flat7_snoc]; exact ho, ?_, ?_⟩
  · constructor <;> intro j hj <;> by_cases hc : j < c
    · simpa [snoc, hc] using h.same.k j hc
    · obtain rfl : j = c := by omega
      simp [snoc]
    · simpa [snoc, hc] using h.same.t j hc
    · obtain rfl : j = c := by omega
      simp [snoc]
    · simpa [snoc, hc] using h.same.a j hc
    · obtain rfl : j = c := by omega
      simp [snoc]
    · simpa [snoc, hc] using h.same.bb j hc
    · obtain rfl : j = c := by omega
      simp [snoc]
    · simpa [snoc, hc] using h.same.i j hc
    · obtain rfl : j = c := by omega
      simp [snoc]
    · simpa [snoc, hc] using h.same.jj j hc
    · obtain rfl : j = c := by omega
      simp [snoc]
    · simpa [snoc, hc] using h.same.l j hc
    · obtain rfl : j = c := by omega
      simp [snoc]
    · simpa [snoc, hc] using h.same.v j hc
    · obtain rfl : j = c := by omega
      simp [snoc]
  · intro t ht
    by_cases hc : t < c
    · have := (h.part t hc).grown hg hv
      simpa [snoc, hc] using this
    · obtain rfl : t = c := by omega
      have := hp.grown hg hv
      simpa [snoc] using this
theorem RowC.links {W : World} {base : Nat} {v : Value} {ld ld2 : LD} {c : Nat} (h : RowC W base v ld ld2 c) : ∃ (p : Option Addr) (k : Nat), v = .slice p c k ∧ LinksIn W p c ld2 :=
  own_links h.own (fun i hi => ⟨(h.part i hi).1, (h.part i hi).2.1⟩)
theorem own_empty3 (w : World) : (w.alloc (.cells #[] 3)).ownsRow w.heap.size 3 1 (.slice (some ⟨w.heap.size, 0, none⟩) 0 0) 0 [] := by
  simpa using World.ownsRow_made (e := 3) (size := 1) w #[] 0 (Nat.le_refl _) (by show 0 ≤ _; omega) rfl
/-- the box with another row of numbers. -/
theorem BoxAt.row {b : Nat} {K Tt A B I J : Int} {P : Option Addr} {L C : Nat} {W w5 : World} {P' : Option Addr} {L' C' : Nat} (h : BoxAt b K Tt A B I J P L C W) {row : Option Nat} (hg : W.grownBy w5 row) (hn : row ≠ some b) : BoxAt b K Tt A B I J P' L' C' (w5.setCell ⟨b, 6, none⟩ (.slice P' L' C')) := by
  have h5 := h.grown hg hn
  have far : ∀ o v, o ≠ 6 → w5.cell? ⟨b, o, none⟩ = some v → (w5.setCell ⟨b, 6, none⟩ (.slice P' L' C')).cell? ⟨b, o, none⟩ = some v := fun o v h1 h2 => by
    rw [World.cell?_setCell_other _ _ _ _ (by intro e; cases e; exact h1 rfl)]
    exact h2
  exact ⟨far 0 _ (by omega) h5.c0, far 1 _ (by omega) h5.c1, far 2 _ (by omega) h5.c2, far 3 _ (by omega) h5.c3, far 4 _ (by omega) h5.c4, far 5 _ (by omega) h5.c5, World.cell?_setCell_same _ _ _ h5.c6⟩
set_option maxRecDepth 100000 in
set_option maxHeartbeats 4000000 in
theorem copyLinks_any (s : Option Addr) (N cs : Nat) (ld : LD) (w : World) (hl : LinksIn w s N ld) (hN : N ≤ 300) (hLL : ∀ j, j < N → ld.L j ≤ 30) :
    Calls Try.prog 36 #[.slice s N cs] w fun e w' => (∃ s' cs' ld', e = .returned (.slice s' N cs') ∧ SameL ld ld' N ∧ LinksIn w' s' N ld') ∧ Below w.heap.size w w' := by
  obtain ⟨i7, hi7, hz70, hz71, hz72⟩ := info57
  obtain ⟨i3, hi3, hz30, hz31, hz32⟩ := info3'
  have HL := Lib.hid hl
  have HLL := Lib.hid hLL
  clear hl hLL
  go_enter Try.func36, Try.ntmps36
  go_wp2_with fail
  go_loopw [3, 4] (fun v i wr => ∃ (j : Nat) (u : Value) (ld2 : LD), j ≤ N ∧ v = u ∧ i = .int .i64 j ∧ Below w.heap.size w wr ∧ RowC wr w.heap.size u ld ld2 j) (fun _ i _ => N - (intOf i).toNat)
  case atStart => exact ⟨0, _, ld, by omega, rfl, rfl, Below.refl _ _, rowC_none _ _ _ _⟩
  case round =>
    obtain ⟨j, u, ld2, hj, rfl, rfl, hb, hr⟩ := hrel
    obtain ⟨wo, rfl⟩ : ∃ wo : World, wo = wr := ⟨_, rfl⟩
    have HB := Lib.hid hb
    have HR := Lib.hid hr
    clear hb hr
    by_cases hlt : j < N
    · have j0 : (0 : Int) ≤ (j : Int) := by omega
      have j1 : (j : Int) < (N : Int) := by omega
      have HIN := Lib.hid (HL.out.later HB.out)
      obtain ⟨b, off, rfl, hlk⟩ := HIN.out (by omega)
      have ck := hlk.k j hlt
      have ct := hlk.t j hlt
      have cA := hlk.a j hlt
      have cB := hlk.bb j hlt
      have ci := hlk.i j hlt
      have cj := hlk.j j hlt
      have cp := hlk.p j hlt
      have HV := Lib.hid (hlk.v j hlt)
      have HLLj := HLL.out j hlt
      clear hlk
      obtain ⟨P, hP⟩ : ∃ P, ld.P j = P := ⟨_, rfl⟩
      obtain ⟨C, hC⟩ : ∃ C, ld.C j = C := ⟨_, rfl⟩
      rw [hP, hC] at cp
      have HP := Lib.hid hP
      clear hP hC
      have HX1 := Lib.hid (BoxAt.new (K := ld.K j) (Tt := ld.T j) (A := ld.A j) (B := ld.B j) (I := ld.I j) (J := ld.J j) (P := P) (L := ld.L j) (C := C) wo)
      have hY := below1 wo (.cells #[.int .u8 (ld.K j), .int .i64 (ld.T j), .int .i64 (ld.A j), .int .i64 (ld.B j), .int .i64 (ld.I j), .int .i64 (ld.J j), .slice P (ld.L j) C] 57)
      have hY2 := chain hY (below1 (wo.alloc (.cells #[.int .u8 (ld.K j), .int .i64 (ld.T j), .int .i64 (ld.A j), .int .i64 (ld.B j), .int .i64 (ld.I j), .int .i64 (ld.J j), .slice P (ld.L j) C] 57)) (.cells #[] 3))
      have own0 := own_empty3 (wo.alloc (.cells #[.int .u8 (ld.K j), .int .i64 (ld.T j), .int .i64 (ld.A j), .int .i64 (ld.B j), .int .i64 (ld.I j), .int .i64 (ld.J j), .slice P (ld.L j) C] 57))
      rw [World.size_alloc] at own0
      have HO0 := Lib.hid own0
      have HX2 := Lib.hid (HX1.out.later (below1 (wo.alloc (.cells #[.int .u8 (ld.K j), .int .i64 (ld.T j), .int .i64 (ld.A j), .int .i64 (ld.B j), .int .i64 (ld.I j), .int .i64 (ld.J j), .slice P (ld.L j) C] 57)) (.cells #[] 3)))
      have y6 := HX2.out.c6
      have HY2 := Lib.hid hY2
      have x6 := HX1.out.c6
      have hz2 : ((wo.alloc (.cells #[.int .u8 (ld.K j), .int .i64 (ld.T j), .int .i64 (ld.A j), .int .i64 (ld.B j), .int .i64 (ld.I j), .int .i64 (ld.J j), .slice P (ld.L j) C] 57)).alloc (.cells #[] 3)).heap.size = wo.heap.size + 2 := by simp
      clear own0 hY hY2
      have HVL := Lib.hid (HV.out.1.later HY2.out)
      have hgu : ∀ g, u3.ownBlock = some g → w.heap.size ≤ g ∧ g < wo.heap.size := fun g hg => World.ownsRow.lt HR.out.own g hg
      have HGU := Lib.hid hgu
      clear hgu
      cases P with
      | some ad =>
        go_wp2_with (at_builtin; refine wpList_append_own_at _ rfl _ _ 55 rfl (wo.heap.size + 1) 3 i3 (.int .i64 0) 1 8 Try.underlying55 hi3 hz30 hz31 hz32 rfl (by omega) _ 0 [] rfl HO0.out ad (ld.L j) C ((rowL (ld.L j) (ld.V j)).map (Value.int .i64)) rfl (by simp [rowL]) ?qc2 ?qc3 ?qc4 ?qc5 ?qc6 ?_)
        case qc2 =>
          intro jj y hjj
          rw [List.getElem?_map] at hjj
          by_cases hjl : jj < ld.L j
          · obtain ⟨bv, ov, ev, gv⟩ := HVL.out (by omega)
            rw [HP.out] at ev
            cases ev
            rw [Lib.add_plain]
            rw [rowL_get _ _ jj hjl] at hjj
            cases hjj
            exact gv jj hjl
          · rw [List.getElem?_eq_none (by simp [rowL]; omega)] at hjj
            cases hjj
        case qc3 => intro y hy; obtain ⟨z, _, rfl⟩ := List.mem_map.mp hy; rfl
        case qc4 => have hml : maxLen = 9223372036854775807 := rfl; omega
        case qc5 => omega
        case qc6 => omega
        intro v5 w5 hown hgrow _ _
        have hg : ((wo.alloc (.cells #[.int .u8 (ld.K j), .int .i64 (ld.T j), .int .i64 (ld.A j), .int .i64 (ld.B j), .int .i64 (ld.I j), .int .i64 (ld.J j), .slice (some ad) (ld.L j) C] 57)).alloc (.cells #[] 3)).grownBy w5 (some (wo.heap.size + 1)) := hgrow
        clear hgrow
        obtain ⟨p5, c5, rfl, hs5⟩ := own_shape3 hown
        have hnY : (some (wo.heap.size + 1) : Option Nat) ≠ some wo.heap.size := fun e => by injection e with e; omega
        have f65 : w5.frozen? ⟨wo.heap.size, 6, none⟩ = false := by
          rw [grown_frozen hg HX2.out.lt hnY]
          simp [go_sem]
        have hX4 := HX2.out.grown hg hnY
        have y0 := hX4.c0
        have y1 := hX4.c1
        have y2 := hX4.c2
        have y3 := hX4.c3
        have y4 := hX4.c4
        have y5 := hX4.c5
        have y66 := hX4.c6
        clear hX4 y6 x6
        have hX5 := HX2.out.row (P' := p5) (L' := ld.L j) (C' := c5) hg hnY
        have z0 := hX5.c0
        have z1 := hX5.c1
        have z2 := hX5.c2
        have z3 := hX5.c3
        have z4 := hX5.c4
        have z5 := hX5.c5
        have z6 := hX5.c6
        clear hX5
        have HBT := Lib.hid (show Below wo.heap.size wo (w5.setCell ⟨wo.heap.size, 6, none⟩ (.slice p5 (ld.L j) c5)) from ((HY2.out.grown hg HY2.out.size (fun k hk => by cases hk; omega)).setCell (Nat.le_refl _) _))
        have hlits : LitsIn (w5.setCell ⟨wo.heap.size, 6, none⟩ (.slice p5 (ld.L j) c5)) p5 (ld.L j) (ld.V j) := own_lits3 (own_far hown (by show wo.heap.size < wo.heap.size + 1; omega) _)
        have hsep : ∀ ad, p5 = some ad → wo.heap.size + 1 ≤ ad.block ∧ ad.block < w5.heap.size := fun ad e => (hs5 ad e).2
        have hbA := below1 (w5.setCell ⟨wo.heap.size, 6, none⟩ (.slice p5 (ld.L j) c5)) (.cells #[.int .u8 (ld.K j), .int .i64 (ld.T j), .int .i64 (ld.A j), .int .i64 (ld.B j), .int .i64 (ld.I j), .int .i64 (ld.J j), .slice p5 (ld.L j) c5] 57)
        have HRA := Lib.hid ((HR.out.later HBT.out).later hbA)
        have HPA := Lib.hid (show PartIn ((w5.setCell ⟨wo.heap.size, 6, none⟩ (.slice p5 (ld.L j) c5)).alloc (.cells #[.int .u8 (ld.K j), .int .i64 (ld.T j), .int .i64 (ld.A j), .int .i64 (ld.B j), .int .i64 (ld.I j), .int .i64 (ld.J j), .slice p5 (ld.L j) c5] 57)) u3 p5 (ld.L j) (ld.V j) from ⟨hlits.later hbA, HV.out.2, fun ad e => by
          have h1 := hsep ad e
          refine ⟨fun e' => ?_, ?_⟩
          · have := (HGU.out _ e').2
            omega
          · have := hbA.size
            rw [World.size_setCell] at this
            omega⟩)
        have HNW := Lib.hid (BoxAt.new (K := ld.K j) (Tt := ld.T j) (A := ld.A j) (B := ld.B j) (I := ld.I j) (J := ld.J j) (P := p5) (L := ld.L j) (C := c5) (w5.setCell ⟨wo.heap.size, 6, none⟩ (.slice p5 (ld.L j) c5)))
        have HB6 := Lib.hid (chain HBT.out hbA)
        have HBS := Lib.hid (Nat.le_trans HB.out.size HB6.out.size)
        clear hlits hsep hbA hown hs5 hg hnY
        go_wp2_with (at_builtin; refine wpList_append_own_at _ rfl _ _ 48 rfl w.heap.size 57 i7 _ 7 72 Try.underlying48 hi7 hz70 hz71 hz72 rfl (by omega) _ j (flat7 ld2 j) rfl HRA.out.own ⟨w5.heap.size, 0, none⟩ 1 1 [.int .u8 (ld.K j), .int .i64 (ld.T j), .int .i64 (ld.A j), .int .i64 (ld.B j), .int .i64 (ld.I j), .int .i64 (ld.J j), .slice p5 (ld.L j) c5] rfl rfl ?qd2 box_one ?qd4 ?qd5 ?qd6 ?_)
        case qd2 => intro jj y hjj; have hq := HNW.out.get jj y hjj; rw [World.size_setCell] at hq; rw [Lib.add_plain, Nat.zero_add]; exact hq
        case qd4 => have hml : maxLen = 9223372036854775807 := rfl; omega
        case qd5 => omega
        case qd6 => first | exact HBS.out | (have hq := HBS.out; simp at hq ⊢; omega)
        intro v7 w7 hown7 hgrow7 _ hloc
        have HR7 := Lib.hid (HRA.out.push HPA.out hown7 hgrow7 (by simpa using hloc))
        have HB7 := Lib.hid ((chain HB.out HB6.out).grown hgrow7 HBS.out (fun k hk => (HGU.out k hk).1))
        clear hown7 hgrow7 hloc z0 z1 z2 z3 z4 z5 z6 y0 y1 y2 y3 y4 y5 y66
        go_wp2_with fail
        go_roundw
        case rel => exact ⟨j + 1, _, _, by omega, rfl, by go_num, HB7.out, HR7.out⟩
        case measure => simp [intOf]; omega
      | none =>
        have hL0 : ld.L j = 0 := by
          rcases Nat.eq_zero_or_pos (ld.L j) with h | h
          · exact h
          · obtain ⟨bv, ov, ev, gv⟩ := HVL.out h
            rw [HP.out] at ev
            cases ev
        rw [hL0] at cp
        clear y6 x6
        have h1 := below1 wo (.cells #[.int .u8 (ld.K j), .int .i64 (ld.T j), .int .i64 (ld.A j), .int .i64 (ld.B j), .int .i64 (ld.I j), .int .i64 (ld.J j), .slice (some ⟨wo.heap.size + 1, 0, none⟩) 0 0] 57)
        have h2 := below1 (wo.alloc (.cells #[.int .u8 (ld.K j), .int .i64 (ld.T j), .int .i64 (ld.A j), .int .i64 (ld.B j), .int .i64 (ld.I j), .int .i64 (ld.J j), .slice (some ⟨wo.heap.size + 1, 0, none⟩) 0 0] 57)) (.cells #[] 3)
        have h3 := below1 ((wo.alloc (.cells #[.int .u8 (ld.K j), .int .i64 (ld.T j), .int .i64 (ld.A j), .int .i64 (ld.B j), .int .i64 (ld.I j), .int .i64 (ld.J j), .slice (some ⟨wo.heap.size + 1, 0, none⟩) 0 0] 57)).alloc (.cells #[] 3)) (.cells #[.int .u8 (ld.K j), .int .i64 (ld.T j), .int .i64 (ld.A j), .int .i64 (ld.B j), .int .i64 (ld.I j), .int .i64 (ld.J j), .slice (some ⟨wo.heap.size + 1, 0, none⟩) 0 0] 57)
        have HB6 := Lib.hid (chain (chain h1 h2) h3)
        clear h1 h2 h3
        have HRA := Lib.hid (HR.out.later HB6.out)
        have HPA := Lib.hid (show PartIn (((wo.alloc (.cells #[.int .u8 (ld.K j), .int .i64 (ld.T j), .int .i64 (ld.A j), .int .i64 (ld.B j), .int .i64 (ld.I j), .int .i64 (ld.J j), .slice (some ⟨wo.heap.size + 1, 0, none⟩) 0 0] 57)).alloc (.cells #[] 3)).alloc (.cells #[.int .u8 (ld.K j), .int .i64 (ld.T j), .int .i64 (ld.A j), .int .i64 (ld.B j), .int .i64 (ld.I j), .int .i64 (ld.J j), .slice (some ⟨wo.heap.size + 1, 0, none⟩) 0 0] 57)) u3 (some ⟨wo.heap.size + 1, 0, none⟩) (ld.L j) (ld.V j) from ⟨fun h0 => by omega, HV.out.2, fun ad e => by
          cases e
          refine ⟨fun e' => ?_, ?_⟩
          · have := (HGU.out _ e').2
            simp at this
            omega
          · simp⟩)
        have HNW := Lib.hid (BoxAt.new (K := ld.K j) (Tt := ld.T j) (A := ld.A j) (B := ld.B j) (I := ld.I j) (J := ld.J j) (P := some ⟨wo.heap.size + 1, 0, none⟩) (L := 0) (C := 0) ((wo.alloc (.cells #[.int .u8 (ld.K j), .int .i64 (ld.T j), .int .i64 (ld.A j), .int .i64 (ld.B j), .int .i64 (ld.I j), .int .i64 (ld.J j), .slice (some ⟨wo.heap.size + 1, 0, none⟩) 0 0] 57)).alloc (.cells #[] 3)))
        have HBS := Lib.hid (Nat.le_trans HB.out.size HB6.out.size)
        go_wp2_with (at_builtin; refine wpList_append_own_at _ rfl _ _ 48 rfl w.heap.size 57 i7 _ 7 72 Try.underlying48 hi7 hz70 hz71 hz72 rfl (by omega) _ j (flat7 ld2 j) rfl HRA.out.own ⟨wo.heap.size + 1 + 1, 0, none⟩ 1 1 [.int .u8 (ld.K j), .int .i64 (ld.T j), .int .i64 (ld.A j), .int .i64 (ld.B j), .int .i64 (ld.I j), .int .i64 (ld.J j), .slice (some ⟨wo.heap.size + 1, 0, none⟩) 0 0] rfl rfl ?qd2 box_one ?qd4 ?qd5 ?qd6 ?_)
        case qd2 => intro jj y hjj; have hq := HNW.out.get jj y hjj; simp only [World.size_alloc] at hq; rw [Lib.add_plain, Nat.zero_add]; exact hq
        case qd4 => have hml : maxLen = 9223372036854775807 := rfl; omega
        case qd5 => omega
        case qd6 => first | exact HBS.out | (have hq := HBS.out; simp at hq ⊢; omega)
        intro v7 w7 hown7 hgrow7 _ hloc
        have hown8 : w7.ownsRow w.heap.size 57 7 v7 (j + 1) (flat7 ld2 j ++ [.int .u8 (ld.K j), .int .i64 (ld.T j), .int .i64 (ld.A j), .int .i64 (ld.B j), .int .i64 (ld.I j), .int .i64 (ld.J j), .slice (some ⟨wo.heap.size + 1, 0, none⟩) (ld.L j) 0]) := by rw [hL0]; exact hown7
        have HR7 := Lib.hid (HRA.out.push HPA.out hown8 hgrow7 (by simpa using hloc))
        have HB7 := Lib.hid ((chain HB.out HB6.out).grown hgrow7 HBS.out (fun k hk => (HGU.out k hk).1))
        clear hown7 hown8 hgrow7 hloc
        go_wp2_with fail
        go_roundw
        case rel => exact ⟨j + 1, _, _, by omega, rfl, by go_num, HB7.out, HR7.out⟩
        case measure => simp [intOf]; omega
    · obtain rfl : j = N := by omega
      obtain ⟨p9, c9, rfl, hlk⟩ := HR.out.links
      have HS := Lib.hid HR.out.same
      have HK := Lib.hid hlk
      clear hlk
      go_wp2_with fail
      go_ret
      exact ⟨⟨p9, c9, ld2, rfl, HS.out, HK.out⟩, HB.out⟩
end Go.Proofs.Ytgdncnalahdjeaa
