/- LinksDouble: the law's walk. -/
import Derived.Test.YtgdncnalahdjeaaL31
import Derived.Test.YtgdncnalahdjeaaL25
namespace Go.Proofs.Ytgdncnalahdjeaa
open Go Go.RowKit

theorem largeB_l {n : Nat} {d : VD} {m N : Nat} {ld : LD} (h : largeB n d m N ld = false) : ∀ i, i < N → ld.L i ≤ 30 := by
  unfold largeB at h
  simp only [Bool.or_eq_false_iff] at h
  intro i hi
  cases hx : decide (30 < ld.L i) with
  | false => simpa using hx
  | true =>
    have h5 := h.2
    rw [anyB_yes (f := fun i => decide (30 < ld.L i)) i hi hx] at h5
    cases h5
theorem cnt_zero (N : Nat) : cnt N 0 = 0 := by unfold cnt; split <;> omega
theorem cnt_lt {N j : Nat} (h : j < N) : cnt N j = 2 * j := by simp [cnt, h]
theorem cnt_last {N j : Nat} (h : j + 1 = N) : cnt N (j + 1) = 2 * j + 1 := by unfold cnt; rw [if_neg (by omega)]; omega
theorem cnt_all (N : Nat) : cnt N N = 2 * N - 1 := by simp [cnt]
theorem row_none (W : World) (base : Nat) (ld ld2 : LD) : RowAt W base (.slice none 0 0) ld ld2 0 :=
  ⟨⟨rfl, .inl ⟨rfl, rfl⟩⟩, by constructor <;> intro j hj <;> omega, fun t ht => by omega⟩
set_option maxRecDepth 100000 in
set_option maxHeartbeats 1000000 in
theorem double_any (n : Nat) (d : VD) (m : Nat) (a : AD) (ld : LD) (N : Nat) (p : Option Addr) (cv : Nat) (q : Option Addr) (ca : Nat) (s : Option Addr) (cs : Nat) (w : World) (hd : VertsIn w p n d) (ha : AtomsIn w q m a) (hl : LinksIn w s N ld) (hn : n ≤ 9223372036854775807) (hm : m ≤ 9223372036854775807) (hN : N ≤ 9223372036854775807) (hT : ∀ i, i < N → -9223372036854775808 ≤ ld.T i ∧ ld.T i ≤ 9223372036854775807) :
    Calls Try.prog 16 #[.slice p n cv, .slice q m ca, .slice s N cs] w fun e w' => e = .returned (.bool true) ∧ Below w.heap.size w w' := by
  obtain ⟨i3, hi3, hz30, hz31, hz32⟩ := info3'
  obtain ⟨i7, hi7, hz70, hz71, hz72⟩ := info57
  have HK := Lib.hid (fun W => known_any W)
  have H1 := large_any n d m N ld p cv q ca s cs w hd hl hn hm hN
  have HD := Lib.hid hd
  have HA := Lib.hid ha
  have HL := Lib.hid hl
  have HT := Lib.hid hT
  clear hd ha hl hT
  obtain ⟨lb, hlb⟩ : ∃ lb, largeB n d m N ld = lb := ⟨_, rfl⟩
  rw [hlb] at H1
  go_enter Try.func16, Try.ntmps16
  go_wp2_with fail
  refine H1.mono ?_
  rintro e w1 ⟨rfl, hb1⟩
  have HB1 := Lib.hid hb1
  clear hb1 H1
  have key : lb = true ∨ (lb = false ∧ 150 < N) ∨ (lb = false ∧ ¬ 150 < N) := by cases lb <;> simp <;> omega
  rcases key with rfl | ⟨rfl, g1⟩ | ⟨rfl, g1⟩
  · clear hlb
    go_wp2_with fail
    refine (HK.out _).mono ?_
    rintro e w2 ⟨rfl, hb2⟩
    have HBK := Lib.hid (chain HB1.out hb2)
    clear hb2
    go_wp2_with fail
    go_ret
    exact ⟨rfl, HBK.out⟩
  · clear hlb
    have u1 : (150 : Int) < (N : Int) := by omega
    go_wp2_with fail
    refine (HK.out _).mono ?_
    rintro e w2 ⟨rfl, hb2⟩
    have HBK := Lib.hid (chain HB1.out hb2)
    clear hb2
    go_wp2_with fail
    go_ret
    exact ⟨rfl, HBK.out⟩
  have hsz := largeB_no hlb
  have HLL := Lib.hid (largeB_l hlb)
  clear hlb
  have u1 : ¬ (150 : Int) < (N : Int) := by omega
  obtain ⟨k, Z, er, hk5, hC1, hC2⟩ := check_fixed n d m a ld N hn (by omega) (by omega) HT.out
  have H2 := hC1 p cv q ca s cs w1 (HD.out.later HB1.out) (HA.out.later HB1.out) (HL.out.later HB1.out)
  have HC2 := Lib.hid hC2
  clear hC1 hC2
  go_wp2_with fail
  refine H2.mono ?_
  rintro e w2 ⟨⟨r1, c1, rfl, hL1⟩, hb2⟩
  have HB2 := Lib.hid (chain HB1.out hb2)
  have HL1 := Lib.hid hL1
  clear hb2 hL1 H2 HB1
  go_wp2_with fail
  go_loopw [9, 36] (fun v i wr => ∃ (j : Nat) (u : Value) (ld2 : LD), j ≤ N ∧ v = u ∧ i = .int .i64 j ∧ Below w2.heap.size w2 wr ∧ RowAt wr w2.heap.size u ld ld2 (cnt N j)) (fun _ i _ => N - (intOf i).toNat)
  case atStart => exact ⟨0, _, ld, by omega, rfl, rfl, Below.refl _ _, by rw [cnt_zero]; exact row_none _ _ _ _⟩
  case round =>
    obtain ⟨j, u, ld2, hj, rfl, rfl, hb, hr⟩ := hrel
    obtain ⟨wo, rfl⟩ : ∃ wo : World, wo = wr := ⟨_, rfl⟩
    have HB := Lib.hid hb
    have HR := Lib.hid hr
    clear hb hr
    by_cases hlt : j < N
    · have j0 : (0 : Int) ≤ (j : Int) := by omega
      have j1 : (j : Int) < (N : Int) := by omega
      have HIN := Lib.hid (HL.out.later (chain HB2.out HB.out))
      obtain ⟨b, off, rfl, hlk⟩ := HIN.out (by omega)
      have ck := hlk.k j hlt
      have ct := hlk.t j hlt
      have cA := hlk.a j hlt
      have cB := hlk.bb j hlt
      have ci := hlk.i j hlt
      have cj := hlk.j j hlt
      have cp := hlk.p j hlt
      have HV := Lib.hid (hlk.v j hlt)
      have HLLj := HLL.out j hlt
      clear hlk
      have keyI : 1000 < ld.I j ∨ (¬ 1000 < ld.I j ∧ ld.I j < -1000) ∨ (¬ 1000 < ld.I j ∧ ¬ ld.I j < -1000 ∧ 1000 < ld.J j) ∨ (¬ 1000 < ld.I j ∧ ¬ ld.I j < -1000 ∧ ¬ 1000 < ld.J j ∧ ld.J j < -1000) ∨ (¬ 1000 < ld.I j ∧ ¬ ld.I j < -1000 ∧ ¬ 1000 < ld.J j ∧ ¬ ld.J j < -1000) := by omega
      rcases keyI with g2 | ⟨g2, g3⟩ | ⟨g2, g3, g4⟩ | ⟨g2, g3, g4, g5⟩ | ⟨g2, g3, g4, g5⟩
      · go_wp2_with fail
        refine (HK.out _).mono ?_
        rintro e wk ⟨rfl, hbk⟩
        have HBK := Lib.hid (chain (chain (chain HB2.out HB.out) (below1 wo _)) hbk)
        clear hbk
        go_wp2_with fail
        go_ret
        exact ⟨rfl, HBK.out⟩
      · go_wp2_with fail
        refine (HK.out _).mono ?_
        rintro e wk ⟨rfl, hbk⟩
        have HBK := Lib.hid (chain (chain (chain HB2.out HB.out) (below1 wo _)) hbk)
        clear hbk
        go_wp2_with fail
        go_ret
        exact ⟨rfl, HBK.out⟩
      · go_wp2_with fail
        refine (HK.out _).mono ?_
        rintro e wk ⟨rfl, hbk⟩
        have HBK := Lib.hid (chain (chain (chain HB2.out HB.out) (below1 wo _)) hbk)
        clear hbk
        go_wp2_with fail
        go_ret
        exact ⟨rfl, HBK.out⟩
      · go_wp2_with fail
        refine (HK.out _).mono ?_
        rintro e wk ⟨rfl, hbk⟩
        have HBK := Lib.hid (chain (chain (chain HB2.out HB.out) (below1 wo _)) hbk)
        clear hbk
        go_wp2_with fail
        go_ret
        exact ⟨rfl, HBK.out⟩
      have HG := Lib.hid (And.intro g2 (And.intro g3 (And.intro g4 g5)))
      have g20 : ld.I j ≤ 1000 := by omega
      have g30 : -1000 ≤ ld.I j := by omega
      have g40 : ld.J j ≤ 1000 := by omega
      have g50 : -1000 ≤ ld.J j := by omega
      clear g2 g3 g4 g5
      have HCN := Lib.hid (copy_new wo (ld.K j) (ld.T j) (ld.A j) (ld.B j) (2 * ld.I j) (2 * ld.J j) (fun t => 2 * ld.V j t))
      have HY := Lib.hid (below1 wo (.cells #[.int .u8 (ld.K j), .int .i64 (ld.T j), .int .i64 (ld.A j), .int .i64 (ld.B j), .int .i64 (2 * ld.I j), .int .i64 (2 * ld.J j), .slice none 0 0] 57))
      have cp2 := cell_later (below1 wo (.cells #[.int .u8 (ld.K j), .int .i64 (ld.T j), .int .i64 (ld.A j), .int .i64 (ld.B j), .int .i64 (2 * ld.I j), .int .i64 (2 * ld.J j), .slice none 0 0] 57)) cp
      go_wp2_with fail
      go_loopw [77] (fun i wi => ∃ t : Nat, t ≤ ld.L j ∧ i = .int .i64 t ∧ Below wo.heap.size wo wi ∧ CopyAt wi wo.heap.size (wo.heap.size + 1) (ld.K j) (ld.T j) (ld.A j) (ld.B j) (2 * ld.I j) (2 * ld.J j) (fun t => 2 * ld.V j t) t) (fun i _ => ld.L j - (intOf i).toNat)
      case atStart => exact ⟨0, by omega, rfl, HY.out, HCN.out⟩
      case round =>
        clear HCN HY ck ct cA cB ci cj cp cp2
        obtain ⟨t, ht, rfl, hbi, hcp⟩ := hrel
        have HBi := Lib.hid hbi
        have HC := Lib.hid hcp
        clear hbi hcp
        by_cases hlt2 : t < ld.L j
        · have l0 : (0 : Int) ≤ (t : Int) := by omega
          have l1 : (t : Int) < (ld.L j : Int) := by omega
          have HBw := Lib.hid (chain (chain HB2.out HB.out) HBi.out)
          obtain ⟨b', off', e', hlk⟩ := HL.out.later HBw.out (by omega)
          cases e'
          have cp := hlk.p j hlt
          clear hlk
          obtain ⟨bv, ov, ev, gv⟩ := (HV.out.1.later HBi.out) (by omega)
          rw [ev] at cp
          have cv := gv t hlt2
          clear gv
          obtain ⟨x, hx⟩ : ∃ x, ld.V j t = x := ⟨_, rfl⟩
          rw [hx] at cv
          have keyx : 1000 < x ∨ (¬ 1000 < x ∧ x < -1000) ∨ (¬ 1000 < x ∧ ¬ x < -1000) := by omega
          have HX := Lib.hid hx
          have HEV := Lib.hid ev
          clear hx ev
          rcases keyx with q2 | ⟨q2, q3⟩ | ⟨q2, q3⟩
          · go_wp2_with fail
            refine (HK.out _).mono ?_
            rintro e wk ⟨rfl, hbk⟩
            have HBK := Lib.hid (chain HBw.out hbk)
            clear hbk
            go_wp2_with fail
            go_ret
            exact ⟨rfl, HBK.out⟩
          · go_wp2_with fail
            refine (HK.out _).mono ?_
            rintro e wk ⟨rfl, hbk⟩
            have HBK := Lib.hid (chain HBw.out hbk)
            clear hbk
            go_wp2_with fail
            go_ret
            exact ⟨rfl, HBK.out⟩
          · have q20 : x ≤ 1000 := by omega
            have q30 : -1000 ≤ x := by omega
            clear q2 q3
            obtain ⟨p6, c6, h6, o6⟩ := HC.out.c6
            have hbA := below1 wr (.cells #[.int .i64 (2 * x)] 3)
            have h6A := cell_later hbA h6
            have HOA := Lib.hid (own_later o6 hbA)
            have HCA := Lib.hid (HC.out.later hbA)
            have HB6 := Lib.hid (chain HBi.out hbA)
            clear o6 hbA
            go_wp2_with (at_builtin; refine wpList_append_own_at _ rfl _ _ 55 rfl (wo.heap.size + 1) 3 i3 (.int .i64 0) 1 8 Try.underlying55 hi3 hz30 hz31 hz32 rfl (by omega) _ t ((rowL t (fun t => 2 * ld.V j t)).map (Value.int .i64)) rfl HOA.out ⟨wr.heap.size, 0, none⟩ 1 1 [.int .i64 (2 * x)] rfl rfl ?qc2 ?qc3 ?qc4 ?qc5 ?qc6 ?_)
            case qc2 =>
              intro jj y hjj
              rw [Lib.add_plain]
              match jj, hjj with
              | 0, hjj => cases hjj; simp [go_sem]
            case qc3 => intro y hy; simp at hy; rcases hy with rfl; rfl
            case qc4 => have hml : maxLen = 9223372036854775807 := rfl; omega
            case qc5 => omega
            case qc6 => have := HB6.out.size; have := HCA.out.blt; simp at *; omega
            intro v5 w5 hown hgrow _ _
            have hnY : (Value.slice p6 t c6).ownBlock ≠ some wo.heap.size := fun e => by
              have := (World.ownsRow.lt HOA.out _ e).1
              omega
            have h65 := grown_cell hgrow h6A hnY
            have f65 : w5.frozen? ⟨wo.heap.size, 6, none⟩ = false := by
              rw [grown_frozen hgrow HCA.out.blt hnY]
              exact HCA.out.f6
            have HST := Lib.hid (HCA.out.step h6A hown (by rw [← HX.out]) hgrow)
            have HBT := Lib.hid (show Below wo.heap.size wo (w5.setCell ⟨wo.heap.size, 6, none⟩ v5) from (HB6.out.grown hgrow HB6.out.size (fun k hk => by have := (World.ownsRow.lt HOA.out k hk).1; omega)).setCell (Nat.le_refl _) v5)
            obtain ⟨p5, c5, e5, _⟩ := own_shape3 hown
            subst e5
            clear hown hgrow hnY h6A h6
            go_wp2_with fail
            go_roundw
            case rel => exact ⟨t + 1, by omega, by go_num, HBT.out, HST.out⟩
            case measure => simp [intOf]; omega
        · obtain rfl : t = ld.L j := by omega
          obtain ⟨p6, c6, hbox, hlits, hsep⟩ := HC.out.box
          have z0 := hbox.c0
          have z1 := hbox.c1
          have z2 := hbox.c2
          have z3 := hbox.c3
          have z4 := hbox.c4
          have z5 := hbox.c5
          have z6 := hbox.c6
          have hR0 := HR.out
          rw [cnt_lt hlt] at hR0
          have hbA := below1 wr (.cells #[.int .u8 (ld.K j), .int .i64 (ld.T j), .int .i64 (ld.A j), .int .i64 (ld.B j), .int .i64 (2 * ld.I j), .int .i64 (2 * ld.J j), .slice p6 (ld.L j) c6] 57)
          have HRA := Lib.hid ((hR0.later HBi.out).later hbA)
          have hgu : ∀ g, u9.ownBlock = some g → w2.heap.size ≤ g ∧ g < wo.heap.size := fun g hg => World.ownsRow.lt hR0.own g hg
          have hYlt := HC.out.blt
          have HPA := Lib.hid (show PartIn (wr.alloc (.cells #[.int .u8 (ld.K j), .int .i64 (ld.T j), .int .i64 (ld.A j), .int .i64 (ld.B j), .int .i64 (2 * ld.I j), .int .i64 (2 * ld.J j), .slice p6 (ld.L j) c6] 57)) u9 p6 (ld.L j) (fun t => 2 * ld.V j t) from ⟨hlits.later hbA, HV.out.2, fun ad e => by
            have := hsep ad e
            refine ⟨fun e' => ?_, ?_⟩
            · have := hgu _ e'
              omega
            · have := hbA.size
              omega⟩)
          have HXA := Lib.hid (hbox.later hbA)
          have HNW := Lib.hid (BoxAt.new (K := ld.K j) (Tt := ld.T j) (A := ld.A j) (B := ld.B j) (I := 2 * ld.I j) (J := 2 * ld.J j) (P := p6) (L := ld.L j) (C := c6) wr)
          have HB6 := Lib.hid (chain HBi.out hbA)
          have HGU := Lib.hid hgu
          have hbase : w2.heap.size ≤ (wr.alloc (.cells #[.int .u8 (ld.K j), .int .i64 (ld.T j), .int .i64 (ld.A j), .int .i64 (ld.B j), .int .i64 (2 * ld.I j), .int .i64 (2 * ld.J j), .slice p6 (ld.L j) c6] 57)).heap.size := Nat.le_trans HB.out.size HB6.out.size
          have HBS := Lib.hid hbase
          clear hbox hlits hsep hR0 hgu hbA hbase
          by_cases hlast : j + 1 < N
          · have n1 : decide ((j : Int) + 1 < (N : Int)) = true := decide_eq_true (by omega)
            have n2 : (j : Int) + 1 < (N : Int) := by omega
            go_wp2_with (at_builtin; refine wpList_append_own_at _ rfl _ _ 48 rfl w2.heap.size 57 i7 _ 7 72 Try.underlying48 hi7 hz70 hz71 hz72 rfl (by omega) _ (2 * j) (flat7 ld2 (2 * j)) rfl HRA.out.own ⟨wr.heap.size, 0, none⟩ 1 1 [.int .u8 (ld.K j), .int .i64 (ld.T j), .int .i64 (ld.A j), .int .i64 (ld.B j), .int .i64 (2 * ld.I j), .int .i64 (2 * ld.J j), .slice p6 (ld.L j) c6] rfl rfl ?qd2 box_one ?qd4 ?qd5 ?qd6 ?_)
            case qd2 => intro jj y hjj; rw [Lib.add_plain, Nat.zero_add]; exact HNW.out.get jj y hjj
            case qd4 => have hml : maxLen = 9223372036854775807 := rfl; omega
            case qd5 => omega
            case qd6 => exact HBS.out
            intro v5 w5 hown hgrow _ hloc
            obtain ⟨ld3, hR5, hP5⟩ := HRA.out.push j (by omega) HPA.out (fun _ _ => rfl) hown hgrow (by simpa using hloc)
            have HR5 := Lib.hid hR5
            have HP5 := Lib.hid hP5
            have HB5 := Lib.hid ((chain HB.out HB6.out).grown hgrow HBS.out (fun k hk => (HGU.out k hk).1))
            have hX5 := HXA.out.grown hgrow (fun e => by have := (HGU.out _ e).2; omega)
            clear hR5 hP5 hown hgrow hloc z0 z1 z2 z3 z4 z5 z6
            have z0 := hX5.c0
            have z1 := hX5.c1
            have z2 := hX5.c2
            have z3 := hX5.c3
            have z4 := hX5.c4
            have z5 := hX5.c5
            have z6 := hX5.c6
            have hbC := below1 w5 (.cells #[.int .u8 (ld.K j), .int .i64 (ld.T j), .int .i64 (ld.A j), .int .i64 (ld.B j), .int .i64 (2 * ld.I j), .int .i64 (2 * ld.J j), .slice p6 (ld.L j) c6] 57)
            have HRC := Lib.hid (HR5.out.later hbC)
            have HPC := Lib.hid (HP5.out.later hbC)
            have HNW2 := Lib.hid (BoxAt.new (K := ld.K j) (Tt := ld.T j) (A := ld.A j) (B := ld.B j) (I := 2 * ld.I j) (J := 2 * ld.J j) (P := p6) (L := ld.L j) (C := c6) w5)
            have HB7 := Lib.hid (chain HB5.out hbC)
            have HBS2 := Lib.hid (show w2.heap.size ≤ (w5.alloc (.cells #[.int .u8 (ld.K j), .int .i64 (ld.T j), .int .i64 (ld.A j), .int .i64 (ld.B j), .int .i64 (2 * ld.I j), .int .i64 (2 * ld.J j), .slice p6 (ld.L j) c6] 57)).heap.size from HB7.out.size)
            clear hbC hX5
            go_wp2_with (at_builtin; refine wpList_append_own_at _ rfl _ _ 48 rfl w2.heap.size 57 i7 _ 7 72 Try.underlying48 hi7 hz70 hz71 hz72 rfl (by omega) _ (2 * j + 1) (flat7 ld3 (2 * j + 1)) rfl HRC.out.own ⟨w5.heap.size, 0, none⟩ 1 1 [.int .u8 (ld.K j), .int .i64 (ld.T j), .int .i64 (ld.A j), .int .i64 (ld.B j), .int .i64 (2 * ld.I j), .int .i64 (2 * ld.J j), .slice p6 (ld.L j) c6] rfl rfl ?qe2 box_one ?qe4 ?qe5 ?qe6 ?_)
            case qe2 => intro jj y hjj; rw [Lib.add_plain, Nat.zero_add]; exact HNW2.out.get jj y hjj
            case qe4 => have hml : maxLen = 9223372036854775807 := rfl; omega
            case qe5 => omega
            case qe6 => exact HBS2.out
            intro v7 w7 hown hgrow _ hloc
            obtain ⟨ld4, hR7, _⟩ := HRC.out.push j (by omega) HPC.out (fun _ _ => rfl) hown hgrow (by simpa using hloc)
            have HR7 := Lib.hid hR7
            have HB8 := Lib.hid (HB7.out.grown hgrow HBS2.out (fun k hk => (World.ownsRow.lt HRC.out.own k hk).1))
            clear hR7 hown hgrow hloc z0 z1 z2 z3 z4 z5 z6
            go_wp2_with fail
            go_roundw
            case rel => exact ⟨j + 1, _, ld4, by omega, rfl, by go_num, HB8.out, by rw [cnt_lt hlast, show 2 * (j + 1) = 2 * j + 1 + 1 by omega]; exact HR7.out⟩
            case measure => simp [intOf]; omega
          · have n1 : decide ((j : Int) + 1 < (N : Int)) = false := decide_eq_false (by omega)
            have n2 : ¬ (j : Int) + 1 < (N : Int) := by omega
            go_wp2_with (at_builtin; refine wpList_append_own_at _ rfl _ _ 48 rfl w2.heap.size 57 i7 _ 7 72 Try.underlying48 hi7 hz70 hz71 hz72 rfl (by omega) _ (2 * j) (flat7 ld2 (2 * j)) rfl HRA.out.own ⟨wr.heap.size, 0, none⟩ 1 1 [.int .u8 (ld.K j), .int .i64 (ld.T j), .int .i64 (ld.A j), .int .i64 (ld.B j), .int .i64 (2 * ld.I j), .int .i64 (2 * ld.J j), .slice p6 (ld.L j) c6] rfl rfl ?qf2 box_one ?qf4 ?qf5 ?qf6 ?_)
            try (case qf2 => intro jj y hjj; rw [Lib.add_plain, Nat.zero_add]; exact HNW.out.get jj y hjj)
            case qf4 => have hml : maxLen = 9223372036854775807 := rfl; omega
            case qf5 => omega
            case qf6 => first | exact HBS.out | (have hq := HBS.out; rw [World.size_alloc] at hq; exact hq)
            intro v5 w5 hown hgrow _ hloc
            obtain ⟨ld3, hR5, hP5⟩ := HRA.out.push j (by omega) HPA.out (fun _ _ => rfl) hown hgrow (by simpa using hloc)
            have HR5 := Lib.hid hR5
            have HP5 := Lib.hid hP5
            have HB5 := Lib.hid ((chain HB.out HB6.out).grown hgrow HBS.out (fun k hk => (HGU.out k hk).1))
            have hX5 := HXA.out.grown hgrow (fun e => by have := (HGU.out _ e).2; omega)
            clear hR5 hP5 hown hgrow hloc z0 z1 z2 z3 z4 z5 z6
            clear hX5
            go_wp2_with fail
            go_roundw
            case rel => exact ⟨j + 1, _, ld3, by omega, rfl, by go_num, HB5.out, by rw [cnt_last (by omega)]; exact HR5.out⟩
            case measure => simp [intOf]; omega
    · obtain rfl : j = N := by omega
      have hR0 := HR.out
      rw [cnt_all] at hR0
      obtain ⟨pm, cm, hvm, hlm⟩ := hR0.links
      subst hvm
      have HBw := Lib.hid (chain HB2.out HB.out)
      have H3 := HC2.out ld2 (2 * j - 1) rfl hR0.two p cv q ca pm cm wo (HD.out.later HBw.out) (HA.out.later HBw.out) hlm
      have HL2 := Lib.hid (HL1.out.later HB.out)
      clear hR0 hlm
      have e1 : (er != er) = false := by simp
      have e2 : ((k : Int) != (k : Int)) = false := by simp
      go_wp2_with fail
      refine H3.mono ?_
      rintro e w5 ⟨⟨r5, c5, rfl, hL5⟩, hb5⟩
      have HB5 := Lib.hid (chain HBw.out hb5)
      have HL5 := Lib.hid hL5
      have HL6 := Lib.hid (HL2.out.later hb5)
      clear hL5 hb5 H3
      go_wp2_with fail
      go_loopw [136] (fun i wr => ∃ t : Nat, t ≤ k ∧ i = .int .i64 t ∧ Below w5.heap.size w5 wr) (fun i _ => k - (intOf i).toNat)
      case atStart => exact ⟨0, by omega, rfl, Below.refl _ _⟩
      case round =>
        obtain ⟨t, ht, rfl, hb⟩ := hrel
        have HBr := Lib.hid hb
        clear hb
        by_cases hlt : t < k
        · have hj0 : (0 : Int) ≤ (t : Int) := by omega
          have hj1 : (t : Int) < (k : Int) := by omega
          obtain ⟨b1, o1, rfl, g1⟩ := (HL6.out.later HBr.out) (by omega)
          obtain ⟨b2, o2, rfl, g2⟩ := (HL5.out.later HBr.out) (by omega)
          have x1 := g1 t hlt
          have x2 := g2 t hlt
          clear g1 g2
          generalize Z t = zj at *
          have u9 : (zj != zj) = false := by simp
          have hbz := HBr.out
          go_wp2_with fail
          go_quiet (fail)
          go_wp2_with fail
          go_roundw
          case rel => exact ⟨t + 1, by omega, by go_num, hbz.trans (below_drewN _ _ |>.mono hbz.size)⟩
          case measure => simp [intOf]; omega
        · obtain rfl : t = k := by omega
          have HBs := Lib.hid (chain HB5.out HBr.out)
          go_wp2_with fail
          refine (HK.out _).mono ?_
          rintro e w2 ⟨rfl, hb2⟩
          have HBK := Lib.hid (chain HBs.out hb2)
          clear hb2
          go_wp2_with fail
          go_ret
          exact ⟨rfl, HBK.out⟩
end Go.Proofs.Ytgdncnalahdjeaa
