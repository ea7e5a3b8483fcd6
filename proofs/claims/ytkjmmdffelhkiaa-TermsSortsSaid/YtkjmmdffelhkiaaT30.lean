/- TermsSorts: its walk. -/
import Derived.Test.YtkjmmdffelhkiaaT29
import Derived.Test.YtkjmmdffelhkiaaT27
namespace Go.Proofs.Ytkjmmdffelhkiaa
open Go Go.RowKit Go.Maps

variable {W W' : World} {K K' : Nat → Nat} {base c r : Nat} {T : Sto} {N : List Nd} {e : Ending} {w' : World}
theorem MadeP.sorts {o : OpV} (h : Two W K base c r T N) (hs : SortsOk T.nodes) (hm : MadeP T o base c r K W e w') :
    ∃ K' T' N' t er, e = .returned (.tuple #[.int .i64 t, .int .i64 er, .bool true]) ∧ Two w' K' base c r T' N' ∧ StepZ W w' K K' ∧ SortsOk T'.nodes := by
  obtain ⟨K', T', N', t, er, he, ht, hz, ha⟩ := hm
  exact ⟨K', T', N', t, er, he, ht, hz, ha.sorts hs ht.g.goodN⟩
/-- what the walk keeps of the nodes that were read. -/
def Reads (N : List Nd) (V : Nat → Int) (zs : List Nd) : Prop := ∀ (j : Nat) (y : Nd), zs[j]? = some y → y.q = qL N (V j) ∧ y.s = stL N (V j)
theorem Reads.snoc {N : List Nd} {V : Nat → Int} {zs : List Nd} {y : Nd} (h : Reads N V zs) (h1 : y.q = qL N (V zs.length)) (h2 : y.s = stL N (V zs.length)) : Reads N V (zs ++ [y]) := fun j z hz => by
  rcases nodes_snoc hz with hz | ⟨rfl, rfl⟩
  · exact h j z hz
  · exact ⟨h1, h2⟩
theorem own_nd {w : World} {b n z : Nat} {p : Option Addr} {zs : List Nd} (h : w.ownsRow b 89 5 (.slice p n z) n (flatN zs)) {i : Nat} {x : Nd} (hi : zs[i]? = some x) : ∃ g, p = some ⟨g, 0, none⟩ ∧ w.cell? ⟨g, i * 5, none⟩ = some (.int .u8 x.q) ∧ w.cell? ⟨g, i * 5 + 3, none⟩ = some (.int .i64 x.s) := by
  have hn : 0 < n := by
    have h0 := h.1
    rw [flatN_len] at h0
    have := (List.getElem?_eq_some_iff.1 hi).1
    omega
  obtain ⟨g, c, e⟩ := own_some h hn
  cases e
  obtain ⟨g', c', e, _, hc⟩ := own_cells h (by simp)
  cases e
  have hg := flatN_get zs i x hi
  exact ⟨g, rfl, hc _ _ hg.1, hc _ _ hg.2.2.2.1⟩
theorem ndV_one (x : Nd) : ∀ u ∈ ndV x, u.oneCell' = true := by
  intro u hu
  simp [ndV] at hu
  rcases hu with rfl | rfl | rfl | rfl | rfl <;> rfl
set_option maxRecDepth 100000 in
set_option maxHeartbeats 64000000 in
theorem sorts_any (p : Option Addr) (n z : Nat) (D : Nat → OpV) (W : World) (h : MOps W p n D) (hn : n ≤ 9223372036854775807) :
    Calls Try.prog 10 #[.slice p n z] W fun e w' => e = .returned (.bool true) ∧ Below W.heap.size W w' := by
  have HT := tameM_any p n z D 100 W h hn (by omega) (by omega)
  have H := Lib.hid h
  clear h
  obtain ⟨i89, hi89, hz890, hz891, hz892⟩ := info89
  go_enter Try.func10, Try.ntmps10
  go_wp2_with fail
  refine HT.mono ?_
  rintro e w1 ⟨b, rfl, hw, htm⟩
  obtain rfl := hw.symm
  have HTM := Lib.hid htm
  clear HT hw htm
  cases b
  · go_wp2_with fail
    refine (knownS_any _).mono ?_
    rintro e w6 ⟨rfl, hb⟩
    have HB6 := Lib.hid hb
    clear hb
    go_wp2_with fail
    go_ret
    exact ⟨rfl, HB6.out⟩
  have hn100 : n ≤ 100 := by have := (HTM.out rfl).1; omega
  have HL := Lib.hid (HTM.out rfl).2
  clear HTM
  have HN := newS_any W
  go_wp2_with fail
  refine HN.mono ?_
  rintro e w1 ⟨c, K1, T1, rfl, st1, g1, f1, hb1⟩
  have HR := refNew_any w1 st1 g1 f1
  have HF := Lib.hid (f1.sorts g1)
  have HB1 := Lib.hid hb1
  clear HN st1 g1 f1 hb1
  go_wp2_with fail
  refine HR.mono ?_
  rintro e w2 ⟨K2, r, rfl, tw, hb2⟩
  have HTW := Lib.hid tw
  have HB2 := Lib.hid (HB1.out.trans (hb2.mono HB1.out.size))
  clear HR tw hb2 HB1
  go_wp2_with fail
  go_loopw [5] (fun i wr => ∃ (k : Nat) (K : Nat → Nat) (T : Sto) (N : List Nd), k ≤ n ∧ i = .int .i64 k ∧ Two wr K W.heap.size c r T N ∧ SortsOk T.nodes ∧ Below W.heap.size W wr) (fun i _ => n - (intOf i).toNat)
  case atStart => exact ⟨0, K2, T1, _, Nat.zero_le _, rfl, HTW.out, HF.out, HB2.out⟩
  case round =>
    obtain ⟨k, K, T, N, hk, rfl, htw, hso, hbw⟩ := hrel
    clear HTW HF HB2
    have HS := Lib.hid hso
    have HBW := Lib.hid hbw
    have HTW := Lib.hid htw
    clear hso hbw htw
    by_cases hlt : k < n
    · obtain ⟨b, off, rfl, ha⟩ := (H.out.later HBW.out).at_ (by omega)
      obtain ⟨a0, a1, a2, a3, a4, a5, a6, a7, a8⟩ := ha k hlt
      obtain ⟨hx, hoi⟩ := (H.out.later HBW.out).args k hlt
      have HM := (made_any HTW.out (D k) (hoi.ok (HL.out k hlt)) hx).mono fun e w' hm => hm.sorts HTW.out HS.out
      have hk0 : (0 : Int) ≤ (k : Int) := by omega
      have hk1 : (k : Int) < (n : Int) := by omega
      clear ha hx hoi
      unfold mA at HM
      generalize D k = o at *
      go_wp2_with fail
      refine HM.mono ?_
      rintro e w3 ⟨K3, T3, N3, t, er, rfl, tw3, z3, so3⟩
      have HQ := Lib.hid (show Two w3 K3 W.heap.size c r T3 N3 ∧ SortsOk T3.nodes ∧ Below W.heap.size W w3 from ⟨tw3, so3, HBW.out.trans (z3.toBelow HTW.out)⟩)
      clear tw3 z3 so3 HM
      go_wp2_with fail
      go_roundw
      case rel => exact ⟨k + 1, K3, T3, N3, by omega, by go_num, HQ.out⟩
      case measure => simp [intOf]; omega
    · obtain rfl : k = n := by omega
      have HST := Lib.hid HTW.out.st
      have HG := Lib.hid HTW.out.g
      have hl3 := HTW.out.l3
      have hl2 := HTW.out.g.b0
      clear HTW HL
      go_wp2_with fail
      go_loopw [9] (fun i wr => ∃ i0 : Nat, i0 ≤ T.nodes.length ∧ i = .int .i64 i0 ∧ Below W.heap.size W wr ∧ StoAt wr K W.heap.size c T) (fun i _ => T.nodes.length - (intOf i).toNat)
      case atStart => exact ⟨0, Nat.zero_le _, rfl, HBW.out, HST.out⟩
      case round =>
        obtain ⟨i0, hi0, rfl, hbq, hst⟩ := hrel
        have HBQ := Lib.hid hbq
        have HSQ := Lib.hid hst
        clear hbq hst HST HBW
        have HLN := len_any HSQ.out
        go_wp2_with fail
        refine HLN.mono ?_
        rintro e w3 ⟨rfl, hw⟩
        obtain rfl := hw.symm
        clear HLN hw
        by_cases hlt2 : i0 < T.nodes.length
        · have hk0 : (0 : Int) ≤ (i0 : Int) := by omega
          have hk1 : (i0 : Int) < (T.nodes.length : Int) := by omega
          have HND := node_any HSQ.out HG.out (by omega) (i0 : Int)
          go_wp2_with fail
          refine HND.mono ?_
          rintro e w4 hnp
          obtain ⟨x, P5, C5, hin, hx, rfl, hown, hb4⟩ := hnp.resolve_right (fun h => h.1 ⟨hk0, hk1⟩)
          rw [Int.toNat_natCast] at hx
          have HX := Lib.hid hx
          have hxo := HG.out.gn i0 x hx
          have HXO := Lib.hid hxo
          have HSX := Lib.hid (HS.out.s i0 x hx)
          have HI4 := Lib.hid (own_ints hown)
          have HB4 := Lib.hid (HBQ.out.trans (hb4.mono HBQ.out.size))
          have HS4 := Lib.hid (HSQ.out.later hb4)
          have hL := hxo.L
          clear HND hnp hin hx hown hb4 hxo hk0 hk1 HBQ HSQ
          obtain ⟨q, f, m, s, Px, L, Cx, V⟩ := x
          simp only at hL
          unfold ndP
          have hb5 := below1 w4 (.cells #[.int .u8 q, .int .i64 f, .int .i64 m, .int .i64 s, .slice P5 L C5] 89)
          have x0 : (w4.alloc (.cells #[.int .u8 q, .int .i64 f, .int .i64 m, .int .i64 s, .slice P5 L C5] 89)).cell? ⟨w4.heap.size, 0, none⟩ = some (.int .u8 q) := by simp [go_sem]
          have x1 : (w4.alloc (.cells #[.int .u8 q, .int .i64 f, .int .i64 m, .int .i64 s, .slice P5 L C5] 89)).cell? ⟨w4.heap.size, 1, none⟩ = some (.int .i64 f) := by simp [go_sem]
          have x2 : (w4.alloc (.cells #[.int .u8 q, .int .i64 f, .int .i64 m, .int .i64 s, .slice P5 L C5] 89)).cell? ⟨w4.heap.size, 2, none⟩ = some (.int .i64 m) := by simp [go_sem]
          have x3 : (w4.alloc (.cells #[.int .u8 q, .int .i64 f, .int .i64 m, .int .i64 s, .slice P5 L C5] 89)).cell? ⟨w4.heap.size, 3, none⟩ = some (.int .i64 s) := by simp [go_sem]
          have x4 : (w4.alloc (.cells #[.int .u8 q, .int .i64 f, .int .i64 m, .int .i64 s, .slice P5 L C5] 89)).cell? ⟨w4.heap.size, 4, none⟩ = some (.slice P5 L C5) := by simp [go_sem]
          have HI5 := Lib.hid (HI4.out.later hb5)
          have HS5 := Lib.hid (HS4.out.later hb5)
          have HB5 := Lib.hid (HB4.out.trans (hb5.mono HB4.out.size))
          clear hb5 HI4 HS4 HB4
          go_upto_region 15 with (fail)
          generalize w4.alloc (.cells #[.int .u8 q, .int .i64 f, .int .i64 m, .int .i64 s, .slice P5 L C5] 89) = w5 at *
          generalize w4.heap.size = b10 at *
          go_wp2_with fail
          go_loopw [12, 13] (fun v i wr => ∃ (k2 : Nat) (zs : List Nd) (pa : Option Addr) (za : Nat), k2 ≤ L ∧ v = .slice pa k2 za ∧ i = .int .i64 k2 ∧ zs.length = k2 ∧ wr.ownsRow w5.heap.size 89 5 (.slice pa k2 za) k2 (flatN zs) ∧ Below w5.heap.size w5 wr ∧ Reads T.nodes V zs) (fun _ i _ => L - (intOf i).toNat)
          case atStart => exact ⟨0, [], none, 0, Nat.zero_le _, rfl, rfl, rfl, ⟨rfl, .inl ⟨rfl, rfl⟩⟩, Below.refl _ _, fun j y hy => by simp at hy⟩
          case round =>
            obtain ⟨k2, zs, pa, za, hk2, rfl, rfl, hal, how, hba, hrd⟩ := hrel
            have HOW := Lib.hid how
            have HBA := Lib.hid hba
            have HRD := Lib.hid hrd
            have HAL := Lib.hid hal
            have HSA := Lib.hid (HS5.out.later hba)
            have HIA := Lib.hid (HI5.out.later hba)
            replace x0 := cell_later hba x0
            replace x1 := cell_later hba x1
            replace x2 := cell_later hba x2
            replace x3 := cell_later hba x3
            replace x4 := cell_later hba x4
            have hbas := hba.size
            clear how hba hrd hal
            by_cases hlt3 : k2 < L
            · obtain ⟨bp, op, rfl, hap⟩ := HIA.out (by omega)
              have ck := hap k2 hlt3
              have hvk := HXO.out.V k2 hlt3
              simp only at hvk
              have hk0 : (0 : Int) ≤ (k2 : Int) := by omega
              have hk1 : (k2 : Int) < (L : Int) := by omega
              have HND := node_any HSA.out HG.out (by omega) (V k2)
              have HVL := Lib.hid (show InL T.nodes (V k2) from ⟨hvk.1, by omega⟩)
              have HSN := Lib.hid (fun (y : Nd) (h1 : y.q = qL T.nodes (V k2)) (h2 : y.s = stL T.nodes (V k2)) => Reads.snoc (y := y) HRD.out (by rw [HAL.out]; exact h1) (by rw [HAL.out]; exact h2))
              clear hap hvk
              obtain ⟨v, hv⟩ : ∃ v, v = V k2 := ⟨_, rfl⟩
              rw [← hv] at ck HND HVL HSN
              clear hv
              go_wp2_with fail
              refine HND.mono ?_
              rintro e w6 hnp
              obtain ⟨y, P6, C6, hin, hy, rfl, _, hb6⟩ := hnp.resolve_right (fun h => h.1 HVL.out)
              have HY := Lib.hid (show y.q = qL T.nodes v ∧ y.s = stL T.nodes v by unfold qL stL; rw [hy]; exact ⟨rfl, rfl⟩)
              obtain ⟨yq, yf, ym, ys, yP, yL, yC, yV⟩ := y
              unfold ndP
              have hb7 := below1 w6 (.cells #[.int .u8 yq, .int .i64 yf, .int .i64 ym, .int .i64 ys, .slice P6 yL C6] 89)
              have y0 : (w6.alloc (.cells #[.int .u8 yq, .int .i64 yf, .int .i64 ym, .int .i64 ys, .slice P6 yL C6] 89)).cell? ⟨w6.heap.size, 0, none⟩ = some (.int .u8 yq) := by simp [go_sem]
              have y1 : (w6.alloc (.cells #[.int .u8 yq, .int .i64 yf, .int .i64 ym, .int .i64 ys, .slice P6 yL C6] 89)).cell? ⟨w6.heap.size, 1, none⟩ = some (.int .i64 yf) := by simp [go_sem]
              have y2 : (w6.alloc (.cells #[.int .u8 yq, .int .i64 yf, .int .i64 ym, .int .i64 ys, .slice P6 yL C6] 89)).cell? ⟨w6.heap.size, 2, none⟩ = some (.int .i64 ym) := by simp [go_sem]
              have y3 : (w6.alloc (.cells #[.int .u8 yq, .int .i64 yf, .int .i64 ym, .int .i64 ys, .slice P6 yL C6] 89)).cell? ⟨w6.heap.size, 3, none⟩ = some (.int .i64 ys) := by simp [go_sem]
              have y4 : (w6.alloc (.cells #[.int .u8 yq, .int .i64 yf, .int .i64 ym, .int .i64 ys, .slice P6 yL C6] 89)).cell? ⟨w6.heap.size, 4, none⟩ = some (.slice P6 yL C6) := by simp [go_sem]
              have HB7 := Lib.hid (HBA.out.trans ((chain hb6 hb7).mono hbas))
              have HO7 := Lib.hid (own_later HOW.out (chain hb6 hb7))
              clear HND hnp hin hy hb6 hb7 ck HOW HBA HSA HIA
              go_upto_region 22 with (fail)
              generalize w6.alloc (.cells #[.int .u8 yq, .int .i64 yf, .int .i64 ym, .int .i64 ys, .slice P6 yL C6] 89) = w7 at *
              generalize w6.heap.size = b14 at *
              go_upto_region 24 with (fail)
              have hb8 := below1 w7 (.cells #[.int .u8 yq, .int .i64 yf, .int .i64 ym, .int .i64 ys, .slice P6 yL C6] 89)
              have HB8 := Lib.hid (HB7.out.trans (hb8.mono HB7.out.size))
              have HO8 := Lib.hid (own_later HO7.out hb8)
              have n0 : (w7.alloc (.cells #[.int .u8 yq, .int .i64 yf, .int .i64 ym, .int .i64 ys, .slice P6 yL C6] 89)).cell? ⟨w7.heap.size, 0, none⟩ = some (.int .u8 yq) := by simp [go_sem]
              have n1 : (w7.alloc (.cells #[.int .u8 yq, .int .i64 yf, .int .i64 ym, .int .i64 ys, .slice P6 yL C6] 89)).cell? ⟨w7.heap.size, 1, none⟩ = some (.int .i64 yf) := by simp [go_sem]
              have n2 : (w7.alloc (.cells #[.int .u8 yq, .int .i64 yf, .int .i64 ym, .int .i64 ys, .slice P6 yL C6] 89)).cell? ⟨w7.heap.size, 2, none⟩ = some (.int .i64 ym) := by simp [go_sem]
              have n3 : (w7.alloc (.cells #[.int .u8 yq, .int .i64 yf, .int .i64 ym, .int .i64 ys, .slice P6 yL C6] 89)).cell? ⟨w7.heap.size, 3, none⟩ = some (.int .i64 ys) := by simp [go_sem]
              have n4 : (w7.alloc (.cells #[.int .u8 yq, .int .i64 yf, .int .i64 ym, .int .i64 ys, .slice P6 yL C6] 89)).cell? ⟨w7.heap.size, 4, none⟩ = some (.slice P6 yL C6) := by simp [go_sem]
              clear hb8
              go_wp2_with (at_builtin; (refine wpList_append_own_at _ rfl _ _ 83 rfl w5.heap.size 89 i89 (.agg #[.int .u8 0, .int .i64 0, .int .i64 0, .int .i64 0, .slice none 0 0]) 5 56 Try.underlying83 hi89 hz890 hz891 hz892 rfl (by omega) _ k2 (flatN zs) rfl HO8.out ⟨w7.heap.size, 0, none⟩ 1 1 (ndV ⟨yq, yf, ym, ys, P6, yL, C6, yV⟩) rfl rfl ?qc1 (ndV_one _) ?qc3 ?qc4 ?qc5 ?_))
              case qc1 =>
                intro jj u hjj
                rw [Lib.add_plain]
                match jj, hjj with
                | 0, hjj => cases hjj; exact n0
                | 1, hjj => cases hjj; exact n1
                | 2, hjj => cases hjj; exact n2
                | 3, hjj => cases hjj; exact n3
                | 4, hjj => cases hjj; exact n4
              case qc3 => have hml : maxLen = 9223372036854775807 := rfl; omega
              case qc4 => omega
              case qc5 => exact HB8.out.size
              intro v9 w9 hown hgrow hnil_ hloc
              obtain ⟨p9, c9, hv⟩ := own_shape hown
              subst hv
              have HB9 := Lib.hid (HB8.out.grown hgrow HB8.out.size (fun k hk => (own_lt HO8.out hk).1))
              have HO9 := Lib.hid (show w9.ownsRow w5.heap.size 89 5 (.slice p9 (k2 + 1) c9) (k2 + 1) (flatN (zs ++ [⟨yq, yf, ym, ys, P6, yL, C6, yV⟩])) by rw [flatN_snoc]; exact hown)
              clear hown hgrow hnil_ hloc n0 n1 n2 n3 n4 y0 y1 y2 y3 y4
              go_wp2_with fail
              go_roundw
              case rel => exact ⟨k2 + 1, zs ++ [⟨yq, yf, ym, ys, P6, yL, C6, yV⟩], p9, c9, by omega, rfl, by go_num, by rw [List.length_append, HAL.out]; rfl, HO9.out, HB9.out, HSN.out _ HY.out.1 HY.out.2⟩
              case measure => simp [intOf]; omega
            · obtain rfl : k2 = L := by omega
              obtain ⟨wA, hwA⟩ : ∃ w, w = wr := ⟨_, rfl⟩
              subst hwA
              have HBW5 := Lib.hid (HB5.out.trans (HBA.out.mono HB5.out.size))
              have HKK := Lib.hid (show k2 = k2 from rfl)
              clear HB5 HBA HI5 HS5 hi89 hz890 hz891 hz892 hn hlt3 hk2 hk hlt hi0 hbas hl3
              go_wp2_with fail
              go_loopw [16] (fun i wr => ∃ k3 : Nat, k3 ≤ k2 ∧ i = .int .i64 k3 ∧ Below wA.heap.size wA wr) (fun i _ => k2 - (intOf i).toNat)
              case atStart => exact ⟨0, Nat.zero_le _, rfl, Below.refl _ _⟩
              case round =>
                obtain ⟨k3, hk3, rfl, hbr⟩ := hrel
                have HBR := Lib.hid hbr
                replace x0 := cell_later hbr x0
                replace x1 := cell_later hbr x1
                replace x2 := cell_later hbr x2
                replace x3 := cell_later hbr x3
                replace x4 := cell_later hbr x4
                by_cases hlt4 : k3 < k2
                · obtain ⟨y, hy⟩ : ∃ y, zs[k3]? = some y := ⟨_, List.getElem?_eq_getElem (by rw [HAL.out]; exact hlt4)⟩
                  obtain ⟨yz, hyz⟩ : ∃ yz, zs[0]? = some yz := ⟨_, List.getElem?_eq_getElem (by rw [HAL.out]; omega)⟩
                  obtain ⟨ga, hga, c0, c3⟩ := own_nd HOW.out hy
                  obtain ⟨ga2, hga2, d0, d3⟩ := own_nd HOW.out hyz
                  rw [hga] at hga2
                  cases hga2
                  subst hga
                  replace c0 := cell_later hbr c0
                  replace c3 := cell_later hbr c3
                  replace d3 := cell_later hbr d3
                  rw [show 0 * 5 + 3 = 3 from rfl] at d3
                  obtain ⟨r1, r2⟩ := HRD.out k3 y hy
                  obtain ⟨_, r4⟩ := HRD.out 0 yz hyz
                  obtain ⟨bp, op, rfl, hap⟩ := HIA.out (by omega)
                  have ck := cell_later hbr (hap k3 hlt4)
                  have hk0 : (0 : Int) ≤ (k3 : Int) := by omega
                  have hk1 : (k3 : Int) < (k2 : Int) := by omega
                  have hk2 : (0 : Int) < (k2 : Int) := by omega
                  clear d0 hy hyz hap hbr
                  obtain ⟨yq, hyq⟩ : ∃ t, t = y.q := ⟨_, rfl⟩
                  obtain ⟨ys, hys⟩ : ∃ t, t = y.s := ⟨_, rfl⟩
                  obtain ⟨ts, hts⟩ : ∃ t, t = yz.s := ⟨_, rfl⟩
                  rw [← hyq] at c0 r1
                  rw [← hys] at c3 r2
                  rw [← hts] at d3 r4
                  obtain ⟨vk, hvk⟩ : ∃ t, t = V k3 := ⟨_, rfl⟩
                  rw [← hvk] at ck r1 r2
                  have HC := Lib.hid (show (q = 9 ∨ q = 10 ∨ q = 11 → ys = 0) ∧ (q = 7 → ys = ts) ∧ (q = 4 → ys = 1 ∧ yq ≠ 3 ∧ yq ≠ 4) ∧ (q = 8 → ys = 1 ∧ ((yq ≠ 3 ∧ yq ≠ 4) ∨ vk = 2)) ∧ (q = 6 → k3 = 0 → ys = 0) ∧ (q = 6 → 0 < k3 → ys = s) from by
                    have h := HSX.out
                    refine ⟨fun e => ?_, fun e => ?_, fun e => ?_, fun e => ?_, fun e e2 => ?_, fun e e2 => ?_⟩
                    · rw [r2, hvk]; exact h.na e k3 hlt4
                    · rw [r2, r4, hvk]; exact h.eq e k3 hlt4
                    · have := h.pl e k3 hlt4
                      rw [r2, r1, hvk]; exact this
                    · have := h.le e k3 hlt4
                      rw [r2, r1, hvk]
                      rcases this with b | b
                      · exact ⟨b.1, .inl b.2⟩
                      · exact ⟨b.1, .inr b.2⟩
                    · have := h.i0 e (by omega : 0 < k2)
                      rw [r2, hvk, e2]; exact this
                    · have := h.i1 e k3 e2 hlt4
                      rw [r2, hvk]; exact this)
                  clear hyq hys hts hvk r1 r2 r4
                  have HRND := Lib.hid (show ∀ wz, Below wr.heap.size wr wz → Below wA.heap.size wA wz from fun wz h => HBR.out.trans (h.mono HBR.out.size))
                  have hcase : q = 9 ∨ q = 10 ∨ q = 11 ∨ q = 7 ∨ q = 4 ∨ q = 8 ∨ q = 6 ∨ (q ≠ 9 ∧ q ≠ 10 ∧ q ≠ 11 ∧ q ≠ 7 ∧ q ≠ 4 ∧ q ≠ 8 ∧ q ≠ 6) := by omega
                  rcases hcase with rfl | rfl | rfl | rfl | rfl | rfl | rfl | ⟨n0, n1, n2, n3, n4, n5, n6⟩
                  · obtain rfl : ys = 0 := HC.out.1 (by omega)
                    by_cases hb3 : yq = 3
                    · have v3 : (yq != 3) = false := by simpa using hb3
                      clear hb3
                      as_aux_lemma =>
                        go_wp2_with fail
                        (try go_quiet (fail))
                        go_wp2_with fail
                        go_roundw
                        case rel => exact ⟨k3 + 1, by omega, by go_num, HRND.out _ (by first | exact below_drewN _ _ | exact Below.refl _ _)⟩
                        case measure => simp [intOf]; omega
                    have v3 : (yq != 3) = true := by simpa using hb3
                    obtain ⟨b4, v4⟩ : ∃ b4, (yq != 4) = b4 := ⟨_, rfl⟩
                    clear hb3
                    as_aux_lemma =>
                      go_wp2_with fail
                      (try go_quiet (fail))
                      go_wp2_with fail
                      go_roundw
                      case rel => exact ⟨k3 + 1, by omega, by go_num, HRND.out _ (by first | exact below_drewN _ _ | exact Below.refl _ _)⟩
                      case measure => simp [intOf]; omega
                  · obtain rfl : ys = 0 := HC.out.1 (by omega)
                    by_cases hb3 : yq = 3
                    · have v3 : (yq != 3) = false := by simpa using hb3
                      clear hb3
                      as_aux_lemma =>
                        go_wp2_with fail
                        (try go_quiet (fail))
                        go_wp2_with fail
                        go_roundw
                        case rel => exact ⟨k3 + 1, by omega, by go_num, HRND.out _ (by first | exact below_drewN _ _ | exact Below.refl _ _)⟩
                        case measure => simp [intOf]; omega
                    have v3 : (yq != 3) = true := by simpa using hb3
                    obtain ⟨b4, v4⟩ : ∃ b4, (yq != 4) = b4 := ⟨_, rfl⟩
                    clear hb3
                    as_aux_lemma =>
                      go_wp2_with fail
                      (try go_quiet (fail))
                      go_wp2_with fail
                      go_roundw
                      case rel => exact ⟨k3 + 1, by omega, by go_num, HRND.out _ (by first | exact below_drewN _ _ | exact Below.refl _ _)⟩
                      case measure => simp [intOf]; omega
                  · obtain rfl : ys = 0 := HC.out.1 (by omega)
                    by_cases hb3 : yq = 3
                    · have v3 : (yq != 3) = false := by simpa using hb3
                      clear hb3
                      as_aux_lemma =>
                        go_wp2_with fail
                        (try go_quiet (fail))
                        go_wp2_with fail
                        go_roundw
                        case rel => exact ⟨k3 + 1, by omega, by go_num, HRND.out _ (by first | exact below_drewN _ _ | exact Below.refl _ _)⟩
                        case measure => simp [intOf]; omega
                    have v3 : (yq != 3) = true := by simpa using hb3
                    obtain ⟨b4, v4⟩ : ∃ b4, (yq != 4) = b4 := ⟨_, rfl⟩
                    clear hb3
                    as_aux_lemma =>
                      go_wp2_with fail
                      (try go_quiet (fail))
                      go_wp2_with fail
                      go_roundw
                      case rel => exact ⟨k3 + 1, by omega, by go_num, HRND.out _ (by first | exact below_drewN _ _ | exact Below.refl _ _)⟩
                      case measure => simp [intOf]; omega
                  · obtain rfl : ys = ts := HC.out.2.1 rfl
                    have vs : (ys != ys) = false := by simp
                    by_cases hb3 : yq = 3
                    · have v3 : (yq != 3) = false := by simpa using hb3
                      clear hb3
                      as_aux_lemma =>
                        go_wp2_with fail
                        (try go_quiet (fail))
                        go_wp2_with fail
                        go_roundw
                        case rel => exact ⟨k3 + 1, by omega, by go_num, HRND.out _ (by first | exact below_drewN _ _ | exact Below.refl _ _)⟩
                        case measure => simp [intOf]; omega
                    have v3 : (yq != 3) = true := by simpa using hb3
                    obtain ⟨b4, v4⟩ : ∃ b4, (yq != 4) = b4 := ⟨_, rfl⟩
                    clear hb3
                    as_aux_lemma =>
                      go_wp2_with fail
                      (try go_quiet (fail))
                      go_wp2_with fail
                      go_roundw
                      case rel => exact ⟨k3 + 1, by omega, by go_num, HRND.out _ (by first | exact below_drewN _ _ | exact Below.refl _ _)⟩
                      case measure => simp [intOf]; omega
                  · obtain ⟨hs1, hne3, hne4⟩ := HC.out.2.2.1 rfl
                    subst hs1
                    have v3 : (yq != 3) = true := by simpa using hne3
                    have v4 : (yq != 4) = true := by simpa using hne4
                    as_aux_lemma =>
                      go_wp2_with fail
                      (try go_quiet (fail))
                      go_wp2_with fail
                      go_roundw
                      case rel => exact ⟨k3 + 1, by omega, by go_num, HRND.out _ (by first | exact below_drewN _ _ | exact Below.refl _ _)⟩
                      case measure => simp [intOf]; omega
                  · have hs1 := (HC.out.2.2.2.1 rfl).1
                    subst hs1
                    by_cases hb3 : yq = 3
                    · have v3 : (yq != 3) = false := by simpa using hb3
                      have vv : vk = 2 := (HC.out.2.2.2.1 rfl).2.resolve_left (fun h => h.1 hb3)
                      subst vv
                      as_aux_lemma =>
                        go_wp2_with fail
                        (try go_quiet (fail))
                        go_wp2_with fail
                        go_roundw
                        case rel => exact ⟨k3 + 1, by omega, by go_num, HRND.out _ (by first | exact below_drewN _ _ | exact Below.refl _ _)⟩
                        case measure => simp [intOf]; omega
                    have v3 : (yq != 3) = true := by simpa using hb3
                    by_cases hb4 : yq = 4
                    · have v4 : (yq != 4) = false := by simpa using hb4
                      have vv : vk = 2 := (HC.out.2.2.2.1 rfl).2.resolve_left (fun h => h.2 hb4)
                      subst vv
                      as_aux_lemma =>
                        go_wp2_with fail
                        (try go_quiet (fail))
                        go_wp2_with fail
                        go_roundw
                        case rel => exact ⟨k3 + 1, by omega, by go_num, HRND.out _ (by first | exact below_drewN _ _ | exact Below.refl _ _)⟩
                        case measure => simp [intOf]; omega
                    have v4 : (yq != 4) = true := by simpa using hb4
                    as_aux_lemma =>
                      go_wp2_with fail
                      (try go_quiet (fail))
                      go_wp2_with fail
                      go_roundw
                      case rel => exact ⟨k3 + 1, by omega, by go_num, HRND.out _ (by first | exact below_drewN _ _ | exact Below.refl _ _)⟩
                      case measure => simp [intOf]; omega
                  · by_cases hz : k3 = 0
                    · have hs1 := HC.out.2.2.2.2.1 rfl hz
                      subst hs1
                      have w1 : ((k3 : Int) == 0) = true := by rw [hz]; rfl
                      have w2 : decide ((0 : Int) < (k3 : Int)) = false := by rw [hz]; rfl
                      have vs : ((0 : Int) != 0) = false := rfl
                      have w3 : ¬ 0 < k3 := by omega
                      have w4 : decide (0 < k3) = false := by simpa using w3
                      clear hz hk0 hk1
                      have hk0 : (0 : Int) ≤ (k3 : Int) := Int.natCast_nonneg _
                      have hk1 : (k3 : Int) < (k2 : Int) := Int.ofNat_lt.2 hlt4
                      by_cases hb3 : yq = 3
                      · have v3 : (yq != 3) = false := by simpa using hb3
                        clear hb3
                        as_aux_lemma =>
                          go_wp2_with fail
                          (try go_quiet (fail))
                          go_wp2_with fail
                          go_roundw
                          case rel => exact ⟨k3 + 1, by omega, by go_num, HRND.out _ (by first | exact below_drewN _ _ | exact Below.refl _ _)⟩
                          case measure => simp [intOf]; omega
                      have v3 : (yq != 3) = true := by simpa using hb3
                      obtain ⟨b4, v4⟩ : ∃ b4, (yq != 4) = b4 := ⟨_, rfl⟩
                      clear hb3
                      as_aux_lemma =>
                        go_wp2_with fail
                        (try go_quiet (fail))
                        go_wp2_with fail
                        go_roundw
                        case rel => exact ⟨k3 + 1, by omega, by go_num, HRND.out _ (by first | exact below_drewN _ _ | exact Below.refl _ _)⟩
                        case measure => simp [intOf]; omega
                    · have hs1 := HC.out.2.2.2.2.2 rfl (by omega)
                      subst hs1
                      have w1 : ((k3 : Int) == 0) = false := by rw [beq_eq_false_iff_ne]; omega
                      have w2 : decide ((0 : Int) < (k3 : Int)) = true := by rw [decide_eq_true_eq]; omega
                      have w3 : 0 < k3 := by omega
                      have w4 : decide (0 < k3) = true := by simpa using w3
                      have vs : (ys != ys) = false := by simp
                      by_cases hb3 : yq = 3
                      · have v3 : (yq != 3) = false := by simpa using hb3
                        clear hb3
                        as_aux_lemma =>
                          go_wp2_with fail
                          (try go_quiet (fail))
                          go_wp2_with fail
                          go_roundw
                          case rel => exact ⟨k3 + 1, by omega, by go_num, HRND.out _ (by first | exact below_drewN _ _ | exact Below.refl _ _)⟩
                          case measure => simp [intOf]; omega
                      have v3 : (yq != 3) = true := by simpa using hb3
                      obtain ⟨b4, v4⟩ : ∃ b4, (yq != 4) = b4 := ⟨_, rfl⟩
                      clear hb3
                      as_aux_lemma =>
                        go_wp2_with fail
                        (try go_quiet (fail))
                        go_wp2_with fail
                        go_roundw
                        case rel => exact ⟨k3 + 1, by omega, by go_num, HRND.out _ (by first | exact below_drewN _ _ | exact Below.refl _ _)⟩
                        case measure => simp [intOf]; omega
                  · have e0 : (q == 9) = false := by simpa using n0
                    have e1 : (q == 10) = false := by simpa using n1
                    have e2 : (q == 11) = false := by simpa using n2
                    have e3 : (q == 7) = false := by simpa using n3
                    have e4 : (q == 4) = false := by simpa using n4
                    have e5 : (q == 8) = false := by simpa using n5
                    have e6 : (q == 6) = false := by simpa using n6
                    by_cases hb3 : yq = 3
                    · have v3 : (yq != 3) = false := by simpa using hb3
                      clear hb3
                      as_aux_lemma =>
                        go_wp2_with fail
                        (try go_quiet (fail))
                        go_wp2_with fail
                        go_roundw
                        case rel => exact ⟨k3 + 1, by omega, by go_num, HRND.out _ (by first | exact below_drewN _ _ | exact Below.refl _ _)⟩
                        case measure => simp [intOf]; omega
                    have v3 : (yq != 3) = true := by simpa using hb3
                    obtain ⟨b4, v4⟩ : ∃ b4, (yq != 4) = b4 := ⟨_, rfl⟩
                    clear hb3
                    as_aux_lemma =>
                      go_wp2_with fail
                      (try go_quiet (fail))
                      go_wp2_with fail
                      go_roundw
                      case rel => exact ⟨k3 + 1, by omega, by go_num, HRND.out _ (by first | exact below_drewN _ _ | exact Below.refl _ _)⟩
                      case measure => simp [intOf]; omega
                · obtain rfl : k3 = k2 := by omega
                  have HB6 := Lib.hid (HBW5.out.trans (HBR.out.mono HBW5.out.size))
                  have HS6 := Lib.hid (HSA.out.later HBR.out)
                  have HF := Lib.hid (show (q = 7 ∨ q = 8 → k3 = 2) ∧ (q = 9 → k3 = 1) ∧ (q = 6 → k3 = 3) ∧ (q = 10 ∨ q = 11 → 2 ≤ k3) ∧ (q = 7 ∨ q = 8 ∨ 9 ≤ q → s = 0) from ⟨HSX.out.two, HSX.out.one, HSX.out.thr, HSX.out.many, HSX.out.bo⟩)
                  clear hbr
                  have hcase : q = 7 ∨ q = 8 ∨ q = 9 ∨ q = 6 ∨ q = 10 ∨ q = 11 ∨ (q ≠ 7 ∧ q ≠ 8 ∧ q ≠ 9 ∧ q ≠ 6 ∧ q ≠ 10 ∧ q ≠ 11) := by omega
                  rcases hcase with rfl | rfl | rfl | rfl | rfl | rfl | ⟨n0, n1, n2, n3, n4, n5⟩
                  · have hs1 : s = 0 := HF.out.2.2.2.2 (by omega)
                    subst hs1
                    have hl : ((k3 : Int) != 2) = false := by have := HF.out.1 (by omega); subst this; rfl
                    as_aux_lemma =>
                      go_wp2_with fail
                      go_roundw
                      case rel => exact ⟨i0 + 1, by omega, by go_num, HB6.out, HS6.out⟩
                      case measure => simp [intOf]; omega
                  · have hs1 : s = 0 := HF.out.2.2.2.2 (by omega)
                    subst hs1
                    have hl : ((k3 : Int) != 2) = false := by have := HF.out.1 (by omega); subst this; rfl
                    as_aux_lemma =>
                      go_wp2_with fail
                      go_roundw
                      case rel => exact ⟨i0 + 1, by omega, by go_num, HB6.out, HS6.out⟩
                      case measure => simp [intOf]; omega
                  · have hs1 : s = 0 := HF.out.2.2.2.2 (by omega)
                    subst hs1
                    have hl : ((k3 : Int) != 1) = false := by have := HF.out.2.1 rfl; subst this; rfl
                    as_aux_lemma =>
                      go_wp2_with fail
                      go_roundw
                      case rel => exact ⟨i0 + 1, by omega, by go_num, HB6.out, HS6.out⟩
                      case measure => simp [intOf]; omega
                  · have hl : ((k3 : Int) != 3) = false := by have := HF.out.2.2.1 rfl; subst this; rfl
                    as_aux_lemma =>
                      go_wp2_with fail
                      go_roundw
                      case rel => exact ⟨i0 + 1, by omega, by go_num, HB6.out, HS6.out⟩
                      case measure => simp [intOf]; omega
                  · have hs1 : s = 0 := HF.out.2.2.2.2 (by omega)
                    subst hs1
                    have hl : decide ((k3 : Int) < 2) = false := by have := HF.out.2.2.2.1 (by omega); rw [decide_eq_false_iff_not]; omega
                    as_aux_lemma =>
                      go_wp2_with fail
                      go_roundw
                      case rel => exact ⟨i0 + 1, by omega, by go_num, HB6.out, HS6.out⟩
                      case measure => simp [intOf]; omega
                  · have hs1 : s = 0 := HF.out.2.2.2.2 (by omega)
                    subst hs1
                    have hl : decide ((k3 : Int) < 2) = false := by have := HF.out.2.2.2.1 (by omega); rw [decide_eq_false_iff_not]; omega
                    as_aux_lemma =>
                      go_wp2_with fail
                      go_roundw
                      case rel => exact ⟨i0 + 1, by omega, by go_num, HB6.out, HS6.out⟩
                      case measure => simp [intOf]; omega
                  · have e0 : (q == 7) = false := by simpa using n0
                    have e1 : (q == 8) = false := by simpa using n1
                    have e2 : (q == 9) = false := by simpa using n2
                    have e3 : (q == 6) = false := by simpa using n3
                    have e4 : (q == 10) = false := by simpa using n4
                    have e5 : (q == 11) = false := by simpa using n5
                    by_cases h9 : 9 ≤ q
                    · have u9 : decide (9 ≤ q) = true := by simpa using h9
                      have hs1 : s = 0 := HF.out.2.2.2.2 (by omega)
                      subst hs1
                      as_aux_lemma =>
                        go_wp2_with fail
                        go_roundw
                        case rel => exact ⟨i0 + 1, by omega, by go_num, HB6.out, HS6.out⟩
                        case measure => simp [intOf]; omega
                    · have u9 : decide (9 ≤ q) = false := by simpa using h9
                      as_aux_lemma =>
                        go_wp2_with fail
                        go_roundw
                        case rel => exact ⟨i0 + 1, by omega, by go_num, HB6.out, HS6.out⟩
                        case measure => simp [intOf]; omega
        · have hil : i0 = T.nodes.length := by omega
          have hilt : ¬ (i0 : Int) < (T.nodes.length : Int) := by omega
          have HB9 := Lib.hid HBQ.out
          go_wp2_with fail
          refine (knownS_any _).mono ?_
          rintro e w6 ⟨rfl, hb⟩
          have HB6 := Lib.hid (HB9.out.trans (hb.mono HB9.out.size))
          clear hb
          go_wp2_with fail
          go_ret
          exact ⟨rfl, HB6.out⟩
end Go.Proofs.Ytkjmmdffelhkiaa
