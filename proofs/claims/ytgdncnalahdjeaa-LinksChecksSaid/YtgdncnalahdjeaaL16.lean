/- links.Check. -/
import Derived.Test.YtgdncnalahdjeaaL15
namespace Go.Proofs.Ytgdncnalahdjeaa
open Go Go.RowKit

/-- every link concludes and the last one closes. -/
def ClosesAll (n : Nat) (d : VD) (m : Nat) (a : AD) (ld : LD) (N : Nat) : Prop :=
  N ≠ 0 ∧ (∀ i, i < N - 1 → okAt n d m a ld i = true) ∧ closeL m a (goL n d m a ld (N - 1)).1 (ld.K (N - 1)) (ld.T (N - 1)) (ld.I (N - 1)) = true
/-- the literals named. -/
def litsOf (n : Nat) (d : VD) (m : Nat) (a : AD) (ld : LD) (N : Nat) : List Int := closeT (goL n d m a ld (N - 1)).1 (ld.K (N - 1)) (ld.T (N - 1)) (ld.I (N - 1)) (goL n d m a ld (N - 1)).2
/-- where the loop stands. -/
def MidC (n : Nat) (d : VD) (m : Nat) (a : AD) (ld : LD) (N : Nat) (c : Nat) (p : Option Addr) (cv : Nat) (q : Option Addr) (ca : Nat) (W : World) (j : Nat) (b : Bool) : Prop :=
  (b = false ∧ (j < N ∨ N = 0) ∧ (∀ t, t < j → okAt n d m a ld t = true) ∧ ∃ T M, CheckerAt W c T M p n cv q m ca (goL n d m a ld j).1 (goL n d m a ld j).2) ∨
  (b = true ∧ j = N ∧ ClosesAll n d m a ld N ∧ ∃ T M, CheckerAt W c T M p n cv q m ca (goL n d m a ld (N - 1)).1 (litsOf n d m a ld N))
theorem litsOf_len (n : Nat) (d : VD) (m : Nat) (a : AD) (ld : LD) (N : Nat) : (litsOf n d m a ld N).length ≤ N + 1 := by
  have h1 := closeT_len (goL n d m a ld (N - 1)).1 (ld.K (N - 1)) (ld.T (N - 1)) (ld.I (N - 1)) (goL n d m a ld (N - 1)).2
  have h2 := (goL_len n d m a ld (N - 1)).2
  unfold litsOf
  omega
set_option maxRecDepth 100000 in
set_option maxHeartbeats 4000000 in
theorem check_run (n : Nat) (d : VD) (m : Nat) (a : AD) (ld : LD) (N : Nat) (p : Option Addr) (cv : Nat) (q : Option Addr) (ca : Nat) (s : Option Addr) (cs : Nat) (k : Nat) (Z : Nat → Int) (er : Int) (w : World) (hd : VertsIn w p n d) (ha : AtomsIn w q m a) (hl : LinksIn w s N ld) (hm : m ≤ 1000000) (hN : N ≤ 20000) (hT : ∀ i, i < N → -9223372036854775808 ≤ ld.T i ∧ ld.T i ≤ 9223372036854775807) (hmay : mayB n d m a = true)
    (hn : ∀ W p c, LitsIn W p (litsOf n d m a ld N).length (fun i => (litsOf n d m a ld N).getD i 0) → Calls Try.prog 47 #[.slice p (litsOf n d m a ld N).length c] W fun e w' => Outs k Z er e w' ∧ Below W.heap.size W w') :
    Calls Try.prog 37 #[.slice p n cv, .slice q m ca, .slice s N cs] w fun e w' => ((¬ ClosesAll n d m a ld N ∧ e = .returned (.tuple #[.slice none 0 0, .int .i64 5])) ∨ (ClosesAll n d m a ld N ∧ 5000 < (litsOf n d m a ld N).length ∧ e = .returned (.tuple #[.slice none 0 0, .int .i64 3])) ∨ (ClosesAll n d m a ld N ∧ (litsOf n d m a ld N).length ≤ 5000 ∧ Outs k Z er e w')) ∧ Below w.heap.size w w' := by
  have hn2 : n ≤ 20000 := by
    unfold mayB at hmay
    simp only [Bool.and_eq_true, decide_eq_true_eq] at hmay
    exact hmay.1.1.1.1.2
  have HM := linksMay_any p n cv d q m ca a w hd (by omega) ha (by omega)
  rw [hmay] at HM
  have HD := Lib.hid hd
  have HA := Lib.hid ha
  have HL := Lib.hid hl
  have HT := Lib.hid hT
  have HN := Lib.hid hn
  clear hd ha hl hT hn hmay
  go_enter Try.func37, Try.ntmps37
  go_wp2_with fail
  refine HM.mono ?_
  rintro e w1 ⟨rfl, hb⟩
  clear HM
  have hch : CheckerAt (w1.alloc (.cells #[.slice p n cv, .slice q m ca, .slice none 0 0, .slice none 0 0] 89)) w1.heap.size none none p n cv q m ca [] [] := by
    refine ⟨by simp [go_sem], by simp [go_sem], ⟨none, 0, by simp [go_sem], rfl, ?_⟩, ⟨none, 0, by simp [go_sem], rfl, ?_⟩, by simp [go_sem], by simp [go_sem], fun k h => by cases h⟩
    · exact ⟨rfl, .inl ⟨rfl, rfl⟩⟩
    · exact ⟨rfl, .inl ⟨rfl, rfl⟩⟩
  have hg : Given w w1.heap.size p n d q m a := ⟨hb.size, HD.out, HA.out, hn2, hm⟩
  have hb2 := chain hb (below1 w1 (.cells #[.slice p n cv, .slice q m ca, .slice none 0 0, .slice none 0 0] 89))
  have HCH := Lib.hid hch
  have HG := Lib.hid hg
  have HB2 := Lib.hid hb2
  clear hch hg hb hb2
  go_wp2_with fail
  have hcle := HG.out.le
  have hj0 : (0 : Int) ≤ (N : Int) := by omega
  generalize hcc : w1.heap.size = c at *
  generalize (w1.alloc (.cells #[.slice p n cv, .slice q m ca, .slice none 0 0, .slice none 0 0] 89)) = w2 at *
  go_loopw [9, 25] (fun b i wr => ∃ (j : Nat) (g : Bool), j ≤ N ∧ b = .bool g ∧ i = .int .i64 j ∧ Below w.heap.size w wr ∧ MidC n d m a ld N c p cv q ca wr j g) (fun _ i _ => N - (intOf i).toNat)
  case atStart => exact ⟨0, false, by omega, rfl, rfl, HB2.out, .inl ⟨rfl, by omega, fun t ht => by omega, none, none, HCH.out⟩⟩
  case round =>
    obtain ⟨j, g, hj, rfl, rfl, hb, hmid⟩ := hrel
    have HB := Lib.hid hb
    clear hb HB2 HCH
    by_cases hlt : j < N
    · have hj1 : (j : Int) < (N : Int) := by omega
      have hj2 : (0 : Int) ≤ (j : Int) := by omega
      rcases hmid with ⟨rfl, _, hok, T, M, hch⟩ | ⟨_, e, _⟩
      rotate_left
      · omega
      obtain ⟨b, off, rfl, hlk⟩ := (HL.out.later HB.out) (by omega)
      have ck := hlk.k j hlt
      have ct := hlk.t j hlt
      have cA := hlk.a j hlt
      have cB := hlk.bb j hlt
      have ci := hlk.i j hlt
      have cj := hlk.j j hlt
      have cp := hlk.p j hlt
      obtain ⟨bw, offw, ew, hlw⟩ := HL.out (by omega)
      have hv := hlw.v j hlt
      clear hlk hlw ew bw offw
      have hbj := below1 wr (.cells #[.int .u8 (ld.K j), .int .i64 (ld.T j), .int .i64 (ld.A j), .int .i64 (ld.B j), .int .i64 (ld.I j), .int .i64 (ld.J j), .slice (ld.P j) (ld.L j) (ld.C j)] 57)
      have hbj2 := chain HB.out hbj
      have hgl := goL_len n d m a ld j
      have hcj := hch.later hbj
      have OKS := Lib.hid hok
      clear hok
      by_cases hlast : j + 1 = N
      · have q1 : ((j : Int) == (N : Int) - 1) = true := by simp; omega
        have H1 := closes_any c T M p n cv q m ca (goL n d m a ld j).1 (goL n d m a ld j).2 (ld.K j) (ld.T j) (ld.A j) (ld.B j) (ld.I j) (ld.J j) (ld.P j) (ld.L j) (ld.C j) _ hcj (by omega) (by omega) w hbj2 d a HG.out (HT.out j hlt).1 (HT.out j hlt).2
        obtain ⟨g, hgd⟩ : ∃ g, closeL m a (goL n d m a ld j).1 (ld.K j) (ld.T j) (ld.I j) = g := ⟨_, rfl⟩
        rw [hgd] at H1
        have HGD := Lib.hid hgd
        have HBJ := Lib.hid hbj2
        clear hgd hbj2 hcj hch hv hbj
        unfold linkV at H1
        go_wp2_with fail
        refine H1.mono ?_
        rintro e1 w3 ⟨rfl, ⟨M', hc3⟩, hb3⟩
        have hB3 := Lib.hid (HBJ.out.trans (hb3.mono hcle))
        have HC3 := Lib.hid hc3
        clear hc3 hb3 H1
        have hj9 : N - 1 = j := by omega
        cases g
        · go_wp2_with fail
          refine bodyPost_ret (v := .tuple #[.slice none 0 0, .int .i64 5]) (by simp [results, Try.results37, go_sem]) rfl ?_
          refine ⟨.inl ⟨fun hca => ?_, rfl⟩, hB3.out⟩
          have := hca.2.2
          rw [hj9, HGD.out] at this
          cases this
        · go_wp2_with fail
          go_roundw
          case rel => exact ⟨j + 1, true, by omega, rfl, by go_num, hB3.out, .inr ⟨rfl, hlast, ⟨by omega, fun i hi => OKS.out i (by omega), by rw [hj9]; exact HGD.out⟩, T, M', by unfold litsOf; rw [hj9]; exact HC3.out⟩⟩
          case measure => simp [intOf]; omega
      · have q1 : ((j : Int) == (N : Int) - 1) = false := by simp; omega
        have H1 := concludes_any c T M p n cv q m ca (goL n d m a ld j).1 (goL n d m a ld j).2 (ld.K j) (ld.T j) (ld.A j) (ld.B j) (ld.I j) (ld.J j) (ld.P j) (ld.L j) (ld.C j) _ hcj (by omega) (by omega) w hbj2 d a HG.out (ld.V j) hv.1 hv.2 (HT.out j hlt).1 (HT.out j hlt).2
        obtain ⟨g, hgd⟩ : ∃ g, okAt n d m a ld j = g := ⟨_, rfl⟩
        have hgd2 : (conclL n d m a (goL n d m a ld j).1 (ld.K j) (ld.T j) (ld.A j) (ld.B j) (ld.I j) (ld.J j) (ld.L j) (ld.V j)).2 = g := hgd
        rw [hgd2] at H1
        have HGD := Lib.hid hgd
        have HBJ := Lib.hid hbj2
        clear hgd hgd2 hbj2 hcj hch hv hbj
        unfold linkV at H1
        go_wp2_with fail
        refine H1.mono ?_
        rintro e1 w3 ⟨rfl, ⟨T', M', hc3⟩, hb3⟩
        have hB3 := Lib.hid (HBJ.out.trans (hb3.mono hcle))
        have HC3 := Lib.hid (show CheckerAt w3 c T' M' p n cv q m ca (goL n d m a ld (j + 1)).1 (goL n d m a ld (j + 1)).2 from hc3)
        clear hc3 hb3 H1
        cases g
        · go_wp2_with fail
          refine bodyPost_ret (v := .tuple #[.slice none 0 0, .int .i64 5]) (by simp [results, Try.results37, go_sem]) rfl ?_
          refine ⟨.inl ⟨fun hca => ?_, rfl⟩, hB3.out⟩
          have := hca.2.1 j (by omega)
          rw [HGD.out] at this
          cases this
        · go_wp2_with fail
          go_roundw
          case rel => exact ⟨j + 1, false, by omega, rfl, by go_num, hB3.out, .inl ⟨rfl, by omega, fun t ht => by
            by_cases htj : t < j
            · exact OKS.out t htj
            · obtain rfl : t = j := by omega
              exact HGD.out, T', M', HC3.out⟩⟩
          case measure => simp [intOf]; omega
    · obtain rfl : j = N := by omega
      rcases hmid with ⟨rfl, h0, _, T, M, hch⟩ | ⟨rfl, _, hca, T, M, hch⟩
      · obtain rfl : j = 0 := by omega
        have hbz := HB.out
        go_wp2_with fail
        refine bodyPost_ret (v := .tuple #[.slice none 0 0, .int .i64 5]) (by simp [results, Try.results37, go_sem]) rfl ?_
        exact ⟨.inl ⟨fun hca => hca.1 rfl, rfl⟩, HB.out⟩
      · obtain ⟨r3, z3, c3, _, own3⟩ := hch.c3
        obtain ⟨p3, z4, e3, _, hL3, _⟩ := own_in own3 rfl
        simp only [Value.slice.injEq] at e3
        obtain ⟨rfl, _, rfl⟩ := e3
        have H1 := HN.out _ _ z3 hL3
        have hll := litsOf_len n d m a ld j
        have HCA := Lib.hid hca
        clear hca own3 hL3 hch
        generalize hlen : (litsOf n d m a ld j).length = ln at *
        by_cases h5 : 5000 < ln
        · go_wp2_with fail
          refine bodyPost_ret (v := .tuple #[.slice none 0 0, .int .i64 3]) (by simp [results, Try.results37, go_sem]) rfl ?_
          exact ⟨.inr (.inl (by first | exact ⟨HCA.out, by omega, rfl⟩ | exact ⟨HCA.out, rfl⟩)), HB.out⟩
        · have h6 : ¬ (5000 : Int) < (ln : Int) := by omega
          go_wp2_with fail
          refine H1.mono ?_
          rintro e1 w5 ⟨⟨p5, z5, rfl, hL5⟩, hb5⟩
          have HB5 := Lib.hid (chain HB.out hb5)
          have HL5 := Lib.hid hL5
          clear hb5 H1 hL5
          go_wp2_with fail
          refine bodyPost_ret (v := .tuple #[.slice p5 k z5, .int .i64 er]) (by simp [results, Try.results37, go_sem]) rfl ?_
          exact ⟨.inr (.inr ⟨HCA.out, by omega, ⟨p5, z5, rfl, HL5.out⟩⟩), HB5.out⟩
end Go.Proofs.Ytgdncnalahdjeaa
