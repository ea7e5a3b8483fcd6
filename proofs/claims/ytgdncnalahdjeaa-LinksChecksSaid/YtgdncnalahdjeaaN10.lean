/- The reference's Check. -/
import Derived.Test.YtgdncnalahdjeaaN91
import Derived.Test.YtgdncnalahdjeaaN92
import Derived.Test.YtgdncnalahdjeaaN93
import Derived.Test.YtgdncnalahdjeaaN94
import Derived.Test.YtgdncnalahdjeaaN95
import Derived.Test.YtgdncnalahdjeaaN96
import Derived.Test.YtgdncnalahdjeaaN97
import Derived.Test.YtgdncnalahdjeaaN9X
namespace Go.Proofs.Ytgdncnalahdjeaa
open Go Go.RowKit

/-- where the loop stands. -/
def MidR (n : Nat) (d : VD) (m : Nat) (a : AD) (ld : LD) (N : Nat) (base : Nat) (W : World) (j : Nat) (v8 v9 : Value) : Prop :=
  ((j < N ∨ N = 0) ∧ (∀ t, t < j → okAt n d m a ld t = true) ∧ RefAt W base v8 v9 (goL n d m a ld j).1 (goL n d m a ld j).2) ∨
  (j = N ∧ ClosesAll n d m a ld N ∧ ∃ ts, RefAt W base v8 v9 ts (litsOf n d m a ld N))
set_option maxRecDepth 100000 in
set_option maxHeartbeats 8000000 in
theorem refCheck_run (p : Option Addr) (n c : Nat) (d : VD) (q : Option Addr) (m e : Nat) (a : AD) (s : Option Addr) (N cs : Nat) (ld : LD) (k : Nat) (Z : Nat → Int) (w : World) (hd : VertsIn w p n d) (ha : AtomsIn w q m a) (hm : m ≤ 1000000) (hmay : mayB n d m a = true) (hl : LinksIn w s N ld) (hN : N ≤ 300) (hLL : ∀ j, j < N → ld.L j ≤ 30)
    (hT : ∀ i, i < N → -9223372036854775808 ≤ ld.T i ∧ ld.T i ≤ 9223372036854775807)
    (hn : ClosesAll n d m a ld N → ∀ W p c, LitsIn W p (litsOf n d m a ld N).length (fun i => (litsOf n d m a ld N).getD i 0) → Calls Try.prog 64 #[.slice p (litsOf n d m a ld N).length c] W fun e w' => (∃ (q : Option Addr) (d : Nat), e = .returned (.slice q k d) ∧ LitsIn w' q k Z) ∧ Below W.heap.size W w') :
    Calls Try.prog 38 #[.slice p n c, .slice q m e, .slice s N cs] w fun e w' => ((¬ ClosesAll n d m a ld N ∧ e = .returned (.tuple #[.slice none 0 0, .int .i64 5])) ∨ (ClosesAll n d m a ld N ∧ Outs k Z 0 e w')) ∧ Below w.heap.size w w' := by
  have hn2 : n ≤ 20000 := by
    unfold mayB at hmay
    simp only [Bool.and_eq_true, decide_eq_true_eq] at hmay
    exact hmay.1.1.1.1.2
  have HM := refMay17_any p n c d q m e a w hd (by omega) ha (by omega)
  rw [hmay] at HM
  obtain ⟨i54, hi54, hz540, hz541, hz542⟩ := info54
  obtain ⟨i93, hi93, hz930, hz931, hz932⟩ := info93
  have HD := Lib.hid hd
  have HA := Lib.hid ha
  have HL := Lib.hid hl
  have HLL := Lib.hid hLL
  have HT := Lib.hid hT
  have HN := Lib.hid hn
  clear hd ha hmay hl hLL hT hn
  go_enter Try.func38, Try.ntmps38
  go_wp2_with fail
  refine HM.mono ?_
  rintro e0 w1 ⟨rfl, rfl⟩
  clear HM
  obtain ⟨base, hbase⟩ : ∃ b, b = w1.heap.size := ⟨_, rfl⟩
  have HBS := Lib.hid hbase
  clear hbase
  go_wp2_with fail
  go_loopw [8, 9, 10] (fun a8 a9 i wr => ∃ (j : Nat) (x8 x9 : Value), j ≤ N ∧ a8 = x8 ∧ a9 = x9 ∧ i = .int .i64 j ∧ Below w1.heap.size w1 wr ∧ MidR n d m a ld N base wr j x8 x9) (fun _ _ i _ => N - (intOf i).toNat)
  case atStart => exact ⟨0, _, _, by omega, rfl, rfl, rfl, Below.refl _ _, .inl ⟨by omega, fun t ht => by omega, refAt_none _ _⟩⟩
  case round =>
    obtain ⟨j, v8, v9, hj, h8, h9, rfl, hb, hmid⟩ := hrel
    obtain rfl := h8.symm
    obtain rfl := h9.symm
    obtain ⟨wo, rfl⟩ : ∃ wo : World, wo = wr := ⟨_, rfl⟩
    have HB := Lib.hid hb
    clear hb
    by_cases hlt : j < N
    case neg =>
      as_aux_lemma =>
        obtain rfl : j = N := by omega
        rcases hmid with ⟨h0, _, _⟩ | ⟨_, hca, ts, hra⟩
        · obtain rfl : j = 0 := by omega
          have hbz := HB.out
          clear hlt h0
          go_wp2_with fail
          refine bodyPost_ret (v := .tuple #[.slice none 0 0, .int .i64 5]) (by simp [results, Try.results38, go_sem]) rfl ?_
          exact ⟨.inl ⟨fun hca => hca.1 rfl, rfl⟩, hbz⟩
        · obtain ⟨p3, z4, e3, _, hL3, _⟩ := own_in hra.lits rfl
          subst e3
          have hll := litsOf_len n d m a ld j
          have H1 := HN.out hca _ _ z4 hL3
          have hc0 := hca.1
          have HCA := Lib.hid hca
          clear hca hra hL3
          generalize hlen : (litsOf n d m a ld j).length = ln at *
          have HLEN := Lib.hid hlen
          have h6 : ¬ (5000 : Int) < (ln : Int) := by omega
          have h7 : ((j : Int) == 0) = false := by rw [beq_eq_false_iff_ne]; omega
          have hbz := HB.out
          clear hlt hlen
          go_wp2_with fail
          refine H1.mono ?_
          rintro e1 w5 ⟨⟨q5, d5, rfl, hL5⟩, hb5⟩
          have HB5 := Lib.hid (chain hbz hb5)
          have HL5 := Lib.hid hL5
          clear hb5 H1 hL5
          go_wp2_with fail
          refine bodyPost_ret (v := .tuple #[.slice q5 k d5, .int .i64 0]) (by simp [results, Try.results38, go_sem]) rfl ?_
          exact ⟨.inr ⟨HCA.out, ⟨q5, d5, rfl, HL5.out⟩⟩, HB5.out⟩
    have hj3 : (N : Int) ≤ 300 := by omega
    rcases hmid with ⟨_, hok, hra⟩ | ⟨e, _⟩
    rotate_left
    · omega
    have HOK := Lib.hid hok
    obtain ⟨b, off, rfl, hlk⟩ := (HL.out.later HB.out) (by omega)
    have ck := hlk.k j hlt
    have ct := hlk.t j hlt
    have cA := hlk.a j hlt
    have cB := hlk.bb j hlt
    have ci := hlk.i j hlt
    have cj := hlk.j j hlt
    have cp := hlk.p j hlt
    obtain ⟨bw, offw, ew, hlw⟩ := HL.out (by omega)
    have hV := (hlw.v j hlt).1
    have hL := HLL.out j hlt
    have htt := HT.out j hlt
    have hgl := goL_len n d m a ld j
    clear hlk hlw ew bw offw hok
    have HSUC := Lib.hid (show okAt n d m a ld j = (conclL n d m a (goL n d m a ld j).1 (ld.K j) (ld.T j) (ld.A j) (ld.B j) (ld.I j) (ld.J j) (ld.L j) (ld.V j)).2 ∧ goL n d m a ld (j + 1) = ((goL n d m a ld j).1 ++ [(conclL n d m a (goL n d m a ld j).1 (ld.K j) (ld.T j) (ld.A j) (ld.B j) (ld.I j) (ld.J j) (ld.L j) (ld.V j)).1], litsT (ld.K j) (ld.T j) (goL n d m a ld j).2) ∧ (N = j + 1 → (ClosesAll n d m a ld N ↔ closeL m a (goL n d m a ld j).1 (ld.K j) (ld.T j) (ld.I j) = true) ∧ litsOf n d m a ld N = closeT (goL n d m a ld j).1 (ld.K j) (ld.T j) (ld.I j) (goL n d m a ld j).2) from
      ⟨rfl, rfl, fun e => by subst e; exact ⟨⟨fun h => h.2.2, fun h => ⟨by omega, fun i hi => HOK.out i (by omega), h⟩⟩, rfl⟩⟩)
    have HBE := HB.out
    have HBE2 := HBS.out
    have hD1 := HD.out
    have hA1 := HA.out
    obtain ⟨K, hK⟩ : ∃ K, K = ld.K j := ⟨_, rfl⟩
    rw [← hK] at ck HSUC
    clear hK
    by_cases hk1 : K = 1
    · subst hk1
      as_aux_lemma =>
        refine ref38_1 p n c d q m e a b off N cs j base (ld.T j) (ld.A j) (ld.B j) (ld.I j) (ld.J j) (ld.P j) (ld.L j) (ld.C j) (ld.V j) (goL n d m a ld j).1 (goL n d m a ld j).2 v8 v9 ((j : Int) == (N : Int) - 1) w1 wo _ _ _ _ _ _ _ _ _ _ _ _ _ _ _ _ _ _ _ _ _ _ _ _ _ _ _ _ _ _ _ _ _ _ _ _ _ _ _ _ _ _ _ _ _ _ _ _ _ _ _ _ _ _ _ _ _ _ _ _ _ _ _ _ _ _ _ _ _ _ _ _ _ _ _ _ _ _ _ _ _ _ _ _ _ _ _ _ _ _ _ _ _ _ _ _ _ _ _ _ _ _ _ _ _ _ _ _ _ _ _ _ _ _ _ _ _ _ _ _ _ _ _ _ _ _ _ _ _ _ _ _ _ _ _ _ _ _ _ _ _ _ _ _ _ _ _ _ _ _ _ _ _ _ _ _ _ _ _ _ _ _ _ _ _ _ _ _ _ _ _ _ _ _ _ _ _ _ _ _ _ _ _ _ _ _ _ _ _ _ _ _ _ _ _ _ _ _ _ _ _ _ _ _ _ _ _ _ _ _ _ _ _ _ _ _ _ _ _ _ _ _ _ _ _ _ _ _ _ _ _ _ _ _ _ _ _ _ _ _ _ _ _ _ _ _ _ _ _ _ _ _ _ _ _ _ _ _ _ _ _ _ _ _ _ _ _ _ _ _ _ _ _ _ _ _ _ _ _ _ _ _ _ _ _ _ _ _ _ _ _ _ _ _ _ _ _ _ _ _ _ _ _ _ _ _ _ _ _ _ _ _ _ _ _ _ _ _ _ _ _ _ _ _ _ _ _ _ _ _ _ _ _ _ _ _ _ _ _ _ _ _ _ _ _ _ _ _ _ _ _ _ _ _ _ _ _ _ _ _ _ _ _ hD1 hA1 hm hn2 hN hlt HBE2 HBE ck ct cA cB ci cj cp hV hL hra hgl.1 hgl.2 htt rfl ?next ?ret
        case next =>
          intro v8' v9' x y ls' W'
          intros
          rename_i hout hbel hrf
          dsimp only
          go_roundw
          case rel =>
            refine ⟨j + 1, v8', v9', by omega, rfl, rfl, rfl, hbel, ?_⟩
            rcases hout with ⟨hla, hc2, hxy, hlss⟩ | ⟨hla, hcl, hlss⟩
            · have hne : ¬ j + 1 = N := fun e => by rw [beq_eq_false_iff_ne] at hla; omega
              refine .inl ⟨by omega, fun t ht => ?_, by rw [HSUC.out.2.1, ← hxy, ← hlss]; exact hrf⟩
              by_cases htj : t < j
              · exact HOK.out t htj
              · obtain rfl : t = j := by omega
                exact HSUC.out.1.trans hc2
            · have hne : N = j + 1 := by rw [beq_iff_eq] at hla; omega
              exact .inr ⟨hne.symm, ((HSUC.out.2.2 hne).1).2 hcl, _, by rw [(HSUC.out.2.2 hne).2, ← hlss]; exact hrf⟩
          case measure => simp [intOf]; omega
        case ret =>
          intro a' w' hh
          obtain ⟨hdf, v, hr, ⟨hn1, hn2'⟩, he, hbb⟩ := hh
          refine ⟨hdf, v, hr, .inl ⟨fun hca => ?_, he⟩, hbb⟩
          by_cases hjN : N = j + 1
          · have h1 := ((HSUC.out.2.2 hjN).1).1 hca
            rw [hn2' (by rw [beq_iff_eq]; omega)] at h1
            cases h1
          · have h1 := hca.2.1 j (by omega)
            rw [HSUC.out.1, hn1 (by rw [beq_eq_false_iff_ne]; omega)] at h1
            cases h1
    by_cases hk2 : K = 2
    · subst hk2
      as_aux_lemma =>
        refine ref38_2 p n c d q m e a b off N cs j base (ld.T j) (ld.A j) (ld.B j) (ld.I j) (ld.J j) (ld.P j) (ld.L j) (ld.C j) (ld.V j) (goL n d m a ld j).1 (goL n d m a ld j).2 v8 v9 ((j : Int) == (N : Int) - 1) w1 wo _ _ _ _ _ _ _ _ _ _ _ _ _ _ _ _ _ _ _ _ _ _ _ _ _ _ _ _ _ _ _ _ _ _ _ _ _ _ _ _ _ _ _ _ _ _ _ _ _ _ _ _ _ _ _ _ _ _ _ _ _ _ _ _ _ _ _ _ _ _ _ _ _ _ _ _ _ _ _ _ _ _ _ _ _ _ _ _ _ _ _ _ _ _ _ _ _ _ _ _ _ _ _ _ _ _ _ _ _ _ _ _ _ _ _ _ _ _ _ _ _ _ _ _ _ _ _ _ _ _ _ _ _ _ _ _ _ _ _ _ _ _ _ _ _ _ _ _ _ _ _ _ _ _ _ _ _ _ _ _ _ _ _ _ _ _ _ _ _ _ _ _ _ _ _ _ _ _ _ _ _ _ _ _ _ _ _ _ _ _ _ _ _ _ _ _ _ _ _ _ _ _ _ _ _ _ _ _ _ _ _ _ _ _ _ _ _ _ _ _ _ _ _ _ _ _ _ _ _ _ _ _ _ _ _ _ _ _ _ _ _ _ _ _ _ _ _ _ _ _ _ _ _ _ _ _ _ _ _ _ _ _ _ _ _ _ _ _ _ _ _ _ _ _ _ _ _ _ _ _ _ _ _ _ _ _ _ _ _ _ _ _ _ _ _ _ _ _ _ _ _ _ _ _ _ _ _ _ _ _ _ _ _ _ _ _ _ _ _ _ _ _ _ _ _ _ _ _ _ _ _ _ _ _ _ _ _ _ _ _ _ _ _ _ _ _ _ _ _ _ _ _ _ _ _ _ _ _ _ _ _ _ _ hD1 hA1 hm hn2 hN hlt HBE2 HBE ck ct cA cB ci cj cp hV hL hra hgl.1 hgl.2 htt rfl ?next ?ret
        case next =>
          intro v8' v9' x y ls' W'
          intros
          rename_i hout hbel hrf
          dsimp only
          go_roundw
          case rel =>
            refine ⟨j + 1, v8', v9', by omega, rfl, rfl, rfl, hbel, ?_⟩
            rcases hout with ⟨hla, hc2, hxy, hlss⟩ | ⟨hla, hcl, hlss⟩
            · have hne : ¬ j + 1 = N := fun e => by rw [beq_eq_false_iff_ne] at hla; omega
              refine .inl ⟨by omega, fun t ht => ?_, by rw [HSUC.out.2.1, ← hxy, ← hlss]; exact hrf⟩
              by_cases htj : t < j
              · exact HOK.out t htj
              · obtain rfl : t = j := by omega
                exact HSUC.out.1.trans hc2
            · have hne : N = j + 1 := by rw [beq_iff_eq] at hla; omega
              exact .inr ⟨hne.symm, ((HSUC.out.2.2 hne).1).2 hcl, _, by rw [(HSUC.out.2.2 hne).2, ← hlss]; exact hrf⟩
          case measure => simp [intOf]; omega
        case ret =>
          intro a' w' hh
          obtain ⟨hdf, v, hr, ⟨hn1, hn2'⟩, he, hbb⟩ := hh
          refine ⟨hdf, v, hr, .inl ⟨fun hca => ?_, he⟩, hbb⟩
          by_cases hjN : N = j + 1
          · have h1 := ((HSUC.out.2.2 hjN).1).1 hca
            rw [hn2' (by rw [beq_iff_eq]; omega)] at h1
            cases h1
          · have h1 := hca.2.1 j (by omega)
            rw [HSUC.out.1, hn1 (by rw [beq_eq_false_iff_ne]; omega)] at h1
            cases h1
    by_cases hk3 : K = 3
    · subst hk3
      as_aux_lemma =>
        refine ref38_3 p n c d q m e a b off N cs j base (ld.T j) (ld.A j) (ld.B j) (ld.I j) (ld.J j) (ld.P j) (ld.L j) (ld.C j) (ld.V j) (goL n d m a ld j).1 (goL n d m a ld j).2 v8 v9 ((j : Int) == (N : Int) - 1) w1 wo _ _ _ _ _ _ _ _ _ _ _ _ _ _ _ _ _ _ _ _ _ _ _ _ _ _ _ _ _ _ _ _ _ _ _ _ _ _ _ _ _ _ _ _ _ _ _ _ _ _ _ _ _ _ _ _ _ _ _ _ _ _ _ _ _ _ _ _ _ _ _ _ _ _ _ _ _ _ _ _ _ _ _ _ _ _ _ _ _ _ _ _ _ _ _ _ _ _ _ _ _ _ _ _ _ _ _ _ _ _ _ _ _ _ _ _ _ _ _ _ _ _ _ _ _ _ _ _ _ _ _ _ _ _ _ _ _ _ _ _ _ _ _ _ _ _ _ _ _ _ _ _ _ _ _ _ _ _ _ _ _ _ _ _ _ _ _ _ _ _ _ _ _ _ _ _ _ _ _ _ _ _ _ _ _ _ _ _ _ _ _ _ _ _ _ _ _ _ _ _ _ _ _ _ _ _ _ _ _ _ _ _ _ _ _ _ _ _ _ _ _ _ _ _ _ _ _ _ _ _ _ _ _ _ _ _ _ _ _ _ _ _ _ _ _ _ _ _ _ _ _ _ _ _ _ _ _ _ _ _ _ _ _ _ _ _ _ _ _ _ _ _ _ _ _ _ _ _ _ _ _ _ _ _ _ _ _ _ _ _ _ _ _ _ _ _ _ _ _ _ _ _ _ _ _ _ _ _ _ _ _ _ _ _ _ _ _ _ _ _ _ _ _ _ _ _ _ _ _ _ _ _ _ _ _ _ _ _ _ _ _ _ _ _ _ _ _ _ _ _ _ _ _ _ _ _ _ _ _ _ _ _ _ hD1 hA1 hm hn2 hN hlt HBE2 HBE ck ct cA cB ci cj cp hV hL hra hgl.1 hgl.2 htt rfl ?next ?ret
        case next =>
          intro v8' v9' x y ls' W'
          intros
          rename_i hout hbel hrf
          dsimp only
          go_roundw
          case rel =>
            refine ⟨j + 1, v8', v9', by omega, rfl, rfl, rfl, hbel, ?_⟩
            rcases hout with ⟨hla, hc2, hxy, hlss⟩ | ⟨hla, hcl, hlss⟩
            · have hne : ¬ j + 1 = N := fun e => by rw [beq_eq_false_iff_ne] at hla; omega
              refine .inl ⟨by omega, fun t ht => ?_, by rw [HSUC.out.2.1, ← hxy, ← hlss]; exact hrf⟩
              by_cases htj : t < j
              · exact HOK.out t htj
              · obtain rfl : t = j := by omega
                exact HSUC.out.1.trans hc2
            · have hne : N = j + 1 := by rw [beq_iff_eq] at hla; omega
              exact .inr ⟨hne.symm, ((HSUC.out.2.2 hne).1).2 hcl, _, by rw [(HSUC.out.2.2 hne).2, ← hlss]; exact hrf⟩
          case measure => simp [intOf]; omega
        case ret =>
          intro a' w' hh
          obtain ⟨hdf, v, hr, ⟨hn1, hn2'⟩, he, hbb⟩ := hh
          refine ⟨hdf, v, hr, .inl ⟨fun hca => ?_, he⟩, hbb⟩
          by_cases hjN : N = j + 1
          · have h1 := ((HSUC.out.2.2 hjN).1).1 hca
            rw [hn2' (by rw [beq_iff_eq]; omega)] at h1
            cases h1
          · have h1 := hca.2.1 j (by omega)
            rw [HSUC.out.1, hn1 (by rw [beq_eq_false_iff_ne]; omega)] at h1
            cases h1
    by_cases hk4 : K = 4
    · subst hk4
      as_aux_lemma =>
        refine ref38_4 p n c d q m e a b off N cs j base (ld.T j) (ld.A j) (ld.B j) (ld.I j) (ld.J j) (ld.P j) (ld.L j) (ld.C j) (ld.V j) (goL n d m a ld j).1 (goL n d m a ld j).2 v8 v9 ((j : Int) == (N : Int) - 1) w1 wo _ _ _ _ _ _ _ _ _ _ _ _ _ _ _ _ _ _ _ _ _ _ _ _ _ _ _ _ _ _ _ _ _ _ _ _ _ _ _ _ _ _ _ _ _ _ _ _ _ _ _ _ _ _ _ _ _ _ _ _ _ _ _ _ _ _ _ _ _ _ _ _ _ _ _ _ _ _ _ _ _ _ _ _ _ _ _ _ _ _ _ _ _ _ _ _ _ _ _ _ _ _ _ _ _ _ _ _ _ _ _ _ _ _ _ _ _ _ _ _ _ _ _ _ _ _ _ _ _ _ _ _ _ _ _ _ _ _ _ _ _ _ _ _ _ _ _ _ _ _ _ _ _ _ _ _ _ _ _ _ _ _ _ _ _ _ _ _ _ _ _ _ _ _ _ _ _ _ _ _ _ _ _ _ _ _ _ _ _ _ _ _ _ _ _ _ _ _ _ _ _ _ _ _ _ _ _ _ _ _ _ _ _ _ _ _ _ _ _ _ _ _ _ _ _ _ _ _ _ _ _ _ _ _ _ _ _ _ _ _ _ _ _ _ _ _ _ _ _ _ _ _ _ _ _ _ _ _ _ _ _ _ _ _ _ _ _ _ _ _ _ _ _ _ _ _ _ _ _ _ _ _ _ _ _ _ _ _ _ _ _ _ _ _ _ _ _ _ _ _ _ _ _ _ _ _ _ _ _ _ _ _ _ _ _ _ _ _ _ _ _ _ _ _ _ _ _ _ _ _ _ _ _ _ _ _ _ _ _ _ _ _ _ _ _ _ _ _ _ _ _ _ _ _ _ _ _ _ _ _ _ _ _ hD1 hA1 hm hn2 hN hlt HBE2 HBE ck ct cA cB ci cj cp hV hL hra hgl.1 hgl.2 htt rfl ?next ?ret
        case next =>
          intro v8' v9' x y ls' W'
          intros
          rename_i hout hbel hrf
          dsimp only
          go_roundw
          case rel =>
            refine ⟨j + 1, v8', v9', by omega, rfl, rfl, rfl, hbel, ?_⟩
            rcases hout with ⟨hla, hc2, hxy, hlss⟩ | ⟨hla, hcl, hlss⟩
            · have hne : ¬ j + 1 = N := fun e => by rw [beq_eq_false_iff_ne] at hla; omega
              refine .inl ⟨by omega, fun t ht => ?_, by rw [HSUC.out.2.1, ← hxy, ← hlss]; exact hrf⟩
              by_cases htj : t < j
              · exact HOK.out t htj
              · obtain rfl : t = j := by omega
                exact HSUC.out.1.trans hc2
            · have hne : N = j + 1 := by rw [beq_iff_eq] at hla; omega
              exact .inr ⟨hne.symm, ((HSUC.out.2.2 hne).1).2 hcl, _, by rw [(HSUC.out.2.2 hne).2, ← hlss]; exact hrf⟩
          case measure => simp [intOf]; omega
        case ret =>
          intro a' w' hh
          obtain ⟨hdf, v, hr, ⟨hn1, hn2'⟩, he, hbb⟩ := hh
          refine ⟨hdf, v, hr, .inl ⟨fun hca => ?_, he⟩, hbb⟩
          by_cases hjN : N = j + 1
          · have h1 := ((HSUC.out.2.2 hjN).1).1 hca
            rw [hn2' (by rw [beq_iff_eq]; omega)] at h1
            cases h1
          · have h1 := hca.2.1 j (by omega)
            rw [HSUC.out.1, hn1 (by rw [beq_eq_false_iff_ne]; omega)] at h1
            cases h1
    by_cases hk5 : K = 5
    · subst hk5
      as_aux_lemma =>
        refine ref38_5 p n c d q m e a b off N cs j base (ld.T j) (ld.A j) (ld.B j) (ld.I j) (ld.J j) (ld.P j) (ld.L j) (ld.C j) (ld.V j) (goL n d m a ld j).1 (goL n d m a ld j).2 v8 v9 ((j : Int) == (N : Int) - 1) w1 wo _ _ _ _ _ _ _ _ _ _ _ _ _ _ _ _ _ _ _ _ _ _ _ _ _ _ _ _ _ _ _ _ _ _ _ _ _ _ _ _ _ _ _ _ _ _ _ _ _ _ _ _ _ _ _ _ _ _ _ _ _ _ _ _ _ _ _ _ _ _ _ _ _ _ _ _ _ _ _ _ _ _ _ _ _ _ _ _ _ _ _ _ _ _ _ _ _ _ _ _ _ _ _ _ _ _ _ _ _ _ _ _ _ _ _ _ _ _ _ _ _ _ _ _ _ _ _ _ _ _ _ _ _ _ _ _ _ _ _ _ _ _ _ _ _ _ _ _ _ _ _ _ _ _ _ _ _ _ _ _ _ _ _ _ _ _ _ _ _ _ _ _ _ _ _ _ _ _ _ _ _ _ _ _ _ _ _ _ _ _ _ _ _ _ _ _ _ _ _ _ _ _ _ _ _ _ _ _ _ _ _ _ _ _ _ _ _ _ _ _ _ _ _ _ _ _ _ _ _ _ _ _ _ _ _ _ _ _ _ _ _ _ _ _ _ _ _ _ _ _ _ _ _ _ _ _ _ _ _ _ _ _ _ _ _ _ _ _ _ _ _ _ _ _ _ _ _ _ _ _ _ _ _ _ _ _ _ _ _ _ _ _ _ _ _ _ _ _ _ _ _ _ _ _ _ _ _ _ _ _ _ _ _ _ _ _ _ _ _ _ _ _ _ _ _ _ _ _ _ _ _ _ _ _ _ _ _ _ _ _ _ _ _ _ _ _ _ _ _ _ _ _ _ _ _ _ _ _ _ _ _ _ _ ?pan hD1 hA1 hm hn2 hN hlt HBE2 HBE ck ct cA cB ci cj cp hV hL hra hgl.1 hgl.2 htt rfl ?next ?ret
        case pan => exact fun ch a a' w hdd hh => ⟨by rw [← hdd]; exact hh.1, hh.2⟩
        case next =>
          intro v8' v9' x y ls' W'
          intros
          rename_i hout hbel hrf
          dsimp only
          go_roundw
          case rel =>
            refine ⟨j + 1, v8', v9', by omega, rfl, rfl, rfl, hbel, ?_⟩
            rcases hout with ⟨hla, hc2, hxy, hlss⟩ | ⟨hla, hcl, hlss⟩
            · have hne : ¬ j + 1 = N := fun e => by rw [beq_eq_false_iff_ne] at hla; omega
              refine .inl ⟨by omega, fun t ht => ?_, by rw [HSUC.out.2.1, ← hxy, ← hlss]; exact hrf⟩
              by_cases htj : t < j
              · exact HOK.out t htj
              · obtain rfl : t = j := by omega
                exact HSUC.out.1.trans hc2
            · have hne : N = j + 1 := by rw [beq_iff_eq] at hla; omega
              exact .inr ⟨hne.symm, ((HSUC.out.2.2 hne).1).2 hcl, _, by rw [(HSUC.out.2.2 hne).2, ← hlss]; exact hrf⟩
          case measure => simp [intOf]; omega
        case ret =>
          intro a' w' hh
          obtain ⟨hdf, v, hr, ⟨hn1, hn2'⟩, he, hbb⟩ := hh
          refine ⟨hdf, v, hr, .inl ⟨fun hca => ?_, he⟩, hbb⟩
          by_cases hjN : N = j + 1
          · have h1 := ((HSUC.out.2.2 hjN).1).1 hca
            rw [hn2' (by rw [beq_iff_eq]; omega)] at h1
            cases h1
          · have h1 := hca.2.1 j (by omega)
            rw [HSUC.out.1, hn1 (by rw [beq_eq_false_iff_ne]; omega)] at h1
            cases h1
    by_cases hk6 : K = 6
    · subst hk6
      as_aux_lemma =>
        refine ref38_6 p n c d q m e a b off N cs j base (ld.T j) (ld.A j) (ld.B j) (ld.I j) (ld.J j) (ld.P j) (ld.L j) (ld.C j) (ld.V j) (goL n d m a ld j).1 (goL n d m a ld j).2 v8 v9 ((j : Int) == (N : Int) - 1) w1 wo _ _ _ _ _ _ _ _ _ _ _ _ _ _ _ _ _ _ _ _ _ _ _ _ _ _ _ _ _ _ _ _ _ _ _ _ _ _ _ _ _ _ _ _ _ _ _ _ _ _ _ _ _ _ _ _ _ _ _ _ _ _ _ _ _ _ _ _ _ _ _ _ _ _ _ _ _ _ _ _ _ _ _ _ _ _ _ _ _ _ _ _ _ _ _ _ _ _ _ _ _ _ _ _ _ _ _ _ _ _ _ _ _ _ _ _ _ _ _ _ _ _ _ _ _ _ _ _ _ _ _ _ _ _ _ _ _ _ _ _ _ _ _ _ _ _ _ _ _ _ _ _ _ _ _ _ _ _ _ _ _ _ _ _ _ _ _ _ _ _ _ _ _ _ _ _ _ _ _ _ _ _ _ _ _ _ _ _ _ _ _ _ _ _ _ _ _ _ _ _ _ _ _ _ _ _ _ _ _ _ _ _ _ _ _ _ _ _ _ _ _ _ _ _ _ _ _ _ _ _ _ _ _ _ _ _ _ _ _ _ _ _ _ _ _ _ _ _ _ _ _ _ _ _ _ _ _ _ _ _ _ _ _ _ _ _ _ _ _ _ _ _ _ _ _ _ _ _ _ _ _ _ _ _ _ _ _ _ _ _ _ _ _ _ _ _ _ _ _ _ _ _ _ _ _ _ _ _ _ _ _ _ _ _ _ _ _ _ _ _ _ _ _ _ _ _ _ _ _ _ _ _ _ _ _ _ _ _ _ _ _ _ _ _ _ _ _ _ _ _ _ _ _ _ _ _ _ _ _ _ _ _ _ hD1 hA1 hm hn2 hN hlt HBE2 HBE ck ct cA cB ci cj cp hV hL hra hgl.1 hgl.2 htt rfl ?next ?ret
        case next =>
          intro v8' v9' x y ls' W'
          intros
          rename_i hout hbel hrf
          dsimp only
          go_roundw
          case rel =>
            refine ⟨j + 1, v8', v9', by omega, rfl, rfl, rfl, hbel, ?_⟩
            rcases hout with ⟨hla, hc2, hxy, hlss⟩ | ⟨hla, hcl, hlss⟩
            · have hne : ¬ j + 1 = N := fun e => by rw [beq_eq_false_iff_ne] at hla; omega
              refine .inl ⟨by omega, fun t ht => ?_, by rw [HSUC.out.2.1, ← hxy, ← hlss]; exact hrf⟩
              by_cases htj : t < j
              · exact HOK.out t htj
              · obtain rfl : t = j := by omega
                exact HSUC.out.1.trans hc2
            · have hne : N = j + 1 := by rw [beq_iff_eq] at hla; omega
              exact .inr ⟨hne.symm, ((HSUC.out.2.2 hne).1).2 hcl, _, by rw [(HSUC.out.2.2 hne).2, ← hlss]; exact hrf⟩
          case measure => simp [intOf]; omega
        case ret =>
          intro a' w' hh
          obtain ⟨hdf, v, hr, ⟨hn1, hn2'⟩, he, hbb⟩ := hh
          refine ⟨hdf, v, hr, .inl ⟨fun hca => ?_, he⟩, hbb⟩
          by_cases hjN : N = j + 1
          · have h1 := ((HSUC.out.2.2 hjN).1).1 hca
            rw [hn2' (by rw [beq_iff_eq]; omega)] at h1
            cases h1
          · have h1 := hca.2.1 j (by omega)
            rw [HSUC.out.1, hn1 (by rw [beq_eq_false_iff_ne]; omega)] at h1
            cases h1
    by_cases hk7 : K = 7
    · subst hk7
      as_aux_lemma =>
        refine ref38_7 p n c d q m e a b off N cs j base (ld.T j) (ld.A j) (ld.B j) (ld.I j) (ld.J j) (ld.P j) (ld.L j) (ld.C j) (ld.V j) (goL n d m a ld j).1 (goL n d m a ld j).2 v8 v9 ((j : Int) == (N : Int) - 1) w1 wo _ _ _ _ _ _ _ _ _ _ _ _ _ _ _ _ _ _ _ _ _ _ _ _ _ _ _ _ _ _ _ _ _ _ _ _ _ _ _ _ _ _ _ _ _ _ _ _ _ _ _ _ _ _ _ _ _ _ _ _ _ _ _ _ _ _ _ _ _ _ _ _ _ _ _ _ _ _ _ _ _ _ _ _ _ _ _ _ _ _ _ _ _ _ _ _ _ _ _ _ _ _ _ _ _ _ _ _ _ _ _ _ _ _ _ _ _ _ _ _ _ _ _ _ _ _ _ _ _ _ _ _ _ _ _ _ _ _ _ _ _ _ _ _ _ _ _ _ _ _ _ _ _ _ _ _ _ _ _ _ _ _ _ _ _ _ _ _ _ _ _ _ _ _ _ _ _ _ _ _ _ _ _ _ _ _ _ _ _ _ _ _ _ _ _ _ _ _ _ _ _ _ _ _ _ _ _ _ _ _ _ _ _ _ _ _ _ _ _ _ _ _ _ _ _ _ _ _ _ _ _ _ _ _ _ _ _ _ _ _ _ _ _ _ _ _ _ _ _ _ _ _ _ _ _ _ _ _ _ _ _ _ _ _ _ _ _ _ _ _ _ _ _ _ _ _ _ _ _ _ _ _ _ _ _ _ _ _ _ _ _ _ _ _ _ _ _ _ _ _ _ _ _ _ _ _ _ _ _ _ _ _ _ _ _ _ _ _ _ _ _ _ _ _ _ _ _ _ _ _ _ _ _ _ _ _ _ _ _ _ _ _ _ _ _ _ _ _ _ _ _ _ _ _ _ _ _ _ _ _ _ _ _ hD1 hA1 hm hn2 hN hlt HBE2 HBE ck ct cA cB ci cj cp hV hL hra hgl.1 hgl.2 htt rfl ?next ?ret
        case next =>
          intro v8' v9' x y ls' W'
          intros
          rename_i hout hbel hrf
          dsimp only
          go_roundw
          case rel =>
            refine ⟨j + 1, v8', v9', by omega, rfl, rfl, rfl, hbel, ?_⟩
            rcases hout with ⟨hla, hc2, hxy, hlss⟩ | ⟨hla, hcl, hlss⟩
            · have hne : ¬ j + 1 = N := fun e => by rw [beq_eq_false_iff_ne] at hla; omega
              refine .inl ⟨by omega, fun t ht => ?_, by rw [HSUC.out.2.1, ← hxy, ← hlss]; exact hrf⟩
              by_cases htj : t < j
              · exact HOK.out t htj
              · obtain rfl : t = j := by omega
                exact HSUC.out.1.trans hc2
            · have hne : N = j + 1 := by rw [beq_iff_eq] at hla; omega
              exact .inr ⟨hne.symm, ((HSUC.out.2.2 hne).1).2 hcl, _, by rw [(HSUC.out.2.2 hne).2, ← hlss]; exact hrf⟩
          case measure => simp [intOf]; omega
        case ret =>
          intro a' w' hh
          obtain ⟨hdf, v, hr, ⟨hn1, hn2'⟩, he, hbb⟩ := hh
          refine ⟨hdf, v, hr, .inl ⟨fun hca => ?_, he⟩, hbb⟩
          by_cases hjN : N = j + 1
          · have h1 := ((HSUC.out.2.2 hjN).1).1 hca
            rw [hn2' (by rw [beq_iff_eq]; omega)] at h1
            cases h1
          · have h1 := hca.2.1 j (by omega)
            rw [HSUC.out.1, hn1 (by rw [beq_eq_false_iff_ne]; omega)] at h1
            cases h1
    have hk : ∀ i : Int, 1 ≤ i → i ≤ 7 → K ≠ i := fun i h1 h2 e => by omega
    as_aux_lemma =>
      refine ref38_X p n c d q m e a b off N cs j base K (ld.T j) (ld.A j) (ld.B j) (ld.I j) (ld.J j) (ld.P j) (ld.L j) (ld.C j) (ld.V j) (goL n d m a ld j).1 (goL n d m a ld j).2 v8 v9 ((j : Int) == (N : Int) - 1) w1 wo _ _ _ _ _ _ _ _ _ _ _ _ _ _ _ _ _ _ _ _ _ _ _ _ _ _ _ _ _ _ _ _ _ _ _ _ _ _ _ _ _ _ _ _ _ _ _ _ _ _ _ _ _ _ _ _ _ _ _ _ _ _ _ _ _ _ _ _ _ _ _ _ _ _ _ _ _ _ _ _ _ _ _ _ _ _ _ _ _ _ _ _ _ _ _ _ _ _ _ _ _ _ _ _ _ _ _ _ _ _ _ _ _ _ _ _ _ _ _ _ _ _ _ _ _ _ _ _ _ _ _ _ _ _ _ _ _ _ _ _ _ _ _ _ _ _ _ _ _ _ _ _ _ _ _ _ _ _ _ _ _ _ _ _ _ _ _ _ _ _ _ _ _ _ _ _ _ _ _ _ _ _ _ _ _ _ _ _ _ _ _ _ _ _ _ _ _ _ _ _ _ _ _ _ _ _ _ _ _ _ _ _ _ _ _ _ _ _ _ _ _ _ _ _ _ _ _ _ _ _ _ _ _ _ _ _ _ _ _ _ _ _ _ _ _ _ _ _ _ _ _ _ _ _ _ _ _ _ _ _ _ _ _ _ _ _ _ _ _ _ _ _ _ _ _ _ _ _ _ _ _ _ _ _ _ _ _ _ _ _ _ _ _ _ _ _ _ _ _ _ _ _ _ _ _ _ _ _ _ _ _ _ _ _ _ _ _ _ _ _ _ _ _ _ _ _ _ _ _ _ _ _ _ _ _ _ _ _ _ _ _ _ _ _ _ _ _ _ _ _ _ _ _ _ _ _ _ _ _ _ _ _ _ hk hD1 hA1 hm hn2 hN hlt HBE2 HBE ck ct cA cB ci cj cp hV hL hra hgl.1 hgl.2 htt rfl ?next ?ret
      case next =>
        intro v8' v9' x y ls' W'
        intros
        rename_i hout hbel hrf
        dsimp only
        go_roundw
        case rel =>
          refine ⟨j + 1, v8', v9', by omega, rfl, rfl, rfl, hbel, ?_⟩
          rcases hout with ⟨hla, hc2, hxy, hlss⟩ | ⟨hla, hcl, hlss⟩
          · have hne : ¬ j + 1 = N := fun e => by rw [beq_eq_false_iff_ne] at hla; omega
            refine .inl ⟨by omega, fun t ht => ?_, by rw [HSUC.out.2.1, ← hxy, ← hlss]; exact hrf⟩
            by_cases htj : t < j
            · exact HOK.out t htj
            · obtain rfl : t = j := by omega
              exact HSUC.out.1.trans hc2
          · have hne : N = j + 1 := by rw [beq_iff_eq] at hla; omega
            exact .inr ⟨hne.symm, ((HSUC.out.2.2 hne).1).2 hcl, _, by rw [(HSUC.out.2.2 hne).2, ← hlss]; exact hrf⟩
        case measure => simp [intOf]; omega
      case ret =>
        intro a' w' hh
        obtain ⟨hdf, v, hr, ⟨hn1, hn2'⟩, he, hbb⟩ := hh
        refine ⟨hdf, v, hr, .inl ⟨fun hca => ?_, he⟩, hbb⟩
        by_cases hjN : N = j + 1
        · have h1 := ((HSUC.out.2.2 hjN).1).1 hca
          rw [hn2' (by rw [beq_iff_eq]; omega)] at h1
          cases h1
        · have h1 := hca.2.1 j (by omega)
          rw [HSUC.out.1, hn1 (by rw [beq_eq_false_iff_ne]; omega)] at h1
          cases h1
end Go.Proofs.Ytgdncnalahdjeaa
