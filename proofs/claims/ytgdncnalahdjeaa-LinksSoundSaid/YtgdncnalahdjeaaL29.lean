/- LinksSound: the law's walk. -/
import Derived.Test.YtgdncnalahdjeaaL25
import Derived.Test.YtgdncnalahdjeaaL28
namespace Go.Proofs.Ytgdncnalahdjeaa
open Go Go.RowKit

theorem anyB_all {n : Nat} {f : Nat → Bool} (h : anyB n (fun i => !f i) = false) : ∀ i, i < n → f i = true := by
  intro i hi
  cases hx : f i with
  | true => rfl
  | false => rw [anyB_yes (f := fun i => !f i) i hi (by rw [hx]; rfl)] at h; cases h
theorem mayB_gives {n : Nat} {d : VD} {m : Nat} {a : AD} (h : mayB n d m a = true) : 2 ≤ n ∧ n ≤ 20000 ∧ (∀ i, i < n → ∀ k, k < d.L i → isV n (d.V i k) = true) ∧ (∀ i, i < m → atomOK n a i = true) := by
  unfold mayB at h
  simp only [Bool.and_eq_true, decide_eq_true_eq, Bool.not_eq_true'] at h
  obtain ⟨⟨⟨⟨⟨h1, h2⟩, _⟩, _⟩, h5⟩, h6⟩ := h
  refine ⟨h1, h2, fun i hi k hk => ?_, anyB_all h6⟩
  have hv := anyB_all h5 i hi
  unfold vertOK at hv
  simp only [Bool.and_eq_true, Bool.not_eq_true'] at hv
  exact anyB_all hv.2 k hk
theorem goL_ok {n : Nat} {d : VD} {m : Nat} {a : AD} {ld : LD} : ∀ k, (∀ i, i < k → okAt n d m a ld i = true) → ∀ l ∈ (goL n d m a ld k).2, okL m l = true
  | 0, _, l, hl => by cases hl
  | k + 1, h, l, hl => by
    have ih := goL_ok k (fun i hi => h i (by omega))
    have hl' : l ∈ litsT (ld.K k) (ld.T k) (goL n d m a ld k).2 := hl
    unfold litsT at hl'
    by_cases k1 : ld.K k = 1
    · rw [if_pos k1] at hl'
      rcases List.mem_append.1 hl' with h1 | h1
      · exact ih l h1
      · rw [List.mem_singleton] at h1
        subst h1
        have ho := h k (by omega)
        unfold okAt conclL at ho
        rw [if_pos k1] at ho
        unfold toldL at ho
        cases hx : okL m (ld.T k) with
        | true => rfl
        | false => rw [hx] at ho; simp at ho
    · rw [if_neg k1] at hl'
      exact ih l hl'
theorem lits_ok {n : Nat} {d : VD} {m : Nat} {a : AD} {ld : LD} {N : Nat} (h : ClosesAll n d m a ld N) : ∀ l ∈ litsOf n d m a ld N, okL m l = true := by
  intro l hl
  have h0 := goL_ok (N - 1) h.2.1
  unfold litsOf closeT at hl
  split at hl
  · rename_i hc
    rcases List.mem_append.1 hl with h1 | h1
    · exact h0 l h1
    · rw [List.mem_singleton] at h1
      subst h1
      have h2 := h.2.2
      unfold closeL at h2
      rw [if_neg (by omega), if_pos hc.2] at h2
      simp only [Bool.and_eq_true] at h2
      exact h2.2.1.1.1
  · exact h0 l hl
set_option maxRecDepth 100000 in
set_option maxHeartbeats 800000 in
theorem lsound_any (n : Nat) (d : VD) (m : Nat) (a : AD) (ld : LD) (N : Nat) (p : Option Addr) (cv : Nat) (q : Option Addr) (ca : Nat) (s : Option Addr) (cs : Nat) (u : Option Addr) (nv cu : Nat) (U : Nat → Int) (w : World) (hd : VertsIn w p n d) (ha : AtomsIn w q m a) (hl : LinksIn w s N ld) (hu : LitsIn w u nv U) (hn : n ≤ 9223372036854775807) (hm : m ≤ 9223372036854775807) (hN : N ≤ 9223372036854775807) (hnv : nv ≤ 9223372036854775807) (hT : ∀ i, i < N → -9223372036854775808 ≤ ld.T i ∧ ld.T i ≤ 9223372036854775807) :
    Calls Try.prog 13 #[.slice p n cv, .slice q m ca, .slice s N cs, .slice u nv cu] w fun e w' => e = .returned (.bool true) ∧ Below w.heap.size w w' := by
  have HK := Lib.hid (fun W => known_any W)
  have H1 := large_any n d m N ld p cv q ca s cs w hd hl hn hm hN
  have HD := Lib.hid hd
  have HA := Lib.hid ha
  have HL := Lib.hid hl
  have HU := Lib.hid hu
  have HT := Lib.hid hT
  clear hd ha hl hu hT
  obtain ⟨lb, hlb⟩ : ∃ lb, largeB n d m N ld = lb := ⟨_, rfl⟩
  rw [hlb] at H1
  go_enter Try.func13, Try.ntmps13
  go_wp2_with fail
  refine H1.mono ?_
  rintro e w1 ⟨rfl, hb1⟩
  have HB1 := Lib.hid hb1
  clear hb1 H1
  have key : lb = true ∨ (lb = false ∧ 200 < nv) ∨ (lb = false ∧ ¬ 200 < nv) := by cases lb <;> simp <;> omega
  rcases key with rfl | ⟨rfl, g1⟩ | ⟨rfl, g1⟩
  · clear hlb
    go_wp2_with fail
    refine (HK.out _).mono ?_
    rintro e w2 ⟨rfl, hb2⟩
    have HBK := Lib.hid (chain HB1.out hb2)
    clear hb2
    go_wp2_with fail
    go_ret
    exact ⟨rfl, HBK.out⟩
  · clear hlb
    have u1 : (200 : Int) < (nv : Int) := by omega
    go_wp2_with fail
    refine (HK.out _).mono ?_
    rintro e w2 ⟨rfl, hb2⟩
    have HBK := Lib.hid (chain HB1.out hb2)
    clear hb2
    go_wp2_with fail
    go_ret
    exact ⟨rfl, HBK.out⟩
  have hsz := largeB_no hlb
  clear hlb
  have u1 : ¬ (200 : Int) < (nv : Int) := by omega
  obtain ⟨k, Z, er, hk5, hN1, hN0, hNC, _⟩ := normal_same (litsOf n d m a ld N).length (fun i => (litsOf n d m a ld N).getD i 0) (by have := litsOf_len n d m a ld N; omega)
  have H3 := check_zero n d m a ld N k Z er (fun h => (hN1 h).1) (fun h => (hN0 h).1) hNC p cv q ca s cs w1 (HD.out.later HB1.out) (HA.out.later HB1.out) (HL.out.later HB1.out) hn (by omega) (by omega) HT.out
  have HN1 := Lib.hid hN1
  have HN0 := Lib.hid hN0
  clear hN1 hN0 hNC
  go_wp2_with fail
  refine H3.mono ?_
  rintro e w3 ⟨r1, k1, c1, er1, rfl, he1, hb3⟩
  have HB3 := Lib.hid (chain HB1.out hb3)
  have HE1 := Lib.hid he1
  clear hb3 he1 H3 HB1
  by_cases h0 : er1 = 0
  rotate_left
  · have u3 : (er1 != 0) = true := by simpa using h0
    have u4 : (er1 == 0) = false := by simpa using h0
    clear h0
    go_wp2_with fail
    refine (HK.out _).mono ?_
    rintro e w2 ⟨rfl, hb2⟩
    have HBK := Lib.hid (chain HB3.out hb2)
    clear hb2
    go_wp2_with fail
    go_ret
    exact ⟨rfl, HBK.out⟩
  subst h0
  obtain ⟨hmay, hca, h5, rfl, rfl, hL1⟩ := HE1.out rfl
  have HG := Lib.hid (mayB_gives hmay)
  have HCA := Lib.hid hca
  have HL1 := Lib.hid hL1
  have hMP : MayP (litsOf n d m a ld N).length (fun i => (litsOf n d m a ld N).getD i 0) := by
    by_cases hx : MayP (litsOf n d m a ld N).length (fun i => (litsOf n d m a ld N).getD i 0)
    · exact hx
    · have := (HN0.out hx).1; omega
  obtain ⟨_, lt, hlt, hkk, hZ⟩ := HN1.out hMP
  have hmem : ∀ x, x ∈ formL lt ↔ x ∈ litsOf n d m a ld N := fun x => by rw [(formL_spec lt).2 x, hlt x]; exact getD_mem_iff _ x
  have hZm : ∀ t, t < k1 → Z t ∈ litsOf n d m a ld N := fun t ht => by
    rw [← hmem, hZ]
    show (formL lt).getD t 0 ∈ formL lt
    exact (getD_mem_iff (formL lt) _).1 ⟨t, by omega, rfl⟩
  have hall : (∀ t, t < k1 → holdV a U (Z t) = true) → ∀ l ∈ litsOf n d m a ld N, holdV a U l = true := fun h l hl => by
    obtain ⟨t, ht, he⟩ := (getD_mem_iff (formL lt) l).2 ((hmem l).2 hl)
    have := h t (by omega)
    rw [hZ] at this
    rw [← he]
    exact this
  have HZM := Lib.hid hZm
  have HALL := Lib.hid hall
  clear HE1 hmay hca h5 hL1 hMP hlt hkk hZ hmem hZm hall HN1 HN0
  have H4 := fits_any n d p cv u nv cu U w3 (HD.out.later HB3.out) (HU.out.later HB3.out) HG.out.1 (by omega) hnv HG.out.2.2.1
  go_wp2_with fail
  refine H4.mono ?_
  rintro e w4 ⟨g, rfl, hfit, hb4⟩
  have HB4 := Lib.hid (chain HB3.out hb4)
  have HF := Lib.hid hfit
  replace HL1 := Lib.hid (HL1.out.later hb4)
  clear hb4 hfit H4
  cases g
  · skip
    go_wp2_with fail
    refine (HK.out _).mono ?_
    rintro e w2 ⟨rfl, hb2⟩
    have HBK := Lib.hid (chain HB4.out hb2)
    clear hb2
    go_wp2_with fail
    go_ret
    exact ⟨rfl, HBK.out⟩
  have HFP := Lib.hid (HF.out rfl)
  clear HF
  go_wp2_with fail
  go_loopw [41] (fun i wr => ∃ j : Nat, j ≤ k1 ∧ i = .int .i64 j ∧ Below w4.heap.size w4 wr ∧ ∀ t, t < j → holdV a U (Z t) = true) (fun i _ => k1 - (intOf i).toNat)
  case atStart => exact ⟨0, by omega, rfl, Below.refl _ _, fun t ht => by omega⟩
  case round =>
    obtain ⟨j, hj, rfl, hb, hin⟩ := hrel
    have HIN := Lib.hid hin
    have HBr := Lib.hid hb
    clear hb hin
    by_cases hlt : j < k1
    · have j0 : (0 : Int) ≤ (j : Int) := by omega
      have j1 : (j : Int) < (k1 : Int) := by omega
      obtain ⟨b1, o1, rfl, gg⟩ := (HL1.out.later HBr.out) (by omega)
      have x1 := gg j hlt
      clear gg
      have hok := lits_ok HCA.out _ (HZM.out j hlt)
      have HNEW := Lib.hid (show holdV a U (Z j) = true → ∀ t, t < j + 1 → holdV a U (Z t) = true from fun h t ht => by
        by_cases htj : t < j
        · exact HIN.out t htj
        · obtain rfl : t = j := by omega
          exact h)
      obtain ⟨l, hZl⟩ : ∃ l, Z j = l := ⟨_, rfl⟩
      rw [hZl] at x1 hok HNEW
      clear hZl
      unfold okL absI at hok
      simp only [Bool.and_eq_true, decide_eq_true_eq, bne_iff_ne, ne_eq] at hok
      obtain ⟨⟨⟨p1, p2⟩, p3⟩, p4⟩ := hok
      have u1 : ¬ max l (-l) < 1 := by omega
      have u2 := decide_eq_false u1
      have u3 : ¬ (m : Int) < max l (-l) := by omega
      have u4 := decide_eq_false u3
      have HP := Lib.hid (And.intro p1 p4)
      have hbz := chain HB4.out HBr.out
      clear p1 p4
      go_wp2_with fail
      go_quiet (fail)
      skip
      have HBd := Lib.hid (hbz.trans ((below_drewN wr nq).mono hbz.size))
      have y1 := cell_later (below_drewN wr nq) x1
      clear x1 hbz
      have H5 := holds_one q m ca a u nv cu U n l (wr.drewN nq) (HA.out.later HBd.out) (HU.out.later HBd.out) (by omega) HFP.out.1 HG.out.1 hnv HP.out.1 (by have := HP.out.2; omega) (HG.out.2.2.2 _ (by have := HP.out; omega))
      obtain ⟨hv, hhv⟩ : ∃ hv, holdV a U l = hv := ⟨_, rfl⟩
      rw [hhv] at H5 HNEW
      clear hhv
      have HBw4 := Lib.hid (HBr.out.trans ((below_drewN wr nq).mono HBr.out.size))
      generalize wr.drewN nq = wz at *
      go_wp2_with fail
      refine H5.mono ?_
      rintro e w5 ⟨rfl, hb5⟩
      have HB5 := Lib.hid (chain HBd.out hb5)
      have HBw5 := Lib.hid (HBw4.out.trans (hb5.mono HBw4.out.size))
      clear hb5 H5
      cases hv
      · skip
        go_wp2_with fail
        refine (HK.out _).mono ?_
        rintro e w2 ⟨rfl, hb2⟩
        have HBK := Lib.hid (chain HB5.out hb2)
        clear hb2
        go_wp2_with fail
        go_ret
        exact ⟨rfl, HBK.out⟩
      · have hbz := HBw5.out
        go_wp2_with fail
        go_roundw
        case rel => exact ⟨j + 1, by omega, by go_num, hbz, HNEW.out trivial⟩
        case measure => simp [intOf]; omega
    · obtain rfl : j = k1 := by omega
      exact (closes_false HFP.out.2 HCA.out (HALL.out (fun t ht => HIN.out t ht))).elim
end Go.Proofs.Ytgdncnalahdjeaa
