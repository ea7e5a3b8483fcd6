/- The text of a sign and a row of ten digits. -/
import Derived.Test.YtmfmdcapanaajaaDoorLong
import Derived.Test.YtmfmdcapanaajaaDoorRefText
namespace Go.Proofs.YtmfmdcapanaajaaDoor
open Go Go.RowKit Go.Sort

theorem ndig_le : ∀ (k v : Nat), 1 ≤ k → v < 10 ^ k → Lib.nDigits v ≤ k := by
  intro k
  induction k with
  | zero => intro v h; omega
  | succ k ih =>
    intro v _ hv
    by_cases h : v < 10
    · rw [Lib.nDigits_small h]; omega
    · rw [Lib.nDigits_big h]
      rw [Nat.pow_succ] at hv
      by_cases hk : k = 0
      · subst hk; simp at hv; omega
      · have := ih (v / 10) (by omega) (by omega)
        omega

/-- the text so far: N is m, then t. -/
def TN (N m : Int) (t : List UInt8) : Prop := 0 ≤ m ∧ m < 1461501637330902918203684832716283019655932542976 ∧ Lib.decDigits N.toNat = (if m = 0 then [] else Lib.decDigits m.toNat) ++ t ∧ t.length ≤ Lib.nDigits N.toNat ∧ (m ≠ 0 → t.length < Lib.nDigits N.toNat)
theorem tn_start (N : Int) (h0 : 0 < N) (h1 : N < 1461501637330902918203684832716283019655932542976) : TN N N [] :=
  ⟨by omega, h1, by rw [if_neg (by omega)]; simp, by simp, fun _ => Lib.nDigits_pos _⟩
theorem tn_step (N m : Int) (l : List UInt8) (h : TN N m l) (hm : m ≠ 0) : TN N (m / 10) (dgt m :: l) := by
  obtain ⟨h0, h1, h2, h3, h4⟩ := h
  rw [if_neg hm] at h2
  have hl := h4 hm
  have ed : (m / 10).toNat = m.toNat / 10 := by omega
  have key : Lib.decDigits N.toNat = (if m / 10 = 0 then [] else Lib.decDigits (m / 10).toNat) ++ dgt m :: l := by
    unfold dgt
    rw [h2]
    by_cases hs : m.toNat < 10
    · rw [if_pos (by omega), Lib.decDigits_one hs]
      simp [show m.toNat % 10 = m.toNat by omega]
    · rw [if_neg (by omega), ed, Lib.decDigits, dif_neg hs]
      simp
  refine ⟨by omega, by omega, key, by simp only [List.length_cons]; omega, fun hm2 => ?_⟩
  have hlen := congrArg List.length key
  rw [if_neg hm2, List.length_append, Lib.decDigits_length, Lib.decDigits_length] at hlen
  have := Lib.nDigits_pos (m / 10).toNat
  omega
/-- a step of the long division. -/
theorem long_q (x : Int) (k : Nat) : (X x (k + 1) % 10 * 65536 + G x k) / 10 = G (x / 10) k := by
  have e : X (x / 10) k = X x k / 10 := by
    unfold X
    have hp : (0 : Int) ≤ 65536 ^ k := Int.pow_nonneg (by omega)
    rw [Int.ediv_ediv_of_nonneg (by omega), Int.ediv_ediv_of_nonneg hp, Int.mul_comm]
  have s := X_succ x k
  have g : X x k = X x (k + 1) * 65536 + G x k := by unfold G; omega
  have b := G_bd x k
  show _ = X (x / 10) k % 65536
  rw [e]
  generalize X x k = A at *
  generalize X x (k + 1) = B at *
  generalize G x k = C at *
  omega
theorem long_r (x : Int) (k : Nat) : (X x (k + 1) % 10 * 65536 + G x k) % 10 = X x k % 10 := by
  have s := X_succ x k
  have g : X x k = X x (k + 1) * 65536 + G x k := by unfold G; omega
  omega
/-- a row of which the upper digits are the quotient's. -/
structure Mix (W : World) (b : Nat) (x : Int) (i : Nat) : Prop where
  low : ∀ j, j < i → W.cell? ⟨b, j, none⟩ = some (.int .i64 (G x j))
  high : ∀ j, i ≤ j → j < 10 → W.cell? ⟨b, j, none⟩ = some (.int .i64 (G (x / 10) j))
  free : ∀ j, W.frozen? ⟨b, j, none⟩ = false
theorem mix_start {W : World} {b : Nat} {x : Int} (h : RowF W b x) (hf : ∀ j, W.frozen? ⟨b, j, none⟩ = false) : Mix W b x 10 := ⟨fun j hj => h j hj, fun j h1 h2 => by omega, hf⟩
theorem mix_end {W : World} {b : Nat} {x : Int} (h : Mix W b x 0) : RowF W b (x / 10) := fun j hj => h.high j (by omega) hj
theorem mix_step {W : World} {b : Nat} {x : Int} {k : Nat} (h : Mix W b x (k + 1)) : Mix (W.setCell ⟨b, k, none⟩ (.int .i64 (G (x / 10) k))) b x k := by
  refine ⟨fun j hj => ?_, fun j h1 h2 => ?_, fun j => ?_⟩
  · rw [World.cell?_setCell_other _ _ _ _ (by intro e; injection e with _ e2 _; omega)]
    exact h.low j (by omega)
  · by_cases hji : j = k
    · subst hji
      exact World.cell?_setCell_same _ _ _ (h.low j (by omega))
    · rw [World.cell?_setCell_other _ _ _ _ (by intro e; apply hji; injection e with _ e2 _; exact e2.symm)]
      exact h.high j (by omega) h2
  · simp [go_sem, h.free j]
theorem RowF.lt {W : World} {b : Nat} {x : Int} (h : RowF W b x) : b < W.heap.size := World.block_lt_of_cell? W ⟨b, 0, none⟩ (h 0 (by omega))
theorem rowF_range {W : World} {b : Nat} {x : Int} (h : RowF W b x) : W.rangeAt b 0 (rowG x).toList := by
  intro j v hv
  rw [Nat.zero_add]
  have hj : j < 10 := by
    rcases Nat.lt_or_ge j 10 with h | h
    · exact h
    · rw [List.getElem?_eq_none (by simpa using h)] at hv; cases hv
  rw [h j hj]
  match j, hj with
  | 0, _ => exact hv
  | 1, _ => exact hv
  | 2, _ => exact hv
  | 3, _ => exact hv
  | 4, _ => exact hv
  | 5, _ => exact hv
  | 6, _ => exact hv
  | 7, _ => exact hv
  | 8, _ => exact hv
  | 9, _ => exact hv
def tmeas (N : Int) (v : Value) : Nat := Lib.nDigits N.toNat + 1 - strLn v
theorem tmeas_less (N : Int) (c : UInt8) (l : List UInt8) (h : l.length ≤ Lib.nDigits N.toNat) : tmeas N (.string ((⟨#[c]⟩ : ByteArray) ++ (⟨l.toArray⟩ : ByteArray))) < tmeas N (.string ⟨l.toArray⟩) := by
  unfold tmeas
  rw [show strLn (.string ((⟨#[c]⟩ : ByteArray) ++ (⟨l.toArray⟩ : ByteArray))) = l.length + 1 by simp [strLn, ByteArray.size], show strLn (.string (⟨l.toArray⟩ : ByteArray)) = l.length by simp [strLn, ByteArray.size]]
  omega

set_option maxRecDepth 100000 in
set_option maxHeartbeats 4000000 in
theorem text_n (neg : Bool) (n : Int) (w : World) (h0 : 0 < n) (h1 : n < 1461501637330902918203684832716283019655932542976) :
    Calls Tryd.prog 19 #[.agg (longV neg n)] w fun e w' => e = .returned (.string ⟨((if neg then [45] else []) ++ Lib.decDigits n.toNat).toArray⟩) ∧ Below w.heap.size w w' := by
  have hnd : Lib.nDigits n.toNat ≤ 49 := ndig_le 49 n.toNat (by omega) (by rw [show (10 : Nat) ^ 49 = 10000000000000000000000000000000000000000000000000 by decide]; omega)
  have HST := Lib.hid (tn_start n h0 h1)
  have HZ := fun W => zeroG_any n W (by omega) h1
  rw [decide_eq_false (show ¬ n = 0 by omega)] at HZ
  clear h0 h1
  go_enter Tryd.func19, Tryd.ntmps19
  have hA0 := rangeAt_new w (longV neg n) 27
  have hB0 := (Below.refl w.heap.size w).alloc (Nat.le_refl _) (.cells (longV neg n) 27)
  have hs0 : w.heap.size + 1 ≤ (w.alloc (.cells (longV neg n) 27)).heap.size := by rw [World.size_alloc]; omega
  have HA0 := Lib.hid hA0
  clear hA0
  go_wp2_with (first | (refine wpList_load_mid rfl 25 _ rfl w.heap.size 1 rfl (rowG n).toList _ (by exact rangeAt_row HA0.out) Tryd.underlying25 rfl (by kernel_rfl) ?_))
  refine (HZ _).mono ?_
  rintro e w1 ⟨rfl, hb⟩
  have hA1 := rangeAt_later HA0.out hb
  have hg1 : w1.cell? ⟨w.heap.size, 0, none⟩ = some (.bool neg) := rangeAt_cell hA1
  have HA1 := Lib.hid hA1
  have hB1 := chainB' hB0 hb (by omega)
  have hs1 := Nat.le_trans hs0 hb.size
  clear HA0 hB0 hs0 hb hA1
  have hrow := rowF_new w1 n 25
  have hfre : ∀ j, (w1.alloc (.cells (rowG n) 25)).frozen? ⟨w1.heap.size, j, none⟩ = false := fun j => World.frozen?_alloc_new _ _ _ _
  have hg2 := cell_later ((Below.refl _ w1).alloc (Nat.le_refl _) (.cells (rowG n) 25)) hg1
  have hB2 := hB1.alloc (by omega) (.cells (rowG n) 25)
  have HROW := Lib.hid hrow
  have HFRE := Lib.hid hfre
  have HG2 := Lib.hid hg2
  have HB2 := Lib.hid hB2
  clear hrow hfre hg2 hB2 hg1 hB1
  go_wp2_with (first | (refine wpList_load_mid rfl 25 _ rfl w.heap.size 1 rfl (rowG n).toList _ (by first | exact rangeAt_row HA1.out | exact World.rangeAt_alloc (rangeAt_row HA1.out) _) Tryd.underlying25 rfl (by kernel_rfl) ?_))
  generalize (w1.alloc (.cells (rowG n) 25)) = W at *
  generalize hBk : w1.heap.size = B at *
  clear hBk
  go_loopw [3, 5, 6] (fun t _ _ wr => ∃ (m : Int) (l : List UInt8), t = .string ⟨l.toArray⟩ ∧ TN n m l ∧ RowF wr B m ∧ (∀ j, wr.frozen? ⟨B, j, none⟩ = false) ∧ wr.cell? ⟨w.heap.size, 0, none⟩ = some (.bool neg) ∧ Below w.heap.size w wr) (fun t _ _ _ => tmeas n t)
  case atStart => exact ⟨n, [], rfl, HST.out, HROW.out, HFRE.out, HG2.out, HB2.out⟩
  case round =>
    obtain ⟨m, l, rfl, hT, hR, hF, hg, hb⟩ := hrel
    have HT := Lib.hid hT
    have HR := Lib.hid hR
    have HF := Lib.hid hF
    have HG := Lib.hid hg
    have HB := Lib.hid hb
    have hlen := hT.2.2.2.1
    have HZM := fun W => zeroG_any m W hT.1 hT.2.1
    clear hT hR hF hg hb HROW HFRE HG2 HB2 HA1
    by_cases hm : m = 0
    · rw [decide_eq_true hm] at HZM
      have HM := Lib.hid hm
      clear hm
      go_wp2_with (first | (refine wpList_load_mid rfl 25 _ rfl B 0 rfl (rowG m).toList _ (by exact rowF_range HR.out) Tryd.underlying25 rfl (by kernel_rfl) ?_))
      refine (HZM _).mono ?_
      rintro e w2 ⟨rfl, hb2⟩
      have hg2 := cell_later hb2 HG.out
      have hB2 := chainB' HB.out hb2 (HB.out).size
      clear hb2 HB HG HR HF
      have hfin : Lib.decDigits n.toNat = l := by have := HT.out.2.2.1; rw [if_pos HM.out] at this; simpa using this
      have HFIN := Lib.hid hfin
      clear hfin
      have hl2 : l.length ≤ 49 := by omega
      cases neg
      · go_wp2_with fail
        go_ret
        exact ⟨by rw [HFIN.out]; rfl, hB2⟩
      · go_wp2_with fail
        go_ret
        refine ⟨?_, hB2⟩
        rw [HFIN.out]
        exact congrArg (fun b => Ending.returned (Value.string b)) (ByteArray.ext (by simp))
    · rw [decide_eq_false hm] at HZM
      have HM := Lib.hid hm
      clear hm
      go_wp2_with (first | (refine wpList_load_mid rfl 25 _ rfl B 0 rfl (rowG m).toList _ (by exact rowF_range HR.out) Tryd.underlying25 rfl (by kernel_rfl) ?_))
      refine (HZM _).mono ?_
      rintro e w2 ⟨rfl, hb2⟩
      have HG2 := Lib.hid (cell_later hb2 HG.out)
      have HB2 := Lib.hid (chainB' HB.out hb2 (HB.out).size)
      have HMX := Lib.hid (mix_start (HR.out.below hb2) (fun j => (hb2.frozen (p := ⟨B, j, none⟩) (RowF.lt HR.out)).trans (HF.out j)))
      have HNE := Lib.hid (show w.heap.size < B by omega)
      clear hb2 HB HG HR HF
      go_wp2_with fail
      go_loopw [5, 6] (fun r i wr => ∃ j : Nat, j ≤ 10 ∧ r = .int .i64 (X m j % 10) ∧ i = .int .i64 ((j : Int) - 1) ∧ Mix wr B m j ∧ wr.cell? ⟨w.heap.size, 0, none⟩ = some (.bool neg) ∧ Below w.heap.size w wr) (fun _ i _ => (intOf i + 1).toNat)
      case atStart => exact ⟨10, by omega, by rw [X_ten m HT.out.1 HT.out.2.1]; rfl, rfl, HMX.out, HG2.out, HB2.out⟩
      case round =>
        obtain ⟨j, hj, rfl, rfl, hmx, hg, hb⟩ := hrel
        have HG := Lib.hid hg
        have HB := Lib.hid hb
        have HX := Lib.hid hmx
        clear hg hb hmx HMX HG2 HB2
        by_cases hj0 : 1 ≤ j
        · obtain ⟨k, rfl⟩ : ∃ k, j = k + 1 := ⟨j - 1, by omega⟩
          have hk : ((k + 1 : Nat) : Int) - 1 = (k : Int) := by omega
          rw [hk]
          have k0 : (0 : Int) ≤ (k : Int) := by omega
          have k1 : (k : Int) < 10 := by omega
          have ca := HX.out.low k (by omega)
          have fa := HX.out.free k
          obtain ⟨ga, gb⟩ := G_bd m k
          obtain ⟨ra, rb⟩ : 0 ≤ X m (k + 1) % 10 ∧ X m (k + 1) % 10 ≤ 9 := by omega
          have eq := long_q m k
          have er := long_r m k
          have EQ := Lib.hid eq
          have ER := Lib.hid er
          clear eq er hk
          generalize X m (k + 1) % 10 = r at *
          go_wp2_with fail
          go_roundw
          case rel => 
            rw [EQ.out, ER.out]
            exact ⟨k, by omega, rfl, rfl, mix_step HX.out, by rw [World.cell?_setCell_other _ _ _ _ (by intro e; have e1 : B = w.heap.size := congrArg Addr.block e; have := HNE.out; omega)]; exact HG.out, HB.out.setCell (show w.heap.size ≤ B by have := HNE.out; omega) _⟩
          case measure => simp [intOf]
        · have hj1 : j = 0 := by omega
          subst hj1
          have hrow3 := mix_end HX.out
          have hfre3 := HX.out.free
          have hr0 : X m 0 % 10 = m % 10 := by rw [X_zero]
          rw [hr0]
          obtain ⟨ra, rb⟩ : 0 ≤ m % 10 ∧ m % 10 ≤ 9 := by omega
          have KR := Lib.hid (show m % 10 = m % 10 from rfl)
          generalize hrr : m % 10 = r0 at *
          have HRR := Lib.hid hrr
          have HROW3 := Lib.hid hrow3
          have HFRE3 := Lib.hid hfre3
          clear hrr hrow3 hfre3 HX hr0
          have hT0 := HT.out.1
          have hcv : (convert 57 9 (.slice (some ⟨wr.heap.size, 0, none⟩) 1 1)).run Tryd.prog (wr.alloc (.cells #[.int .u8 (48 + r0)] 5)) = .ok (.string ⟨[dgt m].toArray⟩) (wr.alloc (.cells #[.int .u8 (48 + r0)] 5)) := by
            have h := run_convert_bytes_back (P := Tryd.prog) (wr.alloc (.cells #[.int .u8 (48 + r0)] 5)) 57 9 5 ⟨wr.heap.size, 0, none⟩ 1 [dgt m] Tryd.underlying57 Tryd.underlying5 Tryd.underlying9 (fun j hj => by
              have hj0 : j = 0 := by simpa using hj
              subst hj0
              rw [Lib.add_plain]
              have e : ((dgt m).toNat : Int) = 48 + r0 := by
                unfold dgt
                have := HRR.out
                have hmod : (48 + m.toNat % 10) % 256 = 48 + m.toNat % 10 := Nat.mod_eq_of_lt (by omega)
                simp only [UInt8.toNat_ofNat']
                rw [show (2 : Nat) ^ 8 = 256 from rfl, hmod]
                omega
              simp only [List.getElem_cons_zero]
              rw [e]
              simp [go_sem])
            exact h
          clear hT0
          go_wp2_with fail
          go_roundw
          case rel => exact ⟨m / 10, dgt m :: l, congrArg Value.string (ByteArray.ext (by simp)), tn_step n m l HT.out HM.out, HROW3.out.below ((Below.refl _ _).alloc (Nat.le_refl _) _), fun j => ((((Below.refl _ wr).alloc (Nat.le_refl _) _).frozen (p := ⟨B, j, none⟩) (RowF.lt HROW3.out)).trans (HFRE3.out j)), cell_later ((Below.refl _ _).alloc (Nat.le_refl _) _) HG.out, (HB.out).alloc (HB.out).size _⟩
          case measure => exact tmeas_less n (dgt m) l hlen
end Go.Proofs.YtmfmdcapanaajaaDoor
