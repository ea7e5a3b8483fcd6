/- The document's Tokens. -/
import Derived.Test.YtdompkenblnjjaaGreatR8
import Derived.Test.YtdompkenblnjjaaGreatR3
namespace Go.Proofs.YtdompkenblnjjaaGreat
open Go Go.RowKit

set_option maxRecDepth 100000 in
theorem Toks.shift {b : List UInt8} {a a' : Nat} (he : a + skipM false (b.drop a) = a' + skipM false (b.drop a')) {l : List Tk} {p e : Nat} (h : Toks b a' l p e) : Toks b a l p e := by
  cases h with
  | done h1 => exact .done (by omega)
  | bad h1 h2 =>
    rw [← he] at h1 h2 ⊢
    exact .bad h1 h2
  | step h1 h2 h3 =>
    rw [← he] at h1 h2 h3 ⊢
    exact .step h1 h2 h3
set_option maxRecDepth 100000 in
set_option maxHeartbeats 3200000 in
theorem reftokens_any (p : Option Addr) (c : Nat) (bs : List UInt8) (W : World) (hb : BytesIn W p bs) (hk : bs.length ≤ c) (hn : bs.length ≤ 1048576) :
    Calls Tryz.prog 24 #[.slice p bs.length c] W (TokensP bs W) := by
  have HBI := Lib.hid hb
  have HKc := Lib.hid hk
  obtain ⟨i33, hi33, hz0, hz1, hz2⟩ := info33
  obtain ⟨n, hnl⟩ : ∃ n, n = bs.length := ⟨_, rfl⟩
  have HL := Lib.hid hnl
  rw [← hnl] at hk hn ⊢
  have hgt : decide ((1048576 : Int) < (n : Int)) = false := by simp; omega
  have hni : (n : Int) ≤ 1048576 := by omega
  clear hb hnl
  go_enter Tryz.func24, Tryz.ntmps24
  go_wp2_with fail
  go_loopg [5, 6, 7, 8, 9] (n + 1) (fun gk s5 s6 s7 s8 s9 wx => ∃ (a : Nat) (acc : List Tk), n + 1 ≤ a + gk ∧ a ≤ n ∧ acc.length ≤ a ∧ s6 = .int .i64 (a : Int) ∧ Hid ((∀ l q er, Toks bs a l q er → Toks bs 0 (acc ++ l) q er) ∧ wx.ownsRow W.heap.size 44 3 s5 acc.length (rowT acc) ∧ Below W.heap.size W wx))
  case atStart => exact ⟨0, [], by omega, by omega, Nat.le_refl _, rfl, Lib.hid ⟨fun l q er h => h, World.ownsRow_nil _ _ _ _, Below.refl _ _⟩⟩
  case round =>
    obtain ⟨a, acc, hg, ha, hac, rfl, HI⟩ := hrel
    obtain ⟨htk, hw, hbl⟩ := HI.out
    obtain ⟨pr, cr, rfl, hA_⟩ := own_shape hw
    have HG := Lib.hid hg
    have HT := Lib.hid htk
    have HW := Lib.hid hw
    have HB := Lib.hid hbl
    clear hg htk hw hbl hA_ HI
    by_cases hlt : a < n
    · have i0 : (0 : Int) ≤ (a : Int) := by omega
      have i1 : (a : Int) < (n : Int) := by omega
      have hab : a < bs.length := by have := HL.out; omega
      have hd := drop_at hab
      obtain ⟨b, off, rfl, cb⟩ := (HBI.out.later HB.out) a hab
      obtain ⟨hz, hz0'⟩ := byte_gt (x := bs[a])
      have e59 : ((bs[a].toNat : Int) == 59) = (bs[a] == 59) := eq_u8 59 (by decide +kernel) _
      have HBL := Lib.hid (fun W => blank_any bs[a] W)
      generalize bs[a] = x at *
      have HD := Lib.hid hd
      clear hd hab
      cases q1 : spB x with
      | true =>
        have HQ1 := Lib.hid q1
        have HSK := Lib.hid (show a + skipM false (bs.drop a) = (a + 1) + skipM false (bs.drop (a + 1)) by rw [HD.out]; simp only [skipM, q1, if_true]; omega)
        clear q1 e59
        go_wp2_with fail
        refine (HBL.out _).mono ?_
        rintro e w1 ⟨rfl, rfl⟩
        rw [HQ1.out]
        go_wp2_with fail
        go_roundg (gk - 1)
        case measure => have := HG.out; omega
        case rel =>
          obtain ⟨a', ha'⟩ : ∃ a', a' = a + 1 := ⟨_, rfl⟩
          exact ⟨a', acc, by have := HG.out; omega, by omega, by omega, by rw [ha']; go_num, Lib.hid ⟨fun l q er h => HT.out l q er (Toks.shift HSK.out (by rw [← ha']; exact h)), HW.out, HB.out⟩⟩
      | false =>
        have HQ1 := Lib.hid q1
        cases q2 : (x == 59) with
        | true =>
          rw [q2] at e59
          have HX := Lib.hid (show x = 59 from eq_of_beq q2)
          have HE2 := Lib.hid (show a + skipM true (bs.drop a) = a + skipM false (bs.drop a) by
            rw [HD.out, HX.out]; simp [skipM, spB])
          clear q1 q2
          go_wp2_with fail
          refine (HBL.out _).mono ?_
          rintro e w1 ⟨rfl, rfl⟩
          rw [HQ1.out]
          go_wp2_with fail
          obtain ⟨wo, hwo⟩ : ∃ wo, wo = wr := ⟨_, rfl⟩
          have HWO := Lib.hid hwo
          rw [← hwo] at HW HB cb ⊢
          clear hwo
          obtain ⟨G, hGe⟩ : ∃ G, G = gk := ⟨_, rfl⟩
          have HGE := Lib.hid hGe
          go_loopg [6] (n + 1) (fun ik s6 wx => ∃ a2 : Nat, n + 1 ≤ a2 + ik ∧ a2 ≤ n ∧ s6 = .int .i64 (a2 : Int) ∧ Hid (wx = wo ∧ a ≤ a2 ∧ a2 + skipM true (bs.drop a2) = a + skipM false (bs.drop a)))
          case atStart => exact ⟨a, by omega, by omega, rfl, Lib.hid ⟨rfl, Nat.le_refl _, HE2.out⟩⟩
          case round =>
            obtain ⟨a2, hg2, ha2, rfl, HI⟩ := hrel
            obtain ⟨hw2, haa, hsk⟩ := HI.out
            have HW2 := Lib.hid hw2
            have HG2 := Lib.hid hg2
            have HAA := Lib.hid haa
            have HSK := Lib.hid hsk
            clear hg2 haa hsk HI
            by_cases hlt2 : a2 < n
            · have m0 : (0 : Int) ≤ (a2 : Int) := by omega
              have m1 : (a2 : Int) < (n : Int) := by omega
              have hab : a2 < bs.length := by have := HL.out; omega
              have hd2 := drop_at hab
              obtain ⟨b2, off2, e2, cb2⟩ := (HBI.out.later HB.out) a2 hab
              cases e2
              rw [← hw2] at cb2
              obtain ⟨hz2, hz2'⟩ := byte_gt (x := bs[a2])
              have e10 : ((bs[a2].toNat : Int) == 10) = (bs[a2] == 10) := eq_u8 10 (by decide +kernel) _
              generalize bs[a2] = x2 at *
              have HD2 := Lib.hid hd2
              clear hd2 hab hw2
              cases q3 : (x2 == 10) with
              | false =>
                rw [q3] at e10
                have e10' : ((x2.toNat : Int) != 10) = true := by rw [bne, e10]; rfl
                have HS2 := Lib.hid (show (a2 + 1) + skipM true (bs.drop (a2 + 1)) = a + skipM false (bs.drop a) by
                  have := HSK.out; rw [HD2.out] at this; simp only [skipM, q3] at this; simp at this; omega)
                clear q3
                go_wp2_with fail
                go_roundg (gk - 1)
                case measure => have := HG2.out; omega
                case rel =>
                  obtain ⟨a', ha'⟩ : ∃ a', a' = a2 + 1 := ⟨_, rfl⟩
                  exact ⟨a', by have := HG2.out; omega, by omega, by rw [ha']; go_num, Lib.hid ⟨HW2.out, by have := HAA.out; omega, by rw [ha']; exact HS2.out⟩⟩
              | true =>
                rw [q3] at e10
                have e10' : ((x2.toNat : Int) != 10) = false := by rw [bne, e10]; rfl
                have hx2 : x2 = 10 := eq_of_beq q3
                have HS2 := Lib.hid (show a + skipM false (bs.drop a) = a2 + skipM false (bs.drop a2) by
                  have := HSK.out; rw [HD2.out, hx2] at this; rw [HD2.out, hx2, ← this]; simp [skipM, spB])
                have HNE := Lib.hid (show a ≠ a2 from fun e => by
                  have h1 := HD.out; have h2 := HD2.out
                  rw [e, h2] at h1
                  simp only [List.cons.injEq] at h1
                  rw [hx2, HX.out] at h1
                  exact absurd h1.1 (by decide))
                clear q3 hx2
                go_wp2_with fail
                go_roundg (G - 1)
                case measure => have := HG.out; have := HGE.out; omega
                case rel =>
                  refine ⟨a2, acc, by have := HG.out; have := HGE.out; have := HAA.out; have := HNE.out; omega, ha2, by have := HAA.out; omega, rfl, Lib.hid ⟨fun l q er h => HT.out l q er (Toks.shift HS2.out h), by rw [HW2.out]; exact HW.out, by rw [HW2.out]; exact HB.out⟩⟩
            · have HS2 := Lib.hid (show a + skipM false (bs.drop a) = a2 + skipM false (bs.drop a2) by
                have := HSK.out; have hl := HL.out; rw [List.drop_of_length_le (show bs.length ≤ a2 by omega)] at this ⊢; simpa [skipM] using this.symm)
              have m1 : ¬ (a2 : Int) < (n : Int) := by omega
              have m2 : decide (a2 < n) = false := by simp; omega
              clear hw2
              go_wp2_with fail
              go_roundg (G - 1)
              case measure => have := HG.out; have := HGE.out; omega
              case rel =>
                refine ⟨a2, acc, by have := HG.out; have := HGE.out; have := HAA.out; omega, ha2, by have := HAA.out; omega, rfl, Lib.hid ⟨fun l q er h => HT.out l q er (Toks.shift HS2.out h), by rw [HW2.out]; exact HW.out, by rw [HW2.out]; exact HB.out⟩⟩
        | false =>
          rw [q2] at e59
          have HSK := Lib.hid (show skipM false (bs.drop a) = 0 by rw [HD.out]; simp [skipM, q1, q2])
          clear q1 q2
          go_wp2_with fail
          refine (HBL.out _).mono ?_
          rintro e w1 ⟨rfl, rfl⟩
          rw [HQ1.out]
          have hone := one_any (some ⟨b, off, none⟩) c bs a wr (HBI.out.later HB.out) HKc.out (by have := HL.out; omega) (by rw [← HL.out]; exact hn)
          rw [← HL.out] at hone
          have HONE := Lib.hid hone
          clear hone
          go_wp2_with fail
          refine HONE.out.mono ?_
          rintro e w4 ⟨hb4, hres⟩
          have HB4 := Lib.hid hb4
          match hq : oneR (bs.drop a), hres with
          | .tok k t m, hres =>
            obtain ⟨X, rfl, hX⟩ := hres
            have hXe : X = ⟨t.toArray⟩ := by rw [← hX, mk_toList]
            subst hXe
            have HQ := Lib.hid hq
            have HON := Lib.hid (one_n hq)
            have hWA := own_later HW.out hb4
            have hbA := ((below1 w4 (.cells #[.int .u8 (k : Int), .string ⟨t.toArray⟩, .int .i64 (a : Int)] 44)).alloc (by simp) (.cells #[.int .u8 (k : Int), .string ⟨t.toArray⟩, .int .i64 (a : Int)] 44))
            have HWA := Lib.hid (own_later hWA hbA)
            have HBW := Lib.hid (HB.out.trans ((hb4.trans (hbA.mono hb4.size)).mono HB.out.size))
            have HSA := Lib.hid HBW.out.size
            have hnews : ∀ j u, (tkV ⟨k, t, a⟩)[j]? = some u → ((w4.alloc (.cells #[.int .u8 (k : Int), .string ⟨t.toArray⟩, .int .i64 (a : Int)] 44)).alloc (.cells #[.int .u8 (k : Int), .string ⟨t.toArray⟩, .int .i64 (a : Int)] 44)).cell? ((⟨w4.heap.size + 1, 0, none⟩ : Addr).add j) = some u := by
              intro j u hj
              rw [Lib.add_plain]
              match j, hj with
              | 0, hj => cases hj; exact tok_cell w4 _ 0 rfl
              | 1, hj => cases hj; exact tok_cell w4 _ 1 rfl
              | 2, hj => cases hj; exact tok_cell w4 _ 2 rfl
            have HNE := Lib.hid hnews
            clear hb4 hq hWA hbA hnews hX
            go_wp2_with (at_builtin; refine wpList_append_own_at _ rfl _ _ 63 rfl W.heap.size 44 i33 Z33 3 32 Tryz.underlying63 hi33 hz0 hz1 hz2 rfl (by omega) _ acc.length (rowT acc) rfl HWA.out ⟨w4.heap.size + 1, 0, none⟩ 1 1 (tkV ⟨k, t, a⟩) rfl rfl HNE.out ?qc3 ?qc4 ?qc5 HSA.out ?_)
            case qc3 => intro u hu; simp [tkV] at hu; rcases hu with rfl | rfl | rfl <;> rfl
            case qc4 => have hml : maxLen = 9223372036854775807 := rfl; omega
            case qc5 => omega
            intro v' w5 hown hgrow hnil hloc
            obtain ⟨pn, cn, hv, hA_⟩ := own_shape hown
            subst hv
            have ho5 := Only.of_grown hgrow
            have hge : ∀ j, (Value.slice pr acc.length cr).ownBlock = some j → W.heap.size ≤ j := fun j hj => (own_lt HWA.out hj).1
            have hlen : acc.length + 1 = (acc ++ [(⟨k, t, a⟩ : Tk)]).length := by simp
            have hrow : rowT acc ++ tkV ⟨k, t, a⟩ = rowT (acc ++ [(⟨k, t, a⟩ : Tk)]) := by simp [rowT]
            rw [hlen, hrow] at hown
            rw [hlen]
            have hal2 : (acc ++ [(⟨k, t, a⟩ : Tk)]).length = acc.length + 1 := hlen.symm
            generalize hacc2 : acc ++ [(⟨k, t, a⟩ : Tk)] = acc2 at *
            have HA2 := Lib.hid hacc2
            have HAL := Lib.hid hal2
            have HW5 := Lib.hid hown
            have HB5 := Lib.hid (HBW.out.trans (ho5.below (B := W.heap.size) hge HBW.out.size))
            have hm1 : (0 : Int) ≤ (m : Int) := by omega
            have hm2 : (a : Int) + (m : Int) ≤ 1048576 := by have := HON.out; rw [List.length_drop] at this; have := HL.out; omega
            clear hown hgrow hnil hloc hA_ ho5 hge hlen hrow hacc2 hal2
            go_wp2_with fail
            go_roundg (gk - 1)
            case measure => have := HG.out; omega
            case rel =>
              have hg := HG.out
              have hl := HL.out
              have ho := HON.out
              have hsk := HSK.out
              rw [List.length_drop] at ho
              obtain ⟨a', ha'⟩ : ∃ a', a' = a + m := ⟨_, rfl⟩
              refine ⟨a', acc2, by omega, by omega, by have := HAL.out; omega, by rw [ha']; go_num, Lib.hid ⟨fun l q er hl2 => ?_, HW5.out, HB5.out⟩⟩
              rw [← HA2.out, List.append_assoc]
              refine HT.out _ _ _ ?_
              have := Toks.step (b := bs) (at_ := a) (k := k) (n := m) (t := t) (l := l) (p := q) (e := er) (by rw [hsk]; omega) (by rw [hsk]; exact HQ.out) (by rw [hsk, Nat.add_zero, ← ha']; exact hl2)
              rw [hsk] at this
              exact this
          | .err er, hres =>
            obtain ⟨k, m, X, rfl⟩ := hres
            have HQ := Lib.hid hq
            have her := err_pos hq (by rw [List.length_drop]; have := HL.out; omega)
            have her2 : ((er : Int) != 0) = true := by simp; omega
            have HWE := Lib.hid (own_later (own_later HW.out hb4) (below1 w4 (.cells #[.int .u8 k, .string X, .int .i64 (a : Int)] 44)))
            have HBE := Lib.hid (HB.out.trans ((hb4.trans ((below1 w4 (.cells #[.int .u8 k, .string X, .int .i64 (a : Int)] 44)).mono hb4.size)).mono HB.out.size))
            clear hq hb4
            go_wp2_with fail
            go_ret3
            refine ⟨pr, cr, acc, a, er, rfl, ?_, HWE.out, HBE.out⟩
            have hsk := HSK.out
            have hl := HL.out
            have := HT.out [] a er (by
              have := Toks.bad (b := bs) (at_ := a) (e := er) (by rw [hsk]; omega) (by rw [hsk]; exact HQ.out)
              rw [hsk] at this
              exact this)
            simpa using this
    · have hae : a = n := by omega
      have HAE := Lib.hid hae
      clear hae
      go_wp2_with fail
      go_ret3
      refine ⟨pr, cr, acc, a, 0, rfl, ?_, HW.out, HB.out⟩
      have hl := HL.out
      have := HT.out [] bs.length 0 (.done (by have := HAE.out; omega))
      rw [HAE.out, hl]
      simpa using this
end Go.Proofs.YtdompkenblnjjaaGreat

