/- word, all. -/
import Derived.Test.YtlifankiljbdjaaDoorW1
namespace Go.Proofs.YtlifankiljbdjaaDoor
open Go Go.RowKit

theorem tw_drop (bs : List UInt8) (a : Nat) (h : a < bs.length) (hs : syB bs[a] = true) : (wordL (bs.drop a)).length = 1 + (wordL (bs.drop (a + 1))).length := by
  unfold wordL
  rw [drop_at h, List.takeWhile_cons, if_pos hs]; simp; omega
theorem tw_stop (bs : List UInt8) (a : Nat) (h : a < bs.length) (hs : syB bs[a] = false) : (wordL (bs.drop a)).length = 0 := by
  unfold wordL
  rw [drop_at h, List.takeWhile_cons, if_neg (by rw [hs]; decide)]; rfl
theorem tw_end (bs : List UInt8) (a : Nat) (h : bs.length ≤ a) : (wordL (bs.drop a)).length = 0 := by
  rw [List.drop_of_length_le h]; rfl
theorem word_take (s : List UInt8) : s.take (wordL s).length = wordL s := by
  unfold wordL
  exact (List.prefix_iff_eq_take.1 (List.takeWhile_prefix syB)).symm
theorem byte_gt {x : UInt8} : (x.toNat : Int) < 256 ∧ (0 : Int) ≤ (x.toNat : Int) := by have := x.toNat_lt; omega
set_option maxRecDepth 100000 in
set_option maxHeartbeats 1600000 in
theorem word_any (R : Nat) (p : Option Addr) (c : Nat) (bs : List UInt8) (a0 : Nat) (W : World) (h : RdAt W R p c bs a0) :
    Calls Tryd.prog 73 #[.pointer (some ⟨R, 0, none⟩)] W fun e w' => e = .returned (.string ⟨(wordL (bs.drop a0)).toArray⟩) ∧ RdAt w' R p c bs (a0 + (wordL (bs.drop a0)).length) ∧ Only (· = R) W w' := by
  have H := Lib.hid h
  have hn := h.hn
  have hc1 := h.ca
  have h00 := h.ha
  generalize hN : a0 + (wordL (bs.drop a0)).length = N0
  have HN := Lib.hid hN
  have HNN := Lib.hid hN
  clear h hN
  go_enter Tryd.func73, Tryd.ntmps73
  go_wp2_with fail
  go_loopg [36] (bs.length + 1) (fun gk s12 wx => ∃ a : Nat, Hid (a0 ≤ a ∧ a ≤ bs.length ∧ bs.length + 1 ≤ a + gk ∧ a + (wordL (bs.drop a)).length = N0 ∧ RdAt wx R p c bs a ∧ Only (· = R) W wx))
  case atStart => exact ⟨a0, Lib.hid ⟨Nat.le_refl _, H.out.ha, by omega, HN.out, H.out, Only.refl _ _⟩⟩
  case round =>
    obtain ⟨a, HI⟩ := hrel
    clear H hc1
    obtain ⟨h0, h1, h2, h3, hr, ho⟩ := HI.out
    have c0 := hr.cb
    have c1 := hr.ca
    have f1 := hr.fz
    have HG := Lib.hid h2
    have HE := Lib.hid h3
    have HO := Lib.hid ho
    have HR := Lib.hid hr
    clear h2 h3 ho HI
    obtain ⟨n, hnl⟩ : ∃ n, n = bs.length := ⟨_, rfl⟩
    have HL := Lib.hid hnl
    rw [← hnl] at c0 hn h1 h00
    clear hnl
    by_cases hlt : a < n
    · obtain ⟨G, rfl⟩ : ∃ G, gk = G + 1 := ⟨gk - 1, by have := HG.out; have := HL.out; omega⟩
      have i1 : (a : Int) < (n : Int) := by omega
      have i0 : (0 : Int) ≤ (a : Int) := by omega
      have hab : a < bs.length := by have := HL.out; omega
      obtain ⟨b, off, rfl, cb⟩ := hr.bi a hab
      have ccl := hr.cl bs[a]
      obtain ⟨hz, hz0⟩ := byte_gt (x := bs[a])
      have an := and2 bs[a]
      have hs1 := tw_drop bs a hab
      have hs2 := tw_stop bs a hab
      cases hs : syB bs[a] with
      | true =>
        rw [hs] at an
        have HS := Lib.hid (hs1 hs)
        generalize bs[a] = x at *
        generalize x.toNat = y at *
        generalize clB x = z at *
        clear hs hs1 hs2 hr
        go_wp2_with fail
        go_quiet (fail)
        go_wp2_with fail
        go_roundg G
        case measure => have := HG.out; have := HL.out; omega
        case rel =>
          have hl := HL.out
          have hg := HG.out
          obtain ⟨a', ha'⟩ : ∃ a', a' = a + 1 := ⟨_, rfl⟩
          refine ⟨a', Lib.hid ⟨by omega, by omega, by omega, ?_, ?_, ?_⟩⟩
          all_goals (try rw [ha'])
          · have := HE.out; have := HS.out; omega
          · exact (HR.out.later (by first | exact below_drewN _ _ | exact Below.refl _ _ | (repeat (first | exact Below.refl _ _ | apply bdd)))).set (by omega) (by omega)
          · exact (HO.out.trans (Only.of_below (by first | exact below_drewN _ _ | exact Below.refl _ _ | (repeat (first | exact Below.refl _ _ | apply bdd))))).trans (only_set _ _ _ _)
      | false =>
        rw [hs] at an
        have HS := Lib.hid (show a = N0 by have := HE.out; have := hs2 hs; omega)
        generalize bs[a] = x at *
        generalize x.toNat = y at *
        generalize clB x = z at *
        clear hs hs1 hs2 hr
        go_wp2_with fail
        go_quiet (fail)
        go_wp2_with fail
        generalize hW1 : wr.drewN _ = W1
        have HR1 := Lib.hid (show RdAt W1 R (some ⟨b, off, none⟩) c bs a from by rw [← hW1]; exact HR.out.later (by first | exact below_drewN _ _ | exact Below.refl _ _ | (repeat (first | exact Below.refl _ _ | apply bdd))))
        have HO1 := Lib.hid (show Only (· = R) W W1 from by rw [← hW1]; exact HO.out.trans (Only.of_below (by first | exact below_drewN _ _ | exact Below.refl _ _ | (repeat (first | exact Below.refl _ _ | apply bdd)))))
        have d0 := HR1.out.cb
        have d1 := HR1.out.ca
        obtain ⟨V, hsl, hcv0⟩ := slice_conv W1 _ bs c a0 a HR1.out.bi h0 (by have := HL.out; omega) HR1.out.hk
        rw [← HL.out] at d0 hsl
        have HCV := Lib.hid (show (bs.drop a0).take (a - a0) = wordL (bs.drop a0) by
          have e : a - a0 = (wordL (bs.drop a0)).length := by have := HS.out; have := HNN.out; omega
          rw [e]; exact word_take _)
        rw [HCV.out] at hcv0
        have hcv := fun n => hcv0 (W1.drewN n) (below_drewN _ _)
        clear hcv0
        clear hW1 c0 c1 f1 HR HO
        go_quiet (fail)
        go_wp2_with fail
        go_ret
        exact ⟨rfl, by rw [← HS.out]; exact HR1.out.later (by first | exact below_drewN _ _ | exact Below.refl _ _ | (repeat (first | exact Below.refl _ _ | apply bdd))), HO1.out.trans (Only.of_below (by first | exact below_drewN _ _ | exact Below.refl _ _ | (repeat (first | exact Below.refl _ _ | apply bdd))))⟩
    · have hend : a = N0 := by
        have hl := HL.out
        have := HE.out; have := tw_end bs a (by omega); omega
      have HN := Lib.hid hend
      clear hend hr
      go_wp2_with fail
      go_quiet (fail)
      go_wp2_with fail
      generalize hW1 : wr.drewN _ = W1
      have HR1 := Lib.hid (show RdAt W1 R p c bs a from by rw [← hW1]; exact HR.out.later (by first | exact below_drewN _ _ | exact Below.refl _ _ | (repeat (first | exact Below.refl _ _ | apply bdd))))
      have HO1 := Lib.hid (show Only (· = R) W W1 from by rw [← hW1]; exact HO.out.trans (Only.of_below (by first | exact below_drewN _ _ | exact Below.refl _ _ | (repeat (first | exact Below.refl _ _ | apply bdd)))))
      have d0 := HR1.out.cb
      have d1 := HR1.out.ca
      obtain ⟨V, hsl, hcv0⟩ := slice_conv W1 _ bs c a0 a HR1.out.bi h0 (by have := HL.out; omega) HR1.out.hk
      rw [← HL.out] at d0 hsl
      have HCV := Lib.hid (show (bs.drop a0).take (a - a0) = wordL (bs.drop a0) by
        have e : a - a0 = (wordL (bs.drop a0)).length := by have := HN.out; have := HNN.out; omega
        rw [e]; exact word_take _)
      rw [HCV.out] at hcv0
      have hcv := fun n => hcv0 (W1.drewN n) (below_drewN _ _)
      clear hcv0
      clear hW1 c0 c1 f1 HR HO
      go_quiet (fail)
      go_wp2_with fail
      go_ret
      exact ⟨rfl, by rw [← HN.out]; exact HR1.out.later (by first | exact below_drewN _ _ | exact Below.refl _ _ | (repeat (first | exact Below.refl _ _ | apply bdd))), HO1.out.trans (Only.of_below (by first | exact below_drewN _ _ | exact Below.refl _ _ | (repeat (first | exact Below.refl _ _ | apply bdd))))⟩
end Go.Proofs.YtlifankiljbdjaaDoor
