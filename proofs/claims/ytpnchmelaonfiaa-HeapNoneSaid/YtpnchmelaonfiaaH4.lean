/- A heap: up. -/
import Derived.Test.YtpnchmelaonfiaaH3
namespace Go.Proofs.Ytpnchmelaonfiaa
open Go Go.RowKit

variable {W : World} {a bw bp base n : Nat} {R : Option Nat} {len : Nat} {Wt : Nat → Int} {P O : Nat → Nat}
/-- a heap in order. -/
def Ordered (w' : World) (a bw bp base n : Nat) (R : Option Nat) (len : Nat) (Wt : Nat → Int) (P : Nat → Nat) (W : World) : Prop :=
  ∃ P' O', HeapAt w' a bw bp base n R len Wt P' O' ∧ Places n len P' O' ∧ HeapOrd Wt len O' ∧ (∀ x, P' x ≠ 0 ↔ P x ≠ 0) ∧ Only (fun j => j = bp ∨ R = some j) W w'
set_option maxRecDepth 100000 in
set_option maxHeartbeats 1000000 in
theorem up_at (h : HeapAt W a bw bp base n R len Wt P O) (p : Places n len P O) (k : Nat) (hk : k < len) (ha : AlmostUp Wt len O k) (hn : n ≤ 1048576) (hl : len ≤ 1048576) :
    Calls Try.prog 43 #[.pointer (some ⟨a, 0, none⟩), .int .i64 k] W fun e w' => e = .returned (.tuple #[]) ∧ Ordered w' a bw bp base n R len Wt P W := by
  have H := Lib.hid h
  have HP := Lib.hid p
  have HA := Lib.hid ha
  clear h p ha
  go_enter Try.func43, Try.ntmps43
  go_wp2_with fail
  go_loopw [1] (fun i wr => ∃ (k : Nat) (P' O' : Nat → Nat), k < len ∧ i = .int .i64 k ∧ HeapAt wr a bw bp base n R len Wt P' O' ∧ Places n len P' O' ∧ AlmostUp Wt len O' k ∧ (∀ x, P' x ≠ 0 ↔ P x ≠ 0) ∧ Only (fun j => j = bp ∨ R = some j) W wr) (fun i _ => (intOf i).toNat)
  case atStart => exact ⟨k, P, O, hk, rfl, H.out, HP.out, HA.out, fun _ => Iff.rfl, Only.refl _ _⟩
  case round =>
    clear H HP HA hk
    obtain ⟨k, P', O', hk, rfl, h, p, ha, hin, ho⟩ := hrel
    have H := Lib.hid h
    have HP := Lib.hid p
    have HA := Lib.hid ha
    have HI := Lib.hid hin
    have HO := Lib.hid ho
    by_cases h0 : k = 0
    · subst h0
      clear h p ha hin ho
      go_wp2_with fail
      go_end0
      exact ⟨rfl, P', O', H.out, HP.out, up_stop HA.out (.inl rfl), HI.out, HO.out⟩
    · obtain ⟨q, hq⟩ : ∃ q, (k - 1) / 2 = q := ⟨_, rfl⟩
      have hqk : q < k := by omega
      have e1 : ((k : Int) - 1).tdiv 2 = (q : Int) := by rw [Int.tdiv_eq_ediv_of_nonneg (by omega)]; omega
      have e2 : ((k : Int) - 1) / 2 = (q : Int) := by omega
      have k0 : (0 : Int) < (k : Int) := by omega
      have k1 : (k : Int) < (len : Int) := by omega
      have q0 : (0 : Int) ≤ (q : Int) := by omega
      have q1 : (q : Int) < (len : Int) := by omega
      obtain ⟨g, c, hR, hg, hgl, h2, own⟩ := h.row (by omega)
      have x1 := (own_cell own q _ (rowN_get len O' q (by omega))).1
      have x2 := (own_cell own k _ (rowN_get len O' k hk)).1
      have hS0 : Reads3 ⟨a, 2, none⟩ (.slice (some ⟨g, 0, none⟩) len c) ⟨g, q, none⟩ (.int .i64 (O' q : Int)) ⟨g, k, none⟩ (.int .i64 (O' k : Int)) wr := ⟨h2, x1, x2⟩
      have bD : Below wr.heap.size wr wr.drew := (Below.refl _ _).drew
      have hS := hS0.later bD
      have HBD := Lib.hid bD
      have C1 := Lib.hid (cmp_at (h.later bD) (O' q) (O' k) (p.at_ q (by omega)).1 (p.at_ k hk).1 (by omega))
      have HQ := Lib.hid hq
      clear h p ha hin ho hR hg hgl h2 own x1 x2 hS0 bD hq
      generalize hoq : O' q = oq at *
      generalize hok : O' k = ok at *
      have HOQ := Lib.hid (And.intro hoq hok)
      clear hoq hok
      by_cases hah : Ahead Wt ok oq
      · have hr : ¬ cmpH Wt oq ok ≤ 0 := fun h => (cmpH_le Wt oq ok).1 h hah
        have HAH := Lib.hid hah
        clear hah
        generalize cmpH Wt oq ok = r at *
        go_wp2_with fail
        go_region_held3 (fun w' => w'.cell? ⟨a, 2, none⟩ = some (.slice (some ⟨g, 0, none⟩) len c) ∧ w'.cell? ⟨g, q, none⟩ = some (.int .i64 (oq : Int)) ∧ w'.cell? ⟨g, k, none⟩ = some (.int .i64 (ok : Int)))
          (first | exact hS | (exact Reads3.later hS (by assumption)))
          (first | (go_at_call 53; refine C1.out.mono ?_; rintro e w' ⟨rfl, hbc⟩))
        have HW := Lib.hid (HBD.out.trans (hbc.mono HBD.out.size))
        have HS := Lib.hid (swap_at (H.out.later HW.out) q k (by omega) hk (HP.out.at_ q (by omega)).1 (HP.out.at_ k hk).1 hn hl)
        clear hbc hS C1
        go_wp2_with fail
        refine HS.out.mono ?_
        rintro e w5 ⟨rfl, h5, ho5⟩
        have H5 := Lib.hid h5
        have HO5 := Lib.hid (HO.out.trans ((Only.of_below HW.out).trans ho5))
        clear h5 ho5
        go_wp2_with fail
        go_roundw
        case rel => exact ⟨q, _, _, by omega, rfl, H5.out, HP.out.swap (by omega) hk, (by have := up_step HA.out (by omega) hk (by rw [HQ.out, HOQ.out.1, HOQ.out.2]; exact HAH.out); rw [HQ.out] at this; exact this), fun x => (swP_in HP.out (by omega) hk x).trans (HI.out x), HO5.out⟩
        case measure => simp [intOf]; omega
      · have hr : cmpH Wt oq ok ≤ 0 := (cmpH_le Wt oq ok).2 hah
        have HAH := Lib.hid hah
        clear hah
        generalize cmpH Wt oq ok = r at *
        go_wp2_with fail
        go_region_held3 (fun w' => w'.cell? ⟨a, 2, none⟩ = some (.slice (some ⟨g, 0, none⟩) len c) ∧ w'.cell? ⟨g, q, none⟩ = some (.int .i64 (oq : Int)) ∧ w'.cell? ⟨g, k, none⟩ = some (.int .i64 (ok : Int)))
          (first | exact hS | (exact Reads3.later hS (by assumption)))
          (first | (go_at_call 53; refine C1.out.mono ?_; rintro e w' ⟨rfl, hbc⟩))
        have HW := Lib.hid (HBD.out.trans (hbc.mono HBD.out.size))
        clear hbc hS C1
        go_wp2_with fail
        refine bodyPost_ret (v := .tuple #[]) (by simp [results, Try.results43, go_sem]) rfl ?_
        exact ⟨rfl, P', O', H.out.later HW.out, HP.out, up_stop HA.out (.inr (by rw [HQ.out, HOQ.out.1, HOQ.out.2]; exact HAH.out)), HI.out, HO.out.trans (Only.of_below HW.out)⟩
end Go.Proofs.Ytpnchmelaonfiaa
