/- A heap: down. -/
import Derived.Test.YtpnchmelaonfiaaH4
namespace Go.Proofs.Ytpnchmelaonfiaa
open Go Go.RowKit

variable {W : World} {a bw bp base n : Nat} {R : Option Nat} {len : Nat} {Wt : Nat → Int} {P O : Nat → Nat}
/-- the best of a place and of its children so far. -/
structure Best (Wt : Nat → Int) (len : Nat) (O : Nat → Nat) (k b c : Nat) : Prop where
  lo : 2 * k + 1 ≤ c
  hi : c ≤ 2 * k + 3
  own : b = k ∨ (2 * k + 1 ≤ b ∧ b < c ∧ b < len ∧ Ahead Wt (O b) (O k))
  all : ∀ c', 2 * k + 1 ≤ c' → c' < c → c' < len → ¬ Ahead Wt (O c') (O b)
theorem Best.start (k : Nat) : Best Wt len O k k (2 * k + 1) := ⟨by omega, by omega, .inl rfl, fun c' h1 h2 => by omega⟩
theorem Best.take {k b c : Nat} (h : Best Wt len O k b c) (hc : c ≤ 2 * k + 2) (hl : c < len) (ha : Ahead Wt (O c) (O b)) : Best Wt len O k c (c + 1) := by
  have h1 := h.lo
  refine ⟨by omega, by omega, .inr ⟨h.lo, by omega, hl, ?_⟩, fun c' h1 h2 h3 => ?_⟩
  · rcases h.own with e | ⟨_, _, _, h4⟩
    · rw [e] at ha; exact ha
    · exact ha.trans h4
  · by_cases e : c' = c
    · subst e; exact nahead_self _ _
    · exact fun h4 => h.all c' h1 (by omega) h3 (h4.trans ha)
theorem Best.leave {k b c : Nat} (h : Best Wt len O k b c) (hc : c ≤ 2 * k + 2) (ha : ¬ Ahead Wt (O c) (O b)) : Best Wt len O k b (c + 1) := by
  have h1 := h.lo
  refine ⟨by omega, by omega, ?_, fun c' h1 h2 h3 => ?_⟩
  · rcases h.own with e | ⟨h2, h3, h4, h5⟩
    · exact .inl e
    · exact .inr ⟨h2, by omega, h4, h5⟩
  · by_cases e : c' = c
    · subst e; exact ha
    · exact h.all c' h1 (by omega) h3
theorem Best.done {k b c : Nat} (h : Best Wt len O k b c) (hc : ¬ (c ≤ 2 * k + 2 ∧ c < len)) : ∀ c', 2 * k + 1 ≤ c' → c' ≤ 2 * k + 2 → c' < len → ¬ Ahead Wt (O c') (O b) := fun c' h1 h2 h3 => h.all c' h1 (by omega) h3
set_option maxRecDepth 100000 in
set_option maxHeartbeats 2000000 in
theorem down_at (h : HeapAt W a bw bp base n R len Wt P O) (p : Places n len P O) (k : Nat) (hk : k ≤ len) (ha : AlmostDown Wt len O k) (hn : n ≤ 1048576) (hl : len ≤ 1048576) :
    Calls Try.prog 46 #[.pointer (some ⟨a, 0, none⟩), .int .i64 k] W fun e w' => e = .returned (.tuple #[]) ∧ Ordered w' a bw bp base n R len Wt P W := by
  have H := Lib.hid h
  have HP := Lib.hid p
  have HA := Lib.hid ha
  clear h p ha
  go_enter Try.func46, Try.ntmps46
  go_wp2_with fail
  go_loopw [1] (fun i wr => ∃ (k : Nat) (P' O' : Nat → Nat), k ≤ len ∧ i = .int .i64 k ∧ HeapAt wr a bw bp base n R len Wt P' O' ∧ Places n len P' O' ∧ AlmostDown Wt len O' k ∧ (∀ x, P' x ≠ 0 ↔ P x ≠ 0) ∧ Only (fun j => j = bp ∨ R = some j) W wr) (fun i _ => len - (intOf i).toNat)
  case atStart => exact ⟨k, P, O, hk, rfl, H.out, HP.out, HA.out, fun _ => Iff.rfl, Only.refl _ _⟩
  case round =>
    clear H HP HA hk
    obtain ⟨k, P', O', hk, rfl, h, p, ha, hin, ho⟩ := hrel
    obtain ⟨wo, rfl⟩ : ∃ wo : World, wo = wr := ⟨_, rfl⟩
    have H := Lib.hid h
    have HP := Lib.hid p
    have HA := Lib.hid ha
    have HI := Lib.hid hin
    have HO := Lib.hid ho
    clear h p ha hin ho
    have k0 : (0 : Int) ≤ (k : Int) := by omega
    have k1 : (k : Int) ≤ 1048576 := by omega
    go_wp2_with fail
    go_loopw [4, 5] (fun u v wi => ∃ b c : Nat, u = .int .i64 b ∧ v = .int .i64 c ∧ Best Wt len O' k b c ∧ Below wo.heap.size wo wi) (fun _ v _ => 2 * k + 3 - (intOf v).toNat)
    case atStart => exact ⟨k, 2 * k + 1, rfl, by go_num, Best.start k, Below.refl _ _⟩
    case round =>
      obtain ⟨b, c, rfl, rfl, hbst, hbw⟩ := hrel
      have HBB := Lib.hid hbst
      have HBW := Lib.hid hbw
      have c0 := hbst.lo
      have c1 := hbst.hi
      have bk : b < len ∨ b = k := by rcases hbst.own with e | e <;> omega
      clear hbst hbw
      by_cases hc : c ≤ 2 * k + 2 ∧ c < len
      · obtain ⟨hc1, hc2⟩ := hc
        have t1 : (c : Int) ≤ 2 * (k : Int) + 2 := by omega
        have t2 : decide ((c : Int) ≤ 2 * (k : Int) + 2) = true := decide_eq_true t1
        have t3 : (c : Int) < (len : Int) := by omega
        have t4 : decide ((c : Int) < (len : Int)) = true := decide_eq_true t3
        have t5 : (0 : Int) ≤ (c : Int) := by omega
        have t6 : (0 : Int) ≤ (b : Int) := by omega
        have hbl : b < len := by omega
        have t7 : (b : Int) < (len : Int) := by omega
        obtain ⟨g, c9, hR, hg, hgl, h2, own⟩ := (H.out.later HBW.out).row (by omega)
        go_wp2_with fail
        have x1 := (own_cell own c _ (rowN_get len O' c (by omega))).1
        have x2 := (own_cell own b _ (rowN_get len O' b hbl)).1
        have hS0 : Reads3 ⟨a, 2, none⟩ (.slice (some ⟨g, 0, none⟩) len c9) ⟨g, c, none⟩ (.int .i64 (O' c : Int)) ⟨g, b, none⟩ (.int .i64 (O' b : Int)) wr := ⟨h2, x1, x2⟩
        have bD : Below wr.heap.size wr wr.drew := (Below.refl _ _).drew
        have hS := hS0.later bD
        have HBD := Lib.hid bD
        have C1 := Lib.hid (cmp_at ((H.out.later HBW.out).later bD) (O' c) (O' b) (HP.out.at_ c (by omega)).1 (HP.out.at_ b hbl).1 (by omega))
        clear hR hg hgl h2 own x1 x2 hS0 bD
        generalize hoq : O' c = oc at *
        generalize hok : O' b = ob at *
        have HOQ := Lib.hid (And.intro hoq hok)
        clear hoq hok
        by_cases hah : Ahead Wt oc ob
        · have hr : cmpH Wt oc ob < 0 := (cmpH_lt Wt oc ob).2 hah
          have HNX := Lib.hid (HBB.out.take hc1 hc2 (by rw [HOQ.out.1, HOQ.out.2]; exact hah))
          clear hah
          generalize cmpH Wt oc ob = r at *
          go_wp2_with fail
          go_region_held3 (fun w' => w'.cell? ⟨a, 2, none⟩ = some (.slice (some ⟨g, 0, none⟩) len c9) ∧ w'.cell? ⟨g, c, none⟩ = some (.int .i64 (oc : Int)) ∧ w'.cell? ⟨g, b, none⟩ = some (.int .i64 (ob : Int)))
            (first | exact hS | (exact Reads3.later hS (by assumption)))
            (first | (go_at_call 53; refine C1.out.mono ?_; rintro e w' ⟨rfl, hbc⟩))
          have HW := Lib.hid (HBD.out.trans (hbc.mono HBD.out.size))
          have HW2 := Lib.hid (HBW.out.trans (HW.out.mono HBW.out.size))
          clear hbc hS C1
          go_wp2_with fail
          go_roundw
          case rel => exact ⟨c, c + 1, rfl, by go_num, HNX.out, HW2.out⟩
          case measure => simp [intOf]; omega
        · have hr : ¬ cmpH Wt oc ob < 0 := fun h => hah ((cmpH_lt Wt oc ob).1 h)
          have HNX := Lib.hid (HBB.out.leave hc1 (by rw [HOQ.out.1, HOQ.out.2]; exact hah))
          clear hah
          generalize cmpH Wt oc ob = r at *
          go_wp2_with fail
          go_region_held3 (fun w' => w'.cell? ⟨a, 2, none⟩ = some (.slice (some ⟨g, 0, none⟩) len c9) ∧ w'.cell? ⟨g, c, none⟩ = some (.int .i64 (oc : Int)) ∧ w'.cell? ⟨g, b, none⟩ = some (.int .i64 (ob : Int)))
            (first | exact hS | (exact Reads3.later hS (by assumption)))
            (first | (go_at_call 53; refine C1.out.mono ?_; rintro e w' ⟨rfl, hbc⟩))
          have HW := Lib.hid (HBD.out.trans (hbc.mono HBD.out.size))
          have HW2 := Lib.hid (HBW.out.trans (HW.out.mono HBW.out.size))
          clear hbc hS C1
          go_wp2_with fail
          go_roundw
          case rel => exact ⟨b, c + 1, rfl, by go_num, HNX.out, HW2.out⟩
          case measure => simp [intOf]; omega
      · have HD := Lib.hid (HBB.out.done hc)
        obtain ⟨pp, cc, h2, hx8, hx9⟩ := (H.out.later HBW.out).co
        clear hx8 hx9
        have key : ¬ c ≤ 2 * k + 2 ∨ (c ≤ 2 * k + 2 ∧ ¬ c < len) := by omega
        rcases key with hc1 | ⟨hc1, hc2⟩
        · have t1 : ¬ (c : Int) ≤ 2 * (k : Int) + 2 := by omega
          have t2 : decide ((c : Int) ≤ 2 * (k : Int) + 2) = false := decide_eq_false t1
          by_cases hbk : b = k
          · subst hbk
            have t8 : ((b : Int) == (b : Int)) = true := by simp
            go_wp2_with fail
            refine bodyPost_ret (v := .tuple #[]) (by simp [results, Try.results46, go_sem]) rfl ?_
            exact ⟨rfl, P', O', H.out.later HBW.out, HP.out, down_stop HA.out HD.out, HI.out, HO.out.trans (Only.of_below HBW.out)⟩
          · have t8 : ((b : Int) == (k : Int)) = false := by simp; omega
            have hb4 := HBB.out.own.resolve_left hbk
            have HB4 := Lib.hid hb4
            have hbl : b < len := hb4.2.2.1
            have hkb : k < b := by omega
            have HS := Lib.hid (swap_at (H.out.later HBW.out) k b (by omega) hbl (HP.out.at_ k (by omega)).1 (HP.out.at_ b hbl).1 hn hl)
            clear hb4
            go_wp2_with fail
            refine HS.out.mono ?_
            rintro e w5 ⟨rfl, h5, ho5⟩
            have H5 := Lib.hid h5
            have HO5 := Lib.hid (HO.out.trans ((Only.of_below HBW.out).trans ho5))
            clear h5 ho5
            go_wp2_with fail
            go_roundw
            case rel => exact ⟨b, _, _, by omega, rfl, H5.out, HP.out.swap (by omega) hbl, down_step HA.out HB4.out.1 (by have := HB4.out.2.1; omega) hbl HB4.out.2.2.2 HD.out, fun x => (swP_in HP.out (by omega) hbl x).trans (HI.out x), HO5.out⟩
            case measure => simp [intOf]; omega
        · have t1 : (c : Int) ≤ 2 * (k : Int) + 2 := by omega
          have t2 : decide ((c : Int) ≤ 2 * (k : Int) + 2) = true := decide_eq_true t1
          have t3 : ¬ (c : Int) < (len : Int) := by omega
          have t4 : decide ((c : Int) < (len : Int)) = false := decide_eq_false t3
          by_cases hbk : b = k
          · subst hbk
            have t8 : ((b : Int) == (b : Int)) = true := by simp
            go_wp2_with fail
            refine bodyPost_ret (v := .tuple #[]) (by simp [results, Try.results46, go_sem]) rfl ?_
            exact ⟨rfl, P', O', H.out.later HBW.out, HP.out, down_stop HA.out HD.out, HI.out, HO.out.trans (Only.of_below HBW.out)⟩
          · have t8 : ((b : Int) == (k : Int)) = false := by simp; omega
            have hb4 := HBB.out.own.resolve_left hbk
            have HB4 := Lib.hid hb4
            have hbl : b < len := hb4.2.2.1
            have hkb : k < b := by omega
            have HS := Lib.hid (swap_at (H.out.later HBW.out) k b (by omega) hbl (HP.out.at_ k (by omega)).1 (HP.out.at_ b hbl).1 hn hl)
            clear hb4
            go_wp2_with fail
            refine HS.out.mono ?_
            rintro e w5 ⟨rfl, h5, ho5⟩
            have H5 := Lib.hid h5
            have HO5 := Lib.hid (HO.out.trans ((Only.of_below HBW.out).trans ho5))
            clear h5 ho5
            go_wp2_with fail
            go_roundw
            case rel => exact ⟨b, _, _, by omega, rfl, H5.out, HP.out.swap (by omega) hbl, down_step HA.out HB4.out.1 (by have := HB4.out.2.1; omega) hbl HB4.out.2.2.2 HD.out, fun x => (swP_in HP.out (by omega) hbl x).trans (HI.out x), HO5.out⟩
            case measure => simp [intOf]; omega
end Go.Proofs.Ytpnchmelaonfiaa
