/- The law's known() of stage 2. -/
import Derived.Test.YtpnchmelaonfiaaH10
import Derived.Test.YtpnchmelaonfiaaTI6
namespace Go.Proofs.Ytpnchmelaonfiaa
open Go Go.RowKit

theorem HeapIs.low {W : World} {a bw bp base n : Nat} {R : Option Nat} {len : Nat} {Wt : Nat → Int} {In : Nat → Bool} (h : HeapIs W a bw bp base n R len Wt In) {B : Nat} (ha : B ≤ a) (hw : B ≤ bw) (hp : B ≤ bp) (hb : B ≤ base) : ∀ k, HB a bw bp R k → B ≤ k := by
  obtain ⟨P, O, h, _⟩ := h
  obtain ⟨p, c, h1, e, o⟩ := h.co
  intro k hk
  rcases hk with rfl | rfl | rfl | hk
  · exact ha
  · exact hw
  · exact hp
  · exact Nat.le_trans hb (own_lt o (e.trans hk)).1
/-- a heap of the call's own. -/
def Mine (B : Nat) (W : World) (a n len : Nat) (Wt : Nat → Int) (In : Nat → Bool) (bw bp base : Nat) (R : Option Nat) : Prop := HeapIs W a bw bp base n R len Wt In ∧ B ≤ a ∧ B ≤ bw ∧ B ≤ bp ∧ B ≤ base
section
variable {B : Nat} {W : World} {a n len : Nat} {Wt : Nat → Int} {In : Nat → Bool} {bw bp base : Nat} {R : Option Nat}
theorem Mine.blocks (h : Mine B W a n len Wt In bw bp base R) : ∀ k, HB a bw bp R k → B ≤ k := h.1.low h.2.1 h.2.2.1 h.2.2.2.1 h.2.2.2.2
theorem mine_new (N : Nat) (hN : N ≤ 1048576) (W : World) : Calls Try.prog 10 #[.int .i64 N] W fun e w' => (∃ a bw bp base, e = .returned (.pointer (some ⟨a, 0, none⟩)) ∧ Mine W.heap.size w' a N 0 (fun _ => 0) (fun _ => false) bw bp base none) ∧ Below W.heap.size W w' := by
  refine (new_at N hN W).mono ?_
  rintro e w' ⟨⟨a, bw, bp, rfl, h1, h2, h3, h⟩, hb⟩
  exact ⟨⟨a, bw, bp, _, rfl, ⟨_, _, h, ⟨fun i hi => by omega, fun x _ hp => absurd rfl hp⟩, fun i _ hi => by omega, fun x _ => by simp, fun x _ => ⟨Int.le_refl _, (by decide : (0 : Int) ≤ 4611686018427387904)⟩⟩, h1, h2, h3, hb.size⟩, hb⟩
theorem mine_push (h : Mine B W a n len Wt In bw bp base R) (hB : B ≤ W.heap.size) (i : Nat) (hi : i < n) (hin : In i = false) (hn : n ≤ 1048576) (hl : len < 1048576) :
    Calls Try.prog 13 #[.pointer (some ⟨a, 0, none⟩), .int .i64 i] W fun e w' => e = .returned (.int .i64 0) ∧ ∃ R', Mine B w' a n (len + 1) Wt (up1 In i true) bw bp base R' ∧ Below B W w' := by
  refine (push_in h.1 i hi hin hn hl).mono ?_
  rintro e w' ⟨rfl, R', hR, h1, ho⟩
  exact ⟨rfl, R', ⟨h1, h.2⟩, ho.below h.blocks hB⟩
theorem mine_raise (h : Mine B W a n len Wt In bw bp base R) (hB : B ≤ W.heap.size) (i : Nat) (hi : i < n) (v : Int) (hv : 0 ≤ v) (hv2 : v ≤ 4611686018427387904 - Wt i) (hn : n ≤ 1048576) (hl : len ≤ 1048576) :
    Calls Try.prog 17 #[.pointer (some ⟨a, 0, none⟩), .int .i64 i, .int .i64 v] W fun e w' => e = .returned (.int .i64 0) ∧ Mine B w' a n len (up1 Wt i (Wt i + v)) In bw bp base R ∧ Below B W w' := by
  refine (raise_at h.1 i hi v hv hv2 hn hl).mono ?_
  rintro e w' ⟨rfl, h1, ho⟩
  exact ⟨rfl, ⟨h1, h.2⟩, ho.below h.blocks hB⟩
theorem mine_pop (h : Mine B W a n (len + 1) Wt In bw bp base R) (hB : B ≤ W.heap.size) (hn : n ≤ 1048576) (hl : len < 1048576) :
    Calls Try.prog 15 #[.pointer (some ⟨a, 0, none⟩)] W fun e w' => ∃ x, e = .returned (.tuple #[.int .i64 (x : Nat), .bool true]) ∧ x < n ∧ In x = true ∧ (∀ y, y < n → In y = true → ¬ Ahead Wt y x) ∧ Mine B w' a n len Wt (up1 In x false) bw bp base R ∧ Below B W w' := by
  refine (pop_at h.1 hn hl).mono ?_
  rintro e w' ⟨x, rfl, h1, h2, h3, h4, ho⟩
  exact ⟨x, rfl, h1, h2, h3, ⟨h4, h.2⟩, ho.below h.blocks hB⟩
end
/-- the weights, and who is in it, step by step. -/
def kW0 : Nat → Int := fun _ => 0
def kW1 : Nat → Int := up1 kW0 2 (kW0 2 + 5)
def kW2 : Nat → Int := up1 kW1 0 (kW1 0 + 5)
def kI0 : Nat → Bool := fun _ => false
def kI1 : Nat → Bool := up1 kI0 0 true
def kI2 : Nat → Bool := up1 kI1 1 true
def kI3 : Nat → Bool := up1 kI2 2 true
def kI4 : Nat → Bool := up1 kI3 0 false
def kI5 : Nat → Bool := up1 kI4 2 false
theorem k_first {x : Nat} (h1 : x < 3) (h3 : ∀ y, y < 3 → kI3 y = true → ¬ Ahead kW2 y x) : x = 0 := by
  have h := h3 0 (by omega) rfl
  match x, h1 with
  | 0, _ => rfl
  | 1, _ => exact absurd (.inl (by decide)) h
  | 2, _ => exact absurd (.inr ⟨by decide, by decide⟩) h
theorem k_second {x : Nat} (h1 : x < 3) (h2 : kI4 x = true) (h3 : ∀ y, y < 3 → kI4 y = true → ¬ Ahead kW2 y x) : x = 2 := by
  have h := h3 2 (by omega) rfl
  match x, h1 with
  | 0, _ => cases h2
  | 1, _ => exact absurd (.inl (by decide)) h
  | 2, _ => rfl
theorem k_third {x : Nat} (h1 : x < 3) (h2 : kI5 x = true) : x = 1 := by
  match x, h1 with
  | 0, _ => cases h2
  | 1, _ => rfl
  | 2, _ => cases h2
theorem below_step {B : Nat} {x y z : World} (h : Below B x y) (k : Below B y z) : Below B x z := h.trans k
set_option maxRecDepth 100000 in
set_option maxHeartbeats 2000000 in
theorem known_any (W : World) : Calls Try.prog 9 #[] W fun e w' => e = .returned (.bool true) ∧ Below W.heap.size W w' := by
  have C0 : Calls Try.prog 10 #[.int .i64 3] W _ := mine_new 3 (by omega) W
  go_enter Try.func9, Try.ntmps9
  go_wp2_with fail
  refine C0.mono ?_
  rintro e w1 ⟨⟨a, bw, bp, base, rfl, hm⟩, hb1⟩
  have HM := Lib.hid (show Mine W.heap.size w1 a 3 0 kW0 kI0 bw bp base none from hm)
  have HBL := Lib.hid hb1
  clear hm hb1 C0
  go_wp2_with fail
  refine wp_loop_rounds 4 ?_
  rw [rounds_succ]
  have C1 : Calls Try.prog 13 #[.pointer (some ⟨a, 0, none⟩), .int .i64 0] w1 _ := mine_push HM.out HBL.out.size 0 (by omega) rfl (by omega) (by omega)
  go_wp2_with fail
  refine C1.mono ?_
  rintro e w2 ⟨rfl, R2, hm, hb⟩
  have HM2 := Lib.hid (show Mine W.heap.size w2 a 3 1 kW0 kI1 bw bp base R2 from hm)
  have HBL2 := Lib.hid (below_step HBL.out hb)
  clear hm hb C1 HM HBL
  go_wp2_with fail
  rw [rounds_succ]
  have C1 : Calls Try.prog 13 #[.pointer (some ⟨a, 0, none⟩), .int .i64 1] w2 _ := mine_push HM2.out HBL2.out.size 1 (by omega) rfl (by omega) (by omega)
  go_wp2_with fail
  refine C1.mono ?_
  rintro e w3 ⟨rfl, R3, hm, hb⟩
  have HM3 := Lib.hid (show Mine W.heap.size w3 a 3 2 kW0 kI2 bw bp base R3 from hm)
  have HBL3 := Lib.hid (below_step HBL2.out hb)
  clear hm hb C1 HM2 HBL2
  go_wp2_with fail
  rw [rounds_succ]
  have C1 : Calls Try.prog 13 #[.pointer (some ⟨a, 0, none⟩), .int .i64 2] w3 _ := mine_push HM3.out HBL3.out.size 2 (by omega) rfl (by omega) (by omega)
  go_wp2_with fail
  refine C1.mono ?_
  rintro e w4 ⟨rfl, R4, hm, hb⟩
  have HM4 := Lib.hid (show Mine W.heap.size w4 a 3 3 kW0 kI3 bw bp base R4 from hm)
  have HBL4 := Lib.hid (below_step HBL3.out hb)
  clear hm hb C1 HM3 HBL3
  go_wp2_with fail
  rw [rounds_succ]
  have C1 : Calls Try.prog 17 #[.pointer (some ⟨a, 0, none⟩), .int .i64 2, .int .i64 5] w4 _ := mine_raise HM4.out HBL4.out.size 2 (by omega) 5 (by omega) (by decide) (by omega) (by omega)
  go_wp2_with fail
  refine C1.mono ?_
  rintro e w5 ⟨rfl, hm, hb⟩
  have HM5 := Lib.hid (show Mine W.heap.size w5 a 3 3 kW1 kI3 bw bp base R4 from hm)
  have HBL5 := Lib.hid (below_step HBL4.out hb)
  clear hm hb C1 HM4 HBL4
  have C1 : Calls Try.prog 17 #[.pointer (some ⟨a, 0, none⟩), .int .i64 0, .int .i64 5] w5 _ := mine_raise HM5.out HBL5.out.size 0 (by omega) 5 (by omega) (by decide) (by omega) (by omega)
  go_wp2_with fail
  refine C1.mono ?_
  rintro e w6 ⟨rfl, hm, hb⟩
  have HM6 := Lib.hid (show Mine W.heap.size w6 a 3 3 kW2 kI3 bw bp base R4 from hm)
  have HBL6 := Lib.hid (below_step HBL5.out hb)
  clear hm hb C1 HM5 HBL5
  go_wp2_with fail
  refine (mine_pop HM6.out HBL6.out.size (by omega) (by omega)).mono ?_
  rintro e w7 ⟨x, rfl, h1, h2, h3, hm, hb⟩
  obtain rfl := k_first h1 h3
  have HM7 := Lib.hid (show Mine W.heap.size w7 a 3 2 kW2 kI4 bw bp base R4 from hm)
  have HBL7 := Lib.hid (below_step HBL6.out hb)
  clear hm hb h1 h2 h3 HM6 HBL6
  rw [show ((0 : Nat) : Int) = 0 from rfl]
  go_wp2_with fail
  refine (mine_pop HM7.out HBL7.out.size (by omega) (by omega)).mono ?_
  rintro e w8 ⟨x, rfl, h1, h2, h3, hm, hb⟩
  obtain rfl := k_second h1 h2 h3
  have HM8 := Lib.hid (show Mine W.heap.size w8 a 3 1 kW2 kI5 bw bp base R4 from hm)
  have HBL8 := Lib.hid (below_step HBL7.out hb)
  clear hm hb h1 h2 h3 HM7 HBL7
  rw [show ((2 : Nat) : Int) = 2 from rfl]
  go_wp2_with fail
  refine (mine_pop HM8.out HBL8.out.size (by omega) (by omega)).mono ?_
  rintro e w9 ⟨x, rfl, h1, h2, h3, hm, hb⟩
  obtain rfl := k_third h1 h2
  have HBL9 := Lib.hid (below_step HBL8.out hb)
  clear hm hb h1 h2 h3 HM8 HBL8
  rw [show ((1 : Nat) : Int) = 1 from rfl]
  have HT := Lib.hid (mineI_new w9)
  have HBa := Lib.hid (HBL9.out.trans ((below1 w9 (.cells #[.slice none 0 0, .slice none 0 0] 71)).mono HBL9.out.size))
  have hsz : w9.heap.size ≤ (w9.alloc (.cells #[.slice none 0 0, .slice none 0 0] 71)).heap.size := by simp
  have HSZ := Lib.hid hsz
  have HW9 := Lib.hid HBL9.out.size
  clear hsz HBL9
  go_wp2_with fail
  refine (mineI_push HT.out HSZ.out 7 (by simp)).mono ?_
  rintro e w10 ⟨rfl, hm, hb⟩
  have HT1 := Lib.hid (show MineI w9.heap.size w10 w9.heap.size [7] [] from hm)
  have HB1 := Lib.hid (HBa.out.trans (hb.mono HW9.out))
  have HS1 := Lib.hid (Nat.le_trans HSZ.out hb.size)
  clear hm hb HT HBa HSZ
  generalize w9.heap.size = t at *
  go_wp2_with fail
  refine (mineI_mark HT1.out HS1.out (by simp) (by simp)).mono ?_
  rintro e w11 ⟨rfl, hm, hb⟩
  have HT2 := Lib.hid (show MineI t w11 t [7] [1] from hm)
  have HB2 := Lib.hid (HB1.out.trans (hb.mono HW9.out))
  have HS2 := Lib.hid (Nat.le_trans HS1.out hb.size)
  clear hm hb HT1 HB1 HS1
  go_wp2_with fail
  refine (mineI_push HT2.out HS2.out 8 (by simp)).mono ?_
  rintro e w12 ⟨rfl, hm, hb⟩
  have HT3 := Lib.hid (show MineI t w12 t [7, 8] [1] from hm)
  have HB3 := Lib.hid (HB2.out.trans (hb.mono HW9.out))
  have HS3 := Lib.hid (Nat.le_trans HS2.out hb.size)
  clear hm hb HT2 HB2 HS2
  have C1 : Calls Try.prog 40 #[.pointer (some ⟨t, 0, none⟩), .int .i64 0] w12 _ := mineI_back HT3.out HS3.out 0 1 (by simp) rfl (by simp) (by simp) (by simp)
  go_wp2_with fail
  refine C1.mono ?_
  rintro e w13 ⟨v, rfl, hv, hm, hb⟩
  have HT4 := Lib.hid (show MineI t w13 t [7] [] from hm)
  have HB4 := Lib.hid (HB3.out.trans (hb.mono HW9.out))
  have hv' : w13.ownsRow w12.heap.size 3 1 v 1 [.int .i64 8] := hv
  clear hm hb HT3 HB3 HS3 C1 hv
  obtain ⟨p, c, rfl, hs⟩ := own_shape hv'
  obtain ⟨g, rfl⟩ : ∃ g, p = some ⟨g, 0, none⟩ := by
    rcases hv'.2 with ⟨_, e⟩ | ⟨g, _, _, e, _⟩
    · cases e
    · cases e; exact ⟨g, rfl⟩
  have hc := (own_cell hv' 0 _ rfl).1
  clear hs hv'
  have C2 : Calls Try.prog 41 #[.pointer (some ⟨t, 0, none⟩)] w13 fun e w' => e = .returned (.int .i64 1) ∧ w' = w13 := mineI_len HT4.out
  go_wp2_with fail
  refine C2.mono ?_
  rintro e w14 ⟨rfl, rfl⟩
  clear C2
  go_wp2_with fail
  go_ret
  exact ⟨rfl, HB4.out⟩
end Go.Proofs.Ytpnchmelaonfiaa
