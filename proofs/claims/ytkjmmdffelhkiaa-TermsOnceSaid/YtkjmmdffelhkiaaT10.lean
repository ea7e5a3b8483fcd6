/- Stage 6: Le. -/
import Derived.Test.YtkjmmdffelhkiaaT9
namespace Go.Proofs.Ytkjmmdffelhkiaa
open Go Go.RowKit Go.Maps

variable {W : World} {K : Nat → Nat} {base c : Nat} {T : Sto}
def twoV (a b : Int) : Nat → Int := fun i => if i = 0 then a else b
theorem two_ints (W : World) (a b : Int) : IntsIn (W.alloc (.cells #[.int .i64 a, .int .i64 b] 73)) (some ⟨W.heap.size, 0, none⟩) 2 (twoV a b) := fun _ => ⟨W.heap.size, 0, rfl, fun i hi => by
  have : i = 0 ∨ i = 1 := by omega
  rcases this with rfl | rfl <;> simp [go_sem, twoV]⟩
def leN (x y d : Int) (p : Option Addr) : Nd := ⟨8, 0, d, 0, p, 2, 2, twoV x y⟩
def LeP (T : Sto) (a b n : Int) (base c : Nat) (K : Nat → Nat) (W : World) (e : Ending) (w' : World) : Prop :=
  ((¬ InS T a ∨ ¬ InS T b) ∧ NoP 7 W e w') ∨
  (InS T a ∧ InS T b ∧ ((∃ x p e1 y q e2, SpR T a x p e1 ∧ SpR T b y q e2 ∧ (e1 ≠ 0 ∨ e2 ≠ 0) ∧ NoP 60 W e w') ∨
    ∃ x p y q, SpR T a x p 0 ∧ SpR T b y q 0 ∧ ((¬ (InB n ∧ InB (n - p + q)) ∧ NoP 6 W e w') ∨
      (InB n ∧ InB (n - p + q) ∧ ((x = y ∧ 0 ≤ n - p + q ∧ e = .returned (.tuple #[.int .i64 0, .int .i64 0]) ∧ Below W.heap.size W w') ∨ (x = y ∧ n - p + q < 0 ∧ e = .returned (.tuple #[.int .i64 1, .int .i64 0]) ∧ Below W.heap.size W w') ∨ (x ≠ y ∧ ∃ pp, MakeP T (leN x y (n - p + q) pp) base c K W e w'))))))
set_option maxRecDepth 100000 in
set_option maxHeartbeats 8000000 in
theorem le_any (h : StoAt W K base c T) (g : GoodS T) (h3 : 3 ≤ T.nodes.length) (a b n : Int) (hn : I64 n) :
    Calls Try.prog 50 #[.pointer (some ⟨c, 0, none⟩), .int .i64 a, .int .i64 b, .int .i64 n] W (LeP T a b n base c K W) := by
  have hb1 := below1 W (.cells #[.int .i64 a, .int .i64 b] 73)
  have HC := check_any (h.later hb1) g (by omega) (some ⟨W.heap.size, 0, none⟩) 2 2 (twoV a b) (two_ints W a b) (by omega)
  have HS1 := split_any (h.later hb1) g (by omega) a
  have H := Lib.hid h
  have HG := Lib.hid g
  have HN := Lib.hid hn
  have HB1 := Lib.hid hb1
  clear h g hn hb1
  go_enter Try.func50, Try.ntmps50
  go_wp2_with fail
  refine HC.mono ?_
  rintro e w1 ⟨er, rfl, hw, hc⟩
  obtain rfl := hw.symm
  clear HC hw
  rcases hc with ⟨rfl, hin⟩ | ⟨rfl, i, hi, hout⟩
  rotate_left
  · have hout2 : ¬ InS T a ∨ ¬ InS T b := by
      have : i = 0 ∨ i = 1 := by omega
      rcases this with rfl | rfl
      · exact .inl hout
      · exact .inr hout
    clear HS1
    go_wp2_with fail
    go_ret2
    exact .inl ⟨hout2, rfl, HB1.out⟩
  have HIA := Lib.hid (show InS T a from hin 0 (by omega))
  have HIB := Lib.hid (show InS T b from hin 1 (by omega))
  clear hin
  generalize W.alloc (.cells #[.int .i64 a, .int .i64 b] 73) = w1 at *
  go_wp2_with fail
  refine HS1.mono ?_
  rintro e w2 ⟨x, p, e1, rfl, hb2, hsp1⟩
  have HB2 := Lib.hid (HB1.out.trans (hb2.mono HB1.out.size))
  have HP1 := Lib.hid hsp1
  clear HS1 hb2 hsp1
  have HS2 := split_any (H.out.later HB2.out) HG.out (by omega) b
  go_wp2_with fail
  refine HS2.mono ?_
  rintro e w3 ⟨y, q, e2, rfl, hb3, hsp2⟩
  have HB3 := Lib.hid (HB2.out.trans (hb3.mono HB2.out.size))
  have HP2 := Lib.hid hsp2
  clear HS2 hb3 hsp2 HB2 HB1
  by_cases he1 : e1 = 0
  rotate_left
  · have q1 : (e1 != 0) = true := by simpa using he1
    go_wp2_with fail
    go_ret2
    exact .inr ⟨HIA.out, HIB.out, .inl ⟨x, p, e1, y, q, e2, HP1.out, HP2.out, .inl he1, rfl, HB3.out⟩⟩
  subst he1
  by_cases he2 : e2 = 0
  rotate_left
  · have q1 : (e2 != 0) = true := by simpa using he2
    go_wp2_with fail
    go_ret2
    exact .inr ⟨HIA.out, HIB.out, .inl ⟨x, p, 0, y, q, e2, HP1.out, HP2.out, .inr he2, rfl, HB3.out⟩⟩
  subst he2
  obtain ⟨hp64, hxin, hpb⟩ := HP1.out.ok HG.out
  obtain ⟨hq64, hyin, hqb⟩ := HP2.out.ok HG.out
  have HXI := Lib.hid (hxin rfl)
  have HYI := Lib.hid (hyin rfl)
  have HPB := Lib.hid (show -4611686018427387903 ≤ p ∧ p ≤ 4611686018427387903 from hpb rfl)
  have HI := inB_any n w3
  clear hxin hyin hp64 hpb hqb
  go_wp2_with fail
  refine HI.mono ?_
  rintro e w4 ⟨b1, rfl, hw, hbb⟩
  obtain rfl := hw.symm
  have HBB := Lib.hid hbb
  clear HI hw hbb
  cases b1
  · go_wp2_with fail
    go_ret2
    exact .inr ⟨HIA.out, HIB.out, .inr ⟨x, p, y, q, HP1.out, HP2.out, .inl ⟨fun h => absurd (HBB.out.2 h.1) (by decide), rfl, HB3.out⟩⟩⟩
  have hinn := HBB.out.1 rfl
  have hpb := HPB.out
  have hnb : -4611686018427387903 ≤ n ∧ n ≤ 4611686018427387903 := hinn
  have ew : wrap64 (n - p) = n - p := by rw [wrap64_eq]; omega
  have ew' : IntKind.i64.wrap (n - p) = n - p := by rw [IntKind.wrap_i64]; omega
  have HA := dadd_any (n - p) q w3 (by unfold I64; omega) hq64
  have HINN := Lib.hid hinn
  clear HBB hinn hpb hnb hq64
  go_wp2_with fail
  refine HA.mono ?_
  rintro e w4 ⟨r, ok, rfl, hw, h1, h2⟩
  obtain rfl := hw.symm
  clear HA hw ew ew'
  cases ok
  · obtain ⟨_, h4⟩ := h2 rfl
    clear h1 h2
    go_wp2_with fail
    go_ret2
    exact .inr ⟨HIA.out, HIB.out, .inr ⟨x, p, y, q, HP1.out, HP2.out, .inl ⟨fun h => h4 (by have := h.2; unfold InB at this; unfold I64; omega), rfl, HB3.out⟩⟩⟩
  obtain ⟨rfl, h4⟩ := h1 rfl
  clear h1 h2
  obtain ⟨r, hr⟩ : ∃ r, r = n - p + q := ⟨_, rfl⟩
  rw [← hr] at h4 ⊢
  have HR := Lib.hid hr
  have HI := inB_any r w3
  clear hr
  go_wp2_with fail
  refine HI.mono ?_
  rintro e w4 ⟨b1, rfl, hw, hbb⟩
  obtain rfl := hw.symm
  have HBB := Lib.hid hbb
  clear HI hw hbb
  cases b1
  · go_wp2_with fail
    go_ret2
    exact .inr ⟨HIA.out, HIB.out, .inr ⟨x, p, y, q, HP1.out, HP2.out, .inl ⟨fun h => absurd (HBB.out.2 (by rw [HR.out]; exact h.2)) (by decide), rfl, HB3.out⟩⟩⟩
  have HINR := Lib.hid (show InB (n - p + q) by rw [← HR.out]; exact HBB.out.1 rfl)
  clear HBB
  by_cases hxy : x = y
  · subst hxy
    by_cases hr0 : 0 ≤ r
    · go_wp2_with fail
      go_ret2
      exact .inr ⟨HIA.out, HIB.out, .inr ⟨x, p, x, q, HP1.out, HP2.out, .inr ⟨HINN.out, HINR.out, .inl ⟨rfl, by rw [← HR.out]; exact hr0, rfl, HB3.out⟩⟩⟩⟩
    · go_wp2_with fail
      go_ret2
      exact .inr ⟨HIA.out, HIB.out, .inr ⟨x, p, x, q, HP1.out, HP2.out, .inr ⟨HINN.out, HINR.out, .inr (.inl ⟨rfl, by rw [← HR.out]; omega, rfl, HB3.out⟩)⟩⟩⟩
  have q1 : (x == y) = false := by simpa using hxy
  have hbx := below1 w3 (.cells #[.int .i64 x, .int .i64 y] 73)
  have hI2 : ∀ z, z = 2 ∨ InS T z → 0 ≤ z ∧ z < (T.nodes.length : Int) := fun z hz => by
    rcases hz with rfl | hz
    · omega
    · exact hz
  have HM := make_any (H.out.later (HB3.out.trans (hbx.mono HB3.out.size))) HG.out (leN x y r (some ⟨w3.heap.size, 0, none⟩)) (two_ints w3 x y) (nd_ok (by decide) i0 h4 i0 (by omega) (fun i _ => by
    unfold twoV
    split
    · exact hI2 x HXI.out
    · exact hI2 y HYI.out) (fun h => absurd h (by decide)) (fun h => absurd h (by decide)))
  rw [show ndA (leN x y r (some ⟨w3.heap.size, 0, none⟩)) = .agg #[.int .u8 8, .int .i64 0, .int .i64 r, .int .i64 0, .slice (some ⟨w3.heap.size, 0, none⟩) 2 2] from rfl] at HM
  have HBX := Lib.hid (HB3.out.trans (hbx.mono HB3.out.size))
  clear hbx hI2
  go_wp2_with fail
  refine HM.mono ?_
  rintro e w4 hm
  have HMM := Lib.hid (hm.from HBX.out)
  obtain ⟨K', T', t', er', rfl, _⟩ := hm
  clear HM
  go_wp2_with fail
  go_ret2
  exact .inr ⟨HIA.out, HIB.out, .inr ⟨x, p, y, q, HP1.out, HP2.out, .inr ⟨HINN.out, HINR.out, .inr (.inr ⟨hxy, _, by rw [← HR.out]; exact HMM.out⟩)⟩⟩⟩
end Go.Proofs.Ytkjmmdffelhkiaa
