/- A heap: Pop. -/
import Derived.Test.YtpnchmelaonfiaaH8
namespace Go.Proofs.Ytpnchmelaonfiaa
open Go Go.RowKit

variable {W : World} {a bw bp base n : Nat} {R : Option Nat} {len : Nat} {Wt : Nat → Int} {In : Nat → Bool} {P O : Nat → Nat}
set_option maxRecDepth 100000 in
set_option maxHeartbeats 800000 in
theorem pop_none (h : HeapIs W a bw bp base n R 0 Wt In) : Calls Try.prog 15 #[.pointer (some ⟨a, 0, none⟩)] W fun e w' => e = .returned (.tuple #[.int .i64 0, .bool false]) ∧ w' = W := by
  obtain ⟨P, O, h, p, ho, hp, hwt⟩ := h
  have H1 := first_none h
  clear h p ho hp hwt
  go_enter Try.func15, Try.ntmps15
  go_wp2_with fail
  refine H1.mono ?_
  rintro e w1 ⟨rfl, rfl⟩
  clear H1
  go_wp2_with fail
  go_ret2
  exact ⟨rfl, rfl⟩
/-- the order's row is cut. -/
theorem HeapAt.cut {g c : Nat} (h : HeapAt W a bw bp base n R (len + 1) Wt P O) (hR : R = some g) (hg : base ≤ g) (h2 : W.cell? ⟨a, 2, none⟩ = some (.slice (some ⟨g, 0, none⟩) (len + 1) c)) (own : W.ownsRow base 3 1 (.slice (some ⟨g, 0, none⟩) (len + 1) c) (len + 1) (rowN (len + 1) O)) :
    HeapAt (W.setCell ⟨a, 2, none⟩ (.slice (some ⟨g, 0, none⟩) len c)) a bw bp base n R len Wt P O ∧ Only (fun k => k = a) W (W.setCell ⟨a, 2, none⟩ (.slice (some ⟨g, 0, none⟩) len c)) := by
  have ho : Only (fun k => k = a) W (W.setCell ⟨a, 2, none⟩ (.slice (some ⟨g, 0, none⟩) len c)) := Only.of_setCell W ⟨a, 2, none⟩ _
  have nw : ¬ bw = a := fun e => h.d1 e.symm
  have np : ¬ bp = a := fun e => h.d2 e.symm
  obtain ⟨c1, h1⟩ := h.cw
  obtain ⟨c2, h22⟩ := h.cp
  have al : a < W.heap.size := World.block_lt_of_cell? W _ h1
  have far : ∀ o v, o ≠ 2 → W.cell? ⟨a, o, none⟩ = some v → (W.setCell ⟨a, 2, none⟩ (.slice (some ⟨g, 0, none⟩) len c)).cell? ⟨a, o, none⟩ = some v := fun o v h3 h4 => by
    rw [World.cell?_setCell_other _ _ _ _ (by intro e; cases e; exact h3 rfl)]
    exact h4
  refine ⟨⟨⟨c1, far 0 _ (by omega) h1⟩, ⟨c2, far 1 _ (by omega) h22⟩, ⟨some ⟨g, 0, none⟩, c, World.cell?_setCell_same _ _ _ h2, hR.symm, ?_⟩, fun i hi => ⟨ho.cell (h.hw i hi).1 nw, ?_⟩, fun i hi => ⟨ho.cell (h.hp i hi).1 np, ?_⟩, fun o => ?_, h.d1, h.d2, h.d3, h.la, h.lw, h.lp, Nat.le_trans h.hb ho.size⟩, ho⟩
  · have := own_cut own (k := len) (by omega)
    rw [rowN_take _ _ _ (by omega)] at this
    exact own_only this ho (fun k hk e => by cases hk; have e' : g = a := e; have := h.la; omega)
  · rw [World.frozen?_setCell]; exact (h.hw i hi).2
  · rw [World.frozen?_setCell]; exact (h.hp i hi).2
  · rw [World.frozen?_setCell]; exact h.fz o
set_option maxRecDepth 100000 in
set_option maxHeartbeats 1600000 in
theorem pop_at (h : HeapIs W a bw bp base n R (len + 1) Wt In) (hn : n ≤ 1048576) (hl : len < 1048576) :
    Calls Try.prog 15 #[.pointer (some ⟨a, 0, none⟩)] W fun e w' => ∃ x, e = .returned (.tuple #[.int .i64 (x : Nat), .bool true]) ∧ x < n ∧ In x = true ∧ (∀ y, y < n → In y = true → ¬ Ahead Wt y x) ∧ HeapIs w' a bw bp base n R len Wt (up1 In x false) ∧ Only (HB a bw bp R) W w' := by
  obtain ⟨P, O, h, p, ho, hp, hwt⟩ := h
  have H1 := first_at h (by omega)
  obtain ⟨c1, h1⟩ := h.cp
  obtain ⟨p2, c2, h2, h8, h9⟩ := h.co
  clear h8 h9
  have hs := swap_at h 0 len (by omega) (by omega) (p.at_ 0 (by omega)).1 (p.at_ len (by omega)).1 hn (by omega)
  have H := Lib.hid h
  have HP := Lib.hid p
  have HO := Lib.hid ho
  have HPI := Lib.hid hp
  have HWT := Lib.hid hwt
  have HS := Lib.hid hs
  clear h p ho hp hwt hs h1
  go_enter Try.func15, Try.ntmps15
  go_wp2_with fail
  refine H1.mono ?_
  rintro e w1 ⟨rfl, rfl⟩
  clear H1
  go_wp2_with fail
  refine HS.out.mono ?_
  rintro e w2 ⟨rfl, h2s, o2⟩
  clear h2 HS
  obtain ⟨g, c, hR, hg, hgl, h2, own⟩ := h2s.row (by omega)
  obtain ⟨hC, oC⟩ := h2s.cut hR hg h2 own
  have hcap : (len : Int) ≤ (c : Int) := by
    rcases own.2 with ⟨e, _⟩ | ⟨_, _, _, e, _, _, hh, _⟩
    · cases e
    · cases e; omega
  have f2 := h2s.fz 2
  have HPS := Lib.hid (HP.out.swap (a := 0) (b := len) (by omega) (by omega))
  have HSI := Lib.hid (fun x => swP_in HP.out (a := 0) (b := len) (by omega) (by omega) x)
  have HC := Lib.hid hC
  have HOC := Lib.hid oC
  have HO2 := Lib.hid o2
  have HRR := Lib.hid hR
  have l0 : (0 : Int) ≤ (len : Int) := by omega
  have hfn := (HP.out.at_ 0 (by omega)).1
  have HO0 := Lib.hid (show sw O 0 len len = O 0 from sw_b O 0 len)
  have HPC := Lib.hid HPS.out.cut
  rw [HO0.out] at HPC
  have HADN := Lib.hid (pop_almost HO.out)
  have HBEST := Lib.hid (root_best HO.out)
  obtain ⟨c4, d1⟩ := HC.out.cp
  obtain ⟨u1, f1⟩ := HC.out.hp (O 0) hfn
  have hpr := ints_set HC.out.hp (O 0) 0
  have hoE : Only (fun k => k = bp) _ ((w2.setCell ⟨a, 2, none⟩ (.slice (some ⟨g, 0, none⟩) len c)).setCell ⟨bp, O 0, none⟩ (.int .i64 0)) := Only.of_setCell _ ⟨bp, O 0, none⟩ _
  have hE := HC.out.replace hoE (P' := up1 (swP P O 0 len) (O 0) 0) hpr
  have HD := Lib.hid (down_at hE HPC.out 0 (by omega) HADN.out hn (by omega))
  have HE := Lib.hid hoE
  have t0 : (0 : Int) ≤ (O 0 : Int) := by omega
  have t1 : (O 0 : Int) < (n : Int) := by omega
  clear h2s hC oC o2 hR own hpr hoE hE
  go_wp2_with fail
  refine HD.out.mono ?_
  rintro e w7 ⟨rfl, P', O', h7, p7, o7, in7, only7⟩
  have H7 := Lib.hid (And.intro h7 (And.intro p7 (And.intro o7 (And.intro in7 only7))))
  clear h7 p7 o7 in7 only7 d1 u1 f1 f2 h2
  go_wp2_with fail
  go_ret2
  obtain ⟨h7, p7, o7, in7, only7⟩ := H7.out
  refine ⟨O 0, rfl, hfn, (HPI.out _ hfn).1 (by rw [(HP.out.at_ 0 (by omega)).2]; omega), fun y hy hin => ?_, ⟨P', O', h7, p7, o7, fun x hx => (in7 x).trans ?_, HWT.out⟩, ?_⟩
  · have hpy := (HPI.out y hy).2 hin
    obtain ⟨h1, h2⟩ := HP.out.back y hy hpy
    rw [← h2]
    exact HBEST.out _ (by omega)
  · by_cases e : x = O 0
    · subst e; rw [up1_same, up1_same]; simp
    · rw [up1_ne _ _ e, up1_ne In _ e]; exact (HSI.out x).trans (HPI.out x hx)
  · have s1 := HO2.out.comp (T := HB a bw bp R) HOC.out (fun k _ h => by
      rcases h with h | h
      · exact .inr (.inr (.inl h))
      · exact .inr (.inr (.inr h))) (fun k _ h => .inl h)
    have s2 := s1.comp (T := HB a bw bp R) HE.out (fun _ _ h => h) (fun k _ h => .inr (.inr (.inl h)))
    exact s2.comp only7 (fun _ _ h => h) (fun k _ h => by
      rcases h with h | h
      · exact .inr (.inr (.inl h))
      · exact .inr (.inr (.inr h)))
end Go.Proofs.Ytpnchmelaonfiaa
