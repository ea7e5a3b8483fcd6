/- A heap: Push. -/
import Derived.Test.YtpnchmelaonfiaaH7
namespace Go.Proofs.Ytpnchmelaonfiaa
open Go Go.RowKit

variable {W : World} {a bw bp base n : Nat} {R : Option Nat} {len : Nat} {Wt : Nat → Int} {In : Nat → Bool} {P O : Nat → Nat}
/-- the order's row grows. -/
theorem HeapAt.push {w1 : World} {p p' : Option Addr} {c c' x : Nat} (h : HeapAt W a bw bp base n R len Wt P O) (h2 : W.cell? ⟨a, 2, none⟩ = some (.slice p len c)) (hR : (Value.slice p len c).ownBlock = R) (own : w1.ownsRow base 3 1 (.slice p' (len + 1) c') (len + 1) (rowN len O ++ [.int .i64 (x : Int)])) (hg : W.grownBy w1 R) :
    HeapAt (w1.setCell ⟨a, 2, none⟩ (.slice p' (len + 1) c')) a bw bp base n (Value.slice p' (len + 1) c').ownBlock (len + 1) Wt P (up1 O len x) ∧ Only (fun k => k = a ∨ R = some k) W (w1.setCell ⟨a, 2, none⟩ (.slice p' (len + 1) c')) := by
  obtain ⟨p0, c0, h20, hR0, own0⟩ := h.co
  rw [h20] at h2
  cases h2
  have hlt : ∀ k, R = some k → base ≤ k ∧ k < W.heap.size := fun k e => own_lt own0 (hR.trans e)
  have ho1 : Only (fun k => R = some k) W w1 := Only.of_grown hg
  have ho : Only (fun k => k = a ∨ R = some k) W (w1.setCell ⟨a, 2, none⟩ (.slice p' (len + 1) c')) := (ho1.mono (fun k _ hk => .inr hk)).trans ((Only.of_setCell w1 ⟨a, 2, none⟩ _).mono (fun k _ hk => .inl hk))
  have na : ¬ R = some a := fun e => by have := hlt a e; have := h.la; omega
  have nw : ¬ (bw = a ∨ R = some bw) := fun e => by
    rcases e with e | e
    · exact h.d1 e.symm
    · have := hlt bw e; have := h.lw; omega
  have np : ¬ (bp = a ∨ R = some bp) := fun e => by
    rcases e with e | e
    · exact h.d2 e.symm
    · have := hlt bp e; have := h.lp; omega
  obtain ⟨c1, h1⟩ := h.cw
  obtain ⟨c2, h22⟩ := h.cp
  have al : a < W.heap.size := World.block_lt_of_cell? W _ h1
  have far : ∀ o v, o ≠ 2 → W.cell? ⟨a, o, none⟩ = some v → (w1.setCell ⟨a, 2, none⟩ (.slice p' (len + 1) c')).cell? ⟨a, o, none⟩ = some v := fun o v h3 h4 => by
    rw [World.cell?_setCell_other _ _ _ _ (by intro e; cases e; exact h3 rfl)]
    exact ho1.cell h4 na
  refine ⟨⟨⟨c1, far 0 _ (by omega) h1⟩, ⟨c2, far 1 _ (by omega) h22⟩, ⟨p', c', World.cell?_setCell_same _ _ _ (ho1.cell h20 na), rfl, ?_⟩, fun i hi => ⟨ho.cell (h.hw i hi).1 nw, ?_⟩, fun i hi => ⟨ho.cell (h.hp i hi).1 np, ?_⟩, fun o => ?_, h.d1, h.d2, h.d3, h.la, h.lw, h.lp, Nat.le_trans h.hb ho.size⟩, ho⟩
  · rw [rowN_succ] at own
    exact own_only own (Only.of_setCell w1 ⟨a, 2, none⟩ _) (fun k hk e => by have := (own_lt own hk).1; have := h.la; simp only at e; omega)
  · rw [ho.frozen (World.block_lt_of_cell? W _ (h.hw i hi).1) nw]; exact (h.hw i hi).2
  · rw [ho.frozen (World.block_lt_of_cell? W _ (h.hp i hi).1) np]; exact (h.hp i hi).2
  · rw [World.frozen?_setCell, ho1.frozen al na]; exact h.fz o
theorem Only.comp {T T1 T2 : Nat → Prop} {x y z : World} (h : Only T1 x y) (k : Only T2 y z) (h1 : ∀ k, k < x.heap.size → T1 k → T k) (h2 : ∀ k, k < x.heap.size → T2 k → T k) : Only T x z :=
  ⟨k.os.trans h.os, k.tape.trans h.tape, k.output.trans h.output, Nat.le_trans h.size k.size, fun i hi hn => (k.block i (Nat.lt_of_lt_of_le hi h.size) (fun ht => hn (h2 i hi ht))).trans (h.block i hi (fun ht => hn (h1 i hi ht)))⟩
def Reads2 (p : Addr) (u : Value) (q : Addr) (v : Value) (w : World) : Prop := w.cell? p = some u ∧ w.cell? q = some v
theorem Reads2.later {p q : Addr} {u v : Value} {w w' : World} (h : Reads2 p u q v w) (hb : Below w.heap.size w w') : Reads2 p u q v w' := ⟨cell_later hb h.1, cell_later hb h.2⟩
theorem Reads2.set {a1 c1 c2 : Nat} {u v : Value} {w : World} (h : Reads2 ⟨a1, c1, none⟩ u ⟨a1, c2, none⟩ v w) {b o : Nat} (n1 : a1 = b → False) (z : Value) : Reads2 ⟨a1, c1, none⟩ u ⟨a1, c2, none⟩ v (w.setCell ⟨b, o, none⟩ z) := by
  obtain ⟨h1, h2⟩ := h
  refine ⟨?_, ?_⟩ <;> rw [World.cell?_setCell_other _ _ _ _ (by intro e; cases e; exact n1 rfl)] <;> assumption
set_option maxRecDepth 100000 in
set_option maxHeartbeats 1600000 in
theorem push_in (h : HeapIs W a bw bp base n R len Wt In) (i : Nat) (hi : i < n) (hin : In i = false) (hn : n ≤ 1048576) (hl : len < 1048576) :
    Calls Try.prog 13 #[.pointer (some ⟨a, 0, none⟩), .int .i64 i] W fun e w' => e = .returned (.int .i64 0) ∧ ∃ R', (R' = R ∨ ∃ k, R' = some k ∧ W.heap.size ≤ k) ∧ HeapIs w' a bw bp base n R' (len + 1) Wt (up1 In i true) ∧ Only (HB a bw bp R) W w' := by
  obtain ⟨P, O, h, p, ho, hp, hwt⟩ := h
  have hp0 : P i = 0 := by
    by_cases e : P i = 0
    · exact e
    · rw [(hp i hi).1 e] at hin; cases hin
  have H1 := owns_at h (i : Int) hn
  rw [ownB_in hi] at H1
  obtain ⟨i3, hi3, hz30, hz31, hz32⟩ := info3
  obtain ⟨pr, cr, h2, hR, own⟩ := h.co
  obtain ⟨c2, h1⟩ := h.cp
  have x1 := (h.hp i hi).1
  rw [hp0] at x1
  have i0 : (0 : Int) ≤ (i : Int) := by omega
  have i1 : (i : Int) < (n : Int) := by omega
  have H := Lib.hid h
  have HP := Lib.hid p
  have HO := Lib.hid ho
  have HPI := Lib.hid hp
  have HWT := Lib.hid hwt
  have HP0 := Lib.hid hp0
  have HR := Lib.hid hR
  have HB1 := Lib.hid (below1 W (.cells #[.int .i64 (i : Int)] 3))
  have HOW := Lib.hid (own_later own HB1.out)
  have HH1 := Lib.hid (h.later HB1.out)
  have H2 := Lib.hid h2
  clear h p ho hp hwt hp0 hR own
  go_enter Try.func13, Try.ntmps13
  go_wp2_with fail
  refine H1.mono ?_
  rintro e w1 ⟨rfl, rfl⟩
  clear H1
  have hbase := HH1.out.hb
  go_wp2_with (at_builtin; refine wpList_append_own_at _ rfl _ _ 46 rfl base 3 i3 (.int .i64 0) 1 8 Try.underlying46 hi3 hz30 hz31 hz32 rfl (by omega) _ len (rowN len O) rfl HOW.out ⟨w1.heap.size, 0, none⟩ 1 1 [.int .i64 (i : Int)] rfl rfl ?qc2 ?qc3 ?qc4 ?qc5 ?qc6 ?_)
  case qc2 =>
    intro jj u hjj
    rw [Lib.add_plain]
    match jj, hjj with
    | 0, hjj => cases hjj; simp [go_sem]
  case qc3 => intro u hu; simp at hu; rcases hu with rfl; rfl
  case qc4 => have hml : maxLen = 9223372036854775807 := rfl; omega
  case qc5 => omega
  case qc6 => exact hbase
  intro v5 w5 hown hgrow _ hloc
  obtain ⟨p5, c5, hv, _⟩ := own_shape hown
  subst hv
  rw [HR.out] at hgrow hloc
  have hna : ¬ R = some a := fun e => by
    have := own_lt HOW.out (HR.out.trans e)
    have := HH1.out.la
    omega
  have c25 := (Only.of_grown hgrow).cell (cell_later HB1.out H2.out) hna
  have al : a < (w1.alloc (.cells #[.int .i64 (i : Int)] 3)).heap.size := World.block_lt_of_cell? _ _ (cell_later HB1.out H2.out)
  have f25 : w5.frozen? ⟨a, 2, none⟩ = false := by
    rw [(Only.of_grown hgrow).frozen al hna]
    exact HH1.out.fz 2
  obtain ⟨hD, hoD⟩ := HH1.out.push (x := i) (cell_later HB1.out H2.out) HR.out hown hgrow
  have HD := Lib.hid hD
  have HOD := Lib.hid hoD
  have HL := Lib.hid hloc
  clear hown hgrow hloc hD hoD x1 h1 h2 hbase al
  go_wp2_with fail
  generalize w5.setCell ⟨a, 2, none⟩ (.slice p5 (len + 1) c5) = D at *
  clear c25 f25
  obtain ⟨c6, h6⟩ := HD.out.cp
  obtain ⟨p7, c7, h7, _, _⟩ := HD.out.co
  obtain ⟨u1, f1⟩ := HD.out.hp i hi
  have hS : Reads2 ⟨a, 1, none⟩ (.slice (some ⟨bp, 0, none⟩) n c6) ⟨a, 2, none⟩ (.slice p7 (len + 1) c7) D.drew := ⟨h6, h7⟩
  have hT := fun u => hS.set (b := bp) (o := i) (fun e => HD.out.d2 e) u
  clear h6 h7
  go_region_held3 (fun w' => w'.cell? ⟨a, 1, none⟩ = some (.slice (some ⟨bp, 0, none⟩) n c6) ∧ w'.cell? ⟨a, 2, none⟩ = some (.slice p7 (len + 1) c7))
    (first | exact hS | exact hT _) (first | fail)
  clear u1 f1 hS hT
  have hE : Only (fun k => k = bp) D (D.setCell ⟨bp, i, none⟩ (.int .i64 ((len : Int) + 1))).drew := (Only.of_setCell D ⟨bp, i, none⟩ _).trans (Only.of_below ((Below.refl _ _).drew))
  have hP := ints_set HD.out.hp i (len + 1)
  rw [show ((len + 1 : Nat) : Int) = (len : Int) + 1 by omega] at hP
  have hF := HD.out.replace hE (P' := up1 P i (len + 1)) (fun j hj => ⟨by rw [World.cell?_drew]; exact (hP j hj).1, (hP j hj).2⟩)
  have HF := Lib.hid hF
  have HE := Lib.hid hE
  clear hP hF hE
  go_wp2_with fail
  refine (up_at HF.out (HP.out.push hi HP0.out) len (by omega) (push_almost HO.out i) hn (by omega)).mono ?_
  rintro e w7 ⟨rfl, P', O', h7, p7, o7, in7, only7⟩
  have H7 := Lib.hid (And.intro h7 (And.intro p7 (And.intro o7 (And.intro in7 only7))))
  clear h7 p7 o7 in7 only7
  go_wp2_with fail
  go_ret
  obtain ⟨h7, p7, o7, in7, only7⟩ := H7.out
  refine ⟨rfl, _, ?_, ⟨P', O', h7, p7, o7, fun x hx => (in7 x).trans ?_, HWT.out⟩, ?_⟩
  · rcases HL.out with e | e
    · exact .inl e
    · exact .inr ⟨_, e, by simp⟩
  · by_cases e : x = i
    · subst e; rw [up1_same, up1_same]; simp
    · rw [up1_ne P _ e, up1_ne In _ e]; exact HPI.out x hx
  · have s1 : Only (HB a bw bp R) w1 _ := Only.of_below HB1.out
    have s2 := s1.comp (T := HB a bw bp R) HOD.out (fun _ _ h => h) (fun k _ h => by
      rcases h with h | h
      · exact .inl h
      · exact .inr (.inr (.inr h)))
    have s3 := s2.comp (T := HB a bw bp R) HE.out (fun _ _ h => h) (fun k _ h => .inr (.inr (.inl h)))
    exact s3.comp only7 (fun _ _ h => h) (fun k hk h => by
      rcases h with h | h
      · exact .inr (.inr (.inl h))
      · rcases HL.out with e | e
        · exact .inr (.inr (.inr (e.symm.trans h)))
        · rw [h] at e
          injection e with e
          try simp at e
          omega)
set_option maxRecDepth 100000 in
set_option maxHeartbeats 800000 in
theorem push_twice (h : HeapIs W a bw bp base n R len Wt In) (i : Nat) (hi : i < n) (hin : In i = true) (hn : n ≤ 1048576) :
    Calls Try.prog 13 #[.pointer (some ⟨a, 0, none⟩), .int .i64 i] W fun e w' => e = .returned (.int .i64 8) ∧ w' = W := by
  obtain ⟨P, O, h, p, ho, hp, hwt⟩ := h
  have hp0 : P i ≠ 0 := (hp i hi).2 hin
  have H1 := owns_at h (i : Int) hn
  rw [ownB_in hi] at H1
  obtain ⟨c2, h1⟩ := h.cp
  have x1 := (h.hp i hi).1
  have i0 : (0 : Int) ≤ (i : Int) := by omega
  have i1 : (i : Int) < (n : Int) := by omega
  clear h p ho hp hwt
  generalize P i = pi at *
  have q1 : (0 : Int) < (pi : Int) := by omega
  go_enter Try.func13, Try.ntmps13
  go_wp2_with fail
  refine H1.mono ?_
  rintro e w1 ⟨rfl, rfl⟩
  clear H1
  go_wp2_with fail
  go_ret
  exact ⟨rfl, rfl⟩
set_option maxRecDepth 100000 in
set_option maxHeartbeats 800000 in
theorem push_out (h : HeapIs W a bw bp base n R len Wt In) (i : Int) (hi : ownB n i = false) (hn : n ≤ 1048576) :
    Calls Try.prog 13 #[.pointer (some ⟨a, 0, none⟩), .int .i64 i] W fun e w' => e = .returned (.int .i64 2) ∧ w' = W := by
  obtain ⟨P, O, h, p, ho, hp, hwt⟩ := h
  have H1 := owns_at h i hn
  rw [hi] at H1
  clear h p ho hp hwt hi
  go_enter Try.func13, Try.ntmps13
  go_wp2_with fail
  refine H1.mono ?_
  rintro e w1 ⟨rfl, rfl⟩
  clear H1
  go_wp2_with fail
  go_ret
  exact ⟨rfl, rfl⟩
end Go.Proofs.Ytpnchmelaonfiaa
