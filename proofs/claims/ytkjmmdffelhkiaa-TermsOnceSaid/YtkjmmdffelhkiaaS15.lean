/- What a table tells of a function. -/
import Derived.Test.YtkjmmdffelhkiaaS14
namespace Go.Proofs.Ytkjmmdffelhkiaa
open Go Go.RowKit Go.Maps

variable {W : World} {K : Nat → Nat} {base c : Nat} {T : Tab}
set_option maxRecDepth 100000 in
set_option maxHeartbeats 1600000 in
theorem info_any (h : TabAt W K base c T) (g : Good T) (j : Nat) (x : Info) (hj : T.infos[j]? = some x) :
    Calls Try.prog 23 #[.pointer (some ⟨c, 0, none⟩), .int .i64 (j : Int)] W fun e w' => ∃ P C, e = .returned (.tuple #[infoA { x with P := P, C := C }, .int .i64 0]) ∧ IntsIn w' P x.L x.V ∧ Below W.heap.size W w' ∧ (∀ ad, P = some ad → W.heap.size ≤ ad.block) := by
  obtain ⟨N, P, L, C, V, R, D⟩ := x
  have hjn := (List.getElem?_eq_some_iff.1 hj).1
  have hb1 := below1 W (.cells #[.string ⟨#[]⟩, .slice none 0 0, .int .i64 0, .bool false] 35)
  have h1 := h.later hb1
  have HR := ready_at h1
  obtain ⟨vs, m1, m2, ob, p⟩ := h1.ob
  obtain ⟨hI, _, hL⟩ := p.ar j _ hj
  obtain ⟨p1, z1, x1, o1⟩ := h1.row1
  obtain ⟨g1, c1, e1⟩ := own_some o1 (by omega)
  cases e1
  obtain ⟨g1', z1', e1, _, hc1⟩ := own_cells o1 (by simp)
  cases e1
  have hg := flatI_get T.infos j _ hj
  have s0 := hc1 _ _ hg.1
  have s1 := hc1 _ _ hg.2.1
  have s2 := hc1 _ _ hg.2.2.1
  have s3 := hc1 _ _ hg.2.2.2
  simp only at s0 s1 s2 s3 hI hL ⊢
  have hj0 : (0 : Int) ≤ (j : Int) := by omega
  have hj1 : (j : Int) < (T.infos.length : Int) := by omega
  have hb2 := g.b2
  have HI := Lib.hid hI
  have HB1 := Lib.hid hb1
  clear h h1 ob p o1 hc1 hg hj hb1 hI
  unfold infoA
  go_enter Try.func23, Try.ntmps23
  go_wp2_with fail
  refine HR.mono ?_
  rintro e w1 ⟨rfl, hw⟩
  subst hw
  clear HR
  have hb3 := HB1.out.trans ((below1 (W.alloc (.cells #[.string ⟨#[]⟩, .slice none 0 0, .int .i64 0, .bool false] 35)) (.cells #[.string N, .slice P L C, .int .i64 R, .bool D] 35)).mono (by simp))
  have HI3 := Lib.hid (HI.out.later (below1 (W.alloc (.cells #[.string ⟨#[]⟩, .slice none 0 0, .int .i64 0, .bool false] 35)) (.cells #[.string N, .slice P L C, .int .i64 R, .bool D] 35)))
  have HC := clone_any P L C V _ HI3.out (by omega)
  have HB3 := Lib.hid hb3
  clear hb3
  go_wp2_with fail
  refine HC.mono ?_
  rintro e w5 ⟨v5, rfl, ho5, hb5⟩
  obtain ⟨P5, C5, hv, hI5, h95⟩ := own_intsIn ho5
  subst hv
  clear HC
  have cell0 : ∀ j u, ((W.alloc (.cells #[.string ⟨#[]⟩, .slice none 0 0, .int .i64 0, .bool false] 35)).alloc (.cells #[.string N, .slice P L C, .int .i64 R, .bool D] 35)).cell? ⟨W.heap.size, j, none⟩ = some u → w5.cell? ⟨W.heap.size, j, none⟩ = some u := fun j u h => by rw [← h]; exact hb5.cell (by simp; omega)
  have cell1 : ∀ j u, ((W.alloc (.cells #[.string ⟨#[]⟩, .slice none 0 0, .int .i64 0, .bool false] 35)).alloc (.cells #[.string N, .slice P L C, .int .i64 R, .bool D] 35)).cell? ⟨W.heap.size + 1, j, none⟩ = some u → w5.cell? ⟨W.heap.size + 1, j, none⟩ = some u := fun j u h => by rw [← h]; exact hb5.cell (by simp)
  have fa : ∀ j, w5.frozen? ⟨W.heap.size, j, none⟩ = false := fun j => by rw [hb5.frozen (by simp; omega)]; simp [go_sem]
  have fb : ∀ j, w5.frozen? ⟨W.heap.size + 1, j, none⟩ = false := fun j => by rw [hb5.frozen (by simp)]; simp [go_sem]
  have a0 := cell1 0 (.string N) (by simp [go_sem])
  have a1 := cell1 1 (.slice P L C) (by simp [go_sem])
  have a2 := cell1 2 (.int .i64 R) (by simp [go_sem])
  have a3 := cell1 3 (.bool D) (by simp [go_sem])
  have b0 := cell0 0 (.string ⟨#[]⟩) (by simp [go_sem])
  have b1 := cell0 1 (.slice none 0 0) (by simp [go_sem])
  have b2 := cell0 2 (.int .i64 0) (by simp [go_sem])
  have b3 := cell0 3 (.bool false) (by simp [go_sem])
  have fa1 := fb 1
  have fb0 := fa 0
  have fb1 := fa 1
  have fb2 := fa 2
  have fb3 := fa 3
  have HI5 := Lib.hid hI5
  have H95 := Lib.hid (show ∀ ad, P5 = some ad → W.heap.size + 2 ≤ ad.block from fun ad e => by have := h95 ad e; simpa using this)
  have HB5 := Lib.hid (HB3.out.trans (hb5.mono (by simp; omega)))
  clear hI5 h95 hb5 ho5 fa fb cell0 cell1 HB3 HB1 HI3 HI x1 s0 s1 s2 s3
  generalize hq1 : W.heap.size = q1 at *
  generalize hq0 : q1 + 1 = q0 at *
  have HQ := Lib.hid (And.intro hq1 hq0)
  have hne : q0 ≠ q1 := by omega
  clear hq0 hq1
  have e0 : (w5.setCell ⟨q0, 1, none⟩ (.slice P5 L C5)).cell? ⟨q0, 0, none⟩ = some (.string N) := by rw [World.cell?_setCell_other _ _ _ _ (by intro e; cases e)]; exact a0
  have e1 : (w5.setCell ⟨q0, 1, none⟩ (.slice P5 L C5)).cell? ⟨q0, 1, none⟩ = some (.slice P5 L C5) := World.cell?_setCell_same _ _ _ a1
  have e2 : (w5.setCell ⟨q0, 1, none⟩ (.slice P5 L C5)).cell? ⟨q0, 2, none⟩ = some (.int .i64 R) := by rw [World.cell?_setCell_other _ _ _ _ (by intro e; cases e)]; exact a2
  have e3 : (w5.setCell ⟨q0, 1, none⟩ (.slice P5 L C5)).cell? ⟨q0, 3, none⟩ = some (.bool D) := by rw [World.cell?_setCell_other _ _ _ _ (by intro e; cases e)]; exact a3
  have d0 : (w5.setCell ⟨q0, 1, none⟩ (.slice P5 L C5)).cell? ⟨q1, 0, none⟩ = some (.string ⟨#[]⟩) := by rw [World.cell?_setCell_other _ _ _ _ (by intro e; cases e <;> exact hne rfl)]; exact b0
  have d1 : (w5.setCell ⟨q0, 1, none⟩ (.slice P5 L C5)).cell? ⟨q1, 1, none⟩ = some (.slice none 0 0) := by rw [World.cell?_setCell_other _ _ _ _ (by intro e; cases e <;> exact hne rfl)]; exact b1
  have d2 : (w5.setCell ⟨q0, 1, none⟩ (.slice P5 L C5)).cell? ⟨q1, 2, none⟩ = some (.int .i64 0) := by rw [World.cell?_setCell_other _ _ _ _ (by intro e; cases e <;> exact hne rfl)]; exact b2
  have d3 : (w5.setCell ⟨q0, 1, none⟩ (.slice P5 L C5)).cell? ⟨q1, 3, none⟩ = some (.bool false) := by rw [World.cell?_setCell_other _ _ _ _ (by intro e; cases e <;> exact hne rfl)]; exact b3
  have g0 : (w5.setCell ⟨q0, 1, none⟩ (.slice P5 L C5)).frozen? ⟨q1, 0, none⟩ = false := by rw [World.frozen?_setCell]; exact fb0
  have g1 : (w5.setCell ⟨q0, 1, none⟩ (.slice P5 L C5)).frozen? ⟨q1, 1, none⟩ = false := by rw [World.frozen?_setCell]; exact fb1
  have g2 : (w5.setCell ⟨q0, 1, none⟩ (.slice P5 L C5)).frozen? ⟨q1, 2, none⟩ = false := by rw [World.frozen?_setCell]; exact fb2
  have g3 : (w5.setCell ⟨q0, 1, none⟩ (.slice P5 L C5)).frozen? ⟨q1, 3, none⟩ = false := by rw [World.frozen?_setCell]; exact fb3
  have ho6 : Only (fun k => k = q0 ∨ k = q1) w5 (w5.setCell ⟨q0, 1, none⟩ (.slice P5 L C5)) := (Only.of_setCell w5 ⟨q0, 1, none⟩ _).mono (fun k _ e => .inl e)
  have HO6 := Lib.hid ho6
  have HB6 := Lib.hid (HB5.out.setCell (p := ⟨q0, 1, none⟩) (by have := HQ.out; simp only; omega) (.slice P5 L C5))
  clear ho6 HB5
  go_upto_region 7 with (fail)
  generalize w5.setCell ⟨q0, 1, none⟩ (.slice P5 L C5) = w6 at *
  clear a0 a1 a2 a3 b0 b1 b2 b3 fb0 fb1 fb2 fb3 fa1
  go_wp2_with fail
  refine bodyPost_ret (v := .tuple #[.agg #[.string N, .slice P5 L C5, .int .i64 R, .bool D], .int .i64 0]) (by simp [results, Try.results23, go_sem, d0, d1, d2, d3]) rfl ⟨P5, C5, rfl, ?_, ?_, fun ad e => ?_⟩
  · intro hn
    obtain ⟨b9, o9, e9, a9⟩ := HI5.out hn
    have h9 := H95.out _ e9
    have hq := HQ.out
    refine ⟨b9, o9, e9, fun i hi => ?_⟩
    have := HO6.out.cell (a9 i hi) (by simp only at h9 ⊢; omega)
    simp only at h9
    rw [World.cell?_setCell_other _ _ _ _ (by intro e; have := congrArg Addr.block e; simp only at this; omega), World.cell?_setCell_other _ _ _ _ (by intro e; have := congrArg Addr.block e; simp only at this; omega), World.cell?_setCell_other _ _ _ _ (by intro e; have := congrArg Addr.block e; simp only at this; omega), World.cell?_setCell_other _ _ _ _ (by intro e; have := congrArg Addr.block e; simp only at this; omega)]
    exact this
  · have hq := HQ.out
    rw [hq.1]
    exact (((HB6.out.setCell (by simp only; omega) _).setCell (by simp only; omega) _).setCell (by simp only; omega) _).setCell (by simp only; omega) _
  · have h9 := H95.out _ e
    have hq := HQ.out
    omega
/-- calls told as data. -/
structure OD where
  K : Nat → Int
  N : Nat → Int
  F : Nat → Info
structure OpsAt (W : World) (b off n : Nat) (d : OD) : Prop where
  k : ∀ i, i < n → W.cell? ⟨b, off + i * 6, none⟩ = some (.int .i64 (d.K i))
  nn : ∀ i, i < n → W.cell? ⟨b, off + i * 6 + 1, none⟩ = some (.int .i64 (d.N i))
  s : ∀ i, i < n → W.cell? ⟨b, off + i * 6 + 2, none⟩ = some (.string (d.F i).N)
  p : ∀ i, i < n → W.cell? ⟨b, off + i * 6 + 3, none⟩ = some (.slice (d.F i).P (d.F i).L (d.F i).C)
  r : ∀ i, i < n → W.cell? ⟨b, off + i * 6 + 4, none⟩ = some (.int .i64 (d.F i).R)
  dd : ∀ i, i < n → W.cell? ⟨b, off + i * 6 + 5, none⟩ = some (.bool (d.F i).D)
theorem OpsAt.later {W W' : World} {b off n : Nat} {d : OD} (h : OpsAt W b off n d) (hb : Below W.heap.size W W') : OpsAt W' b off n d :=
  ⟨fun i hi => cell_later hb (h.k i hi), fun i hi => cell_later hb (h.nn i hi), fun i hi => cell_later hb (h.s i hi), fun i hi => cell_later hb (h.p i hi), fun i hi => cell_later hb (h.r i hi), fun i hi => cell_later hb (h.dd i hi)⟩
/-- rows of calls: an argument. -/
structure OpsIn (W : World) (p : Option Addr) (n : Nat) (d : OD) : Prop where
  at_ : 0 < n → ∃ b off, p = some ⟨b, off, none⟩ ∧ OpsAt W b off n d
  args : ∀ i, i < n → IntsIn W (d.F i).P (d.F i).L (d.F i).V ∧ (d.F i).L ≤ 9223372036854775807 ∧ ((d.F i).P = none → (d.F i).L = 0 ∧ (d.F i).C = 0) ∧ (d.F i).N.size ≤ 9223372036854775807 ∧ I64 (d.N i) ∧ I64 (d.F i).R ∧ ∀ k, k < (d.F i).L → I64 ((d.F i).V k)
theorem OpsIn.later {W W' : World} {p : Option Addr} {n : Nat} {d : OD} (h : OpsIn W p n d) (hb : Below W.heap.size W W') : OpsIn W' p n d :=
  ⟨fun hn => by obtain ⟨b, off, e, ha⟩ := h.at_ hn; exact ⟨b, off, e, ha.later hb⟩, fun i hi => ⟨(h.args i hi).1.later hb, (h.args i hi).2⟩⟩
/-- calls that are looked at. -/
def Tame (n : Nat) (m : Int) (d : OD) : Prop := (n : Int) ≤ m ∧ ∀ i, i < n → (d.F i).N.size ≤ 2000 ∧ (d.F i).L ≤ 40
def TameP (n : Nat) (m : Int) (d : OD) (W : World) (e : Ending) (w' : World) : Prop := ∃ b, e = .returned (.bool b) ∧ w' = W ∧ (b = true → Tame n m d)
set_option maxRecDepth 100000 in
set_option maxHeartbeats 1600000 in
theorem tame_any (p : Option Addr) (n z : Nat) (d : OD) (m : Int) (W : World) (h : OpsIn W p n d) (hn : n ≤ 9223372036854775807) (hm : 0 ≤ m) (hm2 : m ≤ 1000) :
    Calls Try.prog 12 #[.slice p n z, .int .i64 m] W (TameP n m d W) := by
  have H := Lib.hid h
  clear h
  by_cases h1 : m < (n : Int)
  · go_enter Try.func12, Try.ntmps12
    go_wp2_with fail
    go_ret
    exact ⟨_, rfl, rfl, fun h => by cases h⟩
  · go_enter Try.func12, Try.ntmps12
    go_wp2_with fail
    go_loop [5] (fun i => ∃ k : Nat, k ≤ n ∧ i = .int .i64 k ∧ ∀ j, j < k → (d.F j).N.size ≤ 2000 ∧ (d.F j).L ≤ 40) (fun i => n - (intOf i).toNat)
    case atStart => exact ⟨0, Nat.zero_le _, rfl, fun j hj => absurd hj (Nat.not_lt_zero _)⟩
    case round =>
      obtain ⟨k, hk, rfl, hall⟩ := hrel
      have HA := Lib.hid hall
      clear hall
      by_cases hlt : k < n
      · obtain ⟨b, off, rfl, ha⟩ := H.out.at_ (by omega)
        have c2 := ha.s k hlt
        have c3 := ha.p k hlt
        obtain ⟨_, hL, _, hS, _, _, _⟩ := H.out.args k hlt
        have hk0 : (0 : Int) ≤ (k : Int) := by omega
        have hk1 : (k : Int) < (n : Int) := by omega
        have HN := Lib.hid (show (d.F k).N.size ≤ 2000 ∧ (d.F k).L ≤ 40 → ∀ j, j < k + 1 → (d.F j).N.size ≤ 2000 ∧ (d.F j).L ≤ 40 from fun h j hj => by
          by_cases e : j = k
          · subst e; exact h
          · exact HA.out j (by omega))
        clear ha
        generalize (d.F k).N = s at *
        generalize (d.F k).L = L at *
        generalize (d.F k).P = P at *
        generalize (d.F k).C = C at *
        by_cases hs : 2000 < s.size
        · go_wp2_with fail
          go_ret
          exact ⟨_, rfl, rfl, fun h => by cases h⟩
        · by_cases hl : 40 < L
          · go_wp2_with fail
            go_ret
            exact ⟨_, rfl, rfl, fun h => by cases h⟩
          · go_wp2_with fail
            go_round
            case rel => exact ⟨k + 1, by omega, by go_num, HN.out ⟨by omega, by omega⟩⟩
            case measure => simp [intOf]; omega
      · obtain rfl : k = n := by omega
        go_wp2_with fail
        go_ret
        exact ⟨_, rfl, rfl, fun _ => ⟨by omega, HA.out⟩⟩
end Go.Proofs.Ytkjmmdffelhkiaa
