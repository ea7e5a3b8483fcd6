/- TreeReads: the law's walk. -/
import Derived.Test.YtlifankiljbdjaaDoorU11
import Derived.Test.YtlifankiljbdjaaDoorL6
import Derived.Deep.RegionHeld3
namespace Go.Proofs.YtlifankiljbdjaaDoor
open Go Go.RowKit

theorem AllO.uniq {l : List TkA} {i : Nat} {f : Fo} {z er : Int} (h : AllO l i f z er) : ∀ {f' : Fo} {z' er' : Int}, AllO l i f' z' er' → f' = f ∧ z' = z ∧ er' = er := by
  induction h with
  | done h1 =>
    intro f' z' er' h'
    cases h' with
    | done => exact ⟨rfl, rfl, rfl⟩
    | ok h2 => omega
    | deep h2 => omega
    | bad h2 => omega
  | ok h1 h2 h3 ih =>
    intro f' z' er' h'
    cases h' with
    | done h => omega
    | ok g1 g2 g3 =>
      obtain ⟨rfl, rfl, rfl, rfl, rfl, e6, _⟩ := h2.uniq g2
      obtain rfl := Int.ofNat_inj.1 e6
      obtain ⟨rfl, rfl, rfl⟩ := ih g3
      exact ⟨rfl, rfl, rfl⟩
    | deep g1 g2 _ => obtain ⟨_, _, _, _, _, _, e⟩ := h2.uniq g2; omega
    | bad g1 g2 g3 _ => obtain ⟨_, _, _, _, _, _, e⟩ := h2.uniq g2; exact absurd e g3
  | deep h1 h2 h3 ih =>
    intro f' z' er' h'
    cases h' with
    | done h => omega
    | ok g1 g2 g3 => obtain ⟨_, _, _, _, _, _, e⟩ := h2.uniq g2; omega
    | deep g1 g2 g3 =>
      obtain ⟨_, _, _, _, _, e6, _⟩ := h2.uniq g2
      obtain rfl := Int.ofNat_inj.1 e6
      obtain ⟨rfl, rfl, rfl⟩ := ih g3
      exact ⟨rfl, rfl, rfl⟩
    | bad g1 g2 g3 g4 => obtain ⟨_, _, _, _, _, _, e⟩ := h2.uniq g2; exact absurd e g4
  | bad h1 h2 h3 h4 =>
    intro f' z' er' h'
    cases h' with
    | done h => omega
    | ok g1 g2 _ => obtain ⟨_, _, _, _, _, _, e⟩ := h2.uniq g2; exact absurd e.symm h3
    | deep g1 g2 _ => obtain ⟨_, _, _, _, _, _, e⟩ := h2.uniq g2; exact absurd e.symm h4
    | bad g1 g2 _ _ =>
      obtain ⟨_, _, _, _, _, _, e⟩ := h2.uniq g2
      exact ⟨rfl, rfl, e⟩
/-- the cells of some tokens. -/
def rowA (l : List TkA) : List Value := l.flatMap fun t => [.int .u8 t.k, .string t.s, .int .i64 t.a]
theorem rowA_len (l : List TkA) : (rowA l).length = l.length * 3 := by
  unfold rowA
  induction l with
  | nil => rfl
  | cons t l ih => simp only [List.flatMap_cons, List.length_append, ih, List.length_cons, List.length_nil]; omega
theorem rowA_get : ∀ (l : List TkA) (i : Nat) (h : i < l.length), (rowA l)[i * 3]? = some (.int .u8 l[i].k) ∧ (rowA l)[i * 3 + 1]? = some (.string l[i].s) ∧ (rowA l)[i * 3 + 2]? = some (.int .i64 l[i].a)
  | [], i, h => by simp at h
  | t :: l, 0, h => by simp [rowA]
  | t :: l, i + 1, h => by
    have := rowA_get l i (by simpa using h)
    have e : rowA (t :: l) = [.int .u8 t.k, .string t.s, .int .i64 t.a] ++ rowA l := rfl
    rw [e]
    refine ⟨?_, ?_, ?_⟩
    · rw [List.getElem?_append_right (by simp; omega), show (i + 1) * 3 - [Value.int .u8 t.k, .string t.s, .int .i64 t.a].length = i * 3 by simp; omega]; exact this.1
    · rw [List.getElem?_append_right (by simp; omega), show (i + 1) * 3 + 1 - [Value.int .u8 t.k, .string t.s, .int .i64 t.a].length = i * 3 + 1 by simp; omega]; exact this.2.1
    · rw [List.getElem?_append_right (by simp; omega), show (i + 1) * 3 + 2 - [Value.int .u8 t.k, .string t.s, .int .i64 t.a].length = i * 3 + 2 by simp; omega]; exact this.2.2
/-- the cells that stand in memory are these. -/
theorem tks_news {W : World} {p : Option Addr} {l : List TkA} (h : TksA W p l) : ∀ ad, p = some ad → ∀ j u, (rowA l)[j]? = some u → W.cell? (ad.add j) = some u := fun ad e j u hu => by
  have hlt := (List.getElem?_eq_some_iff.1 hu).1
  rw [rowA_len] at hlt
  obtain ⟨b, off, e2, c0, c1, c2⟩ := h (j / 3) (by omega)
  rw [e] at e2; cases e2
  have hg := rowA_get l (j / 3) (by omega)
  rw [Lib.add_plain]
  have hj : j = j / 3 * 3 ∨ j = j / 3 * 3 + 1 ∨ j = j / 3 * 3 + 2 := by omega
  rcases hj with e | e | e
  · rw [e] at hu ⊢; rw [hg.1] at hu; cases hu; exact c0
  · rw [e] at hu ⊢; rw [hg.2.1] at hu; cases hu; rw [← Nat.add_assoc]; exact c1
  · rw [e] at hu ⊢; rw [hg.2.2] at hu; cases hu; rw [← Nat.add_assoc]; exact c2
theorem own_tksA {w : World} {base c : Nat} {p : Option Addr} {l : List TkA} (h : w.ownsRow base 33 3 (.slice p l.length c) l.length (rowA l)) : TksA w p l := fun i hi => by
  obtain ⟨g, rfl⟩ : ∃ g, p = some ⟨g, 0, none⟩ := by
    rcases h.2 with ⟨e, _⟩ | ⟨g, _, _, e, _⟩
    · injection e with _ e2 _; omega
    · injection e with e2 _ _; exact ⟨g, e2⟩
  have hg := rowA_get l i hi
  refine ⟨g, 0, rfl, ?_, ?_, ?_⟩
  · rw [Nat.zero_add]; exact (own_cell3 h _ _ hg.1).1
  · rw [Nat.zero_add]; exact (own_cell3 h _ _ hg.2.1).1
  · rw [Nat.zero_add]; exact (own_cell3 h _ _ hg.2.2).1
theorem own_empty33 (W : World) : (W.alloc (.cells #[] 33)).ownsRow W.heap.size 33 3 (.slice (some ⟨W.heap.size, 0, none⟩) 0 0) 0 [] :=
  ⟨by simp, .inr ⟨W.heap.size, 0, #[], rfl, Nat.le_refl _, heap_alloc_new W _, by simp, by decide, by simp, by simp⟩⟩
theorem One.glen {l : List TkA} {b : Bool} {k : Int} {s : ByteArray} {a : Int} {g : Fo} (h : One l b k s a g) : g.len ≤ l.length := by
  cases h with
  | leaf => simp [Fo.len]
  | list _ _ h => have := h.len; simp; omega
theorem NextO.glen {l : List TkA} {z : Int} {b : Bool} {k : Int} {s : ByteArray} {a : Int} {g : Fo} {n er : Int} (h : NextO l z b k s a g n er) : g.len ≤ l.length := by
  cases h with
  | ok h1 h2 h3 h4 h5 =>
    have := h5.glen
    have e := congrArg List.length h1
    rw [List.length_drop] at e
    rw [List.length_take] at this
    omega
  | _ => simp [Fo.len]
set_option maxRecDepth 100000 in
set_option maxHeartbeats 6400000 in
theorem treereads_any (p : Option Addr) (c : Nat) (l : List TkA) (z : Int) (W : World) (h1 : TksA W p l) (hc : l.length ≤ c) (hln : l.length ≤ 281474976710656) (hs : ∀ t ∈ l, t.s.size ≤ 281474976710656) (hp : p = none → l.length = 0 ∧ c = 0) (hm : MaxAt W) :
    Calls Tryd.prog 8 #[.slice p l.length c, .int .i64 z] W fun e w' => e = .returned (.bool true) ∧ Below W.heap.size W w' := by
  have HKN := Lib.hid (fun (w : World) (h : Below W.heap.size W w) => known20 w (hm.later h))
  obtain ⟨n, hl⟩ : ∃ n, n = l.length := ⟨_, rfl⟩
  by_cases hbig : 3000 < n
  · have i1 : (3000 : Int) < (n : Int) := by omega
    have i2 : (n : Int) ≤ 281474976710656 := by omega
    rw [← hl]
    clear h1 hc hln hs hl hm hp
    go_enter Tryd.func8, Tryd.ntmps8
    go_wp2_with fail
    refine (HKN.out _ (Below.refl _ _)).mono ?_
    rintro e w1 ⟨rfl, hb⟩
    have HB := Lib.hid hb
    clear hb
    go_wp2_with fail
    go_ret
    exact ⟨rfl, HB.out⟩
  have hn3 : n ≤ 3000 := by omega
  obtain ⟨i33, hi33, hz0, hz1, hz2⟩ := info33
  have HL := Lib.hid hl
  have H1 := Lib.hid (And.intro h1 (And.intro hc hs))
  have HPN := Lib.hid (show p = none → n = 0 ∧ c = 0 from fun h => by have := hp h; omega)
  have HB0 := Lib.hid (h1.later (below1 W (.cells #[] 33)))
  obtain ⟨NW, hNW⟩ : ∃ NW, NW = rowA l := ⟨_, rfl⟩
  have HNW := Lib.hid hNW
  have i1 : (n : Int) ≤ 3000 := by omega
  rw [← hl]
  clear h1 hc hln hs hl hm hbig hp hNW
  go_enter Tryd.func8, Tryd.ntmps8
  go_wp2_with (at_builtin; refine wpList_append_any2 rfl _ _ 24 rfl W.heap.size 33 i33 Z33 3 32 Tryd.underlying24 hi33 hz0 hz1 hz2 rfl (by omega) _ 0 [] rfl (own_empty33 W) p n c NW rfl HPN.out ?qa1 (by rw [HNW.out]; exact tks_news HB0.out) ?qa2 ?qa3 ?qa4 (by simp) ?_)
  case qa1 => rw [HNW.out, rowA_len, ← HL.out]
  case qa2 =>
    intro u hu; rw [HNW.out, rowA, List.mem_flatMap] at hu; obtain ⟨x, _, hx⟩ := hu
    simp at hx; rcases hx with rfl | rfl | rfl <;> rfl
  case qa3 => have hml : maxLen = 9223372036854775807 := rfl; omega
  case qa4 => omega
  intro v1 w1 hown1 hb1
  simp only [Nat.zero_add, List.nil_append, HNW.out] at hown1
  obtain ⟨p1, c1, rfl, hpg⟩ := own_shape hown1
  have hcap := own_cap hown1
  have hbA := (below1 W (.cells #[] 33)).trans hb1
  have hl' := HL.out
  have htk1 : TksA w1 p1 l := own_tksA (c := c1) (by rw [← hl']; exact hown1)
  have hnx1 := next21 p1 c1 l z w1 htk1 (by rw [← hl']; exact hcap) (by omega) H1.out.2.2
  have HAL1 := Lib.hid (fun (w : World) (h : Below w1.heap.size w1 w) => all24 p1 c1 l w (htk1.later h) (by rw [← hl']; exact hcap) (by omega) H1.out.2.2)
  have HNX2 := Lib.hid (fun (w : World) (h : Below W.heap.size W w) => next22 p c l z w (H1.out.1.later h) H1.out.2.1 (by omega))
  have HAL2 := Lib.hid (fun (w : World) (h : Below W.heap.size W w) => all25 p c l w (H1.out.1.later h) H1.out.2.1 (by omega))
  rw [← hl'] at hnx1 HAL1 HNX2 HAL2
  have HNX1 := Lib.hid hnx1
  have HOW := Lib.hid hown1
  have HBA := Lib.hid hbA
  have HTK := Lib.hid htk1
  clear hown1 hpg hcap hbA htk1 hnx1 hb1 hl'
  go_wp2_with fail
  refine HNX1.out.mono ?_
  rintro e w2 ⟨q2, c2, lb, k2, s2, a2, g2, n2, er2, rfl, hg1, hg2, hb2, hO⟩
  have HS2 := Lib.hid hb2.size
  have HO := Lib.hid hO
  have hB2 := HBA.out.trans (hb2.mono HBA.out.size)
  have hbx2 := below1 w2 (.cells #[.bool lb, .int .u8 k2, .string s2, .int .i64 a2, .slice q2 g2.len c2] 41)
  have hB3 := hB2.trans (hbx2.mono hB2.size)
  obtain ⟨G2, hG2⟩ : ∃ G2, G2 = g2.len := ⟨_, rfl⟩
  rw [← hG2] at hbx2 hB3 hg1 ⊢
  have HG := Lib.hid (And.intro hg1 (And.intro (show FoIn (w2.alloc (.cells #[.bool lb, .int .u8 k2, .string s2, .int .i64 a2, .slice q2 G2 c2] 41)) (fun x => w1.heap.size ≤ x) g2 q2 from hg2.later hbx2) hG2))
  have HB3 := Lib.hid hB3
  have HB12 := Lib.hid (hb2.trans (hbx2.mono hb2.size))
  have hnx2 := HNX2.out _ hB3
  have HN2 := Lib.hid hnx2
  clear hO hg1 hg2 hb2 hB2 hbx2 hB3 hnx2 hG2 HNX1 HNX2
  simp only [trV]
  go_wp2_with fail
  refine HN2.out.mono ?_
  rintro e w4 ⟨q4, c4, lb4, k4, s4, a4, g4, n4, er4, rfl, hg3, hg4, hb4, hO4⟩
  obtain ⟨u1, u2, u3, u4, u5, u6, u7⟩ := HO.out.uniq hO4
  obtain rfl := u1.symm
  obtain rfl := u2.symm
  obtain rfl := u3.symm
  obtain rfl := u4.symm
  obtain rfl := u5.symm
  obtain rfl := u6.symm
  obtain rfl := u7.symm
  rw [← HG.out.2.2] at hg3 ⊢
  have hbx4 := below1 w4 (.cells #[.bool lb, .int .u8 k2, .string s2, .int .i64 a2, .slice q4 G2 c4] 41)
  obtain ⟨w5, hw5⟩ : ∃ w5, w5 = w4.alloc (.cells #[.bool lb, .int .u8 k2, .string s2, .int .i64 a2, .slice q4 G2 c4] 41) := ⟨_, rfl⟩
  have hb45 := hb4.trans (hbx4.mono hb4.size)
  rw [← hw5] at hbx4 hb45
  have HS12 := Lib.hid (show w1.heap.size ≤ w2.heap.size from HS2.out)
  have HE6 := Lib.hid (show w2.heap.size < w4.heap.size ∧ ∀ w : World, Below w5.heap.size w5 w → (w.cell? ⟨w2.heap.size, 0, none⟩ = some (.bool lb) ∧ w.cell? ⟨w2.heap.size, 1, none⟩ = some (.int .u8 k2) ∧ w.cell? ⟨w2.heap.size, 2, none⟩ = some (.string s2) ∧ w.cell? ⟨w2.heap.size, 3, none⟩ = some (.int .i64 a2) ∧ w.cell? ⟨w2.heap.size, 4, none⟩ = some (.slice q2 G2 c2)) ∧ (w.cell? ⟨w4.heap.size, 0, none⟩ = some (.bool lb) ∧ w.cell? ⟨w4.heap.size, 1, none⟩ = some (.int .u8 k2) ∧ w.cell? ⟨w4.heap.size, 2, none⟩ = some (.string s2) ∧ w.cell? ⟨w4.heap.size, 3, none⟩ = some (.int .i64 a2) ∧ w.cell? ⟨w4.heap.size, 4, none⟩ = some (.slice q4 G2 c4)) from by
    refine ⟨by have := hb4.size; simp at this; omega, fun w h => ?_⟩
    have h2 := hb45.trans (h.mono hb45.size)
    have h4 : Below w5.heap.size (w4.alloc (.cells #[.bool lb, .int .u8 k2, .string s2, .int .i64 a2, .slice q4 G2 c4] 41)) w := by rw [← hw5]; exact h
    rw [hw5] at h4
    exact ⟨⟨cell_later h2 (by simp [go_sem]), cell_later h2 (by simp [go_sem]), cell_later h2 (by simp [go_sem]), cell_later h2 (by simp [go_sem]), cell_later h2 (by simp [go_sem])⟩, cell_later h4 (by simp [go_sem]), cell_later h4 (by simp [go_sem]), cell_later h4 (by simp [go_sem]), cell_later h4 (by simp [go_sem]), cell_later h4 (by simp [go_sem])⟩)
  have HX4 := Lib.hid (show w4.cell? ⟨w2.heap.size, 0, none⟩ = some (.bool lb) ∧ w4.cell? ⟨w2.heap.size, 1, none⟩ = some (.int .u8 k2) ∧ w4.cell? ⟨w2.heap.size, 2, none⟩ = some (.string s2) ∧ w4.cell? ⟨w2.heap.size, 3, none⟩ = some (.int .i64 a2) ∧ w4.cell? ⟨w2.heap.size, 4, none⟩ = some (.slice q2 G2 c2) from ⟨cell_later hb4 (by simp [go_sem]), cell_later hb4 (by simp [go_sem]), cell_later hb4 (by simp [go_sem]), cell_later hb4 (by simp [go_sem]), cell_later hb4 (by simp [go_sem])⟩)
  have HB5 := Lib.hid (HB3.out.trans (hb45.mono HB3.out.size))
  have HB15 := Lib.hid (HB12.out.trans (hb45.mono HB12.out.size))
  have HG5 := Lib.hid (And.intro (HG.out.2.1.later hb45) (And.intro (hg4.later hbx4) hg3))
  have HS23 := Lib.hid (fun (w : World) (h : Below w5.heap.size w5 w) => same23_any g2.size g2 g2 (Nat.le_refl _) lb lb k2 k2 s2 s2 a2 a2 q2 q4 c2 c4 w _ _ (HG5.out.1.later h) (HG5.out.2.1.later h) (by rw [← HG.out.2.2]; exact HG.out.1) (by rw [← HG.out.2.2]; exact HG5.out.2.2) (by have := HO.out.glen; have := HL.out; omega) (by have := HO.out.glen; have := HL.out; omega))
  clear hg3 hg4 hb4 hO4 hbx4 hb45 u1 u2 u3 u4 u5 u6 u7
  simp only [trV]
  simp only [← HG.out.2.2, trV, sameT_refl] at HS23
  have HW5 := Lib.hid hw5
  have hlt := HE6.out.1
  obtain ⟨x0, x1, x2, x3, x4⟩ := HX4.out
  clear hw5
  go_wp2_with fail
  rw [← HW5.out]
  refine (HS23.out _ (Below.refl _ _)).mono ?_
  rintro e w6 ⟨rfl, hb6⟩
  have HB56 := Lib.hid hb6
  clear hb6 x0 x1 x2 x3 x4 hlt
  go_wp2_with fail
  have HB6 := Lib.hid (And.intro (HB15.out.trans (HB56.out.mono HB15.out.size)) (HB5.out.trans (HB56.out.mono HB5.out.size)))
  refine (HAL1.out _ HB6.out.1).mono ?_
  rintro e w7 ⟨v7, f7, z7, er7, rfl, hown7, hfl7, hb7, hA7⟩
  obtain ⟨q7, c7, rfl, hc7, hfo7⟩ := hown7.foIn
  obtain ⟨N, hN⟩ : ∃ N, N = f7.len := ⟨_, rfl⟩
  rw [← hN] at hc7 hfl7 ⊢
  have HB7 := Lib.hid hb7
  have HF7 := Lib.hid (And.intro hc7 (And.intro hfo7 (And.intro hN (And.intro hA7 hfl7))))
  have HB7W := Lib.hid (HB6.out.2.trans (hb7.mono HB6.out.2.size))
  clear hc7 hfo7 hN hA7 hfl7 hb7 hown7 HAL1
  go_wp2_with fail
  refine (HAL2.out _ HB7W.out).mono ?_
  rintro e w8 ⟨v8, f8, z8, er8, rfl, hown8, hfl8, hb8, hA8⟩
  obtain ⟨q8, c8, rfl, hc8, hfo8⟩ := hown8.foIn
  obtain ⟨u1, u2, u3⟩ := HF7.out.2.2.2.1.uniq hA8
  obtain rfl := u1.symm
  obtain rfl := u2.symm
  obtain rfl := u3.symm
  rw [← HF7.out.2.2.1] at hc8 ⊢
  have HF8 := Lib.hid (And.intro hc8 hfo8)
  have HB8 := Lib.hid hb8
  have HB78 := Lib.hid (HB7.out.trans (hb8.mono HB7.out.size))
  have HB8W := Lib.hid (HB7W.out.trans (hb8.mono HB7W.out.size))
  clear hc8 hfo8 hown8 hfl8 hb8 hA8 u1 u2 u3 HAL2
  go_wp2_with fail
  have hp1 : ∀ ad, p1 = some ad → ad = ⟨ad.block, 0, none⟩ ∧ W.heap.size ≤ ad.block ∧ ad.block < w1.heap.size := fun ad e => by
    obtain ⟨_, ⟨e1, _⟩ | ⟨g, cap, cur, e1, hg, hh, _⟩⟩ := HOW.out
    · cases e1; cases e
    · cases e1; cases e
      refine ⟨rfl, hg, ?_⟩
      by_cases hlt : g < w1.heap.size
      · exact hlt
      · rw [Array.getElem?_eq_none (by omega)] at hh; cases hh
  have HP1 := Lib.hid hp1
  have hb18 := HB6.out.1.trans (HB78.out.mono HB6.out.1.size)
  have HB18 := Lib.hid hb18
  have HOW8 := Lib.hid (own_later HOW.out hb18)
  clear hp1 hb18
  go_loopg [18] n (fun gk s18 wx => ∃ (i : Nat) (xs : List Value), i + gk = n ∧ s18 = .int .i64 (i : Int) ∧ Hid (wx.ownsRow W.heap.size 33 3 (.slice p1 n c1) n xs ∧ (∀ j, i * 3 ≤ j → xs[j]? = (rowA l)[j]?) ∧ Only (fun b => p1 = some ⟨b, 0, none⟩) w8 wx))
  case atStart => exact ⟨0, rowA l, by omega, rfl, Lib.hid ⟨HOW8.out, fun _ _ => rfl, Only.refl _ _⟩⟩
  case round =>
    obtain ⟨i, xs, hk, rfl, HK⟩ := hrel
    have HGK := Lib.hid hk
    have hi2 : i ≤ n := by omega
    clear hk
    by_cases hlt : i < n
    · obtain ⟨G, rfl⟩ : ∃ G, gk = G + 1 := ⟨gk - 1, by have := HGK.out; omega⟩
      have i0 : (0 : Int) ≤ (i : Int) := by omega
      have i5 : (i : Int) < (n : Int) := by omega
      have hil : i < l.length := by have := HL.out; omega
      obtain ⟨t, ht⟩ : ∃ t, t = l[i] := ⟨_, rfl⟩
      obtain ⟨g, rfl⟩ : ∃ g, p1 = some ⟨g, 0, none⟩ := by
        obtain ⟨b, _, e, _⟩ := HTK.out i hil
        exact ⟨b, by rw [e]; have := (HP1.out _ e).1; cases this; rfl⟩
      obtain ⟨hown, hxs, hon⟩ := HK.out
      have hr := rowA_get l i hil
      rw [← ht] at hr
      obtain ⟨a0, f0⟩ := own_cell3 hown (i * 3) _ ((hxs _ (Nat.le_refl _)).trans hr.1)
      obtain ⟨a1, f1⟩ := own_cell3 hown (i * 3 + 1) _ ((hxs _ (by omega)).trans hr.2.1)
      obtain ⟨a2, f2⟩ := own_cell3 hown (i * 3 + 2) _ ((hxs _ (by omega)).trans hr.2.2)
      obtain ⟨b, off, e, d0, d1, d2⟩ := (H1.out.1.later HB8W.out).only hon (fun b off e h => by
        have h2 : W.heap.size ≤ b := (HP1.out _ h).2.1
        obtain ⟨b3, off3, e3, k3, _⟩ := H1.out.1 i hil
        rw [e3] at e; cases e
        have h3 : b < W.heap.size := World.block_lt_of_cell? W _ k3
        omega) i hil
      subst e
      rw [← ht] at d0 d1 d2
      have HK2 := Lib.hid HK.out
      clear hown hxs hon hr f0 f2 HK hil ht
      go_wp2_with fail
      go_quiet (fail)
      go_wp2_with fail
      go_roundg G
      case measure => omega
      case rel =>
        obtain ⟨i', hi'⟩ : ∃ i', i' = i + 1 := ⟨_, rfl⟩
        refine ⟨i', xs.set (i * 3 + 1) (.string ⟨#[115, 112, 111, 105, 108, 116]⟩), by have := HGK.out; omega, by rw [hi']; go_num, Lib.hid ⟨own_setN (own_later HK2.out.1 (below_drewN _ _)) _ _, fun j hj => ?_, ?_⟩⟩
        · rw [List.getElem?_set_ne (by omega)]; exact HK2.out.2.1 j (by omega)
        · exact (HK2.out.2.2.trans (Only.of_below (below_drewN _ _))).trans ((only_set _ _ _ _).mono fun k _ e => by rw [e])
    · obtain rfl : i = n := by omega
      obtain rfl : gk = 0 := by have := HGK.out; omega
      obtain ⟨hown, _, hon⟩ := HK.out
      have hT : ∀ k, w1.heap.size ≤ k → ¬ p1 = some ⟨k, 0, none⟩ := fun k h e => by have h2 : k < w1.heap.size := (HP1.out _ e).2.2; omega
      have hs16 := HB6.out.1.size
      have hs67 := HB7.out.size
      have hs12 : w1.heap.size ≤ w2.heap.size := HS12.out
      have hs24 := HE6.out.1
      have HWR := Lib.hid (HB8W.out.trans ((hon.below (B := W.heap.size) (fun k h => (HP1.out _ h).2.1) HB8W.out.size).mono (Nat.le_refl _)))
      have hm7 := (HF7.out.2.1.later HB8.out).only hon (fun b h => hT b (by omega))
      have hm8 := HF8.out.2.only hon (fun b h => hT b (by omega))
      have h26 := same26 f7 f7 q7 q8 c7 c8 wr _ _ hm7 hm8 (by rw [← HF7.out.2.2.1]; exact HF7.out.1) (by rw [← HF7.out.2.2.1]; exact HF8.out.1) (by have := HF7.out.2.2.2.2; have := HF7.out.2.2.1; have := HL.out; omega) (by have := HF7.out.2.2.2.2; have := HF7.out.2.2.1; have := HL.out; omega)
      rw [show (decide (f7.len = f7.len) && sameF f7 f7) = true by simp [sameF_refl], ← HF7.out.2.2.1] at h26
      have H26 := Lib.hid h26
      have hb58 : Below w5.heap.size w5 w8 := HB56.out.trans ((HB7.out.trans (HB8.out.mono HB7.out.size)).mono HB56.out.size)
      have he := HE6.out.2 _ hb58
      have HX := Lib.hid (fun (w : World) (h : Below wr.heap.size wr w) => show ((w.cell? ⟨w2.heap.size, 0, none⟩ = some (.bool lb) ∧ w.cell? ⟨w2.heap.size, 1, none⟩ = some (.int .u8 k2) ∧ w.cell? ⟨w2.heap.size, 2, none⟩ = some (.string s2) ∧ w.cell? ⟨w2.heap.size, 3, none⟩ = some (.int .i64 a2) ∧ w.cell? ⟨w2.heap.size, 4, none⟩ = some (.slice q2 G2 c2)) ∧ (w.cell? ⟨w4.heap.size, 0, none⟩ = some (.bool lb) ∧ w.cell? ⟨w4.heap.size, 1, none⟩ = some (.int .u8 k2) ∧ w.cell? ⟨w4.heap.size, 2, none⟩ = some (.string s2) ∧ w.cell? ⟨w4.heap.size, 3, none⟩ = some (.int .i64 a2) ∧ w.cell? ⟨w4.heap.size, 4, none⟩ = some (.slice q4 G2 c4))) from
        have t2 := hT w2.heap.size hs12
        have t4 := hT w4.heap.size (by omega)
        ⟨⟨cell_later h (hon.cell he.1.1 t2), cell_later h (hon.cell he.1.2.1 t2), cell_later h (hon.cell he.1.2.2.1 t2), cell_later h (hon.cell he.1.2.2.2.1 t2), cell_later h (hon.cell he.1.2.2.2.2 t2)⟩, cell_later h (hon.cell he.2.1 t4), cell_later h (hon.cell he.2.2.1 t4), cell_later h (hon.cell he.2.2.2.1 t4), cell_later h (hon.cell he.2.2.2.2.1 t4), cell_later h (hon.cell he.2.2.2.2.2 t4)⟩)
      have hg8 := (HG5.out.1.later hb58).only hon (fun b h => hT b h)
      have hg9 := (HG5.out.2.1.later hb58).only hon (fun b h => hT b (by simp at h; omega))
      have HS23 := Lib.hid (fun (w : World) (h : Below wr.heap.size wr w) => same23_any g2.size g2 g2 (Nat.le_refl _) lb lb k2 k2 s2 s2 a2 a2 q2 q4 c2 c4 w _ _ (hg8.later h) (hg9.later h) (by rw [← HG.out.2.2]; exact HG.out.1) (by rw [← HG.out.2.2]; exact HG5.out.2.2) (by have := HO.out.glen; have := HL.out; omega) (by have := HO.out.glen; have := HL.out; omega))
      simp only [← HG.out.2.2, trV, sameT_refl] at HS23
      clear hT hs16 hs67 hs12 hs24 hm7 hm8 h26 hb58 he hg8 hg9 hown hon HK
      go_wp2_with fail
      refine H26.out.mono ?_
      rintro e w9 ⟨rfl, hb9⟩
      have HB9 := Lib.hid hb9
      obtain ⟨⟨x0, x1, x2, x3, x4⟩, y0, y1, y2, y3, y4⟩ := HX.out _ hb9
      clear hb9
      go_wp2_with fail
      refine (HS23.out _ HB9.out).mono ?_
      rintro e w10 ⟨rfl, hb10⟩
      have HB10 := Lib.hid ((HWR.out.trans (HB9.out.mono HWR.out.size)).trans (hb10.mono (HWR.out.trans (HB9.out.mono HWR.out.size)).size))
      clear hb10 x0 x1 x2 x3 x4 y0 y1 y2 y3 y4
      go_wp2_with fail
      refine (HKN.out _ HB10.out).mono ?_
      rintro e w11 ⟨rfl, hb11⟩
      have HB11 := Lib.hid (HB10.out.trans (hb11.mono HB10.out.size))
      clear hb11
      go_wp2_with fail
      go_ret
      exact ⟨rfl, HB11.out⟩
end Go.Proofs.YtlifankiljbdjaaDoor
