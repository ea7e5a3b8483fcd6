/- Stage 6: rows of calls; tame; the document's New. -/
import Derived.Test.YtkjmmdffelhkiaaT26
import Derived.Test.YtkjmmdffelhkiaaT7
namespace Go.Proofs.Ytkjmmdffelhkiaa
open Go Go.RowKit Go.Maps

variable {W W' : World} {K K' : Nat → Nat} {base c r : Nat} {T : Sto} {N : List Nd} {e : Ending} {w' : World}
structure MAt (W : World) (b off : Nat) (o : OpV) : Prop where
  c0 : W.cell? ⟨b, off, none⟩ = some (.int .i64 o.k)
  c1 : W.cell? ⟨b, off + 1, none⟩ = some (.int .i64 o.a)
  c2 : W.cell? ⟨b, off + 2, none⟩ = some (.int .i64 o.b)
  c3 : W.cell? ⟨b, off + 3, none⟩ = some (.int .i64 o.c)
  c4 : W.cell? ⟨b, off + 4, none⟩ = some (.slice o.P o.L o.C)
  c5 : W.cell? ⟨b, off + 5, none⟩ = some (.int .i64 o.f)
  c6 : W.cell? ⟨b, off + 6, none⟩ = some (.int .i64 o.s)
  c7 : W.cell? ⟨b, off + 7, none⟩ = some (.int .i64 o.n)
  c8 : W.cell? ⟨b, off + 8, none⟩ = some (.bool o.m)
theorem MAt.later {b off : Nat} {o : OpV} (h : MAt W b off o) (hb : Below W.heap.size W W') : MAt W' b off o :=
  ⟨cell_later hb h.c0, cell_later hb h.c1, cell_later hb h.c2, cell_later hb h.c3, cell_later hb h.c4, cell_later hb h.c5, cell_later hb h.c6, cell_later hb h.c7, cell_later hb h.c8⟩
structure OpI (o : OpV) : Prop where
  k : I64 o.k
  a : I64 o.a
  b : I64 o.b
  c : I64 o.c
  L : o.L ≤ 17592186043904
  V : ∀ i, i < o.L → I64 (o.V i)
  f : I64 o.f
  s : I64 o.s
  n : I64 o.n
theorem OpI.ok {o : OpV} (h : OpI o) (hL : o.L ≤ 6000) : OpOk o := ⟨h.k, h.a, h.b, h.c, hL, h.V, h.f, h.s, h.n⟩
structure MOps (W : World) (p : Option Addr) (n : Nat) (D : Nat → OpV) : Prop where
  at_ : 0 < n → ∃ b off, p = some ⟨b, off, none⟩ ∧ ∀ i, i < n → MAt W b (off + i * 9) (D i)
  args : ∀ i, i < n → IntsIn W (D i).P (D i).L (D i).V ∧ OpI (D i)
theorem MOps.later {p : Option Addr} {n : Nat} {D : Nat → OpV} (h : MOps W p n D) (hb : Below W.heap.size W W') : MOps W' p n D :=
  ⟨fun hn => by obtain ⟨b, off, e, ha⟩ := h.at_ hn; exact ⟨b, off, e, fun i hi => (ha i hi).later hb⟩, fun i hi => ⟨(h.args i hi).1.later hb, (h.args i hi).2⟩⟩
def sumL (D : Nat → OpV) : Nat → Nat
  | 0 => 0
  | k + 1 => sumL D k + (D k).L
theorem sumL_le (D : Nat → OpV) : ∀ n, (∀ i, i < n → (D i).L ≤ 17592186043904) → sumL D n ≤ n * 17592186043904
  | 0, _ => by simp [sumL]
  | n + 1, h => by
    have h1 := sumL_le D n (fun i hi => h i (by omega))
    have h2 := h n (by omega)
    simp only [sumL]
    omega
theorem sumL_each (D : Nat → OpV) : ∀ n i, i < n → (D i).L ≤ sumL D n
  | 0, i, h => absurd h (Nat.not_lt_zero i)
  | n + 1, i, h => by
    simp only [sumL]
    by_cases e : i = n
    · subst e; omega
    · have := sumL_each D n i (by omega); omega
def TameM (n : Nat) (m : Int) (D : Nat → OpV) : Prop := (n : Int) ≤ m ∧ ∀ i, i < n → (D i).L ≤ 6000
def TameMP (n : Nat) (m : Int) (D : Nat → OpV) (W : World) (e : Ending) (w' : World) : Prop := ∃ b, e = .returned (.bool b) ∧ w' = W ∧ (b = true → TameM n m D)
set_option maxRecDepth 100000 in
set_option maxHeartbeats 1600000 in
theorem tameM_any (p : Option Addr) (n z : Nat) (D : Nat → OpV) (m : Int) (W : World) (h : MOps W p n D) (hn : n ≤ 9223372036854775807) (hm : 0 ≤ m) (hm2 : m ≤ 1000) :
    Calls Try.prog 30 #[.slice p n z, .int .i64 m] W (TameMP n m D W) := by
  have H := Lib.hid h
  clear h
  by_cases h1 : m < (n : Int)
  · go_enter Try.func30, Try.ntmps30
    go_wp2_with fail
    go_ret
    exact ⟨_, rfl, rfl, fun h => by cases h⟩
  · have hn2 : n ≤ 1000 := by omega
    have HS := Lib.hid (sumL_le D)
    go_enter Try.func30, Try.ntmps30
    go_wp2_with fail
    go_loop [5, 6] (fun s i => ∃ k : Nat, k ≤ n ∧ s = .int .i64 (sumL D k : Nat) ∧ i = .int .i64 k) (fun _ i => n - (intOf i).toNat)
    case atStart => exact ⟨0, Nat.zero_le _, rfl, rfl⟩
    case round =>
      obtain ⟨k, hk, rfl, rfl⟩ := hrel
      have hsk := HS.out k (fun i hi => (H.out.args i (by omega)).2.L)
      by_cases hlt : k < n
      · obtain ⟨b, off, rfl, ha⟩ := H.out.at_ (by omega)
        have c4 := (ha k hlt).c4
        have hL := (H.out.args k hlt).2.L
        have hk0 : (0 : Int) ≤ (k : Int) := by omega
        have hk1 : (k : Int) < (n : Int) := by omega
        have HE := Lib.hid (show sumL D (k + 1) = sumL D k + (D k).L from rfl)
        obtain ⟨s, hs⟩ : ∃ s, s = sumL D k := ⟨_, rfl⟩
        obtain ⟨l, hl⟩ : ∃ l, l = (D k).L := ⟨_, rfl⟩
        rw [← hl] at c4 hL
        rw [← hs] at hsk ⊢
        have HE2 := Lib.hid (show sumL D (k + 1) = s + l by rw [HE.out, hs, hl])
        have hs2 : s ≤ 17592186043904000 := by omega
        clear hs hl ha hsk
        have ew : wrap64 ((s : Int) + (l : Int)) = ((s + l : Nat) : Int) := by rw [wrap64_eq]; omega
        have ew' : IntKind.i64.wrap ((s : Int) + (l : Int)) = ((s + l : Nat) : Int) := by rw [IntKind.wrap_i64]; omega
        go_wp2_with fail
        go_round
        case rel => exact ⟨k + 1, by omega, by rw [HE2.out]; simp, by go_num⟩
        case measure => simp [intOf]; omega
      · obtain rfl : k = n := by omega
        have HEA := Lib.hid (sumL_each D k)
        have HMM := Lib.hid (show (k : Int) ≤ m by omega)
        generalize sumL D k = s at *
        by_cases h6 : (s : Int) ≤ 6000
        · have u0 : decide ((s : Int) ≤ 6000) = true := by simpa using h6
          go_wp2_with fail
          go_ret
          exact ⟨true, rfl, rfl, fun _ => ⟨HMM.out, fun i hi => by have := HEA.out i hi; omega⟩⟩
        · have u0 : decide ((s : Int) ≤ 6000) = false := by simpa using h6
          go_wp2_with fail
          go_ret
          exact ⟨false, rfl, rfl, fun h => by cases h⟩
theorem flat_three : flatN [three 0, three 1, three 2] = A15 := rfl
theorem two_new (w : World) {K : Nat → Nat} {T : Sto} (h : StoAt w K base c T) (g : GoodS T) (f : Firsts T 3) :
    ∃ K', Two ((w.alloc (.cells A15.toArray 89)).alloc (.cells #[.slice (some ⟨w.heap.size, 0, none⟩) 3 3] 85)) K' base c (w.heap.size + 1) T [three 0, three 1, three 2] := by
  have hb1 := below1 w (.cells A15.toArray 89)
  have hb2 := below1 (w.alloc (.cells A15.toArray 89)) (.cells #[.slice (some ⟨w.heap.size, 0, none⟩) 3 3] 85)
  have hb := chain hb1 hb2
  have e1 : (w.alloc (.cells A15.toArray 89)).heap.size = w.heap.size + 1 := by simp
  have hx : Ext K (fun k => if k = w.heap.size then 12 else if k = w.heap.size + 1 then 11 else K k) w.heap.size := fun k hk => by
    show (if k = w.heap.size then 12 else _) = _
    rw [if_neg (by omega), if_neg (by omega)]
  have hbase := h.base_lt
  have hclt := h.lt
  have hf : ∀ k, ((w.alloc (.cells A15.toArray 89)).alloc (.cells #[.slice (some ⟨w.heap.size, 0, none⟩) 3 3] 85)).heap.size ≤ k → (if k = w.heap.size then 12 else if k = w.heap.size + 1 then 11 else K k) = 0 := fun k hk => by
    simp at hk
    rw [if_neg (by omega), if_neg (by omega)]
    exact h.fr k (by omega)
  have hlo : ∀ k, k < base → (if k = w.heap.size then 12 else if k = w.heap.size + 1 then 11 else K k) = 0 := fun k hk => by
    rw [if_neg (by omega), if_neg (by omega)]
    exact h.lo k hk
  refine ⟨_, h.laterK hb hx hf hlo, g, ⟨hf, hlo, ?_, ⟨.slice (some ⟨w.heap.size, 0, none⟩) 3 3, ?_, ?_, ?_⟩, fun i x hi => ?_, fun i => by simp [go_sem], fun i x hi hp => ?_⟩, ⟨f.1, fun i x y hx hy => ?_⟩, by rw [f.1]; exact Nat.le_refl _⟩
  · show (if _ = _ then 12 else _) = _
    rw [if_neg (by omega), if_pos rfl]
  · rw [show w.heap.size + 1 = (w.alloc (.cells A15.toArray 89)).heap.size from e1.symm]
    simp [go_sem]
  · refine ⟨rfl, .inr ⟨w.heap.size, 3, A15.toArray, rfl, Nat.zero_le _, ?_, Nat.le_refl _, by decide, rfl, by rw [flat_three]; rfl⟩⟩
    rw [hb2.block w.heap.size (by rw [e1]; omega)]
    exact heap_alloc_new w _
  · intro k hk
    cases hk
    show (if _ = _ then 12 else _) = _
    rw [if_pos rfl]
  · have h1 : x.L = 0 ∧ x.P = none := by
      match i, hi with
      | 0, hi => cases hi; exact ⟨rfl, rfl⟩
      | 1, hi => cases hi; exact ⟨rfl, rfl⟩
      | 2, hi => cases hi; exact ⟨rfl, rfl⟩
    exact ⟨fun h => by omega, fun ad e => by rw [h1.2] at e; cases e⟩
  · match i, hi with
    | 0, hi => cases hi; exact ⟨rfl, rfl⟩
    | 1, hi => cases hi; exact ⟨rfl, rfl⟩
    | 2, hi => cases hi; exact ⟨rfl, rfl⟩
  · match i, hy with
    | 0, hy =>
      cases hy
      obtain ⟨y, hy, hs⟩ := f.2 0 (by omega)
      rw [hx] at hy; cases hy; exact hs
    | 1, hy =>
      cases hy
      obtain ⟨y, hy, hs⟩ := f.2 1 (by omega)
      rw [hx] at hy; cases hy; exact hs
    | 2, hy =>
      cases hy
      obtain ⟨y, hy, hs⟩ := f.2 2 (by omega)
      rw [hx] at hy; cases hy; exact hs
set_option maxRecDepth 100000 in
set_option maxHeartbeats 1600000 in
theorem refNew_any (w : World) (h : StoAt w K base c T) (g : GoodS T) (f : Firsts T 3) :
    Calls Try.prog 33 #[] w fun e w' => ∃ K' r, e = .returned (.pointer (some ⟨r, 0, none⟩)) ∧ Two w' K' base c r T [three 0, three 1, three 2] ∧ Below w.heap.size w w' := by
  obtain ⟨K1, h1⟩ := two_new w h g f
  have H1 := Lib.hid h1
  have HB := Lib.hid (chain (below1 w (.cells A15.toArray 89)) (below1 (w.alloc (.cells A15.toArray 89)) (.cells #[.slice (some ⟨w.heap.size, 0, none⟩) 3 3] 85)))
  clear h g f h1
  go_enter Try.func33, Try.ntmps33
  go_wp2_with fail
  go_ret
  exact ⟨K1, _, rfl, H1.out, HB.out⟩
end Go.Proofs.Ytkjmmdffelhkiaa
