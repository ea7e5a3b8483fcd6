/- The document's table in memory. -/
import Derived.Test.YtkjmmdffelhkiaaS19
namespace Go.Proofs.Ytkjmmdffelhkiaa
open Go Go.RowKit Go.Maps

variable {W : World} {K : Nat → Nat} {base c r : Nat} {T : Tab}
structure Ent where
  N : ByteArray
  P : Option Addr
  L : Nat
  C : Nat
  R : Int
  D : Bool
  V : Int
  S : Bool
def entV (e : Ent) : List Value := [.string e.N, .slice e.P e.L e.C, .int .i64 e.R, .bool e.D, .int .i64 e.V, .bool e.S]
def flatE (l : List Ent) : List Value := l.flatMap entV
theorem flatE_len (l : List Ent) : (flatE l).length = l.length * 6 := by
  induction l with
  | nil => rfl
  | cons t l ih => simp only [flatE, entV, List.flatMap_cons, List.length_append, List.length_cons, List.length_nil] at *; omega
theorem flatE_get : ∀ (l : List Ent) (i : Nat) (x : Ent), l[i]? = some x → (flatE l)[i * 6]? = some (.string x.N) ∧ (flatE l)[i * 6 + 4]? = some (.int .i64 x.V) ∧ (flatE l)[i * 6 + 5]? = some (.bool x.S) := by
  intro l
  induction l with
  | nil => intro i x h; simp at h
  | cons t l ih =>
    intro i x h
    cases i with
    | zero => simp at h; subst h; exact ⟨rfl, rfl, rfl⟩
    | succ i =>
      have := ih i x (by simpa using h)
      have e0 : (i + 1) * 6 = i * 6 + 6 := by omega
      have e1 : (i + 1) * 6 + 4 = i * 6 + 4 + 6 := by omega
      have e2 : (i + 1) * 6 + 5 = i * 6 + 5 + 6 := by omega
      rw [e1, e2, e0]
      simpa [flatE, entV] using this
theorem flatE_snoc (l : List Ent) (x : Ent) : flatE (l ++ [x]) = flatE l ++ entV x := by simp [flatE]
theorem flatE_set : ∀ (l : List Ent) (i : Nat) (x : Ent) (b : Bool), l[i]? = some x → (flatE l).set (i * 6 + 5) (.bool b) = flatE (l.set i { x with S := b }) := by
  intro l
  induction l with
  | nil => intro i x b h; simp at h
  | cons t l ih =>
    intro i x b h
    cases i with
    | zero => simp at h; subst h; simp [flatE, entV]
    | succ i =>
      have := ih i x b (by simpa using h)
      have e2 : (i + 1) * 6 + 5 = i * 6 + 5 + 6 := by omega
      rw [e2]
      simp only [flatE, List.flatMap_cons, List.set_cons_succ] at *
      rw [← this]
      simp [entV]
structure RefAt (W : World) (K : Nat → Nat) (r : Nat) : Prop where
  kr : K r = 11
  e1 : ∃ v es, W.cell? ⟨r, 0, none⟩ = some v ∧ RowAt W K 12 140 6 v es.length (flatE es) ∧ es.length ≤ 2000
  e2 : ∃ v es, W.cell? ⟨r, 1, none⟩ = some v ∧ RowAt W K 13 140 6 v es.length (flatE es) ∧ es.length ≤ 2000
  dp : ∃ d : Int, 0 ≤ d ∧ d ≤ 200 ∧ W.cell? ⟨r, 2, none⟩ = some (.int .i64 d)
  fz : ∀ i, W.frozen? ⟨r, i, none⟩ = false
theorem RefAt.lt (h : RefAt W K r) : r < W.heap.size := by obtain ⟨d, _, _, h⟩ := h.dp; exact World.block_lt_of_cell? W _ h
theorem RefAt.only {W' : World} {K' : Nat → Nat} {S : Nat → Prop} (h : RefAt W K r) (ho : Only S W W') (hx : Ext K K' W.heap.size) (hS : ∀ k, 11 ≤ K k → ¬ S k) : RefAt W' K' r := by
  obtain ⟨v1, es1, a1, b1, c1⟩ := h.e1
  obtain ⟨v2, es2, a2, b2, c2⟩ := h.e2
  obtain ⟨d, d1, d2, d3⟩ := h.dp
  have hr : ¬ S r := hS r (by rw [h.kr]; omega)
  exact ⟨(hx r h.lt).trans h.kr, ⟨v1, es1, ho.cell a1 hr, b1.only ho hx (fun k e => hS k (by omega)), c1⟩, ⟨v2, es2, ho.cell a2 hr, b2.only ho hx (fun k e => hS k (by omega)), c2⟩, ⟨d, d1, d2, ho.cell d3 hr⟩, fun i => by rw [ho.frozen h.lt hr]; exact h.fz i⟩
theorem RefAt.later {W' : World} (h : RefAt W K r) (hb : Below W.heap.size W W') : RefAt W' K r := h.only (Only.of_below (T := fun _ => False) hb) (Ext.refl _ _) (fun _ _ h => h)
theorem RefAt.step {W' : World} {K' : Nat → Nat} (h : RefAt W K r) (hs : StepT W W' K K') : RefAt W' K' r := h.only hs.only hs.ext (fun k h1 h2 => by omega)
/-- what a call on the document's table leaves alone. -/
structure StepR (W W' : World) (K K' : Nat → Nat) : Prop where
  only : Only (fun k => 11 ≤ K k) W W'
  ext : Ext K K' W.heap.size
theorem StepR.refl (W : World) (K : Nat → Nat) : StepR W W K K := ⟨Only.refl _ _, Ext.refl _ _⟩
theorem StepR.trans {A B C : World} {K L M : Nat → Nat} (h : StepR A B K L) (k : StepR B C L M) : StepR A C K M :=
  ⟨h.only.comp k.only (fun _ _ h => h) (fun i hi hn => by rw [h.ext i hi] at hn; exact hn), h.ext.trans k.ext h.only.size⟩
theorem StepR.below {W W' : World} {K : Nat → Nat} (hb : Below W.heap.size W W') : StepR W W' K K := ⟨Only.of_below hb, Ext.refl _ _⟩
theorem TabAt.side {W' : World} {K' : Nat → Nat} (h : TabAt W K base c T) (hs : StepR W W' K K') (hf : ∀ k, W'.heap.size ≤ k → K' k = 0) (hlo : ∀ k, k < base → K' k = 0) : TabAt W' K' base c T := by
  obtain ⟨vs, m1, m2, ob, p⟩ := h.ob
  exact ⟨hf, hlo, (hs.ext c h.lt).trans h.ka, vs, m1, m2, ob.only hs.only (by rw [h.ka]; omega), p.only h.fr hs.only hs.ext (fun k _ h1 h2 => by omega)⟩
theorem RefAt.row1 (h : RefAt W K r) : ∃ p z es, W.cell? ⟨r, 0, none⟩ = some (.slice p es.length z) ∧ RowAt W K 12 140 6 (.slice p es.length z) es.length (flatE es) ∧ es.length ≤ 2000 := by
  obtain ⟨v1, es1, a1, b1, c1⟩ := h.e1
  obtain ⟨p, z, rfl, _⟩ := own_shp b1.own
  exact ⟨p, z, es1, a1, b1, c1⟩
theorem RefAt.row2 (h : RefAt W K r) : ∃ p z es, W.cell? ⟨r, 1, none⟩ = some (.slice p es.length z) ∧ RowAt W K 13 140 6 (.slice p es.length z) es.length (flatE es) ∧ es.length ≤ 2000 := by
  obtain ⟨v1, es1, a1, b1, c1⟩ := h.e2
  obtain ⟨p, z, rfl, _⟩ := own_shp b1.own
  exact ⟨p, z, es1, a1, b1, c1⟩
theorem own_cellE {w : World} {b n z t : Nat} {p : Option Addr} {es : List Ent} (h : RowAt w K t 140 6 (.slice p n z) n (flatE es)) (i : Nat) (x : Ent) (hi : es[i]? = some x) : ∃ g, p = some ⟨g, 0, none⟩ ∧ K g = t ∧ w.cell? ⟨g, i * 6, none⟩ = some (.string x.N) ∧ w.cell? ⟨g, i * 6 + 4, none⟩ = some (.int .i64 x.V) ∧ w.cell? ⟨g, i * 6 + 5, none⟩ = some (.bool x.S) := by
  have hn : 0 < n := by
    have h0 := h.own.1
    rw [flatE_len] at h0
    have := (List.getElem?_eq_some_iff.1 hi).1
    omega
  obtain ⟨g, c, e⟩ := own_some h.own hn
  cases e
  obtain ⟨g', c', e, _, hc⟩ := own_cells h.own (by simp)
  cases e
  have hg := flatE_get es i x hi
  exact ⟨g, rfl, h.tg g rfl, hc _ _ hg.1, hc _ _ hg.2.1, hc _ _ hg.2.2⟩
def FindP (W : World) (e : Ending) (w' : World) : Prop := ∃ i : Int, -1 ≤ i ∧ i ≤ 2000 ∧ e = .returned (.int .i64 i) ∧ w' = W
set_option maxRecDepth 100000 in
set_option maxHeartbeats 1600000 in
theorem find_any {t : Nat} (p : Option Addr) (z : Nat) (es : List Ent) (s : ByteArray) (W : World) (h : RowAt W K t 140 6 (.slice p es.length z) es.length (flatE es)) (hn : es.length ≤ 2000) :
    Calls Try.prog 87 #[.slice p es.length z, .string s] W (FindP W) := by
  have H := Lib.hid h
  clear h
  go_enter Try.func87, Try.ntmps87
  go_wp2_with fail
  go_loop [5] (fun i => ∃ k : Nat, k ≤ es.length ∧ i = .int .i64 k) (fun i => es.length - (intOf i).toNat)
  case atStart => exact ⟨0, Nat.zero_le _, rfl⟩
  case round =>
    obtain ⟨k, hk, rfl⟩ := hrel
    by_cases hlt : k < es.length
    · obtain ⟨x, hx⟩ : ∃ x, es[k]? = some x := ⟨_, List.getElem?_eq_getElem hlt⟩
      obtain ⟨g, rfl, _, c0, _, c5⟩ := own_cellE (b := 0) H.out k x hx
      have hk0 : (0 : Int) ≤ (k : Int) := by omega
      have hk1 : (k : Int) < (es.length : Int) := by omega
      obtain ⟨xN, xP, xL, xC, xR, xD, xV, xS⟩ := x
      simp only at c0 c5
      clear hx
      cases xS
      · go_wp2_with fail
        go_round
        case rel => exact ⟨k + 1, by omega, by go_num⟩
        case measure => simp [intOf]; omega
      · go_wp2_with fail
        all_goals first
          | (go_ret; exact ⟨_, by omega, by omega, rfl, rfl⟩)
          | (go_round
             case rel => exact ⟨k + 1, by omega, by go_num⟩
             case measure => simp [intOf]; omega)
    · go_wp2_with fail
      go_ret
      exact ⟨_, by omega, by omega, rfl, rfl⟩
set_option maxRecDepth 100000 in
set_option maxHeartbeats 1600000 in
theorem stands_any (h : RefAt W K r) (x : Int) (hx : I64 x) : Calls Try.prog 88 #[.pointer (some ⟨r, 0, none⟩), .int .i64 x] W fun e w' => SomeB W e w' := by
  obtain ⟨p, z, es, a1, b1, c1⟩ := h.row1
  have H := Lib.hid b1
  unfold I64 at hx
  clear h b1
  by_cases h0 : x = 0
  · subst h0
    go_enter Try.func88, Try.ntmps88
    go_wp2_with fail
    go_ret
    exact ⟨_, rfl, rfl⟩
  by_cases h1 : x = 1
  · subst h1
    go_enter Try.func88, Try.ntmps88
    go_wp2_with fail
    go_ret
    exact ⟨_, rfl, rfl⟩
  have q0 : (x == 0) = false := by simpa using h0
  have q1 : (x == 1) = false := by simpa using h1
  by_cases h2 : x < 2
  · have q2 : decide (2 ≤ x) = false := by rw [decide_eq_false_iff_not]; omega
    clear h0 h1
    go_enter Try.func88, Try.ntmps88
    go_wp2_with fail
    go_ret
    exact ⟨_, rfl, rfl⟩
  obtain ⟨j, hj⟩ : ∃ j : Nat, x = 2 + (j : Int) := ⟨(x - 2).toNat, by omega⟩
  subst hj
  have q2 : decide (2 ≤ 2 + (j : Int)) = true := by rw [decide_eq_true_eq]; omega
  have e2 : 2 + (j : Int) - 2 = (j : Int) := by omega
  by_cases h3 : es.length ≤ j
  · have q3 : decide ((j : Int) < (es.length : Int)) = false := by rw [decide_eq_false_iff_not]; omega
    have q3' : decide (2 + (j : Int) - 2 < (es.length : Int)) = false := by rw [decide_eq_false_iff_not]; omega
    clear h0 h1
    go_enter Try.func88, Try.ntmps88
    go_wp2_with fail
    go_ret
    exact ⟨_, rfl, rfl⟩
  · obtain ⟨y, hy⟩ : ∃ y, es[j]? = some y := ⟨_, List.getElem?_eq_getElem (by omega)⟩
    obtain ⟨g, rfl, _, _, _, c5⟩ := own_cellE (b := 0) H.out j y hy
    have q3 : decide ((j : Int) < (es.length : Int)) = true := by rw [decide_eq_true_eq]; omega
    have q3' : decide (2 + (j : Int) - 2 < (es.length : Int)) = true := by rw [decide_eq_true_eq]; omega
    have hj0 : (0 : Int) ≤ (j : Int) := by omega
    have hj1 : (j : Int) < (es.length : Int) := by omega
    clear h0 h1 hy
    go_enter Try.func88, Try.ntmps88
    go_wp2_with fail
    go_ret
    exact ⟨_, rfl, rfl⟩
end Go.Proofs.Ytkjmmdffelhkiaa
