/- Trees and tokens in memory. -/
import Derived.Test.YtlifankiljbdjaaDoorJX
import Derived.Test.YtlifankiljbdjaaDoorJW1
import Derived.Deep.RegionHeld3
namespace Go.Proofs.YtlifankiljbdjaaDoor
open Go Go.RowKit

/-- trees, one behind the other: the first one's list, kind, text, place and kids; the rest. -/
inductive Fo where
  | nil : Fo
  | cons (l : Bool) (k : Int) (s : ByteArray) (a : Int) (kids rest : Fo) : Fo
namespace Fo
def len : Fo → Nat
  | .nil => 0
  | .cons _ _ _ _ _ r => r.len + 1
def size : Fo → Nat
  | .nil => 0
  | .cons _ _ _ _ x r => x.size + r.size + 1
/-- one more tree at the end. -/
def snoc : Fo → Bool → Int → ByteArray → Int → Fo → Fo
  | .nil, l, k, s, a, x => .cons l k s a x .nil
  | .cons l0 k0 s0 a0 x0 r, l, k, s, a, x => .cons l0 k0 s0 a0 x0 (r.snoc l k s a x)
def app : Fo → Fo → Fo
  | .nil, g => g
  | .cons l k s a x r, g => .cons l k s a x (r.app g)
theorem len_snoc (l : Bool) (k : Int) (s : ByteArray) (a : Int) (x : Fo) : ∀ f : Fo, (f.snoc l k s a x).len = f.len + 1
  | .nil => rfl
  | .cons _ _ _ _ _ r => by simp only [snoc, len, len_snoc l k s a x r]
theorem app_nil : ∀ f : Fo, f.app .nil = f
  | .nil => rfl
  | .cons _ _ _ _ _ r => by simp only [app, app_nil r]
theorem snoc_app (l : Bool) (k : Int) (s : ByteArray) (a : Int) (x g : Fo) : ∀ f : Fo, (f.snoc l k s a x).app g = f.app (.cons l k s a x g)
  | .nil => rfl
  | .cons _ _ _ _ _ r => by simp only [app, snoc, snoc_app l k s a x g r]
end Fo
/-- alike, but for the places. -/
def sameF : Fo → Fo → Bool
  | .nil, .nil => true
  | .cons l k s _ x r, .cons l' k' s' _ x' r' => (decide (l = l') && decide (k = k') && decide (s = s') && decide (x.len = x'.len)) && sameF x x' && sameF r r'
  | _, _ => false
def sameT (l : Bool) (k : Int) (s : ByteArray) (x : Fo) (l' : Bool) (k' : Int) (s' : ByteArray) (x' : Fo) : Bool := (decide (l = l') && decide (k = k') && decide (s = s') && decide (x.len = x'.len)) && sameF x x'
theorem sameF_refl : ∀ f : Fo, sameF f f = true
  | .nil => rfl
  | .cons _ _ _ _ x r => by simp [sameF, sameF_refl x, sameF_refl r]
theorem sameT_refl (l : Bool) (k : Int) (s : ByteArray) (x : Fo) : sameT l k s x l k s x = true := by simp [sameT, sameF_refl]
/-- the trees in memory, from a place on, in blocks of a kind. -/
def FoIn (W : World) (F : Nat → Prop) : Fo → Option Addr → Prop
  | .nil, _ => True
  | .cons l k s a x r, p => ∃ b off, p = some ⟨b, off, none⟩ ∧ F b ∧ W.cell? ⟨b, off, none⟩ = some (.bool l) ∧ W.cell? ⟨b, off + 1, none⟩ = some (.int .u8 k) ∧ W.cell? ⟨b, off + 2, none⟩ = some (.string s) ∧ W.cell? ⟨b, off + 3, none⟩ = some (.int .i64 a) ∧
    (∃ q c, W.cell? ⟨b, off + 4, none⟩ = some (.slice q x.len c) ∧ x.len ≤ c ∧ x.len ≤ 281474976710656 ∧ FoIn W F x q) ∧ FoIn W F r (some ⟨b, off + 5, none⟩)
theorem FoIn.move {W W' : World} {F F' : Nat → Prop} (hc : ∀ b o v, F b → W.cell? ⟨b, o, none⟩ = some v → W'.cell? ⟨b, o, none⟩ = some v ∧ F' b) : ∀ (f : Fo) (p : Option Addr), FoIn W F f p → FoIn W' F' f p
  | .nil, _, _ => trivial
  | .cons l k s a x r, p, h => by
    obtain ⟨b, off, e, hF, h0, h1, h2, h3, ⟨q, c, h4, hn, hm, hx⟩, hr⟩ := h
    exact ⟨b, off, e, (hc b _ _ hF h0).2, (hc b _ _ hF h0).1, (hc b _ _ hF h1).1, (hc b _ _ hF h2).1, (hc b _ _ hF h3).1, ⟨q, c, (hc b _ _ hF h4).1, hn, hm, FoIn.move hc x q hx⟩, FoIn.move hc r _ hr⟩
theorem FoIn.later {W W' : World} {F : Nat → Prop} {f : Fo} {p : Option Addr} (h : FoIn W F f p) (hb : Below W.heap.size W W') : FoIn W' F f p :=
  FoIn.move (fun _ _ _ hF hv => ⟨cell_later hb hv, hF⟩) f p h
theorem FoIn.only {W W' : World} {F T : Nat → Prop} {f : Fo} {p : Option Addr} (h : FoIn W F f p) (ho : Only T W W') (hn : ∀ b, F b → ¬ T b) : FoIn W' F f p :=
  FoIn.move (fun _ _ _ hF hv => ⟨ho.cell hv (hn _ hF), hF⟩) f p h
theorem FoIn.mono {W : World} {F F' : Nat → Prop} {f : Fo} {p : Option Addr} (h : FoIn W F f p) (hn : ∀ b, F b → b < W.heap.size → F' b) : FoIn W F' f p :=
  FoIn.move (fun b _ _ hF hv => ⟨hv, hn b hF (World.block_lt_of_cell? W _ hv)⟩) f p h
/-- a tree's value. -/
def trV (l : Bool) (k : Int) (s : ByteArray) (a : Int) (q : Option Addr) (n c : Nat) : Value := .agg #[.bool l, .int .u8 k, .string s, .int .i64 a, .slice q n c]
/-- the place of the i-th tree. -/
def pl (q : Option Addr) (i : Nat) : Option Addr := q.map fun a => ⟨a.block, a.off + i * 5, none⟩
theorem pl_zero {W : World} {F : Nat → Prop} {f : Fo} {q : Option Addr} (h : FoIn W F f q) : FoIn W F f (pl q 0) := by
  cases f with
  | nil => trivial
  | cons l k s a x r =>
    obtain ⟨b, off, rfl, hr⟩ := h
    exact ⟨b, off, by simp [pl], hr⟩
theorem FoIn.head {W : World} {F : Nat → Prop} {l : Bool} {k : Int} {s : ByteArray} {a : Int} {x r : Fo} {b off i : Nat} (h : FoIn W F (.cons l k s a x r) (pl (some ⟨b, off, none⟩) i)) :
    F b ∧ W.cell? ⟨b, off + i * 5, none⟩ = some (.bool l) ∧ W.cell? ⟨b, off + i * 5 + 1, none⟩ = some (.int .u8 k) ∧ W.cell? ⟨b, off + i * 5 + 2, none⟩ = some (.string s) ∧ W.cell? ⟨b, off + i * 5 + 3, none⟩ = some (.int .i64 a) ∧
    (∃ q c, W.cell? ⟨b, off + i * 5 + 4, none⟩ = some (.slice q x.len c) ∧ x.len ≤ c ∧ x.len ≤ 281474976710656 ∧ FoIn W F x q) ∧ FoIn W F r (pl (some ⟨b, off, none⟩) (i + 1)) := by
  obtain ⟨b', off', e, hF, h0, h1, h2, h3, h4, h5⟩ := h
  simp only [pl, Option.map_some, Option.some.injEq, Addr.mk.injEq] at e
  obtain ⟨rfl, rfl, _⟩ := e
  refine ⟨hF, h0, h1, h2, h3, h4, ?_⟩
  have e2 : pl (some ⟨b, off, none⟩) (i + 1) = some ⟨b, off + i * 5 + 5, none⟩ := by
    simp only [pl, Option.map_some, Option.some.injEq, Addr.mk.injEq]; exact ⟨trivial, by omega, trivial⟩
  rw [e2]; exact h5
theorem FoIn.some {W : World} {F : Nat → Prop} {f : Fo} {q : Option Addr} (h : FoIn W F f q) (h0 : 0 < f.len) : ∃ b off, q = some ⟨b, off, none⟩ := by
  cases f with
  | nil => exact absurd h0 (by decide)
  | cons l k s a x r =>
    obtain ⟨b, off, rfl, _⟩ := h
    exact ⟨b, off, rfl⟩
theorem toList_byte {s s' : ByteArray} (h : s.toList = s'.toList) : s = s' := by
  rw [toList_data, toList_data] at h
  exact ByteArray.ext (Array.toList_inj.1 h)
end Go.Proofs.YtlifankiljbdjaaDoor
namespace Go.Proofs.YtlifankiljbdjaaDoor
open Go Go.RowKit

/-- a token of any kind, text and place. -/
structure TkA where
  k : Int
  s : ByteArray
  a : Int
def TksA (W : World) (p : Option Addr) (l : List TkA) : Prop := ∀ i (h : i < l.length), ∃ b off, p = some ⟨b, off, none⟩ ∧ W.cell? ⟨b, off + i * 3, none⟩ = some (.int .u8 (l[i].k)) ∧ W.cell? ⟨b, off + i * 3 + 1, none⟩ = some (.string l[i].s) ∧ W.cell? ⟨b, off + i * 3 + 2, none⟩ = some (.int .i64 l[i].a)
theorem TksA.later {W W' : World} {p : Option Addr} {l : List TkA} (h : TksA W p l) (hb : Below W.heap.size W W') : TksA W' p l := fun i hi => by
  obtain ⟨b, off, e, h1, h2, h3⟩ := h i hi
  exact ⟨b, off, e, cell_later hb h1, cell_later hb h2, cell_later hb h3⟩
theorem TksA.only {W W' : World} {p : Option Addr} {l : List TkA} {T : Nat → Prop} (h : TksA W p l) (ho : Only T W W') (hn : ∀ b off, p = some ⟨b, off, none⟩ → ¬ T b) : TksA W' p l := fun i hi => by
  obtain ⟨b, off, e, h1, h2, h3⟩ := h i hi
  exact ⟨b, off, e, ho.cell h1 (hn _ _ e), ho.cell h2 (hn _ _ e), ho.cell h3 (hn _ _ e)⟩
/-- how many lists are open behind a token. -/
def opn (t : TkA) (o : Int) : Int := (if t.k = 1 then o + 1 else o) - (if t.k = 2 then 1 else 0)
/-- the place behind the list that opens here. -/
def endF : List TkA → Int → Nat → Option Nat
  | [], _, _ => none
  | t :: r, o, i => if opn t o = 0 then some (i + 1) else endF r (opn t o) (i + 1)
def endV : Option Nat → Int
  | none => -1
  | some n => (n : Int)
def mostF : List TkA → Int → Int → Int
  | [], _, top => top
  | t :: r, o, top => mostF r (opn t o) (if top < (if t.k = 1 then o + 1 else o) then (if t.k = 1 then o + 1 else o) else top)
theorem drop_cons {α : Type} {l : List α} {i : Nat} (h : i < l.length) : l.drop i = l[i] :: l.drop (i + 1) := List.drop_eq_getElem_cons h
set_option maxRecDepth 100000 in
set_option maxHeartbeats 3200000 in
theorem end43 (p : Option Addr) (c from_ : Nat) (l : List TkA) (W : World) (h1 : TksA W p l) (hc : l.length ≤ c) (hn : l.length ≤ 281474976710656) (hf : from_ ≤ l.length) :
    Calls Tryd.prog 43 #[.slice p l.length c, .int .i64 (from_ : Int)] W fun e w' => e = .returned (.int .i64 (endV (endF (l.drop from_) 0 from_))) ∧ Below W.heap.size W w' := by
  obtain ⟨n, hl⟩ : ∃ n, n = l.length := ⟨_, rfl⟩
  obtain ⟨R, hR⟩ : ∃ R, R = endF (l.drop from_) 0 from_ := ⟨_, rfl⟩
  rw [← hR]
  have H1 := Lib.hid h1
  have HL := Lib.hid hl
  have HR := Lib.hid hR
  rw [← hl] at hc hn hf ⊢
  clear h1 hl hR
  have hn' : (n : Int) ≤ 281474976710656 := by omega
  go_enter Tryd.func43, Tryd.ntmps43
  go_wp2_with fail
  go_loopg [5, 6] (n - from_) (fun gk s5 s6 wx => ∃ (i : Nat) (o : Int), i + gk = n ∧ s6 = .int .i64 (i : Int) ∧ s5 = .int .i64 o ∧ Hid (o ≤ i ∧ -(i : Int) ≤ o ∧ R = endF (l.drop i) o i ∧ ∃ m, wx = W.drewN m))
  case atStart => exact ⟨from_, 0, by omega, rfl, rfl, Lib.hid ⟨by omega, by omega, HR.out, 0, rfl⟩⟩
  case round =>
    obtain ⟨i, o, hk, rfl, rfl, HI⟩ := hrel
    obtain ⟨ho1, ho2, hR, m, hm⟩ := HI.out
    have HM := Lib.hid hm
    have HG := Lib.hid hk
    have hk2 : i ≤ n := by omega
    have o1 : o ≤ 281474976710656 := by omega
    have o2 : -281474976710656 ≤ o := by omega
    clear hk hm HI
    by_cases hlt : i < n
    · have hlt' : i < l.length := by rw [← HL.out]; exact hlt
      have i0 : (0 : Int) ≤ (i : Int) := by omega
      have i1 : (i : Int) < (n : Int) := by omega
      obtain ⟨b, off, rfl, x0, x1, x2⟩ := (H1.out.later (W' := wr) (by rw [HM.out]; exact below_drewN _ _)) i hlt'
      rw [drop_cons hlt'] at hR
      have HRR := Lib.hid hR
      have HO := Lib.hid (And.intro ho1 ho2)
      clear hR ho1 ho2
      obtain ⟨G, rfl⟩ : ∃ G, gk = G + 1 := ⟨gk - 1, by have := HG.out; omega⟩
      generalize l[i] = t at *
      obtain ⟨k, s, a⟩ := t
      by_cases q1 : k = 1
      · subst q1
        by_cases q0 : (o + 1) = 0
        · have e0 : ((o + 1) == 0) = true := by simp [q0]
          go_wp2_with fail
          go_ret
          refine ⟨?_, by first | (rw [HM.out]; exact below_drewN _ _) | (rw [HM.out, World.drewN_drewN]; exact below_drewN _ _)⟩
          rw [HRR.out, endF, if_pos (by simp [opn]; omega)]; simp [endV, go_sem]
        · have e0 : ((o + 1) == 0) = false := by simp [q0]
          go_wp2_with fail
          go_roundg G
          case measure => omega
          case rel =>
            obtain ⟨i', hi'⟩ : ∃ i', i' = i + 1 := ⟨_, rfl⟩
            refine ⟨i', (o + 1), by have := HG.out; omega, by rw [hi']; go_num, rfl, Lib.hid ⟨by have := HO.out.1; omega, by have := HO.out.2; omega, ?_, by first | exact ⟨_, HM.out⟩ | exact ⟨_, by rw [HM.out, World.drewN_drewN]⟩⟩⟩
            rw [HRR.out, endF, if_neg (by simp [opn]; omega), hi']; congr 1 <;> simp [opn]
      · by_cases q2 : k = 2
        · subst q2
          by_cases q0 : (o - 1) = 0
          · have e0 : ((o - 1) == 0) = true := by simp [q0]
            go_wp2_with fail
            go_ret
            refine ⟨?_, by first | (rw [HM.out]; exact below_drewN _ _) | (rw [HM.out, World.drewN_drewN]; exact below_drewN _ _)⟩
            rw [HRR.out, endF, if_pos (by simp [opn]; omega)]; simp [endV, go_sem]
          · have e0 : ((o - 1) == 0) = false := by simp [q0]
            go_wp2_with fail
            go_roundg G
            case measure => omega
            case rel =>
              obtain ⟨i', hi'⟩ : ∃ i', i' = i + 1 := ⟨_, rfl⟩
              refine ⟨i', (o - 1), by have := HG.out; omega, by rw [hi']; go_num, rfl, Lib.hid ⟨by have := HO.out.1; omega, by have := HO.out.2; omega, ?_, by first | exact ⟨_, HM.out⟩ | exact ⟨_, by rw [HM.out, World.drewN_drewN]⟩⟩⟩
              rw [HRR.out, endF, if_neg (by simp [opn]; omega), hi']; congr 1 <;> simp [opn]
        · have e1 : (k == 1) = false := by simp [q1]
          have e2 : (k == 2) = false := by simp [q2]
          by_cases q0 : o = 0
          · have e0 : (o == 0) = true := by simp [q0]
            go_wp2_with fail
            go_ret
            refine ⟨?_, by first | (rw [HM.out]; exact below_drewN _ _) | (rw [HM.out, World.drewN_drewN]; exact below_drewN _ _)⟩
            rw [HRR.out, endF, if_pos (by simp [opn, q1, q2]; omega)]; simp [endV, go_sem]
          · have e0 : (o == 0) = false := by simp [q0]
            go_wp2_with fail
            go_roundg G
            case measure => omega
            case rel =>
              obtain ⟨i', hi'⟩ : ∃ i', i' = i + 1 := ⟨_, rfl⟩
              refine ⟨i', o, by have := HG.out; omega, by rw [hi']; go_num, rfl, Lib.hid ⟨by have := HO.out.1; omega, by have := HO.out.2; omega, ?_, by first | exact ⟨_, HM.out⟩ | exact ⟨_, by rw [HM.out, World.drewN_drewN]⟩⟩⟩
              rw [HRR.out, endF, if_neg (by simp [opn, q1, q2]; omega), hi']; congr 1 <;> simp [opn, q1, q2]
    · obtain rfl : i = n := by omega
      go_wp2_with fail
      go_ret
      refine ⟨?_, by rw [HM.out]; exact below_drewN _ _⟩
      rw [hR, HL.out, List.drop_length]; rfl
set_option maxRecDepth 100000 in
set_option maxHeartbeats 3200000 in
theorem most44 (p : Option Addr) (c : Nat) (l : List TkA) (W : World) (h1 : TksA W p l) (hc : l.length ≤ c) (hn : l.length ≤ 281474976710656) :
    Calls Tryd.prog 44 #[.slice p l.length c] W fun e w' => e = .returned (.int .i64 (mostF l 0 0)) ∧ Below W.heap.size W w' := by
  obtain ⟨n, hl⟩ : ∃ n, n = l.length := ⟨_, rfl⟩
  obtain ⟨R, hR⟩ : ∃ R, R = mostF l 0 0 := ⟨_, rfl⟩
  rw [← hR]
  have H1 := Lib.hid h1
  have HL := Lib.hid hl
  have HR := Lib.hid hR
  rw [← hl] at hc hn ⊢
  clear h1 hl hR
  have hn' : (n : Int) ≤ 281474976710656 := by omega
  go_enter Tryd.func44, Tryd.ntmps44
  go_wp2_with fail
  go_loopg [3, 4, 5] n (fun gk s3 s4 s5 wx => ∃ (i : Nat) (o top : Int), i + gk = n ∧ s5 = .int .i64 (i : Int) ∧ s3 = .int .i64 o ∧ s4 = .int .i64 top ∧ Hid (o ≤ i ∧ -(i : Int) ≤ o ∧ top ≤ i ∧ 0 ≤ top ∧ R = mostF (l.drop i) o top ∧ ∃ m, wx = W.drewN m))
  case atStart => exact ⟨0, 0, 0, by omega, rfl, rfl, rfl, Lib.hid ⟨by omega, by omega, by omega, by omega, HR.out, 0, rfl⟩⟩
  case round =>
    obtain ⟨i, o, top, hk, rfl, rfl, rfl, HI⟩ := hrel
    obtain ⟨ho1, ho2, ho3, ho4, hR, m, hm⟩ := HI.out
    have HM := Lib.hid hm
    have HG := Lib.hid hk
    have hk2 : i ≤ n := by omega
    have o1 : o ≤ 281474976710656 := by omega
    have o2 : -281474976710656 ≤ o := by omega
    clear hk hm HI
    by_cases hlt : i < n
    · have hlt' : i < l.length := by rw [← HL.out]; exact hlt
      have i0 : (0 : Int) ≤ (i : Int) := by omega
      have i1 : (i : Int) < (n : Int) := by omega
      obtain ⟨b, off, rfl, x0, x1, x2⟩ := (H1.out.later (W' := wr) (by rw [HM.out]; exact below_drewN _ _)) i hlt'
      rw [drop_cons hlt'] at hR
      have HRR := Lib.hid hR
      have HO := Lib.hid (And.intro ho1 (And.intro ho2 (And.intro ho3 ho4)))
      clear hR ho1 ho2 ho3 ho4
      obtain ⟨G, rfl⟩ : ∃ G, gk = G + 1 := ⟨gk - 1, by have := HG.out; omega⟩
      generalize l[i] = t at *
      obtain ⟨k, s, a⟩ := t
      by_cases q1 : k = 1
      · subst q1
        by_cases q0 : top < (o + 1)
        · have e0 : decide (top < (o + 1)) = true := by simp [q0]
          go_wp2_with fail
          go_roundg G
          case measure => omega
          case rel =>
            obtain ⟨i', hi'⟩ : ∃ i', i' = i + 1 := ⟨_, rfl⟩
            refine ⟨i', (o + 1), (o + 1), by have := HG.out; omega, by rw [hi']; go_num, rfl, rfl, Lib.hid ⟨by have := HO.out; omega, by have := HO.out; omega, by have := HO.out; omega, by have := HO.out; omega, ?_, by first | exact ⟨_, HM.out⟩ | exact ⟨_, by rw [HM.out, World.drewN_drewN]⟩⟩⟩
            rw [HRR.out, mostF, hi']; congr 1 <;> simp [opn, q0] <;> omega
        · have e0 : decide (top < (o + 1)) = false := by simp [q0]
          go_wp2_with fail
          go_roundg G
          case measure => omega
          case rel =>
            obtain ⟨i', hi'⟩ : ∃ i', i' = i + 1 := ⟨_, rfl⟩
            refine ⟨i', (o + 1), top, by have := HG.out; omega, by rw [hi']; go_num, rfl, rfl, Lib.hid ⟨by have := HO.out; omega, by have := HO.out; omega, by have := HO.out; omega, by have := HO.out; omega, ?_, by first | exact ⟨_, HM.out⟩ | exact ⟨_, by rw [HM.out, World.drewN_drewN]⟩⟩⟩
            rw [HRR.out, mostF, hi']; congr 1 <;> simp [opn, q0] <;> omega
      · by_cases q2 : k = 2
        · subst q2
          by_cases q0 : top < o
          · have e0 : decide (top < o) = true := by simp [q0]
            go_wp2_with fail
            go_roundg G
            case measure => omega
            case rel =>
              obtain ⟨i', hi'⟩ : ∃ i', i' = i + 1 := ⟨_, rfl⟩
              refine ⟨i', (o - 1), o, by have := HG.out; omega, by rw [hi']; go_num, rfl, rfl, Lib.hid ⟨by have := HO.out; omega, by have := HO.out; omega, by have := HO.out; omega, by have := HO.out; omega, ?_, by first | exact ⟨_, HM.out⟩ | exact ⟨_, by rw [HM.out, World.drewN_drewN]⟩⟩⟩
              rw [HRR.out, mostF, hi']; congr 1 <;> simp [opn, q0] <;> omega
          · have e0 : decide (top < o) = false := by simp [q0]
            go_wp2_with fail
            go_roundg G
            case measure => omega
            case rel =>
              obtain ⟨i', hi'⟩ : ∃ i', i' = i + 1 := ⟨_, rfl⟩
              refine ⟨i', (o - 1), top, by have := HG.out; omega, by rw [hi']; go_num, rfl, rfl, Lib.hid ⟨by have := HO.out; omega, by have := HO.out; omega, by have := HO.out; omega, by have := HO.out; omega, ?_, by first | exact ⟨_, HM.out⟩ | exact ⟨_, by rw [HM.out, World.drewN_drewN]⟩⟩⟩
              rw [HRR.out, mostF, hi']; congr 1 <;> simp [opn, q0] <;> omega
        · have e1 : (k == 1) = false := by simp [q1]
          have e2 : (k == 2) = false := by simp [q2]
          by_cases q0 : top < o
          · have e0 : decide (top < o) = true := by simp [q0]
            go_wp2_with fail
            go_roundg G
            case measure => omega
            case rel =>
              obtain ⟨i', hi'⟩ : ∃ i', i' = i + 1 := ⟨_, rfl⟩
              refine ⟨i', o, o, by have := HG.out; omega, by rw [hi']; go_num, rfl, rfl, Lib.hid ⟨by have := HO.out; omega, by have := HO.out; omega, by have := HO.out; omega, by have := HO.out; omega, ?_, by first | exact ⟨_, HM.out⟩ | exact ⟨_, by rw [HM.out, World.drewN_drewN]⟩⟩⟩
              rw [HRR.out, mostF, hi']; congr 1 <;> simp [opn, q1, q2, q0] <;> omega
          · have e0 : decide (top < o) = false := by simp [q0]
            go_wp2_with fail
            go_roundg G
            case measure => omega
            case rel =>
              obtain ⟨i', hi'⟩ : ∃ i', i' = i + 1 := ⟨_, rfl⟩
              refine ⟨i', o, top, by have := HG.out; omega, by rw [hi']; go_num, rfl, rfl, Lib.hid ⟨by have := HO.out; omega, by have := HO.out; omega, by have := HO.out; omega, by have := HO.out; omega, ?_, by first | exact ⟨_, HM.out⟩ | exact ⟨_, by rw [HM.out, World.drewN_drewN]⟩⟩⟩
              rw [HRR.out, mostF, hi']; congr 1 <;> simp [opn, q1, q2, q0] <;> omega
    · obtain rfl : i = n := by omega
      go_wp2_with fail
      go_ret
      refine ⟨?_, by rw [HM.out]; exact below_drewN _ _⟩
      rw [hR, HL.out, List.drop_length]; rfl
end Go.Proofs.YtlifankiljbdjaaDoor
namespace Go.Proofs.YtlifankiljbdjaaDoor
open Go Go.RowKit

section
variable {P : Program} {ops : Array Oper} {Q : Exit → Act → World → Prop} {md : Region.Mode} {ks : List (Nat × (World → Prop))}
/-- each fact holds as long as the operation that ends it has not come up. -/
def SL (ks : List (Nat × (World → Prop))) (l : Array Bool) (w : World) : Prop := ∀ p ∈ ks, l.getD p.1 false = false → p.2 w
theorem SL.nil {l : Array Bool} {w : World} : SL [] l w := fun _ h => by cases h
theorem SL.cons {k : Nat} {T : World → Prop} {l : Array Bool} {w : World} (h : l.getD k false = false → T w) (hs : SL ks l w) : SL ((k, T) :: ks) l w := fun p hp => by
  rcases List.mem_cons.1 hp with rfl | hp
  · exact h
  · exact hs p hp
theorem SL.listed {l : Array Bool} {w : World} (h : SL ks l w) (i : Nat) : SL ks (l.setIfInBounds i true) w := fun p hp hl => h p hp (by
  cases hb : l.getD p.1 false with
  | false => rfl
  | true => rw [getD_set_true hb] at hl; cases hl)
def wpAnyL (P : Program) (md : Region.Mode) (ops : Array Oper) (Q : Exit → Act → World → Prop) (ks : List (Nat × (World → Prop))) : Nat → Array Bool → Act → World → Prop
  | 0, listed, a, w => Region.ready md ops listed = [] ∧ Q .normal a w
  | fuel + 1, listed, a, w =>
    (Region.ready md ops listed = [] → Q .normal a w) ∧
    ∀ i ∈ Region.ready md ops listed, wpOp P ops Q i (fun a' w' => SL ks (listed.setIfInBounds i true) w' ∧ wpAnyL P md ops Q ks fuel (listed.setIfInBounds i true) a' w') a w
theorem wpAny_of_L : ∀ (fuel : Nat) (listed : Array Bool) (a : Act) (w : World), wpAnyL P md ops Q ks fuel listed a w → wpAny P md ops Q fuel listed a w
  | 0, _, _, _, h => h
  | fuel + 1, _, _, _, h => ⟨h.1, fun i hi => wpOp_mono (fun a' w' h' => wpAny_of_L fuel _ a' w' h'.2) (h.2 i hi)⟩
theorem wpAnyL_first {i : Nat} {oi : Oper} {v : Value} (k : Nat) (T : World → Prop) (hT : (k, T) ∈ ks) (hn : ∀ p ∈ ks, p.1 ≠ i) (hk : ∀ ok, ops[k]? = some ok → ∃ e ∈ ok.after, Region.binds md e = true ∧ e.on = i) (hi : ops[i]? = some oi) (hsel : ∀ (j : Nat) (o : Oper) cs b, ops[j]? = some o → o.op ≠ .select cs b)
    (hQ : ∀ c a w, Q (.panic c) (a.put oi.dst v) w → Q (.panic c) a w) :
    ∀ (fuel : Nat) (listed : Array Bool) (a : Act) (w : World),
      (∀ j oj, ops[j]? = some oj → j ≠ i → listed.getD j true = false → (∀ e ∈ oj.after, Region.binds md e = true → e.on ≠ i) → oi.apart ops oj = true) →
      i ∈ Region.ready md ops listed → YieldsIf P ops T oi v a → SL ks listed w → listed.getD k false = false →
      wpAnyL P md ops Q ks fuel (listed.setIfInBounds i true) (a.put oi.dst v) w → wpAnyL P md ops Q ks (fuel + 1) listed a w := by
  intro fuel
  induction fuel with
  | zero =>
    intro listed a w _ hr hy hS hl H
    refine ⟨fun h => (by rw [h] at hr; cases hr), fun j hj => ?_⟩
    by_cases hji : j = i
    · subst hji; exact hy.wpOp hi (hS _ hT hl) ⟨hS.listed _, H⟩
    · have := ready_mono hj hji
      rw [H.1] at this
      cases this
  | succ fuel ih =>
    intro listed a w hfree hr hy hS hl H
    refine ⟨fun h => (by rw [h] at hr; cases hr), fun j hj => ?_⟩
    by_cases hji : j = i
    · subst hji; exact hy.wpOp hi (hS _ hT hl) ⟨hS.listed _, H⟩
    · have h1 := H.2 j (ready_mono hj hji)
      obtain ⟨hjun, oj, hoj, hall⟩ := mem_ready.1 hj
      have hnot : ∀ e ∈ oj.after, Region.binds md e = true → e.on ≠ i := fun e he hb heq => by
        have h1 := hall e he hb
        have h0 := (mem_ready.1 hr).1
        rw [heq] at h1
        rcases Nat.lt_or_ge i listed.size with h' | h'
        · simp [h'] at h0 h1; rw [h0] at h1; cases h1
        · simp [Array.getElem?_eq_none h'] at h1
      have hjk : j ≠ k := fun e => by
        subst e
        obtain ⟨e, he, hb, ho⟩ := hk oj hoj
        exact hnot e he hb ho
      have h2 := wpOp_putIf hoj (hfree j oj hoj hji hjun hnot) (fun cs b => hsel i oi cs b hi) (fun cs b => hsel j oj cs b hoj) hQ hy h1
      have hfree' : ∀ k ok, ops[k]? = some ok → k ≠ i → (listed.setIfInBounds j true).getD k true = false →
          (∀ e ∈ ok.after, Region.binds md e = true → e.on ≠ i) → oi.apart ops ok = true := fun k ok hk hki hun hno => by
        refine hfree k ok hk hki ?_ hno
        by_cases hjk : j = k
        · subst hjk; exact hjun
        · rw [getD_set_ne true hjk] at hun; exact hun
      refine wpOp_mono (fun a' w' h3 => ?_) h2
      obtain ⟨hy', hs', hw'⟩ := h3
      have hs2 : SL ks (listed.setIfInBounds j true) w' := fun p hp hl2 => hs' p hp (by
        rw [Array.setIfInBounds_comm _ _ (Ne.symm hji), getD_set_ne false (Ne.symm (hn p hp))]
        exact hl2)
      refine ⟨hs2, ih (listed.setIfInBounds j true) a' w' hfree' (ready_mono hr (Ne.symm hji)) hy' hs2 (by rw [getD_set_ne false hjk]; exact hl) ?_⟩
      rw [Array.setIfInBounds_comm _ _ hji]
      exact hw'
/-- does the operation k wait for i (or is there none)? -/
def killB (md : Region.Mode) (ops : Array Oper) (i k : Nat) : Bool := match ops[k]? with
  | none => true
  | some o => o.after.toList.any fun e => Region.binds md e && e.on == i
theorem killB_spec {i k : Nat} (h : killB md ops i k = true) : ∀ ok, ops[k]? = some ok → ∃ e ∈ ok.after, Region.binds md e = true ∧ e.on = i := fun ok hk => by
  unfold killB at h
  rw [hk] at h
  obtain ⟨e, he, hb⟩ := List.any_eq_true.1 h
  simp at hb
  exact ⟨e, by simpa using he, hb.1, hb.2⟩
theorem wpAnyL_take {i : Nat} {oi : Oper} {v : Value} {fuel : Nat} {listed : Array Bool} {a : Act} {w : World} (n k : Nat) (T : World → Prop) (hi : ops[i]? = some oi)
    (hs : Region.noSelect ops = true) (hf : Region.free md ops listed i = true) (hr : (Region.ready md ops listed).contains i = true)
    (hQ : ∀ c a w, Q (.panic c) (a.put oi.dst v) w → Q (.panic c) a w) (hT : ks[n]? = some (k, T)) (hn : (ks.map (·.1)).contains i = false) (hk : killB md ops i k = true) (hl : listed.getD k false = false) (hy : YieldsIf P ops T oi v a) (hS : SL ks listed w)
    (h : SL ks (listed.setIfInBounds i true) w → wpAnyL P md ops Q ks fuel (listed.setIfInBounds i true) (a.put oi.dst v) w) : wpAnyL P md ops Q ks (fuel + 1) listed a w :=
  wpAnyL_first k T (List.mem_of_getElem? hT) (fun p hp e => by
    have : (ks.map (·.1)).contains i = true := by rw [List.contains_iff_mem]; exact List.mem_map.2 ⟨p, hp, e⟩
    rw [hn] at this; cases this) (killB_spec hk) hi (Region.noSelect_spec hs) hQ fuel listed a w (Region.free_spec hi hf) (by simpa using hr) hy hS hl (h (hS.listed i))
def AllReadyL (P : Program) (md : Region.Mode) (ops : Array Oper) (Q : Exit → Act → World → Prop) (ks : List (Nat × (World → Prop))) (fuel : Nat) (listed : Array Bool) (a : Act) (w : World) (rs : List Nat) : Prop :=
  ∀ i ∈ rs, wpOp P ops Q i (fun a' w' => SL ks (listed.setIfInBounds i true) w' ∧ wpAnyL P md ops Q ks fuel (listed.setIfInBounds i true) a' w') a w
theorem AllReadyL.nil {fuel : Nat} {listed : Array Bool} {a : Act} {w : World} : AllReadyL P md ops Q ks fuel listed a w [] := fun _ h => by cases h
theorem AllReadyL.cons {fuel : Nat} {listed : Array Bool} {a : Act} {w : World} {i : Nat} {o : Oper} {rs : List Nat} (ho : ops[i]? = some o)
    (h : ∀ K' : Act → World → Prop, Shut (∀ a w, SL ks (listed.setIfInBounds i true) w → (SL ks (listed.setIfInBounds i true) w → wpAnyL P md ops Q ks fuel (listed.setIfInBounds i true) a w) → K' a w) → if Region.wanted o (yielded ops a.tmps) = true then Oper.wp P o a w K' Q else K' (a.put o.dst undef) w)
    (hs : AllReadyL P md ops Q ks fuel listed a w rs) : AllReadyL P md ops Q ks fuel listed a w (i :: rs) := fun j hj => by
  rcases List.mem_cons.1 hj with rfl | hj
  · exact wpOp_step ho (fun K' hK => h K' (fun a w hS hW => hK a w ⟨hS, hW hS⟩))
  · exact hs j hj
theorem wpAnyL_ready {rs : List Nat} {fuel : Nat} {listed : Array Bool} {a : Act} {w : World} (hr : Region.ready md ops listed = rs) (hne : rs ≠ [])
    (h : AllReadyL P md ops Q ks fuel listed a w rs) : wpAnyL P md ops Q ks (fuel + 1) listed a w := ⟨fun h0 => absurd (hr ▸ h0) hne, hr ▸ h⟩
theorem wpAnyL_done {listed : Array Bool} {a : Act} {w : World} (hr : Region.ready md ops listed = []) (h : Q .normal a w) :
    ∀ fuel, wpAnyL P md ops Q ks fuel listed a w
  | 0 => ⟨hr, h⟩
  | _ + 1 => ⟨fun _ => h, by rw [hr]; simp⟩
theorem wp_region_L (ks : List (Nat × (World → Prop))) {id : Nat} {a : Act} {w : World} (hm : P.follows .mixedOrders = true) (hS : SL ks (Array.replicate ops.size false) w.drew)
    (h : SL ks (Array.replicate ops.size false) w.drew → wpAnyL P .any ops Q ks ops.size (Array.replicate ops.size false) a w.drew) : (Code.region id ops true).wp P Q a w :=
  wp_region_any hm (wpAny_of_L _ _ _ _ (h hS))
end
end Go.Proofs.YtlifankiljbdjaaDoor
namespace Go.Proofs.YtlifankiljbdjaaDoor
open Go Go.RowKit

theorem wp_append_own_at {P : Program} {w : World} {o : Oper} {a : Act} {K : Act → World → Prop} {Q : Exit → Act → World → Prop} (s x : Operand) (t : TypeId)
    (ho : o.op = .call { callee := .builtin .append, args := #[s, x], argTypes := #[t, t] })
    (base : Nat) (e : TypeId) (i : TypeInfo) (z : Value) (size bytes : Nat) (ht : P.underlying t = some (.slice e)) (hi : P.info? e = some i) (hz : i.zero = some z)
    (hsize : i.size = size) (hby : i.bytes = bytes) (hzs : z.cells.size = size) (hsz : 0 < size)
    (v : Value) (n : Nat) (xs : List Value) (hs : a.eval s = v) (hown : w.ownsRow base e size v n xs)
    (ad : Addr) (m c : Nat) (news : List Value) (hx : a.eval x = .slice (some ad) m c) (hl : news.length = m * size) (hnews : ∀ j u, news[j]? = some u → w.cell? (ad.add j) = some u) (h1 : ∀ u ∈ news, u.oneCell' = true)
    (h63 : n + m ≤ maxLen) (hbytes : (n + m) * bytes ≤ 140737488355328) (hbase : base ≤ w.heap.size)
    (h : ∀ v' w', w'.ownsRow base e size v' (n + m) (xs ++ news) → w.grownBy w' v.ownBlock → (v' = .slice none 0 0 ↔ v = .slice none 0 0 ∧ m = 0) → (v'.ownBlock = v.ownBlock ∨ v'.ownBlock = some w.heap.size) → K (a.put o.dst v') w') : o.wp P a w K Q := by
  obtain ⟨v', w', hr, h2, h3, h4, h5⟩ := run_append_own_at (P := P) w base t o.type e i z size bytes ht hi hz hsize hby hzs hsz v n xs hown ad m c news hl hnews h1 h63 hbytes hbase
  unfold Oper.wp execOp
  simp only [ho, resolve, invoke, builtin, Sem.run_bind, Sem.run_pure, Result.andThen_ok, List.map_toArray, List.map_cons, List.map_nil, hs, hx, hr]
  exact h v' w' h2 h3 h4 h5
def Z41 : Value := .agg #[.bool false, .int .u8 0, .string ⟨#[]⟩, .int .i64 0, .slice none 0 0]
theorem info41 : ∃ i0, Tryd.prog.info? 41 = some i0 ∧ i0.zero = some Z41 ∧ i0.size = 5 ∧ i0.bytes = 64 := info_of (by kernel_rfl)
/-- a tree's five cells. -/
def trC (l : Bool) (k : Int) (s : ByteArray) (a : Int) (q : Option Addr) (n c : Nat) : List Value := [.bool l, .int .u8 k, .string s, .int .i64 a, .slice q n c]
/-- the cells of some trees, what lies below them in blocks of a kind. -/
def RowF (W : World) (F : Nat → Prop) : Fo → List Value → Prop
  | .nil, xs => xs = []
  | .cons l k s a x r, xs => ∃ q c ys, xs = trC l k s a q x.len c ++ ys ∧ x.len ≤ c ∧ x.len ≤ 281474976710656 ∧ FoIn W F x q ∧ RowF W F r ys
theorem RowF.move {W W' : World} {F F' : Nat → Prop} (hc : ∀ b o v, F b → W.cell? ⟨b, o, none⟩ = some v → W'.cell? ⟨b, o, none⟩ = some v ∧ F' b) : ∀ (f : Fo) (xs : List Value), RowF W F f xs → RowF W' F' f xs
  | .nil, _, h => h
  | .cons l k s a x r, xs, h => by
    obtain ⟨q, c, ys, e, h1, h2, h3, h4⟩ := h
    exact ⟨q, c, ys, e, h1, h2, FoIn.move hc _ _ h3, RowF.move hc r ys h4⟩
theorem RowF.later {W W' : World} {F : Nat → Prop} {f : Fo} {xs : List Value} (h : RowF W F f xs) (hb : Below W.heap.size W W') : RowF W' F f xs :=
  RowF.move (fun _ _ _ hF hv => ⟨cell_later hb hv, hF⟩) f xs h
theorem RowF.only {W W' : World} {F T : Nat → Prop} {f : Fo} {xs : List Value} (h : RowF W F f xs) (ho : Only T W W') (hn : ∀ b, F b → ¬ T b) : RowF W' F f xs :=
  RowF.move (fun _ _ _ hF hv => ⟨ho.cell hv (hn _ hF), hF⟩) f xs h
theorem RowF.mono {W : World} {F F' : Nat → Prop} {f : Fo} {xs : List Value} (h : RowF W F f xs) (hn : ∀ b, F b → b < W.heap.size → F' b) : RowF W F' f xs :=
  RowF.move (fun b _ _ hF hv => ⟨hv, hn b hF (World.block_lt_of_cell? W _ hv)⟩) f xs h
theorem RowF.snoc {W : World} {F : Nat → Prop} {l : Bool} {k : Int} {s : ByteArray} {a : Int} {x : Fo} {q : Option Addr} {c : Nat} (h1 : x.len ≤ c) (h2 : x.len ≤ 281474976710656) (hx : FoIn W F x q) : ∀ (f : Fo) (xs : List Value), RowF W F f xs → RowF W F (f.snoc l k s a x) (xs ++ trC l k s a q x.len c)
  | .nil, xs, h => by
    obtain rfl : xs = [] := h
    exact ⟨q, c, [], by simp, h1, h2, hx, rfl⟩
  | .cons l0 k0 s0 a0 x0 r, xs, h => by
    obtain ⟨q0, c0, ys, rfl, h3, h4, h5, h6⟩ := h
    exact ⟨q0, c0, ys ++ trC l k s a q x.len c, by simp, h3, h4, h5, RowF.snoc h1 h2 hx r ys h6⟩
theorem RowF.len {W : World} {F : Nat → Prop} : ∀ (f : Fo) (xs : List Value), RowF W F f xs → xs.length = f.len * 5
  | .nil, xs, h => by obtain rfl : xs = [] := h; rfl
  | .cons l0 k0 s0 a0 x0 r, xs, h => by
    obtain ⟨q0, c0, ys, rfl, h3, h4, h5, h6⟩ := h
    have := RowF.len r ys h6
    simp [trC, Fo.len]; omega
/-- the cells of a row in memory are trees. -/
theorem RowF.foIn {W : World} {F F' : Nat → Prop} {g : Nat} (hg : F' g) (hF : ∀ b, F b → F' b) : ∀ (f : Fo) (xs : List Value) (off : Nat), RowF W F f xs → (∀ j u, xs[j]? = some u → W.cell? ⟨g, off + j, none⟩ = some u) → FoIn W F' f (some ⟨g, off, none⟩)
  | .nil, _, _, _, _ => trivial
  | .cons l0 k0 s0 a0 x0 r, xs, off, h, hc => by
    obtain ⟨q0, c0, ys, rfl, h3, h4, h5, h6⟩ := h
    refine ⟨g, off, rfl, hg, hc 0 _ rfl, hc 1 _ rfl, hc 2 _ rfl, hc 3 _ rfl, ⟨q0, c0, hc 4 _ rfl, h3, h4, FoIn.move (fun b _ _ hb hv => ⟨hv, hF b hb⟩) _ _ h5⟩, ?_⟩
    refine RowF.foIn hg hF r ys (off + 5) h6 (fun j u hu => ?_)
    have := hc (5 + j) u (by rw [List.getElem?_append_right (by simp [trC])]; simpa [trC] using hu)
    rw [← Nat.add_assoc] at this
    exact this
theorem own_cell5 {w : World} {base n c : Nat} {e : TypeId} {g : Nat} {xs : List Value} (h : w.ownsRow base e 5 (.slice (some ⟨g, 0, none⟩) n c) n xs) (i : Nat) (u : Value) (hu : xs[i]? = some u) : w.cell? ⟨g, i, none⟩ = some u ∧ w.frozen? ⟨g, i, none⟩ = false := by
  obtain ⟨h0, ⟨h1, _⟩ | ⟨g', cap, cur, hv, hg, hh, hn, hm, hs, ht⟩⟩ := h
  · cases h1
  · cases hv
    have hlt := (List.getElem?_eq_some_iff.1 hu).1
    rw [← ht, List.getElem?_take_of_lt (by omega)] at hu
    have e' : cur[i]? = some u := by simpa using hu
    exact ⟨by simp [World.cell?, hh, e'], by simp [World.frozen?, hh]⟩
/-- a row of trees of the call's own. -/
def OwnF (W : World) (base : Nat) (v : Value) (f : Fo) : Prop := ∃ xs, W.ownsRow base 41 5 v f.len xs ∧ RowF W (fun b => base ≤ b ∧ v.ownBlock ≠ some b) f xs
theorem OwnF.later {W W' : World} {base : Nat} {v : Value} {f : Fo} (h : OwnF W base v f) (hb : Below W.heap.size W W') : OwnF W' base v f := by
  obtain ⟨xs, h1, h2⟩ := h
  exact ⟨xs, own_later h1 hb, h2.later hb⟩
theorem OwnF.only {W W' : World} {base : Nat} {v : Value} {f : Fo} {T : Nat → Prop} (h : OwnF W base v f) (ho : Only T W W') (hn : ∀ b, base ≤ b → ¬ T b) : OwnF W' base v f := by
  obtain ⟨xs, h1, h2⟩ := h
  exact ⟨xs, own_only h1 ho (fun k hk => hn k (own_lt h1 hk).1), h2.only ho (fun b hb => hn b hb.1)⟩
theorem OwnF.foIn {W : World} {base : Nat} {v : Value} {f : Fo} (h : OwnF W base v f) : ∃ q c, v = .slice q f.len c ∧ f.len ≤ c ∧ FoIn W (fun b => base ≤ b) f q := by
  obtain ⟨xs, h1, h2⟩ := h
  obtain ⟨q, c, rfl, hq⟩ := own_shape h1
  have hc := own_cap h1
  refine ⟨q, c, rfl, hc, ?_⟩
  cases f with
  | nil => trivial
  | cons l k s a x r =>
    obtain ⟨g, rfl⟩ : ∃ g, q = some ⟨g, 0, none⟩ := by
      rcases h1.2 with ⟨e, _⟩ | ⟨g, _, _, e, _⟩
      · injection e with _ e2 _; simp [Fo.len] at e2
      · injection e with e2 _ _; exact ⟨g, e2⟩
    have hg := own_lt h1 (k := g) rfl
    exact RowF.foIn hg.1 (fun b hb => hb.1) _ xs 0 h2 (fun j u hu => by rw [Nat.zero_add]; exact (own_cell5 h1 j u hu).1)
theorem OwnF.nil (W : World) (base : Nat) : OwnF W base (.slice none 0 0) .nil := ⟨[], ⟨rfl, Or.inl ⟨rfl, rfl⟩⟩, rfl⟩
/-- what trees some tokens are. -/
inductive Rd : List TkA → Fo → Prop
  | nil : Rd [] .nil
  | leaf {t : TkA} {r : List TkA} {f : Fo} : t.k ≠ 1 → t.k ≠ 2 → Rd r f → Rd (t :: r) (.cons false t.k t.s t.a .nil f)
  | list {t c : TkA} {x r : List TkA} {g f : Fo} : t.k = 1 → c.k = 2 → Rd x g → Rd r f → Rd (t :: (x ++ c :: r)) (.cons true t.k t.s t.a g f)
theorem Rd.len {l : List TkA} {f : Fo} (h : Rd l f) : f.len ≤ l.length := by
  induction h with
  | nil => exact Nat.le_refl _
  | leaf _ _ _ ih => simp only [Fo.len, List.length_cons]; omega
  | list _ _ _ _ _ ih => simp only [Fo.len, List.length_cons, List.length_append]; omega
theorem opn_one {t : TkA} (h : t.k = 1) (o : Int) : opn t o = o + 1 := by simp [opn, h]
theorem opn_two {t : TkA} (h : t.k = 2) (o : Int) : opn t o = o - 1 := by simp [opn, h]
theorem opn_else {t : TkA} (h1 : t.k ≠ 1) (h2 : t.k ≠ 2) (o : Int) : opn t o = o := by simp [opn, h1, h2]
theorem endF_rd {x : List TkA} {g : Fo} (h : Rd x g) : ∀ (o : Int) (r : List TkA) (i : Nat), 0 < o → endF (x ++ r) o i = endF r o (i + x.length) := by
  induction h with
  | nil => intro o r i _; simp
  | leaf h1 h2 _ ih =>
    intro o r i ho
    rw [List.cons_append, endF, opn_else h1 h2, if_neg (by omega), ih o r (i + 1) ho]
    congr 1
    simp only [List.length_cons]; omega
  | @list t c x r' g f h1 h2 _ _ ih1 ih2 =>
    intro o r i ho
    rw [List.cons_append, endF, opn_one h1, if_neg (by omega), List.append_assoc, ih1 (o + 1) _ (i + 1) (by omega), List.cons_append, endF, opn_two h2, show o + 1 - 1 = o from by omega, if_neg (by omega), ih2 o r _ ho]
    congr 1
    simp only [List.length_cons, List.length_append]; omega
/-- just one tree. -/
inductive One : List TkA → Bool → Int → ByteArray → Int → Fo → Prop
  | leaf {t : TkA} : t.k ≠ 1 → t.k ≠ 2 → One [t] false t.k t.s t.a .nil
  | list {t c : TkA} {x : List TkA} {g : Fo} : t.k = 1 → c.k = 2 → Rd x g → One (t :: (x ++ [c])) true t.k t.s t.a g
theorem Rd.first {l : List TkA} {b : Bool} {k : Int} {s : ByteArray} {a : Int} {g f : Fo} (h : Rd l (.cons b k s a g f)) : ∃ u r, l = u ++ r ∧ 0 < u.length ∧ One u b k s a g ∧ Rd r f ∧ (∀ z i, endF (u ++ z) 0 i = some (i + u.length)) := by
  cases h with
  | @leaf t r _ h1 h2 h3 =>
    exact ⟨[t], r, rfl, by simp, .leaf h1 h2, h3, fun z i => by rw [List.cons_append, endF, opn_else h1 h2, if_pos rfl]; rfl⟩
  | @list t c x r _ _ h1 h2 h3 h4 =>
    refine ⟨t :: (x ++ [c]), r, by simp, by simp, .list h1 h2 h3, h4, fun z i => ?_⟩
    rw [List.cons_append, endF, opn_one h1, if_neg (by omega), List.append_assoc, endF_rd h3 _ _ _ (by omega), List.cons_append, endF, opn_two h2, if_pos (by omega)]
    simp; omega
end Go.Proofs.YtlifankiljbdjaaDoor
namespace Go.Proofs.YtlifankiljbdjaaDoor
open Go Go.RowKit

/-- a tree in a block of its own. -/
structure BoxT (w : World) (b : Nat) (l : Bool) (k : Int) (s : ByteArray) (a : Int) (v : Value) : Prop where
  c0 : w.cell? ⟨b, 0, none⟩ = some (.bool l)
  c1 : w.cell? ⟨b, 1, none⟩ = some (.int .u8 k)
  c2 : w.cell? ⟨b, 2, none⟩ = some (.string s)
  c3 : w.cell? ⟨b, 3, none⟩ = some (.int .i64 a)
  c4 : w.cell? ⟨b, 4, none⟩ = some v
  fz : ∀ o, w.frozen? ⟨b, o, none⟩ = false
theorem BoxT.later {w w' : World} {b : Nat} {l : Bool} {k : Int} {s : ByteArray} {a : Int} {v : Value} (h : BoxT w b l k s a v) (hb : Below w.heap.size w w') : BoxT w' b l k s a v :=
  ⟨cell_later hb h.c0, cell_later hb h.c1, cell_later hb h.c2, cell_later hb h.c3, cell_later hb h.c4, fun o => by rw [hb.frozen (p := ⟨b, o, none⟩) (World.block_lt_of_cell? w ⟨b, 0, none⟩ h.c0)]; exact h.fz o⟩
theorem BoxT.only {w w' : World} {b : Nat} {l : Bool} {k : Int} {s : ByteArray} {a : Int} {v : Value} {T : Nat → Prop} (h : BoxT w b l k s a v) (ho : Only T w w') (hn : ¬ T b) : BoxT w' b l k s a v :=
  ⟨ho.cell h.c0 hn, ho.cell h.c1 hn, ho.cell h.c2 hn, ho.cell h.c3 hn, ho.cell h.c4 hn, fun o => by rw [ho.frozen (a := ⟨b, o, none⟩) (World.block_lt_of_cell? w ⟨b, 0, none⟩ h.c0) hn]; exact h.fz o⟩
theorem BoxT.lt {w : World} {b : Nat} {l : Bool} {k : Int} {s : ByteArray} {a : Int} {v : Value} (h : BoxT w b l k s a v) : b < w.heap.size := World.block_lt_of_cell? w _ h.c0
theorem BoxT.set4 {w : World} {b : Nat} {l : Bool} {k : Int} {s : ByteArray} {a : Int} {v : Value} (h : BoxT w b l k s a v) (v' : Value) : BoxT (w.setCell ⟨b, 4, none⟩ v') b l k s a v' := by
  refine ⟨?_, ?_, ?_, ?_, ?_, fun o => ?_⟩
  · rw [World.cell?_setCell_other _ _ _ _ (by intro e; cases e)]; exact h.c0
  · rw [World.cell?_setCell_other _ _ _ _ (by intro e; cases e)]; exact h.c1
  · rw [World.cell?_setCell_other _ _ _ _ (by intro e; cases e)]; exact h.c2
  · rw [World.cell?_setCell_other _ _ _ _ (by intro e; cases e)]; exact h.c3
  · have := h.c4
    have hf := h.fz 4
    simp [go_sem, this, hf]
  · have := h.fz o
    simp [go_sem, this]
theorem box_new (w : World) (l : Bool) (k : Int) (s : ByteArray) (a : Int) (v : Value) : BoxT (w.alloc (.cells #[.bool l, .int .u8 k, .string s, .int .i64 a, v] 41)) w.heap.size l k s a v :=
  ⟨by simp [go_sem], by simp [go_sem], by simp [go_sem], by simp [go_sem], by simp [go_sem], fun o => by simp [go_sem]⟩
theorem OwnF.push {W w' : World} {base N : Nat} {v v' : Value} {f x : Fo} {xs : List Value} {l : Bool} {k : Int} {s : ByteArray} {a : Int} {q : Option Addr} {c : Nat} (h1 : W.ownsRow base 41 5 v f.len xs) (h2 : RowF W (fun b => base ≤ b ∧ v.ownBlock ≠ some b) f xs)
    (hN : base ≤ N) (hv : ∀ g, v.ownBlock = some g → g < N) (hx : FoIn W (fun b => N ≤ b) x q) (hc : x.len ≤ c) (hm : x.len ≤ 281474976710656) (own : w'.ownsRow base 41 5 v' (f.len + 1) (xs ++ trC l k s a q x.len c)) (hg : W.grownBy w' v.ownBlock) (hloc : v'.ownBlock = v.ownBlock ∨ v'.ownBlock = some W.heap.size) :
    OwnF w' base v' (f.snoc l k s a x) := by
  have ho := Only.of_grown hg
  refine ⟨xs ++ trC l k s a q x.len c, by rw [Fo.len_snoc]; exact own, ?_⟩
  have hx2 : FoIn W (fun b => base ≤ b ∧ v.ownBlock ≠ some b) x q := hx.mono (fun b hb _ => ⟨by have : N ≤ b := hb; omega, fun e => by have := hv b e; have : N ≤ b := hb; omega⟩)
  have hr := RowF.snoc (l := l) (k := k) (s := s) (a := a) hc hm hx2 f xs h2
  have hr2 : RowF W (fun b => (base ≤ b ∧ v.ownBlock ≠ some b) ∧ v'.ownBlock ≠ some b) _ _ := hr.mono (fun b hb hlt => ⟨hb, fun e => by
    rcases hloc with h | h
    · exact hb.2 (h ▸ e)
    · rw [h] at e; injection e with e; omega⟩)
  exact (hr2.only ho (fun b hb => hb.1.2)).mono (fun b hb _ => ⟨hb.1.1, hb.2⟩)
theorem slice_tks (W : World) (b off n c lo hi : Nat) (h1 : lo < hi) (h2 : hi ≤ n) (h3 : n ≤ c) :
    (Instr.slice 24 (.slice (some ⟨b, off, none⟩) n c) (some (.int .i64 (lo : Int))) (some (.int .i64 (hi : Int))) none).run Tryd.prog W = .ok (.slice (some ⟨b, off + lo * 3, none⟩) (hi - lo) (c - lo)) W := by
  obtain ⟨i5, hi5, _, hs5, _⟩ := info33
  have e1 : (0 : Int) ≤ (lo : Int) := by omega
  have e2 : (lo : Int) ≤ (hi : Int) := by omega
  have e3 : (hi : Int) ≤ (c : Int) := by omega
  have e4 : (0 : Int) ≤ (hi : Int) := by omega
  have e5 : hi ≤ c := by omega
  have e6 : ¬ c = lo := by omega
  have e7 : lo ≤ hi := by omega
  simp [Instr.slice, run_underlying Tryd.underlying24, Instr.sliceBounds, Instr.sliceBound, asIntOf, sizeOf, typeInfo, hi5, hs5, e1, e2, e3, e4, e5, e6, e7, h2, sliced, Addr.add]
theorem TksA.piece {W : World} {b off : Nat} {l u z : List TkA} {d : List TkA} (h : TksA W (some ⟨b, off, none⟩) l) (e : l = d ++ (u ++ z)) : TksA W (some ⟨b, off + d.length * 3, none⟩) u := fun i hi => by
  obtain ⟨b', off', e', h1, h2, h3⟩ := h (d.length + i) (by rw [e]; simp; omega)
  cases e'
  have hg : l[d.length + i]'(by rw [e]; simp; omega) = u[i] := by
    subst e
    rw [List.getElem_append_right (by omega), List.getElem_append_left (by omega)]
    congr 1; omega
  rw [hg] at h1 h2 h3
  have ea : off + (d.length + i) * 3 = off + d.length * 3 + i * 3 := by omega
  rw [ea] at h1 h2 h3
  exact ⟨b, _, rfl, h1, h2, h3⟩
end Go.Proofs.YtlifankiljbdjaaDoor
