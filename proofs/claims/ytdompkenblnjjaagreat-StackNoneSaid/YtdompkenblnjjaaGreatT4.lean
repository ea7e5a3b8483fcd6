/- Tokens of any kind, text and place; the document's end and most. -/
import Derived.Test.YtdompkenblnjjaaGreatT0
namespace Go.Proofs.YtdompkenblnjjaaGreat
open Go Go.RowKit

/-- a token of any kind, text and place. -/
structure TkA where
  k : Int
  s : ByteArray
  a : Int
def TksA (W : World) (p : Option Addr) (l : List TkA) : Prop := ∀ i (h : i < l.length), ∃ b off, p = some ⟨b, off, none⟩ ∧ W.cell? ⟨b, off + i * 3, none⟩ = some (.int .u8 (l[i].k)) ∧ W.cell? ⟨b, off + i * 3 + 1, none⟩ = some (.string l[i].s) ∧ W.cell? ⟨b, off + i * 3 + 2, none⟩ = some (.int .i64 l[i].a)
set_option maxRecDepth 100000 in
theorem TksA.later {W W' : World} {p : Option Addr} {l : List TkA} (h : TksA W p l) (hb : Below W.heap.size W W') : TksA W' p l := fun i hi => by
  obtain ⟨b, off, e, h1, h2, h3⟩ := h i hi
  exact ⟨b, off, e, cell_later hb h1, cell_later hb h2, cell_later hb h3⟩
set_option maxRecDepth 100000 in
theorem TksA.only {W W' : World} {p : Option Addr} {l : List TkA} {T : Nat → Prop} (h : TksA W p l) (ho : Only T W W') (hn : ∀ b off, p = some ⟨b, off, none⟩ → ¬ T b) : TksA W' p l := fun i hi => by
  obtain ⟨b, off, e, h1, h2, h3⟩ := h i hi
  exact ⟨b, off, e, ho.cell h1 (hn _ _ e), ho.cell h2 (hn _ _ e), ho.cell h3 (hn _ _ e)⟩
/-- how many lists are open behind a token. -/
def opn (t : TkA) (o : Int) : Int := (if t.k = 1 then o + 1 else o) - (if t.k = 2 then 1 else 0)
/-- the place behind the list that opens here. -/
def endF : List TkA → Int → Nat → Option Nat
  | [], _, _ => none
  | t :: r, o, i => if opn t o = 0 then some (i + 1) else endF r (opn t o) (i + 1)
def endV : Option Nat → Int
  | none => -1
  | some n => (n : Int)
def mostF : List TkA → Int → Int → Int
  | [], _, top => top
  | t :: r, o, top => mostF r (opn t o) (if top < (if t.k = 1 then o + 1 else o) then (if t.k = 1 then o + 1 else o) else top)
set_option maxRecDepth 100000 in
theorem drop_cons {α : Type} {l : List α} {i : Nat} (h : i < l.length) : l.drop i = l[i] :: l.drop (i + 1) := List.drop_eq_getElem_cons h
set_option maxRecDepth 100000 in
set_option maxHeartbeats 3200000 in
theorem end43 (p : Option Addr) (c from_ : Nat) (l : List TkA) (W : World) (h1 : TksA W p l) (hc : l.length ≤ c) (hn : l.length ≤ 281474976710656) (hf : from_ ≤ l.length) :
    Calls Tryz.prog 47 #[.slice p l.length c, .int .i64 (from_ : Int)] W fun e w' => e = .returned (.int .i64 (endV (endF (l.drop from_) 0 from_))) ∧ Below W.heap.size W w' := by
  obtain ⟨n, hl⟩ : ∃ n, n = l.length := ⟨_, rfl⟩
  obtain ⟨R, hR⟩ : ∃ R, R = endF (l.drop from_) 0 from_ := ⟨_, rfl⟩
  rw [← hR]
  have H1 := Lib.hid h1
  have HL := Lib.hid hl
  have HR := Lib.hid hR
  rw [← hl] at hc hn hf ⊢
  clear h1 hl hR
  have hn' : (n : Int) ≤ 281474976710656 := by omega
  go_enter Tryz.func47, Tryz.ntmps47
  go_wp2_with fail
  go_loopg [5, 6] (n - from_) (fun gk s5 s6 wx => ∃ (i : Nat) (o : Int), i + gk = n ∧ s6 = .int .i64 (i : Int) ∧ s5 = .int .i64 o ∧ Hid (o ≤ i ∧ -(i : Int) ≤ o ∧ R = endF (l.drop i) o i ∧ ∃ m, wx = W.drewN m))
  case atStart => exact ⟨from_, 0, by omega, rfl, rfl, Lib.hid ⟨by omega, by omega, HR.out, 0, rfl⟩⟩
  case round =>
    obtain ⟨i, o, hk, rfl, rfl, HI⟩ := hrel
    obtain ⟨ho1, ho2, hR, m, hm⟩ := HI.out
    have HM := Lib.hid hm
    have HG := Lib.hid hk
    have hk2 : i ≤ n := by omega
    have o1 : o ≤ 281474976710656 := by omega
    have o2 : -281474976710656 ≤ o := by omega
    clear hk hm HI
    by_cases hlt : i < n
    · have hlt' : i < l.length := by rw [← HL.out]; exact hlt
      have i0 : (0 : Int) ≤ (i : Int) := by omega
      have i1 : (i : Int) < (n : Int) := by omega
      obtain ⟨b, off, rfl, x0, x1, x2⟩ := (H1.out.later (W' := wr) (by rw [HM.out]; exact below_drewN _ _)) i hlt'
      rw [drop_cons hlt'] at hR
      have HRR := Lib.hid hR
      have HO := Lib.hid (And.intro ho1 ho2)
      clear hR ho1 ho2
      obtain ⟨G, rfl⟩ : ∃ G, gk = G + 1 := ⟨gk - 1, by have := HG.out; omega⟩
      generalize l[i] = t at *
      obtain ⟨k, s, a⟩ := t
      by_cases q1 : k = 1
      · subst q1
        by_cases q0 : (o + 1) = 0
        · have e0 : ((o + 1) == 0) = true := by simp [q0]
          go_wp2_with fail
          go_ret
          refine ⟨?_, by first | (rw [HM.out]; exact below_drewN _ _) | (rw [HM.out, World.drewN_drewN]; exact below_drewN _ _)⟩
          rw [HRR.out, endF, if_pos (by simp [opn]; omega)]; simp [endV, go_sem]
        · have e0 : ((o + 1) == 0) = false := by simp [q0]
          go_wp2_with fail
          go_roundg G
          case measure => omega
          case rel =>
            obtain ⟨i', hi'⟩ : ∃ i', i' = i + 1 := ⟨_, rfl⟩
            refine ⟨i', (o + 1), by have := HG.out; omega, by rw [hi']; go_num, rfl, Lib.hid ⟨by have := HO.out.1; omega, by have := HO.out.2; omega, ?_, by first | exact ⟨_, HM.out⟩ | exact ⟨_, by rw [HM.out, World.drewN_drewN]⟩⟩⟩
            rw [HRR.out, endF, if_neg (by simp [opn]; omega), hi']; congr 1 <;> simp [opn]
      · by_cases q2 : k = 2
        · subst q2
          by_cases q0 : (o - 1) = 0
          · have e0 : ((o - 1) == 0) = true := by simp [q0]
            go_wp2_with fail
            go_ret
            refine ⟨?_, by first | (rw [HM.out]; exact below_drewN _ _) | (rw [HM.out, World.drewN_drewN]; exact below_drewN _ _)⟩
            rw [HRR.out, endF, if_pos (by simp [opn]; omega)]; simp [endV, go_sem]
          · have e0 : ((o - 1) == 0) = false := by simp [q0]
            go_wp2_with fail
            go_roundg G
            case measure => omega
            case rel =>
              obtain ⟨i', hi'⟩ : ∃ i', i' = i + 1 := ⟨_, rfl⟩
              refine ⟨i', (o - 1), by have := HG.out; omega, by rw [hi']; go_num, rfl, Lib.hid ⟨by have := HO.out.1; omega, by have := HO.out.2; omega, ?_, by first | exact ⟨_, HM.out⟩ | exact ⟨_, by rw [HM.out, World.drewN_drewN]⟩⟩⟩
              rw [HRR.out, endF, if_neg (by simp [opn]; omega), hi']; congr 1 <;> simp [opn]
        · have e1 : (k == 1) = false := by simp [q1]
          have e2 : (k == 2) = false := by simp [q2]
          by_cases q0 : o = 0
          · have e0 : (o == 0) = true := by simp [q0]
            go_wp2_with fail
            go_ret
            refine ⟨?_, by first | (rw [HM.out]; exact below_drewN _ _) | (rw [HM.out, World.drewN_drewN]; exact below_drewN _ _)⟩
            rw [HRR.out, endF, if_pos (by simp [opn, q1, q2]; omega)]; simp [endV, go_sem]
          · have e0 : (o == 0) = false := by simp [q0]
            go_wp2_with fail
            go_roundg G
            case measure => omega
            case rel =>
              obtain ⟨i', hi'⟩ : ∃ i', i' = i + 1 := ⟨_, rfl⟩
              refine ⟨i', o, by have := HG.out; omega, by rw [hi']; go_num, rfl, Lib.hid ⟨by have := HO.out.1; omega, by have := HO.out.2; omega, ?_, by first | exact ⟨_, HM.out⟩ | exact ⟨_, by rw [HM.out, World.drewN_drewN]⟩⟩⟩
              rw [HRR.out, endF, if_neg (by simp [opn, q1, q2]; omega), hi']; congr 1 <;> simp [opn, q1, q2]
    · obtain rfl : i = n := by omega
      go_wp2_with fail
      go_ret
      refine ⟨?_, by rw [HM.out]; exact below_drewN _ _⟩
      rw [hR, HL.out, List.drop_length]; rfl
set_option maxRecDepth 100000 in
set_option maxHeartbeats 3200000 in
theorem most44 (p : Option Addr) (c : Nat) (l : List TkA) (W : World) (h1 : TksA W p l) (hc : l.length ≤ c) (hn : l.length ≤ 281474976710656) :
    Calls Tryz.prog 48 #[.slice p l.length c] W fun e w' => e = .returned (.int .i64 (mostF l 0 0)) ∧ Below W.heap.size W w' := by
  obtain ⟨n, hl⟩ : ∃ n, n = l.length := ⟨_, rfl⟩
  obtain ⟨R, hR⟩ : ∃ R, R = mostF l 0 0 := ⟨_, rfl⟩
  rw [← hR]
  have H1 := Lib.hid h1
  have HL := Lib.hid hl
  have HR := Lib.hid hR
  rw [← hl] at hc hn ⊢
  clear h1 hl hR
  have hn' : (n : Int) ≤ 281474976710656 := by omega
  go_enter Tryz.func48, Tryz.ntmps48
  go_wp2_with fail
  go_loopg [3, 4, 5] n (fun gk s3 s4 s5 wx => ∃ (i : Nat) (o top : Int), i + gk = n ∧ s5 = .int .i64 (i : Int) ∧ s3 = .int .i64 o ∧ s4 = .int .i64 top ∧ Hid (o ≤ i ∧ -(i : Int) ≤ o ∧ top ≤ i ∧ 0 ≤ top ∧ R = mostF (l.drop i) o top ∧ ∃ m, wx = W.drewN m))
  case atStart => exact ⟨0, 0, 0, by omega, rfl, rfl, rfl, Lib.hid ⟨by omega, by omega, by omega, by omega, HR.out, 0, rfl⟩⟩
  case round =>
    obtain ⟨i, o, top, hk, rfl, rfl, rfl, HI⟩ := hrel
    obtain ⟨ho1, ho2, ho3, ho4, hR, m, hm⟩ := HI.out
    have HM := Lib.hid hm
    have HG := Lib.hid hk
    have hk2 : i ≤ n := by omega
    have o1 : o ≤ 281474976710656 := by omega
    have o2 : -281474976710656 ≤ o := by omega
    clear hk hm HI
    by_cases hlt : i < n
    · have hlt' : i < l.length := by rw [← HL.out]; exact hlt
      have i0 : (0 : Int) ≤ (i : Int) := by omega
      have i1 : (i : Int) < (n : Int) := by omega
      obtain ⟨b, off, rfl, x0, x1, x2⟩ := (H1.out.later (W' := wr) (by rw [HM.out]; exact below_drewN _ _)) i hlt'
      rw [drop_cons hlt'] at hR
      have HRR := Lib.hid hR
      have HO := Lib.hid (And.intro ho1 (And.intro ho2 (And.intro ho3 ho4)))
      clear hR ho1 ho2 ho3 ho4
      obtain ⟨G, rfl⟩ : ∃ G, gk = G + 1 := ⟨gk - 1, by have := HG.out; omega⟩
      generalize l[i] = t at *
      obtain ⟨k, s, a⟩ := t
      by_cases q1 : k = 1
      · subst q1
        by_cases q0 : top < (o + 1)
        · have e0 : decide (top < (o + 1)) = true := by simp [q0]
          go_wp2_with fail
          go_roundg G
          case measure => omega
          case rel =>
            obtain ⟨i', hi'⟩ : ∃ i', i' = i + 1 := ⟨_, rfl⟩
            refine ⟨i', (o + 1), (o + 1), by have := HG.out; omega, by rw [hi']; go_num, rfl, rfl, Lib.hid ⟨by have := HO.out; omega, by have := HO.out; omega, by have := HO.out; omega, by have := HO.out; omega, ?_, by first | exact ⟨_, HM.out⟩ | exact ⟨_, by rw [HM.out, World.drewN_drewN]⟩⟩⟩
            rw [HRR.out, mostF, hi']; congr 1 <;> simp [opn, q0] <;> omega
        · have e0 : decide (top < (o + 1)) = false := by simp [q0]
          go_wp2_with fail
          go_roundg G
          case measure => omega
          case rel =>
            obtain ⟨i', hi'⟩ : ∃ i', i' = i + 1 := ⟨_, rfl⟩
            refine ⟨i', (o + 1), top, by have := HG.out; omega, by rw [hi']; go_num, rfl, rfl, Lib.hid ⟨by have := HO.out; omega, by have := HO.out; omega, by have := HO.out; omega, by have := HO.out; omega, ?_, by first | exact ⟨_, HM.out⟩ | exact ⟨_, by rw [HM.out, World.drewN_drewN]⟩⟩⟩
            rw [HRR.out, mostF, hi']; congr 1 <;> simp [opn] <;> omega
      · by_cases q2 : k = 2
        · subst q2
          by_cases q0 : top < o
          · have e0 : decide (top < o) = true := by simp [q0]
            go_wp2_with fail
            go_roundg G
            case measure => omega
            case rel =>
              obtain ⟨i', hi'⟩ : ∃ i', i' = i + 1 := ⟨_, rfl⟩
              refine ⟨i', (o - 1), o, by have := HG.out; omega, by rw [hi']; go_num, rfl, rfl, Lib.hid ⟨by have := HO.out; omega, by have := HO.out; omega, by have := HO.out; omega, by have := HO.out; omega, ?_, by first | exact ⟨_, HM.out⟩ | exact ⟨_, by rw [HM.out, World.drewN_drewN]⟩⟩⟩
              rw [HRR.out, mostF, hi']; congr 1 <;> simp [q0] <;> omega
          · have e0 : decide (top < o) = false := by simp [q0]
            go_wp2_with fail
            go_roundg G
            case measure => omega
            case rel =>
              obtain ⟨i', hi'⟩ : ∃ i', i' = i + 1 := ⟨_, rfl⟩
              refine ⟨i', (o - 1), top, by have := HG.out; omega, by rw [hi']; go_num, rfl, rfl, Lib.hid ⟨by have := HO.out; omega, by have := HO.out; omega, by have := HO.out; omega, by have := HO.out; omega, ?_, by first | exact ⟨_, HM.out⟩ | exact ⟨_, by rw [HM.out, World.drewN_drewN]⟩⟩⟩
              rw [HRR.out, mostF, hi']; congr 1 <;> simp [] <;> omega
        · have e1 : (k == 1) = false := by simp [q1]
          have e2 : (k == 2) = false := by simp [q2]
          by_cases q0 : top < o
          · have e0 : decide (top < o) = true := by simp [q0]
            go_wp2_with fail
            go_roundg G
            case measure => omega
            case rel =>
              obtain ⟨i', hi'⟩ : ∃ i', i' = i + 1 := ⟨_, rfl⟩
              refine ⟨i', o, o, by have := HG.out; omega, by rw [hi']; go_num, rfl, rfl, Lib.hid ⟨by have := HO.out; omega, by have := HO.out; omega, by have := HO.out; omega, by have := HO.out; omega, ?_, by first | exact ⟨_, HM.out⟩ | exact ⟨_, by rw [HM.out, World.drewN_drewN]⟩⟩⟩
              rw [HRR.out, mostF, hi']; congr 1 <;> simp [opn, q1, q2, q0] <;> omega
          · have e0 : decide (top < o) = false := by simp [q0]
            go_wp2_with fail
            go_roundg G
            case measure => omega
            case rel =>
              obtain ⟨i', hi'⟩ : ∃ i', i' = i + 1 := ⟨_, rfl⟩
              refine ⟨i', o, top, by have := HG.out; omega, by rw [hi']; go_num, rfl, rfl, Lib.hid ⟨by have := HO.out; omega, by have := HO.out; omega, by have := HO.out; omega, by have := HO.out; omega, ?_, by first | exact ⟨_, HM.out⟩ | exact ⟨_, by rw [HM.out, World.drewN_drewN]⟩⟩⟩
              rw [HRR.out, mostF, hi']; congr 1 <;> simp [opn, q1, q2] <;> omega
    · obtain rfl : i = n := by omega
      go_wp2_with fail
      go_ret
      refine ⟨?_, by rw [HM.out]; exact below_drewN _ _⟩
      rw [hR, HL.out, List.drop_length]; rfl
end Go.Proofs.YtdompkenblnjjaaGreat

