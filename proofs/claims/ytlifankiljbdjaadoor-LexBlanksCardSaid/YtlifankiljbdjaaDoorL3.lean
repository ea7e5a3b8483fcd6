/- LexAlone: the law's walk. -/
import Derived.Test.YtlifankiljbdjaaDoorX2
import Derived.Test.YtlifankiljbdjaaDoorL1
namespace Go.Proofs.YtlifankiljbdjaaDoor
open Go Go.RowKit

theorem Toks.texts {b : List UInt8} {at_ : Nat} {l : List Tk} {p e : Nat} (h : Toks b at_ l p e) : (l.map fun t => t.text.length).sum + at_ ≤ max b.length at_ := by
  induction h with
  | done _ => simp; omega
  | bad _ _ => simp; omega
  | step h1 h2 h3 ih =>
    have hn := one_n h2
    rw [List.length_drop] at hn
    simp only [List.map_cons, List.sum_cons]
    omega
theorem Toks.text_le {b : List UInt8} {l : List Tk} {p e : Nat} (h : Toks b 0 l p e) {i : Nat} (hi : i < l.length) : l[i].text.length ≤ b.length := by
  have h1 := h.texts
  have h2 : ∀ (l : List Tk) (i : Nat) (hi : i < l.length), l[i].text.length ≤ (l.map fun t => t.text.length).sum := by
    intro l
    induction l with
    | nil => intro i hi; simp at hi
    | cons t l ih =>
      intro i hi
      cases i with
      | zero => simp
      | succ i => have := ih i (by simpa using hi); simp only [List.getElem_cons_succ, List.map_cons, List.sum_cons]; omega
  have := h2 l i hi
  omega
theorem rend_len (k : Nat) (t : List UInt8) : (rendL k t).length ≤ 2 * t.length + 2 := by
  have := dbl_len t
  unfold rendL
  split
  · split <;> simp <;> omega
  · split
    · simp; omega
    · split <;> simp <;> omega
set_option maxRecDepth 100000 in
set_option maxHeartbeats 400000 in
theorem alone_great (p : Option Addr) (c n : Nat) (W : World) (hn : 2000 < n) :
    Calls Tryd.prog 7 #[.slice p n c] W fun e w' => e = .returned (.bool true) ∧ Below W.heap.size W w' := by
  have i0 : (2000 : Int) < (n : Int) := by omega
  go_enter Tryd.func7, Tryd.ntmps7
  go_wp2_with (go_at_call 13; refine (known_any _).mono ?_; rintro e w1 ⟨rfl, hb⟩; have HB := Lib.hid hb; clear hb)
  go_ret
  exact ⟨rfl, HB.out⟩
/-- the places of tokens, from before the first on -/
def lastAt (l : List Tk) (i : Nat) : Int := if i = 0 then -1 else ((l[i - 1]?).map (fun t => (t.at_ : Int))).getD 0
set_option maxRecDepth 100000 in
set_option maxHeartbeats 3200000 in
theorem alone_law (p : Option Addr) (c : Nat) (bs : List UInt8) (W : World) (hb : BytesIn W p bs) (hk : bs.length ≤ c) (hn : bs.length ≤ 2000) :
    Calls Tryd.prog 7 #[.slice p bs.length c] W fun e w' => e = .returned (.bool true) ∧ Below W.heap.size W w' := by
  have htk := tokens_any p c bs W hb hk (by omega)
  have HTK := Lib.hid htk
  obtain ⟨n, hnl⟩ : ∃ n, n = bs.length := ⟨_, rfl⟩
  have HL := Lib.hid hnl
  rw [← hnl] at hk hn HTK ⊢
  have i0 : (n : Int) ≤ 2000 := by omega
  clear hb htk hnl
  go_enter Tryd.func7, Tryd.ntmps7
  go_wp2_with fail
  refine HTK.out.mono ?_
  rintro e w1 ⟨q, cq, l, a, er, rfl, htk, hown, hb1⟩
  have HT := Lib.hid htk
  have HO := Lib.hid (own_tks hown)
  have HB1 := Lib.hid hb1
  obtain ⟨L, hL⟩ : ∃ L, L = l.length := ⟨_, rfl⟩
  have HLL := Lib.hid hL
  have hL2 : L ≤ 2000 := by have h1 := htk.len; have h2 := HL.out; omega
  rw [← hL]
  clear htk hown hb1 HTK hL
  go_wp2_with fail
  go_loopg [6, 7, 8, 9, 10, 11] L (fun gk s6 s7 s8 s9 s10 s11 wx => ∃ i : Nat, i + gk = L ∧ s7 = .int .i64 (i : Int) ∧ s6 = .int .i64 (lastAt l i) ∧ Hid (TksIn wx q l ∧ Below W.heap.size W wx))
  case atStart => exact ⟨0, by omega, rfl, rfl, Lib.hid ⟨HO.out, HB1.out⟩⟩
  case round =>
    obtain ⟨i, hi, rfl, rfl, HI⟩ := hrel
    obtain ⟨hO, hB⟩ := HI.out
    have HO1 := Lib.hid hO
    have HBx := Lib.hid hB
    have HG := Lib.hid hi
    have hi2 : i ≤ L := by omega
    clear hi hO hB HI HO
    by_cases hlt : i < L
    · have hil : i < l.length := by have := HLL.out; omega
      have j0 : (0 : Int) ≤ (i : Int) := by omega
      have j1 : (i : Int) < (L : Int) := by omega
      have hgood := HT.out.good l[i] (List.getElem_mem hil)
      have hplc := HT.out.places i hil
      have htl := HT.out.text_le hil
      obtain ⟨b, off, rfl, x0, x1, x2⟩ := HO1.out i hil
      have hla : lastAt l i < (l[i].at_ : Int) := by
        unfold lastAt
        split
        · omega
        · rename_i h0
          have hi1 : i - 1 < l.length := by omega
          rw [List.getElem?_eq_getElem hi1]
          have := hplc.2.2 (i - 1) (by omega)
          simp; omega
      have hatn : (l[i].at_ : Int) < (n : Int) := by have h1 := hplc.2.1; have h2 := HL.out; omega
      have HNX := Lib.hid (show lastAt l (i + 1) = (l[i].at_ : Int) by unfold lastAt; simp [hil])
      generalize lastAt l i = la at *
      generalize hti : l[i] = t at *
      have HTI := Lib.hid hti
      clear hti
      obtain ⟨kd, tx, A⟩ := t
      obtain ⟨S, hS, hS1, hS2⟩ := str_of tx
      simp only at x0 x1 x2 hgood hla hatn htl HNX
      rw [hS] at x1
      have htx := text_any kd A tx S hS1 (by rw [hS2]; have := HL.out; omega)
      have HTX := Lib.hid htx
      have HGD := Lib.hid hgood
      have HTL := Lib.hid htl
      have HSS := Lib.hid (And.intro hS (And.intro hS1 hS2))
      clear hgood hplc htx htl hS hS1 hS2
      go_wp2_with fail
      refine (HTX.out _).mono ?_
      rintro e w2 ⟨X, rfl, hX, hb2⟩
      have hXl : X.data.toList.length = X.size := by simp
      have hXs : X.size ≤ 1048576 := by
        have h1 := rend_len kd tx
        have h2 := HTL.out
        have h3 := HL.out
        rw [← hXl, hX]; omega
      obtain ⟨cap, w3, hconv, hcap, hb3, hby, _⟩ := conv_bytes w2 X
      have htk3 := tokens_any (some ⟨w2.heap.size, 0, none⟩) cap X.data.toList w3 hby (by omega) (by omega)
      rw [hXl] at htk3
      have HTK3 := Lib.hid htk3
      have hb13 := hb2.trans (hb3.mono hb2.size)
      have HO3 := Lib.hid (HO1.out.later hb13)
      have HB3 := Lib.hid (HBx.out.trans (hb13.mono HBx.out.size))
      have HX := Lib.hid (And.intro hX hXl)
      clear htk3 hb2 hb3 hby hX hXl hb13 HO1 x0 x1 x2
      go_wp2_with fail
      refine HTK3.out.mono ?_
      rintro e w4 ⟨q4, c4, l4, a4, er4, rfl, htk4, hown4, hb4⟩
      have hal := alone HGD.out
      rw [← HX.out.1] at hal
      obtain ⟨rfl, rfl, rfl⟩ := htk4.uniq hal
      rw [HX.out.2]
      obtain ⟨b4, off4, rfl, y0, y1, y2⟩ := (own_tks hown4) 0 (by simp)
      have HO4 := Lib.hid (HO3.out.later hb4)
      have HB4 := Lib.hid (HB3.out.trans (hb4.mono HB3.out.size))
      have y0' : w4.cell? ⟨b4, off4, none⟩ = some (.int .u8 (kd : Int)) := y0
      have y1' : w4.cell? ⟨b4, off4 + 1, none⟩ = some (.string S) := by rw [← HSS.out.1]; exact y1
      have y2' : w4.cell? ⟨b4, off4 + 2, none⟩ = some (.int .i64 0) := y2
      clear htk4 hal hown4 hb4 HO3 y0 y1 y2 hconv
      have hil2 : i < l.length := by have := HLL.out; omega
      obtain ⟨b5, off5, e5, z0, z1, z2⟩ := HO4.out i hil2
      cases e5
      rw [HTI.out] at z0 z1 z2
      simp only at z0 z1 z2
      rw [HSS.out.1] at z1
      have g1 : decide ((A : Int) ≤ la) = false := by simp; omega
      have g2 : decide ((n : Int) ≤ (A : Int)) = false := by simp; omega
      have g5 : decide (n ≤ A) = false := by simp; omega
      have g3 : ((kd : Int) != (kd : Int)) = false := by simp
      have g4 : ((X.size : Int) != (X.size : Int)) = false := by simp
      go_wp2_with fail
      go_quiet (fail)
      go_wp2_with fail
      obtain ⟨G, rfl⟩ : ∃ G, gk = G + 1 := ⟨gk - 1, by have := HG.out; omega⟩
      go_roundg G
      case measure => omega
      case rel =>
        obtain ⟨i', hi'⟩ : ∃ i', i' = i + 1 := ⟨_, rfl⟩
        exact ⟨i', by have := HG.out; omega, by rw [hi']; go_num, by rw [hi', HNX.out], Lib.hid ⟨HO4.out.later (by first | exact below_drewN _ _ | exact Below.refl _ _ | (repeat (first | exact Below.refl _ _ | apply bdd))), HB4.out.trans ((below_drewN _ _).mono HB4.out.size)⟩⟩
    · obtain rfl : i = L := by omega
      go_wp2_with (go_at_call 13; refine (known_any _).mono ?_; rintro e w5 ⟨rfl, hb⟩; have HB5 := Lib.hid hb; clear hb)
      go_ret
      exact ⟨rfl, HBx.out.trans (HB5.out.mono HBx.out.size)⟩
theorem alone_any_law (p : Option Addr) (c : Nat) (bs : List UInt8) (W : World) (hb : BytesIn W p bs) (hk : bs.length ≤ c) : Calls Tryd.prog 7 #[.slice p bs.length c] W fun e w' => e = .returned (.bool true) ∧ Below W.heap.size W w' := by
  by_cases h : bs.length ≤ 2000
  · exact alone_law p c bs W hb hk h
  · exact alone_great p c bs.length W (by omega)
end Go.Proofs.YtlifankiljbdjaaDoor
