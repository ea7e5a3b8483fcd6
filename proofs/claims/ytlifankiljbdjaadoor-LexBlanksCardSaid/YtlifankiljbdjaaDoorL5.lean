/- LexBlanks: the law's walk. -/
import Derived.Test.YtlifankiljbdjaaDoorL4
namespace Go.Proofs.YtlifankiljbdjaaDoor
open Go Go.RowKit

/-- the rows of blanks, in block B. -/
def BlkAt (w : World) (B : Nat) : Prop := ∀ j, j < 5 → ∃ Z : ByteArray, w.cell? ⟨B, j, none⟩ = some (.string Z) ∧ Z.data.toList = between.getD j []
theorem BlkAt.later {w w' : World} {B : Nat} (h : BlkAt w B) (hb : Below w.heap.size w w') : BlkAt w' B := fun j hj => by
  obtain ⟨Z, h1, h2⟩ := h j hj
  exact ⟨Z, cell_later hb h1, h2⟩
theorem blk_new (w : World) (t : TypeId) : BlkAt (w.alloc (.cells #[.string ⟨#[32]⟩, .string ⟨#[10]⟩, .string ⟨#[9, 32, 13]⟩, .string ⟨#[59, 32, 40, 97, 32, 124, 10]⟩, .string ⟨#[32, 59, 10, 10]⟩] t)) w.heap.size := fun j hj => by
  have : j = 0 ∨ j = 1 ∨ j = 2 ∨ j = 3 ∨ j = 4 := by omega
  rcases this with rfl | rfl | rfl | rfl | rfl <;> exact ⟨_, by rw [World.cell?_alloc_new]; rfl, rfl⟩
set_option maxRecDepth 100000 in
set_option maxHeartbeats 3200000 in
theorem blanks_law (p p2 : Option Addr) (c c2 : Nat) (bs bt : List UInt8) (W : World) (hb : BytesIn W p bs) (hk : bs.length ≤ c) (hn : bs.length ≤ 2000) (hb2 : BytesIn W p2 bt) (hm : bt.length ≤ 9223372036854775807) :
    Calls Tryd.prog 5 #[.slice p bs.length c, .slice p2 bt.length c2] W fun e w' => e = .returned (.bool true) ∧ Below W.heap.size W w' := by
  have htk := tokens_any p c bs W hb hk (by omega)
  have HTK := Lib.hid htk
  have HB2 := Lib.hid hb2
  obtain ⟨n, hnl⟩ : ∃ n, n = bs.length := ⟨_, rfl⟩
  obtain ⟨m, hml⟩ : ∃ m, m = bt.length := ⟨_, rfl⟩
  have HL := Lib.hid hnl
  have HM := Lib.hid hml
  rw [← hnl] at hk hn HTK ⊢
  rw [← hml] at hm ⊢
  have i0 : (n : Int) ≤ 2000 := by omega
  have i1 : (m : Int) ≤ 9223372036854775807 := by omega
  clear hb htk hnl hml hb2
  go_enter Tryd.func5, Tryd.ntmps5
  go_wp2_with fail
  refine HTK.out.mono ?_
  rintro e w1 ⟨q, cq, l, a, er, rfl, htk, hown, hb1⟩
  have HT := Lib.hid htk
  have htx := htk.texts
  have HO := Lib.hid (own_tks hown)
  have HB1 := Lib.hid hb1
  obtain ⟨L, hL⟩ : ∃ L, L = l.length := ⟨_, rfl⟩
  have HLL := Lib.hid hL
  have hL2 : L ≤ 2000 := by have h1 := htk.len; have h2 := HL.out; omega
  have HTX := Lib.hid (show (l.map fun t => t.text.length).sum ≤ 2000 by have h2 := HL.out; omega)
  rw [← hL]
  clear htk hown hb1 HTK hL htx
  go_wp2_with fail
  generalize hW2 : w1.alloc _ = w2
  have HK2 := Lib.hid (show BlkAt w2 w1.heap.size by rw [← hW2]; exact blk_new w1 _)
  have hb12 : Below w1.heap.size w1 w2 := by rw [← hW2]; exact below1 w1 _
  have HB12 := Lib.hid (HB1.out.trans (hb12.mono HB1.out.size))
  have HO2 := Lib.hid (HO.out.later hb12)
  generalize w1.heap.size = B8 at *
  clear hW2 hb12 HO
  go_loopg [9, 10, 11] L (fun gk s9 s10 s11 wx => ∃ (i : Nat) (Y : ByteArray), i + gk = L ∧ s10 = .int .i64 (i : Int) ∧ s9 = .string Y ∧ Hid (TksIn wx q l ∧ Below W.heap.size W wx ∧ BlkAt wx B8 ∧ Y.data.toList = wroteL bt l i))
  case atStart => exact ⟨0, ⟨#[]⟩, by omega, rfl, rfl, Lib.hid ⟨HO2.out, HB12.out, HK2.out, rfl⟩⟩
  case round =>
    obtain ⟨i, Y, hi, rfl, rfl, HI⟩ := hrel
    obtain ⟨hO, hB, hK, hY⟩ := HI.out
    have HO1 := Lib.hid hO
    have HBx := Lib.hid hB
    have HKx := Lib.hid hK
    have HY := Lib.hid hY
    have HG := Lib.hid hi
    have hi2 : i ≤ L := by omega
    have hYs : Y.size ≤ 30000 := by
      have h1 : Y.data.toList.length = Y.size := by simp
      have h2 := wrote_len bt l i (by have := HLL.out; omega)
      have h3 := sum_take l i
      have h4 := HTX.out
      rw [← h1, hY]; omega
    clear hi hO hB hK hY HI HO2 HB12 HK2
    by_cases hlt : i < L
    · have hil : i < l.length := by have := HLL.out; omega
      have j0 : (0 : Int) ≤ (i : Int) := by omega
      have j1 : (i : Int) < (L : Int) := by omega
      have hws := wrote_succ bt l i hil
      have htl := HT.out.text_le hil
      obtain ⟨b, off, rfl, x0, x1, x2⟩ := HO1.out i hil
      generalize hti : l[i] = t at *
      have HWS := Lib.hid hws
      clear hti hws
      obtain ⟨kd, tx, A⟩ := t
      obtain ⟨S, hS, hS1, hS2⟩ := str_of tx
      simp only at x0 x1 x2 htl
      rw [hS] at x1
      have htx := text_any kd A tx S hS1 (by rw [hS2]; have := HL.out; omega)
      have HTXT := Lib.hid htx
      have HTL := Lib.hid htl
      clear htx htl hS hS1 hS2
      go_wp2_with fail
      refine (HTXT.out _).mono ?_
      rintro e w3 ⟨X, rfl, hX, hb3⟩
      have hXl : X.data.toList.length = X.size := by simp
      have hXs : X.size ≤ 5000 := by
        have h1 := rend_len kd tx
        have h2 := HTL.out
        have h3 := HL.out
        rw [← hXl, hX]; omega
      have HX := Lib.hid hX
      have HO3 := Lib.hid (HO1.out.later hb3)
      have HB3 := Lib.hid (HBx.out.trans (hb3.mono HBx.out.size))
      have HK3 := Lib.hid (HKx.out.later hb3)
      have hYX : (Y ++ X).size ≤ 40000 := by
        have h1 : (Y ++ X).data.toList.length = (Y ++ X).size := by simp
        have h2 : Y.data.toList.length = Y.size := by simp
        rw [← h1, app_data, List.length_append]; omega
      have hyt := (bt.getD i 0).toNat_lt
      have hym : (bt.getD i 0).toNat % 5 < 5 := Nat.mod_lt _ (by decide)
      obtain ⟨Z, hZ1, hZ2⟩ := HK3.out _ hym
      have HZ := Lib.hid (show Z.data.toList = blankAt bt i from hZ2)
      have hZs : Z.size ≤ 7 := by
        have h1 : Z.data.toList.length = Z.size := by simp
        rw [← h1, hZ2]; exact blankAt_len bt i
      clear hb3 hX hXl HO1 HBx HKx x0 x1 x2 hZ2
      by_cases hbt : i < m
      · have hib : i < bt.length := by have := HM.out; omega
        obtain ⟨b2, off2, rfl, cb2⟩ := (HB2.out.later HB3.out) i hib
        have hge : bt.getD i 0 = bt[i] := by simp [List.getD_eq_getElem?_getD, List.getElem?_eq_getElem hib]
        rw [hge] at hyt hym hZ1
        have j2 : (i : Int) < (m : Int) := by omega
        generalize bt[i].toNat = y at *
        have j3 : (0 : Int) ≤ (y : Int) := by omega
        have j4 : (y : Int) < 256 := by omega
        clear hge
        go_wp2_with fail
        obtain ⟨G, rfl⟩ : ∃ G, gk = G + 1 := ⟨gk - 1, by have := HG.out; omega⟩
        go_roundg G
        case measure => omega
        case rel =>
          obtain ⟨i', hi'⟩ : ∃ i', i' = i + 1 := ⟨_, rfl⟩
          refine ⟨i', _, by have := HG.out; omega, by rw [hi']; go_num, rfl, Lib.hid ⟨HO3.out, HB3.out, HK3.out, ?_⟩⟩
          rw [hi', HWS.out, app_data, app_data, HY.out, HX.out, HZ.out, List.append_assoc]
      · have hge : bt.getD i 0 = 0 := by rw [List.getD_eq_getElem?_getD, List.getElem?_eq_none (by have := HM.out; omega)]; rfl
        rw [hge] at hyt hym hZ1
        have j2 : ¬ (i : Int) < (m : Int) := by omega
        have hZ0 : w3.cell? ⟨B8, 0, none⟩ = some (.string Z) := hZ1
        clear hge hyt hym hZ1
        go_wp2_with fail
        obtain ⟨G, rfl⟩ : ∃ G, gk = G + 1 := ⟨gk - 1, by have := HG.out; omega⟩
        go_roundg G
        case measure => omega
        case rel =>
          obtain ⟨i', hi'⟩ : ∃ i', i' = i + 1 := ⟨_, rfl⟩
          refine ⟨i', _, by have := HG.out; omega, by rw [hi']; go_num, rfl, Lib.hid ⟨HO3.out, HB3.out, HK3.out, ?_⟩⟩
          rw [hi', HWS.out, app_data, app_data, HY.out, HX.out, HZ.out, List.append_assoc]
    · obtain rfl : i = L := by omega
      obtain ⟨cap, w3, hconv, hcap, hb3, hby, _⟩ := conv_bytes wr Y
      have hYl : Y.data.toList.length = Y.size := by simp
      have htk3 := tokens_any (some ⟨wr.heap.size, 0, none⟩) cap Y.data.toList w3 hby (by omega) (by omega)
      rw [hYl] at htk3
      have HTK3 := Lib.hid htk3
      have HO3 := Lib.hid (HO1.out.later hb3)
      have HB3 := Lib.hid (HBx.out.trans (hb3.mono HBx.out.size))
      clear htk3 hb3 hby hYl HO1
      go_wp2_with fail
      refine HTK3.out.mono ?_
      rintro e w4 ⟨q4, c4, l4, a4, er4, rfl, htk4, hown4, hb4⟩
      obtain ⟨l2, g1, g2, g3⟩ := wrote_all HT.out bt
      have hYw : Y.data.toList = wroteL bt l l.length := by rw [HY.out, HLL.out]
      rw [hYw] at htk4
      obtain ⟨rfl, rfl, rfl⟩ := htk4.uniq g1
      have h4L : l4.length = i := by rw [g2]; exact HLL.out.symm
      rw [h4L]
      have HO4 := Lib.hid (HO3.out.later hb4)
      have HB4 := Lib.hid (HB3.out.trans (hb4.mono HB3.out.size))
      have HP4 := Lib.hid (own_tks hown4)
      have H3 := Lib.hid g3
      have H4L := Lib.hid h4L
      clear htk4 g1 g2 g3 hown4 hb4 HO3 h4L hconv hYw
      go_wp2_with fail
      go_loopg [15] i (fun ik s15 wx => ∃ k : Nat, k + ik = i ∧ s15 = .int .i64 (k : Int) ∧ Hid (∃ n, wx = w4.drewN n))
      case atStart => exact ⟨0, by omega, rfl, Lib.hid ⟨0, rfl⟩⟩
      case round =>
        obtain ⟨k, hk2, rfl, HI⟩ := hrel
        obtain ⟨nw, hnw⟩ := HI.out
        have HNW := Lib.hid hnw
        have HKG := Lib.hid hk2
        have hkl : k ≤ i := by omega
        clear hk2 hnw HI
        by_cases hlt2 : k < i
        · have j0 : (0 : Int) ≤ (k : Int) := by omega
          have j1 : (k : Int) < (i : Int) := by omega
          have hk4 : k < l4.length := by have := H4L.out; omega
          have hkl2 : k < l.length := by have := HLL.out; omega
          obtain ⟨b, off, rfl, x0, x1, x2⟩ := (HO4.out.later (W' := wr) (by rw [HNW.out]; exact below_drewN _ _)) k hkl2
          obtain ⟨b5, off5, rfl, y0, y1, y2⟩ := (HP4.out.later (W' := wr) (by rw [HNW.out]; exact below_drewN _ _)) k hk4
          obtain ⟨e1, e2⟩ := H3.out k hk4 hkl2
          rw [e1] at y0
          rw [e2] at y1
          generalize (⟨l[k].text.toArray⟩ : ByteArray) = S at *
          generalize l[k].kind = kd at *
          have g3 : ((kd : Int) != (kd : Int)) = false := by simp
          clear x2 y2 e1 e2
          go_wp2_with fail
          go_quiet (fail)
          go_wp2_with fail
          go_roundg (gk - 1)
          case measure => have := HKG.out; omega
          case rel =>
            obtain ⟨k', hk'⟩ : ∃ k', k' = k + 1 := ⟨_, rfl⟩
            exact ⟨k', by have := HKG.out; omega, by rw [hk']; go_num, Lib.hid ⟨_, by rw [HNW.out, World.drewN_drewN]⟩⟩
        · have hB5 : Below W.heap.size W wr := by rw [HNW.out]; exact HB4.out.trans ((below_drewN _ _).mono HB4.out.size)
          have HB5 := Lib.hid hB5
          clear hB5
          go_wp2_with (go_at_call 13; refine (known_any _).mono ?_; rintro e w5 ⟨rfl, hb⟩; have HB6 := Lib.hid hb; clear hb)
          go_ret
          exact ⟨rfl, HB5.out.trans (HB6.out.mono HB5.out.size)⟩
theorem blanks_any_law (p p2 : Option Addr) (c c2 : Nat) (bs bt : List UInt8) (W : World) (hb : BytesIn W p bs) (hk : bs.length ≤ c) (hb2 : BytesIn W p2 bt) (hm : bt.length ≤ 9223372036854775807) :
    Calls Tryd.prog 5 #[.slice p bs.length c, .slice p2 bt.length c2] W fun e w' => e = .returned (.bool true) ∧ Below W.heap.size W w' := by
  by_cases h : bs.length ≤ 2000
  · exact blanks_law p p2 c c2 bs bt W hb hk h hb2 hm
  · exact blanks_great p p2 c c2 bs.length bt.length W (by omega)
end Go.Proofs.YtlifankiljbdjaaDoor
