/- LexPlain: the law's walk. -/
import Derived.Test.YtlifankiljbdjaaDoorX1
namespace Go.Proofs.YtlifankiljbdjaaDoor
open Go Go.RowKit

set_option maxRecDepth 100000 in
set_option maxHeartbeats 400000 in
theorem plain_great (S : ByteArray) (W : World) (hn : 20000 < S.size) (hm : S.size ≤ 9223372036854775807) :
    Calls Tryd.prog 4 #[.string S] W fun e w' => e = .returned (.bool true) ∧ Below W.heap.size W w' := by
  have i0 : (20000 : Int) < (S.size : Int) := by omega
  go_enter Tryd.func4, Tryd.ntmps4
  go_wp2_with (go_at_call 13; refine (known_any _).mono ?_; rintro e w1 ⟨rfl, hb⟩; have HB := Lib.hid hb; clear hb)
  go_ret
  exact ⟨rfl, HB.out⟩
set_option maxRecDepth 100000 in
set_option maxHeartbeats 1600000 in
theorem plain_law (S : ByteArray) (W : World) (hn : S.size ≤ 20000) :
    Calls Tryd.prog 4 #[.string S] W fun e w' => e = .returned (.bool true) ∧ Below W.heap.size W w' := by
  have i0 : (S.size : Int) ≤ 20000 := by omega
  obtain ⟨cap, w2, hconv, hcap, hb2, hby, _⟩ := conv_bytes W S
  have hlen : S.data.toList.length = S.size := by simp
  have htk := tokens_any (some ⟨W.heap.size, 0, none⟩) cap S.data.toList w2 hby (by omega) (by omega)
  rw [hlen] at htk
  have HTK := Lib.hid htk
  have HB2 := Lib.hid hb2
  clear htk hb2 hby hlen
  go_enter Tryd.func4, Tryd.ntmps4
  go_wp2_with fail
  refine HTK.out.mono ?_
  rintro e w3 ⟨q, cq, l, a, er, rfl, htk, hown, hb3⟩
  have HT := Lib.hid htk
  have HO := Lib.hid (own_tks hown)
  have HB3 := Lib.hid (HB2.out.trans (hb3.mono HB2.out.size))
  obtain ⟨L, hL⟩ : ∃ L, L = l.length := ⟨_, rfl⟩
  have HLL := Lib.hid hL
  rw [← hL]
  clear htk hown hb3 HTK hL hconv
  go_wp2_with fail
  refine (lexplain_any S _ (by omega)).mono ?_
  rintro e w4 ⟨rfl, hb4⟩
  have HB4 := Lib.hid (HB3.out.trans (hb4.mono HB3.out.size))
  have HO4 := Lib.hid (HO.out.later hb4)
  clear hb4 HO
  cases hp : plainB S.data.toList with
  | true =>
    have hal := plain_alone hp
    obtain ⟨hl, ha, her⟩ := HT.out.uniq hal
    have HP := Lib.hid hp
    clear hp hal ha
    subst hl her
    have hL1 : L = 1 := HLL.out
    subst hL1
    go_wp2_with fail
    refine (refplain_any S _ (by omega)).mono ?_
    rintro e w5 ⟨rfl, hb5⟩
    rw [HP.out]
    have HB5 := Lib.hid (HB4.out.trans (hb5.mono HB4.out.size))
    have HO5 := Lib.hid (HO4.out.later hb5)
    clear hb5 HO4
    go_wp2_with fail
    refine (lexplain_any S _ (by omega)).mono ?_
    rintro e w6 ⟨rfl, hb6⟩
    rw [HP.out]
    have HB6 := Lib.hid (HB5.out.trans (hb6.mono HB5.out.size))
    obtain ⟨b, off, rfl, x0, x1, x2⟩ := (HO5.out.later hb6) 0 (by simp)
    have y0 : w6.cell? ⟨b, off, none⟩ = some (.int .u8 3) := x0
    have y1 : w6.cell? ⟨b, off + 1, none⟩ = some (.string S) := by
      have h : (⟨S.data.toList.toArray⟩ : ByteArray) = S := mk_toList S
      rw [← h]; exact x1
    have y2 : w6.cell? ⟨b, off + 2, none⟩ = some (.int .i64 0) := x2
    clear hb6 HO5 x0 x1 x2
    go_wp2_with fail
    refine (known_any _).mono ?_
    rintro e w7 ⟨rfl, hb7⟩
    have HB7 := Lib.hid (HB6.out.trans (hb7.mono HB6.out.size))
    clear hb7
    go_wp2_with fail
    go_ret
    exact ⟨rfl, HB7.out⟩
  | false =>
    have HP := Lib.hid hp
    clear hp
    go_wp2_with fail
    refine (refplain_any S _ (by omega)).mono ?_
    rintro e w5 ⟨rfl, hb5⟩
    rw [HP.out]
    have HB5 := Lib.hid (HB4.out.trans (hb5.mono HB4.out.size))
    clear hb5 HO4
    go_wp2_with fail
    refine (lexplain_any S _ (by omega)).mono ?_
    rintro e w6 ⟨rfl, hb6⟩
    rw [HP.out]
    have HB6 := Lib.hid (HB5.out.trans (hb6.mono HB5.out.size))
    clear hb6
    go_wp2_with fail
    refine (known_any _).mono ?_
    rintro e w7 ⟨rfl, hb7⟩
    have HB7 := Lib.hid (HB6.out.trans (hb7.mono HB6.out.size))
    clear hb7
    go_wp2_with fail
    go_ret
    exact ⟨rfl, HB7.out⟩
theorem plain_any_law (S : ByteArray) (W : World) (hm : S.size ≤ 9223372036854775807) : Calls Tryd.prog 4 #[.string S] W fun e w' => e = .returned (.bool true) ∧ Below W.heap.size W w' := by
  by_cases h : S.size ≤ 20000
  · exact plain_law S W h
  · exact plain_great S W (by omega) hm
end Go.Proofs.YtlifankiljbdjaaDoor
