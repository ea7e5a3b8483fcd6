/- The document's text of a leaf. -/
import Derived.Test.YtlifankiljbdjaaDoorJU1
import Derived.Test.YtlifankiljbdjaaDoorJR
namespace Go.Proofs.YtlifankiljbdjaaDoor
open Go Go.RowKit

/-- a leaf's text, and whether it is one. -/
def TokenE (k : Int) (s : ByteArray) (W : World) (e : Ending) (w' : World) : Prop := ∃ (X : ByteArray) (b : Bool), e = .returned (.tuple #[.string X, .bool b]) ∧ b = readB k s ∧ (b = true → X.data.toList = rendL k.toNat s.data.toList) ∧ X.size ≤ 200000 ∧ Below W.heap.size W w'
theorem readB_nat (k : Nat) (s : ByteArray) (h : 3 ≤ k) : readB (k : Int) s = gdB k s.data.toList := by
  rw [readB_gd, Int.toNat_natCast, show decide ((3 : Int) ≤ (k : Int)) = true by simp; omega, Bool.and_true]
theorem rend_size {X : ByteArray} {K : Nat} {s : ByteArray} (h : X.data.toList = rendL K s.data.toList) (hs : s.size ≤ 65536) : X.size ≤ 200000 := by
  have h1 := rend_len K s.data.toList
  have h2 : s.data.toList.length = s.size := by simp
  have h3 : X.data.toList.length = X.size := by simp
  rw [h] at h3
  omega
theorem cat3 (s : ByteArray) (h : plainB s.data.toList = false) : ((⟨#[124]⟩ : ByteArray) ++ s ++ (⟨#[124]⟩ : ByteArray)).data.toList = rendL 3 s.data.toList := by
  rw [app_data, app_data]; unfold rendL; rw [h]; rfl
theorem cat5 (Y s : ByteArray) (h : Y.data.toList = 34 :: dblL s.data.toList) : (Y ++ (⟨#[34]⟩ : ByteArray)).data.toList = rendL 5 s.data.toList := by
  rw [app_data, h]; rfl
theorem cat6 (s : ByteArray) : ((⟨#[58]⟩ : ByteArray) ++ s).data.toList = rendL 6 s.data.toList := by
  rw [app_data]; rfl
theorem cat0 (s : ByteArray) (h : plainB s.data.toList = true) : s.data.toList = rendL 3 s.data.toList := by unfold rendL; rw [h]; rfl
set_option maxRecDepth 100000 in
set_option maxHeartbeats 6400000 in
theorem token72_3 (s : ByteArray) (a : Int) (W : World) (hs : s.size ≤ 65536) : Calls Tryd.prog 72 #[.agg #[.int .u8 3, .string s, .int .i64 a]] W (TokenE 3 s W) := by
  have HBw0 := Lib.hid (below1 W (.cells #[.int .u8 3, .string s, .int .i64 a] 33))
  obtain ⟨W1, hW1⟩ : ∃ W1, W1 = W.alloc (.cells #[.int .u8 3, .string s, .int .i64 a] 33) := ⟨_, rfl⟩
  have c0 : W1.cell? ⟨W.heap.size, 0, none⟩ = some (.int .u8 3) := by rw [hW1]; simp [go_sem]
  have c1 : W1.cell? ⟨W.heap.size, 1, none⟩ = some (.string s) := by rw [hW1]; simp [go_sem]
  have HBw := Lib.hid (show Below W.heap.size W W1 by rw [hW1]; exact below1 _ _)
  have HW1 := Lib.hid hW1
  clear hW1
  cases hp : plainB s.data.toList with
  | true =>
    have HP := Lib.hid hp
    clear hp
    go_enter Tryd.func72, Tryd.ntmps72
    go_wp2_with fail
    rw [← HW1.out]
    refine (refplain_any s W1 (by omega)).mono ?_
    rintro e w1 ⟨rfl, hb⟩
    rw [HP.out]
    have d0 := cell_later hb c0
    have d1 := cell_later hb c1
    replace HBw := Lib.hid (HBw.out.trans (hb.mono HBw.out.size))
    clear hb c0 c1 HW1 HBw0
    obtain ⟨cap, w2, hcv, hcap, hb2, hby, hsz2⟩ := conv_bytes w1 (s)
    have hzz : ∀ Z : ByteArray, Z.data.toList.length = Z.size := fun Z => by simp
    have hXl : (rendL 3 s.data.toList).length = (s).size := by rw [← cat0 s HP.out]; exact hzz _
    have hXs : (rendL 3 s.data.toList).length ≤ 200000 := by have h1 := rend_len 3 s.data.toList; have h2 : s.data.toList.length = s.size := (by simp); omega
    rw [cat0 s HP.out] at hby
    have hct := reftokens_any (some ⟨(World.heap w1).size, 0, none⟩) cap (rendL 3 s.data.toList) w2 hby (by omega) (by omega)
    rw [hXl] at hct
    skip
    skip
    try simp only [World.size_alloc] at hcv hct
    have HCT := Lib.hid hct
    have y0 := cell_later hb2 d0
    have y1 := cell_later hb2 d1
    have HB2 := Lib.hid (HBw.out.trans (hb2.mono HBw.out.size))
    clear hcap hb2 hby hsz2 hXl hXs hct d0 d1 hzz
    go_wp2_with fail
    refine HCT.out.mono ?_
    rintro e w3 ⟨p, c, l, A, er, rfl, htk, hown, hb3⟩
    have z0 := cell_later hb3 y0
    have z1 := cell_later hb3 y1
    have HB3 := Lib.hid (HB2.out.trans (hb3.mono HB2.out.size))
    clear hb3 HCT y0 y1
    have hiff := reads_iff htk
    have hlb := own_tks hown
    by_cases her : er = 0
    case neg =>
      have q1 : ((er : Int) == 0) = false := by simp; omega
      have hR : gdB 3 s.data.toList = false := by rw [Bool.eq_false_iff]; intro h; exact her (hiff.2 (gdB_iff.1 h)).1
      have HR := Lib.hid hR
      clear hiff hlb htk hown hR her
      go_wp2_with fail
      go_quiet (fail)
      go_wp2_with fail
      go_ret2
      exact ⟨_, false, rfl, (by rw [show readB (3 : Int) s = _ from readB_nat 3 s (by decide), HR.out]), (fun _ => cat0 s HP.out), rend_size (cat0 s HP.out) hs, bdd HB3.out⟩
    subst her
    by_cases hle : l.length = 1
    case neg =>
      have q2 : ((l.length : Int) == 1) = false := by simp; omega
      have hR : gdB 3 s.data.toList = false := by rw [Bool.eq_false_iff]; intro h; obtain ⟨p0, h2⟩ := (hiff.2 (gdB_iff.1 h)).2; rw [h2] at hle; exact hle rfl
      have HR := Lib.hid hR
      generalize l.length = n3 at *
      clear hiff hlb htk hown hR hle
      go_wp2_with fail
      go_quiet (fail)
      go_wp2_with fail
      go_ret2
      exact ⟨_, false, rfl, (by rw [show readB (3 : Int) s = _ from readB_nat 3 s (by decide), HR.out]), (fun _ => cat0 s HP.out), rend_size (cat0 s HP.out) hs, bdd HB3.out⟩
    obtain ⟨⟨kk, t, pp⟩, rfl⟩ : ∃ x, l = [x] := by match l, hle with | [x], _ => exact ⟨x, rfl⟩
    obtain ⟨b3, off3, rfl, x0, x1, x2⟩ := hlb 0 (by simp)
    simp only [List.getElem_cons_zero, Nat.zero_mul, Nat.add_zero] at x0 x1 x2
    have hl1 : ([(⟨kk, t, pp⟩ : Tk)] : List Tk).length = 1 := rfl
    rw [hl1]
    by_cases hkk : kk = 3
    case neg =>
      have q3 : ((kk : Int) == (3 : Int)) = false := by simp; omega
      have hR : gdB 3 s.data.toList = false := by rw [Bool.eq_false_iff]; intro h; obtain ⟨p0, h2⟩ := (hiff.2 (gdB_iff.1 h)).2; injection h2 with h2 _; injection h2 with h2 _ _; exact hkk h2
      have HR := Lib.hid hR
      clear hiff hlb htk hown hR hkk hle hl1
      go_wp2_with fail
      go_quiet (fail)
      go_wp2_with fail
      go_ret2
      exact ⟨_, false, rfl, (by rw [show readB (3 : Int) s = _ from readB_nat 3 s (by decide), HR.out]), (fun _ => cat0 s HP.out), rend_size (cat0 s HP.out) hs, bdd HB3.out⟩
    subst hkk
    by_cases htt : t = s.data.toList
    case neg =>
      have hR : gdB 3 s.data.toList = false := by rw [Bool.eq_false_iff]; intro h; obtain ⟨p0, h2⟩ := (hiff.2 (gdB_iff.1 h)).2; injection h2 with h2 _; injection h2 with _ h2 _; exact htt h2
      have q4 : ¬ (⟨t.toArray⟩ : ByteArray).toList = s.toList := fun h => htt (by have h2 := toList_byte h; rw [← h2])
      have q5 : ((⟨t.toArray⟩ : ByteArray).toList == s.toList) = false := by simpa using q4
      generalize (⟨t.toArray⟩ : ByteArray) = T at *
      have HR := Lib.hid hR
      clear hiff hlb htk hown hR htt hle hl1
      go_wp2_with fail
      go_quiet (fail)
      go_wp2_with fail
      go_ret2
      exact ⟨_, false, rfl, (by rw [show readB (3 : Int) s = _ from readB_nat 3 s (by decide), HR.out]), (fun _ => cat0 s HP.out), rend_size (cat0 s HP.out) hs, bdd HB3.out⟩
    have hR : gdB 3 s.data.toList = true := gdB_iff.2 (hiff.1 ⟨rfl, pp, by rw [htt]⟩)
    rw [htt, mk_text] at x1
    have HR := Lib.hid hR
    clear hiff hlb htk hown hR htt hle hl1
    go_wp2_with fail
    go_quiet (fail)
    go_wp2_with fail
    go_ret2
    exact ⟨_, true, rfl, (by rw [show readB (3 : Int) s = _ from readB_nat 3 s (by decide), HR.out]), (fun _ => cat0 s HP.out), rend_size (cat0 s HP.out) hs, bdd HB3.out⟩
  | false =>
    have HP := Lib.hid hp
    clear hp
    go_enter Tryd.func72, Tryd.ntmps72
    go_wp2_with fail
    rw [← HW1.out]
    refine (refplain_any s W1 (by omega)).mono ?_
    rintro e w1 ⟨rfl, hb⟩
    rw [HP.out]
    have d0 := cell_later hb c0
    have d1 := cell_later hb c1
    replace HBw := Lib.hid (HBw.out.trans (hb.mono HBw.out.size))
    clear hb c0 c1 HW1 HBw0
    obtain ⟨cap, w2, hcv, hcap, hb2, hby, hsz2⟩ := conv_bytes w1 ((⟨#[124]⟩ : ByteArray) ++ s ++ (⟨#[124]⟩ : ByteArray))
    have hzz : ∀ Z : ByteArray, Z.data.toList.length = Z.size := fun Z => by simp
    have hXl : (rendL 3 s.data.toList).length = ((⟨#[124]⟩ : ByteArray) ++ s ++ (⟨#[124]⟩ : ByteArray)).size := by rw [← cat3 s HP.out]; exact hzz _
    have hXs : (rendL 3 s.data.toList).length ≤ 200000 := by have h1 := rend_len 3 s.data.toList; have h2 : s.data.toList.length = s.size := (by simp); omega
    rw [cat3 s HP.out] at hby
    have hct := reftokens_any (some ⟨(World.heap w1).size, 0, none⟩) cap (rendL 3 s.data.toList) w2 hby (by omega) (by omega)
    rw [hXl] at hct
    have hsze : ((⟨#[124]⟩ : ByteArray) ++ s ++ (⟨#[124]⟩ : ByteArray)).size = 1 + s.size + 1 := by first | rfl | (rw [ByteArray.size_append, ByteArray.size_append]; rfl) | (rw [ByteArray.size_append]; rfl)
    rw [hsze] at hct
    try simp only [World.size_alloc] at hcv hct
    have HCT := Lib.hid hct
    have y0 := cell_later hb2 d0
    have y1 := cell_later hb2 d1
    have HB2 := Lib.hid (HBw.out.trans (hb2.mono HBw.out.size))
    clear hcap hb2 hby hsz2 hXl hXs hct d0 d1 hzz hsze
    go_wp2_with fail
    refine HCT.out.mono ?_
    rintro e w3 ⟨p, c, l, A, er, rfl, htk, hown, hb3⟩
    have z0 := cell_later hb3 y0
    have z1 := cell_later hb3 y1
    have HB3 := Lib.hid (HB2.out.trans (hb3.mono HB2.out.size))
    clear hb3 HCT y0 y1
    have hiff := reads_iff htk
    have hlb := own_tks hown
    by_cases her : er = 0
    case neg =>
      have q1 : ((er : Int) == 0) = false := by simp; omega
      have hR : gdB 3 s.data.toList = false := by rw [Bool.eq_false_iff]; intro h; exact her (hiff.2 (gdB_iff.1 h)).1
      have HR := Lib.hid hR
      clear hiff hlb htk hown hR her
      go_wp2_with fail
      go_quiet (fail)
      go_wp2_with fail
      go_ret2
      exact ⟨_, false, rfl, (by rw [show readB (3 : Int) s = _ from readB_nat 3 s (by decide), HR.out]), (fun _ => cat3 s HP.out), rend_size (cat3 s HP.out) hs, bdd HB3.out⟩
    subst her
    by_cases hle : l.length = 1
    case neg =>
      have q2 : ((l.length : Int) == 1) = false := by simp; omega
      have hR : gdB 3 s.data.toList = false := by rw [Bool.eq_false_iff]; intro h; obtain ⟨p0, h2⟩ := (hiff.2 (gdB_iff.1 h)).2; rw [h2] at hle; exact hle rfl
      have HR := Lib.hid hR
      generalize l.length = n3 at *
      clear hiff hlb htk hown hR hle
      go_wp2_with fail
      go_quiet (fail)
      go_wp2_with fail
      go_ret2
      exact ⟨_, false, rfl, (by rw [show readB (3 : Int) s = _ from readB_nat 3 s (by decide), HR.out]), (fun _ => cat3 s HP.out), rend_size (cat3 s HP.out) hs, bdd HB3.out⟩
    obtain ⟨⟨kk, t, pp⟩, rfl⟩ : ∃ x, l = [x] := by match l, hle with | [x], _ => exact ⟨x, rfl⟩
    obtain ⟨b3, off3, rfl, x0, x1, x2⟩ := hlb 0 (by simp)
    simp only [List.getElem_cons_zero, Nat.zero_mul, Nat.add_zero] at x0 x1 x2
    have hl1 : ([(⟨kk, t, pp⟩ : Tk)] : List Tk).length = 1 := rfl
    rw [hl1]
    by_cases hkk : kk = 3
    case neg =>
      have q3 : ((kk : Int) == (3 : Int)) = false := by simp; omega
      have hR : gdB 3 s.data.toList = false := by rw [Bool.eq_false_iff]; intro h; obtain ⟨p0, h2⟩ := (hiff.2 (gdB_iff.1 h)).2; injection h2 with h2 _; injection h2 with h2 _ _; exact hkk h2
      have HR := Lib.hid hR
      clear hiff hlb htk hown hR hkk hle hl1
      go_wp2_with fail
      go_quiet (fail)
      go_wp2_with fail
      go_ret2
      exact ⟨_, false, rfl, (by rw [show readB (3 : Int) s = _ from readB_nat 3 s (by decide), HR.out]), (fun _ => cat3 s HP.out), rend_size (cat3 s HP.out) hs, bdd HB3.out⟩
    subst hkk
    by_cases htt : t = s.data.toList
    case neg =>
      have hR : gdB 3 s.data.toList = false := by rw [Bool.eq_false_iff]; intro h; obtain ⟨p0, h2⟩ := (hiff.2 (gdB_iff.1 h)).2; injection h2 with h2 _; injection h2 with _ h2 _; exact htt h2
      have q4 : ¬ (⟨t.toArray⟩ : ByteArray).toList = s.toList := fun h => htt (by have h2 := toList_byte h; rw [← h2])
      have q5 : ((⟨t.toArray⟩ : ByteArray).toList == s.toList) = false := by simpa using q4
      generalize (⟨t.toArray⟩ : ByteArray) = T at *
      have HR := Lib.hid hR
      clear hiff hlb htk hown hR htt hle hl1
      go_wp2_with fail
      go_quiet (fail)
      go_wp2_with fail
      go_ret2
      exact ⟨_, false, rfl, (by rw [show readB (3 : Int) s = _ from readB_nat 3 s (by decide), HR.out]), (fun _ => cat3 s HP.out), rend_size (cat3 s HP.out) hs, bdd HB3.out⟩
    have hR : gdB 3 s.data.toList = true := gdB_iff.2 (hiff.1 ⟨rfl, pp, by rw [htt]⟩)
    rw [htt, mk_text] at x1
    have HR := Lib.hid hR
    clear hiff hlb htk hown hR htt hle hl1
    go_wp2_with fail
    go_quiet (fail)
    go_wp2_with fail
    go_ret2
    exact ⟨_, true, rfl, (by rw [show readB (3 : Int) s = _ from readB_nat 3 s (by decide), HR.out]), (fun _ => cat3 s HP.out), rend_size (cat3 s HP.out) hs, bdd HB3.out⟩
set_option maxRecDepth 100000 in
set_option maxHeartbeats 6400000 in
theorem token72_4 (s : ByteArray) (a : Int) (W : World) (hs : s.size ≤ 65536) : Calls Tryd.prog 72 #[.agg #[.int .u8 4, .string s, .int .i64 a]] W (TokenE 4 s W) := by
  have HBw0 := Lib.hid (below1 W (.cells #[.int .u8 4, .string s, .int .i64 a] 33))
  obtain ⟨W1, hW1⟩ : ∃ W1, W1 = W.alloc (.cells #[.int .u8 4, .string s, .int .i64 a] 33) := ⟨_, rfl⟩
  have c0 : W1.cell? ⟨W.heap.size, 0, none⟩ = some (.int .u8 4) := by rw [hW1]; simp [go_sem]
  have c1 : W1.cell? ⟨W.heap.size, 1, none⟩ = some (.string s) := by rw [hW1]; simp [go_sem]
  have HBw := Lib.hid (show Below W.heap.size W W1 by rw [hW1]; exact below1 _ _)
  have HW1 := Lib.hid hW1
  clear hW1
  have d0 := c0
  have d1 := c1
  clear c0 c1 HBw0
  obtain rfl := HW1.out
  obtain ⟨cap, w2, hcv, hcap, hb2, hby, hsz2⟩ := conv_bytes (W.alloc (.cells #[.int .u8 4, .string s, .int .i64 a] 33)) (s)
  have hzz : ∀ Z : ByteArray, Z.data.toList.length = Z.size := fun Z => by simp
  have hXl : (rendL 4 s.data.toList).length = (s).size := by rw [← show s.data.toList = rendL 4 s.data.toList from rfl]; exact hzz _
  have hXs : (rendL 4 s.data.toList).length ≤ 200000 := by have h1 := rend_len 4 s.data.toList; have h2 : s.data.toList.length = s.size := (by simp); omega
  rw [show s.data.toList = rendL 4 s.data.toList from rfl] at hby
  have hct := reftokens_any (some ⟨(World.heap (W.alloc (.cells #[.int .u8 4, .string s, .int .i64 a] 33))).size, 0, none⟩) cap (rendL 4 s.data.toList) w2 hby (by omega) (by omega)
  rw [hXl] at hct
  skip
  skip
  try simp only [World.size_alloc] at hcv hct
  have HCT := Lib.hid hct
  have y0 := cell_later hb2 d0
  have y1 := cell_later hb2 d1
  have HB2 := Lib.hid (HBw.out.trans (hb2.mono HBw.out.size))
  clear hcap hb2 hby hsz2 hXl hXs hct d0 d1 hzz
  go_enter Tryd.func72, Tryd.ntmps72
  go_wp2_with fail
  refine HCT.out.mono ?_
  rintro e w3 ⟨p, c, l, A, er, rfl, htk, hown, hb3⟩
  have z0 := cell_later hb3 y0
  have z1 := cell_later hb3 y1
  have HB3 := Lib.hid (HB2.out.trans (hb3.mono HB2.out.size))
  clear hb3 HCT y0 y1
  have hiff := reads_iff htk
  have hlb := own_tks hown
  by_cases her : er = 0
  case neg =>
    have q1 : ((er : Int) == 0) = false := by simp; omega
    have hR : gdB 4 s.data.toList = false := by rw [Bool.eq_false_iff]; intro h; exact her (hiff.2 (gdB_iff.1 h)).1
    have HR := Lib.hid hR
    clear hiff hlb htk hown hR her
    go_wp2_with fail
    go_quiet (fail)
    go_wp2_with fail
    go_ret2
    exact ⟨_, false, rfl, (by rw [show readB (4 : Int) s = _ from readB_nat 4 s (by decide), HR.out]), (fun _ => show s.data.toList = rendL 4 s.data.toList from rfl), rend_size (show s.data.toList = rendL 4 s.data.toList from rfl) hs, bdd HB3.out⟩
  subst her
  by_cases hle : l.length = 1
  case neg =>
    have q2 : ((l.length : Int) == 1) = false := by simp; omega
    have hR : gdB 4 s.data.toList = false := by rw [Bool.eq_false_iff]; intro h; obtain ⟨p0, h2⟩ := (hiff.2 (gdB_iff.1 h)).2; rw [h2] at hle; exact hle rfl
    have HR := Lib.hid hR
    generalize l.length = n3 at *
    clear hiff hlb htk hown hR hle
    go_wp2_with fail
    go_quiet (fail)
    go_wp2_with fail
    go_ret2
    exact ⟨_, false, rfl, (by rw [show readB (4 : Int) s = _ from readB_nat 4 s (by decide), HR.out]), (fun _ => show s.data.toList = rendL 4 s.data.toList from rfl), rend_size (show s.data.toList = rendL 4 s.data.toList from rfl) hs, bdd HB3.out⟩
  obtain ⟨⟨kk, t, pp⟩, rfl⟩ : ∃ x, l = [x] := by match l, hle with | [x], _ => exact ⟨x, rfl⟩
  obtain ⟨b3, off3, rfl, x0, x1, x2⟩ := hlb 0 (by simp)
  simp only [List.getElem_cons_zero, Nat.zero_mul, Nat.add_zero] at x0 x1 x2
  have hl1 : ([(⟨kk, t, pp⟩ : Tk)] : List Tk).length = 1 := rfl
  rw [hl1]
  by_cases hkk : kk = 4
  case neg =>
    have q3 : ((kk : Int) == (4 : Int)) = false := by simp; omega
    have hR : gdB 4 s.data.toList = false := by rw [Bool.eq_false_iff]; intro h; obtain ⟨p0, h2⟩ := (hiff.2 (gdB_iff.1 h)).2; injection h2 with h2 _; injection h2 with h2 _ _; exact hkk h2
    have HR := Lib.hid hR
    clear hiff hlb htk hown hR hkk hle hl1
    go_wp2_with fail
    go_quiet (fail)
    go_wp2_with fail
    go_ret2
    exact ⟨_, false, rfl, (by rw [show readB (4 : Int) s = _ from readB_nat 4 s (by decide), HR.out]), (fun _ => show s.data.toList = rendL 4 s.data.toList from rfl), rend_size (show s.data.toList = rendL 4 s.data.toList from rfl) hs, bdd HB3.out⟩
  subst hkk
  by_cases htt : t = s.data.toList
  case neg =>
    have hR : gdB 4 s.data.toList = false := by rw [Bool.eq_false_iff]; intro h; obtain ⟨p0, h2⟩ := (hiff.2 (gdB_iff.1 h)).2; injection h2 with h2 _; injection h2 with _ h2 _; exact htt h2
    have q4 : ¬ (⟨t.toArray⟩ : ByteArray).toList = s.toList := fun h => htt (by have h2 := toList_byte h; rw [← h2])
    have q5 : ((⟨t.toArray⟩ : ByteArray).toList == s.toList) = false := by simpa using q4
    generalize (⟨t.toArray⟩ : ByteArray) = T at *
    have HR := Lib.hid hR
    clear hiff hlb htk hown hR htt hle hl1
    go_wp2_with fail
    go_quiet (fail)
    go_wp2_with fail
    go_ret2
    exact ⟨_, false, rfl, (by rw [show readB (4 : Int) s = _ from readB_nat 4 s (by decide), HR.out]), (fun _ => show s.data.toList = rendL 4 s.data.toList from rfl), rend_size (show s.data.toList = rendL 4 s.data.toList from rfl) hs, bdd HB3.out⟩
  have hR : gdB 4 s.data.toList = true := gdB_iff.2 (hiff.1 ⟨rfl, pp, by rw [htt]⟩)
  rw [htt, mk_text] at x1
  have HR := Lib.hid hR
  clear hiff hlb htk hown hR htt hle hl1
  go_wp2_with fail
  go_quiet (fail)
  go_wp2_with fail
  go_ret2
  exact ⟨_, true, rfl, (by rw [show readB (4 : Int) s = _ from readB_nat 4 s (by decide), HR.out]), (fun _ => show s.data.toList = rendL 4 s.data.toList from rfl), rend_size (show s.data.toList = rendL 4 s.data.toList from rfl) hs, bdd HB3.out⟩
set_option maxRecDepth 100000 in
set_option maxHeartbeats 6400000 in
theorem token72_7 (s : ByteArray) (a : Int) (W : World) (hs : s.size ≤ 65536) : Calls Tryd.prog 72 #[.agg #[.int .u8 7, .string s, .int .i64 a]] W (TokenE 7 s W) := by
  have HBw0 := Lib.hid (below1 W (.cells #[.int .u8 7, .string s, .int .i64 a] 33))
  obtain ⟨W1, hW1⟩ : ∃ W1, W1 = W.alloc (.cells #[.int .u8 7, .string s, .int .i64 a] 33) := ⟨_, rfl⟩
  have c0 : W1.cell? ⟨W.heap.size, 0, none⟩ = some (.int .u8 7) := by rw [hW1]; simp [go_sem]
  have c1 : W1.cell? ⟨W.heap.size, 1, none⟩ = some (.string s) := by rw [hW1]; simp [go_sem]
  have HBw := Lib.hid (show Below W.heap.size W W1 by rw [hW1]; exact below1 _ _)
  have HW1 := Lib.hid hW1
  clear hW1
  have d0 := c0
  have d1 := c1
  clear c0 c1 HBw0
  obtain rfl := HW1.out
  obtain ⟨cap, w2, hcv, hcap, hb2, hby, hsz2⟩ := conv_bytes (W.alloc (.cells #[.int .u8 7, .string s, .int .i64 a] 33)) (s)
  have hzz : ∀ Z : ByteArray, Z.data.toList.length = Z.size := fun Z => by simp
  have hXl : (rendL 7 s.data.toList).length = (s).size := by rw [← show s.data.toList = rendL 7 s.data.toList from rfl]; exact hzz _
  have hXs : (rendL 7 s.data.toList).length ≤ 200000 := by have h1 := rend_len 7 s.data.toList; have h2 : s.data.toList.length = s.size := (by simp); omega
  rw [show s.data.toList = rendL 7 s.data.toList from rfl] at hby
  have hct := reftokens_any (some ⟨(World.heap (W.alloc (.cells #[.int .u8 7, .string s, .int .i64 a] 33))).size, 0, none⟩) cap (rendL 7 s.data.toList) w2 hby (by omega) (by omega)
  rw [hXl] at hct
  skip
  skip
  try simp only [World.size_alloc] at hcv hct
  have HCT := Lib.hid hct
  have y0 := cell_later hb2 d0
  have y1 := cell_later hb2 d1
  have HB2 := Lib.hid (HBw.out.trans (hb2.mono HBw.out.size))
  clear hcap hb2 hby hsz2 hXl hXs hct d0 d1 hzz
  go_enter Tryd.func72, Tryd.ntmps72
  go_wp2_with fail
  refine HCT.out.mono ?_
  rintro e w3 ⟨p, c, l, A, er, rfl, htk, hown, hb3⟩
  have z0 := cell_later hb3 y0
  have z1 := cell_later hb3 y1
  have HB3 := Lib.hid (HB2.out.trans (hb3.mono HB2.out.size))
  clear hb3 HCT y0 y1
  have hiff := reads_iff htk
  have hlb := own_tks hown
  by_cases her : er = 0
  case neg =>
    have q1 : ((er : Int) == 0) = false := by simp; omega
    have hR : gdB 7 s.data.toList = false := by rw [Bool.eq_false_iff]; intro h; exact her (hiff.2 (gdB_iff.1 h)).1
    have HR := Lib.hid hR
    clear hiff hlb htk hown hR her
    go_wp2_with fail
    go_quiet (fail)
    go_wp2_with fail
    go_ret2
    exact ⟨_, false, rfl, (by rw [show readB (7 : Int) s = _ from readB_nat 7 s (by decide), HR.out]), (fun _ => show s.data.toList = rendL 7 s.data.toList from rfl), rend_size (show s.data.toList = rendL 7 s.data.toList from rfl) hs, bdd HB3.out⟩
  subst her
  by_cases hle : l.length = 1
  case neg =>
    have q2 : ((l.length : Int) == 1) = false := by simp; omega
    have hR : gdB 7 s.data.toList = false := by rw [Bool.eq_false_iff]; intro h; obtain ⟨p0, h2⟩ := (hiff.2 (gdB_iff.1 h)).2; rw [h2] at hle; exact hle rfl
    have HR := Lib.hid hR
    generalize l.length = n3 at *
    clear hiff hlb htk hown hR hle
    go_wp2_with fail
    go_quiet (fail)
    go_wp2_with fail
    go_ret2
    exact ⟨_, false, rfl, (by rw [show readB (7 : Int) s = _ from readB_nat 7 s (by decide), HR.out]), (fun _ => show s.data.toList = rendL 7 s.data.toList from rfl), rend_size (show s.data.toList = rendL 7 s.data.toList from rfl) hs, bdd HB3.out⟩
  obtain ⟨⟨kk, t, pp⟩, rfl⟩ : ∃ x, l = [x] := by match l, hle with | [x], _ => exact ⟨x, rfl⟩
  obtain ⟨b3, off3, rfl, x0, x1, x2⟩ := hlb 0 (by simp)
  simp only [List.getElem_cons_zero, Nat.zero_mul, Nat.add_zero] at x0 x1 x2
  have hl1 : ([(⟨kk, t, pp⟩ : Tk)] : List Tk).length = 1 := rfl
  rw [hl1]
  by_cases hkk : kk = 7
  case neg =>
    have q3 : ((kk : Int) == (7 : Int)) = false := by simp; omega
    have hR : gdB 7 s.data.toList = false := by rw [Bool.eq_false_iff]; intro h; obtain ⟨p0, h2⟩ := (hiff.2 (gdB_iff.1 h)).2; injection h2 with h2 _; injection h2 with h2 _ _; exact hkk h2
    have HR := Lib.hid hR
    clear hiff hlb htk hown hR hkk hle hl1
    go_wp2_with fail
    go_quiet (fail)
    go_wp2_with fail
    go_ret2
    exact ⟨_, false, rfl, (by rw [show readB (7 : Int) s = _ from readB_nat 7 s (by decide), HR.out]), (fun _ => show s.data.toList = rendL 7 s.data.toList from rfl), rend_size (show s.data.toList = rendL 7 s.data.toList from rfl) hs, bdd HB3.out⟩
  subst hkk
  by_cases htt : t = s.data.toList
  case neg =>
    have hR : gdB 7 s.data.toList = false := by rw [Bool.eq_false_iff]; intro h; obtain ⟨p0, h2⟩ := (hiff.2 (gdB_iff.1 h)).2; injection h2 with h2 _; injection h2 with _ h2 _; exact htt h2
    have q4 : ¬ (⟨t.toArray⟩ : ByteArray).toList = s.toList := fun h => htt (by have h2 := toList_byte h; rw [← h2])
    have q5 : ((⟨t.toArray⟩ : ByteArray).toList == s.toList) = false := by simpa using q4
    generalize (⟨t.toArray⟩ : ByteArray) = T at *
    have HR := Lib.hid hR
    clear hiff hlb htk hown hR htt hle hl1
    go_wp2_with fail
    go_quiet (fail)
    go_wp2_with fail
    go_ret2
    exact ⟨_, false, rfl, (by rw [show readB (7 : Int) s = _ from readB_nat 7 s (by decide), HR.out]), (fun _ => show s.data.toList = rendL 7 s.data.toList from rfl), rend_size (show s.data.toList = rendL 7 s.data.toList from rfl) hs, bdd HB3.out⟩
  have hR : gdB 7 s.data.toList = true := gdB_iff.2 (hiff.1 ⟨rfl, pp, by rw [htt]⟩)
  rw [htt, mk_text] at x1
  have HR := Lib.hid hR
  clear hiff hlb htk hown hR htt hle hl1
  go_wp2_with fail
  go_quiet (fail)
  go_wp2_with fail
  go_ret2
  exact ⟨_, true, rfl, (by rw [show readB (7 : Int) s = _ from readB_nat 7 s (by decide), HR.out]), (fun _ => show s.data.toList = rendL 7 s.data.toList from rfl), rend_size (show s.data.toList = rendL 7 s.data.toList from rfl) hs, bdd HB3.out⟩
set_option maxRecDepth 100000 in
set_option maxHeartbeats 6400000 in
theorem token72_6 (s : ByteArray) (a : Int) (W : World) (hs : s.size ≤ 65536) : Calls Tryd.prog 72 #[.agg #[.int .u8 6, .string s, .int .i64 a]] W (TokenE 6 s W) := by
  have HBw0 := Lib.hid (below1 W (.cells #[.int .u8 6, .string s, .int .i64 a] 33))
  obtain ⟨W1, hW1⟩ : ∃ W1, W1 = W.alloc (.cells #[.int .u8 6, .string s, .int .i64 a] 33) := ⟨_, rfl⟩
  have c0 : W1.cell? ⟨W.heap.size, 0, none⟩ = some (.int .u8 6) := by rw [hW1]; simp [go_sem]
  have c1 : W1.cell? ⟨W.heap.size, 1, none⟩ = some (.string s) := by rw [hW1]; simp [go_sem]
  have HBw := Lib.hid (show Below W.heap.size W W1 by rw [hW1]; exact below1 _ _)
  have HW1 := Lib.hid hW1
  clear hW1
  have d0 := c0
  have d1 := c1
  clear c0 c1 HBw0
  obtain rfl := HW1.out
  obtain ⟨cap, w2, hcv, hcap, hb2, hby, hsz2⟩ := conv_bytes (W.alloc (.cells #[.int .u8 6, .string s, .int .i64 a] 33)) ((⟨#[58]⟩ : ByteArray) ++ s)
  have hzz : ∀ Z : ByteArray, Z.data.toList.length = Z.size := fun Z => by simp
  have hXl : (rendL 6 s.data.toList).length = ((⟨#[58]⟩ : ByteArray) ++ s).size := by rw [← cat6 s]; exact hzz _
  have hXs : (rendL 6 s.data.toList).length ≤ 200000 := by have h1 := rend_len 6 s.data.toList; have h2 : s.data.toList.length = s.size := (by simp); omega
  rw [cat6 s] at hby
  have hct := reftokens_any (some ⟨(World.heap (W.alloc (.cells #[.int .u8 6, .string s, .int .i64 a] 33))).size, 0, none⟩) cap (rendL 6 s.data.toList) w2 hby (by omega) (by omega)
  rw [hXl] at hct
  have hsze : ((⟨#[58]⟩ : ByteArray) ++ s).size = 1 + s.size := by first | rfl | (rw [ByteArray.size_append, ByteArray.size_append]; rfl) | (rw [ByteArray.size_append]; rfl)
  rw [hsze] at hct
  try simp only [World.size_alloc] at hcv hct
  have HCT := Lib.hid hct
  have y0 := cell_later hb2 d0
  have y1 := cell_later hb2 d1
  have HB2 := Lib.hid (HBw.out.trans (hb2.mono HBw.out.size))
  clear hcap hb2 hby hsz2 hXl hXs hct d0 d1 hzz hsze
  go_enter Tryd.func72, Tryd.ntmps72
  go_wp2_with fail
  refine HCT.out.mono ?_
  rintro e w3 ⟨p, c, l, A, er, rfl, htk, hown, hb3⟩
  have z0 := cell_later hb3 y0
  have z1 := cell_later hb3 y1
  have HB3 := Lib.hid (HB2.out.trans (hb3.mono HB2.out.size))
  clear hb3 HCT y0 y1
  have hiff := reads_iff htk
  have hlb := own_tks hown
  by_cases her : er = 0
  case neg =>
    have q1 : ((er : Int) == 0) = false := by simp; omega
    have hR : gdB 6 s.data.toList = false := by rw [Bool.eq_false_iff]; intro h; exact her (hiff.2 (gdB_iff.1 h)).1
    have HR := Lib.hid hR
    clear hiff hlb htk hown hR her
    go_wp2_with fail
    go_quiet (fail)
    go_wp2_with fail
    go_ret2
    exact ⟨_, false, rfl, (by rw [show readB (6 : Int) s = _ from readB_nat 6 s (by decide), HR.out]), (fun _ => cat6 s), rend_size (cat6 s) hs, bdd HB3.out⟩
  subst her
  by_cases hle : l.length = 1
  case neg =>
    have q2 : ((l.length : Int) == 1) = false := by simp; omega
    have hR : gdB 6 s.data.toList = false := by rw [Bool.eq_false_iff]; intro h; obtain ⟨p0, h2⟩ := (hiff.2 (gdB_iff.1 h)).2; rw [h2] at hle; exact hle rfl
    have HR := Lib.hid hR
    generalize l.length = n3 at *
    clear hiff hlb htk hown hR hle
    go_wp2_with fail
    go_quiet (fail)
    go_wp2_with fail
    go_ret2
    exact ⟨_, false, rfl, (by rw [show readB (6 : Int) s = _ from readB_nat 6 s (by decide), HR.out]), (fun _ => cat6 s), rend_size (cat6 s) hs, bdd HB3.out⟩
  obtain ⟨⟨kk, t, pp⟩, rfl⟩ : ∃ x, l = [x] := by match l, hle with | [x], _ => exact ⟨x, rfl⟩
  obtain ⟨b3, off3, rfl, x0, x1, x2⟩ := hlb 0 (by simp)
  simp only [List.getElem_cons_zero, Nat.zero_mul, Nat.add_zero] at x0 x1 x2
  have hl1 : ([(⟨kk, t, pp⟩ : Tk)] : List Tk).length = 1 := rfl
  rw [hl1]
  by_cases hkk : kk = 6
  case neg =>
    have q3 : ((kk : Int) == (6 : Int)) = false := by simp; omega
    have hR : gdB 6 s.data.toList = false := by rw [Bool.eq_false_iff]; intro h; obtain ⟨p0, h2⟩ := (hiff.2 (gdB_iff.1 h)).2; injection h2 with h2 _; injection h2 with h2 _ _; exact hkk h2
    have HR := Lib.hid hR
    clear hiff hlb htk hown hR hkk hle hl1
    go_wp2_with fail
    go_quiet (fail)
    go_wp2_with fail
    go_ret2
    exact ⟨_, false, rfl, (by rw [show readB (6 : Int) s = _ from readB_nat 6 s (by decide), HR.out]), (fun _ => cat6 s), rend_size (cat6 s) hs, bdd HB3.out⟩
  subst hkk
  by_cases htt : t = s.data.toList
  case neg =>
    have hR : gdB 6 s.data.toList = false := by rw [Bool.eq_false_iff]; intro h; obtain ⟨p0, h2⟩ := (hiff.2 (gdB_iff.1 h)).2; injection h2 with h2 _; injection h2 with _ h2 _; exact htt h2
    have q4 : ¬ (⟨t.toArray⟩ : ByteArray).toList = s.toList := fun h => htt (by have h2 := toList_byte h; rw [← h2])
    have q5 : ((⟨t.toArray⟩ : ByteArray).toList == s.toList) = false := by simpa using q4
    generalize (⟨t.toArray⟩ : ByteArray) = T at *
    have HR := Lib.hid hR
    clear hiff hlb htk hown hR htt hle hl1
    go_wp2_with fail
    go_quiet (fail)
    go_wp2_with fail
    go_ret2
    exact ⟨_, false, rfl, (by rw [show readB (6 : Int) s = _ from readB_nat 6 s (by decide), HR.out]), (fun _ => cat6 s), rend_size (cat6 s) hs, bdd HB3.out⟩
  have hR : gdB 6 s.data.toList = true := gdB_iff.2 (hiff.1 ⟨rfl, pp, by rw [htt]⟩)
  rw [htt, mk_text] at x1
  have HR := Lib.hid hR
  clear hiff hlb htk hown hR htt hle hl1
  go_wp2_with fail
  go_quiet (fail)
  go_wp2_with fail
  go_ret2
  exact ⟨_, true, rfl, (by rw [show readB (6 : Int) s = _ from readB_nat 6 s (by decide), HR.out]), (fun _ => cat6 s), rend_size (cat6 s) hs, bdd HB3.out⟩
set_option maxRecDepth 100000 in
set_option maxHeartbeats 6400000 in
theorem token72_5 (s : ByteArray) (a : Int) (W : World) (hs : s.size ≤ 65536) : Calls Tryd.prog 72 #[.agg #[.int .u8 5, .string s, .int .i64 a]] W (TokenE 5 s W) := by
  have HBw0 := Lib.hid (below1 W (.cells #[.int .u8 5, .string s, .int .i64 a] 33))
  obtain ⟨W1, hW1⟩ : ∃ W1, W1 = W.alloc (.cells #[.int .u8 5, .string s, .int .i64 a] 33) := ⟨_, rfl⟩
  have c0 : W1.cell? ⟨W.heap.size, 0, none⟩ = some (.int .u8 5) := by rw [hW1]; simp [go_sem]
  have c1 : W1.cell? ⟨W.heap.size, 1, none⟩ = some (.string s) := by rw [hW1]; simp [go_sem]
  have HBw := Lib.hid (show Below W.heap.size W W1 by rw [hW1]; exact below1 _ _)
  have HW1 := Lib.hid hW1
  clear hW1
  go_enter Tryd.func72, Tryd.ntmps72
  go_wp2_with fail
  rw [← HW1.out]
  clear HW1 HBw0
  go_loopg [5, 6] s.size (fun gk s5 s6 wx => ∃ (j : Nat) (Y : ByteArray), j + gk = s.size ∧ s5 = .string Y ∧ s6 = .int .i64 (j : Int) ∧ Hid (wx = W1 ∧ Y.data.toList = 34 :: dblL (s.data.toList.take j)))
  case atStart => exact ⟨0, ⟨#[34]⟩, by omega, rfl, rfl, Lib.hid ⟨rfl, rfl⟩⟩
  case round =>
    obtain ⟨j, Y, hj, rfl, rfl, HI⟩ := hrel
    obtain ⟨hw, hY⟩ := HI.out
    subst hw
    have HG := Lib.hid hj
    have HY := Lib.hid hY
    have hj2 : j ≤ s.size := by omega
    have hYs : Y.size ≤ 200000 := by
      have h1 : Y.data.toList.length = Y.size := by simp
      have h2 := dbl_len (s.data.toList.take j)
      have h3 : s.data.toList.length = s.size := by simp
      rw [← h1, hY, List.length_cons]
      rw [List.length_take] at h2
      omega
    clear hj hY HI
    by_cases hlt : j < s.size
    · have i0 : (0 : Int) ≤ (j : Int) := by omega
      have i1 : (j : Int) < (s.size : Int) := by omega
      have i2 : (j : Int) + 1 ≤ (s.size : Int) := by omega
      have i3 : ((j : Int) + 1).toNat = j + 1 := by omega
      have e34 : ((s[j].toNat : Int) == 34) = (s[j] == 34) := eq_u8 34 (by decide +kernel) _
      have HX := Lib.hid (ext_one hlt)
      have hts : s.data.toList.take (j + 1) = s.data.toList.take j ++ [s[j]] := by
        have := str_get' hlt
        obtain ⟨h1, h2⟩ := List.getElem?_eq_some_iff.1 this
        rw [List.take_succ_eq_append_getElem h1, h2]
      have HD := Lib.hid (show dblL (s.data.toList.take (j + 1)) = dblL (s.data.toList.take j) ++ (if s[j] == 34 then [34, 34] else [s[j]]) by rw [hts]; exact dbl_snoc _ _)
      obtain ⟨hz, hz0⟩ := byte_gt (x := s[j])
      have hXs : (s.extract j (j + 1)).size ≤ 1 := by
        have h1 : ∀ Z : ByteArray, Z.data.toList.length = Z.size := fun Z => by simp
        have h2 : (s.extract j (j + 1)).data.toList.length = 1 := by rw [HX.out]; rfl
        have h3 := h1 (s.extract j (j + 1))
        omega
      clear hts
      cases q : (s[j] == 34) with
      | true =>
        rw [q] at e34
        have HQ := Lib.hid q
        clear q
        go_wp2_with fail
        go_roundg (gk - 1)
        case measure => have := HG.out; omega
        case rel =>
          obtain ⟨j', hj'⟩ : ∃ j', j' = j + 1 := ⟨_, rfl⟩
          refine ⟨j', _, by have := HG.out; omega, rfl, by rw [hj']; go_num, Lib.hid ⟨rfl, ?_⟩⟩
          rw [hj', HD.out, HQ.out, app_data, app_data, HY.out, HX.out]
          have := eq_of_beq HQ.out
          simp [this]
      | false =>
        rw [q] at e34
        have HQ := Lib.hid q
        clear q
        go_wp2_with fail
        go_roundg (gk - 1)
        case measure => have := HG.out; omega
        case rel =>
          obtain ⟨j', hj'⟩ : ∃ j', j' = j + 1 := ⟨_, rfl⟩
          refine ⟨j', _, by have := HG.out; omega, rfl, by rw [hj']; go_num, Lib.hid ⟨rfl, ?_⟩⟩
          rw [hj', HD.out, HQ.out, app_data, HY.out, HX.out]
          simp
    · have hjs : j = s.size := by omega
      have HYY := Lib.hid (show Y.data.toList = 34 :: dblL s.data.toList by rw [HY.out, hjs, List.take_of_length_le (by simp)])
      have d0 := c0
      have d1 := c1
      clear c0 c1 hjs
      obtain ⟨cap, w2, hcv, hcap, hb2, hby, hsz2⟩ := conv_bytes wr (Y ++ (⟨#[34]⟩ : ByteArray))
      have hzz : ∀ Z : ByteArray, Z.data.toList.length = Z.size := fun Z => by simp
      have hXl : (rendL 5 s.data.toList).length = (Y ++ (⟨#[34]⟩ : ByteArray)).size := by rw [← cat5 Y s HYY.out]; exact hzz _
      have hXs : (rendL 5 s.data.toList).length ≤ 200000 := by have h1 := rend_len 5 s.data.toList; have h2 : s.data.toList.length = s.size := (by simp); omega
      rw [cat5 Y s HYY.out] at hby
      have hct := reftokens_any (some ⟨(World.heap wr).size, 0, none⟩) cap (rendL 5 s.data.toList) w2 hby (by omega) (by omega)
      rw [hXl] at hct
      have hsze : (Y ++ (⟨#[34]⟩ : ByteArray)).size = Y.size + 1 := by first | rfl | (rw [ByteArray.size_append, ByteArray.size_append]; rfl) | (rw [ByteArray.size_append]; rfl)
      rw [hsze] at hct
      try simp only [World.size_alloc] at hcv hct
      have HCT := Lib.hid hct
      have y0 := cell_later hb2 d0
      have y1 := cell_later hb2 d1
      have HB2 := Lib.hid (HBw.out.trans (hb2.mono HBw.out.size))
      clear hcap hb2 hby hsz2 hXl hXs hct d0 d1 hzz hsze
      go_wp2_with fail
      refine HCT.out.mono ?_
      rintro e w3 ⟨p, c, l, A, er, rfl, htk, hown, hb3⟩
      have z0 := cell_later hb3 y0
      have z1 := cell_later hb3 y1
      have HB3 := Lib.hid (HB2.out.trans (hb3.mono HB2.out.size))
      clear hb3 HCT y0 y1
      have hiff := reads_iff htk
      have hlb := own_tks hown
      by_cases her : er = 0
      case neg =>
        have q1 : ((er : Int) == 0) = false := by simp; omega
        have hR : gdB 5 s.data.toList = false := by rw [Bool.eq_false_iff]; intro h; exact her (hiff.2 (gdB_iff.1 h)).1
        have HR := Lib.hid hR
        clear hiff hlb htk hown hR her
        go_wp2_with fail
        go_quiet (fail)
        go_wp2_with fail
        go_ret2
        exact ⟨_, false, rfl, (by rw [show readB (5 : Int) s = _ from readB_nat 5 s (by decide), HR.out]), (fun _ => cat5 Y s HYY.out), rend_size (cat5 Y s HYY.out) hs, bdd HB3.out⟩
      subst her
      by_cases hle : l.length = 1
      case neg =>
        have q2 : ((l.length : Int) == 1) = false := by simp; omega
        have hR : gdB 5 s.data.toList = false := by rw [Bool.eq_false_iff]; intro h; obtain ⟨p0, h2⟩ := (hiff.2 (gdB_iff.1 h)).2; rw [h2] at hle; exact hle rfl
        have HR := Lib.hid hR
        generalize l.length = n3 at *
        clear hiff hlb htk hown hR hle
        go_wp2_with fail
        go_quiet (fail)
        go_wp2_with fail
        go_ret2
        exact ⟨_, false, rfl, (by rw [show readB (5 : Int) s = _ from readB_nat 5 s (by decide), HR.out]), (fun _ => cat5 Y s HYY.out), rend_size (cat5 Y s HYY.out) hs, bdd HB3.out⟩
      obtain ⟨⟨kk, t, pp⟩, rfl⟩ : ∃ x, l = [x] := by match l, hle with | [x], _ => exact ⟨x, rfl⟩
      obtain ⟨b3, off3, rfl, x0, x1, x2⟩ := hlb 0 (by simp)
      simp only [List.getElem_cons_zero, Nat.zero_mul, Nat.add_zero] at x0 x1 x2
      have hl1 : ([(⟨kk, t, pp⟩ : Tk)] : List Tk).length = 1 := rfl
      rw [hl1]
      by_cases hkk : kk = 5
      case neg =>
        have q3 : ((kk : Int) == (5 : Int)) = false := by simp; omega
        have hR : gdB 5 s.data.toList = false := by rw [Bool.eq_false_iff]; intro h; obtain ⟨p0, h2⟩ := (hiff.2 (gdB_iff.1 h)).2; injection h2 with h2 _; injection h2 with h2 _ _; exact hkk h2
        have HR := Lib.hid hR
        clear hiff hlb htk hown hR hkk hle hl1
        go_wp2_with fail
        go_quiet (fail)
        go_wp2_with fail
        go_ret2
        exact ⟨_, false, rfl, (by rw [show readB (5 : Int) s = _ from readB_nat 5 s (by decide), HR.out]), (fun _ => cat5 Y s HYY.out), rend_size (cat5 Y s HYY.out) hs, bdd HB3.out⟩
      subst hkk
      by_cases htt : t = s.data.toList
      case neg =>
        have hR : gdB 5 s.data.toList = false := by rw [Bool.eq_false_iff]; intro h; obtain ⟨p0, h2⟩ := (hiff.2 (gdB_iff.1 h)).2; injection h2 with h2 _; injection h2 with _ h2 _; exact htt h2
        have q4 : ¬ (⟨t.toArray⟩ : ByteArray).toList = s.toList := fun h => htt (by have h2 := toList_byte h; rw [← h2])
        have q5 : ((⟨t.toArray⟩ : ByteArray).toList == s.toList) = false := by simpa using q4
        generalize (⟨t.toArray⟩ : ByteArray) = T at *
        have HR := Lib.hid hR
        clear hiff hlb htk hown hR htt hle hl1
        go_wp2_with fail
        go_quiet (fail)
        go_wp2_with fail
        go_ret2
        exact ⟨_, false, rfl, (by rw [show readB (5 : Int) s = _ from readB_nat 5 s (by decide), HR.out]), (fun _ => cat5 Y s HYY.out), rend_size (cat5 Y s HYY.out) hs, bdd HB3.out⟩
      have hR : gdB 5 s.data.toList = true := gdB_iff.2 (hiff.1 ⟨rfl, pp, by rw [htt]⟩)
      rw [htt, mk_text] at x1
      have HR := Lib.hid hR
      clear hiff hlb htk hown hR htt hle hl1
      go_wp2_with fail
      go_quiet (fail)
      go_wp2_with fail
      go_ret2
      exact ⟨_, true, rfl, (by rw [show readB (5 : Int) s = _ from readB_nat 5 s (by decide), HR.out]), (fun _ => cat5 Y s HYY.out), rend_size (cat5 Y s HYY.out) hs, bdd HB3.out⟩
set_option maxRecDepth 100000 in
set_option maxHeartbeats 1600000 in
theorem token72_no (k : Int) (s : ByteArray) (a : Int) (W : World) (h3 : k ≠ 3) (h4 : k ≠ 4) (h5 : k ≠ 5) (h6 : k ≠ 6) (h7 : k ≠ 7) : Calls Tryd.prog 72 #[.agg #[.int .u8 k, .string s, .int .i64 a]] W (TokenE k s W) := by
  have e3 : (k == 3) = false := by simpa using h3
  have e4 : (k == 4) = false := by simpa using h4
  have e5 : (k == 5) = false := by simpa using h5
  have e6 : (k == 6) = false := by simpa using h6
  have e7 : (k == 7) = false := by simpa using h7
  have hz : readB k s = false := by
    rw [Bool.eq_false_iff]
    intro h
    rw [readB_iff] at h
    obtain ⟨h1, h2⟩ := h
    generalize hkn : k.toNat = kn at h1
    generalize s.data.toList = tt at h1
    cases h1 <;> omega
  have HZ := Lib.hid hz
  clear h3 h4 h5 h6 h7 hz
  go_enter Tryd.func72, Tryd.ntmps72
  go_wp2_with fail
  go_ret2
  exact ⟨⟨#[]⟩, false, rfl, HZ.out.symm, fun h => (by cases h), by decide, below1 _ _⟩
theorem token72 (k : Int) (s : ByteArray) (a : Int) (W : World) (hs : s.size ≤ 65536) : Calls Tryd.prog 72 #[.agg #[.int .u8 k, .string s, .int .i64 a]] W (TokenE k s W) := by
  by_cases h3 : k = 3
  · subst h3; exact token72_3 s a W hs
  by_cases h4 : k = 4
  · subst h4; exact token72_4 s a W hs
  by_cases h5 : k = 5
  · subst h5; exact token72_5 s a W hs
  by_cases h6 : k = 6
  · subst h6; exact token72_6 s a W hs
  by_cases h7 : k = 7
  · subst h7; exact token72_7 s a W hs
  exact token72_no k s a W h3 h4 h5 h6 h7
end Go.Proofs.YtlifankiljbdjaaDoor
