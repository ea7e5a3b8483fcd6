/- A leaf's text; what a part takes; a tree is written. -/
import Derived.Test.YtlifankiljbdjaaDoorJT2
import Derived.Test.YtlifankiljbdjaaDoorJX
import Derived.Test.YtlifankiljbdjaaDoorRepl
import Derived.Test.YtlifankiljbdjaaDoorJT1
import Derived.Deep.RegionHeld3
namespace Go.Proofs.YtlifankiljbdjaaDoor
open Go Go.RowKit

/-- is it a token's kind and text? -/
noncomputable def gdB (k : Nat) (t : List UInt8) : Bool := @decide (GoodT k t) (Classical.propDecidable _)
theorem gdB_iff {k : Nat} {t : List UInt8} : gdB k t = true ↔ GoodT k t := by unfold gdB; exact @decide_eq_true_iff _ (Classical.propDecidable _)
theorem readB_gd (k : Int) (s : ByteArray) : readB k s = (gdB k.toNat s.data.toList && decide (3 ≤ k)) := by
  rw [Bool.eq_iff_iff, readB_iff, Bool.and_eq_true, gdB_iff, decide_eq_true_iff]
theorem rend_len (k : Nat) (t : List UInt8) : (rendL k t).length ≤ 2 * t.length + 2 := by
  unfold rendL
  have := dbl_len t
  split
  · split <;> simp <;> omega
  · split
    · simp; omega
    · split <;> simp <;> omega
theorem reads_iff {k : Nat} {t : List UInt8} {l : List Tk} {a er : Nat} (h : Toks (rendL k t) 0 l a er) : (er = 0 ∧ ∃ p, l = [⟨k, t, p⟩]) ↔ GoodT k t := by
  constructor
  · rintro ⟨_, p, rfl⟩
    exact h.good ⟨k, t, p⟩ (by simp)
  · intro hg
    obtain ⟨rfl, _, rfl⟩ := h.uniq (alone hg)
    exact ⟨rfl, 0, rfl⟩
set_option maxRecDepth 100000 in
set_option maxHeartbeats 3200000 in
theorem plain70 (k : Int) (s : ByteArray) (a : Int) (W : World) (hs : s.size ≤ 1048576) (hm : MaxAt W) :
    Calls Tryd.prog 70 #[.agg #[.int .u8 k, .string s, .int .i64 a]] W (TextP k.toNat s.data.toList W) := by
  have hB1 := below1 W (.cells #[.int .u8 k, .string s, .int .i64 a] 33)
  have hm1 := hm.later hB1
  have HB1 := Lib.hid hB1
  have c0 : (W.alloc (.cells #[.int .u8 k, .string s, .int .i64 a] 33)).cell? ⟨W.heap.size, 0, none⟩ = some (.int .u8 k) := by simp [go_sem]
  have c1 : (W.alloc (.cells #[.int .u8 k, .string s, .int .i64 a] 33)).cell? ⟨W.heap.size, 1, none⟩ = some (.string s) := by simp [go_sem]
  clear hB1 hm
  by_cases h3 : k = 3
  · subst h3
    cases hp : plainB s.data.toList with
    | true =>
      have HP := Lib.hid hp
      clear hp hm1
      go_enter Tryd.func70, Tryd.ntmps70
      go_wp2_with fail
      refine (lexplain_any s _ hs).mono ?_
      rintro e w1 ⟨rfl, hb⟩
      rw [HP.out]
      have d1 := cell_later hb c1
      have HB := Lib.hid (HB1.out.trans (hb.mono HB1.out.size))
      clear hb c0 c1
      go_wp2_with fail
      go_ret
      exact ⟨s, rfl, by unfold rendL; rw [HP.out]; rfl, HB.out⟩
    | false =>
      have HP := Lib.hid hp
      clear hp hm1
      go_enter Tryd.func70, Tryd.ntmps70
      go_wp2_with fail
      refine (lexplain_any s _ hs).mono ?_
      rintro e w1 ⟨rfl, hb⟩
      rw [HP.out]
      have d1 := cell_later hb c1
      have HB := Lib.hid (HB1.out.trans (hb.mono HB1.out.size))
      clear hb c0 c1
      go_wp2_with fail
      go_ret
      refine ⟨_, rfl, ?_, HB.out⟩
      rw [app_data, app_data]; unfold rendL; rw [HP.out]; rfl
  · have e3 : (k == 3) = false := by simpa using h3
    by_cases h5 : k = 5
    · subst h5
      have hrp := repl79 s _ hs hm1
      have HRP := Lib.hid hrp
      clear hrp hm1
      go_enter Tryd.func70, Tryd.ntmps70
      go_wp2_with fail
      refine HRP.out.mono ?_
      rintro e w1 ⟨X, rfl, hX, hb⟩
      have hXs : X.size ≤ 2097152 := by
        have h1 : X.data.toList.length = X.size := by simp
        have h2 := dbl_len s.data.toList
        have h3 : s.data.toList.length = s.size := by simp
        rw [← hX] at h2
        omega
      have HX := Lib.hid hX
      have HB := Lib.hid (HB1.out.trans (hb.mono HB1.out.size))
      clear hb c0 c1 hX HRP
      go_wp2_with fail
      go_ret
      refine ⟨_, rfl, ?_, HB.out⟩
      rw [app_data, app_data, HX.out]; unfold rendL; rfl
    · have e5 : (k == 5) = false := by simpa using h5
      clear hm1
      by_cases h6 : k = 6
      · subst h6
        go_enter Tryd.func70, Tryd.ntmps70
        go_wp2_with fail
        go_ret
        refine ⟨_, rfl, ?_, HB1.out⟩
        rw [app_data]; unfold rendL; rfl
      · have e6 : (k == 6) = false := by simpa using h6
        go_enter Tryd.func70, Tryd.ntmps70
        go_wp2_with fail
        go_ret
        refine ⟨_, rfl, ?_, HB1.out⟩
        have t3 : (k.toNat == 3) = false := by simp; omega
        have t5 : (k.toNat == 5) = false := by simp; omega
        have t6 : (k.toNat == 6) = false := by simp; omega
        unfold rendL
        rw [t3, t5, t6]; simp
theorem mk_text (s : ByteArray) : (⟨s.data.toList.toArray⟩ : ByteArray) = s := by
  apply ByteArray.ext; simp
set_option maxRecDepth 100000 in
set_option maxHeartbeats 3200000 in
theorem reads81 (k : Nat) (s : ByteArray) (a : Int) (W : World) (hs : s.size ≤ 524287) (hm : MaxAt W) :
    Calls Tryd.prog 81 #[.agg #[.int .u8 (k : Int), .string s, .int .i64 a]] W fun e w' => e = .returned (.bool (gdB k s.data.toList)) ∧ Below W.heap.size W w' := by
  have hp := plain70 (k : Int) s a _ (by omega) (hm.later (below1 W (.cells #[.int .u8 (k : Int), .string s, .int .i64 a] 33)))
  rw [Int.toNat_natCast] at hp
  have HP := Lib.hid hp
  clear hp hm
  go_enter Tryd.func81, Tryd.ntmps81
  go_wp2_with fail
  refine HP.out.mono ?_
  rintro e w1 ⟨X, rfl, hX, hb1⟩
  obtain ⟨cap, w2, hcv, hcap, hb2, hby, hsz2⟩ := conv_bytes w1 X
  have hXl : (rendL k s.data.toList).length = X.size := by rw [← hX]; simp
  have hXs : (rendL k s.data.toList).length ≤ 1048576 := by
    have h1 := rend_len k s.data.toList
    have h2 : s.data.toList.length = s.size := by simp
    omega
  rw [hX] at hby
  have hct := tokens_any (some ⟨w1.heap.size, 0, none⟩) cap (rendL k s.data.toList) w2 hby (by omega) hXs
  rw [hXl] at hct
  have HCT := Lib.hid hct
  have hB2 : Below W.heap.size W w2 := ((below1 W (.cells #[.int .u8 (k : Int), .string s, .int .i64 a] 33)).trans (hb1.mono (by simp))).trans (hb2.mono (by have := hb1.size; simp at this; omega))
  have HB2 := Lib.hid hB2
  have hbb : Below (W.heap.size + 1) (W.alloc (.cells #[.int .u8 (k : Int), .string s, .int .i64 a] 33)) w2 := by
    have h1 : (W.alloc (.cells #[.int .u8 (k : Int), .string s, .int .i64 a] 33)).heap.size = W.heap.size + 1 := by simp
    rw [← h1]; exact hb1.trans (hb2.mono hb1.size)
  have HBB := Lib.hid hbb
  clear hX hb1 hcap hb2 hby hsz2 hXl hXs hct hB2 hbb HP
  go_wp2_with fail
  refine HCT.out.mono ?_
  rintro e w3 ⟨p, c, l, A, er, rfl, htk, hown, hb3⟩
  have hb4 : Below (W.alloc (.cells #[.int .u8 (k : Int), .string s, .int .i64 a] 33)).heap.size (W.alloc (.cells #[.int .u8 (k : Int), .string s, .int .i64 a] 33)) w3 := by
    have h1 : (W.alloc (.cells #[.int .u8 (k : Int), .string s, .int .i64 a] 33)).heap.size = W.heap.size + 1 := by simp
    rw [h1]; exact HBB.out.trans (hb3.mono (by have := HBB.out.size; simp at this; omega))
  have y0 : w3.cell? ⟨W.heap.size, 0, none⟩ = some (.int .u8 (k : Int)) := cell_later hb4 (by simp [go_sem])
  have y1 : w3.cell? ⟨W.heap.size, 1, none⟩ = some (.string s) := cell_later hb4 (by simp [go_sem])
  have HB3 := Lib.hid (HB2.out.trans (hb3.mono HB2.out.size))
  clear hb3 hb4 HCT HBB
  have hiff := reads_iff htk
  have hlb := own_tks hown
  by_cases her : er = 0
  case neg =>
    have q1 : ((er : Int) == 0) = false := by simp; omega
    have hR : gdB k s.data.toList = false := by rw [Bool.eq_false_iff]; intro h; exact her (hiff.2 (gdB_iff.1 h)).1
    have HR := Lib.hid hR
    clear hiff hlb htk hown hR her
    go_wp2_with fail
    go_quiet (fail)
    go_wp2_with fail
    go_ret
    exact ⟨by rw [HR.out] <;> rfl, by first | exact HB3.out | exact bdd HB3.out⟩
  subst her
  by_cases hle : l.length = 1
  case neg =>
    have q2 : ((l.length : Int) == 1) = false := by simp; omega
    have hR : gdB k s.data.toList = false := by rw [Bool.eq_false_iff]; intro h; obtain ⟨p0, h2⟩ := (hiff.2 (gdB_iff.1 h)).2; rw [h2] at hle; exact hle rfl
    have HR := Lib.hid hR
    generalize l.length = n3 at *
    clear hiff hlb htk hown hR hle
    go_wp2_with fail
    go_quiet (fail)
    go_wp2_with fail
    go_ret
    exact ⟨by rw [HR.out] <;> rfl, by first | exact HB3.out | exact bdd HB3.out⟩
  obtain ⟨⟨kk, t, pp⟩, rfl⟩ : ∃ x, l = [x] := by match l, hle with | [x], _ => exact ⟨x, rfl⟩
  obtain ⟨b3, off3, rfl, x0, x1, x2⟩ := hlb 0 (by simp)
  simp only [List.getElem_cons_zero, Nat.zero_mul, Nat.add_zero] at x0 x1 x2
  have hl1 : ([(⟨kk, t, pp⟩ : Tk)] : List Tk).length = 1 := rfl
  rw [hl1]
  by_cases hkk : kk = k
  case neg =>
    have q3 : ((kk : Int) == (k : Int)) = false := by simp; omega
    have hR : gdB k s.data.toList = false := by rw [Bool.eq_false_iff]; intro h; obtain ⟨p0, h2⟩ := (hiff.2 (gdB_iff.1 h)).2; injection h2 with h2 _; injection h2 with h2 _ _; exact hkk h2
    have HR := Lib.hid hR
    clear hiff hlb htk hown hR hkk hle hl1
    go_wp2_with fail
    go_quiet (fail)
    go_wp2_with fail
    go_ret
    exact ⟨by rw [HR.out] <;> rfl, by first | exact HB3.out | exact bdd HB3.out⟩
  subst hkk
  by_cases htt : t = s.data.toList
  case neg =>
    have hR : gdB kk s.data.toList = false := by rw [Bool.eq_false_iff]; intro h; obtain ⟨p0, h2⟩ := (hiff.2 (gdB_iff.1 h)).2; injection h2 with h2 _; injection h2 with _ h2 _; exact htt h2
    have q4 : ¬ (⟨t.toArray⟩ : ByteArray).toList = s.toList := fun h => htt (by have h2 := toList_byte h; rw [← h2])
    have q5 : ((⟨t.toArray⟩ : ByteArray).toList == s.toList) = false := by simpa using q4
    generalize (⟨t.toArray⟩ : ByteArray) = T at *
    have HR := Lib.hid hR
    clear hiff hlb htk hown hR htt hle hl1
    go_wp2_with fail
    go_quiet (fail)
    go_wp2_with fail
    go_ret
    exact ⟨by rw [HR.out] <;> rfl, by first | exact HB3.out | exact bdd HB3.out⟩
  have hR : gdB kk s.data.toList = true := gdB_iff.2 (hiff.1 ⟨rfl, pp, by rw [htt]⟩)
  rw [htt, mk_text] at x1
  have HR := Lib.hid hR
  clear hiff hlb htk hown hR htt hle hl1
  go_wp2_with fail
  go_quiet (fail)
  go_wp2_with fail
  go_ret
  exact ⟨by rw [HR.out] <;> rfl, by first | exact HB3.out | exact bdd HB3.out⟩
set_option maxRecDepth 100000 in
set_option maxHeartbeats 3200000 in
theorem by80 (k : Nat) (s : ByteArray) (a : Int) (W : World) (hs : s.size ≤ 65536) (hm : MaxAt W) :
    Calls Tryd.prog 80 #[.agg #[.int .u8 (k : Int), .string s, .int .i64 a]] W fun e w' => e = .returned (.bool (gdB k s.data.toList)) ∧ Below W.heap.size W w' := by
  have hp := reads81 k s 0 _ (by omega) (hm.later (below1 W (.cells #[.int .u8 (k : Int), .string s, .int .i64 a] 33)))
  have HP := Lib.hid hp
  have hs1 : (s.size : Int) ≤ 65536 := by omega
  clear hp hm
  go_enter Tryd.func80, Tryd.ntmps80
  go_wp2_with fail
  obtain ⟨W1, hW1⟩ : ∃ W1, W1 = W.alloc (.cells #[.int .u8 (k : Int), .string s, .int .i64 a] 33) := ⟨_, rfl⟩
  have c0 : W1.cell? ⟨W.heap.size, 0, none⟩ = some (.int .u8 (k : Int)) := by rw [hW1]; simp [go_sem]
  have c1 : W1.cell? ⟨W.heap.size, 1, none⟩ = some (.string s) := by rw [hW1]; simp [go_sem]
  rw [← hW1] at HP ⊢
  have HB := Lib.hid (show Below W.heap.size W W1 by rw [hW1]; exact below1 _ _)
  clear hW1
  go_loopg [3] 1 (fun gk s3 wx => s3 = .string s ∧ wx = W1)
  case atStart => exact ⟨rfl, rfl⟩
  case round =>
    obtain ⟨rfl, rfl⟩ := hrel
    go_wp2_with fail
    refine HP.out.mono ?_
    rintro e w1 ⟨rfl, hb⟩
    have HB2 := Lib.hid (HB.out.trans (hb.mono HB.out.size))
    clear hb
    go_wp2_with fail
    go_ret
    exact ⟨rfl, HB2.out⟩
set_option maxRecDepth 100000 in
set_option maxHeartbeats 3200000 in
theorem readable71 (k : Int) (s : ByteArray) (a : Int) (W : World) (hs : s.size ≤ 65536) (hm : MaxAt W) :
    Calls Tryd.prog 71 #[.agg #[.int .u8 k, .string s, .int .i64 a]] W fun e w' => e = .returned (.bool (readB k s)) ∧ Below W.heap.size W w' := by
  have hB1 := below1 W (.cells #[.int .u8 k, .string s, .int .i64 a] 33)
  have hm1 := hm.later hB1
  have hrb : readB k s = (gdB k.toNat s.data.toList && decide (3 ≤ k)) := by
    exact readB_gd k s
  rw [hrb]
  have HB1 := Lib.hid hB1
  have c0 : (W.alloc (.cells #[.int .u8 k, .string s, .int .i64 a] 33)).cell? ⟨W.heap.size, 0, none⟩ = some (.int .u8 k) := by simp [go_sem]
  have c1 : (W.alloc (.cells #[.int .u8 k, .string s, .int .i64 a] 33)).cell? ⟨W.heap.size, 1, none⟩ = some (.string s) := by simp [go_sem]
  have c2 : (W.alloc (.cells #[.int .u8 k, .string s, .int .i64 a] 33)).cell? ⟨W.heap.size, 2, none⟩ = some (.int .i64 a) := by simp [go_sem]
  clear hB1 hm hrb
  by_cases h3 : k = 3
  · subst h3
    cases hp : plainB s.data.toList with
    | true =>
      have hg : gdB 3 s.data.toList = true := gdB_iff.2 (.sym (.inl hp))
      have HP := Lib.hid hp
      have HG := Lib.hid hg
      clear hp hm1 hg
      go_enter Tryd.func71, Tryd.ntmps71
      go_wp2_with fail
      refine (lexplain_any s _ (by omega)).mono ?_
      rintro e w1 ⟨rfl, hb⟩
      rw [HP.out]
      have HB := Lib.hid (HB1.out.trans (hb.mono HB1.out.size))
      clear hb c0 c1
      go_wp2_with fail
      go_ret
      exact ⟨by rw [show (Int.toNat 3) = 3 from rfl, HG.out] <;> rfl, HB.out⟩
    | false =>
      have HP := Lib.hid hp
      have HM := Lib.hid hm1
      clear hp hm1
      go_enter Tryd.func71, Tryd.ntmps71
      go_wp2_with fail
      refine (lexplain_any s _ (by omega)).mono ?_
      rintro e w1 ⟨rfl, hb⟩
      rw [HP.out]
      have d0 := cell_later hb c0
      have d1 := cell_later hb c1
      have d2 := cell_later hb c2
      have hby := by80 3 s a w1 hs (HM.out.later hb)
      have HBY := Lib.hid hby
      have HB := Lib.hid (HB1.out.trans (hb.mono HB1.out.size))
      clear hb c0 c1 c2 hby
      go_wp2_with fail
      refine HBY.out.mono ?_
      rintro e w2 ⟨rfl, hb2⟩
      have HB2 := Lib.hid (HB.out.trans (hb2.mono HB.out.size))
      clear hb2
      go_wp2_with fail
      go_ret
      exact ⟨by simp, HB2.out⟩
  · have e3 : (k == 3) = false := by simp; omega
    by_cases h5 : k = 5
    · subst h5
      have hby := by80 5 s a _ hs hm1
      have HBY := Lib.hid hby
      clear hby hm1
      go_enter Tryd.func71, Tryd.ntmps71
      go_wp2_with fail
      refine HBY.out.mono ?_
      rintro e w2 ⟨rfl, hb2⟩
      have HB2 := Lib.hid (HB1.out.trans (hb2.mono HB1.out.size))
      clear hb2
      go_wp2_with fail
      go_ret
      exact ⟨by simp, HB2.out⟩
    · have e5 : (k == 5) = false := by simp; omega
      by_cases h4 : k = 4 ∨ k = 6 ∨ k = 7
      · obtain ⟨kk, rfl⟩ : ∃ kk : Nat, k = (kk : Int) := ⟨k.toNat, by omega⟩
        have hby := reads81 kk s a _ (by omega) hm1
        have HBY := Lib.hid hby
        have hk3 : decide ((3 : Int) ≤ (kk : Int)) = true := by simp; omega
        have HK3 := Lib.hid hk3
        clear hby hm1 hk3
        have h4' : kk = 4 ∨ kk = 6 ∨ kk = 7 := by omega
        clear h3 h5 h4 e3 e5
        rcases h4' with rfl | rfl | rfl
        all_goals (
          go_enter Tryd.func71, Tryd.ntmps71
          go_wp2_with fail
          refine HBY.out.mono ?_
          rintro e w2 ⟨rfl, hb2⟩
          have HB2 := Lib.hid (HB1.out.trans (hb2.mono HB1.out.size))
          clear hb2
          go_wp2_with fail
          go_ret
          exact ⟨by rw [Int.toNat_natCast, HK3.out, Bool.and_true] <;> rfl, HB2.out⟩)
      · have e4 : (k == 4) = false := by simp; omega
        have e6 : (k == 6) = false := by simp; omega
        have e7 : (k == 7) = false := by simp; omega
        have hz : (gdB k.toNat s.data.toList && decide (3 ≤ k)) = false := by
          rw [Bool.eq_false_iff]
          intro h
          rw [Bool.and_eq_true, gdB_iff] at h
          obtain ⟨h1, h2⟩ := h
          have h2 : 3 ≤ k := by simpa using h2
          generalize hkn : k.toNat = kn at h1
          generalize s.data.toList = tt at h1
          cases h1 <;> omega
        rw [hz]
        clear hm1 h4 hz
        go_enter Tryd.func71, Tryd.ntmps71
        go_wp2_with fail
        go_ret
        exact ⟨rfl, HB1.out⟩
end Go.Proofs.YtlifankiljbdjaaDoor
namespace Go.Proofs.YtlifankiljbdjaaDoor
open Go Go.RowKit

/-- what is told of a part. -/
def WrittenP (d : Nd) (W : World) (e : Ending) (w' : World) : Prop := ∃ (x : Nat), e = .returned (.tuple #[.int .i64 (x : Int), .bool (nodeB d)]) ∧ (nodeB d = true → x = nodeW d) ∧ Below W.heap.size W w'
set_option maxRecDepth 100000 in
set_option maxHeartbeats 3200000 in
theorem written51_list (k : Int) (s : ByteArray) (a : Int) (q : Option Addr) (n c : Nat) (W : World) (hn : n ≤ 281474976710656) :
    Calls Tryd.prog 51 #[trV true k s a q n c] W (WrittenP ⟨true, k, s, n⟩ W) := by
  have hv : ∃ x : Nat, x = 2 + (n - 1) ∧ (2 : Int) + max 0 ((n : Int) - 1) = (x : Int) := ⟨2 + (n - 1), rfl, by omega⟩
  obtain ⟨x, hx, hxe⟩ := hv
  have n1 : (n : Int) ≤ 281474976710656 := by omega
  have hmx : max 0 ((n : Int) - 1) ≤ 281474976710656 := by omega
  have hmx0 : 0 ≤ max 0 ((n : Int) - 1) := by omega
  have HX := Lib.hid hx
  have HXE := Lib.hid hxe
  clear hx hxe
  unfold trV
  by_cases h1 : k = 1
  · subst h1
    by_cases h2 : s = ⟨#[40]⟩
    · subst h2
      go_enter Tryd.func51, Tryd.ntmps51
      go_wp2_with fail
      go_quiet (fail)
      go_wp2_with fail
      go_ret2
      exact ⟨x, (by first | rfl | (rw [HXE.out]; rfl)), (fun _ => HX.out), bdd (below1 _ _)⟩
    · have h5 : ¬ s.toList = [40] := fun e => h2 (toList_byte (by rw [e, toList_data]))
      have h6 : (s.toList == [40]) = false := by simpa using h5
      have hB : nodeB ⟨true, 1, s, n⟩ = false := by simp [nodeB, h2]
      have HB := Lib.hid hB
      clear hB
      go_enter Tryd.func51, Tryd.ntmps51
      go_wp2_with fail
      go_quiet (fail)
      go_wp2_with fail
      go_ret2
      exact ⟨x, (by first | (rw [HB.out]; rfl) | (rw [HXE.out, HB.out]; rfl)), (fun h => by rw [HB.out] at h; cases h), bdd (below1 _ _)⟩
  · have e1 : (k == 1) = false := by simpa using h1
    have hB : nodeB ⟨true, k, s, n⟩ = false := by simp [nodeB, h1]
    have HB := Lib.hid hB
    clear hB
    go_enter Tryd.func51, Tryd.ntmps51
    go_wp2_with fail
    go_quiet (fail)
    go_wp2_with fail
    go_ret2
    exact ⟨x, (by first | (rw [HB.out]; rfl) | (rw [HXE.out, HB.out]; rfl)), (fun h => by rw [HB.out] at h; cases h), bdd (below1 _ _)⟩
set_option maxRecDepth 100000 in
set_option maxHeartbeats 3200000 in
theorem written51_kids (k : Int) (s : ByteArray) (a : Int) (q : Option Addr) (n c : Nat) (W : World) (hs : s.size ≤ 65536) (hn : n ≤ 281474976710656) (h0 : n ≠ 0) (hm : MaxAt W) :
    Calls Tryd.prog 51 #[trV false k s a q n c] W (WrittenP ⟨false, k, s, n⟩ W) := by
  have n1 : (n : Int) ≤ 281474976710656 := by omega
  have e0 : ((n : Int) == 0) = false := by simp; omega
  have hB : nodeB ⟨false, k, s, n⟩ = false := by simp [nodeB, h0]
  have HB := Lib.hid hB
  unfold trV
  have hc : ∀ w', Below (W.alloc (.cells #[.bool false, .int .u8 k, .string s, .int .i64 a, .slice q n c] 41)).heap.size (W.alloc (.cells #[.bool false, .int .u8 k, .string s, .int .i64 a, .slice q n c] 41)) w' → (w'.cell? ⟨W.heap.size, 1, none⟩ = some (.int .u8 k) ∧ w'.cell? ⟨W.heap.size, 2, none⟩ = some (.string s) ∧ w'.cell? ⟨W.heap.size, 3, none⟩ = some (.int .i64 a) ∧ w'.cell? ⟨W.heap.size, 4, none⟩ = some (.slice q n c)) := fun w' h =>
    ⟨cell_later h (by simp [go_sem]), cell_later h (by simp [go_sem]), cell_later h (by simp [go_sem]), cell_later h (by simp [go_sem])⟩
  have hp := fun w (h : Below W.heap.size W w) => plain70 k s a w (by omega) (hm.later h)
  have HP := Lib.hid hp
  have HC := Lib.hid hc
  clear hB h0 hm hp hc
  go_enter Tryd.func51, Tryd.ntmps51
  go_wp2_with fail
  have HS := Lib.hid (HC.out _ (below_drew _))
  have HB1 := Lib.hid (show Below W.heap.size W (W.alloc (.cells #[.bool false, .int .u8 k, .string s, .int .i64 a, .slice q n c] 41)).drew from (below1 W _).trans ((below_drew _).mono (by simp)))
  clear HC
  refine wp_region_L [(1000, (fun _ => True : World → Prop)), (14, ((fun w => w.cell? ⟨W.heap.size, 1, none⟩ = some (.int .u8 k) ∧ w.cell? ⟨W.heap.size, 2, none⟩ = some (.string s) ∧ w.cell? ⟨W.heap.size, 3, none⟩ = some (.int .i64 a) ∧ w.cell? ⟨W.heap.size, 4, none⟩ = some (.slice q n c)) : World → Prop))] (by kernel_rfl) (SL.cons (fun _ => trivial) (SL.cons (fun _ => HS.out) SL.nil)) (fun hHeld => ?_)
  refine wpAnyL_take 0 _ _ (i := 0) (oi := { dst := some 7, op := Op.fieldAddr 41 (Operand.tmp 1) 1, type := 0, pos := "tree.go:122", after := #[], guard := none }) (v := ?_) rfl (by kernel_rfl) (by kernel_rfl) (by kernel_rfl) (fun _ _ _ h => h) rfl (by kernel_rfl) (by kernel_rfl) (by kernel_rfl) (Or.inl ⟨by rfl, ?_⟩) hHeld (fun hHeld => ?_)
  rotate_left
  · intro w hSw
    (try dsimp only at hSw)
    go_simp
    try with_reducible rfl
  try simp only [Act.put, List.setIfInBounds_toArray, List.set_cons_zero, List.set_cons_succ]
  refine wpAnyL_take 1 _ _ (i := 1) (oi := { dst := some 8, op := Op.load 33 (Operand.tmp 7), type := 33, pos := "tree.go:122", after := #[{ on := 0, ground := Ground.data }], guard := none }) (v := ?_) rfl (by kernel_rfl) (by kernel_rfl) (by kernel_rfl) (fun _ _ _ h => h) rfl (by kernel_rfl) (by kernel_rfl) (by kernel_rfl) (Or.inl ⟨by rfl, ?_⟩) hHeld (fun hHeld => ?_)
  rotate_left
  · intro w hSw
    (try dsimp only at hSw)
    obtain ⟨c1, c2, c3, c4⟩ := hSw
    go_simp
    try with_reducible rfl
  try simp only [Act.put, List.setIfInBounds_toArray, List.set_cons_zero, List.set_cons_succ]
  refine wpAnyL_take 0 _ _ (i := 4) (oi := { dst := some 11, op := Op.fieldAddr 41 (Operand.tmp 1) 2, type := 0, pos := "tree.go:122", after := #[], guard := none }) (v := ?_) rfl (by kernel_rfl) (by kernel_rfl) (by kernel_rfl) (fun _ _ _ h => h) rfl (by kernel_rfl) (by kernel_rfl) (by kernel_rfl) (Or.inl ⟨by rfl, ?_⟩) hHeld (fun hHeld => ?_)
  rotate_left
  · intro w hSw
    (try dsimp only at hSw)
    go_simp
    try with_reducible rfl
  try simp only [Act.put, List.setIfInBounds_toArray, List.set_cons_zero, List.set_cons_succ]
  refine wpAnyL_take 1 _ _ (i := 5) (oi := { dst := some 12, op := Op.load 39 (Operand.tmp 11), type := 39, pos := "tree.go:122", after := #[{ on := 4, ground := Ground.data }], guard := none }) (v := ?_) rfl (by kernel_rfl) (by kernel_rfl) (by kernel_rfl) (fun _ _ _ h => h) rfl (by kernel_rfl) (by kernel_rfl) (by kernel_rfl) (Or.inl ⟨by rfl, ?_⟩) hHeld (fun hHeld => ?_)
  rotate_left
  · intro w hSw
    (try dsimp only at hSw)
    obtain ⟨c1, c2, c3, c4⟩ := hSw
    go_simp
    try with_reducible rfl
  try simp only [Act.put, List.setIfInBounds_toArray, List.set_cons_zero, List.set_cons_succ]
  refine wpAnyL_take 0 _ _ (i := 6) (oi := { dst := some 13, op := Op.call { callee := Callee.builtin Builtin.len, args := #[Operand.tmp 12], argTypes := #[39] }, type := 3, pos := "tree.go:122", after := #[{ on := 5, ground := Ground.data }], guard := none }) (v := ?_) rfl (by kernel_rfl) (by kernel_rfl) (by kernel_rfl) (fun _ _ _ h => h) rfl (by kernel_rfl) (by kernel_rfl) (by kernel_rfl) (Or.inl ⟨by rfl, ?_⟩) hHeld (fun hHeld => ?_)
  rotate_left
  · intro w hSw
    (try dsimp only at hSw)
    go_simp
    try with_reducible rfl
  try simp only [Act.put, List.setIfInBounds_toArray, List.set_cons_zero, List.set_cons_succ]
  refine wpAnyL_take 0 _ _ (i := 7) (oi := { dst := some 14, op := Op.binOp BinOp.eql 3 (Operand.tmp 13) (Operand.const (Value.int IntKind.i64 0)) 3, type := 4, pos := "tree.go:122", after := #[{ on := 6, ground := Ground.data }], guard := none }) (v := ?_) rfl (by kernel_rfl) (by kernel_rfl) (by kernel_rfl) (fun _ _ _ h => h) rfl (by kernel_rfl) (by kernel_rfl) (by kernel_rfl) (Or.inl ⟨by rfl, ?_⟩) hHeld (fun hHeld => ?_)
  rotate_left
  · intro w hSw
    (try dsimp only at hSw)
    go_simp
    try with_reducible rfl
  try simp only [Act.put, List.setIfInBounds_toArray, List.set_cons_zero, List.set_cons_succ]
  refine wpAnyL_ready (rs := [2]) (by kernel_rfl) (by simp) ?_
  refine AllReadyL.cons (o := { dst := some 9, op := Op.call { callee := Callee.value (Operand.func 70), args := #[Operand.tmp 8], argTypes := #[33] }, type := 9, pos := "tree.go:122", after := #[{ on := 1, ground := Ground.data }], guard := none }) rfl (fun K hK => ?_) AllReadyL.nil
  go_simp
  go_at_call 70
  refine (HP.out _ HB1.out).mono ?_
  rintro e w3 ⟨X, rfl, hX, hb3⟩
  have HB3 := Lib.hid (HB1.out.trans (hb3.mono HB1.out.size))
  have hs3 := And.intro (cell_later hb3 HS.out.1) (And.intro (cell_later hb3 HS.out.2.1) (And.intro (cell_later hb3 HS.out.2.2.1) (cell_later hb3 HS.out.2.2.2)))
  clear hX hb3
  refine hK.out _ _ (SL.cons (fun _ => trivial) (SL.cons (fun _ => hs3) SL.nil)) (fun hHeld => ?_)
  clear hK K
  try simp only [Act.put, List.setIfInBounds_toArray, List.set_cons_zero, List.set_cons_succ]
  refine wpAnyL_take 0 _ _ (i := 3) (oi := { dst := some 10, op := Op.call { callee := Callee.builtin Builtin.len, args := #[Operand.tmp 9], argTypes := #[9] }, type := 3, pos := "tree.go:122", after := #[{ on := 2, ground := Ground.data }], guard := none }) (v := ?_) rfl (by kernel_rfl) (by kernel_rfl) (by kernel_rfl) (fun _ _ _ h => h) rfl (by kernel_rfl) (by kernel_rfl) (by kernel_rfl) (Or.inl ⟨by rfl, ?_⟩) hHeld (fun hHeld => ?_)
  rotate_left
  · intro w hSw
    (try dsimp only at hSw)
    go_simp
    try with_reducible rfl
  try simp only [Act.put, List.setIfInBounds_toArray, List.set_cons_zero, List.set_cons_succ]
  refine wpAnyL_take 0 _ _ (i := 8) (oi := { dst := some 15, op := Op.move (Operand.tmp 14), type := 4, pos := "tree.go:122", after := #[{ on := 7, ground := Ground.data }, { on := 2, ground := Ground.chain }], guard := none }) (v := ?_) rfl (by kernel_rfl) (by kernel_rfl) (by kernel_rfl) (fun _ _ _ h => h) rfl (by kernel_rfl) (by kernel_rfl) (by kernel_rfl) (Or.inl ⟨by rfl, ?_⟩) hHeld (fun hHeld => ?_)
  rotate_left
  · intro w hSw
    (try dsimp only at hSw)
    go_simp
    try with_reducible rfl
  try simp only [Act.put, List.setIfInBounds_toArray, List.set_cons_zero, List.set_cons_succ]
  refine wpAnyL_take 0 _ _ (i := 9) (oi := { dst := some 16, op := Op.fieldAddr 41 (Operand.tmp 1) 1, type := 0, pos := "tree.go:122", after := #[{ on := 8, ground := Ground.guard }], guard := some (8, true) }) (v := undef) rfl (by kernel_rfl) (by kernel_rfl) (by kernel_rfl) (fun _ _ _ h => h) rfl (by kernel_rfl) (by kernel_rfl) (by kernel_rfl) (Or.inr ⟨by rfl, rfl⟩) hHeld (fun hHeld => ?_)
  try simp only [Act.put, List.setIfInBounds_toArray, List.set_cons_zero, List.set_cons_succ]
  refine wpAnyL_take 0 _ _ (i := 10) (oi := { dst := some 17, op := Op.load 33 (Operand.tmp 16), type := 33, pos := "tree.go:122", after := #[{ on := 9, ground := Ground.data }, { on := 8, ground := Ground.guard }], guard := some (8, true) }) (v := undef) rfl (by kernel_rfl) (by kernel_rfl) (by kernel_rfl) (fun _ _ _ h => h) rfl (by kernel_rfl) (by kernel_rfl) (by kernel_rfl) (Or.inr ⟨by rfl, rfl⟩) hHeld (fun hHeld => ?_)
  try simp only [Act.put, List.setIfInBounds_toArray, List.set_cons_zero, List.set_cons_succ]
  refine wpAnyL_take 0 _ _ (i := 11) (oi := { dst := some 18, op := Op.call { callee := Callee.value (Operand.func 71), args := #[Operand.tmp 17], argTypes := #[33] }, type := 4, pos := "tree.go:122", after := #[{ on := 10, ground := Ground.data }, { on := 8, ground := Ground.chain }, { on := 8, ground := Ground.guard }], guard := some (8, true) }) (v := undef) rfl (by kernel_rfl) (by kernel_rfl) (by kernel_rfl) (fun _ _ _ h => h) rfl (by kernel_rfl) (by kernel_rfl) (by kernel_rfl) (Or.inr ⟨by rfl, rfl⟩) hHeld (fun hHeld => ?_)
  try simp only [Act.put, List.setIfInBounds_toArray, List.set_cons_zero, List.set_cons_succ]
  refine wpAnyL_take 0 _ _ (i := 12) (oi := { dst := some 19, op := Op.pick (Operand.tmp 15) (Operand.tmp 18) (Operand.const (Value.bool false)), type := 4, pos := "tree.go:122", after := #[{ on := 8, ground := Ground.data }, { on := 11, ground := Ground.data }, { on := 13, ground := Ground.gcOnly Departure.lateStores }], guard := none }) (v := ?_) rfl (by kernel_rfl) (by kernel_rfl) (by kernel_rfl) (fun _ _ _ h => h) rfl (by kernel_rfl) (by kernel_rfl) (by kernel_rfl) (Or.inl ⟨by rfl, ?_⟩) hHeld (fun hHeld => ?_)
  rotate_left
  · intro w hSw
    (try dsimp only at hSw)
    go_simp
    try with_reducible rfl
  try simp only [Act.put, List.setIfInBounds_toArray, List.set_cons_zero, List.set_cons_succ]
  refine wpAnyL_take 0 _ _ (i := 13) (oi := { dst := some 2, op := Op.assign (Operand.tmp 10), type := 3, pos := "tree.go:122", after := #[{ on := 3, ground := Ground.data }, { on := 11, ground := Ground.chain }, { on := 0, ground := Ground.phase }, { on := 1, ground := Ground.phase }, { on := 2, ground := Ground.phase }, { on := 3, ground := Ground.phase }, { on := 4, ground := Ground.textOnly Departure.lateStores }, { on := 5, ground := Ground.textOnly Departure.lateStores }, { on := 6, ground := Ground.textOnly Departure.lateStoresUnsure }, { on := 7, ground := Ground.textOnly Departure.lateStores }, { on := 8, ground := Ground.textOnly Departure.lateStores }, { on := 9, ground := Ground.textOnly Departure.lateStores }, { on := 10, ground := Ground.textOnly Departure.lateStores }, { on := 11, ground := Ground.textOnly Departure.lateStoresUnsure }, { on := 12, ground := Ground.textOnly Departure.lateStores }], guard := none }) (v := ?_) rfl (by kernel_rfl) (by kernel_rfl) (by kernel_rfl) (fun _ _ _ h => h) rfl (by kernel_rfl) (by kernel_rfl) (by kernel_rfl) (Or.inl ⟨by rfl, ?_⟩) hHeld (fun hHeld => ?_)
  rotate_left
  · intro w hSw
    (try dsimp only at hSw)
    go_simp
    try with_reducible rfl
  try simp only [Act.put, List.setIfInBounds_toArray, List.set_cons_zero, List.set_cons_succ]
  refine wpAnyL_ready (rs := [14]) (by kernel_rfl) (by simp) ?_
  refine AllReadyL.cons (o := { dst := some 3, op := Op.assign (Operand.tmp 19), type := 4, pos := "tree.go:122", after := #[{ on := 12, ground := Ground.data }, { on := 13, ground := Ground.chain }, { on := 0, ground := Ground.phase }, { on := 1, ground := Ground.phase }, { on := 2, ground := Ground.phase }, { on := 3, ground := Ground.phase }, { on := 4, ground := Ground.phase }, { on := 5, ground := Ground.phase }, { on := 6, ground := Ground.phase }, { on := 7, ground := Ground.phase }, { on := 8, ground := Ground.phase }, { on := 9, ground := Ground.phase }, { on := 10, ground := Ground.phase }, { on := 11, ground := Ground.phase }, { on := 12, ground := Ground.phase }, { on := 13, ground := Ground.phase }], guard := none }) rfl (fun K hK => ?_) AllReadyL.nil
  go_simp
  refine hK.out _ _ (SL.cons (fun _ => trivial) (SL.cons (fun h => absurd h (by decide +kernel)) SL.nil)) (fun hHeld => ?_)
  clear hK K
  try simp only [Act.put, List.setIfInBounds_toArray, List.set_cons_zero, List.set_cons_succ]
  refine wpAnyL_done (by kernel_rfl) ?_ _
  go_wp2_with fail
  go_ret2
  exact ⟨X.size, (by rw [HB.out] <;> rfl), (fun h => by rw [HB.out] at h; cases h), HB3.out⟩
set_option maxRecDepth 100000 in
set_option maxHeartbeats 3200000 in
theorem written51_leaf (k : Int) (s : ByteArray) (a : Int) (q : Option Addr) (c : Nat) (W : World) (hs : s.size ≤ 65536) (hm : MaxAt W) :
    Calls Tryd.prog 51 #[trV false k s a q 0 c] W (WrittenP ⟨false, k, s, 0⟩ W) := by
  have hB : nodeB ⟨false, k, s, 0⟩ = readB k s := by simp [nodeB]
  have hW : nodeW ⟨false, k, s, 0⟩ = (rendL k.toNat s.data.toList).length := by simp [nodeW]
  obtain ⟨R, hR⟩ : ∃ R, R = readB k s := ⟨_, rfl⟩
  have HB := Lib.hid (hB.trans hR.symm)
  have HW := Lib.hid hW
  unfold trV
  obtain ⟨W1, hW1⟩ : ∃ W1, W1 = W.alloc (.cells #[.bool false, .int .u8 k, .string s, .int .i64 a, .slice q 0 c] 41) := ⟨_, rfl⟩
  obtain ⟨L, hL⟩ : ∃ L, L = (rendL k.toNat s.data.toList).length := ⟨_, rfl⟩
  have hkp : ∀ w', Below W1.heap.size W1 w' → (Below W1.heap.size W1 w' ∧ w'.cell? ⟨W.heap.size, 1, none⟩ = some (.int .u8 k) ∧ w'.cell? ⟨W.heap.size, 2, none⟩ = some (.string s) ∧ w'.cell? ⟨W.heap.size, 3, none⟩ = some (.int .i64 a) ∧ w'.cell? ⟨W.heap.size, 4, none⟩ = some (.slice q 0 c)) := fun w' h => by
    subst hW1
    exact ⟨h, cell_later h (by simp [go_sem]), cell_later h (by simp [go_sem]), cell_later h (by simp [go_sem]), cell_later h (by simp [go_sem])⟩
  have hm1 : MaxAt W1 := by subst hW1; exact hm.later (below1 _ _)
  have hp : ∀ w', (Below W1.heap.size W1 w' ∧ w'.cell? ⟨W.heap.size, 1, none⟩ = some (.int .u8 k) ∧ w'.cell? ⟨W.heap.size, 2, none⟩ = some (.string s) ∧ w'.cell? ⟨W.heap.size, 3, none⟩ = some (.int .i64 a) ∧ w'.cell? ⟨W.heap.size, 4, none⟩ = some (.slice q 0 c)) → Calls Tryd.prog 70 #[.agg #[.int .u8 k, .string s, .int .i64 a]] w' fun e w'' => (∃ X : ByteArray, e = .returned (.string X) ∧ X.size = L) ∧ (Below W1.heap.size W1 w'' ∧ w''.cell? ⟨W.heap.size, 1, none⟩ = some (.int .u8 k) ∧ w''.cell? ⟨W.heap.size, 2, none⟩ = some (.string s) ∧ w''.cell? ⟨W.heap.size, 3, none⟩ = some (.int .i64 a) ∧ w''.cell? ⟨W.heap.size, 4, none⟩ = some (.slice q 0 c)) := fun w' h =>
    (plain70 k s a w' (by omega) (hm1.later h.1)).mono fun e w'' ⟨X, he, hX, hb⟩ => ⟨⟨X, he, by rw [hL, ← hX]; simp⟩, hkp w'' (h.1.trans (hb.mono h.1.size))⟩
  have hr : ∀ w', (Below W1.heap.size W1 w' ∧ w'.cell? ⟨W.heap.size, 1, none⟩ = some (.int .u8 k) ∧ w'.cell? ⟨W.heap.size, 2, none⟩ = some (.string s) ∧ w'.cell? ⟨W.heap.size, 3, none⟩ = some (.int .i64 a) ∧ w'.cell? ⟨W.heap.size, 4, none⟩ = some (.slice q 0 c)) → Calls Tryd.prog 71 #[.agg #[.int .u8 k, .string s, .int .i64 a]] w' fun e w'' => e = .returned (.bool R) ∧ (Below W1.heap.size W1 w'' ∧ w''.cell? ⟨W.heap.size, 1, none⟩ = some (.int .u8 k) ∧ w''.cell? ⟨W.heap.size, 2, none⟩ = some (.string s) ∧ w''.cell? ⟨W.heap.size, 3, none⟩ = some (.int .i64 a) ∧ w''.cell? ⟨W.heap.size, 4, none⟩ = some (.slice q 0 c)) := fun w' h =>
    (readable71 k s a w' hs (hm1.later h.1)).mono fun e w'' ⟨he, hb⟩ => ⟨by rw [hR]; exact he, hkp w'' (h.1.trans (hb.mono h.1.size))⟩
  have hLb : L ≤ 200000 := by
    have h1 := rend_len k.toNat s.data.toList
    have h2 : s.data.toList.length = s.size := by simp
    omega
  have HKP := Lib.hid hkp
  have HP := Lib.hid hp
  have HR := Lib.hid hr
  have HL := Lib.hid hL
  have HBW := Lib.hid (show Below W.heap.size W W1 by rw [hW1]; exact below1 _ _)
  have HW1 := Lib.hid hW1
  clear hB hW hR hm hm1 hkp hp hr hL
  go_enter Tryd.func51, Tryd.ntmps51
  go_wp2_with fail
  rw [← HW1.out]
  clear hW1
  go_region_held3 (fun w' => Below W1.heap.size W1 w' ∧ w'.cell? ⟨W.heap.size, 1, none⟩ = some (.int .u8 k) ∧ w'.cell? ⟨W.heap.size, 2, none⟩ = some (.string s) ∧ w'.cell? ⟨W.heap.size, 3, none⟩ = some (.int .i64 a) ∧ w'.cell? ⟨W.heap.size, 4, none⟩ = some (.slice q 0 c)) (first | exact HKP.out _ (below_drew _) | exact HKP.out _ (Below.refl _ _) | assumption) (first | (go_at_call 70; refine (HP.out _ (by assumption)).mono ?_; rintro e w' ⟨⟨X, rfl, hXL⟩, hs⟩) | (go_at_call 71; refine (HR.out _ (by assumption)).mono ?_; rintro e w' ⟨rfl, hs⟩))
  all_goals (
    have HF := Lib.hid hs.1
    clear hs
    go_wp2_with fail
    go_ret2
    exact ⟨L, (by rw [HB.out] <;> rfl), (fun _ => by rw [HW.out]; exact HL.out), HBW.out.trans (HF.out.mono HBW.out.size)⟩)
theorem written51 (l : Bool) (k : Int) (s : ByteArray) (a : Int) (q : Option Addr) (n c : Nat) (W : World) (hs : s.size ≤ 65536) (hn : n ≤ 281474976710656) (hm : MaxAt W) :
    Calls Tryd.prog 51 #[trV l k s a q n c] W (WrittenP ⟨l, k, s, n⟩ W) := by
  cases l with
  | true => exact written51_list k s a q n c W hn
  | false =>
    by_cases h : n = 0
    · subst h; exact written51_leaf k s a q c W hs hm
    · exact written51_kids k s a q n c W hs hn h hm
end Go.Proofs.YtlifankiljbdjaaDoor
namespace Go.Proofs.YtlifankiljbdjaaDoor
open Go Go.RowKit

def WriteP (n : Nat) : Prop := ∀ (x : Fo), x.size ≤ n → szB 65536 x → ∀ (l : Bool) (k : Int) (s : ByteArray) (a : Int) (q : Option Addr) (c : Nat) (W : World) (F : Nat → Prop) (B N : Nat) (v : Value) (xs : List Value), s.size ≤ 65536 → FoIn W F x q → (∀ b, F b → b < B) → x.len ≤ c → x.len ≤ 281474976710656 → MaxAt W →
  W.ownsRow B 5 1 v N xs → B ≤ W.heap.size → 0 < B → N + (txtT l k s x).length ≤ 1099511627776 →
  Calls Tryd.prog 52 #[v, trV l k s a q x.len c] W fun e w' => ∃ v', e = .returned v' ∧ RowS B W v N xs w' v' (txtT l k s x)
theorem RowS.max {B : Nat} {W w' : World} {v v' : Value} {N : Nat} {xs : List Value} {n : List UInt8} (h : RowS B W v N xs w' v' n) (ho : W.ownsRow B 5 1 v N xs) (h0 : 0 < B) (hm : MaxAt W) : MaxAt w' := by
  obtain ⟨m, hm⟩ := hm
  refine ⟨m, h.2.1.cell hm (fun e => ?_)⟩
  have e2 := (own_lt ho (k := 0) e).1
  omega
theorem RowS.foIn {B : Nat} {W w' : World} {v v' : Value} {N : Nat} {xs : List Value} {n : List UInt8} (h : RowS B W v N xs w' v' n) (ho : W.ownsRow B 5 1 v N xs) {F : Nat → Prop} (hF : ∀ b, F b → b < B) {f : Fo} {p : Option Addr} (hx : FoIn W F f p) : FoIn w' F f p :=
  hx.only h.2.1 (fun b hb e => by have h1 := (own_lt ho (k := b) e).1; have h2 := hF b hb; omega)
theorem RowS.size {B : Nat} {W w' : World} {v v' : Value} {N : Nat} {xs : List Value} {n : List UInt8} (h : RowS B W v N xs w' v' n) : W.heap.size ≤ w'.heap.size := h.2.1.size
/-- a cell that lay outside the row. -/
theorem RowS.cell {B : Nat} {W w' : World} {v v' : Value} {N : Nat} {xs : List Value} {n : List UInt8} (h : RowS B W v N xs w' v' n) {b o : Nat} {u : Value} (hc : W.cell? ⟨b, o, none⟩ = some u) (hb : v.ownBlock ≠ some b) : w'.cell? ⟨b, o, none⟩ = some u := h.2.1.cell hc hb
set_option maxRecDepth 100000 in
set_option maxHeartbeats 3200000 in
theorem write52_leaf (k : Int) (s : ByteArray) (a : Int) (q : Option Addr) (n c : Nat) (W : World) (B N : Nat) (v : Value) (xs : List Value) (hs : s.size ≤ 65536) (hm : MaxAt W) (ho : W.ownsRow B 5 1 v N xs) (hB : B ≤ W.heap.size) (hN : N ≤ 1099511627776) :
    Calls Tryd.prog 52 #[v, trV false k s a q n c] W fun e w' => ∃ v', e = .returned v' ∧ RowS B W v N xs w' v' (rendL k.toNat s.data.toList) := by
  obtain ⟨i5, hi5, hz0, hz1, hz2⟩ := info5
  have hp := plain70 k s a _ (by omega) (hm.later (below1 W (.cells #[.bool false, .int .u8 k, .string s, .int .i64 a, .slice q n c] 41)))
  have HP := Lib.hid hp
  have HO := Lib.hid ho
  clear hp hm ho
  unfold trV
  go_enter Tryd.func52, Tryd.ntmps52
  go_wp2_with fail
  refine HP.out.mono ?_
  rintro e w1 ⟨X, rfl, hX, hb⟩
  have hXs : X.size ≤ 200000 := by
    have h1 := rend_len k.toNat s.data.toList
    have h2 : s.data.toList.length = s.size := by simp
    have h3 : X.data.toList.length = X.size := by simp
    rw [hX] at h3
    omega
  have hb2 := (below1 W (.cells #[.bool false, .int .u8 k, .string s, .int .i64 a, .slice q n c] 41)).trans (hb.mono (by simp))
  have HO2 := Lib.hid (own_later HO.out hb2)
  have HX := Lib.hid hX
  have HB2 := Lib.hid hb2
  clear hX hb hb2 HP
  go_wp2_with (at_builtin; refine wpList_append_str rfl _ _ 22 9 rfl B i5 Tryd.underlying22 Tryd.underlying9 hi5 hz0 hz1 hz2 v N xs rfl HO2.out X rfl ?b1 ?b2 ?_)
  case b1 => omega
  case b2 => exact Nat.le_trans hB HB2.out.size
  intro v' w2 hR
  have HR := Lib.hid hR
  clear hR
  go_wp2_with fail
  go_ret
  refine ⟨v', rfl, ?_⟩
  have h1 := HR.out.from_ HB2.out
  rw [HX.out] at h1
  exact h1
set_option maxRecDepth 100000 in
set_option maxHeartbeats 6400000 in
theorem write52_step (n : Nat) (ih : ∀ m, m < n → WriteP m) : WriteP n := by
  intro x hsz hzb l k s a q c W F B N v xs hs hx hF hc hn hm ho hB h0 hN
  cases l with
  | false =>
    have h := write52_leaf k s a q x.len c W B N v xs hs hm ho hB (by omega)
    simpa [txtT] using h
  | true =>
  obtain ⟨i5, hi5, hz0, hz1, hz2⟩ := info5
  have htt : txtT true k s x = 40 :: (txtF true x ++ [41]) := by simp [txtT]
  rw [htt] at hN ⊢
  clear htt
  obtain ⟨T, hT⟩ : ∃ T, T = 40 :: txtF true x := ⟨_, rfl⟩
  have hT2 : 40 :: (txtF true x ++ [41]) = T ++ [41] := by rw [hT]; rfl
  rw [hT2] at hN ⊢
  obtain ⟨L, hL⟩ : ∃ L, L = T.length := ⟨_, rfl⟩
  have hNL : N + L + 1 ≤ 1099511627776 := by simp only [List.length_append, List.length_cons, List.length_nil] at hN; omega
  obtain ⟨M, hM⟩ : ∃ M, M = x.len := ⟨_, rfl⟩
  rw [← hM] at hc hn ⊢
  have i1 : (M : Int) ≤ 281474976710656 := by omega
  have HX := Lib.hid (And.intro hx hF)
  have HI := Lib.hid (show (M = x.len ∧ x.size ≤ n ∧ T = 40 :: txtF true x ∧ L = T.length ∧ szB 65536 x) from ⟨hM, hsz, hT, hL, hzb⟩)
  have HO := Lib.hid ho
  have HM := Lib.hid hm
  have IH := Lib.hid ih
  have HNL := Lib.hid hNL
  have HBB := Lib.hid (And.intro hB h0)
  clear hx hF hM hsz hT hL hzb ho hm ih hT2 hN hNL hB h0
  unfold trV
  obtain ⟨W1, hW1⟩ : ∃ W1, W1 = W.alloc (.cells #[.bool true, .int .u8 k, .string s, .int .i64 a, .slice q M c] 41) := ⟨_, rfl⟩
  have HB1 := Lib.hid (show Below W.heap.size W W1 by rw [hW1]; exact below1 _ _)
  have hs1 : W1.heap.size = W.heap.size + 1 := by rw [hW1]; simp
  have HS1 := Lib.hid hs1
  have y0 : W1.cell? ⟨W.heap.size, 0, none⟩ = some (.bool true) := by rw [hW1]; simp [go_sem]
  have y4 : W1.cell? ⟨W.heap.size, 4, none⟩ = some (.slice q M c) := by rw [hW1]; simp [go_sem]
  have HO1 := Lib.hid (own_later HO.out HB1.out)
  have HO1b := Lib.hid (own_later HO1.out (below1 W1 (.cells #[.int .u8 40] 5)))
  clear hs1
  have hz4' := fun (w2 : World) (v1 : Value) (hR1 : RowS B (W1.alloc (.cells #[.int .u8 40] 5)) v N xs w2 v1 [40]) => hR1.cell (b := W.heap.size) (o := 4) (cell_later (below1 W1 (.cells #[.int .u8 40] 5)) y4) (fun e => by have := (own_lt HO.out e).2; omega)
  have HZ4 := Lib.hid hz4'
  clear hz4'
  subst hW1
  go_enter Tryd.func52, Tryd.ntmps52
  go_wp2_with (at_builtin; refine wpList_append_byte rfl _ _ 22 rfl B i5 Tryd.underlying22 hi5 hz0 hz1 hz2 v N xs rfl HO1b.out ⟨W.heap.size + 1, 0, none⟩ 40 rfl ?b0 ?b1 ?b2 ?_)
  case b0 => simp [go_sem, u8v, Addr.add]
  case b1 => have := HNL.out; omega
  case b2 => have := HBB.out.1; simp; omega
  intro v1 w2 hR1
  have hz4 := HZ4.out w2 v1 hR1
  have HR1 := Lib.hid ((hR1.from_ (below1 _ _)).from_ HB1.out)
  clear hR1 y0 y4 HZ4
  go_wp2_with fail
  go_loopg [0, 5, 6, 21] M (fun gk s0 s5 s6 s21 wx => ∃ (i : Nat) (f : Fo) (vv : Value), i + gk = M ∧ s21 = .int .i64 (i : Int) ∧ vv = s0 ∧ Hid (∃ D : List UInt8, f.len = gk ∧ RowS B W v N xs wx vv D ∧ D ++ txtF (decide (i = 0)) f = T ∧ f.size ≤ x.size ∧ szB 65536 f ∧ FoIn wx F f (pl q i)))
  case atStart =>
    refine ⟨0, x, _, by omega, rfl, rfl, Lib.hid ⟨[40], HI.out.1.symm, HR1.out, HI.out.2.2.1.symm, Nat.le_refl _, HI.out.2.2.2.2, pl_zero (HR1.out.foIn HO.out HX.out.2 HX.out.1)⟩⟩
  case round =>
    obtain ⟨i, f, vv, hk, rfl, rfl, HK⟩ := hrel
    have HG := Lib.hid hk
    have hi2 : i ≤ M := by omega
    clear hk
    obtain ⟨wA, hwA⟩ : ∃ w, w = wr := ⟨_, rfl⟩
    subst hwA
    have i2 : (i : Int) ≤ (M : Int) := by omega
    obtain ⟨D, hf, hR, hD, hfs, hfz, hfx⟩ := HK.out
    have hDl : D.length ≤ L := by rw [HI.out.2.2.2.1, ← hD]; simp
    have HHR := Lib.hid hR
    have hoA : wA.ownsRow B 5 1 vv (N + D.length) (xs ++ D.map u8v) := hR.1
    have HOA := Lib.hid hoA
    have hmA : MaxAt wA := hR.max HO.out HBB.out.2 HM.out
    have HMA := Lib.hid hmA
    have hBA : B ≤ wA.heap.size := Nat.le_trans HBB.out.1 hR.size
    have HBA := Lib.hid hBA
    clear hR hoA hmA hBA HK
    by_cases hlt : i < M
    · obtain ⟨G, rfl⟩ : ∃ G, gk = G + 1 := ⟨gk - 1, by have := HG.out; omega⟩
      have i0 : (0 : Int) ≤ (i : Int) := by omega
      have i3 : (i : Int) < (M : Int) := by omega
      obtain ⟨b, off, rfl⟩ : ∃ b off, q = some ⟨b, off, none⟩ := HX.out.1.some (by rw [← HI.out.1]; omega)
      cases f with
      | nil => simp [Fo.len] at hf
      | cons l1 k1 s1 a1 x1 r1 =>
        obtain ⟨hbF, e0, e1, e2, e3, ⟨q3, cc3, e4, hc3, hm3, hx3⟩, hr3⟩ := hfx.head
        have hDT : D ++ ((if decide (i = 0) = true then [] else [32]) ++ (txtT l1 k1 s1 x1 ++ txtF false r1)) = T := hD
        have HDT := Lib.hid hDT
        obtain ⟨hz1', hz2', hz3'⟩ := hfz
        have HC := Lib.hid (fun (w' : World) (v' : Value) (N' : Nat) (xs' : List Value) (h1 : FoIn w' F x1 q3) (h2 : MaxAt w') (h3 : w'.ownsRow B 5 1 v' N' xs') (h4 : B ≤ w'.heap.size) (h5 : N' + (txtT l1 k1 s1 x1).length ≤ 1099511627776) => IH.out x1.size (by have := HI.out.2.1; simp only [Fo.size] at hfs; omega) x1 (Nat.le_refl _) hz2' l1 k1 s1 a1 q3 cc3 w' F B N' v' xs' hz1' h1 HX.out.2 hc3 hm3 h2 h3 h4 HBB.out.2 h5)
        have HS := Lib.hid (show (r1.len = G ∧ r1.size ≤ x.size ∧ szB 65536 r1) from ⟨by simpa [Fo.len] using hf, by simp only [Fo.size] at hfs; omega, hz3'⟩)
        have HXX := Lib.hid (And.intro hx3 hr3)
        obtain ⟨n3, hn3⟩ : ∃ n3, n3 = x1.len := ⟨_, rfl⟩
        rw [← hn3] at HC e4
        clear hn3 hf hD hDT hfs hz1' hz2' hz3' hfx hx3 hr3 hc3 hm3
        unfold trV at HC
        by_cases hi0 : i = 0
        · subst hi0
          simp only [Nat.zero_mul, Nat.add_zero] at e0 e1 e2 e3 e4
          have hT3 : D ++ (txtT l1 k1 s1 x1 ++ txtF false r1) = T := by have := HDT.out; simpa using this
          have HT3 := Lib.hid hT3
          have HLT := Lib.hid (show D.length + (txtT l1 k1 s1 x1).length ≤ L by rw [HI.out.2.2.2.1, ← hT3]; simp)
          have hC2 := HC.out (wA.alloc (.cells #[.bool l1, .int .u8 k1, .string s1, .int .i64 a1, .slice q3 n3 cc3] 41)) vv (N + D.length) (xs ++ D.map u8v) (HXX.out.1.later (below1 _ _)) (HMA.out.later (below1 _ _)) (own_later HOA.out (below1 _ _)) (by have := HBA.out; simp; omega) (by have := HLT.out; have := HNL.out; omega)
          have HC2 := Lib.hid hC2
          clear hT3 hC2 HDT HC
          go_wp2_with fail
          refine HC2.out.mono ?_
          rintro e w4 ⟨v3, rfl, hR3⟩
          have hR4 := HHR.out.trans (hR3.from_ (below1 wA _))
          have HR4 := Lib.hid hR4
          have HFX := Lib.hid ((hR3.from_ (below1 wA _)).foIn HOA.out HX.out.2 HXX.out.2)
          clear hR3 hR4
          go_wp2_with fail
          go_roundg G
          case measure => omega
          case rel =>
            refine ⟨1, r1, _, by have := HG.out; omega, by simp, rfl, Lib.hid ⟨D ++ txtT l1 k1 s1 x1, HS.out.1, HR4.out, ?_, HS.out.2.1, HS.out.2.2, HFX.out⟩⟩
            rw [List.append_assoc]; exact HT3.out
        · have hi4 : (0 : Int) < (i : Int) := by omega
          have hi5' : 0 < i := by omega
          have hT3 : D ++ ([32] ++ (txtT l1 k1 s1 x1 ++ txtF false r1)) = T := by have := HDT.out; rw [if_neg (by simpa using hi0)] at this; exact this
          have HT3 := Lib.hid hT3
          have HLT := Lib.hid (show D.length + 1 + (txtT l1 k1 s1 x1).length ≤ L by rw [HI.out.2.2.2.1, ← hT3]; simp; omega)
          clear hT3 HDT
          obtain ⟨W3, hW3⟩ : ∃ W3, W3 = wA.alloc (.cells #[.bool l1, .int .u8 k1, .string s1, .int .i64 a1, .slice q3 n3 cc3] 41) := ⟨_, rfl⟩
          have HB3 := Lib.hid (show Below wA.heap.size wA W3 by rw [hW3]; exact below1 _ _)
          have g0 : W3.cell? ⟨wA.heap.size, 0, none⟩ = some (.bool l1) := by rw [hW3]; simp [go_sem]
          have g1 : W3.cell? ⟨wA.heap.size, 1, none⟩ = some (.int .u8 k1) := by rw [hW3]; simp [go_sem]
          have g2 : W3.cell? ⟨wA.heap.size, 2, none⟩ = some (.string s1) := by rw [hW3]; simp [go_sem]
          have g3 : W3.cell? ⟨wA.heap.size, 3, none⟩ = some (.int .i64 a1) := by rw [hW3]; simp [go_sem]
          have g4 : W3.cell? ⟨wA.heap.size, 4, none⟩ = some (.slice q3 n3 cc3) := by rw [hW3]; simp [go_sem]
          have HO3 := Lib.hid (own_later (own_later HOA.out HB3.out) (below1 W3 (.cells #[.int .u8 32] 5)))
          have hkk := fun (v2 : Value) (w3 : World) (hR2 : RowS B (W3.alloc (.cells #[.int .u8 32] 5)) vv (N + D.length) (xs ++ D.map u8v) w3 v2 [32]) => (show (w3.cell? ⟨wA.heap.size, 0, none⟩ = some (.bool l1) ∧ w3.cell? ⟨wA.heap.size, 1, none⟩ = some (.int .u8 k1) ∧ w3.cell? ⟨wA.heap.size, 2, none⟩ = some (.string s1) ∧ w3.cell? ⟨wA.heap.size, 3, none⟩ = some (.int .i64 a1) ∧ w3.cell? ⟨wA.heap.size, 4, none⟩ = some (.slice q3 n3 cc3)) ∧ RowS B wA vv (N + D.length) (xs ++ D.map u8v) w3 v2 [32] from
            have hne : vv.ownBlock ≠ some wA.heap.size := fun e => by have := (own_lt HOA.out e).2; omega
            ⟨⟨hR2.cell (cell_later (below1 W3 (.cells #[.int .u8 32] 5)) g0) hne, hR2.cell (cell_later (below1 W3 (.cells #[.int .u8 32] 5)) g1) hne, hR2.cell (cell_later (below1 W3 (.cells #[.int .u8 32] 5)) g2) hne, hR2.cell (cell_later (below1 W3 (.cells #[.int .u8 32] 5)) g3) hne, hR2.cell (cell_later (below1 W3 (.cells #[.int .u8 32] 5)) g4) hne⟩, (hR2.from_ (below1 W3 _)).from_ HB3.out⟩)
          have HKK := Lib.hid hkk
          clear hkk g0 g1 g2 g3 g4
          subst hW3
          go_wp2_with (at_builtin; refine wpList_append_byte rfl _ _ 22 rfl B i5 Tryd.underlying22 hi5 hz0 hz1 hz2 vv (N + D.length) (xs ++ D.map u8v) rfl HO3.out ⟨wA.heap.size + 1, 0, none⟩ 32 rfl ?c0 ?c1 ?c2 ?_)
          case c0 => simp [go_sem, u8v, Addr.add]
          case c1 => have := HNL.out; omega
          case c2 => have := HBA.out; simp; omega
          intro v2 w3 hR2
          obtain ⟨⟨k0, k1', k2, k3, k4⟩, hR2b⟩ := HKK.out v2 w3 hR2
          have HR2 := Lib.hid hR2b
          have hC2 := HC.out w3 v2 (N + D.length + 1) (xs ++ D.map u8v ++ [u8v 32]) (hR2b.foIn HOA.out HX.out.2 HXX.out.1) (hR2b.max HOA.out HBB.out.2 HMA.out) hR2b.1 (Nat.le_trans HBA.out hR2b.size) (by have := HLT.out; have := HNL.out; omega)
          have HC2 := Lib.hid hC2
          clear hR2 hR2b hC2 HC HO3 HKK
          go_wp2_with fail
          refine HC2.out.mono ?_
          rintro e w4 ⟨v3, rfl, hR3⟩
          have hR5 := HR2.out.trans hR3
          have hR4 := HHR.out.trans hR5
          have HR4 := Lib.hid hR4
          have HFX := Lib.hid (hR5.foIn HOA.out HX.out.2 HXX.out.2)
          clear hR3 hR4 hR5
          go_wp2_with fail
          go_roundg G
          case measure => omega
          case rel =>
            obtain ⟨i', hi'⟩ : ∃ i', i' = i + 1 := ⟨_, rfl⟩
            refine ⟨i', r1, _, by have := HG.out; omega, by rw [hi']; go_num, rfl, Lib.hid ⟨D ++ ([32] ++ txtT l1 k1 s1 x1), HS.out.1, HR4.out, ?_, HS.out.2.1, HS.out.2.2, by rw [hi']; exact HFX.out⟩⟩
            have h1 := HT3.out
            rw [show decide (i' = 0) = false by simp; omega]
            simpa [List.append_assoc] using h1
    · obtain rfl : i = M := by omega
      obtain rfl : gk = 0 := by have := HG.out; omega
      have hDT : D = T := by
        cases f with
        | cons => simp [Fo.len] at hf
        | nil => simpa [txtF] using hD
      subst hDT
      have HO4 := Lib.hid (own_later HOA.out (below1 wA (.cells #[.int .u8 41] 5)))
      clear hf hD hfs hfz hfx
      go_wp2_with (at_builtin; refine wpList_append_byte rfl _ _ 22 rfl B i5 Tryd.underlying22 hi5 hz0 hz1 hz2 vv (N + D.length) (xs ++ D.map u8v) rfl HO4.out ⟨wA.heap.size, 0, none⟩ 41 rfl ?d0 ?d1 ?d2 ?_)
      case d0 => simp [go_sem, u8v, Addr.add]
      case d1 => have := HNL.out; omega
      case d2 => have := HBA.out; simp; omega
      intro v2 w3 hR2
      have HR2 := Lib.hid (HHR.out.trans (hR2.from_ (below1 wA _)))
      clear hR2
      go_wp2_with fail
      go_ret
      exact ⟨v2, rfl, HR2.out⟩
theorem write52 (n : Nat) : WriteP n := Nat.strongRecOn n fun n ih => write52_step n ih
end Go.Proofs.YtlifankiljbdjaaDoor
