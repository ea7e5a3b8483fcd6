/- The document's text of a tree, whole. -/
import Derived.Test.YtlifankiljbdjaaDoorU16
import Derived.Test.YtlifankiljbdjaaDoorJU2
import Derived.Deep.RegionHeld3
namespace Go.Proofs.YtlifankiljbdjaaDoor
open Go Go.RowKit

theorem txt_bound : ∀ (f : Fo) (b : Bool), szB 65536 f → (txtF b f).length ≤ f.size * 200000
  | .nil, b, _ => by simp [txtF]
  | .cons l k s a x r, b, h => by
    have h1 := txt_bound x true h.2.1
    have h2 := txt_bound r false h.2.2
    have h3 := rend_len k.toNat s.data.toList
    have h4 : s.data.toList.length = s.size := by simp
    have h5 := h.1
    simp only [txtF, List.length_append, Fo.size]
    have h6 : (if b then [] else [32] : List UInt8).length ≤ 1 := by cases b <;> simp
    cases l with
    | true => simp only [if_true, List.length_cons, List.length_append, List.length_nil]; omega
    | false => simp only [Bool.false_eq_true, if_false]; omega
theorem txtT_bound (l : Bool) (k : Int) (s : ByteArray) (x : Fo) (hs : s.size ≤ 65536) (hz : szB 65536 x) : (txtT l k s x).length ≤ (x.size + 1) * 200000 := by
  have h1 := txt_bound x true hz
  have h3 := rend_len k.toNat s.data.toList
  have h4 : s.data.toList.length = s.size := by simp
  unfold txtT
  cases l with
  | true => simp only [if_true, List.length_cons, List.length_append, List.length_nil]; omega
  | false => simp only [Bool.false_eq_true, if_false]; omega
set_option maxRecDepth 100000 in
set_option maxHeartbeats 3200000 in
theorem text30 (l : Bool) (k : Int) (s : ByteArray) (a : Int) (q : Option Addr) (c : Nat) (x : Fo) (W : World) (F0 : Nat → Prop) (hx0 : FoIn W F0 x q) (hc : x.len ≤ c) (hn : x.len ≤ 281474976710656) (hs : s.size ≤ 65536) (hz : szB 65536 x) (hsz : x.size ≤ 1000000) :
    Calls Tryd.prog 30 #[trV l k s a q x.len c] W (TextE l k s x W) := by
  have hx : FoIn W (fun b => b < W.heap.size) x q := hx0.mono (fun b _ hb => hb)
  have htb := txtT_bound l k s x hs hz
  have hw := write53 x.size x (Nat.le_refl _) hz l k s a q c (W.alloc (.cells #[.bool l, .int .u8 k, .string s, .int .i64 a, .slice q x.len c] 41)) (fun b => b < W.heap.size) W.heap.size 0 (.slice none 0 0) [] hs (hx.later (below1 _ _)) (fun b h => h) hc hn (World.ownsRow_nil _ _ _ _) (by simp) (by omega)
  have hd := fun (w : World) (h : Below W.heap.size W w) => depth32 l k s a q c x w _ (hx.later h) hc hn
  obtain ⟨T, hT⟩ : ∃ T, T = txtT l k s x := ⟨_, rfl⟩
  obtain ⟨OK, hOK⟩ : ∃ OK, OK = okT l k s x := ⟨_, rfl⟩
  obtain ⟨DP, hDP⟩ : ∃ DP, DP = depT l x 201 := ⟨_, rfl⟩
  have hR : textR l k s x = if OK = false then ([], 5) else if 200 < DP then ([], 40) else if 1048576 < T.length then ([], 3) else (T, 0) := by rw [hT, hOK, hDP]; rfl
  have hdl : DP ≤ 201 := by rw [hDP]; exact depT_le _ _ _
  have htl : T.length ≤ 1099511627776 := by rw [hT]; omega
  rw [← hT, ← hOK] at hw
  rw [← hDP] at hd
  unfold TextE
  obtain ⟨M, hM⟩ : ∃ M, M = x.len := ⟨_, rfl⟩
  rw [← hM] at hw hd hn ⊢
  unfold trV at hw hd ⊢
  obtain ⟨R, hRR⟩ : ∃ R, R = textR l k s x := ⟨_, rfl⟩
  rw [← hRR]
  have HR := Lib.hid (hRR.trans hR)
  clear hRR
  have HWR := Lib.hid hw
  have HD := Lib.hid hd
  have i1 : (M : Int) ≤ 281474976710656 := by omega
  have i2 : (DP : Int) ≤ 201 := by omega
  obtain ⟨TL, hTL⟩ : ∃ TL, TL = T.length := ⟨_, rfl⟩
  rw [← hTL] at htl
  have HTL := Lib.hid hTL
  have i3 : (TL : Int) ≤ 1099511627776 := by omega
  clear hx0 hx htb hw hd hT hOK hDP hR hM hTL hs hz hsz hc
  go_enter Tryd.func30, Tryd.ntmps30
  go_wp2_with fail
  refine HWR.out.mono ?_
  rintro e w2 ⟨v', rfl, hrow, hon⟩
  have hb2 : Below (W.alloc (.cells #[.bool l, .int .u8 k, .string s, .int .i64 a, .slice q M c] 41)).heap.size (W.alloc (.cells #[.bool l, .int .u8 k, .string s, .int .i64 a, .slice q M c] 41)) w2 := hon.below (fun k h => by cases h) (Nat.le_refl _)
  have HB2 := Lib.hid ((below1 W (.cells #[.bool l, .int .u8 k, .string s, .int .i64 a, .slice q M c] 41)).trans (hb2.mono (by simp)))
  have x0 : w2.cell? ⟨W.heap.size, 0, none⟩ = some (.bool l) := cell_later hb2 (by simp [go_sem])
  have x1 : w2.cell? ⟨W.heap.size, 1, none⟩ = some (.int .u8 k) := cell_later hb2 (by simp [go_sem])
  have x2 : w2.cell? ⟨W.heap.size, 2, none⟩ = some (.string s) := cell_later hb2 (by simp [go_sem])
  have x3 : w2.cell? ⟨W.heap.size, 3, none⟩ = some (.int .i64 a) := cell_later hb2 (by simp [go_sem])
  have x4 : w2.cell? ⟨W.heap.size, 4, none⟩ = some (.slice q M c) := cell_later hb2 (by simp [go_sem])
  clear hb2 hon HWR
  cases OK with
  | false =>
    clear hrow
    go_wp2_with fail
    go_ret2
    exact ⟨_, _, rfl, (by rw [HR.out]; rfl), HB2.out⟩
  | true =>
    have hrow := (hrow rfl).1
    simp only [Nat.zero_add, List.nil_append] at hrow
    obtain ⟨p, c', rfl, _⟩ := own_shape hrow
    have hby := own_bytes hrow
    rw [← HTL.out] at hby ⊢
    have HBY := Lib.hid hby.2
    clear hrow hby
    go_wp2_with fail
    refine (HD.out _ HB2.out).mono ?_
    rintro e w3 ⟨rfl, hb3⟩
    have hcv := conv_txt w3 p c' T (HBY.out.later hb3)
    have HB3 := Lib.hid (HB2.out.trans (hb3.mono HB2.out.size))
    clear hb3 x0 x1 x2 x3 x4 HBY HD
    rw [← HTL.out] at hcv
    by_cases hd : 200 < DP
    · have j1 : (200 : Int) < (DP : Int) := by omega
      clear hcv
      go_wp2_with fail
      go_ret2
      exact ⟨_, _, rfl, (by rw [HR.out, if_neg (by decide), if_pos hd] <;> rfl), HB3.out⟩
    · have j1 : ¬ (200 : Int) < (DP : Int) := by omega
      have j2 : decide (200 < DP) = false := by simp; omega
      by_cases ht : 1048576 < TL
      · have j3 : (1048576 : Int) < (TL : Int) := by omega
        clear hcv
        go_wp2_with fail
        go_ret2
        exact ⟨_, _, rfl, (by rw [HR.out, if_neg (by decide), if_neg hd, if_pos (by rw [← HTL.out]; exact ht)] <;> rfl), HB3.out⟩
      · have j3 : ¬ (1048576 : Int) < (TL : Int) := by omega
        have j4 : decide (1048576 < TL) = false := by simp; omega
        go_wp2_with fail
        go_ret2
        exact ⟨_, _, rfl, (by rw [HR.out, if_neg (by decide), if_neg hd, if_neg (by rw [← HTL.out]; exact ht)]), HB3.out⟩
end Go.Proofs.YtlifankiljbdjaaDoor
