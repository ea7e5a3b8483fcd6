/- TreeBack: the law's walk. -/
import Derived.Test.YtlifankiljbdjaaDoorU13
import Derived.Test.YtlifankiljbdjaaDoorU22
import Derived.Test.YtlifankiljbdjaaDoorU19
import Derived.Deep.RegionHeld3
import Derived.Deep.DeepCutAuto
namespace Go.Proofs.YtlifankiljbdjaaDoor
open Go Go.RowKit

theorem below_self3 {W w w' : World} (h : Below W.heap.size W w) (k : Below w.heap.size w w') : Below W.heap.size W w' := h.trans (k.mono h.size)
/-- Text, Tokens, Next, Same: their contracts as this law calls them. -/
theorem text_call (l : Bool) (k : Int) (s : ByteArray) (a : Int) (q : Option Addr) (c n : Nat) (x : Fo) (w : World) (F : Nat → Prop) (hx : FoIn w F x q) (hc : x.len ≤ c) (hz : SzOk s x) (hm : MaxAt w) (hn : n = x.len) :
    Calls Tryd.prog 29 #[.agg #[.bool l, .int .u8 k, .string s, .int .i64 a, .slice q n c]] w (TextE l k s x w) := by
  have h := text29 l k s a q c x w F hx hc (by have := hz.2.2.2; omega) hz.1 hz.2.1 (by have := hz.2.2.1; omega) hm
  rw [← hn] at h
  exact h
theorem tok_call (p : Option Addr) (c n : Nat) (B : List UInt8) (w : World) (hb : BytesIn w p B) (hc : B.length ≤ c) (hn : n = B.length) (h2 : B.length ≤ 200000) {L : List Tk} {pL er : Nat} (hT : Toks B 0 L pL er) :
    Calls Tryd.prog 15 #[.slice p n c] w fun e w' => ∃ (p' : Option Addr) (c' : Nat), e = .returned (.tuple #[.slice p' L.length c', .int .i64 (pL : Int), .int .i64 (er : Int)]) ∧ w'.ownsRow w.heap.size 33 3 (.slice p' L.length c') L.length (rowT L) ∧ Below w.heap.size w w' := by
  have h := reftokens_any p c B w hb hc (by omega)
  rw [← hn] at h
  refine h.mono ?_
  rintro e w1 ⟨p1, c1, l1, a1, e1, rfl, htk, hown, hb1⟩
  obtain ⟨rfl, rfl, rfl⟩ := htk.uniq hT
  exact ⟨p1, c1, rfl, hown, hb1⟩
theorem toks_small {B : List UInt8} {L : List Tk} {pL er : Nat} (hT : Toks B 0 L pL er) (h2 : B.length ≤ 200000) : (L.map toA).length ≤ 1048576 ∧ ∀ t ∈ L.map toA, t.s.size ≤ 281474976710656 := by
  have h3 := toks_wt hT
  have h4 := wtA_length (L.map toA)
  exact ⟨by omega, fun t ht => by have := wtA_mem _ t ht; omega⟩
theorem next_call (p : Option Addr) (c bz : Nat) (L : List Tk) (w : World) (hown : w.ownsRow bz 33 3 (.slice p L.length c) L.length (rowT L)) {B : List UInt8} {pL er : Nat} (hT : Toks B 0 L pL er) (h2 : B.length ≤ 200000) {b : Bool} {k : Int} {s : ByteArray} {a : Int} {g : Fo} (hO : NextO (L.map toA) 0 b k s a g ((L.map toA).length : Int) 0) (n : Nat) (hn : n = L.length) :
    Calls Tryd.prog 21 #[.slice p n c, .int .i64 0] w fun e w' => ∃ (q' : Option Addr) (c' : Nat), e = .returned (.tuple #[.agg #[.bool b, .int .u8 k, .string s, .int .i64 a, .slice q' g.len c'], .int .i64 (n : Int), .int .i64 0]) ∧ g.len ≤ c' ∧ FoIn w' (fun x => w.heap.size ≤ x) g q' ∧ Below w.heap.size w w' := by
  have hs := toks_small hT h2
  have hcap := own_cap hown
  have hnx := next21 p c (L.map toA) 0 w (own_tks hown).toA (by rw [List.length_map]; exact hcap) hs.1 hs.2
  rw [List.length_map, ← hn] at hnx
  refine hnx.mono ?_
  rintro e w1 ⟨q1, c1, b1, k1, s1, a1, g1, n1, e1, rfl, hg1, hg2, hb1, hO1⟩
  obtain ⟨rfl, rfl, rfl, rfl, rfl, rfl, rfl⟩ := hO1.uniq hO
  exact ⟨q1, c1, by rw [List.length_map, ← hn]; rfl, hg1, hg2, hb1⟩
theorem same_call (l : Bool) (k : Int) (s : ByteArray) (a : Int) (q : Option Addr) (c n : Nat) (x : Fo) (l' : Bool) (k' : Int) (s' : ByteArray) (a' : Int) (q' : Option Addr) (c' n' : Nat) (x' : Fo) (w : World) (F F' : Nat → Prop) (hx : FoIn w F x q) (hx' : FoIn w F' x' q') (hc : x.len ≤ c) (hc' : x'.len ≤ c') (hl : x.len ≤ 281474976710656) (hl' : x'.len ≤ 281474976710656) (hn : n = x.len) (hn' : n' = x'.len) (hS : sameT l k s x l' k' s' x' = true) :
    Calls Tryd.prog 33 #[.agg #[.bool l, .int .u8 k, .string s, .int .i64 a, .slice q n c], .agg #[.bool l', .int .u8 k', .string s', .int .i64 a', .slice q' n' c']] w fun e w' => e = .returned (.bool true) ∧ Below w.heap.size w w' := by
  have h := same33_any x.size x x' (Nat.le_refl _) l l' k k' s s' a a' q q' c c' w F F' hx hx' hc hc' hl hl'
  rw [hS, ← hn, ← hn'] at h
  exact h
set_option maxRecDepth 100000 in
set_option maxHeartbeats 6400000 in
theorem treeback_any (l : Bool) (k : Int) (s : ByteArray) (a : Int) (q : Option Addr) (c : Nat) (x : Fo) (pb : Option Addr) (cb : Nat) (bs : List UInt8) (W : World) (F : Nat → Prop)
    (hx : FoIn W F x q) (hc : x.len ≤ c) (hn : x.len ≤ 281474976710656) (hs : s.size ≤ 140737488351232) (hz : szB 140737488351232 x) (hby : BytesIn W pb bs) (hk : bs.length ≤ cb) (hm : MaxAt W) :
    Calls Tryd.prog 10 #[trV l k s a q x.len c, .slice pb bs.length cb] W fun e w' => e = .returned (.bool true) ∧ Below W.heap.size W w' := by
  have HKN := Lib.hid (fun (w : World) (h : Below W.heap.size W w) => known20 w (hm.later h))
  have HMX := Lib.hid (fun (w : World) (h : Below W.heap.size W w) => hm.later h)
  have HBY := Lib.hid (And.intro hby hk)
  have HXX := Lib.hid (And.intro hx (And.intro hc hn))
  have hg0 := great27 l k s a q c x (W.alloc (.cells #[.bool l, .int .u8 k, .string s, .int .i64 a, .slice q x.len c] 41)) _ (hx.later (below1 W _)) hc hn hs hz
  obtain ⟨M, hM⟩ : ∃ M, M = x.len := ⟨_, rfl⟩
  obtain ⟨n, hnl⟩ : ∃ n, n = bs.length := ⟨_, rfl⟩
  rw [← hM] at hg0 ⊢
  rw [← hnl]
  have HM := Lib.hid hM
  have HNL := Lib.hid hnl
  simp only [trV] at hg0 ⊢
  have HG1 := Lib.hid hg0
  clear hg0 hM hnl hx hc hn hs hz hby hk hm
  have HV1 := Lib.hid (show Below W.heap.size W (W.alloc (.cells #[.bool l, .int .u8 k, .string s, .int .i64 a, .slice q M c] 41)) ∧ ∀ w, Below (W.alloc (.cells #[.bool l, .int .u8 k, .string s, .int .i64 a, .slice q M c] 41)).heap.size (W.alloc (.cells #[.bool l, .int .u8 k, .string s, .int .i64 a, .slice q M c] 41)) w → (w.cell? ⟨W.heap.size, 0, none⟩ = some (.bool l) ∧ w.cell? ⟨W.heap.size, 1, none⟩ = some (.int .u8 k) ∧ w.cell? ⟨W.heap.size, 2, none⟩ = some (.string s) ∧ w.cell? ⟨W.heap.size, 3, none⟩ = some (.int .i64 a) ∧ w.cell? ⟨W.heap.size, 4, none⟩ = some (.slice q M c)) from ⟨below1 W _, fun w h => ⟨cell_later h (by simp [go_sem]), cell_later h (by simp [go_sem]), cell_later h (by simp [go_sem]), cell_later h (by simp [go_sem]), cell_later h (by simp [go_sem])⟩⟩)
  obtain ⟨V1, hV1⟩ : ∃ V1, V1 = (W.alloc (.cells #[.bool l, .int .u8 k, .string s, .int .i64 a, .slice q M c] 41)) := ⟨_, rfl⟩
  have HE1 := Lib.hid hV1
  rw [← hV1] at HV1 HG1
  clear hV1
  go_enter Tryd.func10, Tryd.ntmps10
  go_wp2_with fail
  rw [← HE1.out]
  refine HG1.out.mono ?_
  rintro e w3 ⟨g1, rfl, hg1, hb3⟩
  have HW3 := Lib.hid (below_self3 HV1.out.1 hb3)
  have HB3 := Lib.hid hb3
  have HGA := Lib.hid hg1
  clear hb3 hg1 HG1
  cases g1 with
  | true =>
    go_wp2_with fail
    refine (HKN.out _ HW3.out).mono ?_
    rintro e w4 ⟨rfl, hb4⟩
    have HB4 := Lib.hid (below_self3 HW3.out hb4)
    clear hb4
    go_wp2_with fail
    go_ret
    exact ⟨rfl, HB4.out⟩
  | false =>
  by_cases hbig : 5000 < n
  · have i1 : (5000 : Int) < (n : Int) := by omega
    go_wp2_with fail
    refine (HKN.out _ HW3.out).mono ?_
    rintro e w4 ⟨rfl, hb4⟩
    have HB4 := Lib.hid (below_self3 HW3.out hb4)
    clear hb4
    go_wp2_with fail
    go_ret
    exact ⟨rfl, HB4.out⟩
  have i1 : ¬ (5000 : Int) < (n : Int) := by omega
  have i2 : decide ((5000 : Int) < (n : Int)) = false := by simpa using i1
  have htw := HGA.out (by simp)
  have HSZ := Lib.hid (show SzOk s x ∧ (txtT l k s x).length ≤ 95000 from by
    have h1 := twF_size x
    have h2 := txtT_tw l k s x
    have h3 := fo_len_size x
    unfold twT at htw h2
    exact ⟨⟨by omega, twF_szB x (by omega), by omega, by omega⟩, by omega⟩)
  clear htw HGA
  obtain ⟨a0, a1, a2, a3, a4⟩ := HV1.out.2 _ HB3.out
  have HTX := Lib.hid (text_call l k s a q c M x w3 F (HXX.out.1.later HW3.out) HXX.out.2.1 HSZ.out.1 (HMX.out _ HW3.out) HM.out)
  go_wp2_with fail
  refine HTX.out.mono ?_
  rintro e w4 ⟨X, er, rfl, hX, hb4⟩
  have HX := Lib.hid hX
  have HB4 := Lib.hid (HB3.out.trans (hb4.mono HB3.out.size))
  have HW4 := Lib.hid (below_self3 HW3.out hb4)
  clear hX hb4 HTX a0 a1 a2 a3 a4
  go_upto_if 42 with (fail)
  go_cut [] (fun wx => Hid (Below W.heap.size W wx))
  case first =>
    by_cases her : er = 0
    case neg =>
      have q1 : (er == 0) = false := by simpa using her
      go_wp2_with fail
      go_meet
      exact Lib.hid HW4.out
    subst her
    obtain ⟨ho, hd, hXt, hXl⟩ := textR_inv HX.out.symm
    obtain ⟨L, pL, hT, k', s', a', g, hO, hsame, hgl⟩ := text_back (a := a) ho hd false (.inr ⟨rfl, rfl⟩)
    obtain ⟨cap, w5, hcv, hcap, hb5, hby, hsz5⟩ := conv_bytes w4 ((⟨#[32]⟩ : ByteArray) ++ X ++ (⟨#[10]⟩ : ByteArray))
    rw [cat32, hXt] at hby
    have hXs : X.size = (txtT l k s x).length := by rw [← hXt]; simp
    have hsze : ((⟨#[32]⟩ : ByteArray) ++ X ++ (⟨#[10]⟩ : ByteArray)).size = 1 + X.size + 1 := by rw [ByteArray.size_append, ByteArray.size_append]; rfl
    have h95 := HSZ.out.2
    have hlB : (32 :: (txtT l k s x ++ [10])).length = 1 + X.size + 1 := by rw [hXs]; simp; omega
    have hct := tok_call (some ⟨w4.heap.size, 0, none⟩) cap (1 + X.size + 1) _ w5 hby (by rw [hlB, ← hsze]; exact hcap) hlB.symm (by omega) hT
    have HCT := Lib.hid hct
    have HTO := Lib.hid (And.intro hT (And.intro hO (And.intro hsame (And.intro hgl hlB))))
    have HB5 := Lib.hid (HB4.out.trans (hb5.mono HB4.out.size))
    have HW5 := Lib.hid (below_self3 HW4.out hb5)
    have hXn : X.size ≤ 95000 := by omega
    clear hcap hb5 hby hsz5 hct hT hO hsame hgl ho hd hXt hXl hXs hsze h95 hlB
    go_wp2_with fail
    refine HCT.out.mono ?_
    rintro e w6 ⟨p6, c6, rfl, hown, hb6⟩
    have HB6 := Lib.hid (HB5.out.trans (hb6.mono HB5.out.size))
    have HW6 := Lib.hid (below_self3 HW5.out hb6)
    obtain ⟨N6, hN6⟩ : ∃ N6, N6 = L.length := ⟨_, rfl⟩
    have hnx := next_call p6 c6 _ L w6 hown HTO.out.1 (by rw [HTO.out.2.2.2.2]; omega) HTO.out.2.1 N6 hN6
    rw [← hN6]
    have HNX := Lib.hid hnx
    clear hown hb6 hN6 hnx HCT hcv
    go_wp2_with fail
    refine HNX.out.mono ?_
    rintro e w7 ⟨q7, c7, rfl, hc7, hf7, hb7⟩
    obtain ⟨M7, hM7⟩ : ∃ M7, M7 = g.len := ⟨_, rfl⟩
    rw [← hM7]
    have hbx := below1 w7 (.cells #[.bool l, .int .u8 k', .string s', .int .i64 a', .slice q7 M7 c7] 41)
    have hB8 := (HB6.out.trans (hb7.mono HB6.out.size)).trans (hbx.mono (HB6.out.trans (hb7.mono HB6.out.size)).size)
    have hW8 := below_self3 (below_self3 HW6.out hb7) hbx
    obtain ⟨a0, a1, a2, a3, a4⟩ := HV1.out.2 _ hB8
    have hsm := same_call l k s a q c M x l k' s' a' q7 c7 M7 g _ F _ (HXX.out.1.later hW8) (hf7.later hbx) HXX.out.2.1 hc7 HXX.out.2.2 (by have h1 := HTO.out.2.2.2.1; have h2 := HXX.out.2.2; omega) HM.out hM7 HTO.out.2.2.1
    have HSM := Lib.hid hsm
    have HW8 := Lib.hid hW8
    clear hc7 hf7 hb7 hM7 hbx hB8 hW8 hsm HNX
    go_wp2_with fail
    refine HSM.out.mono ?_
    rintro e w9 ⟨rfl, hb9⟩
    have HW9 := Lib.hid (below_self3 HW8.out hb9)
    clear hb9 HSM a0 a1 a2 a3 a4
    go_wp2_with fail
    go_meet
    exact Lib.hid HW9.out
  case rest =>
    have HWC := Lib.hid hcut.out
    have hct := reftokens_any pb cb bs wc (HBY.out.1.later HWC.out) HBY.out.2 (by have := HNL.out; omega)
    rw [← HNL.out] at hct
    have HCT := Lib.hid hct
    have hn5 : n ≤ 5000 := by omega
    clear hct hcut
    go_wp2_with fail
    refine HCT.out.mono ?_
    rintro e w4b ⟨p6, c6, L, pL, er2, rfl, hT, hown, hb6⟩
    have hs6 := toks_small hT (by have := HNL.out; omega)
    have hcap := own_cap hown
    have hall := all24 p6 c6 (L.map toA) w4b (own_tks hown).toA (by rw [List.length_map]; exact hcap) hs6.1 hs6.2
    obtain ⟨N6, hN6⟩ : ∃ N6, N6 = L.length := ⟨_, rfl⟩
    rw [List.length_map, ← hN6] at hall
    rw [← hN6]
    have HW6 := Lib.hid (below_self3 HWC.out hb6)
    have HALL := Lib.hid hall
    have HT := Lib.hid (And.intro hT hs6)
    clear hT hs6 hown hcap hall hN6 hb6 HCT
    go_wp2_with fail
    refine HALL.out.mono ?_
    rintro e w1 ⟨v, f, z, er3, rfl, hown, hfl, hb1, hA⟩
    have hok := all_ok HT.out.1 (by have := HNL.out; omega) hA
    obtain ⟨qv, cv, rfl, hcv1, hfo⟩ := hown.foIn
    obtain ⟨N, hN⟩ : ∃ N, N = f.len := ⟨_, rfl⟩
    rw [← hN] at hcv1 hfl ⊢
    have HFO := Lib.hid (And.intro hfo (And.intro hN hok))
    have HW1 := Lib.hid (below_self3 HW6.out hb1)
    have i6 : N ≤ 1048576 := by have := HT.out.2.1; omega
    have i7 : (N : Int) ≤ 1048576 := by omega
    clear hown hfl hb1 hA hok hfo hN HALL
    go_wp2_with fail
    go_loopg [19, 20, 21, 22, 23, 24, 25, 26, 27] N (fun gk s19 s20 s21 s22 s23 s24 s25 s26 s27 wx => ∃ (i : Nat) (rest : Fo), i + gk = N ∧ s19 = .int .i64 (i : Int) ∧ Hid (rest.len = gk ∧ AllOk rest ∧ FoIn wx (fun b => w4b.heap.size ≤ b) rest (pl qv i) ∧ Below w1.heap.size w1 wx))
    case atStart => exact ⟨0, f, by omega, rfl, Lib.hid ⟨HFO.out.2.1.symm, HFO.out.2.2, pl_zero HFO.out.1, Below.refl _ _⟩⟩
    case round =>
      obtain ⟨i, rest, hk, rfl, HK⟩ := hrel
      have HG := Lib.hid hk
      have hi2 : i ≤ N := by omega
      clear hk
      obtain ⟨wA, hwA⟩ : ∃ w, w = wr := ⟨_, rfl⟩
      subst hwA
      obtain ⟨hrl, hAO, hfo, hb⟩ := HK.out
      have HBA := Lib.hid (below_self3 HW1.out hb)
      have HBB := Lib.hid hb
      have i3 : (i : Int) ≤ (N : Int) := by omega
      clear HK hb
      by_cases hlt : i < N
      case neg =>
        obtain rfl : i = N := by omega
        clear hrl hAO hfo
        go_wp2_with fail
        refine (HKN.out _ HBA.out).mono ?_
        rintro e w5 ⟨rfl, hb5⟩
        have HW5 := Lib.hid (below_self3 HBA.out hb5)
        clear hb5
        go_wp2_with fail
        go_ret
        exact ⟨rfl, HW5.out⟩
      obtain ⟨G, rfl⟩ : ∃ G, gk = G + 1 := ⟨gk - 1, by have := HG.out; omega⟩
      have i0 : (0 : Int) ≤ (i : Int) := by omega
      have i5 : (i : Int) < (N : Int) := by omega
      obtain ⟨bq, offq, rfl⟩ : ∃ b off, qv = some ⟨b, off, none⟩ := HFO.out.1.some (by rw [← HFO.out.2.1]; omega)
      cases rest with
      | nil => simp [Fo.len] at hrl
      | cons b1 k1 s1 a1 x1 r1 =>
      obtain ⟨hbF, e0, e1, e2, e3, ⟨q3, cc3, e4, hc3, hm3, hx3⟩, hr3⟩ := hfo.head
      have hr1 : r1.len = G := by simpa [Fo.len] using hrl
      obtain ⟨n3, hn3⟩ : ∃ n3, n3 = x1.len := ⟨_, rfl⟩
      have hto := hAO.1.1
      have htx := text_call b1 k1 s1 a1 q3 cc3 n3 x1 wA _ hx3 hc3 hAO.1.2 (HMX.out _ HBA.out) hn3
      rw [← hn3] at e4
      have HN3 := Lib.hid hn3
      have HTX := Lib.hid htx
      have HX3 := Lib.hid (And.intro hx3 (And.intro hc3 (And.intro hm3 (And.intro hr3 (And.intro hAO.2 hr1)))))
      have HE := Lib.hid (And.intro e0 (And.intro e1 (And.intro e2 (And.intro e3 e4))))
      have HTO := Lib.hid hto
      clear hto htx hn3 hx3 hc3 hm3 hr3 hAO hr1 hrl hfo hbF
      go_wp2_with fail
      refine HTX.out.mono ?_
      rintro e w5 ⟨X, er, rfl, hX, hb5⟩
      have HB5 := Lib.hid hb5
      clear e0 e1 e2 e3 e4 hb5 HTX
      rcases HTO.out with ⟨ho, hd, hln⟩ | ⟨h1, h2, h3, h4⟩
      · rw [textR_ok ho hd (by omega)] at hX
        obtain ⟨hX1, rfl⟩ := Prod.mk.inj hX
        obtain ⟨L2, pL2, hT2, k', s', a', g, hO, hsame, hgl⟩ := text_back (a := a1) ho hd true (.inl ⟨rfl, rfl⟩)
        obtain ⟨cap, w6, hcvt, hcap, hb6, hby, hsz6⟩ := conv_bytes w5 X
        rw [hX1] at hby
        have hlB : (txtT b1 k1 s1 x1).length = X.size := by rw [← hX1]; simp
        have hct := tok_call (some ⟨w5.heap.size, 0, none⟩) cap X.size _ w6 hby (by rw [hlB]; exact hcap) hlB.symm (by omega) hT2
        have HCT := Lib.hid hct
        have HTT := Lib.hid (And.intro hT2 (And.intro hO (And.intro hsame (And.intro hgl hln))))
        have HB6 := Lib.hid (HB5.out.trans (hb6.mono HB5.out.size))
        have hXn : X.size ≤ 25000 := by omega
        clear hcap hb6 hby hsz6 hct hT2 hO hsame hgl ho hd hX hX1 hlB hln
        go_wp2_with fail
        refine HCT.out.mono ?_
        rintro e w6b ⟨p6b, c6b, rfl, hown, hb6⟩
        have HB6b := Lib.hid (HB6.out.trans (hb6.mono HB6.out.size))
        obtain ⟨N7, hN7⟩ : ∃ N7, N7 = L2.length := ⟨_, rfl⟩
        have hnx := next_call p6b c6b _ L2 w6b hown HTT.out.1 (by have := HTT.out.2.2.2.2; omega) HTT.out.2.1 N7 hN7
        rw [← hN7]
        have HNX := Lib.hid hnx
        clear hown hb6 hN7 hnx HCT hcvt
        go_wp2_with fail
        refine HNX.out.mono ?_
        rintro e w7 ⟨q7, c7, rfl, hc7, hf7, hb7⟩
        obtain ⟨M7, hM7⟩ : ∃ M7, M7 = g.len := ⟨_, rfl⟩
        rw [← hM7]
        have hbx := below1 w7 (.cells #[.bool b1, .int .u8 k', .string s', .int .i64 a', .slice q7 M7 c7] 41)
        have hbd := below_drew (w7.alloc (.cells #[.bool b1, .int .u8 k', .string s', .int .i64 a', .slice q7 M7 c7] 41))
        have hB7 := HB6b.out.trans (hb7.mono HB6b.out.size)
        have hB8 := hB7.trans (hbx.mono hB7.size)
        have hB9 := hB8.trans (hbd.mono hB8.size)
        have hE := HE.out
        have HS := Lib.hid (show (w7.alloc (.cells #[.bool b1, .int .u8 k', .string s', .int .i64 a', .slice q7 M7 c7] 41)).drew.cell? ⟨w7.heap.size, 0, none⟩ = some (.bool b1) ∧ (w7.alloc (.cells #[.bool b1, .int .u8 k', .string s', .int .i64 a', .slice q7 M7 c7] 41)).drew.cell? ⟨w7.heap.size, 1, none⟩ = some (.int .u8 k') ∧ (w7.alloc (.cells #[.bool b1, .int .u8 k', .string s', .int .i64 a', .slice q7 M7 c7] 41)).drew.cell? ⟨w7.heap.size, 2, none⟩ = some (.string s') ∧ (w7.alloc (.cells #[.bool b1, .int .u8 k', .string s', .int .i64 a', .slice q7 M7 c7] 41)).drew.cell? ⟨w7.heap.size, 3, none⟩ = some (.int .i64 a') ∧ (w7.alloc (.cells #[.bool b1, .int .u8 k', .string s', .int .i64 a', .slice q7 M7 c7] 41)).drew.cell? ⟨w7.heap.size, 4, none⟩ = some (.slice q7 M7 c7) ∧ (w7.alloc (.cells #[.bool b1, .int .u8 k', .string s', .int .i64 a', .slice q7 M7 c7] 41)).drew.cell? ⟨bq, offq + i * 5, none⟩ = some (.bool b1) ∧ (w7.alloc (.cells #[.bool b1, .int .u8 k', .string s', .int .i64 a', .slice q7 M7 c7] 41)).drew.cell? ⟨bq, offq + i * 5 + 1, none⟩ = some (.int .u8 k1) ∧ (w7.alloc (.cells #[.bool b1, .int .u8 k', .string s', .int .i64 a', .slice q7 M7 c7] 41)).drew.cell? ⟨bq, offq + i * 5 + 2, none⟩ = some (.string s1) ∧ (w7.alloc (.cells #[.bool b1, .int .u8 k', .string s', .int .i64 a', .slice q7 M7 c7] 41)).drew.cell? ⟨bq, offq + i * 5 + 3, none⟩ = some (.int .i64 a1) ∧ (w7.alloc (.cells #[.bool b1, .int .u8 k', .string s', .int .i64 a', .slice q7 M7 c7] 41)).drew.cell? ⟨bq, offq + i * 5 + 4, none⟩ = some (.slice q3 n3 cc3) from ⟨cell_later hbd (by simp [go_sem]), cell_later hbd (by simp [go_sem]), cell_later hbd (by simp [go_sem]), cell_later hbd (by simp [go_sem]), cell_later hbd (by simp [go_sem]), cell_later hB9 hE.1, cell_later hB9 hE.2.1, cell_later hB9 hE.2.2.1, cell_later hB9 hE.2.2.2.1, cell_later hB9 hE.2.2.2.2⟩)
        have hsm := same_call b1 k' s' a' q7 c7 M7 g b1 k1 s1 a1 q3 cc3 n3 x1 (w7.alloc (.cells #[.bool b1, .int .u8 k', .string s', .int .i64 a', .slice q7 M7 c7] 41)).drew _ _ ((hf7.later hbx).later hbd) (HX3.out.1.later hB9) hc7 HX3.out.2.1 (by have h1 := HTT.out.2.2.2.1; have h2 := HX3.out.2.2.1; omega) HX3.out.2.2.1 hM7 HN3.out (sameT_symm HTT.out.2.2.1)
        have HSM := Lib.hid hsm
        have HB8 := Lib.hid hB9
        clear hc7 hf7 hb7 hM7 hbx hB8 hB7 hB9 hbd hsm HNX hE
        go_wp2_with fail
        refine wp_region_L [(1000, (fun _ => True : World → Prop)), (18, ((fun w => w.cell? ⟨w7.heap.size, 0, none⟩ = some (.bool b1) ∧ w.cell? ⟨w7.heap.size, 1, none⟩ = some (.int .u8 k') ∧ w.cell? ⟨w7.heap.size, 2, none⟩ = some (.string s') ∧ w.cell? ⟨w7.heap.size, 3, none⟩ = some (.int .i64 a') ∧ w.cell? ⟨w7.heap.size, 4, none⟩ = some (.slice q7 M7 c7) ∧ w.cell? ⟨bq, offq + i * 5, none⟩ = some (.bool b1) ∧ w.cell? ⟨bq, offq + i * 5 + 1, none⟩ = some (.int .u8 k1) ∧ w.cell? ⟨bq, offq + i * 5 + 2, none⟩ = some (.string s1) ∧ w.cell? ⟨bq, offq + i * 5 + 3, none⟩ = some (.int .i64 a1) ∧ w.cell? ⟨bq, offq + i * 5 + 4, none⟩ = some (.slice q3 n3 cc3)) : World → Prop))] (by kernel_rfl) (SL.cons (fun _ => trivial) (SL.cons (fun _ => HS.out) SL.nil)) (fun hHeld => ?_)
        refine wpAnyL_take 0 _ _ (i := 0) (oi := { dst := some 136, op := Op.move (Operand.tmp 24), type := 25, pos := "law.go:93", after := #[], guard := none }) (v := ?_) rfl (by kernel_rfl) (by kernel_rfl) (by kernel_rfl) (fun _ _ _ h => h) rfl (by kernel_rfl) (by kernel_rfl) (by kernel_rfl) (Or.inl ⟨by rfl, ?_⟩) hHeld (fun hHeld => ?_)
        rotate_left
        · intro w hSw
          (try dsimp only at hSw)
          go_simp
          try with_reducible rfl
        try simp only [Act.put, List.setIfInBounds_toArray, List.set_cons_zero, List.set_cons_succ]
        refine wpAnyL_take 0 _ _ (i := 1) (oi := { dst := some 137, op := Op.binOp BinOp.neq 25 (Operand.tmp 136) (Operand.const (Value.int IntKind.i64 0)) 25, type := 4, pos := "law.go:93", after := #[{ on := 0, ground := Ground.data }], guard := none }) (v := ?_) rfl (by kernel_rfl) (by kernel_rfl) (by kernel_rfl) (fun _ _ _ h => h) rfl (by kernel_rfl) (by kernel_rfl) (by kernel_rfl) (Or.inl ⟨by rfl, ?_⟩) hHeld (fun hHeld => ?_)
        rotate_left
        · intro w hSw
          (try dsimp only at hSw)
          go_simp
          try with_reducible rfl
        try simp only [Act.put, List.setIfInBounds_toArray, List.set_cons_zero, List.set_cons_succ]
        refine wpAnyL_take 0 _ _ (i := 2) (oi := { dst := some 138, op := Op.move (Operand.tmp 137), type := 4, pos := "law.go:93", after := #[{ on := 1, ground := Ground.data }], guard := none }) (v := ?_) rfl (by kernel_rfl) (by kernel_rfl) (by kernel_rfl) (fun _ _ _ h => h) rfl (by kernel_rfl) (by kernel_rfl) (by kernel_rfl) (Or.inl ⟨by rfl, ?_⟩) hHeld (fun hHeld => ?_)
        rotate_left
        · intro w hSw
          (try dsimp only at hSw)
          go_simp
          try with_reducible rfl
        try simp only [Act.put, List.setIfInBounds_toArray, List.set_cons_zero, List.set_cons_succ]
        refine wpAnyL_take 0 _ _ (i := 3) (oi := { dst := some 139, op := Op.move (Operand.tmp 27), type := 25, pos := "law.go:93", after := #[{ on := 2, ground := Ground.guard }], guard := some (2, false) }) (v := ?_) rfl (by kernel_rfl) (by kernel_rfl) (by kernel_rfl) (fun _ _ _ h => h) rfl (by kernel_rfl) (by kernel_rfl) (by kernel_rfl) (Or.inl ⟨by rfl, ?_⟩) hHeld (fun hHeld => ?_)
        rotate_left
        · intro w hSw
          (try dsimp only at hSw)
          go_simp
          try with_reducible rfl
        try simp only [Act.put, List.setIfInBounds_toArray, List.set_cons_zero, List.set_cons_succ]
        refine wpAnyL_take 0 _ _ (i := 4) (oi := { dst := some 140, op := Op.binOp BinOp.neq 25 (Operand.tmp 139) (Operand.const (Value.int IntKind.i64 0)) 25, type := 4, pos := "law.go:93", after := #[{ on := 3, ground := Ground.data }, { on := 2, ground := Ground.guard }], guard := some (2, false) }) (v := ?_) rfl (by kernel_rfl) (by kernel_rfl) (by kernel_rfl) (fun _ _ _ h => h) rfl (by kernel_rfl) (by kernel_rfl) (by kernel_rfl) (Or.inl ⟨by rfl, ?_⟩) hHeld (fun hHeld => ?_)
        rotate_left
        · intro w hSw
          (try dsimp only at hSw)
          go_simp
          try with_reducible rfl
        try simp only [Act.put, List.setIfInBounds_toArray, List.set_cons_zero, List.set_cons_succ]
        refine wpAnyL_take 0 _ _ (i := 5) (oi := { dst := some 141, op := Op.pick (Operand.tmp 138) (Operand.const (Value.bool true)) (Operand.tmp 140), type := 4, pos := "law.go:93", after := #[{ on := 2, ground := Ground.data }, { on := 4, ground := Ground.data }], guard := none }) (v := ?_) rfl (by kernel_rfl) (by kernel_rfl) (by kernel_rfl) (fun _ _ _ h => h) rfl (by kernel_rfl) (by kernel_rfl) (by kernel_rfl) (Or.inl ⟨by rfl, ?_⟩) hHeld (fun hHeld => ?_)
        rotate_left
        · intro w hSw
          (try dsimp only at hSw)
          go_simp
          try with_reducible rfl
        try simp only [Act.put, List.setIfInBounds_toArray, List.set_cons_zero, List.set_cons_succ]
        refine wpAnyL_take 0 _ _ (i := 6) (oi := { dst := some 142, op := Op.move (Operand.tmp 141), type := 4, pos := "law.go:93", after := #[{ on := 5, ground := Ground.data }, { on := 2, ground := Ground.chain }], guard := none }) (v := ?_) rfl (by kernel_rfl) (by kernel_rfl) (by kernel_rfl) (fun _ _ _ h => h) rfl (by kernel_rfl) (by kernel_rfl) (by kernel_rfl) (Or.inl ⟨by rfl, ?_⟩) hHeld (fun hHeld => ?_)
        rotate_left
        · intro w hSw
          (try dsimp only at hSw)
          go_simp
          try with_reducible rfl
        try simp only [Act.put, List.setIfInBounds_toArray, List.set_cons_zero, List.set_cons_succ]
        refine wpAnyL_take 0 _ _ (i := 7) (oi := { dst := some 143, op := Op.move (Operand.tmp 26), type := 3, pos := "law.go:93", after := #[{ on := 6, ground := Ground.guard }], guard := some (6, false) }) (v := ?_) rfl (by kernel_rfl) (by kernel_rfl) (by kernel_rfl) (fun _ _ _ h => h) rfl (by kernel_rfl) (by kernel_rfl) (by kernel_rfl) (Or.inl ⟨by rfl, ?_⟩) hHeld (fun hHeld => ?_)
        rotate_left
        · intro w hSw
          (try dsimp only at hSw)
          go_simp
          try with_reducible rfl
        try simp only [Act.put, List.setIfInBounds_toArray, List.set_cons_zero, List.set_cons_succ]
        refine wpAnyL_take 0 _ _ (i := 8) (oi := { dst := some 144, op := Op.move (Operand.tmp 22), type := 24, pos := "law.go:93", after := #[{ on := 6, ground := Ground.guard }], guard := some (6, false) }) (v := ?_) rfl (by kernel_rfl) (by kernel_rfl) (by kernel_rfl) (fun _ _ _ h => h) rfl (by kernel_rfl) (by kernel_rfl) (by kernel_rfl) (Or.inl ⟨by rfl, ?_⟩) hHeld (fun hHeld => ?_)
        rotate_left
        · intro w hSw
          (try dsimp only at hSw)
          go_simp
          try with_reducible rfl
        try simp only [Act.put, List.setIfInBounds_toArray, List.set_cons_zero, List.set_cons_succ]
        refine wpAnyL_take 0 _ _ (i := 9) (oi := { dst := some 145, op := Op.call { callee := Callee.builtin Builtin.len, args := #[Operand.tmp 144], argTypes := #[24] }, type := 3, pos := "law.go:93", after := #[{ on := 8, ground := Ground.data }, { on := 6, ground := Ground.guard }], guard := some (6, false) }) (v := ?_) rfl (by kernel_rfl) (by kernel_rfl) (by kernel_rfl) (fun _ _ _ h => h) rfl (by kernel_rfl) (by kernel_rfl) (by kernel_rfl) (Or.inl ⟨by rfl, ?_⟩) hHeld (fun hHeld => ?_)
        rotate_left
        · intro w hSw
          (try dsimp only at hSw)
          go_simp
          try with_reducible rfl
        try simp only [Act.put, List.setIfInBounds_toArray, List.set_cons_zero, List.set_cons_succ]
        refine wpAnyL_take 0 _ _ (i := 10) (oi := { dst := some 146, op := Op.binOp BinOp.neq 3 (Operand.tmp 143) (Operand.tmp 145) 3, type := 4, pos := "law.go:93", after := #[{ on := 7, ground := Ground.data }, { on := 9, ground := Ground.data }, { on := 6, ground := Ground.guard }], guard := some (6, false) }) (v := ?_) rfl (by kernel_rfl) (by kernel_rfl) (by kernel_rfl) (fun _ _ _ h => h) rfl (by kernel_rfl) (by kernel_rfl) (by kernel_rfl) (Or.inl ⟨by rfl, ?_⟩) hHeld (fun hHeld => ?_)
        rotate_left
        · intro w hSw
          (try dsimp only at hSw)
          go_simp
          try with_reducible rfl
        try simp only [Act.put, List.setIfInBounds_toArray, List.set_cons_zero, List.set_cons_succ]
        refine wpAnyL_take 0 _ _ (i := 11) (oi := { dst := some 147, op := Op.pick (Operand.tmp 142) (Operand.const (Value.bool true)) (Operand.tmp 146), type := 4, pos := "law.go:93", after := #[{ on := 6, ground := Ground.data }, { on := 10, ground := Ground.data }], guard := none }) (v := ?_) rfl (by kernel_rfl) (by kernel_rfl) (by kernel_rfl) (fun _ _ _ h => h) rfl (by kernel_rfl) (by kernel_rfl) (by kernel_rfl) (Or.inl ⟨by rfl, ?_⟩) hHeld (fun hHeld => ?_)
        rotate_left
        · intro w hSw
          (try dsimp only at hSw)
          go_simp
          try with_reducible rfl
        try simp only [Act.put, List.setIfInBounds_toArray, List.set_cons_zero, List.set_cons_succ]
        refine wpAnyL_take 0 _ _ (i := 12) (oi := { dst := some 148, op := Op.move (Operand.tmp 147), type := 4, pos := "law.go:93", after := #[{ on := 11, ground := Ground.data }, { on := 6, ground := Ground.chain }], guard := none }) (v := ?_) rfl (by kernel_rfl) (by kernel_rfl) (by kernel_rfl) (fun _ _ _ h => h) rfl (by kernel_rfl) (by kernel_rfl) (by kernel_rfl) (Or.inl ⟨by rfl, ?_⟩) hHeld (fun hHeld => ?_)
        rotate_left
        · intro w hSw
          (try dsimp only at hSw)
          go_simp
          try with_reducible rfl
        try simp only [Act.put, List.setIfInBounds_toArray, List.set_cons_zero, List.set_cons_succ]
        refine wpAnyL_take 1 _ _ (i := 13) (oi := { dst := some 149, op := Op.load 41 (Operand.tmp 25), type := 41, pos := "law.go:93", after := #[{ on := 12, ground := Ground.guard }], guard := some (12, false) }) (v := ?_) rfl (by kernel_rfl) (by kernel_rfl) (by kernel_rfl) (fun _ _ _ h => h) rfl (by kernel_rfl) (by kernel_rfl) (by kernel_rfl) (Or.inl ⟨by rfl, ?_⟩) hHeld (fun hHeld => ?_)
        rotate_left
        · intro w hSw
          (try dsimp only at hSw)
          obtain ⟨z0, z1, z2, z3, z4, z5, z6, z7, z8, z9⟩ := hSw
          go_simp
          try with_reducible rfl
        try simp only [Act.put, List.setIfInBounds_toArray, List.set_cons_zero, List.set_cons_succ]
        refine wpAnyL_take 0 _ _ (i := 14) (oi := { dst := some 150, op := Op.move (Operand.tmp 16), type := 39, pos := "law.go:93", after := #[{ on := 12, ground := Ground.guard }], guard := some (12, false) }) (v := ?_) rfl (by kernel_rfl) (by kernel_rfl) (by kernel_rfl) (fun _ _ _ h => h) rfl (by kernel_rfl) (by kernel_rfl) (by kernel_rfl) (Or.inl ⟨by rfl, ?_⟩) hHeld (fun hHeld => ?_)
        rotate_left
        · intro w hSw
          (try dsimp only at hSw)
          go_simp
          try with_reducible rfl
        try simp only [Act.put, List.setIfInBounds_toArray, List.set_cons_zero, List.set_cons_succ]
        refine wpAnyL_take 0 _ _ (i := 15) (oi := { dst := some 151, op := Op.move (Operand.tmp 19), type := 3, pos := "law.go:93", after := #[{ on := 12, ground := Ground.guard }], guard := some (12, false) }) (v := ?_) rfl (by kernel_rfl) (by kernel_rfl) (by kernel_rfl) (fun _ _ _ h => h) rfl (by kernel_rfl) (by kernel_rfl) (by kernel_rfl) (Or.inl ⟨by rfl, ?_⟩) hHeld (fun hHeld => ?_)
        rotate_left
        · intro w hSw
          (try dsimp only at hSw)
          go_simp
          try with_reducible rfl
        try simp only [Act.put, List.setIfInBounds_toArray, List.set_cons_zero, List.set_cons_succ]
        refine wpAnyL_take 0 _ _ (i := 16) (oi := { dst := some 152, op := Op.indexAddr 39 (Operand.tmp 150) (Operand.tmp 151), type := 0, pos := "law.go:93", after := #[{ on := 14, ground := Ground.data }, { on := 15, ground := Ground.data }, { on := 12, ground := Ground.guard }], guard := some (12, false) }) (v := ?_) rfl (by kernel_rfl) (by kernel_rfl) (by kernel_rfl) (fun _ _ _ h => h) rfl (by kernel_rfl) (by kernel_rfl) (by kernel_rfl) (Or.inl ⟨by rfl, ?_⟩) hHeld (fun hHeld => ?_)
        rotate_left
        · intro w hSw
          (try dsimp only at hSw)
          go_simp
          try with_reducible rfl
        try simp only [Act.put, List.setIfInBounds_toArray, List.set_cons_zero, List.set_cons_succ]
        refine wpAnyL_take 1 _ _ (i := 17) (oi := { dst := some 153, op := Op.load 41 (Operand.tmp 152), type := 41, pos := "law.go:93", after := #[{ on := 16, ground := Ground.data }, { on := 12, ground := Ground.guard }], guard := some (12, false) }) (v := ?_) rfl (by kernel_rfl) (by kernel_rfl) (by kernel_rfl) (fun _ _ _ h => h) rfl (by kernel_rfl) (by kernel_rfl) (by kernel_rfl) (Or.inl ⟨by rfl, ?_⟩) hHeld (fun hHeld => ?_)
        rotate_left
        · intro w hSw
          (try dsimp only at hSw)
          obtain ⟨z0, z1, z2, z3, z4, z5, z6, z7, z8, z9⟩ := hSw
          go_simp
          try with_reducible rfl
        try simp only [Act.put, List.setIfInBounds_toArray, List.set_cons_zero, List.set_cons_succ]
        refine wpAnyL_ready (rs := [18]) (by kernel_rfl) (by simp) ?_
        refine AllReadyL.cons (o := { dst := some 154, op := Op.call { callee := Callee.value (Operand.func 33), args := #[Operand.tmp 149, Operand.tmp 153], argTypes := #[41, 41] }, type := 4, pos := "law.go:93", after := #[{ on := 13, ground := Ground.data }, { on := 17, ground := Ground.data }, { on := 12, ground := Ground.chain }, { on := 12, ground := Ground.guard }], guard := some (12, false) }) rfl (fun K hK => ?_) AllReadyL.nil
        go_simp
        go_at_call 33
        refine HSM.out.mono ?_
        rintro e w9 ⟨rfl, hb9⟩
        have HB9 := Lib.hid hb9
        clear hb9
        refine hK.out _ _ (SL.cons (fun _ => trivial) (SL.cons (fun h => absurd h (by decide +kernel)) SL.nil)) (fun hHeld => ?_)
        clear hK K
        try simp only [Act.put, List.setIfInBounds_toArray, List.set_cons_zero, List.set_cons_succ]
        refine wpAnyL_take 0 _ _ (i := 19) (oi := { dst := some 155, op := Op.unOp UnOp.not 4 (Operand.tmp 154), type := 4, pos := "law.go:93", after := #[{ on := 18, ground := Ground.data }, { on := 12, ground := Ground.guard }], guard := some (12, false) }) (v := ?_) rfl (by kernel_rfl) (by kernel_rfl) (by kernel_rfl) (fun _ _ _ h => h) rfl (by kernel_rfl) (by kernel_rfl) (by kernel_rfl) (Or.inl ⟨by rfl, ?_⟩) hHeld (fun hHeld => ?_)
        rotate_left
        · intro w hSw
          (try dsimp only at hSw)
          go_simp
          try with_reducible rfl
        try simp only [Act.put, List.setIfInBounds_toArray, List.set_cons_zero, List.set_cons_succ]
        refine wpAnyL_take 0 _ _ (i := 20) (oi := { dst := some 156, op := Op.pick (Operand.tmp 148) (Operand.const (Value.bool true)) (Operand.tmp 155), type := 4, pos := "law.go:93", after := #[{ on := 12, ground := Ground.data }, { on := 19, ground := Ground.data }], guard := none }) (v := ?_) rfl (by kernel_rfl) (by kernel_rfl) (by kernel_rfl) (fun _ _ _ h => h) rfl (by kernel_rfl) (by kernel_rfl) (by kernel_rfl) (Or.inl ⟨by rfl, ?_⟩) hHeld (fun hHeld => ?_)
        rotate_left
        · intro w hSw
          (try dsimp only at hSw)
          go_simp
          try with_reducible rfl
        try simp only [Act.put, List.setIfInBounds_toArray, List.set_cons_zero, List.set_cons_succ]
        refine wpAnyL_done (by kernel_rfl) ?_ _
        go_wp2_with fail
        go_roundg G
        case measure => omega
        case rel =>
          obtain ⟨i', hi'⟩ : ∃ i', i' = i + 1 := ⟨_, rfl⟩
          have hbt : Below wA.heap.size wA w9 := HB8.out.trans (HB9.out.mono HB8.out.size)
          obtain ⟨_, _, _, h5, h6, h7⟩ := HX3.out
          refine ⟨i', r1, by have := HG.out; omega, by rw [hi']; go_num, Lib.hid ⟨h7, h6, ?_, HBB.out.trans (hbt.mono HBB.out.size)⟩⟩
          rw [hi']; exact h5.later hbt
      · subst h1
        subst h2
        subst h3
        subst h4
        rw [deep_text] at hX
        obtain ⟨_, rfl⟩ := Prod.mk.inj hX
        obtain rfl : n3 = 1 := HN3.out
        obtain ⟨b3, off3, rfl, _, d0, d1, d2, _⟩ := HX3.out.1
        have d2' := cell_later HB5.out d2
        have e4 := cell_later HB5.out HE.out.2.2.2.2
        clear hX d0 d1 d2
        go_wp2_with fail
        go_roundg G
        case measure => omega
        case rel =>
          obtain ⟨i', hi'⟩ : ∃ i', i' = i + 1 := ⟨_, rfl⟩
          obtain ⟨_, _, _, h5, h6, h7⟩ := HX3.out
          refine ⟨i', r1, by have := HG.out; omega, by rw [hi']; go_num, Lib.hid ⟨h7, h6, ?_, HBB.out.trans (HB5.out.mono HBB.out.size)⟩⟩
          rw [hi']; exact h5.later HB5.out
end Go.Proofs.YtlifankiljbdjaaDoor
