/- The document's One. -/
import Derived.Test.YtdompkenblnjjaaGreatJR
namespace Go.Proofs.YtdompkenblnjjaaGreat
open Go Go.RowKit

/-- what the document's One answers -/
def OneP (r : Res) (a : Nat) (W : World) (e : Ending) (w' : World) : Prop := Below W.heap.size W w' ∧ match r with
  | .tok k t n => ∃ X : ByteArray, e = .returned (.tuple #[.agg #[.int .u8 (k : Int), .string X, .int .i64 (a : Int)], .int .i64 (n : Int), .int .i64 0]) ∧ X.data.toList = t
  | .err er => ∃ (k m : Int) (X : ByteArray), e = .returned (.tuple #[.agg #[.int .u8 k, .string X, .int .i64 (a : Int)], .int .i64 m, .int .i64 (er : Int)])
/-- the world in which One has made its token -/
def oneW (W : World) (a : Nat) : World := (W.alloc (.cells #[.int .u8 0, .string ⟨#[]⟩, .int .i64 0] 44)).alloc (.cells #[.int .u8 0, .string ⟨#[]⟩, .int .i64 (a : Int)] 44)
set_option maxRecDepth 100000 in
theorem oneW_below (W : World) (a : Nat) : Below W.heap.size W (oneW W a) := (below1 W _).alloc (by simp) _
set_option maxRecDepth 100000 in
theorem hash_app' {S : ByteArray} {w : List UInt8} (h : S.data.toList = w) : ((⟨#[35]⟩ : ByteArray) ++ S).data.toList = 35 :: w := by rw [hash_app h]
set_option maxRecDepth 100000 in
set_option maxHeartbeats 1600000 in
theorem one_open (p : Option Addr) (c : Nat) (bs : List UInt8) (a : Nat) (W : World) (hb : BytesIn W p bs) (hk : bs.length ≤ c) (ha : a < bs.length) (_hn : bs.length ≤ 1048576) (hxx : bs[a] = 40) :
    Calls Tryz.prog 46 #[.slice p bs.length c, .int .i64 (a : Int)] W (OneP (oneR (bs.drop a)) a W) := by
  have HDR := Lib.hid (drop_at ha)
  have hx : (bs[a].toNat : Int) = 40 := by rw [hxx]; rfl
  rw [hxx] at HDR
  obtain ⟨b, off, rfl, cb⟩ := hb a ha
  rw [hx] at cb
  obtain ⟨n, hnl⟩ : ∃ n, n = bs.length := ⟨_, rfl⟩
  have HL := Lib.hid hnl
  have HB := Lib.hid (hb.later (oneW_below W a))
  have HKc := Lib.hid hk
  clear hxx hx
  have HA := Lib.hid ha
  rw [← hnl] at _hn hk ⊢
  have i0 : (0 : Int) ≤ (a : Int) := by omega
  have i1 : (a : Int) < (n : Int) := by omega
  have hlb : b < W.heap.size := World.block_lt_of_cell? W _ cb
  clear hb hnl ha
  have HONE := Lib.hid (show oneR (bs.drop a) = .tok 1 [40] 1 by rw [HDR.out]; rfl)
  go_enter Tryz.func46, Tryz.ntmps46
  go_wp2_with fail
  refine bodyPost_ret (v := .tuple #[.agg #[.int .u8 1, .string ⟨#[40]⟩, .int .i64 (a : Int)], .int .i64 1, .int .i64 0]) (by simp [results, Tryz.results46, go_sem]) rfl ⟨(below1 W _).alloc (by simp) _, ?_⟩
  rw [HONE.out]
  exact ⟨_, rfl, rfl⟩
set_option maxRecDepth 100000 in
set_option maxHeartbeats 1600000 in
theorem one_close (p : Option Addr) (c : Nat) (bs : List UInt8) (a : Nat) (W : World) (hb : BytesIn W p bs) (hk : bs.length ≤ c) (ha : a < bs.length) (_hn : bs.length ≤ 1048576) (hxx : bs[a] = 41) :
    Calls Tryz.prog 46 #[.slice p bs.length c, .int .i64 (a : Int)] W (OneP (oneR (bs.drop a)) a W) := by
  have HDR := Lib.hid (drop_at ha)
  have hx : (bs[a].toNat : Int) = 41 := by rw [hxx]; rfl
  rw [hxx] at HDR
  obtain ⟨b, off, rfl, cb⟩ := hb a ha
  rw [hx] at cb
  obtain ⟨n, hnl⟩ : ∃ n, n = bs.length := ⟨_, rfl⟩
  have HL := Lib.hid hnl
  have HB := Lib.hid (hb.later (oneW_below W a))
  have HKc := Lib.hid hk
  clear hxx hx
  have HA := Lib.hid ha
  rw [← hnl] at _hn hk ⊢
  have i0 : (0 : Int) ≤ (a : Int) := by omega
  have i1 : (a : Int) < (n : Int) := by omega
  have hlb : b < W.heap.size := World.block_lt_of_cell? W _ cb
  clear hb hnl ha
  have HONE := Lib.hid (show oneR (bs.drop a) = .tok 2 [41] 1 by rw [HDR.out]; rfl)
  go_enter Tryz.func46, Tryz.ntmps46
  go_wp2_with fail
  refine bodyPost_ret (v := .tuple #[.agg #[.int .u8 2, .string ⟨#[41]⟩, .int .i64 (a : Int)], .int .i64 1, .int .i64 0]) (by simp [results, Tryz.results46, go_sem]) rfl ⟨(below1 W _).alloc (by simp) _, ?_⟩
  rw [HONE.out]
  exact ⟨_, rfl, rfl⟩
set_option maxRecDepth 100000 in
set_option maxHeartbeats 1600000 in
theorem one_bar (p : Option Addr) (c : Nat) (bs : List UInt8) (a : Nat) (W : World) (hb : BytesIn W p bs) (hk : bs.length ≤ c) (ha : a < bs.length) (hn : bs.length ≤ 1048576) (hxx : bs[a] = 124) :
    Calls Tryz.prog 46 #[.slice p bs.length c, .int .i64 (a : Int)] W (OneP (oneR (bs.drop a)) a W) := by
  have HDR := Lib.hid (drop_at ha)
  have hx : (bs[a].toNat : Int) = 124 := by rw [hxx]; rfl
  rw [hxx] at HDR
  obtain ⟨b, off, rfl, cb⟩ := hb a ha
  rw [hx] at cb
  obtain ⟨n, hnl⟩ : ∃ n, n = bs.length := ⟨_, rfl⟩
  have HL := Lib.hid hnl
  have HB := Lib.hid (hb.later (oneW_below W a))
  have HKc := Lib.hid hk
  clear hxx hx
  have HA := Lib.hid ha
  rw [← hnl] at hn hk ⊢
  have i0 : (0 : Int) ≤ (a : Int) := by omega
  have i1 : (a : Int) < (n : Int) := by omega
  have hlb : b < W.heap.size := World.block_lt_of_cell? W _ cb
  clear hb hnl ha
  have hone : oneR (bs.drop a) = quo [] (bs.drop (a + 1)) := by rw [HDR.out]; rfl
  have hcall := refbar_any (some ⟨b, off, none⟩) c bs a _ HB.out HKc.out HA.out (by rw [← HL.out]; exact hn)
  rw [← HL.out] at hcall
  have hkind : ∀ k t m, quo [] (bs.drop (a + 1)) = .tok k t m → k = 3 := fun k t m h => (quo_n _ _ h).1
  generalize quo [] (bs.drop (a + 1)) = Q at *
  have HONE := Lib.hid hone
  have HC := Lib.hid hcall
  have HKD := Lib.hid hkind
  clear hone hcall hkind
  go_enter Tryz.func46, Tryz.ntmps46
  go_wp2_with fail
  refine HC.out.mono ?_
  rintro e w1 ⟨rfl, hres⟩
  unfold oneW
  match Q, HONE, hres, HKD with
  | .tok k t m, HONE, hres, HKD =>
    obtain ⟨X, rfl, hX⟩ := hres
    have hk5 := HKD.out k t m rfl
    subst hk5
    have HX := Lib.hid hX
    clear hX
    go_wp2_with fail
    refine bodyPost_ret (v := .tuple #[.agg #[.int .u8 ((3 : Nat) : Int), .string X, .int .i64 (a : Int)], .int .i64 (m : Int), .int .i64 0]) (by simp [results, Tryz.results46, go_sem]) rfl ⟨(below1 W _).alloc (by simp) _, ?_⟩
    rw [HONE.out]
    exact ⟨_, rfl, HX.out⟩
  | .err er, HONE, hres, HKD =>
    obtain ⟨X, rfl⟩ := hres
    go_wp2_with fail
    refine bodyPost_ret (v := .tuple #[.agg #[.int .u8 3, .string X, .int .i64 (a : Int)], .int .i64 0, .int .i64 (er : Int)]) (by simp [results, Tryz.results46, go_sem]) rfl ⟨(below1 W _).alloc (by simp) _, ?_⟩
    rw [HONE.out]
    exact ⟨_, _, _, rfl⟩
set_option maxRecDepth 100000 in
set_option maxHeartbeats 1600000 in
theorem one_mark (p : Option Addr) (c : Nat) (bs : List UInt8) (a : Nat) (W : World) (hb : BytesIn W p bs) (hk : bs.length ≤ c) (ha : a < bs.length) (hn : bs.length ≤ 1048576) (hxx : bs[a] = 34) :
    Calls Tryz.prog 46 #[.slice p bs.length c, .int .i64 (a : Int)] W (OneP (oneR (bs.drop a)) a W) := by
  have HDR := Lib.hid (drop_at ha)
  have hx : (bs[a].toNat : Int) = 34 := by rw [hxx]; rfl
  rw [hxx] at HDR
  obtain ⟨b, off, rfl, cb⟩ := hb a ha
  rw [hx] at cb
  obtain ⟨n, hnl⟩ : ∃ n, n = bs.length := ⟨_, rfl⟩
  have HL := Lib.hid hnl
  have HB := Lib.hid (hb.later (oneW_below W a))
  have HKc := Lib.hid hk
  clear hxx hx
  have HA := Lib.hid ha
  rw [← hnl] at hn hk ⊢
  have i0 : (0 : Int) ≤ (a : Int) := by omega
  have i1 : (a : Int) < (n : Int) := by omega
  have hlb : b < W.heap.size := World.block_lt_of_cell? W _ cb
  clear hb hnl ha
  have hone : oneR (bs.drop a) = lit false [] 1 (bs.drop (a + 1)) := by rw [HDR.out]; rfl
  have hcall := refmark_any (some ⟨b, off, none⟩) c bs a _ HB.out HKc.out HA.out (by rw [← HL.out]; exact hn)
  rw [← HL.out] at hcall
  have hkind : ∀ k t m, lit false [] 1 (bs.drop (a + 1)) = .tok k t m → k = 5 := fun k t m h => (lit_n _ _ _ _ h).1
  generalize lit false [] 1 (bs.drop (a + 1)) = Q at *
  have HONE := Lib.hid hone
  have HC := Lib.hid hcall
  have HKD := Lib.hid hkind
  clear hone hcall hkind
  go_enter Tryz.func46, Tryz.ntmps46
  go_wp2_with fail
  refine HC.out.mono ?_
  rintro e w1 ⟨rfl, hres⟩
  unfold oneW
  match Q, HONE, hres, HKD with
  | .tok k t m, HONE, hres, HKD =>
    obtain ⟨X, rfl, hX⟩ := hres
    have hk5 := HKD.out k t m rfl
    subst hk5
    have HX := Lib.hid hX
    clear hX
    go_wp2_with fail
    refine bodyPost_ret (v := .tuple #[.agg #[.int .u8 ((5 : Nat) : Int), .string X, .int .i64 (a : Int)], .int .i64 (m : Int), .int .i64 0]) (by simp [results, Tryz.results46, go_sem]) rfl ⟨(below1 W _).alloc (by simp) _, ?_⟩
    rw [HONE.out]
    exact ⟨_, rfl, HX.out⟩
  | .err er, HONE, hres, HKD =>
    obtain ⟨X, rfl⟩ := hres
    go_wp2_with fail
    refine bodyPost_ret (v := .tuple #[.agg #[.int .u8 5, .string X, .int .i64 (a : Int)], .int .i64 0, .int .i64 (er : Int)]) (by simp [results, Tryz.results46, go_sem]) rfl ⟨(below1 W _).alloc (by simp) _, ?_⟩
    rw [HONE.out]
    exact ⟨_, _, _, rfl⟩
set_option maxRecDepth 100000 in
set_option maxHeartbeats 1600000 in
theorem one_key (p : Option Addr) (c : Nat) (bs : List UInt8) (a : Nat) (W : World) (hb : BytesIn W p bs) (hk : bs.length ≤ c) (ha : a < bs.length) (hn : bs.length ≤ 1048576) (hxx : bs[a] = 58) :
    Calls Tryz.prog 46 #[.slice p bs.length c, .int .i64 (a : Int)] W (OneP (oneR (bs.drop a)) a W) := by
  have HDR := Lib.hid (drop_at ha)
  have hx : (bs[a].toNat : Int) = 58 := by rw [hxx]; rfl
  rw [hxx] at HDR
  obtain ⟨b, off, rfl, cb⟩ := hb a ha
  rw [hx] at cb
  obtain ⟨n, hnl⟩ : ∃ n, n = bs.length := ⟨_, rfl⟩
  have HL := Lib.hid hnl
  have HB := Lib.hid (hb.later (oneW_below W a))
  have HB0 := Lib.hid hb
  have HKc := Lib.hid hk
  clear hxx hx
  have HA := Lib.hid ha
  rw [← hnl] at hn hk ⊢
  have i0 : (0 : Int) ≤ (a : Int) := by omega
  have i1 : (a : Int) < (n : Int) := by omega
  have hlb : b < W.heap.size := World.block_lt_of_cell? W _ cb
  clear hb hnl ha
  have hw := refword_any (some ⟨b, off, none⟩) c bs (a + 1) (oneW W a) HB.out HA.out (by rw [← HL.out]; exact hn)
  rw [← HL.out, show ((a + 1 : Nat) : Int) = (a : Int) + 1 by omega] at hw
  have hlw := word_le (bs.drop (a + 1))
  rw [List.length_drop, ← HL.out] at hlw
  obtain ⟨V, hsl, hcv0⟩ := slice_conv W (some ⟨b, off, none⟩) bs c (a + 1) (a + 1 + (wordL (bs.drop (a + 1))).length) (by intro i hi; obtain ⟨b', off', e, h⟩ := HB0.out i hi; exact ⟨b', off', e, h⟩) (by omega) (by rw [← HL.out]; have := HA.out; rw [← HL.out] at this; omega) HKc.out
  have hcv := hcv0 (oneW W a) (oneW_below W a)
  rw [show a + 1 + (wordL (bs.drop (a + 1))).length - (a + 1) = (wordL (bs.drop (a + 1))).length by omega, word_take] at hcv
  rw [← HL.out, show ((a + 1 + (wordL (bs.drop (a + 1))).length : Nat) : Int) = (a : Int) + 1 + ((wordL (bs.drop (a + 1))).length : Int) by omega, show ((a + 1 : Nat) : Int) = (a : Int) + 1 by omega] at hsl
  have hone : oneR (bs.drop a) = keyR (wordL (bs.drop (a + 1))) := by rw [HDR.out]; rfl
  generalize wordL (bs.drop (a + 1)) = w at *
  obtain ⟨X, hX, hX1, hX2⟩ := str_of w
  rw [hX] at hcv
  have HX := Lib.hid (And.intro hX1 hX2)
  have HONE0 := Lib.hid hone
  have HW := Lib.hid hw
  have hlw2 : w.length ≤ 1048576 := by omega
  clear hone hw hcv0 hX hX1
  rw [← hX2] at hlw hlw2 hsl HW
  generalize hN : X.size = N at *
  have HN := Lib.hid hN
  unfold oneW at hcv
  have j0 : (0 : Int) ≤ (N : Int) := by omega
  have j1 : (N : Int) ≤ 1048576 := by omega
  clear hX2 hN hlw
  by_cases h0 : N = 0
  · subst h0
    have HONE := Lib.hid (show oneR (bs.drop a) = .err 30 by
      rw [HONE0.out]; unfold keyR
      have : w = [] := List.eq_nil_of_length_eq_zero HX.out.2.symm
      rw [this]; rfl)
    go_enter Tryz.func46, Tryz.ntmps46
    go_wp2_with fail
    refine HW.out.mono ?_
    rintro e w1 ⟨rfl, rfl⟩
    unfold oneW
    go_wp2_with fail
    refine bodyPost_ret (v := .tuple #[.agg #[.int .u8 0, .string ⟨#[]⟩, .int .i64 (a : Int)], .int .i64 0, .int .i64 30]) (by simp [results, Tryz.results46, go_sem]) rfl ⟨(below1 W _).alloc (by simp) _, ?_⟩
    rw [HONE.out]
    exact ⟨_, _, _, rfl⟩
  · have g0 : ((N : Int) == 0) = false := by simp; omega
    have HONE := Lib.hid (show oneR (bs.drop a) = .tok 6 w (w.length + 1) by
      rw [HONE0.out]; unfold keyR
      cases hw0 : w with
      | nil => have := HX.out.2; rw [hw0] at this; simp at this; omega
      | cons => rfl)
    have HNW := Lib.hid (show ((w.length + 1 : Nat) : Int) = (N : Int) + 1 by have := HX.out.2; omega)
    clear h0
    go_enter Tryz.func46, Tryz.ntmps46
    go_wp2_with fail
    refine HW.out.mono ?_
    rintro e w1 ⟨rfl, rfl⟩
    unfold oneW
    go_wp2_with fail
    rw [← HNW.out]
    refine bodyPost_ret (v := .tuple #[.agg #[.int .u8 6, .string X, .int .i64 (a : Int)], .int .i64 ((w.length + 1 : Nat) : Int), .int .i64 0]) (by simp [results, Tryz.results46, go_sem]) rfl ⟨(below1 W _).alloc (by simp) _, ?_⟩
    rw [HONE.out]
    exact ⟨_, rfl, HX.out.1⟩
set_option maxRecDepth 100000 in
set_option maxHeartbeats 1600000 in
theorem one_hash (p : Option Addr) (c : Nat) (bs : List UInt8) (a : Nat) (W : World) (hb : BytesIn W p bs) (hk : bs.length ≤ c) (ha : a < bs.length) (hn : bs.length ≤ 1048576) (hxx : bs[a] = 35) :
    Calls Tryz.prog 46 #[.slice p bs.length c, .int .i64 (a : Int)] W (OneP (oneR (bs.drop a)) a W) := by
  have HDR := Lib.hid (drop_at ha)
  have hx : (bs[a].toNat : Int) = 35 := by rw [hxx]; rfl
  rw [hxx] at HDR
  obtain ⟨b, off, rfl, cb⟩ := hb a ha
  rw [hx] at cb
  obtain ⟨n, hnl⟩ : ∃ n, n = bs.length := ⟨_, rfl⟩
  have HL := Lib.hid hnl
  have HB := Lib.hid (hb.later (oneW_below W a))
  have HB0 := Lib.hid hb
  have HKc := Lib.hid hk
  clear hxx hx
  have HA := Lib.hid ha
  rw [← hnl] at hn hk ⊢
  have i0 : (0 : Int) ≤ (a : Int) := by omega
  have i1 : (a : Int) < (n : Int) := by omega
  have hlb : b < W.heap.size := World.block_lt_of_cell? W _ cb
  clear hb hnl ha
  have hw := refword_any (some ⟨b, off, none⟩) c bs (a + 1) (oneW W a) HB.out HA.out (by rw [← HL.out]; exact hn)
  rw [← HL.out, show ((a + 1 : Nat) : Int) = (a : Int) + 1 by omega] at hw
  have hlw := word_le (bs.drop (a + 1))
  rw [List.length_drop, ← HL.out] at hlw
  obtain ⟨V, hsl, hcv0⟩ := slice_conv W (some ⟨b, off, none⟩) bs c (a + 1) (a + 1 + (wordL (bs.drop (a + 1))).length) (by intro i hi; obtain ⟨b', off', e, h⟩ := HB0.out i hi; exact ⟨b', off', e, h⟩) (by omega) (by rw [← HL.out]; have := HA.out; rw [← HL.out] at this; omega) HKc.out
  have hcv := hcv0 (oneW W a) (oneW_below W a)
  rw [show a + 1 + (wordL (bs.drop (a + 1))).length - (a + 1) = (wordL (bs.drop (a + 1))).length by omega, word_take] at hcv
  rw [← HL.out, show ((a + 1 + (wordL (bs.drop (a + 1))).length : Nat) : Int) = (a : Int) + 1 + ((wordL (bs.drop (a + 1))).length : Int) by omega, show ((a + 1 : Nat) : Int) = (a : Int) + 1 by omega] at hsl
  have hone : oneR (bs.drop a) = basedR (wordL (bs.drop (a + 1))) := by rw [HDR.out]; rfl
  generalize wordL (bs.drop (a + 1)) = w at *
  obtain ⟨X, hX, hX1, hX2⟩ := str_of w
  rw [hX] at hcv
  have HX := Lib.hid (And.intro hX1 hX2)
  have HONE0 := Lib.hid hone
  have HW := Lib.hid hw
  have hlw2 : w.length ≤ 1048576 := by omega
  clear hone hw hcv0 hX hX1
  rw [← hX2] at hlw hlw2 hsl HW
  generalize hN : X.size = N at *
  have HN := Lib.hid hN
  unfold oneW at hcv
  have j0 : (0 : Int) ≤ (N : Int) := by omega
  have j1 : (N : Int) ≤ 1048576 := by omega
  clear hX2 hN hlw
  by_cases h0 : N = 0
  · subst h0
    have HONE := Lib.hid (show oneR (bs.drop a) = .err 30 by
      rw [HONE0.out]; unfold basedR
      have : w = [] := List.eq_nil_of_length_eq_zero HX.out.2.symm
      rw [this]; rfl)
    go_enter Tryz.func46, Tryz.ntmps46
    go_wp2_with fail
    refine HW.out.mono ?_
    rintro e w1 ⟨rfl, rfl⟩
    unfold oneW
    go_wp2_with fail
    refine bodyPost_ret (v := .tuple #[.agg #[.int .u8 0, .string ⟨#[]⟩, .int .i64 (a : Int)], .int .i64 0, .int .i64 30]) (by simp [results, Tryz.results46, go_sem]) rfl ⟨(below1 W _).alloc (by simp) _, ?_⟩
    rw [HONE.out]
    exact ⟨_, _, _, rfl⟩
  · have g0 : ((N : Int) == 0) = false := by simp; omega
    have HNE := Lib.hid (show w ≠ [] from fun e => by have := HX.out.2; rw [e] at this; exact h0 this)
    have HNW := Lib.hid (show ((w.length + 1 : Nat) : Int) = (N : Int) + 1 by have := HX.out.2; omega)
    have hXs : X.size ≤ 1048576 := by rw [HN.out]; omega
    clear h0
    cases q : nbB w with
    | false =>
      have HQ := Lib.hid q
      have HONE := Lib.hid (show oneR (bs.drop a) = .err 5 by rw [HONE0.out, basedR_ref HNE.out, q]; rfl)
      clear q
      go_enter Tryz.func46, Tryz.ntmps46
      go_wp2_with fail
      refine HW.out.mono ?_
      rintro e w1 ⟨rfl, rfl⟩
      unfold oneW
      go_wp2_with fail
      refine (number_any X _ (by rw [HN.out]; omega)).mono ?_
      rintro e w1 ⟨rfl, rfl⟩
      rw [HX.out.1, HQ.out]
      go_wp2_with fail
      refine bodyPost_ret (v := .tuple #[.agg #[.int .u8 6, .string X, .int .i64 (a : Int)], .int .i64 0, .int .i64 5]) (by simp [results, Tryz.results46, go_sem]) rfl ⟨(below1 W _).alloc (by simp) _, ?_⟩
      rw [HONE.out]
      exact ⟨_, _, _, rfl⟩
    | true =>
      have HQ := Lib.hid q
      have HONE := Lib.hid (show oneR (bs.drop a) = .tok 7 (35 :: w) (w.length + 1) by rw [HONE0.out, basedR_ref HNE.out, q]; rfl)
      clear q
      go_enter Tryz.func46, Tryz.ntmps46
      go_wp2_with fail
      refine HW.out.mono ?_
      rintro e w1 ⟨rfl, rfl⟩
      unfold oneW
      go_wp2_with fail
      refine (number_any X _ (by rw [HN.out]; omega)).mono ?_
      rintro e w1 ⟨rfl, rfl⟩
      rw [HX.out.1, HQ.out]
      go_wp2_with fail
      rw [← HNW.out]
      refine bodyPost_ret (v := .tuple #[.agg #[.int .u8 7, .string (⟨#[35]⟩ ++ X), .int .i64 (a : Int)], .int .i64 ((w.length + 1 : Nat) : Int), .int .i64 0]) (by simp [results, Tryz.results46, go_sem]) rfl ⟨(below1 W _).alloc (by simp) _, ?_⟩
      rw [HONE.out]
      exact ⟨_, rfl, hash_app' HX.out.1⟩
set_option maxRecDepth 100000 in
set_option maxHeartbeats 1600000 in
theorem one_wd (p : Option Addr) (c : Nat) (bs : List UInt8) (a : Nat) (W : World) (hb : BytesIn W p bs) (hk : bs.length ≤ c) (ha : a < bs.length) (hn : bs.length ≤ 1048576) (n1 : bs[a] ≠ 40) (n2 : bs[a] ≠ 41) (n3 : bs[a] ≠ 124) (n4 : bs[a] ≠ 34) (n5 : bs[a] ≠ 58) (n6 : bs[a] ≠ 35) :
    Calls Tryz.prog 46 #[.slice p bs.length c, .int .i64 (a : Int)] W (OneP (oneR (bs.drop a)) a W) := by
  have HDR := Lib.hid (drop_at ha)
  obtain ⟨b, off, rfl, cb⟩ := hb a ha
  obtain ⟨hz, hz0⟩ := byte_gt (x := bs[a])
  have e40 : ((bs[a].toNat : Int) == 40) = false := by have e : ((bs[a].toNat : Int) == 40) = (bs[a] == 40) := eq_u8 40 (by decide +kernel) _; rw [e]; simpa using n1
  have e41 : ((bs[a].toNat : Int) == 41) = false := by have e : ((bs[a].toNat : Int) == 41) = (bs[a] == 41) := eq_u8 41 (by decide +kernel) _; rw [e]; simpa using n2
  have e124 : ((bs[a].toNat : Int) == 124) = false := by have e : ((bs[a].toNat : Int) == 124) = (bs[a] == 124) := eq_u8 124 (by decide +kernel) _; rw [e]; simpa using n3
  have e34 : ((bs[a].toNat : Int) == 34) = false := by have e : ((bs[a].toNat : Int) == 34) = (bs[a] == 34) := eq_u8 34 (by decide +kernel) _; rw [e]; simpa using n4
  have e58 : ((bs[a].toNat : Int) == 58) = false := by have e : ((bs[a].toNat : Int) == 58) = (bs[a] == 58) := eq_u8 58 (by decide +kernel) _; rw [e]; simpa using n5
  have e35 : ((bs[a].toNat : Int) == 35) = false := by have e : ((bs[a].toNat : Int) == 35) = (bs[a] == 35) := eq_u8 35 (by decide +kernel) _; rw [e]; simpa using n6
  have hone : oneR (bs.drop a) = if syB bs[a] then plainR (wordL (bs.drop a)) else .err 30 := by
    have h := HDR.out
    conv => lhs; rw [h]
    simp only [oneR]
    rw [if_neg (by simpa using n1), if_neg (by simpa using n2), if_neg (by simpa using n3), if_neg (by simpa using n4), if_neg (by simpa using n5), if_neg (by simpa using n6), ← h]
  have hfst : ∀ w, wordL (bs.drop a) = w → syB bs[a] = true → w.getD 0 0 = bs[a] := fun w e h => by
    rw [← e]; unfold wordL; rw [drop_at ha, List.takeWhile_cons, if_pos h]; rfl
  have hns : syB bs[a] = false → (wordL (bs.drop a)).length = 0 := fun h => tw_stop bs a ha h
  have hys : syB bs[a] = true → 0 < (wordL (bs.drop a)).length := fun h => by rw [tw_drop bs a ha h]; omega
  have HDG := Lib.hid (fun W => digit_any bs[a] W)
  generalize bs[a] = x at *
  obtain ⟨n, hnl⟩ : ∃ n, n = bs.length := ⟨_, rfl⟩
  have HL := Lib.hid hnl
  have HB := Lib.hid (hb.later (oneW_below W a))
  have HB0 := Lib.hid hb
  have HKc := Lib.hid hk
  have HA := Lib.hid ha
  rw [← hnl] at hn hk ⊢
  have i0 : (0 : Int) ≤ (a : Int) := by omega
  have i1 : (a : Int) < (n : Int) := by omega
  have hlb : b < W.heap.size := World.block_lt_of_cell? W _ cb
  have hw := refword_any (some ⟨b, off, none⟩) c bs a (oneW W a) HB.out (by have := HA.out; omega) (by rw [← HL.out]; exact hn)
  rw [← HL.out] at hw
  have hlw := word_le (bs.drop a)
  rw [List.length_drop, ← HL.out] at hlw
  obtain ⟨V, hsl, hcv0⟩ := slice_conv W (some ⟨b, off, none⟩) bs c a (a + (wordL (bs.drop a)).length) HB0.out (by omega) (by rw [← HL.out]; omega) HKc.out
  have hcv := hcv0 (oneW W a) (oneW_below W a)
  rw [show a + (wordL (bs.drop a)).length - a = (wordL (bs.drop a)).length by omega, word_take] at hcv
  rw [← HL.out, show ((a + (wordL (bs.drop a)).length : Nat) : Int) = (a : Int) + ((wordL (bs.drop a)).length : Int) by omega] at hsl
  have hfw := hfst (wordL (bs.drop a)) rfl
  generalize wordL (bs.drop a) = w at *
  obtain ⟨X, hX, hX1, hX2⟩ := str_of w
  rw [hX] at hcv
  have HX := Lib.hid (And.intro hX1 hX2)
  have HONE0 := Lib.hid hone
  have HW := Lib.hid hw
  have HFW := Lib.hid hfw
  have HNS := Lib.hid hns
  have HYS := Lib.hid hys
  have hlw2 : w.length ≤ 1048576 := by omega
  clear hone hw hcv0 hX hX1 hfw hfst hns hys hb hnl ha n1 n2 n3 n4 n5 n6
  rw [← hX2] at hlw hlw2 hsl HW HNS HYS
  generalize hN : X.size = N at *
  have HN := Lib.hid hN
  unfold oneW at hcv
  have j0 : (0 : Int) ≤ (N : Int) := by omega
  have j1 : (N : Int) ≤ 1048576 := by omega
  clear hX2 hN hlw
  cases q0 : syB x with
  | false =>
    have h0 : N = 0 := HNS.out q0
    subst h0
    have HONE := Lib.hid (show oneR (bs.drop a) = .err 30 by rw [HONE0.out, q0]; rfl)
    clear q0
    go_enter Tryz.func46, Tryz.ntmps46
    go_wp2_with fail
    refine HW.out.mono ?_
    rintro e w1 ⟨rfl, rfl⟩
    unfold oneW
    go_wp2_with fail
    refine bodyPost_ret (v := .tuple #[.agg #[.int .u8 0, .string ⟨#[]⟩, .int .i64 (a : Int)], .int .i64 0, .int .i64 30]) (by simp [results, Tryz.results46, go_sem]) rfl ⟨(below1 W _).alloc (by simp) _, ?_⟩
    rw [HONE.out]
    exact ⟨_, _, _, rfl⟩
  | true =>
    have h0 : 0 < N := HYS.out q0
    have g0 : ((N : Int) == 0) = false := by simp; omega
    have HNE := Lib.hid (show w ≠ [] from fun e => by have := HX.out.2; rw [e] at this; simp at this; omega)
    have HNW := Lib.hid (show ((w.length : Nat) : Int) = (N : Int) by have := HX.out.2; omega)
    have HF0 := Lib.hid (HFW.out q0)
    have HONE1 := Lib.hid (show oneR (bs.drop a) = plainR w by rw [HONE0.out, q0]; rfl)
    clear q0 h0
    cases q : dgB x with
    | false =>
      have HQ := Lib.hid q
      have HONE := Lib.hid (show oneR (bs.drop a) = .tok 3 w w.length by
        rw [HONE1.out]; unfold plainR; rw [if_pos (by rw [HF0.out, q]; decide)])
      clear q
      go_enter Tryz.func46, Tryz.ntmps46
      go_wp2_with fail
      refine HW.out.mono ?_
      rintro e w1 ⟨rfl, rfl⟩
      unfold oneW
      go_wp2_with fail
      refine (HDG.out _).mono ?_
      rintro e w1 ⟨rfl, rfl⟩
      rw [HQ.out]
      go_wp2_with fail
      rw [← HNW.out]
      refine bodyPost_ret (v := .tuple #[.agg #[.int .u8 3, .string X, .int .i64 (a : Int)], .int .i64 ((w.length : Nat) : Int), .int .i64 0]) (by simp [results, Tryz.results46, go_sem]) rfl ⟨(below1 W _).alloc (by simp) _, ?_⟩
      rw [HONE.out]
      exact ⟨_, rfl, HX.out.1⟩
    | true =>
      have HQ := Lib.hid q
      have HONE2 := Lib.hid (show oneR (bs.drop a) = if numB w then .tok 4 w w.length else if decB w then .tok 7 w w.length else .err 5 by
        rw [HONE1.out]; exact plainR_ref HNE.out (by rw [HF0.out]; exact q))
      clear q
      cases q1 : numB w with
      | true =>
        have HQ1 := Lib.hid q1
        have HONE := Lib.hid (show oneR (bs.drop a) = .tok 4 w w.length by rw [HONE2.out, q1]; rfl)
        clear q1
        go_enter Tryz.func46, Tryz.ntmps46
        go_wp2_with fail
        refine HW.out.mono ?_
        rintro e w1 ⟨rfl, rfl⟩
        unfold oneW
        go_wp2_with fail
        refine (HDG.out _).mono ?_
        rintro e w1 ⟨rfl, rfl⟩
        rw [HQ.out]
        go_wp2_with fail
        refine (numeral_any X _ (by rw [HN.out]; omega)).mono ?_
        rintro e w1 ⟨rfl, rfl⟩
        rw [HX.out.1, HQ1.out]
        go_wp2_with fail
        rw [← HNW.out]
        refine bodyPost_ret (v := .tuple #[.agg #[.int .u8 4, .string X, .int .i64 (a : Int)], .int .i64 ((w.length : Nat) : Int), .int .i64 0]) (by simp [results, Tryz.results46, go_sem]) rfl ⟨(below1 W _).alloc (by simp) _, ?_⟩
        rw [HONE.out]
        exact ⟨_, rfl, HX.out.1⟩
      | false =>
        have HQ1 := Lib.hid q1
        cases q2 : decB w with
        | true =>
          have HQ2 := Lib.hid q2
          have HONE := Lib.hid (show oneR (bs.drop a) = .tok 7 w w.length by rw [HONE2.out, q1, q2]; rfl)
          clear q1 q2
          go_enter Tryz.func46, Tryz.ntmps46
          go_wp2_with fail
          refine HW.out.mono ?_
          rintro e w1 ⟨rfl, rfl⟩
          unfold oneW
          go_wp2_with fail
          refine (HDG.out _).mono ?_
          rintro e w1 ⟨rfl, rfl⟩
          rw [HQ.out]
          go_wp2_with fail
          refine (numeral_any X _ (by rw [HN.out]; omega)).mono ?_
          rintro e w1 ⟨rfl, rfl⟩
          rw [HX.out.1, HQ1.out]
          go_wp2_with fail
          refine (decimal_any X _ (by rw [HN.out]; omega)).mono ?_
          rintro e w1 ⟨rfl, rfl⟩
          rw [HX.out.1, HQ2.out]
          go_wp2_with fail
          rw [← HNW.out]
          refine bodyPost_ret (v := .tuple #[.agg #[.int .u8 7, .string X, .int .i64 (a : Int)], .int .i64 ((w.length : Nat) : Int), .int .i64 0]) (by simp [results, Tryz.results46, go_sem]) rfl ⟨(below1 W _).alloc (by simp) _, ?_⟩
          rw [HONE.out]
          exact ⟨_, rfl, HX.out.1⟩
        | false =>
          have HQ2 := Lib.hid q2
          have HONE := Lib.hid (show oneR (bs.drop a) = .err 5 by rw [HONE2.out, q1, q2]; rfl)
          clear q1 q2
          go_enter Tryz.func46, Tryz.ntmps46
          go_wp2_with fail
          refine HW.out.mono ?_
          rintro e w1 ⟨rfl, rfl⟩
          unfold oneW
          go_wp2_with fail
          refine (HDG.out _).mono ?_
          rintro e w1 ⟨rfl, rfl⟩
          rw [HQ.out]
          go_wp2_with fail
          refine (numeral_any X _ (by rw [HN.out]; omega)).mono ?_
          rintro e w1 ⟨rfl, rfl⟩
          rw [HX.out.1, HQ1.out]
          go_wp2_with fail
          refine (decimal_any X _ (by rw [HN.out]; omega)).mono ?_
          rintro e w1 ⟨rfl, rfl⟩
          rw [HX.out.1, HQ2.out]
          go_wp2_with fail
          refine bodyPost_ret (v := .tuple #[.agg #[.int .u8 0, .string X, .int .i64 (a : Int)], .int .i64 0, .int .i64 5]) (by simp [results, Tryz.results46, go_sem]) rfl ⟨(below1 W _).alloc (by simp) _, ?_⟩
          rw [HONE.out]
          exact ⟨_, _, _, rfl⟩
set_option maxRecDepth 100000 in
theorem one_any (p : Option Addr) (c : Nat) (bs : List UInt8) (a : Nat) (W : World) (hb : BytesIn W p bs) (hk : bs.length ≤ c) (ha : a < bs.length) (hn : bs.length ≤ 1048576) :
    Calls Tryz.prog 46 #[.slice p bs.length c, .int .i64 (a : Int)] W (OneP (oneR (bs.drop a)) a W) := by
  by_cases n1 : bs[a] = 40
  · exact one_open p c bs a W hb hk ha hn n1
  · by_cases n2 : bs[a] = 41
    · exact one_close p c bs a W hb hk ha hn n2
    · by_cases n3 : bs[a] = 124
      · exact one_bar p c bs a W hb hk ha hn n3
      · by_cases n4 : bs[a] = 34
        · exact one_mark p c bs a W hb hk ha hn n4
        · by_cases n5 : bs[a] = 58
          · exact one_key p c bs a W hb hk ha hn n5
          · by_cases n6 : bs[a] = 35
            · exact one_hash p c bs a W hb hk ha hn n6
            · exact one_wd p c bs a W hb hk ha hn n1 n2 n3 n4 n5 n6
end Go.Proofs.YtdompkenblnjjaaGreat

