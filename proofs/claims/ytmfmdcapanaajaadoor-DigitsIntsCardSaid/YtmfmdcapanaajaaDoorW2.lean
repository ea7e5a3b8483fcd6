/- Contracts of the two-word sums and differences. -/
import Derived.Test.YtmfmdcapanaajaaDoorW1
import Derived.Laws.Bits128
namespace Go.Proofs.YtmfmdcapanaajaaDoor
open Go Go.RowKit

theorem i64_and62 (n : Int) : bits .and .i64 n 4611686018427387903 = n % 4611686018427387904 := by
  have key : (BitVec.ofInt 64 n &&& BitVec.ofInt 64 4611686018427387903).toNat = (n % 4611686018427387904).toNat := by
    rw [BitVec.toNat_and, show (BitVec.ofInt 64 4611686018427387903).toNat = 2 ^ 62 - 1 by decide, Nat.and_two_pow_sub_one_eq_mod, BitVec.toNat_ofInt]
    omega
  show IntKind.i64.wrap ((BitVec.ofInt 64 n &&& BitVec.ofInt 64 4611686018427387903).toNat : Nat) = n % 4611686018427387904
  rw [key, IntKind.wrap_i64]
  omega

theorem bcell {W w1 : World} (hb : Below W.heap.size W w1) : (∀ b o, b < W.heap.size → w1.cell? ⟨b, o, none⟩ = W.cell? ⟨b, o, none⟩) ∧ (∀ b o, b < W.heap.size → w1.frozen? ⟨b, o, none⟩ = W.frozen? ⟨b, o, none⟩) :=
  ⟨fun b o h => hb.cell (p := ⟨b, o, none⟩) h, fun b o h => hb.frozen (p := ⟨b, o, none⟩) h⟩

theorem keep {W w1 : World} (hb : Below W.heap.size W w1) {a : Addr} {v : Value} (h : W.cell? a = some v) (hf : W.frozen? a = false) : w1.cell? a = some v ∧ w1.frozen? a = false :=
  ⟨cell_later hb h, (hb.frozen (World.block_lt_of_cell? _ _ h)).trans hf⟩

/-- High of a number that is a floor, and Low: saturated. -/
def sH (s : Int) : Int := if s < -9223372036854775808 then -9223372036854775808 else if 9223372036854775807 < s then 9223372036854775807 else s
def sL (s low : Int) : Int := if s < -9223372036854775808 then 0 else if 9223372036854775807 < s then 0 else low
theorem sat_any (s low : Int) (w : World) (h0 : -170141183460469231731687303715884105728 ≤ s) (h1 : s ≤ 170141183460469231731687303715884105727) :
    Calls Tryd.prog 36 #[.agg #[.int .u64 (hiW s), .int .u64 (loW s)], .int .i64 low] w fun e w' => e = .returned (.agg #[.int .i64 (sH s), .int .i64 (sL s low)]) ∧ Below w.heap.size w w' := by
  unfold sH sL
  by_cases h : s < -9223372036854775808
  · rw [if_pos h, if_pos h]; exact sat_under s low w h h0
  · rw [if_neg h, if_neg h]
    by_cases h' : 9223372036854775807 < s
    · rw [if_pos h', if_pos h']; exact sat_over s low w h' h1
    · rw [if_neg h', if_neg h']; exact sat_in s low w (by omega) (by omega)

set_option maxRecDepth 100000 in
theorem plus_any (ah al bh bl : Int) (w : World) (h0 : -9223372036854775808 ≤ ah) (h1 : ah ≤ 9223372036854775807) (h2 : -9223372036854775808 ≤ al) (h3 : al ≤ 9223372036854775807) (k0 : -9223372036854775808 ≤ bh) (k1 : bh ≤ 9223372036854775807) (k2 : -9223372036854775808 ≤ bl) (k3 : bl ≤ 9223372036854775807) :
    Calls Tryd.prog 24 #[.agg #[.int .i64 ah, .int .i64 al], .agg #[.int .i64 bh, .int .i64 bl]] w fun e w' => e = .returned (.agg #[.int .i64 (sH ((ah * 4611686018427387904 + al + (bh * 4611686018427387904 + bl)) / 4611686018427387904)), .int .i64 (sL ((ah * 4611686018427387904 + al + (bh * 4611686018427387904 + bl)) / 4611686018427387904) ((ah * 4611686018427387904 + al + (bh * 4611686018427387904 + bl)) % 4611686018427387904))]) ∧ Below w.heap.size w w' := by
  have A := i64_and62 al
  have B := i64_and62 bl
  have C := i64_and62 (al % 4611686018427387904 + bl % 4611686018427387904)
  go_enter Tryd.func24, Tryd.ntmps24
  go_wp2_with fail
  refine (total_any _ _ _ _ _ h0 h1 k0 k1 (by omega) (by omega) (by omega) (by omega)).mono ?_
  rintro e w1 ⟨rfl, hb⟩
  have g0 := keep hb (a := ⟨w.heap.size + 1 + 1, 0, none⟩) (v := .int .i64 0) (by simp [go_sem]) (by simp [go_sem])
  have g1 := keep hb (a := ⟨w.heap.size + 1 + 1, 1, none⟩) (v := .int .i64 0) (by simp [go_sem]) (by simp [go_sem])
  have hB : Below w.heap.size w w1 := (below3 _ _ _ _).trans (hb.mono (by simp only [World.size_alloc]; omega))
  have hz := hB.size
  clear hb
  rw [show ah + bh + (al / 4611686018427387904 + bl / 4611686018427387904 + (al % 4611686018427387904 + bl % 4611686018427387904) / 4611686018427387904) + 0 = (ah * 4611686018427387904 + al + (bh * 4611686018427387904 + bl)) / 4611686018427387904 from by omega]
  go_wp2_with fail
  generalize hS : (ah * 4611686018427387904 + al + (bh * 4611686018427387904 + bl)) / 4611686018427387904 = S
  refine (sat_any _ _ _ (by omega) (by omega)).mono ?_
  rintro e w2 ⟨rfl, hb2⟩
  have k0 := keep hb2 g0.1 g0.2
  have k1 := keep hb2 g1.1 g1.2
  obtain ⟨k00, k01⟩ := k0
  obtain ⟨k10, k11⟩ := k1
  have hB2 : Below w.heap.size w w2 := hB.trans (hb2.mono hz)
  have HS := Lib.hid hS
  clear hb2 g0 g1 hB hz hS
  go_wp2_with fail
  refine bodyPost_ret (v := .agg #[.int .i64 (sH S), .int .i64 (sL S ((al + bl) % 4611686018427387904))]) (by simp [results, Tryd.results24, go_sem, k00, k10]) rfl ⟨?_, ?_⟩
  · rw [show (al + bl) % 4611686018427387904 = (ah * 4611686018427387904 + al + (bh * 4611686018427387904 + bl)) % 4611686018427387904 by omega, HS.out]
  · exact (hB2.setCell (by simp; omega) _).setCell (by simp; omega) _

theorem i64_not (n : Int) (h0 : -9223372036854775808 ≤ n) (h1 : n ≤ 9223372036854775807) : bits .xor .i64 (-1) n = -n - 1 := by
  have key : (BitVec.ofInt 64 (-1) ^^^ BitVec.ofInt 64 n).toNat = 18446744073709551615 - (n % 18446744073709551616).toNat := by
    rw [show (BitVec.ofInt 64 (-1)) = BitVec.allOnes 64 by decide, BitVec.allOnes_xor, BitVec.toNat_not, BitVec.toNat_ofInt]
    omega
  show IntKind.i64.wrap ((BitVec.ofInt 64 (-1) ^^^ BitVec.ofInt 64 n).toNat : Nat) = -n - 1
  rw [key, IntKind.wrap_i64]
  omega

set_option maxRecDepth 100000 in
theorem minus_any (ah al bh bl : Int) (w : World) (h0 : -9223372036854775808 ≤ ah) (h1 : ah ≤ 9223372036854775807) (h2 : -9223372036854775808 ≤ al) (h3 : al ≤ 9223372036854775807) (k0 : -9223372036854775808 ≤ bh) (k1 : bh ≤ 9223372036854775807) (k2 : -9223372036854775808 ≤ bl) (k3 : bl ≤ 9223372036854775807) :
    Calls Tryd.prog 38 #[.agg #[.int .i64 ah, .int .i64 al], .agg #[.int .i64 bh, .int .i64 bl]] w fun e w' => e = .returned (.tuple #[.agg #[.int .u64 (hiW ((ah * 4611686018427387904 + al - (bh * 4611686018427387904 + bl)) / 4611686018427387904)), .int .u64 (loW ((ah * 4611686018427387904 + al - (bh * 4611686018427387904 + bl)) / 4611686018427387904))], .int .i64 ((ah * 4611686018427387904 + al - (bh * 4611686018427387904 + bl)) % 4611686018427387904)]) ∧ Below w.heap.size w w' := by
  have A := i64_and62 al
  have B := i64_and62 bl
  have C := i64_and62 (al % 4611686018427387904 - bl % 4611686018427387904)
  have D := i64_not bh k0 k1
  go_enter Tryd.func38, Tryd.ntmps38
  go_wp2_with fail
  refine (total_any _ _ _ _ _ h0 h1 (by omega) (by omega) (by omega) (by omega) (by omega) (by omega)).mono ?_
  rintro e w1 ⟨rfl, hb⟩
  have g0 := keep hb (a := ⟨w.heap.size + 1 + 1, 0, none⟩) (v := .int .u64 0) (by simp [go_sem]) (by simp [go_sem])
  have g1 := keep hb (a := ⟨w.heap.size + 1 + 1, 1, none⟩) (v := .int .u64 0) (by simp [go_sem]) (by simp [go_sem])
  obtain ⟨g00, g01⟩ := g0
  obtain ⟨g10, g11⟩ := g1
  have hB : Below w.heap.size w w1 := (below3 _ _ _ _).trans (hb.mono (by simp only [World.size_alloc]; omega))
  clear hb
  rw [show ah + (-bh - 1) + 1 + (al / 4611686018427387904 - bl / 4611686018427387904 + (al % 4611686018427387904 - bl % 4611686018427387904) / 4611686018427387904) = (ah * 4611686018427387904 + al - (bh * 4611686018427387904 + bl)) / 4611686018427387904 from by omega]
  generalize hS : (ah * 4611686018427387904 + al - (bh * 4611686018427387904 + bl)) / 4611686018427387904 = S
  have HS := Lib.hid hS
  clear hS
  go_wp2_with fail
  refine bodyPost_ret (v := .tuple #[.agg #[.int .u64 (hiW S), .int .u64 (loW S)], .int .i64 ((al - bl) % 4611686018427387904)]) (by simp [results, Tryd.results38, go_sem, g00, g10]) rfl ⟨?_, ?_⟩
  · rw [show (al - bl) % 4611686018427387904 = (ah * 4611686018427387904 + al - (bh * 4611686018427387904 + bl)) % 4611686018427387904 by omega, HS.out]
  · exact (hB.setCell (by simp; omega) _).setCell (by simp; omega) _

set_option maxRecDepth 100000 in
theorem Minus_any (ah al bh bl : Int) (w : World) (h0 : -9223372036854775808 ≤ ah) (h1 : ah ≤ 9223372036854775807) (h2 : -9223372036854775808 ≤ al) (h3 : al ≤ 9223372036854775807) (k0 : -9223372036854775808 ≤ bh) (k1 : bh ≤ 9223372036854775807) (k2 : -9223372036854775808 ≤ bl) (k3 : bl ≤ 9223372036854775807) :
    Calls Tryd.prog 25 #[.agg #[.int .i64 ah, .int .i64 al], .agg #[.int .i64 bh, .int .i64 bl]] w fun e w' => e = .returned (.agg #[.int .i64 (sH ((ah * 4611686018427387904 + al - (bh * 4611686018427387904 + bl)) / 4611686018427387904)), .int .i64 (sL ((ah * 4611686018427387904 + al - (bh * 4611686018427387904 + bl)) / 4611686018427387904) ((ah * 4611686018427387904 + al - (bh * 4611686018427387904 + bl)) % 4611686018427387904))]) ∧ Below w.heap.size w w' := by
  go_enter Tryd.func25, Tryd.ntmps25
  go_wp2_with fail
  refine (minus_any _ _ _ _ _ h0 h1 h2 h3 k0 k1 k2 k3).mono ?_
  rintro e w1 ⟨rfl, hb⟩
  have g0 := keep hb (a := ⟨w.heap.size + 1 + 1, 0, none⟩) (v := .int .i64 0) (by simp [go_sem]) (by simp [go_sem])
  have g1 := keep hb (a := ⟨w.heap.size + 1 + 1, 1, none⟩) (v := .int .i64 0) (by simp [go_sem]) (by simp [go_sem])
  have hB : Below w.heap.size w w1 := (below3 _ _ _ _).trans (hb.mono (by simp only [World.size_alloc]; omega))
  have hz := hB.size
  clear hb
  have hr : -170141183460469231731687303715884105728 ≤ (ah * 4611686018427387904 + al - (bh * 4611686018427387904 + bl)) / 4611686018427387904 ∧ (ah * 4611686018427387904 + al - (bh * 4611686018427387904 + bl)) / 4611686018427387904 ≤ 170141183460469231731687303715884105727 := by omega
  generalize hS : (ah * 4611686018427387904 + al - (bh * 4611686018427387904 + bl)) / 4611686018427387904 = S at *
  generalize hL : (ah * 4611686018427387904 + al - (bh * 4611686018427387904 + bl)) % 4611686018427387904 = L at *
  have HS := Lib.hid hS
  have HL := Lib.hid hL
  clear hS hL
  go_wp2_with fail
  refine (sat_any _ _ _ hr.1 hr.2).mono ?_
  rintro e w2 ⟨rfl, hb⟩
  have hb2 : Below w1.heap.size w1 w2 := ((Below.refl _ _).alloc (Nat.le_refl _) _).trans (hb.mono (by simp only [World.size_alloc]; omega))
  have k0 := keep hb2 g0.1 g0.2
  have k1 := keep hb2 g1.1 g1.2
  obtain ⟨k00, k01⟩ := k0
  obtain ⟨k10, k11⟩ := k1
  have hB2 : Below w.heap.size w w2 := hB.trans (hb2.mono hz)
  clear hb hb2 g0 g1 hB hz hr
  go_wp2_with fail
  exact bodyPost_ret (v := .agg #[.int .i64 (sH S), .int .i64 (sL S L)]) (by simp [results, Tryd.results25, go_sem, k00, k10]) rfl ⟨by rw [HS.out, HL.out], (hB2.setCell (by simp; omega) _).setCell (by simp; omega) _⟩

theorem hi_neg (s : Int) (h0 : -170141183460469231731687303715884105728 ≤ s) (h1 : s ≤ 170141183460469231731687303715884105727) : (wrap64 (hiW s) < 0) = (s < 0) := by
  rw [wrap64_eq]; unfold hiW; apply propext; omega

set_option maxRecDepth 100000 in
theorem less_any (ah al bh bl : Int) (w : World) (h0 : -9223372036854775808 ≤ ah) (h1 : ah ≤ 9223372036854775807) (h2 : -9223372036854775808 ≤ al) (h3 : al ≤ 9223372036854775807) (k0 : -9223372036854775808 ≤ bh) (k1 : bh ≤ 9223372036854775807) (k2 : -9223372036854775808 ≤ bl) (k3 : bl ≤ 9223372036854775807) :
    Calls Tryd.prog 26 #[.agg #[.int .i64 ah, .int .i64 al], .agg #[.int .i64 bh, .int .i64 bl]] w fun e w' => e = .returned (.bool (decide (ah * 4611686018427387904 + al < bh * 4611686018427387904 + bl))) ∧ Below w.heap.size w w' := by
  go_enter Tryd.func26, Tryd.ntmps26
  go_wp2_with fail
  refine (minus_any _ _ _ _ _ h0 h1 h2 h3 k0 k1 k2 k3).mono ?_
  rintro e w1 ⟨rfl, hb⟩
  have hB : Below w.heap.size w w1 := (below2 _ _ _).trans (hb.mono (by simp only [World.size_alloc]; omega))
  have hz := hB.size
  clear hb
  have hn := hi_neg ((ah * 4611686018427387904 + al - (bh * 4611686018427387904 + bl)) / 4611686018427387904) (by omega) (by omega)
  have hq : ((ah * 4611686018427387904 + al - (bh * 4611686018427387904 + bl)) / 4611686018427387904 < 0) = (ah * 4611686018427387904 + al < bh * 4611686018427387904 + bl) := by apply propext; omega
  have HQ := Lib.hid hq
  clear hq
  generalize (ah * 4611686018427387904 + al - (bh * 4611686018427387904 + bl)) / 4611686018427387904 = S at *
  generalize (ah * 4611686018427387904 + al - (bh * 4611686018427387904 + bl)) % 4611686018427387904 = L at *
  have HN := Lib.hid hn
  clear hn
  go_wp2_with fail
  go_ret
  refine ⟨?_, hB.alloc hz _⟩
  have e1 := HN.out
  have e2 := HQ.out
  simp only [e1, e2]
  rfl

set_option maxRecDepth 100000 in
theorem normal_any (ah al : Int) (w : World) (h0 : -9223372036854775808 ≤ ah) (h1 : ah ≤ 9223372036854775807) (h2 : -9223372036854775808 ≤ al) (h3 : al ≤ 9223372036854775807) :
    Calls Tryd.prog 23 #[.agg #[.int .i64 ah, .int .i64 al]] w fun e w' => e = .returned (.agg #[.int .i64 (sH ((ah * 4611686018427387904 + al) / 4611686018427387904)), .int .i64 (sL ((ah * 4611686018427387904 + al) / 4611686018427387904) ((ah * 4611686018427387904 + al) % 4611686018427387904))]) ∧ Below w.heap.size w w' := by
  go_enter Tryd.func23, Tryd.ntmps23
  go_wp2_with fail
  refine (plus_any _ _ _ _ _ h0 h1 h2 h3 (by omega) (by omega) (by omega) (by omega)).mono ?_
  rintro e w1 ⟨rfl, hb⟩
  rw [show (ah * 4611686018427387904 + al + (0 * 4611686018427387904 + 0)) = ah * 4611686018427387904 + al from by omega]
  have g0 := keep hb (a := ⟨w.heap.size + 1, 0, none⟩) (v := .int .i64 0) (by simp [go_sem]) (by simp [go_sem])
  have g1 := keep hb (a := ⟨w.heap.size + 1, 1, none⟩) (v := .int .i64 0) (by simp [go_sem]) (by simp [go_sem])
  have hB : Below w.heap.size w w1 := (below2 _ _ _).trans (hb.mono (by simp only [World.size_alloc]; omega))
  clear hb
  obtain ⟨g00, g01⟩ := g0
  obtain ⟨g10, g11⟩ := g1
  generalize hS : (ah * 4611686018427387904 + al) / 4611686018427387904 = S at *
  generalize hL : (ah * 4611686018427387904 + al) % 4611686018427387904 = L at *
  have HS := Lib.hid hS
  have HL := Lib.hid hL
  clear hS hL
  go_wp2_with fail
  exact bodyPost_ret (v := .agg #[.int .i64 (sH S), .int .i64 (sL S L)]) (by simp [results, Tryd.results23, go_sem, g00, g10]) rfl ⟨by rw [HS.out, HL.out], (hB.setCell (by simp) _).setCell (by simp) _⟩

set_option maxRecDepth 100000 in
theorem of_any (n : Int) (w : World) (h0 : -9223372036854775808 ≤ n) (h1 : n ≤ 9223372036854775807) :
    Calls Tryd.prog 21 #[.int .i64 n] w fun e w' => e = .returned (.agg #[.int .i64 (n / 4611686018427387904), .int .i64 (n % 4611686018427387904)]) ∧ Below w.heap.size w w' := by
  go_enter Tryd.func21, Tryd.ntmps21
  go_wp2_with fail
  refine (normal_any _ _ _ (by omega) (by omega) h0 h1).mono ?_
  rintro e w1 ⟨rfl, hb⟩
  rw [show (0 * 4611686018427387904 + n) = n from by omega]
  have e1 : sH (n / 4611686018427387904) = n / 4611686018427387904 := by unfold sH; rw [if_neg (by omega), if_neg (by omega)]
  have e2 : sL (n / 4611686018427387904) (n % 4611686018427387904) = n % 4611686018427387904 := by unfold sL; rw [if_neg (by omega), if_neg (by omega)]
  rw [e1, e2]
  clear e1 e2
  have g0 := keep hb (a := ⟨w.heap.size, 0, none⟩) (v := .int .i64 0) (by simp [go_sem]) (by simp [go_sem])
  have g1 := keep hb (a := ⟨w.heap.size, 1, none⟩) (v := .int .i64 0) (by simp [go_sem]) (by simp [go_sem])
  have hB : Below w.heap.size w w1 := ((Below.refl _ _).alloc (Nat.le_refl _) _).trans (hb.mono (by simp only [World.size_alloc]; omega))
  clear hb
  obtain ⟨g00, g01⟩ := g0
  obtain ⟨g10, g11⟩ := g1
  go_wp2_with fail
  exact bodyPost_ret (v := .agg #[.int .i64 (n / 4611686018427387904), .int .i64 (n % 4611686018427387904)]) (by simp [results, Tryd.results21, go_sem, g00, g10]) rfl ⟨rfl, (hB.setCell (by simp) _).setCell (by simp) _⟩
end Go.Proofs.YtmfmdcapanaajaaDoor
