/- The law's known() of stage 17: in one. -/
import Derived.Test.YtgdncnalahdjeaaL19
namespace Go.Proofs.Ytgdncnalahdjeaa
open Go Go.RowKit

set_option maxRecDepth 100000 in
set_option maxHeartbeats 800000 in
theorem known_any (w : World) : Calls Try.prog 35 #[] w fun e w' => e = .returned (.bool true) ∧ Below w.heap.size w w' := by
  obtain ⟨k, Z, hk, hZ0, hZ1, hN⟩ := norm2
  have h1 := below1 (smallW w) (.cells #[.int .i64 0] 3)
  have h2 := below1 ((smallW w).alloc (.cells #[.int .i64 0] 3)) (.cells #[.int .u8 1, .int .i64 1, .int .i64 0, .int .i64 0, .int .i64 0, .int .i64 0, .slice none 0 0, .int .u8 5, .int .i64 0, .int .i64 4, .int .i64 5, .int .i64 0, .int .i64 0, .slice (some ⟨(smallW w).heap.size, 0, none⟩) 1 1, .int .u8 6, .int .i64 (-2), .int .i64 0, .int .i64 0, .int .i64 1, .int .i64 0, .slice none 0 0] 57)
  have hb := chain (chain (smallW_below w) h1) h2
  have hvs := ((small_verts w).later h1).later h2
  have has := ((small_atoms w).later h1).later h2
  have hls := three_links _ _ (one_lits (smallW w) 0 3)
  have H1 := check_k3 _ _ _ _ _ _ hvs has hls k Z hN
  have HV := Lib.hid hvs
  have HA := Lib.hid has
  have HB := Lib.hid hb
  have HZ := Lib.hid (And.intro hk (And.intro hZ0 hZ1))
  rw [show ((smallW w).alloc (.cells #[.int .i64 0] 3)).heap.size = (smallW w).heap.size + 1 from World.size_alloc _ _] at H1
  clear hN hk hZ0 hZ1 hvs has hls hb h1 h2
  go_enter Try.func35, Try.ntmps35
  go_wp2_with fail
  refine (small_any w).mono ?_
  rintro e w1 ⟨rfl, rfl⟩
  go_wp2_with fail
  refine H1.mono ?_
  rintro e w3 ⟨⟨p5, c5, rfl, hL5⟩, hb3⟩
  have hc1 := below1 w3 (.cells #[.int .u8 1, .int .i64 1, .int .i64 0, .int .i64 0, .int .i64 0, .int .i64 0, .slice none 0 0] 57)
  have H2 := check_k1 _ _ _ _ _ ((HV.out.later hb3).later hc1) ((HA.out.later hb3).later hc1) (one_link w3)
  have HB3 := Lib.hid (chain (chain HB.out hb3) hc1)
  have HL5 := Lib.hid (hL5.later hc1)
  clear hb3 hL5 H1 hc1
  go_wp2_with fail
  refine H2.mono ?_
  rintro e w4 ⟨rfl, hb4⟩
  have hd1 := below1 w4 (.cells #[.int .i64 1, .int .i64 (-2)] 54)
  have H3 := alike_any p5 k c5 Z (some ⟨w4.heap.size, 0, none⟩) 2 2 (fun i => [1, -2].getD i 0) _ ((HL5.out.later hb4).later hd1) (by have := HZ.out.1; omega) (two_lits w4) (by omega)
  rw [show alikeB k Z 2 (fun i => [1, -2].getD i 0) = true from alikeB_yes HZ.out.1 (fun i hi => by
    have hz := HZ.out
    obtain ⟨rfl, z0, z1⟩ := hz
    match i, hi with
    | 0, _ => exact z0
    | 1, _ => exact z1)] at H3
  have HB4 := Lib.hid (chain (chain HB3.out hb4) hd1)
  clear hb4 H2 hd1
  go_wp2_with fail
  refine H3.mono ?_
  rintro e w5 ⟨rfl, hb5⟩
  have HB5 := Lib.hid (chain HB4.out hb5)
  clear hb5 H3
  go_wp2_with fail
  go_ret
  exact ⟨rfl, HB5.out⟩
end Go.Proofs.Ytgdncnalahdjeaa
