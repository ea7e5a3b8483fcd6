/- Whether a step may be: the program's answer. -/
import Derived.Test.YtookoagcmejkpaaGreatDoorJ12
import Derived.Deep.RegionWith
set_option maxHeartbeats 1600000
namespace Go.Proofs.YtookoagcmejkpaaGreatDoor
set_option maxRecDepth 100000
open Go Go.RowKit Go.Maps
structure BoxF (w : World) (b : Nat) : Prop where
 c0 : w.cell? ⟨b, 0, none⟩ = some (.string ⟨#[]⟩)
 c1 : w.cell? ⟨b, 1, none⟩ = some (.bool false)
 c2 : w.cell? ⟨b, 2, none⟩ = some (.bool false)
 c3 : w.cell? ⟨b, 3, none⟩ = some (.bool false)
 c4 : w.cell? ⟨b, 4, none⟩ = some (.bool false)
 c5 : w.cell? ⟨b, 5, none⟩ = some (.bool false)
 c6 : w.cell? ⟨b, 6, none⟩ = some (.bool false)
 c7 : w.cell? ⟨b, 7, none⟩ = some (.bool false)
 c8 : w.cell? ⟨b, 8, none⟩ = some (.bool false)
 fz : ∀ o, w.frozen? ⟨b, o, none⟩ = false
theorem qdk (w : World) : BoxF (w.alloc (.cells #[.string ⟨#[]⟩, .bool false, .bool false, .bool false, .bool false, .bool false, .bool false, .bool false, .bool false] 66)) w.heap.size :=
 ⟨by simp, by simp, by simp, by simp, by simp, by simp, by simp, by simp, by simp, fun o => by simp [go_sem]⟩
theorem BoxF.later {w w' : World} {b : Nat} (h : BoxF w b) (hb : Below w.heap.size w w') : BoxF w' b :=
 ⟨qaa hb h.c0, qaa hb h.c1, qaa hb h.c2, qaa hb h.c3, qaa hb h.c4, qaa hb h.c5, qaa hb h.c6, qaa hb h.c7, qaa hb h.c8, fun o => by rw [hb.frozen (p := ⟨b, o, none⟩) (World.block_lt_of_cell? w ⟨b, 0, none⟩ h.c0)]; exact h.fz o⟩
theorem qlv (k a b : Int) (p : Option Addr) (c n : Nat) (q : Option Addr) (d m : Nat) (W : World) (hk0 : 0 <= k) (hk1 : k <= 255) (hf : qem k = none) :
  Calls Tryz.prog 11 #[.agg #[.int .u8 k, .slice p n c, .slice q m d, .int .i64 a, .int .i64 b]] W fun e w' => e = .returned (.bool false) /\ Below W.heap.size W w' := by
 obtain ⟨W1, hW1⟩ : ∃ W1, W1 = W.alloc (.cells #[.int .u8 k, .slice p n c, .slice q m d, .int .i64 a, .int .i64 b] 26) := ⟨_, rfl⟩;have hb1 : Below W.heap.size W W1 := by rw [hW1]; exact qab _ _
 have hc : W1.cell? ⟨W.heap.size, 0, none⟩ = some (.int .u8 k) := by rw [hW1]; simp
 have HB1 := Zh hb1;have HK := Zh (aI hk0 (aI hk1 hf));rw [hW1] at hc HB1;have hc0 := qaa (qae (W.alloc (.cells #[.int .u8 k, .slice p n c, .slice q m d, .int .i64 a, .int .i64 b] 26))) hc;have hc00 := qaa (qae ((W.alloc (.cells #[.int .u8 k, .slice p n c, .slice q m d, .int .i64 a, .int .i64 b] 26)).alloc (.cells #[.string ⟨#[]⟩, .bool false, .bool false, .bool false, .bool false, .bool false, .bool false, .bool false, .bool false] 66))) (qaa (qab (W.alloc (.cells #[.int .u8 k, .slice p n c, .slice q m d, .int .i64 a, .int .i64 b] 26)) (.cells #[.string ⟨#[]⟩, .bool false, .bool false, .bool false, .bool false, .bool false, .bool false, .bool false, .bool false] 66)) hc);have HBZ := Zh (show Below W.heap.size W ((W.alloc (.cells #[.int .u8 k, .slice p n c, .slice q m d, .int .i64 a, .int .i64 b] 26)).alloc (.cells #[.string ⟨#[]⟩, .bool false, .bool false, .bool false, .bool false, .bool false, .bool false, .bool false, .bool false] 66)).drew from (HB1.o.trans ((qab _ (.cells #[.string ⟨#[]⟩, .bool false, .bool false, .bool false, .bool false, .bool false, .bool false, .bool false, .bool false] 66)).mono HB1.o.size)).drew);have HBD := Zh (HB1.o.trans ((qae _).mono HB1.o.size));have HSZ := Zh (show (W.alloc (.cells #[.int .u8 k, .slice p n c, .slice q m d, .int .i64 a, .int .i64 b] 26)).heap.size = W.heap.size + 1 from by simp);clear hb1 hW1 hk0 hk1 hf;go_enter Tryz.func11, Tryz.ntmps11
 go_wp2_with fail
 go_region_with (first
  | (go_at_call 28; refine (qei _).mono ?_; rintro e w1 ⟨mm, rfl, hm, hb, hmm⟩;       have hc1 : w1.cell? ⟨W.heap.size, 0, none⟩ = some (.int .u8 k) := (by first | exact qaa hb hc0 | exact qaa hb hc00); have hc2 := qaa (qab w1 (.cells #[.string ⟨#[]⟩, .bool false, .bool false, .bool false, .bool false, .bool false, .bool false, .bool false, .bool false] 66)) hc1; have hlk := hm.look_ok K22 Tryz.underlying67 (qcw _) (qdq k HK.o.1 HK.o.2.1); have hlk2 := (hm.later (qab w1 (.cells #[.string ⟨#[]⟩, .bool false, .bool false, .bool false, .bool false, .bool false, .bool false, .bool false, .bool false] 66))).look_ok K22 Tryz.underlying67 (qcw _) (qdq k HK.o.1 HK.o.2.1); rw [qbu, HK.o.2.2] at hlk hlk2; simp only [fmV, Option.getD_none, Option.isSome_none] at hlk hlk2; have HBN : Hid (Below W.heap.size W w1) := Zh (by first | exact HBD.o.trans (hb.mono HBD.o.size) | exact HBZ.o.trans (hb.mono HBZ.o.size)); (first | (have hbx := ((qdk (W.alloc (.cells #[.int .u8 k, .slice p n c, .slice q m d, .int .i64 a, .int .i64 b] 26))).later (qae _)).later hb; obtain ⟨z0, z1, z2, z3, z4, z5, z6, z7, z8, zf⟩ := hbx; rw [HSZ.o] at z0 z1 z2 z3 z4 z5 z6 z7 z8; simp only [HSZ.o] at zf) | skip); clear hm hb hmm))
 all_goals go_wp2_with fail
 all_goals refine bodyPost_ret (v := .bool false) (by simp [results, Tryz.results11, go_sem]) rfl ⟨rfl, ?_⟩
 all_goals repeat (first | refine Below.setCell ?_ (Nat.le_succ _) _ | refine Below.alloc ?_ HBN.o.size _)
 all_goals exact HBN.o
end Go.Proofs.YtookoagcmejkpaaGreatDoor
