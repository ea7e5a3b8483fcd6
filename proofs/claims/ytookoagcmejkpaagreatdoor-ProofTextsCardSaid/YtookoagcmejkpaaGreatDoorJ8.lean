/- A number's text: the program's digits. Is a row of digits 0? A number's tree, where it isn't negative: the program's. -/
import Derived.Test.YtookoagcmejkpaaGreatDoorJ0
import Derived.Test.YtookoagcmejkpaaGreatDoorDW4
import Derived.RegionTactic
import Derived.Laws.StructEq
import Derived.Tactics
import Derived.Tactics2
import Derived.Test.YtookoagcmejkpaaGreatDoorJ2
namespace Go.Proofs.YtookoagcmejkpaaGreatDoor
set_option maxRecDepth 100000
open Go Go.RowKit Go.Sort
theorem qj4 (n : Int) (w : World) (h0 : -9223372036854775808 <= n) (h1 : n <= 9223372036854775807) (htab : Lib.TabIs Tryz.prog w "internal/strconv.uint64pow10" .u64 Lib.pow10Tab) :
  Calls Tryz.prog 95 #[.int .i64 n] w fun e w' => e = .returned (.string ⟨(Lib.itoa n).toArray⟩) /\ Below w.heap.size w w' := by
 go_enter Tryz.func95, Tryz.ntmps95
 go_wp2_with (go_at_call 110; refine (Tryz.strconv_FormatInt_10 n h0 h1 _ htab).mono ?_; rintro e w' ⟨rfl, k, os, rfl⟩)
 go_ret
 exact ⟨rfl, ql8 _ _ _⟩
theorem qj0 (c0 c1 c2 c3 c4 c5 c6 c7 c8 c9 : Int) (w : World) : (Op.equalIn 10000 121 (.agg #[.int .i64 c0, .int .i64 c1, .int .i64 c2, .int .i64 c3, .int .i64 c4, .int .i64 c5, .int .i64 c6, .int .i64 c7, .int .i64 c8, .int .i64 c9]) (.agg #[.int .i64 0, .int .i64 0, .int .i64 0, .int .i64 0, .int .i64 0, .int .i64 0, .int .i64 0, .int .i64 0, .int .i64 0, .int .i64 0])).run Tryz.prog w = .ok ((c0 == 0) && (c1 == 0) && (c2 == 0) && (c3 == 0) && (c4 == 0) && (c5 == 0) && (c6 == 0) && (c7 == 0) && (c8 == 0) && (c9 == 0)) w := by
 have u2 := Tryz.underlying2;have a2 := Tryz.isAgg2;have z2 := Tryz.sizeOf2;rw [show (10000 : Nat) = 9999 + 1 from rfl, Op.equalIn];simp only [Sem.run_bind, run_underlying Tryz.underlying121, Result.andThen_ok];simp only [Std.Legacy.Range.forIn_eq_forIn_range', Std.Legacy.Range.size, Nat.sub_zero, Nat.add_sub_cancel, Nat.div_one, List.range'_succ, List.range'_zero, List.forIn_cons, List.forIn_nil];go_simp
 repeat' split
 all_goals simp_all
theorem qr9 (c0 c1 c2 c3 c4 c5 c6 c7 c8 c9 : Int) (w : World) : (binOp .eql 121 (.agg #[.int .i64 c0, .int .i64 c1, .int .i64 c2, .int .i64 c3, .int .i64 c4, .int .i64 c5, .int .i64 c6, .int .i64 c7, .int .i64 c8, .int .i64 c9]) (.agg #[.int .i64 0, .int .i64 0, .int .i64 0, .int .i64 0, .int .i64 0, .int .i64 0, .int .i64 0, .int .i64 0, .int .i64 0, .int .i64 0])).run Tryz.prog w = .ok (.bool ((c0 == 0) && (c1 == 0) && (c2 == 0) && (c3 == 0) && (c4 == 0) && (c5 == 0) && (c6 == 0) && (c7 == 0) && (c8 == 0) && (c9 == 0))) w := by
 rw [run_eql_struct, qj0]; rfl
theorem qo0 (c0 c1 c2 c3 c4 c5 c6 c7 c8 c9 : Int) (w : World) :
  Calls Tryz.prog 99 #[.agg #[.int .i64 c0, .int .i64 c1, .int .i64 c2, .int .i64 c3, .int .i64 c4, .int .i64 c5, .int .i64 c6, .int .i64 c7, .int .i64 c8, .int .i64 c9]] w fun e w' => e = .returned (.bool ((c0 == 0) && (c1 == 0) && (c2 == 0) && (c3 == 0) && (c4 == 0) && (c5 == 0) && (c6 == 0) && (c7 == 0) && (c8 == 0) && (c9 == 0))) /\ Below w.heap.size w w' := by
 have A := fun W => qr9 c0 c1 c2 c3 c4 c5 c6 c7 c8 c9 W
 go_enter Tryz.func99, Tryz.ntmps99
 go_wp2
 go_ret
 exact ⟨rfl, (Below.refl _ _).alloc (Nat.le_refl _) _⟩
end Go.Proofs.YtookoagcmejkpaaGreatDoor
namespace Go.Proofs.YtookoagcmejkpaaGreatDoor
set_option maxRecDepth 100000
open Go Go.RowKit
def itoB (n : Int) : ByteArray := ⟨(Lib.itoa n).toArray⟩
abbrev qb7 (w : World) : Prop := Lib.TabIs Tryz.prog w "internal/strconv.uint64pow10" .u64 Lib.pow10Tab
theorem qfc (n : Int) (W : World) (h0 : 0 <= n) (h1 : n <= 9223372036854775807) (htab : qb7 W) : Calls Tryz.prog 68 #[.int .i64 n] W fun e w' => e = .returned (trV false 4 (itoB n) 0 none 0 0) /\ Below W.heap.size W w' := by
 have HT := Zh (qak htab (qab W (.cells #[.bool false, .int .u8 0, .string ⟨#[]⟩, .int .i64 0, .slice none 0 0] 35)));have HX := Zh (qj4 n (W.alloc (.cells #[.bool false, .int .u8 0, .string ⟨#[]⟩, .int .i64 0, .slice none 0 0] 35)) (by omega) h1 HT.o);have hneg : ¬ n < 0 := by omega
 clear htab HT;go_enter Tryz.func68, Tryz.ntmps68
 go_wp2_with fail
 refine HX.o.mono ?_;rintro e w1 ⟨rfl, hb⟩;have HB := Zh (Below.trans (qab W (.cells #[.bool false, .int .u8 0, .string ⟨#[]⟩, .int .i64 0, .slice none 0 0] 35)) (hb.mono (by simp)));obtain ⟨z0, z1, z2, z3, z4, zf⟩ := (qam W false 0 ⟨#[]⟩ 0 (.slice none 0 0)).later hb;clear hb
 go_wp2_with fail
 refine bodyPost_ret (v := trV false 4 (itoB n) 0 none 0 0) (by simp [trV, itoB, results, Tryz.results68, go_sem, z0, z1, z2, z3, z4]) rfl ⟨rfl, ?_⟩
 iterate 5 refine Below.setCell ?_ (show W.heap.size <= W.heap.size from Nat.le_refl _) _
 exact HB.o
theorem qfd (n : Int) (W : World) (h0 : 0 <= n) (h1 : n <= 9223372036854775807) (htab : qb7 W) : Calls Tryz.prog 66 #[.int .i64 n] W fun e w' => e = .returned (trV false 4 (itoB n) 0 none 0 0) /\ Below W.heap.size W w' := by
 have HT := Zh (qak htab (qab W (.cells #[.bool false, .int .u8 0, .string ⟨#[]⟩, .int .i64 0, .slice none 0 0] 35)));have HX := Zh (qj4 n (W.alloc (.cells #[.bool false, .int .u8 0, .string ⟨#[]⟩, .int .i64 0, .slice none 0 0] 35)) (by omega) h1 HT.o);have hneg : ¬ n < 0 := by omega
 clear htab HT;go_enter Tryz.func66, Tryz.ntmps66
 go_wp2_with fail
 refine HX.o.mono ?_;rintro e w1 ⟨rfl, hb⟩;have HB := Zh (Below.trans (qab W (.cells #[.bool false, .int .u8 0, .string ⟨#[]⟩, .int .i64 0, .slice none 0 0] 35)) (hb.mono (by simp)));obtain ⟨z0, z1, z2, z3, z4, zf⟩ := (qam W false 0 ⟨#[]⟩ 0 (.slice none 0 0)).later hb;clear hb
 go_wp2_with fail
 refine bodyPost_ret (v := trV false 4 (itoB n) 0 none 0 0) (by simp [trV, itoB, results, Tryz.results66, go_sem, z0, z1, z2, z3, z4]) rfl ⟨rfl, ?_⟩
 iterate 5 refine Below.setCell ?_ (show W.heap.size <= W.heap.size from Nat.le_refl _) _
 exact HB.o
end Go.Proofs.YtookoagcmejkpaaGreatDoor
