/- What is known: the law's closed calls. -/
import Derived.Test.YtmfmdcapanaajaaDoorW4
namespace Go.Proofs.YtmfmdcapanaajaaDoor
open Go Go.RowKit Go.Sort

theorem dec_known : Lib.decDigits 4611686018427387904 = [52, 54, 49, 49, 54, 56, 54, 48, 49, 56, 52, 50, 55, 51, 56, 55, 57, 48, 52] := by
  repeat (rw [Lib.decDigits]; simp only [Nat.reduceLT, Nat.reduceDiv, Nat.reduceMod, Nat.reduceAdd, dite_false, dite_true])
  rfl
theorem itoa_known : Lib.itoa (-42) = [45, 52, 50] := by
  unfold Lib.itoa
  rw [if_pos (by omega), show (-42 : Int).natAbs = 42 from rfl, Lib.decDigits_two (by omega) (by omega)]
  rfl
theorem read_known : readE [52, 50] = 0 ∧ readN [52, 50] = 42 := by decide +kernel

set_option maxRecDepth 100000 in
theorem known_any (w : World) (htab : Lib.TabIs Tryd.prog w "internal/strconv.uint64pow10" .u64 Lib.pow10Tab) :
    Calls Tryd.prog 15 #[] w fun e w' => e = .returned (.bool true) ∧ Below w.heap.size w w' := by
  go_enter Tryd.func15, Tryd.ntmps15
  go_wp2_with fail
  refine (read_any _ _ (by decide)).mono ?_
  rintro e w1 ⟨rfl, rfl⟩
  rw [show (⟨#[52, 50]⟩ : ByteArray).data.toList = [52, 50] from rfl, read_known.1, read_known.2]
  go_wp2_with fail
  refine (text_any _ _ (by omega) (by omega) htab).mono ?_
  rintro e w2 ⟨rfl, hb⟩
  have ht2 := tabIs_below htab hb
  rw [itoa_known]
  go_wp2_with fail
  refine (of_any _ _ (by omega) (by omega)).mono ?_
  rintro e w3 ⟨rfl, hb3⟩
  rw [show (-1 : Int) / 4611686018427387904 = -1 from rfl, show (-1 : Int) % 4611686018427387904 = 4611686018427387903 from rfl]
  have ht3 := tabIs_below ht2 hb3
  have he : ∀ w, (binOp .eql 40 (.agg #[.int .i64 (-1), .int .i64 4611686018427387903]) (.agg #[.int .i64 (-1), .int .i64 4611686018427387903])).run Tryd.prog w = .ok (.bool true) w := fun _ => by kernel_rfl
  go_wp2_with fail
  refine (write_one _ ht3).mono ?_
  rintro e w4 ⟨rfl, hb4⟩
  rw [dec_known]
  have hB : Below w1.heap.size w1 w4 := (hb.trans (hb3.mono hb.size)).trans (hb4.mono (hb.trans (hb3.mono hb.size)).size)
  clear hb hb3 hb4
  go_wp2_with fail
  go_ret
  exact ⟨rfl, hB⟩
end Go.Proofs.YtmfmdcapanaajaaDoor
