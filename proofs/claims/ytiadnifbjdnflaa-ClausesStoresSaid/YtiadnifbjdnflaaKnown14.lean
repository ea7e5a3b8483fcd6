/- The law's known() of stage 14. -/
import Derived.Test.YtiadnifbjdnflaaRefD
import Derived.Test.YtiadnifbjdnflaaNorm
namespace Go.Proofs.Ytiadnifbjdnflaa
open Go Go.RowKit

def k14 : List LitT := [⟨3, by decide⟩, ⟨-1, by decide⟩, ⟨3, by decide⟩, ⟨2, by decide⟩]
theorem formL_k14 : formL k14 = [-1, 2, 3] := by
  refine formL_of k14 _ ?_ ?_
  · simp [ltI, absI]
    omega
  · intro x
    simp [nums, k14]
    omega
theorem k14_form : (formL k14).length = 3 ∧ (formL k14).map (Value.int .i64) = [-1, 2, 3].map (Value.int .i64) := by rw [formL_k14]; exact ⟨rfl, rfl⟩
def kV (i : Nat) : Int := [3, -1, 3, 2].getD i 0
def kU (i : Nat) : Int := [-1, 2, 3].getD i 0
theorem four_lits (w : World) : LitsIn (w.alloc (.cells #[.int .i64 3, .int .i64 (-1), .int .i64 3, .int .i64 2] 30)) (some ⟨w.heap.size, 0, none⟩) 4 kV := fun _ => ⟨_, _, rfl, fun i hi => by
  match i, hi with
  | 0, _ => simp [go_sem, kV]
  | 1, _ => simp [go_sem, kV]
  | 2, _ => simp [go_sem, kV]
  | 3, _ => simp [go_sem, kV]⟩
theorem three_lits (w : World) : LitsIn (w.alloc (.cells #[.int .i64 (-1), .int .i64 2, .int .i64 3] 30)) (some ⟨w.heap.size, 0, none⟩) 3 kU := fun _ => ⟨_, _, rfl, fun i hi => by
  match i, hi with
  | 0, _ => simp [go_sem, kU]
  | 1, _ => simp [go_sem, kU]
  | 2, _ => simp [go_sem, kU]⟩
theorem k14_may : MayP 4 kV := ⟨by omega, fun i hi => by
  match i, hi with
  | 0, _ => rfl
  | 1, _ => rfl
  | 2, _ => rfl
  | 3, _ => rfl⟩
set_option maxRecDepth 100000 in
set_option maxHeartbeats 800000 in
theorem known14_any (w : World) : Calls Try.prog 18 #[] w fun e w' => e = .returned (.bool true) ∧ Below w.heap.size w w' := by
  have HK := Lib.hid (four_lits w)
  have hB := below1 w (.cells #[.int .i64 3, .int .i64 (-1), .int .i64 3, .int .i64 2] 30)
  go_enter Try.func18, Try.ntmps18
  go_wp2_with fail
  refine (normal_any (some ⟨w.heap.size, 0, none⟩) 4 4 kV k14 _ HK.out rfl (fun i hi => by
    match i, hi with
    | 0, _ => rfl
    | 1, _ => rfl
    | 2, _ => rfl
    | 3, _ => rfl) k14_may).mono ?_
  rintro e w1 ⟨v, rfl, ho, hb1⟩
  rw [k14_form.1, k14_form.2] at ho
  obtain ⟨p, c, rfl, _, hL, _⟩ := own_in ho rfl
  have HB := Lib.hid (chain (chain hB hb1) (below1 w1 (.cells #[.int .i64 (-1), .int .i64 2, .int .i64 3] 30)))
  have HL := Lib.hid (hL.later (below1 w1 (.cells #[.int .i64 (-1), .int .i64 2, .int .i64 3] 30)))
  have HU := Lib.hid (three_lits w1)
  clear ho hL hb1 hB
  have H1 := alike_any p 3 c (fun i => [-1, 2, 3].getD i 0) (some ⟨w1.heap.size, 0, none⟩) 3 3 kU _ HL.out (by omega) HU.out (by omega)
  rw [show alikeB 3 (fun i => [-1, 2, 3].getD i 0) 3 kU = true from alikeB_yes rfl (fun _ _ => rfl)] at H1
  go_wp2_with fail
  refine H1.mono ?_
  rintro e w2 ⟨rfl, hb2⟩
  have hb3 := chain HB.out hb2
  clear hb2 H1
  go_wp2_with fail
  go_ret
  exact ⟨rfl, hb3⟩
end Go.Proofs.Ytiadnifbjdnflaa
