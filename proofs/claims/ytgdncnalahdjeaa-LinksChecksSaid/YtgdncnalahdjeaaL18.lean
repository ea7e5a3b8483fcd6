/- The law's known() of stage 17. -/
import Derived.Test.YtgdncnalahdjeaaL17
namespace Go.Proofs.Ytgdncnalahdjeaa
open Go Go.RowKit

/-- the small certificate's vertices, atoms, links. -/
def dK (b : Nat) : VD := ⟨fun i => [-1, -2, 0, 1, 2, 2].getD i 0, fun i => if i = 4 then some ⟨b, 0, none⟩ else if i = 5 then some ⟨b + 1, 0, none⟩ else none, fun i => if i = 4 then 1 else if i = 5 then 1 else 0, fun i => if i = 4 then 1 else if i = 5 then 1 else 0, fun i _ => if i = 4 then 2 else 3, fun _ => 0, fun _ => -1, fun _ => 0⟩
def aK : AD := ⟨fun _ => 1, fun i => if i = 0 then 2 else 4, fun i => if i = 0 then 3 else 5, fun _ => 0⟩
def lK (b : Nat) : LD := ⟨fun i => if i = 0 then 1 else if i = 1 then 5 else 6, fun i => if i = 0 then 1 else if i = 1 then 0 else -2, fun i => if i = 1 then 4 else 0, fun i => if i = 1 then 5 else 0, fun i => if i = 2 then 1 else 0, fun _ => 0, fun i => if i = 1 then some ⟨b, 0, none⟩ else none, fun i => if i = 1 then 1 else 0, fun i => if i = 1 then 1 else 0, fun _ _ => 0⟩
def lK1 : LD := ⟨fun _ => 1, fun _ => 1, fun _ => 0, fun _ => 0, fun _ => 0, fun _ => 0, fun _ => none, fun _ => 0, fun _ => 0, fun _ _ => 0⟩
theorem one_lits (w : World) (x : Int) (t : TypeId) : LitsIn (w.alloc (.cells #[.int .i64 x] t)) (some ⟨w.heap.size, 0, none⟩) 1 (fun _ => x) := fun _ => ⟨_, _, rfl, fun i hi => by
  match i, hi with
  | 0, _ => simp [go_sem]⟩
theorem no_lits (W : World) (V : Nat → Int) : LitsIn W none 0 V := fun h => absurd h (by omega)
theorem mayK (b : Nat) : mayB 6 (dK b) 2 aK = true := by rfl
theorem closesK (b b' : Nat) : ClosesAll 6 (dK b) 2 aK (lK b') 3 := by
  refine ⟨by omega, fun i hi => ?_, by rfl⟩
  match i, hi with
  | 0, _ => rfl
  | 1, _ => rfl
theorem closesK1 (b : Nat) : ¬ ClosesAll 6 (dK b) 2 aK lK1 1 := fun h => by
  have := h.2.2
  revert this
  rw [show closeL 2 aK (goL 6 (dK b) 2 aK lK1 (1 - 1)).1 (lK1.K (1 - 1)) (lK1.T (1 - 1)) (lK1.I (1 - 1)) = false from rfl]
  exact Bool.false_ne_true
theorem litsK (b b' : Nat) : litsOf 6 (dK b) 2 aK (lK b') 3 = [1, -2] := by rfl
/-- the vertices' cells. -/
def vcells (b : Nat) : Array Value := #[.int .i64 (-1), .slice none 0 0, .int .i64 0, .int .i64 (-1), .int .i64 0, .int .i64 (-2), .slice none 0 0, .int .i64 0, .int .i64 (-1), .int .i64 0, .int .i64 0, .slice none 0 0, .int .i64 0, .int .i64 (-1), .int .i64 0, .int .i64 1, .slice none 0 0, .int .i64 0, .int .i64 (-1), .int .i64 0, .int .i64 2, .slice (some ⟨b, 0, none⟩) 1 1, .int .i64 0, .int .i64 (-1), .int .i64 0, .int .i64 2, .slice (some ⟨b + 1, 0, none⟩) 1 1, .int .i64 0, .int .i64 (-1), .int .i64 0]
def acells : Array Value := #[.int .u8 1, .int .i64 2, .int .i64 3, .int .i64 0, .int .u8 1, .int .i64 4, .int .i64 5, .int .i64 0]
def smallW (w : World) : World := (((w.alloc (.cells #[.int .i64 2] 3)).alloc (.cells #[.int .i64 3] 3)).alloc (.cells (vcells w.heap.size) 84)).alloc (.cells acells 99)
theorem smallW_below (w : World) : Below w.heap.size w (smallW w) := by
  unfold smallW
  exact chain (chain (chain (below1 w _) (below1 _ _)) (below1 _ _)) (below1 _ _)
theorem small_verts (w : World) : VertsIn (smallW w) (some ⟨w.heap.size + 2, 0, none⟩) 6 (dK w.heap.size) := fun _ => by
  have h4 := ((((one_lits w 2 3).later (below1 _ (.cells #[.int .i64 3] 3))).later (below1 _ (.cells (vcells w.heap.size) 84))).later (below1 _ (.cells acells 99)))
  have h5 := ((one_lits (w.alloc (.cells #[.int .i64 2] 3)) 3 3).later (below1 _ (.cells (vcells w.heap.size) 84))).later (below1 _ (.cells acells 99))
  have hs : (w.alloc (.cells #[.int .i64 2] 3)).heap.size = w.heap.size + 1 := World.size_alloc _ _
  rw [hs] at h5
  refine ⟨_, _, rfl, ?_, ?_, ?_, ?_, ?_, ?_⟩ <;> intro i hi
  · match i, hi with
    | 0, _ => simp [go_sem, smallW, vcells, dK]
    | 1, _ => simp [go_sem, smallW, vcells, dK]
    | 2, _ => simp [go_sem, smallW, vcells, dK]
    | 3, _ => simp [go_sem, smallW, vcells, dK]
    | 4, _ => simp [go_sem, smallW, vcells, dK]
    | 5, _ => simp [go_sem, smallW, vcells, dK]
  · match i, hi with
    | 0, _ => simp [go_sem, smallW, vcells, dK]
    | 1, _ => simp [go_sem, smallW, vcells, dK]
    | 2, _ => simp [go_sem, smallW, vcells, dK]
    | 3, _ => simp [go_sem, smallW, vcells, dK]
    | 4, _ => simp [go_sem, smallW, vcells, dK]
    | 5, _ => simp [go_sem, smallW, vcells, dK]
  · refine ⟨_, ?_, rfl⟩
    match i, hi with
    | 0, _ => simp [go_sem, smallW, vcells, dK]
    | 1, _ => simp [go_sem, smallW, vcells, dK]
    | 2, _ => simp [go_sem, smallW, vcells, dK]
    | 3, _ => simp [go_sem, smallW, vcells, dK]
    | 4, _ => simp [go_sem, smallW, vcells, dK]
    | 5, _ => simp [go_sem, smallW, vcells, dK]
  · match i, hi with
    | 0, _ => simp [go_sem, smallW, vcells, dK]
    | 1, _ => simp [go_sem, smallW, vcells, dK]
    | 2, _ => simp [go_sem, smallW, vcells, dK]
    | 3, _ => simp [go_sem, smallW, vcells, dK]
    | 4, _ => simp [go_sem, smallW, vcells, dK]
    | 5, _ => simp [go_sem, smallW, vcells, dK]
  · match i, hi with
    | 0, _ => simp [go_sem, smallW, vcells, dK]
    | 1, _ => simp [go_sem, smallW, vcells, dK]
    | 2, _ => simp [go_sem, smallW, vcells, dK]
    | 3, _ => simp [go_sem, smallW, vcells, dK]
    | 4, _ => simp [go_sem, smallW, vcells, dK]
    | 5, _ => simp [go_sem, smallW, vcells, dK]
  · match i, hi with
    | 0, _ => exact ⟨no_lits _ _, by show (0 : Nat) ≤ _; omega⟩
    | 1, _ => exact ⟨no_lits _ _, by show (0 : Nat) ≤ _; omega⟩
    | 2, _ => exact ⟨no_lits _ _, by show (0 : Nat) ≤ _; omega⟩
    | 3, _ => exact ⟨no_lits _ _, by show (0 : Nat) ≤ _; omega⟩
    | 4, _ => exact ⟨h4, by show (1 : Nat) ≤ _; omega⟩
    | 5, _ => exact ⟨h5, by show (1 : Nat) ≤ _; omega⟩
theorem small_atoms (w : World) : AtomsIn (smallW w) (some ⟨w.heap.size + 3, 0, none⟩) 2 aK := fun _ => by
  refine ⟨_, _, rfl, ?_, ?_, ?_, ?_⟩ <;> intro i hi <;> match i, hi with
  | 0, _ => simp [go_sem, smallW, acells, aK]
  | 1, _ => simp [go_sem, smallW, acells, aK]
set_option maxRecDepth 100000 in
set_option maxHeartbeats 1600000 in
theorem small_any (w : World) : Calls Try.prog 59 #[] w fun e w' => e = .returned (.tuple #[.slice (some ⟨w.heap.size + 2, 0, none⟩) 6 6, .slice (some ⟨w.heap.size + 3, 0, none⟩) 2 2]) ∧ w' = smallW w := by
  go_enter Try.func59, Try.ntmps59
  go_wp2_with fail
  refine bodyPost_ret (v := .tuple #[.slice (some ⟨w.heap.size + 2, 0, none⟩) 6 6, .slice (some ⟨w.heap.size + 3, 0, none⟩) 2 2]) (by simp [results, Try.results59, go_sem]) rfl ⟨rfl, ?_⟩
  simp [smallW, vcells, acells]
end Go.Proofs.Ytgdncnalahdjeaa
