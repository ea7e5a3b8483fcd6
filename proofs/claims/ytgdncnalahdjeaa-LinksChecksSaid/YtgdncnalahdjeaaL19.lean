/- The law's known() of stage 17: its walk. -/
import Derived.Test.YtgdncnalahdjeaaL18
namespace Go.Proofs.Ytgdncnalahdjeaa
open Go Go.RowKit

theorem three_links (w : World) (b : Nat) (h : LitsIn w (some ⟨b, 0, none⟩) 1 (fun _ => 0)) : LinksIn (w.alloc (.cells #[.int .u8 1, .int .i64 1, .int .i64 0, .int .i64 0, .int .i64 0, .int .i64 0, .slice none 0 0, .int .u8 5, .int .i64 0, .int .i64 4, .int .i64 5, .int .i64 0, .int .i64 0, .slice (some ⟨b, 0, none⟩) 1 1, .int .u8 6, .int .i64 (-2), .int .i64 0, .int .i64 0, .int .i64 1, .int .i64 0, .slice none 0 0] 57)) (some ⟨w.heap.size, 0, none⟩) 3 (lK b) := fun _ => by
  refine ⟨_, _, rfl, ?_, ?_, ?_, ?_, ?_, ?_, ?_, ?_⟩ <;> intro i hi
  · match i, hi with
    | 0, _ => simp [go_sem, lK]
    | 1, _ => simp [go_sem, lK]
    | 2, _ => simp [go_sem, lK]
  · match i, hi with
    | 0, _ => simp [go_sem, lK]
    | 1, _ => simp [go_sem, lK]
    | 2, _ => simp [go_sem, lK]
  · match i, hi with
    | 0, _ => simp [go_sem, lK]
    | 1, _ => simp [go_sem, lK]
    | 2, _ => simp [go_sem, lK]
  · match i, hi with
    | 0, _ => simp [go_sem, lK]
    | 1, _ => simp [go_sem, lK]
    | 2, _ => simp [go_sem, lK]
  · match i, hi with
    | 0, _ => simp [go_sem, lK]
    | 1, _ => simp [go_sem, lK]
    | 2, _ => simp [go_sem, lK]
  · match i, hi with
    | 0, _ => simp [go_sem, lK]
    | 1, _ => simp [go_sem, lK]
    | 2, _ => simp [go_sem, lK]
  · match i, hi with
    | 0, _ => simp [go_sem, lK]
    | 1, _ => simp [go_sem, lK]
    | 2, _ => simp [go_sem, lK]
  · match i, hi with
    | 0, _ => exact ⟨no_lits _ _, by show (0 : Nat) ≤ _; omega⟩
    | 1, _ => exact ⟨h.later (below1 w _), by show (1 : Nat) ≤ _; omega⟩
    | 2, _ => exact ⟨no_lits _ _, by show (0 : Nat) ≤ _; omega⟩
theorem one_link (w : World) : LinksIn (w.alloc (.cells #[.int .u8 1, .int .i64 1, .int .i64 0, .int .i64 0, .int .i64 0, .int .i64 0, .slice none 0 0] 57)) (some ⟨w.heap.size, 0, none⟩) 1 lK1 := fun _ => by
  refine ⟨_, _, rfl, ?_, ?_, ?_, ?_, ?_, ?_, ?_, ?_⟩ <;> intro i hi
  · match i, hi with
    | 0, _ => simp [go_sem, lK1]
  · match i, hi with
    | 0, _ => simp [go_sem, lK1]
  · match i, hi with
    | 0, _ => simp [go_sem, lK1]
  · match i, hi with
    | 0, _ => simp [go_sem, lK1]
  · match i, hi with
    | 0, _ => simp [go_sem, lK1]
  · match i, hi with
    | 0, _ => simp [go_sem, lK1]
  · match i, hi with
    | 0, _ => simp [go_sem, lK1]
  · exact ⟨no_lits _ _, by show (0 : Nat) ≤ _; omega⟩
theorem norm2 : ∃ (k : Nat) (Z : Nat → Int), k = 2 ∧ Z 0 = 1 ∧ Z 1 = -2 ∧ ∀ W p c, LitsIn W p 2 (fun i => [1, -2].getD i 0) → Calls Try.prog 47 #[.slice p 2 c] W fun e w' => Outs k Z 0 e w' ∧ Below W.heap.size W w' := by
  obtain ⟨k, Z, er, _, h1, _, h3, _⟩ := normal_same 2 (fun i => ([1, -2] : List Int).getD i 0) (by omega)
  obtain ⟨rfl, l, hl, hk, hZ⟩ := h1 ⟨by omega, fun i hi => by
    match i, hi with
    | 0, _ => rfl
    | 1, _ => rfl⟩
  have hf : formL l = [1, -2] := by
    refine formL_of l _ ?_ ?_
    · simp [ltI, absI]
      omega
    · intro x
      rw [hl]
      constructor
      · intro hx
        simp at hx
        rcases hx with rfl | rfl
        · exact ⟨0, by omega, rfl⟩
        · exact ⟨1, by omega, rfl⟩
      · rintro ⟨i, hi, hx⟩
        match i, hi, hx with
        | 0, _, hx => rw [← hx]; simp
        | 1, _, hx => rw [← hx]; simp
  rw [hf] at hk hZ
  exact ⟨k, Z, hk, by rw [hZ]; rfl, by rw [hZ]; rfl, h3⟩
theorem two_lits (w : World) : LitsIn (w.alloc (.cells #[.int .i64 1, .int .i64 (-2)] 54)) (some ⟨w.heap.size, 0, none⟩) 2 (fun i => [1, -2].getD i 0) := fun _ => ⟨_, _, rfl, fun i hi => by
  match i, hi with
  | 0, _ => simp [go_sem]
  | 1, _ => simp [go_sem]⟩
theorem check_k3 (W : World) (b b' : Nat) (p q s : Option Addr) (hv : VertsIn W p 6 (dK b)) (ha : AtomsIn W q 2 aK) (hl : LinksIn W s 3 (lK b')) (k : Nat) (Z : Nat → Int) (hN : ∀ W p c, LitsIn W p 2 (fun i => [1, -2].getD i 0) → Calls Try.prog 47 #[.slice p 2 c] W fun e w' => Outs k Z 0 e w' ∧ Below W.heap.size W w') :
    Calls Try.prog 37 #[.slice p 6 6, .slice q 2 2, .slice s 3 3] W fun e w' => Outs k Z 0 e w' ∧ Below W.heap.size W w' := by
  refine (check_run 6 (dK b) 2 aK (lK b') 3 p 6 q 2 s 3 k Z 0 W hv ha hl (by omega) (by omega) (fun i hi => ?_) (mayK b) ?_).mono ?_
  · match i, hi with
    | 0, _ => exact ⟨by show (-9223372036854775808 : Int) ≤ 1; omega, by show (1 : Int) ≤ _; omega⟩
    | 1, _ => exact ⟨by show (-9223372036854775808 : Int) ≤ 0; omega, by show (0 : Int) ≤ _; omega⟩
    | 2, _ => exact ⟨by show (-9223372036854775808 : Int) ≤ -2; omega, by show (-2 : Int) ≤ _; omega⟩
  · rw [litsK]
    exact hN
  · rintro e w3 ⟨hres, hb3⟩
    rcases hres with ⟨h, _⟩ | ⟨_, h, _⟩ | ⟨_, _, h⟩
    · exact absurd (closesK _ _) h
    · rw [litsK] at h
      exact absurd h (by simp)
    · exact ⟨h, hb3⟩
theorem check_k1 (W : World) (b : Nat) (p q s : Option Addr) (hv : VertsIn W p 6 (dK b)) (ha : AtomsIn W q 2 aK) (hl : LinksIn W s 1 lK1) :
    Calls Try.prog 37 #[.slice p 6 6, .slice q 2 2, .slice s 1 1] W fun e w' => e = .returned (.tuple #[.slice none 0 0, .int .i64 5]) ∧ Below W.heap.size W w' := by
  obtain ⟨k2, Z2, er2, _, _, _, hN2, _⟩ := normal_same (litsOf 6 (dK b) 2 aK lK1 1).length (fun i => (litsOf 6 (dK b) 2 aK lK1 1).getD i 0) (by have := litsOf_len 6 (dK b) 2 aK lK1 1; omega)
  refine (check_run 6 (dK b) 2 aK lK1 1 p 6 q 2 s 1 k2 Z2 er2 W hv ha hl (by omega) (by omega) (fun i hi => ⟨by show (-9223372036854775808 : Int) ≤ 1; omega, by show (1 : Int) ≤ _; omega⟩) (mayK b) hN2).mono ?_
  rintro e w3 ⟨hres, hb3⟩
  rcases hres with ⟨_, h⟩ | ⟨h, _⟩ | ⟨h, _⟩
  · exact ⟨h, hb3⟩
  · exact absurd h (closesK1 _)
  · exact absurd h (closesK1 _)
end Go.Proofs.Ytgdncnalahdjeaa
