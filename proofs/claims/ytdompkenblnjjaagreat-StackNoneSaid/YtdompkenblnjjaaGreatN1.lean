/- A stack that is not there, or was not made: what each call answers. -/
import Derived.Test.YtdompkenblnjjaaGreatT9
import Derived.Test.YtdompkenblnjjaaGreatR9
namespace Go.Proofs.YtdompkenblnjjaaGreat
open Go Go.RowKit

/-- a stack that was not made. -/
structure ZeroAt (W : World) (B : Nat) : Prop where
  c0 : W.cell? ⟨B, 0, none⟩ = some (.pointer none)
  c1 : W.cell? ⟨B, 1, none⟩ = some (.bool false)
  c2 : W.cell? ⟨B, 2, none⟩ = some (.bool false)
  c3 : W.cell? ⟨B, 3, none⟩ = some (.bool false)
  c4 : W.cell? ⟨B, 4, none⟩ = some (.bool false)
  c5 : W.cell? ⟨B, 5, none⟩ = some (.slice none 0 0)
  c6 : W.cell? ⟨B, 6, none⟩ = some (.slice none 0 0)
theorem ZeroAt.later {W W' : World} {B : Nat} (h : ZeroAt W B) (hb : Below W.heap.size W W') : ZeroAt W' B :=
  ⟨cell_later hb h.c0, cell_later hb h.c1, cell_later hb h.c2, cell_later hb h.c3, cell_later hb h.c4, cell_later hb h.c5, cell_later hb h.c6⟩
def NZ (W : World) (v : Value) : Prop := v = .pointer none ∨ ∃ B, v = .pointer (some ⟨B, 0, none⟩) ∧ ZeroAt W B
theorem NZ.later {W W' : World} {v : Value} (h : NZ W v) (hb : Below W.heap.size W W') : NZ W' v := by
  rcases h with h | ⟨B, h, hz⟩
  · exact .inl h
  · exact .inr ⟨B, h, hz.later hb⟩
set_option maxRecDepth 100000 in
theorem no19 (v : Value) (W : World) (h : NZ W v) : Calls Tryz.prog 19 #[v] W fun e w' => e = .returned (.pointer none) ∧ Below W.heap.size W w' := by
  rcases h with rfl | ⟨B, rfl, hz⟩
  · skip
    go_enter Tryz.func19, Tryz.ntmps19
    go_wp2_with fail
    refine bodyPost_ret (v := .pointer none) (by simp [results, Tryz.results19, go_sem]) rfl ⟨rfl, ?_⟩
    repeat (first | exact Below.refl _ _ | assumption | refine Below.alloc ?_ (by simp) _ | refine Below.setCell ?_ (by simp) _ | refine bdd ?_)
  · skip
    obtain ⟨z0, z1, z2, z3, z4, z5, z6⟩ := hz
    go_enter Tryz.func19, Tryz.ntmps19
    go_wp2_with fail
    refine bodyPost_ret (v := .pointer none) (by simp [results, Tryz.results19, go_sem]) rfl ⟨rfl, ?_⟩
    repeat (first | exact Below.refl _ _ | assumption | refine Below.alloc ?_ (by simp) _ | refine Below.setCell ?_ (by simp) _ | refine bdd ?_)
set_option maxRecDepth 100000 in
theorem no22 (v : Value) (W : World) (h : NZ W v) : Calls Tryz.prog 22 #[v] W fun e w' => e = .returned (.int .i64 1) ∧ Below W.heap.size W w' := by
  have H19 := Lib.hid (fun (w : World) (hb : Below W.heap.size W w) => no19 v w (h.later hb))
  rcases h with rfl | ⟨B, rfl, hz⟩
  · skip
    go_enter Tryz.func22, Tryz.ntmps22
    go_wp2_with fail
    refine (H19.out _ (by repeat (first | exact Below.refl _ _ | refine Below.alloc ?_ (by simp) _))).mono ?_
    rintro e w1 ⟨rfl, hb⟩
    have hB := Lib.hid hb
    clear hb
    go_wp2_with fail
    refine bodyPost_ret (v := .int .i64 1) (by simp [results, Tryz.results22, go_sem]) rfl ⟨rfl, ?_⟩
    refine Below.trans ?_ (hB.out.mono (by first | exact Nat.le_refl _ | (simp only [World.size_alloc]; omega)))
    repeat (first | exact Below.refl _ _ | assumption | refine Below.alloc ?_ (by simp) _ | refine Below.setCell ?_ (by simp) _ | refine bdd ?_)
  · skip
    obtain ⟨z0, z1, z2, z3, z4, z5, z6⟩ := hz
    go_enter Tryz.func22, Tryz.ntmps22
    go_wp2_with fail
    refine (H19.out _ (by repeat (first | exact Below.refl _ _ | refine Below.alloc ?_ (by simp) _))).mono ?_
    rintro e w1 ⟨rfl, hb⟩
    have hB := Lib.hid hb
    clear hb
    go_wp2_with fail
    refine bodyPost_ret (v := .int .i64 1) (by simp [results, Tryz.results22, go_sem]) rfl ⟨rfl, ?_⟩
    refine Below.trans ?_ (hB.out.mono (by first | exact Nat.le_refl _ | (simp only [World.size_alloc]; omega)))
    repeat (first | exact Below.refl _ _ | assumption | refine Below.alloc ?_ (by simp) _ | refine Below.setCell ?_ (by simp) _ | refine bdd ?_)
set_option maxRecDepth 100000 in
theorem no8 (v : Value) (W : World) (h : NZ W v) : Calls Tryz.prog 8 #[v] W fun e w' => e = .returned (.int .i64 1) ∧ Below W.heap.size W w' := by
  have H19 := Lib.hid (fun (w : World) (hb : Below W.heap.size W w) => no19 v w (h.later hb))
  rcases h with rfl | ⟨B, rfl, hz⟩
  · skip
    go_enter Tryz.func8, Tryz.ntmps8
    go_wp2_with fail
    refine (H19.out _ (by repeat (first | exact Below.refl _ _ | refine Below.alloc ?_ (by simp) _))).mono ?_
    rintro e w1 ⟨rfl, hb⟩
    have hB := Lib.hid hb
    clear hb
    go_wp2_with fail
    refine bodyPost_ret (v := .int .i64 1) (by simp [results, Tryz.results8, go_sem]) rfl ⟨rfl, ?_⟩
    refine Below.trans ?_ (hB.out.mono (by first | exact Nat.le_refl _ | (simp only [World.size_alloc]; omega)))
    repeat (first | exact Below.refl _ _ | assumption | refine Below.alloc ?_ (by simp) _ | refine Below.setCell ?_ (by simp) _ | refine bdd ?_)
  · skip
    obtain ⟨z0, z1, z2, z3, z4, z5, z6⟩ := hz
    go_enter Tryz.func8, Tryz.ntmps8
    go_wp2_with fail
    refine (H19.out _ (by repeat (first | exact Below.refl _ _ | refine Below.alloc ?_ (by simp) _))).mono ?_
    rintro e w1 ⟨rfl, hb⟩
    have hB := Lib.hid hb
    clear hb
    go_wp2_with fail
    refine bodyPost_ret (v := .int .i64 1) (by simp [results, Tryz.results8, go_sem]) rfl ⟨rfl, ?_⟩
    refine Below.trans ?_ (hB.out.mono (by first | exact Nat.le_refl _ | (simp only [World.size_alloc]; omega)))
    repeat (first | exact Below.refl _ _ | assumption | refine Below.alloc ?_ (by simp) _ | refine Below.setCell ?_ (by simp) _ | refine bdd ?_)
set_option maxRecDepth 100000 in
theorem no9 (v : Value) (b1 b2 b3 : Bool) (W : World) (h : NZ W v) : Calls Tryz.prog 9 #[v, .agg #[.bool b1, .bool b2, .bool b3]] W fun e w' => e = .returned (.int .i64 1) ∧ Below W.heap.size W w' := by
  have H19 := Lib.hid (fun (w : World) (hb : Below W.heap.size W w) => no19 v w (h.later hb))
  rcases h with rfl | ⟨B, rfl, hz⟩
  · skip
    go_enter Tryz.func9, Tryz.ntmps9
    go_wp2_with fail
    refine (H19.out _ (by repeat (first | exact Below.refl _ _ | refine Below.alloc ?_ (by simp) _))).mono ?_
    rintro e w1 ⟨rfl, hb⟩
    have hB := Lib.hid hb
    clear hb
    go_wp2_with fail
    refine bodyPost_ret (v := .int .i64 1) (by simp [results, Tryz.results9, go_sem]) rfl ⟨rfl, ?_⟩
    refine Below.trans ?_ (hB.out.mono (by first | exact Nat.le_refl _ | (simp only [World.size_alloc]; omega)))
    repeat (first | exact Below.refl _ _ | assumption | refine Below.alloc ?_ (by simp) _ | refine Below.setCell ?_ (by simp) _ | refine bdd ?_)
  · skip
    obtain ⟨z0, z1, z2, z3, z4, z5, z6⟩ := hz
    go_enter Tryz.func9, Tryz.ntmps9
    go_wp2_with fail
    refine (H19.out _ (by repeat (first | exact Below.refl _ _ | refine Below.alloc ?_ (by simp) _))).mono ?_
    rintro e w1 ⟨rfl, hb⟩
    have hB := Lib.hid hb
    clear hb
    go_wp2_with fail
    refine bodyPost_ret (v := .int .i64 1) (by simp [results, Tryz.results9, go_sem]) rfl ⟨rfl, ?_⟩
    refine Below.trans ?_ (hB.out.mono (by first | exact Nat.le_refl _ | (simp only [World.size_alloc]; omega)))
    repeat (first | exact Below.refl _ _ | assumption | refine Below.alloc ?_ (by simp) _ | refine Below.setCell ?_ (by simp) _ | refine bdd ?_)
set_option maxRecDepth 100000 in
theorem no10 (v : Value) (s : ByteArray) (W : World) (h : NZ W v) : Calls Tryz.prog 10 #[v, .string s] W fun e w' => e = .returned (.int .i64 1) ∧ Below W.heap.size W w' := by
  have H22 := Lib.hid (fun (w : World) (hb : Below W.heap.size W w) => no22 v w (h.later hb))
  rcases h with rfl | ⟨B, rfl, hz⟩
  · skip
    go_enter Tryz.func10, Tryz.ntmps10
    go_wp2_with fail
    refine (H22.out _ (by repeat (first | exact Below.refl _ _ | refine Below.alloc ?_ (by simp) _))).mono ?_
    rintro e w1 ⟨rfl, hb⟩
    have hB := Lib.hid hb
    clear hb
    go_wp2_with fail
    refine bodyPost_ret (v := .int .i64 1) (by simp [results, Tryz.results10, go_sem]) rfl ⟨rfl, ?_⟩
    refine Below.trans ?_ (hB.out.mono (by first | exact Nat.le_refl _ | (simp only [World.size_alloc]; omega)))
    repeat (first | exact Below.refl _ _ | assumption | refine Below.alloc ?_ (by simp) _ | refine Below.setCell ?_ (by simp) _ | refine bdd ?_)
  · skip
    obtain ⟨z0, z1, z2, z3, z4, z5, z6⟩ := hz
    go_enter Tryz.func10, Tryz.ntmps10
    go_wp2_with fail
    refine (H22.out _ (by repeat (first | exact Below.refl _ _ | refine Below.alloc ?_ (by simp) _))).mono ?_
    rintro e w1 ⟨rfl, hb⟩
    have hB := Lib.hid hb
    clear hb
    go_wp2_with fail
    refine bodyPost_ret (v := .int .i64 1) (by simp [results, Tryz.results10, go_sem]) rfl ⟨rfl, ?_⟩
    refine Below.trans ?_ (hB.out.mono (by first | exact Nat.le_refl _ | (simp only [World.size_alloc]; omega)))
    repeat (first | exact Below.refl _ _ | assumption | refine Below.alloc ?_ (by simp) _ | refine Below.setCell ?_ (by simp) _ | refine bdd ?_)
set_option maxRecDepth 100000 in
theorem no11 (v : Value) (s : ByteArray) (l : Bool) (k : Int) (t : ByteArray) (a : Int) (q : Value) (W : World) (h : NZ W v) : Calls Tryz.prog 11 #[v, .string s, .slice none 0 0, .agg #[.bool l, .int .u8 k, .string t, .int .i64 a, q]] W fun e w' => e = .returned (.int .i64 1) ∧ Below W.heap.size W w' := by
  have H22 := Lib.hid (fun (w : World) (hb : Below W.heap.size W w) => no22 v w (h.later hb))
  rcases h with rfl | ⟨B, rfl, hz⟩
  · skip
    go_enter Tryz.func11, Tryz.ntmps11
    go_wp2_with fail
    refine (H22.out _ (by repeat (first | exact Below.refl _ _ | refine Below.alloc ?_ (by simp) _))).mono ?_
    rintro e w1 ⟨rfl, hb⟩
    have hB := Lib.hid hb
    clear hb
    go_wp2_with fail
    refine bodyPost_ret (v := .int .i64 1) (by simp [results, Tryz.results11, go_sem]) rfl ⟨rfl, ?_⟩
    refine Below.trans ?_ (hB.out.mono (by first | exact Nat.le_refl _ | (simp only [World.size_alloc]; omega)))
    repeat (first | exact Below.refl _ _ | assumption | refine Below.alloc ?_ (by simp) _ | refine Below.setCell ?_ (by simp) _ | refine bdd ?_)
  · skip
    obtain ⟨z0, z1, z2, z3, z4, z5, z6⟩ := hz
    go_enter Tryz.func11, Tryz.ntmps11
    go_wp2_with fail
    refine (H22.out _ (by repeat (first | exact Below.refl _ _ | refine Below.alloc ?_ (by simp) _))).mono ?_
    rintro e w1 ⟨rfl, hb⟩
    have hB := Lib.hid hb
    clear hb
    go_wp2_with fail
    refine bodyPost_ret (v := .int .i64 1) (by simp [results, Tryz.results11, go_sem]) rfl ⟨rfl, ?_⟩
    refine Below.trans ?_ (hB.out.mono (by first | exact Nat.le_refl _ | (simp only [World.size_alloc]; omega)))
    repeat (first | exact Below.refl _ _ | assumption | refine Below.alloc ?_ (by simp) _ | refine Below.setCell ?_ (by simp) _ | refine bdd ?_)
set_option maxRecDepth 100000 in
theorem no12 (v : Value) (s : ByteArray) (ps : Value) (l : Bool) (k : Int) (t : ByteArray) (a : Int) (q : Value) (W : World) (h : NZ W v) : Calls Tryz.prog 12 #[v, .string s, ps, .slice none 0 0, .agg #[.bool l, .int .u8 k, .string t, .int .i64 a, q], .agg #[.bool l, .int .u8 k, .string t, .int .i64 a, q]] W fun e w' => e = .returned (.int .i64 1) ∧ Below W.heap.size W w' := by
  have H22 := Lib.hid (fun (w : World) (hb : Below W.heap.size W w) => no22 v w (h.later hb))
  rcases h with rfl | ⟨B, rfl, hz⟩
  · skip
    go_enter Tryz.func12, Tryz.ntmps12
    go_wp2_with fail
    refine (H22.out _ (by repeat (first | exact Below.refl _ _ | refine Below.alloc ?_ (by simp) _))).mono ?_
    rintro e w1 ⟨rfl, hb⟩
    have hB := Lib.hid hb
    clear hb
    go_wp2_with fail
    refine bodyPost_ret (v := .int .i64 1) (by simp [results, Tryz.results12, go_sem]) rfl ⟨rfl, ?_⟩
    refine Below.trans ?_ (hB.out.mono (by first | exact Nat.le_refl _ | (simp only [World.size_alloc]; omega)))
    repeat (first | exact Below.refl _ _ | assumption | refine Below.alloc ?_ (by simp) _ | refine Below.setCell ?_ (by simp) _ | refine bdd ?_)
  · skip
    obtain ⟨z0, z1, z2, z3, z4, z5, z6⟩ := hz
    go_enter Tryz.func12, Tryz.ntmps12
    go_wp2_with fail
    refine (H22.out _ (by repeat (first | exact Below.refl _ _ | refine Below.alloc ?_ (by simp) _))).mono ?_
    rintro e w1 ⟨rfl, hb⟩
    have hB := Lib.hid hb
    clear hb
    go_wp2_with fail
    refine bodyPost_ret (v := .int .i64 1) (by simp [results, Tryz.results12, go_sem]) rfl ⟨rfl, ?_⟩
    refine Below.trans ?_ (hB.out.mono (by first | exact Nat.le_refl _ | (simp only [World.size_alloc]; omega)))
    repeat (first | exact Below.refl _ _ | assumption | refine Below.alloc ?_ (by simp) _ | refine Below.setCell ?_ (by simp) _ | refine bdd ?_)
set_option maxRecDepth 100000 in
theorem no6 (v : Value) (l : Bool) (k : Int) (t : ByteArray) (a : Int) (q : Value) (W : World) (h : NZ W v) : Calls Tryz.prog 6 #[v, .agg #[.bool l, .int .u8 k, .string t, .int .i64 a, q]] W fun e w' => e = .returned (.tuple #[.int .i64 0, .int .i64 1]) ∧ Below W.heap.size W w' := by
  have H22 := Lib.hid (fun (w : World) (hb : Below W.heap.size W w) => no22 v w (h.later hb))
  rcases h with rfl | ⟨B, rfl, hz⟩
  · skip
    go_enter Tryz.func6, Tryz.ntmps6
    go_wp2_with fail
    refine (H22.out _ (by repeat (first | exact Below.refl _ _ | refine Below.alloc ?_ (by simp) _))).mono ?_
    rintro e w1 ⟨rfl, hb⟩
    have hB := Lib.hid hb
    clear hb
    go_wp2_with fail
    refine bodyPost_ret (v := .tuple #[.int .i64 0, .int .i64 1]) (by simp [results, Tryz.results6, go_sem]) rfl ⟨rfl, ?_⟩
    refine Below.trans ?_ (hB.out.mono (by first | exact Nat.le_refl _ | (simp only [World.size_alloc]; omega)))
    repeat (first | exact Below.refl _ _ | assumption | refine Below.alloc ?_ (by simp) _ | refine Below.setCell ?_ (by simp) _ | refine bdd ?_)
  · skip
    obtain ⟨z0, z1, z2, z3, z4, z5, z6⟩ := hz
    go_enter Tryz.func6, Tryz.ntmps6
    go_wp2_with fail
    refine (H22.out _ (by repeat (first | exact Below.refl _ _ | refine Below.alloc ?_ (by simp) _))).mono ?_
    rintro e w1 ⟨rfl, hb⟩
    have hB := Lib.hid hb
    clear hb
    go_wp2_with fail
    refine bodyPost_ret (v := .tuple #[.int .i64 0, .int .i64 1]) (by simp [results, Tryz.results6, go_sem]) rfl ⟨rfl, ?_⟩
    refine Below.trans ?_ (hB.out.mono (by first | exact Nat.le_refl _ | (simp only [World.size_alloc]; omega)))
    repeat (first | exact Below.refl _ _ | assumption | refine Below.alloc ?_ (by simp) _ | refine Below.setCell ?_ (by simp) _ | refine bdd ?_)
set_option maxRecDepth 100000 in
theorem no13 (v : Value) (l : Bool) (k : Int) (t : ByteArray) (a : Int) (q : Value) (W : World) (h : NZ W v) : Calls Tryz.prog 13 #[v, .agg #[.bool l, .int .u8 k, .string t, .int .i64 a, q]] W fun e w' => e = .returned (.int .i64 1) ∧ Below W.heap.size W w' := by
  have H6 := Lib.hid (fun (w : World) (hb : Below W.heap.size W w) => no6 v l k t a q w (h.later hb))
  rcases h with rfl | ⟨B, rfl, hz⟩
  · skip
    go_enter Tryz.func13, Tryz.ntmps13
    go_wp2_with fail
    refine (H6.out _ (by repeat (first | exact Below.refl _ _ | refine Below.alloc ?_ (by simp) _))).mono ?_
    rintro e w1 ⟨rfl, hb⟩
    have hB := Lib.hid hb
    clear hb
    go_wp2_with fail
    refine bodyPost_ret (v := .int .i64 1) (by simp [results, Tryz.results13, go_sem]) rfl ⟨rfl, ?_⟩
    refine Below.trans ?_ (hB.out.mono (by first | exact Nat.le_refl _ | (simp only [World.size_alloc]; omega)))
    repeat (first | exact Below.refl _ _ | assumption | refine Below.alloc ?_ (by simp) _ | refine Below.setCell ?_ (by simp) _ | refine bdd ?_)
  · skip
    obtain ⟨z0, z1, z2, z3, z4, z5, z6⟩ := hz
    go_enter Tryz.func13, Tryz.ntmps13
    go_wp2_with fail
    refine (H6.out _ (by repeat (first | exact Below.refl _ _ | refine Below.alloc ?_ (by simp) _))).mono ?_
    rintro e w1 ⟨rfl, hb⟩
    have hB := Lib.hid hb
    clear hb
    go_wp2_with fail
    refine bodyPost_ret (v := .int .i64 1) (by simp [results, Tryz.results13, go_sem]) rfl ⟨rfl, ?_⟩
    refine Below.trans ?_ (hB.out.mono (by first | exact Nat.le_refl _ | (simp only [World.size_alloc]; omega)))
    repeat (first | exact Below.refl _ _ | assumption | refine Below.alloc ?_ (by simp) _ | refine Below.setCell ?_ (by simp) _ | refine bdd ?_)
set_option maxRecDepth 100000 in
theorem no14 (v : Value) (n : Int) (W : World) (h : NZ W v) : Calls Tryz.prog 14 #[v, .int .i64 n] W fun e w' => e = .returned (.int .i64 1) ∧ Below W.heap.size W w' := by
  have H22 := Lib.hid (fun (w : World) (hb : Below W.heap.size W w) => no22 v w (h.later hb))
  rcases h with rfl | ⟨B, rfl, hz⟩
  · skip
    go_enter Tryz.func14, Tryz.ntmps14
    go_wp2_with fail
    refine (H22.out _ (by repeat (first | exact Below.refl _ _ | refine Below.alloc ?_ (by simp) _))).mono ?_
    rintro e w1 ⟨rfl, hb⟩
    have hB := Lib.hid hb
    clear hb
    go_wp2_with fail
    refine bodyPost_ret (v := .int .i64 1) (by simp [results, Tryz.results14, go_sem]) rfl ⟨rfl, ?_⟩
    refine Below.trans ?_ (hB.out.mono (by first | exact Nat.le_refl _ | (simp only [World.size_alloc]; omega)))
    repeat (first | exact Below.refl _ _ | assumption | refine Below.alloc ?_ (by simp) _ | refine Below.setCell ?_ (by simp) _ | refine bdd ?_)
  · skip
    obtain ⟨z0, z1, z2, z3, z4, z5, z6⟩ := hz
    go_enter Tryz.func14, Tryz.ntmps14
    go_wp2_with fail
    refine (H22.out _ (by repeat (first | exact Below.refl _ _ | refine Below.alloc ?_ (by simp) _))).mono ?_
    rintro e w1 ⟨rfl, hb⟩
    have hB := Lib.hid hb
    clear hb
    go_wp2_with fail
    refine bodyPost_ret (v := .int .i64 1) (by simp [results, Tryz.results14, go_sem]) rfl ⟨rfl, ?_⟩
    refine Below.trans ?_ (hB.out.mono (by first | exact Nat.le_refl _ | (simp only [World.size_alloc]; omega)))
    repeat (first | exact Below.refl _ _ | assumption | refine Below.alloc ?_ (by simp) _ | refine Below.setCell ?_ (by simp) _ | refine bdd ?_)
set_option maxRecDepth 100000 in
theorem no15 (v : Value) (n : Int) (W : World) (h : NZ W v) : Calls Tryz.prog 15 #[v, .int .i64 n] W fun e w' => e = .returned (.int .i64 1) ∧ Below W.heap.size W w' := by
  have H22 := Lib.hid (fun (w : World) (hb : Below W.heap.size W w) => no22 v w (h.later hb))
  rcases h with rfl | ⟨B, rfl, hz⟩
  · skip
    go_enter Tryz.func15, Tryz.ntmps15
    go_wp2_with fail
    refine (H22.out _ (by repeat (first | exact Below.refl _ _ | refine Below.alloc ?_ (by simp) _))).mono ?_
    rintro e w1 ⟨rfl, hb⟩
    have hB := Lib.hid hb
    clear hb
    go_wp2_with fail
    refine bodyPost_ret (v := .int .i64 1) (by simp [results, Tryz.results15, go_sem]) rfl ⟨rfl, ?_⟩
    refine Below.trans ?_ (hB.out.mono (by first | exact Nat.le_refl _ | (simp only [World.size_alloc]; omega)))
    repeat (first | exact Below.refl _ _ | assumption | refine Below.alloc ?_ (by simp) _ | refine Below.setCell ?_ (by simp) _ | refine bdd ?_)
  · skip
    obtain ⟨z0, z1, z2, z3, z4, z5, z6⟩ := hz
    go_enter Tryz.func15, Tryz.ntmps15
    go_wp2_with fail
    refine (H22.out _ (by repeat (first | exact Below.refl _ _ | refine Below.alloc ?_ (by simp) _))).mono ?_
    rintro e w1 ⟨rfl, hb⟩
    have hB := Lib.hid hb
    clear hb
    go_wp2_with fail
    refine bodyPost_ret (v := .int .i64 1) (by simp [results, Tryz.results15, go_sem]) rfl ⟨rfl, ?_⟩
    refine Below.trans ?_ (hB.out.mono (by first | exact Nat.le_refl _ | (simp only [World.size_alloc]; omega)))
    repeat (first | exact Below.refl _ _ | assumption | refine Below.alloc ?_ (by simp) _ | refine Below.setCell ?_ (by simp) _ | refine bdd ?_)
set_option maxRecDepth 100000 in
theorem no16 (v : Value) (W : World) (h : NZ W v) : Calls Tryz.prog 16 #[v] W fun e w' => e = .returned (.bool false) ∧ Below W.heap.size W w' := by
  rcases h with rfl | ⟨B, rfl, hz⟩
  · skip
    go_enter Tryz.func16, Tryz.ntmps16
    go_wp2_with fail
    refine bodyPost_ret (v := .bool false) (by simp [results, Tryz.results16, go_sem]) rfl ⟨rfl, ?_⟩
    repeat (first | exact Below.refl _ _ | assumption | refine Below.alloc ?_ (by simp) _ | refine Below.setCell ?_ (by simp) _ | refine bdd ?_)
  · skip
    obtain ⟨z0, z1, z2, z3, z4, z5, z6⟩ := hz
    go_enter Tryz.func16, Tryz.ntmps16
    go_wp2_with fail
    refine bodyPost_ret (v := .bool false) (by simp [results, Tryz.results16, go_sem]) rfl ⟨rfl, ?_⟩
    repeat (first | exact Below.refl _ _ | assumption | refine Below.alloc ?_ (by simp) _ | refine Below.setCell ?_ (by simp) _ | refine bdd ?_)
set_option maxRecDepth 100000 in
theorem no17 (v : Value) (W : World) (h : NZ W v) : Calls Tryz.prog 17 #[v] W fun e w' => e = .returned (.int .i64 0) ∧ Below W.heap.size W w' := by
  rcases h with rfl | ⟨B, rfl, hz⟩
  · skip
    go_enter Tryz.func17, Tryz.ntmps17
    go_wp2_with fail
    refine bodyPost_ret (v := .int .i64 0) (by simp [results, Tryz.results17, go_sem]) rfl ⟨rfl, ?_⟩
    repeat (first | exact Below.refl _ _ | assumption | refine Below.alloc ?_ (by simp) _ | refine Below.setCell ?_ (by simp) _ | refine bdd ?_)
  · skip
    obtain ⟨z0, z1, z2, z3, z4, z5, z6⟩ := hz
    go_enter Tryz.func17, Tryz.ntmps17
    go_wp2_with fail
    refine bodyPost_ret (v := .int .i64 0) (by simp [results, Tryz.results17, go_sem]) rfl ⟨rfl, ?_⟩
    repeat (first | exact Below.refl _ _ | assumption | refine Below.alloc ?_ (by simp) _ | refine Below.setCell ?_ (by simp) _ | refine bdd ?_)
set_option maxRecDepth 100000 in
theorem no39 (W : World) : Calls Tryz.prog 39 #[.slice none 0 0] W fun e w' => e = .returned (.slice none 0 0) ∧ Below W.heap.size W w' := by
  have q32 : ∀ (w : World) (a : Option Addr) (n c n' c' : Nat), (binOp .eql 32 (.slice a n c) (.slice none n' c')).run Tryz.prog w = .ok (.bool a.isNone) w := fun w a n c n' c' => Lib.run_eql_slice_nil w _ _ a n c n' c' Tryz.underlying32
  go_enter Tryz.func39, Tryz.ntmps39
  go_wp2_with fail
  refine bodyPost_ret (v := .slice none 0 0) (by simp [results, Tryz.results39, go_sem]) rfl ⟨rfl, ?_⟩
  repeat (first | exact Below.refl _ _ | refine Below.alloc ?_ (by simp) _ | refine bdd ?_)
set_option maxRecDepth 100000 in
theorem no18 (v : Value) (W : World) (h : NZ W v) : Calls Tryz.prog 18 #[v] W fun e w' => e = .returned (.slice none 0 0) ∧ Below W.heap.size W w' := by
  have H39 := Lib.hid no39
  rcases h with rfl | ⟨B, rfl, hz⟩
  · skip
    go_enter Tryz.func18, Tryz.ntmps18
    go_wp2_with fail
    refine bodyPost_ret (v := .slice none 0 0) (by simp [results, Tryz.results18, go_sem]) rfl ⟨rfl, ?_⟩
    exact Below.refl _ _
  · skip
    obtain ⟨z0, z1, z2, z3, z4, z5, z6⟩ := hz
    go_enter Tryz.func18, Tryz.ntmps18
    go_wp2_with fail
    refine (H39.out _).mono ?_
    rintro e w1 ⟨rfl, hb⟩
    go_wp2_with fail
    refine bodyPost_ret (v := .slice none 0 0) (by simp [results, Tryz.results18, go_sem]) rfl ⟨rfl, ?_⟩
    exact hb
set_option maxRecDepth 100000 in
theorem no20 (v : Value) (W : World) (h : NZ W v) : Calls Tryz.prog 20 #[v] W fun e w' => e = .returned (.agg #[.bool false, .bool false, .bool false]) ∧ Below W.heap.size W w' := by
  rcases h with rfl | ⟨B, rfl, hz⟩
  · skip
    go_enter Tryz.func20, Tryz.ntmps20
    go_wp2_with fail
    refine bodyPost_ret (v := .agg #[.bool false, .bool false, .bool false]) (by simp [results, Tryz.results20, go_sem]) rfl ⟨rfl, ?_⟩
    repeat (first | exact Below.refl _ _ | assumption | refine Below.alloc ?_ (by simp) _ | refine Below.setCell ?_ (by simp) _ | refine bdd ?_)
  · skip
    obtain ⟨z0, z1, z2, z3, z4, z5, z6⟩ := hz
    replace z1 := cell_later (below1 W (.cells #[.bool false, .bool false, .bool false] 23)) z1
    replace z2 := cell_later (below1 W (.cells #[.bool false, .bool false, .bool false] 23)) z2
    replace z3 := cell_later (below1 W (.cells #[.bool false, .bool false, .bool false] 23)) z3
    go_enter Tryz.func20, Tryz.ntmps20
    go_wp2_with fail
    refine bodyPost_ret (v := .agg #[.bool false, .bool false, .bool false]) (by simp [results, Tryz.results20, go_sem]) rfl ⟨rfl, ?_⟩
    repeat (first | exact Below.refl _ _ | assumption | refine Below.alloc ?_ (by simp) _ | refine Below.setCell ?_ (by simp) _ | refine bdd ?_)
end Go.Proofs.YtdompkenblnjjaaGreat
