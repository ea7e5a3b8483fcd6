/- The law ElabNone: its walk. -/
import Derived.Test.YtjhaccpljgdlpaaGreatE3
import Derived.Test.YtjhaccpljgdlpaaGreatU13
namespace Go.Proofs.YtjhaccpljgdlpaaGreat
open Go Go.RowKit

/-- a book that lacks something. -/
def Lacks (W : World) (v : Value) : Prop := v = .pointer none ∨ ∃ B a b, v = .pointer (some ⟨B, 0, none⟩) ∧ W.cell? ⟨B, 0, none⟩ = some (.pointer a) ∧ W.cell? ⟨B, 1, none⟩ = some (.pointer b) ∧ (a = none ∨ b = none)
theorem Lacks.later {W W' : World} {v : Value} (h : Lacks W v) (hb : Below W.heap.size W W') : Lacks W' v := by
  rcases h with h | ⟨B, a, b, e, h0, h1, h2⟩
  · exact .inl h
  · exact .inr ⟨B, a, b, e, cell_later hb h0, cell_later hb h1, h2⟩
set_option maxRecDepth 100000 in
theorem ready14 (v : Value) (W : World) (h : Lacks W v) : Calls Tryz.prog 14 #[v] W fun e w' => e = .returned (.bool false) ∧ w' = W := by
  rcases h with rfl | ⟨B, a, b, rfl, h0, h1, h2⟩
  · go_enter Tryz.func14, Tryz.ntmps14
    go_wp2_with fail
    exact bodyPost_ret (v := .bool false) (by simp [results, Tryz.results14, go_sem]) rfl ⟨rfl, rfl⟩
  · cases a with
    | none =>
      clear h2
      go_enter Tryz.func14, Tryz.ntmps14
      go_wp2_with fail
      exact bodyPost_ret (v := .bool false) (by simp [results, Tryz.results14, go_sem]) rfl ⟨rfl, rfl⟩
    | some a =>
      rcases h2 with h2 | rfl
      · cases h2
      · go_enter Tryz.func14, Tryz.ntmps14
        go_wp2_with fail
        exact bodyPost_ret (v := .bool false) (by simp [results, Tryz.results14, go_sem]) rfl ⟨rfl, rfl⟩
set_option maxRecDepth 100000 in
theorem term8 (v : Value) (l : Bool) (k : Int) (s : ByteArray) (a : Int) (q : Value) (W : World) (h : Lacks W v) : Calls Tryz.prog 8 #[v, .agg #[.bool l, .int .u8 k, .string s, .int .i64 a, q]] W fun e w' => e = .returned (.tuple #[.int .i64 0, .int .i64 1]) ∧ Below W.heap.size W w' := by
  have H := Lib.hid (fun w hb => ready14 v w (h.later hb))
  have HB := Lib.hid (below1 W (.cells #[.bool l, .int .u8 k, .string s, .int .i64 a, q] 27))
  clear h
  go_enter Tryz.func8, Tryz.ntmps8
  go_wp2_with fail
  refine (H.out _ HB.out).mono ?_
  rintro e w1 ⟨rfl, rfl⟩
  go_wp2_with fail
  exact bodyPost_ret (v := .tuple #[.int .i64 0, .int .i64 1]) (by simp [results, Tryz.results8, go_sem]) rfl ⟨rfl, HB.out⟩
set_option maxRecDepth 100000 in
theorem body9 (v : Value) (l : Bool) (k : Int) (s : ByteArray) (a : Int) (q : Value) (W : World) (h : Lacks W v) : Calls Tryz.prog 9 #[v, .agg #[.slice none 0 0, .slice none 0 0, .bool l, .int .u8 k, .string s, .int .i64 a, q]] W fun e w' => e = .returned (.tuple #[.int .i64 0, .int .i64 1]) ∧ Below W.heap.size W w' := by
  have H := Lib.hid (fun w hb => ready14 v w (h.later hb))
  have HB := Lib.hid (below1 W (.cells #[.slice none 0 0, .slice none 0 0, .bool l, .int .u8 k, .string s, .int .i64 a, q] 47))
  clear h
  go_enter Tryz.func9, Tryz.ntmps9
  go_wp2_with fail
  refine (H.out _ HB.out).mono ?_
  rintro e w1 ⟨rfl, rfl⟩
  go_wp2_with fail
  exact bodyPost_ret (v := .tuple #[.int .i64 0, .int .i64 1]) (by simp [results, Tryz.results9, go_sem]) rfl ⟨rfl, HB.out⟩
end Go.Proofs.YtjhaccpljgdlpaaGreat
