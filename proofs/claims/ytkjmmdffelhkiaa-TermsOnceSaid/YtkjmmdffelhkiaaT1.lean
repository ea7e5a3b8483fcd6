/- Stage 6: what a node is found by. -/
import Derived.Test.YtkjmmdffelhkiaaS17
import Derived.DeepKeys4
namespace Go.Proofs.Ytkjmmdffelhkiaa
open Go Go.RowKit Go.Maps

theorem K129 : Keyed Try.prog 129 := Keyed.of_law (deep_law_laid (m := 3) (by kernel_rfl) (by omega) (by decide +kernel) (by kernel_rfl) (by kernel_rfl))
def keyV (q f n s l : Int) : Value := .agg #[.int .u8 q, .int .i64 f, .int .i64 n, .int .i64 s, .int .i64 l]
def keyN (q f n s l : Int) : Lit := .string (keyBytes [.int .u8 q, .int .i64 f, .int .i64 n, .int .i64 s, .int .i64 l])
theorem min64 : IntKind.i64.min = -9223372036854775808 := by decide +kernel
theorem max64 : IntKind.i64.max = 9223372036854775807 := by decide +kernel
theorem min8 : IntKind.u8.min = 0 := by decide +kernel
theorem max8 : IntKind.u8.max = 255 := by decide +kernel
theorem wf64 {x : Int} (h : I64 x) : (Lit.int .i64 x).wf = true := by
  unfold I64 at h
  simp only [Lit.wf, min64, max64, Bool.and_eq_true, decide_eq_true_eq]
  exact h
theorem wf8 {x : Int} (h : 0 ≤ x ∧ x ≤ 255) : (Lit.int .u8 x).wf = true := by
  simp only [Lit.wf, min8, max8, Bool.and_eq_true, decide_eq_true_eq]
  exact h
theorem lits_int {t : TypeId} {q : IntKind} (ht : Try.prog.underlying t = some (.int q)) (d : Nat) (x : Int) (h : (Lit.int q x).wf = true) : Try.prog.keyLits (d + 1) t [.int q x] = some [.int q x] := by
  simp [Program.keyLits, ht, h]
set_option maxRecDepth 100000 in
theorem key129 {q f n s l : Int} (hq : 0 ≤ q ∧ q ≤ 255) (hf : I64 f) (hn : I64 n) (hs : I64 s) (hl : I64 l) : keyOf Try.prog 129 (keyV q f n s l) = some (keyN q f n s l) := by
  have hk : Try.prog.keyType 129 = true := by decide +kernel
  obtain ⟨d, hd⟩ : ∃ d, Try.prog.types.size = d + 1 := by
    refine ⟨Try.prog.types.size - 1, ?_⟩
    have : 1 ≤ Try.prog.types.size := by decide +kernel
    omega
  have hc : Try.prog.cellsOf 129 = 5 := by decide +kernel
  have hv : (keyV q f n s l).formed Try.prog 129 = true := by
    unfold keyV Value.formed
    simp only [Try.underlying129, hc]
    rfl
  have e1 : Try.prog.cellsOf 87 = 1 := by decide +kernel
  have e2 : Try.prog.cellsOf 3 = 1 := by decide +kernel
  have e3 : Try.prog.cellsOf 2 = 1 := by decide +kernel
  have e4 : Try.prog.cellsOf 33 = 1 := by decide +kernel
  have hL : Try.prog.keyLits (Try.prog.types.size + 1) 129 (keyV q f n s l).cells.toList = some [.int .u8 q, .int .i64 f, .int .i64 n, .int .i64 s, .int .i64 l] := by
    rw [hd]
    show Try.prog.keyLits (d + 1 + 1) 129 [.int .u8 q, .int .i64 f, .int .i64 n, .int .i64 s, .int .i64 l] = _
    rw [Program.keyLits.eq_def]
    simp only [Try.underlying129, hc]
    simp [e1, e2, e3, e4, lits_int Try.underlying87 d q (wf8 hq), lits_int Try.underlying3 d f (wf64 hf), lits_int Try.underlying2 d n (wf64 hn), lits_int Try.underlying33 d s (wf64 hs), lits_int Try.underlying3 d l (wf64 hl)]
  unfold keyOf
  rw [Try.underlying129]
  simp only [hk, hv, hL, Bool.and_self, if_true, Option.map_some]
  rfl
theorem keyN_inj {q f n s l q' f' n' s' l' : Int} (hq : 0 ≤ q ∧ q ≤ 255) (hf : I64 f) (hn : I64 n) (hs : I64 s) (hl : I64 l) (hq' : 0 ≤ q' ∧ q' ≤ 255) (hf' : I64 f') (hn' : I64 n') (hs' : I64 s') (hl' : I64 l')
    (h : keyN q f n s l = keyN q' f' n' s' l') : q = q' ∧ f = f' ∧ n = n' ∧ s = s' ∧ l = l' := by
  have a := key129 hq hf hn hs hl
  have b := key129 hq' hf' hn' hs' hl'
  rw [← h] at b
  have := K129.inj a b
  unfold keyV at this
  simpa using this
end Go.Proofs.Ytkjmmdffelhkiaa
