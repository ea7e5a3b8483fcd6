/- A trail of ints: Back. -/
import Derived.Test.YtpnchmelaonfiaaTI2
import Derived.Test.YtpnchmelaonfiaaTS3
namespace Go.Proofs.Ytpnchmelaonfiaa
open Go Go.RowKit

variable {W W' : World} {a base : Nat} {T M : Option Nat} {xs : List Int} {ms : List Nat}
set_option maxRecDepth 100000 in
set_option maxHeartbeats 800000 in
theorem backI_out (h : TrailIAt W a base T M xs ms) (l : Int) (hl : l < 0 ∨ (ms.length : Int) ≤ l) :
    Calls Try.prog 40 #[.pointer (some ⟨a, 0, none⟩), .int .i64 l] W fun e w' => e = .returned (.slice none 0 0) ∧ w' = W := by
  have H1 := levelI_any h
  clear h
  generalize ms.length = n at *
  by_cases h0 : l < 0
  · clear hl H1
    have q := decide_eq_true h0
    go_enter Try.func40, Try.ntmps40
    go_wp2_with fail
    go_ret
    exact ⟨rfl, rfl⟩
  · have q := decide_eq_false h0
    have q1 : (n : Int) ≤ l := by omega
    have q2 := decide_eq_true q1
    clear hl
    go_enter Try.func40, Try.ntmps40
    go_wp2_with fail
    refine H1.mono ?_
    rintro e w1 ⟨rfl, rfl⟩
    clear H1
    go_wp2_with fail
    go_ret
    exact ⟨rfl, rfl⟩
theorem clearI_run (W : World) (b o n c : Nat) (hc : ∀ j, j < n → (W.cell? ⟨b, o + j, none⟩).isSome = true) (hf : ∀ j, j < n → W.frozen? ⟨b, o + j, none⟩ = false) : ∀ ty, (Builtin.clear_ #[46] ty #[.slice (some ⟨b, o, none⟩) n c]).run Try.prog W = .ok (.tuple #[]) (W.setCells b o (List.replicate n (.int .i64 0))) := fun ty => by
  cases n with
  | zero => simp [Builtin.clear_, run_underlying Try.underlying46]; rfl
  | succ n => exact Lib.run_clear_slice W 46 3 ty (.int .i64 0) Try.underlying46 zeroI rfl rfl b o (n + 1) c (by omega) hc hf
theorem clearI_nil (W : World) (p : Option Addr) (c : Nat) : ∀ ty, (Builtin.clear_ #[46] ty #[.slice p 0 c]).run Try.prog W = .ok (.tuple #[]) W := fun ty => by
  cases p <;> simp [Builtin.clear_, run_underlying Try.underlying46]
end Go.Proofs.Ytpnchmelaonfiaa
