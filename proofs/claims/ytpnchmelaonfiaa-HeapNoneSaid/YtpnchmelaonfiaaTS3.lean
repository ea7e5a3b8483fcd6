/- A trail of strings: Back. -/
import Derived.Test.YtpnchmelaonfiaaTS2
namespace Go.Proofs.Ytpnchmelaonfiaa
open Go Go.RowKit

variable {W W' : World} {a base : Nat} {T M : Option Nat} {xs : List ByteArray} {ms : List Nat}
set_option maxRecDepth 100000 in
set_option maxHeartbeats 800000 in
theorem backS_out (h : TrailSAt W a base T M xs ms) (l : Int) (hl : l < 0 ∨ (ms.length : Int) ≤ l) :
    Calls Try.prog 31 #[.pointer (some ⟨a, 0, none⟩), .int .i64 l] W fun e w' => e = .returned (.slice none 0 0) ∧ w' = W := by
  have H1 := levelS_any h
  clear h
  generalize ms.length = n at *
  by_cases h0 : l < 0
  · clear hl H1
    have q := decide_eq_true h0
    go_enter Try.func31, Try.ntmps31
    go_wp2_with fail
    go_ret
    exact ⟨rfl, rfl⟩
  · have q := decide_eq_false h0
    have q1 : (n : Int) ≤ l := by omega
    have q2 := decide_eq_true q1
    clear hl
    go_enter Try.func31, Try.ntmps31
    go_wp2_with fail
    refine H1.mono ?_
    rintro e w1 ⟨rfl, rfl⟩
    clear H1
    go_wp2_with fail
    go_ret
    exact ⟨rfl, rfl⟩
theorem clearS_run (W : World) (b o n c : Nat) (hc : ∀ j, j < n → (W.cell? ⟨b, o + j, none⟩).isSome = true) (hf : ∀ j, j < n → W.frozen? ⟨b, o + j, none⟩ = false) : ∀ ty, (Builtin.clear_ #[45] ty #[.slice (some ⟨b, o, none⟩) n c]).run Try.prog W = .ok (.tuple #[]) (W.setCells b o (List.replicate n (.string ByteArray.empty))) := fun ty => by
  cases n with
  | zero => simp [Builtin.clear_, run_underlying Try.underlying45]; rfl
  | succ n => exact Lib.run_clear_slice W 45 9 ty (.string ByteArray.empty) Try.underlying45 zeroS rfl rfl b o (n + 1) c (by omega) hc hf
theorem clearS_nil (W : World) (p : Option Addr) (c : Nat) : ∀ ty, (Builtin.clear_ #[45] ty #[.slice p 0 c]).run Try.prog W = .ok (.tuple #[]) W := fun ty => by
  cases p <;> simp [Builtin.clear_, run_underlying Try.underlying45]
theorem only_cells (W : World) (g o : Nat) (vs : List Value) : Only (fun k => k = g) W (W.setCells g o vs) := by
  induction vs generalizing W o with
  | nil => exact Only.refl _ _
  | cons v vs ih => exact (Only.of_setCell W ⟨g, o, none⟩ v).trans (ih _ _)
theorem own_prefix {w : World} {base n k c : Nat} {e : TypeId} {p : Option Addr} {xs : List Value} (h : w.ownsRow base e 1 (.slice p n c) n xs) (hk : k ≤ n) : w.ownsRow base e 1 (.slice p k c) k (xs.take k) := by
  cases p with
  | some ad =>
    obtain ⟨p', c', hv, hs⟩ := own_shape h
    cases hv
    obtain ⟨e1, _⟩ := hs ad rfl
    rw [e1] at h ⊢
    exact own_cut h hk
  | none =>
    rcases h with ⟨h0, ⟨h1, h2⟩ | ⟨g, _, _, h1, _⟩⟩
    · subst h2
      cases h1
      obtain rfl : k = 0 := by omega
      exact ⟨by simp, .inl ⟨rfl, rfl⟩⟩
    · cases h1
theorem own_tail {w : World} {base n k c : Nat} {e : TypeId} {g : Nat} {xs : List Value} (h : w.ownsRow base e 1 (.slice (some ⟨g, 0, none⟩) n c) n xs) (vs : List Value) (hk : k ≤ n) (hv : k + vs.length = n) : (w.setCells g k vs).ownsRow base e 1 (.slice (some ⟨g, 0, none⟩) k c) k (xs.take k) := by
  have key : ∀ (vs : List Value) (o : Nat) (w : World) (xs : List Value), w.ownsRow base e 1 (.slice (some ⟨g, 0, none⟩) n c) n xs → ∃ ys, (w.setCells g o vs).ownsRow base e 1 (.slice (some ⟨g, 0, none⟩) n c) n ys ∧ ∀ j, j < o → ys[j]? = xs[j]? := by
    intro vs
    induction vs with
    | nil => intro o w xs h; exact ⟨xs, h, fun _ _ => rfl⟩
    | cons v vs ih =>
      intro o w xs h
      obtain ⟨ys, h1, h2⟩ := ih (o + 1) _ _ (own_set h o v)
      exact ⟨ys, h1, fun j hj => by rw [h2 j (by omega), List.getElem?_set_ne (by omega)]⟩
  obtain ⟨ys, h1, h2⟩ := key vs k w xs h
  have h3 := own_cut h1 hk
  have e1 : ys.take k = xs.take k := by
    refine List.ext_getElem? (fun j => ?_)
    by_cases hj : j < k
    · rw [List.getElem?_take_of_lt hj, List.getElem?_take_of_lt hj, h2 j hj]
    · rw [List.getElem?_eq_none (by rw [List.length_take]; omega), List.getElem?_eq_none (by rw [List.length_take]; omega)]
  rw [← e1]
  exact h3
end Go.Proofs.Ytpnchmelaonfiaa
