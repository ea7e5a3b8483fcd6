/- Whether a call is looked at: some answer. -/
import Derived.Test.YtdompkenblnjjaaGreatX1
namespace Go.Proofs.YtdompkenblnjjaaGreat
open Go Go.RowKit

def StrsIn (W : World) (q : Option Addr) (l : Nat) : Prop := ∀ k, k < l → ∃ b off s, q = some ⟨b, off, none⟩ ∧ W.cell? ⟨b, off + k, none⟩ = some (.string s)
theorem StrsIn.later {W W' : World} {q : Option Addr} {l : Nat} (h : StrsIn W q l) (hb : Below W.heap.size W W') : StrsIn W' q l := fun k hk => by
  obtain ⟨b, off, s, e, hc⟩ := h k hk
  exact ⟨b, off, s, e, cell_later hb hc⟩
def IsB (e : Ending) : Prop := e = .returned (.bool true) ∨ e = .returned (.bool false)
/-- a call's fields, as far as they are looked at. -/
structure OpAt (W : World) (C : Nat) (s r : ByteArray) (p : Option Addr) (np cp : Nat) (q : Option Addr) (mq cq : Nat) (b : Option Addr) (nb cb : Nat) : Prop where
  c5 : W.cell? ⟨C, 5, none⟩ = some (.string s)
  c6 : W.cell? ⟨C, 6, none⟩ = some (.slice p np cp)
  c7 : W.cell? ⟨C, 7, none⟩ = some (.slice q mq cq)
  c8 : W.cell? ⟨C, 8, none⟩ = some (.string r)
  c9 : W.cell? ⟨C, 9, none⟩ = some (.slice b nb cb)
  hp : StrsIn W p np
  hq : StrsIn W q mq
theorem OpAt.later {W W' : World} {C : Nat} {s r : ByteArray} {p : Option Addr} {np cp : Nat} {q : Option Addr} {mq cq : Nat} {b : Option Addr} {nb cb : Nat} (h : OpAt W C s r p np cp q mq cq b nb cb) (hb : Below W.heap.size W W') : OpAt W' C s r p np cp q mq cq b nb cb :=
  ⟨cell_later hb h.c5, cell_later hb h.c6, cell_later hb h.c7, cell_later hb h.c8, cell_later hb h.c9, h.hp.later hb, h.hq.later hb⟩
set_option maxRecDepth 100000 in
set_option maxHeartbeats 1600000 in
theorem tame4 (C cap : Nat) (s r : ByteArray) (p : Option Addr) (np cp : Nat) (q : Option Addr) (mq cq : Nat) (b : Option Addr) (nb cb : Nat) (W : World) (h : OpAt W C s r p np cp q mq cq b nb cb) (hnp : np ≤ 9223372036854775807) (hmq : mq ≤ 9223372036854775807) :
    Calls Tryz.prog 4 #[.slice (some ⟨C, 0, none⟩) 1 cap, .int .i64 1] W fun e w' => IsB e ∧ Below W.heap.size W w' := by
  have H := Lib.hid h
  have np0 : (0 : Int) ≤ (np : Int) := Int.natCast_nonneg _
  have mq0 : (0 : Int) ≤ (mq : Int) := Int.natCast_nonneg _
  clear h
  go_enter Tryz.func4, Tryz.ntmps4
  go_wp2_with fail
  go_loopw [5, 6] (fun x y wr => ∃ i : Nat, i ≤ 1 ∧ x = .int .i64 (i : Int) ∧ Hid (Below W.heap.size W wr)) (fun x _ _ => 1 - (intOf x).toNat)
  case atStart => exact ⟨0, by decide, rfl, Lib.hid (Below.refl _ _)⟩
  case round =>
    obtain ⟨i, hi, rfl, HB⟩ := hrel
    have hi2 : i = 0 ∨ i = 1 := by omega
    rcases hi2 with rfl | rfl
    case inr =>
      go_wp2_with fail
      exact bodyPost_ret (v := .bool true) (by simp [results, Tryz.results4, go_sem]) rfl ⟨.inl rfl, HB.out⟩
    obtain ⟨c5, c6, c7, c8, c9, _hp, _hq⟩ := H.out.later HB.out
    clear _hp _hq hi
    go_wp2_with fail
    try (go_quiet (fail))
    obtain ⟨w2, hw2⟩ : ∃ w2, w2 = wr.drewN nq := ⟨_, rfl⟩
    have HB2 := Lib.hid (show Below W.heap.size W w2 from by rw [hw2]; exact bdd HB.out)
    rw [← hw2]
    clear hw2 c5 c6 c7 c8 c9 HB
    obtain ⟨z, hz⟩ : ∃ z, z = wrap64 (wrap64 ((s.size : Int) + (r.size : Int)) + (nb : Int)) := ⟨_, rfl⟩
    rw [← hz]
    clear hz
    obtain ⟨c5, c6, c7, c8, c9, _hp, _hq⟩ := H.out.later HB2.out
    clear _hp _hq
    by_cases h6 : (40 : Int) < (np : Int)
    · go_wp2_with fail
      exact bodyPost_ret (v := .bool false) (by simp [results, Tryz.results4, go_sem]) rfl ⟨.inr rfl, HB2.out⟩
    by_cases h7 : (40 : Int) < (mq : Int)
    · have h6' : (np : Int) ≤ 40 := by omega
      go_wp2_with fail
      exact bodyPost_ret (v := .bool false) (by simp [results, Tryz.results4, go_sem]) rfl ⟨.inr rfl, HB2.out⟩
    have h6' : (np : Int) ≤ 40 := by omega
    have h7' : (mq : Int) ≤ 40 := by omega
    have HN6 := Lib.hid (show np ≤ 40 from by omega)
    have HN7 := Lib.hid (show mq ≤ 40 from by omega)
    clear h6 h7 hnp hmq
    go_wp2_with fail
    go_loopw [6, 7] (fun y x wr => ∃ (k : Nat) (z : Int), k ≤ np ∧ x = .int .i64 (k : Int) ∧ y = .int .i64 z ∧ wr = w2) (fun _ x _ => np - (intOf x).toNat)
    case atStart => exact ⟨0, z, Nat.zero_le _, rfl, rfl, rfl⟩
    case round =>
      obtain ⟨k, z, hk, rfl, rfl, rfl⟩ := hrel
      have k0 : (0 : Int) ≤ (k : Int) := Int.natCast_nonneg k
      by_cases hlt : k < np
      · have k1 : (k : Int) < (np : Int) := Int.ofNat_lt.2 hlt
        obtain ⟨bb, off, t, rfl, ct⟩ := (H.out.later HB2.out).hp k hlt
        have HS := Lib.hid (show k + 1 ≤ np ∧ np - (k + 1) < np - k ∧ wrap64 ((k : Int) + 1) = ((k + 1 : Nat) : Int) from ⟨Nat.succ_le_of_lt hlt, Nat.sub_lt_sub_left hlt (Nat.lt_succ_self k), by have := HN6.out; simp only [wrap64]; omega⟩)
        go_wp2_with fail
        refine ⟨⟨k + 1, _, HS.out.1, by first | rfl | rw [HS.out.2.2], rfl, trivial⟩, ?_⟩
        first | rw [HS.out.2.2] | skip
        simp only [intOf, Int.toNat_natCast]
        exact HS.out.2.1
      obtain rfl : np = k := (Nat.le_antisymm hk (Nat.le_of_not_lt hlt)).symm
      clear hlt hk
      go_wp2_with fail
      go_loopw [6, 8] (fun y x wr2 => ∃ (k : Nat) (z : Int), k ≤ mq ∧ x = .int .i64 (k : Int) ∧ y = .int .i64 z ∧ wr2 = wr) (fun _ x _ => mq - (intOf x).toNat)
      case atStart => exact ⟨0, z, Nat.zero_le _, rfl, rfl, rfl⟩
      case round =>
        obtain ⟨k, z, hk, rfl, rfl, rfl⟩ := hrel
        have k0 : (0 : Int) ≤ (k : Int) := Int.natCast_nonneg k
        by_cases hlt : k < mq
        · have k1 : (k : Int) < (mq : Int) := Int.ofNat_lt.2 hlt
          obtain ⟨bb, off, t, rfl, ct⟩ := (H.out.later HB2.out).hq k hlt
          have HS := Lib.hid (show k + 1 ≤ mq ∧ mq - (k + 1) < mq - k ∧ wrap64 ((k : Int) + 1) = ((k + 1 : Nat) : Int) from ⟨Nat.succ_le_of_lt hlt, Nat.sub_lt_sub_left hlt (Nat.lt_succ_self k), by have := HN7.out; simp only [wrap64]; omega⟩)
          go_wp2_with fail
          refine ⟨⟨k + 1, _, HS.out.1, by first | rfl | rw [HS.out.2.2], rfl, trivial⟩, ?_⟩
          first | rw [HS.out.2.2] | skip
          simp only [intOf, Int.toNat_natCast]
          exact HS.out.2.1
        obtain rfl : mq = k := (Nat.le_antisymm hk (Nat.le_of_not_lt hlt)).symm
        clear hlt hk
        by_cases hz : (3000 : Int) < z
        · go_wp2_with fail
          exact bodyPost_ret (v := .bool false) (by simp [results, Tryz.results4, go_sem]) rfl ⟨.inr rfl, HB2.out⟩
        · have hz' : z ≤ 3000 := by omega
          go_wp2_with fail
          refine ⟨⟨1, by decide, rfl, HB2⟩, ?_⟩
          decide
end Go.Proofs.YtdompkenblnjjaaGreat
