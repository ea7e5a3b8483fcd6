/- Is a certificate large? -/
import Derived.Test.YtgdncnalahdjeaaL16
namespace Go.Proofs.Ytgdncnalahdjeaa
open Go Go.RowKit

/-- too large for the laws? -/
def largeB (n : Nat) (d : VD) (m N : Nat) (ld : LD) : Bool := decide (100 < n) || decide (200 < m) || decide (300 < N) || anyB n (fun i => decide (30 < d.L i)) || anyB N (fun i => decide (30 < ld.L i))
theorem largeB_no {n : Nat} {d : VD} {m N : Nat} {ld : LD} (h : largeB n d m N ld = false) : n ≤ 100 ∧ m ≤ 200 ∧ N ≤ 300 := by
  unfold largeB at h
  simp only [Bool.or_eq_false_iff, decide_eq_false_iff_not] at h
  omega
set_option maxRecDepth 100000 in
set_option maxHeartbeats 1600000 in
theorem large_size (n : Nat) (d : VD) (m N : Nat) (ld : LD) (p : Option Addr) (cv : Nat) (q : Option Addr) (ca : Nat) (s : Option Addr) (cs : Nat) (w : World) (hn : n ≤ 9223372036854775807) (hm : m ≤ 9223372036854775807) (hN : N ≤ 9223372036854775807) (h : 100 < n ∨ 200 < m ∨ 300 < N) :
    Calls Try.prog 34 #[.slice p n cv, .slice q m ca, .slice s N cs] w fun e w' => e = .returned (.bool (largeB n d m N ld)) ∧ Below w.heap.size w w' := by
  have hv : largeB n d m N ld = true := by
    unfold largeB
    rcases h with h | h | h <;> rw [decide_eq_true h] <;> simp
  rw [hv]
  clear hv
  have key : 100 < n ∨ (¬ 100 < n ∧ 200 < m) ∨ (¬ 100 < n ∧ ¬ 200 < m ∧ 300 < N) := by omega
  rcases key with h1 | ⟨h1, h2⟩ | ⟨h1, h2, h3⟩
  · clear h
    have q1 : (100 : Int) < (n : Int) := by omega
    go_enter Try.func34, Try.ntmps34
    go_wp2_with fail
    go_ret
    exact ⟨rfl, Below.refl _ _⟩
  · clear h
    have q1 : ¬ (100 : Int) < (n : Int) := by omega
    have q2 : (200 : Int) < (m : Int) := by omega
    go_enter Try.func34, Try.ntmps34
    go_wp2_with fail
    go_ret
    exact ⟨rfl, Below.refl _ _⟩
  · clear h
    have q1 : ¬ (100 : Int) < (n : Int) := by omega
    have q2 : ¬ (200 : Int) < (m : Int) := by omega
    have q3 : (300 : Int) < (N : Int) := by omega
    go_enter Try.func34, Try.ntmps34
    go_wp2_with fail
    go_ret
    exact ⟨rfl, Below.refl _ _⟩
theorem largeB_eq {n : Nat} {d : VD} {m N : Nat} {ld : LD} (h1 : ¬ 100 < n) (h2 : ¬ 200 < m) (h3 : ¬ 300 < N) : largeB n d m N ld = (anyB n (fun i => decide (30 < d.L i)) || anyB N (fun i => decide (30 < ld.L i))) := by
  unfold largeB
  rw [decide_eq_false h1, decide_eq_false h2, decide_eq_false h3]
  simp
set_option maxRecDepth 100000 in
set_option maxHeartbeats 4000000 in
theorem large_any (n : Nat) (d : VD) (m N : Nat) (ld : LD) (p : Option Addr) (cv : Nat) (q : Option Addr) (ca : Nat) (s : Option Addr) (cs : Nat) (w : World) (hd : VertsIn w p n d) (hl : LinksIn w s N ld) (hn : n ≤ 9223372036854775807) (hm : m ≤ 9223372036854775807) (hN : N ≤ 9223372036854775807) :
    Calls Try.prog 34 #[.slice p n cv, .slice q m ca, .slice s N cs] w fun e w' => e = .returned (.bool (largeB n d m N ld)) ∧ Below w.heap.size w w' := by
  by_cases hs : 100 < n ∨ 200 < m ∨ 300 < N
  · exact large_size n d m N ld p cv q ca s cs w hn hm hN hs
  have h1 : ¬ 100 < n := by omega
  have h2 : ¬ 200 < m := by omega
  have h3 : ¬ 300 < N := by omega
  rw [largeB_eq h1 h2 h3]
  have q1 : ¬ (100 : Int) < (n : Int) := by omega
  have q2 : ¬ (200 : Int) < (m : Int) := by omega
  have q3 : ¬ (300 : Int) < (N : Int) := by omega
  have HD := Lib.hid hd
  have HL := Lib.hid hl
  clear hd hl hs h1 h2 h3
  obtain ⟨vb, hvb⟩ : ∃ vb, (anyB n (fun i => decide (30 < d.L i)) || anyB N (fun i => decide (30 < ld.L i))) = vb := ⟨_, rfl⟩
  rw [hvb]
  have HVB := Lib.hid hvb
  clear hvb
  go_enter Try.func34, Try.ntmps34
  go_wp2_with fail
  go_loopw [24] (fun i wr => ∃ j : Nat, j ≤ n ∧ i = .int .i64 j ∧ Below w.heap.size w wr ∧ ∀ t, t < j → d.L t ≤ 30) (fun i _ => n - (intOf i).toNat)
  case atStart => exact ⟨0, by omega, rfl, Below.refl _ _, fun t ht => by omega⟩
  case round =>
    obtain ⟨j, hj, rfl, hb, hall⟩ := hrel
    have HALL := Lib.hid hall
    have HB := Lib.hid hb
    clear hall hb
    by_cases hlt : j < n
    · have hj0 : (0 : Int) ≤ (j : Int) := by omega
      have hj1 : (j : Int) < (n : Int) := by omega
      obtain ⟨b, off, rfl, hat⟩ := (HD.out.later HB.out) (by omega)
      have hv := (hat.v j hlt).2
      have cp := hat.p j hlt
      clear hat
      have HLE := Lib.hid (And.intro hlt hv)
      obtain ⟨L, hL⟩ : ∃ L, d.L j = L := ⟨_, rfl⟩
      rw [hL] at cp hv
      have HLL := Lib.hid hL
      clear hL
      by_cases h30 : 30 < L
      · have q5 : (30 : Int) < (L : Int) := by omega
        go_wp2_with fail
        go_ret
        refine ⟨?_, HB.out⟩
        rw [← HVB.out, anyB_yes (n := n) (f := fun i => decide (30 < d.L i)) j HLE.out.1 (by rw [HLL.out]; exact decide_eq_true h30)]
        first | rfl | simp
      · have q5 : ¬ (30 : Int) < (L : Int) := by omega
        have hbz := HB.out
        go_wp2_with fail
        go_roundw
        case rel => exact ⟨j + 1, by omega, by go_num, hbz, fun t ht => by
          by_cases htj : t < j
          · exact HALL.out t htj
          · obtain rfl : t = j := by omega
            rw [HLL.out]; omega⟩
        case measure => simp [intOf]; omega
    · obtain rfl : j = n := by omega
      have H1 := Lib.hid (show anyB j (fun i => decide (30 < d.L i)) = false from anyB_no (fun i hi => decide_eq_false (by have := HALL.out i hi; omega)))
      clear HALL
      go_wp2_with fail
      have hbz := HB.out
      go_loopw [37] (fun i wr => ∃ j : Nat, j ≤ N ∧ i = .int .i64 j ∧ Below w.heap.size w wr ∧ ∀ t, t < j → ld.L t ≤ 30) (fun i _ => N - (intOf i).toNat)
      case atStart => exact ⟨0, by omega, rfl, hbz, fun t ht => by omega⟩
      case round =>
        clear hbz HB
        obtain ⟨u, hj, rfl, hb, hall⟩ := hrel
        have HALL := Lib.hid hall
        have HB := Lib.hid hb
        clear hall hb
        by_cases hlt : u < N
        · have hj0 : (0 : Int) ≤ (u : Int) := by omega
          have hj1 : (u : Int) < (N : Int) := by omega
          obtain ⟨b, off, rfl, hat⟩ := (HL.out.later HB.out) (by omega)
          have hv := (hat.v u hlt).2
          have cp := hat.p u hlt
          clear hat
          have HLE := Lib.hid (And.intro hlt hv)
          obtain ⟨L, hL⟩ : ∃ L, ld.L u = L := ⟨_, rfl⟩
          rw [hL] at cp hv
          have HLL := Lib.hid hL
          clear hL
          by_cases h30 : 30 < L
          · have q5 : (30 : Int) < (L : Int) := by omega
            go_wp2_with fail
            go_ret
            refine ⟨?_, HB.out⟩
            rw [← HVB.out, H1.out, anyB_yes (n := N) (f := fun i => decide (30 < ld.L i)) u HLE.out.1 (by rw [HLL.out]; exact decide_eq_true h30)]
            first | rfl | simp
          · have q5 : ¬ (30 : Int) < (L : Int) := by omega
            have hbz := HB.out
            go_wp2_with fail
            go_roundw
            case rel => exact ⟨u + 1, by omega, by go_num, hbz, fun t ht => by
              by_cases htu : t < u
              · exact HALL.out t htu
              · obtain rfl : t = u := by omega
                rw [HLL.out]; omega⟩
            case measure => simp [intOf]; omega
        · obtain rfl : u = N := by omega
          have hbz := HB.out
          go_wp2_with fail
          go_ret
          refine ⟨?_, hbz⟩
          rw [← HVB.out, H1.out, anyB_no (fun i hi => decide_eq_false (by have := HALL.out i hi; omega))]
          rfl
end Go.Proofs.Ytgdncnalahdjeaa
