/- juristref17.Holds. -/
import Derived.Test.YtgdncnalahdjeaaL21
namespace Go.Proofs.Ytgdncnalahdjeaa
open Go Go.RowKit

/-- does a literal hold under values? -/
def holdV (a : AD) (U : Nat → Int) (l : Int) : Bool :=
  if a.K (l.natAbs - 1) = 1 then ((U (a.A (l.natAbs - 1)).toNat == U (a.B (l.natAbs - 1)).toNat) == decide (0 < l))
  else if a.K (l.natAbs - 1) = 3 then (if 0 < l then U (a.A (l.natAbs - 1)).toNat == U 0 else U (a.A (l.natAbs - 1)).toNat == U 1)
  else true
set_option maxRecDepth 100000 in
set_option maxHeartbeats 1000000 in
theorem holds_one (q : Option Addr) (m ca : Nat) (a : AD) (u : Option Addr) (nv cu : Nat) (U : Nat → Int) (n : Nat) (l : Int) (w : World) (ha : AtomsIn w q m a) (hu : LitsIn w u nv U) (hm : m ≤ 1000000) (hn : n ≤ nv) (hn2 : 2 ≤ n) (hv : nv ≤ 9223372036854775807) (h0 : l ≠ 0) (h1 : l.natAbs ≤ m) (hok : atomOK n a (l.natAbs - 1) = true) :
    Calls Try.prog 42 #[.slice q m ca, .int .i64 l, .slice u nv cu] w fun e w' => e = .returned (.bool (holdV a U l)) ∧ Below w.heap.size w w' := by
  obtain ⟨vb, hvb⟩ : ∃ vb, holdV a U l = vb := ⟨_, rfl⟩
  rw [hvb]
  have h2 : -1000000 ≤ l ∧ l ≤ 1000000 := by omega
  obtain ⟨b, off, rfl, hat⟩ := ha (by omega)
  obtain ⟨b2, off2, rfl, hu2⟩ := hu (by omega)
  obtain ⟨i, hi⟩ : ∃ i, l.natAbs - 1 = i := ⟨_, rfl⟩
  have him : i < m := by omega
  have hB := below1 w (.cells #[.int .u8 (a.K i), .int .i64 (a.A i), .int .i64 (a.B i), .int .i64 (a.C i)] 99)
  have HB := Lib.hid hB
  have x0 := hat.k i him
  have x1 := hat.a i him
  have x2 := hat.bb i him
  have x3 := hat.c i him
  have HU := Lib.hid (fun j (hj : j < nv) => cell_later hB (hu2 j hj))
  rw [hi] at hok
  unfold holdV at hvb
  rw [hi] at hvb
  unfold atomOK at hok
  have HVB := Lib.hid hvb
  have HOK := Lib.hid hok
  clear ha hu hat hu2 hvb hok hB
  have H1 := atom_any l w (by omega) (by omega)
  rw [show absI l = (i : Int) + 1 by unfold absI; omega] at H1
  have j0 : (0 : Int) ≤ (i : Int) := by omega
  have j1 : (i : Int) < (m : Int) := by omega
  generalize a.K i = kk at *
  by_cases k1 : kk = 1
  · subst k1
    have hok := HOK.out
    rw [if_pos rfl] at hok
    simp only [Bool.and_eq_true, isV_iff] at hok
    obtain ⟨ja, hja⟩ : ∃ ja : Nat, a.A i = ja := ⟨(a.A i).toNat, by omega⟩
    obtain ⟨jb, hjb⟩ : ∃ jb : Nat, a.B i = jb := ⟨(a.B i).toNat, by omega⟩
    rw [hja, hjb] at hok
    have hb := HVB.out
    rw [if_pos rfl, hja, hjb] at hb
    simp only [Int.toNat_natCast] at hb
    rw [hja] at x1
    rw [hjb] at x2
    rw [hja, hjb] at HU HB
    have y1 := HU.out ja (by omega)
    have y2 := HU.out jb (by omega)
    have i1 : (0 : Int) ≤ (ja : Int) := by omega
    have i2 : (ja : Int) < (nv : Int) := by omega
    have i3 : (0 : Int) ≤ (jb : Int) := by omega
    have i4 : (jb : Int) < (nv : Int) := by omega
    generalize U ja = ua at *
    generalize U jb = ub at *
    generalize a.C i = xc at *
    clear HU HVB HOK hok hja hjb
    rw [← hb]
    clear hb
    go_enter Try.func42, Try.ntmps42
    go_wp2_with fail
    refine H1.mono ?_
    rintro e w1 ⟨rfl, rfl⟩
    go_wp2_with fail
    go_quiet (fail)
    go_wp2_with fail
    go_ret
    exact ⟨rfl, HB.out.trans ((below_drewN _ _).mono HB.out.size)⟩
  · have u1 : (kk == 1) = false := by simpa using k1
    by_cases k3 : kk = 3
    · subst k3
      have hok := HOK.out
      rw [if_neg (by omega), if_pos rfl] at hok
      simp only [isV_iff] at hok
      obtain ⟨ja, hja⟩ : ∃ ja : Nat, a.A i = ja := ⟨(a.A i).toNat, by omega⟩
      rw [hja] at hok
      have hb := HVB.out
      rw [if_neg (by omega), if_pos rfl, hja] at hb
      simp only [Int.toNat_natCast] at hb
      rw [hja] at x1
      rw [hja] at HU HB
      have y1 := HU.out ja (by omega)
      have i1 : (0 : Int) ≤ (ja : Int) := by omega
      have i2 : (ja : Int) < (nv : Int) := by omega
      generalize a.B i = xb at *
      generalize a.C i = xc at *
      clear HVB HOK hok hja k1
      by_cases hl0 : 0 < l
      · have ls : (0 : Int) < l := hl0
        rw [if_pos hl0] at hb
        have y2 := HU.out 0 (by omega)
        rw [Nat.add_zero] at y2
        have i3 : (0 : Int) < (nv : Int) := by omega
        generalize U ja = ua at *
        generalize U 0 = ub at *
        clear HU
        rw [← hb]
        clear hb hl0
        go_enter Try.func42, Try.ntmps42
        go_wp2_with fail
        refine H1.mono ?_
        rintro e w1 ⟨rfl, rfl⟩
        go_wp2_with fail
        go_quiet (fail)
        go_wp2_with fail
        go_ret
        exact ⟨rfl, HB.out.trans ((below_drewN _ _).mono HB.out.size)⟩
      · have ls : ¬ (0 : Int) < l := hl0
        rw [if_neg hl0] at hb
        have y2 := HU.out 1 (by omega)
        have i3 : (1 : Int) < (nv : Int) := by omega
        generalize U ja = ua at *
        generalize U 1 = ub at *
        clear HU
        rw [← hb]
        clear hb hl0
        go_enter Try.func42, Try.ntmps42
        go_wp2_with fail
        refine H1.mono ?_
        rintro e w1 ⟨rfl, rfl⟩
        go_wp2_with fail
        go_quiet (fail)
        go_wp2_with fail
        go_ret
        exact ⟨rfl, HB.out.trans ((below_drewN _ _).mono HB.out.size)⟩
    · have u3 : (kk == 3) = false := by simpa using k3
      have hb := HVB.out
      rw [if_neg k1, if_neg k3] at hb
      subst hb
      generalize a.A i = xa at *
      generalize a.B i = xb at *
      generalize a.C i = xc at *
      clear HVB HOK HU k1 k3
      go_enter Try.func42, Try.ntmps42
      go_wp2_with fail
      refine H1.mono ?_
      rintro e w1 ⟨rfl, rfl⟩
      go_wp2_with fail
      go_ret
      exact ⟨rfl, HB.out⟩
end Go.Proofs.Ytgdncnalahdjeaa
