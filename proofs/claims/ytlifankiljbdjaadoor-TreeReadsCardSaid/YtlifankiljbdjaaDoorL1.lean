/- LexCut: the law's walk. -/
import Derived.Test.YtlifankiljbdjaaDoorJX
namespace Go.Proofs.YtlifankiljbdjaaDoor
open Go Go.RowKit

theorem BytesIn.take {W : World} {p : Option Addr} {bs : List UInt8} (h : BytesIn W p bs) (k : Nat) : BytesIn W p (bs.take k) := fun i hi => by
  have hi' : i < bs.length := by simp at hi; omega
  have := h i hi'
  simpa using this
/-- the head of a slice of bytes. -/
theorem slice_to (b off n c hi : Nat) (t e : TypeId) (sz : Nat) (ht : Tryd.prog.underlying t = some (.slice e)) {ie : TypeInfo} (hi5 : Tryd.prog.info? e = some ie) (hs5 : ie.size = sz) (h3 : hi ≤ c) (w : World) :
    (Instr.slice t (.slice (some ⟨b, off, none⟩) n c) none (some (.int .i64 (hi : Int))) none).run Tryd.prog w = .ok (.slice (some ⟨b, off, none⟩) hi c) w := by
  have e3 : (hi : Int) ≤ (c : Int) := by omega
  have e4 : (0 : Int) ≤ (hi : Int) := by omega
  simp [Instr.slice, run_underlying ht, Instr.sliceBounds, Instr.sliceBound, asIntOf, sizeOf, typeInfo, hi5, hs5, e3, e4, h3, Addr.add]
theorem Toks.len {b : List UInt8} {at_ : Nat} {l : List Tk} {p e : Nat} (h : Toks b at_ l p e) : l.length + at_ ≤ max b.length at_ := by
  induction h with
  | done _ => simp; omega
  | bad _ _ => simp; omega
  | step h1 h2 h3 ih =>
    have hn := one_n h2
    rw [List.length_drop] at hn
    simp only [List.length_cons]
    omega
theorem u64_ge (m : Int) : 0 ≤ IntKind.u64.wrap m := by
  have : IntKind.u64.wrap m = m % 18446744073709551616 := by simp [IntKind.wrap, IntKind.bits, IntKind.signed]
  omega
theorem u64_in (m : Int) (h0 : 0 ≤ m) (h1 : m ≤ 1000000) : IntKind.u64.wrap m = m := IntWalk.u64_in m ⟨h0, by omega⟩
set_option maxRecDepth 100000 in
set_option maxHeartbeats 400000 in
theorem cut_great (p : Option Addr) (c n : Nat) (m : Int) (W : World) (hn : 2000 < n) :
    Calls Tryd.prog 6 #[.slice p n c, .int .i64 m] W fun e w' => e = .returned (.bool true) ∧ Below W.heap.size W w' := by
  have i0 : (2000 : Int) < (n : Int) := by omega
  go_enter Tryd.func6, Tryd.ntmps6
  go_wp2_with (go_at_call 13; refine (known_any _).mono ?_; rintro e w1 ⟨rfl, hb⟩; have HB := Lib.hid hb; clear hb)
  go_ret
  exact ⟨rfl, HB.out⟩
set_option maxRecDepth 100000 in
set_option maxHeartbeats 1600000 in
theorem cut_law (p : Option Addr) (c : Nat) (bs : List UInt8) (m : Int) (W : World) (hb : BytesIn W p bs) (hk : bs.length ≤ c) (hn : bs.length ≤ 2000) :
    Calls Tryd.prog 6 #[.slice p bs.length c, .int .i64 m] W fun e w' => e = .returned (.bool true) ∧ Below W.heap.size W w' := by
  have htk := tokens_any p c bs W hb hk (by omega)
  have HBI := Lib.hid hb
  have HTK := Lib.hid htk
  obtain ⟨n, hnl⟩ : ∃ n, n = bs.length := ⟨_, rfl⟩
  have HL := Lib.hid hnl
  rw [← hnl] at hk hn HTK ⊢
  have i0 : (n : Int) ≤ 2000 := by omega
  clear hb htk hnl
  go_enter Tryd.func6, Tryd.ntmps6
  go_wp2_with fail
  refine HTK.out.mono ?_
  rintro e w1 ⟨q, cq, l, a, er, rfl, htk, hown, hb1⟩
  have HT := Lib.hid htk
  have HO := Lib.hid (own_tks hown)
  have hcq := own_cap hown
  have HB1 := Lib.hid hb1
  obtain ⟨L, hL⟩ : ∃ L, L = l.length := ⟨_, rfl⟩
  have HLL := Lib.hid hL
  rw [← hL] at hcq ⊢
  clear htk hown hb1 HTK hL
  by_cases h0 : L = 0
  · subst h0
    go_wp2_with (go_at_call 13; refine (known_any _).mono ?_; rintro e w2 ⟨rfl, hb⟩; have HB := Lib.hid hb; clear hb)
    go_ret
    exact ⟨rfl, HB1.out.trans (HB.out.mono HB1.out.size)⟩
  · have hLn : L ≤ n := by have h1 := HT.out.len; have h2 := HLL.out; have h3 := HL.out; omega
    have j0 : (0 : Int) < (L : Int) := by omega
    have j1 : (L : Int) ≤ 2000 := by omega
    have hw0 := u64_ge m
    obtain ⟨k, hkk⟩ : ∃ k : Nat, (IntKind.u64.wrap m).tmod (L : Int) = (k : Int) := ⟨((IntKind.u64.wrap m).tmod (L : Int)).toNat, by have := Int.tmod_nonneg (L : Int) hw0; omega⟩
    have hkL : k < L := by have := Int.tmod_lt_of_pos (IntKind.u64.wrap m) j0; omega
    have huL : IntKind.u64.wrap (L : Int) = (L : Int) := u64_in _ (by omega) (by omega)
    clear hw0
    have hk64 : wrap64 (k : Int) = (k : Int) := IntWalk.wrap64_in _ ⟨by omega, by omega⟩
    have j2 : (0 : Int) ≤ (k : Int) := by omega
    have j3 : (k : Int) < (L : Int) := by omega
    have hkl : k < l.length := by have := HLL.out; omega
    obtain ⟨b3, off3, rfl, x0, x1, x2⟩ := HO.out k hkl
    have hcut := HT.out.cut k hkl
    have hAt := (HT.out.places k hkl).2.1
    generalize hA : l[k].at_ = A at *
    obtain ⟨b1, off1, rfl, hB_⟩ := HBI.out 0 (by have := HL.out; omega)
    clear hB_
    obtain ⟨ie5, hi5, _, hs5, _⟩ := info5
    obtain ⟨ie33, hi33, _, hs33, _⟩ := info33
    have hAl : A ≤ c := by have := HL.out; omega
    have hA2 : A ≤ 2000 := by have := HL.out; omega
    have s1 := fun w => slice_to b1 off1 n c A 22 5 1 Tryd.underlying22 hi5 hs5 hAl w
    have s2 := fun w => slice_to b3 off3 L cq k 24 33 3 Tryd.underlying24 hi33 hs33 (by omega) w
    have hlenA : (bs.take A).length = A := by simp; omega
    have hct := tokens_any (some ⟨b1, off1, none⟩) c (bs.take A) w1 ((HBI.out.take A).later HB1.out) (by rw [hlenA]; exact hAl) (by rw [hlenA]; omega)
    rw [hlenA] at hct
    have HCT := Lib.hid hct
    have HCUT := Lib.hid hcut
    have HKL := Lib.hid hkl
    have hAi : (A : Int) ≤ 2000 := by have := HL.out; omega
    clear hct hcut hlenA hA hAt hA2 hi5 hs5 hi33 hs33 x0 x1 hkl
    go_wp2_with fail
    refine HCT.out.mono ?_
    rintro e w2 ⟨q2, c2, l2, a2, er2, rfl, htk2, hown2, hb2⟩
    obtain ⟨rfl, rfl, rfl⟩ := htk2.uniq HCUT.out
    have hl2 : (l.take k).length = k := by have := HKL.out; simp; omega
    rw [hl2] at hown2 ⊢
    have htk2' := own_tks (l := l.take k) (by rw [hl2]; exact hown2)
    have hsm := same_any q2 (some ⟨b3, off3, none⟩) c2 cq k (l.take k) w2 htk2' ((HO.out.take k).later hb2) hl2 (by omega)
    have HSM := Lib.hid hsm
    have HB2 := Lib.hid (HB1.out.trans (hb2.mono HB1.out.size))
    have y2 := cell_later hb2 x2
    clear htk2 hown2 htk2' hl2 hsm hb2 x2
    go_wp2_with fail
    refine HSM.out.mono ?_
    rintro e w3 ⟨rfl, hb3⟩
    have HB3 := Lib.hid (HB2.out.trans (hb3.mono HB2.out.size))
    clear hb3
    go_wp2_with fail
    refine (known_any _).mono ?_
    rintro e w4 ⟨rfl, hb4⟩
    have HB4 := Lib.hid (HB3.out.trans (hb4.mono HB3.out.size))
    clear hb4
    go_wp2_with fail
    go_ret
    exact ⟨rfl, HB4.out⟩
theorem cut_any_law (p : Option Addr) (c : Nat) (bs : List UInt8) (m : Int) (W : World) (hb : BytesIn W p bs) (hk : bs.length ≤ c) : Calls Tryd.prog 6 #[.slice p bs.length c, .int .i64 m] W fun e w' => e = .returned (.bool true) ∧ Below W.heap.size W w' := by
  by_cases h : bs.length ≤ 2000
  · exact cut_law p c bs m W hb hk h
  · exact cut_great p c bs.length m W (by omega)
end Go.Proofs.YtlifankiljbdjaaDoor
