/- The document's Next. -/
import Derived.Test.YtdompkenblnjjaaGreatT7
import Derived.Test.YtdompkenblnjjaaGreatT8
namespace Go.Proofs.YtdompkenblnjjaaGreat
open Go Go.RowKit

def NextE (l : List TkA) (z : Int) (W : World) (e : Ending) (w' : World) : Prop := ∃ (q : Option Addr) (c' : Nat) (b : Bool) (k : Int) (s : ByteArray) (a : Int) (g : Fo) (n er : Int), e = .returned (.tuple #[trV b k s a q g.len c', .int .i64 n, .int .i64 er]) ∧ g.len ≤ c' ∧ FoIn w' (fun x => W.heap.size ≤ x) g q ∧ Below W.heap.size W w' ∧ NextO l z b k s a g n er
set_option maxRecDepth 100000 in
theorem next_zero {l : List TkA} {z : Int} {W w' : World} {n er : Int} (hb : Below W.heap.size W w') (h : NextO l z false 0 ⟨#[]⟩ 0 .nil n er) : NextE l z W (.returned (.tuple #[.agg #[.bool false, .int .u8 0, .string ⟨#[]⟩, .int .i64 0, .slice none 0 0], .int .i64 n, .int .i64 er])) w' :=
  ⟨none, 0, false, 0, ⟨#[]⟩, 0, .nil, n, er, rfl, Nat.le_refl _, trivial, hb, h⟩
set_option maxRecDepth 100000 in
set_option maxHeartbeats 6400000 in
theorem next22 (p : Option Addr) (c : Nat) (l : List TkA) (z : Int) (W : World) (h1 : TksA W p l) (hc : l.length ≤ c) (hn : l.length ≤ 1048576) :
    Calls Tryz.prog 25 #[.slice p l.length c, .int .i64 z] W (NextE l z W) := by
  obtain ⟨n, hl⟩ : ∃ n, n = l.length := ⟨_, rfl⟩
  have H1 := Lib.hid h1
  have HL := Lib.hid hl
  rw [← hl] at hc hn ⊢
  clear h1 hl
  have n1 : (n : Int) ≤ 1048576 := by omega
  by_cases hz : z < 0
  · have HO := Lib.hid (NextO.arg (l := l) (z := z) (Or.inl hz))
    go_enter Tryz.func25, Tryz.ntmps25
    go_wp2_with fail
    refine bodyPost_ret (v := .tuple #[.agg #[.bool false, .int .u8 0, .string ⟨#[]⟩, .int .i64 0, .slice none 0 0], .int .i64 z, .int .i64 2]) (by simp [results, Tryz.results25, go_sem]) rfl (next_zero ?_ HO.out)
    repeat (first | exact Below.refl _ _ | refine Below.alloc ?_ (by simp) _ | refine Below.setCell ?_ (by simp) _)
  by_cases hz2 : (n : Int) < z
  · have HO := Lib.hid (NextO.arg (l := l) (z := z) (Or.inr (by rw [← HL.out]; exact hz2)))
    have hz3 : 0 ≤ z := by omega
    go_enter Tryz.func25, Tryz.ntmps25
    go_wp2_with fail
    refine bodyPost_ret (v := .tuple #[.agg #[.bool false, .int .u8 0, .string ⟨#[]⟩, .int .i64 0, .slice none 0 0], .int .i64 z, .int .i64 2]) (by simp [results, Tryz.results25, go_sem]) rfl (next_zero ?_ HO.out)
    repeat (first | exact Below.refl _ _ | refine Below.alloc ?_ (by simp) _ | refine Below.setCell ?_ (by simp) _)
  obtain ⟨i, rfl⟩ : ∃ i : Nat, z = (i : Int) := ⟨z.toNat, by omega⟩
  have hin : i ≤ n := by omega
  have z0 : (0 : Int) ≤ (i : Int) := by omega
  have z1 : (i : Int) ≤ (n : Int) := by omega
  clear hz hz2
  by_cases hiz : i = n
  · have HO := Lib.hid (show NextO l (i : Int) false 0 ⟨#[]⟩ 0 .nil (i : Int) 4 from by rw [hiz, HL.out]; exact NextO.short)
    subst hiz
    go_enter Tryz.func25, Tryz.ntmps25
    go_wp2_with fail
    refine bodyPost_ret (v := .tuple #[.agg #[.bool false, .int .u8 0, .string ⟨#[]⟩, .int .i64 0, .slice none 0 0], .int .i64 (i : Int), .int .i64 4]) (by simp [results, Tryz.results25, go_sem]) rfl (next_zero ?_ HO.out)
    repeat (first | exact Below.refl _ _ | refine Below.alloc ?_ (by simp) _ | refine Below.setCell ?_ (by simp) _)
  have hlt : i < l.length := by rw [← HL.out]; omega
  have z2 : (i : Int) < (n : Int) := by omega
  have z3 : ¬ (i : Int) = (n : Int) := by omega
  obtain ⟨b, off, rfl, x0, x1, x2⟩ := (H1.out.later (below1 W (.cells #[.bool false, .int .u8 0, .string ⟨#[]⟩, .int .i64 0, .slice none 0 0] 47))) i hlt
  have hd := drop_cons hlt
  generalize l[i] = t at *
  generalize l.drop (i + 1) = r at *
  have HD := Lib.hid hd
  clear hd hlt
  by_cases h2 : t.k = 2
  · have HO := Lib.hid (NextO.close HD.out h2)
    rw [h2] at x0
    clear h2
    go_enter Tryz.func25, Tryz.ntmps25
    go_wp2_with fail
    refine bodyPost_ret (v := .tuple #[.agg #[.bool false, .int .u8 0, .string ⟨#[]⟩, .int .i64 0, .slice none 0 0], .int .i64 (i : Int), .int .i64 41]) (by simp [results, Tryz.results25, go_sem]) rfl (next_zero ?_ HO.out)
    repeat (first | exact Below.refl _ _ | refine Below.alloc ?_ (by simp) _ | refine Below.setCell ?_ (by simp) _)
  have e2 : (t.k == 2) = false := by simp [h2]
  have HK := Lib.hid h2
  have hend := end43 (some ⟨b, off, none⟩) c i l (W.alloc (.cells #[.bool false, .int .u8 0, .string ⟨#[]⟩, .int .i64 0, .slice none 0 0] 47)) (H1.out.later (below1 _ _)) (by rw [← HL.out]; exact hc) (by rw [← HL.out]; omega) (by rw [← HL.out]; exact hin)
  rw [← HL.out, HD.out] at hend
  have HE := Lib.hid hend
  have HBX := Lib.hid (box_new W false 0 ⟨#[]⟩ 0 (.slice none 0 0))
  clear h2 hend
  go_enter Tryz.func25, Tryz.ntmps25
  go_wp2_with fail
  refine HE.out.mono ?_
  rintro e w1 ⟨rfl, hb1⟩
  clear HE
  obtain ⟨b0, b1, b2, b3, b4, bf⟩ := HBX.out.later hb1
  have HB1 := Lib.hid ((below1 W (.cells #[.bool false, .int .u8 0, .string ⟨#[]⟩, .int .i64 0, .slice none 0 0] 47)).trans (hb1.mono (by simp)))
  cases hE : endF (t :: r) 0 i with
  | none =>
    have HO := Lib.hid (NextO.open HD.out HK.out hE)
    simp only [endV]
    clear hE hb1
    go_wp2_with fail
    refine bodyPost_ret (v := .tuple #[.agg #[.bool false, .int .u8 0, .string ⟨#[]⟩, .int .i64 0, .slice none 0 0], .int .i64 (n : Int), .int .i64 4]) (by simp [results, Tryz.results25, go_sem, b0, b1, b2, b3, b4]) rfl (next_zero ?_ (by rw [HL.out]; exact HO.out))
    exact HB1.out.trans ((only_set5 w1 W.heap.size _ _ _ _ _).below (fun j hj => Nat.le_of_eq hj.symm) HB1.out.size)
  | some E =>
    obtain ⟨hiE, hEn, b', k', s', a', g', hone⟩ := one_of HK.out hE
    have hlen : (t :: r).length = n - i := by rw [← HD.out, List.length_drop, ← HL.out]
    rw [hlen] at hEn
    obtain ⟨U, hU⟩ : ∃ U, U = (t :: r).take (E - i) := ⟨_, rfl⟩
    have hUl : U.length = E - i := by rw [hU, List.length_take, hlen]; omega
    have hpc : TksA w1 (some ⟨b, off + i * 3, none⟩) U := by
      have h := (H1.out.later (HB1.out))
      have := TksA.piece (d := l.take i) (u := U) (z := (t :: r).drop (E - i)) h (by rw [hU, List.take_append_drop, ← HD.out, List.take_append_drop])
      rwa [List.length_take, ← HL.out, Nat.min_eq_left hin] at this
    have hmo := most44 (some ⟨b, off + i * 3, none⟩) (c - i) U w1 hpc (by omega) (by omega)
    have hsl := fun w => slice_tks w b off n c i E hiE (by omega) hc
    have hE2 : E ≤ n := by omega
    have e4 : (E : Int) ≤ 1048576 := by omega
    rw [← hU] at hone
    have HU := Lib.hid (And.intro hU (And.intro hUl (And.intro hone hE)))
    rw [hUl] at hmo
    have HMO := Lib.hid hmo
    have HPC := Lib.hid hpc
    have HB9 := Lib.hid hb1
    clear hlen hEn hpc hmo hU hUl hone hE hb1
    generalize hM : mostF U 0 0 = M at HMO
    have HM := Lib.hid hM
    clear hM
    simp only [endV]
    go_wp2_with fail
    refine HMO.out.mono ?_
    rintro e w2 ⟨rfl, hb2⟩
    have HB2 := Lib.hid (HB1.out.trans (hb2.mono HB1.out.size))
    have hpc2 := HPC.out.later hb2
    clear HB1 HPC b0 b1 b2 b3 b4 bf HMO
    obtain ⟨b0, b1, b2, b3, b4, bf⟩ := (HBX.out.later HB9.out).later hb2
    clear hb2
    by_cases h200 : 200 < M
    · have HO := Lib.hid (NextO.deep HD.out HK.out HU.out.2.2.2 (by rw [← HU.out.1, HM.out]; exact h200))
      go_wp2_with fail
      refine bodyPost_ret (v := .tuple #[.agg #[.bool false, .int .u8 0, .string ⟨#[]⟩, .int .i64 0, .slice none 0 0], .int .i64 (E : Int), .int .i64 40]) (by simp [results, Tryz.results25, go_sem, b0, b1, b2, b3, b4]) rfl (next_zero ?_ HO.out)
      exact HB2.out.trans ((only_set5 w2 W.heap.size _ _ _ _ _).below (fun j hj => Nat.le_of_eq hj.symm) HB2.out.size)
    · have HO := Lib.hid (NextO.ok HD.out HK.out HU.out.2.2.2 (by rw [← HU.out.1, HM.out]; exact h200) (by rw [← HU.out.1]; exact HU.out.2.2.1))
      have htr := tree_any (E - i) (by omega) U b' k' s' a' g' (Nat.le_of_eq HU.out.2.1) HU.out.2.2.1 (some ⟨b, off + i * 3, none⟩) (c - i) w2 hpc2 (by have := HU.out.2.1; omega)
      unfold TreeP trV at htr
      rw [HU.out.2.1] at htr
      have HTR := Lib.hid htr
      have HB8 := Lib.hid (box_new W false 0 ⟨#[]⟩ 0 (.slice none 0 0))
      have HBB := Lib.hid (show BoxT w2 W.heap.size false 0 ⟨#[]⟩ 0 (.slice none 0 0) from ⟨b0, b1, b2, b3, b4, bf⟩)
      clear htr hpc2 b0 b1 b2 b3 b4 bf
      go_wp2_with fail
      refine HTR.out.mono ?_
      rintro e w3 ⟨q3, c3, rfl, hq1, hq2, hb3⟩
      obtain ⟨b0, b1, b2, b3, b4, bf⟩ := HBB.out.later hb3
      have HB3 := Lib.hid (HB2.out.trans (hb3.mono HB2.out.size))
      have HQ := Lib.hid (And.intro hq1 (And.intro (show FoIn w3 (fun z => W.heap.size + 1 ≤ z) g' q3 from hq2.mono (fun z hz _ => by have := HBB.out.lt; have : w2.heap.size ≤ z := hz; omega)) hb3))
      clear hq1 hq2 hb3
      go_wp2_with fail
      refine bodyPost_ret (v := .tuple #[trV b' k' s' a' q3 g'.len c3, .int .i64 (E : Int), .int .i64 0]) (by simp [results, Tryz.results25, go_sem, b0, b1, b2, b3, b4, trV]) rfl ⟨q3, c3, b', k', s', a', g', _, _, rfl, HQ.out.1, ?_, ?_, HO.out⟩
      · exact (HQ.out.2.1.only (only_set5 w3 W.heap.size _ _ _ _ _) (fun z hz e => by omega)).mono (fun z hz _ => by omega)
      · exact HB3.out.trans ((only_set5 w3 W.heap.size _ _ _ _ _).below (fun j hj => Nat.le_of_eq hj.symm) HB3.out.size)
end Go.Proofs.YtdompkenblnjjaaGreat

