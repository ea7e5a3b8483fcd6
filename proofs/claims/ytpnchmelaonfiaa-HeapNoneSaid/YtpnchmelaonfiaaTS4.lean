/- A trail of strings: Back, within. -/
import Derived.Test.YtpnchmelaonfiaaTS3
namespace Go.Proofs.Ytpnchmelaonfiaa
open Go Go.RowKit

variable {W W' : World} {a base : Nat} {T M : Option Nat} {xs : List ByteArray} {ms : List Nat}
set_option maxRecDepth 100000 in
set_option maxHeartbeats 800000 in
theorem backS_mid (h : TrailSAt W a base T M xs ms) (l k g c : Nat) (hl : l < ms.length) (hk : ms[l]? = some k) (hkx : k ≤ xs.length) (hx : xs.length ≤ 1000000) (hm : ms.length ≤ 1000000) (hg : W.cell? ⟨a, 0, none⟩ = some (.slice (some ⟨g, 0, none⟩) xs.length c)) (hck : k < c) :
    Calls Try.prog 31 #[.pointer (some ⟨a, 0, none⟩), .int .i64 l] W fun e w' => ∃ v, e = .returned v ∧ w'.ownsRow W.heap.size 9 1 v (xs.length - k) ((xs.drop k).reverse.map Value.string) ∧ TrailSAt w' a base T M (xs.take k) (ms.take l) ∧ Only (fun j => j = a ∨ T = some j) W w' := by
  have H1 := levelS_any h
  obtain ⟨q, d, d1, e2, o2⟩ := h.cm
  obtain ⟨pt, ct, t1, e1, o1⟩ := h.ct
  rw [hg] at t1
  cases t1
  have ql : q ≠ none := fun e => by
    subst e
    rcases o2.2 with ⟨_, e⟩ | ⟨_, _, _, e, _⟩
    · omega
    · cases e
  obtain ⟨gm, rfl⟩ : ∃ gm, q = some ⟨gm, 0, none⟩ := by
    rcases o2.2 with ⟨e, _⟩ | ⟨g2, _, _, e, _⟩
    · injection e with e1; exact absurd e1 ql
    · cases e; exact ⟨g2, rfl⟩
  have hmk := (own_cell o2 l (.int .i64 (k : Int)) (by rw [List.getElem?_map, hk]; rfl)).1
  have hld : ms.length ≤ d := by
    rcases o2.2 with ⟨e, _⟩ | ⟨_, _, _, e, _, _, hh, _⟩
    · cases e
    · cases e; exact hh
  have hlc : xs.length ≤ c := by
    rcases o1.2 with ⟨e, _⟩ | ⟨_, _, _, e, _, _, hh, _⟩
    · cases e
    · cases e; exact hh
  have i0 : (0 : Int) ≤ (l : Int) := by omega
  have i1 : (l : Int) < (ms.length : Int) := by omega
  have i2 := decide_eq_false (show ¬ (l : Int) < 0 by omega)
  have i3 : ¬ (ms.length : Int) ≤ (l : Int) := by omega
  have i4 := decide_eq_false i3
  have k0 : (0 : Int) ≤ (k : Int) := by omega
  have k1 : (k : Int) ≤ (xs.length : Int) := by omega
  have k2 : (k : Int) ≤ (c : Int) := by omega
  have H := Lib.hid h
  have HO1 := Lib.hid o1
  have HO2 := Lib.hid o2
  have HE1 := Lib.hid e1
  have HE2 := Lib.hid e2
  clear h o1 o2 e1 e2 ql hk
  generalize hn : xs.length = n at *
  have HN := Lib.hid hn
  clear hn
  go_enter Try.func31, Try.ntmps31
  go_wp2_with fail
  refine H1.mono ?_
  rintro e w1 ⟨rfl, rfl⟩
  clear H1
  have hdl : (xs.drop k).length = n - k := by rw [List.length_drop, HN.out]
  have C1 := cloneS_any (some ⟨g, k, none⟩) (n - k) (c - k) (xs.drop k) w1 hdl (by omega) (fun e => by cases e) (fun ad e j u hu => by
    cases e
    rw [Lib.add_plain]
    refine (own_cell HO1.out (k + j) u ?_).1
    rw [← hu, List.getElem?_map, List.getElem?_map, List.getElem?_drop])
  go_wp2_with fail
  refine C1.mono ?_
  rintro e w2 ⟨v2, rfl, hv2, hb2⟩
  have HB2 := Lib.hid hb2
  have C2 := revS_any (xs.drop k) hdl hv2 (by omega)
  have HV2 := Lib.hid (fun j (e : v2.ownBlock = some j) => (own_lt hv2 e).1)
  clear C1 hb2 hv2
  go_wp2_with fail
  refine C2.mono ?_
  rintro e w3 ⟨rfl, hv3, ho3⟩
  clear C2
  have hlt := H.out.lt
  have HO3 : Hid (Only (fun j => v2.ownBlock = some j) w1 w3) := Lib.hid ((Only.of_below HB2.out).trans ho3)
  have hfar : ∀ j, j = a ∨ T = some j ∨ M = some j → ¬ v2.ownBlock = some j := fun j hj e => by
    have := HV2.out j e
    rcases hj with rfl | hj | hj
    · omega
    · have := hlt.2.1 j hj; omega
    · have := hlt.2.2 j hj; omega
  have H3 := Lib.hid (H.out.only HO3.out hfar)
  have HT := HE1.out
  have HM := HE2.out
  have hgT : T = some g := HT.symm
  have HT1 := Lib.hid (own_only HO1.out HO3.out (fun j hj e => hfar j (.inr (.inl (HT.symm.trans hj))) e))
  have HT2 := Lib.hid (own_only HO2.out HO3.out (fun j hj e => hfar j (.inr (.inr (HM.symm.trans hj))) e))
  have g3 := HO3.out.cell hg (hfar a (.inl rfl))
  have d3 := HO3.out.cell d1 (hfar a (.inl rfl))
  have f3 := H3.out.fz
  have hcl := clearS_run w3 g k (n - k) (c - k) (fun j hj => by
    rw [(own_cell HT1.out (k + j) _ (by rw [List.getElem?_map, List.getElem?_eq_getElem (by rw [HN.out]; omega)]; rfl)).1]
    rfl) (fun j hj => (own_cell HT1.out (k + j) _ (by rw [List.getElem?_map, List.getElem?_eq_getElem (by rw [HN.out]; omega)]; rfl)).2)
  have HC := Lib.hid (own_tail HT1.out (List.replicate (n - k) (.string ByteArray.empty)) hkx (by rw [List.length_replicate]; omega))
  have ho4 := only_cells w3 g k (List.replicate (n - k) (.string ByteArray.empty))
  have hag : ¬ a = g := fun e => by have := hlt.2.1 g hgT; have := H.out.ha; omega
  have g4 := ho4.cell g3 hag
  have d4 := ho4.cell d3 hag
  have al3 : a < w3.heap.size := H3.out.lt.1
  have f40 := (ho4.frozen (a := ⟨a, 0, none⟩) al3 hag).trans (f3 0)
  have f41 := (ho4.frozen (a := ⟨a, 1, none⟩) al3 hag).trans (f3 1)
  have HV3 := Lib.hid hv3
  have HF := Lib.hid hfar
  have HO4 := Lib.hid ho4
  have HGT := Lib.hid hgT
  have HAG := Lib.hid hag
  have HTM := Lib.hid (And.intro HT HM)
  clear hg d1 hmk hv3 ho3 f3 ho4 hfar hgT hag HT HM hlt
  generalize w3.setCells g k (List.replicate (n - k) (.string ByteArray.empty)) = w4 at *
  go_wp2_with (simp only [hcl])
  clear g3 d3 hcl
  go_region
  clear g4 d4 f40 f41 al3
  have hlk : (xs.take k).length = k := by rw [List.length_take, HN.out]; omega
  have hll : (ms.take l).length = l := by rw [List.length_take]; omega
  have hC := HC.out
  rw [← List.map_take] at hC
  obtain ⟨hA, hoA⟩ := H3.out.set0 (p' := some ⟨g, 0, none⟩) (c' := c) (xs' := xs.take k) (HO4.out.mono (fun j _ hj => by rw [HGT.out, hj])) (by rw [hlk]; exact hC) (.inl HGT.out.symm)
  rw [hlk] at hA hoA
  have hown2 := own_prefix (own_only (own_only HT2.out HO4.out (fun j hj e => H.out.ne g HGT.out (by rw [← HTM.out.2, hj, show j = g from e]))) (Only.of_setCell w4 ⟨a, 0, none⟩ (.slice (some ⟨g, 0, none⟩) k c)) (fun j hj e => by
    have := H.out.lt.2.2 j (HTM.out.2.symm.trans hj)
    have := H.out.ha
    have e' : j = a := e
    omega)) (k := l) (by omega)
  rw [← List.map_take] at hown2
  obtain ⟨hB, hoB⟩ := hA.set1 (p' := some ⟨gm, 0, none⟩) (c' := d) (ms' := ms.take l) (Only.refl _ _) (by rw [hll]; exact hown2) (.inl HTM.out.2)
  rw [hll] at hB hoB
  have hoD : Only (fun j => j = a ∨ T = some j) w3 ((w4.setCell ⟨a, 0, none⟩ (.slice (some ⟨g, 0, none⟩) k c)).setCell ⟨a, 1, none⟩ (.slice (some ⟨gm, 0, none⟩) l d)).drew :=
    (((HO4.out.mono (T' := fun j => j = a ∨ T = some j) (fun j _ hj => .inr (by rw [HGT.out, hj]))).trans ((Only.of_setCell w4 ⟨a, 0, none⟩ _).mono (fun j _ hj => .inl hj))).trans ((Only.of_setCell _ ⟨a, 1, none⟩ _).mono (fun j _ hj => .inl hj))).trans (Only.of_below ((Below.refl _ _).drew))
  have HB := Lib.hid (hB.later ((Below.refl _ _).drew))
  have HVD := Lib.hid (own_only HV3.out hoD (fun j hj e => HF.out j (by rcases e with e | e; exact .inl e; exact .inr (.inl e)) hj))
  have HOD := Lib.hid (HO3.out.comp (T := fun j => j = a ∨ T = some j) hoD (fun j hj e => absurd (HV2.out j e) (by omega)) (fun _ _ h => h))
  clear hC hA hoA hown2 hB hoB hoD
  generalize ((w4.setCell ⟨a, 0, none⟩ (.slice (some ⟨g, 0, none⟩) k c)).setCell ⟨a, 1, none⟩ (.slice (some ⟨gm, 0, none⟩) l d)).drew = w5 at *
  go_wp2_with fail
  go_ret
  refine ⟨v2, rfl, HVD.out, ?_, HOD.out⟩
  have hb := HB.out
  rw [show (Value.slice (some ⟨g, 0, none⟩) k c).ownBlock = T from HGT.out.symm, show (Value.slice (some ⟨gm, 0, none⟩) l d).ownBlock = M from HTM.out.2] at hb
  exact hb
end Go.Proofs.Ytpnchmelaonfiaa
