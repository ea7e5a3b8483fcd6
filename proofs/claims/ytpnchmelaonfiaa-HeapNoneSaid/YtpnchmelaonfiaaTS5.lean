/- A trail of strings: Back to its end. -/
import Derived.Test.YtpnchmelaonfiaaTS4
namespace Go.Proofs.Ytpnchmelaonfiaa
open Go Go.RowKit

variable {W W' : World} {a base : Nat} {T M : Option Nat} {xs : List ByteArray} {ms : List Nat}
set_option maxRecDepth 100000 in
set_option maxHeartbeats 800000 in
theorem backS_full (h : TrailSAt W a base T M xs ms) (l g : Nat) (hl : l < ms.length) (hk : ms[l]? = some xs.length) (hx : xs.length ≤ 1000000) (hm : ms.length ≤ 1000000) (hg : W.cell? ⟨a, 0, none⟩ = some (.slice (some ⟨g, 0, none⟩) xs.length xs.length)) :
    Calls Try.prog 31 #[.pointer (some ⟨a, 0, none⟩), .int .i64 l] W fun e w' => ∃ v, e = .returned v ∧ w'.ownsRow W.heap.size 9 1 v 0 [] ∧ TrailSAt w' a base T M xs (ms.take l) ∧ Only (fun j => j = a ∨ T = some j) W w' := by
  have H1 := levelS_any h
  obtain ⟨q, d, d1, e2, o2⟩ := h.cm
  obtain ⟨pt, ct, t1, e1, o1⟩ := h.ct
  have hu := hg.symm.trans t1
  injection hu with hu
  injection hu with hu1 hu2 hu3
  subst hu1
  subst hu3
  clear t1 hu2
  have ql : q ≠ none := fun e => by
    subst e
    rcases o2.2 with ⟨_, e⟩ | ⟨_, _, _, e, _⟩
    · omega
    · cases e
  obtain ⟨gm, rfl⟩ : ∃ gm, q = some ⟨gm, 0, none⟩ := by
    rcases o2.2 with ⟨e, _⟩ | ⟨g2, _, _, e, _⟩
    · injection e with e1; exact absurd e1 ql
    · cases e; exact ⟨g2, rfl⟩
  have hmk := (own_cell o2 l (.int .i64 ((xs.length : Nat) : Int)) (by rw [List.getElem?_map, hk]; rfl)).1
  have hld : ms.length ≤ d := by
    rcases o2.2 with ⟨e, _⟩ | ⟨_, _, _, e, _, _, hh, _⟩
    · cases e
    · cases e; exact hh
  have i0 : (0 : Int) ≤ (l : Int) := by omega
  have i1 : (l : Int) < (ms.length : Int) := by omega
  have i2 := decide_eq_false (show ¬ (l : Int) < 0 by omega)
  have i3 : ¬ (ms.length : Int) ≤ (l : Int) := by omega
  have i4 := decide_eq_false i3
  have H := Lib.hid h
  have HO1 := Lib.hid o1
  have HO2 := Lib.hid o2
  have HE1 := Lib.hid e1
  have HE2 := Lib.hid e2
  clear h o1 o2 e1 e2 ql hk
  generalize hn : xs.length = n at *
  have HN := Lib.hid hn
  clear hn
  go_enter Try.func31, Try.ntmps31
  go_wp2_with fail
  refine H1.mono ?_
  rintro e w1 ⟨rfl, rfl⟩
  clear H1
  have C1 := cloneS_any (some ⟨g, 0, none⟩) 0 0 [] w1 rfl (by omega) (fun _ => rfl) (fun ad e j u hu => by simp at hu)
  go_wp2_with fail
  refine C1.mono ?_
  rintro e w2 ⟨v2, rfl, hv2, hb2⟩
  have HB2 := Lib.hid hb2
  have C2 := revS_any [] rfl hv2 (by simp)
  have HV2 := Lib.hid (fun j (e : v2.ownBlock = some j) => (own_lt hv2 e).1)
  clear C1 hb2 hv2
  go_wp2_with fail
  refine C2.mono ?_
  rintro e w3 ⟨rfl, hv3, ho3⟩
  clear C2
  have hlt := H.out.lt
  have HO3 : Hid (Only (fun j => v2.ownBlock = some j) w1 w3) := Lib.hid ((Only.of_below HB2.out).trans ho3)
  have hfar : ∀ j, j = a ∨ T = some j ∨ M = some j → ¬ v2.ownBlock = some j := fun j hj e => by
    have := HV2.out j e
    rcases hj with rfl | hj | hj
    · omega
    · have := hlt.2.1 j hj; omega
    · have := hlt.2.2 j hj; omega
  have H3 := Lib.hid (H.out.only HO3.out hfar)
  have HT := HE1.out
  have HM := HE2.out
  have HT1 := Lib.hid (own_only HO1.out HO3.out (fun j hj e => hfar j (.inr (.inl (HT.symm.trans hj))) e))
  have HT2 := Lib.hid (own_only HO2.out HO3.out (fun j hj e => hfar j (.inr (.inr (HM.symm.trans hj))) e))
  have g3 := HO3.out.cell hg (hfar a (.inl rfl))
  have d3 := HO3.out.cell d1 (hfar a (.inl rfl))
  have f40 := H3.out.fz 0
  have f41 := H3.out.fz 1
  have hcl := clearS_nil w3 (some ⟨g, 0, none⟩) 0
  have HV3 := Lib.hid hv3
  have HF := Lib.hid hfar
  have HTM := Lib.hid (And.intro HT HM)
  clear hg d1 hmk hv3 ho3 hfar HT HM hlt
  go_wp2_with (simp only [hcl])
  clear hcl
  go_region
  clear g3 d3 f40 f41
  have hll : (ms.take l).length = l := by rw [List.length_take]; omega
  obtain ⟨hA, hoA⟩ := H3.out.set0 (p' := (some ⟨g, 0, none⟩)) (c' := n) (xs' := xs) (Only.refl _ _) (by rw [HN.out]; exact HT1.out) (.inl HTM.out.1)
  rw [HN.out] at hA hoA
  have hown2 := own_prefix (own_only HT2.out (Only.of_setCell w3 ⟨a, 0, none⟩ (.slice (some ⟨g, 0, none⟩) n n)) (fun j hj e => by
    have := H.out.lt.2.2 j (HTM.out.2.symm.trans hj)
    have := H.out.ha
    have e' : j = a := e
    omega)) (k := l) (by omega)
  rw [← List.map_take] at hown2
  obtain ⟨hB, hoB⟩ := hA.set1 (p' := some ⟨gm, 0, none⟩) (c' := d) (ms' := ms.take l) (Only.refl _ _) (by rw [hll]; exact hown2) (.inl HTM.out.2)
  rw [hll] at hB hoB
  have hoD : Only (fun j => j = a ∨ T = some j) w3 ((w3.setCell ⟨a, 0, none⟩ (.slice (some ⟨g, 0, none⟩) n n)).setCell ⟨a, 1, none⟩ (.slice (some ⟨gm, 0, none⟩) l d)).drew :=
    (((Only.of_setCell w3 ⟨a, 0, none⟩ _).mono (fun j _ hj => .inl hj)).trans ((Only.of_setCell _ ⟨a, 1, none⟩ _).mono (fun j _ hj => .inl hj))).trans (Only.of_below ((Below.refl _ _).drew))
  have HB := Lib.hid (hB.later ((Below.refl _ _).drew))
  have HVD := Lib.hid (own_only HV3.out hoD (fun j hj e => HF.out j (by rcases e with e | e; exact .inl e; exact .inr (.inl e)) hj))
  have HOD := Lib.hid (HO3.out.comp (T := fun j => j = a ∨ T = some j) hoD (fun j hj e => absurd (HV2.out j e) (by omega)) (fun _ _ h => h))
  clear hA hoA hown2 hB hoB hoD
  generalize ((w3.setCell ⟨a, 0, none⟩ (.slice (some ⟨g, 0, none⟩) n n)).setCell ⟨a, 1, none⟩ (.slice (some ⟨gm, 0, none⟩) l d)).drew = w5 at *
  go_wp2_with fail
  go_ret
  refine ⟨v2, rfl, by simpa using HVD.out, ?_, HOD.out⟩
  have hb : TrailSAt w5 a base (Value.slice (some ⟨g, 0, none⟩) n n).ownBlock (Value.slice (some ⟨gm, 0, none⟩) l d).ownBlock xs (ms.take l) := HB.out
  rw [show (Value.slice (some ⟨g, 0, none⟩) n n).ownBlock = T from HTM.out.1, show (Value.slice (some ⟨gm, 0, none⟩) l d).ownBlock = M from HTM.out.2] at hb
  exact hb
set_option maxRecDepth 100000 in
set_option maxHeartbeats 800000 in
theorem backS_nil (h : TrailSAt W a base T M [] ms) (l : Nat) (hl : l < ms.length) (hk : ms[l]? = some 0) (hm : ms.length ≤ 1000000) (hg : W.cell? ⟨a, 0, none⟩ = some (.slice none 0 0)) :
    Calls Try.prog 31 #[.pointer (some ⟨a, 0, none⟩), .int .i64 l] W fun e w' => ∃ v, e = .returned v ∧ w'.ownsRow W.heap.size 9 1 v 0 [] ∧ TrailSAt w' a base T M [] (ms.take l) ∧ Only (fun j => j = a ∨ T = some j) W w' := by
  have H1 := levelS_any h
  obtain ⟨q, d, d1, e2, o2⟩ := h.cm
  obtain ⟨pt, ct, t1, e1, o1⟩ := h.ct
  have hu := hg.symm.trans t1
  injection hu with hu
  injection hu with hu1 hu2 hu3
  subst hu1
  subst hu3
  clear t1 hu2
  have ql : q ≠ none := fun e => by
    subst e
    rcases o2.2 with ⟨_, e⟩ | ⟨_, _, _, e, _⟩
    · omega
    · cases e
  obtain ⟨gm, rfl⟩ : ∃ gm, q = some ⟨gm, 0, none⟩ := by
    rcases o2.2 with ⟨e, _⟩ | ⟨g2, _, _, e, _⟩
    · injection e with e1; exact absurd e1 ql
    · cases e; exact ⟨g2, rfl⟩
  have hmk := (own_cell o2 l (.int .i64 ((0 : Nat) : Int)) (by rw [List.getElem?_map, hk]; rfl)).1
  have hld : ms.length ≤ d := by
    rcases o2.2 with ⟨e, _⟩ | ⟨_, _, _, e, _, _, hh, _⟩
    · cases e
    · cases e; exact hh
  have i0 : (0 : Int) ≤ (l : Int) := by omega
  have i1 : (l : Int) < (ms.length : Int) := by omega
  have i2 := decide_eq_false (show ¬ (l : Int) < 0 by omega)
  have i3 : ¬ (ms.length : Int) ≤ (l : Int) := by omega
  have i4 := decide_eq_false i3
  have H := Lib.hid h
  have HO1 := Lib.hid o1
  have HO2 := Lib.hid o2
  have HE1 := Lib.hid e1
  have HE2 := Lib.hid e2
  clear h o1 o2 e1 e2 ql hk
  go_enter Try.func31, Try.ntmps31
  go_wp2_with fail
  refine H1.mono ?_
  rintro e w1 ⟨rfl, rfl⟩
  clear H1
  have C1 := cloneS_any none 0 0 [] w1 rfl (by omega) (fun _ => rfl) (fun ad e j u hu => by simp at hu)
  go_wp2_with fail
  refine C1.mono ?_
  rintro e w2 ⟨v2, rfl, hv2, hb2⟩
  have HB2 := Lib.hid hb2
  have C2 := revS_any [] rfl hv2 (by simp)
  have HV2 := Lib.hid (fun j (e : v2.ownBlock = some j) => (own_lt hv2 e).1)
  clear C1 hb2 hv2
  go_wp2_with fail
  refine C2.mono ?_
  rintro e w3 ⟨rfl, hv3, ho3⟩
  clear C2
  have hlt := H.out.lt
  have HO3 : Hid (Only (fun j => v2.ownBlock = some j) w1 w3) := Lib.hid ((Only.of_below HB2.out).trans ho3)
  have hfar : ∀ j, j = a ∨ T = some j ∨ M = some j → ¬ v2.ownBlock = some j := fun j hj e => by
    have := HV2.out j e
    rcases hj with rfl | hj | hj
    · omega
    · have := hlt.2.1 j hj; omega
    · have := hlt.2.2 j hj; omega
  have H3 := Lib.hid (H.out.only HO3.out hfar)
  have HT := HE1.out
  have HM := HE2.out
  have HT1 := Lib.hid (own_only HO1.out HO3.out (fun j hj e => hfar j (.inr (.inl (HT.symm.trans hj))) e))
  have HT2 := Lib.hid (own_only HO2.out HO3.out (fun j hj e => hfar j (.inr (.inr (HM.symm.trans hj))) e))
  have g3 := HO3.out.cell hg (hfar a (.inl rfl))
  have d3 := HO3.out.cell d1 (hfar a (.inl rfl))
  have f40 := H3.out.fz 0
  have f41 := H3.out.fz 1
  have hcl := clearS_nil w3 none 0
  have HV3 := Lib.hid hv3
  have HF := Lib.hid hfar
  have HTM := Lib.hid (And.intro HT HM)
  clear hg d1 hmk hv3 ho3 hfar HT HM hlt
  go_wp2_with (simp only [hcl])
  clear hcl
  go_region
  clear g3 d3 f40 f41
  have hll : (ms.take l).length = l := by rw [List.length_take]; omega
  obtain ⟨hA, hoA⟩ := H3.out.set0 (p' := none) (c' := 0) (xs' := []) (Only.refl _ _) (by exact HT1.out) (.inl HTM.out.1)
  have hown2 := own_prefix (own_only HT2.out (Only.of_setCell w3 ⟨a, 0, none⟩ (.slice none 0 0)) (fun j hj e => by
    have := H.out.lt.2.2 j (HTM.out.2.symm.trans hj)
    have := H.out.ha
    have e' : j = a := e
    omega)) (k := l) (by omega)
  rw [← List.map_take] at hown2
  obtain ⟨hB, hoB⟩ := hA.set1 (p' := some ⟨gm, 0, none⟩) (c' := d) (ms' := ms.take l) (Only.refl _ _) (by rw [hll]; exact hown2) (.inl HTM.out.2)
  rw [hll] at hB hoB
  have hoD : Only (fun j => j = a ∨ T = some j) w3 ((w3.setCell ⟨a, 0, none⟩ (.slice none 0 0)).setCell ⟨a, 1, none⟩ (.slice (some ⟨gm, 0, none⟩) l d)).drew :=
    (((Only.of_setCell w3 ⟨a, 0, none⟩ _).mono (fun j _ hj => .inl hj)).trans ((Only.of_setCell _ ⟨a, 1, none⟩ _).mono (fun j _ hj => .inl hj))).trans (Only.of_below ((Below.refl _ _).drew))
  have HB := Lib.hid (hB.later ((Below.refl _ _).drew))
  have HVD := Lib.hid (own_only HV3.out hoD (fun j hj e => HF.out j (by rcases e with e | e; exact .inl e; exact .inr (.inl e)) hj))
  have HOD := Lib.hid (HO3.out.comp (T := fun j => j = a ∨ T = some j) hoD (fun j hj e => absurd (HV2.out j e) (by omega)) (fun _ _ h => h))
  clear hA hoA hown2 hB hoB hoD
  generalize ((w3.setCell ⟨a, 0, none⟩ (.slice none 0 0)).setCell ⟨a, 1, none⟩ (.slice (some ⟨gm, 0, none⟩) l d)).drew = w5 at *
  go_wp2_with fail
  go_ret
  refine ⟨v2, rfl, by simpa using HVD.out, ?_, HOD.out⟩
  have hb : TrailSAt w5 a base (Value.slice none 0 0).ownBlock (Value.slice (some ⟨gm, 0, none⟩) l d).ownBlock [] (ms.take l) := HB.out
  rw [show (Value.slice none 0 0).ownBlock = T from HTM.out.1, show (Value.slice (some ⟨gm, 0, none⟩) l d).ownBlock = M from HTM.out.2] at hb
  exact hb
theorem backS_at (h : TrailSAt W a base T M xs ms) (l k : Nat) (hl : l < ms.length) (hk : ms[l]? = some k) (hkx : k ≤ xs.length) (hx : xs.length ≤ 1000000) (hm : ms.length ≤ 1000000) :
    Calls Try.prog 31 #[.pointer (some ⟨a, 0, none⟩), .int .i64 l] W fun e w' => ∃ v, e = .returned v ∧ w'.ownsRow W.heap.size 9 1 v (xs.length - k) ((xs.drop k).reverse.map Value.string) ∧ TrailSAt w' a base T M (xs.take k) (ms.take l) ∧ Only (fun j => j = a ∨ T = some j) W w' := by
  obtain ⟨pt, ct, t1, e1, o1⟩ := h.ct
  cases pt with
  | none =>
    rcases o1.2 with ⟨e, h0⟩ | ⟨_, _, _, e, _⟩
    · have hz : xs = [] := List.length_eq_zero_iff.1 h0
      subst hz
      injection e with _ _ e3
      subst e3
      have hk0 : k = 0 := by simpa using hkx
      subst hk0
      refine (backS_nil h l hl hk hm t1).mono ?_
      rintro e w' ⟨v, rfl, h1, h2, h3⟩
      exact ⟨v, rfl, by simpa using h1, by simpa using h2, h3⟩
    · cases e
  | some ad =>
    obtain ⟨p', c', hv, hs⟩ := own_shape o1
    cases hv
    obtain ⟨e2, _⟩ := hs ad rfl
    rw [e2] at t1 o1
    have hlc : xs.length ≤ ct := by
      rcases o1.2 with ⟨e, _⟩ | ⟨_, _, _, e, _, _, hh, _⟩
      · cases e
      · cases e; exact hh
    by_cases hc : k < ct
    · exact backS_mid h l k ad.block ct hl hk hkx hx hm t1 hc
    · have hkn : k = xs.length := by omega
      have hcn : ct = xs.length := by omega
      subst hkn
      subst hcn
      refine (backS_full h l ad.block hl hk hx hm t1).mono ?_
      rintro e w' ⟨v, rfl, h1, h2, h3⟩
      exact ⟨v, rfl, by simpa using h1, by simpa using h2, h3⟩
end Go.Proofs.Ytpnchmelaonfiaa
