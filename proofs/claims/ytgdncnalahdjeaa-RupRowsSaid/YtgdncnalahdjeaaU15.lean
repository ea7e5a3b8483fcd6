/- A base: Add, and a base of clauses. -/
import Derived.Test.YtgdncnalahdjeaaU14
import Derived.Test.YtgdncnalahdjeaaSrt
import Derived.Test.YtgdncnalahdjeaaP1
import Derived.Test.YtgdncnalahdjeaaRefD
namespace Go.Proofs.Ytgdncnalahdjeaa
open Go Go.RowKit Go.Maps

theorem getD_row (o : List Int) : rowL o.length (fun i => o.getD i 0) = o := by
  refine List.ext_getElem? (fun j => ?_)
  by_cases h : j < o.length
  · rw [rowL_get _ _ j h, List.getElem?_eq_getElem h, getD_eq h]
  · rw [List.getElem?_eq_none (by rw [rowL_len]; omega), List.getElem?_eq_none (by omega)]
theorem lits_own {w : World} {base : Nat} {p : Option Addr} {c : Nat} {o : List Int} (h : w.ownsRow base 54 1 (.slice p o.length c) o.length (o.map (Value.int .i64))) : LitsIn w p o.length (fun i => o.getD i 0) := fun hn => by
  obtain ⟨g, c', e⟩ := own_some h hn
  cases e
  refine ⟨g, 0, rfl, fun i hi => ?_⟩
  rw [Nat.zero_add]
  exact (own_cell h i (.int .i64 (o.getD i 0)) (by rw [List.getElem?_map, List.getElem?_eq_getElem hi, getD_eq hi]; rfl)).1
set_option maxRecDepth 100000 in
set_option maxHeartbeats 1600000 in
theorem add_at {W : World} {K0 : Nat → Kd} {a m : Nat} {db : List (List Int)} (h : BaseR W K0 a m db) (hdb : db.length ≤ 500000) (p : Option Addr) (n c : Nat) (V : Nat → Int) (hV : LitsIn W p n V) (hm : MayP n V) :
    Calls Try.prog 56 #[.pointer (some ⟨a, 0, none⟩), .slice p n c] W fun e w' => e = .returned (.int .i64 0) ∧ ∃ K', BaseR w' K' a m (db ++ [rowL n V]) ∧ StepB NoQ W w' K0 K' := by
  obtain ⟨l, hl, hz⟩ := lits_all n V
  have hz := hz hm
  have hN := normal_any p n c V l W hV hl hz hm
  have hmem := nums_mem l n V hl hz
  have hsp := formL_spec l
  have hle : (formL l).length ≤ 5000 := by have := formL_len l; have := hm.1; omega
  have hmay := form_may l hle
  have hI : ∀ i, i < (formL l).length → I64 ((formL l).getD i 0) := fun i hi => by obtain ⟨_, a, b⟩ := litB_in (hmay.2 i hi); have a2 : -1048576 ≤ (formL l).getD i 0 := a; have b2 : (formL l).getD i 0 ≤ 1048576 := b; exact ⟨by omega, by omega⟩
  have hsame : ∀ x, x ∈ rowL n V ↔ x ∈ rowL (formL l).length (fun i => (formL l).getD i 0) := fun x => by
    rw [getD_row, hsp.2, hmem, rowL_mem]
  have hnd : (rowL (formL l).length (fun i => (formL l).getD i 0)).Nodup := by rw [getD_row]; exact srt_nodup hsp.1
  have H := Lib.hid h
  have HS := Lib.hid hsame
  have HMY := Lib.hid hmay
  have HND := Lib.hid hnd
  have HI := Lib.hid hI
  clear h hV hm hz hmem hsp hmay hI hsame hnd hl
  generalize formL l = o at *
  go_enter Try.func56, Try.ntmps56
  go_wp2_with fail
  refine hN.mono ?_
  rintro e w1 ⟨v1, rfl, ho1, hb1⟩
  clear hN
  obtain ⟨p1, c1, hv1, hB_⟩ := own_shp ho1
  clear hB_
  subst hv1
  have hin := lits_own ho1
  have HB1 := Lib.hid hb1
  have hsay := says_any p1 o.length c1 (fun i => o.getD i 0) w1 hin (by omega) HI.out
  have HIN := Lib.hid hin
  clear hb1 ho1 hin
  by_cases ht : nothB o.length (fun i => o.getD i 0) = true
  · rw [ht] at hsay
    have htt := (nothB_taut HMY.out.2).1 ht
    have HT := Lib.hid htt
    clear ht htt
    go_wp2_with fail
    refine hsay.mono ?_
    rintro e w2 ⟨rfl, hb2⟩
    have HB2 := Lib.hid hb2
    clear hb2 hsay
    go_wp2_with fail
    go_ret
    refine ⟨rfl, K0, ?_, StepB.below (HB1.out.trans (HB2.out.mono HB1.out.size))⟩
    obtain ⟨cl, wt, T, nx, br, hb, hr⟩ := H.out
    refine ⟨cl, wt, T, nx, br, (hb.later HB1.out).later HB2.out, hr.more (fun _ => .inl ?_)⟩
    obtain ⟨x, h1, h2, h3⟩ := HT.out
    exact ⟨x, (HS.out x).2 h1, (HS.out _).2 h2, h3⟩
  · have htf : nothB o.length (fun i => o.getD i 0) = false := by simpa using ht
    rw [htf] at hsay
    clear ht htf
    go_wp2_with fail
    refine hsay.mono ?_
    rintro e w2 ⟨rfl, hb2⟩
    have hset := settle_at ((H.out.later HB1.out).later hb2) hdb p1 o.length c1 (fun i => o.getD i 0) (HIN.out.later hb2) HMY.out HND.out (rowL n V) HS.out
    have HB2 := Lib.hid hb2
    clear hb2 hsay
    go_wp2_with fail
    refine hset.mono ?_
    rintro e w3 ⟨rfl, K3, hb3, hs3⟩
    have HR := Lib.hid hb3
    have HS3 := Lib.hid hs3
    clear hb3 hs3 hset
    go_wp2_with fail
    go_ret
    exact ⟨rfl, K3, HR.out, (StepB.below (HB1.out.trans (HB2.out.mono HB1.out.size))).trans HS3.out⟩
end Go.Proofs.Ytgdncnalahdjeaa
