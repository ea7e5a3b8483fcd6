/- known: three clauses. -/
import Derived.Test.YtgdncnalahdjeaaU18
namespace Go.Proofs.Ytgdncnalahdjeaa
open Go Go.RowKit Go.Maps

def kdb : List (List Int) := [[1, 2], [-1, 3], [-2, 3]]
theorem k_yes : Confl kdb (negs [3]) := by
  have h3 : Der kdb (negs [3]) (-3) := .given (by simp [negs])
  have h1 : Der kdb (negs [3]) (-1) := .unit (c := [-1, 3]) (by simp [kdb]) (by simp) (fun k hk hne => by
    simp at hk
    rcases hk with rfl | rfl
    · exact absurd rfl hne
    · exact h3)
  have h2 : Der kdb (negs [3]) (-2) := .unit (c := [-2, 3]) (by simp [kdb]) (by simp) (fun k hk hne => by
    simp at hk
    rcases hk with rfl | rfl
    · exact absurd rfl hne
    · exact h3)
  exact Confl.clause (c := [1, 2]) (by simp [kdb]) (fun k hk => by
    simp at hk
    rcases hk with rfl | rfl
    · exact h1
    · exact h2)
theorem k_der (l : Int) : Der kdb [-1] l ↔ l ∈ ([-1, 2, 3] : List Int) := by
  have h1 : Der kdb [-1] (-1) := .given (by simp)
  have h2 : Der kdb [-1] 2 := .unit (c := [1, 2]) (by simp [kdb]) (by simp) (fun k hk hne => by
    simp at hk
    rcases hk with rfl | rfl
    · exact h1
    · exact absurd rfl hne)
  have h3 : Der kdb [-1] 3 := .unit (c := [-2, 3]) (by simp [kdb]) (by simp) (fun k hk hne => by
    simp at hk
    rcases hk with rfl | rfl
    · exact h2
    · exact absurd rfl hne)
  constructor
  · intro h
    induction h with
    | given h => simp at h; subst h; simp
    | @unit c l hc hl _ ih =>
      simp only [kdb, List.mem_cons, List.not_mem_nil, or_false] at hc
      rcases hc with rfl | rfl | rfl
      · simp at hl
        rcases hl with rfl | rfl
        · have := ih 2 (by simp) (by omega); simp at this
        · simp
      · simp at hl
        rcases hl with rfl | rfl
        · simp
        · simp
      · simp at hl
        rcases hl with rfl | rfl
        · have := ih 3 (by simp) (by omega); simp at this
        · simp
  · intro h
    simp at h
    rcases h with rfl | rfl | rfl
    · exact h1
    · exact h2
    · exact h3
theorem k_no : ¬ Confl kdb [-1] := by
  rintro (h | ⟨l, a, b⟩)
  · simp [kdb] at h
  · rw [k_der] at a b
    simp at a b
    omega
theorem k_row (o : List Int) (h1 : o.Pairwise ltI) (h2 : ∀ l, l ∈ o ↔ Der kdb [-1] l) : o = [-1, 2, 3] :=
  srt_unique o [-1, 2, 3] h1 (by simp [ltI, absI]; omega) (fun x => (h2 x).trans (k_der x))
theorem lits_cellsB {W : World} {g : Nat} {c : List Int} (h : ∀ i, i < c.length → W.cell? ⟨g, i, none⟩ = some (.int .i64 (fnL c i))) : LitsIn W (some ⟨g, 0, none⟩) c.length (fnL c) := fun _ => ⟨g, 0, rfl, fun i hi => by rw [Nat.zero_add]; exact h i hi⟩
set_option maxRecDepth 100000 in
set_option maxHeartbeats 3200000 in
theorem known_any (w : World) : Calls Try.prog 18 #[] w fun e w' => e = .returned (.bool true) ∧ Below w.heap.size w w' := by
  have HF := Lib.hid (fun (b q z zq : Nat) (c : List Int) (W : World) (hV : RowsIn W (some ⟨b, 0, none⟩) kdb) (hq : LitsIn W (some ⟨q, 0, none⟩) 1 (fnL c)) (hl : c.length = 1) (hm : mayC c = true) => show Calls Try.prog 25 #[.slice (some ⟨b, 0, none⟩) 3 z, .slice (some ⟨q, 0, none⟩) 1 zq] W fun e w' => ∃ f : Bool, e = .returned (.tuple #[.bool f, .int .i64 0]) ∧ (f = true ↔ Confl kdb (negs c)) ∧ Below W.heap.size W w' from by
    have := rupFollows_yes (some ⟨b, 0, none⟩) z kdb (some ⟨q, 0, none⟩) zq c W hV (by decide) (fun d hd => by simp [kdb] at hd; rcases hd with rfl | rfl | rfl <;> simp) (by rw [hl]; exact hq) (by decide) hm
    rw [hl] at this
    exact this)
  have HU := Lib.hid (fun (b q z zq : Nat) (W : World) (hV : RowsIn W (some ⟨b, 0, none⟩) kdb) (hq : LitsIn W (some ⟨q, 0, none⟩) 1 (fnL [-1])) => show Calls Try.prog 21 #[.slice (some ⟨b, 0, none⟩) 3 z, .slice (some ⟨q, 0, none⟩) 1 zq] W fun e w' => UnitsOut kdb [-1] e w' ∧ Below W.heap.size W w' from
    rupUnits_yes (some ⟨b, 0, none⟩) z kdb (some ⟨q, 0, none⟩) zq [-1] W hV (by decide) (fun d hd => by simp [kdb] at hd; rcases hd with rfl | rfl | rfl <;> simp) hq (by decide) (by decide) (by decide))
  obtain ⟨W4, hW4⟩ : ∃ W4, W4 = ((((w.alloc (.cells #[.int .i64 1, .int .i64 2] 54)).alloc (.cells #[.int .i64 (-1), .int .i64 3] 54)).alloc (.cells #[.int .i64 (-2), .int .i64 3] 54)).alloc (.cells #[.slice (some ⟨w.heap.size, 0, none⟩) 2 2, .slice (some ⟨w.heap.size + 1, 0, none⟩) 2 2, .slice (some ⟨w.heap.size + 1 + 1, 0, none⟩) 2 2] 23)) := ⟨_, rfl⟩
  have hr4 : RowsIn W4 (some ⟨w.heap.size + 1 + 1 + 1, 0, none⟩) kdb := fun _ => by
    refine ⟨_, 0, rfl, fun i c hi => ?_⟩
    rw [hW4]
    match i, hi with
    | 0, hi => cases hi; exact ⟨some ⟨w.heap.size, 0, none⟩, 2, by simp [go_sem], lits_cellsB (fun i hi => by
        match i, hi with
        | 0, _ => simp [go_sem, fnL]
        | 1, _ => simp [go_sem, fnL])⟩
    | 1, hi => cases hi; exact ⟨some ⟨w.heap.size + 1, 0, none⟩, 2, by simp [go_sem], lits_cellsB (fun i hi => by
        match i, hi with
        | 0, _ => simp [go_sem, fnL]
        | 1, _ => simp [go_sem, fnL])⟩
    | 2, hi => cases hi; exact ⟨some ⟨w.heap.size + 1 + 1, 0, none⟩, 2, by simp [go_sem], lits_cellsB (fun i hi => by
        match i, hi with
        | 0, _ => simp [go_sem, fnL]
        | 1, _ => simp [go_sem, fnL])⟩
  have hb4 : Below w.heap.size w W4 := by
    rw [hW4]
    exact ((((Below.refl _ w).alloc (Nat.le_refl _) _).alloc (by simp) _).alloc (by simp; omega) _).alloc (by simp; omega) _
  have HR4 := Lib.hid hr4
  have HB4 := Lib.hid hb4
  have HW4 := Lib.hid hW4
  have HSZ := Lib.hid (show W4.heap.size = w.heap.size + 1 + 1 + 1 + 1 by rw [hW4]; simp)
  clear hr4 hb4 hW4
  go_enter Try.func18, Try.ntmps18
  go_wp2_with fail
  rw [← HW4.out, ← HSZ.out]
  generalize w.heap.size + 1 + 1 + 1 = B at *
  have one : ∀ (x : Int) (W : World), LitsIn (W.alloc (.cells #[.int .i64 x] 54)) (some ⟨W.heap.size, 0, none⟩) 1 (fnL [x]) := fun x W _ => ⟨_, 0, rfl, fun i hi => by
    obtain rfl : i = 0 := by omega
    simp [go_sem, fnL]⟩
  have ONE := Lib.hid one
  clear one
  refine (HF.out B W4.heap.size 3 1 [3] _ (HR4.out.later (below1 W4 _)) (ONE.out 3 W4) rfl (by decide)).mono ?_
  rintro e w5 ⟨f, rfl, hf, hb⟩
  obtain rfl : f = true := hf.2 k_yes
  have hb5 := chain (below1 W4 _) hb
  have HR5 := Lib.hid (HR4.out.later hb5)
  have HB5 := Lib.hid (chain HB4.out hb5)
  clear hf hb hb5
  go_wp2_with fail
  refine (HF.out B w5.heap.size 3 1 [1] _ (HR5.out.later (below1 w5 _)) (ONE.out 1 w5) rfl (by decide)).mono ?_
  rintro e w6 ⟨f, rfl, hf, hb⟩
  obtain rfl : f = false := by
    cases f with
    | true => exact absurd (hf.1 rfl) k_no
    | false => rfl
  have hb6 := chain (below1 w5 _) hb
  have HR6 := Lib.hid (HR5.out.later hb6)
  have HB6 := Lib.hid (chain HB5.out hb6)
  clear hf hb hb6
  go_wp2_with fail
  refine (HU.out B w6.heap.size 3 1 _ (HR6.out.later (below1 w6 _)) (ONE.out (-1) w6)).mono ?_
  rintro e w7 ⟨hu, hb⟩
  rcases hu with ⟨hcf, _⟩ | ⟨_, p7, c7, o, rfl, hi7, h1, h5, h2⟩
  · exact absurd hcf k_no
  obtain rfl := k_row o h1 h2
  have hb7 := chain (below1 w6 _) hb
  have HB7 := Lib.hid (chain HB6.out hb7)
  have HI7 := Lib.hid hi7
  have hal7 := below1 w7 (.cells #[.int .i64 (-1), .int .i64 2, .int .i64 3] 54)
  have hA := alike_same p7 3 c7 (fnL [-1, 2, 3]) (some ⟨w7.heap.size, 0, none⟩) 3 _ (hi7.later hal7) (by omega) (fun _ => ⟨_, 0, rfl, fun i hi => by
    match i, hi with
    | 0, _ => simp [go_sem, fnL]
    | 1, _ => simp [go_sem, fnL]
    | 2, _ => simp [go_sem, fnL]⟩)
  have HA7 := Lib.hid hal7
  clear hb hb7 hi7 h1 h2 h5 hal7
  go_wp2_with fail
  refine hA.mono ?_
  rintro e w8 ⟨rfl, hb8⟩
  have HB8 := Lib.hid hb8
  clear hb8
  go_wp2_with fail
  go_ret
  exact ⟨rfl, chain (chain HB7.out HA7.out) HB8.out⟩
end Go.Proofs.Ytgdncnalahdjeaa
