/- A region in a drawn order, where what its loads read is turned by stores that wait for these loads. -/
import Derived.Test.YtdompkenblnjjaaGreatM0
import Derived.Deep.RegionHeld3
namespace Go.Proofs.YtdompkenblnjjaaGreat
open Go Go.RowKit

section
variable {P : Program} {ops : Array Oper} {Q : Exit → Act → World → Prop} {md : Region.Mode} {ks : List (Nat × (World → Prop))}
/-- each fact holds as long as the operation that ends it has not come up. -/
def SL (ks : List (Nat × (World → Prop))) (l : Array Bool) (w : World) : Prop := ∀ p ∈ ks, l.getD p.1 false = false → p.2 w
set_option maxRecDepth 100000 in
theorem SL.nil {l : Array Bool} {w : World} : SL [] l w := fun _ h => by cases h
set_option maxRecDepth 100000 in
theorem SL.cons {k : Nat} {T : World → Prop} {l : Array Bool} {w : World} (h : l.getD k false = false → T w) (hs : SL ks l w) : SL ((k, T) :: ks) l w := fun p hp => by
  rcases List.mem_cons.1 hp with rfl | hp
  · exact h
  · exact hs p hp
set_option maxRecDepth 100000 in
theorem SL.listed {l : Array Bool} {w : World} (h : SL ks l w) (i : Nat) : SL ks (l.setIfInBounds i true) w := fun p hp hl => h p hp (by
  cases hb : l.getD p.1 false with
  | false => rfl
  | true => rw [getD_set_true hb] at hl; cases hl)
def wpAnyL (P : Program) (md : Region.Mode) (ops : Array Oper) (Q : Exit → Act → World → Prop) (ks : List (Nat × (World → Prop))) : Nat → Array Bool → Act → World → Prop
  | 0, listed, a, w => Region.ready md ops listed = [] ∧ Q .normal a w
  | fuel + 1, listed, a, w =>
    (Region.ready md ops listed = [] → Q .normal a w) ∧
    ∀ i ∈ Region.ready md ops listed, wpOp P ops Q i (fun a' w' => SL ks (listed.setIfInBounds i true) w' ∧ wpAnyL P md ops Q ks fuel (listed.setIfInBounds i true) a' w') a w
set_option maxRecDepth 100000 in
theorem wpAny_of_L : ∀ (fuel : Nat) (listed : Array Bool) (a : Act) (w : World), wpAnyL P md ops Q ks fuel listed a w → wpAny P md ops Q fuel listed a w
  | 0, _, _, _, h => h
  | fuel + 1, _, _, _, h => ⟨h.1, fun i hi => wpOp_mono (fun a' w' h' => wpAny_of_L fuel _ a' w' h'.2) (h.2 i hi)⟩
set_option maxRecDepth 100000 in
theorem wpAnyL_first {i : Nat} {oi : Oper} {v : Value} (k : Nat) (T : World → Prop) (hT : (k, T) ∈ ks) (hn : ∀ p ∈ ks, p.1 ≠ i) (hk : ∀ ok, ops[k]? = some ok → ∃ e ∈ ok.after, Region.binds md e = true ∧ e.on = i) (hi : ops[i]? = some oi) (hsel : ∀ (j : Nat) (o : Oper) cs b, ops[j]? = some o → o.op ≠ .select cs b)
    (hQ : ∀ c a w, Q (.panic c) (a.put oi.dst v) w → Q (.panic c) a w) :
    ∀ (fuel : Nat) (listed : Array Bool) (a : Act) (w : World),
      (∀ j oj, ops[j]? = some oj → j ≠ i → listed.getD j true = false → (∀ e ∈ oj.after, Region.binds md e = true → e.on ≠ i) → oi.apart ops oj = true) →
      i ∈ Region.ready md ops listed → YieldsIf P ops T oi v a → SL ks listed w → listed.getD k false = false →
      wpAnyL P md ops Q ks fuel (listed.setIfInBounds i true) (a.put oi.dst v) w → wpAnyL P md ops Q ks (fuel + 1) listed a w := by
  intro fuel
  induction fuel with
  | zero =>
    intro listed a w _ hr hy hS hl H
    refine ⟨fun h => (by rw [h] at hr; cases hr), fun j hj => ?_⟩
    by_cases hji : j = i
    · subst hji; exact hy.wpOp hi (hS _ hT hl) ⟨hS.listed _, H⟩
    · have := ready_mono hj hji
      rw [H.1] at this
      cases this
  | succ fuel ih =>
    intro listed a w hfree hr hy hS hl H
    refine ⟨fun h => (by rw [h] at hr; cases hr), fun j hj => ?_⟩
    by_cases hji : j = i
    · subst hji; exact hy.wpOp hi (hS _ hT hl) ⟨hS.listed _, H⟩
    · have h1 := H.2 j (ready_mono hj hji)
      obtain ⟨hjun, oj, hoj, hall⟩ := mem_ready.1 hj
      have hnot : ∀ e ∈ oj.after, Region.binds md e = true → e.on ≠ i := fun e he hb heq => by
        have h1 := hall e he hb
        have h0 := (mem_ready.1 hr).1
        rw [heq] at h1
        rcases Nat.lt_or_ge i listed.size with h' | h'
        · simp [h'] at h0 h1; rw [h0] at h1; cases h1
        · simp [Array.getElem?_eq_none h'] at h1
      have hjk : j ≠ k := fun e => by
        subst e
        obtain ⟨e, he, hb, ho⟩ := hk oj hoj
        exact hnot e he hb ho
      have h2 := wpOp_putIf hoj (hfree j oj hoj hji hjun hnot) (fun cs b => hsel i oi cs b hi) (fun cs b => hsel j oj cs b hoj) hQ hy h1
      have hfree' : ∀ k ok, ops[k]? = some ok → k ≠ i → (listed.setIfInBounds j true).getD k true = false →
          (∀ e ∈ ok.after, Region.binds md e = true → e.on ≠ i) → oi.apart ops ok = true := fun k ok hk hki hun hno => by
        refine hfree k ok hk hki ?_ hno
        by_cases hjk : j = k
        · subst hjk; exact hjun
        · rw [getD_set_ne true hjk] at hun; exact hun
      refine wpOp_mono (fun a' w' h3 => ?_) h2
      obtain ⟨hy', hs', hw'⟩ := h3
      have hs2 : SL ks (listed.setIfInBounds j true) w' := fun p hp hl2 => hs' p hp (by
        rw [Array.setIfInBounds_comm _ _ (Ne.symm hji), getD_set_ne false (Ne.symm (hn p hp))]
        exact hl2)
      refine ⟨hs2, ih (listed.setIfInBounds j true) a' w' hfree' (ready_mono hr (Ne.symm hji)) hy' hs2 (by rw [getD_set_ne false hjk]; exact hl) ?_⟩
      rw [Array.setIfInBounds_comm _ _ hji]
      exact hw'
/-- does the operation k wait for i (or is there none)? -/
def killB (md : Region.Mode) (ops : Array Oper) (i k : Nat) : Bool := match ops[k]? with
  | none => true
  | some o => o.after.toList.any fun e => Region.binds md e && e.on == i
set_option maxRecDepth 100000 in
theorem killB_spec {i k : Nat} (h : killB md ops i k = true) : ∀ ok, ops[k]? = some ok → ∃ e ∈ ok.after, Region.binds md e = true ∧ e.on = i := fun ok hk => by
  unfold killB at h
  rw [hk] at h
  obtain ⟨e, he, hb⟩ := List.any_eq_true.1 h
  simp at hb
  exact ⟨e, by simpa using he, hb.1, hb.2⟩
set_option maxRecDepth 100000 in
theorem wpAnyL_take {i : Nat} {oi : Oper} {v : Value} {fuel : Nat} {listed : Array Bool} {a : Act} {w : World} (n k : Nat) (T : World → Prop) (hi : ops[i]? = some oi)
    (hs : Region.noSelect ops = true) (hf : Region.free md ops listed i = true) (hr : (Region.ready md ops listed).contains i = true)
    (hQ : ∀ c a w, Q (.panic c) (a.put oi.dst v) w → Q (.panic c) a w) (hT : ks[n]? = some (k, T)) (hn : (ks.map (·.1)).contains i = false) (hk : killB md ops i k = true) (hl : listed.getD k false = false) (hy : YieldsIf P ops T oi v a) (hS : SL ks listed w)
    (h : SL ks (listed.setIfInBounds i true) w → wpAnyL P md ops Q ks fuel (listed.setIfInBounds i true) (a.put oi.dst v) w) : wpAnyL P md ops Q ks (fuel + 1) listed a w :=
  wpAnyL_first k T (List.mem_of_getElem? hT) (fun p hp e => by
    have : (ks.map (·.1)).contains i = true := by rw [List.contains_iff_mem]; exact List.mem_map.2 ⟨p, hp, e⟩
    rw [hn] at this; cases this) (killB_spec hk) hi (Region.noSelect_spec hs) hQ fuel listed a w (Region.free_spec hi hf) (by simpa using hr) hy hS hl (h (hS.listed i))
def AllReadyL (P : Program) (md : Region.Mode) (ops : Array Oper) (Q : Exit → Act → World → Prop) (ks : List (Nat × (World → Prop))) (fuel : Nat) (listed : Array Bool) (a : Act) (w : World) (rs : List Nat) : Prop :=
  ∀ i ∈ rs, wpOp P ops Q i (fun a' w' => SL ks (listed.setIfInBounds i true) w' ∧ wpAnyL P md ops Q ks fuel (listed.setIfInBounds i true) a' w') a w
set_option maxRecDepth 100000 in
theorem AllReadyL.nil {fuel : Nat} {listed : Array Bool} {a : Act} {w : World} : AllReadyL P md ops Q ks fuel listed a w [] := fun _ h => by cases h
set_option maxRecDepth 100000 in
theorem AllReadyL.cons {fuel : Nat} {listed : Array Bool} {a : Act} {w : World} {i : Nat} {o : Oper} {rs : List Nat} (ho : ops[i]? = some o)
    (h : ∀ K' : Act → World → Prop, Shut (∀ a w, SL ks (listed.setIfInBounds i true) w → (SL ks (listed.setIfInBounds i true) w → wpAnyL P md ops Q ks fuel (listed.setIfInBounds i true) a w) → K' a w) → if Region.wanted o (yielded ops a.tmps) = true then Oper.wp P o a w K' Q else K' (a.put o.dst undef) w)
    (hs : AllReadyL P md ops Q ks fuel listed a w rs) : AllReadyL P md ops Q ks fuel listed a w (i :: rs) := fun j hj => by
  rcases List.mem_cons.1 hj with rfl | hj
  · exact wpOp_step ho (fun K' hK => h K' (fun a w hS hW => hK a w ⟨hS, hW hS⟩))
  · exact hs j hj
set_option maxRecDepth 100000 in
theorem wpAnyL_ready {rs : List Nat} {fuel : Nat} {listed : Array Bool} {a : Act} {w : World} (hr : Region.ready md ops listed = rs) (hne : rs ≠ [])
    (h : AllReadyL P md ops Q ks fuel listed a w rs) : wpAnyL P md ops Q ks (fuel + 1) listed a w := ⟨fun h0 => absurd (hr ▸ h0) hne, hr ▸ h⟩
set_option maxRecDepth 100000 in
theorem wpAnyL_done {listed : Array Bool} {a : Act} {w : World} (hr : Region.ready md ops listed = []) (h : Q .normal a w) :
    ∀ fuel, wpAnyL P md ops Q ks fuel listed a w
  | 0 => ⟨hr, h⟩
  | _ + 1 => ⟨fun _ => h, by rw [hr]; simp⟩
set_option maxRecDepth 100000 in
theorem wp_region_L (ks : List (Nat × (World → Prop))) {id : Nat} {a : Act} {w : World} (hm : P.follows .mixedOrders = true) (hS : SL ks (Array.replicate ops.size false) w.drew)
    (h : SL ks (Array.replicate ops.size false) w.drew → wpAnyL P .any ops Q ks ops.size (Array.replicate ops.size false) a w.drew) : (Code.region id ops true).wp P Q a w :=
  wp_region_any hm (wpAny_of_L _ _ _ _ (h hS))
end
end Go.Proofs.YtdompkenblnjjaaGreat

