/- Lists alike; Normal of any list. -/
import Derived.Test.YtgdncnalahdjeaaRefD
import Derived.Test.YtgdncnalahdjeaaNorm
namespace Go.Proofs.Ytgdncnalahdjeaa
open Go Go.RowKit

/-- a call's outcome: a list and a number. -/
def Outs (k : Nat) (Z : Nat → Int) (er : Int) (e : Ending) (w' : World) : Prop := ∃ (p : Option Addr) (c : Nat), e = .returned (.tuple #[.slice p k c, .int .i64 er]) ∧ LitsIn w' p k Z
theorem formL_len (l : List LitT) : (formL l).length ≤ l.length := by
  have h := formL_spec l
  refine srt_len (fun i => (nums l).getD i 0) l.length (formL l) (srt_nodup h.1) (fun x hx => ?_)
  obtain ⟨i, hi, he⟩ := List.getElem_of_mem ((h.2 x).1 hx)
  have hi' : i < l.length := by simpa [nums] using hi
  exact ⟨i, hi', by simp [List.getD, List.getElem?_eq_getElem hi, he]⟩
theorem alike_same (p : Option Addr) (n c : Nat) (V : Nat → Int) (q : Option Addr) (d : Nat) (w : World) (hV : LitsIn w p n V) (hn : n ≤ 9223372036854775807) (hU : LitsIn w q n V) :
    Calls Try.prog 23 #[.slice p n c, .slice q n d] w fun e w' => e = .returned (.bool true) ∧ Below w.heap.size w w' := by
  have h := alike_any p n c V q n d V w hV hn hU hn
  rw [alikeB_yes rfl (fun _ _ => rfl)] at h
  exact h
theorem nums_mem (l : List LitT) (n : Nat) (V : Nat → Int) (hl : l.length = n) (hz : ∀ i, i < n → (nums l)[i]? = some (V i)) : ∀ x, x ∈ nums l ↔ ∃ i, i < n ∧ V i = x := by
  intro x
  have hln : (nums l).length = n := by simp [nums, hl]
  constructor
  · intro hx
    obtain ⟨i, hi, he⟩ := List.getElem_of_mem hx
    have := hz i (by omega)
    rw [List.getElem?_eq_getElem hi, he] at this
    exact ⟨i, by omega, by simpa using this.symm⟩
  · rintro ⟨i, hi, rfl⟩
    exact List.mem_of_getElem? (hz i hi)
theorem lits_all (n : Nat) (V : Nat → Int) : ∃ l : List LitT, l.length = n ∧ (MayP n V → ∀ i, i < n → (nums l)[i]? = some (V i)) := by
  by_cases h : MayP n V
  · obtain ⟨l, hl, hz⟩ := lits_of V n h.2
    exact ⟨l, hl, fun _ => hz⟩
  · exact ⟨List.replicate n ⟨1, by decide⟩, by simp, fun h' => absurd h' h⟩
/-- Normal, of any list. -/
theorem normal_same (n : Nat) (V : Nat → Int) (hn : n ≤ 9223372036854775807) :
    ∃ (k : Nat) (Z : Nat → Int) (er : Int), k ≤ 5000 ∧ (MayP n V → er = 0 ∧ ∃ l : List LitT, (∀ x, x ∈ nums l ↔ ∃ i, i < n ∧ V i = x) ∧ k = (formL l).length ∧ Z = fun i => (formL l).getD i 0) ∧ (¬ MayP n V → er = 2 ∧ k = 0) ∧
      (∀ W p c, LitsIn W p n V → Calls Try.prog 47 #[.slice p n c] W fun e w' => Outs k Z er e w' ∧ Below W.heap.size W w') ∧
      (MayP n V → ∀ W p c, LitsIn W p n V → Calls Try.prog 64 #[.slice p n c] W fun e w' => (∃ (q : Option Addr) (d : Nat), e = .returned (.slice q k d) ∧ LitsIn w' q k Z) ∧ Below W.heap.size W w') := by
  obtain ⟨l, hl, hz⟩ := lits_all n V
  by_cases h : MayP n V
  · have hk : (formL l).length ≤ 5000 := by
      have := formL_len l
      have := h.1
      omega
    refine ⟨(formL l).length, fun i => (formL l).getD i 0, 0, hk, fun _ => ⟨rfl, l, nums_mem l n V hl (hz h), rfl, rfl⟩, fun h' => absurd h h', fun W p c hV => ?_, fun _ W p c hV => ?_⟩
    · refine (normal_any p n c V l W hV hl (hz h) h).mono ?_
      rintro e w' ⟨v', rfl, ho, hb⟩
      obtain ⟨p', c', rfl, _, hL, _⟩ := own_in ho rfl
      exact ⟨⟨p', c', rfl, hL⟩, hb⟩
    · refine (refNormal_any p n c V l W hV (by have := h.1; omega) h.2 (nums_mem l n V hl (hz h))).mono ?_
      rintro e w' ⟨v', rfl, ho, hb⟩
      obtain ⟨p', c', rfl, _, hL, _⟩ := own_in ho rfl
      exact ⟨⟨p', c', rfl, hL⟩, hb⟩
  · refine ⟨0, fun _ => 0, 2, by omega, fun h' => absurd h' h, fun _ => ⟨rfl, rfl⟩, fun W p c hV => ?_, fun h' => absurd h' h⟩
    refine (normal_no p n c V W hV hn h).mono ?_
    rintro e w' ⟨rfl, rfl⟩
    exact ⟨⟨none, 0, rfl, fun h => by omega⟩, Below.refl _ _⟩
theorem eql_self (g : Bool) (W : World) : (binOp .eql 4 (.bool g) (.bool g)).run Try.prog W = .ok (.bool true) W := by cases g <;> kernel_rfl
theorem form_may (l : List LitT) (hl : (formL l).length ≤ 5000) : MayP (formL l).length (fun i => (formL l).getD i 0) := by
  refine ⟨hl, fun i hi => ?_⟩
  have hm : (formL l).getD i 0 ∈ formL l := by
    rw [List.getD, List.getElem?_eq_getElem hi]
    exact List.getElem_mem hi
  obtain ⟨y, _, hy⟩ := List.mem_map.1 (((formL_spec l).2 _).1 hm)
  show isLitB ((formL l).getD i 0) = true
  rw [← hy]
  exact y.2
theorem getD_mem_iff (o : List Int) (x : Int) : (∃ i, i < o.length ∧ o.getD i 0 = x) ↔ x ∈ o := by
  constructor
  · rintro ⟨i, hi, rfl⟩
    simp [List.getD, List.getElem?_eq_getElem hi]
  · intro hx
    obtain ⟨i, hi, he⟩ := List.getElem_of_mem hx
    exact ⟨i, hi, by simp [List.getD, List.getElem?_eq_getElem hi, he]⟩
theorem form_form (l l' : List LitT) (h : ∀ x, x ∈ nums l' ↔ ∃ i, i < (formL l).length ∧ (formL l).getD i 0 = x) : formL l' = formL l :=
  formL_of l' _ (formL_spec l).1 (fun x => by rw [h, getD_mem_iff])
def k14 : List LitT := [⟨3, by decide⟩, ⟨-1, by decide⟩, ⟨3, by decide⟩, ⟨2, by decide⟩]
end Go.Proofs.Ytgdncnalahdjeaa
