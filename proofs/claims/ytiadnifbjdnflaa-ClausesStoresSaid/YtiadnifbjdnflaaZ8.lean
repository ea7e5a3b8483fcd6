/- The store of clauses: what the law reckons, told plainly. -/
import Derived.Test.YtiadnifbjdnflaaZ7
import Derived.Test.YtiadnifbjdnflaaRefB
namespace Go.Proofs.Ytiadnifbjdnflaa
open Go Go.RowKit Go.Maps

theorem topN_le (V : Nat → Int) (s t : Int) : ∀ k, topN V k t ≤ s ↔ t ≤ s ∧ ∀ i, i < k → absI (V i) ≤ s
  | 0 => by simp [topN]
  | k + 1 => by
    show max (topN V k t) (max (V k) (-(V k))) ≤ s ↔ _
    have e : max (V k) (-(V k)) = absI (V k) := rfl
    rw [e]
    have hm : max (topN V k t) (absI (V k)) ≤ s ↔ topN V k t ≤ s ∧ absI (V k) ≤ s := by omega
    rw [hm, topN_le V s t k]
    constructor
    · rintro ⟨⟨h1, h2⟩, h3⟩
      refine ⟨h1, fun i hi => ?_⟩
      by_cases hik : i < k
      · exact h2 i hik
      · obtain rfl : i = k := by omega
        exact h3
    · rintro ⟨h1, h2⟩
      exact ⟨⟨h1, fun i hi => h2 i (by omega)⟩, h2 k (by omega)⟩
theorem topN_same {V U : Nat → Int} {n m : Nat} (t : Int) (h : ∀ x, (∃ i, i < n ∧ V i = x) ↔ ∃ i, i < m ∧ U i = x) : topN V n t = topN U m t := by
  have h1 : topN V n t ≤ topN U m t := by
    obtain ⟨a, b⟩ := (topN_le U (topN U m t) t m).1 (Int.le_refl _)
    refine (topN_le V _ t n).2 ⟨a, fun i hi => ?_⟩
    obtain ⟨j, hj, e⟩ := (h (V i)).1 ⟨i, hi, rfl⟩
    rw [← e]
    exact b j hj
  have h2 : topN U m t ≤ topN V n t := by
    obtain ⟨a, b⟩ := (topN_le V (topN V n t) t n).1 (Int.le_refl _)
    refine (topN_le U _ t m).2 ⟨a, fun i hi => ?_⟩
    obtain ⟨j, hj, e⟩ := (h (U i)).2 ⟨i, hi, rfl⟩
    rw [← e]
    exact b j hj
  omega
theorem fnL_mem (c : List Int) (x : Int) : (∃ i, i < c.length ∧ fnL c i = x) ↔ x ∈ c := by
  constructor
  · rintro ⟨i, hi, rfl⟩
    show c.getD i 0 ∈ c
    rw [List.getD, List.getElem?_eq_getElem hi]
    exact List.getElem_mem hi
  · intro h
    obtain ⟨i, hi, e⟩ := List.getElem_of_mem h
    exact ⟨i, hi, by show c.getD i 0 = x; simp [List.getD, List.getElem?_eq_getElem hi, e]⟩
/-- a row and the literals that it has. -/
theorem nums_mem {n : Nat} {V : Nat → Int} {l : List LitT} (hl : l.length = n) (hz : ∀ i, i < n → (nums l)[i]? = some (V i)) (x : Int) : x ∈ nums l ↔ ∃ i, i < n ∧ V i = x := by
  have hn : (nums l).length = n := by simpa [nums] using hl
  constructor
  · intro h
    obtain ⟨i, hi, e⟩ := List.getElem_of_mem h
    refine ⟨i, by omega, ?_⟩
    have := hz i (by omega)
    rw [List.getElem?_eq_getElem hi, e] at this
    injection this with this
    exact this.symm
  · rintro ⟨i, hi, rfl⟩
    exact List.mem_of_getElem? (hz i hi)
theorem topN_form {n : Nat} {V : Nat → Int} {l : List LitT} (hl : l.length = n) (hz : ∀ i, i < n → (nums l)[i]? = some (V i)) (t : Int) : topN (fnL (formL l)) (formL l).length t = topN V n t :=
  topN_same t (fun x => by rw [fnL_mem, (formL_spec l).2, nums_mem hl hz])
theorem bytes_inj : ∀ (xs ys : List Int), (∀ x ∈ xs, 0 ≤ x ∧ x < 256) → (∀ y ∈ ys, 0 ≤ y ∧ y < 256) → (xs.map fun n => UInt8.ofNat n.toNat) = (ys.map fun n => UInt8.ofNat n.toNat) → xs = ys
  | [], [], _, _, _ => rfl
  | [], _ :: _, _, _, h => by cases h
  | _ :: _, [], _, _, h => by cases h
  | x :: xs, y :: ys, hx, hy, h => by
    simp only [List.map_cons, List.cons.injEq] at h
    obtain ⟨a1, a2⟩ := hx x (by simp)
    obtain ⟨b1, b2⟩ := hy y (by simp)
    have e := congrArg UInt8.toNat h.1
    simp only [UInt8.toNat_ofNat'] at e
    have e1 : x = y := by omega
    rw [e1, bytes_inj xs ys (fun z hz => hx z (by simp [hz])) (fun z hz => hy z (by simp [hz])) h.2]
def Nice (c : List Int) : Prop := ∀ i, i < c.length → -1048576 ≤ fnL c i ∧ fnL c i ≤ 1048576
theorem keyI_iff {c d : List Int} (hc : Nice c) (hd : Nice d) : keyI c = keyI d ↔ c = d := by
  refine ⟨fun h => ?_, fun h => by rw [h]⟩
  have h1 : (textOf c.length (fnL c)).data.toList = (textOf d.length (fnL d)).data.toList := by
    unfold keyI keyS at h
    injection h
  have h2 := bytes_inj _ _ (quads_byte c.length) (quads_byte d.length) h1
  obtain ⟨h3, h4⟩ := quads_inj c.length d.length hc hd h2
  refine List.ext_getElem h3 (fun i h5 h6 => ?_)
  have := h4 i h5
  simpa [fnL, List.getD, List.getElem?_eq_getElem h5, List.getElem?_eq_getElem h6] using this
/-- two rows have the same literals: their normal forms are one. -/
theorem form_same (l l' : List LitT) : formL l = formL l' ↔ ∀ x, x ∈ nums l ↔ x ∈ nums l' :=
  ⟨fun h x => by rw [← (formL_spec l).2, h, (formL_spec l').2], fun h => formL_of l _ (formL_spec l').1 (fun x => by rw [(formL_spec l').2, h])⟩
def bothB (n : Nat) (V : Nat → Int) (m : Nat) (U : Nat → Int) : Bool := ((List.range n).all fun i => hasB m U (V i)) && ((List.range m).all fun i => hasB n V (U i))
theorem bothB_iff (n : Nat) (V : Nat → Int) (m : Nat) (U : Nat → Int) : bothB n V m U = true ↔ ∀ x, (∃ i, i < n ∧ V i = x) ↔ ∃ i, i < m ∧ U i = x := by
  simp only [bothB, Bool.and_eq_true, List.all_eq_true, List.mem_range, hasB_iff]
  constructor
  · rintro ⟨h1, h2⟩ x
    constructor
    · rintro ⟨i, hi, rfl⟩; exact h1 i hi
    · rintro ⟨i, hi, rfl⟩; exact h2 i hi
  · intro h
    exact ⟨fun i hi => (h _).1 ⟨i, hi, rfl⟩, fun i hi => (h _).2 ⟨i, hi, rfl⟩⟩
theorem Nice.form (l : List LitT) (h : (formL l).length ≤ 5000) : Nice (formL l) := may_num (form_mayP l h)
/-- one step of the search from the end. -/
theorem idx_step (cl : List (List Int)) (kl : Lit) (k : Nat) (hk : k < cl.length) : idxOf (cl.drop k) kl k = @ite _ (keyI cl[k] = kl) (Classical.propDecidable _) (some k) (idxOf (cl.drop (k + 1)) kl (k + 1)) := by
  rw [List.drop_eq_getElem_cons hk]
  rfl
theorem same_key {n : Nat} {V : Nat → Int} {l l' : List LitT} (hl : l.length = n) (hz : ∀ i, i < n → (nums l)[i]? = some (V i)) (h1 : (formL l).length ≤ 5000) (h2 : (formL l').length ≤ 5000) : keyI (formL l') = keyI (formL l) ↔ bothB (formL l').length (fnL (formL l')) n V = true := by
  rw [keyI_iff (Nice.form l' h2) (Nice.form l h1), form_same, bothB_iff]
  constructor
  · intro h x
    rw [fnL_mem, (formL_spec l').2, h, nums_mem hl hz]
  · intro h x
    rw [← (formL_spec l').2, ← fnL_mem, h, nums_mem hl hz]
theorem alike_self (p : Option Addr) (n c : Nat) (V : Nat → Int) (q : Option Addr) (d : Nat) (w : World) (hV : LitsIn w p n V) (hn : n ≤ 9223372036854775807) (hU : LitsIn w q n V) :
    Calls Try.prog 23 #[.slice p n c, .slice q n d] w fun e w' => e = .returned (.bool true) ∧ Below w.heap.size w w' := by
  have h := alike_any p n c V q n d V w hV hn hU hn
  rw [alikeB_yes rfl (fun _ _ => rfl)] at h
  exact h
/-- an argument that is a row of rows. -/
def ArgIn (W : World) (p : Option Addr) (n : Nat) (L : Nat → Nat) (V : Nat → Nat → Int) : Prop := 0 < n → ∃ b off, p = some ⟨b, off, none⟩ ∧ ∀ i, i < n → ∃ q c, W.cell? ⟨b, off + i, none⟩ = some (.slice q (L i) c) ∧ LitsIn W q (L i) (V i) ∧ (q = none → c = 0)
theorem ArgIn.later {W W' : World} {p : Option Addr} {n : Nat} {L : Nat → Nat} {V : Nat → Nat → Int} (h : ArgIn W p n L V) (hb : Below W.heap.size W W') : ArgIn W' p n L V := fun hn => by
  obtain ⟨b, off, e, ha⟩ := h hn
  refine ⟨b, off, e, fun i hi => ?_⟩
  obtain ⟨q, c, h1, h2, h3⟩ := ha i hi
  exact ⟨q, c, cell_later hb h1, h2.later hb, h3⟩
end Go.Proofs.Ytiadnifbjdnflaa
