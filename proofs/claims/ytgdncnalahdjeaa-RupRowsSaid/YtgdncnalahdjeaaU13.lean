/- A base: settle. -/
import Derived.Test.YtgdncnalahdjeaaU12
namespace Go.Proofs.Ytgdncnalahdjeaa
open Go Go.RowKit Go.Maps

theorem Struct.more {db db' cl : List (List Int)} {wt : Int → List Nat} {T : List Int} (h : Struct db cl wt T) (hs : ∀ c, c ∈ db → c ∈ db') (hf : cl.length ≤ db'.length) : Struct db' cl wt T :=
  ⟨h.two, fun c hc => by
    obtain ⟨d, hd, a, b⟩ := h.src c hc
    exact ⟨d, hs d hd, a, fun l hl => (b l hl).imp id (fun h => h.mono hs (fun _ h => h))⟩, h.wat, h.wnd, h.nd, h.cons, h.lit, hf⟩
theorem Struct.push {db cl : List (List Int)} {wt : Int → List Nat} {T : List Int} (h : Struct db cl wt T) {op c0 : List Int} (h2 : 2 ≤ op.length) (hn : op.Nodup) (hl : ∀ l, l ∈ op → isLitB l = true) (hc0 : c0 ∈ db) (hs : ∀ l, l ∈ op → l ∈ c0) (hd : ∀ l, l ∈ c0 → l ∈ op ∨ Der db [] (-l)) (hf : cl.length + 1 ≤ db.length) :
    Struct db (cl ++ [op]) (upW (upW wt (w0 op) (wt (w0 op) ++ [cl.length])) (w1 op) (upW wt (w0 op) (wt (w0 op) ++ [cl.length]) (w1 op) ++ [cl.length])) T := by
  have hne := w_ne h2 hn
  have hold : ∀ x j, j ∈ wt x → j < cl.length := fun x j hj => by
    obtain ⟨c, hc, _⟩ := (h.wat x j).1 hj
    exact (List.getElem?_eq_some_iff.1 hc).1
  have hnot : ∀ x, cl.length ∉ wt x := fun x hm => by have := hold x _ hm; omega
  have e1 : upW wt (w0 op) (wt (w0 op) ++ [cl.length]) (w1 op) = wt (w1 op) := upW_ne _ _ hne.symm
  rw [e1]
  have hap : ∀ x, (wt x ++ [cl.length]).Nodup := fun x => List.nodup_append.2 ⟨h.wnd x, by simp, fun a ha b hb => by simp at hb; subst hb; rintro rfl; exact hnot x ha⟩
  refine ⟨fun c hc => ?_, fun c hc => ?_, fun x j => ?_, fun x => ?_, h.nd, h.cons, h.lit, by simpa using hf⟩
  · rcases List.mem_append.1 hc with hc | hc
    · exact h.two c hc
    · simp at hc; subst hc; exact ⟨h2, hn, hl⟩
  · rcases List.mem_append.1 hc with hc | hc
    · exact h.src c hc
    · simp at hc; subst hc; exact ⟨c0, hc0, hs, hd⟩
  · have hget : ∀ c, (cl ++ [op])[j]? = some c ↔ cl[j]? = some c ∨ (j = cl.length ∧ c = op) := by
      intro c
      rw [List.getElem?_append]
      by_cases hj : j < cl.length
      · rw [if_pos hj]
        constructor
        · exact .inl
        · rintro (h | ⟨h, _⟩)
          · exact h
          · omega
      · rw [if_neg hj, List.getElem?_eq_none (l := cl) (by omega)]
        by_cases e : j = cl.length
        · subst e; simp [eq_comm]
        · rw [List.getElem?_eq_none (by simp; omega)]
          simp [e]
    have hmem : ∀ y, (∃ c, (cl ++ [op])[j]? = some c ∧ (y = w0 c ∨ y = w1 c)) ↔ j ∈ wt y ∨ (j = cl.length ∧ (y = w0 op ∨ y = w1 op)) := by
      intro y
      rw [h.wat]
      constructor
      · rintro ⟨c, hc, hy⟩
        rcases (hget c).1 hc with hc | ⟨e, rfl⟩
        · exact .inl ⟨c, hc, hy⟩
        · exact .inr ⟨e, hy⟩
      · rintro (⟨c, hc, hy⟩ | ⟨e, hy⟩)
        · exact ⟨c, (hget c).2 (.inl hc), hy⟩
        · exact ⟨op, (hget op).2 (.inr ⟨e, rfl⟩), hy⟩
    rw [hmem]
    by_cases ex : x = w1 op
    · subst ex; rw [upW_same]; simp
    · rw [upW_ne _ _ ex]
      by_cases ey : x = w0 op
      · subst ey; rw [upW_same]; simp
      · rw [upW_ne _ _ ey]; simp [ex, ey]
  · by_cases ex : x = w1 op
    · subst ex; rw [upW_same]; exact hap _
    · rw [upW_ne _ _ ex]
      by_cases ey : x = w0 op
      · subst ey; rw [upW_same]; exact hap _
      · rw [upW_ne _ _ ey]; exact h.wnd x
/-- what is for nothing becomes something. -/
theorem BaseAt.retag {W : World} {K K' : Nat → Kd} {a m : Nat} {hl : Int → Prop} {cl : List (List Int)} {wt : Int → List Nat} {T R : List Int} {nx : Nat} {br : Bool} (h : BaseAt W K a m hl cl wt T R nx br) (hk : ∀ k, K k ≠ .junk → K' k = K k) (hf : ∀ k, W.heap.size ≤ k → K' k = .junk) : BaseAt W K' a m hl cl wt T R nx br := by
  have row : ∀ {t : Kd} {e : TypeId} {v : Value} {xs : List Value}, t ≠ .junk → RowAt W K t e v xs → RowAt W K' t e v xs := fun ht hr => ⟨hr.own, fun k e => by have := hr.tg k e; rw [hk k (by rw [this]; exact ht)]; exact this⟩
  obtain ⟨v0, v2, v3, ob, r0, r2, r3⟩ := h.ob
  obtain ⟨rows, a1, a2, a3⟩ := r0.row
  obtain ⟨tr, b1, b2⟩ := r2.row
  obtain ⟨D, c1, c2, c3⟩ := h.mp.has
  refine ⟨hf, by rw [hk a (by rw [h.ka]; simp)]; exact h.ka, ⟨by rw [hk m (by rw [h.mp.tag]; simp)]; exact h.mp.tag, D, c1, c2, fun x hx hn => ?_⟩, v0, v2, v3, ob, ⟨rows, a1, row (by simp) a2, fun i c hi => ?_⟩, ⟨tr, row (by simp) b1, b2⟩, row (by simp) r3⟩
  · obtain ⟨v, e, hr⟩ := c3 x hx hn
    exact ⟨v, e, row (by simp) hr⟩
  · obtain ⟨u, hu, hr⟩ := a3 i c hi
    exact ⟨u, hu, row (by simp) hr⟩
section
variable {db cl : List (List Int)} {wt : Int → List Nat} {T : List Int} {nx : Nat} {br : Bool} {c0 : List Int}
theorem Rest.more (h : Rest db cl wt T nx br) (hc : br = false → Taut c0 ∨ (∃ l, l ∈ c0 ∧ l ∈ T) ∨ ∃ d, d ∈ cl ∧ ∀ l, l ∈ d → l ∈ c0) : Rest (db ++ [c0]) cl wt T nx br := by
  have hs : ∀ c, c ∈ db → c ∈ db ++ [c0] := fun c hc => List.mem_append_left _ hc
  refine ⟨h.stc.more hs (by have := h.stc.few; simp; omega), fun l hl => (h.der l hl).mono hs (fun _ h => h), fun hb => (h.bad hb).mono hs (fun _ h => h), fun hb => ?_, h.le⟩
  obtain ⟨e1, e2, e3⟩ := h.ok hb
  refine ⟨e1, e2, fun c hcm => ?_⟩
  rcases List.mem_append.1 hcm with hcm | hcm
  · exact e3 c hcm
  · simp at hcm; subst hcm; exact hc hb
theorem Rest.broke (h : Rest db cl wt T nx br) (hc : ∀ l, l ∈ c0 → -l ∈ T) : Rest (db ++ [c0]) cl wt T nx true := by
  have hs : ∀ c, c ∈ db → c ∈ db ++ [c0] := fun c hc => List.mem_append_left _ hc
  exact ⟨h.stc.more hs (by have := h.stc.few; simp; omega), fun l hl => (h.der l hl).mono hs (fun _ h => h), fun _ => Confl.clause (c := c0) (by simp) (fun k hk => (h.der _ (hc k hk)).mono hs (fun _ h => h)), fun hb => (by cases hb), h.le⟩
/-- a clause of which one literal is open. -/
theorem Rest.unit {F : Prop} (hF : F ↔ br = false) (h : Rest db cl wt T nx br) {x : Int} (hx0 : valT T x = 0) (hxl : isLitB x = true) (hxc : x ∈ c0) (hc : ∀ l, l ∈ c0 → l = x ∨ -l ∈ T) {W w' : World} {K0 K1 : Nat → Kd} {a m : Nat} (hb : BaseAt w' K1 a m (fun _ => False) cl wt (T ++ [x]) (T ++ [x]) nx br) (hs : StepB NoQ W w' K0 K1) :
    PropI F W K0 (db ++ [c0]) cl (T ++ [x]) [] [] a m br w' K1 cl wt (T ++ [x]) nx := by
  have hsub : ∀ c, c ∈ db → c ∈ db ++ [c0] := fun c hc => List.mem_append_left _ hc
  have hder : ∀ l, l ∈ T → Der (db ++ [c0]) [] l := fun l hl => (h.der l hl).mono hsub (fun _ h => h)
  refine ⟨hb, hs, (h.stc.more hsub (by have := h.stc.few; simp; omega)).add hx0 hxl, fun l hl => ?_, Alk.refl _, ⟨[], by simp⟩, fun l hl => (by simp at hl), fun _ c _ => ⟨fun hm => by simp at hm, fun hm => by simp at hm⟩, fun hf => ?_, by have := h.le; simp; omega⟩
  · rcases List.mem_append.1 hl with hl | hl
    · exact hder l hl
    · simp at hl
      subst hl
      exact .unit (c := c0) (by simp) hxc (fun k hk hne => by
        rcases hc k hk with e | e
        · exact absurd e hne
        · exact hder _ e)
  · obtain ⟨e1, e2, _⟩ := h.ok (hF.1 hf)
    subst e1
    rw [List.take_left]
    exact fun c hc => ⟨fun hm => List.mem_append_left _ ((e2 c hc).1 hm), fun hm => List.mem_append_left _ ((e2 c hc).2 hm)⟩
theorem Rest.unit_end {F : Prop} (hF : F ↔ br = false) (h : Rest db cl wt T nx br) {x : Int} (hxc : x ∈ c0) {W w' : World} {K0 K1 : Nat → Kd} {a m : Nat} {ok : Bool} {cl' : List (List Int)} {wt' : Int → List Nat} {T' : List Int} {nx' : Nat} (hE : PropEnd F W K0 (db ++ [c0]) cl (T ++ [x]) [] [] a m br ok w' K1 cl' wt' T' nx') :
    (ok = true → Rest (db ++ [c0]) cl' wt' T' nx' br) ∧ (ok = false → Rest (db ++ [c0]) cl' wt' T' nx' true) := by
  have hsub : ∀ c, c ∈ db → c ∈ db ++ [c0] := fun c hc => List.mem_append_left _ hc
  obtain ⟨new, hn⟩ := hE.pre
  refine ⟨fun hok => ⟨hE.stc, hE.der, fun hb => (h.bad hb).mono hsub (fun _ h => h), fun hb => ?_, hE.le⟩, fun hok => ⟨hE.stc, hE.der, fun _ => hE.no hok, fun hb => (by cases hb), hE.le⟩⟩
  obtain ⟨_, _, e3⟩ := h.ok hb
  refine ⟨(hE.yes hok).1, (hE.yes hok).2 (hF.2 hb), fun c hc => ?_⟩
  rcases List.mem_append.1 hc with hc | hc
  · rcases e3 c hc with h1 | ⟨l, h1, h2⟩ | h1
    · exact .inl h1
    · exact .inr (.inl ⟨l, h1, by rw [hn]; simp [h2]⟩)
    · exact .inr (.inr (hE.alk.cover h1))
  · simp at hc
    subst hc
    exact .inr (.inl ⟨x, hxc, by rw [hn]; simp⟩)
theorem Rest.push (h : Rest db cl wt T nx br) {op : List Int} (h2 : 2 ≤ op.length) (hn : op.Nodup) (hl : ∀ l, l ∈ op → isLitB l = true) (h0 : ∀ l, l ∈ op → valT T l = 0) (hs : ∀ l, l ∈ op → l ∈ c0) (hc : ∀ l, l ∈ c0 → l ∈ op ∨ -l ∈ T) :
    Rest (db ++ [c0]) (cl ++ [op]) (upW (upW wt (w0 op) (wt (w0 op) ++ [cl.length])) (w1 op) (upW wt (w0 op) (wt (w0 op) ++ [cl.length]) (w1 op) ++ [cl.length])) T nx br := by
  have hsub : ∀ c, c ∈ db → c ∈ db ++ [c0] := fun c hc => List.mem_append_left _ hc
  have hder : ∀ l, l ∈ T → Der (db ++ [c0]) [] l := fun l hl => (h.der l hl).mono hsub (fun _ h => h)
  refine ⟨(h.stc.more hsub (by have := h.stc.few; simp; omega)).push h2 hn hl (by simp) hs (fun l hl => (hc l hl).imp id (fun h => hder _ h)) (by have := h.stc.few; simp; omega), hder, fun hb => (h.bad hb).mono hsub (fun _ h => h), fun hb => ?_, h.le⟩
  obtain ⟨e1, e2, e3⟩ := h.ok hb
  refine ⟨e1, fun c hc => ?_, fun c hc => ?_⟩
  · rcases List.mem_append.1 hc with hc | hc
    · exact e2 c hc
    · simp at hc
      subst hc
      have a0 := (valT_zero.1 (h0 _ (w0_mem h2))).2
      have a1 := (valT_zero.1 (h0 _ (w1_mem h2))).2
      exact ⟨fun hm => absurd hm a0, fun hm => absurd hm a1⟩
  · rcases List.mem_append.1 hc with hc | hc
    · rcases e3 c hc with h1 | h1 | ⟨d, hd, h1⟩
      · exact .inl h1
      · exact .inr (.inl h1)
      · exact .inr (.inr ⟨d, List.mem_append_left _ hd, h1⟩)
    · simp at hc
      subst hc
      exact .inr (.inr ⟨op, by simp, hs⟩)
end
end Go.Proofs.Ytgdncnalahdjeaa
