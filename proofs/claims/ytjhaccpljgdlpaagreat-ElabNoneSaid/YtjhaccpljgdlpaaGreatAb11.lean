/-
  Goings through maps, calls; all operations together.
-/
import Derived.Test.YtjhaccpljgdlpaaGreatAb10
namespace Go.Proofs.YtjhaccpljgdlpaaGreat.Ab
open Go
section
variable {P : Program} {ρ : Rn} {A : AW} {w : World}

theorem Sim.iterAt (hs : Sim P ρ A.live w) {n : Nat} {l : Loc} {ao : AO} (h : A.get n = some ao) (hd : ao ≠ .dead) (hl : ρ n = some l) : ∃ o, w.heap[l.blk]? = some o ∧ OR P ρ l ao o := by
  obtain ⟨l', o, h1, h2, h3⟩ := hs.obj n _ (live_of_get h hd)
  rw [hl] at h1; cases h1
  exact ⟨o, h2, h3⟩

theorem ERs.filter {l : List (AV × AV × Nat)} {cs : List MapEntry} (h : ERs ρ l cs) (p : Nat → Bool) : ERs ρ (l.filter fun x => p x.2.2) (cs.filter fun c => p c.born) := by
  induction h with
  | nil => exact .nil
  | cons a b c _ ih =>
    simp only [List.filter_cons, c]
    split
    · exact .cons a b c ih
    · exact ih

theorem ERs.all {l : List (AV × AV × Nat)} {cs : List MapEntry} (h : ERs ρ l cs) (p : Nat → Bool) : cs.all (fun c => p c.born) = l.all fun x => p x.2.2 := by
  induction h with
  | nil => rfl
  | cons a b c _ ih => simp only [List.all_cons, c, ih]

theorem ERs.find {l : List (AV × AV × Nat)} {cs : List MapEntry} (h : ERs ρ l cs) (p : Nat → Bool) {e : AV × AV × Nat} (he : l.find? (fun x => p x.2.2) = some e) : ∃ c, cs.find? (fun c => p c.born) = some c ∧ VR ρ e.1 c.key ∧ VR ρ e.2.1 c.val := by
  induction h with
  | nil => simp at he
  | cons a b c _ ih =>
    simp only [List.find?_cons, c] at he ⊢
    split at he
    · rename_i hp
      cases he
      exact ⟨_, rfl, a, b⟩
    · exact ih he

theorem setObj_iter {r : Nat} {o o' : Obj} (h : w.heap[r]? = some o) (hn : ∀ c t f, o ≠ .cells c t f) :
    ∃ w', (setObj r o').run P w = .ok () w' ∧ w'.heap[r]? = some o' ∧ (∀ b, b ≠ r → w'.heap[b]? = w.heap[b]?) ∧ w'.heap.size = w.heap.size ∧ w'.os = w.os ∧ w'.tape = w.tape ∧ w'.output = w.output := by
  refine ⟨{ w with heap := w.heap.setIfInBounds r o' }, ?_, ?_, ?_, by simp, rfl, rfl, rfl⟩
  · cases o with
    | cells c t f => exact absurd rfl (hn c t f)
    | _ => simp [setObj, Sem.run, h]
  · have := (Array.getElem?_eq_some_iff.1 h).1
    simp [this]
  · intro b hb
    simp [Ne.symm hb]

theorem run_get {r : Nat} {o : Obj} (h : w.heap[r]? = some o) (hn : ∀ c t f, o ≠ .cells c t f) : (getObj r).run P w = .ok o w := by
  cases o with
  | cells c t f => exact absurd rfl (hn c t f)
  | _ => simp [getObj, Sem.run, h]

theorem world_drawn (w : World) : ∀ b : Nat, ({ w with drawn := w.drawn + 1 } : World).heap[b]? = w.heap[b]? := fun _ => rfl

theorem run_next_map {r m since last clock : Nat} {sp : Option Nat} {cs : List MapEntry} {seen : List Nat} {ty : TypeId} (h1 : w.heap[r]? = some (.mapIter (some m) since seen.toArray last)) (h2 : w.heap[m]? = some (.map cs.toArray clock))
    (hok : (!seen.isEmpty && !cs.isEmpty && cs.all fun c => decide (c.born ≥ last)) = false) {L : List MapEntry} (hL : cs.filter (fun c => !seen.contains c.born) = L) (hall : ∀ c ∈ L, c.born < since) :
    (L = [] → (Instr.next (.pointer (some ⟨r, 0, sp⟩)) false ty).run P w = .ok (.tuple #[.bool false]) w) ∧
    (L ≠ [] → ∃ (i : Nat) (c : MapEntry) (wd : World), L[i]? = some c ∧ (wd = w ∨ wd = { w with drawn := w.drawn + 1 }) ∧
      (Instr.next (.pointer (some ⟨r, 0, sp⟩)) false ty).run P w = ((setObj r (.mapIter (some m) since (seen ++ [c.born]).toArray clock)).run P wd).andThen fun _ w' => .ok (.tuple #[.bool true, c.key, c.val]) w') := by
  have g1 := run_get (P := P) h1 (by simp)
  have g2 := run_get (P := P) h2 (by simp)
  have e1 : (cs.toArray.filter fun e => !seen.toArray.contains e.born) = L.toArray := by
    rw [← hL]; simp
  have e2 : (L.toArray.filter fun e => decide (e.born < since)) = L.toArray := by
    simp
    intro c hc; exact hall c hc
  have e3 : (L.toArray.filter fun e => decide (e.born ≥ since)) = #[] := by
    simp
    intro c hc; have := hall c hc; omega
  have hok' : (!seen.toArray.isEmpty && !cs.toArray.isEmpty && cs.toArray.all fun c => decide (c.born ≥ last)) = false := by
    simpa using hok
  constructor
  · rintro rfl
    simp only [Instr.next, Sem.run_bind, g1, Result.andThen_ok, g2, hok', e1, e2, e3]
    simp [Question.forced]
  · intro hne
    have hem : L.toArray.isEmpty = false := by cases L <;> simp at hne ⊢
    have hc : ((if L.toArray.isEmpty then #[none] else #[]) ++ (L.toArray ++ #[]).map some : Array (Option MapEntry)) = (L.map some).toArray := by
      simp [hem]
    have hpos : 0 < L.length := by cases L with | nil => exact absurd rfl hne | cons => simp
    by_cases hone : L.length ≤ 1
    · obtain ⟨c, h0⟩ : ∃ c, L[0]? = some c := ⟨L[0], List.getElem?_eq_getElem hpos⟩
      refine ⟨0, c, w, h0, .inl rfl, ?_⟩
      simp only [Instr.next, Sem.run_bind, g1, Result.andThen_ok, g2, hok', e1, e2, e3, hc]
      simp [Question.forced, hone, h0]
    · have hlt : (w.tape w.drawn (.mapNext L.length)) % L.length < L.length := Nat.mod_lt _ hpos
      obtain ⟨c, h0⟩ : ∃ c, L[(w.tape w.drawn (.mapNext L.length)) % L.length]? = some c := ⟨_, List.getElem?_eq_getElem hlt⟩
      refine ⟨(w.tape w.drawn (.mapNext L.length)) % L.length, c, { w with drawn := w.drawn + 1 }, h0, .inr rfl, ?_⟩
      simp only [Instr.next, Sem.run_bind, g1, Result.andThen_ok, g2, hok', e1, e2, e3, hc]
      simp [Question.forced, hone, Question.cut, h0]

theorem sameNats_spec : ∀ {a b : List Nat}, sameNats a b = true → a = b
  | [], [], _ => rfl
  | [], _ :: _, h | _ :: _, [], h => by simp [sameNats] at h
  | a :: l, b :: m, h => by
    simp only [sameNats, Bool.and_eq_true] at h
    rw [Nat.eq_of_beq_eq_true h.1, sameNats_spec h.2]

theorem rising_spec : ∀ {l : List Nat}, rising l = true → l.Pairwise (· < ·)
  | [], _ => .nil
  | [a], _ => by simp
  | a :: b :: l, h => by
    simp only [rising, Bool.and_eq_true] at h
    have h1 : a < b := by simpa [Nat.blt_eq] using h.1
    have h2 := rising_spec h.2
    rw [List.pairwise_cons]
    refine ⟨fun c hc => ?_, h2⟩
    rcases List.mem_cons.1 hc with rfl | hc
    · exact h1
    · exact Nat.lt_trans h1 ((List.pairwise_cons.1 h2).1 c hc)

theorem rising_inj {l : List Nat} (h : rising l = true) {i j : Nat} (hi : i < l.length) (hj : j < l.length) (e : l.getD i 0 = l.getD j 0) : i = j := by
  have hp := List.pairwise_iff_getElem.1 (rising_spec h)
  simp only [List.getD_eq_getElem?_getD, List.getElem?_eq_getElem hi, List.getElem?_eq_getElem hj, Option.getD_some] at e
  rcases Nat.lt_trichotomy i j with k | k | k
  · have := hp i j hi hj k; omega
  · exact k
  · have := hp j i hj hi k; omega

theorem nodup_le : ∀ (l m : List Nat), l.Nodup → (∀ x ∈ l, x ∈ m) → l.length ≤ m.length
  | [], _, _, _ => Nat.zero_le _
  | a :: l, m, h, k => by
    have ha := k a (by simp)
    have hn := List.nodup_cons.1 h
    have := nodup_le l (m.erase a) hn.2 fun x hx => (List.mem_erase_of_ne (by rintro rfl; exact hn.1 hx)).2 (k x (by simp [hx]))
    have h0 : 0 < m.length := List.length_pos_of_mem ha
    rw [List.length_erase_of_mem ha] at this
    simp only [List.length_cons]; omega

theorem nodup_full {l : List Nat} {n : Nat} (h : l.Nodup) (hl : ∀ i ∈ l, i < n) (he : l.length = n) (j : Nat) (hj : j < n) : j ∈ l := by
  apply Classical.byContradiction
  intro hn
  have := nodup_le (j :: l) (List.range n) (List.nodup_cons.2 ⟨hn, h⟩) fun x hx => by
    rcases List.mem_cons.1 hx with rfl | hx
    · simpa using hj
    · simpa using hl x hx
  simp at this; omega

theorem nodup_hole {l : List Nat} {n : Nat} (he : l.length < n) : ∃ j, j < n ∧ j ∉ l := by
  apply Classical.byContradiction
  intro hn
  have hall : ∀ j, j < n → j ∈ l := fun j hj => Classical.byContradiction fun h => hn ⟨j, hj, h⟩
  have := nodup_le (List.range n) l List.nodup_range fun x hx => hall x (by simpa using hx)
  simp at this; omega

theorem Sim.sub {H : Nat → Option AO} {ρ' : Rn} (hs : Sim P ρ H w) (s : Sub ρ ρ') : Sim P ρ' H w where
  obj n ao h := by obtain ⟨l, o, a, b, c⟩ := hs.obj n ao h; exact ⟨l, o, s _ _ a, b, c.mono s⟩
  inj n m a b l l' h1 h2 e1 e2 he := by
    obtain ⟨l1, _, a1, _⟩ := hs.obj n a h1
    obtain ⟨l2, _, a2, _⟩ := hs.obj m b h2
    have := s _ _ a1; rw [e1] at this; cases this
    have := s _ _ a2; rw [e2] at this; cases this
    exact hs.inj n m a b l l' h1 h2 a1 a2 he

/-- a name is told: no block -/
theorem Ext.name (hs : Sim P ρ A.live w) (c : Loc) (hf : ρ A.next = none) : Ext ρ w A (upd ρ A.next c) w { A with next := A.next + 1 } where
  sub := upd_sub hf
  fresh m e k := by
    by_cases h : m = A.next
    · subst h; exact ⟨Nat.le_refl _, Nat.lt_succ_self _⟩
    · simp only [upd, if_neg h] at k; exact absurd e k
  next := Nat.le_succ _
  dom m ao h := .inl ⟨ao, h⟩
  back m ao l h e := by
    refine .inr ⟨m, ao, l, h, ?_, rfl⟩
    obtain ⟨l2, _, e2, _⟩ := hs.obj m ao h
    have := upd_sub (l := c) hf _ _ e2
    rw [e] at this; cases this; exact e2
  keep _ _ _ := rfl
  size := Nat.le_refl _
  os := rfl
  tape := rfl
  output := rfl

theorem pickOf_sound {n i : Nat} {es : List (AV × AV × Nat)} {cs : List MapEntry} {k : AV} {l : List AV} {c : Loc} {ce : MapEntry} (h : pickOf n i es = some (k, l)) (he : ERs ρ es cs) (hn : ρ n = some c) (hc : cs[c.blk]? = some ce) :
    VR ρ k ce.key ∧ ((∃ x, l = [x] ∧ VR ρ x ce.val) ∨ l = []) := by
  have hlt : c.blk < es.length := by have := he.length; have := (List.getElem?_eq_some_iff.1 hc).1; omega
  obtain ⟨c', g1, g2, g3, g4⟩ := he.get (List.getElem?_eq_getElem hlt)
  rw [hc] at g1; cases g1
  unfold pickOf at h
  split at h
  · cases h
    have : c.blk = 0 := by simpa using hlt
    simp [this] at g2 g3
    exact ⟨g2, .inl ⟨_, rfl, g3⟩⟩
  · split at h
    · rename_i hone
      cases h
      have ho := List.all_eq_true.1 hone _ (List.getElem_mem hlt)
      refine ⟨.pick i hn (by rw [List.getElem?_map, List.getElem?_eq_getElem hlt]; rfl) ho g2, ?_⟩
      split
      · rename_i hv
        have hv' := List.all_eq_true.1 hv _ (List.getElem_mem hlt)
        exact .inl ⟨_, rfl, .pick i hn (by rw [List.getElem?_map, List.getElem?_eq_getElem hlt]; rfl) hv' g3⟩
      · exact .inr rfl
    · cases h

theorem ERs.births {l : List (AV × AV × Nat)} {cs : List MapEntry} (h : ERs ρ l cs) : cs.map (·.born) = l.map (·.2.2) := by
  induction h with
  | nil => rfl
  | cons _ _ e _ ih => simp [ih, e]

theorem next_sound (hs : Sim P ρ A.live w) {it : AV} {b : Bool} {ty : TypeId} {r : AR} {v : Value} (h : nextA A it b = some r) (hv : VR ρ it v) : ArOk P ρ A w ((vOf (Instr.next v b ty)).run P w) r := by
  unfold nextA at h
  split at h
  · rename_i n
    cases hv with
    | ptr _ hl =>
    rename_i l
    obtain ⟨lb, lbase, lroom⟩ := l
    split at h
    · -- a text
      rename_i s pos hg
      obtain ⟨o, h1, h2, h3⟩ := hs.iterAt hg (by simp) hl
      simp only at h1 h2
      subst h2
      subst h3
      have hgo := run_get (P := P) h1 (by simp)
      split at h
      · rename_i hp
        cases h
        intro _
        obtain ⟨w', s1, s2, s3, s4, s5, s6, s7⟩ := setObj_iter (P := P) (o' := .stringIter s (pos + (Utf8.decode s pos).2)) h1 (by simp)
        refine ⟨_, w', ρ, gives_v (x := .tuple #[.bool true, goInt pos, .int .i32 (Utf8.decode s pos).1]) ?_, ?_, hs.setAt (live_of_get hg (by simp)) hl s2 ⟨rfl, rfl⟩ s3, Ext.setAt (live_of_get hg (by simp)) hl s3 s4 s5 s6 s7⟩
        · simp [Instr.next, hgo, hp, s1]
        · exact .tup (.cons (.flat _) (.cons (.flat _) (.cons (.flat _) .nil)))
      · rename_i hp
        cases h
        refine ⟨_, gives_v (x := .tuple #[.bool false]) ?_, .tup (.cons (.flat _) .nil)⟩
        simp [Instr.next, hgo, hp]
    · rename_i _ _ _ _ hg
      obtain ⟨o, h1, h2, mr, sn, h3, h4, -⟩ := hs.iterAt hg (by simp) hl
      simp only at h1 h2 h4
      subst h2; subst h3; subst h4
      have hgo := run_get (P := P) h1 (by simp)
      cases h
      refine ⟨_, gives_v (x := .tuple #[.bool false]) ?_, .tup (.cons (.flat _) .nil)⟩
      simp [Instr.next, hgo]
    · rename_i m since seen bs last hg
      obtain ⟨o, h1, h2, mr, sn, h3, ⟨lm, h4, h5⟩, idx, d1, d2, d3, d4⟩ := hs.iterAt hg (by simp) hl
      simp only at h1 h2
      subst h2; subst h3; subst h5
      split at h
      · rename_i es clock hgm
        obtain ⟨cs, m1, m2⟩ := hs.mapAt hgm h4
        split at h
        · cases h
        · rename_i hok
          have hsl : sn.length = seen.length := by rw [d4, List.length_map, d1.length]
          have hokc : (!sn.isEmpty && !cs.isEmpty && cs.all fun c => decide (c.born ≥ last)) = false := by
            have e1 : cs.isEmpty = es.isEmpty := by
              have := m2.length
              cases es <;> cases cs <;> simp at this ⊢
            have e2 : sn.isEmpty = seen.isEmpty := by cases sn <;> cases seen <;> simp at hsl ⊢
            rw [m2.all (fun b => decide (b ≥ last)), e1, e2]
            simpa using hok
          split at h
          · rename_i hb
            simp only [Bool.and_eq_true] at hb
            obtain ⟨⟨hb1, hb2⟩, hb3⟩ := hb
            have hbs : cs.map (·.born) = bs := m2.births.trans (sameNats_spec hb1)
            have hbl : bs.length = cs.length := by rw [← hbs, List.length_map]
            have hborn : ∀ j c, cs[j]? = some c → bs.getD j 0 = c.born := fun j c e => by
              rw [← hbs, List.getD_eq_getElem?_getD, List.getElem?_map, e]; rfl
            have hall : ∀ c ∈ cs, c.born < since := fun c hc => by
              have : c.born ∈ bs := by rw [← hbs]; exact List.mem_map.2 ⟨c, hc, rfl⟩
              simpa using List.all_eq_true.1 hb3 _ this
            generalize hL : cs.filter (fun c => !sn.contains c.born) = L
            have hallL : ∀ c ∈ L, c.born < since := fun c hc => hall c (by rw [← hL] at hc; exact (List.mem_filter.1 hc).1)
            obtain ⟨r1, r2⟩ := run_next_map (P := P) (sp := none) (ty := ty) h1 m1 hokc hL hallL
            split at h
            · rename_i hlen
              cases h
              have hlen' : idx.length = bs.length := by rw [d1.length]; simpa using hlen
              have hnil : L = [] := by
                rw [← hL, List.filter_eq_nil_iff]
                intro c hc
                obtain ⟨j, hj⟩ := List.mem_iff_getElem?.1 hc
                have hjl : j < bs.length := by rw [hbl]; exact (List.getElem?_eq_some_iff.1 hj).1
                have hm := nodup_full d2 d3 hlen' j hjl
                have : c.born ∈ sn := by rw [d4, ← hborn j c hj]; exact List.mem_map.2 ⟨j, hm, rfl⟩
                simp [this]
              exact ⟨_, gives_v (by simpa using r1 hnil), .tup (.cons (.flat _) .nil)⟩
            · split at h
              · rename_i hlt
                split at h
                · rename_i k l hp
                  cases h
                  intro hfree
                  have hf : ρ A.next = none := hfree A.next (Nat.le_refl _) (Nat.lt_succ_self _)
                  have hne : L ≠ [] := by
                    obtain ⟨j, j1, j2⟩ := nodup_hole (l := idx) (n := bs.length) (by rw [d1.length]; exact hlt)
                    intro hnil
                    have hjc : cs[j]? = some (cs[j]'(by omega)) := List.getElem?_eq_getElem (by omega)
                    have hmem : cs[j]'(by omega) ∈ L := by
                      rw [← hL, List.mem_filter]
                      refine ⟨List.getElem_mem _, ?_⟩
                      have : (cs[j]'(by omega)).born ∉ sn := by
                        rw [d4, ← hborn j _ hjc]
                        intro hm
                        obtain ⟨i, i1, i2⟩ := List.mem_map.1 hm
                        exact j2 (rising_inj hb2 (d3 i i1) j1 i2 ▸ i1)
                      simp [this]
                    rw [hnil] at hmem; cases hmem
                  obtain ⟨i, c, wd, i1, i2, i3⟩ := r2 hne
                  have hcL : c ∈ L := List.mem_of_getElem? i1
                  rw [← hL, List.mem_filter] at hcL
                  obtain ⟨hc1, hc2⟩ := hcL
                  obtain ⟨j, hj⟩ := List.mem_iff_getElem?.1 hc1
                  have hjl : j < bs.length := by rw [hbl]; exact (List.getElem?_eq_some_iff.1 hj).1
                  have hjn : j ∉ idx := fun hm => by
                    have : c.born ∈ sn := by rw [d4, ← hborn j c hj]; exact List.mem_map.2 ⟨j, hm, rfl⟩
                    simp [this] at hc2
                  have hsub := upd_sub (l := ⟨j, 0, 0⟩) hf
                  have hs' : Sim P (upd ρ A.next ⟨j, 0, 0⟩) ({ A with next := A.next + 1 } : AW).live w := hs.sub hsub
                  obtain ⟨q1, q2⟩ := pickOf_sound hp (m2.mono hsub) (upd_at (ρ := ρ) (n := A.next) (l := ⟨j, 0, 0⟩)) hj
                  have hwd : wd.heap = w.heap ∧ wd.os = w.os ∧ wd.tape = w.tape ∧ wd.output = w.output := by
                    rcases i2 with rfl | rfl <;> exact ⟨rfl, rfl, rfl, rfl⟩
                  obtain ⟨w', s1, s2, s3, s4, s5, s6, s7⟩ := setObj_iter (P := P) (w := wd) (o' := .mapIter (some lm.blk) since (sn ++ [c.born]).toArray clock) (by rw [hwd.1]; exact h1) (by simp)
                  rw [hwd.1] at s3 s4
                  have hlive : ({ A with next := A.next + 1 } : AW).live n = some (.miter (some m) since seen bs last) := live_of_get hg (by simp)
                  refine ⟨.tuple #[.bool true, c.key, c.val], w', upd ρ A.next ⟨j, 0, 0⟩, gives_v ?_, ?_,
                    hs'.setAt (ao := .miter (some m) since (seen ++ [A.next]) bs clock) hlive (hsub _ _ hl) s2 ⟨rfl, _, sn ++ [c.born], rfl, ⟨lm, hsub _ _ h4, rfl⟩, idx ++ [j], (d1.mono hsub).snoc upd_at, ?_, ?_, ?_⟩ s3,
                    (Ext.name hs ⟨j, 0, 0⟩ hf).trans (Ext.setAt hlive (hsub _ _ hl) s3 s4 (s5.trans hwd.2.1) (s6.trans hwd.2.2.1) (s7.trans hwd.2.2.2))⟩
                  · have := i3
                    rw [s1] at this
                    simpa using this
                  · rcases q2 with ⟨x, rfl, q2⟩ | rfl
                    · exact .tup (.cons (.flat _) (.cons q1 (.cons q2 .nil)))
                    · exact VR.tupx (vs := [.bool true, c.key]) (ws := [c.val]) (.cons (.flat _) (.cons q1 .nil))
                  · rw [List.nodup_append]
                    refine ⟨d2, by simp, ?_⟩
                    intro a ha b hb e
                    simp at hb; subst hb; subst e; exact hjn ha
                  · intro a ha
                    rcases List.mem_append.1 ha with ha | ha
                    · exact d3 a ha
                    · simp at ha; subst ha; exact hjl
                  · rw [List.map_append, ← d4]; simp only [List.map_cons, List.map_nil]; rw [hborn j c hj]
                · cases h
              · cases h
          · cases h
      · cases h
    · cases h
  · cases h

theorem entry_sound (hs : Sim P ρ A.live w) {it x : AV} {v : Value} (h : entryOfA A it = some x) (hv : VR ρ it v) : ∃ y, (Instr.entry v).run P w = .ok y w ∧ VR ρ x y := by
  unfold entryOfA at h
  split at h
  · rename_i n
    cases hv with
    | ptr _ hl =>
    rename_i l
    obtain ⟨lb, lbase, lroom⟩ := l
    split at h
    · rename_i m _ seen bs stepped hg
      obtain ⟨o, h1, h2, mr, sn, h3, ⟨lm, h4, h5⟩, idx, d1, d2, d3, d4⟩ := hs.iterAt hg (by simp) hl
      simp only at h1 h2
      subst h2; subst h3; subst h5
      split at h
      · rename_i es clock b hgm hb
        obtain ⟨cs, m1, m2⟩ := hs.mapAt hgm h4
        split at h
        · rename_i hck
          simp only [Bool.and_eq_true] at hck
          obtain ⟨⟨hck, hb1⟩, hb2⟩ := hck
          have hck := Nat.eq_of_beq_eq_true hck
          subst hck
          split at h
          · rename_i k l hp
            cases h
            have hbs : cs.map (·.born) = bs := m2.births.trans (sameNats_spec hb1)
            have hbl : bs.length = cs.length := by rw [← hbs, List.length_map]
            obtain ⟨c, j, e1, e2, e3⟩ : ∃ (c : Loc) (j : Nat), ρ b = some c ∧ c.blk = j ∧ idx.getLast? = some j := by
              clear d2 d3 d4 hp hg h1
              induction d1 with
              | nil => simp at hb
              | @cons n0 c0 ns is hc hd ih =>
                cases hd with
                | nil => simp at hb; subst hb; exact ⟨_, _, hc, rfl, rfl⟩
                | cons hc2 hd2 =>
                  rw [List.getLast?_cons_cons] at hb
                  obtain ⟨c, j, a1, a2, a3⟩ := ih hb
                  exact ⟨c, j, a1, a2, by rw [List.getLast?_cons_cons]; exact a3⟩
            have hjl : j < bs.length := d3 j (List.mem_of_getLast? e3)
            have hj : cs[j]? = some (cs[j]'(by omega)) := List.getElem?_eq_getElem (by omega)
            generalize cs[j]'(by omega) = ce at hj
            subst e2
            obtain ⟨q1, q2⟩ := pickOf_sound hp m2 e1 hj
            have hborn : ∀ j c, cs[j]? = some c → bs.getD j 0 = c.born := fun j c e => by
              rw [← hbs, List.getD_eq_getElem?_getD, List.getElem?_map, e]; rfl
            have g1 := run_get (P := P) h1 (by simp)
            have g2 := run_get (P := P) m1 (by simp)
            have hb' : sn.toArray.back? = some ce.born := by
              rw [d4, ← hborn _ _ hj]; simp [e3]
            have hfind : cs.find? (fun x => x.born == ce.born) = some ce := by
              rw [List.find?_eq_some_iff_getElem]
              refine ⟨by simp, c.blk, by omega, ?_, ?_⟩
              · exact (List.getElem?_eq_some_iff.1 hj).2
              · intro i hi
                have hic : cs[i]? = some (cs[i]'(by omega)) := List.getElem?_eq_getElem (by omega)
                have n1 := hborn i _ hic
                have n2 := hborn _ _ hj
                have : ¬ (cs[i]'(by omega)).born = ce.born := fun e => by
                  have := rising_inj hb2 (i := i) (j := c.blk) (by omega) hjl (by rw [n1, n2, e])
                  omega
                simpa using this
            refine ⟨.tuple #[ce.key, ce.val], ?_, ?_⟩
            · simp [Instr.entry, g1, g2, hb', hfind]
            · rcases q2 with ⟨x, rfl, q2⟩ | rfl
              · exact .tup (.cons q1 (.cons q2 .nil))
              · exact VR.tupx (vs := [ce.key]) (ws := [ce.val]) (.cons q1 .nil)
          · cases h
        · cases h
      · cases h
    · cases h
  · cases h

theorem range_sound {t : TypeId} {x : AV} {v : Value} (hs : Sim P ρ A.live w) (hv : VR ρ x v) :
    (∀ s, P.underlying t = some .string → x = .flat (.string s) → ∃ w', (Instr.range t v).run P w = .ok (.pointer (some ⟨w.heap.size, 0, none⟩)) w' ∧ Pushed w (.stringIter s 0) w') ∧
    (∀ k e, P.underlying t = some (.map k e) → x = .flat (.map none) → ∃ w', (Instr.range t v).run P w = .ok (.pointer (some ⟨w.heap.size, 0, none⟩)) w' ∧ Pushed w (.mapIter none 0 #[] 0) w') ∧
    (∀ k e m es clock, P.underlying t = some (.map k e) → x = .mp m → A.get m = some (.map es clock) → ∃ w' l, ρ m = some l ∧ (Instr.range t v).run P w = .ok (.pointer (some ⟨w.heap.size, 0, none⟩)) w' ∧ Pushed w (.mapIter (some l.blk) clock #[] clock) w') := by
  refine ⟨?_, ?_, ?_⟩
  · rintro s hu rfl; cases hv
    exact ⟨w.alloc (.stringIter s 0), by simp [Instr.range, run_und hu], ⟨rfl, rfl, rfl, rfl⟩⟩
  · rintro k e hu rfl; cases hv
    exact ⟨w.alloc (.mapIter none 0 #[] 0), by simp [Instr.range, run_und hu], ⟨rfl, rfl, rfl, rfl⟩⟩
  · rintro k e m es clock hu rfl hg
    cases hv with
    | mp hl =>
    rename_i l
    obtain ⟨cs, m1, m2⟩ := hs.mapAt hg hl
    have g2 := run_get (P := P) m1 (by simp)
    exact ⟨w.alloc (.mapIter (some l.blk) clock #[] clock), l, hl, by simp [Instr.range, run_und hu, g2], ⟨rfl, rfl, rfl, rfl⟩⟩
end
end Go.Proofs.YtjhaccpljgdlpaaGreat.Ab
