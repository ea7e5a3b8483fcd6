/-
  Operations, fifth part: rows that grow, rows that are made, texts.
-/
import Derived.Test.YtjhaccpljgdlpaaGreatAb7
import Derived.Deep.Upon
namespace Go.Proofs.YtjhaccpljgdlpaaGreat.Ab
open Go
section
variable {P : Program} {ρ : Rn} {A : AW} {w : World}

/-- one block's memory goes on under another name -/
theorem Sim.move (hs : Sim P ρ A.live w) {n : Nat} {l l' : Loc} {a0 ao : AO} {o' : Obj} {w' : World} (h : A.live n = some a0) (hl : ρ n = some l) (hf : ρ A.next = none) (hb : l'.blk = l.blk)
    (hw : w'.heap[l.blk]? = some o') (ho : OR P (upd ρ A.next l') l' ao o') (hk : ∀ b, b ≠ l.blk → w'.heap[b]? = w.heap[b]?) (hz : w'.heap.size = w.heap.size) (h1 : w'.os = w.os) (h2 : w'.tape = w.tape) (h3 : w'.output = w.output) :
    Sim P (upd ρ A.next l') ((A.set n .dead).new ao).live w' ∧ Ext ρ w A (upd ρ A.next l') w' ((A.set n .dead).new ao) := by
  have hsub := upd_sub (l := l') hf
  have hnx : (A.set n .dead).next = A.next := rfl
  have hlive : ∀ m am, ((A.set n .dead).new ao).live m = some am → (m = A.next ∧ am = ao) ∨ (m ≠ A.next ∧ m ≠ n ∧ A.live m = some am) := by
    intro m am hm
    rw [live_new, hnx] at hm
    by_cases e : m = A.next
    · rw [if_pos e] at hm
      exact .inl ⟨e, by cases ao <;> simp at hm <;> exact hm.symm⟩
    · rw [if_neg e, live_set] at hm
      by_cases e2 : m = n
      · rw [if_pos e2] at hm; cases hm
      · rw [if_neg e2] at hm; exact .inr ⟨e, e2, hm⟩
  have hoff : ∀ m am lm, A.live m = some am → m ≠ n → ρ m = some lm → lm.blk ≠ l.blk := fun m am lm hm hn e e2 => hn (hs.inj m n am a0 lm l hm h e hl e2)
  constructor
  · constructor
    · intro m am hm
      rcases hlive m am hm with ⟨rfl, rfl⟩ | ⟨e, e2, hm'⟩
      · exact ⟨l', o', upd_at, by rw [hb]; exact hw, ho⟩
      · obtain ⟨lm, om, x1, x2, x3⟩ := hs.obj m am hm'
        exact ⟨lm, om, hsub _ _ x1, by rw [hk _ (hoff m am lm hm' e2 x1)]; exact x2, x3.mono hsub⟩
    · intro m k am ak lm lk hm hk' x1 x2 he
      rcases hlive m am hm with ⟨rfl, rfl⟩ | ⟨e, e2, hm'⟩ <;> rcases hlive k ak hk' with ⟨rfl, rfl⟩ | ⟨f, f2, hk''⟩
      · rfl
      · rw [upd_at] at x1; cases x1
        simp only [upd, if_neg f] at x2
        exact absurd (he.symm.trans hb) (hoff k ak lk hk'' f2 x2)
      · rw [upd_at] at x2; cases x2
        simp only [upd, if_neg e] at x1
        exact absurd (he.trans hb) (hoff m am lm hm' e2 x1)
      · simp only [upd, if_neg e] at x1
        simp only [upd, if_neg f] at x2
        exact hs.inj m k am ak lm lk hm' hk'' x1 x2 he
  · constructor
    · exact hsub
    · intro m e e2
      by_cases e3 : m = A.next
      · subst e3; exact ⟨Nat.le_refl _, by simp [AW.new, AW.set]⟩
      · simp only [upd, if_neg e3] at e2; exact absurd e e2
    · simp [AW.new, AW.set]
    · intro m am hm
      rcases hlive m am hm with ⟨rfl, rfl⟩ | ⟨e, e2, hm'⟩
      · exact .inr ⟨Nat.le_refl _, by simp [AW.new, AW.set]⟩
      · exact .inl ⟨_, hm'⟩
    · intro m am lm hm e1
      rcases hlive m am hm with ⟨rfl, rfl⟩ | ⟨e, e2, hm'⟩
      · rw [upd_at] at e1; cases e1
        exact .inr ⟨n, a0, l, h, hl, hb.symm⟩
      · simp only [upd, if_neg e] at e1
        exact .inr ⟨m, am, lm, hm', e1, rfl⟩
    · intro b hb' hn
      exact hk b fun e => hn n a0 l h hl e.symm
    · omega
    · exact h1
    · exact h2
    · exact h3

/-- a block forgotten, a new one made -/
theorem Sim.killPush (hs : Sim P ρ A.live w) {n : Nat} {l : Loc} {a0 ao : AO} {o : Obj} {w' : World} {room : Nat} (h : A.live n = some a0) (hl : ρ n = some l) (hp : Pushed w o w') (hf : ρ A.next = none)
    (ho : OR P (upd ρ A.next ⟨w.heap.size, 0, room⟩) ⟨w.heap.size, 0, room⟩ ao o) :
    Sim P (upd ρ A.next ⟨w.heap.size, 0, room⟩) ((A.set n .dead).new ao).live w' ∧ Ext ρ w A (upd ρ A.next ⟨w.heap.size, 0, room⟩) w' ((A.set n .dead).new ao) := by
  have h1 := hs.kill (w' := w) h hl (fun _ _ => rfl)
  have h2 : Ext ρ w A ρ w (A.set n .dead) := Ext.setAt h hl (fun _ _ => rfl) rfl rfl rfl rfl
  obtain ⟨h3, h4⟩ := h1.push (A := A.set n .dead) hp hf ho
  exact ⟨h3, h2.trans h4⟩

theorem bytes_flats (l : List UInt8) : VRs ρ (l.map fun b => .flat (.int .u8 b.toNat)) (l.map fun b => Value.int .u8 b.toNat) := by
  induction l with
  | nil => exact .nil
  | cons a l ih => exact .cons (.flat _) ih

theorem src_sound (hs : Sim P ρ A.live w) {size : Nat} {tx : TypeId} {x : AV} {n : Nat} {new : List AV} {v : Value} (h : srcA P A size tx x = some (n, new)) (hv : VR ρ x v) :
    ∃ news, Src P size tx v n news w ∧ VRs ρ new news := by
  unfold srcA at h
  split at h
  · rename_i hu
    cases h; cases hv
    exact ⟨[], Src.ofNil w hu _, .nil⟩
  · rename_i hu
    cases h
    cases hv with
    | sle a b hl => exact ⟨[], Src.ofSlice w hu _ 0 _ [] (by simp) (fun j u e => by simp at e) (fun u e => by cases e), .nil⟩
  · rename_i e b o m _ _ hu
    cases hv with
    | sl _ _ _ _ hl =>
    split at h
    · rename_i xs t hc
      split at h
      · rename_i r hcut
        split at h
        · rename_i hone
          cases h
          obtain ⟨vs, h1, h2, h3⟩ := hs.row (cellsOf_live hc) hl hcut
          exact ⟨vs, Src.ofSlice w hu _ n _ vs h2 h3 (h1.one hone), h1⟩
        · cases h
      · cases h
    · cases h
  · rename_i s hu
    split at h
    · rename_i hsz
      cases h; cases hv
      subst hsz
      exact ⟨byteCells s, Src.ofString w hu s, bytes_flats _⟩
    · cases h
  · cases h

theorem zeroCells_len (z : Array Value) (n : Nat) : (Builtin.zeroCells z n).toList.length = n * z.size := by simp [Builtin.zeroCells]

theorem append_sound (hs : Sim P ρ A.live w) {ats : Array TypeId} {ty : TypeId} {s x : AV} {r : AR} {sv xv : Value} (h : appendA P A ats s x = some r) (hsv : VR ρ s sv) (hxv : VR ρ x xv) :
    ArOk P ρ A w ((do pure (.value (← Builtin.append_ ats ty #[sv, xv])) : Sem Next).run P w) r := by
  have give : ∀ {v : Value} {w' : World}, (Builtin.append_ ats ty #[sv, xv]).run P w = .ok v w' → Gives ((do pure (.value (← Builtin.append_ ats ty #[sv, xv])) : Sem Next).run P w) v w' := by
    intro v w' e
    left
    rw [Sem.run_bind, e]; rfl
  unfold appendA at h
  split at h
  · rename_i t tx hats
    have : ats = #[t, tx] := by rw [← hats]
    subst this
    split at h
    · rename_i e ht
      split at h
      · rename_i i hi
        split at h
        · rename_i z n new hz hsrc
          split at h
          · cases h
          · rename_i hcond
            simp only [Bool.or_eq_true, decide_eq_true_eq, not_or] at hcond
            obtain ⟨⟨⟨⟨c1, c2⟩, c3⟩, c4⟩, c5⟩ := hcond
            have c5' : z.cells.size = i.size := by simpa using c5
            obtain ⟨news, hSrc, hnew⟩ := src_sound hs hsrc hxv
            have hnl := hSrc.newsLen
            have hcell : P.cellsOf e = i.size := by simp [Program.cellsOf, hi]
            have nothing : n = 0 → ∀ base len cap, sv = .slice base len cap → len ≤ cap → (Builtin.append_ #[t, tx] ty #[sv, xv]).run P w = .ok sv w := by
              rintro rfl base len cap rfl hle
              have : news = [] := List.eq_nil_of_length_eq_zero (by rw [hnl]; simp)
              subst this
              exact run_append_nothing w t tx ty e i ht hi base len cap hle xv hSrc
            -- a new row
            have grow : ∀ (base : Option Addr) (len cap : Nat) (olds : List Value) (old : List AV), sv = .slice base len cap → len ≤ 1000000 → VRs ρ old olds → olds.length = len * i.size →
                (Builtin.firstCells i.size len (.slice base len cap)).run P w.drew = .ok olds.toArray w.drew → cap < len + n →
                ∃ room obj w', (Builtin.append_ #[t, tx] ty #[sv, xv]).run P w = .ok (.slice (some ⟨w.heap.size, 0, none⟩) (len + n) (len + n + room)) w' ∧ Pushed w obj w' ∧
                  ∀ ρ', Sub ρ ρ' → OR P ρ' ⟨w.heap.size, 0, room⟩ (.cells (old ++ new) e) obj := by
              rintro base len cap olds old rfl hlen hold hol hfc hg
              have hprod : (len + n) * i.bytes ≤ 140737488355328 := by
                have := Nat.mul_le_mul (show len + n ≤ 2000000 by omega) (show i.bytes ≤ 1000000 by omega)
                omega
              have hr := run_append_grow_src (P := P) w t tx ty e i z ht hi hz base len cap olds hfc xv n news hSrc hg (by omega) (growslice_fits hg hprod)
              have hge := grownCap_ge w (len + n) cap e
              refine ⟨grownCap w (len + n) cap e - (len + n), .cells ((olds ++ news).toArray ++ Builtin.zeroCells z.cells (grownCap w (len + n) cap e - (len + n))) e, w.drew.alloc (.cells ((olds ++ news).toArray ++ Builtin.zeroCells z.cells (grownCap w (len + n) cap e - (len + n))) e), ?_, ⟨rfl, rfl, rfl, rfl⟩, fun ρ' hsub => ?_⟩
              · rw [hr]
                have : len + n + (grownCap w (len + n) cap e - (len + n)) = grownCap w (len + n) cap e := by omega
                rw [this]
              · have := newCells (P := P) (elem := e) (hold.append hnew) (grownCap w (len + n) cap e - (len + n)) (Builtin.zeroCells z.cells (grownCap w (len + n) cap e - (len + n))).toList
                  (by rw [zeroCells_len, c5', hcell]) hsub (l := ⟨w.heap.size, 0, grownCap w (len + n) cap e - (len + n)⟩) rfl rfl
                have heq : (olds ++ news).toArray ++ Builtin.zeroCells z.cells (grownCap w (len + n) cap e - (len + n)) = ((olds ++ news) ++ (Builtin.zeroCells z.cells (grownCap w (len + n) cap e - (len + n))).toList).toArray := by
                  apply Array.ext'
                  simp
                rw [heq]
                exact this
            split at h
            · -- none there
              cases hsv
              split at h
              · rename_i hn
                cases h
                exact ⟨_, give (nothing hn none 0 0 rfl (Nat.le_refl _)), .flat _⟩
              · rename_i hn
                cases h
                obtain ⟨room, obj, w', g1, g2, g3⟩ := grow none 0 0 [] [] rfl (by omega) .nil (by simp) (run_firstCells_none w.drew i.size 0 0 0) (by omega)
                simp only [Nat.zero_add, List.nil_append] at g1 g3
                refine ⟨_, obj, w', room, give g1, g2, fun ρ' hsub hat => ⟨?_, g3 ρ' hsub⟩⟩
                exact VR.sl (l := ⟨w.heap.size, 0, room⟩) 0 n n true hat
            · -- an empty one at an end
              rename_i b o1 o2
              cases hsv with
              | sle _ _ hl =>
              rename_i l
              split at h
              · rename_i hn
                cases h
                exact ⟨_, give (nothing hn _ 0 _ rfl (by omega)), .sle _ _ hl⟩
              · rename_i hn
                split at h
                · rename_i xs e' hc
                  split at h
                  · rename_i hcc
                    simp only [Bool.and_eq_true, decide_eq_true_eq] at hcc
                    obtain ⟨rfl, hlen⟩ := hcc
                    cases h
                    intro hfree
                    have hf : ρ A.next = none := hfree _ (Nat.le_refl _) (by simp [AW.new, AW.set])
                    obtain ⟨C, fz, b1, b2, b3, b4⟩ := hs.block (cellsOf_live hc) hl
                    by_cases hroom : n ≤ l.room
                    · -- in place
                      have hr0 : l.room ≠ 0 := by omega
                      have hmul : n * i.size ≤ l.room * i.size := Nat.mul_le_mul_right _ hroom
                      have hin : ∀ j, j < news.length → l.base + o2 + j < C.size := fun j hj => by rw [b2, hcell]; omega
                      have hr := run_append_room_src (P := P) w t tx ty e' i ht hi l.blk (l.base + o2) 0 l.room xv n news hSrc (by omega)
                        (fun j hj => by rw [cell_of_block b1]; simp only [Nat.zero_mul, Nat.add_zero]; rw [Array.getElem?_eq_getElem (hin j hj)]; rfl)
                        (fun j hj => frozen_of_block b1 b3 (by simpa using hin j hj))
                      simp only [Nat.zero_mul, Nat.add_zero, Nat.zero_add] at hr
                      obtain ⟨z1, z2, z3, z4⟩ := setCells_rest news w l.blk (l.base + o2)
                      obtain ⟨m1, m2⟩ := hs.move (l' := ⟨l.blk, l.base + o2, l.room - n⟩) (ao := .cells new e') (cellsOf_live hc) hl hf rfl (setCells_block news w l.blk (l.base + o2) C e' fz b1)
                        ⟨_, fz, rfl, by
                          simp only
                          rw [spl_size, b2, hcell, ← hnew.length, hnl, Nat.sub_mul]; omega, by rw [spl_size]; exact b3, fun j a ej => by
                          obtain ⟨v, v1, v2⟩ := hnew.get ej
                          have hj : j < news.length := (List.getElem?_eq_some_iff.1 v1).1
                          refine ⟨v, ?_, v2.mono (upd_sub hf)⟩
                          simp only
                          rw [spl_get _ _ _ _ (by rw [b2, hcell]; omega), if_pos (by omega), ← v1]
                          congr 1; omega⟩
                        (fun b hb => setCells_other news w _ _ b hb) z1 z2 z3 z4
                      refine ⟨_, _, _, give (by simpa [hr0] using hr), ?_, m1, m2⟩
                      have := VR.sl (ρ := upd ρ A.next ⟨l.blk, l.base + o2, l.room - n⟩) (l := ⟨l.blk, l.base + o2, l.room - n⟩) 0 n n true upd_at
                      have e3 : n + (l.room - n) = l.room := by omega
                      simpa [e3] using this
                    · obtain ⟨room, obj, w', g1, g2, g3⟩ := grow _ 0 l.room [] [] rfl (by omega) .nil (by simp) (by
                          have := run_firstCells_some (P := P) w.drew i.size 0 ⟨l.blk, l.base + (if l.room = 0 then o1 else o2), none⟩ 0 l.room [] (by simp) (fun j v e => by simp at e)
                          simpa using this) (by omega)
                      simp only [Nat.zero_add, List.nil_append] at g1 g3
                      obtain ⟨m1, m2⟩ := hs.killPush (cellsOf_live hc) hl g2 hf (g3 _ (upd_sub hf))
                      exact ⟨_, _, _, give g1, VR.sl (l := ⟨w.heap.size, 0, room⟩) 0 n n true upd_at, m1, m2⟩
                  · cases h
                · cases h
            · -- a row
              rename_i b o len cap opn
              cases hsv with
              | sl _ _ _ _ hl =>
              rename_i l
              split at h
              · cases h
              · rename_i hlc
                simp only [Bool.or_eq_true, decide_eq_true_eq, not_or] at hlc
                obtain ⟨⟨lc1, lc2⟩, lc3⟩ := hlc
                split at h
                · rename_i xs e' hc
                  split at h
                  · rename_i old hcut
                    split at h
                    · cases h
                    · rename_i hee
                      have hee' : e' = e := by simpa using hee
                      subst hee'
                      split at h
                      · rename_i hn
                        cases h
                        exact ⟨_, give (nothing hn _ len _ rfl (by omega)), .sl _ _ _ _ hl⟩
                      · rename_i hn
                        obtain ⟨C, fz, b1, b2, b3, b4⟩ := hs.block (cellsOf_live hc) hl
                        obtain ⟨olds, o1, o2, o3⟩ := hs.row (cellsOf_live hc) hl hcut
                        have hfc : ∀ cap', (Builtin.firstCells i.size len (.slice (some ⟨l.blk, l.base + o, none⟩) len cap')).run P w.drew = .ok olds.toArray w.drew := fun cap' =>
                          run_firstCells_some (P := P) w.drew i.size len _ len cap' olds o2 (fun j v e => by have := o3 j v e; simpa using this)
                        obtain ⟨q1, q2, q3⟩ := cut_spec hcut
                        split at h
                        · split at h
                          · rename_i hroom
                            split at h
                            · rename_i l' hput
                              cases h
                              intro _
                              obtain ⟨p1, p2, p3, p4⟩ := hs.putCells (cellsOf_live hc) hl hput hnew
                              have hr := run_append_room_src (P := P) w t tx ty e' i ht hi l.blk (l.base + o) len (cap + l.room) xv n news hSrc (by omega)
                                (fun j hj => by have := p3 j hj; rwa [show l.base + (o + len * i.size) + j = l.base + o + len * i.size + j by omega] at this)
                                (fun j hj => by have := p4 j hj; rwa [show l.base + (o + len * i.size) + j = l.base + o + len * i.size + j by omega] at this)
                              rw [show l.base + o + len * i.size = l.base + (o + len * i.size) by omega] at hr
                              exact ⟨_, _, _, give (by simpa using hr), by have := VR.sl (ρ := ρ) o (len + n) cap true hl; simpa using this, p1, p2⟩
                            · cases h
                          split at h
                          · rename_i hnroom hend
                            cases h
                            intro hfree
                            have hf : ρ A.next = none := hfree _ (Nat.le_refl _) (by simp [AW.new, AW.set])
                            by_cases hroom : len + n ≤ cap + l.room
                            · have hmul : (len + n) * i.size ≤ (cap + l.room) * i.size := Nat.mul_le_mul_right _ hroom
                              have e1 : (len + n) * i.size = len * i.size + n * i.size := Nat.add_mul _ _ _
                              have e2 : (cap + l.room) * i.size = cap * i.size + l.room * i.size := Nat.add_mul _ _ _
                              have hin : ∀ j, j < news.length → l.base + o + len * i.size + j < C.size := fun j hj => by rw [b2, hcell]; omega
                              have hr := run_append_room_src (P := P) w t tx ty e' i ht hi l.blk (l.base + o) len (cap + l.room) xv n news hSrc hroom
                                (fun j hj => by rw [cell_of_block b1, Array.getElem?_eq_getElem (hin j hj)]; rfl)
                                (fun j hj => frozen_of_block b1 b3 (hin j hj))
                              obtain ⟨z1, z2, z3, z4⟩ := setCells_rest news w l.blk (l.base + o + len * i.size)
                              have hsz : C.size = l.base + o + (len + n) * i.size + (cap + l.room - (len + n)) * i.size := by rw [b2, hcell, hend, Nat.sub_mul]; omega
                              obtain ⟨m1, m2⟩ := hs.move (l' := ⟨l.blk, l.base + o, cap + l.room - (len + n)⟩) (ao := .cells (old ++ new) e') (cellsOf_live hc) hl hf rfl (setCells_block news w l.blk _ C e' fz b1)
                                ⟨_, fz, rfl, by
                                  simp only
                                  rw [spl_size, hsz, hcell, List.length_append, q1, ← hnew.length, hnl]; omega, by rw [spl_size]; exact b3, fun j a ej => by
                                  simp only
                                  rw [spl_get _ _ _ _ (by omega)]
                                  by_cases hj : j < old.length
                                  · rw [List.getElem?_append_left hj] at ej
                                    rw [if_neg (by omega)]
                                    obtain ⟨v, v1, v2⟩ := b4 _ _ (q3 j a ej)
                                    exact ⟨v, by rw [← v1]; congr 1; omega, v2.mono (upd_sub hf)⟩
                                  · rw [List.getElem?_append_right (by omega)] at ej
                                    obtain ⟨v, v1, v2⟩ := hnew.get ej
                                    have hj2 : j - old.length < news.length := (List.getElem?_eq_some_iff.1 v1).1
                                    rw [if_pos (by omega)]
                                    exact ⟨v, by rw [← v1]; congr 1; omega, v2.mono (upd_sub hf)⟩⟩
                                (fun b hb => setCells_other news w _ _ b hb) z1 z2 z3 z4
                              refine ⟨_, _, _, give (by simpa using hr), ?_, m1, m2⟩
                              have := VR.sl (ρ := upd ρ A.next ⟨l.blk, l.base + o, cap + l.room - (len + n)⟩) (l := ⟨l.blk, l.base + o, cap + l.room - (len + n)⟩) 0 (len + n) (len + n) true upd_at
                              have e3 : len + n + (cap + l.room - (len + n)) = cap + l.room := by omega
                              simpa [e3] using this
                            · obtain ⟨room, obj, w', g1, g2, g3⟩ := grow _ len _ olds old rfl (by omega) o1 o2 (hfc _) (by simp only [cond_true]; omega)
                              obtain ⟨m1, m2⟩ := hs.killPush (cellsOf_live hc) hl g2 hf (g3 _ (upd_sub hf))
                              exact ⟨_, _, _, give g1, VR.sl (l := ⟨w.heap.size, 0, room⟩) 0 (len + n) (len + n) true upd_at, m1, m2⟩
                          · cases h
                        · split at h
                          · rename_i hroom
                            split at h
                            · rename_i l' hput
                              cases h
                              intro _
                              obtain ⟨p1, p2, p3, p4⟩ := hs.putCells (cellsOf_live hc) hl hput hnew
                              have hr := run_append_room_src (P := P) w t tx ty e' i ht hi l.blk (l.base + o) len cap xv n news hSrc hroom
                                (fun j hj => by have := p3 j hj; rwa [show l.base + (o + len * i.size) + j = l.base + o + len * i.size + j by omega] at this)
                                (fun j hj => by have := p4 j hj; rwa [show l.base + (o + len * i.size) + j = l.base + o + len * i.size + j by omega] at this)
                              rw [show l.base + o + len * i.size = l.base + (o + len * i.size) by omega] at hr
                              exact ⟨_, _, _, give (by simpa using hr), by have := VR.sl (ρ := ρ) o (len + n) cap false hl; simpa using this, p1, p2⟩
                            · cases h
                          · rename_i hroom
                            cases h
                            obtain ⟨room, obj, w', g1, g2, g3⟩ := grow _ len _ olds old rfl (by omega) o1 o2 (hfc _) (by simp only [cond_false]; omega)
                            exact ⟨_, obj, w', room, give g1, g2, fun ρ' hsub hat => ⟨VR.sl (l := ⟨w.heap.size, 0, room⟩) 0 (len + n) (len + n) true hat, g3 ρ' hsub⟩⟩
                  · cases h
                · cases h
            · cases h
        · cases h
      · cases h
    · cases h
  · cases h
end
end Go.Proofs.YtjhaccpljgdlpaaGreat.Ab
