/- Ab8 Ab9 AbF Ab1 Ab10 Ab11 Ab12 Ab13 -/
import Derived.Test.YtookoagcmejkpaaGreatDoorJ0
import Derived.Deep.Upon
import Derived.Lib.UnsafeStr
import Derived.Laws.BytesString
import Derived.IntWalk
import Derived.KernelRfl
namespace Go.Proofs.YtookoagcmejkpaaGreatDoor.Ab
open Go
section
variable {P : Program} {ρ : Rn} {A : AW} {w : World}
theorem Sim.move (hs : Sim P ρ A.live w) {n : Nat} {l l' : Loc} {a0 ao : AO} {o' : Obj} {w' : World} (h : A.live n = some a0) (hl : ρ n = some l) (hf : ρ A.next = none) (hb : l'.blk = l.blk)
  (hw : w'.heap[l.blk]? = some o') (ho : OR P (upd ρ A.next l') l' ao o') (hk : ∀ b, b ≠ l.blk → w'.heap[b]? = w.heap[b]?) (hz : w'.heap.size = w.heap.size) (h1 : w'.os = w.os) (h2 : w'.tape = w.tape) (h3 : w'.output = w.output) :
  Sim P (upd ρ A.next l') ((A.set n .dead).new ao).live w' ∧ Ext ρ w A (upd ρ A.next l') w' ((A.set n .dead).new ao) := by
 have hsub := upd_sub (l := l') hf
 have hnx : (A.set n .dead).next = A.next := rfl
 have hlive : ∀ m am, ((A.set n .dead).new ao).live m = some am → (m = A.next ∧ am = ao) ∨ (m ≠ A.next ∧ m ≠ n ∧ A.live m = some am) := by
  intro m am hm
  rw [live_new, hnx] at hm
  by_cases e : m = A.next
  ·rw [if_pos e] at hm
   exact .inl ⟨e, by cases ao <;> simp at hm <;> exact hm.symm⟩
  ·rw [if_neg e, live_set] at hm
   by_cases e2 : m = n
   ·rw [if_pos e2] at hm; cases hm
   ·rw [if_neg e2] at hm; exact .inr ⟨e, e2, hm⟩
 have hoff : ∀ m am lm, A.live m = some am → m ≠ n → ρ m = some lm → lm.blk ≠ l.blk := fun m am lm hm hn e e2 => hn (hs.inj m n am a0 lm l hm h e hl e2)
 constructor
 ·constructor
  ·intro m am hm
   rcases hlive m am hm with ⟨rfl, rfl⟩ | ⟨e, e2, hm'⟩
   ·exact ⟨l', o', upd_at, by rw [hb]; exact hw, ho⟩
   ·obtain ⟨lm, om, x1, x2, x3⟩ := hs.obj m am hm'
    exact ⟨lm, om, hsub _ _ x1, by rw [hk _ (hoff m am lm hm' e2 x1)]; exact x2, x3.mono hsub⟩
  ·intro m k am ak lm lk hm hk' x1 x2 he
   rcases hlive m am hm with ⟨rfl, rfl⟩ | ⟨e, e2, hm'⟩ <;> rcases hlive k ak hk' with ⟨rfl, rfl⟩ | ⟨f, f2, hk''⟩
   ·rfl
   ·rw [upd_at] at x1; cases x1
    simp only [upd, if_neg f] at x2
    exact absurd (he.symm.trans hb) (hoff k ak lk hk'' f2 x2)
   ·rw [upd_at] at x2; cases x2
    simp only [upd, if_neg e] at x1
    exact absurd (he.trans hb) (hoff m am lm hm' e2 x1)
   ·simp only [upd, if_neg e] at x1
    simp only [upd, if_neg f] at x2
    exact hs.inj m k am ak lm lk hm' hk'' x1 x2 he
 ·constructor
  ·exact hsub
  ·intro m e e2
   by_cases e3 : m = A.next
   ·subst e3; exact ⟨Nat.le_refl _, by simp [AW.new, AW.set]⟩
   ·simp only [upd, if_neg e3] at e2; exact absurd e e2
  ·simp [AW.new, AW.set]
  ·intro m am hm
   rcases hlive m am hm with ⟨rfl, rfl⟩ | ⟨e, e2, hm'⟩
   ·exact .inr ⟨Nat.le_refl _, by simp [AW.new, AW.set]⟩
   ·exact .inl ⟨_, hm'⟩
  ·intro m am lm hm e1
   rcases hlive m am hm with ⟨rfl, rfl⟩ | ⟨e, e2, hm'⟩
   ·rw [upd_at] at e1; cases e1
    exact .inr ⟨n, a0, l, h, hl, hb.symm⟩
   ·simp only [upd, if_neg e] at e1
    exact .inr ⟨m, am, lm, hm', e1, rfl⟩
  ·intro b hb' hn
   exact hk b fun e => hn n a0 l h hl e.symm
  ·omega
  ·exact h1
  ·exact h2
  ·exact h3

theorem Sim.killPush (hs : Sim P ρ A.live w) {n : Nat} {l : Loc} {a0 ao : AO} {o : Obj} {w' : World} {room : Nat} (h : A.live n = some a0) (hl : ρ n = some l) (hp : Pushed w o w') (hf : ρ A.next = none)
  (ho : OR P (upd ρ A.next ⟨w.heap.size, 0, room⟩) ⟨w.heap.size, 0, room⟩ ao o) :
  Sim P (upd ρ A.next ⟨w.heap.size, 0, room⟩) ((A.set n .dead).new ao).live w' ∧ Ext ρ w A (upd ρ A.next ⟨w.heap.size, 0, room⟩) w' ((A.set n .dead).new ao) := by
 have h1 := hs.kill (w' := w) h hl (fun _ _ => rfl)
 have h2 : Ext ρ w A ρ w (A.set n .dead) := Ext.setAt h hl (fun _ _ => rfl) rfl rfl rfl rfl
 obtain ⟨h3, h4⟩ := h1.push (A := A.set n .dead) hp hf ho
 exact ⟨h3, h2.trans h4⟩

theorem bytes_flats (l : List UInt8) : VRs ρ (l.map fun b => .flat (.int .u8 b.toNat)) (l.map fun b => Value.int .u8 b.toNat) := by
 induction l with
 | nil => exact .nil
 | cons a l ih => exact .cons (.flat _) ih

theorem src_sound (hs : Sim P ρ A.live w) {size : Nat} {tx : TypeId} {x : AV} {n : Nat} {new : List AV} {v : Value} (h : srcA P A size tx x = some (n, new)) (hv : VR ρ x v) :
  ∃ news, Src P size tx v n news w ∧ VRs ρ new news := by
 unfold srcA at h
 split at h
 ·rename_i hu
  cases h; cases hv
  exact ⟨[], Src.ofNil w hu _, .nil⟩
 ·rename_i hu
  cases h
  cases hv with
  | sle a b hl => exact ⟨[], Src.ofSlice w hu _ 0 _ [] (by simp) (fun j u e => by simp at e) (fun u e => by cases e), .nil⟩
 ·rename_i e b o m _ _ hu
  cases hv with
  | sl _ _ _ _ hl =>
  split at h
  ·rename_i xs t hc
   split at h
   ·rename_i r hcut
    split at h
    ·rename_i hone
     cases h
     obtain ⟨vs, h1, h2, h3⟩ := hs.row (cellsOf_live hc) hl hcut
     exact ⟨vs, Src.ofSlice w hu _ n _ vs h2 h3 (h1.one hone), h1⟩
    ·cases h
   ·cases h
  ·cases h
 ·rename_i s hu
  split at h
  ·rename_i hsz
   cases h; cases hv
   subst hsz
   exact ⟨byteCells s, Src.ofString w hu s, bytes_flats _⟩
  ·cases h
 ·cases h

theorem zeroCells_len (z : Array Value) (n : Nat) : (Builtin.zeroCells z n).toList.length = n * z.size := by simp [Builtin.zeroCells]

theorem append_sound (hs : Sim P ρ A.live w) {ats : Array TypeId} {ty : TypeId} {s x : AV} {r : AR} {sv xv : Value} (h : appendA P A ats s x = some r) (hsv : VR ρ s sv) (hxv : VR ρ x xv) :
  ArOk P ρ A w ((do pure (.value (← Builtin.append_ ats ty #[sv, xv])) : Sem Next).run P w) r := by
 have give : ∀ {v : Value} {w' : World}, (Builtin.append_ ats ty #[sv, xv]).run P w = .ok v w' → Gives ((do pure (.value (← Builtin.append_ ats ty #[sv, xv])) : Sem Next).run P w) v w' := by
  intro v w' e
  left
  rw [Sem.run_bind, e]; rfl
 unfold appendA at h
 split at h
 ·rename_i t tx hats
  have : ats = #[t, tx] := by rw [← hats]
  subst this
  split at h
  ·rename_i e ht
   split at h
   ·rename_i i hi
    split at h
    ·rename_i z n new hz hsrc
     split at h
     ·cases h
     ·rename_i hcond
      simp only [Bool.or_eq_true, decide_eq_true_eq, not_or] at hcond
      obtain ⟨⟨⟨⟨c1, c2⟩, c3⟩, c4⟩, c5⟩ := hcond
      have c5' : z.cells.size = i.size := by simpa using c5
      obtain ⟨news, hSrc, hnew⟩ := src_sound hs hsrc hxv
      have hnl := hSrc.newsLen
      have hcell : P.cellsOf e = i.size := by simp [Program.cellsOf, hi]
      have nothing : n = 0 → ∀ base len cap, sv = .slice base len cap → len ≤ cap → (Builtin.append_ #[t, tx] ty #[sv, xv]).run P w = .ok sv w := by
       rintro rfl base len cap rfl hle
       have : news = [] := List.eq_nil_of_length_eq_zero (by rw [hnl]; simp)
       subst this
       exact run_append_nothing w t tx ty e i ht hi base len cap hle xv hSrc
      -- a new row
      have grow : ∀ (base : Option Addr) (len cap : Nat) (olds : List Value) (old : List AV), sv = .slice base len cap → len ≤ 1000000 → VRs ρ old olds → olds.length = len * i.size →
        (Builtin.firstCells i.size len (.slice base len cap)).run P w.drew = .ok olds.toArray w.drew → cap < len + n →
        ∃ room obj w', (Builtin.append_ #[t, tx] ty #[sv, xv]).run P w = .ok (.slice (some ⟨w.heap.size, 0, none⟩) (len + n) (len + n + room)) w' ∧ Pushed w obj w' ∧
         ∀ ρ', Sub ρ ρ' → OR P ρ' ⟨w.heap.size, 0, room⟩ (.cells (old ++ new) e) obj := by
       rintro base len cap olds old rfl hlen hold hol hfc hg
       have hprod : (len + n) * i.bytes ≤ 140737488355328 := by
        have := Nat.mul_le_mul (show len + n ≤ 2000000 by omega) (show i.bytes ≤ 1000000 by omega)
        omega
       have hr := run_append_grow_src (P := P) w t tx ty e i z ht hi hz base len cap olds hfc xv n news hSrc hg (by omega) (growslice_fits hg hprod)
       have hge := grownCap_ge w (len + n) cap e
       refine ⟨grownCap w (len + n) cap e - (len + n), .cells ((olds ++ news).toArray ++ Builtin.zeroCells z.cells (grownCap w (len + n) cap e - (len + n))) e, w.drew.alloc (.cells ((olds ++ news).toArray ++ Builtin.zeroCells z.cells (grownCap w (len + n) cap e - (len + n))) e), ?_, ⟨rfl, rfl, rfl, rfl⟩, fun ρ' hsub => ?_⟩
       ·rw [hr]
        have : len + n + (grownCap w (len + n) cap e - (len + n)) = grownCap w (len + n) cap e := by omega
        rw [this]
       ·have := newCells (P := P) (elem := e) (hold.append hnew) (grownCap w (len + n) cap e - (len + n)) (Builtin.zeroCells z.cells (grownCap w (len + n) cap e - (len + n))).toList
         (by rw [zeroCells_len, c5', hcell]) hsub (l := ⟨w.heap.size, 0, grownCap w (len + n) cap e - (len + n)⟩) rfl rfl
        have heq : (olds ++ news).toArray ++ Builtin.zeroCells z.cells (grownCap w (len + n) cap e - (len + n)) = ((olds ++ news) ++ (Builtin.zeroCells z.cells (grownCap w (len + n) cap e - (len + n))).toList).toArray := by
         apply Array.ext'
         simp
        rw [heq]
        exact this
      split at h
      ·-- none there
       cases hsv
       split at h
       ·rename_i hn
        cases h
        exact ⟨_, give (nothing hn none 0 0 rfl (Nat.le_refl _)), .flat _⟩
       ·rename_i hn
        cases h
        obtain ⟨room, obj, w', g1, g2, g3⟩ := grow none 0 0 [] [] rfl (by omega) .nil (by simp) (run_firstCells_none w.drew i.size 0 0 0) (by omega)
        simp only [Nat.zero_add, List.nil_append] at g1 g3
        refine ⟨_, obj, w', room, give g1, g2, fun ρ' hsub hat => ⟨?_, g3 ρ' hsub⟩⟩
        exact VR.sl (l := ⟨w.heap.size, 0, room⟩) 0 n n true hat
      ·-- an empty one at an end
       rename_i b o1 o2
       cases hsv with
       | sle _ _ hl =>
       rename_i l
       split at h
       ·rename_i hn
        cases h
        exact ⟨_, give (nothing hn _ 0 _ rfl (by omega)), .sle _ _ hl⟩
       ·rename_i hn
        split at h
        ·rename_i xs e' hc
         split at h
         ·rename_i hcc
          simp only [Bool.and_eq_true, decide_eq_true_eq] at hcc
          obtain ⟨rfl, hlen⟩ := hcc
          cases h
          intro hfree
          have hf : ρ A.next = none := hfree _ (Nat.le_refl _) (by simp [AW.new, AW.set])
          obtain ⟨C, fz, b1, b2, b3, b4⟩ := hs.block (cellsOf_live hc) hl
          by_cases hroom : n ≤ l.room
          ·-- in place
           have hr0 : l.room ≠ 0 := by omega
           have hmul : n * i.size ≤ l.room * i.size := Nat.mul_le_mul_right _ hroom
           have hin : ∀ j, j < news.length → l.base + o2 + j < C.size := fun j hj => by rw [b2, hcell]; omega
           have hr := run_append_room_src (P := P) w t tx ty e' i ht hi l.blk (l.base + o2) 0 l.room xv n news hSrc (by omega)
            (fun j hj => by rw [cell_of_block b1]; simp only [Nat.zero_mul, Nat.add_zero]; rw [Array.getElem?_eq_getElem (hin j hj)]; rfl)
            (fun j hj => frozen_of_block b1 b3 (by simpa using hin j hj))
           simp only [Nat.zero_mul, Nat.add_zero, Nat.zero_add] at hr
           obtain ⟨z1, z2, z3, z4⟩ := setCells_rest news w l.blk (l.base + o2)
           obtain ⟨m1, m2⟩ := hs.move (l' := ⟨l.blk, l.base + o2, l.room - n⟩) (ao := .cells new e') (cellsOf_live hc) hl hf rfl (setCells_block news w l.blk (l.base + o2) C e' fz b1)
            ⟨_, fz, rfl, by
             simp only
             rw [spl_size, b2, hcell, ← hnew.length, hnl, Nat.sub_mul]; omega, by rw [spl_size]; exact b3, fun j a ej => by
             obtain ⟨v, v1, v2⟩ := hnew.get ej
             have hj : j < news.length := (List.getElem?_eq_some_iff.1 v1).1
             refine ⟨v, ?_, v2.mono (upd_sub hf)⟩
             simp only
             rw [spl_get _ _ _ _ (by rw [b2, hcell]; omega), if_pos (by omega), ← v1]
             congr 1; omega⟩
            (fun b hb => setCells_other news w _ _ b hb) z1 z2 z3 z4
           refine ⟨_, _, _, give (by simpa [hr0] using hr), ?_, m1, m2⟩
           have := VR.sl (ρ := upd ρ A.next ⟨l.blk, l.base + o2, l.room - n⟩) (l := ⟨l.blk, l.base + o2, l.room - n⟩) 0 n n true upd_at
           have e3 : n + (l.room - n) = l.room := by omega
           simpa [e3] using this
          ·obtain ⟨room, obj, w', g1, g2, g3⟩ := grow _ 0 l.room [] [] rfl (by omega) .nil (by simp) (by
             have := run_firstCells_some (P := P) w.drew i.size 0 ⟨l.blk, l.base + (if l.room = 0 then o1 else o2), none⟩ 0 l.room [] (by simp) (fun j v e => by simp at e)
             simpa using this) (by omega)
           simp only [Nat.zero_add, List.nil_append] at g1 g3
           obtain ⟨m1, m2⟩ := hs.killPush (cellsOf_live hc) hl g2 hf (g3 _ (upd_sub hf))
           exact ⟨_, _, _, give g1, VR.sl (l := ⟨w.heap.size, 0, room⟩) 0 n n true upd_at, m1, m2⟩
         ·cases h
        ·cases h
      ·-- a row
       rename_i b o len cap opn
       cases hsv with
       | sl _ _ _ _ hl =>
       rename_i l
       split at h
       ·cases h
       ·rename_i hlc
        simp only [Bool.or_eq_true, decide_eq_true_eq, not_or] at hlc
        obtain ⟨⟨lc1, lc2⟩, lc3⟩ := hlc
        split at h
        ·rename_i xs e' hc
         split at h
         ·rename_i old hcut
          split at h
          ·cases h
          ·rename_i hee
           have hee' : e' = e := by simpa using hee
           subst hee'
           split at h
           ·rename_i hn
            cases h
            exact ⟨_, give (nothing hn _ len _ rfl (by omega)), .sl _ _ _ _ hl⟩
           ·rename_i hn
            obtain ⟨C, fz, b1, b2, b3, b4⟩ := hs.block (cellsOf_live hc) hl
            obtain ⟨olds, o1, o2, o3⟩ := hs.row (cellsOf_live hc) hl hcut
            have hfc : ∀ cap', (Builtin.firstCells i.size len (.slice (some ⟨l.blk, l.base + o, none⟩) len cap')).run P w.drew = .ok olds.toArray w.drew := fun cap' =>
             run_firstCells_some (P := P) w.drew i.size len _ len cap' olds o2 (fun j v e => by have := o3 j v e; simpa using this)
            obtain ⟨q1, q2, q3⟩ := cut_spec hcut
            split at h
            ·split at h
             ·rename_i hroom
              split at h
              ·rename_i l' hput
               cases h
               intro _
               obtain ⟨p1, p2, p3, p4⟩ := hs.putCells (cellsOf_live hc) hl hput hnew
               have hr := run_append_room_src (P := P) w t tx ty e' i ht hi l.blk (l.base + o) len (cap + l.room) xv n news hSrc (by omega)
                (fun j hj => by have := p3 j hj; rwa [show l.base + (o + len * i.size) + j = l.base + o + len * i.size + j by omega] at this)
                (fun j hj => by have := p4 j hj; rwa [show l.base + (o + len * i.size) + j = l.base + o + len * i.size + j by omega] at this)
               rw [show l.base + o + len * i.size = l.base + (o + len * i.size) by omega] at hr
               exact ⟨_, _, _, give (by simpa using hr), by have := VR.sl (ρ := ρ) o (len + n) cap true hl; simpa using this, p1, p2⟩
              ·cases h
             split at h
             ·rename_i hnroom hend
              cases h
              intro hfree
              have hf : ρ A.next = none := hfree _ (Nat.le_refl _) (by simp [AW.new, AW.set])
              by_cases hroom : len + n ≤ cap + l.room
              ·have hmul : (len + n) * i.size ≤ (cap + l.room) * i.size := Nat.mul_le_mul_right _ hroom
               have e1 : (len + n) * i.size = len * i.size + n * i.size := Nat.add_mul _ _ _
               have e2 : (cap + l.room) * i.size = cap * i.size + l.room * i.size := Nat.add_mul _ _ _
               have hin : ∀ j, j < news.length → l.base + o + len * i.size + j < C.size := fun j hj => by rw [b2, hcell]; omega
               have hr := run_append_room_src (P := P) w t tx ty e' i ht hi l.blk (l.base + o) len (cap + l.room) xv n news hSrc hroom
                (fun j hj => by rw [cell_of_block b1, Array.getElem?_eq_getElem (hin j hj)]; rfl)
                (fun j hj => frozen_of_block b1 b3 (hin j hj))
               obtain ⟨z1, z2, z3, z4⟩ := setCells_rest news w l.blk (l.base + o + len * i.size)
               have hsz : C.size = l.base + o + (len + n) * i.size + (cap + l.room - (len + n)) * i.size := by rw [b2, hcell, hend, Nat.sub_mul]; omega
               obtain ⟨m1, m2⟩ := hs.move (l' := ⟨l.blk, l.base + o, cap + l.room - (len + n)⟩) (ao := .cells (old ++ new) e') (cellsOf_live hc) hl hf rfl (setCells_block news w l.blk _ C e' fz b1)
                ⟨_, fz, rfl, by
                 simp only
                 rw [spl_size, hsz, hcell, List.length_append, q1, ← hnew.length, hnl]; omega, by rw [spl_size]; exact b3, fun j a ej => by
                 simp only
                 rw [spl_get _ _ _ _ (by omega)]
                 by_cases hj : j < old.length
                 ·rw [List.getElem?_append_left hj] at ej
                  rw [if_neg (by omega)]
                  obtain ⟨v, v1, v2⟩ := b4 _ _ (q3 j a ej)
                  exact ⟨v, by rw [← v1]; congr 1; omega, v2.mono (upd_sub hf)⟩
                 ·rw [List.getElem?_append_right (by omega)] at ej
                  obtain ⟨v, v1, v2⟩ := hnew.get ej
                  have hj2 : j - old.length < news.length := (List.getElem?_eq_some_iff.1 v1).1
                  rw [if_pos (by omega)]
                  exact ⟨v, by rw [← v1]; congr 1; omega, v2.mono (upd_sub hf)⟩⟩
                (fun b hb => setCells_other news w _ _ b hb) z1 z2 z3 z4
               refine ⟨_, _, _, give (by simpa using hr), ?_, m1, m2⟩
               have := VR.sl (ρ := upd ρ A.next ⟨l.blk, l.base + o, cap + l.room - (len + n)⟩) (l := ⟨l.blk, l.base + o, cap + l.room - (len + n)⟩) 0 (len + n) (len + n) true upd_at
               have e3 : len + n + (cap + l.room - (len + n)) = cap + l.room := by omega
               simpa [e3] using this
              ·obtain ⟨room, obj, w', g1, g2, g3⟩ := grow _ len _ olds old rfl (by omega) o1 o2 (hfc _) (by simp only [cond_true]; omega)
               obtain ⟨m1, m2⟩ := hs.killPush (cellsOf_live hc) hl g2 hf (g3 _ (upd_sub hf))
               exact ⟨_, _, _, give g1, VR.sl (l := ⟨w.heap.size, 0, room⟩) 0 (len + n) (len + n) true upd_at, m1, m2⟩
             ·cases h
            ·split at h
             ·rename_i hroom
              split at h
              ·rename_i l' hput
               cases h
               intro _
               obtain ⟨p1, p2, p3, p4⟩ := hs.putCells (cellsOf_live hc) hl hput hnew
               have hr := run_append_room_src (P := P) w t tx ty e' i ht hi l.blk (l.base + o) len cap xv n news hSrc hroom
                (fun j hj => by have := p3 j hj; rwa [show l.base + (o + len * i.size) + j = l.base + o + len * i.size + j by omega] at this)
                (fun j hj => by have := p4 j hj; rwa [show l.base + (o + len * i.size) + j = l.base + o + len * i.size + j by omega] at this)
               rw [show l.base + o + len * i.size = l.base + (o + len * i.size) by omega] at hr
               exact ⟨_, _, _, give (by simpa using hr), by have := VR.sl (ρ := ρ) o (len + n) cap false hl; simpa using this, p1, p2⟩
              ·cases h
             ·rename_i hroom
              cases h
              obtain ⟨room, obj, w', g1, g2, g3⟩ := grow _ len _ olds old rfl (by omega) o1 o2 (hfc _) (by simp only [cond_false]; omega)
              exact ⟨_, obj, w', room, give g1, g2, fun ρ' hsub hat => ⟨VR.sl (l := ⟨w.heap.size, 0, room⟩) 0 (len + n) (len + n) true hat, g3 ρ' hsub⟩⟩
         ·cases h
        ·cases h
      ·cases h
    ·cases h
   ·cases h
  ·cases h
 ·cases h
end
section
variable {P : Program} {ρ : Rn} {A : AW} {w : World}
def vOf (s : Sem Value) : Sem Next := do pure (.value (← s))
def uOf (s : Sem Unit) : Sem Next := do s; pure .skip
theorem gives_v {s : Sem Value} {x : Value} {w w' : World} (h : s.run P w = .ok x w') : Gives ((vOf s).run P w) x w' := by
 left; unfold vOf; rw [Sem.run_bind, h]; rfl
theorem gives_u {s : Sem Unit} {w w' : World} (h : s.run P w = .ok () w') : Gives ((uOf s).run P w) undef w' := by
 right; unfold uOf; rw [Sem.run_bind, h]; exact ⟨rfl, rfl⟩

theorem slLen_spec {x : AV} {n : Nat} {v : Value} (h : slLen x = some n) (hv : VR ρ x v) (w : World) : (Builtin.lenOf v).run P w = .ok n w := by
 unfold slLen at h
 split at h <;> cases h <;> cases hv <;> rfl

theorem rowOf_sound (hs : Sim P ρ A.live w) {s : Nat} {x : AV} {n : Nat} {r : List AV} {v : Value} (h : rowOf P A s x n = some r) (hv : VR ρ x v) : ∃ vs, VRs ρ r vs ∧ (Builtin.firstCells s n v).run P w = .ok vs.toArray w := by
 unfold rowOf at h
 split at h
 ·cases h; cases hv; exact ⟨[], .nil, by simp [Builtin.firstCells]⟩
 ·cases hv with
  | sl _ _ _ _ hl =>
  split at h
  ·rename_i l t hc
   obtain ⟨vs, h1, h2, h3⟩ := hs.row (cellsOf_live hc) hl h
   exact ⟨vs, h1, run_firstCells_some w s n _ _ _ vs h2 h3⟩
  ·cases h
 ·rename_i st
  cases h; cases hv
  refine ⟨(st.extract 0 n).data.toList.map fun b => Value.int .u8 b.toNat, bytes_flats _, ?_⟩
  simp [Builtin.firstCells]
  apply Array.ext'
  simp
 ·cases h

theorem copy_sound (hs : Sim P ρ A.live w) {ats : Array TypeId} {ty : TypeId} {d x : AV} {r : AR} {dv xv : Value} (h : copyA P A ats d x = some r) (hd : VR ρ d dv) (hx : VR ρ x xv) :
  ArOk P ρ A w ((vOf (Builtin.copy_ ats ty #[dv, xv])).run P w) r := by
 unfold copyA at h
 split at h
 ·rename_i t tl hats
  have h0 : ats[0]? = some t := by
   have : ats.toList[0]? = some t := by rw [hats]; rfl
   simpa using this
  split at h
  ·rename_i e ht
   split at h
   ·rename_i size n b o m _ _ hsz hlen
    cases hd with
    | sl _ _ _ _ hl =>
    rename_i l
    split at h
    ·rename_i row xs e' hrow hc
     split at h
     ·rename_i hone
      split at h
      ·rename_i xs' hput
       cases h
       intro _
       obtain ⟨vs, v1, v2⟩ := rowOf_sound hs hrow hx
       obtain ⟨p1, p2, p3, p4⟩ := hs.putCells (cellsOf_live hc) hl hput v1
       have hst := run_storeCells_cells (P := P) l.blk (l.base + o) vs 0 w (by simpa using p3) (by simpa using p4) (v1.one hone)
       refine ⟨_, _, ρ, gives_v (w' := w.setCells l.blk (l.base + o) vs) (x := goInt (Nat.min n m)) ?_, .flat _, p1, p2⟩
       simp only [Builtin.copy_, h0]
       simp [run_und ht, slLen_spec hlen hx, run_size hsz, v2, hst]
      ·cases h
     ·cases h
    ·cases h
   ·cases h
  ·cases h
 ·cases h

theorem zeros_get : ∀ (n : Nat) (z : List AV) (i : Nat) (a : AV), (zerosA z n)[i]? = some a → i < n * z.length ∧ z[i % z.length]? = some a
 | 0, z, i, a, h => by simp [zerosA] at h
 | n + 1, z, i, a, h => by
  simp only [zerosA] at h
  by_cases c : i < z.length
  ·rw [List.getElem?_append_left c] at h
   refine ⟨?_, by rw [Nat.mod_eq_of_lt c]; exact h⟩
   rw [Nat.add_mul]; omega
  ·rw [List.getElem?_append_right (by omega)] at h
   obtain ⟨h1, h2⟩ := zeros_get n z _ a h
   refine ⟨by rw [Nat.add_mul]; omega, ?_⟩
   have e : i = (i - z.length) + z.length := by omega
   rw [e, Nat.add_mod_right]
   exact h2
theorem zeros_len : ∀ (n : Nat) (z : List AV), (zerosA z n).length = n * z.length
 | 0, z => by simp [zerosA]
 | n + 1, z => by simp [zerosA, zeros_len n z, Nat.add_mul]; omega

theorem zeros_made {z : List AV} {zs : Array Value} (h : VRs ρ z zs.toList) (_h0 : zs.size ≠ 0) (n : Nat) : VRs ρ (zerosA z n) (madeCells zs (n * zs.size)).toList := by
 have hl : zs.size = z.length := by simpa using h.length
 refine .of_get (by simp [madeCells, zeros_len, hl]) fun i a e => ?_
 obtain ⟨h1, h2⟩ := zeros_get n z i a e
 obtain ⟨v, v1, v2⟩ := h.get h2
 refine ⟨v, ?_, v2⟩
 have hi : i < n * zs.size := by rw [hl]; exact h1
 rw [← hl] at v1
 simp [madeCells, hi]
 simp at v1
 rw [getElem!_def, v1]

theorem makeSlice_sound {t e : TypeId} {i : TypeInfo} {z : Value} {l c : Nat} {kl kc : IntKind} (ht : P.underlying t = some (.slice e)) (hi : P.info? e = some i) (hz : i.zero = some z)
  (hlc : l ≤ c) (hb : i.bytes * c ≤ 1000000000) (hc : c ≤ 1000000000) (hsz : z.cells.size = i.size) (h0 : i.size ≠ 0) :
  ∃ obj w', (Instr.makeSlice t (.int kl (l : Int)) (.int kc (c : Int))).run P w = .ok (.slice (some ⟨w.heap.size, 0, none⟩) l c) w' ∧ Pushed w obj w' ∧
   ∀ ρ', Sub ρ ρ' → OR P ρ' ⟨w.heap.size, 0, 0⟩ (.cells (zerosA (fromV z).cells c) e) obj := by
 have hr := run_make (P := P) w t e i z ht hi hz kl kc (l : Int) (c : Int) (by omega) (by omega) (by rw [← Int.natCast_mul]; omega) (by omega)
 simp only [Int.toNat_natCast] at hr
 refine ⟨_, w.alloc (.cells (madeCells z.cells (c * i.size)) e), hr, ⟨rfl, rfl, rfl, rfl⟩, fun ρ' hs => ?_⟩
 have h1 := zeros_made (ρ := ρ) (VR.fromV (ρ := ρ) z).cells (by omega) c
 have := newCells (P := P) (elem := e) h1 0 [] (by simp) hs (l := ⟨w.heap.size, 0, 0⟩) rfl rfl
 rw [hsz] at this
 simpa using this

theorem buildSlice_sound {t e : TypeId} {i : TypeInfo} {z : Value} {len : Nat} {parts : List (Nat × AV)} {ps : List (Nat × Value)} {l : List AV} (ht : P.underlying t = some (.slice e)) (hi : P.info? e = some i) (hz : i.zero = some z)
  (hsz : z.cells.size = i.size) (h0 : i.size ≠ 0) (hb : len * i.size ≤ 1000000) (h : fillA (fun j => some (j * i.size, i.size)) (zerosA (fromV z).cells len) parts = some l) (hp : PRs ρ parts ps) :
  ∃ obj w', (Instr.buildSlice t len ps.toArray).run P w = .ok (.slice (some ⟨w.heap.size, 0, none⟩) len len) w' ∧ Pushed w obj w' ∧
   ∀ ρ', Sub ρ ρ' → OR P ρ' ⟨w.heap.size, 0, 0⟩ (.cells l e) obj := by
 have h1 := zeros_made (ρ := ρ) (VR.fromV (ρ := ρ) z).cells (by omega) len
 rw [hsz] at h1
 obtain ⟨us, h2, h3⟩ := fill_sound _ (fun j => some (j * i.size, i.size)) (fun _ _ _ e => e) hp h1 h
 have e1 : ((madeCells z.cells (len * i.size)).toList).toArray = madeCells z.cells (len * i.size) := by simp
 rw [e1] at h2
 refine ⟨.cells us.toArray e, w.alloc (.cells us.toArray e), ?_, ⟨rfl, rfl, rfl, rfl⟩, fun ρ' hs => ?_⟩
 ·have hb' : ¬ (2 ^ 24 < len * i.size) := by omega
  by_cases hn : len * i.size = 0
  ·have : len = 0 := by
    rcases Nat.mul_eq_zero.1 hn with h | h
    ·exact h
    ·exact absurd h h0
   subst this
   have e2 : ∀ f : Nat → Value, Array.map f (Array.range 0) = #[] := fun f => by simp [Array.range_zero']
   simp only [madeCells, Nat.zero_mul, e2] at h2
   simp [Instr.buildSlice, run_und ht, sizeOf, typeInfo, hi, e2, h2, newRow]
  ·have hn' : ¬ (len = 0 ∨ i.size = 0) := by
    intro h; exact hn (by rcases h with h | h <;> simp [h])
   simp only [madeCells] at h2
   simp [Instr.buildSlice, run_und ht, sizeOf, typeInfo, hi, zeroValue, hz, hb', h2, newRow]
   exact fun h => absurd h hn
 ·have := newCells (P := P) (elem := e) h3 0 [] (by simp) hs (l := ⟨w.heap.size, 0, 0⟩) rfl rfl
  simpa using this

theorem u8s_spec : ∀ {l : List AV} {ns : List Int} {vs : List Value}, u8sOf? l = some ns → VRs ρ l vs → vs = ns.map (Value.int .u8)
 | [], _, _, h, k => by cases k; simp [u8sOf?] at h; subst h; rfl
 | a :: l, ns, vs, h, k => by
  cases k with
  | cons k1 k2 =>
  unfold u8sOf? at h
  split at h
  ·rename_i e; cases e
  ·rename_i n l' e
   cases e
   split at h
   ·rename_i r hr
    cases h
    cases k1
    rw [u8s_spec hr k2]; rfl
   ·cases h
  ·cases h

theorem bytes_spec : ∀ {l : List AV} {bs : List UInt8} {vs : List Value}, bytesOf? l = some bs → VRs ρ l vs → vs = bs.map (fun b => Value.int .u8 b.toNat)
 | [], _, _, h, k => by cases k; simp [bytesOf?] at h; subst h; rfl
 | a :: l, bs, vs, h, k => by
  cases k with
  | cons k1 k2 =>
  unfold bytesOf? at h
  split at h
  ·rename_i e; cases e
  ·rename_i n l' e
   cases e
   split at h
   ·rename_i r hr
    split at h
    ·rename_i hn
     cases h
     cases k1
     rw [bytes_spec hr k2]
     simp only [List.map_cons]
     rw [hn]
    ·cases h
   ·cases h
  ·cases h

theorem bytesOf_length : ∀ {l : List AV} {bs : List UInt8}, bytesOf? l = some bs → bs.length = l.length
 | [], _, h => by simp [bytesOf?] at h; subst h; rfl
 | a :: l, bs, h => by
  unfold bytesOf? at h
  split at h
  ·rename_i e; cases e
  ·rename_i n l' e
   cases e
   split at h
   ·rename_i r hr
    split at h
    ·cases h; simp [bytesOf_length hr]
    ·cases h
   ·cases h
  ·cases h

theorem lies_bytes {e : TypeId} (hc : P.cellsOf e = 1) (count off n : Nat) (hn : off + n ≤ count) : liesAt P P.depth e count off e n = true := by
 have hd : P.depth = (2 * (P.types.size + Made.depth) + 1) + 1 := rfl
 rw [hd]
 simp only [liesAt, Bool.or_eq_true]
 left
 rw [hd]
 simp [rowAt, hc, hn, sameLayout, Nat.mod_one]

theorem run_unsafeString_at (pt it ty e : TypeId) (hp : P.underlying pt = some (.pointer e)) (hc : P.cellsOf e = 1) (g off cells : Nat) (hsh : w.shape? g = some (e, cells)) (l : List UInt8) (h0 : l.length ≠ 0) (hn : off + l.length ≤ cells) (h63 : l.length ≤ 9223372036854775807)
  (hcell : ∀ j x, l[j]? = some x → w.cell? ((⟨g, off, none⟩ : Addr).add j) = some (.int .u8 x.toNat)) :
  (Builtin.unsafeString_ #[pt, it] ty #[.pointer (some ⟨g, off, none⟩), .int .i64 l.length]).run P w = .ok (.string ⟨l.toArray⟩) (w.freeze ⟨g, off, none⟩ l.length) := by
 have hlb := Lib.run_loadBytes (P := P) w l ⟨g, off, none⟩ .empty hcell
 have hlies := lies_bytes (P := P) hc (cells / P.cellsOf e) off l.length (by rw [hc]; simpa using hn)
 have h63' : ¬ (9223372036854775807 : Int) < (l.length : Int) := by omega
 have hdef : Builtin.unsafeString_ #[pt, it] ty #[.pointer (some ⟨g, off, none⟩), .int .i64 l.length] =
   (do
    let n ← asInt (.int .i64 l.length)
    if n < 0 then runtimePanic (.error "unsafe.String: len out of range")
    if n > IntKind.i64.max then unsupported (.unsafePointer "String: a length above the largest int")
    if n = 0 then pure (.string .empty)
    else if ← variablesAt ⟨g, off, none⟩ (← elemOf pt) n.toNat then do
     let s ← loadBytes ⟨g, off, none⟩ .empty n.toNat
     freeze ⟨g, off, none⟩ n.toNat
     pure (.string s)
    else unsupported (.unsafePointer "String: not so many bytes at ptr")) := rfl
 rw [hdef]
 have hmax : IntKind.i64.max = 9223372036854775807 := rfl
 have hneg : ¬ (l.length : Int) < 0 := by omega
 simp [asInt, asIntOf, hmax, h63', hneg, h0, variablesAt, hsh, elemOf, run_underlying hp, hlies, hlb]

theorem freeze_rest (w : World) (a : Addr) (n : Nat) : (∀ b, b ≠ a.block → (w.freeze a n).heap[b]? = w.heap[b]?) ∧ (w.freeze a n).heap.size = w.heap.size ∧ (w.freeze a n).os = w.os ∧ (w.freeze a n).tape = w.tape ∧ (w.freeze a n).output = w.output := by
 unfold World.freeze
 split
 ·exact ⟨fun _ _ => rfl, rfl, rfl, rfl, rfl⟩
 ·refine ⟨fun b hb => ?_, by simp, rfl, rfl, rfl⟩
  simp [Array.getElem?_modify]
  intro e; exact absurd e.symm hb

theorem unsafeString_sound (hs : Sim P ρ A.live w) {pt it ty u e : TypeId} {b o n : Nat} {xs r : List AV} {bs : List UInt8} {l : Loc} (hp : P.underlying pt = some (.pointer u)) (hc : cellsOf A b = some (xs, e)) (hl : ρ b = some l)
  (hcut : cut xs o n = some r) (hb : bytesOf? r = some bs) (hu : u = e) (hsz : sizeA P e = some 1) (h0 : n ≠ 0) (hn : n ≤ 1000000) :
  ∃ w', (Builtin.unsafeString_ #[pt, it] ty #[.pointer (some ⟨l.blk, l.base + o, none⟩), .int .i64 (n : Int)]).run P w = .ok (.string ⟨bs.toArray⟩) w' ∧ Sim P ρ (A.set b .dead).live w' ∧ Ext ρ w A ρ w' (A.set b .dead) := by
 subst hu
 obtain ⟨C, fz, b1, b2, b3, b4⟩ := hs.block (cellsOf_live hc) hl
 obtain ⟨vs, v1, v2, v3⟩ := hs.row (cellsOf_live hc) hl hcut
 have hvs := bytes_spec hb v1
 have hlen := bytesOf_length hb
 obtain ⟨q1, q2, q3⟩ := cut_spec hcut
 have hcell := size_of_sizeA hsz
 have hbl : bs.length = n := by omega
 rw [if_neg h0] at q2
 have hr := run_unsafeString_at (P := P) (w := w) pt it ty u hp hcell l.blk (l.base + o) C.size (by simp [World.shape?, b1]) bs (by omega) (by omega) (by omega)
  (fun j x ej => v3 j _ (by rw [hvs]; simp [ej]))
 rw [hbl] at hr
 obtain ⟨f1, f2, f3, f4, f5⟩ := freeze_rest w ⟨l.blk, l.base + o, none⟩ n
 exact ⟨_, hr, hs.kill (cellsOf_live hc) hl f1, Ext.setAt (cellsOf_live hc) hl f1 f2 f3 f4 f5⟩

theorem clear_sound (hs : Sim P ρ A.live w) {ats : Array TypeId} {ty t : TypeId} {x : AV} {r : AR} {v : Value} (ht : ats[0]? = some t) (h : clearA P A t x = some r) (hv : VR ρ x v) :
  ArOk P ρ A w ((vOf (Builtin.clear_ ats ty #[v])).run P w) r := by
 unfold clearA at h
 split at h
 ·rename_i e hu
  cases h; cases hv
  exact ⟨_, gives_v (x := .tuple #[]) (by simp [Builtin.clear_, ht, run_und hu]), .flat _⟩
 ·rename_i e n o len cap opn hu
  split at h
  ·rename_i i l e' hi hc
   split at h
   ·rename_i z hz
    cases hv with
    | sl _ _ _ _ hl =>
    rename_i lo
    split at h
    ·rename_i hcc
     simp only [Bool.and_eq_true, decide_eq_true_eq] at hcc
     obtain ⟨⟨⟨c1, c2⟩, c3⟩, c4⟩ := hcc
     have c2' : i.size ≠ 0 := by simpa using c2
     have c3' : len ≠ 0 := by simpa using c3
     split at h
     ·rename_i l' hput
      cases h
      intro _
      have hzc : VRs ρ (fromV z).cells z.cells.toList := (VR.fromV (ρ := ρ) z).cells
      have hzeros : VRs ρ (zerosA (fromV z).cells len) (Builtin.zeroCells z.cells len).toList := by
       have := zeros_made hzc (by omega) len
       refine VRs.of_get ?_ fun j a hj => ?_
       ·have h1 := this.length
        rw [zeroCells_len, zeros_len, ← hzc.length]; simp
       ·obtain ⟨h1, h2⟩ := zeros_get len _ j a hj
        have hl' := hzc.length
        obtain ⟨u, u1, u2⟩ := hzc.get h2
        refine ⟨u, ?_, u2⟩
        have hsz : (fromV z).cells.length = z.cells.size := by rw [← hl']; simp
        rw [hsz] at h1 u1
        have hlt : j % z.cells.size < z.cells.size := Nat.mod_lt _ (by omega)
        simp [Builtin.zeroCells, h1]
        have : z.cells.toList[j % z.cells.size]? = some (z.cells[j % z.cells.size]'hlt) := by simp [hlt]
        rw [this] at u1
        simp at u1
        simp [hlt, u1]
      obtain ⟨p1, p2, p3, p4⟩ := hs.putCells (cellsOf_live hc) hl hput hzeros
      refine ⟨.tuple #[], w.setCells lo.blk (lo.base + o) (Builtin.zeroCells z.cells len).toList, ρ, gives_v ?_, .flat _, p1, p2⟩
      have hone : ∀ v ∈ (Builtin.zeroCells z.cells len).toList, v.oneCell' = true := by
       refine hzeros.one ?_
       rw [List.all_eq_true]
       intro a ha
       obtain ⟨j, hj⟩ := List.mem_iff_getElem?.1 ha
       obtain ⟨_, h2⟩ := zeros_get len _ j a hj
       exact List.all_eq_true.1 c4 a (List.mem_of_getElem? h2)
      have hst := run_storeCells_cells (P := P) lo.blk (lo.base + o) (Builtin.zeroCells z.cells len).toList 0 w (by simpa using p3) (by simpa using p4) hone
      simp at hst
      simp [Builtin.clear_, ht, run_und hu, zeroValue, run_info hi, hz, hst, c3']
     ·cases h
    ·split at h
     ·rename_i h0
      cases h
      subst h0
      exact ⟨_, gives_v (x := .tuple #[]) (by simp [Builtin.clear_, ht, run_und hu]), .flat _⟩
     ·cases h
   ·cases h
  ·cases h
 ·rename_i k e n hu
  split at h
  ·rename_i es clock hg
   cases h
   intro _
   cases hv with
   | mp hl =>
   obtain ⟨cs, h1, he⟩ := hs.mapAt hg hl
   obtain ⟨w', s1, s2, s3, s4, s5, s6, s7⟩ := setObj_world (P := P) (es' := #[]) (c' := clock) h1
   refine ⟨.tuple #[], w', ρ, gives_v ?_, .flat _, hs.setAt (live_of_get hg (by simp)) hl s2 ⟨[], rfl, .nil⟩ s3, Ext.setAt (live_of_get hg (by simp)) hl s3 s4 s5 s6 s7⟩
   simp [Builtin.clear_, ht, run_und hu, run_getMap h1, s1]
  ·cases h
 ·cases h
end
noncomputable section
def oF_move (_P : Program) (T : Tr AV) (_A : AW) (x : Operand) : Option AR :=
  some (.val (ev T x))
def oF_pick (_P : Program) (T : Tr AV) (_A : AW) (c : Operand) (a : Operand) (b : Operand) : Option AR :=
  (boolOf? (ev T c)).map fun t => .val (if t then ev T a else ev T b)
def oF_alloc (P : Program) (_T : Tr AV) (A : AW) (t : TypeId) : Option AR :=
  match zeroA P t with | some z => some (.new (.ptr A.next 0) (.cells z.cells t)) | none => none
def oF_box (_P : Program) (T : Tr AV) (A : AW) (t : TypeId) (x : Operand) : Option AR :=
  some (.new (.ptr A.next 0) (.cells (ev T x).cells t))
def oF_build (P : Program) (T : Tr AV) (_A : AW) (t : TypeId) (parts : Array (Nat × Operand)) : Option AR :=
  (buildA P t (parts.toList.map fun (i, x) => (i, ev T x))).map .val
def oF_buildSlice (P : Program) (T : Tr AV) (A : AW) (t : TypeId) (len : Nat) (parts : Array (Nat × Operand)) : Option AR :=
  match P.underlying t with
    | some (.slice elem) =>
      match P.info? elem with
      | some i =>
        match i.zero with
        | some z =>
          if z.cells.size = i.size && i.size ≠ 0 && len * i.size ≤ 1000000 then
            match fillA (fun j => some (j * i.size, i.size)) (zerosA (fromV z).cells len) (parts.toList.map fun (i, x) => (i, ev T x)) with
            | some l => some (.new (.sl A.next 0 len len false) (.cells l elem))
            | none => none
          else none
        | none => none
      | none => none
    | _ => none
def oF_load (P : Program) (T : Tr AV) (A : AW) (t : TypeId) (a : Operand) : Option AR :=
  match ev T a with | .ptr n k => (loadA P A t n k).map .val | _ => none
def oF_store (P : Program) (T : Tr AV) (A : AW) (t : TypeId) (a : Operand) (x : Operand) : Option AR :=
  match ev T a with | .ptr n k => (storeA P A t n k (ev T x)).map (.chg undefA) | _ => none
def oF_nilCheck (_P : Program) (T : Tr AV) (_A : AW) (x : Operand) : Option AR :=
  match ev T x with
    | .ptr n o => some (.val (.ptr n o))
    | .fn f a b => some (.val (.fn f a b))
    | .yld n => some (.val (.yld n))
    | _ => none
def inI64 (c : Int) : Bool := decide (-9223372036854775808 ≤ c) && decide (c ≤ 9223372036854775807)
def someI64 (c : Int) : Option Value := match inI64 c with | true => some (.int .i64 c) | false => none
def fastI (op : BinOp) (a b : Int) : Option Value :=
  match op with
  | .add => someI64 (a + b)
  | .sub => someI64 (a - b)
  | .eql => some (.bool (a == b))
  | .neq => some (.bool (a != b))
  | .lss => some (.bool (a < b))
  | .leq => some (.bool (a ≤ b))
  | .gtr => some (.bool (a > b))
  | .geq => some (.bool (a ≥ b))
  | _ => none
def binF (P : Program) (op : BinOp) (t : TypeId) (xo yo : Operand) (x y : AV) : Option AV :=
  match x, y with
  | .flat (.int .i64 a), .flat (.int .i64 b) =>
    match fastI op a b with
    | some v => some (.flat v)
    | none => binA P op t xo yo x y
  | _, _ => binA P op t xo yo x y
theorem binF_eq (P : Program) (op : BinOp) (t : TypeId) (xo yo : Operand) (x y : AV) : binF P op t xo yo x y = binA P op t xo yo x y := by
  unfold binF
  split
  · rename_i a b
    split
    · rename_i v h
      have hg : pureRun P (eqGuard op t xo yo (.int .i64 a) (.int .i64 b)) = some () := by
        unfold eqGuard; cases op <;> rfl
      have key : ∀ s : Sem Value, pureRun P s = some v → pureRun P (do eqGuard op t xo yo (.int .i64 a) (.int .i64 b); s) = some v := fun s hs => by
        rw [pureRun_bind, hg]; exact hs
      have hv : fromV v = .flat v := by
        cases op <;> simp only [fastI, someI64] at h <;> first
          | (cases h; done)
          | (cases h; rfl)
          | (split at h <;> cases h; rfl)
      have hb : pureRun P (binOp op t (.int .i64 a) (.int .i64 b)) = some v := by
        cases op <;> simp only [fastI, someI64] at h <;> first
          | (cases h; done)
          | (cases h; rfl)
          | (split at h
             · rename_i hin
               cases h
               simp only [inI64, Bool.and_eq_true, decide_eq_true_eq] at hin
               have := IntWalk.i64_in _ hin
               simp only [binOp, Op.intArith, this, ne_eq, not_true_eq_false, if_false]
               rfl
             · cases h)
      simp only [binA, toV]
      rw [key _ hb]
      simp [hv]
    · rfl
  · rfl
def oF_binOp (P : Program) (T : Tr AV) (_A : AW) (op : BinOp) (t : TypeId) (x : Operand) (y : Operand) : Option AR :=
  (binF P op t x y (ev T x) (ev T y)).map .val
def oF_unOp (P : Program) (T : Tr AV) (_A : AW) (op : UnOp) (x : Operand) : Option AR :=
  match ev T x with | .flat v => ((pureRun P (Op.unary op v)).map fromV).map .val | _ => none
def oF_convert (P : Program) (T : Tr AV) (A : AW) (src : TypeId) (dst : TypeId) (x : Operand) : Option AR :=
  convA P A src dst (ev T x)
def oF_makeSlice (P : Program) (T : Tr AV) (A : AW) (t : TypeId) (len : Operand) (cap : Operand) : Option AR :=
  match P.underlying t with
    | some (.slice elem) =>
      match P.info? elem, natOf? (ev T len), natOf? (ev T cap) with
      | some i, some l, some c =>
        match i.zero with
        | some z =>
          if l ≤ c && i.bytes * c ≤ 1000000000 && c ≤ 1000000000 && z.cells.size = i.size && i.size ≠ 0 then
            some (.new (.sl A.next 0 l c false) (.cells (zerosA (fromV z).cells c) elem))
          else none
        | none => none
      | _, _, _ => none
    | _ => none
def oF_slice (P : Program) (T : Tr AV) (_A : AW) (t : TypeId) (x : Operand) (lo : Option Operand) (hi : Option Operand) (mx : Option Operand) : Option AR :=
  (sliceA P t (ev T x) (lo.map (ev T)) (hi.map (ev T)) (mx.map (ev T))).map .val
def oF_fieldAddr (P : Program) (T : Tr AV) (_A : AW) (t : TypeId) (x : Operand) (f : Nat) : Option AR :=
  match P.underlying t, ev T x with
    | some (.struct fs), .ptr n k =>
      match fs[f]? with
      | some f => match sizeA P f.type with
        | some s => if s = 0 then none else some (.val (.ptr n (k + f.offset)))
        | none => none
      | none => none
    | _, _ => none
def oF_field (P : Program) (T : Tr AV) (_A : AW) (t : TypeId) (x : Operand) (f : Nat) : Option AR :=
  match P.underlying t, ev T x with
    | some (.struct fs), .agg l =>
      match fs[f]? with
      | some f => (partA P f.type l f.offset).map .val
      | none => none
    | _, _ => none
def oF_indexAddr (P : Program) (T : Tr AV) (_A : AW) (t : TypeId) (x : Operand) (ix : Operand) : Option AR :=
  match P.underlying t, ev T x, natOf? (ev T ix) with
    | some (.array len elem), .ptr n k, some i => match sizeA P elem with
      | some s => if i < len then some (.val (.ptr n (k + i * s))) else none
      | none => none
    | some (.slice elem), .sl n k len _ _, some i => match sizeA P elem with
      | some s => if i < len then some (.val (.ptr n (k + i * s))) else none
      | none => none
    | _, _, _ => none
def oF_index (P : Program) (T : Tr AV) (_A : AW) (t : TypeId) (x : Operand) (ix : Operand) : Option AR :=
  match P.underlying t, ev T x, natOf? (ev T ix) with
    | some (.array len elem), .agg l, some i => match sizeA P elem with
      | some s => if i < len then (partA P elem l (i * s)).map .val else none
      | none => none
    | some .string, .flat (.string s), some i => match s[i]? with
      | some b => some (.val (.flat (.int .u8 b.toNat)))
      | none => none
    | _, _, _ => none
def oF_lookup (P : Program) (T : Tr AV) (A : AW) (t : TypeId) (x : Operand) (ix : Operand) (ok : Bool) : Option AR :=
  (lookupA P A t (ev T x) (ev T ix) ok).map .val
def oF_mapUpdate (P : Program) (T : Tr AV) (A : AW) (t : TypeId) (m : Operand) (k : Operand) (x : Operand) : Option AR :=
  (updateA P A t (ev T m) (ev T k) (ev T x)).map (.chg undefA)
def oF_range (P : Program) (T : Tr AV) (A : AW) (t : TypeId) (x : Operand) : Option AR :=
  match P.underlying t, ev T x with
    | some .string, .flat (.string s) => some (.new (.ptr A.next 0) (.siter s 0))
    | some (.map _ _), .flat (.map none) => some (.new (.ptr A.next 0) (.miter none 0 [] [] 0))
    | some (.map _ _), .mp m => match A.get m with | some (.map es clock) => some (.new (.ptr A.next 0) (.miter (some m) clock [] (es.map (·.2.2)) clock)) | _ => none
    | _, _ => none
def oF_next (_P : Program) (T : Tr AV) (A : AW) (it : Operand) (isString : Bool) : Option AR :=
  nextA A (ev T it) isString
def oF_entry (_P : Program) (T : Tr AV) (A : AW) (it : Operand) : Option AR :=
  (entryOfA A (ev T it)).map .val
def oF_makeInterface (P : Program) (T : Tr AV) (_A : AW) (t : TypeId) (x : Operand) : Option AR :=
  match P.underlying t with
    | some (.interface _) => none
    | some _ => some (.val (.ifc t (ev T x)))
    | none => none
def oF_typeAssert (P : Program) (T : Tr AV) (_A : AW) (x : Operand) (t : TypeId) (ok : Bool) : Option AR :=
  match P.underlying t, ev T x with
    | some (.interface _), _ => none
    | some _, .ifc u v => if u = t then some (.val (if ok then .tup [v, .flat (.bool true)] else v)) else none
    | _, _ => none
def oF_extract (_P : Program) (T : Tr AV) (_A : AW) (t : Operand) (ix : Nat) : Option AR :=
  match ev T t with | .tup l => l[ix]?.map .val | _ => none
def oF_defer (_P : Program) (T : Tr AV) (_A : AW) (c : Call) : Option AR :=
  match c.callee with
    | .value f =>
      match ev T f with
      | .fn g fst cap => some (.dfr g (fst ++ c.args.toList.map (ev T)) cap)
      | _ => none
    | _ => none

def opF (P : Program) (T : Tr AV) (A : AW) (o : Oper) : Option AR :=
  match o.op with
  | .move x | .assign x => oF_move P T A x
  | .pick c a b => oF_pick P T A c a b
  | .alloc t => oF_alloc P T A t
  | .box t x => oF_box P T A t x
  | .build t parts => oF_build P T A t parts
  | .buildSlice t len parts => oF_buildSlice P T A t len parts
  | .load t a => oF_load P T A t a
  | .store t a x => oF_store P T A t a x
  | .nilCheck x => oF_nilCheck P T A x
  | .binOp op t x y _ => oF_binOp P T A op t x y
  | .unOp op _ x => oF_unOp P T A op x
  | .convert src dst x => oF_convert P T A src dst x
  | .makeFunc (.func f) a b => some (.val (.fn f (a.toList.map (ev T)) (b.toList.map (ev T))))
  | .makeMap _ none => some (.new (.mp A.next) (.map [] 0))
  | .makeMap t (some r) => match intOf? (ev T r), P.underlying t with | some _, some (.map _ _) => some (.new (.mp A.next) (.map [] 0)) | _, _ => none
  | .makeSlice t len cap => oF_makeSlice P T A t len cap
  | .slice t x lo hi mx => oF_slice P T A t x lo hi mx
  | .fieldAddr t x f => oF_fieldAddr P T A t x f
  | .field t x f => oF_field P T A t x f
  | .indexAddr t x ix => oF_indexAddr P T A t x ix
  | .index t x ix => oF_index P T A t x ix
  | .lookup t x ix ok => oF_lookup P T A t x ix ok
  | .mapUpdate t m k x | .insert t m k x => oF_mapUpdate P T A t m k x
  | .range t x => oF_range P T A t x
  | .next it isString => oF_next P T A it isString
  | .entry it => oF_entry P T A it
  | .makeInterface t x => oF_makeInterface P T A t x
  | .typeAssert x _ t ok => oF_typeAssert P T A x t ok
  | .extract t ix => oF_extract P T A t ix
  | .call c => callA P A c o.type T
  | .defer c => oF_defer P T A c
  | _ => none

theorem opF_eq (P : Program) (T : Tr AV) (A : AW) (o : Oper) : opF P T A o = opA P T A o := by
  obtain ⟨dst, op, ty, pos, after, gd⟩ := o
  cases op <;> first | rfl | (simp only [opF, oF_binOp, binF_eq]; rfl) | (rename_i f a b; cases f <;> rfl) | (rename_i f a b; cases f <;> cases a <;> cases b <;> rfl) | (rename_i f; cases f <;> rfl)
end
noncomputable section
inductive Req where
 | enter (f : FuncId) (args : List AV)
 | round (n : Nat) (args : List AV)
  | dfr (f : FuncId) (args : List AV)
 deriving Inhabited

inductive Def where
 | mark (r : Nat)
 | call (f : FuncId) (args cap : List AV)

abbrev Rec := Req → AW → Option (AV × AW)

def wantA (ops : Array Oper) (T : Tr AV) (o : Oper) : Option Bool :=
 match o.guard with
 | none => some true
 | some (j, want) =>
  match (ops[j]?).bind (·.dst) with
  | none => some false
  | some d =>
   match (T.get d).getD undefA with
   | .flat (.bool b) => some (b == want)
   | .flat _ => some false
   | _ => none

def setT (T : Tr AV) (d : Option Tmp) (v : AV) : Tr AV := match d with | some d => T.set d v | none => T

def dstOk (nt : Nat) (d : Option Tmp) : Bool := match d with | some d => Nat.blt d nt | none => true

def calledA (rec : Rec) (r : Req) (A : AW) : Option (Bool × AV × AW) :=
 match rec r A with
 | some (v, A') => if Nat.ble A.next A'.next then some (true, v, A') else none
 | none => none

def stepA (P : Program) (rec : Rec) (ops : Array Oper) (o : Oper) (T : Tr AV) (A : AW) : Option (Bool × AV × AW) :=
 match wantA ops T o with
 | none => none
 | some false => some (false, undefA, A)
 | some true =>
  match opF P T A o with
  | none => none
  | some (.val v) => some (false, v, A)
  | some (.new v ob) => some (true, v, A.new ob)
  | some (.chg v A') => if Nat.ble A.next A'.next then some (true, v, A') else none
  | some (.enter f args) => calledA rec (.enter f args) A
  | some (.round n args) => calledA rec (.round n args) A
  | some (.dfr _ _ _) => none

def deferA (P : Program) (ops : Array Oper) (o : Oper) (T : Tr AV) (A : AW) : Option Def :=
 match o.op with
 | .defer _ =>
  match wantA ops T o with
  | some true => match opF P T A o with
   | some (.dfr f args cap) => some (.call f args cap)
   | _ => none
  | _ => none
 | _ => none

abbrev OpsOut := Option (Tr AV × AW × List Def)
def opsPut (nt : Nat) (rnd : Bool) (o : Oper) (x : Def) (ih : Tr AV → AW → OpsOut) (T : Tr AV) (A : AW) : OpsOut :=
 match rnd with
 | true => none
 | false => if dstOk nt o.dst then
   match ih (setT T o.dst undefA) A with
   | some (T, A, xs) => some (T, A, xs ++ [x])
   | none => none
  else none
def opsGo (P : Program) (rec : Rec) (nt : Nat) (ops : Array Oper) (o : Oper) (ih : Tr AV → AW → OpsOut) (T : Tr AV) (A : AW) : OpsOut :=
 match stepA P rec ops o T A with
 | some (_, v, A) => if dstOk nt o.dst then ih (setT T o.dst v) A else none
 | none => none
def opsStep (P : Program) (rec : Rec) (nt : Nat) (rnd : Bool) (ops : Array Oper) (o : Oper) (ih : Tr AV → AW → OpsOut) (T : Tr AV) (A : AW) : OpsOut :=
 match deferA P ops o T A with
 | some x => opsPut nt rnd o x ih T A
 | none => opsGo P rec nt ops o ih T A
def opsA (P : Program) (rec : Rec) (nt : Nat) (rnd : Bool) (ops : Array Oper) (l : List Oper) : Tr AV → AW → OpsOut :=
 List.rec (motive := fun _ => Tr AV → AW → OpsOut) (fun T A => some (T, A, [])) (fun o _ ih => opsStep P rec nt rnd ops o ih) l

/-! ### Regions that draw their order -/

def bytesSame (a b : List UInt8) : Bool := decide (a = b)

def vSame : Value → Value → Bool
 | .int k n, .int k' n' => decide (k = k') && decide (n = n')
 | .bool b, .bool b' => b == b'
 | .string s, .string s' => bytesSame s.data.toList s'.data.toList
 | .pointer none, .pointer none => true
 | .slice none a b, .slice none a' b' => Nat.beq a a' && Nat.beq b b'
 | .map none, .map none => true
 | .nilFunc, .nilFunc => true
 | .nilIface, .nilIface => true
 | .tuple a, .tuple b => a.toList.isEmpty && b.toList.isEmpty
 | _, _ => false

mutual
def aSame : AV → AV → Bool
 | .flat v, .flat w => vSame v w
 | .ptr n o, .ptr n' o' => Nat.beq n n' && Nat.beq o o'
 | .sl n o l c b, .sl n' o' l' c' b' => Nat.beq n n' && Nat.beq o o' && Nat.beq l l' && Nat.beq c c' && b == b'
 | .sle n o p, .sle n' o' p' => Nat.beq n n' && Nat.beq o o' && Nat.beq p p'
 | .mp n, .mp n' => Nat.beq n n'
 | .fn f a b, .fn f' a' b' => Nat.beq f f' && asSame a a' && asSame b b'
 | .yld n, .yld n' => Nat.beq n n'
 | .ifc t v, .ifc t' v' => Nat.beq t t' && aSame v v'
 | .agg l, .agg l' => asSame l l'
 | .tup l, .tup l' => asSame l l'
 | .pick n i l, .pick n' i' l' => Nat.beq n n' && Nat.beq i i' && asSame l l'
 | .any, .any => true
 | .rng a b, .rng a' b' => decide (a = a') && decide (b = b')
 | _, _ => false
def asSame : List AV → List AV → Bool
 | [], [] => true
 | a :: l, b :: m => aSame a b && asSame l m
 | _, _ => false
end
structure Done where
 i : Nat
 o : Oper
 kind : Nat
 want : Bool
 v : AV
 T : Tr AV
 C : AW
 ab : Nat
 C' : AW
 ab' : Nat
 s : Nat
 e : Nat
 ob : AO
 mask : Nat

def addP : List Done → Nat → Nat → AW → AW
 | [], _, _, A => A
 | d :: l, m, ab, A =>
  match Nat.testBit m d.i && !Nat.testBit ab d.i with
  | true => addP l m ab (A.set d.s d.ob)
  | false => addP l m ab A
def runA (fs : List Done) (m ab s : Nat) (C : AW) : AW := { addP fs m ab C with next := s }

def again (P : Program) (q : Done) (A : AW) : Bool :=
 match opF P q.T A q.o with
 | some (.val v) => aSame v q.v
 | _ => false

def pairOk (P : Program) (fs : List Done) (x y : Done) : Bool :=
 match x.kind, y.kind with
 | 3, 3 => false
 | 3, 2 => again P y (runA fs y.mask x.ab y.s x.C) && again P y (runA fs y.mask x.ab' y.s x.C')
 | 2, 3 => again P x (runA fs x.mask y.ab x.s y.C) && again P x (runA fs x.mask y.ab' x.s y.C')
 | _, _ => true

def rowOk (P : Program) (fs : List Done) (y : Done) : List Done → Bool
 | [] => true
 | x :: l => (Nat.testBit y.mask x.i || pairOk P fs x y) && rowOk P fs y l

def pairsOk (P : Program) (fs : List Done) : List Done → Bool
 | [] => true
 | y :: l => match Nat.ble 2 y.kind with
  | true => rowOk P fs y l && pairsOk P fs l
  | false => pairsOk P fs l

def gone (A : AW) (n : Nat) : Bool := match A.get n with | none => true | some _ => false

def namesOk (A0 : AW) (fs all : List Done) : Bool :=
 fs.all fun f => gone A0 f.s && all.all fun l => match Nat.beq l.kind 3 with
  | true => (Nat.testBit l.ab f.i || gone l.C f.s) && (Nat.testBit l.ab' f.i || gone l.C' f.s)
  | false => true

def maskOf (ms : Tr Nat) (o : Oper) : Nat :=
 o.after.toList.foldl (fun s e => if Region.binds .any e then s ||| 2 ^ e.on ||| (ms.get e.on).getD 0 else s) 0
def masksL : Nat → List Oper → Tr Nat → List (Oper × Nat)
 | _, [], _ => []
 | i, o :: l, ms => (o, maskOf ms o) :: masksL (i + 1) l (ms.set i (maskOf ms o))

def edgesOk (i : Nat) (o : Oper) : Bool := o.after.toList.all fun e => !Region.binds .any e || Nat.blt e.on i
def apartRow (ops : Array Oper) (x : Oper) (i : Nat) : List (Oper × Nat) → Bool
 | [] => true
 | y :: l => (Nat.testBit y.2 i || x.apart ops y.1) && apartRow ops x i l
def apartAll (ops : Array Oper) (nt : Nat) : Nat → List (Oper × Nat) → Bool
 | _, [] => true
 | i, x :: l => edgesOk i x.1 && dstOk nt x.1.dst && apartRow ops x.1 i l && apartAll ops nt (i + 1) l
def staticOk (nt : Nat) (ops : Array Oper) : Bool := apartAll ops nt 0 (masksL 0 ops.toList .lf)

def notDead : AO → Bool | .dead => false | _ => true

def asksNone : Op → Bool
 | .load .. | .store .. | .lookup .. | .mapUpdate .. | .insert .. | .next .. | .entry .. | .call .. | .range .. => false
 | _ => true

def quietD (i : Nat) (o : Oper) (mask kind : Nat) (want : Bool) (v : AV) (T : Tr AV) (C : AW) (ab s : Nat) : Done :=
 { i, o, kind, want, v, T, C, ab, C' := C, ab' := ab, s, e := s, ob := .dead, mask }
def freshD (i : Nat) (o : Oper) (mask : Nat) (v : AV) (ob : AO) (T : Tr AV) (C : AW) (ab s : Nat) : Done :=
 { i, o, kind := 1, want := true, v, T, C, ab, C' := C, ab' := ab, s, e := s + 1, ob, mask }
def loudD (i : Nat) (o : Oper) (mask : Nat) (v : AV) (T : Tr AV) (C : AW) (ab s : Nat) (A' : AW) : Done :=
 { i, o, kind := 3, want := true, v, T, C, ab, C' := A', ab' := ab ||| mask, s, e := A'.next, ob := .dead, mask }

def askA (P : Program) (rec : Rec) (ops : Array Oper) (i : Nat) (o : Oper) (mask : Nat) (fs : List Done) (T : Tr AV) (C : AW) (ab s : Nat) : Option Done :=
 match stepA P rec ops o T (runA fs mask ab s C) with
 | some (false, v, _) => some (quietD i o mask 2 true v T C ab s)
 | some (true, v, A') => some (loudD i o mask v T C ab s A')
 | none => none

def pureA (P : Program) (rec : Rec) (ops : Array Oper) (i : Nat) (o : Oper) (mask : Nat) (fs : List Done) (T : Tr AV) (C : AW) (ab s : Nat) : Option Done :=
 match opF P T ⟨.lf, s⟩ o with
 | some (.val v) => some (quietD i o mask 0 true v T C ab s)
 | some (.new v ob) => match notDead ob with
  | true => some (freshD i o mask v ob T C ab s)
  | false => none
 | _ => askA P rec ops i o mask fs T C ab s

def oneA (P : Program) (rec : Rec) (ops : Array Oper) (i : Nat) (o : Oper) (mask : Nat) (fs : List Done) (T : Tr AV) (C : AW) (ab s : Nat) : Option Done :=
 match wantA ops T o with
 | none => none
 | some false => some (quietD i o mask 0 false undefA T C ab s)
 | some true =>
  match asksNone o.op with
  | true => pureA P rec ops i o mask fs T C ab s
  | false => askA P rec ops i o mask fs T C ab s

def moreF (d : Done) (fs : List Done) : List Done := match Nat.beq d.kind 1 with | true => d :: fs | false => fs

abbrev TrOut := Option (List Done × List Done × Tr AV × AW × Nat × Nat)
abbrev TrSelf := Nat → List Done → List Done → Tr AV → AW → Nat → Nat → TrOut
def traceStep (P : Program) (rec : Rec) (ops : Array Oper) (x : Oper × Nat) (ih : TrSelf) (i : Nat) (ds fs : List Done) (T : Tr AV) (C : AW) (ab s : Nat) : TrOut :=
 match oneA P rec ops i x.1 x.2 fs T C ab s with
 | none => none
 | some d => ih (i + 1) (d :: ds) (moreF d fs) (setT T x.1.dst d.v) d.C' d.ab' d.e
def traceA (P : Program) (rec : Rec) (ops : Array Oper) (l : List (Oper × Nat)) : TrSelf :=
 List.rec (motive := fun _ => TrSelf) (fun _ ds fs T C ab s => some (ds, fs, T, C, ab, s)) (fun x _ ih => traceStep P rec ops x ih) l

def endA (P : Program) (n : Nat) (A : AW) : List Done × List Done × Tr AV × AW × Nat × Nat → Option (Tr AV × AW)
 | (ds, fs, T', C, ab, s) =>
  match pairsOk P fs ds && namesOk A fs ds with
  | true => some (T', runA fs (2 ^ n - 1) ab s C)
  | false => none

def drawA (P : Program) (rec : Rec) (nt : Nat) (ops : Array Oper) (T : Tr AV) (A : AW) : Option (Tr AV × AW) :=
 match staticOk nt ops with
 | true =>
  match traceA P rec ops (masksL 0 ops.toList .lf) 0 [] [] T A 0 A.next with
  | none => none
  | some r => endA P ops.size A r
 | false => none

def regionA (P : Program) (rec : Rec) (nt : Nat) (rnd : Bool) (ops : Array Oper) (draw : Bool) (T : Tr AV) (A : AW) : Option (Tr AV × AW × List Def) :=
 match draw with
 | false => opsA P rec nt rnd ops ops.toList T A
 | true => match drawA P rec nt ops T A with
  | some (T, A) => some (T, A, [])
  | none => none

/-! ### Frames -/

structure Fr where
 fn : FuncId
 nt : Nat
 rnd : Option Nat
 T : Tr AV
 defs : List Def

inductive Jump where | ret | jump (c : Code)

abbrev Out := Option (Jump × Fr × AW)
abbrev Self := Fr → List Item → AW → Out

def itRet (fr : Fr) (A : AW) : Out := match fr.rnd with | some _ => some (.jump .ret, fr, A) | none => some (.ret, fr, A)
def itCond (self : Self) (fr : Fr) (c : Operand) (a b : Code) (k : List Item) (A : AW) : Out :=
 match boolOf? (ev fr.T c) with
 | some true => self fr (.code a :: k) A
 | some false => self fr (.code b :: k) A
 | none => none
def itExit (self : Self) (fr : Fr) (id : Nat) (k : List Item) (A : AW) : Out :=
 match exitTo id k with
 | some k => self fr k A
 | none => match fr.rnd with | some _ => some (.jump (.exit id), fr, A) | none => none
def itGoto (self : Self) (fr : Fr) (l : Nat) (k : List Item) (A : AW) : Out :=
 match gotoIn l k with
 | some k => self fr k A
 | none => match fr.rnd with | some _ => some (.jump (.goto l), fr, A) | none => none
def itRegion (P : Program) (rec : Rec) (self : Self) (fr : Fr) (ops : Array Oper) (draw : Bool) (k : List Item) (A : AW) : Out :=
 match regionA P rec fr.nt fr.rnd.isSome ops draw fr.T A with
 | some (T, A, xs) => self { fr with T, defs := xs ++ fr.defs } k A
 | none => none
def beginA (fr : Fr) (A : AW) : Option (Nat × List Def × AW) :=
 match fr.rnd with
 | some l => match A.get l with
  | some (.loop _ _ _ _ _ _ _ _ d) => some (d, fr.defs, A)
  | _ => none
 | none => some (A.next, .mark A.next :: fr.defs, A.new (.deferred false))
def itAfter (self : Self) (fr : Fr) (defs : List Def) (k : List Item) (l : Nat) (A3 : AW) : Out :=
 match A3.get l with
 | some (.loop st pend _ _ _ _ _ _ _) =>
  if st == .busy then none
  else self { fr with defs } ((pend.map Item.code).toList ++ k) (A3.set l .dead)
 | _ => none
def itCall (P : Program) (rec : Rec) (self : Self) (fr : Fr) (defs : List Def) (k : List Item) (g : FuncId) (args : List AV) (l : Nat) (A2 : AW) : Out :=
 match (P.funcs[g]?).bind (·.body) with
 | none => none
 | some _ =>
  match rec (.enter g args) A2 with
  | some (_, A3) => if Nat.ble (l + 1) A3.next then itAfter self fr defs k l A3 else none
  | none => none
def itRange (P : Program) (rec : Rec) (self : Self) (fr : Fr) (f : Operand) (ps : Array Tmp) (as body : Code) (k : List Item) (A : AW) : Out :=
 match beginA fr A with
 | none => none
 | some (d, defs, A1) =>
  match ev fr.T f with
  | .fn g fst cap => itCall P rec self fr defs k g (fst ++ [.yld A1.next] ++ cap) A1.next (A1.new (.loop .ready none fr.fn fr.nt fr.T ps.toList as body d))
  | _ => none
def itBegin (self : Self) (fr : Fr) (k : List Item) (A : AW) : Out :=
 match fr.rnd with
 | some l => match A.get l with
  | some (.loop .ready pend f nt T0 ps as b d) => self fr k (A.set l (.loop .busy pend f nt T0 ps as b d))
  | _ => none
 | none => none
def itCode (P : Program) (rec : Rec) (self : Self) (fr : Fr) (c : Code) (k : List Item) (A : AW) : Out :=
 match c with
 | .ret => itRet fr A
 | .skip => self fr k A
 | .label _ => self fr k A
 | .seq a b => self fr (.code a :: .code b :: k) A
 | .cond c a b => itCond self fr c a b k A
 | .block id body => self fr (.code body :: .inBlock id :: k) A
 | .loop body => self fr (.code body :: .inLoop body :: k) A
 | .scope body => self fr (.code body :: .inScope body :: k) A
 | .exit id => itExit self fr id k A
 | .goto l => itGoto self fr l k A
 | .region _ ops draw => itRegion P rec self fr ops draw k A
 | .rangeFunc f ps as body => itRange P rec self fr f ps as body k A
 | _ => none
def itItem (P : Program) (rec : Rec) (self : Self) (fr : Fr) (it : Item) (k : List Item) (A : AW) : Out :=
 match it with
 | .code c => itCode P rec self fr c k A
 | .inBlock _ => self fr k A
 | .inScope _ => self fr k A
 | .inLoop body => self fr (.code body :: .inLoop body :: k) A
 | .beginRound => itBegin self fr k A
 | _ => none
def itStep (P : Program) (rec : Rec) (ih : Self) (fr : Fr) (todo : List Item) (A : AW) : Out :=
 match todo with
 | [] => some (.ret, fr, A)
 | it :: k => itItem P rec ih fr it k A
def itemsA (P : Program) (rec : Rec) (m : Nat) : Self :=
 Nat.rec (motive := fun _ => Self) (fun _ _ _ => none) (fun _ ih => itStep P rec ih) m

def resultsA (P : Program) (fn : Func) (T : Tr AV) (A : AW) : Option AV :=
 match fn.results.toList.mapM fun
   | .tmp t => some ((T.get t).getD undefA)
   | .cell a t => match T.get a with
    | some (.ptr n o) => loadA P A t n o
    | _ => none with
 | some [v] => some v
 | some vs => some (.tup vs)
 | none => none

def args0 : Nat → List AV → Tr AV → Tr AV
 | _, [], T => T
 | i, v :: l, T => args0 (i + 1) l (T.set i v)

def argsAt (nt : Nat) : List Tmp → List AV → Tr AV → Option (Tr AV)
 | [], [], T => some T
 | t :: ps, v :: l, T => if Nat.blt t nt then argsAt nt ps l (T.set t v) else none
 | _, _, _ => none

def takeA (rec : Rec) : List Def → AW → Option AW
 | [], A => some A
 | .mark r :: l, A => match A.get r with
  | some (.deferred false) => takeA rec l (A.set r .dead)
  | _ => none
 | .call f args cap :: l, A => match rec (.dfr f (args ++ cap)) A with
  | some (_, A') => if Nat.ble A.next A'.next then takeA rec l A' else none
  | none => none

/-! ### A sort of a row of picks: every order of them -/

def inserts {α : Type} (x : α) : List α → List (List α)
 | [] => [[x]]
 | y :: l => (x :: y :: l) :: (inserts x l).map (y :: ·)
def perms {α : Type} : List α → List (List α)
 | [] => [[]]
 | x :: l => (perms l).flatMap (inserts x)

def allPicks (i : Nat) (keys : List AV) : List Nat → List AV → Bool
 | [], [] => true
 | n :: ns, .pick m j l :: r => Nat.beq m n && Nat.beq j i && asSame l keys && allPicks i keys ns r
 | _, _ => false

def orders (rec : Rec) (f : FuncId) (args : List AV) (n next : Nat) (t : TypeId) : List (List AV) → Option (AV × List AV)
 | [] => none
 | [l] => match rec (.enter f args) ⟨Tr.lf.set n (.cells l t), next⟩ with
  | some (v, A) => match A.get n with
   | some (.cells r t') => if Nat.beq A.next next && Nat.beq t t' then some (v, r) else none
   | _ => none
  | none => none
 | l :: m => match rec (.enter f args) ⟨Tr.lf.set n (.cells l t), next⟩ with
  | some (v, A) => match A.get n with
   | some (.cells r t') =>
    match orders rec f args n next t m with
    | some (v', r') => if Nat.beq A.next next && Nat.beq t t' && aSame v v' && asSame r r' then some (v', r') else none
    | none => none
   | _ => none
  | none => none

def sortA (_P : Program) (rec : Rec) (f : FuncId) (args : List AV) (A : AW) : Option (AV × AW) :=
 match args with
 | [.sl n o len cap opn] =>
  match A.get n with
  | some (.cells (.pick m i keys :: r) t) =>
   match A.get i with
   | some (.miter _ _ seen bs _) =>
    if allPicks i keys seen (.pick m i keys :: r) && Nat.beq seen.length bs.length && Nat.beq keys.length bs.length && keys.all AV.one then
     match orders rec f [.sl n o len cap opn] n A.next t (perms keys) with
     | some (v, r) => some (v, A.set n (.cells r t))
     | none => none
    else none
   | _ => none
  | _ => none
 | _ => none

def isPicks (args : List AV) (A : AW) : Bool :=
 match args with
 | [.sl n _ _ _ _] => match A.get n with
  | some (.cells (.pick _ _ _ :: _ :: _) _) => true
  | _ => false
 | _ => false

def callsOk (P : Program) : List Def → Bool
 | [] => true
 | .mark _ :: l => callsOk P l
 | .call f _ _ :: l => (match P.funcs[f]? with | some fn => fn.body.isSome | none => false) && callsOk P l

def bodyA (P : Program) (rec : Rec) (m : Nat) (f : FuncId) (args : List AV) (A : AW) : Option (AV × AW) :=
 match P.funcs[f]? with
 | none => none
 | some fn =>
  match fn.body with
  | none => none
  | some body =>
   if Nat.ble args.length fn.ntmps then
    match itemsA P rec m { fn := f, nt := fn.ntmps, rnd := none, T := args0 0 args .lf, defs := [] } [.code body] A with
    | some (.ret, fr, A) => match (if callsOk P fr.defs then takeA rec fr.defs A else none) with
     | some A => match resultsA P fn fr.T A with
      | some v => some (v, A)
      | none => none
     | none => none
    | _ => none
   else none

def roundA (P : Program) (rec : Rec) (m : Nat) (n : Nat) (args : List AV) (A : AW) : Option (AV × AW) :=
 match A.get n with
 | some (.loop _ _ f nt T ps as body _) =>
  match argsAt nt ps args T with
  | none => none
  | some T =>
   match itemsA P rec m { fn := f, nt, rnd := some n, T, defs := [] } [.code as, .beginRound, .code body] A with
   | some (j, _, A) =>
    match A.get n with
    | some (.loop _ _ f nt T0 ps as b d) =>
     match j with
     | .ret => some (.flat (.bool true), A.set n (.loop .ready none f nt T0 ps as b d))
     | .jump c => some (.flat (.bool false), A.set n (.loop .done (some c) f nt T0 ps as b d))
    | _ => none
   | none => none
 | _ => none

def reqA (P : Program) (hk : FuncId → Bool) (m : Nat) : Nat → Req → AW → Option (AV × AW)
 | 0, _, _ => none
 | d + 1, .enter f args, A =>
  match hk f && args.isEmpty with
  | true => some (.flat (.bool true), A)
  | false =>
   match isPicks args A with
   | true => sortA P (reqA P hk m d) f args A
   | false => bodyA P (reqA P hk m d) m f args A
 | d + 1, .round n args, A => roundA P (reqA P hk m d) m n args A
 | d + 1, .dfr f args, A => bodyA P (reqA P hk m d) m f args A

def isTrue : Option (AV × AW) → Bool
 | some (.flat (.bool b), _) => b
 | _ => false

def noHook : FuncId → Bool := fun _ => false
end
section
variable {P : Program} {ρ : Rn} {A : AW} {w : World}
theorem str_bytes_made {e : TypeId} (s : ByteArray) (w : World) :
  ∃ obj w' room, (Conv.stringToBytes e s).run P w = .ok (.slice (some ⟨w.heap.size, 0, none⟩) s.size (s.size + room)) w' ∧ Pushed w obj w' ∧
   ∀ ρ', P.cellsOf e = 1 → OR P ρ' ⟨w.heap.size, 0, room⟩ (.cells (s.data.toList.map fun b => .flat (.int .u8 b.toNat)) e) obj := by
 have hge : s.size ≤ (Question.appendCap s.size 0 e).cut (w.tape w.drawn (.appendCap s.size 0 e)) := by simp [Question.cut]
 generalize hcap : (Question.appendCap s.size 0 e).cut (w.tape w.drawn (.appendCap s.size 0 e)) = cap at hge
 let C : Array Value := (s.data.map fun b => Value.int .u8 b.toNat) ++ Array.replicate (cap - s.size) (.int .u8 0)
 have hC : C.size = cap := by
  have : s.data.size = s.size := rfl
  simp [C, this]; omega
 let w1 : World := { w with heap := w.heap.push (.cells C e), drawn := w.drawn + 1 }
 have h1 : w1.shape? w.heap.size = some (e, cap) := by
  simp [w1, World.shape?, hC]
 have hrow : (newRow e C).run P { w with drawn := w.drawn + 1 } = .ok ⟨w.heap.size, 0, none⟩ w1 := rfl
 have hfz : ∀ j : Nat, (w1.freeze ⟨w.heap.size, cap, none⟩ 1).heap[j]? = (w.heap.push (.cells C e (cap, cap + 1)))[j]? := by
  intro j
  unfold World.freeze
  simp only [Nat.one_ne_zero, if_false]
  simp only [Array.getElem?_modify, w1, Array.getElem?_push]
  by_cases hj : j = w.heap.size
  ·subst hj; simp
  ·have : ¬ w.heap.size = j := fun h => hj h.symm
   simp [hj, this]
 have hfr := freeze_rest w1 ⟨w.heap.size, cap, none⟩ 1
 refine ⟨.cells C e (cap, cap + 1), w1.freeze ⟨w.heap.size, cap, none⟩ 1, cap - s.size, ?_, ⟨Array.ext_getElem? hfz, hfr.2.2.1, hfr.2.2.2.1, hfr.2.2.2.2⟩, fun ρ' hc => ?_⟩
 ·have e1 : s.size + (cap - s.size) = cap := by omega
  rw [e1]
  simp only [Conv.stringToBytes, Sem.run_bind, run_choose, Question.forced, hcap, if_false, Bool.false_eq_true, Result.andThen_ok]
  rw [show (newRow e ((s.data.map fun b => Value.int .u8 b.toNat) ++ Array.replicate (cap - s.size) (.int .u8 0))).run P { w with drawn := w.drawn + 1 } = .ok ⟨w.heap.size, 0, none⟩ w1 from hrow]
  simp [markStringish, h1]
 ·refine ⟨C, (cap, cap + 1), rfl, ?_, ?_, fun i a hi => ?_⟩
  ·simp [hC, hc]
   have : s.data.size = s.size := rfl
   omega
  ·right; simp [hC]
  ·have := bytes_flats (ρ := ρ') s.data.toList
   obtain ⟨v, v1, v2⟩ := this.get hi
   refine ⟨v, ?_, v2⟩
   have hl : i < s.data.size := by have := (List.getElem?_eq_some_iff.1 v1).1; simpa using this
   simp only [Nat.zero_add, C]
   rw [Array.getElem?_append_left (by simpa using hl)]
   simp at v1 ⊢
   exact v1

theorem conv_sound (hs : Sim P ρ A.live w) {src dst : TypeId} {x : AV} {r : AR} {v : Value} (h : convA P A src dst x = some r) (hv : VR ρ x v) : ArOk P ρ A w ((vOf (convert src dst v)).run P w) r := by
 unfold convA at h
 split at h
 ·rename_i ds e s hu1 hu2
  split at h
  ·rename_i he
   split at h
   ·rename_i hc
    simp only [Bool.and_eq_true, decide_eq_true_eq] at hc
    cases h; cases hv
    obtain ⟨obj, w', room, g1, g2, g3⟩ := str_bytes_made (P := P) (e := e) s w
    refine ⟨_, obj, w', room, gives_v (by simp [convert, run_und hu1, run_und hu2, run_und he]; exact g1), g2, fun ρ' hsub hat => ⟨VR.sl (l := ⟨w.heap.size, 0, room⟩) 0 s.size s.size true hat, g3 ρ' (size_of_sizeA hc.1)⟩⟩
   ·cases h
  ·cases h
 ·rename_i e0 e n o l c b hu1 hu2
  split at h
  ·rename_i hsd he
   split at h
   ·rename_i xs e' hc
    cases h
    intro _
    cases hv with
    | sl _ _ _ _ hl =>
    rename_i lo
    obtain ⟨C, fz, b1, b2, b3, b4⟩ := hs.block (cellsOf_live hc) hl
    obtain ⟨f1, f2, f3, f4, f5⟩ := freeze_rest w ⟨lo.blk, C.size, none⟩ 1
    have hsd' : src = dst := by simpa using hsd
    refine ⟨_, w.freeze ⟨lo.blk, C.size, none⟩ 1, ρ, gives_v (by
      simp [convert, run_und hu2, run_und he, hsd', markStringish, World.shape?, b1]), .sl _ _ _ _ hl, ?_, Ext.setAt (cellsOf_live hc) hl f1 f2 f3 f4 f5⟩
    refine hs.setAt (cellsOf_live hc) hl (o' := .cells C e' (if fz.1 == fz.2 then (C.size, C.size + 1) else (min fz.1 C.size, max fz.2 (C.size + 1)))) ?_ ⟨C, _, rfl, b2, ?_, b4⟩ f1
    ·unfold World.freeze
     simp [Array.getElem?_modify, b1]
    ·split
     ·right; simp
     ·rename_i hne
      rcases b3 with b3 | b3
      ·exact absurd (by simpa using b3) hne
      ·right; simp; omega
   ·cases h
  ·cases h
 ·rename_i e hu1 hu2
  split at h
  ·rename_i he
   cases h; cases hv
   exact ⟨_, gives_v (by simp [convert, run_und hu1, run_und hu2, run_und he, Conv.bytesToString]), .flat _⟩
  ·cases h
 ·rename_i e n o len _ _ hu1 hu2
  split at h
  ·rename_i l t he hc
   split at h
   ·rename_i row hcut
    split at h
    ·rename_i ns hns
     cases h
     cases hv with
     | sl _ _ _ _ hl =>
     obtain ⟨vs, v1, v2, v3⟩ := hs.row (cellsOf_live hc) hl hcut
     have hvs := u8s_spec hns v1
     have hload := run_loadCells_list (P := P) w _ vs v3
     rw [v2, hvs] at hload
     exact ⟨_, gives_v ((run_convert_bytes_string (P := P) w src dst e _ len _ hu1 he hu2).trans (run_bytesToString (P := P) w _ len _ ns hload)), .flat _⟩
    ·cases h
   ·cases h
  ·cases h
 ·rename_i lo hi hu1 hu2
  split at h
  ·rename_i hb
   cases h
   cases hv with
   | rng h1 h2 =>
   rename_i n
   refine ⟨.int .i64 n, gives_v ?_, .rng h1 h2⟩
   have hw : IntKind.i64.wrap n = n := IntWalk.i64_in n (by omega)
   simp [convert, run_und hu1, run_und hu2, Conv.intToInt, hw]
  ·cases h
 ·rename_i v0 hu1 hu2
  split at h
  ·rename_i r' hr
   cases h; cases hv
   exact ⟨_, gives_v (pureRun_spec _ _ hr w), VR.fromV _⟩
  ·cases h
 ·cases h
end
section
variable {P : Program} {ρ : Rn} {A : AW} {w : World}
theorem Sim.iterAt (hs : Sim P ρ A.live w) {n : Nat} {l : Loc} {ao : AO} (h : A.get n = some ao) (hd : ao ≠ .dead) (hl : ρ n = some l) : ∃ o, w.heap[l.blk]? = some o ∧ OR P ρ l ao o := by
 obtain ⟨l', o, h1, h2, h3⟩ := hs.obj n _ (live_of_get h hd)
 rw [hl] at h1; cases h1
 exact ⟨o, h2, h3⟩

theorem ERs.all {l : List (AV × AV × Nat)} {cs : List MapEntry} (h : ERs ρ l cs) (p : Nat → Bool) : cs.all (fun c => p c.born) = l.all fun x => p x.2.2 := by
 induction h with
 | nil => rfl
 | cons a b c _ ih => simp only [List.all_cons, c, ih]

theorem setObj_iter {r : Nat} {o o' : Obj} (h : w.heap[r]? = some o) (hn : ∀ c t f, o ≠ .cells c t f) :
  ∃ w', (setObj r o').run P w = .ok () w' ∧ w'.heap[r]? = some o' ∧ (∀ b, b ≠ r → w'.heap[b]? = w.heap[b]?) ∧ w'.heap.size = w.heap.size ∧ w'.os = w.os ∧ w'.tape = w.tape ∧ w'.output = w.output := by
 refine ⟨{ w with heap := w.heap.setIfInBounds r o' }, ?_, ?_, ?_, by simp, rfl, rfl, rfl⟩
 ·cases o with
  | cells c t f => exact absurd rfl (hn c t f)
  | _ => simp [setObj, Sem.run, h]
 ·have := (Array.getElem?_eq_some_iff.1 h).1
  simp [this]
 ·intro b hb
  simp [Ne.symm hb]

theorem run_get {r : Nat} {o : Obj} (h : w.heap[r]? = some o) (hn : ∀ c t f, o ≠ .cells c t f) : (getObj r).run P w = .ok o w := by
 cases o with
 | cells c t f => exact absurd rfl (hn c t f)
 | _ => simp [getObj, Sem.run, h]

theorem run_next_map {r m since last clock : Nat} {sp : Option Nat} {cs : List MapEntry} {seen : List Nat} {ty : TypeId} (h1 : w.heap[r]? = some (.mapIter (some m) since seen.toArray last)) (h2 : w.heap[m]? = some (.map cs.toArray clock))
  (hok : (!seen.isEmpty && !cs.isEmpty && cs.all fun c => decide (c.born ≥ last)) = false) {L : List MapEntry} (hL : cs.filter (fun c => !seen.contains c.born) = L) (hall : ∀ c ∈ L, c.born < since) :
  (L = [] → (Instr.next (.pointer (some ⟨r, 0, sp⟩)) false ty).run P w = .ok (.tuple #[.bool false]) w) ∧
  (L ≠ [] → ∃ (i : Nat) (c : MapEntry) (wd : World), L[i]? = some c ∧ (wd = w ∨ wd = { w with drawn := w.drawn + 1 }) ∧
   (Instr.next (.pointer (some ⟨r, 0, sp⟩)) false ty).run P w = ((setObj r (.mapIter (some m) since (seen ++ [c.born]).toArray clock)).run P wd).andThen fun _ w' => .ok (.tuple #[.bool true, c.key, c.val]) w') := by
 have g1 := run_get (P := P) h1 (by simp)
 have g2 := run_get (P := P) h2 (by simp)
 have e1 : (cs.toArray.filter fun e => !seen.toArray.contains e.born) = L.toArray := by
  rw [← hL]; simp
 have e2 : (L.toArray.filter fun e => decide (e.born < since)) = L.toArray := by
  simp
  intro c hc; exact hall c hc
 have e3 : (L.toArray.filter fun e => decide (e.born ≥ since)) = #[] := by
  simp
  intro c hc; have := hall c hc; omega
 have hok' : (!seen.toArray.isEmpty && !cs.toArray.isEmpty && cs.toArray.all fun c => decide (c.born ≥ last)) = false := by
  simpa using hok
 constructor
 ·rintro rfl
  simp only [Instr.next, Sem.run_bind, g1, Result.andThen_ok, g2, hok', e1, e2, e3]
  simp [Question.forced]
 ·intro hne
  have hem : L.toArray.isEmpty = false := by cases L <;> simp at hne ⊢
  have hc : ((if L.toArray.isEmpty then #[none] else #[]) ++ (L.toArray ++ #[]).map some : Array (Option MapEntry)) = (L.map some).toArray := by
   simp [hem]
  have hpos : 0 < L.length := by cases L with | nil => exact absurd rfl hne | cons => simp
  by_cases hone : L.length ≤ 1
  ·obtain ⟨c, h0⟩ : ∃ c, L[0]? = some c := ⟨L[0], List.getElem?_eq_getElem hpos⟩
   refine ⟨0, c, w, h0, .inl rfl, ?_⟩
   simp only [Instr.next, Sem.run_bind, g1, Result.andThen_ok, g2, hok', e1, e2, e3, hc]
   simp [Question.forced, hone, h0]
  ·have hlt : (w.tape w.drawn (.mapNext L.length)) % L.length < L.length := Nat.mod_lt _ hpos
   obtain ⟨c, h0⟩ : ∃ c, L[(w.tape w.drawn (.mapNext L.length)) % L.length]? = some c := ⟨_, List.getElem?_eq_getElem hlt⟩
   refine ⟨(w.tape w.drawn (.mapNext L.length)) % L.length, c, { w with drawn := w.drawn + 1 }, h0, .inr rfl, ?_⟩
   simp only [Instr.next, Sem.run_bind, g1, Result.andThen_ok, g2, hok', e1, e2, e3, hc]
   simp [Question.forced, hone, Question.cut, h0]

theorem sameNats_spec : ∀ {a b : List Nat}, sameNats a b = true → a = b
 | [], [], _ => rfl
 | [], _ :: _, h | _ :: _, [], h => by simp [sameNats] at h
 | a :: l, b :: m, h => by
  simp only [sameNats, Bool.and_eq_true] at h
  rw [Nat.eq_of_beq_eq_true h.1, sameNats_spec h.2]

theorem rising_spec : ∀ {l : List Nat}, rising l = true → l.Pairwise (· < ·)
 | [], _ => .nil
 | [a], _ => by simp
 | a :: b :: l, h => by
  simp only [rising, Bool.and_eq_true] at h
  have h1 : a < b := by simpa [Nat.blt_eq] using h.1
  have h2 := rising_spec h.2
  rw [List.pairwise_cons]
  refine ⟨fun c hc => ?_, h2⟩
  rcases List.mem_cons.1 hc with rfl | hc
  ·exact h1
  ·exact Nat.lt_trans h1 ((List.pairwise_cons.1 h2).1 c hc)

theorem rising_inj {l : List Nat} (h : rising l = true) {i j : Nat} (hi : i < l.length) (hj : j < l.length) (e : l.getD i 0 = l.getD j 0) : i = j := by
 have hp := List.pairwise_iff_getElem.1 (rising_spec h)
 simp only [List.getD_eq_getElem?_getD, List.getElem?_eq_getElem hi, List.getElem?_eq_getElem hj, Option.getD_some] at e
 rcases Nat.lt_trichotomy i j with k | k | k
 ·have := hp i j hi hj k; omega
 ·exact k
 ·have := hp j i hj hi k; omega

theorem nodup_le : ∀ (l m : List Nat), l.Nodup → (∀ x ∈ l, x ∈ m) → l.length ≤ m.length
 | [], _, _, _ => Nat.zero_le _
 | a :: l, m, h, k => by
  have ha := k a (by simp)
  have hn := List.nodup_cons.1 h
  have := nodup_le l (m.erase a) hn.2 fun x hx => (List.mem_erase_of_ne (by rintro rfl; exact hn.1 hx)).2 (k x (by simp [hx]))
  have h0 : 0 < m.length := List.length_pos_of_mem ha
  rw [List.length_erase_of_mem ha] at this
  simp only [List.length_cons]; omega

theorem nodup_full {l : List Nat} {n : Nat} (h : l.Nodup) (hl : ∀ i ∈ l, i < n) (he : l.length = n) (j : Nat) (hj : j < n) : j ∈ l := by
 apply Classical.byContradiction
 intro hn
 have := nodup_le (j :: l) (List.range n) (List.nodup_cons.2 ⟨hn, h⟩) fun x hx => by
  rcases List.mem_cons.1 hx with rfl | hx
  ·simpa using hj
  ·simpa using hl x hx
 simp at this; omega

theorem nodup_hole {l : List Nat} {n : Nat} (he : l.length < n) : ∃ j, j < n ∧ j ∉ l := by
 apply Classical.byContradiction
 intro hn
 have hall : ∀ j, j < n → j ∈ l := fun j hj => Classical.byContradiction fun h => hn ⟨j, hj, h⟩
 have := nodup_le (List.range n) l List.nodup_range fun x hx => hall x (by simpa using hx)
 simp at this; omega

theorem Sim.sub {H : Nat → Option AO} {ρ' : Rn} (hs : Sim P ρ H w) (s : Sub ρ ρ') : Sim P ρ' H w where
 obj n ao h := by obtain ⟨l, o, a, b, c⟩ := hs.obj n ao h; exact ⟨l, o, s _ _ a, b, c.mono s⟩
 inj n m a b l l' h1 h2 e1 e2 he := by
  obtain ⟨l1, _, a1, _⟩ := hs.obj n a h1
  obtain ⟨l2, _, a2, _⟩ := hs.obj m b h2
  have := s _ _ a1; rw [e1] at this; cases this
  have := s _ _ a2; rw [e2] at this; cases this
  exact hs.inj n m a b l l' h1 h2 a1 a2 he

theorem Ext.name (hs : Sim P ρ A.live w) (c : Loc) (hf : ρ A.next = none) : Ext ρ w A (upd ρ A.next c) w { A with next := A.next + 1 } where
 sub := upd_sub hf
 fresh m e k := by
  by_cases h : m = A.next
  ·subst h; exact ⟨Nat.le_refl _, Nat.lt_succ_self _⟩
  ·simp only [upd, if_neg h] at k; exact absurd e k
 next := Nat.le_succ _
 dom m ao h := .inl ⟨ao, h⟩
 back m ao l h e := by
  refine .inr ⟨m, ao, l, h, ?_, rfl⟩
  obtain ⟨l2, _, e2, _⟩ := hs.obj m ao h
  have := upd_sub (l := c) hf _ _ e2
  rw [e] at this; cases this; exact e2
 keep _ _ _ := rfl
 size := Nat.le_refl _
 os := rfl
 tape := rfl
 output := rfl

theorem pickOf_sound {n i : Nat} {es : List (AV × AV × Nat)} {cs : List MapEntry} {k : AV} {l : List AV} {c : Loc} {ce : MapEntry} (h : pickOf n i es = some (k, l)) (he : ERs ρ es cs) (hn : ρ n = some c) (hc : cs[c.blk]? = some ce) :
  VR ρ k ce.key ∧ ((∃ x, l = [x] ∧ VR ρ x ce.val) ∨ l = []) := by
 have hlt : c.blk < es.length := by have := he.length; have := (List.getElem?_eq_some_iff.1 hc).1; omega
 obtain ⟨c', g1, g2, g3, g4⟩ := he.get (List.getElem?_eq_getElem hlt)
 rw [hc] at g1; cases g1
 unfold pickOf at h
 split at h
 ·cases h
  have : c.blk = 0 := by simpa using hlt
  simp [this] at g2 g3
  exact ⟨g2, .inl ⟨_, rfl, g3⟩⟩
 ·split at h
  ·rename_i hone
   cases h
   have ho := List.all_eq_true.1 hone _ (List.getElem_mem hlt)
   refine ⟨.pick i hn (by rw [List.getElem?_map, List.getElem?_eq_getElem hlt]; rfl) ho g2, ?_⟩
   split
   ·rename_i hv
    have hv' := List.all_eq_true.1 hv _ (List.getElem_mem hlt)
    exact .inl ⟨_, rfl, .pick i hn (by rw [List.getElem?_map, List.getElem?_eq_getElem hlt]; rfl) hv' g3⟩
   ·exact .inr rfl
  ·cases h

theorem ERs.births {l : List (AV × AV × Nat)} {cs : List MapEntry} (h : ERs ρ l cs) : cs.map (·.born) = l.map (·.2.2) := by
 induction h with
 | nil => rfl
 | cons _ _ e _ ih => simp [ih, e]

theorem next_sound (hs : Sim P ρ A.live w) {it : AV} {b : Bool} {ty : TypeId} {r : AR} {v : Value} (h : nextA A it b = some r) (hv : VR ρ it v) : ArOk P ρ A w ((vOf (Instr.next v b ty)).run P w) r := by
 unfold nextA at h
 split at h
 ·rename_i n
  cases hv with
  | ptr _ hl =>
  rename_i l
  obtain ⟨lb, lbase, lroom⟩ := l
  split at h
  ·-- a text
   rename_i s pos hg
   obtain ⟨o, h1, h2, h3⟩ := hs.iterAt hg (by simp) hl
   simp only at h1 h2
   subst h2
   subst h3
   have hgo := run_get (P := P) h1 (by simp)
   split at h
   ·rename_i hp
    cases h
    intro _
    obtain ⟨w', s1, s2, s3, s4, s5, s6, s7⟩ := setObj_iter (P := P) (o' := .stringIter s (pos + (Utf8.decode s pos).2)) h1 (by simp)
    refine ⟨_, w', ρ, gives_v (x := .tuple #[.bool true, goInt pos, .int .i32 (Utf8.decode s pos).1]) ?_, ?_, hs.setAt (live_of_get hg (by simp)) hl s2 ⟨rfl, rfl⟩ s3, Ext.setAt (live_of_get hg (by simp)) hl s3 s4 s5 s6 s7⟩
    ·simp [Instr.next, hgo, hp, s1]
    ·exact .tup (.cons (.flat _) (.cons (.flat _) (.cons (.flat _) .nil)))
   ·rename_i hp
    cases h
    refine ⟨_, gives_v (x := .tuple #[.bool false]) ?_, .tup (.cons (.flat _) .nil)⟩
    simp [Instr.next, hgo, hp]
  ·rename_i _ _ _ _ hg
   obtain ⟨o, h1, h2, mr, sn, h3, h4, -⟩ := hs.iterAt hg (by simp) hl
   simp only at h1 h2 h4
   subst h2; subst h3; subst h4
   have hgo := run_get (P := P) h1 (by simp)
   cases h
   refine ⟨_, gives_v (x := .tuple #[.bool false]) ?_, .tup (.cons (.flat _) .nil)⟩
   simp [Instr.next, hgo]
  ·rename_i m since seen bs last hg
   obtain ⟨o, h1, h2, mr, sn, h3, ⟨lm, h4, h5⟩, idx, d1, d2, d3, d4⟩ := hs.iterAt hg (by simp) hl
   simp only at h1 h2
   subst h2; subst h3; subst h5
   split at h
   ·rename_i es clock hgm
    obtain ⟨cs, m1, m2⟩ := hs.mapAt hgm h4
    split at h
    ·cases h
    ·rename_i hok
     have hsl : sn.length = seen.length := by rw [d4, List.length_map, d1.length]
     have hokc : (!sn.isEmpty && !cs.isEmpty && cs.all fun c => decide (c.born ≥ last)) = false := by
      have e1 : cs.isEmpty = es.isEmpty := by
       have := m2.length
       cases es <;> cases cs <;> simp at this ⊢
      have e2 : sn.isEmpty = seen.isEmpty := by cases sn <;> cases seen <;> simp at hsl ⊢
      rw [m2.all (fun b => decide (b ≥ last)), e1, e2]
      simpa using hok
     split at h
     ·rename_i hb
      simp only [Bool.and_eq_true] at hb
      obtain ⟨⟨hb1, hb2⟩, hb3⟩ := hb
      have hbs : cs.map (·.born) = bs := m2.births.trans (sameNats_spec hb1)
      have hbl : bs.length = cs.length := by rw [← hbs, List.length_map]
      have hborn : ∀ j c, cs[j]? = some c → bs.getD j 0 = c.born := fun j c e => by
       rw [← hbs, List.getD_eq_getElem?_getD, List.getElem?_map, e]; rfl
      have hall : ∀ c ∈ cs, c.born < since := fun c hc => by
       have : c.born ∈ bs := by rw [← hbs]; exact List.mem_map.2 ⟨c, hc, rfl⟩
       simpa using List.all_eq_true.1 hb3 _ this
      generalize hL : cs.filter (fun c => !sn.contains c.born) = L
      have hallL : ∀ c ∈ L, c.born < since := fun c hc => hall c (by rw [← hL] at hc; exact (List.mem_filter.1 hc).1)
      obtain ⟨r1, r2⟩ := run_next_map (P := P) (sp := none) (ty := ty) h1 m1 hokc hL hallL
      split at h
      ·rename_i hlen
       cases h
       have hlen' : idx.length = bs.length := by rw [d1.length]; simpa using hlen
       have hnil : L = [] := by
        rw [← hL, List.filter_eq_nil_iff]
        intro c hc
        obtain ⟨j, hj⟩ := List.mem_iff_getElem?.1 hc
        have hjl : j < bs.length := by rw [hbl]; exact (List.getElem?_eq_some_iff.1 hj).1
        have hm := nodup_full d2 d3 hlen' j hjl
        have : c.born ∈ sn := by rw [d4, ← hborn j c hj]; exact List.mem_map.2 ⟨j, hm, rfl⟩
        simp [this]
       exact ⟨_, gives_v (by simpa using r1 hnil), .tup (.cons (.flat _) .nil)⟩
      ·split at h
       ·rename_i hlt
        split at h
        ·rename_i k l hp
         cases h
         intro hfree
         have hf : ρ A.next = none := hfree A.next (Nat.le_refl _) (Nat.lt_succ_self _)
         have hne : L ≠ [] := by
          obtain ⟨j, j1, j2⟩ := nodup_hole (l := idx) (n := bs.length) (by rw [d1.length]; exact hlt)
          intro hnil
          have hjc : cs[j]? = some (cs[j]'(by omega)) := List.getElem?_eq_getElem (by omega)
          have hmem : cs[j]'(by omega) ∈ L := by
           rw [← hL, List.mem_filter]
           refine ⟨List.getElem_mem _, ?_⟩
           have : (cs[j]'(by omega)).born ∉ sn := by
            rw [d4, ← hborn j _ hjc]
            intro hm
            obtain ⟨i, i1, i2⟩ := List.mem_map.1 hm
            exact j2 (rising_inj hb2 (d3 i i1) j1 i2 ▸ i1)
           simp [this]
          rw [hnil] at hmem; cases hmem
         obtain ⟨i, c, wd, i1, i2, i3⟩ := r2 hne
         have hcL : c ∈ L := List.mem_of_getElem? i1
         rw [← hL, List.mem_filter] at hcL
         obtain ⟨hc1, hc2⟩ := hcL
         obtain ⟨j, hj⟩ := List.mem_iff_getElem?.1 hc1
         have hjl : j < bs.length := by rw [hbl]; exact (List.getElem?_eq_some_iff.1 hj).1
         have hjn : j ∉ idx := fun hm => by
          have : c.born ∈ sn := by rw [d4, ← hborn j c hj]; exact List.mem_map.2 ⟨j, hm, rfl⟩
          simp [this] at hc2
         have hsub := upd_sub (l := ⟨j, 0, 0⟩) hf
         have hs' : Sim P (upd ρ A.next ⟨j, 0, 0⟩) ({ A with next := A.next + 1 } : AW).live w := hs.sub hsub
         obtain ⟨q1, q2⟩ := pickOf_sound hp (m2.mono hsub) (upd_at (ρ := ρ) (n := A.next) (l := ⟨j, 0, 0⟩)) hj
         have hwd : wd.heap = w.heap ∧ wd.os = w.os ∧ wd.tape = w.tape ∧ wd.output = w.output := by
          rcases i2 with rfl | rfl <;> exact ⟨rfl, rfl, rfl, rfl⟩
         obtain ⟨w', s1, s2, s3, s4, s5, s6, s7⟩ := setObj_iter (P := P) (w := wd) (o' := .mapIter (some lm.blk) since (sn ++ [c.born]).toArray clock) (by rw [hwd.1]; exact h1) (by simp)
         rw [hwd.1] at s3 s4
         have hlive : ({ A with next := A.next + 1 } : AW).live n = some (.miter (some m) since seen bs last) := live_of_get hg (by simp)
         refine ⟨.tuple #[.bool true, c.key, c.val], w', upd ρ A.next ⟨j, 0, 0⟩, gives_v ?_, ?_,
          hs'.setAt (ao := .miter (some m) since (seen ++ [A.next]) bs clock) hlive (hsub _ _ hl) s2 ⟨rfl, _, sn ++ [c.born], rfl, ⟨lm, hsub _ _ h4, rfl⟩, idx ++ [j], (d1.mono hsub).snoc upd_at, ?_, ?_, ?_⟩ s3,
          (Ext.name hs ⟨j, 0, 0⟩ hf).trans (Ext.setAt hlive (hsub _ _ hl) s3 s4 (s5.trans hwd.2.1) (s6.trans hwd.2.2.1) (s7.trans hwd.2.2.2))⟩
         ·have := i3
          rw [s1] at this
          simpa using this
         ·rcases q2 with ⟨x, rfl, q2⟩ | rfl
          ·exact .tup (.cons (.flat _) (.cons q1 (.cons q2 .nil)))
          ·exact VR.tupx (vs := [.bool true, c.key]) (ws := [c.val]) (.cons (.flat _) (.cons q1 .nil))
         ·rw [List.nodup_append]
          refine ⟨d2, by simp, ?_⟩
          intro a ha b hb e
          simp at hb; subst hb; subst e; exact hjn ha
         ·intro a ha
          rcases List.mem_append.1 ha with ha | ha
          ·exact d3 a ha
          ·simp at ha; subst ha; exact hjl
         ·rw [List.map_append, ← d4]; simp only [List.map_cons, List.map_nil]; rw [hborn j c hj]
        ·cases h
       ·cases h
     ·cases h
   ·cases h
  ·cases h
 ·cases h

theorem entry_sound (hs : Sim P ρ A.live w) {it x : AV} {v : Value} (h : entryOfA A it = some x) (hv : VR ρ it v) : ∃ y, (Instr.entry v).run P w = .ok y w ∧ VR ρ x y := by
 unfold entryOfA at h
 split at h
 ·rename_i n
  cases hv with
  | ptr _ hl =>
  rename_i l
  obtain ⟨lb, lbase, lroom⟩ := l
  split at h
  ·rename_i m _ seen bs stepped hg
   obtain ⟨o, h1, h2, mr, sn, h3, ⟨lm, h4, h5⟩, idx, d1, d2, d3, d4⟩ := hs.iterAt hg (by simp) hl
   simp only at h1 h2
   subst h2; subst h3; subst h5
   split at h
   ·rename_i es clock b hgm hb
    obtain ⟨cs, m1, m2⟩ := hs.mapAt hgm h4
    split at h
    ·rename_i hck
     simp only [Bool.and_eq_true] at hck
     obtain ⟨⟨hck, hb1⟩, hb2⟩ := hck
     have hck := Nat.eq_of_beq_eq_true hck
     subst hck
     split at h
     ·rename_i k l hp
      cases h
      have hbs : cs.map (·.born) = bs := m2.births.trans (sameNats_spec hb1)
      have hbl : bs.length = cs.length := by rw [← hbs, List.length_map]
      obtain ⟨c, j, e1, e2, e3⟩ : ∃ (c : Loc) (j : Nat), ρ b = some c ∧ c.blk = j ∧ idx.getLast? = some j := by
       clear d2 d3 d4 hp hg h1
       induction d1 with
       | nil => simp at hb
       | @cons n0 c0 ns is hc hd ih =>
        cases hd with
        | nil => simp at hb; subst hb; exact ⟨_, _, hc, rfl, rfl⟩
        | cons hc2 hd2 =>
         rw [List.getLast?_cons_cons] at hb
         obtain ⟨c, j, a1, a2, a3⟩ := ih hb
         exact ⟨c, j, a1, a2, by rw [List.getLast?_cons_cons]; exact a3⟩
      have hjl : j < bs.length := d3 j (List.mem_of_getLast? e3)
      have hj : cs[j]? = some (cs[j]'(by omega)) := List.getElem?_eq_getElem (by omega)
      generalize cs[j]'(by omega) = ce at hj
      subst e2
      obtain ⟨q1, q2⟩ := pickOf_sound hp m2 e1 hj
      have hborn : ∀ j c, cs[j]? = some c → bs.getD j 0 = c.born := fun j c e => by
       rw [← hbs, List.getD_eq_getElem?_getD, List.getElem?_map, e]; rfl
      have g1 := run_get (P := P) h1 (by simp)
      have g2 := run_get (P := P) m1 (by simp)
      have hb' : sn.toArray.back? = some ce.born := by
       rw [d4, ← hborn _ _ hj]; simp [e3]
      have hfind : cs.find? (fun x => x.born == ce.born) = some ce := by
       rw [List.find?_eq_some_iff_getElem]
       refine ⟨by simp, c.blk, by omega, ?_, ?_⟩
       ·exact (List.getElem?_eq_some_iff.1 hj).2
       ·intro i hi
        have hic : cs[i]? = some (cs[i]'(by omega)) := List.getElem?_eq_getElem (by omega)
        have n1 := hborn i _ hic
        have n2 := hborn _ _ hj
        have : ¬ (cs[i]'(by omega)).born = ce.born := fun e => by
         have := rising_inj hb2 (i := i) (j := c.blk) (by omega) hjl (by rw [n1, n2, e])
         omega
        simpa using this
      refine ⟨.tuple #[ce.key, ce.val], ?_, ?_⟩
      ·simp [Instr.entry, g1, g2, hb', hfind]
      ·rcases q2 with ⟨x, rfl, q2⟩ | rfl
       ·exact .tup (.cons q1 (.cons q2 .nil))
       ·exact VR.tupx (vs := [ce.key]) (ws := [ce.val]) (.cons q1 .nil)
     ·cases h
    ·cases h
   ·cases h
  ·cases h
 ·cases h

theorem range_sound {t : TypeId} {x : AV} {v : Value} (hs : Sim P ρ A.live w) (hv : VR ρ x v) :
  (∀ s, P.underlying t = some .string → x = .flat (.string s) → ∃ w', (Instr.range t v).run P w = .ok (.pointer (some ⟨w.heap.size, 0, none⟩)) w' ∧ Pushed w (.stringIter s 0) w') ∧
  (∀ k e, P.underlying t = some (.map k e) → x = .flat (.map none) → ∃ w', (Instr.range t v).run P w = .ok (.pointer (some ⟨w.heap.size, 0, none⟩)) w' ∧ Pushed w (.mapIter none 0 #[] 0) w') ∧
  (∀ k e m es clock, P.underlying t = some (.map k e) → x = .mp m → A.get m = some (.map es clock) → ∃ w' l, ρ m = some l ∧ (Instr.range t v).run P w = .ok (.pointer (some ⟨w.heap.size, 0, none⟩)) w' ∧ Pushed w (.mapIter (some l.blk) clock #[] clock) w') := by
 refine ⟨?_, ?_, ?_⟩
 ·rintro s hu rfl; cases hv
  exact ⟨w.alloc (.stringIter s 0), by simp [Instr.range, run_und hu], ⟨rfl, rfl, rfl, rfl⟩⟩
 ·rintro k e hu rfl; cases hv
  exact ⟨w.alloc (.mapIter none 0 #[] 0), by simp [Instr.range, run_und hu], ⟨rfl, rfl, rfl, rfl⟩⟩
 ·rintro k e m es clock hu rfl hg
  cases hv with
  | mp hl =>
  rename_i l
  obtain ⟨cs, m1, m2⟩ := hs.mapAt hg hl
  have g2 := run_get (P := P) m1 (by simp)
  exact ⟨w.alloc (.mapIter (some l.blk) clock #[] clock), l, hl, by simp [Instr.range, run_und hu, g2], ⟨rfl, rfl, rfl, rfl⟩⟩
end
section
variable {P : Program} {ρ : Rn} {A : AW} {w : World}
theorem find_clone (fn : Func) (hn : fn.name = "maps.clone") (ho : fn.origin = "") : Extern.findNext fn = none ∧ Extern.find fn = some Extern.MapsClone.clone := by
 have h1 : Extern.allNextRows.lookup "maps.clone" = none := by kernel_rfl
 have h2 : Extern.allNextRows.lookup "" = none := by kernel_rfl
 have h3 : Extern.allGenericRows.lookup "maps.clone" = none := by kernel_rfl
 have h4 : Extern.allTypedRows.lookup "maps.clone" = none := by kernel_rfl
 have h5 : Extern.allRows.lookup "maps.clone" = some Extern.MapsClone.clone := by kernel_rfl
 constructor
 ·simp [Extern.findNext, hn, ho, h1, h2]
 ·simp [Extern.find, hn, ho, h3, h4, h5]

def add64 : Array Value → Sem Value := fun args => do
 let (x, y, c) ← Extern.MathBitsCarry.three "Add64" args
 pure (Extern.MathBitsCarry.pair ((x + y + c) % Extern.MathBitsCarry.m64) ((x + y + c) / Extern.MathBitsCarry.m64))

theorem find_add (fn : Func) (hn : fn.name = "math/bits.Add64") (ho : fn.origin = "") : Extern.findNext fn = none ∧ Extern.find fn = some add64 := by
 have h1 : Extern.allNextRows.lookup "math/bits.Add64" = none := by kernel_rfl
 have h2 : Extern.allNextRows.lookup "" = none := by kernel_rfl
 have h3 : Extern.allGenericRows.lookup "math/bits.Add64" = none := by kernel_rfl
 have h4 : Extern.allTypedRows.lookup "math/bits.Add64" = none := by kernel_rfl
 have h5 : Extern.allRows.lookup "math/bits.Add64" = some add64 := by kernel_rfl
 constructor
 ·simp [Extern.findNext, hn, ho, h1, h2]
 ·simp [Extern.find, hn, ho, h3, h4, h5]

theorem add64_run (x y c : Nat) (hc : c ≤ 1) (w : World) : (add64 #[.int .u64 (.ofNat x), .int .u64 (.ofNat y), .int .u64 (.ofNat c)]).run P w = .ok (.tuple #[.int .u64 (((x + y + c) % 18446744073709551616 : Nat) : Int), .int .u64 (((x + y + c) / 18446744073709551616 : Nat) : Int)]) w := by
 rcases (show c = 0 ∨ c = 1 by omega) with e | e <;> subst e <;> rfl

theorem callFunc_body {f : FuncId} {fn : Func} {c : Code} (hf : P.funcs[f]? = some fn) (hb : fn.body = some c) (hn : (fn.name == "runtime.NumGoroutine") = false) (args : Array Value) (w : World) : (callFunc f args).run P w = .ok (.enter f args) w := by
 simp [callFunc, hf, hb]
 intro h; simp [h] at hn

theorem callFunc_ext {f : FuncId} {fn : Func} {e : Array Value → Sem Value} (hf : P.funcs[f]? = some fn) (hb : fn.body = none) (hn : (fn.name == "runtime.NumGoroutine") = false) (h1 : Extern.findNext fn = none) (h2 : Extern.find fn = some e) (args : Array Value) (w : World) :
  (callFunc f args).run P w = (vOf (e args)).run P w := by
 unfold vOf
 simp [callFunc, hf, hb, h1, h2]
 intro h; simp [h] at hn

def Named (P : Program) : Prop := ∀ (f : FuncId) (fn : Func), P.funcs[f]? = some fn → (fn.name == "runtime.NumGoroutine") = false

theorem extern_sound (hs : Sim P ρ A.live w) (hN : Named P) {f : FuncId} {fn : Func} {args : List AV} {vs : List Value} {r : AR} (hf : P.funcs[f]? = some fn) (hb : fn.body = none) (ho : fn.origin = "") (h : externA A fn.name args = some r) (hv : VRs ρ args vs) :
  ArOk P ρ A w ((callFunc f vs.toArray).run P w) r := by
 unfold externA at h
 split at h
 ·rename_i tt nn hname
  obtain ⟨e1, e2⟩ := find_clone fn hname ho
  rw [callFunc_ext hf hb (hN _ _ hf) e1 e2]
  split at h
  ·rename_i es clock hg
   cases h
   cases hv with
   | cons h1 h2 =>
   cases h2
   cases h1 with
   | ifc _ h1 =>
   cases h1 with
   | mp hl =>
   rename_i l
   obtain ⟨cs, m1, m2⟩ := hs.mapAt hg hl
   have g2 := run_get (P := P) m1 (by simp)
   have hcl : ∀ (t : TypeId) (b : Nat), Extern.MapsClone.clone #[.iface t (.map (some b))] = (do
     let .map entries next ← getObj b | stuck "maps.clone: a map expected"
     pure (.iface t (.map (some (← newObj (.map entries next)))))) := fun _ _ => rfl
   refine ⟨_, .map cs.toArray clock, w.alloc (.map cs.toArray clock), 0, gives_v (x := .iface tt (.map (some w.heap.size))) ?_, ⟨rfl, rfl, rfl, rfl⟩, fun ρ' hsub hat => ⟨?_, cs, rfl, m2.mono hsub⟩⟩
   ·simp [hcl, g2]
   ·exact .ifc tt (VR.mp (l := ⟨w.heap.size, 0, 0⟩) hat)
  ·cases h
 ·rename_i x y c hname
  obtain ⟨e1, e2⟩ := find_add fn hname ho
  rw [callFunc_ext hf hb (hN _ _ hf) e1 e2]
  split at h
  ·rename_i hc
   cases h
   cases hv with
   | cons h1 h2 =>
   cases h2 with
   | cons h2 h3 =>
   cases h3 with
   | cons h3 h4 =>
   cases h4; cases h1; cases h2; cases h3
   exact ⟨_, gives_v (add64_run x y c hc w), .tup (.cons (.flat _) (.cons (.flat _) .nil))⟩
  ·cases h
 ·cases h
end
section
variable {P : Program} {ρ : Rn} {A : AW} {w : World}
theorem bind_some {α β : Type} {x : Option α} {f : α → Option β} {b : β} (h : x.bind f = some b) : ∃ a, x = some a ∧ f a = some b := by
 cases x with
 | none => cases h
 | some a => exact ⟨a, rfl, h⟩
theorem map_some {α β : Type} {x : Option α} {f : α → β} {b : β} (h : x.map f = some b) : ∃ a, x = some a ∧ f a = b := by
 cases x with
 | none => cases h
 | some a => exact ⟨a, rfl, by simpa using h⟩

theorem argOk {s : Sem Value} {v : AV} (h : ∃ x, s.run P w = .ok x w ∧ VR ρ v x) : ArOk P ρ A w ((vOf s).run P w) (.val v) := by
 obtain ⟨x, e, k⟩ := h
 exact ⟨x, gives_v e, k⟩
theorem nextOk {x : Value} {v : AV} (h : VR ρ v x) : ArOk P ρ A w ((pure (.value x) : Sem Next).run P w) (.val v) := ⟨x, .inl rfl, h⟩

theorem len_sound (hs : Sim P ρ A.live w) {t : TypeId} {ats : Array TypeId} {ty : TypeId} {x : AV} {n : Nat} {v : Value} (ht : ats[0]? = some t) (h : lenA P A t x = some n) (hv : VR ρ x v) :
  (Builtin.len_ ats ty #[v]).run P w = .ok (goInt n) w := by
 unfold lenA at h
 split at h
 ·rename_i s hu; cases h; cases hv; simp [Builtin.len_, ht, run_und hu]
 ·rename_i k hu; cases h; simp [Builtin.len_, ht, run_und hu]
 ·rename_i hu; cases h; cases hv; simp [Builtin.len_, ht, run_und hu]
 ·rename_i hu; cases h; cases hv; simp [Builtin.len_, ht, run_und hu]
 ·rename_i hu; cases h; cases hv; simp [Builtin.len_, ht, run_und hu]
 ·rename_i hu; cases h; cases hv; simp [Builtin.len_, ht, run_und hu]
 ·rename_i m hu
  split at h
  ·rename_i es cl hg
   cases h
   cases hv with
   | mp hl =>
   obtain ⟨cs, m1, m2⟩ := hs.mapAt hg hl
   simp [Builtin.len_, ht, run_und hu, run_get (P := P) m1 (by simp), m2.length]
  ·cases h
 ·cases h

theorem builtin_sound (hs : Sim P ρ A.live w) {b : Builtin} {ats : Array TypeId} {ty : TypeId} {consts : Array Bool} {args : List AV} {vs : List Value} {r : AR} (h : builtinA P A b ats ty args = some r) (hv : VRs ρ args vs) :
  ArOk P ρ A w ((builtin b ats ty consts vs.toArray).run P w) r := by
 unfold builtinA at h
 split at h
 ·rename_i x
  cases hv with
  | cons h1 h2 =>
  cases h2
  split at h
  ·rename_i t ht
   obtain ⟨n, e, rfl⟩ := map_some h
   exact argOk ⟨_, len_sound hs ht e h1, .flat _⟩
  ·cases h
 ·cases hv with
  | cons h1 h2 =>
  cases h2 with
  | cons h2 h3 =>
  cases h3
  exact append_sound hs h h1 h2
 ·cases hv with
  | cons h1 h2 =>
  cases h2
  split at h
  ·rename_i t ht
   exact clear_sound (ats := ats) (ty := ty) hs ht h h1
  ·cases h
 ·cases hv with
  | cons h1 h2 =>
  cases h2 with
  | cons h2 h3 =>
  cases h3
  split at h
  ·rename_i t ht
   obtain ⟨A', e, rfl⟩ := map_some h
   obtain ⟨w', d1, d2, d3⟩ := delete_sound (ats := ats) (ty := ty) hs ht e h1 h2
   exact fun _ => ⟨_, w', ρ, gives_v d1, .flat _, d2, d3⟩
  ·cases h
 ·cases hv with
  | cons h1 h2 =>
  cases h2 with
  | cons h2 h3 =>
  cases h3
  exact copy_sound hs h h1 h2
 ·rename_i p n
  cases hv with
  | cons h1 h2 =>
  cases h2 with
  | cons h2 h3 =>
  cases h3
  cases h2
  split at h
  ·rename_i pt it b o hats
   cases h1 with
   | ptr _ hl =>
   split at h
   ·rename_i u l e hu hc
    split at h
    ·rename_i r' hcut
     split at h
     ·rename_i bs hb
      split at h
      ·rename_i hk
       cases h
       simp only [Bool.and_eq_true, decide_eq_true_eq] at hk
       obtain ⟨⟨⟨k1, k2⟩, k3⟩, k4⟩ := hk
       obtain ⟨w', e1, e2, e3⟩ := unsafeString_sound (it := it) (ty := ty) hs hu hc hl hcut hb k1 k2 k3 k4
       have hats' : ats = #[pt, it] := by rw [← Array.toList_inj]; simpa using hats
       subst hats'
       exact fun _ => ⟨_, w', ρ, gives_v e1, .flat _, e2, e3⟩
      ·cases h
     ·cases h
    ·cases h
   ·cases h
  ·cases h
 ·split at h
  ·rename_i us hus
   unfold wholeFlat at hus
   obtain ⟨us', hus', rfl⟩ := map_some hus
   rw [toVs_spec hus' hv]
   split at h
   ·rename_i v hp
    cases h
    have := pureRun_spec _ _ hp w
    exact ⟨v, .inl this, VR.fromV v⟩
   ·cases h
  ·cases h
 ·split at h
  ·rename_i us hus
   unfold wholeFlat at hus
   obtain ⟨us', hus', rfl⟩ := map_some hus
   rw [toVs_spec hus' hv]
   split at h
   ·rename_i v hp
    cases h
    have := pureRun_spec _ _ hp w
    exact ⟨v, .inl this, VR.fromV v⟩
   ·cases h
  ·cases h
 ·cases h

theorem VRs.evs {T : Tr AV} {c : Operand → Value} {l : List Operand} (h : ∀ x ∈ l, VR ρ (ev T x) (c x)) : VRs ρ (l.map (ev T)) (l.map c) := by
 induction l with
 | nil => exact .nil
 | cons a l ih => exact .cons (h a (by simp)) (ih fun x hx => h x (by simp [hx]))

theorem PRs.evs {T : Tr AV} {c : Operand → Value} {l : List (Nat × Operand)} (h : ∀ x ∈ l.map (·.2), VR ρ (ev T x) (c x)) : PRs ρ (l.map fun (i, x) => (i, ev T x)) (l.map fun (i, x) => (i, c x)) := by
 induction l with
 | nil => exact .nil
 | cons a l ih => exact .cons (h a.2 (by simp)) (ih fun x hx => h x (by simp at hx ⊢; exact .inr hx))

theorem call_sound (hs : Sim P ρ A.live w) (hN : Named P) {T : Tr AV} {c : Operand → Value} {k : Call} {ty : TypeId} {r : AR} (h : callA P A k ty T = some r) (hv : ∀ x ∈ k.operands.toList, VR ρ (ev T x) (c x)) :
  ArOk P ρ A w ((do let d ← resolve c k ty; invoke d.target d.args : Sem Next).run P w) r := by
 unfold callA at h
 have hargs : VRs ρ (k.args.toList.map (ev T)) (k.args.toList.map c) := VRs.evs fun x hx => hv x (by
  cases hc : k.callee <;> simp_all [Call.operands])
 split at h
 ·rename_i b hb
  have e : ((do let d ← resolve c k ty; invoke d.target d.args : Sem Next).run P w) = (builtin b k.argTypes ty (k.args.map fun | .const _ => true | _ => false) (k.args.toList.map c).toArray).run P w := by
   have : (k.args.toList.map c).toArray = k.args.map c := Array.ext' (by simp)
   rw [this]
   simp [resolve, hb, invoke]
   rfl
  rw [e]
  exact builtin_sound hs h hargs
 ·rename_i f hf
  have hfv := hv f (by simp [Call.operands, hf])
  split at h
  ·rename_i g fst cap hg
   rw [hg] at hfv
   generalize hcf : c f = cf at hfv
   cases hfv with
   | fn _ ha hb =>
   rename_i as bs
   have hall : VRs ρ (fst ++ k.args.toList.map (ev T) ++ cap) (as ++ k.args.toList.map c ++ bs) := (ha.append hargs).append hb
   have e : ((do let d ← resolve c k ty; invoke d.target d.args : Sem Next).run P w) = (callFunc g (as ++ k.args.toList.map c ++ bs).toArray).run P w := by
    have : (as ++ k.args.toList.map c ++ bs).toArray = as.toArray ++ k.args.map c ++ bs.toArray := by simp
    rw [this]
    simp [resolve, hf, hcf, Deferred.ofValue, invoke]
   rw [e]
   split at h
   ·rename_i fn hfn
    split at h
    ·rename_i body hbody
     cases h
     exact ⟨_, callFunc_body hfn hbody (hN _ _ hfn) _ w, hall⟩
    ·rename_i hbody
     split at h
     ·rename_i ho
      cases hb
      simp only [List.append_nil] at hall ⊢
      exact extern_sound hs hN hfn hbody ho h hall
     ·cases h
   ·cases h
  ·rename_i n hg
   rw [hg] at hfv
   generalize hcf : c f = cf at hfv
   cases hfv with
   | yld hl =>
   cases h
   refine ⟨_, _, hl, ?_, hargs⟩
   have : (k.args.toList.map c).toArray = k.args.map c := Array.ext' (by simp)
   rw [this]
   simp [resolve, hf, hcf, Deferred.ofValue, invoke]
  ·cases h
 ·cases h
end
end Go.Proofs.YtookoagcmejkpaaGreatDoor.Ab
