/-
  Operations, last part: texts, goings through maps, calls; all of them together.
-/
import Derived.Test.YtjhaccpljgdlpaaGreatAb9
import Derived.KernelRfl
import Derived.IntWalk
namespace Go.Proofs.YtjhaccpljgdlpaaGreat.Ab
open Go
section
variable {P : Program} {ρ : Rn} {A : AW} {w : World}

theorem str_bytes_made {e : TypeId} (s : ByteArray) (w : World) :
    ∃ obj w' room, (Conv.stringToBytes e s).run P w = .ok (.slice (some ⟨w.heap.size, 0, none⟩) s.size (s.size + room)) w' ∧ Pushed w obj w' ∧
      ∀ ρ', P.cellsOf e = 1 → OR P ρ' ⟨w.heap.size, 0, room⟩ (.cells (s.data.toList.map fun b => .flat (.int .u8 b.toNat)) e) obj := by
  have hge : s.size ≤ (Question.appendCap s.size 0 e).cut (w.tape w.drawn (.appendCap s.size 0 e)) := by simp [Question.cut]
  generalize hcap : (Question.appendCap s.size 0 e).cut (w.tape w.drawn (.appendCap s.size 0 e)) = cap at hge
  let C : Array Value := (s.data.map fun b => Value.int .u8 b.toNat) ++ Array.replicate (cap - s.size) (.int .u8 0)
  have hC : C.size = cap := by
    have : s.data.size = s.size := rfl
    simp [C, this]; omega
  let w1 : World := { w with heap := w.heap.push (.cells C e), drawn := w.drawn + 1 }
  have h1 : w1.shape? w.heap.size = some (e, cap) := by
    simp [w1, World.shape?, hC]
  have hrow : (newRow e C).run P { w with drawn := w.drawn + 1 } = .ok ⟨w.heap.size, 0, none⟩ w1 := rfl
  have hfz : ∀ j : Nat, (w1.freeze ⟨w.heap.size, cap, none⟩ 1).heap[j]? = (w.heap.push (.cells C e (cap, cap + 1)))[j]? := by
    intro j
    unfold World.freeze
    simp only [Nat.one_ne_zero, if_false]
    simp only [Array.getElem?_modify, w1, Array.getElem?_push]
    by_cases hj : j = w.heap.size
    · subst hj; simp
    · have : ¬ w.heap.size = j := fun h => hj h.symm
      simp [hj, this]
  have hfr := freeze_rest w1 ⟨w.heap.size, cap, none⟩ 1
  refine ⟨.cells C e (cap, cap + 1), w1.freeze ⟨w.heap.size, cap, none⟩ 1, cap - s.size, ?_, ⟨Array.ext_getElem? hfz, hfr.2.2.1, hfr.2.2.2.1, hfr.2.2.2.2⟩, fun ρ' hc => ?_⟩
  · have e1 : s.size + (cap - s.size) = cap := by omega
    rw [e1]
    simp only [Conv.stringToBytes, Sem.run_bind, run_choose, Question.forced, hcap, if_false, Bool.false_eq_true, Result.andThen_ok]
    rw [show (newRow e ((s.data.map fun b => Value.int .u8 b.toNat) ++ Array.replicate (cap - s.size) (.int .u8 0))).run P { w with drawn := w.drawn + 1 } = .ok ⟨w.heap.size, 0, none⟩ w1 from hrow]
    simp [markStringish, h1]
  · refine ⟨C, (cap, cap + 1), rfl, ?_, ?_, fun i a hi => ?_⟩
    · simp [hC, hc]
      have : s.data.size = s.size := rfl
      omega
    · right; simp [hC]
    · have := bytes_flats (ρ := ρ') s.data.toList
      obtain ⟨v, v1, v2⟩ := this.get hi
      refine ⟨v, ?_, v2⟩
      have hl : i < s.data.size := by have := (List.getElem?_eq_some_iff.1 v1).1; simpa using this
      simp only [Nat.zero_add, C]
      rw [Array.getElem?_append_left (by simpa using hl)]
      simp at v1 ⊢
      exact v1

theorem sim_same {A' : AW} (h : A'.live = A.live) (hs : Sim P ρ A.live w) : Sim P ρ A'.live w := by rw [h]; exact hs

theorem conv_sound (hs : Sim P ρ A.live w) {src dst : TypeId} {x : AV} {r : AR} {v : Value} (h : convA P A src dst x = some r) (hv : VR ρ x v) : ArOk P ρ A w ((vOf (convert src dst v)).run P w) r := by
  unfold convA at h
  split at h
  · rename_i ds e s hu1 hu2
    split at h
    · rename_i he
      split at h
      · rename_i hc
        simp only [Bool.and_eq_true, decide_eq_true_eq] at hc
        cases h; cases hv
        obtain ⟨obj, w', room, g1, g2, g3⟩ := str_bytes_made (P := P) (e := e) s w
        refine ⟨_, obj, w', room, gives_v (by simp [convert, run_und hu1, run_und hu2, run_und he]; exact g1), g2, fun ρ' hsub hat => ⟨VR.sl (l := ⟨w.heap.size, 0, room⟩) 0 s.size s.size true hat, g3 ρ' (size_of_sizeA hc.1)⟩⟩
      · cases h
    · cases h
  · rename_i e0 e n o l c b hu1 hu2
    split at h
    · rename_i hsd he
      split at h
      · rename_i xs e' hc
        cases h
        intro _
        cases hv with
        | sl _ _ _ _ hl =>
        rename_i lo
        obtain ⟨C, fz, b1, b2, b3, b4⟩ := hs.block (cellsOf_live hc) hl
        obtain ⟨f1, f2, f3, f4, f5⟩ := freeze_rest w ⟨lo.blk, C.size, none⟩ 1
        have hsd' : src = dst := by simpa using hsd
        refine ⟨_, w.freeze ⟨lo.blk, C.size, none⟩ 1, ρ, gives_v (by
            simp [convert, run_und hu2, run_und he, hsd', markStringish, World.shape?, b1]), .sl _ _ _ _ hl, ?_, Ext.setAt (cellsOf_live hc) hl f1 f2 f3 f4 f5⟩
        refine hs.setAt (cellsOf_live hc) hl (o' := .cells C e' (if fz.1 == fz.2 then (C.size, C.size + 1) else (min fz.1 C.size, max fz.2 (C.size + 1)))) ?_ ⟨C, _, rfl, b2, ?_, b4⟩ f1
        · unfold World.freeze
          simp [Array.getElem?_modify, b1]
        · split
          · right; simp
          · rename_i hne
            rcases b3 with b3 | b3
            · exact absurd (by simpa using b3) hne
            · right; simp; omega
      · cases h
    · cases h
  · rename_i e hu1 hu2
    split at h
    · rename_i he
      cases h; cases hv
      exact ⟨_, gives_v (by simp [convert, run_und hu1, run_und hu2, run_und he, Conv.bytesToString]), .flat _⟩
    · cases h
  · rename_i e n o len _ _ hu1 hu2
    split at h
    · rename_i l t he hc
      split at h
      · rename_i row hcut
        split at h
        · rename_i ns hns
          cases h
          cases hv with
          | sl _ _ _ _ hl =>
          obtain ⟨vs, v1, v2, v3⟩ := hs.row (cellsOf_live hc) hl hcut
          have hvs := u8s_spec hns v1
          have hload := run_loadCells_list (P := P) w _ vs v3
          rw [v2, hvs] at hload
          exact ⟨_, gives_v ((run_convert_bytes_string (P := P) w src dst e _ len _ hu1 he hu2).trans (run_bytesToString (P := P) w _ len _ ns hload)), .flat _⟩
        · cases h
      · cases h
    · cases h
  · rename_i lo hi hu1 hu2
    split at h
    · rename_i hb
      cases h
      cases hv with
      | rng h1 h2 =>
      rename_i n
      refine ⟨.int .i64 n, gives_v ?_, .rng h1 h2⟩
      have hw : IntKind.i64.wrap n = n := IntWalk.i64_in n (by omega)
      simp [convert, run_und hu1, run_und hu2, Conv.intToInt, hw]
    · cases h
  · rename_i v0 hu1 hu2
    split at h
    · rename_i r' hr
      cases h; cases hv
      exact ⟨_, gives_v (pureRun_spec _ _ hr w), VR.fromV _⟩
    · cases h
  · cases h
end
end Go.Proofs.YtjhaccpljgdlpaaGreat.Ab
