/- The reference's Check: rows, a round's state, the loop's body. -/
import Derived.Test.YtgdncnalahdjeaaN4
import Derived.Test.YtgdncnalahdjeaaL6
import Derived.Test.YtgdncnalahdjeaaN2
import Derived.Test.YtgdncnalahdjeaaN3
import Derived.Test.YtgdncnalahdjeaaL16
import Derived.Deep.DeepCutAuto
import Derived.Deep.RegionHeld3
import Derived.Deep.MidRow
namespace Go.Proofs.Ytgdncnalahdjeaa
open Go Go.RowKit

theorem info93 : ∃ i0, Try.prog.info? 93 = some i0 ∧ i0.zero = some (.agg #[.int .i64 0, .int .i64 0]) ∧ i0.size = 2 ∧ i0.bytes = 16 := by
  have h : (Try.prog.info? 93).map (fun i => (i.zero, i.size, i.bytes)) = some (some (.agg #[.int .i64 0, .int .i64 0]), 2, 16) := by kernel_rfl
  obtain ⟨i, hi, hb⟩ := Option.map_eq_some_iff.1 h
  simp only [Prod.mk.injEq] at hb
  exact ⟨i, hi, hb.1, hb.2.1, hb.2.2⟩
/-- the two rows, each in memory of its own. -/
structure RefAt (W : World) (base : Nat) (v8 v9 : Value) (ts : List (Int × Int)) (ls : List Int) : Prop where
  tells : W.ownsRow base 93 2 v8 ts.length (flat2 ts)
  lits : W.ownsRow base 54 1 v9 ls.length (ls.map (Value.int .i64))
  ne : ∀ k, v8.ownBlock = some k → v9.ownBlock ≠ some k
section
variable {W W' : World} {base : Nat} {v8 v9 v' : Value} {ts : List (Int × Int)} {ls : List Int}
theorem refAt_none (W : World) (base : Nat) : RefAt W base (.slice none 0 0) (.slice none 0 0) [] [] :=
  ⟨⟨rfl, .inl ⟨rfl, rfl⟩⟩, ⟨rfl, .inl ⟨rfl, rfl⟩⟩, fun k h => by cases h⟩
theorem RefAt.later (h : RefAt W base v8 v9 ts ls) (hb : Below W.heap.size W W') : RefAt W' base v8 v9 ts ls :=
  ⟨own_later h.tells hb, own_later h.lits hb, h.ne⟩
theorem RefAt.drew (h : RefAt W base v8 v9 ts ls) : RefAt W.drew base v8 v9 ts ls := ⟨h.tells.drew, h.lits.drew, h.ne⟩
/-- one literal more. -/
theorem RefAt.push9 (h : RefAt W base v8 v9 ts ls) {x : Int} (hg : W.grownBy W' v9.ownBlock) (ho : W'.ownsRow base 54 1 v' (ls.length + 1) (ls.map (Value.int .i64) ++ [.int .i64 x])) (hv : v'.ownBlock = v9.ownBlock ∨ v'.ownBlock = some W.heap.size) : RefAt W' base v8 v' ts (ls ++ [x]) := by
  refine ⟨own_blockE h.tells (fun k hk hl => hg.block k hl (fun e => h.ne k hk e.symm)), ?_, fun k hk hk2 => ?_⟩
  · rw [List.length_append, List.map_append]
    exact ho
  · rcases hv with e | e
    · exact h.ne k hk (by rw [← e]; exact hk2)
    · rw [e] at hk2
      cases hk2
      have := (World.ownsRow.lt h.tells _ hk).2
      omega
/-- one pair more. -/
theorem RefAt.push8 (h : RefAt W base v8 v9 ts ls) {x : Int × Int} (hg : W.grownBy W' v8.ownBlock) (ho : W'.ownsRow base 93 2 v' (ts.length + 1) (flat2 ts ++ [.int .i64 x.1, .int .i64 x.2])) (hv : v'.ownBlock = v8.ownBlock ∨ v'.ownBlock = some W.heap.size) : RefAt W' base v' v9 (ts ++ [x]) ls := by
  refine ⟨?_, own_blockE h.lits (fun k hk hl => hg.block k hl (fun e => h.ne k e.symm hk)), fun k hk hk2 => ?_⟩
  · rw [List.length_append, flat2_app]
    exact ho
  · rcases hv with e | e
    · exact h.ne k (by rw [← e]; exact hk) hk2
    · rw [e] at hk
      cases hk
      have := (World.ownsRow.lt h.lits _ hk2).2
      omega
/-- what is told there: its cells. -/
theorem RefAt.told (h : RefAt W base v8 v9 ts ls) {i : Nat} (hi : i < ts.length) : ∃ g z, v8 = .slice (some ⟨g, 0, none⟩) ts.length z ∧ base ≤ g ∧ W.cell? ⟨g, i * 2, none⟩ = some (.int .i64 (atL ts i).1.1) ∧ W.cell? ⟨g, i * 2 + 1, none⟩ = some (.int .i64 (atL ts i).1.2) := by
  have hne : v8 ≠ .slice none 0 0 := fun e => by
    rcases h.tells.2 with ⟨_, h2⟩ | ⟨g, cap, cur, e2, _⟩
    · have := flat2_len ts
      rw [h2] at this
      simp at this
      omega
    · rw [e] at e2
      cases e2
  obtain ⟨g, z, e, hg, hcell⟩ := own_cells h.tells hne
  have hf := flat2_get ts i hi
  have ha : atL ts i = (ts[i], true) := by
    unfold atL
    rw [if_pos ⟨by omega, by omega⟩]
    simp [List.getD, List.getElem?_eq_getElem hi]
  exact ⟨g, z, e, hg, by rw [ha]; exact hcell _ _ hf.1, by rw [ha]; exact hcell _ _ hf.2⟩
theorem RefAt.shape8 (h : RefAt W base v8 v9 ts ls) : ∃ p z, v8 = .slice p ts.length z := own_shape h.tells
theorem RefAt.shape9 (h : RefAt W base v8 v9 ts ls) : ∃ p z, v9 = .slice p ls.length z := own_shape h.lits
end
end Go.Proofs.Ytgdncnalahdjeaa
namespace Go.Proofs.Ytgdncnalahdjeaa
open Go Go.RowKit

set_option maxRecDepth 100000 in
set_option maxHeartbeats 1600000 in
theorem refCheck_no (p : Option Addr) (n c : Nat) (d : VD) (q : Option Addr) (m e : Nat) (a : AD) (s : Option Addr) (N cs : Nat) (w : World) (hd : VertsIn w p n d) (hn : n ≤ 9223372036854775807) (ha : AtomsIn w q m a) (hm : m ≤ 9223372036854775807) (hmay : mayB n d m a = false) :
    Calls Try.prog 38 #[.slice p n c, .slice q m e, .slice s N cs] w fun e w' => e = .returned (.tuple #[.slice none 0 0, .int .i64 2]) ∧ Below w.heap.size w w' := by
  have HM := refMay17_any p n c d q m e a w hd hn ha hm
  rw [hmay] at HM
  clear hd ha hmay
  go_enter Try.func38, Try.ntmps38
  go_wp2_with fail
  refine HM.mono ?_
  rintro e w1 ⟨rfl, rfl⟩
  clear HM
  go_wp2_with fail
  exact bodyPost_ret (v := .tuple #[.slice none 0 0, .int .i64 2]) (by simp [results, Try.results38, go_sem]) rfl ⟨rfl, Below.refl _ _⟩
end Go.Proofs.Ytgdncnalahdjeaa
namespace Go.Proofs.Ytgdncnalahdjeaa
open Go Go.RowKit

/-- a round: the link's own copy, what it tells, the two rows. -/
structure St (W : World) (base D E : Nat) (K Tt A B I J : Int) (P : Option Addr) (L C : Nat) (v8 v9 : Value) (ts : List (Int × Int)) (ls : List Int) (x y : Int) : Prop where
  k0 : W.cell? ⟨D, 0, none⟩ = some (.int .u8 K)
  k1 : W.cell? ⟨D, 1, none⟩ = some (.int .i64 Tt)
  k2 : W.cell? ⟨D, 2, none⟩ = some (.int .i64 A)
  k3 : W.cell? ⟨D, 3, none⟩ = some (.int .i64 B)
  k4 : W.cell? ⟨D, 4, none⟩ = some (.int .i64 I)
  k5 : W.cell? ⟨D, 5, none⟩ = some (.int .i64 J)
  k6 : W.cell? ⟨D, 6, none⟩ = some (.slice P L C)
  e0 : W.cell? ⟨E, 0, none⟩ = some (.int .i64 x)
  e1 : W.cell? ⟨E, 1, none⟩ = some (.int .i64 y)
  fz : ∀ o, W.frozen? ⟨E, o, none⟩ = false
  r : RefAt W base v8 v9 ts ls
  de : D ≠ E
  s8 : ∀ k, v8.ownBlock = some k → k ≠ D ∧ k ≠ E
  s9 : ∀ k, v9.ownBlock = some k → k ≠ D ∧ k ≠ E
  bd : base ≤ D ∧ base ≤ E
section
variable {W W' : World} {base D E : Nat} {K Tt A B I J : Int} {P : Option Addr} {L C : Nat} {v8 v9 v' : Value} {ts : List (Int × Int)} {ls : List Int} {x y : Int}
theorem St.ltD (h : St W base D E K Tt A B I J P L C v8 v9 ts ls x y) : D < W.heap.size := World.block_lt_of_cell? W ⟨D, 0, none⟩ h.k0
theorem St.ltE (h : St W base D E K Tt A B I J P L C v8 v9 ts ls x y) : E < W.heap.size := World.block_lt_of_cell? W ⟨E, 0, none⟩ h.e0
theorem St.later (h : St W base D E K Tt A B I J P L C v8 v9 ts ls x y) (hb : Below W.heap.size W W') : St W' base D E K Tt A B I J P L C v8 v9 ts ls x y :=
  ⟨cell_later hb h.k0, cell_later hb h.k1, cell_later hb h.k2, cell_later hb h.k3, cell_later hb h.k4, cell_later hb h.k5, cell_later hb h.k6, cell_later hb h.e0, cell_later hb h.e1, fun o => by rw [hb.frozen (p := ⟨E, o, none⟩) h.ltE]; exact h.fz o, h.r.later hb, h.de, h.s8, h.s9, h.bd⟩
theorem St.put (h : St W base D E K Tt A B I J P L C v8 v9 ts ls x y) (x' y' : Int) : St ((W.setCell ⟨E, 0, none⟩ (.int .i64 x')).setCell ⟨E, 1, none⟩ (.int .i64 y')) base D E K Tt A B I J P L C v8 v9 ts ls x' y' := by
  have far : ∀ (o : Nat) (v : Value), W.cell? ⟨D, o, none⟩ = some v → ((W.setCell ⟨E, 0, none⟩ (.int .i64 x')).setCell ⟨E, 1, none⟩ (.int .i64 y')).cell? ⟨D, o, none⟩ = some v := fun o v hv =>
    set_cell_far (set_cell_far hv (fun e => h.de (by injection e with e; exact e.symm))) (fun e => h.de (by injection e with e; exact e.symm))
  have blk : ∀ k, k ≠ E → ((W.setCell ⟨E, 0, none⟩ (.int .i64 x')).setCell ⟨E, 1, none⟩ (.int .i64 y')).heap[k]? = W.heap[k]? := fun k hk => by
    rw [Below.heap_setCell _ _ _ _ (by exact hk), Below.heap_setCell _ _ _ _ (by exact hk)]
  refine ⟨far _ _ h.k0, far _ _ h.k1, far _ _ h.k2, far _ _ h.k3, far _ _ h.k4, far _ _ h.k5, far _ _ h.k6, ?_, ?_, fun o => ?_, ?_, h.de, h.s8, h.s9, h.bd⟩
  · exact set_cell_far (World.cell?_setCell_same _ _ _ h.e0) (by simp)
  · exact World.cell?_setCell_same _ _ _ (set_cell_far h.e1 (by simp))
  · rw [World.frozen?_setCell, World.frozen?_setCell]; exact h.fz o
  · exact ⟨own_blockE h.r.tells (fun k hk _ => blk k (h.s8 k hk).2), own_blockE h.r.lits (fun k hk _ => blk k (h.s9 k hk).2), h.r.ne⟩
theorem St.put_below (h : St W base D E K Tt A B I J P L C v8 v9 ts ls x y) (x' y' : Int) {w : World} (hw : Below base w W) : Below base w ((W.setCell ⟨E, 0, none⟩ (.int .i64 x')).setCell ⟨E, 1, none⟩ (.int .i64 y')) :=
  (hw.setCell (by exact h.bd.2) _).setCell (by exact h.bd.2) _
theorem St.push9 (h : St W base D E K Tt A B I J P L C v8 v9 ts ls x y) {z : Int} (hg : W.grownBy W' v9.ownBlock) (ho : W'.ownsRow base 54 1 v' (ls.length + 1) (ls.map (Value.int .i64) ++ [.int .i64 z])) (hv : v'.ownBlock = v9.ownBlock ∨ v'.ownBlock = some W.heap.size) : St W' base D E K Tt A B I J P L C v8 v' ts (ls ++ [z]) x y := by
  have nD : v9.ownBlock ≠ some D := fun e => (h.s9 D e).1 rfl
  have nE : v9.ownBlock ≠ some E := fun e => (h.s9 E e).2 rfl
  have lD := h.ltD
  have lE := h.ltE
  refine ⟨grown_cell hg h.k0 nD, grown_cell hg h.k1 nD, grown_cell hg h.k2 nD, grown_cell hg h.k3 nD, grown_cell hg h.k4 nD, grown_cell hg h.k5 nD, grown_cell hg h.k6 nD, grown_cell hg h.e0 nE, grown_cell hg h.e1 nE, fun o => by rw [grown_frozen hg (a := ⟨E, o, none⟩) lE nE]; exact h.fz o, h.r.push9 hg ho hv, h.de, h.s8, fun k hk => ?_, h.bd⟩
  rcases hv with e | e
  · exact h.s9 k (by rw [← e]; exact hk)
  · rw [e] at hk; cases hk; exact ⟨by omega, by omega⟩
end
/-- what a link comes to. -/
def Fin (n : Nat) (d : VD) (m : Nat) (a : AD) (ts0 : List (Int × Int)) (ls0 : List Int) (K Tt A B I J : Int) (L : Nat) (V : Nat → Int) (last okb : Bool) (ls : List Int) (x y : Int) : Prop :=
  (K ≤ 5 → okb = (conclL n d m a ts0 K Tt A B I J L V).2 ∧ (okb = true → (x, y) = (conclL n d m a ts0 K Tt A B I J L V).1 ∧ ls = litsT K Tt ls0)) ∧
  (6 ≤ K → okb = (last && closeL m a ts0 K Tt I) ∧ (okb = true → ls = closeT ts0 K Tt I ls0))
/-- behind the pieces for the first kinds. -/
def Stage (i : Int) (n : Nat) (d : VD) (m : Nat) (a : AD) (ts0 : List (Int × Int)) (ls0 : List Int) (K Tt A B I J : Int) (L : Nat) (V : Nat → Int) (last okb : Bool) (ls : List Int) (x y : Int) : Prop :=
  (1 ≤ K ∧ K ≤ i → Fin n d m a ts0 ls0 K Tt A B I J L V last okb ls x y) ∧ (¬ (1 ≤ K ∧ K ≤ i) → okb = false ∧ ls = ls0)
section
variable {i : Int} {n : Nat} {d : VD} {m : Nat} {a : AD} {ts0 : List (Int × Int)} {ls0 ls : List Int} {K Tt A B I J : Int} {L : Nat} {V : Nat → Int} {last okb : Bool} {x y : Int}
theorem Stage.zero : Stage 0 n d m a ts0 ls0 K Tt A B I J L V last false ls0 x y := ⟨fun h => by omega, fun _ => ⟨rfl, rfl⟩⟩
theorem Stage.skip {i' : Int} (h : Stage i n d m a ts0 ls0 K Tt A B I J L V last okb ls x y) (hi : i' = i + 1) (hk : K ≠ i') : Stage i' n d m a ts0 ls0 K Tt A B I J L V last okb ls x y :=
  ⟨fun h1 => h.1 (by omega), fun h1 => h.2 (by omega)⟩
theorem Stage.hit (h : Fin n d m a ts0 ls0 i Tt A B I J L V last okb ls x y) (h0 : 1 ≤ i) : Stage i n d m a ts0 ls0 i Tt A B I J L V last okb ls x y :=
  ⟨fun _ => h, fun h1 => by omega⟩
theorem Stage.none {i' : Int} (h : Stage i n d m a ts0 ls0 i' Tt A B I J L V last okb ls x y) (hi : i < i') : okb = false ∧ ls = ls0 := h.2 (by omega)
end
end Go.Proofs.Ytgdncnalahdjeaa
namespace Go.Proofs.Ytgdncnalahdjeaa
open Go Go.RowKit

def firstLoop : Code → Option Code
  | .loop c => some c
  | .seq a b => match firstLoop a with
    | some c => some c
    | none => firstLoop b
  | .block _ c => firstLoop c
  | .scope c => firstLoop c
  | .cond _ a b => match firstLoop a with
    | some c => some c
    | none => firstLoop b
  | _ => none
noncomputable def body38 : Code := ((Try.f38.body.bind firstLoop).getD .skip)
theorem conclL_1 (n : Nat) (d : VD) (m : Nat) (a : AD) (ts : List (Int × Int)) (Tt A B I J : Int) (L : Nat) (V : Nat → Int) : conclL n d m a ts 1 Tt A B I J L V = toldL m a Tt := rfl
theorem conclL_2 (n : Nat) (d : VD) (m : Nat) (a : AD) (ts : List (Int × Int)) (Tt A B I J : Int) (L : Nat) (V : Nat → Int) : conclL n d m a ts 2 Tt A B I J L V = ((A, A), isV n A) := rfl
theorem conclL_3 (n : Nat) (d : VD) (m : Nat) (a : AD) (ts : List (Int × Int)) (Tt A B I J : Int) (L : Nat) (V : Nat → Int) : conclL n d m a ts 3 Tt A B I J L V = (((atL ts I).1.2, (atL ts I).1.1), (atL ts I).2) := rfl
theorem conclL_4 (n : Nat) (d : VD) (m : Nat) (a : AD) (ts : List (Int × Int)) (Tt A B I J : Int) (L : Nat) (V : Nat → Int) : conclL n d m a ts 4 Tt A B I J L V = (((atL ts I).1.1, (atL ts J).1.2), (atL ts I).2 && (atL ts J).2 && (atL ts I).1.2 == (atL ts J).1.1) := rfl
theorem conclL_5 (n : Nat) (d : VD) (m : Nat) (a : AD) (ts : List (Int × Int)) (Tt A B I J : Int) (L : Nat) (V : Nat → Int) : conclL n d m a ts 5 Tt A B I J L V = ((A, B), appB n d ts A B L V) := rfl
theorem litsT_else {K Tt : Int} {ls : List Int} (h : K ≠ 1) : litsT K Tt ls = ls := by unfold litsT; rw [if_neg h]
theorem there_pair {W : World} {E : Nat} {x y : Int} (e0 : W.cell? ⟨E, 0, none⟩ = some (.int .i64 x)) (e1 : W.cell? ⟨E, 1, none⟩ = some (.int .i64 y)) (f0 : W.frozen? ⟨E, 0, none⟩ = false) (f1 : W.frozen? ⟨E, 1, none⟩ = false) : W.there E 0 2 := fun jj hj => by
  match jj, hj with
  | 0, _ => exact ⟨by rw [e0]; rfl, f0⟩
  | 1, _ => exact ⟨by rw [e1]; rfl, f1⟩
end Go.Proofs.Ytgdncnalahdjeaa
