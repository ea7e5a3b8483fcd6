/- A map of whatever values; a base in memory. -/
import Derived.Test.YtgdncnalahdjeaaU2
import Derived.Maps.OwnOps
import Derived.Maps.OwnSet
namespace Go.Proofs.Ytgdncnalahdjeaa
open Go Go.RowKit Go.Maps

/-- an element is told by itself. -/
def heldR (v : Value) : Option (DataW Value × List MemPlace) := some (.held v, [])
theorem wp_lookup_held {P : Program} {w : World} {o : Oper} {a : Act} {K : Act → World → Prop} {Q : Exit → Act → World → Prop} (m x : Operand) (t : TypeId) (hop : o.op = Op.lookup t m x false)
    (k e : TypeId) (Kd : Keyed P k) (ht : P.underlying t = some (.map k e)) (z : Value) (hz : (zeroValue e).run P w = .ok z w) (b n : Nat) (D : DataW Value)
    (hm : a.eval m = .map (some b)) (hown : w.ownsMap P k heldR b n D) (key : Value) (kl : Lit) (hx : a.eval x = key) (hkey : keyOf P k key = some kl) (v : Value) (hv : D.atKey kl (.held z) = .held v)
    (h : K (a.put o.dst v) w) : o.wp P a w K Q := by
  obtain ⟨v', ps, hrun, hr⟩ := hown.lookup Kd ht hz (show heldR z = some (.held z, []) from rfl) hkey
  rw [hv] at hr
  have hr2 : (DataW.held v', ([] : List MemPlace)) = (DataW.held v, ps) := Option.some.inj hr
  cases hr2
  unfold Oper.wp
  simp [execOp, hop, hm, hx, hrun, Result.andThen]
  exact h
theorem wpList_lookup_held {P : Program} {w : World} {ops : Array Oper} {rest : List Oper} {o : Oper} {a : Act} {Q : Exit → Act → World → Prop} (hg : o.guard = none) (m x : Operand) (t : TypeId) (hop : o.op = Op.lookup t m x false)
    (k e : TypeId) (Kd : Keyed P k) (ht : P.underlying t = some (.map k e)) (z : Value) (hz : (zeroValue e).run P w = .ok z w) (b n : Nat) (D : DataW Value)
    (hm : a.eval m = .map (some b)) (hown : w.ownsMap P k heldR b n D) (key : Value) (kl : Lit) (hx : a.eval x = key) (hkey : keyOf P k key = some kl) (v : Value) (hv : D.atKey kl (.held z) = .held v)
    (h : wpList P ops Q rest (a.put o.dst v) w) : wpList P ops Q (o :: rest) a w :=
  wpList_plain hg fun _ hK => wp_lookup_held m x t hop k e Kd ht z hz b n D hm hown key kl hx hkey v hv (hK _ _ h)
theorem wp_update_held {P : Program} {w : World} {o : Oper} {a : Act} {K : Act → World → Prop} {Q : Exit → Act → World → Prop} (m x v : Operand) (t : TypeId) (hop : o.op = Op.mapUpdate t m x v)
    (k e : TypeId) (Kd : Keyed P k) (ht : P.underlying t = some (.map k e)) (b n : Nat) (D : DataW Value)
    (hm : a.eval m = .map (some b)) (hown : w.ownsMap P k heldR b n D) (hn : n < maxLen) (key val : Value) (kl : Lit) (hx : a.eval x = key) (hv : a.eval v = val) (hkey : keyOf P k key = some kl)
    (h : ∀ w', w'.ownsMap P k heldR b (n + 1) (D.put kl (.held val)) → w.grownBy w' (some b) → K (a.put o.dst undef) w') : o.wp P a w K Q := by
  obtain ⟨w', hrun, r1, r2⟩ := hown.update Kd ht hn hkey (show heldR val = some (.held val, []) from rfl)
  unfold Oper.wp
  simp [execOp, hop, hm, hx, hv, hrun, Result.andThen]
  exact h w' r1 r2
theorem wpList_update_held {P : Program} {w : World} {ops : Array Oper} {rest : List Oper} {o : Oper} {a : Act} {Q : Exit → Act → World → Prop} (hg : o.guard = none) (m x v : Operand) (t : TypeId) (hop : o.op = Op.mapUpdate t m x v)
    (k e : TypeId) (Kd : Keyed P k) (ht : P.underlying t = some (.map k e)) (b n : Nat) (D : DataW Value)
    (hm : a.eval m = .map (some b)) (hown : w.ownsMap P k heldR b n D) (hn : n < maxLen) (key val : Value) (kl : Lit) (hx : a.eval x = key) (hv : a.eval v = val) (hkey : keyOf P k key = some kl)
    (h : ∀ w', w'.ownsMap P k heldR b (n + 1) (D.put kl (.held val)) → w.grownBy w' (some b) → wpList P ops Q rest (a.put o.dst undef) w') : wpList P ops Q (o :: rest) a w :=
  wpList_plain hg fun _ hK => wp_update_held m x v t hop k e Kd ht b n D hm hown hn key val kl hx hv hkey (fun w' h1 h2 => hK _ _ (h w' h1 h2))
/-- a map has as many entries as it is read with. -/
theorem ownsMap_tight {P : Program} {w : World} {k : TypeId} {b n : Nat} {D : DataW Value} (h : w.ownsMap P k heldR b n D) : w.ownsMap P k heldR b (Maps.size D) D := by
  obtain ⟨es, cl, h1, h2, h3, rfl⟩ := h
  exact ⟨es, cl, h1, h2, by show es.size ≤ Maps.size _; rw [Maps.size_eq, length_sorted]; simp, rfl⟩
theorem ownsMap_only {P : Program} {w w' : World} {k : TypeId} {b n : Nat} {D : DataW Value} {T : Nat → Prop} (h : w.ownsMap P k heldR b n D) (ho : Only T w w') (hn : ¬ T b) : w'.ownsMap P k heldR b n D := by
  obtain ⟨es, cl, h1, h2⟩ := h
  refine ⟨es, cl, ?_, h2⟩
  rw [← h1]
  exact ho.block b (by
    rcases Nat.lt_or_ge b w.heap.size with h | h
    · exact h
    · rw [Array.getElem?_eq_none h] at h1; cases h1) hn
def okKey : Lit → Bool
  | .int .i64 x => isLitB x
  | _ => false
def okKeys (D : DataW Value) : Prop := ∃ es, D = .map es ∧ ∀ p, p ∈ es → okKey p.1 = true
/-- what a block of memory is for. -/
inductive Kd
  | junk | obj | map | cls | tru | tra
  | cl (i : Nat)
  | wat (x : Int)
def Ext (K K' : Nat → Kd) (n : Nat) : Prop := ∀ k, k < n → K' k = K k
theorem Ext.refl (K : Nat → Kd) (n : Nat) : Ext K K n := fun _ _ => rfl
theorem Ext.trans {A B C : Nat → Kd} {n m : Nat} (h : Ext A B n) (k : Ext B C m) (hm : n ≤ m) : Ext A C n := fun i hi => (k i (Nat.lt_of_lt_of_le hi hm)).trans (h i hi)
def Tg (K : Nat → Kd) (v : Value) (t : Kd) : Prop := ∀ k, v.ownBlock = some k → K k = t
def litV (l : Int) : Value := .int .i64 l
def natV (j : Nat) : Value := .int .i64 (j : Int)
/-- a row of the call's own, its block for one thing. -/
structure RowAt (W : World) (K : Nat → Kd) (t : Kd) (e : TypeId) (v : Value) (xs : List Value) : Prop where
  own : W.ownsRow 0 e 1 v xs.length xs
  tg : Tg K v t
theorem RowAt.only {W W' : World} {K K' : Nat → Kd} {t : Kd} {e : TypeId} {v : Value} {xs : List Value} {S : Nat → Prop} (h : RowAt W K t e v xs) (ho : Only S W W') (hx : Ext K K' W.heap.size) (hS : ∀ k, K k = t → ¬ S k) : RowAt W' K' t e v xs :=
  ⟨own_only h.own ho (fun k hk => hS k (h.tg k hk)), fun k hk => (hx k (own_lt h.own hk).2).trans (h.tg k hk)⟩
structure ClsAt (W : World) (K : Nat → Kd) (v : Value) (cl : List (List Int)) : Prop where
  row : ∃ rows : List Value, rows.length = cl.length ∧ RowAt W K .cls 23 v rows ∧ ∀ (i : Nat) (c : List Int), cl[i]? = some c → ∃ u, rows[i]? = some u ∧ RowAt W K (.cl i) 54 u (c.map litV)
theorem ClsAt.only {W W' : World} {K K' : Nat → Kd} {v : Value} {cl : List (List Int)} {S : Nat → Prop} (h : ClsAt W K v cl) (ho : Only S W W') (hx : Ext K K' W.heap.size) (h1 : ∀ k, K k = .cls → ¬ S k) (h2 : ∀ k i, K k = .cl i → ¬ S k) : ClsAt W' K' v cl := by
  obtain ⟨rows, hl, hr, hc⟩ := h.row
  refine ⟨rows, hl, hr.only ho hx h1, fun i c hi => ?_⟩
  obtain ⟨u, hu, hru⟩ := hc i c hi
  exact ⟨u, hu, hru.only ho hx (fun k hk => h2 k i hk)⟩
structure TruAt (W : World) (K : Nat → Kd) (v : Value) (T : List Int) : Prop where
  row : ∃ tr : List Int, RowAt W K .tru 105 v (tr.map (Value.int .i8)) ∧ tr.length ≤ 2097153 ∧ (∀ (i : Nat) (x : Int), tr[i]? = some x → x = valT T i) ∧ ∀ l, l ∈ T → l.natAbs < tr.length
theorem TruAt.only {W W' : World} {K K' : Nat → Kd} {v : Value} {T : List Int} {S : Nat → Prop} (h : TruAt W K v T) (ho : Only S W W') (hx : Ext K K' W.heap.size) (h1 : ∀ k, K k = .tru → ¬ S k) : TruAt W' K' v T := by
  obtain ⟨tr, hr, a⟩ := h.row
  exact ⟨tr, hr.only ho hx h1, a⟩
structure MapAt (W : World) (K : Nat → Kd) (m : Nat) (hl : Int → Prop) (wt : Int → List Nat) : Prop where
  tag : K m = .map
  has : ∃ D : DataW Value, (∃ n, W.ownsMap Try.prog 54 heldR m n D) ∧ (okKeys D) ∧
    ∀ x, isLitB x = true → ¬ hl x → ∃ v, D.atKey (.int .i64 x) (.held (.slice none 0 0)) = .held v ∧ RowAt W K (.wat x) 3 v ((wt x).map natV)
theorem MapAt.only {W W' : World} {K K' : Nat → Kd} {m : Nat} {hl : Int → Prop} {wt : Int → List Nat} {S : Nat → Prop} (h : MapAt W K m hl wt) (ho : Only S W W') (hx : Ext K K' W.heap.size) (h1 : ∀ k, K k = .map → ¬ S k) (h2 : ∀ k x, K k = .wat x → ¬ hl x → ¬ S k) : MapAt W' K' m hl wt := by
  obtain ⟨D, ⟨n, hD⟩, hk, hv⟩ := h.has
  refine ⟨(hx m hD.lt).trans h.tag, D, ⟨n, ownsMap_only hD ho (h1 m h.tag)⟩, hk, fun x hx0 hx1 => ?_⟩
  obtain ⟨v, e, hr⟩ := hv x hx0 hx1
  exact ⟨v, e, hr.only ho hx (fun k hk => h2 k x hk hx1)⟩
/-- a base's struct in block a. -/
structure ObjAt (W : World) (a m : Nat) (v0 v2 v3 : Value) (nx : Nat) (br : Bool) : Prop where
  c0 : W.cell? ⟨a, 0, none⟩ = some v0
  c1 : W.cell? ⟨a, 1, none⟩ = some (.map (some m))
  c2 : W.cell? ⟨a, 2, none⟩ = some v2
  c3 : W.cell? ⟨a, 3, none⟩ = some v3
  c4 : W.cell? ⟨a, 4, none⟩ = some (.int .i64 (nx : Int))
  c5 : W.cell? ⟨a, 5, none⟩ = some (.bool br)
  fz : ∀ o, W.frozen? ⟨a, o, none⟩ = false
theorem ObjAt.lt {W : World} {a m : Nat} {v0 v2 v3 : Value} {nx : Nat} {br : Bool} (h : ObjAt W a m v0 v2 v3 nx br) : a < W.heap.size := World.block_lt_of_cell? W _ h.c1
theorem ObjAt.only {W W' : World} {a m : Nat} {v0 v2 v3 : Value} {nx : Nat} {br : Bool} {S : Nat → Prop} (h : ObjAt W a m v0 v2 v3 nx br) (ho : Only S W W') (na : ¬ S a) : ObjAt W' a m v0 v2 v3 nx br :=
  ⟨ho.cell h.c0 na, ho.cell h.c1 na, ho.cell h.c2 na, ho.cell h.c3 na, ho.cell h.c4 na, ho.cell h.c5 na, fun o => by rw [ho.frozen h.lt na]; exact h.fz o⟩
theorem far_cell {W : World} {a i j : Nat} {u v : Value} (h : W.cell? ⟨a, i, none⟩ = some v) (hij : j ≠ i) : (W.setCell ⟨a, j, none⟩ u).cell? ⟨a, i, none⟩ = some v := by
  rw [World.cell?_setCell_other _ _ _ _ (by intro e; cases e; exact hij rfl)]; exact h
section
variable {W : World} {a m : Nat} {v0 v2 v3 : Value} {nx : Nat} {br : Bool}
theorem ObjAt.set0 (h : ObjAt W a m v0 v2 v3 nx br) (u : Value) : ObjAt (W.setCell ⟨a, 0, none⟩ u) a m u v2 v3 nx br :=
  ⟨World.cell?_setCell_same _ _ _ h.c0, far_cell h.c1 (by omega), far_cell h.c2 (by omega), far_cell h.c3 (by omega), far_cell h.c4 (by omega), far_cell h.c5 (by omega), fun o => by rw [World.frozen?_setCell]; exact h.fz o⟩
theorem ObjAt.set2 (h : ObjAt W a m v0 v2 v3 nx br) (u : Value) : ObjAt (W.setCell ⟨a, 2, none⟩ u) a m v0 u v3 nx br :=
  ⟨far_cell h.c0 (by omega), far_cell h.c1 (by omega), World.cell?_setCell_same _ _ _ h.c2, far_cell h.c3 (by omega), far_cell h.c4 (by omega), far_cell h.c5 (by omega), fun o => by rw [World.frozen?_setCell]; exact h.fz o⟩
theorem ObjAt.set3 (h : ObjAt W a m v0 v2 v3 nx br) (u : Value) : ObjAt (W.setCell ⟨a, 3, none⟩ u) a m v0 v2 u nx br :=
  ⟨far_cell h.c0 (by omega), far_cell h.c1 (by omega), far_cell h.c2 (by omega), World.cell?_setCell_same _ _ _ h.c3, far_cell h.c4 (by omega), far_cell h.c5 (by omega), fun o => by rw [World.frozen?_setCell]; exact h.fz o⟩
theorem ObjAt.set4 (h : ObjAt W a m v0 v2 v3 nx br) (n : Nat) : ObjAt (W.setCell ⟨a, 4, none⟩ (.int .i64 (n : Int))) a m v0 v2 v3 n br :=
  ⟨far_cell h.c0 (by omega), far_cell h.c1 (by omega), far_cell h.c2 (by omega), far_cell h.c3 (by omega), World.cell?_setCell_same _ _ _ h.c4, far_cell h.c5 (by omega), fun o => by rw [World.frozen?_setCell]; exact h.fz o⟩
theorem ObjAt.set5 (h : ObjAt W a m v0 v2 v3 nx br) (b : Bool) : ObjAt (W.setCell ⟨a, 5, none⟩ (.bool b)) a m v0 v2 v3 nx b :=
  ⟨far_cell h.c0 (by omega), far_cell h.c1 (by omega), far_cell h.c2 (by omega), far_cell h.c3 (by omega), far_cell h.c4 (by omega), World.cell?_setCell_same _ _ _ h.c5, fun o => by rw [World.frozen?_setCell]; exact h.fz o⟩
end
/-- a base: T is what its truth says, R its trail. -/
structure BaseAt (W : World) (K : Nat → Kd) (a m : Nat) (hl : Int → Prop) (cl : List (List Int)) (wt : Int → List Nat) (T R : List Int) (nx : Nat) (br : Bool) : Prop where
  fr : ∀ k, W.heap.size ≤ k → K k = .junk
  ka : K a = .obj
  mp : MapAt W K m hl wt
  ob : ∃ v0 v2 v3, ObjAt W a m v0 v2 v3 nx br ∧ ClsAt W K v0 cl ∧ TruAt W K v2 T ∧ RowAt W K .tra 54 v3 (R.map litV)
/-- what a call on a base leaves: all blocks that are for nothing of it, and those of Q. -/
structure StepB (Q : Kd → Prop) (W W' : World) (K K' : Nat → Kd) : Prop where
  only : Only (fun k => K k ≠ .junk ∧ ¬ Q (K k)) W W'
  ext : Ext K K' W.heap.size
def Wats (t : Kd) : Prop := ∃ x, t = .wat x
def Wbut (l : Int) (t : Kd) : Prop := t ≠ .map ∧ t ≠ .wat l
def NoQ (_ : Kd) : Prop := False
theorem StepB.refl {Q : Kd → Prop} (W : World) (K : Nat → Kd) : StepB Q W W K K := ⟨Only.refl _ _, Ext.refl _ _⟩
theorem StepB.trans {Q : Kd → Prop} {A B C : World} {K L M : Nat → Kd} (h : StepB Q A B K L) (k : StepB Q B C L M) : StepB Q A C K M :=
  ⟨h.only.comp k.only (fun _ _ h => h) (fun i hi hn => by
    have e := h.ext i hi
    refine ⟨fun e2 => hn.1 (e.trans e2), fun q => hn.2 (by rw [e]; exact q)⟩), h.ext.trans k.ext h.only.size⟩
theorem StepB.below {Q : Kd → Prop} {W W' : World} {K : Nat → Kd} (hb : Below W.heap.size W W') : StepB Q W W' K K := ⟨Only.of_below hb, Ext.refl _ _⟩
theorem StepB.mono {Q Q' : Kd → Prop} {W W' : World} {K K' : Nat → Kd} (h : StepB Q W W' K K') (hq : ∀ t, Q' t → Q t) : StepB Q' W W' K K' := ⟨h.only.mono (fun _ _ e => ⟨e.1, fun q => e.2 (hq _ q)⟩), h.ext⟩
theorem StepB.no {Q : Kd → Prop} {W W' : World} {K K' : Nat → Kd} (h : StepB Q W W' K K') : StepB NoQ W W' K K' := h.mono (fun _ q => q.elim)
theorem RowAt.step {Q : Kd → Prop} {W W' : World} {K K' : Nat → Kd} {t : Kd} {e : TypeId} {v : Value} {xs : List Value} (h : RowAt W K t e v xs) (hs : StepB Q W W' K K') (hq : t = .junk ∨ Q t) : RowAt W' K' t e v xs :=
  h.only hs.only hs.ext (fun k hk e => by
    rw [hk] at e
    rcases hq with hq | hq
    · exact e.1 hq
    · exact e.2 hq)
theorem ObjAt.step {Q : Kd → Prop} {W W' : World} {K K' : Nat → Kd} {v : Value} {a : Addr} (h : W.cell? a = some v) (hs : StepB Q W W' K K') (hq : K a.block = .junk ∨ Q (K a.block)) : W'.cell? a = some v :=
  hs.only.cell h (fun e => by
    rcases hq with hq | hq
    · exact e.1 hq
    · exact e.2 hq)
section
variable {W W' : World} {K K' : Nat → Kd} {a m : Nat} {hl : Int → Prop} {cl : List (List Int)} {wt : Int → List Nat} {T R : List Int} {nx : Nat} {br : Bool}
theorem BaseAt.lt (h : BaseAt W K a m hl cl wt T R nx br) : a < W.heap.size := by obtain ⟨_, _, _, h, _⟩ := h.ob; exact h.lt
theorem BaseAt.only {S : Nat → Prop} (h : BaseAt W K a m hl cl wt T R nx br) (ho : Only S W W') (hx : Ext K K' W.heap.size) (hf : ∀ k, W'.heap.size ≤ k → K' k = .junk) (hS : ∀ k, K k ≠ .junk → ¬ S k) : BaseAt W' K' a m hl cl wt T R nx br := by
  obtain ⟨v0, v2, v3, ob, r0, r2, r3⟩ := h.ob
  have hS2 : ∀ t, t ≠ Kd.junk → ∀ k, K k = t → ¬ S k := fun t ht k hk => hS k (by rw [hk]; exact ht)
  exact ⟨hf, (hx a h.lt).trans h.ka, h.mp.only ho hx (hS2 _ (by simp)) (fun k i hk _ => hS2 (.wat i) (by simp) k hk), v0, v2, v3, ob.only ho (hS2 _ (by simp) a h.ka), r0.only ho hx (hS2 _ (by simp)) (fun k i hk => hS2 (.cl i) (by simp) k hk), r2.only ho hx (hS2 _ (by simp)), r3.only ho hx (hS2 _ (by simp))⟩
theorem BaseAt.later (h : BaseAt W K a m hl cl wt T R nx br) (hb : Below W.heap.size W W') : BaseAt W' K a m hl cl wt T R nx br :=
  h.only (Only.of_below (T := fun _ => False) hb) (Ext.refl _ _) (fun k hk => h.fr k (Nat.le_trans hb.size hk)) (fun _ _ h => h)
/-- a store into the struct. -/
theorem only_obj (W : World) (a i : Nat) (u : Value) : Only (fun k => k = a) W (W.setCell ⟨a, i, none⟩ u) := Only.of_setCell W ⟨a, i, none⟩ u
theorem BaseAt.put4 (h : BaseAt W K a m hl cl wt T R nx br) (n : Nat) : BaseAt (W.setCell ⟨a, 4, none⟩ (.int .i64 (n : Int))) K a m hl cl wt T R n br ∧ StepB Wats W (W.setCell ⟨a, 4, none⟩ (.int .i64 (n : Int))) K K := by
  obtain ⟨v0, v2, v3, ob, r0, r2, r3⟩ := h.ob
  have ho := only_obj W a 4 (.int .i64 (n : Int))
  have hx := Ext.refl K W.heap.size
  have ne : ∀ t, t ≠ Kd.obj → ∀ k, K k = t → ¬ k = a := fun t ht k hk e => ht (by rw [← hk, e]; exact h.ka)
  exact ⟨⟨fun k hk => h.fr k (by simpa using hk), h.ka, h.mp.only ho hx (ne _ (by simp)) (fun k i hk _ => ne (.wat i) (by simp) k hk), v0, v2, v3, ob.set4 n, r0.only ho hx (ne _ (by simp)) (fun k i hk => ne (.cl i) (by simp) k hk), r2.only ho hx (ne _ (by simp)), r3.only ho hx (ne _ (by simp))⟩, ⟨ho.mono (fun k _ e => by show K k ≠ _ ∧ ¬ _; rw [e, h.ka]; simp [Wats]), hx⟩⟩
theorem BaseAt.put5 (h : BaseAt W K a m hl cl wt T R nx br) (b : Bool) : BaseAt (W.setCell ⟨a, 5, none⟩ (.bool b)) K a m hl cl wt T R nx b ∧ StepB Wats W (W.setCell ⟨a, 5, none⟩ (.bool b)) K K := by
  obtain ⟨v0, v2, v3, ob, r0, r2, r3⟩ := h.ob
  have ho := only_obj W a 5 (.bool b)
  have hx := Ext.refl K W.heap.size
  have ne : ∀ t, t ≠ Kd.obj → ∀ k, K k = t → ¬ k = a := fun t ht k hk e => ht (by rw [← hk, e]; exact h.ka)
  exact ⟨⟨fun k hk => h.fr k (by simpa using hk), h.ka, h.mp.only ho hx (ne _ (by simp)) (fun k i hk _ => ne (.wat i) (by simp) k hk), v0, v2, v3, ob.set5 b, r0.only ho hx (ne _ (by simp)) (fun k i hk => ne (.cl i) (by simp) k hk), r2.only ho hx (ne _ (by simp)), r3.only ho hx (ne _ (by simp))⟩, ⟨ho.mono (fun k _ e => by show K k ≠ _ ∧ ¬ _; rw [e, h.ka]; simp [Wats]), hx⟩⟩
/-- a block is for a thing from now on. -/
def upK (K : Nat → Kd) (o : Option Nat) (t : Kd) : Nat → Kd := fun k => if o = some k then t else K k
theorem upK_ext (K : Nat → Kd) {o : Option Nat} {t : Kd} {n : Nat} (h : ∀ k, o = some k → k < n → K k = t) : Ext K (upK K o t) n := by
  intro k hk
  unfold upK
  by_cases e : o = some k
  · rw [if_pos e]; exact (h k e hk).symm
  · rw [if_neg e]
theorem upK_tg (K : Nat → Kd) (v : Value) (t : Kd) : Tg (upK K v.ownBlock t) v t := fun k hk => by unfold upK; rw [if_pos hk]
theorem upK_fr {K : Nat → Kd} {o : Option Nat} {t : Kd} {n n' : Nat} (hf : ∀ k, n ≤ k → K k = .junk) (hn : n ≤ n') (ho : ∀ k, o = some k → k < n') : ∀ k, n' ≤ k → upK K o t k = .junk := by
  intro k hk
  unfold upK
  by_cases e : o = some k
  · have := ho k e; omega
  · rw [if_neg e]; exact hf k (by omega)
/-- the row of one thing turns, or is a new one; then the struct's cell. W1: where the row is turned. -/
theorem BaseAt.put2 (h : BaseAt W K a m hl cl wt T R nx br) {W1 : World} {u : Value} {T' : List Int} (ho : Only (fun k => K k = .tru) W W1) (hx : Ext K K' W.heap.size) (hf : ∀ k, W1.heap.size ≤ k → K' k = .junk) (ht : TruAt W1 K' u T') :
    BaseAt (W1.setCell ⟨a, 2, none⟩ u) K' a m hl cl wt T' R nx br ∧ StepB Wats W (W1.setCell ⟨a, 2, none⟩ u) K K' := by
  obtain ⟨v0, v2, v3, ob, r0, r2, r3⟩ := h.ob
  have ho2 := only_obj W1 a 2 u
  have hx2 := Ext.refl K' W1.heap.size
  have ka' : K' a = .obj := (hx a h.lt).trans h.ka
  have ne : ∀ t, t ≠ Kd.obj → ∀ k, K' k = t → ¬ k = a := fun t ht k hk e => ht (by rw [← hk, e]; exact ka')
  have nt : ∀ t, t ≠ Kd.tru → ∀ k, K k = t → ¬ K k = Kd.tru := fun t ht k hk e => ht (by rw [← hk, e])
  refine ⟨⟨fun k hk => hf k (by simpa using hk), ka', (h.mp.only ho hx (nt _ (by simp)) (fun k i hk _ => nt (.wat i) (by simp) k hk)).only ho2 hx2 (ne _ (by simp)) (fun k i hk _ => ne (.wat i) (by simp) k hk), v0, u, v3, (ob.only ho (nt _ (by simp) a h.ka)).set2 u, (r0.only ho hx (nt _ (by simp)) (fun k i hk => nt (.cl i) (by simp) k hk)).only ho2 hx2 (ne _ (by simp)) (fun k i hk => ne (.cl i) (by simp) k hk), ht.only ho2 hx2 (ne _ (by simp)), (r3.only ho hx (nt _ (by simp))).only ho2 hx2 (ne _ (by simp))⟩, ⟨ho.comp ho2 (fun k _ e => by show K k ≠ _ ∧ ¬ _; rw [e]; simp [Wats]) (fun k _ e => by show K k ≠ _ ∧ ¬ _; rw [e, h.ka]; simp [Wats]), hx⟩⟩
theorem BaseAt.in2 (h : BaseAt W K a m hl cl wt T R nx br) {W1 : World} {T' : List Int} (ho : Only (fun k => K k = .tru) W W1) (hs : W.heap.size ≤ W1.heap.size) (ht : ∀ v, W.cell? ⟨a, 2, none⟩ = some v → TruAt W1 K v T') :
    BaseAt W1 K a m hl cl wt T' R nx br ∧ StepB Wats W W1 K K := by
  obtain ⟨v0, v2, v3, ob, r0, r2, r3⟩ := h.ob
  have hx := Ext.refl K W.heap.size
  have nt : ∀ t, t ≠ Kd.tru → ∀ k, K k = t → ¬ K k = Kd.tru := fun t ht k hk e => ht (by rw [← hk, e])
  exact ⟨⟨fun k hk => h.fr k (by omega), h.ka, h.mp.only ho hx (nt _ (by simp)) (fun k i hk _ => nt (.wat i) (by simp) k hk), v0, v2, v3, ob.only ho (nt _ (by simp) a h.ka), r0.only ho hx (nt _ (by simp)) (fun k i hk => nt (.cl i) (by simp) k hk), ht _ ob.c2, r3.only ho hx (nt _ (by simp))⟩, ⟨ho.mono (fun k _ e => by show K k ≠ _ ∧ ¬ _; rw [e]; simp [Wats]), hx⟩⟩
theorem BaseAt.put3 (h : BaseAt W K a m hl cl wt T R nx br) {W1 : World} {u : Value} {R' : List Int} (ho : Only (fun k => K k = .tra) W W1) (hx : Ext K K' W.heap.size) (hf : ∀ k, W1.heap.size ≤ k → K' k = .junk) (ht : RowAt W1 K' .tra 54 u (R'.map litV)) :
    BaseAt (W1.setCell ⟨a, 3, none⟩ u) K' a m hl cl wt T R' nx br ∧ StepB Wats W (W1.setCell ⟨a, 3, none⟩ u) K K' := by
  obtain ⟨v0, v2, v3, ob, r0, r2, r3⟩ := h.ob
  have ho2 := only_obj W1 a 3 u
  have hx2 := Ext.refl K' W1.heap.size
  have ka' : K' a = .obj := (hx a h.lt).trans h.ka
  have ne : ∀ t, t ≠ Kd.obj → ∀ k, K' k = t → ¬ k = a := fun t ht k hk e => ht (by rw [← hk, e]; exact ka')
  have nt : ∀ t, t ≠ Kd.tra → ∀ k, K k = t → ¬ K k = Kd.tra := fun t ht k hk e => ht (by rw [← hk, e])
  refine ⟨⟨fun k hk => hf k (by simpa using hk), ka', (h.mp.only ho hx (nt _ (by simp)) (fun k i hk _ => nt (.wat i) (by simp) k hk)).only ho2 hx2 (ne _ (by simp)) (fun k i hk _ => ne (.wat i) (by simp) k hk), v0, v2, u, (ob.only ho (nt _ (by simp) a h.ka)).set3 u, (r0.only ho hx (nt _ (by simp)) (fun k i hk => nt (.cl i) (by simp) k hk)).only ho2 hx2 (ne _ (by simp)) (fun k i hk => ne (.cl i) (by simp) k hk), (r2.only ho hx (nt _ (by simp))).only ho2 hx2 (ne _ (by simp)), ht.only ho2 hx2 (ne _ (by simp))⟩, ⟨ho.comp ho2 (fun k _ e => by show K k ≠ _ ∧ ¬ _; rw [e]; simp [Wats]) (fun k _ e => by show K k ≠ _ ∧ ¬ _; rw [e, h.ka]; simp [Wats]), hx⟩⟩
theorem BaseAt.put0 (h : BaseAt W K a m hl cl wt T R nx br) {W1 : World} {u : Value} {cl' : List (List Int)} (ho : Only (fun k => K k = .cls) W W1) (hx : Ext K K' W.heap.size) (hf : ∀ k, W1.heap.size ≤ k → K' k = .junk) (ht : ClsAt W1 K' u cl') :
    BaseAt (W1.setCell ⟨a, 0, none⟩ u) K' a m hl cl' wt T R nx br ∧ StepB Wats W (W1.setCell ⟨a, 0, none⟩ u) K K' := by
  obtain ⟨v0, v2, v3, ob, r0, r2, r3⟩ := h.ob
  have ho2 := only_obj W1 a 0 u
  have hx2 := Ext.refl K' W1.heap.size
  have ka' : K' a = .obj := (hx a h.lt).trans h.ka
  have ne : ∀ t, t ≠ Kd.obj → ∀ k, K' k = t → ¬ k = a := fun t ht k hk e => ht (by rw [← hk, e]; exact ka')
  have nt : ∀ t, t ≠ Kd.cls → ∀ k, K k = t → ¬ K k = Kd.cls := fun t ht k hk e => ht (by rw [← hk, e])
  refine ⟨⟨fun k hk => hf k (by simpa using hk), ka', (h.mp.only ho hx (nt _ (by simp)) (fun k i hk _ => nt (.wat i) (by simp) k hk)).only ho2 hx2 (ne _ (by simp)) (fun k i hk _ => ne (.wat i) (by simp) k hk), u, v2, v3, (ob.only ho (nt _ (by simp) a h.ka)).set0 u, ht.only ho2 hx2 (ne _ (by simp)) (fun k i hk => ne (.cl i) (by simp) k hk), (r2.only ho hx (nt _ (by simp))).only ho2 hx2 (ne _ (by simp)), (r3.only ho hx (nt _ (by simp))).only ho2 hx2 (ne _ (by simp))⟩, ⟨ho.comp ho2 (fun k _ e => by show K k ≠ _ ∧ ¬ _; rw [e]; simp [Wats]) (fun k _ e => by show K k ≠ _ ∧ ¬ _; rw [e, h.ka]; simp [Wats]), hx⟩⟩
/-- the map turns, and the row of one of its keys. -/
theorem BaseAt.inM (h : BaseAt W K a m hl cl wt T R nx br) {W1 : World} {wt' : Int → List Nat} {hl' : Int → Prop} {l : Int} (ho : Only (fun k => K k = .map ∨ K k = .wat l) W W1) (hx : Ext K K' W.heap.size) (hf : ∀ k, W1.heap.size ≤ k → K' k = .junk) (ht : MapAt W1 K' m hl' wt') :
    BaseAt W1 K' a m hl' cl wt' T R nx br ∧ StepB (Wbut l) W W1 K K' := by
  obtain ⟨v0, v2, v3, ob, r0, r2, r3⟩ := h.ob
  have nt : ∀ t, t ≠ Kd.map → t ≠ Kd.wat l → ∀ k, K k = t → ¬ (K k = Kd.map ∨ K k = .wat l) := fun t ht ht2 k hk e => by
    rcases e with e | e
    · exact ht (by rw [← hk, e])
    · exact ht2 (by rw [← hk, e])
  exact ⟨⟨hf, (hx a h.lt).trans h.ka, ht, v0, v2, v3, ob.only ho (nt _ (by simp) (by simp) a h.ka), r0.only ho hx (nt _ (by simp) (by simp)) (fun k i hk => nt (.cl i) (by simp) (by simp) k hk), r2.only ho hx (nt _ (by simp) (by simp)), r3.only ho hx (nt _ (by simp) (by simp))⟩, ⟨ho.mono (fun k _ e => by
    show K k ≠ _ ∧ ¬ _
    rcases e with e | e <;> (rw [e]; simp [Wbut])), hx⟩⟩
/-- a row that no key has turns. -/
theorem BaseAt.inG (h : BaseAt W K a m hl cl wt T R nx br) {W1 : World} {l : Int} (ho : Only (fun k => K k = .wat l) W W1) (hh : hl l) (hs : W.heap.size ≤ W1.heap.size) : BaseAt W1 K a m hl cl wt T R nx br ∧ StepB (Wbut l) W W1 K K := by
  have hx := Ext.refl K W.heap.size
  refine h.inM (l := l) (ho.mono (fun k _ e => .inr e)) hx (fun k hk => h.fr k (Nat.le_trans hs hk)) (h.mp.only ho hx (fun k e1 e2 => by rw [e1] at e2; cases e2) (fun k x e1 hn e2 => ?_))
  rw [e1] at e2
  cases e2
  exact hn hh
theorem BaseAt.holes (h : BaseAt W K a m hl cl wt T R nx br) {hl' : Int → Prop} {wt' : Int → List Nat} (hh : ∀ x, ¬ hl' x → ¬ hl x ∧ wt' x = wt x) : BaseAt W K a m hl' cl wt' T R nx br := by
  refine ⟨h.fr, h.ka, ⟨h.mp.tag, ?_⟩, h.ob⟩
  obtain ⟨D, hD, hk, hv⟩ := h.mp.has
  refine ⟨D, hD, hk, fun x hx hn => ?_⟩
  rw [(hh x hn).2]
  exact hv x hx (hh x hn).1
/-- a clause's row turns. -/
theorem BaseAt.inC (h : BaseAt W K a m hl cl wt T R nx br) {W1 : World} {j : Nat} {c c' : List Int} (hj : cl[j]? = some c) (ho : Only (fun k => K k = .cl j) W W1) (hs : W.heap.size ≤ W1.heap.size) (ht : ∀ u, RowAt W K (.cl j) 54 u (c.map litV) → RowAt W1 K (.cl j) 54 u (c'.map litV)) :
    BaseAt W1 K a m hl (cl.set j c') wt T R nx br ∧ StepB Wats W W1 K K := by
  obtain ⟨v0, v2, v3, ob, r0, r2, r3⟩ := h.ob
  have hx := Ext.refl K W.heap.size
  have nt : ∀ t, t ≠ Kd.cl j → ∀ k, K k = t → ¬ K k = Kd.cl j := fun t ht k hk e => ht (by rw [← hk, e])
  refine ⟨⟨fun k hk => h.fr k (Nat.le_trans hs hk), h.ka, h.mp.only ho hx (nt _ (by simp)) (fun k i hk _ => nt (.wat i) (by simp) k hk), v0, v2, v3, ob.only ho (nt _ (by simp) a h.ka), ?_, r2.only ho hx (nt _ (by simp)), r3.only ho hx (nt _ (by simp))⟩, ⟨ho.mono (fun k _ e => by show K k ≠ _ ∧ ¬ _; rw [e]; simp [Wats]), hx⟩⟩
  obtain ⟨rows, hl0, hr, hc⟩ := r0.row
  refine ⟨rows, by simpa using hl0, hr.only ho hx (nt _ (by simp)), fun i d hi => ?_⟩
  rw [List.getElem?_set] at hi
  by_cases e : j = i
  · subst e
    have hlt := (List.getElem?_eq_some_iff.1 hj).1
    simp [hlt] at hi
    subst hi
    obtain ⟨u, hu, hru⟩ := hc j c hj
    exact ⟨u, hu, ht u hru⟩
  · rw [if_neg e] at hi
    obtain ⟨u, hu, hru⟩ := hc i d hi
    exact ⟨u, hu, hru.only ho hx (nt _ (by simp; exact fun h => e h.symm))⟩
end
theorem litB_in {l : Int} (h : isLitB l = true) : l ≠ 0 ∧ -1048576 ≤ l ∧ l ≤ 1048576 := by
  unfold isLitB at h
  simp at h
  exact ⟨h.1.1, h.1.2, h.2⟩
theorem TruAt.short {W : World} {K : Nat → Kd} {v : Value} {T : List Int} (h : TruAt W K v T) : ∃ (p : Option Addr) (n c : Nat), v = .slice p n c ∧ n ≤ 2097153 ∧ (∀ l : Int, n ≤ l.natAbs → valT T l = 0) ∧ ∀ i : Nat, i < n → ∃ g, p = some ⟨g, 0, none⟩ ∧ W.cell? ⟨g, i, none⟩ = some (.int .i8 (valT T i)) ∧ W.frozen? ⟨g, i, none⟩ = false ∧ K g = .tru := by
  obtain ⟨tr, hr, hlen, hv, hT⟩ := h.row
  obtain ⟨p, c, rfl, hp⟩ := own_shp hr.own
  refine ⟨p, _, c, rfl, by simpa using hlen, fun l hl => ?_, fun i hi => ?_⟩
  · simp at hl
    refine valT_zero.2 ⟨fun hm => ?_, fun hm => ?_⟩
    · have := hT _ hm; omega
    · have := hT _ hm; omega
  · have ho := hr.own
    obtain ⟨g, c', e⟩ := own_some hr.own (by omega)
    rw [e] at ho
    cases e
    simp at hi
    have hu : (tr.map (Value.int .i8))[i]? = some (.int .i8 (valT T i)) := by
      rw [List.getElem?_map, List.getElem?_eq_getElem hi]
      simp [hv i _ (List.getElem?_eq_getElem hi)]
    have := own_cell ho i _ hu
    exact ⟨g, rfl, this.1, this.2, hr.tg g rfl⟩
set_option maxRecDepth 100000 in
set_option maxHeartbeats 800000 in
theorem value_at {W : World} {K : Nat → Kd} {a m : Nat} {hl : Int → Prop} {cl : List (List Int)} {wt : Int → List Nat} {T R : List Int} {nx : Nat} {br : Bool} (h : BaseAt W K a m hl cl wt T R nx br) (hc : Cons T) (l : Int) (hl : isLitB l = true) :
    Calls Try.prog 72 #[.pointer (some ⟨a, 0, none⟩), .int .i64 l] W fun e w' => e = .returned (.int .i8 (valT T l)) ∧ w' = W := by
  obtain ⟨h0, h1, h2⟩ := litB_in hl
  obtain ⟨_, v, _, ob, _, r2, _⟩ := h.ob
  have e2 := ob.c2
  obtain ⟨p, n, c, rfl, hn, hz, hat⟩ := r2.short
  clear r2 h hl ob
  have key : n ≤ l.natAbs ∨ (l.natAbs < n ∧ l < 0) ∨ (l.natAbs < n ∧ 0 < l) := by omega
  rcases key with hk | ⟨hk, hs⟩ | ⟨hk, hs⟩
  · rw [hz l hk]
    have q1 : (n : Int) ≤ max l (-l) := by omega
    clear hat hz hk
    go_enter Try.func72, Try.ntmps72
    go_wp2_with fail
    go_ret
    exact ⟨rfl, rfl⟩
  · obtain ⟨g, rfl, cg, _, _⟩ := hat l.natAbs hk
    have ev : valT T l = - valT T (l.natAbs : Int) := by
      rw [show l = -(l.natAbs : Int) by omega, valT_flip hc]
      simp
    have hv3 := valT_cases T (l.natAbs : Int)
    have em : max l (-l) = (l.natAbs : Int) := by omega
    rw [ev]
    clear ev hat hz
    generalize valT T (l.natAbs : Int) = x at *
    generalize l.natAbs = k at *
    have k0 : (0 : Int) ≤ (k : Int) := by omega
    have k1 : (k : Int) < (n : Int) := by omega
    have q2 : decide (l < 0) = true := by rw [decide_eq_true_eq]; exact hs
    go_enter Try.func72, Try.ntmps72
    go_wp2_with fail
    go_ret
    refine ⟨?_, rfl⟩
    rcases hv3 with rfl | rfl | rfl <;> rfl
  · obtain ⟨g, rfl, cg, _, _⟩ := hat l.natAbs hk
    have ev : valT T l = valT T (l.natAbs : Int) := by rw [show (l.natAbs : Int) = l by omega]
    have em : max l (-l) = (l.natAbs : Int) := by omega
    rw [ev]
    clear ev hat hz
    generalize valT T (l.natAbs : Int) = x at *
    generalize l.natAbs = k at *
    have k0 : (0 : Int) ≤ (k : Int) := by omega
    have k1 : (k : Int) < (n : Int) := by omega
    have q2 : decide (l < 0) = false := by rw [decide_eq_false_iff_not]; omega
    go_enter Try.func72, Try.ntmps72
    go_wp2_with fail
    go_ret
    exact ⟨rfl, rfl⟩
end Go.Proofs.Ytgdncnalahdjeaa
