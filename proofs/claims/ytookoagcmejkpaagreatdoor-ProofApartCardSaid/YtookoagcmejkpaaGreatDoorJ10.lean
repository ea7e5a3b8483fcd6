/- What known() does, of which some calls are told ahead: the classes, an index of a byte, three joins. Trees of numbers, links and steps, plain; a row of trees behind another one. A tree is appended to  -/
import Derived.Test.YtookoagcmejkpaaGreatDoorKn0
import Derived.Test.YtookoagcmejkpaaGreatDoorJ4
import Derived.Test.YtookoagcmejkpaaGreatDoorJ6
import Derived.Test.YtookoagcmejkpaaGreatDoorJ5
import Derived.LoopTactic
import Derived.Lib.Strings
import Derived.Laws.StructEq
import Derived.Tactics
import Derived.Tactics2
import Derived.Test.YtookoagcmejkpaaGreatDoorF2
import Derived.Deep.MidRow
import Derived.Lib.ItoaLen
import Derived.Lib.Join
import Derived.Lib.ConvBytes
import Derived.Lib.SlBytesConst
namespace Go.Proofs.YtookoagcmejkpaaGreatDoor
open Go Go.RowKit
def je0 : List ByteArray := [⟨#[99, 108, 97, 117, 115, 101]⟩, ⟨#[40, 45, 32, 49, 41]⟩, ⟨#[50]⟩]
def jr0 : ByteArray := ⟨#[99, 108, 97, 117, 115, 101, 32, 40, 45, 32, 49, 41, 32, 50]⟩
def je1 : List ByteArray := [⟨#[108, 105, 110, 107, 115]⟩, ⟨#[40, 103, 105, 118, 101, 110, 32, 49, 41]⟩, ⟨#[40, 99, 108, 97, 115, 104, 32, 48, 41]⟩]
def jr1 : ByteArray := ⟨#[108, 105, 110, 107, 115, 32, 40, 103, 105, 118, 101, 110, 32, 49, 41, 32, 40, 99, 108, 97, 115, 104, 32, 48, 41]⟩
def je2 : List ByteArray := [⟨#[40, 99, 108, 97, 117, 115, 101, 32, 40, 45, 32, 49, 41, 32, 50, 41]⟩, ⟨#[40, 108, 105, 110, 107, 115, 32, 40, 103, 105, 118, 101, 110, 32, 49, 41, 32, 40, 99, 108, 97, 115, 104, 32, 48, 41, 41]⟩]
def jr2 : ByteArray := ⟨#[40, 99, 108, 97, 117, 115, 101, 32, 40, 45, 32, 49, 41, 32, 50, 41, 32, 40, 108, 105, 110, 107, 115, 32, 40, 103, 105, 118, 101, 110, 32, 49, 41, 32, 40, 99, 108, 97, 115, 104, 32, 48, 41, 41]⟩
def fls (l : List ByteArray) : List Ab.AV := (l.map Value.string).map Ab.AV.flat
noncomputable def jn (xs : List Ab.AV) : Option ByteArray :=
 match Ab.asSame xs (fls je0) with
 | true => some jr0
 | false =>
  match Ab.asSame xs (fls je1) with
  | true => some jr1
  | false =>
   match Ab.asSame xs (fls je2) with
   | true => some jr2
   | false => none
def joinB (l : List ByteArray) : ByteArray := ⟨(Lib.join (l.map (·.data.toList)) [32]).toArray⟩
theorem jn_spec {xs : List Ab.AV} {r : ByteArray} (h : jn xs = some r) : ∃ l : List ByteArray, xs = fls l ∧ r = joinB l ∧ l.length ≤ 3 ∧ (Lib.join (l.map (·.data.toList)) [32]).length ≤ 100 := by
 unfold jn at h
 split at h
 ·rename_i e; cases h; exact ⟨je0, Ab.asSame_spec e, by rfl, by decide, by decide⟩
 ·split at h
  ·rename_i e; cases h; exact ⟨je1, Ab.asSame_spec e, by rfl, by decide, by decide⟩
  ·split at h
   ·rename_i e; cases h; exact ⟨je2, Ab.asSame_spec e, by rfl, by decide, by decide⟩
   ·cases h
noncomputable def memoK : Ab.Memo := fun f args A =>
 match Nat.beq f 121 with
 | true =>
  match args with
  | [] => some (.agg (clsV.map Ab.AV.flat), A)
  | _ => none
 | false =>
  match Nat.beq f 152 with
  | true =>
   match args with
   | [.flat (.string s), .flat (.int .u8 c)] => some (.flat (.int .i64 (Lib.indexByte s.data.toList c.toNat.toUInt8)), A)
   | _ => none
  | false =>
   match Nat.beq f 87 with
   | true =>
    match args with
    | [.sl n o len cap _b, .flat (.string sep)] =>
     match A.get n with
     | some (.cells l _t) =>
      match jn ((l.drop o).take len) with
      | some r =>
       match Nat.beq ((l.drop o).take len).length len && Nat.ble len cap && Ab.vSame (.string sep) (.string ⟨#[32]⟩) with
       | true => some (.flat (.string r), A)
       | false => none
      | none => none
     | _ => none
    | _ => none
   | false => none
theorem outc_below {ρ : Ab.Rn} {w w' : World} {A : Ab.AW} {v : Ab.AV} {x : Value} (hs : Ab.Sim Tryz.prog ρ A.live w) (hv : Ab.VR ρ v x) (hb : Below w.heap.size w w') : Ab.Outc Tryz.prog ρ w A v A (.returned x) w' := by
 have hold : ∀ n ao l, A.live n = some ao → ρ n = some l → w'.heap[l.blk]? = w.heap[l.blk]? := fun n ao l hn hl => by
  obtain ⟨l', o, e1, e2, _⟩ := hs.obj n ao hn
  rw [hl] at e1; cases e1
  exact hb.block _ (Array.getElem?_eq_some_iff.1 e2).1
 refine ⟨x, ρ, rfl, hv, ⟨fun n ao hn => ?_, hs.inj⟩, ⟨Ab.Sub.refl _, fun _ e k => absurd e k, Nat.le_refl _, fun n ao h => .inl ⟨ao, h⟩, fun n ao l h e => .inr ⟨n, ao, l, h, e, rfl⟩, fun b hb' _ => hb.block b hb', hb.size, hb.os, hb.tape, hb.output⟩⟩
 obtain ⟨l, o, e1, e2, e3⟩ := hs.obj n ao hn
 exact ⟨l, o, e1, by rw [hold n ao l hn e1]; exact e2, e3⟩
theorem memoK_ok : Ab.MemoOk Tryz.prog memoK := by
 intro f args A v A' h ρ w hs hf
 unfold memoK at h
 split at h
 ·rename_i hfe
  have e0 := Nat.eq_of_beq_eq_true hfe
  subst e0
  split at h
  ·cases h
   intro xs hx
   cases hx
   refine (classes_any w).mono ?_
   rintro e w' ⟨rfl, hb⟩
   exact outc_below hs (.agg (flats_to _)) hb
  ·cases h
 ·split at h
  ·rename_i hfe
   have e0 := Nat.eq_of_beq_eq_true hfe
   subst e0
   split at h
   ·cases h
    intro xs hx
    cases hx with
    | cons h1 h2 =>
    cases h2 with
    | cons h2 h3 =>
    cases h3
    cases h1
    cases h2
    refine (Tryz.stringslite_IndexByte _ _ w).mono ?_
    rintro e w' ⟨rfl, rfl⟩
    exact outc_below hs (.flat _) (Below.refl _ _)
   ·cases h
  ·split at h
   ·rename_i hfe
    have e0 := Nat.eq_of_beq_eq_true hfe
    subst e0
    split at h
    ·split at h
     ·rename_i n o len cap b sep x l t hg
      split at h
      ·rename_i r hj
       split at h
       ·rename_i hb
        cases h
        simp only [Bool.and_eq_true] at hb
        obtain ⟨⟨hb1, hb2⟩, hb3⟩ := hb
        have c1 := Nat.eq_of_beq_eq_true hb1
        have c2 := Nat.le_of_ble_eq_true hb2
        have c3 := Ab.vSame_spec hb3
        obtain ⟨bs, hbs, rfl, hl3, hl100⟩ := jn_spec hj
        intro xs hx
        cases hx with
        | cons h1 h2 =>
        cases h2 with
        | cons h2 h3 =>
        cases h3
        cases h2
        injection c3 with c3
        subst c3
        cases h1 with
        | sl _ _ _ _ hn =>
        rename_i lc
        obtain ⟨lc', ob, q1, q2, C, fz, rfl, q4, q5, q6⟩ := hs.obj n _ (show A.live n = some (.cells l t) from by unfold Ab.AW.live; rw [hg])
        rw [hn] at q1
        cases q1
        have hlen : bs.length = len := by rw [hbs] at c1; simpa [fls] using c1
        subst hlen
        refine (Tryz.strings_Join lc.blk (lc.base + o) _ bs ⟨#[32]⟩ w ?_ (Array.getElem?_eq_some_iff.1 q2).1 (by omega) (by omega) (Nat.le_trans hl100 (by decide))).mono ?_
        ·intro j y hy
         have e1 : (fls bs)[j]? = some (.flat (.string y)) := by simp [fls, hy]
         have hjl : j < bs.length := (List.getElem?_eq_some_iff.1 hy).1
         rw [← hbs, List.getElem?_take_of_lt hjl, List.getElem?_drop] at e1
         obtain ⟨v, g1, g2⟩ := q6 _ _ e1
         cases g2
         simp [World.cell?, q2, Nat.add_assoc, g1]
        ·rintro e w' ⟨rfl, hb⟩
         exact outc_below hs (.flat _) hb
       ·cases h
      ·cases h
     ·cases h
    ·cases h
   ·cases h
def nuL (n : Int) : Bool := decide (n < 0)
def nuK (n : Int) : Int := if n < 0 then 1 else 4
def nuS (n : Int) : ByteArray := if n < 0 then ⟨#[40]⟩ else itoB n
def nuX (n : Int) : Fo := if n < 0 then .cons false 3 ⟨#[45]⟩ 0 .nil (.cons false 4 (itoB (-n)) 0 .nil .nil) else .nil
def nusF : List Int → Fo
 | [] => .nil
 | n :: r => .cons (nuL n) (nuK n) (nuS n) 0 (nuX n) (nusF r)
theorem nusF_snoc (l : List Int) (n : Int) : nusF (l ++ [n]) = (nusF l).snoc (nuL n) (nuK n) (nuS n) 0 (nuX n) := by
 induction l with
 | nil => rfl
 | cons x r ih => simp only [List.cons_append, nusF, Fo.snoc, ih]
theorem nusF_app (l m : List Int) : nusF (l ++ m) = (nusF l).app (nusF m) := by
 induction l with
 | nil => rfl
 | cons x r ih => simp only [List.cons_append, nusF, Fo.app, ih]
theorem nusF_len (l : List Int) : (nusF l).len = l.length := by
 induction l with
 | nil => rfl
 | cons x r ih => simp only [nusF, Fo.len, ih, List.length_cons]
def lkH (k : Int) : ByteArray := if k = 1 then hGiven else if k = 2 then hSame else if k = 3 then hTurn else if k = 4 then hThen else if k = 5 then hApply else if k = 6 then hAgainst else hClash
def lkN (x : Lk) : List Int := if x.k = 1 then [x.lit] else if x.k = 2 then [x.a] else if x.k = 3 then [x.i] else if x.k = 4 then [x.i, x.j] else if x.k = 5 then x.a :: x.b :: x.l else if x.k = 6 then [x.lit, x.i] else [x.i]
def lkX (x : Lk) : Fo := .cons false 3 (lkH x.k) 0 .nil (nusF (lkN x))
def lksF : List Lk → Fo
 | [] => .nil
 | x :: r => .cons true 1 ⟨#[40]⟩ 0 (lkX x) (lksF r)
theorem lksF_snoc (l : List Lk) (x : Lk) : lksF (l ++ [x]) = (lksF l).snoc true 1 ⟨#[40]⟩ 0 (lkX x) := by
 induction l with
 | nil => rfl
 | cons y r ih => simp only [List.cons_append, lksF, Fo.snoc, ih]
theorem lksF_len (l : List Lk) : (lksF l).len = l.length := by
 induction l with
 | nil => rfl
 | cons x r ih => simp only [lksF, Fo.len, ih, List.length_cons]
def stH (k : Int) : ByteArray := if k = 1 then hClause else if k = 2 then hLinks else if k = 3 then hCycle else hPair
def stK (x : Stp) : Fo := if x.k = 2 then lksF x.links else if x.k = 4 then nusF [x.a, x.b] else nusF x.lits
def stX (x : Stp) : Fo := .cons false 3 (stH x.k) 0 .nil (stK x)
theorem Fo.len_app : ∀ f g : Fo, (f.app g).len = f.len + g.len
 | .nil, g => by simp only [Fo.app, Fo.len, Nat.zero_add]
 | .cons _ _ _ _ _ r, g => by simp only [Fo.app, Fo.len, Fo.len_app r g]; omega
theorem RowF.app {W : World} {F : Nat → Prop} {g : Fo} {ys : List Value} (hg : RowF W F g ys) : ∀ (f : Fo) (xs : List Value), RowF W F f xs → RowF W F (f.app g) (xs ++ ys)
 | .nil, xs, h => by
  obtain rfl : xs = [] := h
  exact hg
 | .cons l k s a x r, xs, h => by
  obtain ⟨q0, c0, zs, rfl, h3, h4, h5, h6⟩ := h
  exact ⟨q0, c0, zs ++ ys, by simp, h3, h4, h5, RowF.app hg r zs h6⟩
def TrR (W w' : World) (e : Ending) (l : Bool) (k : Int) (s : ByteArray) (x : Fo) : Prop :=
 ∃ q c, e = .returned (trV l k s 0 q x.len c) ∧ x.len ≤ c ∧ x.len ≤ 281474976710656 ∧ FoIn w' (fun b => W.heap.size ≤ b) x q ∧ Below W.heap.size W w'
set_option maxRecDepth 100000
structure OwnG (W : World) (F : Nat → Prop) (v : Value) (f : Fo) : Prop where
 has : ∃ xs, W.ownsRow 0 35 5 v f.len xs ∧ RowF W (fun b => F b ∧ v.ownBlock ≠ some b) f xs
 blk : ∀ k, v.ownBlock = some k → F k ∧ k < W.heap.size
theorem own_zero {w : World} {base n size : Nat} {e : TypeId} {v : Value} {xs : List Value} (h : w.ownsRow base e size v n xs) : w.ownsRow 0 e size v n xs := by
 obtain ⟨h0, h | ⟨g, cap, cur, e, hg, hr⟩⟩ := h
 ·exact ⟨h0, Or.inl h⟩
 ·exact ⟨h0, Or.inr ⟨g, cap, cur, e, Nat.zero_le _, hr⟩⟩
theorem own_eq {g o n c k : Nat} (h : (Value.slice (some ⟨g, o, none⟩) n c).ownBlock = some k) : k = g := by
 simp [Value.ownBlock] at h; exact h.symm
theorem OwnF.wide {W : World} {base : Nat} {v : Value} {f : Fo} (h : OwnF W base v f) : OwnG W (fun b => base ≤ b) v f := by
 obtain ⟨xs, h1, h2⟩ := h
 exact ⟨⟨xs, own_zero h1, h2⟩, fun k hk => own_lt h1 hk⟩
theorem OwnG.later {W W' : World} {F : Nat → Prop} {v : Value} {f : Fo} (h : OwnG W F v f) (hb : Below W.heap.size W W') : OwnG W' F v f := by
 obtain ⟨⟨xs, h1, h2⟩, h3⟩ := h
 exact ⟨⟨xs, own_later h1 hb, h2.later hb⟩, fun k hk => ⟨(h3 k hk).1, Nat.lt_of_lt_of_le (h3 k hk).2 hb.size⟩⟩
theorem OwnG.only {W W' : World} {F T : Nat → Prop} {v : Value} {f : Fo} (h : OwnG W F v f) (ho : Only T W W') (hn : ∀ b, F b → ¬ T b) : OwnG W' F v f := by
 obtain ⟨⟨xs, h1, h2⟩, h3⟩ := h
 exact ⟨⟨xs, own_only h1 ho (fun k hk => hn k (h3 k hk).1), h2.only ho (fun b hb => hn b hb.1)⟩, fun k hk => ⟨(h3 k hk).1, Nat.lt_of_lt_of_le (h3 k hk).2 ho.size⟩⟩
theorem OwnG.mono {W : World} {F F' : Nat → Prop} {v : Value} {f : Fo} (h : OwnG W F v f) (hn : ∀ b, F b → b < W.heap.size → F' b) : OwnG W F' v f := by
 obtain ⟨⟨xs, h1, h2⟩, h3⟩ := h
 exact ⟨⟨xs, h1, h2.mono (fun b hb hl => ⟨hn b hb.1 hl, hb.2⟩)⟩, fun k hk => ⟨hn k (h3 k hk).1 (h3 k hk).2, (h3 k hk).2⟩⟩
theorem OwnG.nil (W : World) (F : Nat → Prop) : OwnG W F (.slice none 0 0) .nil := ⟨⟨[], ⟨rfl, Or.inl ⟨rfl, rfl⟩⟩, rfl⟩, fun k hk => by cases hk⟩
theorem OwnG.foIn {W : World} {F : Nat → Prop} {v : Value} {f : Fo} (h : OwnG W F v f) : ∃ q c, v = .slice q f.len c ∧ f.len ≤ c ∧ FoIn W F f q := by
 obtain ⟨⟨xs, h1, h2⟩, h3⟩ := h
 obtain ⟨q, c, rfl, hq⟩ := own_shape h1
 have hc := own_cap h1
 refine ⟨q, c, rfl, hc, ?_⟩
 cases f with
 | nil => trivial
 | cons l k s a x r =>
  obtain ⟨g, rfl⟩ : ∃ g, q = some ⟨g, 0, none⟩ := by
   rcases h1.2 with ⟨e, _⟩ | ⟨g, _, _, e, _⟩
   ·injection e with _ e2 _; simp [Fo.len] at e2
   ·injection e with e2 _ _; exact ⟨g, e2⟩
  exact RowF.foIn (h3 g rfl).1 (fun b hb => hb.1) _ xs 0 h2 (fun j u hu => by rw [Nat.zero_add]; exact (own_cell5 h1 j u hu).1)
theorem OwnG.push {W w' : World} {F G : Nat → Prop} {v v' : Value} {f x : Fo} {xs : List Value} {l : Bool} {k : Int} {s : ByteArray} {a : Int} {q : Option Addr} {c : Nat} (_h1 : W.ownsRow 0 35 5 v f.len xs) (h2 : RowF W (fun b => F b ∧ v.ownBlock ≠ some b) f xs) (h3 : ∀ k, v.ownBlock = some k → F k ∧ k < W.heap.size)
  (hG : ∀ b, G b → b < W.heap.size → F b ∧ v.ownBlock ≠ some b) (hnew : F W.heap.size) (hx : FoIn W G x q) (hc : x.len ≤ c) (hm : x.len ≤ 281474976710656) (own : w'.ownsRow 0 35 5 v' (f.len + 1) (xs ++ trC l k s a q x.len c)) (hg : W.grownBy w' v.ownBlock) (hloc : v'.ownBlock = v.ownBlock ∨ v'.ownBlock = some W.heap.size) :
  OwnG w' F v' (f.snoc l k s a x) := by
 have ho := Only.of_grown hg
 refine ⟨⟨xs ++ trC l k s a q x.len c, by rw [Fo.len_snoc]; exact own, ?_⟩, fun j hj => ⟨?_, (own_lt own hj).2⟩⟩
 ·have hx2 : FoIn W (fun b => F b ∧ v.ownBlock ≠ some b) x q := hx.mono (fun b hb hl => hG b hb hl)
  have hr := RowF.snoc (l := l) (k := k) (s := s) (a := a) hc hm hx2 f xs h2
  have hr2 : RowF W (fun b => (F b ∧ v.ownBlock ≠ some b) ∧ v'.ownBlock ≠ some b) _ _ := hr.mono (fun b hb hlt => ⟨hb, fun e => by
   rcases hloc with h | h
   ·exact hb.2 (h ▸ e)
   ·rw [h] at e; injection e with e; omega⟩)
  exact (hr2.only ho (fun b hb => hb.1.2)).mono (fun b hb _ => ⟨hb.1.1, hb.2⟩)
 ·rcases hloc with h | h
  ·exact (h3 j (h ▸ hj)).1
  ·rw [h] at hj; injection hj with hj; exact hj ▸ hnew
theorem OwnG.join {W w' : World} {F G : Nat → Prop} {v v' u : Value} {f g : Fo} {xs ys : List Value} (_h1 : W.ownsRow 0 35 5 v f.len xs) (h2 : RowF W (fun b => F b ∧ v.ownBlock ≠ some b) f xs) (h3 : ∀ k, v.ownBlock = some k → F k ∧ k < W.heap.size)
  (hG : ∀ b, G b → b < W.heap.size → F b ∧ v.ownBlock ≠ some b) (hnew : F W.heap.size) (hg2 : RowF W (fun b => G b ∧ u.ownBlock ≠ some b) g ys) (own : w'.ownsRow 0 35 5 v' (f.len + g.len) (xs ++ ys)) (hg : W.grownBy w' v.ownBlock) (hloc : v'.ownBlock = v.ownBlock ∨ v'.ownBlock = some W.heap.size) :
  OwnG w' F v' (f.app g) := by
 have ho := Only.of_grown hg
 refine ⟨⟨xs ++ ys, by rw [Fo.len_app]; exact own, ?_⟩, fun j hj => ⟨?_, (own_lt own hj).2⟩⟩
 ·have hx2 : RowF W (fun b => F b ∧ v.ownBlock ≠ some b) g ys := hg2.mono (fun b hb hl => hG b hb.1 hl)
  have hr := RowF.app hx2 f xs h2
  have hr2 : RowF W (fun b => (F b ∧ v.ownBlock ≠ some b) ∧ v'.ownBlock ≠ some b) _ _ := hr.mono (fun b hb hlt => ⟨hb, fun e => by
   rcases hloc with h | h
   ·exact hb.2 (h ▸ e)
   ·rw [h] at e; injection e with e; omega⟩)
  exact (hr2.only ho (fun b hb => hb.1.2)).mono (fun b hb _ => ⟨hb.1.1, hb.2⟩)
 ·rcases hloc with h | h
  ·exact (h3 j (h ▸ hj)).1
  ·rw [h] at hj; injection hj with hj; exact hj ▸ hnew

section
variable {w : World} {ops : Array Oper} {rest : List Oper} {o : Oper} {a : Act} {Q : Exit → Act → World → Prop} {K : Act → World → Prop}
theorem wp_push_tree (s x : Operand) (ho : o.op = .call { callee := .builtin .append, args := #[s, x], argTypes := #[33, 33] })
  (F G : Nat → Prop) (B : Nat) (v : Value) (f : Fo) (l : Bool) (k : Int) (t : ByteArray) (p : Int) (X : Fo) (q : Option Addr) (c : Nat)
  (hs : a.eval s = v) (hx : a.eval x = .slice (some ⟨B, 0, none⟩) 1 1) (own : OwnG w F v f) (hb : BoxT w B l k t p (.slice q X.len c)) (hq : FoIn w G X q) (hc : X.len ≤ c) (hm : X.len ≤ 281474976710656) (hG : ∀ b, G b → b < w.heap.size → F b ∧ v.ownBlock ≠ some b) (hnew : F w.heap.size)
  (hf : f.len ≤ 2000000000)
  (h : ∀ p' c' w', OwnG w' F (.slice p' (f.len + 1) c') (f.snoc l k t p X) → Only (fun j => v.ownBlock = some j) w w' → K (a.put o.dst (.slice p' (f.len + 1) c')) w') : o.wp Tryz.prog a w K Q := by
 obtain ⟨⟨xs, ho1, hrw⟩, hbk⟩ := own
 obtain ⟨i0, hi, hz0, hz1, hz2⟩ := info41
 refine wp_append_own_at s x 33 ho 0 35 i0 Z41 5 64 Tryz.underlying33 hi hz0 hz1 hz2 rfl (by omega) v f.len xs hs ho1 ⟨B, 0, none⟩ 1 1 (trC l k t p q X.len c) hx (by rfl) ?_ ?_ ?_ ?_ (Nat.zero_le _) ?_
 ·intro jj u hjj
  rw [Lib.add_plain]
  match jj, hjj with
  | 0, hjj => cases hjj; exact hb.c0
  | 1, hjj => cases hjj; exact hb.c1
  | 2, hjj => cases hjj; exact hb.c2
  | 3, hjj => cases hjj; exact hb.c3
  | 4, hjj => cases hjj; exact hb.c4
 ·intro u hu; simp [trC] at hu; rcases hu with rfl | rfl | rfl | rfl | rfl <;> rfl
 ·have hml : maxLen = 9223372036854775807 := rfl
  omega
 ·omega
 intro v8 w8 hown hgrow hnil_ hloc
 have hpush := OwnG.push (G := G) ho1 hrw hbk hG hnew hq hc hm hown hgrow hloc
 obtain ⟨p8, c8, hv8, hA_⟩ := own_shape hown
 subst hv8
 exact h p8 c8 w8 hpush (Only.of_grown hgrow)
theorem wpList_push_tree (hg : o.guard = none) (s x : Operand) (ho : o.op = .call { callee := .builtin .append, args := #[s, x], argTypes := #[33, 33] })
  (F G : Nat → Prop) (B : Nat) (v : Value) (f : Fo) (l : Bool) (k : Int) (t : ByteArray) (p : Int) (X : Fo) (q : Option Addr) (c : Nat)
  (hs : a.eval s = v) (hx : a.eval x = .slice (some ⟨B, 0, none⟩) 1 1) (own : OwnG w F v f) (hb : BoxT w B l k t p (.slice q X.len c)) (hq : FoIn w G X q) (hc : X.len ≤ c) (hm : X.len ≤ 281474976710656) (hG : ∀ b, G b → b < w.heap.size → F b ∧ v.ownBlock ≠ some b) (hnew : F w.heap.size)
  (hf : f.len ≤ 2000000000)
  (h : ∀ p' c' w', OwnG w' F (.slice p' (f.len + 1) c') (f.snoc l k t p X) → Only (fun j => v.ownBlock = some j) w w' → wpList Tryz.prog ops Q rest (a.put o.dst (.slice p' (f.len + 1) c')) w') : wpList Tryz.prog ops Q (o :: rest) a w :=
 wpList_plain hg fun _ hK => wp_push_tree s x ho F G B v f l k t p X q c hs hx own hb hq hc hm hG hnew hf (fun p' c' w' h1 h2 => hK _ _ (h p' c' w' h1 h2))
theorem own_row5 {w : World} {N : Nat} {u : Value} {n : Nat} {ys : List Value} (h : w.ownsRow N 35 5 u n ys) : (u = .slice none 0 0 ∧ n = 0 ∧ ys = []) ∨ ∃ g c, u = .slice (some ⟨g, 0, none⟩) n c ∧ ∀ j z, ys[j]? = some z → w.cell? (Addr.add ⟨g, 0, none⟩ j) = some z := by
 have hl := h.1
 rcases h.2 with ⟨e, e2⟩ | ⟨g, cap, cur, e, _⟩
 ·subst e2
  exact Or.inl ⟨e, rfl, List.length_eq_zero_iff.1 (by simpa using hl)⟩
 ·subst e
  exact Or.inr ⟨g, cap, rfl, fun j z hj => by rw [Lib.add_plain, Nat.zero_add]; exact (own_cell5 h j z hj).1⟩
theorem RowF.plain {W : World} {F : Nat → Prop} : ∀ (f : Fo) (xs : List Value), RowF W F f xs → ∀ u ∈ xs, u.oneCell' = true
 | .nil, xs, h, u, hu => by
  obtain rfl : xs = [] := h
  cases hu
 | .cons l k s a x r, xs, h, u, hu => by
  obtain ⟨q0, c0, ys, rfl, h3, h4, h5, h6⟩ := h
  rcases List.mem_append.1 hu with hu | hu
  ·simp [trC] at hu; rcases hu with rfl | rfl | rfl | rfl | rfl <;> rfl
  ·exact RowF.plain r ys h6 u hu
theorem wp_join_trees (s x : Operand) (ho : o.op = .call { callee := .builtin .append, args := #[s, x], argTypes := #[33, 33] })
  (F G : Nat → Prop) (v u : Value) (f g : Fo)
  (hs : a.eval s = v) (hx : a.eval x = u) (own : OwnG w F v f) (hu : OwnG w G u g) (hG : ∀ b, G b → b < w.heap.size → F b ∧ v.ownBlock ≠ some b) (hnew : F w.heap.size)
  (hf : f.len ≤ 1000000000) (hgl : g.len ≤ 1000000000)
  (h : ∀ p' c' w', OwnG w' F (.slice p' (f.len + g.len) c') (f.app g) → Only (fun j => v.ownBlock = some j) w w' → K (a.put o.dst (.slice p' (f.len + g.len) c')) w') : o.wp Tryz.prog a w K Q := by
 obtain ⟨⟨xs, ho1, hrw⟩, hbk⟩ := own
 obtain ⟨⟨ys, hu1, hru⟩, hub⟩ := hu
 obtain ⟨i0, hi, hz0, hz1, hz2⟩ := info41
 rcases own_row5 hu1 with ⟨rfl, hn, rfl⟩ | ⟨b, c, rfl, hcell⟩
 ·cases g with
  | cons _ _ _ _ _ _ => simp [Fo.len] at hn
  | nil =>
   have hrun := run_append_owned_none (P := Tryz.prog) (w := w) 0 33 o.type 35 i0 5 Tryz.underlying33 hi v f.len xs ho1
   obtain ⟨p8, c8, hv8, _⟩ := own_shape ho1
   unfold Oper.wp
   simp [execOp, ho, resolve, invoke, builtin, hs, hx, hrun, Result.andThen]
   subst hv8
   refine h p8 c8 w ?_ (Only.refl _ _)
   rw [Fo.app_nil]
   exact ⟨⟨xs, ho1, hrw⟩, hbk⟩
 ·refine wp_append_own_at s x 33 ho 0 35 i0 Z41 5 64 Tryz.underlying33 hi hz0 hz1 hz2 rfl (by omega) v f.len xs hs ho1 ⟨b, 0, none⟩ g.len c ys hx hu1.1 hcell (RowF.plain g ys hru) ?_ ?_ (Nat.zero_le _) ?_
  ·have hml : maxLen = 9223372036854775807 := rfl
   omega
  ·omega
  intro v8 w8 hown hgrow hnil_ hloc
  have hpush := OwnG.join (G := G) ho1 hrw hbk hG hnew hru hown hgrow hloc
  obtain ⟨p8, c8, hv8, hA_⟩ := own_shape hown
  subst hv8
  exact h p8 c8 w8 hpush (Only.of_grown hgrow)
end
set_option maxHeartbeats 1600000 in
theorem number68 (n : Int) (W : World) (h0 : -4611686018427387903 ≤ n) (h1 : n ≤ 4611686018427387903) (htab : PowTab W) : Calls Tryz.prog 68 #[.int .i64 n] W fun e w' => TrR W w' e (nuL n) (nuK n) (nuS n) (nuX n) := by
 by_cases hn : n < 0
 case neg =>
  refine (number68_pos n W (by omega) (by omega) htab).mono ?_
  rintro e w' ⟨rfl, hb⟩
  refine ⟨none, 0, ?_, ?_, ?_, ?_, hb⟩
  ·simp [nuL, nuK, nuS, nuX, hn, Fo.len]
  ·simp [nuX, hn, Fo.len]
  ·simp [nuX, hn, Fo.len]
  ·simp [nuX, hn, FoIn]
 have hlt : n < 0 := hn
 have HT := Lib.hid htab
 have hw : IntKind.i64.wrap (-n) = -n := by have := IntWalk.i64_in (-n) (by omega); exact this
 have HNX := Lib.hid (show nuX n = (Fo.cons false 3 ⟨#[45]⟩ 0 .nil .nil).snoc false 4 (itoB (-n)) 0 .nil from by simp [nuX, hn, Fo.snoc])
 have HNL := Lib.hid (show nuL n = true ∧ nuK n = 1 ∧ nuS n = ⟨#[40]⟩ from by simp [nuL, nuK, nuS, hn])
 have hm0 : 0 ≤ -n := by omega
 have hm1 : -n ≤ 9223372036854775807 := by omega
 clear htab hn
 go_enter Tryz.func68, Tryz.ntmps68
 go_wp2_with fail
 refine (list29 ⟨#[45]⟩ _).mono ?_
 rintro e w1 ⟨g, rfl, hg, hown, hb⟩
 have HB1 := Lib.hid ((below1 W (.cells #[.bool false, .int .u8 0, .string ⟨#[]⟩, .int .i64 0, .slice none 0 0] 35)).trans (hb.mono (by simp)))
 have hbx := (box_new W false 0 ⟨#[]⟩ 0 (.slice none 0 0)).later hb
 have HG := Lib.hid (show W.heap.size < g ∧ g < w1.heap.size from ⟨by simp at hg; omega, (own_lt hown.choose_spec.1 (k := g) rfl).2⟩)
 have HO := Lib.hid hown.wide
 have HX := Lib.hid hbx
 clear hg hown hb hbx
 unfold trV
 go_wp2_with fail
 have hxa := box_new w1 true 1 ⟨#[40]⟩ 0 (.slice (some ⟨g, 0, none⟩) 1 1)
 have hx0 := HX.out.later (below1 w1 (.cells #[.bool true, .int .u8 1, .string ⟨#[40]⟩, .int .i64 0, .slice (some ⟨g, 0, none⟩) 1 1] 35))
 have hoa := (OwnG.mono (F' := fun b => g ≤ b ∧ b ≠ w1.heap.size) HO.out (fun b hb hl => ⟨hb, by omega⟩)).later (below1 w1 (.cells #[.bool true, .int .u8 1, .string ⟨#[40]⟩, .int .i64 0, .slice (some ⟨g, 0, none⟩) 1 1] 35))
 have hba := HB1.out.trans ((below1 w1 (.cells #[.bool true, .int .u8 1, .string ⟨#[40]⟩, .int .i64 0, .slice (some ⟨g, 0, none⟩) 1 1] 35)).mono HB1.out.size)
 obtain ⟨B, hB⟩ : ∃ B, B = w1.heap.size := ⟨_, rfl⟩
 obtain ⟨wa, hwa⟩ : ∃ wa, wa = w1.alloc (.cells #[.bool true, .int .u8 1, .string ⟨#[40]⟩, .int .i64 0, .slice (some ⟨g, 0, none⟩) 1 1] 35) := ⟨_, rfl⟩
 have hsz : wa.heap.size = B + 1 := by rw [hwa, hB]; simp
 rw [← hwa, ← hB] at hxa
 rw [← hwa] at hx0 hoa hba
 rw [← hB] at hoa
 rw [← hwa, ← hB]
 have HG2 := Lib.hid (show W.heap.size < g ∧ g < B from by rw [hB]; exact HG.out)
 have HS := Lib.hid (And.intro hxa (And.intro hx0 (And.intro hoa hba)))
 have HZ := Lib.hid hsz
 clear hxa hx0 hoa hba hwa hB hsz HG HO HX HB1
 refine wp_region_L [(1000, (fun _ => True : World → Prop)), (8, (fun w => w.cell? ⟨B, 4, none⟩ = some (.slice (some ⟨g, 0, none⟩) 1 1) : World → Prop))] (by kernel_rfl) (SL.cons (fun _ => trivial) (SL.cons (fun _ => HS.out.1.c4) SL.nil)) (fun hH => ?_)
 generalize hwd : wa.drew = wd at *
 have hbd : Below wa.heap.size wa wd := by rw [← hwd]; exact below_drew wa
 clear hwd
 have x4 := (HS.out.1.later hbd).c4
 refine tk 0 0 ⟨some 7, .fieldAddr 35 (.tmp 3) 2, 0, "proof.go:139", #[], none⟩ ?_ rfl rfl ?_ hH fun hH => ?_
 rotate_left
 ·intro w hSw; (try dsimp only at hSw); go_simp; try with_reducible rfl
 try simp only [Act.put, sI, s0, s1]
 refine tk 1 1 ⟨some 8, .load 33 (.tmp 7), 33, "proof.go:139", #[⟨0, .data⟩], none⟩ ?_ rfl rfl ?_ hH fun hH => ?_
 rotate_left
 ·intro w hSw; (try dsimp only at hSw); go_simp; try with_reducible rfl
 try simp only [Act.put, sI, s0, s1]
 refine tk 0 2 ⟨some 9, .move (.tmp 0), 3, "proof.go:139", #[], none⟩ ?_ rfl rfl ?_ hH fun hH => ?_
 rotate_left
 ·intro w hSw; (try dsimp only at hSw); go_simp; try with_reducible rfl
 try simp only [Act.put, sI, s0, s1]
 refine tk 0 3 ⟨some 10, .unOp .neg 3 (.tmp 9), 3, "proof.go:139", #[⟨2, .data⟩], none⟩ ?_ rfl rfl ?_ hH fun hH => ?_
 rotate_left
 ·intro w hSw; (try dsimp only at hSw); go_simp; try with_reducible rfl
 try simp only [Act.put, sI, s0, s1]
 refine wpAnyL_ready (rs := [4]) (by kernel_rfl) (by simp) ?_
 refine AllReadyL.cons (o := ⟨some 11, .call ⟨.value (.func 68), #[.tmp 10], #[3]⟩, 35, "proof.go:139", #[⟨3, .data⟩], none⟩) rfl (fun K hK => ?_) AllReadyL.nil
 go_simp
 go_at_call 68
 refine (number68_pos (-n) wd hm0 hm1 (tabIs_below HT.out (HS.out.2.2.2.trans (hbd.mono HS.out.2.2.2.size)))).mono ?_
 rintro e w3 ⟨rfl, hb3⟩
 refine hK.out _ _ (SL.cons (fun _ => trivial) (SL.cons (fun _ => cell_later hb3 x4) SL.nil)) (fun hH => ?_)
 clear hK K
 try simp only [Act.put, sI, s0, s1]
 have x5 := cell_later hb3 x4
 clear x4 hH
 unfold trV
 refine wpAnyL_ready (rs := [5]) (by kernel_rfl) (by simp) ?_
 refine AllReadyL.cons (o := ⟨some 12, .buildSlice 33 1 #[(0, .tmp 11)], 33, "proof.go:139", #[⟨4, .data⟩], none⟩) rfl (fun K hK => ?_) AllReadyL.nil
 go_simp
 refine hK.out _ _ (SL.cons (fun _ => trivial) (SL.cons (fun _ => cell_later (below1 w3 _) x5) SL.nil)) (fun hH => ?_)
 clear hK K
 try simp only [Act.put, sI, s0, s1]
 have hb4 := (hbd.trans (hb3.mono hbd.size)).trans ((below1 w3 (.cells #[.bool false, .int .u8 4, .string (itoB (-n)), .int .i64 0, .slice none 0 0] 35)).mono (hbd.trans (hb3.mono hbd.size)).size)
 have hnb := box_new w3 false 4 (itoB (-n)) 0 (.slice none 0 0)
 have hz3 : B + 1 ≤ w3.heap.size := by have := (hbd.trans (hb3.mono hbd.size)).size; rw [HZ.out] at this; exact this
 clear x5 hH
 refine wpAnyL_ready (rs := [6]) (by kernel_rfl) (by simp) ?_
 refine AllReadyL.cons (o := ⟨some 13, .call ⟨.builtin .append, #[.tmp 8, .tmp 12], #[33, 33]⟩, 33, "proof.go:139", #[⟨1, .data⟩, ⟨5, .data⟩, ⟨4, .chain⟩], none⟩) rfl (fun K hK => ?_) AllReadyL.nil
 rw [if_pos (by rfl)]
 refine wp_push_tree _ _ (by rfl) (fun b => g ≤ b ∧ b ≠ B) (fun _ => False) w3.heap.size _ _ false 4 (itoB (-n)) 0 .nil none 0 (by rfl) (by rfl) (HS.out.2.2.1.later hb4) hnb trivial (Nat.le_refl _) (Nat.zero_le _) (fun _ h => h.elim) (by have := HG2.out.2; simp; omega) (by simp [Fo.len]) ?_
 intro p8 c8 w8 hpush ho8
 have hbx8 := (HS.out.1.later hb4).only ho8 (fun e => by have := own_eq e; have := HG2.out.2; omega)
 have hbt8 := (HS.out.2.1.later hb4).only ho8 (fun e => by have := own_eq e; have := HG2.out.1; omega)
 have x8 := hbx8.c4
 have f8 := hbx8.fz
 have hb8 := (HS.out.2.2.2.trans (hb4.mono HS.out.2.2.2.size)).trans (ho8.below (B := W.heap.size) (fun j hj => by have := own_eq hj; have := HG2.out.1; omega) (HS.out.2.2.2.trans (hb4.mono HS.out.2.2.2.size)).size)
 have HE := Lib.hid (And.intro hpush (And.intro hbx8 (And.intro hbt8 hb8)))
 clear ho8 hbx8 hbt8 hb8 hpush hb4 hnb hb3 hz3
 refine hK.out _ _ (SL.cons (fun _ => trivial) (SL.cons (fun _ => x8) SL.nil)) (fun hH => ?_)
 clear hK K
 try simp only [Act.put, sI, s0, s1]
 refine tk 0 7 ⟨some 14, .fieldAddr 35 (.tmp 3) 2, 0, "proof.go:139", #[⟨0, .phase⟩, ⟨1, .phase⟩, ⟨2, .phase⟩, ⟨3, .phase⟩, ⟨4, .phase⟩, ⟨5, .phase⟩, ⟨6, .phase⟩], none⟩ ?_ rfl rfl ?_ hH fun hH => ?_
 rotate_left
 ·intro w hSw; (try dsimp only at hSw); go_simp; try with_reducible rfl
 try simp only [Act.put, sI, s0, s1]
 refine wpAnyL_ready (rs := [8]) (by kernel_rfl) (by simp) ?_
 refine AllReadyL.cons (o := ⟨none, .store 33 (.tmp 14) (.tmp 13), 0, "proof.go:139", #[⟨7, .data⟩, ⟨6, .data⟩, ⟨6, .chain⟩, ⟨0, .phase⟩, ⟨1, .phase⟩, ⟨2, .phase⟩, ⟨3, .phase⟩, ⟨4, .phase⟩, ⟨5, .phase⟩, ⟨6, .phase⟩], none⟩) rfl (fun K hK => ?_) AllReadyL.nil
 go_simp
 refine hK.out _ _ (SL.cons (fun _ => trivial) (SL.cons (fun h => absurd h (by decide +kernel)) SL.nil)) (fun hH => ?_)
 clear hK K
 try simp only [Act.put, sI, s0, s1]
 refine wpAnyL_done (by kernel_rfl) ?_ _
 obtain ⟨w9, hw9⟩ : ∃ w9, w9 = w8.setCell ⟨B, 4, none⟩ (.slice p8 ((Fo.cons false 3 ⟨#[45]⟩ 0 .nil .nil).len + 1) c8) := ⟨_, rfl⟩
 have ho9 : Only (fun k => k = B) w8 w9 := by rw [hw9]; exact Only.of_setCell w8 ⟨B, 4, none⟩ _
 have HN := Lib.hid (show BoxT w9 W.heap.size false 0 ⟨#[]⟩ 0 (.slice none 0 0) ∧ OwnG w9 (fun b => g ≤ b ∧ b ≠ B) (.slice p8 2 c8) ((Fo.cons false 3 ⟨#[45]⟩ 0 .nil .nil).snoc false 4 (itoB (-n)) 0 .nil) ∧ Below W.heap.size W w9 from
  ⟨HE.out.2.2.1.only ho9 (by have := HG2.out; omega), HE.out.1.only ho9 (fun b hb e => hb.2 e), HE.out.2.2.2.trans (ho9.below (fun j hj => by have := HG2.out; omega) HE.out.2.2.2.size)⟩)
 have hbn : BoxT w9 B true 1 ⟨#[40]⟩ 0 (.slice p8 2 c8) := by rw [hw9]; exact HE.out.2.1.set4 _
 rw [← hw9]
 clear hw9 ho9 x8 f8 hH HE HS
 obtain ⟨y0, y1, y2, y3, y4, yf⟩ := hbn
 obtain ⟨z0, z1, z2, z3, z4, zf⟩ := HN.out.1
 go_wp2_with fail
 obtain ⟨q, c, hv, hc, hq⟩ := HN.out.2.1.foIn
 cases hv
 refine bodyPost_ret (v := trV true 1 ⟨#[40]⟩ 0 p8 2 c8) (by simp [trV, results, Tryz.results68, go_sem, z0, z1, z2, z3, z4]) rfl ⟨p8, c8, ?_, ?_, ?_, ?_, ?_⟩
 ·rw [HNX.out, HNL.out.1, HNL.out.2.1, HNL.out.2.2]; rfl
 ·rw [HNX.out]; exact hc
 ·rw [HNX.out]; simp [Fo.snoc, Fo.len]
 ·rw [HNX.out]
  have hkk := hq.mono (F' := fun b => W.heap.size ≤ b) (fun b hb _ => by have := HG2.out; have := hb.1; omega)
  have hne : ∀ o b, W.heap.size < b → ¬ b = (⟨W.heap.size, o, none⟩ : Addr).block := fun o b h e => by simp only at e; omega
  have hq1 := hq.mono (F' := fun b => W.heap.size < b) (fun b hb _ => by have := HG2.out; have := hb.1; omega)
  exact (((((hq1.only (Only.of_setCell _ _ _) (hne _)).only (Only.of_setCell _ _ _) (hne _)).only (Only.of_setCell _ _ _) (hne _)).only (Only.of_setCell _ _ _) (hne _)).only (Only.of_setCell _ _ _) (hne _)).mono (fun b hb _ => Nat.le_of_lt hb)
 ·iterate 5 refine Below.setCell ?_ (show W.heap.size ≤ W.heap.size from Nat.le_refl _) _
  exact HN.out.2.2
set_option maxHeartbeats 1600000 in
theorem number66 (n : Int) (W : World) (h0 : -4611686018427387903 ≤ n) (h1 : n ≤ 4611686018427387903) (htab : PowTab W) : Calls Tryz.prog 66 #[.int .i64 n] W fun e w' => TrR W w' e (nuL n) (nuK n) (nuS n) (nuX n) := by
 by_cases hn : n < 0
 case neg =>
  refine (number66_pos n W (by omega) (by omega) htab).mono ?_
  rintro e w' ⟨rfl, hb⟩
  refine ⟨none, 0, ?_, ?_, ?_, ?_, hb⟩
  ·simp [nuL, nuK, nuS, nuX, hn, Fo.len]
  ·simp [nuX, hn, Fo.len]
  ·simp [nuX, hn, Fo.len]
  ·simp [nuX, hn, FoIn]
 have hlt : n < 0 := hn
 have HT := Lib.hid htab
 have hw : IntKind.i64.wrap (-n) = -n := by have := IntWalk.i64_in (-n) (by omega); exact this
 have HNX := Lib.hid (show nuX n = (Fo.cons false 3 ⟨#[45]⟩ 0 .nil .nil).snoc false 4 (itoB (-n)) 0 .nil from by simp [nuX, hn, Fo.snoc])
 have HNL := Lib.hid (show nuL n = true ∧ nuK n = 1 ∧ nuS n = ⟨#[40]⟩ from by simp [nuL, nuK, nuS, hn])
 have hm0 : 0 ≤ -n := by omega
 have hm1 : -n ≤ 9223372036854775807 := by omega
 clear htab hn
 go_enter Tryz.func66, Tryz.ntmps66
 go_wp2_with fail
 refine (list29 ⟨#[45]⟩ _).mono ?_
 rintro e w1 ⟨g, rfl, hg, hown, hb⟩
 have HB1 := Lib.hid ((below1 W (.cells #[.bool false, .int .u8 0, .string ⟨#[]⟩, .int .i64 0, .slice none 0 0] 35)).trans (hb.mono (by simp)))
 have hbx := (box_new W false 0 ⟨#[]⟩ 0 (.slice none 0 0)).later hb
 have HG := Lib.hid (show W.heap.size < g ∧ g < w1.heap.size from ⟨by simp at hg; omega, (own_lt hown.choose_spec.1 (k := g) rfl).2⟩)
 have HO := Lib.hid hown.wide
 have HX := Lib.hid hbx
 clear hg hown hb hbx
 unfold trV
 go_wp2_with fail
 have hxa := box_new w1 true 1 ⟨#[40]⟩ 0 (.slice (some ⟨g, 0, none⟩) 1 1)
 have hx0 := HX.out.later (below1 w1 (.cells #[.bool true, .int .u8 1, .string ⟨#[40]⟩, .int .i64 0, .slice (some ⟨g, 0, none⟩) 1 1] 35))
 have hoa := (OwnG.mono (F' := fun b => g ≤ b ∧ b ≠ w1.heap.size) HO.out (fun b hb hl => ⟨hb, by omega⟩)).later (below1 w1 (.cells #[.bool true, .int .u8 1, .string ⟨#[40]⟩, .int .i64 0, .slice (some ⟨g, 0, none⟩) 1 1] 35))
 have hba := HB1.out.trans ((below1 w1 (.cells #[.bool true, .int .u8 1, .string ⟨#[40]⟩, .int .i64 0, .slice (some ⟨g, 0, none⟩) 1 1] 35)).mono HB1.out.size)
 obtain ⟨B, hB⟩ : ∃ B, B = w1.heap.size := ⟨_, rfl⟩
 obtain ⟨wa, hwa⟩ : ∃ wa, wa = w1.alloc (.cells #[.bool true, .int .u8 1, .string ⟨#[40]⟩, .int .i64 0, .slice (some ⟨g, 0, none⟩) 1 1] 35) := ⟨_, rfl⟩
 have hsz : wa.heap.size = B + 1 := by rw [hwa, hB]; simp
 rw [← hwa, ← hB] at hxa
 rw [← hwa] at hx0 hoa hba
 rw [← hB] at hoa
 rw [← hwa, ← hB]
 have HG2 := Lib.hid (show W.heap.size < g ∧ g < B from by rw [hB]; exact HG.out)
 have HS := Lib.hid (And.intro hxa (And.intro hx0 (And.intro hoa hba)))
 have HZ := Lib.hid hsz
 clear hxa hx0 hoa hba hwa hB hsz HG HO HX HB1
 refine wp_region_L [(1000, (fun _ => True : World → Prop)), (8, (fun w => w.cell? ⟨B, 4, none⟩ = some (.slice (some ⟨g, 0, none⟩) 1 1) : World → Prop))] (by kernel_rfl) (SL.cons (fun _ => trivial) (SL.cons (fun _ => HS.out.1.c4) SL.nil)) (fun hH => ?_)
 generalize hwd : wa.drew = wd at *
 have hbd : Below wa.heap.size wa wd := by rw [← hwd]; exact below_drew wa
 clear hwd
 have x4 := (HS.out.1.later hbd).c4
 refine tk 0 0 ⟨some 7, .fieldAddr 35 (.tmp 3) 2, 0, "proof.go:139", #[], none⟩ ?_ rfl rfl ?_ hH fun hH => ?_
 rotate_left
 ·intro w hSw; (try dsimp only at hSw); go_simp; try with_reducible rfl
 try simp only [Act.put, sI, s0, s1]
 refine tk 1 1 ⟨some 8, .load 33 (.tmp 7), 33, "proof.go:139", #[⟨0, .data⟩], none⟩ ?_ rfl rfl ?_ hH fun hH => ?_
 rotate_left
 ·intro w hSw; (try dsimp only at hSw); go_simp; try with_reducible rfl
 try simp only [Act.put, sI, s0, s1]
 refine tk 0 2 ⟨some 9, .move (.tmp 0), 44, "proof.go:139", #[], none⟩ ?_ rfl rfl ?_ hH fun hH => ?_
 rotate_left
 ·intro w hSw; (try dsimp only at hSw); go_simp; try with_reducible rfl
 try simp only [Act.put, sI, s0, s1]
 refine tk 0 3 ⟨some 10, .unOp .neg 44 (.tmp 9), 44, "proof.go:139", #[⟨2, .data⟩], none⟩ ?_ rfl rfl ?_ hH fun hH => ?_
 rotate_left
 ·intro w hSw; (try dsimp only at hSw); go_simp; try with_reducible rfl
 try simp only [Act.put, sI, s0, s1]
 refine wpAnyL_ready (rs := [4]) (by kernel_rfl) (by simp) ?_
 refine AllReadyL.cons (o := ⟨some 11, .call ⟨.value (.func 66), #[.tmp 10], #[44]⟩, 35, "proof.go:139", #[⟨3, .data⟩], none⟩) rfl (fun K hK => ?_) AllReadyL.nil
 go_simp
 go_at_call 66
 refine (number66_pos (-n) wd hm0 hm1 (tabIs_below HT.out (HS.out.2.2.2.trans (hbd.mono HS.out.2.2.2.size)))).mono ?_
 rintro e w3 ⟨rfl, hb3⟩
 refine hK.out _ _ (SL.cons (fun _ => trivial) (SL.cons (fun _ => cell_later hb3 x4) SL.nil)) (fun hH => ?_)
 clear hK K
 try simp only [Act.put, sI, s0, s1]
 have x5 := cell_later hb3 x4
 clear x4 hH
 unfold trV
 refine wpAnyL_ready (rs := [5]) (by kernel_rfl) (by simp) ?_
 refine AllReadyL.cons (o := ⟨some 12, .buildSlice 33 1 #[(0, .tmp 11)], 33, "proof.go:139", #[⟨4, .data⟩], none⟩) rfl (fun K hK => ?_) AllReadyL.nil
 go_simp
 refine hK.out _ _ (SL.cons (fun _ => trivial) (SL.cons (fun _ => cell_later (below1 w3 _) x5) SL.nil)) (fun hH => ?_)
 clear hK K
 try simp only [Act.put, sI, s0, s1]
 have hb4 := (hbd.trans (hb3.mono hbd.size)).trans ((below1 w3 (.cells #[.bool false, .int .u8 4, .string (itoB (-n)), .int .i64 0, .slice none 0 0] 35)).mono (hbd.trans (hb3.mono hbd.size)).size)
 have hnb := box_new w3 false 4 (itoB (-n)) 0 (.slice none 0 0)
 have hz3 : B + 1 ≤ w3.heap.size := by have := (hbd.trans (hb3.mono hbd.size)).size; rw [HZ.out] at this; exact this
 clear x5 hH
 refine wpAnyL_ready (rs := [6]) (by kernel_rfl) (by simp) ?_
 refine AllReadyL.cons (o := ⟨some 13, .call ⟨.builtin .append, #[.tmp 8, .tmp 12], #[33, 33]⟩, 33, "proof.go:139", #[⟨1, .data⟩, ⟨5, .data⟩, ⟨4, .chain⟩], none⟩) rfl (fun K hK => ?_) AllReadyL.nil
 rw [if_pos (by rfl)]
 refine wp_push_tree _ _ (by rfl) (fun b => g ≤ b ∧ b ≠ B) (fun _ => False) w3.heap.size _ _ false 4 (itoB (-n)) 0 .nil none 0 (by rfl) (by rfl) (HS.out.2.2.1.later hb4) hnb trivial (Nat.le_refl _) (Nat.zero_le _) (fun _ h => h.elim) (by have := HG2.out.2; simp; omega) (by simp [Fo.len]) ?_
 intro p8 c8 w8 hpush ho8
 have hbx8 := (HS.out.1.later hb4).only ho8 (fun e => by have := own_eq e; have := HG2.out.2; omega)
 have hbt8 := (HS.out.2.1.later hb4).only ho8 (fun e => by have := own_eq e; have := HG2.out.1; omega)
 have x8 := hbx8.c4
 have f8 := hbx8.fz
 have hb8 := (HS.out.2.2.2.trans (hb4.mono HS.out.2.2.2.size)).trans (ho8.below (B := W.heap.size) (fun j hj => by have := own_eq hj; have := HG2.out.1; omega) (HS.out.2.2.2.trans (hb4.mono HS.out.2.2.2.size)).size)
 have HE := Lib.hid (And.intro hpush (And.intro hbx8 (And.intro hbt8 hb8)))
 clear ho8 hbx8 hbt8 hb8 hpush hb4 hnb hb3 hz3
 refine hK.out _ _ (SL.cons (fun _ => trivial) (SL.cons (fun _ => x8) SL.nil)) (fun hH => ?_)
 clear hK K
 try simp only [Act.put, sI, s0, s1]
 refine tk 0 7 ⟨some 14, .fieldAddr 35 (.tmp 3) 2, 0, "proof.go:139", #[⟨0, .phase⟩, ⟨1, .phase⟩, ⟨2, .phase⟩, ⟨3, .phase⟩, ⟨4, .phase⟩, ⟨5, .phase⟩, ⟨6, .phase⟩], none⟩ ?_ rfl rfl ?_ hH fun hH => ?_
 rotate_left
 ·intro w hSw; (try dsimp only at hSw); go_simp; try with_reducible rfl
 try simp only [Act.put, sI, s0, s1]
 refine wpAnyL_ready (rs := [8]) (by kernel_rfl) (by simp) ?_
 refine AllReadyL.cons (o := ⟨none, .store 33 (.tmp 14) (.tmp 13), 0, "proof.go:139", #[⟨7, .data⟩, ⟨6, .data⟩, ⟨6, .chain⟩, ⟨0, .phase⟩, ⟨1, .phase⟩, ⟨2, .phase⟩, ⟨3, .phase⟩, ⟨4, .phase⟩, ⟨5, .phase⟩, ⟨6, .phase⟩], none⟩) rfl (fun K hK => ?_) AllReadyL.nil
 go_simp
 refine hK.out _ _ (SL.cons (fun _ => trivial) (SL.cons (fun h => absurd h (by decide +kernel)) SL.nil)) (fun hH => ?_)
 clear hK K
 try simp only [Act.put, sI, s0, s1]
 refine wpAnyL_done (by kernel_rfl) ?_ _
 obtain ⟨w9, hw9⟩ : ∃ w9, w9 = w8.setCell ⟨B, 4, none⟩ (.slice p8 ((Fo.cons false 3 ⟨#[45]⟩ 0 .nil .nil).len + 1) c8) := ⟨_, rfl⟩
 have ho9 : Only (fun k => k = B) w8 w9 := by rw [hw9]; exact Only.of_setCell w8 ⟨B, 4, none⟩ _
 have HN := Lib.hid (show BoxT w9 W.heap.size false 0 ⟨#[]⟩ 0 (.slice none 0 0) ∧ OwnG w9 (fun b => g ≤ b ∧ b ≠ B) (.slice p8 2 c8) ((Fo.cons false 3 ⟨#[45]⟩ 0 .nil .nil).snoc false 4 (itoB (-n)) 0 .nil) ∧ Below W.heap.size W w9 from
  ⟨HE.out.2.2.1.only ho9 (by have := HG2.out; omega), HE.out.1.only ho9 (fun b hb e => hb.2 e), HE.out.2.2.2.trans (ho9.below (fun j hj => by have := HG2.out; omega) HE.out.2.2.2.size)⟩)
 have hbn : BoxT w9 B true 1 ⟨#[40]⟩ 0 (.slice p8 2 c8) := by rw [hw9]; exact HE.out.2.1.set4 _
 rw [← hw9]
 clear hw9 ho9 x8 f8 hH HE HS
 obtain ⟨y0, y1, y2, y3, y4, yf⟩ := hbn
 obtain ⟨z0, z1, z2, z3, z4, zf⟩ := HN.out.1
 go_wp2_with fail
 obtain ⟨q, c, hv, hc, hq⟩ := HN.out.2.1.foIn
 cases hv
 refine bodyPost_ret (v := trV true 1 ⟨#[40]⟩ 0 p8 2 c8) (by simp [trV, results, Tryz.results66, go_sem, z0, z1, z2, z3, z4]) rfl ⟨p8, c8, ?_, ?_, ?_, ?_, ?_⟩
 ·rw [HNX.out, HNL.out.1, HNL.out.2.1, HNL.out.2.2]; rfl
 ·rw [HNX.out]; exact hc
 ·rw [HNX.out]; simp [Fo.snoc, Fo.len]
 ·rw [HNX.out]
  have hkk := hq.mono (F' := fun b => W.heap.size ≤ b) (fun b hb _ => by have := HG2.out; have := hb.1; omega)
  have hne : ∀ o b, W.heap.size < b → ¬ b = (⟨W.heap.size, o, none⟩ : Addr).block := fun o b h e => by simp only at e; omega
  have hq1 := hq.mono (F' := fun b => W.heap.size < b) (fun b hb _ => by have := HG2.out; have := hb.1; omega)
  exact (((((hq1.only (Only.of_setCell _ _ _) (hne _)).only (Only.of_setCell _ _ _) (hne _)).only (Only.of_setCell _ _ _) (hne _)).only (Only.of_setCell _ _ _) (hne _)).only (Only.of_setCell _ _ _) (hne _)).mono (fun b hb _ => Nat.le_of_lt hb)
 ·iterate 5 refine Below.setCell ?_ (show W.heap.size ≤ W.heap.size from Nat.le_refl _) _
  exact HN.out.2.2
theorem numbers67 (p : Option Addr) (c n : Nat) (xs : List Int) (W : World) (h : IntsIn W p xs) (hl : xs.length = n) (hn : n ≤ 500000000) (hxs : ∀ x ∈ xs, -4611686018427387903 ≤ x ∧ x ≤ 4611686018427387903) (htab : PowTab W) :
  Calls Tryz.prog 67 #[.slice p n c] W fun e w' => ∃ q d, e = .returned (.slice q n d) ∧ OwnG w' (fun b => W.heap.size ≤ b) (.slice q n d) (nusF xs) ∧ Below W.heap.size W w' := by
 have H := Lib.hid h
 have HL := Lib.hid hl
 have HX := Lib.hid hxs
 have HT := Lib.hid htab
 clear htab
 have HN := Lib.hid hn
 have n1 : (n : Int) ≤ 500000000 := by omega
 clear h hl hxs
 go_enter Tryz.func67, Tryz.ntmps67
 go_wp2_with fail
 go_loopg [3, 8] n (fun gk s3 s8 wx => ∃ (k : Nat) (p3 : Option Addr) (c3 : Nat), k + gk = n ∧ s3 = .slice p3 k c3 ∧ s8 = .int .i64 (k : Int) ∧ Hid (OwnG wx (fun b => W.heap.size ≤ b) (.slice p3 k c3) (nusF (xs.take k)) ∧ Below W.heap.size W wx))
 case atStart => exact ⟨0, none, 0, by omega, rfl, rfl, Lib.hid ⟨OwnG.nil _ _, Below.refl _ _⟩⟩
 case round =>
  obtain ⟨k, p3, c3, hk, rfl, rfl, HR⟩ := hrel
  have k0 : (0 : Int) ≤ (k : Int) := Int.natCast_nonneg k
  by_cases hlt : k < n
  ·have k1 : (k : Int) < (n : Int) := Int.ofNat_lt.2 hlt
   have hkl : k < xs.length := by rw [HL.out]; exact hlt
   obtain ⟨b, off, rfl, c0⟩ := (H.out.later HR.out.2) k hkl
   have HS := Lib.hid (step_ok hlt (show n ≤ 9223372036854775807 from by omega))
   obtain ⟨x, hx⟩ : ∃ x, x = xs[k] := ⟨_, rfl⟩
   have HE := Lib.hid (show xs.take (k + 1) = xs.take k ++ [x] from by rw [hx, List.take_add_one, List.getElem?_eq_getElem hkl]; rfl)
   have HM := Lib.hid (show x ∈ xs from by rw [hx]; exact List.getElem_mem hkl)
   rw [← hx] at c0
   have HK := Lib.hid hk
   have HLT := Lib.hid hlt
   clear hx hkl hk hlt
   go_wp2_with fail
   refine (number68 x _ (HX.out x HM.out).1 (HX.out x HM.out).2 (tabIs_below HT.out HR.out.2)).mono ?_
   rintro e w1 ⟨q, d, rfl, hd, hd2, hq, hb⟩
   have HB := Lib.hid (HR.out.2.trans (hb.mono HR.out.2.size))
   have HQ := Lib.hid (show OwnG w1 (fun b => W.heap.size ≤ b) (.slice p3 k c3) (nusF (xs.take k)) ∧ FoIn w1 (fun b => wr.heap.size ≤ b) (nuX x) q from ⟨HR.out.1.later hb, hq⟩)
   have HZ := Lib.hid (show wr.heap.size ≤ w1.heap.size from hb.size)
   have HD := Lib.hid (And.intro hd hd2)
   obtain ⟨w2, hw2⟩ : ∃ w2, w2 = w1.alloc (.cells #[.bool (nuL x), .int .u8 (nuK x), .string (nuS x), .int .i64 0, .slice q (nuX x).len d] 35) := ⟨_, rfl⟩
   have HB2 := Lib.hid (show Below w1.heap.size w1 w2 from by rw [hw2]; exact below1 _ _)
   have HBX := Lib.hid (show BoxT w2 w1.heap.size (nuL x) (nuK x) (nuS x) 0 (.slice q (nuX x).len d) from by rw [hw2]; exact box_new _ _ _ _ _ _)
   have HSZ := Lib.hid (show w2.heap.size = w1.heap.size + 1 from by rw [hw2]; simp)
   have HW2 := Lib.hid hw2
   clear hb hq hd hd2 hw2
   unfold trV
   go_wp2_with (at_builtin; rw [← HW2.out]; refine wpList_push_tree (by rfl) _ _ (by rfl) (fun b => W.heap.size ≤ b) (fun b => wr.heap.size ≤ b) w1.heap.size _ (nusF (xs.take k)) (nuL x) (nuK x) (nuS x) 0 (nuX x) q d (by rfl) (by rfl) (HQ.out.1.later HB2.out) HBX.out (HQ.out.2.later HB2.out) HD.out.1 HD.out.2 ?_ ?_ ?_ ?_)
   case refine_1 =>
    intro b hb _
    refine ⟨Nat.le_trans HR.out.2.size hb, fun e => ?_⟩
    have h1 := (HR.out.1.blk b e).2
    have h2 : wr.heap.size ≤ b := hb
    omega
   case refine_2 => have h1 := HSZ.out; have h2 := HB.out.size; omega
   case refine_3 => rw [nusF_len]; have h1 := HN.out; have h2 := HLT.out; simp; omega
   intro p5 c5 w5 hp5 ho5
   have HP5 := Lib.hid (show OwnG w5 (fun b => W.heap.size ≤ b) (.slice p5 (k + 1) c5) (nusF (xs.take (k + 1))) from by
    have e1 : (nusF (xs.take k)).len + 1 = k + 1 := by rw [nusF_len, List.length_take, HL.out]; have := HLT.out; omega
    have h := hp5
    rw [e1] at h
    rw [HE.out, nusF_snoc]; exact h)
   have HB5 := Lib.hid (show Below W.heap.size W w5 from (HB.out.trans (HB2.out.mono HB.out.size)).trans (ho5.below (B := W.heap.size) (fun j hj => (HR.out.1.blk j hj).1) (Nat.le_trans HB.out.size HB2.out.size)))
   have hkk : (nusF (xs.take k)).len = k := by rw [nusF_len, List.length_take, HL.out]; have := HLT.out; omega
   rw [hkk]
   clear hp5 ho5 hkk
   obtain ⟨G, rfl⟩ : ∃ G, gk = G + 1 := ⟨gk - 1, by have := HK.out; have := HLT.out; omega⟩
   go_wp2_with fail
   go_roundg G
   case measure => omega
   case rel => exact ⟨k + 1, p5, c5, by have := HK.out; omega, rfl, by first | rfl | rw [HS.out.2.2], Lib.hid ⟨HP5.out, HB5.out⟩⟩
  ·obtain rfl : n = k := by omega
   clear hlt hk
   go_wp2_with fail
   refine bodyPost_ret (v := .slice p3 n c3) (by simp [results, Tryz.results67, go_sem]) rfl ⟨p3, c3, rfl, ?_, HR.out.2⟩
   have h1 := HR.out.1
   rw [List.take_of_length_le (by rw [HL.out]; exact Nat.le_refl _)] at h1
   exact h1
set_option maxHeartbeats 1600000 in
theorem numbers30 (p : Option Addr) (c n : Nat) (xs : List Int) (W : World) (h : IntsIn W p xs) (hl : xs.length = n) (hn : n ≤ 500000000) (hxs : ∀ x ∈ xs, -4611686018427387903 ≤ x ∧ x ≤ 4611686018427387903) (htab : PowTab W) :
  Calls Tryz.prog 30 #[.slice p n c] W fun e w' => ∃ q d, e = .returned (.slice q n d) ∧ OwnG w' (fun b => W.heap.size ≤ b) (.slice q n d) (nusF xs) ∧ Below W.heap.size W w' := by
 have H := Lib.hid h
 have HL := Lib.hid hl
 have HX := Lib.hid hxs
 have HT := Lib.hid htab
 clear htab
 have HN := Lib.hid hn
 have n1 : (n : Int) ≤ 500000000 := by omega
 clear h hl hxs
 go_enter Tryz.func30, Tryz.ntmps30
 go_wp2_with fail
 go_loopg [3, 8] n (fun gk s3 s8 wx => ∃ (k : Nat) (p3 : Option Addr) (c3 : Nat), k + gk = n ∧ s3 = .slice p3 k c3 ∧ s8 = .int .i64 (k : Int) ∧ Hid (OwnG wx (fun b => W.heap.size ≤ b) (.slice p3 k c3) (nusF (xs.take k)) ∧ Below W.heap.size W wx))
 case atStart => exact ⟨0, none, 0, by omega, rfl, rfl, Lib.hid ⟨OwnG.nil _ _, Below.refl _ _⟩⟩
 case round =>
  obtain ⟨k, p3, c3, hk, rfl, rfl, HR⟩ := hrel
  have k0 : (0 : Int) ≤ (k : Int) := Int.natCast_nonneg k
  by_cases hlt : k < n
  ·have k1 : (k : Int) < (n : Int) := Int.ofNat_lt.2 hlt
   have hkl : k < xs.length := by rw [HL.out]; exact hlt
   obtain ⟨b, off, rfl, c0⟩ := (H.out.later HR.out.2) k hkl
   have HS := Lib.hid (step_ok hlt (show n ≤ 9223372036854775807 from by omega))
   obtain ⟨x, hx⟩ : ∃ x, x = xs[k] := ⟨_, rfl⟩
   have HE := Lib.hid (show xs.take (k + 1) = xs.take k ++ [x] from by rw [hx, List.take_add_one, List.getElem?_eq_getElem hkl]; rfl)
   have HM := Lib.hid (show x ∈ xs from by rw [hx]; exact List.getElem_mem hkl)
   rw [← hx] at c0
   have HK := Lib.hid hk
   have HLT := Lib.hid hlt
   clear hx hkl hk hlt
   go_wp2_with fail
   refine (number66 x _ (HX.out x HM.out).1 (HX.out x HM.out).2 (tabIs_below HT.out HR.out.2)).mono ?_
   rintro e w1 ⟨q, d, rfl, hd, hd2, hq, hb⟩
   have HB := Lib.hid (HR.out.2.trans (hb.mono HR.out.2.size))
   have HQ := Lib.hid (show OwnG w1 (fun b => W.heap.size ≤ b) (.slice p3 k c3) (nusF (xs.take k)) ∧ FoIn w1 (fun b => wr.heap.size ≤ b) (nuX x) q from ⟨HR.out.1.later hb, hq⟩)
   have HZ := Lib.hid (show wr.heap.size ≤ w1.heap.size from hb.size)
   have HD := Lib.hid (And.intro hd hd2)
   obtain ⟨w2, hw2⟩ : ∃ w2, w2 = w1.alloc (.cells #[.bool (nuL x), .int .u8 (nuK x), .string (nuS x), .int .i64 0, .slice q (nuX x).len d] 35) := ⟨_, rfl⟩
   have HB2 := Lib.hid (show Below w1.heap.size w1 w2 from by rw [hw2]; exact below1 _ _)
   have HBX := Lib.hid (show BoxT w2 w1.heap.size (nuL x) (nuK x) (nuS x) 0 (.slice q (nuX x).len d) from by rw [hw2]; exact box_new _ _ _ _ _ _)
   have HSZ := Lib.hid (show w2.heap.size = w1.heap.size + 1 from by rw [hw2]; simp)
   have HW2 := Lib.hid hw2
   clear hb hq hd hd2 hw2
   unfold trV
   go_wp2_with (at_builtin; rw [← HW2.out]; refine wpList_push_tree (by rfl) _ _ (by rfl) (fun b => W.heap.size ≤ b) (fun b => wr.heap.size ≤ b) w1.heap.size _ (nusF (xs.take k)) (nuL x) (nuK x) (nuS x) 0 (nuX x) q d (by rfl) (by rfl) (HQ.out.1.later HB2.out) HBX.out (HQ.out.2.later HB2.out) HD.out.1 HD.out.2 ?_ ?_ ?_ ?_)
   case refine_1 =>
    intro b hb _
    refine ⟨Nat.le_trans HR.out.2.size hb, fun e => ?_⟩
    have h1 := (HR.out.1.blk b e).2
    have h2 : wr.heap.size ≤ b := hb
    omega
   case refine_2 => have h1 := HSZ.out; have h2 := HB.out.size; omega
   case refine_3 => rw [nusF_len]; have h1 := HN.out; have h2 := HLT.out; simp; omega
   intro p5 c5 w5 hp5 ho5
   have HP5 := Lib.hid (show OwnG w5 (fun b => W.heap.size ≤ b) (.slice p5 (k + 1) c5) (nusF (xs.take (k + 1))) from by
    have e1 : (nusF (xs.take k)).len + 1 = k + 1 := by rw [nusF_len, List.length_take, HL.out]; have := HLT.out; omega
    have h := hp5
    rw [e1] at h
    rw [HE.out, nusF_snoc]; exact h)
   have HB5 := Lib.hid (show Below W.heap.size W w5 from (HB.out.trans (HB2.out.mono HB.out.size)).trans (ho5.below (B := W.heap.size) (fun j hj => (HR.out.1.blk j hj).1) (Nat.le_trans HB.out.size HB2.out.size)))
   have hkk : (nusF (xs.take k)).len = k := by rw [nusF_len, List.length_take, HL.out]; have := HLT.out; omega
   rw [hkk]
   clear hp5 ho5 hkk
   obtain ⟨G, rfl⟩ : ∃ G, gk = G + 1 := ⟨gk - 1, by have := HK.out; have := HLT.out; omega⟩
   go_wp2_with fail
   go_roundg G
   case measure => omega
   case rel => exact ⟨k + 1, p5, c5, by have := HK.out; omega, rfl, by first | rfl | rw [HS.out.2.2], Lib.hid ⟨HP5.out, HB5.out⟩⟩
  ·obtain rfl : n = k := by omega
   clear hlt hk
   go_wp2_with fail
   refine bodyPost_ret (v := .slice p3 n c3) (by simp [results, Tryz.results30, go_sem]) rfl ⟨p3, c3, rfl, ?_, HR.out.2⟩
   have h1 := HR.out.1
   rw [List.take_of_length_le (by rw [HL.out]; exact Nat.le_refl _)] at h1
   exact h1
def BoolsIn (W : World) (p : Option Addr) (c : List Bool) : Prop := ∀ i (h : i < c.length), ∃ b off, p = some ⟨b, off, none⟩ ∧ W.cell? ⟨b, off + i, none⟩ = some (.bool c[i])
theorem BoolsIn.later {W W' : World} {p : Option Addr} {c : List Bool} (h : BoolsIn W p c) (hb : Below W.heap.size W W') : BoolsIn W' p c := fun i hi => by
 obtain ⟨b, off, e, hc⟩ := h i hi
 exact ⟨b, off, e, cell_later hb hc⟩
def flt : List Bool → List Int → List Int
 | h :: hs, x :: xs => if h then x :: flt hs xs else flt hs xs
 | _, _ => []
theorem flt_snoc (h : Bool) (x : Int) : ∀ (hs : List Bool) (xs : List Int), hs.length = xs.length → flt (hs ++ [h]) (xs ++ [x]) = flt hs xs ++ (if h then [x] else [])
 | [], [], _ => by simp [flt]
 | [], _ :: _, e => by simp at e
 | _ :: _, [], e => by simp at e
 | g :: hs, y :: xs, e => by
  have ih := flt_snoc h x hs xs (by simpa using e)
  simp only [List.cons_append, flt, ih]
  split <;> rfl
theorem flt_len : ∀ (hs : List Bool) (xs : List Int), (flt hs xs).length ≤ xs.length
 | [], xs => by simp [flt]
 | _ :: _, [] => by simp [flt]
 | g :: hs, y :: xs => by
  have ih := flt_len hs xs
  simp only [flt]; split <;> simp <;> omega
set_option maxHeartbeats 1600000 in
theorem fields33 (p0 : Option Addr) (cc : Nat) (p : Option Addr) (c n : Nat) (hs : List Bool) (xs : List Int) (W : World) (hh : BoolsIn W p0 hs) (hhl : hs.length = n) (h : IntsIn W p xs) (hl : xs.length = n) (hn : n ≤ 500000000) (hxs : ∀ x ∈ xs, -4611686018427387903 ≤ x ∧ x ≤ 4611686018427387903) (htab : PowTab W) :
  Calls Tryz.prog 33 #[.slice p0 n cc, .slice p n c] W fun e w' => ∃ q d, e = .returned (.slice q (flt hs xs).length d) ∧ OwnG w' (fun b => W.heap.size ≤ b) (.slice q (flt hs xs).length d) (nusF (flt hs xs)) ∧ Below W.heap.size W w' := by
 have H := Lib.hid h
 have HL := Lib.hid hl
 have HH := Lib.hid hh
 have HHL := Lib.hid hhl
 have HX := Lib.hid hxs
 have HT := Lib.hid htab
 have HN := Lib.hid hn
 have n1 : (n : Int) ≤ 500000000 := by omega
 clear h hl hxs htab hh hhl
 go_enter Tryz.func33, Tryz.ntmps33
 go_wp2_with fail
 go_loopg [5, 9] n (fun gk s3 s8 wx => ∃ (k m : Nat) (p3 : Option Addr) (c3 : Nat), k + gk = n ∧ s3 = .slice p3 m c3 ∧ s8 = .int .i64 (k : Int) ∧ Hid (OwnG wx (fun b => W.heap.size ≤ b) (.slice p3 m c3) (nusF (flt (hs.take k) (xs.take k))) ∧ Below W.heap.size W wx ∧ m = (flt (hs.take k) (xs.take k)).length))
 case atStart => exact ⟨0, 0, none, 0, by omega, rfl, rfl, Lib.hid ⟨OwnG.nil _ _, Below.refl _ _, rfl⟩⟩
 case round =>
  obtain ⟨k, m, p3, c3, hk, rfl, rfl, HR⟩ := hrel
  have k0 : (0 : Int) ≤ (k : Int) := Int.natCast_nonneg k
  by_cases hlt : k < n
  ·have k1 : (k : Int) < (n : Int) := Int.ofNat_lt.2 hlt
   have hkl : k < xs.length := by rw [HL.out]; exact hlt
   have hkh : k < hs.length := by rw [HHL.out]; exact hlt
   obtain ⟨b, off, rfl, c0⟩ := (H.out.later HR.out.2.1) k hkl
   obtain ⟨b', off', rfl, c1⟩ := (HH.out.later HR.out.2.1) k hkh
   have HS := Lib.hid (step_ok hlt (show n ≤ 9223372036854775807 from by omega))
   obtain ⟨x, hx⟩ : ∃ x, x = xs[k] := ⟨_, rfl⟩
   obtain ⟨t, ht⟩ : ∃ t, t = hs[k] := ⟨_, rfl⟩
   have HE := Lib.hid (show flt (hs.take (k + 1)) (xs.take (k + 1)) = flt (hs.take k) (xs.take k) ++ (if t then [x] else []) from by
    rw [show xs.take (k + 1) = xs.take k ++ [x] from by rw [hx, List.take_add_one, List.getElem?_eq_getElem hkl]; rfl, show hs.take (k + 1) = hs.take k ++ [t] from by rw [ht, List.take_add_one, List.getElem?_eq_getElem hkh]; rfl]
    exact flt_snoc t x _ _ (by simp; omega))
   have HM := Lib.hid (show x ∈ xs from by rw [hx]; exact List.getElem_mem hkl)
   rw [← hx] at c0
   rw [← ht] at c1
   have HK := Lib.hid hk
   have HLT := Lib.hid hlt
   clear hx hkl hk hlt ht hkh
   obtain ⟨G, rfl⟩ : ∃ G, gk = G + 1 := ⟨gk - 1, by have := HK.out; have := HLT.out; omega⟩
   cases t with
   | false =>
    go_wp2_with fail
    go_roundg G
    case measure => omega
    case rel => exact ⟨k + 1, m, p3, c3, by have := HK.out; omega, rfl, by first | rfl | rw [HS.out.2.2], Lib.hid ⟨by rw [HE.out]; simpa using HR.out.1, HR.out.2.1, by rw [HE.out]; simpa using HR.out.2.2⟩⟩
   | true =>
   go_wp2_with fail
   refine (number68 x _ (HX.out x HM.out).1 (HX.out x HM.out).2 (tabIs_below HT.out HR.out.2.1)).mono ?_
   rintro e w1 ⟨q, d, rfl, hd, hd2, hq, hb⟩
   have HB := Lib.hid (HR.out.2.1.trans (hb.mono HR.out.2.1.size))
   have HQ := Lib.hid (show OwnG w1 (fun b => W.heap.size ≤ b) (.slice p3 m c3) (nusF (flt (hs.take k) (xs.take k))) ∧ FoIn w1 (fun b => wr.heap.size ≤ b) (nuX x) q from ⟨HR.out.1.later hb, hq⟩)
   have HZ := Lib.hid (show wr.heap.size ≤ w1.heap.size from hb.size)
   have HD := Lib.hid (And.intro hd hd2)
   obtain ⟨w2, hw2⟩ : ∃ w2, w2 = w1.alloc (.cells #[.bool (nuL x), .int .u8 (nuK x), .string (nuS x), .int .i64 0, .slice q (nuX x).len d] 35) := ⟨_, rfl⟩
   have HB2 := Lib.hid (show Below w1.heap.size w1 w2 from by rw [hw2]; exact below1 _ _)
   have HBX := Lib.hid (show BoxT w2 w1.heap.size (nuL x) (nuK x) (nuS x) 0 (.slice q (nuX x).len d) from by rw [hw2]; exact box_new _ _ _ _ _ _)
   have HSZ := Lib.hid (show w2.heap.size = w1.heap.size + 1 from by rw [hw2]; simp)
   have HW2 := Lib.hid hw2
   clear hb hq hd hd2 hw2
   unfold trV
   go_wp2_with (at_builtin; rw [← HW2.out]; refine wpList_push_tree (by rfl) _ _ (by rfl) (fun b => W.heap.size ≤ b) (fun b => wr.heap.size ≤ b) w1.heap.size _ (nusF (flt (hs.take k) (xs.take k))) (nuL x) (nuK x) (nuS x) 0 (nuX x) q d (by rfl) (by rfl) (HQ.out.1.later HB2.out) HBX.out (HQ.out.2.later HB2.out) HD.out.1 HD.out.2 ?_ ?_ ?_ ?_)
   case refine_1 =>
    intro b hb _
    refine ⟨Nat.le_trans HR.out.2.1.size hb, fun e => ?_⟩
    have h1 := (HR.out.1.blk b e).2
    have h2 : wr.heap.size ≤ b := hb
    omega
   case refine_2 => have h1 := HSZ.out; have h2 := HB.out.size; omega
   case refine_3 => rw [nusF_len]; have h1 := HN.out; have h2 := HLT.out; have h3 := flt_len (hs.take k) (xs.take k); have h4 := List.length_take_le k xs; omega
   intro p5 c5 w5 hp5 ho5
   have hkk : (nusF (flt (hs.take k) (xs.take k))).len = m := by rw [nusF_len, HR.out.2.2]
   rw [hkk] at hp5 ⊢
   have HP5 := Lib.hid (show OwnG w5 (fun b => W.heap.size ≤ b) (.slice p5 (m + 1) c5) (nusF (flt (hs.take (k + 1)) (xs.take (k + 1)))) from by
    rw [HE.out, if_pos trivial, nusF_snoc]; exact hp5)
   have HB5 := Lib.hid (show Below W.heap.size W w5 from (HB.out.trans (HB2.out.mono HB.out.size)).trans (ho5.below (B := W.heap.size) (fun j hj => (HR.out.1.blk j hj).1) (Nat.le_trans HB.out.size HB2.out.size)))
   clear hp5 ho5 hkk
   go_wp2_with fail
   go_roundg G
   case measure => omega
   case rel => exact ⟨k + 1, m + 1, p5, c5, by have := HK.out; omega, rfl, by first | rfl | rw [HS.out.2.2], Lib.hid ⟨HP5.out, HB5.out, by rw [HE.out, if_pos trivial, List.length_append, HR.out.2.2]; rfl⟩⟩
  ·obtain rfl : n = k := by omega
   clear hlt hk
   have h1 := HR.out
   rw [List.take_of_length_le (l := xs) (by rw [HL.out]; exact Nat.le_refl _), List.take_of_length_le (l := hs) (by rw [HHL.out]; exact Nat.le_refl _)] at h1
   have H1 := Lib.hid h1
   clear h1
   go_wp2_with fail
   refine bodyPost_ret (v := .slice p3 m c3) (by simp [results, Tryz.results33, go_sem]) rfl ⟨p3, c3, by rw [H1.out.2.2], by rw [← H1.out.2.2]; exact H1.out.1, H1.out.2.1⟩
theorem wpAnyL_named {P : Program} {md : Region.Mode} {ops : Array Oper} {Q : Exit → Act → World → Prop} {ks : List (Nat × (World → Prop))} {fuel : Nat} {listed : Array Bool} {a : Act} {w : World} (h : ∀ (Q0 : Exit → Act → World → Prop) (A0 : Act), Q0 = Q → A0 = a → wpAnyL P md ops Q0 ks fuel listed A0 w) : wpAnyL P md ops Q ks fuel listed a w := h Q a rfl rfl
structure Keeps (R : World → Prop) (F : Nat → Prop) (B : Nat) : Prop where
 only : ∀ w w', R w → Only (fun j => F j ∨ j = B) w w' → R w'
 notB : ¬ F B
 new : ∀ w k, R w → w.heap.size ≤ k → F k
structure LS (R : World → Prop) (F : Nat → Prop) (B : Nat) (w : World) (v : Value) (f : Fo) : Prop where
 rest : R w
 box : BoxT w B true 1 ⟨#[40]⟩ 0 v
 own : OwnG w F v f
section
variable {R : World → Prop} {F : Nat → Prop} {B : Nat} {w w1 w5 : World} {v v5 : Value} {f f5 : Fo}
theorem LS.later (K : Keeps R F B) (h : LS R F B w v f) (hb : Below w.heap.size w w1) : LS R F B w1 v f :=
 ⟨K.only _ _ h.rest ((Only.of_below (T := fun _ => False) hb).mono (fun _ _ h => h.elim)), h.box.later hb, h.own.later hb⟩
theorem LS.turn (K : Keeps R F B) (h : LS R F B w1 v f) (ho : Only (fun j => v.ownBlock = some j) w1 w5) (hn : OwnG w5 F v5 f5) : LS R F B (w5.setCell ⟨B, 4, none⟩ v5) v5 f5 := by
 have hx := h.box.only ho (fun e => K.notB (h.own.blk B e).1)
 have hs := Only.of_setCell w5 ⟨B, 4, none⟩ v5
 exact ⟨K.only _ _ (K.only _ _ h.rest (ho.mono (fun j _ e => Or.inl (h.own.blk j e).1))) (hs.mono (fun j _ e => Or.inr e)), hx.set4 v5, hn.only hs (fun b hb e => K.notB (by
  have e2 : b = B := e
  rw [← e2]; exact hb))⟩
theorem LS.box_at (K : Keeps R F B) (h : LS R F B w1 v f) (ho : Only (fun j => v.ownBlock = some j) w1 w5) : BoxT w5 B true 1 ⟨#[40]⟩ 0 v :=
 h.box.only ho (fun e => K.notB (h.own.blk B e).1)
end
structure FormAt (W : World) (B : Nat) (h : ByteArray) (a b lit i j : Bool) : Prop where
 c0 : W.cell? ⟨B, 0, none⟩ = some (.string h)
 c3 : W.cell? ⟨B, 3, none⟩ = some (.bool a)
 c4 : W.cell? ⟨B, 4, none⟩ = some (.bool b)
 c5 : W.cell? ⟨B, 5, none⟩ = some (.bool lit)
 c6 : W.cell? ⟨B, 6, none⟩ = some (.bool i)
 c7 : W.cell? ⟨B, 7, none⟩ = some (.bool j)
theorem FormAt.only {W W' : World} {B : Nat} {h : ByteArray} {a b lit i j : Bool} {T : Nat → Prop} (x : FormAt W B h a b lit i j) (ho : Only T W W') (hn : ¬ T B) : FormAt W' B h a b lit i j :=
 ⟨ho.cell x.c0 hn, ho.cell x.c3 hn, ho.cell x.c4 hn, ho.cell x.c5 hn, ho.cell x.c6 hn, ho.cell x.c7 hn⟩
theorem LkAt.only {W W' : World} {B : Nat} {x : Lk} {q : Option Addr} {c : Nat} {T : Nat → Prop} (h : LkAt W B x q c) (ho : Only T W W') (hn : ¬ T B) : LkAt W' B x q c :=
 ⟨ho.cell h.c0 hn, ho.cell h.c1 hn, ho.cell h.c2 hn, ho.cell h.c3 hn, ho.cell h.c4 hn, ho.cell h.c5 hn, ho.cell h.c6 hn⟩
theorem StAt.only {W W' : World} {B : Nat} {x : Stp} {p : Option Addr} {c : Nat} {q : Option Addr} {d : Nat} {T : Nat → Prop} (h : StAt W B x p c q d) (ho : Only T W W') (hn : ¬ T B) : StAt W' B x p c q d :=
 ⟨ho.cell h.c0 hn, ho.cell h.c1 hn, ho.cell h.c2 hn, ho.cell h.c3 hn, ho.cell h.c4 hn⟩
structure RLk (W : World) (B : Nat) (h : ByteArray) (a b lit i j : Bool) (x : Lk) (q : Option Addr) (c : Nat) (w : World) : Prop where
 form : FormAt w W.heap.size h a b lit i j
 lk : LkAt w (W.heap.size + 1) x q c
 res : BoxT w (W.heap.size + 1 + 1) false 0 ⟨#[]⟩ 0 (.slice none 0 0)
 below : Below W.heap.size W w
 lt : B < w.heap.size
def FLk (W : World) (B : Nat) : Nat → Prop := fun b => W.heap.size + 3 ≤ b ∧ b ≠ B
theorem keeps_lk (W : World) (B : Nat) (hB : W.heap.size + 3 ≤ B) (h : ByteArray) (a b lit i j : Bool) (x : Lk) (q : Option Addr) (c : Nat) : Keeps (RLk W B h a b lit i j x q c) (FLk W B) B where
 only := fun w w' r ho => ⟨r.form.only ho (fun e => by unfold FLk at e; omega), r.lk.only ho (fun e => by unfold FLk at e; omega), r.res.only ho (fun e => by unfold FLk at e; omega), r.below.trans (ho.below (B := W.heap.size) (fun k e => by unfold FLk at e; omega) r.below.size), Nat.lt_of_lt_of_le r.lt ho.size⟩
 notB := fun e => e.2 rfl
 new := fun w k r hk => ⟨by have := r.lt; omega, by have := r.lt; omega⟩
end Go.Proofs.YtookoagcmejkpaaGreatDoor
namespace Go.Proofs.YtookoagcmejkpaaGreatDoor.Lx
open Go Go.RowKit
def clsV : List Value := (List.range 256).map fun n => Value.int .u8 (clB (UInt8.ofNat n) : Int)
theorem clsV_eq : Go.Proofs.YtookoagcmejkpaaGreatDoor.clsV = clsV := by kernel_rfl
theorem classes_any (w : World) : Calls Tryz.prog 121 #[] w fun e w' => e = .returned (.agg clsV.toArray) ∧ Below w.heap.size w w' := by
 rw [← clsV_eq]
 exact Go.Proofs.YtookoagcmejkpaaGreatDoor.classes_any w
set_option maxRecDepth 100000
def rdL (v : Value) : List Value := [v, .int .i64 0] ++ clsV
theorem built60 (p : Option Addr) (n c : Nat) : Tryz.prog.built 183 [(0, .slice p n c), (2, .agg clsV.toArray)] = some (rdL (.slice p n c)).toArray := by kernel_rfl
theorem rdL_one (p : Option Addr) (n c : Nat) : ((rdL (.slice p n c)).toArray.all (·.oneCell')) = true := by kernel_rfl
theorem rdL_len (v : Value) : (rdL v).length = 258 := by simp [rdL, clsV]
theorem info60 : (Tryz.prog.info? 183).map (·.size) = some 258 := by kernel_rfl
theorem clsV_get (b : UInt8) : clsV[b.toNat]? = some (.int .u8 (clB b : Int)) := by
 have h := b.toNat_lt
 unfold clsV
 rw [List.getElem?_map, List.getElem?_range (by omega)]
 simp
theorem wpList_build_to {P : Program} {ops : Array Oper} {rest : List Oper} {o : Oper} {a : Act} {w : World} {Q : Exit → Act → World → Prop} (hgd : o.guard = none) (t : TypeId) (parts : Array (Nat × Operand)) (ho : o.op = .build t parts)
  (cells : Array Value) (hc : P.built t (parts.map fun (i, x) => (i, a.eval x)).toList = some cells) (h : wpList P ops Q rest (a.put o.dst (.agg cells)) w) : wpList P ops Q (o :: rest) a w :=
 wpList_plain hgd fun _ hK => by
  unfold Oper.wp execOp
  simp only [ho, Sem.run_bind, run_build w t _ cells hc, Result.andThen_ok]
  exact hK _ _ h
theorem _root_.Go.Proofs.YtookoagcmejkpaaGreatDoor.Only.newCells {T : Nat → Prop} {w : World} {b : Nat} (hb : w.heap.size ≤ b) : ∀ (l : List Value) (o : Nat) (w2 : World), Only T w w2 → Only T w (w2.setCells b o l)
 | [], _, _, h => h
 | v :: l, o, w2, h => by
  rw [World.setCells]
  exact Only.newCells hb l (o + 1) _ (h.new hb)
theorem size_setCells (b : Nat) : ∀ (l : List Value) (o : Nat) (w : World), (w.setCells b o l).heap.size = w.heap.size
 | [], _, _ => rfl
 | v :: l, o, w => by rw [World.setCells, size_setCells b l, World.size_setCell]
theorem there_new (w : World) : (w.alloc (.cells Tryz.zeroCells183 183)).there w.heap.size 0 258 := fun j hj => by
 have hz : Tryz.zeroCells183.size = 258 := by kernel_rfl
 rw [Nat.zero_add]
 constructor
 ·rw [World.cell?_alloc_new, Array.getElem?_eq_getElem (by rw [hz]; exact hj)]; rfl
 ·simp [go_sem]
theorem rd_new (w : World) (p : Option Addr) (c : Nat) (bs : List UInt8) (hb : BytesIn w p bs) (hk : bs.length ≤ c) (hn : bs.length ≤ 1048576) :
  RdAt ((w.alloc (.cells Tryz.zeroCells183 183)).setCells w.heap.size 0 (rdL (.slice p bs.length c))) w.heap.size p c bs 0 ∧ Below w.heap.size w ((w.alloc (.cells Tryz.zeroCells183 183)).setCells w.heap.size 0 (rdL (.slice p bs.length c))) := by
 have hth := there_new w
 have hlen := rdL_len (.slice p bs.length c)
 have hin := fun j (hj : j < (rdL (.slice p bs.length c)).length) => World.cell?_setCells_in w.heap.size (rdL (.slice p bs.length c)) 0 (w.alloc (.cells Tryz.zeroCells183 183)) (fun i hi => (hth i (by omega)).1) j hj
 have hO : Only (fun _ => False) w ((w.alloc (.cells Tryz.zeroCells183 183)).setCells w.heap.size 0 (rdL (.slice p bs.length c))) := Only.newCells (Nat.le_refl _) _ _ _ (Only.of_below (below1 w _))
 refine ⟨⟨?_, ?_, ?_, ?_, ?_, ?_, ?_, hn, hk, Nat.zero_le _⟩, hO.below (fun k h => h.elim) (Nat.le_refl _)⟩
 ·have := hin 0 (by omega); rw [Nat.zero_add] at this; rw [this]; rfl
 ·have := hin 1 (by omega); rw [Nat.zero_add] at this; rw [this]; rfl
 ·intro b
  have hb' := b.toNat_lt
  have := hin (2 + b.toNat) (by omega)
  rw [Nat.zero_add] at this
  rw [this, ← List.getElem?_eq_getElem]
  show ([.slice p bs.length c, .int .i64 0] ++ clsV)[2 + b.toNat]? = _
  rw [List.getElem?_append_right (by simp)]
  simp only [List.length_cons, List.length_nil, Nat.zero_add]
  rw [show 2 + b.toNat - (1 + 1) = b.toNat by omega]
  exact clsV_get b
 ·rw [World.frozen?_setCells]
  exact (hth 1 (by omega)).2
 ·exact hb.only hO (fun _ _ _ _ h => h)
 ·intro h0 b off e
  have := hb.lt h0 b off e
  omega
 ·rw [size_setCells]; simp
def tkV (t : Tk) : List Value := [.int .u8 (t.kind : Int), .string ⟨t.text.toArray⟩, .int .i64 (t.at_ : Int)]
def rowT (l : List Tk) : List Value := l.flatMap tkV
def Z33 : Value := .agg #[.int .u8 0, .string ByteArray.empty, .int .i64 0]
theorem info33 : ∃ i0, Tryz.prog.info? 32 = some i0 ∧ i0.zero = some Z33 ∧ i0.size = 3 ∧ i0.bytes = 32 := info_of (by kernel_rfl)
theorem tok_cell (w : World) (C : Array Value) (j : Nat) {v : Value} (h : C[j]? = some v) : ((w.alloc (.cells C 32)).alloc (.cells C 32)).cell? ⟨w.heap.size + 1, 0 + j, none⟩ = some v := by
 rw [Nat.zero_add, show w.heap.size + 1 = (w.alloc (.cells C 32)).heap.size by simp, World.cell?_alloc_new]
 exact h
theorem own_mono {w : World} {base base' n : Nat} {e : TypeId} {size : Nat} {v : Value} {xs : List Value} (h : w.ownsRow base e size v n xs) (hb : base' ≤ base) : w.ownsRow base' e size v n xs := by
 rcases h with ⟨h0, ⟨h1, h2⟩ | ⟨g, cap, cur, rfl, hg, hh, hc⟩⟩
 ·exact ⟨h0, .inl ⟨h1, h2⟩⟩
 ·exact ⟨h0, .inr ⟨g, cap, cur, rfl, Nat.le_trans hb hg, hh, hc⟩⟩
theorem quo_err : ∀ (s acc : List UInt8) {e : Nat}, quo acc s = .err e → 0 < e
 | [], acc, e, h => by simp only [quo] at h; cases h; decide
 | c :: s, acc, e, h => by
  simp only [quo] at h
  split at h
  ·cases h
  ·split at h
   ·cases h; decide
   ·exact quo_err s _ h
theorem lit_err : ∀ (s : List UInt8) (m : Bool) (acc : List UInt8) (i : Nat) {e : Nat}, lit m acc i s = .err e → 0 < e
 | [], true, acc, i, e, h => by simp [lit] at h
 | [], false, acc, i, e, h => by simp only [lit] at h; cases h; decide
 | c :: s, true, acc, i, e, h => by
  simp only [lit] at h
  split at h
  ·exact lit_err s _ _ _ h
  ·cases h
 | c :: s, false, acc, i, e, h => by
  simp only [lit] at h
  split at h
  ·cases h; decide
  ·split at h
   ·exact lit_err s _ _ _ h
   ·exact lit_err s _ _ _ h
theorem err_pos {s : List UInt8} {e : Nat} (h : oneR s = .err e) (hs : 0 < s.length) : 0 < e := by
 cases s with
 | nil => simp at hs
 | cons c s =>
  simp only [oneR] at h
  split at h
  ·cases h
  ·split at h
   ·cases h
   ·split at h
    ·exact quo_err _ _ h
    ·split at h
     ·exact lit_err _ _ _ _ h
     ·split at h
      ·unfold keyR at h
       split at h <;> cases h
       decide
      ·split at h
       ·unfold basedR at h
        split at h
        ·cases h; decide
        ·split at h <;> cases h
         decide
       ·split at h
        ·unfold plainR at h
         split at h
         ·cases h
         ·simp only at h
          split at h
          ·cases h; decide
          ·split at h
           ·cases h
           ·split at h <;> cases h
            decide
        ·cases h; decide
def TokensP (bs : List UInt8) (W : World) (e : Ending) (w' : World) : Prop := ∃ (p : Option Addr) (c : Nat) (l : List Tk) (a er : Nat), e = .returned (.tuple #[.slice p l.length c, .int .i64 (a : Int), .int .i64 (er : Int)]) ∧ Toks bs 0 l a er ∧ w'.ownsRow W.heap.size 32 3 (.slice p l.length c) l.length (rowT l) ∧ Below W.heap.size W w'
set_option maxHeartbeats 1600000 in
theorem tokens_any (p : Option Addr) (c : Nat) (bs : List UInt8) (W : World) (hb : BytesIn W p bs) (hk : bs.length ≤ c) (hn : bs.length ≤ 1048576) :
  Calls Tryz.prog 123 #[.slice p bs.length c] W (TokensP bs W) := by
 have HBI := Lib.hid hb
 have HPB := Lib.hid hb.lt
 obtain ⟨i33, hi33, hz0, hz1, hz2⟩ := info33
 obtain ⟨n, hnl⟩ : ∃ n, n = bs.length := ⟨_, rfl⟩
 have HL := Lib.hid hnl
 rw [← hnl] at hk hn ⊢
 have hbd := built60 p n c
 have hone := rdL_one p n c
 have hlen := rdL_len (.slice p n c)
 generalize hRL : rdL (.slice p n c) = RL at *
 have hcls := fun w => classes_any w
 generalize hCL : clsV.toArray = CL at *
 have HRL := Lib.hid hRL
 have HBD := Lib.hid hbd
 clear hbd
 have hgt : decide ((1048576 : Int) < (n : Int)) = false := by simp; omega
 have HCLS := Lib.hid hcls
 have HONE := Lib.hid hone
 have HLEN := Lib.hid hlen
 have HCL := Lib.hid hCL
 have hni : (n : Int) ≤ 1048576 := by omega
 clear hb hnl hRL hcls hone hlen hCL
 go_enter Tryz.func123, Tryz.ntmps123
 go_wp2_with fail
 refine (HCLS.out _).mono ?_
 rintro e w1 ⟨rfl, hb1⟩
 have HB1 := Lib.hid hb1
 clear hb1
 rename_i K2 hKK
 refine hKK _ _ ?_
 refine wpList_build_to rfl 183 _ rfl RL.toArray (by simp [Act.eval, HBD.out]) ?_
 clear hKK
 go_wp2_with (refine wpList_store_mid rfl 183 _ _ rfl w1.heap.size 0 RL.toArray rfl rfl ?qs1 ?qs2 HONE.out ?_)
 case qs1 => rw [show RL.toArray.size = 258 by simpa using HLEN.out]; exact there_new w1
 case qs2 => rw [show RL.toArray.size = 258 by simpa using HLEN.out]; exact info60
 obtain ⟨hrd, hbd2⟩ := rd_new w1 p c bs (HBI.out.later HB1.out) (by rw [← HL.out]; exact hk) (by rw [← HL.out]; exact hn)
 rw [← HL.out, HRL.out] at hrd hbd2
 generalize hW2 : World.setCells _ _ 0 RL = W2
 rw [hW2] at hrd hbd2
 have HB2 := Lib.hid (HB1.out.trans (hbd2.mono HB1.out.size))
 have HRW := Lib.hid HB1.out.size
 clear hbd2 hW2 HRL HONE HLEN HBD HCLS HCL
 generalize w1.heap.size = R at *
 have HR2 := Lib.hid hrd
 clear hrd HBI
 refine (skip_any R p c bs 0 W2 HR2.out).mono ?_
 rintro e w3 ⟨rfl, hr3, ho3⟩
 have HRW3 := Lib.hid (show RdAt w3 R p c bs (0 + skipM false (bs.drop 0)) ∧ Below W.heap.size W w3 by
  refine ⟨hr3, HB2.out.trans ?_⟩
  exact ho3.below (fun k hk => by rw [hk]; exact HRW.out) HB2.out.size)
 clear hr3 ho3 HR2 HB2
 go_wp2_with fail
 go_loopg [6, 7, 8, 9] (bs.length + 1) (fun gk s6 s7 s8 s9 wx => ∃ (a : Nat) (acc : List Tk), Hid (bs.length + 1 ≤ a + skipM false (bs.drop a) + gk ∧ acc.length ≤ a ∧ a ≤ bs.length ∧ RdAt wx R p c bs (a + skipM false (bs.drop a)) ∧ (∀ l q er, Toks bs a l q er → Toks bs 0 (acc ++ l) q er) ∧ wx.ownsRow (R + 1) 32 3 s6 acc.length (rowT acc) ∧ Below W.heap.size W wx))
 case atStart => exact ⟨0, [], Lib.hid ⟨by omega, by simp, by omega, HRW3.out.1, fun l q er h => h, World.ownsRow_nil _ _ _ _, HRW3.out.2⟩⟩
 case round =>
  obtain ⟨a, acc, HI⟩ := hrel
  clear HRW3
  obtain ⟨h1, h2, h2b, hr, htk, hw, hbl⟩ := HI.out
  obtain ⟨pr, cr, rfl, hA_⟩ := own_shape hw
  have HA1 := Lib.hid (rfl : a + skipM false (bs.drop a) = a + skipM false (bs.drop a))
  generalize hA1 : a + skipM false (bs.drop a) = A1 at h1 hr HA1
  have HG := Lib.hid h1
  have HR := Lib.hid hr
  have HT := Lib.hid htk
  have HW := Lib.hid hw
  have HB := Lib.hid hbl
  have HAE := Lib.hid hA1
  have c1 := hr.ca
  have hA1le : A1 ≤ n := by have := hr.ha; have := HL.out; omega
  clear h1 hr htk hw hbl hA_ HI HA1 hA1
  by_cases hlt : A1 < n
  ·have i1 : (A1 : Int) < (n : Int) := by omega
   have i0 : (0 : Int) ≤ (A1 : Int) := by omega
   go_wp2_with fail
   refine (token_any R p c bs A1 wr HR.out (by have := HL.out; omega)).mono ?_
   rintro e w4 ⟨ho4, hres⟩
   have HO4 := Lib.hid ho4
   match hq : oneR (bs.drop A1), hres with
   | .tok k t m, hres =>
    obtain ⟨rfl, hr4⟩ := hres
    have HR4 := Lib.hid hr4
    have HQ := Lib.hid hq
    have hr4l := hr4.hl
    have hone := one_n hq
    have hs4 : wr.heap.size ≤ w4.heap.size := ho4.size
    have hWA := own_only HW.out ho4 (fun j hj e => by have := (own_lt HW.out hj).1; omega)
    have hbA := ((below1 w4 (.cells #[.int .u8 (k : Int), .string ⟨t.toArray⟩, .int .i64 (A1 : Int)] 32)).alloc (by simp) (.cells #[.int .u8 (k : Int), .string ⟨t.toArray⟩, .int .i64 (A1 : Int)] 32))
    have HWA := Lib.hid (own_later hWA hbA)
    have HRA := Lib.hid (hr4.later hbA)
    have HSA := Lib.hid (show R + 1 ≤ ((w4.alloc (.cells #[.int .u8 (k : Int), .string ⟨t.toArray⟩, .int .i64 (A1 : Int)] 32)).alloc (.cells #[.int .u8 (k : Int), .string ⟨t.toArray⟩, .int .i64 (A1 : Int)] 32)).heap.size by have := hr4.hl; simp; omega)
    have HBW := Lib.hid (HB.out.trans ((ho4.below (fun j hj => by rw [hj]; exact HRW.out) HB.out.size).trans (hbA.mono (by have := HB.out.size; omega))))
    have HON := Lib.hid hone
    have hal : acc.length ≤ 1048576 := by have := HL.out; omega
    have hnews : ∀ j u, (tkV ⟨k, t, A1⟩)[j]? = some u → ((w4.alloc (.cells #[.int .u8 (k : Int), .string ⟨t.toArray⟩, .int .i64 (A1 : Int)] 32)).alloc (.cells #[.int .u8 (k : Int), .string ⟨t.toArray⟩, .int .i64 (A1 : Int)] 32)).cell? ((⟨w4.heap.size + 1, 0, none⟩ : Addr).add j) = some u := by
     intro j u hj
     rw [Lib.add_plain]
     match j, hj with
     | 0, hj => cases hj; exact tok_cell w4 _ 0 rfl
     | 1, hj => cases hj; exact tok_cell w4 _ 1 rfl
     | 2, hj => cases hj; exact tok_cell w4 _ 2 rfl
    have HNE := Lib.hid hnews
    unfold tokV
    clear hr4 hq ho4 c1 hWA hbA hone hs4 hnews
    go_wp2_with (at_builtin; refine wpList_append_own_at _ rfl _ _ 54 rfl (R + 1) 32 i33 Z33 3 32 Tryz.underlying54 hi33 hz0 hz1 hz2 rfl (by omega) _ acc.length (rowT acc) rfl HWA.out ⟨w4.heap.size + 1, 0, none⟩ 1 1 (tkV ⟨k, t, A1⟩) rfl rfl HNE.out ?qc3 ?qc4 ?qc5 HSA.out ?_)
    case qc3 => intro u hu; simp [tkV] at hu; rcases hu with rfl | rfl | rfl <;> rfl
    case qc4 => have hml : maxLen = 9223372036854775807 := rfl; omega
    case qc5 => omega
    intro v' w5 hown hgrow hnil hloc
    obtain ⟨pn, cn, hv, hA_⟩ := own_shape hown
    subst hv
    have ho5 := Only.of_grown hgrow
    have hge : ∀ j, (Value.slice pr acc.length cr).ownBlock = some j → R + 1 ≤ j := fun j hj => (own_lt HWA.out hj).1
    have hlen : acc.length + 1 = (acc ++ [(⟨k, t, A1⟩ : Tk)]).length := by simp
    have hrow : rowT acc ++ tkV ⟨k, t, A1⟩ = rowT (acc ++ [(⟨k, t, A1⟩ : Tk)]) := by simp [rowT]
    rw [hlen, hrow] at hown
    rw [hlen]
    have hal2 : (acc ++ [(⟨k, t, A1⟩ : Tk)]).length = acc.length + 1 := hlen.symm
    generalize hacc2 : acc ++ [(⟨k, t, A1⟩ : Tk)] = acc2 at *
    have HA2 := Lib.hid hacc2
    have HAL := Lib.hid hal2
    have HR5 := Lib.hid (HRA.out.only ho5 (fun e => by have := hge _ e; omega) (fun hp b off e ek => by
     have h1 := hge _ ek
     have h2 := HPB.out hp b off e
     have h3 := HRW.out
     omega))
    have HW5 := Lib.hid hown
    have HB5 := Lib.hid (HBW.out.trans (ho5.below (B := W.heap.size) (fun j hj => by have := hge j hj; have := HRW.out; omega) HBW.out.size))
    have HG5 := Lib.hid hge
    clear hown hgrow hnil hloc hA_ ho5 hge hlen hrow hacc2 hal2
    go_wp2_with fail
    refine (skip_any R p c bs (A1 + m) w5 HR5.out).mono ?_
    rintro e w6 ⟨rfl, hr6, ho6⟩
    have HR6 := Lib.hid hr6
    have HW6 := Lib.hid (own_only HW5.out ho6 (fun j hj e => by have := (own_lt HW5.out hj).1; have e : j = R := e; omega))
    have HB6 := Lib.hid (HB5.out.trans (ho6.below (fun j hj => by rw [hj]; exact HRW.out) HB5.out.size))
    have hGp : 0 < gk := by have := HG.out; have := HL.out; omega
    clear hr6 ho6
    go_wp2_with fail
    go_roundg (gk - 1)
    case measure => omega
    case rel =>
     have hg := HG.out
     have hl := HL.out
     have ho := HON.out
     rw [List.length_drop] at ho
     obtain ⟨a', ha'⟩ : ∃ a', a' = A1 + m := ⟨_, rfl⟩
     have hae := HAE.out
     refine ⟨a', acc2, Lib.hid ⟨by omega, by have := HAL.out; omega, by omega, by rw [ha']; exact HR6.out, ?_, HW6.out, HB6.out⟩⟩
     intro l q er hl2
     rw [← HA2.out, List.append_assoc]
     refine HT.out _ _ _ ?_
     have hlt2 : a + skipM false (bs.drop a) < bs.length := by rw [hae]; omega
     have := Toks.step (b := bs) (at_ := a) (k := k) (n := m) (t := t) (l := l) (p := q) (e := er) hlt2 (by rw [hae]; exact HQ.out) (by rw [hae, ← ha']; exact hl2)
     rw [hae] at this
     exact this
   | .err er, hres =>
    subst hres
    have HQ := Lib.hid hq
    have her := err_pos hq (by rw [List.length_drop]; have := HL.out; omega)
    have her2 : ((er : Int) != 0) = true := by simp; omega
    have hWA := own_only HW.out ho4 (fun j hj e => by have := (own_lt HW.out hj).1; have e : j = R := e; omega)
    have HWE := Lib.hid (own_later hWA (below1 w4 (.cells #[.int .u8 0, .string ⟨#[]⟩, .int .i64 0] 32)))
    have HBE := Lib.hid (HB.out.trans ((ho4.below (fun j hj => by rw [hj]; exact HRW.out) HB.out.size).trans ((below1 w4 (.cells #[.int .u8 0, .string ⟨#[]⟩, .int .i64 0] 32)).mono (by have := HB.out.size; have := ho4.size; omega))))
    unfold tokV
    clear hq hWA ho4 c1
    go_wp2_with fail
    go_ret3
    refine ⟨pr, cr, acc, A1, er, rfl, ?_, own_mono HWE.out (by have := HRW.out; omega), HBE.out⟩
    have hae := HAE.out
    have hl := HL.out
    have := HT.out [] A1 er (by
     have := Toks.bad (b := bs) (at_ := a) (e := er) (by rw [hae]; omega) (by rw [hae]; exact HQ.out)
     rw [hae] at this
     exact this)
    simpa using this
  ·go_wp2_with fail
   go_ret3
   refine ⟨pr, cr, acc, n, 0, rfl, ?_, own_mono HW.out (by have := HRW.out; omega), HB.out⟩
   have hae := HAE.out
   have hl := HL.out
   have := HT.out [] bs.length 0 (.done (by omega))
   rw [← hl] at this
   simpa using this
end Go.Proofs.YtookoagcmejkpaaGreatDoor.Lx
namespace Go.Proofs.YtookoagcmejkpaaGreatDoor
set_option maxRecDepth 100000
open Go Go.RowKit
structure OwnS (W : World) (F : Nat → Prop) (v : Value) (l : List ByteArray) : Prop where
 has : W.ownsRow 0 9 1 v l.length (l.map Value.string)
 blk : ∀ k, v.ownBlock = some k → F k ∧ k < W.heap.size
section
variable {W W' : World} {F T : Nat → Prop} {v : Value} {l : List ByteArray}
theorem OwnS.later (h : OwnS W F v l) (hb : Below W.heap.size W W') : OwnS W' F v l := ⟨own_later h.has hb, fun k hk => ⟨(h.blk k hk).1, Nat.lt_of_lt_of_le (h.blk k hk).2 hb.size⟩⟩
theorem OwnS.nil (W : World) (F : Nat → Prop) : OwnS W F (.slice none 0 0) [] := ⟨⟨rfl, Or.inl ⟨rfl, rfl⟩⟩, fun k hk => by cases hk⟩
theorem OwnS.cells (h : OwnS W F v l) : ∃ q c, v = .slice q l.length c ∧ l.length ≤ c ∧ (q = none → l = []) ∧ ∀ a, q = some a → a = ⟨a.block, 0, none⟩ ∧ a.block < W.heap.size ∧ ∀ (j : Nat) x, l[j]? = some x → W.cell? ⟨a.block, 0 + j, none⟩ = some (.string x) := by
 have hb := h.blk
 obtain ⟨h0, ⟨h1, h2⟩ | ⟨g, cap, cur, hv, hg, hh, hn, hm, hs, ht⟩⟩ := h.has
 ·have : l = [] := List.eq_nil_of_length_eq_zero h2
  subst this
  exact ⟨none, 0, h1, Nat.le_refl _, fun _ => rfl, (fun a h => by cases h)⟩
 ·refine ⟨some ⟨g, 0, none⟩, cap, hv, hn, (fun h => by cases h), fun a h => ?_⟩
  cases h
  refine ⟨rfl, (hb g (by rw [hv]; rfl)).2, fun j x hx => ?_⟩
  have hj : j < l.length := (List.getElem?_eq_some_iff.1 hx).1
  have e1 : (cur.toList.take (l.length * 1))[j]? = some (.string x) := by rw [ht]; simp [hx]
  rw [List.getElem?_take_of_lt (by omega)] at e1
  have e' : cur[j]? = some (.string x) := by simpa using e1
  rw [Nat.zero_add]
  simp [World.cell?, hh, e']
end
theorem info9 : ∃ i0, Tryz.prog.info? 9 = some i0 ∧ i0.zero = some (.string ⟨#[]⟩) ∧ i0.size = 1 ∧ i0.bytes = 16 := info_of (by kernel_rfl)
section
variable {w : World} {ops : Array Oper} {rest : List Oper} {o : Oper} {a : Act} {Q : Exit → Act → World → Prop} {K : Act → World → Prop}
theorem wp_push_str (s x : Operand) (ho : o.op = .call { callee := .builtin .append, args := #[s, x], argTypes := #[95, 95] })
  (F : Nat → Prop) (B : Nat) (v : Value) (l : List ByteArray) (y : ByteArray)
  (hs : a.eval s = v) (hx : a.eval x = .slice (some ⟨B, 0, none⟩) 1 1) (own : OwnS w F v l) (hb : w.cell? ⟨B, 0, none⟩ = some (.string y)) (hnew : F w.heap.size) (hf : l.length ≤ 1000000000)
  (h : ∀ p' c' w', OwnS w' F (.slice p' (l.length + 1) c') (l ++ [y]) → Only (fun j => v.ownBlock = some j) w w' → K (a.put o.dst (.slice p' (l.length + 1) c')) w') : o.wp Tryz.prog a w K Q := by
 obtain ⟨hown, hblk⟩ := own
 obtain ⟨i0, hi, hz0, hz1, hz2⟩ := info9
 refine wp_append_own_at s x 95 ho 0 9 i0 (.string ⟨#[]⟩) 1 16 Tryz.underlying95 hi hz0 hz1 hz2 rfl (by omega) v l.length _ hs hown ⟨B, 0, none⟩ 1 1 [.string y] hx (by rfl) ?_ ?_ ?_ ?_ (Nat.zero_le _) ?_
 ·intro j u hj
  have hj0 : j = 0 := by
   have := (List.getElem?_eq_some_iff.1 hj).1
   simp at this; exact this
  subst hj0
  cases hj
  simpa [Lib.add_plain] using hb
 ·intro u hu
  obtain rfl : u = .string y := by simpa using hu
  rfl
 ·have hml : maxLen = 9223372036854775807 := rfl
  omega
 ·omega
 intro v8 w8 hown8 hgrow hnil hloc
 obtain ⟨p8, c8, hv8, hA_⟩ := own_shape hown8
 subst hv8
 refine h p8 c8 w8 ⟨by rw [List.map_append, List.length_append]; exact hown8, fun k hk => ⟨?_, (own_lt hown8 hk).2⟩⟩ (Only.of_grown hgrow)
 rcases hloc with hl | hl
 ·exact (hblk k (hl ▸ hk)).1
 ·rw [hl] at hk; injection hk with hk; exact hk ▸ hnew
theorem wpList_push_str (hgd : o.guard = none) (s x : Operand) (ho : o.op = .call { callee := .builtin .append, args := #[s, x], argTypes := #[95, 95] })
  (F : Nat → Prop) (B : Nat) (v : Value) (l : List ByteArray) (y : ByteArray)
  (hs : a.eval s = v) (hx : a.eval x = .slice (some ⟨B, 0, none⟩) 1 1) (own : OwnS w F v l) (hb : w.cell? ⟨B, 0, none⟩ = some (.string y)) (hnew : F w.heap.size) (hf : l.length ≤ 1000000000)
  (h : ∀ p' c' w', OwnS w' F (.slice p' (l.length + 1) c') (l ++ [y]) → Only (fun j => v.ownBlock = some j) w w' → wpList Tryz.prog ops Q rest (a.put o.dst (.slice p' (l.length + 1) c')) w') : wpList Tryz.prog ops Q (o :: rest) a w :=
 wpList_plain hgd fun _ hK => wp_push_str s x ho F B v l y hs hx own hb hnew hf (fun p' c' w' h1 h2 => hK _ _ (h p' c' w' h1 h2))
end
def brkL (l : List (List UInt8)) : List UInt8 := 40 :: (Lib.join l [32] ++ [41])
def brkS (l : List ByteArray) : ByteArray := ⟨(brkL (l.map (·.data.toList))).toArray⟩
theorem join87 (l : List ByteArray) (v : Value) (F : Nat → Prop) (W : World) (h : OwnS W F v l) (hl : l.length ≤ 1000000000) (hlen : (Lib.join (l.map (·.data.toList)) [32]).length ≤ 140737488355328) :
  Calls Tryz.prog 87 #[v, .string ⟨#[32]⟩] W fun e w' => e = .returned (.string ⟨(Lib.join (l.map (·.data.toList)) [32]).toArray⟩) ∧ Below W.heap.size W w' := by
 obtain ⟨q, c, rfl, hc, hq, hcell⟩ := h.cells
 cases q with
 | none =>
  obtain rfl := hq rfl
  refine (Tryz.strings_Join_none none c ⟨#[32]⟩ W).mono ?_
  rintro e w' ⟨rfl, rfl⟩
  exact ⟨by rfl, Below.refl _ _⟩
 | some a =>
  obtain ⟨e1, e2, e3⟩ := hcell a rfl
  rw [e1]
  exact Tryz.strings_Join a.block 0 c l ⟨#[32]⟩ W e3 e2 (by omega) hc hlen
theorem brack58 (l : List ByteArray) (v : Value) (F : Nat → Prop) (W : World) (h : OwnS W F v l) (hl : l.length ≤ 1000000000) (hlen : (Lib.join (l.map (·.data.toList)) [32]).length ≤ 1000000000000) :
  Calls Tryz.prog 58 #[v] W fun e w' => e = .returned (.string (brkS l)) ∧ Below W.heap.size W w' := by
 obtain ⟨s, hs⟩ : ∃ s : ByteArray, s = ⟨(Lib.join (l.map (·.data.toList)) [32]).toArray⟩ := ⟨_, rfl⟩
 have HJ := Lib.hid (join87 l v F W h hl (by omega))
 have h1 : s.size ≤ 1000000000000 := by rw [hs]; simpa [ByteArray.size] using hlen
 have HS := Lib.hid hs
 rw [← hs] at HJ
 clear h hl hlen hs
 go_enter Tryz.func58, Tryz.ntmps58
 go_wp2_with fail
 refine HJ.out.mono ?_
 rintro e w1 ⟨rfl, hb⟩
 have z1 : ((⟨#[40]⟩ : ByteArray) ++ s).size = 1 + s.size := by rw [ByteArray.size_append]; rfl
 go_wp2_with fail
 refine bodyPost_ret (v := .string (⟨#[40]⟩ ++ s ++ ⟨#[41]⟩)) (by simp [results, Tryz.results58, go_sem]) rfl ⟨?_, hb⟩
 have : (⟨#[40]⟩ ++ s ++ ⟨#[41]⟩ : ByteArray) = brkS l := by
  rw [HS.out]
  apply ByteArray.ext
  simp [brkS, brkL, ByteArray.data_append]
 rw [this]
end Go.Proofs.YtookoagcmejkpaaGreatDoor
namespace Go.Proofs.YtookoagcmejkpaaGreatDoor
open Go Go.RowKit Lx
theorem dd_step (u : Nat) : Lib.decDigits u = if u < 10 then [UInt8.ofNat (48 + u)] else Lib.decDigits (u / 10) ++ [UInt8.ofNat (48 + u % 10)] := by
 rw [Lib.decDigits]; split <;> simp [*]
theorem dg_of {d : Nat} (h : d < 10) : dgB (UInt8.ofNat (48 + d)) = true := by
 have : d = 0 ∨ d = 1 ∨ d = 2 ∨ d = 3 ∨ d = 4 ∨ d = 5 ∨ d = 6 ∨ d = 7 ∨ d = 8 ∨ d = 9 := by omega
 rcases this with rfl | rfl | rfl | rfl | rfl | rfl | rfl | rfl | rfl | rfl <;> decide
theorem dd_all (u : Nat) : (Lib.decDigits u).all dgB = true := by
 induction u using Nat.strongRecOn with
 | ind u ih =>
  rw [dd_step]
  split
  ·rw [List.all_cons, dg_of ‹_›]; rfl
  ·rw [List.all_append, ih (u / 10) (by omega)]
   rw [List.all_cons, dg_of (show u % 10 < 10 by omega)]; rfl
theorem dd_ne (u : Nat) : Lib.decDigits u ≠ [] := by
 rw [dd_step]; split <;> simp
theorem dd_lead (u : Nat) (h : 1 ≤ u) : (Lib.decDigits u).getD 0 0 ≠ 48 := by
 induction u using Nat.strongRecOn with
 | ind u ih =>
  rw [dd_step]
  split
  ·have : u = 1 ∨ u = 2 ∨ u = 3 ∨ u = 4 ∨ u = 5 ∨ u = 6 ∨ u = 7 ∨ u = 8 ∨ u = 9 := by omega
   rcases this with rfl | rfl | rfl | rfl | rfl | rfl | rfl | rfl | rfl <;> decide
  ·have h2 := ih (u / 10) (by omega) (by omega)
   have h3 := dd_ne (u / 10)
   cases h4 : Lib.decDigits (u / 10) with
   | nil => exact absurd h4 h3
   | cons c s => rw [h4] at h2; simpa using h2
theorem dg_sy (c : UInt8) (h : dgB c = true) : syB c = true ∧ (c == 46) = false ∧ (c == 32) = false ∧ (c == 40) = false ∧ (c == 41) = false := by
 have := u8_all (p := fun c => !dgB c || (syB c && !(c == 46) && !(c == 32) && !(c == 40) && !(c == 41))) (by decide +kernel) c
 simpa [h, and_assoc] using this
theorem tw_all {p : UInt8 → Bool} : ∀ l : List UInt8, l.all p = true → l.takeWhile p = l
 | [], _ => rfl
 | c :: l, h => by
  simp only [List.all_cons, Bool.and_eq_true] at h
  rw [List.takeWhile_cons, if_pos h.1, tw_all l h.2]
theorem dd_plain (u : Nat) : plainR (Lib.decDigits u) = .tok 4 (Lib.decDigits u) (Lib.decDigits u).length := by
 have ha := dd_all u
 have hn := dd_ne u
 have h46 : ∀ c ∈ Lib.decDigits u, (c == 46) = false := fun c hc => (dg_sy c (List.all_eq_true.1 ha c hc)).2.1
 have hw : (Lib.decDigits u).takeWhile (· != 46) = Lib.decDigits u := by
  exact tw_all _ (List.all_eq_true.2 fun c hc => by simp [bne, h46 c hc])
 have hd : dgB ((Lib.decDigits u).getD 0 0) = true := by
  cases h : Lib.decDigits u with
  | nil => exact absurd h hn
  | cons c s => rw [h] at ha; simp at ha; simpa using ha.1
 have hc : (Lib.decDigits u).contains 46 = false := by
  rw [Bool.eq_false_iff]
  intro h
  have := h46 46 (by simpa using h)
  simp at this
 have hz : ((Lib.decDigits u).getD 0 0 == 48 && decide (1 < (Lib.decDigits u).length)) = false := by
  rcases Nat.eq_zero_or_pos u with rfl | h1
  ·rw [dd_step]; rfl
  ·have := dd_lead u h1
   rw [beq_eq_false_iff_ne.2 this]; rfl
 unfold plainR
 simp only [hd, hw, hc, hz, Bool.not_true, Bool.false_eq_true, if_false, allB, ha, Bool.true_and, Bool.or_false, Bool.not_false, if_true]
 rw [if_neg (by cases h : Lib.decDigits u with | nil => exact absurd h hn | cons c s => simp)]
def wdB (c : UInt8) : Bool := !(c == 32) && !(c == 40) && !(c == 41)
structure LfG (k : Int) (s : ByteArray) : Prop where
 good : GoodT k.toNat s.data.toList
 kind : k = 3 ∨ k = 4
 rend : rendL k.toNat s.data.toList = s.data.toList
 wd : s.data.toList.all wdB = true
 ne : s.data.toList ≠ []
 dig : k = 4 ↔ dgB (s.data.toList.getD 0 0) = true
 len : s.data.toList.length ≤ 21
theorem lf_num (n : Int) (h0 : 0 ≤ n) (h1 : n ≤ 9223372036854775807) : LfG 4 (itoB n) := by
 have e : (itoB n).data.toList = Lib.decDigits n.toNat := by
  have : Lib.itoa n = Lib.decDigits n.toNat := by unfold Lib.itoa; rw [if_neg (by omega)]
  simp [itoB, this]
 have hl := Lib.itoa_length_le n (by omega) h1
 have ha := dd_all n.toNat
 have hn := dd_ne n.toNat
 have hd : dgB ((Lib.decDigits n.toNat).getD 0 0) = true := by
  cases h : Lib.decDigits n.toNat with
  | nil => exact absurd h hn
  | cons c s => rw [h] at ha; simp at ha; simpa using ha.1
 have hl2 : (itoB n).data.toList.length ≤ 21 := by simpa [itoB] using hl
 refine ⟨?_, .inr rfl, by rw [e]; rfl, ?_, by rw [e]; exact hn, by rw [e]; exact iff_of_true rfl hd, hl2⟩
 ·rw [e]
  exact .num (.inl rfl) (List.all_eq_true.2 fun c hc => (dg_sy c (List.all_eq_true.1 ha c hc)).1) hn (dd_plain _) hd
 ·rw [e]
  refine List.all_eq_true.2 fun c hc => ?_
  obtain ⟨_, _, h2, h3, h4⟩ := dg_sy c (List.all_eq_true.1 ha c hc)
  simp [wdB, h2, h3, h4]
theorem lf_sym (t : List UInt8) (h : (plainB t && t.all wdB && decide (t.length ≤ 21)) = true) : LfG 3 ⟨t.toArray⟩ := by
 simp only [Bool.and_eq_true, decide_eq_true_eq] at h
 obtain ⟨⟨h1, h2⟩, h3⟩ := h
 have h1' := h1
 simp only [plainB, Bool.and_eq_true, Bool.not_eq_true'] at h1
 refine ⟨.sym (.inl h1'), .inl rfl, ?_, h2, ?_, ?_, h3⟩
 ·simp [rendL, h1']
 ·intro e
  have e' : t = [] := by simpa using e
  rw [e'] at h1; simp at h1
 ·have := h1.2
  exact ⟨fun e => absurd e (by decide), fun e => by rw [show (⟨t.toArray⟩ : ByteArray).data.toList = t by simp] at e; rw [this] at e; cases e⟩
def GdF : Fo → Prop
 | .nil => True
 | .cons l k s a x r => a = 0 ∧ ((l = true ∧ k = 1 ∧ s = ⟨#[40]⟩ ∧ GdF x) ∨ (l = false ∧ x = .nil ∧ LfG k s)) ∧ GdF r
theorem nus_gd : ∀ l : List Int, (∀ y ∈ l, -4611686018427387903 ≤ y ∧ y ≤ 4611686018427387903) → GdF (nusF l)
 | [], _ => trivial
 | n :: r, h => by
  have ih := nus_gd r (fun y hy => h y (by simp [hy]))
  have hn := h n (by simp)
  refine ⟨rfl, ?_, ih⟩
  by_cases h0 : n < 0
  ·left
   refine ⟨by simp [nuL, h0], by simp [nuK, h0], by simp [nuS, h0], ?_⟩
   simp only [nuX, h0, if_true]
   exact ⟨rfl, .inr ⟨rfl, rfl, lf_sym [45] (by decide)⟩, rfl, .inr ⟨rfl, rfl, lf_num (-n) (by omega) (by omega)⟩, trivial⟩
  ·right
   refine ⟨by simp [nuL, h0], by simp [nuX, h0], ?_⟩
   simp only [nuK, nuS, h0, if_false]
   exact lf_num n (by omega) (by omega)
theorem lf_lk (k : Int) : LfG 3 (lkH k) := by
 unfold lkH
 repeat' split
 all_goals exact lf_sym _ (by decide)
theorem lf_st (k : Int) : LfG 3 (stH k) := by
 unfold stH
 repeat' split
 all_goals exact lf_sym _ (by decide)
def wds : Fo → List (List UInt8)
 | .nil => []
 | .cons l _ s _ x r => if l then [40] :: (wds x ++ [41] :: wds r) else s.data.toList :: wds r
def flz (acc : List UInt8) (r : List (List UInt8)) : List (List UInt8) := if acc.isEmpty then r else acc :: r
def tz : List UInt8 → List UInt8 → List (List UInt8)
 | acc, [] => flz acc []
 | acc, c :: s => if c == 32 then flz acc (tz [] s) else if c == 40 || c == 41 then flz acc ([c] :: tz [] s) else tz (acc ++ [c]) s
theorem tz_word : ∀ (w acc r : List UInt8), w.all wdB = true → tz acc (w ++ r) = tz (acc ++ w) r
 | [], acc, r, _ => by simp
 | c :: w, acc, r, h => by
  simp only [List.all_cons, Bool.and_eq_true] at h
  have hc := h.1
  simp only [wdB, Bool.and_eq_true, Bool.not_eq_true'] at hc
  simp only [List.cons_append, tz, hc.1.1, hc.1.2, hc.2, Bool.or_self, Bool.false_eq_true, if_false]
  rw [tz_word w _ r h.2]
  simp
def EndR (r : List UInt8) : Prop := r = [] ∨ ∃ c r', r = c :: r' ∧ wdB c = false
theorem tz_leaf {w r : List UInt8} (h : w.all wdB = true) (hn : w ≠ []) (hr : EndR r) : tz [] (w ++ r) = w :: tz [] r := by
 rw [tz_word w [] r h, List.nil_append]
 have hf : ∀ z, flz w z = w :: z := fun z => by cases w with | nil => exact absurd rfl hn | cons => rfl
 rcases hr with rfl | ⟨c, r', rfl, hc⟩
 ·simp [tz, hf]; rfl
 ·have h2 : (c == 32) = true ∨ (c == 40 || c == 41) = true := by
   cases e1 : c == 32 <;> cases e2 : c == 40 <;> cases e3 : c == 41 <;> simp [wdB, e1, e2, e3] at hc ⊢
  simp only [tz, hf]
  by_cases h32 : (c == 32) = true
  ·simp [h32]; rfl
  ·have h4 := h2.resolve_left h32
   simp [h32, h4]; rfl
theorem tz_txt : ∀ (f : Fo) (b : Bool) (r : List UInt8), GdF f → EndR r → tz [] (txtF b f ++ r) = wds f ++ tz [] r
 | .nil, b, r, _, _ => by simp [txtF, wds]
 | .cons l k s a x f, b, r, h, hr => by
  obtain ⟨_, h1, h2⟩ := h
  have hb : ∀ z, tz [] ((if b = true then [] else [32]) ++ z) = tz [] z := fun z => by
   cases b
   ·simp [tz]; rfl
   ·simp
  have he : EndR (txtF false f ++ r) := by
   cases f with
   | nil => simpa [txtF] using hr
   | cons l2 k2 s2 a2 x2 r2 => exact .inr ⟨32, (if l2 then 40 :: (txtF true x2 ++ [41]) else rendL k2.toNat s2.data.toList) ++ (txtF false r2 ++ r), by simp only [txtF, Bool.false_eq_true, if_false, List.append_assoc, List.cons_append, List.nil_append], by decide⟩
  have ih := tz_txt f false r h2 hr
  simp only [txtF, wds, List.append_assoc, hb]
  rcases h1 with ⟨rfl, _, _, hx⟩ | ⟨rfl, rfl, hl⟩
  ·have ihx := tz_txt x true (41 :: (txtF false f ++ r)) hx (.inr ⟨41, _, rfl, by decide⟩)
   simp only [if_true, List.cons_append, List.append_assoc, List.nil_append, tz]
   rw [ihx]
   simp only [tz]
   rw [ih]
   simp [flz]
  ·simp only [Bool.false_eq_true, if_false]
   rw [hl.rend, tz_leaf hl.wd hl.ne he, ih]
   simp
theorem wds_inj : ∀ (f g : Fo) (r r' : List (List UInt8)), GdF f → GdF g → wds f ++ [41] :: r = wds g ++ [41] :: r' → f = g ∧ r = r'
 | .nil, .nil, r, r', _, _, h => by simpa [wds] using h
 | .nil, .cons l k s a x g, r, r', _, hg, h => by
  obtain ⟨_, h1, h2⟩ := hg
  rcases h1 with ⟨rfl, _, _, hx⟩ | ⟨rfl, rfl, hl⟩
  ·simp [wds] at h
  ·simp only [wds, Bool.false_eq_true, if_false, List.nil_append, List.cons_append, List.cons.injEq] at h
   have := hl.wd
   rw [← h.1] at this
   exact absurd this (by decide)
 | .cons l k s a x f, .nil, r, r', hf, _, h => by
  obtain ⟨_, h1, h2⟩ := hf
  rcases h1 with ⟨rfl, _, _, hx⟩ | ⟨rfl, rfl, hl⟩
  ·simp [wds] at h
  ·simp only [wds, Bool.false_eq_true, if_false, List.nil_append, List.cons_append, List.cons.injEq] at h
   have := hl.wd
   rw [h.1] at this
   exact absurd this (by decide)
 | .cons l k s a x f, .cons l' k' s' a' x' g, r, r', hf, hg, h => by
  obtain ⟨rfl, h1, h2⟩ := hf
  obtain ⟨rfl, g1, g2⟩ := hg
  rcases h1 with ⟨rfl, rfl, rfl, hx⟩ | ⟨rfl, rfl, hl⟩ <;> rcases g1 with ⟨rfl, rfl, rfl, gx⟩ | ⟨rfl, rfl, gl⟩
  ·simp only [wds, if_true, List.cons_append, List.append_assoc, List.cons.injEq, true_and] at h
   obtain ⟨rfl, h3⟩ := wds_inj x x' _ _ hx gx h
   obtain ⟨rfl, rfl⟩ := wds_inj f g r r' h2 g2 h3
   exact ⟨rfl, rfl⟩
  ·simp only [wds, if_true, Bool.false_eq_true, if_false, List.cons_append, List.append_assoc, List.cons.injEq] at h
   have := gl.wd
   rw [← h.1] at this
   exact absurd this (by decide)
  ·simp only [wds, if_true, Bool.false_eq_true, if_false, List.cons_append, List.append_assoc, List.cons.injEq] at h
   have := hl.wd
   rw [h.1] at this
   exact absurd this (by decide)
  ·simp only [wds, Bool.false_eq_true, if_false, List.cons_append, List.cons.injEq] at h
   obtain ⟨rfl, rfl⟩ := wds_inj f g r r' h2 g2 h.2
   have es : s = s' := by
    obtain ⟨⟨s⟩⟩ := s; obtain ⟨⟨s'⟩⟩ := s'
    simpa using h.1
   subst es
   have ek : k = k' := by
    have d1 := hl.dig
    have d2 := gl.dig
    rcases hl.kind with rfl | rfl <;> rcases gl.kind with rfl | rfl <;> simp_all
   subst ek
   exact ⟨rfl, rfl⟩
theorem txt_inj {f g : Fo} (hf : GdF f) (hg : GdF g) (h : txtT true 1 ⟨#[40]⟩ f = txtT true 1 ⟨#[40]⟩ g) : f = g := by
 have h1 := congrArg (tz []) h
 have e : ∀ f, GdF f → tz [] (txtT true 1 ⟨#[40]⟩ f) = [40] :: (wds f ++ [[41]]) := fun f hf => by
  simp only [txtT, if_true, tz]
  rw [tz_txt f true [41] hf (.inr ⟨41, [], rfl, by decide⟩)]
  simp [tz, flz]
 rw [e f hf, e g hg] at h1
 exact (wds_inj f g [] [] hf hg (by simpa using h1)).1
end Go.Proofs.YtookoagcmejkpaaGreatDoor
namespace Go.Proofs.YtookoagcmejkpaaGreatDoor.Lx
set_option maxRecDepth 100000
open Go Go.RowKit
theorem bytes_str (w : World) (S : ByteArray) (b : Nat) (h : ∀ j (hj : j < S.size), w.cell? ⟨b, j, none⟩ = some (.int .u8 (S[j].toNat : Int))) : BytesIn w (some ⟨b, 0, none⟩) S.data.toList := fun i hi => by
 have hi' : i < S.size := by simpa using hi
 refine ⟨b, 0, rfl, ?_⟩
 rw [Nat.zero_add, h i hi']
 have := str_get' hi'
 rw [List.getElem?_eq_getElem hi] at this
 cases this
 rfl
theorem conv_bytes (w : World) (S : ByteArray) : ∃ (cap : Nat) (w' : World), (convert 9 57 (.string S)).run Tryz.prog w = .ok (.slice (some ⟨w.heap.size, 0, none⟩) S.size cap) w' ∧ S.size ≤ cap ∧ Below w.heap.size w w' ∧ BytesIn w' (some ⟨w.heap.size, 0, none⟩) S.data.toList ∧ w'.heap.size = w.heap.size + 1 := by
 refine ⟨_, _, Lib.run_convert_string_bytes w 9 57 5 S Tryz.underlying9 Tryz.underlying57 Tryz.underlying5, ?_, ⟨rfl, rfl, rfl, by rw [Lib.bytesWorld_size]; omega, fun k hk => Lib.bytesWorld_at_old w 5 S k hk⟩, bytes_str _ S _ fun j hj => ?_, Lib.bytesWorld_size w 5 S⟩
 ·exact grownCap_ge _ _ _ _
 ·rw [Lib.bytesWorld_cell w 5 S j hj, str_get hj]
theorem clsV_len : clsV.length = 256 := by simp [clsV]
theorem clsV_one : (clsV.toArray.all (·.oneCell')) = true := by kernel_rfl
theorem info57 : (Tryz.prog.info? 165).map (·.size) = some 256 := by kernel_rfl
def ClAt (w : World) (R : Nat) : Prop := ∀ b : UInt8, w.cell? ⟨R, b.toNat, none⟩ = some (.int .u8 (clB b : Int))
theorem there57 (w : World) : (w.alloc (.cells Tryz.zeroCells165 165)).there w.heap.size 0 256 := fun j hj => by
 have hz : Tryz.zeroCells165.size = 256 := by kernel_rfl
 rw [Nat.zero_add]
 constructor
 ·rw [World.cell?_alloc_new, Array.getElem?_eq_getElem (by rw [hz]; exact hj)]; rfl
 ·simp [go_sem]
theorem cl_new (w : World) : ClAt ((w.alloc (.cells Tryz.zeroCells165 165)).setCells w.heap.size 0 clsV) w.heap.size ∧ Below w.heap.size w ((w.alloc (.cells Tryz.zeroCells165 165)).setCells w.heap.size 0 clsV) := by
 have hth := there57 w
 have hlen := clsV_len
 have hin := fun j (hj : j < clsV.length) => World.cell?_setCells_in w.heap.size clsV 0 (w.alloc (.cells Tryz.zeroCells165 165)) (fun i hi => (hth i (by omega)).1) j hj
 have hO : Only (fun _ => False) w ((w.alloc (.cells Tryz.zeroCells165 165)).setCells w.heap.size 0 clsV) := Only.newCells (Nat.le_refl _) _ _ _ (Only.of_below (below1 w _))
 refine ⟨fun b => ?_, hO.below (fun k h => h.elim) (Nat.le_refl _)⟩
 have hb' := b.toNat_lt
 have := hin b.toNat (by omega)
 rw [Nat.zero_add] at this
 rw [this, ← List.getElem?_eq_getElem]
 exact clsV_get b
theorem plain_all (w : List UInt8) : plainB w = (allB syB w && !(dgB (w.getD 0 0))) := by unfold plainB allB; rfl
set_option maxHeartbeats 3200000 in
theorem lexplain_any (S : ByteArray) (W : World) (hs : S.size ≤ 1048576) : Calls Tryz.prog 113 #[.string S] W fun e w' => e = .returned (.bool (plainB S.data.toList)) ∧ Below W.heap.size W w' := by
 have HP := Lib.hid (plain_all S.data.toList)
 have hlen : S.data.toList.length = S.size := by simp
 have HLEN := Lib.hid hlen
 have hone := clsV_one
 have hsz : clsV.toArray.size = 256 := by simp [clsV]
 have hcls := fun w => classes_any w
 obtain ⟨CV, hCV⟩ : ∃ l : List Value, l = clsV := ⟨_, rfl⟩
 rw [← hCV] at hone hcls hsz
 have HONE := Lib.hid hone
 have HCLS := Lib.hid hcls
 have HSZ := Lib.hid hsz
 have HCV := Lib.hid hCV
 clear hone hcls hCV hsz hlen
 go_enter Tryz.func113, Tryz.ntmps113
 go_wp2_with fail
 refine (HCLS.out _).mono ?_
 rintro e w1 ⟨rfl, hb1⟩
 have HB1 := Lib.hid hb1
 clear hb1
 go_wp2_with (refine wpList_store_mid rfl 165 _ _ rfl w1.heap.size 0 CV.toArray rfl rfl ?qs1 ?qs2 HONE.out ?_)
 case qs1 => rw [HSZ.out]; exact there57 w1
 case qs2 => rw [HSZ.out]; exact info57
 obtain ⟨hcl, hbd2⟩ := cl_new w1
 rw [← HCV.out] at hcl hbd2
 generalize hW2 : World.setCells _ _ 0 CV = W2
 rw [hW2] at hcl hbd2
 have HB2 := Lib.hid (HB1.out.trans (hbd2.mono HB1.out.size))
 clear hbd2 hW2
 generalize w1.heap.size = R at *
 have HCL := Lib.hid hcl
 clear hcl
 go_loopg [4] S.size (fun gk s4 wx => ∃ k : Nat, k + gk = S.size ∧ s4 = .int .i64 (k : Int) ∧ Hid ((∃ n, wx = W2.drewN n) ∧ ∀ x ∈ S.data.toList.take k, syB x = true))
 case atStart => exact ⟨0, by omega, rfl, Lib.hid ⟨⟨0, rfl⟩, by simp⟩⟩
 case round =>
  obtain ⟨k, hk, rfl, HI⟩ := hrel
  obtain ⟨nw, hwr⟩ := HI.out.1
  have HW := Lib.hid hwr
  have HG := Lib.hid hk
  have hk2 : k ≤ S.size := by omega
  clear hk hwr
  by_cases hlt : k < S.size
  ·have i1 : (k : Int) < (S.size : Int) := by omega
   have i0 : (0 : Int) ≤ (k : Int) := by omega
   have ccl : wr.cell? ⟨R, S[k].toNat, none⟩ = some (.int .u8 (clB S[k] : Int)) := by rw [HW.out]; simpa using HCL.out S[k]
   obtain ⟨hz, hz0⟩ := byte_gt (x := S[k])
   have an := not_ne (and2 S[k])
   have hts : S.data.toList.take (k + 1) = S.data.toList.take k ++ [S[k]] := by
    rw [List.take_succ_eq_append_getElem (by simpa using hlt)]; rfl
   have HTS := Lib.hid hts
   have hmem : S[k] ∈ S.data.toList := by simp [ByteArray.getElem_eq_getElem_data]
   have HME := Lib.hid hmem
   clear hts hmem
   cases hs : syB S[k] with
   | true =>
    rw [hs] at an
    have an2 : (bits BinOp.and IntKind.u8 (clB S[k] : Int) 2 == 0) = false := an
    clear an
    have HS := Lib.hid hs
    clear hs
    go_wp2_with fail
    obtain ⟨G, rfl⟩ : ∃ G, gk = G + 1 := ⟨gk - 1, by have := HG.out; omega⟩
    go_roundg G
    case measure => omega
    case rel =>
     obtain ⟨k', hk'⟩ : ∃ k', k' = k + 1 := ⟨_, rfl⟩
     refine ⟨k', by have := HG.out; omega, by rw [hk']; go_num, Lib.hid ⟨⟨nw, HW.out⟩, fun x hx => ?_⟩⟩
     rw [hk', HTS.out] at hx
     rcases List.mem_append.1 hx with h | h
     ·exact HI.out.2 x h
     ·have : x = S[k] := by simpa using h
      rw [this]; exact HS.out
   | false =>
    rw [hs] at an
    have an2 : (bits BinOp.and IntKind.u8 (clB S[k] : Int) 2 == 0) = true := an
    clear an
    have HR := Lib.hid (show plainB S.data.toList = false by
     rw [HP.out]; unfold allB
     rw [List.all_eq_false.2 ⟨_, HME.out, by rw [hs]; decide⟩]; rfl)
    clear hs
    go_wp2_with fail
    go_ret
    exact ⟨by rw [HR.out]; rfl, by rw [HW.out]; exact HB2.out.trans ((below_drewN _ _).mono HB2.out.size)⟩
  ·have hk3 : k = S.size := by omega
   subst hk3
   have hall : S.data.toList.all syB = true := by
    rw [List.all_eq_true]
    intro x hx
    refine HI.out.2 x ?_
    rw [List.take_of_length_le (by simp)]; exact hx
   by_cases h0 : 0 < S.size
   ·have hne : S.toList.isEmpty = false := by
     rw [toList_data]
     cases h : S.data.toList with
     | nil => have := HLEN.out; rw [h] at this; simp at this; omega
     | cons => rfl
    have hne2 : (S.toList == []) = false := by
     cases h : S.toList with
     | nil => rw [h] at hne; cases hne
     | cons => rfl
    have hne3 : ¬ S.toList = [] := fun e => by rw [e] at hne; cases hne
    have hge := str_get h0
    have HR := Lib.hid (show plainB S.data.toList = !(dgB S[0]) by
     rw [HP.out, hge]; unfold allB; rw [hall, ← toList_data, hne]; simp)
    have ccl : wr.cell? ⟨R, S[0].toNat, none⟩ = some (.int .u8 (clB S[0] : Int)) := by rw [HW.out]; simpa using HCL.out S[0]
    obtain ⟨hz, hz0⟩ := byte_gt (x := S[0])
    have an := not_ne (and4 S[0])
    have i0 : (0 : Int) < (S.size : Int) := by omega
    clear hall hge
    go_wp2_with fail
    go_ret
    refine ⟨?_, by rw [HW.out]; exact HB2.out.trans ((below_drewN _ _).mono HB2.out.size)⟩
    rw [HR.out]
    rfl
   ·have hnil : S.data.toList = [] := List.eq_nil_of_length_eq_zero (by rw [HLEN.out]; omega)
    have hne : S.toList.isEmpty = true := by rw [toList_data, hnil]; rfl
    have hne2 : (S.toList == []) = true := by rw [toList_data, hnil]; rfl
    have hne3 : S.toList = [] := by rw [toList_data, hnil]
    have HR := Lib.hid (show plainB S.data.toList = false by rw [HP.out, hnil]; rfl)
    clear hall hnil hne3
    go_wp2_with fail
    go_ret
    exact ⟨by rw [HR.out]; rfl, by rw [HW.out]; exact HB2.out.trans ((below_drewN _ _).mono HB2.out.size)⟩
def MaxAt (W : World) : Prop := ∃ m, W.cell? ⟨0, 0, none⟩ = some (.int .i64 m)
theorem MaxAt.later {W W' : World} (h : MaxAt W) (hb : Below W.heap.size W W') : MaxAt W' := by
 obtain ⟨m, hm⟩ := h
 exact ⟨m, cell_later hb hm⟩
theorem index_quote : ∀ s : List UInt8, (34 ∉ s ∧ Lib.index s [34] = -1) ∨ (34 ∈ s ∧ ∃ i : Nat, Lib.index s [34] = (i : Int))
 | [] => .inl ⟨by simp, rfl⟩
 | b :: l => by
  by_cases hb : b = 34
  ·subst hb
   exact .inr ⟨by simp, 0, by simp [Lib.index]⟩
  ·have hp : ([34] : List UInt8).isPrefixOf (b :: l) = false := by first | (simp [List.isPrefixOf]; done) | (simp [List.isPrefixOf]; exact fun e => hb e.symm)
   rcases index_quote l with ⟨h1, h2⟩ | ⟨h1, i, h2⟩
   ·left
    refine ⟨by simp [h1]; exact fun e => hb e.symm, ?_⟩
    rw [Lib.index, hp, h2]; rfl
   ·right
    refine ⟨by simp [h1], i + 1, ?_⟩
    rw [Lib.index, hp, h2]
    have : (((i : Nat) : Int) == -1) = false := by first | (simp; done) | (simp; omega)
    simp only [this]
    simp
theorem replace_quote : ∀ (s : List UInt8) (K : Nat), s.count 34 ≤ K → Lib.replaceK [34] [34, 34] K s = dblL s
 | [], 0, _ => rfl
 | [], K + 1, _ => rfl
 | b :: l, K, h => by
  by_cases hb : b = 34
  ·subst hb
   have hc : (34 :: l).count (34 : UInt8) = l.count 34 + 1 := by simp
   obtain ⟨K, rfl⟩ : ∃ k, K = k + 1 := ⟨K - 1, by omega⟩
   have hi : Lib.index (34 :: l) [34] = ((0 : Nat) : Int) := by simp [Lib.index]
   rw [Lib.replaceK_hit _ _ _ _ 0 hi, dblL]
   have := replace_quote l K (by omega)
   simp [this]
  ·have hc : (b :: l).count (34 : UInt8) = l.count 34 := by simp [hb]
   have hp : ([34] : List UInt8).isPrefixOf (b :: l) = false := by first | (simp [List.isPrefixOf]; done) | (simp [List.isPrefixOf]; exact fun e => hb e.symm)
   have hbb : (b == 34) = false := by simpa using hb
   rw [dblL, hbb, ← replace_quote l K (by omega)]
   cases K with
   | zero => rfl
   | succ K =>
    rcases index_quote l with ⟨h1, h2⟩ | ⟨h1, i, h2⟩
    ·have h3 : Lib.index (b :: l) [34] = -1 := by rw [Lib.index, hp, h2]; rfl
     rw [Lib.replaceK, Lib.replaceK, h3, h2]; rfl
    ·have h3 : Lib.index (b :: l) [34] = ((i + 1 : Nat) : Int) := by
      rw [Lib.index, hp, h2]
      have : (((i : Nat) : Int) == -1) = false := by first | (simp; done) | (simp; omega)
      simp only [this]
      simp
     rw [Lib.replaceK_hit _ _ _ _ _ h3, Lib.replaceK_hit _ _ _ _ _ h2]
     simp []
theorem repl79 (s : ByteArray) (W : World) (hs : s.size ≤ 1048576) (hm : MaxAt W) :
  Calls Tryz.prog 114 #[.string s, .string ⟨#[34]⟩, .string ⟨#[34, 34]⟩] W fun e w' => ∃ X : ByteArray, e = .returned (.string X) ∧ X.data.toList = dblL s.data.toList ∧ Below W.heap.size W w' := by
 obtain ⟨m, hm⟩ := hm
 have hcm := Lib.countB_mul_le ⟨#[34]⟩ (by decide) s.size s (Nat.le_refl _)
 have h1 : (⟨#[34]⟩ : ByteArray).size = 1 := rfl
 have h2 : (⟨#[34, 34]⟩ : ByteArray).size = 2 := rfl
 rw [h1] at hcm
 refine (Tryz.strings_ReplaceAll s ⟨#[34]⟩ ⟨#[34, 34]⟩ m W (by omega) hm (by decide) (by rw [h2]; omega)).mono fun e w' ⟨he, hb⟩ => ⟨_, he, ?_, hb⟩
 show Lib.replaceAll s.data.toList [34] [34, 34] = _
 have hnum : Lib.replaceNum s.data.toList [34] (-1) = s.data.toList.count 34 := by
  unfold Lib.replaceNum
  rw [if_pos (by omega), Lib.count_one]
 unfold Lib.replaceAll Lib.replace
 rw [if_neg (by decide), hnum]
 exact replace_quote _ _ (Nat.le_refl _)
def TksIn (W : World) (p : Option Addr) (l : List Tk) : Prop := ∀ i (h : i < l.length), ∃ b off, p = some ⟨b, off, none⟩ ∧ W.cell? ⟨b, off + i * 3, none⟩ = some (.int .u8 (l[i].kind : Int)) ∧ W.cell? ⟨b, off + i * 3 + 1, none⟩ = some (.string ⟨l[i].text.toArray⟩) ∧ W.cell? ⟨b, off + i * 3 + 2, none⟩ = some (.int .i64 (l[i].at_ : Int))
theorem own_cell3 {w : World} {base n c : Nat} {e : TypeId} {g : Nat} {xs : List Value} (h : w.ownsRow base e 3 (.slice (some ⟨g, 0, none⟩) n c) n xs) (i : Nat) (u : Value) (hu : xs[i]? = some u) : w.cell? ⟨g, i, none⟩ = some u ∧ w.frozen? ⟨g, i, none⟩ = false := by
 obtain ⟨h0, ⟨h1, _⟩ | ⟨g', cap, cur, hv, hg, hh, hn, hm, hs, ht⟩⟩ := h
 ·cases h1
 ·cases hv
  have hlt := (List.getElem?_eq_some_iff.1 hu).1
  rw [← ht, List.getElem?_take_of_lt (by omega)] at hu
  have e' : cur[i]? = some u := by simpa using hu
  exact ⟨by simp [World.cell?, hh, e'], by simp [World.frozen?, hh]⟩
theorem rowT_get : ∀ (l : List Tk) (i : Nat) (h : i < l.length), (rowT l)[i * 3]? = some (.int .u8 (l[i].kind : Int)) ∧ (rowT l)[i * 3 + 1]? = some (.string ⟨l[i].text.toArray⟩) ∧ (rowT l)[i * 3 + 2]? = some (.int .i64 (l[i].at_ : Int))
 | [], i, h => by simp at h
 | t :: l, 0, h => by simp [rowT, tkV]
 | t :: l, i + 1, h => by
  have := rowT_get l i (by simpa using h)
  have e : rowT (t :: l) = tkV t ++ rowT l := rfl
  rw [e]
  have hl : (tkV t).length = 3 := rfl
  refine ⟨?_, ?_, ?_⟩
  ·rw [List.getElem?_append_right (by omega), hl, show (i + 1) * 3 - 3 = i * 3 by omega]; exact this.1
  ·rw [List.getElem?_append_right (by omega), hl, show (i + 1) * 3 + 1 - 3 = i * 3 + 1 by omega]; exact this.2.1
  ·rw [List.getElem?_append_right (by omega), hl, show (i + 1) * 3 + 2 - 3 = i * 3 + 2 by omega]; exact this.2.2
theorem own_tks {w : World} {base c : Nat} {p : Option Addr} {l : List Tk} (h : w.ownsRow base 32 3 (.slice p l.length c) l.length (rowT l)) : TksIn w p l := fun i hi => by
 have hg := rowT_get l i hi
 obtain ⟨g, rfl⟩ : ∃ g, p = some ⟨g, 0, none⟩ := by
  rcases h.2 with ⟨e, _⟩ | ⟨g, _, _, e, _⟩
  ·injection e with _ e2 _; omega
  ·injection e with e2 _ _; exact ⟨g, e2⟩
 refine ⟨g, 0, rfl, ?_, ?_, ?_⟩
 ·rw [Nat.zero_add]; exact (own_cell3 h _ _ hg.1).1
 ·rw [Nat.zero_add]; exact (own_cell3 h _ _ hg.2.1).1
 ·rw [Nat.zero_add]; exact (own_cell3 h _ _ hg.2.2).1
def TextP (k : Nat) (t : List UInt8) (W : World) (e : Ending) (w' : World) : Prop := ∃ X : ByteArray, e = .returned (.string X) ∧ X.data.toList = rendL k t ∧ Below W.heap.size W w'
theorem app_data (A B : ByteArray) : (A ++ B).data.toList = A.data.toList ++ B.data.toList := by simp
theorem dbl_len (l : List UInt8) : (dblL l).length ≤ 2 * l.length := by
 induction l with
 | nil => simp [dblL]
 | cons c l ih => simp only [dblL]; split <;> simp <;> omega
end Go.Proofs.YtookoagcmejkpaaGreatDoor.Lx
