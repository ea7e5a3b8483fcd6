/- A map in memory, as a function of its keys. Rows of trees of the call's own; what trees some tokens are. Boxes of trees; a row grows; pieces of tokens. A symbol's tree, a list's tree: the program's. -/
import Derived.Test.YtookoagcmejkpaaGreatDoorJ4
import Derived.Maps.OwnOps
import Derived.Maps.RangeWalk
namespace Go.Proofs.YtookoagcmejkpaaGreatDoor
open Go Go.RowKit Go.Maps
def heldR (v : Value) : Option (DataW Value × List MemPlace) := some (.held v, [])
structure FMap (W : World) (kt : TypeId) (m : Nat) (f : Lit → Option Value) (n : Nat) : Prop where
 has : ∃ D, W.ownsMap Tryz.prog kt heldR m n D ∧ Maps.size D = n ∧ Tidy D ∧ (∀ kl, KeysOf Tryz.prog kt kl → Maps.has D kl = (f kl).isSome) ∧ ∀ kl v, KeysOf Tryz.prog kt kl → f kl = some v → ∀ z, D.atKey kl z = .held v
theorem ownsMap_tight {P : Program} {w : World} {k : TypeId} {b n : Nat} {D : DataW Value} (h : w.ownsMap P k heldR b n D) : w.ownsMap P k heldR b (Maps.size D) D := by
 obtain ⟨es, cl, h1, h2, h3, rfl⟩ := h
 exact ⟨es, cl, h1, h2, by show es.size ≤ Maps.size _; rw [Maps.size_eq, length_sorted]; simp, rfl⟩
theorem ownsMap_only {P : Program} {w w' : World} {k : TypeId} {b n : Nat} {D : DataW Value} {T : Nat → Prop} (h : w.ownsMap P k heldR b n D) (ho : Only T w w') (hn : ¬ T b) : w'.ownsMap P k heldR b n D := by
 obtain ⟨es, cl, h1, h2⟩ := h
 refine ⟨es, cl, ?_, h2⟩
 rw [← h1]
 exact ho.block b (by
  rcases Nat.lt_or_ge b w.heap.size with h | h
  ·exact h
  ·rw [Array.getElem?_eq_none h] at h1; cases h1) hn
section
variable {W : World} {kt : TypeId} {m : Nat} {f : Lit → Option Value} {n : Nat}
theorem FMap.only {W' : World} {T : Nat → Prop} (h : FMap W kt m f n) (ho : Only T W W') (hn : ¬ T m) : FMap W' kt m f n := by
 obtain ⟨D, h1, h2⟩ := h.has
 exact ⟨D, ownsMap_only h1 ho hn, h2⟩
theorem FMap.lt (h : FMap W kt m f n) : m < W.heap.size := by obtain ⟨D, h1, _⟩ := h.has; exact h1.lt
theorem FMap.later {W' : World} (h : FMap W kt m f n) (hb : Below W.heap.size W W') : FMap W' kt m f n := h.only (Only.of_below (T := fun _ => False) hb) (fun h => h)
theorem FMap.made (w : World) (kt : TypeId) : FMap (w.alloc (.map #[] 0)) kt w.heap.size (fun _ => none) 0 :=
 ⟨.map [], World.ownsMap_made w Tryz.prog kt heldR, rfl, tidy_empty, fun _ _ => rfl, fun _ _ _ h => by cases h⟩
theorem FMap.look_ok {t e : TypeId} (h : FMap W kt m f n) (K : Keyed Tryz.prog kt) (ht : Tryz.prog.underlying t = some (.map kt e)) {z : Value} (hz : (zeroValue e).run Tryz.prog W = .ok z W) {key : Value} {kl : Lit} (hkey : keyOf Tryz.prog kt key = some kl) :
  (Instr.lookup t (.map (some m)) key true).run Tryz.prog W = .ok (.tuple #[(f kl).getD z, .bool (f kl).isSome]) W := by
 obtain ⟨D, h1, _, _, h4, h5⟩ := h.has
 obtain ⟨v, ps, hr, hv⟩ := h1.look_ok K ht hz (show heldR z = some (.held z, []) from rfl) hkey
 rw [hr, h4 kl ⟨_, hkey⟩]
 have hv2 : (DataW.held v, ([] : List MemPlace)) = (D.atKey kl (.held z), ps) := Option.some.inj hv
 have e1 : DataW.held v = D.atKey kl (.held z) := congrArg Prod.fst hv2
 cases hf : f kl with
 | none =>
  have hn : Maps.has D kl = false := by rw [h4 kl ⟨_, hkey⟩, hf]; rfl
  rw [atKey_of_not_has hn] at e1
  cases e1
  rfl
 | some u =>
  rw [h5 kl u ⟨_, hkey⟩ hf] at e1
  cases e1
  rfl
theorem FMap.look {t e : TypeId} (h : FMap W kt m f n) (K : Keyed Tryz.prog kt) (ht : Tryz.prog.underlying t = some (.map kt e)) {z : Value} (hz : (zeroValue e).run Tryz.prog W = .ok z W) {key : Value} {kl : Lit} (hkey : keyOf Tryz.prog kt key = some kl) :
  (Instr.lookup t (.map (some m)) key false).run Tryz.prog W = .ok ((f kl).getD z) W := by
 obtain ⟨D, h1, _, _, h4, h5⟩ := h.has
 obtain ⟨v, ps, hr, hv⟩ := h1.lookup K ht hz (show heldR z = some (.held z, []) from rfl) hkey
 rw [hr]
 have hv2 : (DataW.held v, ([] : List MemPlace)) = (D.atKey kl (.held z), ps) := Option.some.inj hv
 have e1 : DataW.held v = D.atKey kl (.held z) := congrArg Prod.fst hv2
 cases hf : f kl with
 | none =>
  have hn : Maps.has D kl = false := by rw [h4 kl ⟨_, hkey⟩, hf]; rfl
  rw [atKey_of_not_has hn] at e1
  cases e1
  rfl
 | some u =>
  rw [h5 kl u ⟨_, hkey⟩ hf] at e1
  cases e1
  rfl
open Classical in
noncomputable
def updF (f : Lit → Option Value) (kl : Lit) (v : Option Value) : Lit → Option Value := fun k => @ite _ (k = kl) (Classical.propDecidable _) v (f k)
theorem FMap.put {t e : TypeId} (h : FMap W kt m f n) (K : Keyed Tryz.prog kt) (ht : Tryz.prog.underlying t = some (.map kt e)) (hn : n < maxLen) {key : Value} {kl : Lit} (hkey : keyOf Tryz.prog kt key = some kl) (v : Value) :
  ∃ w', (Instr.mapUpdate t (.map (some m)) key v).run Tryz.prog W = .ok () w' ∧ FMap w' kt m (updF f kl (some v)) (if (f kl).isSome then n else n + 1) ∧ W.grownBy w' (some m) := by
 obtain ⟨D, h1, h2, h3, h4, h5⟩ := h.has
 obtain ⟨w', hr, ho, hg⟩ := h1.update K ht hn hkey (show heldR v = some (.held v, []) from rfl)
 refine ⟨w', hr, ⟨D.put kl (.held v), ?_, ?_, ?_, ?_, ?_⟩, hg⟩
 ·have := ownsMap_tight ho
  rw [size_put h3, h2, h4 kl ⟨_, hkey⟩] at this
  exact this
 ·rw [size_put h3, h2, h4 kl ⟨_, hkey⟩]
 ·exact h3.put (K.key hkey) _
 ·intro k hk
  unfold updF
  by_cases e : k = kl
  ·subst e; rw [if_pos rfl, has_put_same h3.isMap (K.key hkey)]; rfl
  ·rw [if_neg e, has_put_other e]; exact h4 k hk
 ·intro k u hk hu z
  unfold updF at hu
  by_cases e : k = kl
  ·subst e
   rw [if_pos rfl] at hu
   cases hu
   exact atKey_put_same h3.isMap (K.key hkey) _ z
  ·rw [if_neg e] at hu
   rw [atKey_put_other e]
   exact h5 k u hk hu z
end
section
variable {w : World} {ops : Array Oper} {rest : List Oper} {o : Oper} {a : Act} {Q : Exit → Act → World → Prop}
theorem wp_op_run {K : Act → World → Prop} {t : TypeId} {m x : Operand} {ok : Bool} (hop : o.op = Op.lookup t m x ok) {mv key u : Value} (hm : a.eval m = mv) (hx : a.eval x = key) (hr : (Instr.lookup t mv key ok).run Tryz.prog w = .ok u w) (h : K (a.put o.dst u) w) : o.wp Tryz.prog a w K Q := by
 unfold Oper.wp
 simp [execOp, hop, hm, hx, hr, Result.andThen]
 exact h
end
end Go.Proofs.YtookoagcmejkpaaGreatDoor
namespace Go.Proofs.YtookoagcmejkpaaGreatDoor
set_option maxRecDepth 100000
open Go Go.RowKit
theorem own_cap {w : World} {base n c : Nat} {e : TypeId} {size : Nat} {p : Option Addr} {xs : List Value} (h : w.ownsRow base e size (.slice p n c) n xs) : n ≤ c := by
 rcases h with ⟨h0, ⟨h1, h2⟩ | ⟨g, cap, cur, hv, hg, hh, hn, hm, hs, ht⟩⟩
 ·injection h1 with _ h3 h4; omega
 ·injection hv with _ _ h4; subst h4; omega

theorem wp_append_own_at {P : Program} {w : World} {o : Oper} {a : Act} {K : Act → World → Prop} {Q : Exit → Act → World → Prop} (s x : Operand) (t : TypeId)
  (ho : o.op = .call { callee := .builtin .append, args := #[s, x], argTypes := #[t, t] })
  (base : Nat) (e : TypeId) (i : TypeInfo) (z : Value) (size bytes : Nat) (ht : P.underlying t = some (.slice e)) (hi : P.info? e = some i) (hz : i.zero = some z)
  (hsize : i.size = size) (hby : i.bytes = bytes) (hzs : z.cells.size = size) (hsz : 0 < size)
  (v : Value) (n : Nat) (xs : List Value) (hs : a.eval s = v) (hown : w.ownsRow base e size v n xs)
  (ad : Addr) (m c : Nat) (news : List Value) (hx : a.eval x = .slice (some ad) m c) (hl : news.length = m * size) (hnews : ∀ j u, news[j]? = some u → w.cell? (ad.add j) = some u) (h1 : ∀ u ∈ news, u.oneCell' = true)
  (h63 : n + m ≤ maxLen) (hbytes : (n + m) * bytes ≤ 140737488355328) (hbase : base ≤ w.heap.size)
  (h : ∀ v' w', w'.ownsRow base e size v' (n + m) (xs ++ news) → w.grownBy w' v.ownBlock → (v' = .slice none 0 0 ↔ v = .slice none 0 0 ∧ m = 0) → (v'.ownBlock = v.ownBlock ∨ v'.ownBlock = some w.heap.size) → K (a.put o.dst v') w') : o.wp P a w K Q := by
 obtain ⟨v', w', hr, h2, h3, h4, h5⟩ := run_append_own_at (P := P) w base t o.type e i z size bytes ht hi hz hsize hby hzs hsz v n xs hown ad m c news hl hnews h1 h63 hbytes hbase
 unfold Oper.wp execOp
 simp only [ho, resolve, invoke, builtin, Sem.run_bind, Sem.run_pure, Result.andThen_ok, List.map_toArray, List.map_cons, List.map_nil, hs, hx, hr]
 exact h v' w' h2 h3 h4 h5
def Z41 : Value := .agg #[.bool false, .int .u8 0, .string ⟨#[]⟩, .int .i64 0, .slice none 0 0]
theorem info41 : ∃ i0, Tryz.prog.info? 35 = some i0 ∧ i0.zero = some Z41 ∧ i0.size = 5 ∧ i0.bytes = 64 := info_of (by kernel_rfl)
def trC (l : Bool) (k : Int) (s : ByteArray) (a : Int) (q : Option Addr) (n c : Nat) : List Value := [.bool l, .int .u8 k, .string s, .int .i64 a, .slice q n c]
def RowF (W : World) (F : Nat → Prop) : Fo → List Value → Prop
 | .nil, xs => xs = []
 | .cons l k s a x r, xs => ∃ q c ys, xs = trC l k s a q x.len c ++ ys ∧ x.len ≤ c ∧ x.len ≤ 281474976710656 ∧ FoIn W F x q ∧ RowF W F r ys
theorem RowF.move {W W' : World} {F F' : Nat → Prop} (hc : ∀ b o v, F b → W.cell? ⟨b, o, none⟩ = some v → W'.cell? ⟨b, o, none⟩ = some v ∧ F' b) : ∀ (f : Fo) (xs : List Value), RowF W F f xs → RowF W' F' f xs
 | .nil, _, h => h
 | .cons l k s a x r, xs, h => by
  obtain ⟨q, c, ys, e, h1, h2, h3, h4⟩ := h
  exact ⟨q, c, ys, e, h1, h2, FoIn.move hc _ _ h3, RowF.move hc r ys h4⟩
theorem RowF.later {W W' : World} {F : Nat → Prop} {f : Fo} {xs : List Value} (h : RowF W F f xs) (hb : Below W.heap.size W W') : RowF W' F f xs :=
 RowF.move (fun _ _ _ hF hv => ⟨cell_later hb hv, hF⟩) f xs h
theorem RowF.only {W W' : World} {F T : Nat → Prop} {f : Fo} {xs : List Value} (h : RowF W F f xs) (ho : Only T W W') (hn : ∀ b, F b → ¬ T b) : RowF W' F f xs :=
 RowF.move (fun _ _ _ hF hv => ⟨ho.cell hv (hn _ hF), hF⟩) f xs h
theorem RowF.mono {W : World} {F F' : Nat → Prop} {f : Fo} {xs : List Value} (h : RowF W F f xs) (hn : ∀ b, F b → b < W.heap.size → F' b) : RowF W F' f xs :=
 RowF.move (fun b _ _ hF hv => ⟨hv, hn b hF (World.block_lt_of_cell? W _ hv)⟩) f xs h
theorem RowF.snoc {W : World} {F : Nat → Prop} {l : Bool} {k : Int} {s : ByteArray} {a : Int} {x : Fo} {q : Option Addr} {c : Nat} (h1 : x.len ≤ c) (h2 : x.len ≤ 281474976710656) (hx : FoIn W F x q) : ∀ (f : Fo) (xs : List Value), RowF W F f xs → RowF W F (f.snoc l k s a x) (xs ++ trC l k s a q x.len c)
 | .nil, xs, h => by
  obtain rfl : xs = [] := h
  exact ⟨q, c, [], by simp, h1, h2, hx, rfl⟩
 | .cons l0 k0 s0 a0 x0 r, xs, h => by
  obtain ⟨q0, c0, ys, rfl, h3, h4, h5, h6⟩ := h
  exact ⟨q0, c0, ys ++ trC l k s a q x.len c, by simp, h3, h4, h5, RowF.snoc h1 h2 hx r ys h6⟩
theorem RowF.foIn {W : World} {F F' : Nat → Prop} {g : Nat} (hg : F' g) (hF : ∀ b, F b → F' b) : ∀ (f : Fo) (xs : List Value) (off : Nat), RowF W F f xs → (∀ j u, xs[j]? = some u → W.cell? ⟨g, off + j, none⟩ = some u) → FoIn W F' f (some ⟨g, off, none⟩)
 | .nil, _, _, _, _ => trivial
 | .cons l0 k0 s0 a0 x0 r, xs, off, h, hc => by
  obtain ⟨q0, c0, ys, rfl, h3, h4, h5, h6⟩ := h
  refine ⟨g, off, rfl, hg, hc 0 _ rfl, hc 1 _ rfl, hc 2 _ rfl, hc 3 _ rfl, ⟨q0, c0, hc 4 _ rfl, h3, h4, FoIn.move (fun b _ _ hb hv => ⟨hv, hF b hb⟩) _ _ h5⟩, ?_⟩
  refine RowF.foIn hg hF r ys (off + 5) h6 (fun j u hu => ?_)
  have := hc (5 + j) u (by rw [List.getElem?_append_right (by simp [trC])]; simpa [trC] using hu)
  rw [← Nat.add_assoc] at this
  exact this
theorem own_cell5 {w : World} {base n c : Nat} {e : TypeId} {g : Nat} {xs : List Value} (h : w.ownsRow base e 5 (.slice (some ⟨g, 0, none⟩) n c) n xs) (i : Nat) (u : Value) (hu : xs[i]? = some u) : w.cell? ⟨g, i, none⟩ = some u ∧ w.frozen? ⟨g, i, none⟩ = false := by
 obtain ⟨h0, ⟨h1, _⟩ | ⟨g', cap, cur, hv, hg, hh, hn, hm, hs, ht⟩⟩ := h
 ·cases h1
 ·cases hv
  have hlt := (List.getElem?_eq_some_iff.1 hu).1
  rw [← ht, List.getElem?_take_of_lt (by omega)] at hu
  have e' : cur[i]? = some u := by simpa using hu
  exact ⟨by simp [World.cell?, hh, e'], by simp [World.frozen?, hh]⟩
def OwnF (W : World) (base : Nat) (v : Value) (f : Fo) : Prop := ∃ xs, W.ownsRow base 35 5 v f.len xs ∧ RowF W (fun b => base ≤ b ∧ v.ownBlock ≠ some b) f xs
theorem OwnF.only {W W' : World} {base : Nat} {v : Value} {f : Fo} {T : Nat → Prop} (h : OwnF W base v f) (ho : Only T W W') (hn : ∀ b, base ≤ b → ¬ T b) : OwnF W' base v f := by
 obtain ⟨xs, h1, h2⟩ := h
 exact ⟨xs, own_only h1 ho (fun k hk => hn k (own_lt h1 hk).1), h2.only ho (fun b hb => hn b hb.1)⟩
structure BoxT (w : World) (b : Nat) (l : Bool) (k : Int) (s : ByteArray) (a : Int) (v : Value) : Prop where
 c0 : w.cell? ⟨b, 0, none⟩ = some (.bool l)
 c1 : w.cell? ⟨b, 1, none⟩ = some (.int .u8 k)
 c2 : w.cell? ⟨b, 2, none⟩ = some (.string s)
 c3 : w.cell? ⟨b, 3, none⟩ = some (.int .i64 a)
 c4 : w.cell? ⟨b, 4, none⟩ = some v
 fz : ∀ o, w.frozen? ⟨b, o, none⟩ = false
theorem BoxT.later {w w' : World} {b : Nat} {l : Bool} {k : Int} {s : ByteArray} {a : Int} {v : Value} (h : BoxT w b l k s a v) (hb : Below w.heap.size w w') : BoxT w' b l k s a v :=
 ⟨cell_later hb h.c0, cell_later hb h.c1, cell_later hb h.c2, cell_later hb h.c3, cell_later hb h.c4, fun o => by rw [hb.frozen (p := ⟨b, o, none⟩) (World.block_lt_of_cell? w ⟨b, 0, none⟩ h.c0)]; exact h.fz o⟩
theorem BoxT.only {w w' : World} {b : Nat} {l : Bool} {k : Int} {s : ByteArray} {a : Int} {v : Value} {T : Nat → Prop} (h : BoxT w b l k s a v) (ho : Only T w w') (hn : ¬ T b) : BoxT w' b l k s a v :=
 ⟨ho.cell h.c0 hn, ho.cell h.c1 hn, ho.cell h.c2 hn, ho.cell h.c3 hn, ho.cell h.c4 hn, fun o => by rw [ho.frozen (a := ⟨b, o, none⟩) (World.block_lt_of_cell? w ⟨b, 0, none⟩ h.c0) hn]; exact h.fz o⟩
theorem BoxT.lt {w : World} {b : Nat} {l : Bool} {k : Int} {s : ByteArray} {a : Int} {v : Value} (h : BoxT w b l k s a v) : b < w.heap.size := World.block_lt_of_cell? w _ h.c0
theorem BoxT.set4 {w : World} {b : Nat} {l : Bool} {k : Int} {s : ByteArray} {a : Int} {v : Value} (h : BoxT w b l k s a v) (v' : Value) : BoxT (w.setCell ⟨b, 4, none⟩ v') b l k s a v' := by
 refine ⟨?_, ?_, ?_, ?_, ?_, fun o => ?_⟩
 ·rw [World.cell?_setCell_other _ _ _ _ (by intro e; cases e)]; exact h.c0
 ·rw [World.cell?_setCell_other _ _ _ _ (by intro e; cases e)]; exact h.c1
 ·rw [World.cell?_setCell_other _ _ _ _ (by intro e; cases e)]; exact h.c2
 ·rw [World.cell?_setCell_other _ _ _ _ (by intro e; cases e)]; exact h.c3
 ·have := h.c4
  have hf := h.fz 4
  simp [go_sem, this]
 ·have := h.fz o
  simp [go_sem, this]
theorem box_new (w : World) (l : Bool) (k : Int) (s : ByteArray) (a : Int) (v : Value) : BoxT (w.alloc (.cells #[.bool l, .int .u8 k, .string s, .int .i64 a, v] 35)) w.heap.size l k s a v :=
 ⟨by simp [go_sem], by simp [go_sem], by simp [go_sem], by simp [go_sem], by simp [go_sem], fun o => by simp [go_sem]⟩
theorem symbol65 (s : ByteArray) (W : World) : Calls Tryz.prog 65 #[.string s] W fun e w' => e = .returned (trV false 3 s 0 none 0 0) ∧ Below W.heap.size W w' := by
 go_enter Tryz.func65, Tryz.ntmps65
 go_wp2_with fail
 exact bodyPost_ret (v := trV false 3 s 0 none 0 0) (by simp [trV, results, Tryz.results65, go_sem]) rfl ⟨rfl, by repeat (first | exact Below.refl _ _ | refine Below.alloc ?_ (by simp) _)⟩
theorem own_one (w1 : World) (s : ByteArray) : OwnF (w1.alloc (.cells #[.bool false, .int .u8 3, .string s, .int .i64 0, .slice none 0 0] 35)) w1.heap.size (.slice (some ⟨w1.heap.size, 0, none⟩) 1 1) (.cons false 3 s 0 .nil .nil) :=
 ⟨trC false 3 s 0 none 0 0, ⟨rfl, .inr ⟨w1.heap.size, 1, #[.bool false, .int .u8 3, .string s, .int .i64 0, .slice none 0 0], rfl, Nat.le_refl _, Array.getElem?_push_size, Nat.le_refl _, by decide, rfl, rfl⟩⟩, none, 0, [], by simp [Fo.len], Nat.le_refl _, Nat.zero_le _, trivial, rfl⟩
theorem list29 (s : ByteArray) (W : World) : Calls Tryz.prog 29 #[.string s] W fun e w' => ∃ g, e = .returned (trV true 1 ⟨#[40]⟩ 0 (some ⟨g, 0, none⟩) 1 1) ∧ W.heap.size < g ∧ OwnF w' g (.slice (some ⟨g, 0, none⟩) 1 1) (.cons false 3 s 0 .nil .nil) ∧ Below W.heap.size W w' := by
 go_enter Tryz.func29, Tryz.ntmps29
 go_wp2_with fail
 refine (symbol65 s _).mono ?_
 rintro e w1 ⟨rfl, hb⟩
 have HB := Lib.hid (Below.trans (show Below W.heap.size W _ from by repeat (first | exact Below.refl _ _ | refine Below.alloc ?_ (by simp) _)) (hb.mono (by simp)))
 obtain ⟨W0, hW0⟩ : ∃ W0, W0 = W.alloc (.cells #[.bool false, .int .u8 0, .string ⟨#[]⟩, .int .i64 0, .slice none 0 0] 35) := ⟨_, rfl⟩
 have hbx0 := box_new W false 0 ⟨#[]⟩ 0 (.slice none 0 0)
 have hbx1 := hbx0.later hb
 have hbx := hbx1.later (below1 w1 (.cells #[.bool false, .int .u8 3, .string s, .int .i64 0, .slice none 0 0] 35))
 have HLT := Lib.hid hbx1.lt
 obtain ⟨z0, z1, z2, z3, z4, zf⟩ := hbx
 clear hb hbx0 hbx1 hW0 W0
 unfold trV
 go_wp2_with fail
 refine bodyPost_ret (v := trV true 1 ⟨#[40]⟩ 0 (some ⟨w1.heap.size, 0, none⟩) 1 1) (by simp [trV, results, Tryz.results29, go_sem, z0, z1, z2, z3, z4]) rfl ⟨w1.heap.size, rfl, HLT.out, ?_, ?_⟩
 ·have hn : ∀ o b, w1.heap.size ≤ b → ¬ b = (⟨W.heap.size, o, none⟩ : Addr).block := fun o b h e => by
   have h1 := HLT.out
   simp only at e
   omega
  exact (((((own_one w1 s).only (Only.of_setCell _ _ _) (hn _)).only (Only.of_setCell _ _ _) (hn _)).only (Only.of_setCell _ _ _) (hn _)).only (Only.of_setCell _ _ _) (hn _)).only (Only.of_setCell _ _ _) (hn _)
 ·iterate 5 refine Below.setCell ?_ (show W.heap.size ≤ W.heap.size from Nat.le_refl _) _
  exact HB.out.alloc HB.out.size _
end Go.Proofs.YtookoagcmejkpaaGreatDoor
