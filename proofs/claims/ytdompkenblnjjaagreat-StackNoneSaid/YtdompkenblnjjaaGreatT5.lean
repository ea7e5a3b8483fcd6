/- Rows of trees of the call's own; what trees some tokens are. -/
import Derived.Test.YtdompkenblnjjaaGreatT4
import Derived.Test.YtdompkenblnjjaaGreatDr
namespace Go.Proofs.YtdompkenblnjjaaGreat
open Go Go.RowKit

set_option maxRecDepth 100000 in
theorem wp_append_own_at {P : Program} {w : World} {o : Oper} {a : Act} {K : Act → World → Prop} {Q : Exit → Act → World → Prop} (s x : Operand) (t : TypeId)
    (ho : o.op = .call { callee := .builtin .append, args := #[s, x], argTypes := #[t, t] })
    (base : Nat) (e : TypeId) (i : TypeInfo) (z : Value) (size bytes : Nat) (ht : P.underlying t = some (.slice e)) (hi : P.info? e = some i) (hz : i.zero = some z)
    (hsize : i.size = size) (hby : i.bytes = bytes) (hzs : z.cells.size = size) (hsz : 0 < size)
    (v : Value) (n : Nat) (xs : List Value) (hs : a.eval s = v) (hown : w.ownsRow base e size v n xs)
    (ad : Addr) (m c : Nat) (news : List Value) (hx : a.eval x = .slice (some ad) m c) (hl : news.length = m * size) (hnews : ∀ j u, news[j]? = some u → w.cell? (ad.add j) = some u) (h1 : ∀ u ∈ news, u.oneCell' = true)
    (h63 : n + m ≤ maxLen) (hbytes : (n + m) * bytes ≤ 140737488355328) (hbase : base ≤ w.heap.size)
    (h : ∀ v' w', w'.ownsRow base e size v' (n + m) (xs ++ news) → w.grownBy w' v.ownBlock → (v' = .slice none 0 0 ↔ v = .slice none 0 0 ∧ m = 0) → (v'.ownBlock = v.ownBlock ∨ v'.ownBlock = some w.heap.size) → K (a.put o.dst v') w') : o.wp P a w K Q := by
  obtain ⟨v', w', hr, h2, h3, h4, h5⟩ := run_append_own_at (P := P) w base t o.type e i z size bytes ht hi hz hsize hby hzs hsz v n xs hown ad m c news hl hnews h1 h63 hbytes hbase
  unfold Oper.wp execOp
  simp only [ho, resolve, invoke, builtin, Sem.run_bind, Sem.run_pure, Result.andThen_ok, List.map_toArray, List.map_cons, List.map_nil, hs, hx, hr]
  exact h v' w' h2 h3 h4 h5
def Z41 : Value := .agg #[.bool false, .int .u8 0, .string ⟨#[]⟩, .int .i64 0, .slice none 0 0]
set_option maxRecDepth 100000 in
theorem info41 : ∃ i0, Tryz.prog.info? 47 = some i0 ∧ i0.zero = some Z41 ∧ i0.size = 5 ∧ i0.bytes = 64 := info_of (by kernel_rfl)
/-- a tree's five cells. -/
def trC (l : Bool) (k : Int) (s : ByteArray) (a : Int) (q : Option Addr) (n c : Nat) : List Value := [.bool l, .int .u8 k, .string s, .int .i64 a, .slice q n c]
/-- the cells of some trees, what lies below them in blocks of a kind. -/
def RowF (W : World) (F : Nat → Prop) : Fo → List Value → Prop
  | .nil, xs => xs = []
  | .cons l k s a x r, xs => ∃ q c ys, xs = trC l k s a q x.len c ++ ys ∧ x.len ≤ c ∧ x.len ≤ 281474976710656 ∧ FoIn W F x q ∧ RowF W F r ys
set_option maxRecDepth 100000 in
theorem RowF.move {W W' : World} {F F' : Nat → Prop} (hc : ∀ b o v, F b → W.cell? ⟨b, o, none⟩ = some v → W'.cell? ⟨b, o, none⟩ = some v ∧ F' b) : ∀ (f : Fo) (xs : List Value), RowF W F f xs → RowF W' F' f xs
  | .nil, _, h => h
  | .cons l k s a x r, xs, h => by
    obtain ⟨q, c, ys, e, h1, h2, h3, h4⟩ := h
    exact ⟨q, c, ys, e, h1, h2, FoIn.move hc _ _ h3, RowF.move hc r ys h4⟩
set_option maxRecDepth 100000 in
theorem RowF.later {W W' : World} {F : Nat → Prop} {f : Fo} {xs : List Value} (h : RowF W F f xs) (hb : Below W.heap.size W W') : RowF W' F f xs :=
  RowF.move (fun _ _ _ hF hv => ⟨cell_later hb hv, hF⟩) f xs h
set_option maxRecDepth 100000 in
theorem RowF.only {W W' : World} {F T : Nat → Prop} {f : Fo} {xs : List Value} (h : RowF W F f xs) (ho : Only T W W') (hn : ∀ b, F b → ¬ T b) : RowF W' F f xs :=
  RowF.move (fun _ _ _ hF hv => ⟨ho.cell hv (hn _ hF), hF⟩) f xs h
set_option maxRecDepth 100000 in
theorem RowF.mono {W : World} {F F' : Nat → Prop} {f : Fo} {xs : List Value} (h : RowF W F f xs) (hn : ∀ b, F b → b < W.heap.size → F' b) : RowF W F' f xs :=
  RowF.move (fun b _ _ hF hv => ⟨hv, hn b hF (World.block_lt_of_cell? W _ hv)⟩) f xs h
set_option maxRecDepth 100000 in
theorem RowF.snoc {W : World} {F : Nat → Prop} {l : Bool} {k : Int} {s : ByteArray} {a : Int} {x : Fo} {q : Option Addr} {c : Nat} (h1 : x.len ≤ c) (h2 : x.len ≤ 281474976710656) (hx : FoIn W F x q) : ∀ (f : Fo) (xs : List Value), RowF W F f xs → RowF W F (f.snoc l k s a x) (xs ++ trC l k s a q x.len c)
  | .nil, xs, h => by
    obtain rfl : xs = [] := h
    exact ⟨q, c, [], by simp, h1, h2, hx, rfl⟩
  | .cons l0 k0 s0 a0 x0 r, xs, h => by
    obtain ⟨q0, c0, ys, rfl, h3, h4, h5, h6⟩ := h
    exact ⟨q0, c0, ys ++ trC l k s a q x.len c, by simp, h3, h4, h5, RowF.snoc h1 h2 hx r ys h6⟩
set_option maxRecDepth 100000 in
theorem RowF.len {W : World} {F : Nat → Prop} : ∀ (f : Fo) (xs : List Value), RowF W F f xs → xs.length = f.len * 5
  | .nil, xs, h => by obtain rfl : xs = [] := h; rfl
  | .cons l0 k0 s0 a0 x0 r, xs, h => by
    obtain ⟨q0, c0, ys, rfl, h3, h4, h5, h6⟩ := h
    have := RowF.len r ys h6
    simp [trC, Fo.len]; omega
set_option maxRecDepth 100000 in
/-- the cells of a row in memory are trees. -/
theorem RowF.foIn {W : World} {F F' : Nat → Prop} {g : Nat} (hg : F' g) (hF : ∀ b, F b → F' b) : ∀ (f : Fo) (xs : List Value) (off : Nat), RowF W F f xs → (∀ j u, xs[j]? = some u → W.cell? ⟨g, off + j, none⟩ = some u) → FoIn W F' f (some ⟨g, off, none⟩)
  | .nil, _, _, _, _ => trivial
  | .cons l0 k0 s0 a0 x0 r, xs, off, h, hc => by
    obtain ⟨q0, c0, ys, rfl, h3, h4, h5, h6⟩ := h
    refine ⟨g, off, rfl, hg, hc 0 _ rfl, hc 1 _ rfl, hc 2 _ rfl, hc 3 _ rfl, ⟨q0, c0, hc 4 _ rfl, h3, h4, FoIn.move (fun b _ _ hb hv => ⟨hv, hF b hb⟩) _ _ h5⟩, ?_⟩
    refine RowF.foIn hg hF r ys (off + 5) h6 (fun j u hu => ?_)
    have := hc (5 + j) u (by rw [List.getElem?_append_right (by simp [trC])]; simpa [trC] using hu)
    rw [← Nat.add_assoc] at this
    exact this
set_option maxRecDepth 100000 in
theorem own_cell5 {w : World} {base n c : Nat} {e : TypeId} {g : Nat} {xs : List Value} (h : w.ownsRow base e 5 (.slice (some ⟨g, 0, none⟩) n c) n xs) (i : Nat) (u : Value) (hu : xs[i]? = some u) : w.cell? ⟨g, i, none⟩ = some u ∧ w.frozen? ⟨g, i, none⟩ = false := by
  obtain ⟨h0, ⟨h1, _⟩ | ⟨g', cap, cur, hv, hg, hh, hn, hm, hs, ht⟩⟩ := h
  · cases h1
  · cases hv
    have hlt := (List.getElem?_eq_some_iff.1 hu).1
    rw [← ht, List.getElem?_take_of_lt (by omega)] at hu
    have e' : cur[i]? = some u := by simpa using hu
    exact ⟨by simp [World.cell?, hh, e'], by simp [World.frozen?, hh]⟩
/-- a row of trees of the call's own. -/
def OwnF (W : World) (base : Nat) (v : Value) (f : Fo) : Prop := ∃ xs, W.ownsRow base 47 5 v f.len xs ∧ RowF W (fun b => base ≤ b ∧ v.ownBlock ≠ some b) f xs
set_option maxRecDepth 100000 in
theorem OwnF.later {W W' : World} {base : Nat} {v : Value} {f : Fo} (h : OwnF W base v f) (hb : Below W.heap.size W W') : OwnF W' base v f := by
  obtain ⟨xs, h1, h2⟩ := h
  exact ⟨xs, own_later h1 hb, h2.later hb⟩
set_option maxRecDepth 100000 in
theorem OwnF.only {W W' : World} {base : Nat} {v : Value} {f : Fo} {T : Nat → Prop} (h : OwnF W base v f) (ho : Only T W W') (hn : ∀ b, base ≤ b → ¬ T b) : OwnF W' base v f := by
  obtain ⟨xs, h1, h2⟩ := h
  exact ⟨xs, own_only h1 ho (fun k hk => hn k (own_lt h1 hk).1), h2.only ho (fun b hb => hn b hb.1)⟩
set_option maxRecDepth 100000 in
theorem OwnF.foIn {W : World} {base : Nat} {v : Value} {f : Fo} (h : OwnF W base v f) : ∃ q c, v = .slice q f.len c ∧ f.len ≤ c ∧ FoIn W (fun b => base ≤ b) f q := by
  obtain ⟨xs, h1, h2⟩ := h
  obtain ⟨q, c, rfl, hq⟩ := own_shape h1
  have hc := own_cap h1
  refine ⟨q, c, rfl, hc, ?_⟩
  cases f with
  | nil => trivial
  | cons l k s a x r =>
    obtain ⟨g, rfl⟩ : ∃ g, q = some ⟨g, 0, none⟩ := by
      rcases h1.2 with ⟨e, _⟩ | ⟨g, _, _, e, _⟩
      · injection e with _ e2 _; simp [Fo.len] at e2
      · injection e with e2 _ _; exact ⟨g, e2⟩
    have hg := own_lt h1 (k := g) rfl
    exact RowF.foIn hg.1 (fun b hb => hb.1) _ xs 0 h2 (fun j u hu => by rw [Nat.zero_add]; exact (own_cell5 h1 j u hu).1)
set_option maxRecDepth 100000 in
theorem OwnF.nil (W : World) (base : Nat) : OwnF W base (.slice none 0 0) .nil := ⟨[], ⟨rfl, Or.inl ⟨rfl, rfl⟩⟩, rfl⟩
/-- what trees some tokens are. -/
inductive Rd : List TkA → Fo → Prop
  | nil : Rd [] .nil
  | leaf {t : TkA} {r : List TkA} {f : Fo} : t.k ≠ 1 → t.k ≠ 2 → Rd r f → Rd (t :: r) (.cons false t.k t.s t.a .nil f)
  | list {t c : TkA} {x r : List TkA} {g f : Fo} : t.k = 1 → c.k = 2 → Rd x g → Rd r f → Rd (t :: (x ++ c :: r)) (.cons true t.k t.s t.a g f)
set_option maxRecDepth 100000 in
theorem Rd.len {l : List TkA} {f : Fo} (h : Rd l f) : f.len ≤ l.length := by
  induction h with
  | nil => exact Nat.le_refl _
  | leaf _ _ _ ih => simp only [Fo.len, List.length_cons]; omega
  | list _ _ _ _ _ ih => simp only [Fo.len, List.length_cons, List.length_append]; omega
set_option maxRecDepth 100000 in
theorem opn_one {t : TkA} (h : t.k = 1) (o : Int) : opn t o = o + 1 := by simp [opn, h]
set_option maxRecDepth 100000 in
theorem opn_two {t : TkA} (h : t.k = 2) (o : Int) : opn t o = o - 1 := by simp [opn, h]
set_option maxRecDepth 100000 in
theorem opn_else {t : TkA} (h1 : t.k ≠ 1) (h2 : t.k ≠ 2) (o : Int) : opn t o = o := by simp [opn, h1, h2]
set_option maxRecDepth 100000 in
theorem endF_rd {x : List TkA} {g : Fo} (h : Rd x g) : ∀ (o : Int) (r : List TkA) (i : Nat), 0 < o → endF (x ++ r) o i = endF r o (i + x.length) := by
  induction h with
  | nil => intro o r i _; simp
  | leaf h1 h2 _ ih =>
    intro o r i ho
    rw [List.cons_append, endF, opn_else h1 h2, if_neg (by omega), ih o r (i + 1) ho]
    congr 1
    simp only [List.length_cons]; omega
  | @list t c x r' g f h1 h2 _ _ ih1 ih2 =>
    intro o r i ho
    rw [List.cons_append, endF, opn_one h1, if_neg (by omega), List.append_assoc, ih1 (o + 1) _ (i + 1) (by omega), List.cons_append, endF, opn_two h2, show o + 1 - 1 = o from by omega, if_neg (by omega), ih2 o r _ ho]
    congr 1
    simp only [List.length_cons, List.length_append]; omega
/-- just one tree. -/
inductive One : List TkA → Bool → Int → ByteArray → Int → Fo → Prop
  | leaf {t : TkA} : t.k ≠ 1 → t.k ≠ 2 → One [t] false t.k t.s t.a .nil
  | list {t c : TkA} {x : List TkA} {g : Fo} : t.k = 1 → c.k = 2 → Rd x g → One (t :: (x ++ [c])) true t.k t.s t.a g
set_option maxRecDepth 100000 in
theorem Rd.first {l : List TkA} {b : Bool} {k : Int} {s : ByteArray} {a : Int} {g f : Fo} (h : Rd l (.cons b k s a g f)) : ∃ u r, l = u ++ r ∧ 0 < u.length ∧ One u b k s a g ∧ Rd r f ∧ (∀ z i, endF (u ++ z) 0 i = some (i + u.length)) := by
  cases h with
  | @leaf t r _ h1 h2 h3 =>
    exact ⟨[t], r, rfl, by simp, .leaf h1 h2, h3, fun z i => by rw [List.cons_append, endF, opn_else h1 h2, if_pos rfl]; rfl⟩
  | @list t c x r _ _ h1 h2 h3 h4 =>
    refine ⟨t :: (x ++ [c]), r, by simp, by simp, .list h1 h2 h3, h4, fun z i => ?_⟩
    rw [List.cons_append, endF, opn_one h1, if_neg (by omega), List.append_assoc, endF_rd h3 _ _ _ (by omega), List.cons_append, endF, opn_two h2, if_pos (by omega)]
    simp; omega
end Go.Proofs.YtdompkenblnjjaaGreat

