/- All parts of a tree; Text. -/
import Derived.Test.YtlifankiljbdjaaDoorJU1
import Derived.RangeFuncNested
import Derived.RangeFuncBound
import Derived.RangeFuncCalls
import Derived.RangeFuncLeaves
import Derived.Shelf.Abstract
import Derived.Shelf.RegionOpen
import Derived.WalkKit
import Derived.OwnWalkIn
import Derived.TacticsInMore
import Derived.LoopNIn
import Derived.LoopIn
import Derived.Test.YtlifankiljbdjaaDoorJT2
import Derived.Sort.LoopGhostIn
namespace Go.Proofs.YtlifankiljbdjaaDoor
open Go Go.RowKit Go.Shelf

/-- all that lies below a bound abides; so does this. -/
def Firm {α : Type} (B : Nat) (J : List α → World → Prop) : Prop := ∀ s A A', J s A → Below B A A' → J s A'
/-- the iterator's word: it may change whatever lies beyond the heap's end that it met. -/
def SeqB {α : Type} (F : Fence) (n : Nat) (P : Program) (g : Nat) (lb : Array Value) (encs : α → Array Value) (Kp : World → World → Prop) (S Sp : List α → Prop) (N : Nat) (w : World) : Prop :=
  ∀ (l : Nat) (J Jx : List α → World → Prop) (W : World), Below w.heap.size w W → Firm W.heap.size J → Firm W.heap.size Jx →
    (∀ pre x W1, J pre W1 → pre.length < N → YieldAt F (n - 1) P l (encs x) W1 fun e W' => (e = .returned (.bool true) ∧ J (pre ++ [x]) W' ∧ Kp W1 W') ∨ (e = .returned (.bool false) ∧ Jx (pre ++ [x]) W')) →
    J [] W → CallsIn F n P g (#[.func (.yield l) #[] #[]] ++ lb) W fun e W' => (∃ v, e = .returned v) ∧ ((∃ xs, S xs ∧ J xs W') ∨ (∃ pre, Sp pre ∧ Jx pre W'))
theorem below_put {B : Nat} (W : World) (l : Nat) (o o' : Obj) (hl : B ≤ l) (h : W.heap[l]? = some o) : Below B W (W.putObj l o') :=
  (Below.refl B W).grown (grownBy_putObj' W l o') (Nat.le_trans hl (Nat.le_of_lt (Array.getElem?_eq_some_iff.1 h).1)) (fun k e => by cases e; exact hl)
theorem range_below {α : Type} {F : Fence} {n : Nat} {P : Program} {g : Operand} {ps : Array Tmp} {assign body : Code} {Q : Exit → Act → World → Prop} {a : Act} {w : World}
    (hro : F.round = none) (h1 : 1 ≤ n) {gf : Nat} {lb : Array Value} (hg : a.eval g = .func (.func gf) #[] lb) (hFg : F.fn gf) (eg : ∀ args w, (callFunc gf args).run P w = .ok (.enter gf args) w)
    {encs : α → Array Value} {Kp : World → World → Prop} {S Sp : List α → Prop} {N : Nat} (hseq : SeqB F (n - 1) P gf lb encs Kp S Sp N w)
    (hKt : ∀ {A B C : World}, Kp A B → Kp B C → Kp A C) (hKb : ∀ (W : World) (l : Nat) (o o' : Obj), w.heap.size ≤ l → W.heap[l]? = some o → o.isCells = false → Kp W (W.putObj l o')) (hps : ∀ x, (encs x).size = ps.size)
    (I : List α → World → Prop) (Ix : Code → List α → World → Prop) (hI : Firm w.heap.size I) (hIx : ∀ c, Firm w.heap.size (Ix c)) (h0 : I [] w) (Ax : α → Act → World → Prop) (hAx : ∀ (x : α) (a' : Act) (W : World) (l : Nat) (o o' : Obj), w.heap.size ≤ l → Ax x a' W → W.heap[l]? = some o → o.isCells = false → Ax x a' (W.putObj l o'))
    (hassign : ∀ (l : Nat) (pre : List α) (x : α) (W : World) (K : Act → World → Prop), I pre W → (∀ a' W', KeepsOthers W W' → Kp W W' → I pre W' → Ax x a' W' → K a' W') →
      assign.wpIn (F.inRound l) (n - 1 - 1) P (Exit.then K (fun _ _ _ => False)) { tmps := (ps.zip (encs x)).foldl (fun t (p, v) => t.setIfInBounds p v) a.tmps, defers := [] } W)
    (hbody : ∀ (l : Nat) (pre : List α) (x : α) (a' : Act) (W : World), I pre W → Ax x a' W → pre.length < N → body.wpIn (F.inRound l) (n - 1 - 1) P (ownPostK Kp I Ix (pre ++ [x]) W) a' W)
    (hdone : ∀ (D : Nat) (xs : List α) (W : World), w.heap.size ≤ D → S xs → I xs W → W.heap[D]? = some (.deferred (some [])) → Q .normal { a with defers := { target := .collected D, args := #[] } :: a.defers } W)
    (hstop : ∀ (D : Nat) (c : Code) (pre : List α) (W : World), w.heap.size ≤ D → Sp pre → Ix c pre W → W.heap[D]? = some (.deferred (some [])) → c.wpIn F n P Q { a with defers := { target := .collected D, args := #[] } :: a.defers } W) :
    (Code.rangeFunc g ps assign body).wpIn F n P Q a w := by
  refine wpIn_rangeFunc fun fn hfn => ?_
  rw [hro]
  -- the record, in each of its states
  obtain ⟨rec, hrec⟩ : ∃ rec : LoopState → Option Code → Loop, rec = fun st pe => { state := st, pending := pe, fn, tmps := a.tmps, params := ps, assign, body, defers := w.heap.size } := ⟨_, rfl⟩
  obtain ⟨W1, hW1⟩ : ∃ W1, W1 = (w.alloc (.deferred (some []))).alloc (.loop (rec .ready none)) := ⟨_, rfl⟩
  have hs1 : W1.heap.size = w.heap.size + 2 := by rw [hW1]; simp
  have hw1 : Below w.heap.size w W1 := by rw [hW1]; exact ((Below.refl _ w).alloc (Nat.le_refl _) _).alloc (by simp) _
  have hL1 : W1.heap[w.heap.size + 1]? = some (.loop (rec .ready none)) := by
    have := World.alloc_heap_new (w.alloc (.deferred (some []))) (.loop (rec .ready none))
    rw [World.size_alloc] at this; rw [hW1]; exact this
  have hD1 : W1.heap[w.heap.size]? = some (.deferred (some [])) := by
    rw [hW1]; exact (Below.heap_alloc _ _ _ (by simp)).trans (World.alloc_heap_new w _)
  have put : ∀ {A : World} {r r' : Loop}, A.heap[w.heap.size + 1]? = some (.loop r) → Below w.heap.size A (A.putObj (w.heap.size + 1) (.loop r')) := fun h => below_put _ _ _ _ (by omega) h
  have putK : ∀ {A : World} {r r' : Loop}, A.heap[w.heap.size + 1]? = some (.loop r) → Kp A (A.putObj (w.heap.size + 1) (.loop r')) := fun h => hKb _ _ _ _ (by omega) h rfl
  have same : ∀ {A : World} {r r' : Loop}, A.heap[w.heap.size + 1]? = some (.loop r) → (A.putObj (w.heap.size + 1) (.loop r')).heap[w.heap.size + 1]? = some (.loop r') := fun h => World.putObj_heap_same (Array.getElem?_eq_some_iff.1 h).1
  have other : ∀ {A : World} {r' : Loop}, A.heap[w.heap.size]? = some (.deferred (some [])) → (A.putObj (w.heap.size + 1) (.loop r')).heap[w.heap.size]? = some (.deferred (some [])) := fun h => (World.putObj_heap_other (by omega)).trans h
  refine ⟨w.heap.size + 1, [{ target := .collected w.heap.size, args := #[] }], W1, { target := .fn (.func gf) lb, args := #[.func (.yield (w.heap.size + 1)) #[] #[]] }, W1, gf,
    #[.func (.yield (w.heap.size + 1)) #[] #[]] ++ lb, W1, ?_, ?_, ?_, ?_, fun _ => h1, ?_⟩
  · rw [hW1, hrec]; exact run_enterLoop_outer _ _ _ _ _
  · simp only [resolve, hg]
    simp [go_sem]
  · intro f' hf'; simp [Target.leads] at hf'; subst hf'; exact hFg
  · simp [invoke, go_sem, eg]
  have firm : ∀ (X : List α → World → Prop), Firm w.heap.size X → ∀ (o1 : Obj), Firm W1.heap.size (fun pre W => X pre W ∧ W.heap[w.heap.size + 1]? = some o1 ∧ W.heap[w.heap.size]? = some (.deferred (some []))) := fun X hX o1 s A A' h hb =>
    ⟨hX s A A' h.1 (hb.mono (by omega)), (hb.block _ (by omega)).trans h.2.1, (hb.block _ (by omega)).trans h.2.2⟩
  refine (hseq (w.heap.size + 1) (fun pre W => I pre W ∧ W.heap[w.heap.size + 1]? = some (.loop (rec .ready none)) ∧ W.heap[w.heap.size]? = some (.deferred (some [])))
    (fun pre W => ∃ c, Ix c pre W ∧ W.heap[w.heap.size + 1]? = some (.loop (rec .done (some c))) ∧ W.heap[w.heap.size]? = some (.deferred (some []))) W1 hw1 (firm I hI _)
    (fun s A A' ⟨c, h⟩ hb => ⟨c, firm (Ix c) (hIx c) _ s A A' h hb⟩) ?_ ⟨hI _ _ _ h0 hw1, hL1, hD1⟩).mono ?_
  · -- a round
    rintro pre x W ⟨hi, hl, hd⟩ hlen
    have hy := run_yield (P := P) (args := encs x) hl (by rw [hrec]; exact hps x)
    rw [hrec] at hy
    refine ⟨fn, _, assign, body, hy, roundIn_of_wpIn hfn (hassign _ pre x W _ hi (fun a' W' hko hkp hi' hax => ⟨_, run_beginRound (hko.same _ _ hl rfl) (by rw [hrec]), ?_⟩))⟩
    have hl' := hko.same _ _ hl rfl
    have hd' := hko.same _ _ hd rfl
    have hb2 := same (r' := { rec .ready none with state := .busy }) hl'
    have hd2 := other (r' := { rec .ready none with state := .busy }) hd'
    refine wpIn_mono (hbody _ pre x a' _ (hI _ _ _ hi' (put hl')) (hAx _ _ _ _ _ _ (by omega) hax hl' rfl) hlen) ?_
    have fin : ∀ (jump : Option Code) (W3 : World), KeepsOthers (W'.putObj (w.heap.size + 1) (.loop { rec .ready none with state := .busy })) W3 →
        (Instr.endRound (w.heap.size + 1) jump).run P W3 = .ok (.bool jump.isNone) (W3.putObj (w.heap.size + 1) (.loop (rec (if jump.isNone then .ready else .done) jump))) ∧
        W3.heap[w.heap.size + 1]? = some (.loop { rec .ready none with state := .busy }) ∧ W3.heap[w.heap.size]? = some (.deferred (some [])) := fun jump W3 hk => by
      have hl3 := hk.same _ _ hb2 rfl
      have hr := run_endRound (P := P) jump hl3
      refine ⟨?_, hl3, hk.same _ _ hd2 rfl⟩
      rw [hrec] at hr ⊢
      exact hr
    have leave : ∀ (c : Code) (W3 : World), KeepsOthers (W'.putObj (w.heap.size + 1) (.loop { rec .ready none with state := .busy })) W3 → Ix c (pre ++ [x]) W3 →
        ∃ v W4, (Instr.endRound (w.heap.size + 1) (some c)).run P W3 = .ok v W4 ∧ ((v = .bool true ∧ (I (pre ++ [x]) W4 ∧ W4.heap[w.heap.size + 1]? = some (.loop (rec .ready none)) ∧ W4.heap[w.heap.size]? = some (.deferred (some []))) ∧ Kp W W4) ∨ (v = .bool false ∧ ∃ c, Ix c (pre ++ [x]) W4 ∧ W4.heap[w.heap.size + 1]? = some (.loop (rec .done (some c))) ∧ W4.heap[w.heap.size]? = some (.deferred (some [])))) := fun c W3 hk hi3 => by
      obtain ⟨hr, hl3, hd3⟩ := fin (some c) W3 hk
      exact ⟨_, _, hr, .inr ⟨rfl, c, hIx _ _ _ _ hi3 (put hl3), same hl3, other hd3⟩⟩
    rintro e a3 W3 hp
    cases e with
    | normal =>
      obtain ⟨hk, hkp3, hi3⟩ := hp
      obtain ⟨hr, hl3, hd3⟩ := fin none W3 hk
      exact ⟨_, _, hr, .inl ⟨rfl, ⟨hI _ _ _ hi3 (put hl3), same hl3, other hd3⟩, hKt hkp (hKt (hKt (putK hl') hkp3) (putK hl3))⟩⟩
    | ret =>
      obtain ⟨v, W4, h2, h3⟩ := leave .ret W3 hp.1 hp.2
      exact ⟨_, _, h2, h3.imp (fun h => ⟨by rw [h.1], h.2⟩) (fun h => ⟨by rw [h.1], h.2⟩)⟩
    | exit id =>
      obtain ⟨v, W4, h2, h3⟩ := leave (.exit id) W3 hp.1 hp.2
      exact ⟨_, _, h2, h3.imp (fun h => ⟨by rw [h.1], h.2⟩) (fun h => ⟨by rw [h.1], h.2⟩)⟩
    | goto t =>
      obtain ⟨v, W4, h2, h3⟩ := leave (.goto t) W3 hp.1 hp.2
      exact ⟨_, _, h2, h3.imp (fun h => ⟨by rw [h.1], h.2⟩) (fun h => ⟨by rw [h.1], h.2⟩)⟩
    | panic ch => exact hp.elim
    | outgrown => exact hp.elim
  · -- behind the iterator
    rintro e W2 ⟨⟨v, rfl⟩, (⟨xs, hS, hi, hl, hd⟩ | ⟨pre, hSp, c, hi, hl, hd⟩)⟩
    · have hr := run_endLoop (P := P) hl (by rw [hrec]; simp)
      rw [hrec] at hr
      exact ⟨none, _, hr, hdone _ xs _ (Nat.le_refl _) hS (hI _ _ _ hi (put hl)) (other hd)⟩
    · have hr := run_endLoop (P := P) hl (by rw [hrec]; simp)
      rw [hrec] at hr
      exact ⟨some c, _, hr, hstop _ c pre _ (Nat.le_refl _) hSp (hIx c _ _ _ hi (put hl)) (other hd)⟩
end Go.Proofs.YtlifankiljbdjaaDoor
namespace Go.Proofs.YtlifankiljbdjaaDoor
open Go Go.RowKit Go.Shelf
attribute [local go_sem] Oper.semAt_some

theorem wpListIn_append_at {F : Fence} {n : Nat} {P : Program} (w : World) {ops : Array Oper} {rest : List Oper} {o : Oper} {a : Act} {Q : Exit → Act → World → Prop}
    (hg : o.guard = none) (s x : Operand) (t : TypeId) (hop : o.op = Op.call { callee := Callee.builtin Builtin.append, args := #[s, x], argTypes := #[t, t] })
    (base : Nat) (e : TypeId) (i : TypeInfo) (z : Value) (size bytes : Nat) (h1 : P.underlying t = some (.slice e)) (h2 : P.info? e = some i) (h3 : i.zero = some z) (h4 : i.size = size) (h5 : i.bytes = bytes) (h6 : z.cells.size = size) (h7 : 0 < size)
    (v : Value) (k : Nat) (xs : List Value) (hs : a.eval s = v) (hown : w.ownsRow base e size v k xs) (ad : Addr) (m c : Nat) (news : List Value) (hx : a.eval x = .slice (some ad) m c) (hn : news.length = m * size)
    (hc : ∀ j u, news[j]? = some u → w.cell? (ad.add j) = some u) (h1c : ∀ u ∈ news, u.oneCell' = true) (b1 : k + m ≤ maxLen) (b2 : (k + m) * bytes ≤ 140737488355328) (b3 : base ≤ w.heap.size)
    (hK : ∀ v' w', w'.ownsRow base e size v' (k + m) (xs ++ news) → w.grownBy w' v.ownBlock → (v'.ownBlock = v.ownBlock ∨ v'.ownBlock = some w.heap.size) → wpListIn F n P ops Q rest (a.put o.dst v') w') :
    wpListIn F n P ops Q (o :: rest) a w := by
  refine wpListIn_plain hg fun K hK' => ?_
  obtain ⟨v', w', hrun, r1, r2, _, r4⟩ := run_append_own_at (P := P) w base t o.type e i z size bytes h1 h2 h3 h4 h5 h6 h7 v k xs hown ad m c news hn hc h1c b1 b2 b3
  unfold Oper.wpIn
  constructor
  · simp [Oper.about, hop, resolve, Target.leads, Sem.run_pure]
  · rw [Oper.semAt_plain F _ _ (by rw [hop]; intro c hc'; cases hc')]
    simp [execOp, hop, resolve, invoke, builtin, hs, hx, hrun, Result.andThen]
    exact hK' _ _ (hK v' w' r1 r2 r4)
/-- a stack's parts that are still to come: the last tree first. -/
def remF : Fo → List Nd
  | .nil => []
  | .cons l k s _ x r => remF r ++ (⟨l, k, s, x.len⟩ :: partsF x)
theorem remF_snoc (l : Bool) (k : Int) (s : ByteArray) (a : Int) (x : Fo) : ∀ f : Fo, remF (f.snoc l k s a x) = ⟨l, k, s, x.len⟩ :: (partsF x ++ remF f)
  | .nil => by simp [Fo.snoc, remF]
  | .cons l0 k0 s0 a0 x0 r => by simp [Fo.snoc, remF, remF_snoc l k s a x r]
theorem remF_len : ∀ f : Fo, f.len ≤ (remF f).length
  | .nil => Nat.le_refl _
  | .cons l0 k0 s0 a0 x0 r => by
    have := remF_len r
    simp only [Fo.len, remF, List.length_append, List.length_cons]; omega
theorem fo_last : ∀ f : Fo, 0 < f.len → ∃ (f0 : Fo) (l : Bool) (k : Int) (s : ByteArray) (a : Int) (x : Fo), f = f0.snoc l k s a x
  | .nil, h => absurd h (by decide)
  | .cons l k s a x .nil, _ => ⟨.nil, l, k, s, a, x, rfl⟩
  | .cons l0 k0 s0 a0 x0 (.cons l k s a x r), _ => by
    obtain ⟨f0, l1, k1, s1, a1, x1, h⟩ := fo_last (.cons l k s a x r) (by simp [Fo.len])
    exact ⟨.cons l0 k0 s0 a0 x0 f0, l1, k1, s1, a1, x1, by rw [h]; rfl⟩
theorem foIn_app_at {W : World} {F : Nat → Prop} {b off : Nat} : ∀ (u z : Fo) (j : Nat), FoIn W F (u.app z) (pl (some ⟨b, off, none⟩) j) → FoIn W F z (pl (some ⟨b, off, none⟩) (j + u.len))
  | .nil, z, j, h => h
  | .cons l k s a x r, z, j, h => by
    have := foIn_app_at r z (j + 1) (FoIn.head (l := l) (k := k) (s := s) (a := a) (x := x) (r := r.app z) h).2.2.2.2.2.2
    simp only [Fo.len]
    rw [show j + (r.len + 1) = j + 1 + r.len by omega]
    exact this
theorem RowF.last {W : World} {F : Nat → Prop} {l : Bool} {k : Int} {s : ByteArray} {a : Int} {x : Fo} : ∀ (f : Fo) (xs : List Value), RowF W F (f.snoc l k s a x) xs → ∃ ys q c, xs = ys ++ trC l k s a q x.len c ∧ RowF W F f ys ∧ x.len ≤ c ∧ x.len ≤ 281474976710656 ∧ FoIn W F x q
  | .nil, xs, h => by
    obtain ⟨q, c, ys, rfl, h1, h2, h3, h4⟩ := h
    obtain rfl : ys = [] := h4
    exact ⟨[], q, c, by simp, rfl, h1, h2, h3⟩
  | .cons l0 k0 s0 a0 x0 r, xs, h => by
    obtain ⟨q0, c0, ys, rfl, h1, h2, h3, h4⟩ := h
    obtain ⟨zs, q, c, rfl, h5, h6, h7, h8⟩ := RowF.last r ys h4
    exact ⟨trC l0 k0 s0 a0 q0 x0.len c0 ++ zs, q, c, by simp, ⟨q0, c0, zs, rfl, h1, h2, h3, h5⟩, h6, h7, h8⟩
theorem szB_snoc {B : Nat} {l : Bool} {k : Int} {s : ByteArray} {a : Int} {x : Fo} : ∀ f : Fo, szB B (f.snoc l k s a x) ↔ szB B f ∧ s.size ≤ B ∧ szB B x
  | .nil => by simp [Fo.snoc, szB]
  | .cons l0 k0 s0 a0 x0 r => by
    have := szB_snoc (l := l) (k := k) (s := s) (a := a) (x := x) (B := B) r
    simp only [Fo.snoc, szB, this, and_assoc]
theorem szB_app {B : Nat} : ∀ u z : Fo, szB B (u.app z) ↔ szB B u ∧ szB B z
  | .nil, z => by simp [Fo.app, szB]
  | .cons l0 k0 s0 a0 x0 r, z => by simp only [Fo.app, szB, szB_app r z, and_assoc]
/-- a tree as it is handed on. -/
structure Tr where
  l : Bool
  k : Int
  s : ByteArray
  a : Int
  q : Option Addr
  n : Nat
  c : Nat
  hs : s.size ≤ 65536
  hn : n ≤ 281474976710656
def Tr.v (t : Tr) : Value := trV t.l t.k t.s t.a t.q t.n t.c
def Tr.nd (t : Tr) : Nd := ⟨t.l, t.k, t.s, t.n⟩
/-- whatever holds cells lies as it lay, but for one block. -/
def KpC (bS : Nat) (W W' : World) : Prop := W.heap.size ≤ W'.heap.size ∧ ∀ b o, b ≠ bS → W.heap[b]? = some o → o.isCells = true → W'.heap[b]? = some o
theorem KpC.trans {bS : Nat} {A B C : World} (h : KpC bS A B) (k : KpC bS B C) : KpC bS A C := ⟨Nat.le_trans h.1 k.1, fun b o hb ho hc => k.2 b o hb (h.2 b o hb ho hc) hc⟩
theorem KpC.of_only {bS : Nat} {A B : World} (h : Only (fun k => k = bS) A B) : KpC bS A B := ⟨h.size, fun b o hb ho _ => (h.block b (Array.getElem?_eq_some_iff.1 ho).1 hb).trans ho⟩
theorem KpC.put {bS : Nat} (W : World) (l : Nat) (o o' : Obj) (h : W.heap[l]? = some o) (hc : o.isCells = false) : KpC bS W (W.putObj l o') :=
  ⟨(below_put W l o o' (Nat.le_refl _) h).size, fun b o2 _ ho hc2 => by
    by_cases e : b = l
    · subst e; rw [h] at ho; cases ho; rw [hc] at hc2; cases hc2
    · exact (World.putObj_heap_other e).trans ho⟩
theorem KpC.cell {bS : Nat} {A B : World} (h : KpC bS A B) {b o : Nat} {v : Value} (hb : b ≠ bS) (hc : A.cell? ⟨b, o, none⟩ = some v) : B.cell? ⟨b, o, none⟩ = some v := by
  cases ho : A.heap[b]? with
  | none => simp [World.cell?, ho] at hc
  | some x =>
    cases x with
    | cells cs t fr =>
      have h2 := h.2 b _ hb ho rfl
      simp only [World.cell?, ho] at hc
      simp only [World.cell?, h2]
      exact hc
    | _ => simp [World.cell?, ho] at hc
theorem KpC.own {bS : Nat} {A B : World} (h : KpC bS A B) {base n : Nat} {e : TypeId} {size : Nat} {v : Value} {xs : List Value} (ho : A.ownsRow base e size v n xs) (hb : bS < base) : B.ownsRow base e size v n xs := by
  obtain ⟨h0, ⟨h1, h2⟩ | ⟨g, cap, cur, hv, hg, hh, hn, hm, hs, ht⟩⟩ := ho
  · exact ⟨h0, .inl ⟨h1, h2⟩⟩
  · exact ⟨h0, .inr ⟨g, cap, cur, hv, hg, h.2 g _ (by omega) hh rfl, hn, hm, hs, ht⟩⟩
/-- a stack of trees. -/
def StackAt (W : World) (B : Nat) (F : Nat → Prop) (v : Value) (f : Fo) : Prop := ∃ xs, W.ownsRow B 41 5 v f.len xs ∧ RowF W F f xs
theorem StackAt.later {W W' : World} {B : Nat} {F : Nat → Prop} {v : Value} {f : Fo} (h : StackAt W B F v f) (hb : Below W.heap.size W W') : StackAt W' B F v f := by
  obtain ⟨xs, h1, h2⟩ := h
  exact ⟨xs, own_later h1 hb, h2.later hb⟩
theorem StackAt.kept {bS : Nat} {W W' : World} {B : Nat} {F : Nat → Prop} {v : Value} {f : Fo} (h : StackAt W B F v f) (hk : KpC bS W W') (hB : bS < B) (hF : ∀ b, F b → b ≠ bS) : StackAt W' B F v f := by
  obtain ⟨xs, h1, h2⟩ := h
  exact ⟨xs, hk.own h1 hB, RowF.move (fun b _ _ hb hv => ⟨hk.cell (hF b hb) hv, hb⟩) _ _ h2⟩
/-- the last tree: its cells; the row without it. -/
theorem StackAt.last {W : World} {B : Nat} {F : Nat → Prop} {v : Value} {f : Fo} {l : Bool} {k : Int} {s : ByteArray} {a : Int} {x : Fo} (h : StackAt W B F v (f.snoc l k s a x)) :
    ∃ g c q c1, v = .slice (some ⟨g, 0, none⟩) (f.len + 1) c ∧ f.len + 1 ≤ c ∧ W.cell? ⟨g, f.len * 5, none⟩ = some (.bool l) ∧ W.cell? ⟨g, f.len * 5 + 1, none⟩ = some (.int .u8 k) ∧ W.cell? ⟨g, f.len * 5 + 2, none⟩ = some (.string s) ∧ W.cell? ⟨g, f.len * 5 + 3, none⟩ = some (.int .i64 a) ∧ W.cell? ⟨g, f.len * 5 + 4, none⟩ = some (.slice q x.len c1) ∧
      x.len ≤ c1 ∧ x.len ≤ 281474976710656 ∧ FoIn W F x q ∧ StackAt W B F (.slice (some ⟨g, 0, none⟩) f.len c) f := by
  obtain ⟨xs, h1, h2⟩ := h
  obtain ⟨ys, q, c1, rfl, h5, h6, h7, h8⟩ := RowF.last f xs h2
  rw [Fo.len_snoc] at h1
  obtain ⟨p, c, rfl, hp⟩ := own_shape h1
  have hcap := own_cap h1
  obtain ⟨g, rfl⟩ : ∃ g, p = some ⟨g, 0, none⟩ := by
    rcases h1.2 with ⟨e, _⟩ | ⟨g, _, _, e, _⟩
    · injection e with _ e2 _; omega
    · injection e with e2 _ _; exact ⟨g, e2⟩
  have hlen := h5.len
  have at_ : ∀ j u, (trC l k s a q x.len c1)[j]? = some u → W.cell? ⟨g, f.len * 5 + j, none⟩ = some u := fun j u hu => (own_cell5 h1 _ _ (by rw [List.getElem?_append_right (by omega)]; simpa [hlen] using hu)).1
  refine ⟨g, c, q, c1, rfl, hcap, at_ 0 _ rfl, at_ 1 _ rfl, at_ 2 _ rfl, at_ 3 _ rfl, at_ 4 _ rfl, h6, h7, h8, ⟨(ys ++ trC l k s a q x.len c1).take (f.len * 5), own_cutN h1 (by omega), ?_⟩⟩
  rw [← hlen, List.take_left]
  exact h5
end Go.Proofs.YtlifankiljbdjaaDoor
namespace Go.Proofs.YtlifankiljbdjaaDoor
open Go Go.RowKit Go.Shelf
attribute [local go_sem] Oper.semAt_some

theorem slice_top39 (W : World) (g n c k : Nat) (h2 : k ≤ c) :
    (Instr.slice 39 (.slice (some ⟨g, 0, none⟩) n c) none (some (.int .i64 (k : Int))) none).run Tryd.prog W = .ok (.slice (some ⟨g, 0, none⟩) k c) W := by
  obtain ⟨i5, hi5, _, hs5, _⟩ := info41
  have e1 : (0 : Int) ≤ (k : Int) := by omega
  have e3 : (k : Int) ≤ (c : Int) := by omega
  simp [Instr.slice, run_underlying Tryd.underlying39, Instr.sliceBounds, Instr.sliceBound, asIntOf, sizeOf, typeInfo, hi5, hs5, e1, e3, h2, Addr.add]
theorem size_app : ∀ u z : Fo, (u.app z).size = u.size + z.size
  | .nil, z => by simp [Fo.app, Fo.size]
  | .cons l k s a x r, z => by simp only [Fo.app, Fo.size, size_app r z]; omega
theorem len_app : ∀ u z : Fo, (u.app z).len = u.len + z.len
  | .nil, z => by simp [Fo.app, Fo.len]
  | .cons l k s a x r, z => by simp only [Fo.app, Fo.len, len_app r z]; omega
set_option maxRecDepth 100000 in
set_option maxHeartbeats 6400000 in
theorem parts_seq (n : Nat) (hn : 2 ≤ n) (Bn bS : Nat) (l : Bool) (k : Int) (s : ByteArray) (a : Int) (q : Option Addr) (c : Nat) (x : Fo) (w : World) (F : Nat → Prop)
    (c0 : w.cell? ⟨Bn, 0, none⟩ = some (.bool l)) (c1 : w.cell? ⟨Bn, 1, none⟩ = some (.int .u8 k)) (c2 : w.cell? ⟨Bn, 2, none⟩ = some (.string s)) (c3 : w.cell? ⟨Bn, 3, none⟩ = some (.int .i64 a)) (c4 : w.cell? ⟨Bn, 4, none⟩ = some (.slice q x.len c))
    (hx : FoIn w F x q) (hF : ∀ b, F b → b < w.heap.size ∧ b ≠ bS) (hbS : bS < w.heap.size) (hc : x.len ≤ c) (hnx : x.len ≤ 281474976710656) (hs : s.size ≤ 65536) (hz : szB 65536 x) (hsz : x.size ≤ 1099511627776) :
    SeqB Fence.wide n Tryd.prog 69 #[.pointer (some ⟨Bn, 0, none⟩)] (fun t : Tr => #[t.v]) (KpC bS) (fun ys => ys.map Tr.nd = partsF (.cons l k s a x .nil)) (fun pre => ∃ ds, pre.map Tr.nd ++ ds = partsF (.cons l k s a x .nil)) (x.size + 1) w := by
  intro lk J Jx W hW hJ hJx hY h0
  obtain ⟨i41, hi41, hz0, hz1, hz2⟩ := info41
  obtain ⟨T, hT⟩ : ∃ T, T = partsF (.cons l k s a x .nil) := ⟨_, rfl⟩
  have hTl : T.length = x.size + 1 := by rw [hT, parts_len]; simp [Fo.size]
  have hT0 : T = remF (.cons l k s a x .nil) := by rw [hT]; simp [partsF, remF]
  rw [← hT]
  have b0 := cell_later hW c0
  have b1 := cell_later hW c1
  have b2 := cell_later hW c2
  have b3 := cell_later hW c3
  have b4 := cell_later hW c4
  have hsW := hW.size
  have hx2 := hx.later hW
  -- the first stack
  obtain ⟨Wa, hWa⟩ : ∃ Wa, Wa = W.alloc (.cells #[.bool l, .int .u8 k, .string s, .int .i64 a, .slice q x.len c] 41) := ⟨_, rfl⟩
  have hba : Below W.heap.size W Wa := by rw [hWa]; exact below1 _ _
  have hst : StackAt Wa W.heap.size F (.slice (some ⟨W.heap.size, 0, none⟩) 1 1) (.cons l k s a x .nil) := by
    refine ⟨trC l k s a q x.len c, ⟨rfl, .inr ⟨W.heap.size, 1, #[.bool l, .int .u8 k, .string s, .int .i64 a, .slice q x.len c], rfl, Nat.le_refl _, by rw [hWa]; exact heap_alloc_new W _, Nat.le_refl _, by decide, rfl, rfl⟩⟩, q, c, [], by simp, hc, hnx, hx2.later hba, rfl⟩
  have HST := Lib.hid (And.intro hst (And.intro hba (And.intro hT0 (And.intro hTl (And.intro (show szB 65536 (.cons l k s a x .nil) from ⟨hs, hz, trivial⟩) (hJ _ _ _ h0 hba))))))
  have HF := Lib.hid hF
  have HY := Lib.hid hY
  have HJ := Lib.hid hJ
  have HSZ := Lib.hid (And.intro hsz (And.intro hsW hbS))
  clear hst hba hT hT0 hTl hx hx2 hF hY hJ hsz hsW hbS hs hz h0 c0 c1 c2 c3 c4 hW hnx hc
  have HJx := Lib.hid hJx
  clear hJx
  refine callsIn_of_wp Tryd.func69 rfl trivial ?_ rfl
  simp only [Tryd.ntmps69, List.size_toArray, List.length_cons, List.length_nil, Nat.reduceAdd, Nat.reduceSub, Array.replicate_succ, Array.replicate_zero, List.push_toArray, List.append_toArray, List.nil_append, List.cons_append]
  gi_wp2_with fail
  rw [← hWa]
  clear hWa
  gi_loopg [3, 4, 5] (x.size + 1) (fun gk p3 p4 p5 wr => ∃ (pre : List Tr) (f : Fo) (vv : Value), vv = p3 ∧ (remF f).length = gk ∧ Hid (StackAt wr W.heap.size F vv f ∧ szB 65536 f ∧ pre.map Tr.nd ++ remF f = T ∧ J pre wr ∧ W.heap.size ≤ wr.heap.size))
  case atStart =>
    refine ⟨[], .cons l k s a x .nil, _, rfl, by rw [← HST.out.2.2.1]; exact HST.out.2.2.2.1, Lib.hid ⟨HST.out.1, HST.out.2.2.2.2.1, by rw [← HST.out.2.2.1]; rfl, HST.out.2.2.2.2.2, HST.out.2.1.size⟩⟩
  case round =>
    obtain ⟨pre, f, vv, rfl, hk, HK⟩ := hrel
    obtain ⟨G0, hG0⟩ : ∃ g, g = gk := ⟨_, rfl⟩
    subst hG0
    obtain ⟨wA, hwA⟩ : ∃ w, w = wr := ⟨_, rfl⟩
    subst hwA
    obtain ⟨hst, hzf, hpre, hjs, hbw⟩ := HK.out
    have HG := Lib.hid hk
    have hfl : f.len ≤ 1099511627777 := by
      have h1 := remF_len f
      have h2 := congrArg List.length hpre
      rw [List.length_append, HST.out.2.2.2.1] at h2
      have := HSZ.out.1
      omega
    clear hk HK
    by_cases h0 : f.len = 0
    · obtain rfl := fo_len_zero h0
      obtain ⟨xs, hown, _⟩ := hst
      obtain ⟨p, cc, rfl, hp⟩ := own_shape hown
      have HP := Lib.hid (And.intro hpre hjs)
      clear hown hp hpre hjs hbw hzf hfl
      simp only [Fo.len]
      gi_wp2_with fail
      go_end0
      exact ⟨⟨_, rfl⟩, .inl ⟨pre, by have := HP.out.1; simpa [remF] using this, HP.out.2⟩⟩
    · obtain ⟨f0, l1, k1, s1, a1, x1, rfl⟩ := fo_last f (by omega)
      obtain ⟨g, cc, q1, cq1, rfl, hcc, e0, e1, e2, e3, e4, hn1, hm1, hx1, hst0⟩ := hst.last
      rw [szB_snoc] at hzf
      obtain ⟨hzf0, hs1, hzx1⟩ := hzf
      rw [Fo.len_snoc] at hfl
      have hlen : pre.length < x.size + 1 := by
        have h2 := congrArg List.length hpre
        rw [List.length_append, HST.out.2.2.2.1, remF_snoc, List.length_map, List.length_cons] at h2
        omega
      have hbx := below1 wA (.cells #[.bool l1, .int .u8 k1, .string s1, .int .i64 a1, .slice q1 x1.len cq1] 41)
      obtain ⟨fn, tmps, assign, body, hy, hR⟩ := HY.out pre ⟨l1, k1, s1, a1, q1, x1.len, cq1, hs1, hm1⟩ (wA.alloc (.cells #[.bool l1, .int .u8 k1, .string s1, .int .i64 a1, .slice q1 x1.len cq1] 41)) (HJ.out _ _ _ hjs (hbx.mono hbw)) hlen
      obtain ⟨m, hmf⟩ : ∃ m, m = f0.len := ⟨_, rfl⟩
      have hsl := fun w => slice_top39 w g (m + 1) cc m (by omega)
      obtain ⟨nd1, hnd1⟩ : ∃ nd1 : Tr, nd1 = ⟨l1, k1, s1, a1, q1, x1.len, cq1, hs1, hm1⟩ := ⟨_, rfl⟩
      have hndd : nd1.nd = ⟨l1, k1, s1, x1.len⟩ := by rw [hnd1]; rfl
      rw [← hnd1] at hR hy
      have hnv : (#[nd1.v] : Array Value) = #[.agg #[.bool l1, .int .u8 k1, .string s1, .int .i64 a1, .slice q1 x1.len cq1]] := by rw [hnd1]; rfl
      rw [hnv] at hy
      obtain ⟨N1, hN1⟩ : ∃ N1, N1 = x1.len := ⟨_, rfl⟩
      have HM := Lib.hid (And.intro hmf hN1)
      rw [← hmf] at e0 e1 e2 e3 e4 hst0 hcc hfl ⊢
      rw [← hN1] at e4 hn1 hm1 hy hR hbx
      have m1 : (m : Int) ≤ 1099511627777 := by omega
      have m2 : (0 : Int) < (m : Int) + 1 := by omega
      have n1 : (N1 : Int) ≤ 281474976710656 := by omega
      have HS0 := Lib.hid hst0
      have HX1 := Lib.hid (And.intro hx1 (And.intro hzf0 hzx1))
      have HPRE := Lib.hid (And.intro hpre hndd)
      have HBW := Lib.hid hbw
      have HBX := Lib.hid hbx
      have HFL := Lib.hid hfl
      have HR := Lib.hid hR
      clear hmf hN1 hst hst0 hx1 hzf0 hzx1 hpre hjs hbw hbx hlen hnv hnd1 hndd hR hfl hs1 hm1 hn1
      gi_wp2_with fail
      refine ⟨fun _ => by omega, ?_⟩
      refine HR.out.mono ?_
      rintro e W3 (⟨rfl, hJ3, hk3⟩ | ⟨rfl, hJx3⟩)
      · have hneb : wA.heap.size ≠ bS := by have := HBW.out; have := HSZ.out.2.1; have := HSZ.out.2.2; omega
        have y4 : W3.cell? ⟨wA.heap.size, 4, none⟩ = some (.slice q1 N1 cq1) := hk3.cell hneb (by simp [go_sem])
        have hst3 := (HS0.out.later HBX.out).kept hk3 (by have := HSZ.out.2.1; have := HSZ.out.2.2; omega) (fun b hb => (HF.out b hb).2)
        have hx3 : FoIn W3 F x1 q1 := FoIn.move (fun b _ _ hb hv => ⟨hk3.cell (HF.out b hb).2 hv, hb⟩) _ _ (HX1.out.1.later HBX.out)
        have hs3 : wA.heap.size < W3.heap.size := by have := hk3.1; simp at this; omega
        have htot : (partsF x1).length + (remF f0).length ≤ x.size + 1 := by
          have h2 := congrArg List.length HPRE.out.1
          rw [List.length_append, HST.out.2.2.2.1, remF_snoc, List.length_cons, List.length_append] at h2
          omega
        have HTOT := Lib.hid htot
        have hne0 : (Value.slice (some ⟨g, 0, none⟩) m cc).ownBlock ≠ some wA.heap.size := by intro e; have e : some g = some wA.heap.size := e; injection e with e; obtain ⟨xs0, hown0, _⟩ := HS0.out; have := (own_lt hown0 (k := g) rfl).2; omega
        have HNE := Lib.hid hne0
        clear hne0
        have HI := Lib.hid (And.intro hst3 (And.intro hx3 (And.intro hJ3 hs3)))
        clear hneb hst3 hx3 hJ3 htot hk3 hs3 hy HR HS0
        gi_wp2_with fail
        gi_loopg [3, 5] N1 (fun gk p3 p5 wx => ∃ (u r f' : Fo) (v' : Value) (j : Int), v' = p3 ∧ u.len = gk ∧ p5 = .int .i64 j ∧ j + 1 = (gk : Int) ∧ Hid (x1 = u.app r ∧ StackAt wx W.heap.size F v' f' ∧ remF f' = partsF r ++ remF f0 ∧ szB 65536 f' ∧ J (pre ++ [nd1]) wx ∧ wA.heap.size < wx.heap.size ∧ wx.cell? ⟨wA.heap.size, 4, none⟩ = some (.slice q1 N1 cq1) ∧ v'.ownBlock ≠ some wA.heap.size ∧ FoIn wx F x1 q1))
        case atStart =>
          refine ⟨x1, .nil, f0, _, _, rfl, HM.out.2.symm, rfl, by omega, Lib.hid ⟨(Fo.app_nil x1).symm, HI.out.1, rfl, HX1.out.2.1, HI.out.2.2.1, HI.out.2.2.2, y4, HNE.out, HI.out.2.1⟩⟩
        case round =>
          obtain ⟨u, r, f', v', j, rfl, hul, rfl, hj, HK⟩ := hrel
          obtain ⟨wB, hwB⟩ : ∃ w, w = wr := ⟨_, rfl⟩
          subst hwB
          obtain ⟨hxx, hst, hrm, hzf, hjs, hsB, y5, hne, hfx⟩ := HK.out
          clear HK y4
          cases gk with
          | zero =>
            obtain rfl : j = -1 := by omega
            obtain rfl := fo_len_zero hul
            have hr : x1 = r := hxx
            subst hr
            obtain ⟨G2, hG2⟩ : ∃ G2, G2 = (remF f').length := ⟨_, rfl⟩
            have HR2 := Lib.hid (And.intro hst (And.intro hrm (And.intro hzf (And.intro hjs (And.intro hsB hG2)))))
            have hlt : G2 < G0 := by
              rw [hG2, hrm]
              have h1 := HG.out
              rw [remF_snoc] at h1
              simp only [List.length_cons, List.length_append] at h1 ⊢
              omega
            clear hst hrm hzf hjs hsB hG2 hxx hne hfx hul
            gi_wp2_with fail
            gi_roundg G2
            case measure => exact hlt
            case rel =>
              refine ⟨pre ++ [nd1], f', _, rfl, HR2.out.2.2.2.2.2.symm, Lib.hid ⟨HR2.out.1, HR2.out.2.2.1, ?_, HR2.out.2.2.2.1, by have := HR2.out.2.2.2.2.1; have := HBW.out; omega⟩⟩
              rw [HR2.out.2.1, ← HPRE.out.1, remF_snoc, List.map_append, List.append_assoc]
              simp [HPRE.out.2]
          | succ K =>
            obtain rfl : j = (K : Int) := by omega
            obtain ⟨u', l2, k2, s2, a2, x2, rfl⟩ := fo_last u (by omega)
            rw [Fo.len_snoc] at hul
            have hK : u'.len = K := by omega
            rw [Fo.snoc_app] at hxx
            have hKN : K < N1 := by
              have h1 := congrArg Fo.len hxx
              rw [← HM.out.2, len_app] at h1
              simp only [Fo.len] at h1
              omega
            obtain ⟨bq, offq, rfl⟩ : ∃ b off, q1 = some ⟨b, off, none⟩ := hfx.some (by rw [← HM.out.2]; omega)
            have hfx2 : FoIn wB F (u'.app (.cons l2 k2 s2 a2 x2 r)) (pl (some ⟨bq, offq, none⟩) 0) := by rw [← hxx]; exact pl_zero hfx
            have hfx3 := foIn_app_at u' _ 0 hfx2
            rw [Nat.zero_add, hK] at hfx3
            obtain ⟨_, e0, e1, e2, e3, ⟨q3, cc3, e4, hc3, hm3, hx3⟩, _⟩ := FoIn.head hfx3
            have hz2' : s2.size ≤ 65536 ∧ szB 65536 x2 := by
              have h1 := HX1.out.2.2
              rw [hxx, szB_app] at h1
              exact ⟨h1.2.1, h1.2.2.1⟩
            have hfl2 : f'.len ≤ 1099511627777 := by
              have h1 := remF_len f'
              have h2 := HTOT.out
              rw [hrm, List.length_append] at h1
              have h3 : (partsF r).length ≤ (partsF x1).length := by
                rw [parts_len, parts_len, hxx, size_app]; simp only [Fo.size]; omega
              have := HSZ.out.1
              omega
            obtain ⟨xs, hown, hrow⟩ := hst
            have hown2 := own_later hown (below1 wB (.cells #[.bool l2, .int .u8 k2, .string s2, .int .i64 a2, .slice q3 x2.len cc3] 41))
            have HOWN := Lib.hid hown2
            have HOW := Lib.hid hown
            have hnx2 : x2.len ≤ x2.len := Nat.le_refl _
            obtain ⟨n2, hn2⟩ : ∃ n2, n2 = x2.len := ⟨_, rfl⟩
            rw [← hn2] at e4 HOWN hc3 hm3
            have HRR := Lib.hid (And.intro hrow (And.intro hx3 (And.intro hz2' (And.intro hn2 (And.intro hc3 hm3)))))
            have HII := Lib.hid (And.intro hxx (And.intro hrm (And.intro hzf (And.intro hjs (And.intro hsB (And.intro hK hfx))))))
            have HNE2 := Lib.hid hne
            have HFL2 := Lib.hid hfl2
            have i0 : (0 : Int) ≤ (K : Int) := by omega
            have i1 : (K : Int) < (N1 : Int) := by omega
            have hsW : W.heap.size ≤ wB.heap.size := by have := HBW.out; omega
            have HSW := Lib.hid hsW
            clear hxx hrm hzf hjs hsB hK hfx hfx2 hfx3 hown hown2 hrow hx3 hz2' hn2 hfl2 hne hul hc3 hm3 hnx2 hsW hKN
            gi_wp2_with (gi_at_builtin; refine wpListIn_append_at _ rfl _ _ 39 rfl W.heap.size 41 i41 Z41 5 64 Tryd.underlying39 hi41 hz0 hz1 hz2 rfl (by omega) v' f'.len xs rfl HOWN.out ⟨wB.heap.size, 0, none⟩ 1 1 (trC l2 k2 s2 a2 q3 n2 cc3) rfl rfl ?qa1 ?qa2 ?qa3 ?qa4 ?qa5 ?_)
            case qa1 =>
              intro jj u hjj
              rw [Lib.add_plain]
              match jj, hjj with
              | 0, hjj => cases hjj; simp [go_sem]
              | 1, hjj => cases hjj; simp [go_sem]
              | 2, hjj => cases hjj; simp [go_sem]
              | 3, hjj => cases hjj; simp [go_sem]
              | 4, hjj => cases hjj; simp [go_sem]
            case qa2 => intro u hu; simp [trC] at hu; rcases hu with rfl | rfl | rfl | rfl | rfl <;> rfl
            case qa3 => have := HFL2.out; have hml : maxLen = 9223372036854775807 := rfl; omega
            case qa4 => have := HFL2.out; omega
            case qa5 => have := HSW.out; simp; omega
            intro v2 w2 hown3 hg3 hloc3
            have hb2 : Below W.heap.size wB w2 := ((below1 wB _).mono HSW.out).trans ((Below.refl _ _).grown hg3 (by have := HSW.out; simp; omega) (fun k hk => (World.ownsRow.lt HOWN.out k hk).1))
            have ho2 := (Only.of_below (T := fun k => v'.ownBlock = some k) (below1 wB (.cells #[.bool l2, .int .u8 k2, .string s2, .int .i64 a2, .slice q3 n2 cc3] 41))).trans (Only.of_grown hg3)
            have hFv : ∀ b, F b → ¬ v'.ownBlock = some b := fun b hb e => by have h1 := (own_lt HOW.out e).1; have h2 := (HF.out b hb).1; have h3 := HSZ.out.2.1; omega
            have y6 := ho2.cell y5 HNE2.out
            have hrow2 : RowF w2 F (f'.snoc l2 k2 s2 a2 x2) (xs ++ trC l2 k2 s2 a2 q3 n2 cc3) := by
              have h1 := RowF.snoc (l := l2) (k := k2) (s := s2) (a := a2) (x := x2) (q := q3) (c := cc3) (by have := HRR.out.2.2.2.2.1; have := HRR.out.2.2.2.1; omega) (by have := HRR.out.2.2.2.2.2; have := HRR.out.2.2.2.1; omega) (HRR.out.2.1.only ho2 hFv) f' xs (HRR.out.1.only ho2 hFv)
              rw [← HRR.out.2.2.2.1] at h1
              exact h1
            have hst2 : StackAt w2 W.heap.size F v2 (f'.snoc l2 k2 s2 a2 x2) := ⟨_, by rw [Fo.len_snoc]; exact hown3, hrow2⟩
            have HFIN := Lib.hid (And.intro hst2 (And.intro (HJ.out _ _ _ HII.out.2.2.2.1 hb2) (And.intro hb2.size (And.intro y6 (HII.out.2.2.2.2.2.2.only ho2 hFv)))))
            have hne3 : v2.ownBlock ≠ some wA.heap.size := by
              rcases hloc3 with e | e
              · rw [e]; exact HNE2.out
              · rw [e]; intro e2; injection e2 with e2; have := HII.out.2.2.2.2.1; first | omega | (simp at e2; omega)
            have HNE3 := Lib.hid hne3
            clear hown3 hg3 hloc3 hb2 ho2 hFv y6 hrow2 hst2 hne3 HOWN HOW
            gi_wp2_with fail
            gi_roundg K
            case measure => omega
            case rel =>
              refine ⟨u', .cons l2 k2 s2 a2 x2 r, f'.snoc l2 k2 s2 a2 x2, v2, (K : Int) - 1, rfl, HII.out.2.2.2.2.2.1, by first | rfl | go_num, by omega, Lib.hid ⟨HII.out.1, HFIN.out.1, ?_, ?_, HFIN.out.2.1, ?_, HFIN.out.2.2.2.1, HNE3.out, HFIN.out.2.2.2.2⟩⟩
              · rw [remF_snoc, HII.out.2.1]; simp [partsF]
              · rw [szB_snoc]; exact ⟨HII.out.2.2.1, HRR.out.2.2.1.1, HRR.out.2.2.1.2⟩
              · have h1 := HII.out.2.2.2.2.1; have h2 := HFIN.out.2.2.1; omega
      · gi_wp2_with fail
        refine bodyPost_ret (results_none rfl _ _ _) rfl ?_
        exact ⟨⟨_, rfl⟩, .inr ⟨pre ++ [nd1], ⟨partsF x1 ++ remF f0, by rw [← HPRE.out.1, remF_snoc, List.map_append, List.append_assoc]; simp [HPRE.out.2]⟩, hJx3⟩⟩
end Go.Proofs.YtlifankiljbdjaaDoor
namespace Go.Proofs.YtlifankiljbdjaaDoor
open Go Go.RowKit Go.Shelf
attribute [local go_sem] Oper.semAt_some

theorem parts50 (l : Bool) (k : Int) (s : ByteArray) (a : Int) (q : Option Addr) (n c : Nat) (W : World) :
    Calls Tryd.prog 50 #[trV l k s a q n c] W fun e w' => e = .returned (.func (.func 69) #[] #[.pointer (some ⟨W.heap.size, 0, none⟩)]) ∧ w' = W.alloc (.cells #[.bool l, .int .u8 k, .string s, .int .i64 a, .slice q n c] 41) := by
  unfold trV
  go_enter Tryd.func50, Tryd.ntmps50
  go_wp2_with fail
  go_ret
  exact ⟨rfl, rfl⟩
def TextE (l : Bool) (k : Int) (s : ByteArray) (x : Fo) (W : World) (e : Ending) (w' : World) : Prop := ∃ (X : ByteArray) (er : Int), e = .returned (.tuple #[.string X, .int .i64 er]) ∧ (X.data.toList, er) = textR l k s x ∧ Below W.heap.size W w'
theorem keeps_below {W W' : World} (h : Below W.heap.size W W') : KeepsOthers W W' := ⟨h.size, fun k o ho _ => (h.block k (Array.getElem?_eq_some_iff.1 ho).1).trans ho⟩
theorem nodeW_le (d : Nd) (hs : d.s.size ≤ 65536) (hn : d.n ≤ 281474976710656) : nodeW d ≤ 281474976710700 := by
  unfold nodeW
  have h1 := rend_len d.k.toNat d.s.data.toList
  have h2 : d.s.data.toList.length = d.s.size := by simp
  split <;> omega
theorem okF_one (l : Bool) (k : Int) (s : ByteArray) (a : Int) (x : Fo) : okF (.cons l k s a x .nil) = okT l k s x := by simp [okF, okT]
theorem txtF_one (l : Bool) (k : Int) (s : ByteArray) (a : Int) (x : Fo) : txtF true (.cons l k s a x .nil) = txtT l k s x := by simp [txtF, txtT]
theorem txtT_len {l : Bool} {k : Int} {s : ByteArray} {x : Fo} (h : okT l k s x = true) : (txtT l k s x).length = wsum (partsF (.cons l k s 0 x .nil)) := by
  rw [← txtF_one l k s 0 x, txt_len _ true (by rw [okF_one]; exact h)]
  simp [Fo.len]
theorem own_bytes {w : World} {B n c : Nat} {p : Option Addr} {t : List UInt8} (h : w.ownsRow B 5 1 (.slice p n c) n (t.map u8v)) : t.length = n ∧ BytesIn w p t := by
  have hn : t.length = n := by have := h.1; simpa using this
  refine ⟨hn, fun i hi => ?_⟩
  obtain ⟨g, rfl⟩ : ∃ g, p = some ⟨g, 0, none⟩ := by
    rcases h.2 with ⟨e, _⟩ | ⟨g, _, _, e, _⟩
    · injection e with _ e2 _; omega
    · injection e with e2 _ _; exact ⟨g, e2⟩
  refine ⟨g, 0, rfl, ?_⟩
  rw [Nat.zero_add]
  exact (own_cell h i _ (by rw [List.getElem?_map, List.getElem?_eq_getElem hi]; rfl)).1
theorem conv_txt (W : World) (p : Option Addr) (c : Nat) (bs : List UInt8) (h : BytesIn W p bs) : (convert 22 9 (.slice p bs.length c)).run Tryd.prog W = .ok (.string ⟨bs.toArray⟩) W := by
  cases p with
  | none =>
    obtain rfl : bs = [] := by
      cases bs with
      | nil => rfl
      | cons x l => obtain ⟨b, off, e, _⟩ := h 0 (by simp); cases e
    exact run_convert_bytes_nil W 22 5 Tryd.underlying22 Tryd.underlying5 0 _ 9 Tryd.underlying9
  | some ad =>
    refine run_convert_bytes_back W 22 9 5 ad c bs Tryd.underlying22 Tryd.underlying5 Tryd.underlying9 fun j hj => ?_
    obtain ⟨b, off, e, hc⟩ := h j hj
    cases e
    rw [Lib.add_plain]; exact hc
/-- 'make([]byte, 0, n)'. -/
theorem make_bytes (W : World) (L : Nat) (hL : L ≤ 1048576) : ∃ M : Array Value, (Instr.makeSlice 22 (.int .i64 0) (.int .i64 (L : Int))).run Tryd.prog W = .ok (.slice (some ⟨W.heap.size, 0, none⟩) 0 L) (W.alloc (.cells M 5)) ∧ (W.alloc (.cells M 5)).ownsRow W.heap.size 5 1 (.slice (some ⟨W.heap.size, 0, none⟩) 0 L) 0 [] := by
  obtain ⟨i0, hi, hz0, hz1, hz2⟩ := info5
  have hMs : (madeCells (Value.int .u8 0).cells (((L : Nat) : Int).toNat * i0.size)).size = L := by rw [size_madeCells, hz1]; simp
  refine ⟨madeCells (Value.int .u8 0).cells (((L : Nat) : Int).toNat * i0.size), ?_, rfl, .inr ⟨W.heap.size, L, _, rfl, Nat.le_refl _, heap_alloc_new W _, Nat.zero_le _, by simp only [maxLen]; omega, by rw [hMs]; simp, by simp⟩⟩
  have h := run_make (P := Tryd.prog) W 22 5 i0 (.int .u8 0) Tryd.underlying22 hi hz0 .i64 .i64 0 (L : Int) (by omega) (by omega) (by rw [hz2]; omega) (by omega)
  simpa using h
theorem only_from {B : Nat} {A A' : World} (hb : Below B A A') : Only (fun j => B ≤ j) A A' := ⟨hb.os, hb.tape, hb.output, hb.size, fun k _ hn => hb.block k (Nat.lt_of_not_le hn)⟩
theorem put_two {V : World} {B2 B3 : Nat} (hne : B2 ≠ B3) {u2 u3 : Value} (c2 : V.cell? ⟨B2, 0, none⟩ = some u2) (c3 : V.cell? ⟨B3, 0, none⟩ = some u3) (v2 v3 : Value) :
    ((V.setCell ⟨B2, 0, none⟩ v2).setCell ⟨B3, 0, none⟩ v3).cell? ⟨B2, 0, none⟩ = some v2 ∧ ((V.setCell ⟨B2, 0, none⟩ v2).setCell ⟨B3, 0, none⟩ v3).cell? ⟨B3, 0, none⟩ = some v3 ∧ KeepsOthers V ((V.setCell ⟨B2, 0, none⟩ v2).setCell ⟨B3, 0, none⟩ v3) ∧
      (∀ B, B ≤ B2 → B ≤ B3 → Below B V ((V.setCell ⟨B2, 0, none⟩ v2).setCell ⟨B3, 0, none⟩ v3)) ∧ Only (fun j => j = B2 ∨ j = B3) V ((V.setCell ⟨B2, 0, none⟩ v2).setCell ⟨B3, 0, none⟩ v3) := by
  have h1 : (V.setCell ⟨B2, 0, none⟩ v2).cell? ⟨B2, 0, none⟩ = some v2 := World.cell?_setCell_same _ _ _ c2
  have h2 : (V.setCell ⟨B2, 0, none⟩ v2).cell? ⟨B3, 0, none⟩ = some u3 := (World.cell?_setCell_other _ _ _ _ (by intro e; cases e; exact hne rfl)).trans c3
  refine ⟨(World.cell?_setCell_other _ _ _ _ (by intro e; cases e; exact hne rfl)).trans h1, World.cell?_setCell_same _ _ _ h2, (KeepsOthers.setCell _ _ _).trans (KeepsOthers.setCell _ _ _), fun B hB2 hB3 => ?_, ?_⟩
  · exact ((Below.refl B V).setCell (p := ⟨B2, 0, none⟩) hB2 _).setCell (p := ⟨B3, 0, none⟩) hB3 _
  · exact ((Only.of_setCell V ⟨B2, 0, none⟩ v2).mono (fun k _ e => Or.inl e)).trans ((Only.of_setCell _ ⟨B3, 0, none⟩ v3).mono (fun k _ e => Or.inr e))
theorem fin_two {W E : World} {D B B2 B3 : Nat} {v2 v3 : Value} (k2 : E.heap[D]? = some (.deferred (some []))) (c2 : E.cell? ⟨B2, 0, none⟩ = some v2) (c3 : E.cell? ⟨B3, 0, none⟩ = some v3) (hb : Below B W E) (hD : B ≤ D) :
    (E.putObj D (.deferred none)).cell? ⟨B2, 0, none⟩ = some v2 ∧ (E.putObj D (.deferred none)).cell? ⟨B3, 0, none⟩ = some v3 ∧ Below B W (E.putObj D (.deferred none)) :=
  ⟨cell_kept c2 (grownBy_putObj' E D (.deferred none)) (fun r e => by cases e; exact ⟨_, k2, rfl⟩), cell_kept c3 (grownBy_putObj' E D (.deferred none)) (fun r e => by cases e; exact ⟨_, k2, rfl⟩), hb.trans (below_put E D _ _ hD k2)⟩
set_option maxRecDepth 100000 in
set_option maxHeartbeats 6400000 in
theorem text29 (l : Bool) (k : Int) (s : ByteArray) (a : Int) (q : Option Addr) (c : Nat) (x : Fo) (W : World) (F0 : Nat → Prop) (hx0 : FoIn W F0 x q) (hc : x.len ≤ c) (hn : x.len ≤ 281474976710656) (hs : s.size ≤ 65536) (hz : szB 65536 x) (hsz : x.size ≤ 1099511627776) (hm : MaxAt W) :
    Calls Tryd.prog 29 #[trV l k s a q x.len c] W (TextE l k s x W) := by
  obtain ⟨F, hFd⟩ : ∃ F : Nat → Prop, F = fun b => b < W.heap.size := ⟨_, rfl⟩
  have hx : FoIn W F x q := hx0.mono (fun b _ hb => by rw [hFd]; exact hb)
  have hp := parts50 l k s a q x.len c ((((W.alloc (.cells #[.bool l, .int .u8 k, .string s, .int .i64 a, .slice q x.len c] 41)).alloc (.cells #[.string ⟨#[]⟩] 9)).alloc (.cells #[.int .i64 0] 25)).alloc (.cells #[.int .i64 0] 3))
  unfold trV at hp ⊢
  have HP := Lib.hid hp
  clear hp hx0
  refine (callsIn_wide (n := 9)).1 ?_
  refine callsIn_of_wp_marks Tryd.func29 rfl trivial ?_ rfl
  simp only [Tryd.ntmps29, List.size_toArray, List.length_cons, List.length_nil, Nat.reduceAdd, Nat.reduceSub, Array.replicate_succ, Array.replicate_zero, List.push_toArray, List.append_toArray, List.nil_append, List.cons_append]
  gi_wp2_with fail
  first
    | (refine ⟨trivial, ?_⟩; gi_at_call 50)
    | gi_at_call 50
  refine (callsIn_wide.2 HP.out).mono ?_
  rintro e w' ⟨rfl, rfl⟩
  clear HP
  gi_wp2_with fail
  obtain ⟨N, hN⟩ : ∃ N, N = x.len := ⟨_, rfl⟩
  rw [← hN]
  obtain ⟨W5, hW5⟩ : ∃ W5, W5 = (((((W.alloc (.cells #[.bool l, .int .u8 k, .string s, .int .i64 a, .slice q N c] 41)).alloc (.cells #[.string ⟨#[]⟩] 9)).alloc (.cells #[.int .i64 0] 25)).alloc (.cells #[.int .i64 0] 3)).alloc (.cells #[.bool l, .int .u8 k, .string s, .int .i64 a, .slice q N c] 41)) := ⟨_, rfl⟩
  rw [← hW5]
  have hb5 : Below W.heap.size W W5 := by rw [hW5]; exact (((((Below.refl _ W).alloc (Nat.le_refl _) _).alloc (by simp) _).alloc (by first | (simp; done) | (simp; omega)) _).alloc (by first | (simp; done) | (simp; omega)) _).alloc (by first | (simp; done) | (simp; omega)) _
  have hs5 : W5.heap.size = W.heap.size + 5 := by rw [hW5]; simp
  obtain ⟨B1, hB1⟩ : ∃ B, B = W.heap.size := ⟨_, rfl⟩
  obtain ⟨B2, hB2⟩ : ∃ B, B = W.heap.size + 1 := ⟨_, rfl⟩
  obtain ⟨B3, hB3⟩ : ∃ B, B = W.heap.size + 1 + 1 := ⟨_, rfl⟩
  obtain ⟨BS, hBS⟩ : ∃ B, B = W.heap.size + 1 + 1 + 1 := ⟨_, rfl⟩
  obtain ⟨BN, hBN⟩ : ∃ B, B = W.heap.size + 1 + 1 + 1 + 1 := ⟨_, rfl⟩
  have a0 : W5.cell? ⟨B1, 0, none⟩ = some (.bool l) := by rw [hB1, hW5]; simp [go_sem]
  have a1 : W5.cell? ⟨B1, 1, none⟩ = some (.int .u8 k) := by rw [hB1, hW5]; simp [go_sem]
  have a2 : W5.cell? ⟨B1, 2, none⟩ = some (.string s) := by rw [hB1, hW5]; simp [go_sem]
  have a3 : W5.cell? ⟨B1, 3, none⟩ = some (.int .i64 a) := by rw [hB1, hW5]; simp [go_sem]
  have a4 : W5.cell? ⟨B1, 4, none⟩ = some (.slice q N c) := by rw [hB1, hW5]; simp [go_sem]
  have n0 : W5.cell? ⟨BN, 0, none⟩ = some (.bool l) := by rw [hBN, hW5]; simp [go_sem]
  have n1 : W5.cell? ⟨BN, 1, none⟩ = some (.int .u8 k) := by rw [hBN, hW5]; simp [go_sem]
  have n2 : W5.cell? ⟨BN, 2, none⟩ = some (.string s) := by rw [hBN, hW5]; simp [go_sem]
  have n3 : W5.cell? ⟨BN, 3, none⟩ = some (.int .i64 a) := by rw [hBN, hW5]; simp [go_sem]
  have n4 : W5.cell? ⟨BN, 4, none⟩ = some (.slice q x.len c) := by rw [← hN, hBN, hW5]; simp [go_sem]
  have c2 : W5.cell? ⟨B2, 0, none⟩ = some (.string ⟨#[]⟩) := by rw [hB2, hW5]; simp [go_sem]
  have f2 : W5.frozen? ⟨B2, 0, none⟩ = false := by rw [hB2, hW5]; simp [go_sem]
  have c3 : W5.cell? ⟨B3, 0, none⟩ = some (.int .i64 0) := by rw [hB3, hW5]; simp [go_sem]
  have f3 : W5.frozen? ⟨B3, 0, none⟩ = false := by rw [hB3, hW5]; simp [go_sem]
  have c4 : W5.cell? ⟨BS, 0, none⟩ = some (.int .i64 0) := by rw [hBS, hW5]; simp [go_sem]
  have f4 : W5.frozen? ⟨BS, 0, none⟩ = false := by rw [hBS, hW5]; simp [go_sem]
  rw [← hBN, ← hBS, ← hB3, ← hB2, ← hB1]
  have HB := Lib.hid (And.intro hB1 (And.intro hB2 (And.intro hB3 (And.intro hBS (And.intro hBN hs5)))))
  have HA := Lib.hid (And.intro a0 (And.intro a1 (And.intro a2 (And.intro a3 (And.intro a4 hN)))))
  have HC := Lib.hid (And.intro c2 (And.intro f2 (And.intro c3 f3)))
  have HM := Lib.hid (hm.later hb5)
  have HB5 := Lib.hid hb5
  have HX := Lib.hid (hx.later hb5)
  have HH := Lib.hid (And.intro hc (And.intro hn (And.intro hs (And.intro hz hsz))))
  have hseq := parts_seq (9 - 1) (by omega) BN BS l k s a q c x W5 F n0 n1 n2 n3 n4 HX.out (fun b hb => by rw [hFd] at hb; have hb : b < W.heap.size := hb; omega) (by omega) hc hn hs hz hsz
  have HSEQ := Lib.hid hseq
  clear hW5 hB1 hB2 hB3 hBS hBN hs5 a0 a1 a2 a3 a4 n0 n1 n2 n3 n4 c2 f2 c3 f3 hm hb5 hx hN hseq hz
  have n12 : (N : Int) ≤ 281474976710656 := by have := HH.out.2.1; have := HA.out.2.2.2.2.2; omega
  refine range_below rfl (by omega) (gf := 69) (lb := #[.pointer (some ⟨BN, 0, none⟩)]) rfl trivial (enters_of Tryd.func69 (by kernel_rfl) rfl) HSEQ.out (fun h k => h.trans k) (fun W l o o' _ h hc => KpC.put W l o o' h hc) (fun _ => rfl)
    (fun pre V => Only (fun j => j = BS) W5 V ∧ V.cell? ⟨BS, 0, none⟩ = some (.int .i64 (szF 0 (pre.map Tr.nd) : Int)) ∧ V.frozen? ⟨BS, 0, none⟩ = false ∧ (∀ t ∈ pre, nodeB t.nd = true))
    (fun cc pre V => cc = .ret ∧ Only (fun j => j = B2 ∨ j = B3 ∨ j = BS) W5 V ∧ V.cell? ⟨B2, 0, none⟩ = some (.string ⟨#[]⟩) ∧ V.cell? ⟨B3, 0, none⟩ = some (.int .i64 5) ∧ (∃ t ∈ pre, nodeB t.nd = false))
    ?hI ?hIx ?h0
    (fun t a' V => ∃ Bx, W5.heap.size ≤ Bx ∧ (V.cell? ⟨Bx, 0, none⟩ = some (.bool t.l) ∧ V.cell? ⟨Bx, 1, none⟩ = some (.int .u8 t.k) ∧ V.cell? ⟨Bx, 2, none⟩ = some (.string t.s) ∧ V.cell? ⟨Bx, 3, none⟩ = some (.int .i64 t.a) ∧ V.cell? ⟨Bx, 4, none⟩ = some (.slice t.q t.n t.c)) ∧
      a' = { tmps := #[.agg #[.bool l, .int .u8 k, .string s, .int .i64 a, .slice q N c], .pointer (some ⟨B1, 0, none⟩), .pointer (some ⟨B2, 0, none⟩), .pointer (some ⟨B3, 0, none⟩), .pointer (some ⟨BS, 0, none⟩), .pointer (some ⟨Bx, 0, none⟩), undef, undef, undef, .agg #[.bool l, .int .u8 k, .string s, .int .i64 a, .slice q N c], .func (.func 69) #[] #[.pointer (some ⟨BN, 0, none⟩)], .agg #[.bool t.l, .int .u8 t.k, .string t.s, .int .i64 t.a, .slice t.q t.n t.c], undef, undef, undef, undef, undef, undef, undef, undef, undef, undef, undef, undef, undef, undef, undef, undef, undef, undef, undef, undef, undef, undef, undef], defers := [] })
    ?hAx ?assign ?body ?done ?stop
  case hI =>
    rintro pre A A' ⟨h1, h2, h3, h4⟩ hb
    have hlt : BS < W5.heap.size := by have := HB.out; omega
    exact ⟨h1.trans2 (only_from hb) (fun j hj => .inr hj), (hb.cell (p := ⟨BS, 0, none⟩) hlt).trans h2, (hb.frozen (p := ⟨BS, 0, none⟩) hlt).trans h3, h4⟩
  case hIx =>
    rintro cc pre A A' ⟨h0, h1, h2, h3, h4⟩ hb
    have hlt2 : B2 < W5.heap.size := by have := HB.out; omega
    have hlt3 : B3 < W5.heap.size := by have := HB.out; omega
    exact ⟨h0, h1.trans2 (only_from hb) (fun j hj => .inr hj), (hb.cell (p := ⟨B2, 0, none⟩) hlt2).trans h2, (hb.cell (p := ⟨B3, 0, none⟩) hlt3).trans h3, h4⟩
  case h0 => exact ⟨Only.refl _ _, c4, f4, fun t ht => by cases ht⟩
  case hAx =>
    rintro t a' V l' o o' _ ⟨Bx, hBx, ⟨d0, d1, d2, d3, d4⟩, rfl⟩ ho hc'
    have hk : ∀ (j : Nat) (v : Value), V.cell? ⟨Bx, j, none⟩ = some v → (V.putObj l' o').cell? ⟨Bx, j, none⟩ = some v := fun j v h => cell_kept h (grownBy_putObj' V l' o') (fun r e => by cases e; exact ⟨o, ho, hc'⟩)
    exact ⟨Bx, hBx, ⟨hk _ _ d0, hk _ _ d1, hk _ _ d2, hk _ _ d3, hk _ _ d4⟩, rfl⟩
  case assign =>
    rintro lk pre t V K ⟨h1, h2, h3, h4⟩ hK
    have hI2 : Only (fun j => j = BS) W5 (V.alloc (.cells #[.bool t.l, .int .u8 t.k, .string t.s, .int .i64 t.a, .slice t.q t.n t.c] 41)) ∧ (V.alloc (.cells #[.bool t.l, .int .u8 t.k, .string t.s, .int .i64 t.a, .slice t.q t.n t.c] 41)).cell? ⟨BS, 0, none⟩ = some (.int .i64 (szF 0 (pre.map Tr.nd) : Int)) ∧ (V.alloc (.cells #[.bool t.l, .int .u8 t.k, .string t.s, .int .i64 t.a, .slice t.q t.n t.c] 41)).frozen? ⟨BS, 0, none⟩ = false ∧ (∀ t ∈ pre, nodeB t.nd = true) := by
      have hb := below1 V (.cells #[.bool t.l, .int .u8 t.k, .string t.s, .int .i64 t.a, .slice t.q t.n t.c] 41)
      exact ⟨h1.trans (Only.of_below hb), cell_later hb h2, (hb.frozen (p := ⟨BS, 0, none⟩) (World.block_lt_of_cell? V _ h2)).trans h3, h4⟩
    have HI2 := Lib.hid hI2
    have HKK := Lib.hid hK
    have hsz1 := h1.size
    clear hI2 hK h1 h2 h3 h4
    unfold Tr.v trV
    gi_wp2_with fail
    exact HKK.out _ _ (KeepsOthers.alloc _ _) (KpC.of_only (Only.of_below (below1 _ _))) HI2.out ⟨V.heap.size, hsz1, ⟨by simp [go_sem], by simp [go_sem], by simp [go_sem], by simp [go_sem], by simp [go_sem]⟩, rfl⟩
  case body =>
    rintro lk pre t a' V ⟨h1, h2, h3, h4⟩ ⟨Bx, hBx, ⟨d0, d1, d2, d3, d4⟩, rfl⟩ hlen
    have hmV : MaxAt V := by obtain ⟨m, hm⟩ := HM.out; exact ⟨m, h1.cell hm (by have := HB.out; show ¬ (0 : Nat) = BS; omega)⟩
    have hw := written51 t.l t.k t.s t.a t.q t.n t.c V t.hs t.hn hmV
    unfold trV at hw
    have hsf : szF 0 (pre.map Tr.nd) ≤ 1048576 + 281474976710700 := szF_le _ _ _ (fun d hd => by obtain ⟨t', _, rfl⟩ := List.mem_map.1 hd; exact nodeW_le _ t'.hs t'.hn) (by omega)
    obtain ⟨SZ, hSZ⟩ : ∃ SZ, SZ = szF 0 (pre.map Tr.nd) := ⟨_, rfl⟩
    rw [← hSZ] at h2 hsf
    have hy0 := nodeW_le t.nd t.hs t.hn
    have hlt2 : B2 < W5.heap.size := by have := HB.out; omega
    have hlt3 : B3 < W5.heap.size := by have := HB.out; omega
    have e2 := h1.cell HC.out.1 (by have := HB.out; show ¬ B2 = BS; omega)
    have g2 := (h1.frozen (a := ⟨B2, 0, none⟩) hlt2 (by have := HB.out; show ¬ B2 = BS; omega)).trans HC.out.2.1
    have e3 := h1.cell HC.out.2.2.1 (by have := HB.out; show ¬ B3 = BS; omega)
    have g3 := (h1.frozen (a := ⟨B3, 0, none⟩) hlt3 (by have := HB.out; show ¬ B3 = BS; omega)).trans HC.out.2.2.2
    have hV2 : B2 < V.heap.size := World.block_lt_of_cell? V _ e2
    have hV3 : B3 < V.heap.size := World.block_lt_of_cell? V _ e3
    have hVS : BS < V.heap.size := World.block_lt_of_cell? V _ h2
    have HW := Lib.hid hw
    have HI := Lib.hid (And.intro h1 (And.intro h4 hSZ))
    have HV := Lib.hid (And.intro hV2 (And.intro hV3 hVS))
    have HC1 := Lib.hid (And.intro e2 (And.intro g2 (And.intro e3 (And.intro g3 (And.intro h2 h3)))))
    clear hw h1 h2 h3 h4 hSZ hmV e2 g2 e3 g3 hV2 hV3 hVS hlt2 hlt3 hlen hBx
    have s1 : (SZ : Int) ≤ 281474977759276 := by omega
    gi_wp2_with fail
    first
      | (refine ⟨trivial, ?_⟩; gi_at_call 51)
      | gi_at_call 51
    refine (CallsIn.inRound lk (callsIn_wide.2 HW.out)).mono ?_
    rintro e w1 ⟨y, rfl, hy, hb1⟩
    have e2 := cell_later hb1 HC1.out.1
    have g2 := (hb1.frozen (p := ⟨B2, 0, none⟩) HV.out.1).trans HC1.out.2.1
    have e3 := cell_later hb1 HC1.out.2.2.1
    have g3 := (hb1.frozen (p := ⟨B3, 0, none⟩) HV.out.2.1).trans HC1.out.2.2.2.1
    have h2 := cell_later hb1 HC1.out.2.2.2.2.1
    have h3 := (hb1.frozen (p := ⟨BS, 0, none⟩) HV.out.2.2).trans HC1.out.2.2.2.2.2
    have HB1 := Lib.hid hb1
    have hnd : (⟨t.l, t.k, t.s, t.n⟩ : Nd) = t.nd := rfl
    rw [hnd] at hy ⊢
    clear hb1 HW hnd d0 d1 d2 d3 d4
    cases hB : nodeB t.nd with
    | false =>
      rw [hB] at hy
      have HBB := Lib.hid hB
      have hp2 := put_two (V := w1) (B2 := B2) (B3 := B3) (by have := HB.out; omega) e2 e3 (.string ⟨#[]⟩) (.int .i64 5)
      have HP2 := Lib.hid hp2
      have x3 : (w1.setCell ⟨B2, 0, none⟩ (.string ⟨#[]⟩)).cell? ⟨B3, 0, none⟩ = some (.int .i64 0) := (World.cell?_setCell_other _ _ _ _ (by intro e; cases e; have := HB.out; omega)).trans e3
      have y3 : (w1.setCell ⟨B2, 0, none⟩ (.string ⟨#[]⟩)).frozen? ⟨B3, 0, none⟩ = false := by rw [World.frozen?_setCell]; exact g3
      clear hp2 hB hy
      gi_wp2_with fail
      exact ⟨(keeps_below HB1.out).trans HP2.out.2.2.1, rfl, ((HI.out.1.trans (Only.of_below HB1.out)).mono (fun k _ e => Or.inr (Or.inr e))).trans (HP2.out.2.2.2.2.mono (fun k _ e => e.elim Or.inl (fun h => Or.inr (Or.inl h)))), HP2.out.1, HP2.out.2.1, t, by simp, HBB.out⟩
    | true =>
      have hY : y = nodeW t.nd := hy hB
      have HBB := Lib.hid hB
      rw [← hY] at hy0
      have HY := Lib.hid hY
      clear hY
      have s2 : (y : Int) ≤ 281474976710700 := by omega
      have hall : ∀ t' ∈ pre ++ [t], nodeB t'.nd = true := fun t' ht' => by
        rcases List.mem_append.1 ht' with h | h
        · exact HI.out.2.1 t' h
        · rw [List.mem_singleton] at h; rw [h]; exact HBB.out
      have hnx : szF 0 ((pre ++ [t]).map Tr.nd) = if SZ ≤ 1048576 then SZ + y else SZ := by rw [List.map_append, HI.out.2.2, HY.out]; exact szF_snoc _ _ _
      have hO := HI.out.1.trans (Only.of_below HB1.out)
      have HO := Lib.hid (And.intro hO (And.intro hall hnx))
      clear hB hy hall hnx hO
      by_cases hle : SZ ≤ 1048576
      · have s3 : (SZ : Int) ≤ 1048576 := by omega
        have hsame : (w1.setCell ⟨BS, 0, none⟩ (.int .i64 ((SZ : Int) + (y : Int)))).cell? ⟨BS, 0, none⟩ = some (.int .i64 ((SZ : Int) + (y : Int))) := World.cell?_setCell_same _ _ _ h2
        have hfz : (w1.setCell ⟨BS, 0, none⟩ (.int .i64 ((SZ : Int) + (y : Int)))).frozen? ⟨BS, 0, none⟩ = false := by rw [World.frozen?_setCell]; exact h3
        have HSA := Lib.hid (And.intro hsame hfz)
        have HLE := Lib.hid hle
        clear hsame hfz hle
        gi_wp2_with fail
        refine ⟨(keeps_below HB1.out).trans (KeepsOthers.setCell _ _ _), KpC.of_only (((Only.of_below HB1.out)).trans (Only.of_setCell _ ⟨BS, 0, none⟩ _)), HO.out.1.trans (Only.of_setCell _ ⟨BS, 0, none⟩ _), ?_, HSA.out.2, HO.out.2.1⟩
        rw [HO.out.2.2, if_pos HLE.out, HSA.out.1]
        simp
      · have s3 : ¬ (SZ : Int) ≤ 1048576 := by omega
        have s4 : decide ((SZ : Int) ≤ 1048576) = false := by simpa using s3
        have HLE := Lib.hid hle
        clear hle
        gi_wp2_with fail
        refine ⟨keeps_below HB1.out, KpC.of_only (Only.of_below HB1.out), HO.out.1, ?_, h3, HO.out.2.1⟩
        rw [HO.out.2.2, if_neg HLE.out]
        exact h2
  case done =>
    rintro D ys V hD hS ⟨h1, h2, h3, h4⟩ hK
    have hok : okT l k s x = true := by
      rw [← okF_one l k s a x, okF_parts, ← hS, List.all_eq_true]
      intro d hd
      obtain ⟨t, ht, rfl⟩ := List.mem_map.1 hd
      exact h4 t ht
    obtain ⟨SZ, hSZ⟩ : ∃ SZ, SZ = szF 0 (ys.map Tr.nd) := ⟨_, rfl⟩
    rw [← hSZ] at h2
    have hpl : partsF (.cons l k s 0 x .nil) = partsF (.cons l k s a x .nil) := rfl
    have hlen : (txtT l k s x).length = wsum (ys.map Tr.nd) := by rw [txtT_len hok, hpl, hS]
    have hsp := szF_spec (ys.map Tr.nd) 0
    rw [Nat.zero_add, ← hlen, ← hSZ] at hsp
    have hbd : SZ ≤ 1048576 + 281474976710700 := by rw [hSZ]; exact szF_le _ _ _ (fun d hd => by obtain ⟨t', _, rfl⟩ := List.mem_map.1 hd; exact nodeW_le _ t'.hs t'.hn) (by omega)
    have hlt2 : B2 < W5.heap.size := by have := HB.out; omega
    have hlt3 : B3 < W5.heap.size := by have := HB.out; omega
    have e2 := h1.cell HC.out.1 (by have := HB.out; show ¬ B2 = BS; omega)
    have g2 := (h1.frozen (a := ⟨B2, 0, none⟩) hlt2 (by have := HB.out; show ¬ B2 = BS; omega)).trans HC.out.2.1
    have e3 := h1.cell HC.out.2.2.1 (by have := HB.out; show ¬ B3 = BS; omega)
    have g3 := (h1.frozen (a := ⟨B3, 0, none⟩) hlt3 (by have := HB.out; show ¬ B3 = BS; omega)).trans HC.out.2.2.2
    have a0 := h1.cell HA.out.1 (by have := HB.out; show ¬ B1 = BS; omega)
    have a1 := h1.cell HA.out.2.1 (by have := HB.out; show ¬ B1 = BS; omega)
    have a2 := h1.cell HA.out.2.2.1 (by have := HB.out; show ¬ B1 = BS; omega)
    have a3 := h1.cell HA.out.2.2.2.1 (by have := HB.out; show ¬ B1 = BS; omega)
    have a4 := h1.cell HA.out.2.2.2.2.1 (by have := HB.out; show ¬ B1 = BS; omega)
    have hmV : MaxAt V := by obtain ⟨m, hm⟩ := HM.out; exact ⟨m, h1.cell hm (by have := HB.out; show ¬ (0 : Nat) = BS; omega)⟩
    have hxV : FoIn V F x q := HX.out.only h1 (fun b hb => by rw [hFd] at hb; have hb : b < W.heap.size := hb; have := HB.out; omega)
    have hbV : Below W.heap.size W V := HB5.out.trans (h1.below (fun j hj => by have := HB.out; omega) HB5.out.size)
    have hdp := depth31 l k s a q c x V F hxV HH.out.1 HH.out.2.1
    rw [← HA.out.2.2.2.2.2] at hdp
    unfold trV at hdp
    have hDV : D < V.heap.size := by
      rcases Nat.lt_or_ge D V.heap.size with h | h
      · exact h
      · rw [Array.getElem?_eq_none h] at hK; cases hK
    have HDD := Lib.hid (show W.heap.size ≤ D by have := HB.out; omega)
    have HDP := Lib.hid hdp
    have HK := Lib.hid (And.intro hK hDV)
    have HFA := Lib.hid (And.intro hok (And.intro hsp (And.intro hxV (And.intro hmV hbV))))
    have hdle := depT_le l x 201
    obtain ⟨DP, hDP⟩ : ∃ DP, DP = depT l x 201 := ⟨_, rfl⟩
    rw [← hDP] at hdle HDP
    have HDPE := Lib.hid hDP
    have w1' : (DP : Int) ≤ 201 := by omega
    have w2' : (SZ : Int) ≤ 281474977759276 := by omega
    have HALL := Lib.hid (And.intro e2 (And.intro g2 (And.intro e3 (And.intro g3 (And.intro h2 (And.intro a0 (And.intro a1 (And.intro a2 (And.intro a3 a4)))))))))
    have HLT := Lib.hid (And.intro (World.block_lt_of_cell? V _ e2) (World.block_lt_of_cell? V _ e3))
    clear hok hSZ hpl hlen hsp hbd hlt2 hlt3 hmV hxV hbV hdp hDV hDP hdle h1 h3 h4 hS hK hD
    gi_wp2_with fail
    first
      | (refine ⟨trivial, ?_⟩; gi_at_call 31)
      | gi_at_call 31
    refine (callsIn_wide.2 HDP.out).mono ?_
    rintro e w1 ⟨rfl, hb1⟩
    clear e2 g2 e3 g3 h2 a0 a1 a2 a3 a4
    have e2 := cell_later hb1 HALL.out.1
    have g2 := (hb1.frozen (p := ⟨B2, 0, none⟩) HLT.out.1).trans HALL.out.2.1
    have e3 := cell_later hb1 HALL.out.2.2.1
    have g3 := (hb1.frozen (p := ⟨B3, 0, none⟩) HLT.out.2).trans HALL.out.2.2.2.1
    have h2 := cell_later hb1 HALL.out.2.2.2.2.1
    have a0 := cell_later hb1 HALL.out.2.2.2.2.2.1
    have a1 := cell_later hb1 HALL.out.2.2.2.2.2.2.1
    have a2 := cell_later hb1 HALL.out.2.2.2.2.2.2.2.1
    have a3 := cell_later hb1 HALL.out.2.2.2.2.2.2.2.2.1
    have a4 := cell_later hb1 HALL.out.2.2.2.2.2.2.2.2.2
    have HBV := Lib.hid (HFA.out.2.2.2.2.trans (hb1.mono HFA.out.2.2.2.2.size))
    have HK1 := Lib.hid ((hb1.block D HK.out.2).trans HK.out.1)
    have HFX := Lib.hid (And.intro (HFA.out.2.2.1.later hb1) (HFA.out.2.2.2.1.later hb1))
    have x3 : ∀ X : ByteArray, (w1.setCell ⟨B2, 0, none⟩ (.string X)).cell? ⟨B3, 0, none⟩ = some (.int .i64 0) := fun X => (World.cell?_setCell_other _ _ _ _ (by intro e; cases e; have := HB.out; omega)).trans e3
    have y3 : ∀ X : ByteArray, (w1.setCell ⟨B2, 0, none⟩ (.string X)).frozen? ⟨B3, 0, none⟩ = false := fun X => by rw [World.frozen?_setCell]; exact g3
    clear hb1 HALL HLT HK HDP
    by_cases hd : 200 < DP
    · have hd1 : (200 : Int) < (DP : Int) := by omega
      have hR : textR l k s x = ([], 40) := by
        unfold textR
        rw [if_neg (by rw [HFA.out.1]; decide), if_pos (by rw [← HDPE.out]; exact hd)]
      have HRR := Lib.hid hR
      clear hR hd
      have hp2 := put_two (V := w1) (B2 := B2) (B3 := B3) (by have := HB.out; omega) e2 e3 (.string ⟨#[]⟩) (.int .i64 40)
      have kE := hp2.2.2.1.same D _ HK1.out rfl
      have hbE := (HBV.out).trans (hp2.2.2.2.1 W.heap.size (by have := HB.out; omega) (by have := HB.out; omega))
      have hf := fin_two kE hp2.1 hp2.2.1 hbE (by have := HDD.out; have := HB.out; omega)
      have KE := Lib.hid kE
      have HFF := Lib.hid hf
      clear hp2 kE hbE hf
      gi_wp2_with fail
      refine ⟨by simp, .inl ⟨_, _, rfl, run_takeDeferred KE.out, ?_⟩⟩
      obtain ⟨hc2, hc3, hbF⟩ := HFF.out
      generalize World.putObj _ D (.deferred none) = E2 at *
      refine ⟨.tuple #[.string ⟨#[]⟩, .int .i64 40], ?_, ⟨#[]⟩, 40, rfl, (by rw [HRR.out]), hbF⟩
      simp [results, Tryd.results29, Tryd.f29, go_sem, hc2, hc3]
    have hd1 : ¬ (200 : Int) < (DP : Int) := by omega
    by_cases hL : 1048576 < SZ
    · have hd2 : (1048576 : Int) < (SZ : Int) := by omega
      have hR : textR l k s x = ([], 3) := by
        unfold textR
        rw [if_neg (by rw [HFA.out.1]; decide), if_neg (by rw [← HDPE.out]; exact hd), if_pos (by have h5 := HFA.out.2.1.1; rcases Nat.lt_or_ge 1048576 (txtT l k s x).length with h | h; exact h; have := h5 h; omega)]
      have HRR := Lib.hid hR
      clear hR hd hL
      have hp2 := put_two (V := w1) (B2 := B2) (B3 := B3) (by have := HB.out; omega) e2 e3 (.string ⟨#[]⟩) (.int .i64 3)
      have kE := hp2.2.2.1.same D _ HK1.out rfl
      have hbE := (HBV.out).trans (hp2.2.2.2.1 W.heap.size (by have := HB.out; omega) (by have := HB.out; omega))
      have hf := fin_two kE hp2.1 hp2.2.1 hbE (by have := HDD.out; have := HB.out; omega)
      have KE := Lib.hid kE
      have HFF := Lib.hid hf
      clear hp2 kE hbE hf
      gi_wp2_with fail
      refine ⟨by simp, .inl ⟨_, _, rfl, run_takeDeferred KE.out, ?_⟩⟩
      obtain ⟨hc2, hc3, hbF⟩ := HFF.out
      generalize World.putObj _ D (.deferred none) = E2 at *
      refine ⟨.tuple #[.string ⟨#[]⟩, .int .i64 3], ?_, ⟨#[]⟩, 3, rfl, (by rw [HRR.out]), hbF⟩
      simp [results, Tryd.results29, Tryd.f29, go_sem, hc2, hc3]
    have hd2 : ¬ (1048576 : Int) < (SZ : Int) := by omega
    have hd3 : (SZ : Int) ≤ 1048576 := by omega
    have hLL : (txtT l k s x).length = SZ := by
      rcases Nat.lt_or_ge 1048576 (txtT l k s x).length with h | h
      · have := HFA.out.2.1.2 h; omega
      · exact (HFA.out.2.1.1 h).symm
    have hR : textR l k s x = (txtT l k s x, 0) := by
      unfold textR
      rw [if_neg (by rw [HFA.out.1]; decide), if_neg (by rw [← HDPE.out]; exact hd), if_neg (by omega)]
    obtain ⟨M, hmk, hown⟩ := make_bytes w1 SZ (by omega)
    have hwr := write52 x.size x (Nat.le_refl _) HH.out.2.2.2.1 l k s a q c (w1.alloc (.cells M 5)) F w1.heap.size 0 (.slice (some ⟨w1.heap.size, 0, none⟩) 0 SZ) [] HH.out.2.2.1 (HFX.out.1.later (below1 _ _)) (fun b hb => by rw [hFd] at hb; have hb : b < W.heap.size := hb; have := HBV.out.size; omega) HH.out.1 HH.out.2.1 (HFX.out.2.later (below1 _ _)) hown (by simp) (by have := HBV.out.size; have := HB.out; have h7 := World.block_lt_of_cell? w1 _ e2; have h8 : B2 < w1.heap.size := h7; omega) (by omega)
    rw [← HA.out.2.2.2.2.2] at hwr
    unfold trV at hwr
    have hb4 := below1 w1 (.cells M 5)
    obtain ⟨W4, hW4⟩ : ∃ W4, W4 = w1.alloc (.cells M 5) := ⟨_, rfl⟩
    have p0 := cell_later hb4 a0
    have p1 := cell_later hb4 a1
    have p2 := cell_later hb4 a2
    have p3 := cell_later hb4 a3
    have p4 := cell_later hb4 a4
    rw [← hW4] at hmk hwr hown hb4 p0 p1 p2 p3 p4
    have hs4 : w1.heap.size ≤ W4.heap.size := hb4.size
    have HWR := Lib.hid hwr
    have HOW := Lib.hid hown
    have HB4 := Lib.hid hb4
    have HRR := Lib.hid (And.intro hR hLL)
    clear hR hd hL hwr hown hLL hW4 hb4 a0 a1 a2 a3 a4
    gi_wp2_with fail
    first
      | (refine ⟨trivial, ?_⟩; gi_at_call 52)
      | gi_at_call 52
    refine (callsIn_wide.2 HWR.out).mono ?_
    rintro e w2 ⟨v', rfl, hRS⟩
    have hb2 := HB4.out.trans (hRS.below HOW.out hs4)
    obtain ⟨p, c', rfl, hp⟩ := own_shape hRS.1
    have hby := own_bytes (t := txtT l k s x) (by simpa using hRS.1)
    have hcv := conv_txt w2 p c' (txtT l k s x) hby.2
    rw [Nat.zero_add] at *
    have hD1 : D < w1.heap.size := by
      rcases Nat.lt_or_ge D w1.heap.size with h | h
      · exact h
      · have := HK1.out; rw [Array.getElem?_eq_none h] at this; cases this
    have k2 := cell_later hb2 e2
    have l2 := (hb2.frozen (p := ⟨B2, 0, none⟩) (World.block_lt_of_cell? w1 _ e2)).trans g2
    have k3 := cell_later hb2 e3
    have l3 := (hb2.frozen (p := ⟨B3, 0, none⟩) (World.block_lt_of_cell? w1 _ e3)).trans g3
    have HBV2 := Lib.hid (HBV.out.trans (hb2.mono HBV.out.size))
    have HK2 := Lib.hid ((hb2.block D hD1).trans HK1.out)
    have z3 : ∀ X : ByteArray, (w2.setCell ⟨B2, 0, none⟩ (.string X)).cell? ⟨B3, 0, none⟩ = some (.int .i64 0) := fun X => (World.cell?_setCell_other _ _ _ _ (by intro e; cases e; have := HB.out; omega)).trans k3
    have zf3 : ∀ X : ByteArray, (w2.setCell ⟨B2, 0, none⟩ (.string X)).frozen? ⟨B3, 0, none⟩ = false := fun X => by rw [World.frozen?_setCell]; exact l3
    obtain ⟨TX, hTX⟩ : ∃ TX : ByteArray, TX = ⟨(txtT l k s x).toArray⟩ := ⟨_, rfl⟩
    have hTXd : TX.data.toList = txtT l k s x := by rw [hTX]
    rw [← hTX] at hcv
    have HTX := Lib.hid hTXd
    clear hRS hb2 hp hby hD1 hTX hTXd e2 g2 e3 g3 h2 p0 p1 p2 p3 p4 x3 y3 HWR HOW hmk
    have hp2 := put_two (V := w2) (B2 := B2) (B3 := B3) (by have := HB.out; omega) k2 k3 (.string TX) (.int .i64 0)
    have kE := hp2.2.2.1.same D _ HK2.out rfl
    have hbE := (HBV2.out).trans (hp2.2.2.2.1 W.heap.size (by have := HB.out; omega) (by have := HB.out; omega))
    have hf := fin_two kE hp2.1 hp2.2.1 hbE (by have := HDD.out; have := HB.out; omega)
    have KE := Lib.hid kE
    have HFF := Lib.hid hf
    clear hp2 kE hbE hf
    gi_wp2_with fail
    refine ⟨by simp, .inl ⟨_, _, rfl, run_takeDeferred KE.out, ?_⟩⟩
    obtain ⟨hc2, hc3, hbF⟩ := HFF.out
    generalize World.putObj _ D (.deferred none) = E2 at *
    refine ⟨.tuple #[.string TX, .int .i64 0], ?_, TX, 0, rfl, (by rw [HRR.out.1, HTX.out]), hbF⟩
    simp [results, Tryd.results29, Tryd.f29, go_sem, hc2, hc3]
  case stop =>
    rintro D cc pre V hD ⟨ds, hds⟩ ⟨rfl, h1, h2, h3, t, ht, hb⟩ hK
    have hok : okT l k s x = false := by
      rw [← okF_one l k s a x, okF_parts, ← hds, Bool.eq_false_iff]
      intro h
      rw [List.all_eq_true] at h
      have := h t.nd (List.mem_append_left _ (List.mem_map.2 ⟨t, ht, rfl⟩))
      rw [hb] at this; cases this
    have hR : textR l k s x = ([], 5) := by unfold textR; rw [if_pos hok]
    have HRR := Lib.hid hR
    have hbV : Below W.heap.size W V := HB5.out.trans (h1.below (fun j hj => by have := HB.out; omega) HB5.out.size)
    have hf := fin_two hK h2 h3 hbV (show W.heap.size ≤ D by have := HB.out; omega)
    have KE := Lib.hid hK
    have HFF := Lib.hid hf
    clear hok hR hbV hf h1 h2 h3 ht hb hK hD hds
    gi_wp2_with fail
    refine ⟨by simp, .inl ⟨_, _, rfl, run_takeDeferred KE.out, ?_⟩⟩
    obtain ⟨hc2, hc3, hbF⟩ := HFF.out
    generalize World.putObj _ D (.deferred none) = E2 at *
    refine ⟨.tuple #[.string ⟨#[]⟩, .int .i64 5], ?_, ⟨#[]⟩, 5, rfl, by rw [HRR.out], hbF⟩
    simp [results, Tryd.results29, Tryd.f29, go_sem, hc2, hc3]
end Go.Proofs.YtlifankiljbdjaaDoor
