/- The store of clauses: between an Add's steps. -/
import Derived.Test.YtiadnifbjdnflaaZ1
import Derived.Test.YtiadnifbjdnflaaZ3
namespace Go.Proofs.Ytiadnifbjdnflaa
open Go Go.RowKit Go.Maps

structure StoD (W : World) (K : Nat → Nat) (O : Nat) (clr clm : List (List Int)) (top : Int) (v0 : Value) (m nm : Nat) (f : Lit → Option Value) : Prop where
  fr : ∀ k, W.heap.size ≤ k → K k = 0
  ka : K O = 1
  c0 : W.cell? ⟨O, 0, none⟩ = some v0
  c1 : W.cell? ⟨O, 1, none⟩ = some (.map (some m))
  c2 : W.cell? ⟨O, 2, none⟩ = some (.int .i64 top)
  km : K m = 2
  fm : FMap W 9 m f nm
  le : nm ≤ clm.length
  hf : ∀ kl, f kl = (idxOf clm kl 0).map fun i => Value.int .i64 (i : Int)
  rows : Rows W K 3 v0 clr
  fz : ∀ o, W.frozen? ⟨O, o, none⟩ = false
/-- what a call may do to the store's memory: its own blocks, and new ones. -/
structure Chain (W : World) (K : Nat → Nat) (W' : World) (K' : Nat → Nat) : Prop where
  old : ∀ b, K b ≠ 0 → K' b = K b
  new : ∀ b, K b = 0 → K' b = 0 ∨ (W.heap.size ≤ b ∧ K' b ≤ 4)
  only : Only (fun b => 1 ≤ K b ∧ K b ≤ 4) W W'
section
variable {W W' W1 : World} {K K' : Nat → Nat} {O : Nat} {cl clr clm : List (List Int)} {top : Int} {v0 : Value} {m nm : Nat} {f : Lit → Option Value} {T : Nat → Prop} {B i : Nat} {v : Value}
theorem StoC.split (h : StoC W K O cl top) : ∃ v0 m nm f, StoD W K O cl cl top v0 m nm f := by
  obtain ⟨v0, m, nm, f, h0, h1, h2, h3, h4, h5, h6, h7⟩ := h.ob
  exact ⟨v0, m, nm, f, h.fr, h.ka, h0, h1, h2, h3, h4, h5, h6, h7, h.fz⟩
theorem StoD.join (h : StoD W K O cl cl top v0 m nm f) : StoC W K O cl top :=
  ⟨h.fr, h.ka, ⟨v0, m, nm, f, h.c0, h.c1, h.c2, h.km, h.fm, h.le, h.hf, h.rows⟩, h.fz⟩
theorem StoD.lt (h : StoD W K O clr clm top v0 m nm f) : O < W.heap.size := World.block_lt_of_cell? W ⟨O, 0, none⟩ h.c0
theorem StoD.only (h : StoD W K O clr clm top v0 m nm f) (ho : Only T W W') (hT : ∀ b, 1 ≤ K b ∧ K b ≤ 4 → ¬ T b) : StoD W' K O clr clm top v0 m nm f := by
  have nO : ¬ T O := hT O (by rw [h.ka]; omega)
  exact ⟨fun k hk => h.fr k (Nat.le_trans ho.size hk), h.ka, ho.cell h.c0 nO, ho.cell h.c1 nO, ho.cell h.c2 nO, h.km, h.fm.only ho (hT m (by rw [h.km]; omega)), h.le, h.hf, h.rows.only ho (fun b hb => hT b (by omega)) (fun _ _ => rfl) (by omega), fun o => by rw [ho.frozen (a := ⟨O, o, none⟩) h.lt nO]; exact h.fz o⟩
theorem StoD.later (h : StoD W K O clr clm top v0 m nm f) (hb : Below W.heap.size W W') : StoD W' K O clr clm top v0 m nm f :=
  h.only (T := fun _ => False) (Only.of_below hb) (fun _ _ e => e)
theorem Chain.refl (W : World) (K : Nat → Nat) : Chain W K W K := ⟨fun _ _ => rfl, fun _ h => .inl h, Only.refl _ _⟩
theorem Chain.trans {W2 : World} {K2 : Nat → Nat} (h : Chain W K W' K') (k : Chain W' K' W2 K2) : Chain W K W2 K2 := by
  refine ⟨fun b hb => by rw [k.old b (by rw [h.old b hb]; exact hb), h.old b hb], fun b hb => ?_, ?_⟩
  · rcases h.new b hb with e | ⟨e1, e2⟩
    · rcases k.new b e with e3 | ⟨e3, e4⟩
      · exact .inl e3
      · exact .inr ⟨Nat.le_trans h.only.size e3, e4⟩
    · by_cases h0 : K' b = 0
      · rcases k.new b h0 with e3 | ⟨e3, e4⟩
        · exact .inl e3
        · exact .inr ⟨e1, e4⟩
      · exact .inr ⟨e1, by rw [k.old b h0]; exact e2⟩
  · refine h.only.comp k.only (fun _ _ e => e) (fun b hb e => ?_)
    by_cases h0 : K b = 0
    · rcases h.new b h0 with e1 | ⟨e1, _⟩ <;> omega
    · rw [h.old b h0] at e; exact e
theorem Chain.below (h : Chain W K W' K') {W2 : World} (hb : Below W'.heap.size W' W2) : Chain W K W2 K' := h.trans ⟨fun _ _ => rfl, fun _ e => .inl e, Only.of_below hb⟩
theorem Chain.set (h : Chain W K W' K') {W2 : World} (hb : Only T W' W2) (hT : ∀ b, T b → 1 ≤ K' b ∧ K' b ≤ 4) : Chain W K W2 K' := h.trans ⟨fun _ _ => rfl, fun _ e => .inl e, hb.mono (fun _ _ e => hT _ e)⟩
theorem setCell_same (h : W.cell? ⟨O, i, none⟩ = some v) (u : Value) : (W.setCell ⟨O, i, none⟩ u).cell? ⟨O, i, none⟩ = some u := by
  simp [go_sem, h]
theorem setCell_frozen (W : World) (a : Addr) (u : Value) (b : Addr) : (W.setCell a u).frozen? b = W.frozen? b := by
  simp [go_sem]
theorem StoD.row {c : List Int} {p : Option Addr} {z : Nat} {xs : List Value} {v' : Value} (h : StoD W K O cl clm top v0 m nm f) (h1 : W.ownsRow 0 22 1 v0 cl.length xs) (h2 : ∀ k, v0.ownBlock = some k → K k = 3)
    (h3 : ∀ i (h : i < cl.length), ∃ (p : Option Addr) (z : Nat), xs[i]? = some (.slice p (cl[i]).length z) ∧ LitsIn W p (cl[i]).length (fnL cl[i]) ∧ (∀ ad, p = some ad → K ad.block = 3 + 1) ∧ (p = none → (cl[i]).length = 0 ∧ z = 0))
    (hp : LitsIn W p c.length (fnL c)) (hf : ∀ ad, p = some ad → K ad.block = 0 ∧ B ≤ ad.block ∧ ad.block < W.heap.size) (hB : B ≤ W.heap.size) (hn : p = none → c.length = 0 ∧ z = 0)
    (own : W1.ownsRow 0 22 1 v' (cl.length + 1) (xs ++ [.slice p c.length z])) (hg : W.grownBy W1 v0.ownBlock) (hloc : v'.ownBlock = v0.ownBlock ∨ v'.ownBlock = some W.heap.size) :
    ∃ K', StoD (W1.setCell ⟨O, 0, none⟩ v') K' O (cl ++ [c]) clm top v' m nm f ∧ (∀ b, K b ≠ 0 → K' b = K b) ∧ (∀ b, K b = 0 → K' b = 0 ∨ (B ≤ b ∧ K' b ≤ 4)) ∧ Only (fun b => 1 ≤ K b ∧ K b ≤ 4) W (W1.setCell ⟨O, 0, none⟩ v') := by
  obtain ⟨K', r, g1, g2, g3, o⟩ := Rows.push (by decide) h1 h2 h3 (by have := h1.1; omega) hp (fun ad e => ⟨(hf ad e).1, (hf ad e).2.2⟩) hn h.fr own hg hloc
  have nO : ¬ K O = 3 := by rw [h.ka]; decide
  have nm3 : ¬ K m = 3 := by rw [h.km]; decide
  have hOm : m ≠ O := fun e => by have := h.km; rw [e, h.ka] at this; omega
  have s := Only.of_setCell W1 ⟨O, 0, none⟩ v'
  have k0 := o.cell h.c0 nO
  have k1 := o.cell h.c1 nO
  have k2 := o.cell h.c2 nO
  have kO : K' O = 1 := by rw [g1 O (by rw [h.ka]; decide)]; exact h.ka
  refine ⟨K', ⟨fun k hk => g3 k (Nat.le_trans s.size hk), kO, setCell_same k0 v', set_cell_far k1 (by simp), set_cell_far k2 (by simp), by rw [g1 m (by rw [h.km]; decide)]; exact h.km, (h.fm.only o nm3).only s hOm, h.le, h.hf, r.only s (fun b hb e => by have e : b = O := e; rw [e, kO] at hb; omega) (fun _ _ => rfl) (by decide), fun x => ?_⟩, g1, fun b hb => ?_, ?_⟩
  · rw [setCell_frozen, o.frozen (a := ⟨O, x, none⟩) h.lt nO]
    exact h.fz x
  · rcases g2 b hb with e | ⟨e1, e2⟩ | ⟨e1, ad, e2, e3⟩
    · exact .inl e
    · exact .inr ⟨by omega, by omega⟩
    · exact .inr ⟨by rw [← e3]; exact (hf ad e2).2.1, by omega⟩
  · refine o.comp s (fun _ _ e => by have e : K _ = 3 := e; omega) (fun k _ e => ?_)
    have e : k = O := e
    rw [e, h.ka]
    omega
open Classical in
theorem StoD.same {c : List Int} (h : StoD W K O clr clm top v0 m nm f) (hh : (idxOf clm (keyI c) 0).isSome = true) : StoD W K O clr (clm ++ [c]) top v0 m nm f :=
  ⟨h.fr, h.ka, h.c0, h.c1, h.c2, h.km, h.fm, by rw [List.length_append]; have := h.le; omega, fun kl => by
    rw [idxOf_app, h.hf]
    cases e : idxOf clm kl 0 with
    | some k => rfl
    | none =>
      have e3 : ¬ keyI c = kl := fun e2 => by rw [e2, e] at hh; cases hh
      simp [e3], h.rows, h.fz⟩
open Classical in
theorem StoD.upd {c : List Int} {nm' : Nat} (h : StoD W K O clr clm top v0 m nm f) (hh : (idxOf clm (keyI c) 0).isSome = false) (hm : FMap W' 9 m (updF f (keyI c) (some (.int .i64 (clm.length : Int)))) nm') (hle : nm' ≤ clm.length + 1) (hg : W.grownBy W' (some m)) : StoD W' K O clr (clm ++ [c]) top v0 m nm' (updF f (keyI c) (some (.int .i64 (clm.length : Int)))) := by
  have ho := Only.of_grown hg
  have key : ∀ b, some m = some b → b = m := fun b e => by injection e with e; exact e.symm
  have nO : ¬ some m = some O := fun e => by have := h.km; rw [← key O e, h.ka] at this; omega
  refine ⟨fun k hk => h.fr k (Nat.le_trans ho.size hk), h.ka, ho.cell h.c0 nO, ho.cell h.c1 nO, ho.cell h.c2 nO, h.km, hm, by rw [List.length_append]; exact hle, fun kl => ?_, h.rows.only ho (fun b hb e => ?_) (fun _ _ => rfl) (by decide), fun o => by rw [ho.frozen (a := ⟨O, o, none⟩) h.lt nO]; exact h.fz o⟩
  · rw [idxOf_app]
    unfold updF
    by_cases e : kl = keyI c
    · rw [if_pos e, e]
      cases e2 : idxOf clm (keyI c) 0 with
      | some k => rw [e2] at hh; cases hh
      | none =>
        simp
    · rw [if_neg e, h.hf]
      cases idxOf clm kl 0 with
      | some k => rfl
      | none =>
        have e3 : ¬ keyI c = kl := fun e2 => e e2.symm
        simp [e3]
  · rw [key b e, h.km] at hb
    omega
theorem StoD.up (h : StoD W K O clr clm top v0 m nm f) (t' : Int) : StoD (W.setCell ⟨O, 2, none⟩ (.int .i64 t')) K O clr clm t' v0 m nm f := by
  have s := Only.of_setCell W ⟨O, 2, none⟩ (.int .i64 t')
  have hOm : m ≠ O := fun e => by have := h.km; rw [e, h.ka] at this; omega
  exact ⟨fun k hk => h.fr k (Nat.le_trans s.size hk), h.ka, set_cell_far h.c0 (by simp), set_cell_far h.c1 (by simp), setCell_same h.c2 _, h.km, h.fm.only s hOm, h.le, h.hf, h.rows.only s (fun b hb e => by have e : b = O := e; rw [e, h.ka] at hb; omega) (fun _ _ => rfl) (by decide), fun o => by rw [setCell_frozen]; exact h.fz o⟩
theorem StoD.up_only (h : StoD W K O clr clm top v0 m nm f) (u : Value) (i : Nat) : Only (fun b => 1 ≤ K b ∧ K b ≤ 4) W (W.setCell ⟨O, i, none⟩ u) :=
  (Only.of_setCell W ⟨O, i, none⟩ u).mono (fun k _ e => by have e : k = O := e; rw [e, h.ka]; omega)
end
set_option maxRecDepth 100000 in
set_option maxHeartbeats 1600000 in
theorem hasD58 {W : World} {K : Nat → Nat} {O : Nat} {clr clm : List (List Int)} {top : Int} {v0 : Value} {m nm : Nat} {f : Lit → Option Value} (h : StoD W K O clr clm top v0 m nm f) (s : ByteArray) (hs : s.size ≤ 1000000) : Calls Try.prog 58 #[.pointer (some ⟨O, 0, none⟩), .string s] W fun e w' => e = .returned (.bool (idxOf clm (keyS s) 0).isSome) ∧ w' = W := by
  have h1 := h.c1
  have hlk := h.fm.look_ok K9 Try.underlying44 (z := .int .i64 0) (by kernel_rfl) (key9 s (by unfold maxLen; omega))
  rw [h.hf] at hlk
  obtain ⟨g, hg⟩ : ∃ g, g = idxOf clm (keyS s) 0 := ⟨_, rfl⟩
  rw [← hg] at hlk ⊢
  clear h hg
  cases g with
  | none =>
    simp only [Option.isSome_none] at hlk ⊢
    go_enter Try.func58, Try.ntmps58
    go_wp2_with fail
    exact bodyPost_ret (v := .bool false) (by simp [results, Try.results58, go_sem]) rfl ⟨rfl, rfl⟩
  | some i =>
    simp only [Option.isSome_some] at hlk ⊢
    go_enter Try.func58, Try.ntmps58
    go_wp2_with fail
    exact bodyPost_ret (v := .bool true) (by simp [results, Try.results58, go_sem]) rfl ⟨rfl, rfl⟩
end Go.Proofs.Ytiadnifbjdnflaa
