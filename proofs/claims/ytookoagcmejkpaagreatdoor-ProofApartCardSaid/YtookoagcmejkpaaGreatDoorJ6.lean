/- A region in a drawn order, where what its loads read is turned by stores that wait for these loads. A map in memory, as a function of its keys. Rows of trees of the call's own; what trees some tokens  -/
import Derived.Test.YtookoagcmejkpaaGreatDoorJ4
import Derived.Deep.RegionHeld3
import Derived.Maps.OwnOps
import Derived.Maps.RangeWalk
import Derived.Test.YtookoagcmejkpaaGreatDoorJ5
import Derived.LoopTactic
import Derived.Lib.Strings
import Derived.RegionTactic
namespace Go.Proofs.YtookoagcmejkpaaGreatDoor
set_option maxRecDepth 100000
open Go Go.RowKit
theorem sI {α : Type _} {l : List α} {i : Nat} {a : α} : l.toArray.setIfInBounds i a = (l.set i a).toArray := List.setIfInBounds_toArray ..
theorem s0 {α : Type _} {a : α} {l : List α} {b : α} : (a :: l).set 0 b = b :: l := List.set_cons_zero
theorem s1 {α : Type _} {a : α} {l : List α} {i : Nat} {b : α} : (a :: l).set (i + 1) b = a :: l.set i b := List.set_cons_succ
section
variable {P : Program} {ops : Array Oper} {Q : Exit → Act → World → Prop} {md : Region.Mode} {ks : List (Nat × (World → Prop))}
def SL (ks : List (Nat × (World → Prop))) (l : Array Bool) (w : World) : Prop := ∀ p ∈ ks, l.getD p.1 false = false → p.2 w
theorem SL.nil {l : Array Bool} {w : World} : SL [] l w := fun _ h => by cases h
theorem SL.cons {k : Nat} {T : World → Prop} {l : Array Bool} {w : World} (h : l.getD k false = false → T w) (hs : SL ks l w) : SL ((k, T) :: ks) l w := fun p hp => by
 rcases List.mem_cons.1 hp with rfl | hp
 ·exact h
 ·exact hs p hp
theorem SL.listed {l : Array Bool} {w : World} (h : SL ks l w) (i : Nat) : SL ks (l.setIfInBounds i true) w := fun p hp hl => h p hp (by
 cases hb : l.getD p.1 false with
 | false => rfl
 | true => rw [getD_set_true hb] at hl; cases hl)
def wpAnyL (P : Program) (md : Region.Mode) (ops : Array Oper) (Q : Exit → Act → World → Prop) (ks : List (Nat × (World → Prop))) : Nat → Array Bool → Act → World → Prop
 | 0, listed, a, w => Region.ready md ops listed = [] ∧ Q .normal a w
 | fuel + 1, listed, a, w =>
  (Region.ready md ops listed = [] → Q .normal a w) ∧
  ∀ i ∈ Region.ready md ops listed, wpOp P ops Q i (fun a' w' => SL ks (listed.setIfInBounds i true) w' ∧ wpAnyL P md ops Q ks fuel (listed.setIfInBounds i true) a' w') a w
theorem wpAny_of_L : ∀ (fuel : Nat) (listed : Array Bool) (a : Act) (w : World), wpAnyL P md ops Q ks fuel listed a w → wpAny P md ops Q fuel listed a w
 | 0, _, _, _, h => h
 | fuel + 1, _, _, _, h => ⟨h.1, fun i hi => wpOp_mono (fun a' w' h' => wpAny_of_L fuel _ a' w' h'.2) (h.2 i hi)⟩
theorem wpAnyL_first {i : Nat} {oi : Oper} {v : Value} (k : Nat) (T : World → Prop) (hT : (k, T) ∈ ks) (hn : ∀ p ∈ ks, p.1 ≠ i) (hk : ∀ ok, ops[k]? = some ok → ∃ e ∈ ok.after, Region.binds md e = true ∧ e.on = i) (hi : ops[i]? = some oi) (hsel : ∀ (j : Nat) (o : Oper) cs b, ops[j]? = some o → o.op ≠ .select cs b)
  (hQ : ∀ c a w, Q (.panic c) (a.put oi.dst v) w → Q (.panic c) a w) :
  ∀ (fuel : Nat) (listed : Array Bool) (a : Act) (w : World),
   (∀ j oj, ops[j]? = some oj → j ≠ i → listed.getD j true = false → (∀ e ∈ oj.after, Region.binds md e = true → e.on ≠ i) → oi.apart ops oj = true) →
   i ∈ Region.ready md ops listed → YieldsIf P ops T oi v a → SL ks listed w → listed.getD k false = false →
   wpAnyL P md ops Q ks fuel (listed.setIfInBounds i true) (a.put oi.dst v) w → wpAnyL P md ops Q ks (fuel + 1) listed a w := by
 intro fuel
 induction fuel with
 | zero =>
  intro listed a w _ hr hy hS hl H
  refine ⟨fun h => (by rw [h] at hr; cases hr), fun j hj => ?_⟩
  by_cases hji : j = i
  ·subst hji; exact hy.wpOp hi (hS _ hT hl) ⟨hS.listed _, H⟩
  ·have := ready_mono hj hji
   rw [H.1] at this
   cases this
 | succ fuel ih =>
  intro listed a w hfree hr hy hS hl H
  refine ⟨fun h => (by rw [h] at hr; cases hr), fun j hj => ?_⟩
  by_cases hji : j = i
  ·subst hji; exact hy.wpOp hi (hS _ hT hl) ⟨hS.listed _, H⟩
  ·have h1 := H.2 j (ready_mono hj hji)
   obtain ⟨hjun, oj, hoj, hall⟩ := mem_ready.1 hj
   have hnot : ∀ e ∈ oj.after, Region.binds md e = true → e.on ≠ i := fun e he hb heq => by
    have h1 := hall e he hb
    have h0 := (mem_ready.1 hr).1
    rw [heq] at h1
    rcases Nat.lt_or_ge i listed.size with h' | h'
    ·simp [h'] at h0 h1; rw [h0] at h1; cases h1
    ·simp [Array.getElem?_eq_none h'] at h1
   have hjk : j ≠ k := fun e => by
    subst e
    obtain ⟨e, he, hb, ho⟩ := hk oj hoj
    exact hnot e he hb ho
   have h2 := wpOp_putIf hoj (hfree j oj hoj hji hjun hnot) (fun cs b => hsel i oi cs b hi) (fun cs b => hsel j oj cs b hoj) hQ hy h1
   have hfree' : ∀ k ok, ops[k]? = some ok → k ≠ i → (listed.setIfInBounds j true).getD k true = false →
     (∀ e ∈ ok.after, Region.binds md e = true → e.on ≠ i) → oi.apart ops ok = true := fun k ok hk hki hun hno => by
    refine hfree k ok hk hki ?_ hno
    by_cases hjk : j = k
    ·subst hjk; exact hjun
    ·rw [getD_set_ne true hjk] at hun; exact hun
   refine wpOp_mono (fun a' w' h3 => ?_) h2
   obtain ⟨hy', hs', hw'⟩ := h3
   have hs2 : SL ks (listed.setIfInBounds j true) w' := fun p hp hl2 => hs' p hp (by
    rw [Array.setIfInBounds_comm _ _ (Ne.symm hji), getD_set_ne false (Ne.symm (hn p hp))]
    exact hl2)
   refine ⟨hs2, ih (listed.setIfInBounds j true) a' w' hfree' (ready_mono hr (Ne.symm hji)) hy' hs2 (by rw [getD_set_ne false hjk]; exact hl) ?_⟩
   rw [Array.setIfInBounds_comm _ _ hji]
   exact hw'
def killB (md : Region.Mode) (ops : Array Oper) (i k : Nat) : Bool := match ops[k]? with
 | none => true
 | some o => o.after.toList.any fun e => Region.binds md e && e.on == i
theorem killB_spec {i k : Nat} (h : killB md ops i k = true) : ∀ ok, ops[k]? = some ok → ∃ e ∈ ok.after, Region.binds md e = true ∧ e.on = i := fun ok hk => by
 unfold killB at h
 rw [hk] at h
 obtain ⟨e, he, hb⟩ := List.any_eq_true.1 h
 simp at hb
 exact ⟨e, by simpa using he, hb.1, hb.2⟩
theorem wpAnyL_take {i : Nat} {oi : Oper} {v : Value} {fuel : Nat} {listed : Array Bool} {a : Act} {w : World} (n k : Nat) (T : World → Prop) (hi : ops[i]? = some oi)
  (hs : Region.noSelect ops = true) (hf : Region.free md ops listed i = true) (hr : (Region.ready md ops listed).contains i = true)
  (hQ : ∀ c a w, Q (.panic c) (a.put oi.dst v) w → Q (.panic c) a w) (hT : ks[n]? = some (k, T)) (hn : (ks.map (·.1)).contains i = false) (hk : killB md ops i k = true) (hl : listed.getD k false = false) (hy : YieldsIf P ops T oi v a) (hS : SL ks listed w)
  (h : SL ks (listed.setIfInBounds i true) w → wpAnyL P md ops Q ks fuel (listed.setIfInBounds i true) (a.put oi.dst v) w) : wpAnyL P md ops Q ks (fuel + 1) listed a w :=
 wpAnyL_first k T (List.mem_of_getElem? hT) (fun p hp e => by
  have : (ks.map (·.1)).contains i = true := by rw [List.contains_iff_mem]; exact List.mem_map.2 ⟨p, hp, e⟩
  rw [hn] at this; cases this) (killB_spec hk) hi (Region.noSelect_spec hs) hQ fuel listed a w (Region.free_spec hi hf) (by simpa using hr) hy hS hl (h (hS.listed i))
def AllReadyL (P : Program) (md : Region.Mode) (ops : Array Oper) (Q : Exit → Act → World → Prop) (ks : List (Nat × (World → Prop))) (fuel : Nat) (listed : Array Bool) (a : Act) (w : World) (rs : List Nat) : Prop :=
 ∀ i ∈ rs, wpOp P ops Q i (fun a' w' => SL ks (listed.setIfInBounds i true) w' ∧ wpAnyL P md ops Q ks fuel (listed.setIfInBounds i true) a' w') a w
theorem AllReadyL.nil {fuel : Nat} {listed : Array Bool} {a : Act} {w : World} : AllReadyL P md ops Q ks fuel listed a w [] := fun _ h => by cases h
theorem AllReadyL.cons {fuel : Nat} {listed : Array Bool} {a : Act} {w : World} {i : Nat} {o : Oper} {rs : List Nat} (ho : ops[i]? = some o)
  (h : ∀ K' : Act → World → Prop, Shut (∀ a w, SL ks (listed.setIfInBounds i true) w → (SL ks (listed.setIfInBounds i true) w → wpAnyL P md ops Q ks fuel (listed.setIfInBounds i true) a w) → K' a w) → if Region.wanted o (yielded ops a.tmps) = true then Oper.wp P o a w K' Q else K' (a.put o.dst undef) w)
  (hs : AllReadyL P md ops Q ks fuel listed a w rs) : AllReadyL P md ops Q ks fuel listed a w (i :: rs) := fun j hj => by
 rcases List.mem_cons.1 hj with rfl | hj
 ·exact wpOp_step ho (fun K' hK => h K' (fun a w hS hW => hK a w ⟨hS, hW hS⟩))
 ·exact hs j hj
theorem wpAnyL_ready {rs : List Nat} {fuel : Nat} {listed : Array Bool} {a : Act} {w : World} (hr : Region.ready md ops listed = rs) (hne : rs ≠ [])
  (h : AllReadyL P md ops Q ks fuel listed a w rs) : wpAnyL P md ops Q ks (fuel + 1) listed a w := ⟨fun h0 => absurd (hr ▸ h0) hne, hr ▸ h⟩
theorem wpAnyL_done {listed : Array Bool} {a : Act} {w : World} (hr : Region.ready md ops listed = []) (h : Q .normal a w) :
  ∀ fuel, wpAnyL P md ops Q ks fuel listed a w
 | 0 => ⟨hr, h⟩
 | _ + 1 => ⟨fun _ => h, by rw [hr]; simp⟩
theorem wp_region_L (ks : List (Nat × (World → Prop))) {id : Nat} {a : Act} {w : World} (hm : P.follows .mixedOrders = true) (hS : SL ks (Array.replicate ops.size false) w.drew)
  (h : SL ks (Array.replicate ops.size false) w.drew → wpAnyL P .any ops Q ks ops.size (Array.replicate ops.size false) a w.drew) : (Code.region id ops true).wp P Q a w :=
 wp_region_any hm (wpAny_of_L _ _ _ _ (h hS))
theorem tk {fuel k : Nat} {T : World → Prop} {listed : Array Bool} {a : Act} {w : World} (n i : Nat) (oi : Oper) (v : Value) (hi : ops[i]? = some oi) (hT : ks[n]? = some (k, T)) (hy : ∀ w, T w → (execOp a.eval oi).run P w = .ok (.value v) w) (hS : SL ks listed w)
  (h : SL ks (listed.setIfInBounds i true) w → wpAnyL P md ops Q ks fuel (listed.setIfInBounds i true) (a.put oi.dst v) w)
  (hs : Region.noSelect ops = true := by kernel_rfl) (hf : Region.free md ops listed i = true := by kernel_rfl) (hr : (Region.ready md ops listed).contains i = true := by kernel_rfl)
  (hQ : ∀ c a w, Q (.panic c) (a.put oi.dst v) w → Q (.panic c) a w := by exact fun _ _ _ h => h) (hn : (ks.map (·.1)).contains i = false := by kernel_rfl) (hk : killB md ops i k = true := by kernel_rfl) (hl : listed.getD k false = false := by kernel_rfl) (hw : Region.wanted oi (yielded ops a.tmps) = true := by rfl) : wpAnyL P md ops Q ks (fuel + 1) listed a w :=
 wpAnyL_take n k T hi hs hf hr hQ hT hn hk hl (.inl ⟨hw, hy⟩) hS h
theorem tu {fuel k : Nat} {T : World → Prop} {listed : Array Bool} {a : Act} {w : World} (n i : Nat) (oi : Oper) (hi : ops[i]? = some oi) (hT : ks[n]? = some (k, T)) (hS : SL ks listed w)
  (h : SL ks (listed.setIfInBounds i true) w → wpAnyL P md ops Q ks fuel (listed.setIfInBounds i true) (a.put oi.dst undef) w)
  (hs : Region.noSelect ops = true := by kernel_rfl) (hf : Region.free md ops listed i = true := by kernel_rfl) (hr : (Region.ready md ops listed).contains i = true := by kernel_rfl)
  (hQ : ∀ c a w, Q (.panic c) (a.put oi.dst undef) w → Q (.panic c) a w := by exact fun _ _ _ h => h) (hn : (ks.map (·.1)).contains i = false := by kernel_rfl) (hk : killB md ops i k = true := by kernel_rfl) (hl : listed.getD k false = false := by kernel_rfl) (hw : Region.wanted oi (yielded ops a.tmps) = false := by rfl) : wpAnyL P md ops Q ks (fuel + 1) listed a w :=
 wpAnyL_take n k T hi hs hf hr hQ hT hn hk hl (.inr ⟨hw, rfl⟩) hS h
end
end Go.Proofs.YtookoagcmejkpaaGreatDoor
namespace Go.Proofs.YtookoagcmejkpaaGreatDoor
open Go Go.RowKit Go.Maps
def heldR (v : Value) : Option (DataW Value × List MemPlace) := some (.held v, [])
structure FMap (W : World) (kt : TypeId) (m : Nat) (f : Lit → Option Value) (n : Nat) : Prop where
 has : ∃ D, W.ownsMap Tryz.prog kt heldR m n D ∧ Maps.size D = n ∧ Tidy D ∧ (∀ kl, KeysOf Tryz.prog kt kl → Maps.has D kl = (f kl).isSome) ∧ ∀ kl v, KeysOf Tryz.prog kt kl → f kl = some v → ∀ z, D.atKey kl z = .held v
theorem ownsMap_tight {P : Program} {w : World} {k : TypeId} {b n : Nat} {D : DataW Value} (h : w.ownsMap P k heldR b n D) : w.ownsMap P k heldR b (Maps.size D) D := by
 obtain ⟨es, cl, h1, h2, h3, rfl⟩ := h
 exact ⟨es, cl, h1, h2, by show es.size ≤ Maps.size _; rw [Maps.size_eq, length_sorted]; simp, rfl⟩
theorem ownsMap_only {P : Program} {w w' : World} {k : TypeId} {b n : Nat} {D : DataW Value} {T : Nat → Prop} (h : w.ownsMap P k heldR b n D) (ho : Only T w w') (hn : ¬ T b) : w'.ownsMap P k heldR b n D := by
 obtain ⟨es, cl, h1, h2⟩ := h
 refine ⟨es, cl, ?_, h2⟩
 rw [← h1]
 exact ho.block b (by
  rcases Nat.lt_or_ge b w.heap.size with h | h
  ·exact h
  ·rw [Array.getElem?_eq_none h] at h1; cases h1) hn
section
variable {W : World} {kt : TypeId} {m : Nat} {f : Lit → Option Value} {n : Nat}
theorem FMap.only {W' : World} {T : Nat → Prop} (h : FMap W kt m f n) (ho : Only T W W') (hn : ¬ T m) : FMap W' kt m f n := by
 obtain ⟨D, h1, h2⟩ := h.has
 exact ⟨D, ownsMap_only h1 ho hn, h2⟩
theorem FMap.lt (h : FMap W kt m f n) : m < W.heap.size := by obtain ⟨D, h1, _⟩ := h.has; exact h1.lt
theorem FMap.later {W' : World} (h : FMap W kt m f n) (hb : Below W.heap.size W W') : FMap W' kt m f n := h.only (Only.of_below (T := fun _ => False) hb) (fun h => h)
theorem FMap.made (w : World) (kt : TypeId) : FMap (w.alloc (.map #[] 0)) kt w.heap.size (fun _ => none) 0 :=
 ⟨.map [], World.ownsMap_made w Tryz.prog kt heldR, rfl, tidy_empty, fun _ _ => rfl, fun _ _ _ h => by cases h⟩
theorem FMap.look_ok {t e : TypeId} (h : FMap W kt m f n) (K : Keyed Tryz.prog kt) (ht : Tryz.prog.underlying t = some (.map kt e)) {z : Value} (hz : (zeroValue e).run Tryz.prog W = .ok z W) {key : Value} {kl : Lit} (hkey : keyOf Tryz.prog kt key = some kl) :
  (Instr.lookup t (.map (some m)) key true).run Tryz.prog W = .ok (.tuple #[(f kl).getD z, .bool (f kl).isSome]) W := by
 obtain ⟨D, h1, _, _, h4, h5⟩ := h.has
 obtain ⟨v, ps, hr, hv⟩ := h1.look_ok K ht hz (show heldR z = some (.held z, []) from rfl) hkey
 rw [hr, h4 kl ⟨_, hkey⟩]
 have hv2 : (DataW.held v, ([] : List MemPlace)) = (D.atKey kl (.held z), ps) := Option.some.inj hv
 have e1 : DataW.held v = D.atKey kl (.held z) := congrArg Prod.fst hv2
 cases hf : f kl with
 | none =>
  have hn : Maps.has D kl = false := by rw [h4 kl ⟨_, hkey⟩, hf]; rfl
  rw [atKey_of_not_has hn] at e1
  cases e1
  rfl
 | some u =>
  rw [h5 kl u ⟨_, hkey⟩ hf] at e1
  cases e1
  rfl
theorem FMap.look {t e : TypeId} (h : FMap W kt m f n) (K : Keyed Tryz.prog kt) (ht : Tryz.prog.underlying t = some (.map kt e)) {z : Value} (hz : (zeroValue e).run Tryz.prog W = .ok z W) {key : Value} {kl : Lit} (hkey : keyOf Tryz.prog kt key = some kl) :
  (Instr.lookup t (.map (some m)) key false).run Tryz.prog W = .ok ((f kl).getD z) W := by
 obtain ⟨D, h1, _, _, h4, h5⟩ := h.has
 obtain ⟨v, ps, hr, hv⟩ := h1.lookup K ht hz (show heldR z = some (.held z, []) from rfl) hkey
 rw [hr]
 have hv2 : (DataW.held v, ([] : List MemPlace)) = (D.atKey kl (.held z), ps) := Option.some.inj hv
 have e1 : DataW.held v = D.atKey kl (.held z) := congrArg Prod.fst hv2
 cases hf : f kl with
 | none =>
  have hn : Maps.has D kl = false := by rw [h4 kl ⟨_, hkey⟩, hf]; rfl
  rw [atKey_of_not_has hn] at e1
  cases e1
  rfl
 | some u =>
  rw [h5 kl u ⟨_, hkey⟩ hf] at e1
  cases e1
  rfl
open Classical in
noncomputable
def updF (f : Lit → Option Value) (kl : Lit) (v : Option Value) : Lit → Option Value := fun k => @ite _ (k = kl) (Classical.propDecidable _) v (f k)
theorem FMap.put {t e : TypeId} (h : FMap W kt m f n) (K : Keyed Tryz.prog kt) (ht : Tryz.prog.underlying t = some (.map kt e)) (hn : n < maxLen) {key : Value} {kl : Lit} (hkey : keyOf Tryz.prog kt key = some kl) (v : Value) :
  ∃ w', (Instr.mapUpdate t (.map (some m)) key v).run Tryz.prog W = .ok () w' ∧ FMap w' kt m (updF f kl (some v)) (if (f kl).isSome then n else n + 1) ∧ W.grownBy w' (some m) := by
 obtain ⟨D, h1, h2, h3, h4, h5⟩ := h.has
 obtain ⟨w', hr, ho, hg⟩ := h1.update K ht hn hkey (show heldR v = some (.held v, []) from rfl)
 refine ⟨w', hr, ⟨D.put kl (.held v), ?_, ?_, ?_, ?_, ?_⟩, hg⟩
 ·have := ownsMap_tight ho
  rw [size_put h3, h2, h4 kl ⟨_, hkey⟩] at this
  exact this
 ·rw [size_put h3, h2, h4 kl ⟨_, hkey⟩]
 ·exact h3.put (K.key hkey) _
 ·intro k hk
  unfold updF
  by_cases e : k = kl
  ·subst e; rw [if_pos rfl, has_put_same h3.isMap (K.key hkey)]; rfl
  ·rw [if_neg e, has_put_other e]; exact h4 k hk
 ·intro k u hk hu z
  unfold updF at hu
  by_cases e : k = kl
  ·subst e
   rw [if_pos rfl] at hu
   cases hu
   exact atKey_put_same h3.isMap (K.key hkey) _ z
  ·rw [if_neg e] at hu
   rw [atKey_put_other e]
   exact h5 k u hk hu z
end
section
variable {w : World} {ops : Array Oper} {rest : List Oper} {o : Oper} {a : Act} {Q : Exit → Act → World → Prop}
theorem wp_op_run {K : Act → World → Prop} {t : TypeId} {m x : Operand} {ok : Bool} (hop : o.op = Op.lookup t m x ok) {mv key u : Value} (hm : a.eval m = mv) (hx : a.eval x = key) (hr : (Instr.lookup t mv key ok).run Tryz.prog w = .ok u w) (h : K (a.put o.dst u) w) : o.wp Tryz.prog a w K Q := by
 unfold Oper.wp
 simp [execOp, hop, hm, hx, hr, Result.andThen]
 exact h
end
end Go.Proofs.YtookoagcmejkpaaGreatDoor
namespace Go.Proofs.YtookoagcmejkpaaGreatDoor
set_option maxRecDepth 100000
open Go Go.RowKit
theorem own_cap {w : World} {base n c : Nat} {e : TypeId} {size : Nat} {p : Option Addr} {xs : List Value} (h : w.ownsRow base e size (.slice p n c) n xs) : n ≤ c := by
 rcases h with ⟨h0, ⟨h1, h2⟩ | ⟨g, cap, cur, hv, hg, hh, hn, hm, hs, ht⟩⟩
 ·injection h1 with _ h3 h4; omega
 ·injection hv with _ _ h4; subst h4; omega

theorem wp_append_own_at {P : Program} {w : World} {o : Oper} {a : Act} {K : Act → World → Prop} {Q : Exit → Act → World → Prop} (s x : Operand) (t : TypeId)
  (ho : o.op = .call { callee := .builtin .append, args := #[s, x], argTypes := #[t, t] })
  (base : Nat) (e : TypeId) (i : TypeInfo) (z : Value) (size bytes : Nat) (ht : P.underlying t = some (.slice e)) (hi : P.info? e = some i) (hz : i.zero = some z)
  (hsize : i.size = size) (hby : i.bytes = bytes) (hzs : z.cells.size = size) (hsz : 0 < size)
  (v : Value) (n : Nat) (xs : List Value) (hs : a.eval s = v) (hown : w.ownsRow base e size v n xs)
  (ad : Addr) (m c : Nat) (news : List Value) (hx : a.eval x = .slice (some ad) m c) (hl : news.length = m * size) (hnews : ∀ j u, news[j]? = some u → w.cell? (ad.add j) = some u) (h1 : ∀ u ∈ news, u.oneCell' = true)
  (h63 : n + m ≤ maxLen) (hbytes : (n + m) * bytes ≤ 140737488355328) (hbase : base ≤ w.heap.size)
  (h : ∀ v' w', w'.ownsRow base e size v' (n + m) (xs ++ news) → w.grownBy w' v.ownBlock → (v' = .slice none 0 0 ↔ v = .slice none 0 0 ∧ m = 0) → (v'.ownBlock = v.ownBlock ∨ v'.ownBlock = some w.heap.size) → K (a.put o.dst v') w') : o.wp P a w K Q := by
 obtain ⟨v', w', hr, h2, h3, h4, h5⟩ := run_append_own_at (P := P) w base t o.type e i z size bytes ht hi hz hsize hby hzs hsz v n xs hown ad m c news hl hnews h1 h63 hbytes hbase
 unfold Oper.wp execOp
 simp only [ho, resolve, invoke, builtin, Sem.run_bind, Sem.run_pure, Result.andThen_ok, List.map_toArray, List.map_cons, List.map_nil, hs, hx, hr]
 exact h v' w' h2 h3 h4 h5
def Z41 : Value := .agg #[.bool false, .int .u8 0, .string ⟨#[]⟩, .int .i64 0, .slice none 0 0]
theorem info41 : ∃ i0, Tryz.prog.info? 35 = some i0 ∧ i0.zero = some Z41 ∧ i0.size = 5 ∧ i0.bytes = 64 := info_of (by kernel_rfl)
def trC (l : Bool) (k : Int) (s : ByteArray) (a : Int) (q : Option Addr) (n c : Nat) : List Value := [.bool l, .int .u8 k, .string s, .int .i64 a, .slice q n c]
def RowF (W : World) (F : Nat → Prop) : Fo → List Value → Prop
 | .nil, xs => xs = []
 | .cons l k s a x r, xs => ∃ q c ys, xs = trC l k s a q x.len c ++ ys ∧ x.len ≤ c ∧ x.len ≤ 281474976710656 ∧ FoIn W F x q ∧ RowF W F r ys
theorem RowF.move {W W' : World} {F F' : Nat → Prop} (hc : ∀ b o v, F b → W.cell? ⟨b, o, none⟩ = some v → W'.cell? ⟨b, o, none⟩ = some v ∧ F' b) : ∀ (f : Fo) (xs : List Value), RowF W F f xs → RowF W' F' f xs
 | .nil, _, h => h
 | .cons l k s a x r, xs, h => by
  obtain ⟨q, c, ys, e, h1, h2, h3, h4⟩ := h
  exact ⟨q, c, ys, e, h1, h2, FoIn.move hc _ _ h3, RowF.move hc r ys h4⟩
theorem RowF.later {W W' : World} {F : Nat → Prop} {f : Fo} {xs : List Value} (h : RowF W F f xs) (hb : Below W.heap.size W W') : RowF W' F f xs :=
 RowF.move (fun _ _ _ hF hv => ⟨cell_later hb hv, hF⟩) f xs h
theorem RowF.only {W W' : World} {F T : Nat → Prop} {f : Fo} {xs : List Value} (h : RowF W F f xs) (ho : Only T W W') (hn : ∀ b, F b → ¬ T b) : RowF W' F f xs :=
 RowF.move (fun _ _ _ hF hv => ⟨ho.cell hv (hn _ hF), hF⟩) f xs h
theorem RowF.mono {W : World} {F F' : Nat → Prop} {f : Fo} {xs : List Value} (h : RowF W F f xs) (hn : ∀ b, F b → b < W.heap.size → F' b) : RowF W F' f xs :=
 RowF.move (fun b _ _ hF hv => ⟨hv, hn b hF (World.block_lt_of_cell? W _ hv)⟩) f xs h
theorem RowF.snoc {W : World} {F : Nat → Prop} {l : Bool} {k : Int} {s : ByteArray} {a : Int} {x : Fo} {q : Option Addr} {c : Nat} (h1 : x.len ≤ c) (h2 : x.len ≤ 281474976710656) (hx : FoIn W F x q) : ∀ (f : Fo) (xs : List Value), RowF W F f xs → RowF W F (f.snoc l k s a x) (xs ++ trC l k s a q x.len c)
 | .nil, xs, h => by
  obtain rfl : xs = [] := h
  exact ⟨q, c, [], by simp, h1, h2, hx, rfl⟩
 | .cons l0 k0 s0 a0 x0 r, xs, h => by
  obtain ⟨q0, c0, ys, rfl, h3, h4, h5, h6⟩ := h
  exact ⟨q0, c0, ys ++ trC l k s a q x.len c, by simp, h3, h4, h5, RowF.snoc h1 h2 hx r ys h6⟩
theorem RowF.len {W : World} {F : Nat → Prop} : ∀ (f : Fo) (xs : List Value), RowF W F f xs → xs.length = f.len * 5
 | .nil, xs, h => by obtain rfl : xs = [] := h; rfl
 | .cons l0 k0 s0 a0 x0 r, xs, h => by
  obtain ⟨q0, c0, ys, rfl, h3, h4, h5, h6⟩ := h
  have := RowF.len r ys h6
  simp [trC, Fo.len]; omega
theorem RowF.foIn {W : World} {F F' : Nat → Prop} {g : Nat} (hg : F' g) (hF : ∀ b, F b → F' b) : ∀ (f : Fo) (xs : List Value) (off : Nat), RowF W F f xs → (∀ j u, xs[j]? = some u → W.cell? ⟨g, off + j, none⟩ = some u) → FoIn W F' f (some ⟨g, off, none⟩)
 | .nil, _, _, _, _ => trivial
 | .cons l0 k0 s0 a0 x0 r, xs, off, h, hc => by
  obtain ⟨q0, c0, ys, rfl, h3, h4, h5, h6⟩ := h
  refine ⟨g, off, rfl, hg, hc 0 _ rfl, hc 1 _ rfl, hc 2 _ rfl, hc 3 _ rfl, ⟨q0, c0, hc 4 _ rfl, h3, h4, FoIn.move (fun b _ _ hb hv => ⟨hv, hF b hb⟩) _ _ h5⟩, ?_⟩
  refine RowF.foIn hg hF r ys (off + 5) h6 (fun j u hu => ?_)
  have := hc (5 + j) u (by rw [List.getElem?_append_right (by simp [trC])]; simpa [trC] using hu)
  rw [← Nat.add_assoc] at this
  exact this
theorem own_cell5 {w : World} {base n c : Nat} {e : TypeId} {g : Nat} {xs : List Value} (h : w.ownsRow base e 5 (.slice (some ⟨g, 0, none⟩) n c) n xs) (i : Nat) (u : Value) (hu : xs[i]? = some u) : w.cell? ⟨g, i, none⟩ = some u ∧ w.frozen? ⟨g, i, none⟩ = false := by
 obtain ⟨h0, ⟨h1, _⟩ | ⟨g', cap, cur, hv, hg, hh, hn, hm, hs, ht⟩⟩ := h
 ·cases h1
 ·cases hv
  have hlt := (List.getElem?_eq_some_iff.1 hu).1
  rw [← ht, List.getElem?_take_of_lt (by omega)] at hu
  have e' : cur[i]? = some u := by simpa using hu
  exact ⟨by simp [World.cell?, hh, e'], by simp [World.frozen?, hh]⟩
def OwnF (W : World) (base : Nat) (v : Value) (f : Fo) : Prop := ∃ xs, W.ownsRow base 35 5 v f.len xs ∧ RowF W (fun b => base ≤ b ∧ v.ownBlock ≠ some b) f xs
theorem OwnF.only {W W' : World} {base : Nat} {v : Value} {f : Fo} {T : Nat → Prop} (h : OwnF W base v f) (ho : Only T W W') (hn : ∀ b, base ≤ b → ¬ T b) : OwnF W' base v f := by
 obtain ⟨xs, h1, h2⟩ := h
 exact ⟨xs, own_only h1 ho (fun k hk => hn k (own_lt h1 hk).1), h2.only ho (fun b hb => hn b hb.1)⟩
structure BoxT (w : World) (b : Nat) (l : Bool) (k : Int) (s : ByteArray) (a : Int) (v : Value) : Prop where
 c0 : w.cell? ⟨b, 0, none⟩ = some (.bool l)
 c1 : w.cell? ⟨b, 1, none⟩ = some (.int .u8 k)
 c2 : w.cell? ⟨b, 2, none⟩ = some (.string s)
 c3 : w.cell? ⟨b, 3, none⟩ = some (.int .i64 a)
 c4 : w.cell? ⟨b, 4, none⟩ = some v
 fz : ∀ o, w.frozen? ⟨b, o, none⟩ = false
theorem BoxT.later {w w' : World} {b : Nat} {l : Bool} {k : Int} {s : ByteArray} {a : Int} {v : Value} (h : BoxT w b l k s a v) (hb : Below w.heap.size w w') : BoxT w' b l k s a v :=
 ⟨cell_later hb h.c0, cell_later hb h.c1, cell_later hb h.c2, cell_later hb h.c3, cell_later hb h.c4, fun o => by rw [hb.frozen (p := ⟨b, o, none⟩) (World.block_lt_of_cell? w ⟨b, 0, none⟩ h.c0)]; exact h.fz o⟩
theorem BoxT.only {w w' : World} {b : Nat} {l : Bool} {k : Int} {s : ByteArray} {a : Int} {v : Value} {T : Nat → Prop} (h : BoxT w b l k s a v) (ho : Only T w w') (hn : ¬ T b) : BoxT w' b l k s a v :=
 ⟨ho.cell h.c0 hn, ho.cell h.c1 hn, ho.cell h.c2 hn, ho.cell h.c3 hn, ho.cell h.c4 hn, fun o => by rw [ho.frozen (a := ⟨b, o, none⟩) (World.block_lt_of_cell? w ⟨b, 0, none⟩ h.c0) hn]; exact h.fz o⟩
theorem BoxT.lt {w : World} {b : Nat} {l : Bool} {k : Int} {s : ByteArray} {a : Int} {v : Value} (h : BoxT w b l k s a v) : b < w.heap.size := World.block_lt_of_cell? w _ h.c0
theorem BoxT.set4 {w : World} {b : Nat} {l : Bool} {k : Int} {s : ByteArray} {a : Int} {v : Value} (h : BoxT w b l k s a v) (v' : Value) : BoxT (w.setCell ⟨b, 4, none⟩ v') b l k s a v' := by
 refine ⟨?_, ?_, ?_, ?_, ?_, fun o => ?_⟩
 ·rw [World.cell?_setCell_other _ _ _ _ (by intro e; cases e)]; exact h.c0
 ·rw [World.cell?_setCell_other _ _ _ _ (by intro e; cases e)]; exact h.c1
 ·rw [World.cell?_setCell_other _ _ _ _ (by intro e; cases e)]; exact h.c2
 ·rw [World.cell?_setCell_other _ _ _ _ (by intro e; cases e)]; exact h.c3
 ·have := h.c4
  have hf := h.fz 4
  simp [go_sem, this]
 ·have := h.fz o
  simp [go_sem, this]
theorem box_new (w : World) (l : Bool) (k : Int) (s : ByteArray) (a : Int) (v : Value) : BoxT (w.alloc (.cells #[.bool l, .int .u8 k, .string s, .int .i64 a, v] 35)) w.heap.size l k s a v :=
 ⟨by simp [go_sem], by simp [go_sem], by simp [go_sem], by simp [go_sem], by simp [go_sem], fun o => by simp [go_sem]⟩
end Go.Proofs.YtookoagcmejkpaaGreatDoor
namespace Go.Proofs.YtookoagcmejkpaaGreatDoor.Lx
set_option maxRecDepth 100000
open Go Go.RowKit
theorem str_get' {S : ByteArray} {i : Nat} (h : i < S.size) : S.data.toList[i]? = some S[i] := by
 have : i < S.data.toList.length := by simpa using h
 rw [List.getElem?_eq_getElem this]; rfl
theorem own_cutN {w : World} {base n k c sz : Nat} {e : TypeId} {g : Nat} {xs : List Value} (h : w.ownsRow base e sz (.slice (some ⟨g, 0, none⟩) n c) n xs) (hk : k ≤ n) : w.ownsRow base e sz (.slice (some ⟨g, 0, none⟩) k c) k (xs.take (k * sz)) := by
 obtain ⟨h0, ⟨h1, _⟩ | ⟨g', cap, cur, hv, hg, hh, hn, hm, hs, ht⟩⟩ := h
 ·cases h1
 ·cases hv
  have hks : k * sz ≤ n * sz := Nat.mul_le_mul_right _ hk
  refine ⟨by rw [List.length_take]; omega, .inr ⟨g, c, cur, rfl, hg, hh, by omega, hm, hs, ?_⟩⟩
  rw [← ht, List.take_take]
  congr 1
  omega
noncomputable def readB (k : Int) (s : ByteArray) : Bool := @decide (GoodT k.toNat s.data.toList ∧ 3 ≤ k) (Classical.propDecidable _)
theorem readB_iff {k : Int} {s : ByteArray} : readB k s = true ↔ GoodT k.toNat s.data.toList ∧ 3 ≤ k := by unfold readB; exact @decide_eq_true_iff _ (Classical.propDecidable _)
def txtF : Bool → Fo → List UInt8
 | _, .nil => []
 | b, .cons l k s _ x r => (if b then [] else [32]) ++ ((if l then 40 :: (txtF true x ++ [41]) else rendL k.toNat s.data.toList) ++ txtF false r)
def txtT (l : Bool) (k : Int) (s : ByteArray) (x : Fo) : List UInt8 := if l then 40 :: (txtF true x ++ [41]) else rendL k.toNat s.data.toList
noncomputable def okF : Fo → Bool
 | .nil => true
 | .cons l k s _ x r => (if l then (decide (k = 1) && decide (s = ⟨#[40]⟩)) && okF x else decide (x.len = 0) && readB k s) && okF r
noncomputable def okT (l : Bool) (k : Int) (s : ByteArray) (x : Fo) : Bool := if l then (decide (k = 1) && decide (s = ⟨#[40]⟩)) && okF x else decide (x.len = 0) && readB k s
structure Nd where
 l : Bool
 k : Int
 s : ByteArray
 n : Nat
def partsF : Fo → List Nd
 | .nil => []
 | .cons l k s _ x r => ⟨l, k, s, x.len⟩ :: (partsF x ++ partsF r)
noncomputable def nodeB (d : Nd) : Bool := if d.l then decide (d.k = 1) && decide (d.s = ⟨#[40]⟩) else decide (d.n = 0) && readB d.k d.s
def nodeW (d : Nd) : Nat := if d.l then 2 + (d.n - 1) else (rendL d.k.toNat d.s.data.toList).length
def wsum : List Nd → Nat
 | [] => 0
 | d :: l => nodeW d + wsum l
theorem wsum_app : ∀ l m : List Nd, wsum (l ++ m) = wsum l + wsum m
 | [], m => by simp [wsum]
 | d :: l, m => by simp only [List.cons_append, wsum, wsum_app l m]; omega
theorem fo_len_zero {x : Fo} (h : x.len = 0) : x = .nil := by
 cases x with
 | nil => rfl
 | cons => simp [Fo.len] at h
theorem okF_parts : ∀ f : Fo, okF f = (partsF f).all nodeB
 | .nil => rfl
 | .cons l k s a x r => by
  simp only [okF, partsF, List.all_cons, List.all_append, okF_parts r, nodeB]
  cases l with
  | true => simp only [if_true, okF_parts x, Bool.and_assoc]
  | false =>
   simp only [Bool.false_eq_true, if_false]
   by_cases h : x.len = 0
   ·rw [fo_len_zero h]; simp [partsF]
   ·simp [h]
theorem parts_len : ∀ f : Fo, (partsF f).length = f.size
 | .nil => rfl
 | .cons l k s a x r => by simp only [partsF, List.length_cons, List.length_append, parts_len x, parts_len r, Fo.size]
theorem txt_len : ∀ (f : Fo) (b : Bool), okF f = true → (txtF b f).length = wsum (partsF f) + (f.len - (if b then 1 else 0))
 | .nil, b, _ => by cases b <;> rfl
 | .cons l k s a x r, b, h => by
  simp only [okF, Bool.and_eq_true] at h
  have hr := txt_len r false h.2
  simp only [Bool.false_eq_true, if_false, Nat.sub_zero] at hr
  have hb : ((if b = true then [] else [32] : List UInt8)).length = (Fo.cons l k s a x r).len - (if b then 1 else 0) - r.len := by
   cases b <;> simp [Fo.len]
  have hb2 : r.len ≤ (Fo.cons l k s a x r).len - (if b then 1 else 0) := by cases b <;> simp [Fo.len]
  cases l with
  | true =>
   simp only [if_true, Bool.and_eq_true] at h
   have hx := txt_len x true h.1.2
   simp only [if_true] at hx
   simp only [txtF, partsF, wsum, wsum_app, List.length_append, hb, hr, if_true, List.length_cons, hx, nodeW, List.length_nil]
   omega
  | false =>
   simp only [Bool.false_eq_true, if_false, Bool.and_eq_true, decide_eq_true_eq] at h
   obtain rfl := fo_len_zero h.1.1
   simp only [txtF, partsF, wsum, wsum_app, List.length_append, hb, hr, nodeW]
   simp only [Bool.false_eq_true, if_false]
   omega
def szF : Nat → List Nd → Nat
 | a, [] => a
 | a, d :: l => szF (if a ≤ 1048576 then a + nodeW d else a) l
theorem szF_snoc : ∀ (l : List Nd) (a : Nat) (d : Nd), szF a (l ++ [d]) = if szF a l ≤ 1048576 then szF a l + nodeW d else szF a l
 | [], _, _ => rfl
 | _ :: l, _, d => szF_snoc l _ d
theorem szF_more : ∀ (l : List Nd) (a : Nat), 1048576 < a → szF a l = a
 | [], a, _ => rfl
 | d :: l, a, h => by rw [szF, if_neg (by omega), szF_more l a h]
theorem szF_spec : ∀ (l : List Nd) (a : Nat), (a + wsum l ≤ 1048576 → szF a l = a + wsum l) ∧ (1048576 < a + wsum l → 1048576 < szF a l)
 | [], a => ⟨fun _ => rfl, fun h => h⟩
 | d :: l, a => by
  have ih := szF_spec l (a + nodeW d)
  simp only [wsum, szF]
  by_cases h : a ≤ 1048576
  ·rw [if_pos h]
   exact ⟨fun h2 => by rw [ih.1 (by omega)]; omega, fun h2 => ih.2 (by omega)⟩
  ·rw [if_neg h]
   exact ⟨fun h2 => by omega, fun _ => by rw [szF_more l a (by omega)]; omega⟩
theorem szF_le (m : Nat) : ∀ (l : List Nd) (a : Nat), (∀ d ∈ l, nodeW d ≤ m) → a ≤ 1048576 + m → szF a l ≤ 1048576 + m
 | [], a, _, h => h
 | d :: l, a, h, ha => by
  rw [szF]
  refine szF_le m l _ (fun e he => h e (by simp [he])) ?_
  have := h d (by simp)
  split <;> omega
def depF : Fo → Nat → Nat
 | .nil, _ => 0
 | .cons l _ _ _ x r, m => max (if l && decide (0 < m) then depF x (m - 1) + 1 else 0) (depF r m)
def depT (l : Bool) (x : Fo) (m : Nat) : Nat := if l && decide (0 < m) then depF x (m - 1) + 1 else 0
theorem depF_le : ∀ (f : Fo) (m : Nat), depF f m ≤ m
 | .nil, m => Nat.zero_le _
 | .cons l _ _ _ x r, m => by
  have h1 := depF_le x (m - 1)
  have h2 := depF_le r m
  simp only [depF]
  cases l <;> by_cases hm : 0 < m <;> simp [hm] <;> omega
theorem depT_le (l : Bool) (x : Fo) (m : Nat) : depT l x m ≤ m := by
 have h1 := depF_le x (m - 1)
 unfold depT
 cases l <;> by_cases hm : 0 < m <;> simp [hm]; omega
def szB (B : Nat) : Fo → Prop
 | .nil => True
 | .cons _ _ s _ x r => s.size ≤ B ∧ szB B x ∧ szB B r
noncomputable def textR (l : Bool) (k : Int) (s : ByteArray) (x : Fo) : List UInt8 × Int :=
 if okT l k s x = false then ([], 5) else if 200 < depT l x 201 then ([], 40) else if 1048576 < (txtT l k s x).length then ([], 3) else (txtT l k s x, 0)
theorem depF_cons (l : Bool) (k : Int) (s : ByteArray) (a : Int) (x r : Fo) (m : Nat) : depF (.cons l k s a x r) m = max (depT l x m) (depF r m) := rfl

def Dep54 (n : Nat) : Prop := ∀ (x : Fo), x.size ≤ n → ∀ (l : Bool) (k : Int) (s : ByteArray) (a : Int) (q : Option Addr) (c : Nat) (W : World) (F : Nat → Prop) (m : Nat), m ≤ 1000 → FoIn W F x q → x.len ≤ c → x.len ≤ 281474976710656 →
 Calls Tryz.prog 103 #[trV l k s a q x.len c, .int .i64 (m : Int)] W fun e w' => e = .returned (.int .i64 (depT l x m : Int)) ∧ Below W.heap.size W w'
set_option maxHeartbeats 3200000 in
theorem dep54_step (n : Nat) (ih : ∀ m, m < n → Dep54 m) : Dep54 n := by
 intro x hsz l k s a q c W F m hm hx hc hn
 have hdT : ∀ (l : Bool) (x : Fo) (m : Nat), depT l x m ≤ m := depT_le
 by_cases hl : l = false
 ·subst hl
  have hR : depT false x m = 0 := by simp [depT]
  rw [hR]
  clear hdT ih
  unfold trV
  go_enter Tryz.func103, Tryz.ntmps103
  go_wp2_with fail
  go_ret
  exact ⟨by simp, below1 _ _⟩
 obtain rfl : l = true := by simpa using hl
 clear hl
 by_cases hm0 : m = 0
 ·subst hm0
  have hR : depT true x 0 = 0 := by simp [depT]
  rw [hR]
  clear hm
  clear hdT ih
  unfold trV
  go_enter Tryz.func103, Tryz.ntmps103
  go_wp2_with fail
  go_ret
  exact ⟨by simp, below1 _ _⟩
 obtain ⟨M, rfl⟩ : ∃ M, m = M + 1 := ⟨m - 1, by omega⟩
 clear hm0
 have hR : depT true x (M + 1) = depF x M + 1 := by simp [depT]
 rw [hR]
 have hRM := depF_le x M
 obtain ⟨R, hR2⟩ : ∃ R, R = depF x M := ⟨_, rfl⟩
 rw [← hR2] at hRM ⊢
 obtain ⟨N, hN⟩ : ∃ N, N = x.len := ⟨_, rfl⟩
 rw [← hN] at hc hn ⊢
 have i1 : (N : Int) ≤ 281474976710656 := by omega
 have j1 : (M : Int) ≤ 1000 := by omega
 have e9 : wrap64 (((M : Nat) : Int) + 1 - 1) = (M : Int) := by rw [show ((M : Nat) : Int) + 1 - 1 = (M : Int) by omega]; exact IntWalk.wrap64_in _ ⟨by omega, by omega⟩
 have e8 : ¬ ((M : Int) + 1 ≤ 0) := by omega
 have HX := Lib.hid hx
 have HI := Lib.hid (show (N = x.len ∧ R = depF x M ∧ x.size ≤ n) from ⟨hN, hR2, hsz⟩)
 have IH := Lib.hid ih
 have HDT := Lib.hid hdT
 clear hx ih hN hR hR2 hsz hdT
 unfold trV
 go_enter Tryz.func103, Tryz.ntmps103
 go_wp2_with fail
 go_loopg [5, 7, 18] N (fun gk s5 s7 s18 wx => ∃ (i : Nat) (f : Fo) (d : Nat), i + gk = N ∧ s18 = .int .i64 (i : Int) ∧ s5 = .int .i64 (d : Int) ∧ d ≤ M ∧ Hid (f.len = gk ∧ R = max d (depF f M) ∧ f.size ≤ x.size ∧ FoIn wx F f (pl q i) ∧ wx.cell? ⟨W.heap.size, 4, none⟩ = some (.slice q N c) ∧ Below W.heap.size W wx))
 case atStart =>
  refine ⟨0, x, 0, by omega, rfl, rfl, by omega, Lib.hid ⟨?_, ?_, ?_, ?_, ?_, ?_⟩⟩
  ·exact HI.out.1.symm
  ·rw [HI.out.2.1]; simp
  ·exact Nat.le_refl _
  ·exact (pl_zero HX.out).later (below1 _ _)
  ·simp [go_sem]
  ·exact below1 _ _
 case round =>
  obtain ⟨i, f, d, hk, rfl, rfl, hdM, HK⟩ := hrel
  have HG := Lib.hid hk
  have hi2 : i ≤ N := by omega
  clear hk
  obtain ⟨wA, hwA⟩ : ∃ w, w = wr := ⟨_, rfl⟩
  subst hwA
  have i2 : (i : Int) ≤ (N : Int) := by omega
  have d0 : (d : Int) ≤ 1000 := by omega
  have d4 := HK.out.2.2.2.2.1
  by_cases hlt : i < N
  ·obtain ⟨G, rfl⟩ : ∃ G, gk = G + 1 := ⟨gk - 1, by have := HG.out; omega⟩
   have i0 : (0 : Int) ≤ (i : Int) := by omega
   have i3 : (i : Int) < (N : Int) := by omega
   obtain ⟨hf, hR, hsz, hx, -, hb⟩ := HK.out
   obtain ⟨b, off, rfl⟩ : ∃ b off, q = some ⟨b, off, none⟩ := HX.out.some (by rw [← HI.out.1]; omega)
   cases f with
   | nil => simp [Fo.len] at hf
   | cons l1 k1 s1 a1 x1 r1 =>
    obtain ⟨_, e0, e1, e2, e3, ⟨q3, cc3, e4, hc3, hm3, hx3⟩, hr3⟩ := hx.head
    have hC := fun w' (h : Below wA.heap.size wA w') => IH.out x1.size (by have := HI.out.2.2; simp only [Fo.size] at hsz; omega) x1 (Nat.le_refl _) l1 k1 s1 a1 q3 cc3 w' F M (by omega) (hx3.later h) hc3 hm3
    have hD : depT l1 x1 M ≤ M := HDT.out _ _ _
    rw [depF_cons] at hR
    have HS := Lib.hid (show (r1.len = G ∧ R = max d (max (depT l1 x1 M) (depF r1 M)) ∧ r1.size ≤ x.size) from ⟨by simpa [Fo.len] using hf, hR, by simp only [Fo.size] at hsz; omega⟩)
    have HRF := Lib.hid (depF_le r1 M)
    generalize depT l1 x1 M = D at *
    generalize x1.len = n3 at *
    have d1 : (D : Int) ≤ 1000 := by omega
    unfold trV at hC
    have HCC := Lib.hid hC
    have HR := Lib.hid hr3
    have HBB := Lib.hid hb
    clear hf hR hsz hx hb hx3 hr3 hc3 hm3 hC HK
    by_cases hbr : max d D = M
    ·have hbr2 : max (d : Int) (D : Int) = (M : Int) := by omega
     go_wp2_with fail
     refine (HCC.out _ (below1 _ _)).mono ?_
     rintro e w1 ⟨rfl, hb1⟩
     have HW := Lib.hid ((below1 wA _).trans (hb1.mono (by simp)))
     clear hb1
     go_wp2_with fail
     go_ret
     refine ⟨?_, HBB.out.trans (HW.out.mono HBB.out.size)⟩
     have h1 := HS.out.2.1
     have h2 := HRF.out
     have : R = M := by omega
     subst this
     rfl
    ·have hbr2 : ¬ max (d : Int) (D : Int) = (M : Int) := by omega
     go_wp2_with fail
     refine (HCC.out _ (below1 _ _)).mono ?_
     rintro e w1 ⟨rfl, hb1⟩
     have HW := Lib.hid ((below1 wA _).trans (hb1.mono (by simp)))
     have z4 : w1.cell? ⟨W.heap.size, 4, none⟩ = some (.slice (some ⟨b, off, none⟩) N c) := cell_later HW.out d4
     clear hb1
     go_wp2_with fail
     go_roundg G
     case measure => omega
     case rel =>
      obtain ⟨i', hi'⟩ : ∃ i', i' = i + 1 := ⟨_, rfl⟩
      obtain ⟨d', hd'⟩ : ∃ d', d' = max d D := ⟨_, rfl⟩
      refine ⟨i', r1, d', by have := HG.out; omega, by rw [hi']; go_num, by rw [hd']; congr 1; omega, by omega, Lib.hid ⟨HS.out.1, by have := HS.out.2.1; omega, HS.out.2.2, ?_, z4, HBB.out.trans (HW.out.mono HBB.out.size)⟩⟩
      rw [hi']; exact HR.out.later HW.out
  ·obtain rfl : i = N := by omega
   obtain rfl : gk = 0 := by have := HG.out; omega
   obtain ⟨hf, hR, -, -, -, hb⟩ := HK.out
   have hR2 : R = d := by
    cases f with
    | cons => simp [Fo.len] at hf
    | nil => rw [hR]; simp [depF]
   have HBB := Lib.hid hb
   clear hf hR hb
   subst hR2
   go_wp2_with fail
   go_ret
   exact ⟨by simp, by first | exact HBB.out | exact bdd HBB.out⟩
theorem dep54_any (n : Nat) : Dep54 n := Nat.strongRecOn n fun n ih => dep54_step n ih

theorem depth31 (l : Bool) (k : Int) (s : ByteArray) (a : Int) (q : Option Addr) (c : Nat) (x : Fo) (W : World) (F : Nat → Prop) (hx : FoIn W F x q) (hc : x.len ≤ c) (hn : x.len ≤ 281474976710656) :
  Calls Tryz.prog 85 #[trV l k s a q x.len c] W fun e w' => e = .returned (.int .i64 (depT l x 201 : Int)) ∧ Below W.heap.size W w' := by
 have h := dep54_any x.size x (Nat.le_refl _) l k s a q c (W.alloc (.cells #[.bool l, .int .u8 k, .string s, .int .i64 a, .slice q x.len c] 35)) F 201 (by omega) (hx.later (below1 _ _)) hc hn
 unfold trV at h ⊢
 have H := Lib.hid h
 clear h
 go_enter Tryz.func85, Tryz.ntmps85
 go_wp2_with fail
 refine H.out.mono ?_
 rintro e w1 ⟨rfl, hb1⟩
 have HW := Lib.hid ((below1 W _).trans (hb1.mono (by simp)))
 clear hb1
 go_wp2_with fail
 go_ret
 exact ⟨rfl, HW.out⟩
end Go.Proofs.YtookoagcmejkpaaGreatDoor.Lx
namespace Go.Proofs.YtookoagcmejkpaaGreatDoor
set_option maxRecDepth 100000
open Go Go.RowKit Go.Sort
theorem text_any (n : Int) (w : World) (h0 : -9223372036854775808 ≤ n) (h1 : n ≤ 9223372036854775807) (htab : Lib.TabIs Tryz.prog w "internal/strconv.uint64pow10" .u64 Lib.pow10Tab) :
  Calls Tryz.prog 95 #[.int .i64 n] w fun e w' => e = .returned (.string ⟨(Lib.itoa n).toArray⟩) ∧ Below w.heap.size w w' := by
 go_enter Tryz.func95, Tryz.ntmps95
 go_wp2_with (go_at_call 110; refine (Tryz.strconv_FormatInt_10 n h0 h1 _ htab).mono ?_; rintro e w' ⟨rfl, k, os, rfl⟩)
 go_ret
 exact ⟨rfl, below_grow _ _ _⟩
end Go.Proofs.YtookoagcmejkpaaGreatDoor
namespace Go.Proofs.YtookoagcmejkpaaGreatDoor
set_option maxRecDepth 100000
open Go Go.RowKit
theorem symbol65 (s : ByteArray) (W : World) : Calls Tryz.prog 65 #[.string s] W fun e w' => e = .returned (trV false 3 s 0 none 0 0) ∧ Below W.heap.size W w' := by
 go_enter Tryz.func65, Tryz.ntmps65
 go_wp2_with fail
 exact bodyPost_ret (v := trV false 3 s 0 none 0 0) (by simp [trV, results, Tryz.results65, go_sem]) rfl ⟨rfl, by repeat (first | exact Below.refl _ _ | refine Below.alloc ?_ (by simp) _)⟩
theorem own_one (w1 : World) (s : ByteArray) : OwnF (w1.alloc (.cells #[.bool false, .int .u8 3, .string s, .int .i64 0, .slice none 0 0] 35)) w1.heap.size (.slice (some ⟨w1.heap.size, 0, none⟩) 1 1) (.cons false 3 s 0 .nil .nil) :=
 ⟨trC false 3 s 0 none 0 0, ⟨rfl, .inr ⟨w1.heap.size, 1, #[.bool false, .int .u8 3, .string s, .int .i64 0, .slice none 0 0], rfl, Nat.le_refl _, Array.getElem?_push_size, Nat.le_refl _, by decide, rfl, rfl⟩⟩, none, 0, [], by simp [Fo.len], Nat.le_refl _, Nat.zero_le _, trivial, rfl⟩
theorem list29 (s : ByteArray) (W : World) : Calls Tryz.prog 29 #[.string s] W fun e w' => ∃ g, e = .returned (trV true 1 ⟨#[40]⟩ 0 (some ⟨g, 0, none⟩) 1 1) ∧ W.heap.size < g ∧ OwnF w' g (.slice (some ⟨g, 0, none⟩) 1 1) (.cons false 3 s 0 .nil .nil) ∧ Below W.heap.size W w' := by
 go_enter Tryz.func29, Tryz.ntmps29
 go_wp2_with fail
 refine (symbol65 s _).mono ?_
 rintro e w1 ⟨rfl, hb⟩
 have HB := Lib.hid (Below.trans (show Below W.heap.size W _ from by repeat (first | exact Below.refl _ _ | refine Below.alloc ?_ (by simp) _)) (hb.mono (by simp)))
 obtain ⟨W0, hW0⟩ : ∃ W0, W0 = W.alloc (.cells #[.bool false, .int .u8 0, .string ⟨#[]⟩, .int .i64 0, .slice none 0 0] 35) := ⟨_, rfl⟩
 have hbx0 := box_new W false 0 ⟨#[]⟩ 0 (.slice none 0 0)
 have hbx1 := hbx0.later hb
 have hbx := hbx1.later (below1 w1 (.cells #[.bool false, .int .u8 3, .string s, .int .i64 0, .slice none 0 0] 35))
 have HLT := Lib.hid hbx1.lt
 obtain ⟨z0, z1, z2, z3, z4, zf⟩ := hbx
 clear hb hbx0 hbx1 hW0 W0
 unfold trV
 go_wp2_with fail
 refine bodyPost_ret (v := trV true 1 ⟨#[40]⟩ 0 (some ⟨w1.heap.size, 0, none⟩) 1 1) (by simp [trV, results, Tryz.results29, go_sem, z0, z1, z2, z3, z4]) rfl ⟨w1.heap.size, rfl, HLT.out, ?_, ?_⟩
 ·have hn : ∀ o b, w1.heap.size ≤ b → ¬ b = (⟨W.heap.size, o, none⟩ : Addr).block := fun o b h e => by
   have h1 := HLT.out
   simp only at e
   omega
  exact (((((own_one w1 s).only (Only.of_setCell _ _ _) (hn _)).only (Only.of_setCell _ _ _) (hn _)).only (Only.of_setCell _ _ _) (hn _)).only (Only.of_setCell _ _ _) (hn _)).only (Only.of_setCell _ _ _) (hn _)
 ·iterate 5 refine Below.setCell ?_ (show W.heap.size ≤ W.heap.size from Nat.le_refl _) _
  exact HB.out.alloc HB.out.size _
def itoB (n : Int) : ByteArray := ⟨(Lib.itoa n).toArray⟩
abbrev PowTab (w : World) : Prop := Lib.TabIs Tryz.prog w "internal/strconv.uint64pow10" .u64 Lib.pow10Tab
theorem number68_pos (n : Int) (W : World) (h0 : 0 ≤ n) (h1 : n ≤ 9223372036854775807) (htab : PowTab W) : Calls Tryz.prog 68 #[.int .i64 n] W fun e w' => e = .returned (trV false 4 (itoB n) 0 none 0 0) ∧ Below W.heap.size W w' := by
 have HT := Lib.hid (tabIs_below htab (below1 W (.cells #[.bool false, .int .u8 0, .string ⟨#[]⟩, .int .i64 0, .slice none 0 0] 35)))
 have HX := Lib.hid (text_any n (W.alloc (.cells #[.bool false, .int .u8 0, .string ⟨#[]⟩, .int .i64 0, .slice none 0 0] 35)) (by omega) h1 HT.out)
 have hneg : ¬ n < 0 := by omega
 clear htab HT
 go_enter Tryz.func68, Tryz.ntmps68
 go_wp2_with fail
 refine HX.out.mono ?_
 rintro e w1 ⟨rfl, hb⟩
 have HB := Lib.hid (Below.trans (below1 W (.cells #[.bool false, .int .u8 0, .string ⟨#[]⟩, .int .i64 0, .slice none 0 0] 35)) (hb.mono (by simp)))
 obtain ⟨z0, z1, z2, z3, z4, zf⟩ := (box_new W false 0 ⟨#[]⟩ 0 (.slice none 0 0)).later hb
 clear hb
 go_wp2_with fail
 refine bodyPost_ret (v := trV false 4 (itoB n) 0 none 0 0) (by simp [trV, itoB, results, Tryz.results68, go_sem, z0, z1, z2, z3, z4]) rfl ⟨rfl, ?_⟩
 iterate 5 refine Below.setCell ?_ (show W.heap.size ≤ W.heap.size from Nat.le_refl _) _
 exact HB.out
theorem number66_pos (n : Int) (W : World) (h0 : 0 ≤ n) (h1 : n ≤ 9223372036854775807) (htab : PowTab W) : Calls Tryz.prog 66 #[.int .i64 n] W fun e w' => e = .returned (trV false 4 (itoB n) 0 none 0 0) ∧ Below W.heap.size W w' := by
 have HT := Lib.hid (tabIs_below htab (below1 W (.cells #[.bool false, .int .u8 0, .string ⟨#[]⟩, .int .i64 0, .slice none 0 0] 35)))
 have HX := Lib.hid (text_any n (W.alloc (.cells #[.bool false, .int .u8 0, .string ⟨#[]⟩, .int .i64 0, .slice none 0 0] 35)) (by omega) h1 HT.out)
 have hneg : ¬ n < 0 := by omega
 clear htab HT
 go_enter Tryz.func66, Tryz.ntmps66
 go_wp2_with fail
 refine HX.out.mono ?_
 rintro e w1 ⟨rfl, hb⟩
 have HB := Lib.hid (Below.trans (below1 W (.cells #[.bool false, .int .u8 0, .string ⟨#[]⟩, .int .i64 0, .slice none 0 0] 35)) (hb.mono (by simp)))
 obtain ⟨z0, z1, z2, z3, z4, zf⟩ := (box_new W false 0 ⟨#[]⟩ 0 (.slice none 0 0)).later hb
 clear hb
 go_wp2_with fail
 refine bodyPost_ret (v := trV false 4 (itoB n) 0 none 0 0) (by simp [trV, itoB, results, Tryz.results66, go_sem, z0, z1, z2, z3, z4]) rfl ⟨rfl, ?_⟩
 iterate 5 refine Below.setCell ?_ (show W.heap.size ≤ W.heap.size from Nat.le_refl _) _
 exact HB.out
end Go.Proofs.YtookoagcmejkpaaGreatDoor
