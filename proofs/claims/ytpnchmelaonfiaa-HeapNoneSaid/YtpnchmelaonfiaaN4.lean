/- HeapNone: the law's walk. -/
import Derived.Test.YtpnchmelaonfiaaN3
namespace Go.Proofs.Ytpnchmelaonfiaa
open Go Go.RowKit Go.Shelf
attribute [local go_sem] Oper.semAt_some

theorem func_eq (w : World) (f : Fn) (fr cp : Array Value) : (binOp .eql 63 (.func f fr cp) .nilFunc).run Try.prog w = .ok (.bool false) w := by
  first
    | kernel_rfl
    | (simp [binOp, run_underlying Try.underlying63]; done)
    | (simp [go_sem, run_underlying Try.underlying63]; done)
    | (unfold binOp; simp [go_sem, run_underlying Try.underlying63, equal]; done)
theorem ZeroAt.later {w w' : World} {a : Nat} (h : ZeroAt w a) (hb : Below w.heap.size w w') : ZeroAt w' a := ⟨cell_later hb h.1, cell_later hb h.2.1, cell_later hb h.2.2⟩
theorem zero_new (w : World) : ZeroAt (w.alloc (.cells #[.slice none 0 0, .slice none 0 0, .slice none 0 0] 60)) w.heap.size := ⟨by simp [go_sem], by simp [go_sem], by simp [go_sem]⟩
theorem range_none {g : Operand} {p : Tmp} {body : Code} {Q : Exit → Act → World → Prop} {a : Act} {w : World} {n : Nat} (h1 : 1 ≤ n) {lb : Array Value} (hg : a.eval g = .func (.func 50) #[] lb)
    (hseq : SeqStopsK (α := Value) Fence.wide (n - 1) Try.prog 50 lb (fun x => #[x]) (fun _ _ => True) (fun xs => xs = []) (fun _ => False) 0 w)
    (hdone : ∀ (D : Nat) (W : World), w.heap.size ≤ D → Below w.heap.size w W → W.heap[D]? = some (.deferred (some [])) → Q .normal { a with defers := { target := .collected D, args := #[] } :: a.defers } W) :
    (Code.rangeFunc g #[p] Code.skip body).wpIn Fence.wide n Try.prog Q a w := by
  refine wpIn_rangeFunc_ownF rfl h1 (gf := 50) (lb := lb) hg trivial (enters_of Try.func50 (by kernel_rfl) rfl) hseq (fun _ _ => trivial) (fun _ _ _ _ _ _ _ _ => trivial) (Below.refl _ _) (fun _ => rfl)
    (fun _ W => Below w.heap.size w W) (fun _ _ _ => False) (ownFrom_below (Nat.le_refl _) (Nat.le_refl _)) (fun _ _ _ _ _ hs _ _ => hs) (Below.refl _ _)
    (fun x => { tmps := a.tmps.setIfInBounds p x, defers := [] }) ?assign ?body ?done ?stop
  case assign =>
    intro l x W K hK
    gi_wp2
    first
      | exact hK
      | simpa using hK
  case body => exact fun _ _ _ _ _ h => absurd h (Nat.not_lt_zero _)
  case done =>
    rintro D ys W hD rfl hB hK
    exact hdone D W hD hB hK
  case stop =>
    rintro D c pre W _ h
    exact h.elim
set_option maxRecDepth 100000 in
set_option maxHeartbeats 2000000 in
theorem none_in (i v : Int) (x : ByteArray) (w : World) (n : Nat) (hn : 3 ≤ n) :
    CallsIn Fence.wide n Try.prog 5 #[.int .i64 i, .int .i64 v, .string x] w fun e W' => e = .returned (.bool true) ∧ Below w.heap.size w W' := by
  have h1 : 1 ≤ n := by omega
  refine callsIn_of_wp_marks Try.func5 rfl trivial ?_ rfl
  simp only [Try.ntmps5, List.size_toArray, List.length_cons, List.length_nil, Nat.reduceAdd, Nat.reduceSub, Array.replicate_succ, Array.replicate_zero, List.push_toArray, List.append_toArray, List.nil_append, List.cons_append]
  have hfe := fun (w : World) (p : Value) => func_eq w (.func 50) #[] #[p]
  have hz := zero_new (w.alloc (.cells #[.bool false] 4))
  rw [World.size_alloc] at hz
  gi_wp2_with fail
  first
    | (refine ⟨trivial, ?_⟩; gi_at_call 19)
    | gi_at_call 19
  refine (callsIn_wide.2 (nil_halve _)).mono ?_
  rintro e w' ⟨rfl, rfl⟩
  gi_wp2_with fail
  first
    | (refine ⟨trivial, ?_⟩; gi_at_call 19)
    | gi_at_call 19
  refine (callsIn_wide.2 (zero_halve _ _ hz)).mono ?_
  rintro e w' ⟨rfl, rfl⟩
  gi_wp2_with fail
  first
    | (refine ⟨trivial, ?_⟩; gi_at_call 28)
    | gi_at_call 28
  refine (callsIn_wide.2 (nil_tpush _ _)).mono ?_
  rintro e w' ⟨rfl, rfl⟩
  gi_wp2_with fail
  first
    | (refine ⟨trivial, ?_⟩; gi_at_call 15)
    | gi_at_call 15
  refine (callsIn_wide.2 (nil_pop _)).mono ?_
  rintro e w' ⟨rfl, rfl⟩
  gi_wp2_with fail
  first
    | (refine ⟨trivial, ?_⟩; gi_at_call 21)
    | gi_at_call 21
  refine (callsIn_wide.2 (nil_first _)).mono ?_
  rintro e w' ⟨rfl, rfl⟩
  gi_wp2_with fail
  first
    | (refine ⟨trivial, ?_⟩; gi_at_call 15)
    | gi_at_call 15
  refine (callsIn_wide.2 (zero_pop _ _ hz)).mono ?_
  rintro e w' ⟨rfl, rfl⟩
  gi_wp2_with fail
  first
    | (refine ⟨trivial, ?_⟩; gi_at_call 33)
    | gi_at_call 33
  refine (callsIn_wide.2 (nil_tat _ _)).mono ?_
  rintro e w' ⟨rfl, rfl⟩
  gi_wp2_with fail
  first
    | (refine ⟨trivial, ?_⟩; gi_at_call 36)
    | gi_at_call 36
  refine (callsIn_wide.2 (all_at _ _)).mono ?_
  rintro e w' ⟨rfl, rfl⟩
  gi_wp2_with fail
  first
    | (refine ⟨trivial, ?_⟩; gi_at_call 36)
    | gi_at_call 36
  refine (callsIn_wide.2 (all_at _ _)).mono ?_
  rintro e w' ⟨rfl, rfl⟩
  gi_wp2_with fail
  first
    | (refine ⟨trivial, ?_⟩; gi_at_call 36)
    | gi_at_call 36
  refine (callsIn_wide.2 (all_at _ _)).mono ?_
  rintro e w' ⟨rfl, rfl⟩
  gi_wp2_with fail
  refine range_none h1 rfl (stops_nil Fence.wide (n - 1) (by omega) trivial rfl _ _ _ _ ?b1 ?c1) ?_
  case b1 => simp
  case c1 => simp [go_sem]
  intro D W hD hB hK
  have hsz := hB.size
  have hz2 : ZeroAt W (w.heap.size + 1) := (hz.later ((((Below.refl _ _).alloc (Nat.le_refl _) _).alloc (by simp) _).alloc (by first | (simp; done) | (simp; omega)) _)).later hB
  have hr : W.cell? ⟨w.heap.size, 0, none⟩ = some (.bool false) := cell_later hB (by simp [go_sem])
  have hBW : Below w.heap.size w W := ((((((Below.refl w.heap.size w).alloc (Nat.le_refl _) _).alloc (by simp) _).alloc (by first | (simp; done) | (simp; omega)) _).alloc (by first | (simp; done) | (simp; omega)) _).alloc (by first | (simp; done) | (simp; omega)) _).trans (hB.mono (by first | (simp; done) | (simp; omega)))
  have hfr : W.frozen? ⟨w.heap.size, 0, none⟩ = false := (hB.frozen (by first | (simp; done) | (simp; omega))).trans (by simp [go_sem])
  have hwl : w.heap.size < W.heap.size := by simp at hsz; omega
  have hwD : w.heap.size ≤ D := by simp at hD; omega
  have HZ := Lib.hid hz2
  have HBW := Lib.hid hBW
  have HK := Lib.hid hK
  clear hz hB hK hsz hD hz2 hBW
  gi_wp2_with fail
  first
    | (refine ⟨trivial, ?_⟩; gi_at_call 36)
    | gi_at_call 36
  refine (callsIn_wide.2 (all_at _ _)).mono ?_
  rintro e w' ⟨rfl, rfl⟩
  gi_wp2_with fail
  refine range_none h1 rfl (stops_zero (n - 1) (by omega) (w.heap.size + 1) W.heap.size _ _ _ ?b2 ?c2 (HZ.out.later (below1 _ _))) ?_
  case b2 => simp
  case c2 => simp [go_sem]
  intro D2 W2 hD2 hB2 hK2
  have hb3 := below1 W (.cells #[.pointer (some ⟨w.heap.size + 1, 0, none⟩)] 24)
  have hb4 := hb3.trans (hB2.mono hb3.size)
  have hDW : D < W.heap.size := by
    rcases Nat.lt_or_ge D W.heap.size with h | h
    · exact h
    · have := HK.out; rw [Array.getElem?_eq_none h] at this; cases this
  have hr2 := cell_later hb4 hr
  have hfr2 : W2.frozen? ⟨w.heap.size, 0, none⟩ = false := (hb4.frozen hwl).trans hfr
  have HZ2 := Lib.hid (HZ.out.later hb4)
  have HKD := Lib.hid ((hb4.block D hDW).trans HK.out)
  have HK2 := Lib.hid hK2
  have HB2 := Lib.hid (HBW.out.trans (hb4.mono HBW.out.size))
  have hDD : D < D2 := by have := hD2; simp at this; omega
  clear hb3 hb4 hB2 hK2 hD2 hr hfr HZ HK HBW
  gi_wp2_with fail
  first
    | (refine ⟨trivial, ?_⟩; gi_at_call 12)
    | gi_at_call 12
  refine (callsIn_wide.2 (nil_size _)).mono ?_
  rintro e w' ⟨rfl, rfl⟩
  gi_wp2_with fail
  first
    | (refine ⟨trivial, ?_⟩; gi_at_call 37)
    | gi_at_call 37
  refine (callsIn_wide.2 (nil_len _)).mono ?_
  rintro e w' ⟨rfl, rfl⟩
  gi_wp2_with fail
  first
    | (refine ⟨trivial, ?_⟩; gi_at_call 25)
    | gi_at_call 25
  refine (callsIn_wide.2 (nil_has _ _)).mono ?_
  rintro e w' ⟨rfl, rfl⟩
  gi_wp2_with fail
  first
    | (refine ⟨trivial, ?_⟩; gi_at_call 13)
    | gi_at_call 13
  refine (callsIn_wide.2 (nil_push _ _)).mono ?_
  rintro e w' ⟨rfl, rfl⟩
  gi_wp2_with fail
  first
    | (refine ⟨trivial, ?_⟩; gi_at_call 17)
    | gi_at_call 17
  refine (callsIn_wide.2 (nil_raise _ _ _)).mono ?_
  rintro e w' ⟨rfl, rfl⟩
  gi_wp2_with fail
  first
    | (refine ⟨trivial, ?_⟩; gi_at_call 23)
    | gi_at_call 23
  refine (callsIn_wide.2 (nil_weight _ _)).mono ?_
  rintro e w' ⟨rfl, rfl⟩
  gi_wp2_with fail
  first
    | (refine ⟨trivial, ?_⟩; gi_at_call 13)
    | gi_at_call 13
  refine (callsIn_wide.2 (zero_push _ _ _ HZ2.out)).mono ?_
  rintro e w' ⟨rfl, rfl⟩
  gi_wp2_with fail
  first
    | (refine ⟨trivial, ?_⟩; gi_at_call 17)
    | gi_at_call 17
  refine (callsIn_wide.2 (zero_raise _ _ _ _ HZ2.out)).mono ?_
  rintro e w' ⟨rfl, rfl⟩
  gi_wp2_with fail
  first
    | (refine ⟨trivial, ?_⟩; gi_at_call 34)
    | gi_at_call 34
  refine (callsIn_wide.2 (nil_tlen _)).mono ?_
  rintro e w' ⟨rfl, rfl⟩
  gi_wp2_with fail
  first
    | (refine ⟨trivial, ?_⟩; gi_at_call 35)
    | gi_at_call 35
  refine (callsIn_wide.2 (nil_tlevel _)).mono ?_
  rintro e w' ⟨rfl, rfl⟩
  gi_wp2_with fail
  first
    | (refine ⟨trivial, ?_⟩; gi_at_call 30)
    | gi_at_call 30
  refine (callsIn_wide.2 (nil_tmark _)).mono ?_
  rintro e w' ⟨rfl, rfl⟩
  gi_wp2_with fail
  first
    | (refine ⟨trivial, ?_⟩; gi_at_call 31)
    | gi_at_call 31
  refine (callsIn_wide.2 (nil_tback _ _)).mono ?_
  rintro e w' ⟨rfl, rfl⟩
  gi_wp2_with fail
  first
    | (refine ⟨trivial, ?_⟩; gi_at_call 9)
    | gi_at_call 9
  refine (callsIn_wide.2 (known_any _)).mono ?_
  rintro e W3 ⟨rfl, hb5⟩
  have hr3 := cell_later hb5 hr2
  have hwl2 : w.heap.size < w'.heap.size := World.block_lt_of_cell? w' _ hr2
  have hfr3 : W3.frozen? ⟨w.heap.size, 0, none⟩ = false := (hb5.frozen hwl2).trans hfr2
  gi_wp2_with fail
  have hko := KeepsOthers.setCell W3 ⟨w.heap.size, 0, none⟩ (.bool true)
  have hb6 : Below w.heap.size w (W3.setCell ⟨w.heap.size, 0, none⟩ (.bool true)) := (HB2.out.trans (hb5.mono HB2.out.size)).setCell (p := ⟨w.heap.size, 0, none⟩) (Nat.le_refl _) _
  have hD2lt : D2 < w'.heap.size := by
    rcases Nat.lt_or_ge D2 w'.heap.size with h | h
    · exact h
    · have := HK2.out; rw [Array.getElem?_eq_none h] at this; cases this
  have k2 := hko.same D2 _ ((hb5.block D2 hD2lt).trans HK2.out) rfl
  have k1 := hko.same D _ ((hb5.block D (by omega)).trans HKD.out) rfl
  have hc : (W3.setCell ⟨w.heap.size, 0, none⟩ (.bool true)).cell? ⟨w.heap.size, 0, none⟩ = some (.bool true) := World.cell?_setCell_same _ _ _ hr3
  generalize W3.setCell ⟨w.heap.size, 0, none⟩ (.bool true) = E at *
  refine ⟨by simp, .inl ⟨_, _, rfl, run_takeDeferred k2, ?_⟩⟩
  have g2 := grownBy_putObj' E D2 (.deferred none)
  have hc2 := cell_kept hc g2 (fun r e => by cases e; exact ⟨_, k2, rfl⟩)
  have hb7 := hb6.trans (belowK_b (w := w) (Nat.le_refl _) E D2 _ (.deferred none) (by omega) k2 rfl rfl)
  have k3 : (E.putObj D2 (.deferred none)).heap[D]? = some (.deferred (some [])) := by
    have hlt : D < E.heap.size := by
      rcases Nat.lt_or_ge D E.heap.size with h | h
      · exact h
      · rw [Array.getElem?_eq_none h] at k1; cases k1
    rw [g2.block D hlt (by intro e; cases e; omega)]
    exact k1
  generalize E.putObj D2 (.deferred none) = E2 at *
  refine ⟨by simp, .inl ⟨_, _, rfl, run_takeDeferred k3, ?_⟩⟩
  have g3 := grownBy_putObj' E2 D (.deferred none)
  have hc3 := cell_kept hc2 g3 (fun r e => by cases e; exact ⟨_, k3, rfl⟩)
  have hb8 := hb7.trans (belowK_b (w := w) (Nat.le_refl _) E2 D _ (.deferred none) hwD k3 rfl rfl)
  refine ⟨.bool true, ?_, rfl, hb8⟩
  simp [results, Try.f5, go_sem, hc3]
end Go.Proofs.Ytpnchmelaonfiaa
