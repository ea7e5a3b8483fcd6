/- Whether a function may be declared. -/
import Derived.Test.YtkjmmdffelhkiaaS5
import Derived.BigRegion
import Derived.Deep.RegionHeld3
import Derived.IntWalk
import Derived.RegionTactic
namespace Go.Proofs.Ytkjmmdffelhkiaa
open Go Go.RowKit Go.Maps

variable {W : World} {K : Nat → Nat} {base c : Nat} {T : Tab}
/-- the rows of sorts as numbers. -/
theorem row_ints {w : World} {b n : Nat} {e : TypeId} {v : Value} {l : List Nat} {g : Nat → Int} (h : w.ownsRow b e 1 v n (l.map fun j => Value.int .i64 (g j))) : ∃ p c, v = .slice p n c ∧ IntsIn w p n (fun i => g (l.getD i 0)) := by
  obtain ⟨p, c, rfl, hp⟩ := own_shp h
  refine ⟨p, c, rfl, fun hn => ?_⟩
  have hl : l.length = n := by simpa using h.1
  obtain ⟨g', c', e⟩ := own_some h hn
  cases e
  refine ⟨g', 0, rfl, fun i hi => ?_⟩
  rw [Nat.zero_add]
  refine (own_cell h i _ ?_).1
  rw [List.getElem?_map, List.getElem?_eq_getElem (by omega)]
  simp [List.getD, List.getElem?_eq_getElem (show i < l.length by omega)]
set_option maxRecDepth 100000 in
set_option maxHeartbeats 1600000 in
theorem visible_any (h : TabAt W K base c T) (hn : T.sorts.length ≤ 2000) (x : Int) : Calls Try.prog 91 #[.pointer (some ⟨c, 0, none⟩), .int .i64 x] W fun e w' => SomeB W e w' := by
  obtain ⟨vs, m1, m2, ob, p⟩ := h.ob
  have x2 := ob.1 2 (by omega)
  obtain ⟨q, z, e2, hI⟩ := row_ints (g := fun j => 2 + (j : Int)) p.r2.own
  rw [e2] at x2
  have HB := bsearch_any q T.sorts.length z _ x W hI (by omega)
  clear h ob p e2 hI
  by_cases h0 : x = 0
  · subst h0
    go_enter Try.func91, Try.ntmps91
    go_wp2
    go_ret
    exact ⟨_, rfl, rfl⟩
  by_cases h1 : x = 1
  · subst h1
    go_enter Try.func91, Try.ntmps91
    go_wp2
    go_ret
    exact ⟨_, rfl, rfl⟩
  have q0 : (x == 0) = false := by simpa using h0
  have q1 : (x == 1) = false := by simpa using h1
  clear h0 h1
  go_enter Try.func91, Try.ntmps91
  go_wp2_with fail
  refine HB.mono ?_
  rintro e w' ⟨i, b, rfl, rfl⟩
  clear HB
  go_wp2_with fail
  go_ret
  exact ⟨_, rfl, rfl⟩
def infoA (x : Info) : Value := .agg #[.string x.N, .slice x.P x.L x.C, .int .i64 x.R, .bool x.D]
def MayPost (T : Tab) (x : Info) (W : World) (e : Ending) (w' : World) : Prop := ∃ er : Int, e = .returned (.int .i64 er) ∧ Below W.heap.size W w' ∧ (er = 0 → T.infos.length < 2000 ∧ x.L ≤ 20 ∧ T.f2 (keyS x.N) = none)
theorem zero3 (w : World) : (zeroValue 3).run Try.prog w = .ok (.int .i64 0) w := by kernel_rfl
theorem zero33 (w : World) : (zeroValue 33).run Try.prog w = .ok (.int .i64 0) w := by kernel_rfl
set_option maxRecDepth 100000 in
set_option maxHeartbeats 4000000 in
theorem mayDeclare_any (h : TabAt W K base c T) (g : Good T) (x : Info) (hx : IntsIn W x.P x.L x.V) (hs : x.N.size ≤ 100000) (hL : x.L ≤ 100000) :
    Calls Try.prog 61 #[.pointer (some ⟨c, 0, none⟩), infoA x] W (MayPost T x W) := by
  obtain ⟨N, P, L, C, V, R, D⟩ := x
  have hb1 := below1 W (.cells #[.string N, .slice P L C, .int .i64 R, .bool D] 35)
  have h1 := h.later hb1
  have hx1 := hx.later hb1
  have HR := ready_at h1
  have HV := fun w => validName_any N w (by unfold maxLen; simp only at hs; omega)
  have HI := fun w => builtIn_any N w
  have hvis := visible_any h1 (by have := g.b1; have := g.b4; omega)
  have hD : Below W.heap.size W (W.alloc (.cells #[.string N, .slice P L C, .int .i64 R, .bool D] 35)).drew := hb1.trans ((Below.refl _ _).drew)
  have h2 := h.later hD
  obtain ⟨vs, m1, m2, ob, p⟩ := h2.ob
  have x5 := ob.1 5 (by omega)
  rw [p.h5] at x5
  have hlk := p.q5.look_ok K9 Try.underlying57 (zero3 _) (key9 N (by unfold maxLen; simp only at hs; omega))
  obtain ⟨vs', m1', m2', ob', p'⟩ := h1.ob
  have y1 := ob'.1 1 (by omega)
  obtain ⟨q1, z1, e1, hq_⟩ := own_shp p'.r1.own
  rw [e1] at y1
  clear hq_
  have y5 : (W.alloc (.cells #[.string N, .slice P L C, .int .i64 R, .bool D] 35)).drew.cell? ⟨W.heap.size, 0, none⟩ = some (.string N) := by simp [go_sem]
  have hi := g.b2
  simp only at hL
  have H1 := Lib.hid h1
  have HX1 := Lib.hid hx1
  have HB1 := Lib.hid hb1
  have HD := Lib.hid hD
  have HG := Lib.hid g
  have HLK := Lib.hid (And.intro x5 (And.intro y5 hlk))
  clear h h1 h2 hx hx1 hb1 hD g ob p ob' p' e1 hlk x5 y5 hs
  unfold infoA
  go_enter Try.func61, Try.ntmps61
  go_wp2_with fail
  refine HR.mono ?_
  rintro e w1 ⟨rfl, rfl⟩
  go_wp2_with fail
  refine (HV _).mono ?_
  rintro e w1 ⟨b1, rfl, rfl⟩
  cases b1
  · go_wp2_with fail
    go_ret
    exact ⟨_, rfl, HB1.out, by omega⟩
  go_wp2_with fail
  refine (HI _).mono ?_
  rintro e w1 ⟨b2, rfl, rfl⟩
  cases b2
  rotate_left
  · go_wp2_with fail
    go_ret
    exact ⟨_, rfl, HB1.out, by omega⟩
  by_cases h20 : 20 < L
  · go_wp2_with fail
    go_ret
    exact ⟨_, rfl, HB1.out, by omega⟩
  go_wp2_with fail
  go_loop [28] (fun i => ∃ k : Nat, k ≤ L ∧ i = .int .i64 k) (fun i => L - (intOf i).toNat)
  case atStart => exact ⟨0, Nat.zero_le _, rfl⟩
  case round =>
    obtain ⟨k, hk, rfl⟩ := hrel
    by_cases hlt : k < L
    · obtain ⟨b, off, rfl, ha⟩ := HX1.out (by omega)
      have hc := ha k hlt
      clear ha
      generalize V k = x at hc
      go_wp2_with fail
      refine (hvis _).mono ?_
      rintro e w1 ⟨b3, rfl, rfl⟩
      cases b3
      · go_wp2_with fail
        go_ret
        exact ⟨_, rfl, HB1.out, by omega⟩
      · go_wp2_with fail
        go_round
        case rel => exact ⟨k + 1, by omega, by go_num⟩
        case measure => simp [intOf]; omega
    · obtain rfl : k = L := by omega
      go_wp2_with fail
      refine (hvis _).mono ?_
      rintro e w1 ⟨b3, rfl, rfl⟩
      cases b3
      · go_wp2_with fail
        go_ret
        exact ⟨_, rfl, HB1.out, by omega⟩
      go_wp2_with fail
      obtain ⟨x5, y5, hlk⟩ := HLK.out
      cases hf : T.f2 (keyS N) with
      | some v =>
        rw [hf] at hlk
        clear hf
        go_region_held3 (fun w' => w'.cell? ⟨c, 5, none⟩ = some (.map (some m2)) ∧ w'.cell? ⟨W.heap.size, 0, none⟩ = some (.string N) ∧ (Instr.lookup 57 (.map (some m2)) (.string N) true).run Try.prog w' = .ok (.tuple #[(some v).getD (.int .i64 0), .bool (some v).isSome]) w') (first | exact ⟨x5, y5, hlk⟩) (first | fail)
        go_wp2_with fail
        go_ret
        exact ⟨_, rfl, HD.out, by omega⟩
      | none =>
        rw [hf] at hlk
        have HF := Lib.hid hf
        clear hf
        go_region_held3 (fun w' => w'.cell? ⟨c, 5, none⟩ = some (.map (some m2)) ∧ w'.cell? ⟨W.heap.size, 0, none⟩ = some (.string N) ∧ (Instr.lookup 57 (.map (some m2)) (.string N) true).run Try.prog w' = .ok (.tuple #[(none : Option Value).getD (.int .i64 0), .bool (none : Option Value).isSome]) w') (first | exact ⟨x5, y5, hlk⟩) (first | fail)
        clear hlk x5
        by_cases h2000 : 2000 ≤ T.infos.length
        · go_wp2_with fail
          go_ret
          exact ⟨_, rfl, HD.out, by omega⟩
        · go_wp2_with fail
          go_ret
          exact ⟨_, rfl, HD.out, fun _ => ⟨by omega, by simp only; omega, HF.out⟩⟩
end Go.Proofs.Ytkjmmdffelhkiaa
