/- Stage 6: App, Num, Plus. -/
import Derived.Test.YtkjmmdffelhkiaaT6
import Derived.Test.YtkjmmdffelhkiaaT8
namespace Go.Proofs.Ytkjmmdffelhkiaa
open Go Go.RowKit Go.Maps

variable {W : World} {K : Nat → Nat} {base c : Nat} {T : Sto}
theorem MakeP.from {x : Nd} {w1 w' : World} {e : Ending} (h : MakeP T x base c K w1 e w') (hb : Below W.heap.size W w1) : MakeP T x base c K W e w' := by
  obtain ⟨K', T', t, er, he, hst, hg, hs, hc⟩ := h
  exact ⟨K', T', t, er, he, hst, hg, (StepT.below hb).trans hs, hc⟩
theorem nd_ok {q f n s : Int} {P : Option Addr} {L C : Nat} {V : Nat → Int} {t : Nat} (hq : 0 ≤ q ∧ q ≤ 255) (hf : I64 f) (hn : I64 n) (hs : I64 s) (hL : L ≤ 2000) (hV : ∀ i, i < L → 0 ≤ V i ∧ V i < (t : Int)) (pl : q = 4 → 0 < L) (nb : q = 3 ∨ q = 4 → InB n) : NdOk ⟨q, f, n, s, P, L, C, V⟩ t := ⟨hq, hf, hn, hs, hL, hV, pl, nb⟩
theorem i0 : I64 0 := by unfold I64; decide
theorem i1 : I64 1 := by unfold I64; decide
/-- refused. -/
def NoP (er : Int) (W : World) (e : Ending) (w' : World) : Prop := e = .returned (.tuple #[.int .i64 0, .int .i64 er]) ∧ Below W.heap.size W w'
theorem check_none (h : StoAt W K base c T) (g : GoodS T) (h0 : 0 < T.nodes.length) : Calls Try.prog 70 #[.pointer (some ⟨c, 0, none⟩), .slice none 0 0] W fun e w' => e = .returned (.int .i64 0) ∧ w' = W := by
  refine (check_any h g h0 none 0 0 (fun _ => 0) (fun h => absurd h (Nat.not_lt_zero _)) (by omega)).mono ?_
  rintro e w' ⟨er, rfl, rfl, ⟨rfl, _⟩ | ⟨_, i, hi, _⟩⟩
  · exact ⟨rfl, rfl⟩
  · exact absurd hi (Nat.not_lt_zero _)
def appN (f s : Int) (p : Option Addr) (n z : Nat) (V : Nat → Int) : Nd := ⟨5, f, 0, s, p, n, z, V⟩
def AppP (T : Sto) (f s : Int) (p : Option Addr) (n z : Nat) (V : Nat → Int) (base c : Nat) (K : Nat → Nat) (W : World) (e : Ending) (w' : World) : Prop :=
  ((f < 0 ∨ s < 0) ∧ NoP 2 W e w') ∨ (0 ≤ f ∧ 0 ≤ s ∧ (∃ i, i < n ∧ ¬ InS T (V i)) ∧ NoP 7 W e w') ∨ (0 ≤ f ∧ 0 ≤ s ∧ (∀ i, i < n → InS T (V i)) ∧ 20 < n ∧ NoP 3 W e w') ∨
  (0 ≤ f ∧ 0 ≤ s ∧ (∀ i, i < n → InS T (V i)) ∧ n ≤ 20 ∧ MakeP T (appN f s p n z V) base c K W e w')
set_option maxRecDepth 100000 in
set_option maxHeartbeats 4000000 in
theorem app_any (h : StoAt W K base c T) (g : GoodS T) (h0 : 0 < T.nodes.length) (f s : Int) (hf : I64 f) (hs : I64 s) (p : Option Addr) (n z : Nat) (V : Nat → Int) (hV : IntsIn W p n V) (hn : n ≤ 9223372036854775807) :
    Calls Try.prog 35 #[.pointer (some ⟨c, 0, none⟩), .int .i64 f, .int .i64 s, .slice p n z] W (AppP T f s p n z V base c K W) := by
  have HC0 := check_none h g h0
  have HC := check_any h g h0 p n z V hV hn
  have H := Lib.hid h
  have HG := Lib.hid g
  have HF := Lib.hid hf
  have HS := Lib.hid hs
  have HV := Lib.hid hV
  clear h g hf hs hV
  go_enter Try.func35, Try.ntmps35
  go_wp2_with fail
  refine HC0.mono ?_
  rintro e w1 ⟨rfl, hw⟩
  obtain rfl := hw.symm
  clear HC0 hw
  by_cases hf0 : f < 0
  · go_wp2_with fail
    go_ret2
    exact .inl ⟨.inl hf0, rfl, Below.refl _ _⟩
  by_cases hs0 : s < 0
  · go_wp2_with fail
    go_ret2
    exact .inl ⟨.inr hs0, rfl, Below.refl _ _⟩
  go_wp2_with fail
  refine HC.mono ?_
  rintro e w1 ⟨er, rfl, hw, hc⟩
  obtain rfl := hw.symm
  clear HC hw
  rcases hc with ⟨rfl, hin⟩ | ⟨rfl, hout⟩
  rotate_left
  · go_wp2_with fail
    go_ret2
    exact .inr (.inl ⟨by omega, by omega, hout, rfl, Below.refl _ _⟩)
  have HIN := Lib.hid hin
  clear hin
  by_cases h20 : 20 < n
  · go_wp2_with fail
    go_ret2
    exact .inr (.inr (.inl ⟨by omega, by omega, HIN.out, h20, rfl, Below.refl _ _⟩))
  have HM := make_any H.out HG.out (appN f s p n z V) HV.out (nd_ok (by decide) HF.out i0 HS.out (by omega) HIN.out (fun h => absurd h (by decide)) (fun h => absurd h (by decide)))
  rw [show ndA (appN f s p n z V) = .agg #[.int .u8 5, .int .i64 f, .int .i64 0, .int .i64 s, .slice p n z] from rfl] at HM
  go_wp2_with fail
  refine HM.mono ?_
  rintro e w2 hm
  have HMM := Lib.hid hm
  obtain ⟨K', T', t, er, rfl, _⟩ := hm
  clear HM
  go_wp2_with fail
  go_ret2
  exact .inr (.inr (.inr ⟨by omega, by omega, HIN.out, by omega, HMM.out⟩))
def numN (n : Int) : Nd := ⟨3, 0, n, 1, none, 0, 0, fun _ => 0⟩
def NumP (T : Sto) (n : Int) (base c : Nat) (K : Nat → Nat) (W : World) (e : Ending) (w' : World) : Prop := (¬ InB n ∧ NoP 6 W e w') ∨ (InB n ∧ MakeP T (numN n) base c K W e w')
set_option maxRecDepth 100000 in
set_option maxHeartbeats 4000000 in
theorem num_any (h : StoAt W K base c T) (g : GoodS T) (h0 : 0 < T.nodes.length) (n : Int) (hn : I64 n) :
    Calls Try.prog 49 #[.pointer (some ⟨c, 0, none⟩), .int .i64 n] W (NumP T n base c K W) := by
  have HC0 := check_none h g h0
  have HB := inB_any n W
  have H := Lib.hid h
  have HG := Lib.hid g
  have HN := Lib.hid hn
  clear h g hn
  go_enter Try.func49, Try.ntmps49
  go_wp2_with fail
  refine HC0.mono ?_
  rintro e w1 ⟨rfl, hw⟩
  obtain rfl := hw.symm
  clear HC0 hw
  go_wp2_with fail
  refine HB.mono ?_
  rintro e w1 ⟨b, rfl, hw, hb⟩
  obtain rfl := hw.symm
  have HBB := Lib.hid hb
  clear HB hw hb
  cases b
  · go_wp2_with fail
    go_ret2
    exact .inl ⟨fun h => absurd (HBB.out.2 h) (by decide), rfl, Below.refl _ _⟩
  have hin := HBB.out.1 rfl
  have HM := make_any H.out HG.out (numN n) (fun h => absurd h (Nat.not_lt_zero _)) (nd_ok (by decide) i0 HN.out i1 (by omega) (fun i hi => absurd hi (Nat.not_lt_zero _)) (fun h => absurd h (by decide)) (fun _ => hin))
  rw [show ndA (numN n) = .agg #[.int .u8 3, .int .i64 0, .int .i64 n, .int .i64 1, .slice none 0 0] from rfl] at HM
  have HIN := Lib.hid hin
  clear hin
  go_wp2_with fail
  refine HM.mono ?_
  rintro e w2 hm
  have HMM := Lib.hid hm
  obtain ⟨K', T', t, er, rfl, _⟩ := hm
  clear HM
  go_wp2_with fail
  go_ret2
  exact .inr ⟨HIN.out, HMM.out⟩

def plusN (b n : Int) (p : Option Addr) : Nd := ⟨4, 0, n, 1, p, 1, 1, fun _ => b⟩
def PlusP (T : Sto) (t n : Int) (base c : Nat) (K : Nat → Nat) (W : World) (e : Ending) (w' : World) : Prop :=
  (∃ b o er, SpR T t b o er ∧ er ≠ 0 ∧ NoP er W e w') ∨ ∃ b o, SpR T t b o 0 ∧ ((¬ (InB n ∧ I64 (o + n) ∧ InB (o + n)) ∧ NoP 6 W e w') ∨
    (InB n ∧ InB (o + n) ∧ ((b = 2 ∧ MakeP T (numN (o + n)) base c K W e w') ∨ (b ≠ 2 ∧ o + n = 0 ∧ e = .returned (.tuple #[.int .i64 b, .int .i64 0]) ∧ Below W.heap.size W w') ∨ (b ≠ 2 ∧ o + n ≠ 0 ∧ ∃ p, MakeP T (plusN b (o + n) p) base c K W e w'))))
theorem SpR.ok {t b o er : Int} (g : GoodS T) (h : SpR T t b o er) : I64 o ∧ (er = 0 → b = 2 ∨ InS T b) ∧ (er = 0 → InB o) := by
  rcases h with ⟨_, rfl, rfl, rfl⟩ | ⟨hin, x, hx, ⟨_, rfl, rfl, rfl⟩ | ⟨hs, rfl, h⟩⟩
  · exact ⟨i0, fun h => absurd h (by decide), fun h => absurd h (by decide)⟩
  · exact ⟨i0, fun h => absurd h (by decide), fun h => absurd h (by decide)⟩
  · have hok := g.gn _ _ hx
    have hlt := (List.getElem?_eq_some_iff.1 hx).1
    rcases h with ⟨h3, rfl, rfl⟩ | ⟨h4, rfl, rfl⟩ | ⟨_, _, rfl, rfl⟩
    · exact ⟨hok.n, fun _ => .inl rfl, fun _ => hok.nb (.inl h3)⟩
    · refine ⟨hok.n, fun _ => .inr ?_, fun _ => hok.nb (.inr h4)⟩
      have := hok.V 0 (hok.pl h4)
      unfold InS
      omega
    · exact ⟨i0, fun _ => .inr hin, fun _ => by unfold InB; decide⟩
set_option maxRecDepth 100000 in
set_option maxHeartbeats 4000000 in
theorem plus_any (h : StoAt W K base c T) (g : GoodS T) (h0 : 0 < T.nodes.length) (t n : Int) (hn : I64 n) :
    Calls Try.prog 42 #[.pointer (some ⟨c, 0, none⟩), .int .i64 t, .int .i64 n] W (PlusP T t n base c K W) := by
  have HSP := split_any h g h0 t
  have H := Lib.hid h
  have HG := Lib.hid g
  have HN := Lib.hid hn
  clear h g hn
  go_enter Try.func42, Try.ntmps42
  go_wp2_with fail
  refine HSP.mono ?_
  rintro e w1 ⟨b, o, er, rfl, hb, hsp⟩
  have HB := Lib.hid hb
  have HS := Lib.hid hsp
  clear HSP hb hsp
  by_cases her : er = 0
  rotate_left
  · have q1 : (er != 0) = true := by simpa using her
    go_wp2_with fail
    go_ret2
    exact .inl ⟨b, o, er, HS.out, her, rfl, HB.out⟩
  subst her
  obtain ⟨ho, hbin, hob⟩ := HS.out.ok HG.out
  have HA := dadd_any o n w1 ho HN.out
  have HBI := Lib.hid (hbin rfl)
  clear ho hbin hob
  go_wp2_with fail
  refine HA.mono ?_
  rintro e w2 ⟨r, ok, rfl, hw, h1, h2⟩
  obtain rfl := hw.symm
  have HI := inB_any n w1
  clear HA hw
  go_wp2_with fail
  refine HI.mono ?_
  rintro e w2 ⟨b1, rfl, hw, hb1⟩
  obtain rfl := hw.symm
  have HBB := Lib.hid hb1
  clear HI hw hb1
  cases b1
  · go_wp2_with fail
    go_ret2
    exact .inr ⟨b, o, HS.out, .inl ⟨fun h => absurd (HBB.out.2 h.1) (by decide), rfl, HB.out⟩⟩
  have hinn := HBB.out.1 rfl
  cases ok
  · obtain ⟨_, h3⟩ := h2 rfl
    clear h1 h2
    go_wp2_with fail
    go_ret2
    exact .inr ⟨b, o, HS.out, .inl ⟨fun h => h3 h.2.1, rfl, HB.out⟩⟩
  obtain ⟨rfl, h3⟩ := h1 rfl
  clear h1 h2
  obtain ⟨r, hr⟩ : ∃ r, r = o + n := ⟨_, rfl⟩
  rw [← hr] at h3 ⊢
  have HR := Lib.hid hr
  have HI := inB_any r w1
  have HINN := Lib.hid hinn
  clear hr hinn HBB
  go_wp2_with fail
  refine HI.mono ?_
  rintro e w2 ⟨b2, rfl, hw, hb2⟩
  obtain rfl := hw.symm
  have HBB := Lib.hid hb2
  clear HI hw hb2
  cases b2
  · go_wp2_with fail
    go_ret2
    exact .inr ⟨b, o, HS.out, .inl ⟨fun h => absurd (HBB.out.2 (by rw [HR.out]; exact h.2.2)) (by decide), rfl, HB.out⟩⟩
  have hinr := HBB.out.1 rfl
  have HINR := Lib.hid (show InB (o + n) by rw [← HR.out]; exact hinr)
  clear HBB
  by_cases hb2 : b = 2
  · subst hb2
    have HNU := num_any (H.out.later HB.out) HG.out h0 r h3
    go_wp2_with fail
    refine HNU.mono ?_
    rintro e w2 hm
    have hm2 : MakeP T (numN r) base c K W e w2 := by
      rcases hm with ⟨hn, _⟩ | ⟨_, hm⟩
      · exact absurd hinr hn
      · exact hm.from HB.out
    have HMM := Lib.hid hm2
    obtain ⟨K', T', t', er', rfl, _⟩ := hm2
    clear HNU
    go_wp2_with fail
    go_ret2
    exact .inr ⟨2, o, HS.out, .inr ⟨HINN.out, HINR.out, .inl ⟨rfl, by rw [← HR.out]; exact HMM.out⟩⟩⟩
  have q2 : (b == 2) = false := by simpa using hb2
  by_cases hr0 : r = 0
  · subst hr0
    go_wp2_with fail
    go_ret2
    exact .inr ⟨b, o, HS.out, .inr ⟨HINN.out, HINR.out, .inr (.inl ⟨hb2, HR.out.symm, rfl, HB.out⟩)⟩⟩
  have q3 : (r == 0) = false := by simpa using hr0
  have hbx := below1 w1 (.cells #[.int .i64 b] 73)
  have HM := make_any (H.out.later (HB.out.trans (hbx.mono HB.out.size))) HG.out (plusN b r (some ⟨w1.heap.size, 0, none⟩)) (one_ints w1 b) (nd_ok (by decide) i0 h3 i1 (by omega) (fun i _ => (HBI.out.resolve_left hb2)) (fun _ => by decide) (fun _ => hinr))
  rw [show ndA (plusN b r (some ⟨w1.heap.size, 0, none⟩)) = .agg #[.int .u8 4, .int .i64 0, .int .i64 r, .int .i64 1, .slice (some ⟨w1.heap.size, 0, none⟩) 1 1] from rfl] at HM
  have HBX := Lib.hid (HB.out.trans (hbx.mono HB.out.size))
  clear hbx hinr
  go_wp2_with fail
  refine HM.mono ?_
  rintro e w2 hm
  have HMM := Lib.hid (hm.from HBX.out)
  obtain ⟨K', T', t', er', rfl, _⟩ := hm
  clear HM
  go_wp2_with fail
  go_ret2
  exact .inr ⟨b, o, HS.out, .inr ⟨HINN.out, HINR.out, .inr (.inr ⟨hb2, by rw [← HR.out]; exact hr0, _, by rw [← HR.out]; exact HMM.out⟩)⟩⟩

end Go.Proofs.Ytkjmmdffelhkiaa
