/- Lists of literals: what may be; compared. -/
import Derived.Test.YtgdncnalahdjeaaProg
import Derived.WalkKit
import Derived.WalkSpells
import Derived.WalkLawsBesides
import Derived.Below
import Derived.Laws.Externs
import Derived.Outline
import Derived.Lib.Hide
import Derived.Lib.Walk
import Derived.Lib.ItoaMem
import Derived.Deep.QuietTactic
import Derived.BigQuiet
namespace Go.Proofs.Ytgdncnalahdjeaa
open Go Go.RowKit

theorem cell_later {W W' : World} (hb : Below W.heap.size W W') {a : Addr} {v : Value} (h : W.cell? a = some v) : W'.cell? a = some v := by
  rw [← h]
  exact hb.cell (World.block_lt_of_cell? W a h)
theorem wrap64_eq (x : Int) : wrap64 x = (x + 9223372036854775808) % 18446744073709551616 - 9223372036854775808 := by
  simp only [wrap64]
theorem below2 (w : World) (o1 o2 : Obj) : Below w.heap.size w ((w.alloc o1).alloc o2) :=
  ((Below.refl _ _).alloc (Nat.le_refl _) _).alloc (by simp) _

theorem below1 (w : World) (o1 : Obj) : Below w.heap.size w (w.alloc o1) := (Below.refl _ _).alloc (Nat.le_refl _) _
def I64 (x : Int) : Prop := -9223372036854775808 ≤ x ∧ x ≤ 9223372036854775807
theorem chain {w p q : World} (h1 : Below w.heap.size w p) (h2 : Below p.heap.size p q) : Below w.heap.size w q := h1.trans (h2.mono h1.size)
/-- numbers in memory. -/
def IntsAt (w : World) (b off n : Nat) (V : Nat → Int) : Prop := ∀ i, i < n → w.cell? ⟨b, off + i, none⟩ = some (.int .i64 (V i))
theorem IntsAt.later {W W' : World} {b off n : Nat} {V : Nat → Int} (h : IntsAt W b off n V) (hb : Below W.heap.size W W') : IntsAt W' b off n V := fun i hi => cell_later hb (h i hi)
theorem below_drewN (w : World) (n : Nat) : Below w.heap.size w (w.drewN n) := ⟨rfl, rfl, rfl, Nat.le_refl _, fun _ _ => rfl⟩

theorem info30 : ∃ i0, Try.prog.info? 54 = some i0 ∧ i0.zero = some (.int .i64 0) ∧ i0.size = 1 ∧ i0.bytes = 8 := by
  have h : (Try.prog.info? 54).map (fun i => (i.zero, i.size, i.bytes)) = some (some (.int .i64 0), 1, 8) := by kernel_rfl
  obtain ⟨i, hi, hb⟩ := Option.map_eq_some_iff.1 h
  simp only [Prod.mk.injEq] at hb
  exact ⟨i, hi, hb.1, hb.2.1, hb.2.2⟩
set_option maxRecDepth 100000 in
set_option maxHeartbeats 2000000 in
theorem clone_lits (b off n c : Nat) (news : List Value) (w : World) (hl : news.length = n) (hn : n ≤ 17592186044415)
    (hc : ∀ j u, news[j]? = some u → w.cell? ⟨b, off + j, none⟩ = some u) (h1 : ∀ u ∈ news, u.oneCell' = true) :
    Calls Try.prog 48 #[.slice (some ⟨b, off, none⟩) n c] w fun e w' => ∃ v', e = .returned v' ∧ w'.ownsRow w.heap.size 54 1 v' n news ∧ v' ≠ .slice none 0 0 ∧ Below w.heap.size w w' := by
  have q22 : ∀ (w : World) (a : Option Addr) (n c n' c' : Nat), (binOp .eql 23 (.slice a n c) (.slice none n' c')).run Try.prog w = .ok (.bool a.isNone) w := fun w a n c n' c' => Lib.run_eql_slice_nil w _ _ a n c n' c' Try.underlying23
  have A := Lib.hid hc
  clear hc
  obtain ⟨i0, hi, hz0, hz1, hz2⟩ := info30
  have hcc : ∀ j u, news[j]? = some u → (w.alloc (.cells #[] 54)).cell? ⟨b, off + j, none⟩ = some u := fun j u hu => cell_later (below1 w _) (A.out j u hu)
  have HCC := Lib.hid hcc
  clear hcc A
  go_enter Try.func48, Try.ntmps48
  go_wp2_with (at_builtin; refine wpList_append_own _ rfl _ _ 23 rfl w.heap.size 54 i0 (.int .i64 0) 1 8 Try.underlying23 hi hz0 hz1 hz2 rfl (by omega) _ _ _ rfl (World.ownsRow_made w #[] 0 (Nat.le_refl _) (Nat.zero_le _) (by simp)) ⟨b, off, none⟩ n c news rfl ?qc1 ?qc2 ?qc3 ?qc4 ?qc5 ?qc6 ?_)
  case qc1 => omega
  case qc2 =>
    intro j u hj
    rw [show (⟨b, off, none⟩ : Addr).add j = ⟨b, off + j, none⟩ from Lib.add_plain _ _ _]
    exact HCC.out j u hj
  case qc3 => exact h1
  case qc4 => rw [Nat.zero_add]; unfold maxLen; omega
  case qc5 => rw [Nat.zero_add]; omega
  case qc6 => simp
  intro v' w1 hown hgrow hnil
  go_wp2
  go_ret
  refine ⟨v', rfl, by simpa using hown, ?_, ?_⟩
  · intro e
    exact hnil e
  · exact ((Below.refl _ w).alloc (Nat.le_refl _) _).grown hgrow (by simp) (by intro k hk; simp [Value.ownBlock] at hk; omega)

/-- the cells of an own row. -/
theorem own_cells {w : World} {base n : Nat} {e : TypeId} {size : Nat} {v : Value} {xs : List Value} (h : w.ownsRow base e size v n xs) (hv : v ≠ .slice none 0 0) :
    ∃ b c : Nat, v = .slice (some ⟨b, 0, none⟩) n c ∧ base ≤ b ∧ ∀ (j : Nat) (u : Value), xs[j]? = some u → w.cell? ⟨b, j, none⟩ = some u := by
  rcases h.2 with ⟨h1, h2⟩ | ⟨g, cap, cur, rfl, hg, hh, hc, hm, hcs, ht⟩
  · exact absurd h1 hv
  · refine ⟨g, cap, rfl, hg, fun j u hj => ?_⟩
    rw [← ht] at hj
    have hlt := (List.getElem?_eq_some_iff.1 hj).1
    rw [List.length_take] at hlt
    rw [List.getElem?_take_of_lt (by omega)] at hj
    have e : cur[j]? = some u := by simpa using hj
    simp [World.cell?, hh, e]
theorem own_later {w w' : World} {base n : Nat} {e : TypeId} {size : Nat} {v : Value} {xs : List Value} (h : w.ownsRow base e size v n xs) (hb : Below w.heap.size w w') : w'.ownsRow base e size v n xs := by
  rcases h with ⟨h0, ⟨h1, h2⟩ | ⟨g, cap, cur, rfl, hg, hh, hc⟩⟩
  · exact ⟨h0, .inl ⟨h1, h2⟩⟩
  · refine ⟨h0, .inr ⟨g, cap, cur, rfl, hg, ?_, hc⟩⟩
    rw [← hh]
    exact hb.block g (by
      rcases Nat.lt_or_ge g w.heap.size with h | h
      · exact h
      · rw [Array.getElem?_eq_none h] at hh; cases hh)

theorem below_self (w : World) : Below w.heap.size w w := Below.refl _ _
end Go.Proofs.Ytgdncnalahdjeaa
namespace Go.Proofs.Ytgdncnalahdjeaa
open Go Go.RowKit

/-- whether a number is a literal. -/
def isLitB (x : Int) : Bool := x != 0 && decide (-1048576 ≤ x) && decide (x ≤ 1048576)
set_option maxRecDepth 100000 in
set_option maxHeartbeats 800000 in
theorem isLit_any (x : Int) (w : World) : Calls Try.prog 70 #[.int .i64 x] w fun e w' => e = .returned (.bool (isLitB x)) ∧ w' = w := by
  have key : x = 0 ∨ (x ≠ 0 ∧ x < -1048576) ∨ (x ≠ 0 ∧ -1048576 ≤ x ∧ 1048576 < x) ∨ (x ≠ 0 ∧ -1048576 ≤ x ∧ x ≤ 1048576) := by omega
  rcases key with rfl | ⟨h, h2⟩ | ⟨h, h2, h3⟩ | ⟨h, h2, h3⟩
  · go_enter Try.func70, Try.ntmps70
    go_wp2
    go_ret
    exact ⟨rfl, rfl⟩
  · have q1 : (x == 0) = false := by rw [beq_eq_false_iff_ne]; exact h
    have q2 : (x != 0) = true := by simp [h]
    have q3 : decide (-1048576 ≤ x) = false := by rw [decide_eq_false_iff_not]; omega
    have hv : isLitB x = false := by unfold isLitB; rw [q2, q3]; rfl
    have HV := Lib.hid hv
    clear hv
    go_enter Try.func70, Try.ntmps70
    go_wp2
    go_ret
    exact ⟨by rw [HV.out]; rfl, rfl⟩
  · have q1 : (x == 0) = false := by rw [beq_eq_false_iff_ne]; exact h
    have q2 : (x != 0) = true := by simp [h]
    have q3 : decide (-1048576 ≤ x) = true := by rw [decide_eq_true_eq]; omega
    have q4 : decide (x ≤ 1048576) = false := by rw [decide_eq_false_iff_not]; omega
    have hv : isLitB x = false := by unfold isLitB; rw [q2, q3, q4]; rfl
    have HV := Lib.hid hv
    clear hv
    go_enter Try.func70, Try.ntmps70
    go_wp2
    go_ret
    exact ⟨by rw [HV.out]; rfl, rfl⟩
  · have q1 : (x == 0) = false := by rw [beq_eq_false_iff_ne]; exact h
    have q2 : (x != 0) = true := by simp [h]
    have q3 : decide (-1048576 ≤ x) = true := by rw [decide_eq_true_eq]; omega
    have q4 : decide (x ≤ 1048576) = true := by rw [decide_eq_true_eq]; omega
    have hv : isLitB x = true := by unfold isLitB; rw [q2, q3, q4]; rfl
    have HV := Lib.hid hv
    clear hv
    go_enter Try.func70, Try.ntmps70
    go_wp2
    go_ret
    exact ⟨by rw [HV.out]; rfl, rfl⟩
set_option maxRecDepth 100000 in
set_option maxHeartbeats 800000 in
theorem noLit_any (x : Int) (w : World) : Calls Try.prog 69 #[.int .i64 x] w fun e w' => e = .returned (.bool (!isLitB x)) ∧ w' = w := by
  have H := isLit_any x w
  generalize isLitB x = m at *
  go_enter Try.func69, Try.ntmps69
  go_wp2_with fail
  refine H.mono ?_
  rintro e w1 ⟨rfl, rfl⟩
  go_wp2_with fail
  go_ret
  exact ⟨rfl, rfl⟩
/-- an argument that is a slice of numbers, in a world. -/
def LitsIn (W : World) (p : Option Addr) (n : Nat) (V : Nat → Int) : Prop := 0 < n → ∃ b off, p = some ⟨b, off, none⟩ ∧ IntsAt W b off n V
theorem LitsIn.later {W W' : World} {p : Option Addr} {n : Nat} {V : Nat → Int} (h : LitsIn W p n V) (hb : Below W.heap.size W W') : LitsIn W' p n V := fun hn => by
  obtain ⟨b, off, e, ha⟩ := h hn
  exact ⟨b, off, e, ha.later hb⟩
set_option maxRecDepth 100000 in
set_option maxHeartbeats 800000 in
theorem index_any (p : Option Addr) (n c : Nat) (V : Nat → Int) (w : World) (hV : LitsIn w p n V) (hn : n ≤ 9223372036854775807) :
    Calls Try.prog 86 #[.slice p n c, .func (.func 69) #[] #[]] w fun e w' => ∃ r : Int, e = .returned (.int .i64 r) ∧ (((∀ i, i < n → isLitB (V i) = true) ∧ decide (0 ≤ r) = false) ∨ ((∃ i, i < n ∧ isLitB (V i) = false) ∧ decide (0 ≤ r) = true)) ∧ w' = w := by
  have HV := Lib.hid hV
  clear hV
  go_enter Try.func86, Try.ntmps86
  go_wp2_with fail
  go_loopw [8] (fun i wr => ∃ j : Nat, j ≤ n ∧ i = .int .i64 j ∧ w = wr ∧ ∀ t, t < j → isLitB (V t) = true) (fun i _ => n - (intOf i).toNat)
  case atStart => exact ⟨0, by omega, rfl, rfl, fun t ht => by omega⟩
  case round =>
    obtain ⟨j, hj, rfl, rfl, hall⟩ := hrel
    have HALL := Lib.hid hall
    clear hall
    by_cases hlt : j < n
    · obtain ⟨b, off, rfl, hV⟩ := HV.out (by omega)
      have hj0 : (0 : Int) ≤ (j : Int) := by omega
      have hj1 : (j : Int) < (n : Int) := by omega
      have cv := hV j hlt
      clear hV
      have H1 := noLit_any (V j) w
      cases hb : isLitB (V j) with
      | true =>
        rw [hb] at H1
        have HB := Lib.hid hb
        clear hb
        go_wp2_with fail
        refine H1.mono ?_
        rintro e w1 ⟨rfl, rfl⟩
        go_wp2_with fail
        go_roundw
        case rel => exact ⟨j + 1, by omega, by go_num, trivial, fun t ht => by
          by_cases htj : t < j
          · exact HALL.out t htj
          · obtain rfl : t = j := by omega
            exact HB.out⟩
        case measure => simp [intOf]; omega
      | false =>
        rw [hb] at H1
        have HB := Lib.hid hb
        clear hb
        go_wp2_with fail
        refine H1.mono ?_
        rintro e w1 ⟨rfl, rfl⟩
        go_wp2_with fail
        go_ret
        exact ⟨_, rfl, .inr ⟨⟨j, hlt, HB.out⟩, by rw [decide_eq_true_eq]; omega⟩, rfl⟩
    · obtain rfl : j = n := by omega
      go_wp2_with fail
      go_ret
      exact ⟨_, rfl, .inl ⟨HALL.out, by decide⟩, rfl⟩
set_option maxRecDepth 100000 in
set_option maxHeartbeats 800000 in
theorem contains_any (p : Option Addr) (n c : Nat) (V : Nat → Int) (w : World) (hV : LitsIn w p n V) (hn : n ≤ 9223372036854775807) :
    Calls Try.prog 68 #[.slice p n c, .func (.func 69) #[] #[]] w fun e w' => ((e = .returned (.bool false) ∧ ∀ i, i < n → isLitB (V i) = true) ∨ (e = .returned (.bool true) ∧ ¬ ∀ i, i < n → isLitB (V i) = true)) ∧ w' = w := by
  have H := index_any p n c V w hV hn
  clear hV
  go_enter Try.func68, Try.ntmps68
  go_wp2_with fail
  refine H.mono ?_
  rintro e w1 ⟨r, rfl, h, rfl⟩
  clear H
  rcases h with ⟨h, hr⟩ | ⟨⟨i, hi, h⟩, hr⟩
  · have HH := Lib.hid h
    clear h
    go_wp2_with fail
    refine bodyPost_ret (v := .bool false) (by simp [results, Try.results68, go_sem]) rfl ⟨.inl ⟨rfl, HH.out⟩, rfl⟩
  · have HH := Lib.hid h
    clear h
    go_wp2_with fail
    refine bodyPost_ret (v := .bool true) (by simp [results, Try.results68, go_sem]) rfl ⟨.inr ⟨rfl, fun hf => by have := hf i hi; rw [HH.out] at this; cases this⟩, rfl⟩
/-- whether a clause may be. -/
def MayP (n : Nat) (V : Nat → Int) : Prop := n ≤ 5000 ∧ ∀ i, i < n → isLitB (V i) = true
set_option maxRecDepth 100000 in
set_option maxHeartbeats 800000 in
theorem may_any (p : Option Addr) (n c : Nat) (V : Nat → Int) (w : World) (hV : LitsIn w p n V) (hn : n ≤ 9223372036854775807) :
    Calls Try.prog 44 #[.slice p n c] w fun e w' => ((e = .returned (.bool true) ∧ MayP n V) ∨ (e = .returned (.bool false) ∧ ¬ MayP n V)) ∧ w' = w := by
  by_cases hs : n ≤ 5000
  · have H := contains_any p n c V w hV hn
    clear hV
    go_enter Try.func44, Try.ntmps44
    go_wp2_with fail
    refine H.mono ?_
    rintro e w1 ⟨⟨rfl, h⟩ | ⟨rfl, h⟩, rfl⟩
    · clear H
      have HH := Lib.hid h
      clear h
      go_wp2_with fail
      refine bodyPost_ret (v := .bool true) (by simp [results, Try.results44, go_sem]) rfl ⟨.inl ⟨rfl, hs, HH.out⟩, rfl⟩
    · clear H
      have HH := Lib.hid h
      clear h
      go_wp2_with fail
      refine bodyPost_ret (v := .bool false) (by simp [results, Try.results44, go_sem]) rfl ⟨.inr ⟨rfl, fun hf => HH.out hf.2⟩, rfl⟩
  · clear hV
    have hs2 : ¬ MayP n V := fun hf => hs hf.1
    have HS := Lib.hid hs2
    clear hs2
    go_enter Try.func44, Try.ntmps44
    go_wp2_with fail
    refine bodyPost_ret (v := .bool false) (by simp [results, Try.results44, go_sem]) rfl ⟨.inr ⟨rfl, HS.out⟩, rfl⟩
end Go.Proofs.Ytgdncnalahdjeaa
namespace Go.Proofs.Ytgdncnalahdjeaa
open Go Go.RowKit

/-- cmp.Compare. -/
def cmpI (x y : Int) : Int := if x < y then -1 else if y < x then 1 else 0
def absI (x : Int) : Int := max x (-x)
theorem absI_cases (x : Int) : (0 ≤ x ∧ absI x = x) ∨ (x < 0 ∧ absI x = -x) := by unfold absI; omega
/-- atoms first, and of one atom the literal before its negation. -/
def cmpL (x y : Int) : Int := if cmpI (absI x) (absI y) = 0 then cmpI y x else cmpI (absI x) (absI y)
theorem cmpI_cases (x y : Int) : (x < y ∧ cmpI x y = -1) ∨ (x = y ∧ cmpI x y = 0) ∨ (y < x ∧ cmpI x y = 1) := by
  unfold cmpI
  rcases Int.lt_trichotomy x y with h | h | h
  · exact .inl ⟨h, if_pos h⟩
  · exact .inr (.inl ⟨h, by rw [if_neg (by omega), if_neg (by omega)]⟩)
  · exact .inr (.inr ⟨h, by rw [if_neg (by omega), if_pos h]⟩)
set_option maxRecDepth 100000 in
set_option maxHeartbeats 800000 in
theorem compare_any (x y : Int) (w : World) : Calls Try.prog 90 #[.int .i64 x, .int .i64 y] w fun e w' => e = .returned (.int .i64 (cmpI x y)) ∧ w' = w := by
  rcases cmpI_cases x y with ⟨h, hc⟩ | ⟨h, hc⟩ | ⟨h, hc⟩
  · have q1 : decide (x < y) = true := by rw [decide_eq_true_eq]; exact h
    rw [hc]
    clear hc
    go_enter Try.func90, Try.ntmps90
    go_wp2
    go_ret
    exact ⟨rfl, rfl⟩
  · subst h
    rw [hc]
    clear hc
    go_enter Try.func90, Try.ntmps90
    go_wp2
    go_ret
    exact ⟨rfl, rfl⟩
  · have q1 : decide (x < y) = false := by rw [decide_eq_false_iff_not]; omega
    have q2 : decide (y < x) = true := by rw [decide_eq_true_eq]; exact h
    rw [hc]
    clear hc
    go_enter Try.func90, Try.ntmps90
    go_wp2
    go_ret
    exact ⟨rfl, rfl⟩
set_option maxRecDepth 100000 in
set_option maxHeartbeats 800000 in
theorem or_any (b c : Nat) (x y : Int) (w : World) (h0 : w.cell? ⟨b, 0, none⟩ = some (.int .i64 x)) (h1 : w.cell? ⟨b, 1, none⟩ = some (.int .i64 y)) :
    Calls Try.prog 89 #[.slice (some ⟨b, 0, none⟩) 2 c] w fun e w' => e = .returned (.int .i64 (if x = 0 then y else x)) ∧ w' = w := by
  by_cases hx : x = 0
  · subst hx
    rw [if_pos rfl]
    by_cases hy : y = 0
    · subst hy
      go_enter Try.func89, Try.ntmps89
      go_wp2
      refine wp_loop_rounds 3 ?_
      rw [rounds_succ]
      go_wp2
      rw [rounds_succ]
      go_wp2
      rw [rounds_succ]
      go_wp2
      go_ret
      exact ⟨rfl, rfl⟩
    · have q1 : (y == 0) = false := by rw [beq_eq_false_iff_ne]; exact hy
      have q2 : (y != 0) = true := by simp [hy]
      go_enter Try.func89, Try.ntmps89
      go_wp2
      refine wp_loop_rounds 3 ?_
      rw [rounds_succ]
      go_wp2
      rw [rounds_succ]
      go_wp2
      go_ret
      exact ⟨rfl, rfl⟩
  · rw [if_neg hx]
    have q1 : (x == 0) = false := by rw [beq_eq_false_iff_ne]; exact hx
    have q2 : (x != 0) = true := by simp [hx]
    go_enter Try.func89, Try.ntmps89
    go_wp2
    refine wp_loop_rounds 3 ?_
    rw [rounds_succ]
    go_wp2
    go_ret
    exact ⟨rfl, rfl⟩
theorem or_new (x y : Int) (w : World) : Calls Try.prog 89 #[.slice (some ⟨w.heap.size, 0, none⟩) 2 2] (w.alloc (.cells #[.int .i64 x, .int .i64 y] 3)) fun e w' => e = .returned (.int .i64 (if x = 0 then y else x)) ∧ w' = w.alloc (.cells #[.int .i64 x, .int .i64 y] 3) :=
  or_any w.heap.size 2 x y _ (by simp [go_sem]) (by simp [go_sem])
set_option maxRecDepth 100000 in
set_option maxHeartbeats 800000 in
theorem cmp_any (x y : Int) (w : World) (x0 : -1048576 ≤ x) (x1 : x ≤ 1048576) (y0 : -1048576 ≤ y) (y1 : y ≤ 1048576) :
    Calls Try.prog 88 #[.int .i64 x, .int .i64 y] w fun e w' => e = .returned (.int .i64 (cmpL x y)) ∧ w' = w.alloc (.cells #[.int .i64 (cmpI (absI x) (absI y)), .int .i64 (cmpI y x)] 3) := by
  have H1 := compare_any (absI x) (absI y) w
  have H2 := compare_any y x w
  have H3 := or_new (cmpI (absI x) (absI y)) (cmpI y x) w
  have hr : (if cmpI (absI x) (absI y) = 0 then cmpI y x else cmpI (absI x) (absI y)) = cmpL x y := rfl
  rw [hr] at H3
  clear hr
  generalize cmpL x y = r at *
  have ea : ∀ z : Int, absI z = max z (-z) := fun z => rfl
  rw [ea x, ea y] at H1 H3 ⊢
  clear ea
  generalize cmpI (max x (-x)) (max y (-y)) = p at *
  generalize cmpI y x = q at *
  go_enter Try.func88, Try.ntmps88
  go_wp2_with fail
  refine H1.mono ?_
  rintro e w1 ⟨rfl, rfl⟩
  go_wp2_with fail
  refine H2.mono ?_
  rintro e w1 ⟨rfl, rfl⟩
  go_wp2_with fail
  refine H3.mono ?_
  rintro e w1 ⟨rfl, rfl⟩
  go_wp2_with fail
  go_ret
  exact ⟨rfl, rfl⟩
end Go.Proofs.Ytgdncnalahdjeaa
