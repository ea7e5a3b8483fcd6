/- The checker: the link that closes. -/
import Derived.Test.YtgdncnalahdjeaaL12
namespace Go.Proofs.Ytgdncnalahdjeaa
open Go Go.RowKit

/-- does a link close? -/
def closeL (m : Nat) (a : AD) (ts : List (Int × Int)) (K Tt I : Int) : Bool :=
  (atL ts I).2 && (if K = 7 then (atL ts I).1.1 == 0 && (atL ts I).1.2 == 1 else if K = 6 then okL m Tt && decide (Tt < 0) && a.K (Tt.natAbs - 1) == 1 && ((atL ts I).1.1 == a.A (Tt.natAbs - 1) && (atL ts I).1.2 == a.B (Tt.natAbs - 1)) else false)
/-- the literals behind it. -/
def closeT (ts : List (Int × Int)) (K Tt I : Int) (ls : List Int) : List Int := if (atL ts I).2 = true ∧ K = 6 then ls ++ [Tt] else ls
set_option maxRecDepth 100000 in
set_option maxHeartbeats 3000000 in
theorem closes_at (c : Nat) (T M : Option Nat) (p : Option Addr) (n cv : Nat) (q : Option Addr) (m ca : Nat) (ts : List (Int × Int)) (ls : List Int) (K Tt A B I J : Int) (P : Option Addr) (L C : Nat) (w : World) (h : CheckerAt w c T M p n cv q m ca ts ls) (hl : ts.length ≤ 1000000) (hr : (atL ts I).2 = false) :
    Calls Try.prog 60 #[.pointer (some ⟨c, 0, none⟩), linkV K Tt A B I J P L C] w fun e w' => e = .returned (.bool false) ∧ Below w.heap.size w w' := by
  unfold linkV
  have hB0 := below1 w (.cells #[.int .u8 K, .int .i64 Tt, .int .i64 A, .int .i64 B, .int .i64 I, .int .i64 J, .slice P L C] 57)
  have h1 := h.later hB0
  have H2 := at_any c T M p n cv q m ca ts ls I _ h1 hl
  obtain ⟨rx, ry, rb, hrr⟩ : ∃ rx ry rb, atL ts I = ((rx, ry), rb) := ⟨_, _, _, rfl⟩
  rw [hrr] at H2 hr
  dsimp only at H2 hr
  subst hr
  clear hrr
  have HB0 := Lib.hid hB0
  have H1 := Lib.hid h1
  clear h hB0 h1
  go_enter Try.func60, Try.ntmps60
  go_wp2_with fail
  refine H2.mono ?_
  rintro e1 w3 ⟨rfl, hb⟩
  have HB9 := Lib.hid (HB0.out.trans ((chain hb (below1 w3 (.cells #[.int .i64 rx, .int .i64 ry] 113))).mono HB0.out.size))
  clear hb H2
  go_wp2_with fail
  exact bodyPost_ret (v := .bool false) (by simp [results, Try.results60, go_sem]) rfl ⟨rfl, HB9.out⟩
set_option maxRecDepth 100000 in
set_option maxHeartbeats 3000000 in
theorem closes_other (c : Nat) (T M : Option Nat) (p : Option Addr) (n cv : Nat) (q : Option Addr) (m ca : Nat) (ts : List (Int × Int)) (ls : List Int) (K Tt A B I J : Int) (P : Option Addr) (L C : Nat) (w : World) (h : CheckerAt w c T M p n cv q m ca ts ls) (hl : ts.length ≤ 1000000) (hr : (atL ts I).2 = true) (k7 : K ≠ 7) (k6 : K ≠ 6) :
    Calls Try.prog 60 #[.pointer (some ⟨c, 0, none⟩), linkV K Tt A B I J P L C] w fun e w' => e = .returned (.bool false) ∧ Below w.heap.size w w' := by
  unfold linkV
  have hB0 := below1 w (.cells #[.int .u8 K, .int .i64 Tt, .int .i64 A, .int .i64 B, .int .i64 I, .int .i64 J, .slice P L C] 57)
  have h1 := h.later hB0
  have H2 := at_any c T M p n cv q m ca ts ls I _ h1 hl
  have q7 : (K == 7) = false := by simpa using k7
  have q6 : (K == 6) = false := by simpa using k6
  clear k7 k6
  obtain ⟨rx, ry, rb, hrr⟩ : ∃ rx ry rb, atL ts I = ((rx, ry), rb) := ⟨_, _, _, rfl⟩
  rw [hrr] at H2 hr
  dsimp only at H2 hr
  subst hr
  clear hrr
  have z0 : (w.alloc (.cells #[.int .u8 K, .int .i64 Tt, .int .i64 A, .int .i64 B, .int .i64 I, .int .i64 J, .slice P L C] 57)).cell? ⟨w.heap.size, 0, none⟩ = some (.int .u8 K) := by simp [go_sem]
  have Z0 := Lib.hid z0
  clear z0
  have HB0 := Lib.hid hB0
  have H1 := Lib.hid h1
  clear h hB0 h1
  go_enter Try.func60, Try.ntmps60
  go_wp2_with fail
  refine H2.mono ?_
  rintro e1 w3 ⟨rfl, hb⟩
  have z0 := cell_later (chain hb (below1 w3 (.cells #[.int .i64 rx, .int .i64 ry] 113))) Z0.out
  have HB9 := Lib.hid (HB0.out.trans ((chain hb (below1 w3 (.cells #[.int .i64 rx, .int .i64 ry] 113))).mono HB0.out.size))
  clear hb H2
  go_wp2_with fail
  exact bodyPost_ret (v := .bool false) (by simp [results, Try.results60, go_sem]) rfl ⟨rfl, HB9.out⟩
set_option maxRecDepth 100000 in
set_option maxHeartbeats 3000000 in
theorem closes_clash (c : Nat) (T M : Option Nat) (p : Option Addr) (n cv : Nat) (q : Option Addr) (m ca : Nat) (ts : List (Int × Int)) (ls : List Int) (Tt A B I J : Int) (P : Option Addr) (L C : Nat) (w : World) (h : CheckerAt w c T M p n cv q m ca ts ls) (hl : ts.length ≤ 1000000) (hr : (atL ts I).2 = true) :
    Calls Try.prog 60 #[.pointer (some ⟨c, 0, none⟩), linkV 7 Tt A B I J P L C] w fun e w' => e = .returned (.bool ((atL ts I).1.1 == 0 && (atL ts I).1.2 == 1)) ∧ Below w.heap.size w w' := by
  unfold linkV
  have hB0 := below1 w (.cells #[.int .u8 7, .int .i64 Tt, .int .i64 A, .int .i64 B, .int .i64 I, .int .i64 J, .slice P L C] 57)
  have h1 := h.later hB0
  have H2 := at_any c T M p n cv q m ca ts ls I _ h1 hl
  obtain ⟨rx, ry, rb, hrr⟩ : ∃ rx ry rb, atL ts I = ((rx, ry), rb) := ⟨_, _, _, rfl⟩
  rw [hrr] at H2 hr ⊢
  dsimp only at H2 hr ⊢
  subst hr
  clear hrr
  have z0 : (w.alloc (.cells #[.int .u8 7, .int .i64 Tt, .int .i64 A, .int .i64 B, .int .i64 I, .int .i64 J, .slice P L C] 57)).cell? ⟨w.heap.size, 0, none⟩ = some (.int .u8 7) := by simp [go_sem]
  have Z0 := Lib.hid z0
  clear z0
  have HB0 := Lib.hid hB0
  have H1 := Lib.hid h1
  clear h hB0 h1
  go_enter Try.func60, Try.ntmps60
  go_wp2_with fail
  refine H2.mono ?_
  rintro e1 w3 ⟨rfl, hb⟩
  have z0 := cell_later (chain hb (below1 w3 (.cells #[.int .i64 rx, .int .i64 ry] 113))) Z0.out
  have HB9 := Lib.hid (HB0.out.trans ((chain hb (below1 w3 (.cells #[.int .i64 rx, .int .i64 ry] 113))).mono HB0.out.size))
  clear hb H2
  have hpe := fun W => pair_eql rx ry 0 1 W
  go_wp2_with fail
  exact bodyPost_ret (v := .bool (rx == 0 && ry == 1)) (by simp [results, Try.results60, go_sem]) rfl ⟨rfl, HB9.out⟩
end Go.Proofs.Ytgdncnalahdjeaa
