/- The checker: what a link concludes. -/
import Derived.Test.YtgdncnalahdjeaaL6
namespace Go.Proofs.Ytgdncnalahdjeaa
open Go Go.RowKit

set_option maxRecDepth 100000 in
set_option maxHeartbeats 1600000 in
theorem applies_out (c : Nat) (T M : Option Nat) (p : Option Addr) (n cv : Nat) (d : VD) (q : Option Addr) (m ca : Nat) (ts : List (Int × Int)) (ls : List Int) (K Tt A B I J : Int) (P : Option Addr) (L C : Nat) (V : Nat → Int) (w : World) (h : CheckerAt w c T M p n cv q m ca ts ls) (hx : isV n A = false ∨ (isV n A = true ∧ isV n B = false)) :
    Calls Try.prog 105 #[.pointer (some ⟨c, 0, none⟩), linkV K Tt A B I J P L C] w fun e w' => e = .returned (.bool (appB n d ts A B L V)) ∧ Below w.heap.size w w' := by
  have hv : appB n d ts A B L V = false := by unfold appB; rcases hx with h | ⟨h, h'⟩ <;> simp [*]
  rw [hv]
  unfold linkV
  have hB0 := below1 w (.cells #[.int .u8 K, .int .i64 Tt, .int .i64 A, .int .i64 B, .int .i64 I, .int .i64 J, .slice P L C] 57)
  have c0 := (h.later hB0).c0
  have HB0 := Lib.hid hB0
  clear h hv hB0
  rcases hx with ia | ⟨ia, ib⟩
  · go_enter Try.func105, Try.ntmps105
    go_wp2
    go_quiet ((go_at_call 65; exact Calls.quiet_of_same (isVertex_any _ _ _ _ _)))
    go_wp2
    go_ret
    exact ⟨rfl, HB0.out.trans ((below_drewN _ _).mono HB0.out.size)⟩
  · go_enter Try.func105, Try.ntmps105
    go_wp2
    go_quiet ((go_at_call 65; exact Calls.quiet_of_same (isVertex_any _ _ _ _ _)))
    go_wp2
    go_ret
    exact ⟨rfl, HB0.out.trans ((below_drewN _ _).mono HB0.out.size)⟩
theorem applies_any (c : Nat) (T M : Option Nat) (p : Option Addr) (n cv : Nat) (d : VD) (q : Option Addr) (m ca : Nat) (ts : List (Int × Int)) (ls : List Int) (K Tt A B I J : Int) (P : Option Addr) (L C : Nat) (V : Nat → Int) (w : World) (h : CheckerAt w c T M p n cv q m ca ts ls) (hd : VertsIn w p n d) (hn : n ≤ 20000) (hl : ts.length ≤ 1000000) (hV : LitsIn w P L V) (hL : L ≤ 9223372036854775807) :
    Calls Try.prog 105 #[.pointer (some ⟨c, 0, none⟩), linkV K Tt A B I J P L C] w fun e w' => e = .returned (.bool (appB n d ts A B L V)) ∧ Below w.heap.size w w' := by
  cases ia : isV n A with
  | false => exact applies_out c T M p n cv d q m ca ts ls K Tt A B I J P L C V w h (.inl ia)
  | true =>
    cases ib : isV n B with
    | false => exact applies_out c T M p n cv d q m ca ts ls K Tt A B I J P L C V w h (.inr ⟨ia, ib⟩)
    | true =>
      have h1 := (isV_iff n A).1 ia
      have h2 := (isV_iff n B).1 ib
      obtain ⟨ai, rfl⟩ : ∃ ai : Nat, A = ai := ⟨A.toNat, by omega⟩
      obtain ⟨bi, rfl⟩ : ∃ bi : Nat, B = bi := ⟨B.toNat, by omega⟩
      exact applies_in c T M p n cv d q m ca ts ls K Tt I J ai bi P L C V w h hd hn hl hV hL (by omega) (by omega)
/-- what a link concludes. -/
def conclL (n : Nat) (d : VD) (m : Nat) (a : AD) (ts : List (Int × Int)) (K Tt A B I J : Int) (L : Nat) (V : Nat → Int) : (Int × Int) × Bool :=
  if K = 1 then toldL m a Tt
  else if K = 2 then ((A, A), isV n A)
  else if K = 3 then (((atL ts I).1.2, (atL ts I).1.1), (atL ts I).2)
  else if K = 4 then (((atL ts I).1.1, (atL ts J).1.2), (atL ts I).2 && (atL ts J).2 && (atL ts I).1.2 == (atL ts J).1.1)
  else if K = 5 then ((A, B), appB n d ts A B L V)
  else ((0, 0), false)
theorem below_le {B B' : Nat} {w w' : World} (h : Below B w w') (hB : B' ≤ B) : Below B' w w' := h.mono hB
set_option maxRecDepth 100000 in
set_option maxHeartbeats 1600000 in
theorem concl_other (c : Nat) (T M : Option Nat) (p : Option Addr) (n cv : Nat) (q : Option Addr) (m ca : Nat) (ts : List (Int × Int)) (ls : List Int) (K Tt A B I J : Int) (P : Option Addr) (L C : Nat) (w : World) (h : CheckerAt w c T M p n cv q m ca ts ls) (_hl : ts.length ≤ 1000000) (hK : K ≠ 1 ∧ K ≠ 2 ∧ K ≠ 3 ∧ K ≠ 4 ∧ K ≠ 5) :
    Calls Try.prog 84 #[.pointer (some ⟨c, 0, none⟩), linkV K Tt A B I J P L C] w fun e w' => e = .returned (.tuple #[.agg #[.int .i64 0, .int .i64 0], .bool false]) ∧ Below w.heap.size w w' := by
  unfold linkV
  have hB0 := (below1 w (.cells #[.int .u8 K, .int .i64 Tt, .int .i64 A, .int .i64 B, .int .i64 I, .int .i64 J, .slice P L C] 57)).trans ((below1 _ (.cells #[.int .i64 0, .int .i64 0] 113)).mono (below1 w (.cells #[.int .u8 K, .int .i64 Tt, .int .i64 A, .int .i64 B, .int .i64 I, .int .i64 J, .slice P L C] 57)).size)
  have h1 := h.later hB0
  have HB0 := Lib.hid hB0
  have H1 := Lib.hid h1
  clear h hB0
  obtain ⟨k1, k2, k3, k4, k5⟩ := hK
  have q1 : (K == 1) = false := by simpa using k1
  have q2 : (K == 2) = false := by simpa using k2
  have q3 : (K == 3) = false := by simpa using k3
  have q4 : (K == 4) = false := by simpa using k4
  have q5 : (K == 5) = false := by simpa using k5
  clear k1 k2 k3 k4 k5 h1
  go_enter Try.func84, Try.ntmps84
  go_wp2_with fail
  refine bodyPost_ret (v := .tuple #[.agg #[.int .i64 0, .int .i64 0], .bool false]) (by simp [results, Try.results84, go_sem]) rfl ⟨rfl, ?_⟩
  first | exact HB0.out | exact (HB0.out.setCell (by simp) _).setCell (by simp) _
set_option maxRecDepth 100000 in
set_option maxHeartbeats 1600000 in
theorem concl_turn (c : Nat) (T M : Option Nat) (p : Option Addr) (n cv : Nat) (q : Option Addr) (m ca : Nat) (ts : List (Int × Int)) (ls : List Int) (Tt A B I J : Int) (P : Option Addr) (L C : Nat) (w : World) (h : CheckerAt w c T M p n cv q m ca ts ls) (hl : ts.length ≤ 1000000)  :
    Calls Try.prog 84 #[.pointer (some ⟨c, 0, none⟩), linkV 3 Tt A B I J P L C] w fun e w' => e = .returned (.tuple #[.agg #[.int .i64 (atL ts I).1.2, .int .i64 (atL ts I).1.1], .bool (atL ts I).2]) ∧ Below w.heap.size w w' := by
  unfold linkV
  have hB0 := (below1 w (.cells #[.int .u8 3, .int .i64 Tt, .int .i64 A, .int .i64 B, .int .i64 I, .int .i64 J, .slice P L C] 57)).trans ((below1 _ (.cells #[.int .i64 0, .int .i64 0] 113)).mono (below1 w (.cells #[.int .u8 3, .int .i64 Tt, .int .i64 A, .int .i64 B, .int .i64 I, .int .i64 J, .slice P L C] 57)).size)
  have h1 := h.later hB0
  have HB0 := Lib.hid hB0
  have H1 := Lib.hid h1
  clear h hB0
  have H2 := at_any c T M p n cv q m ca ts ls I _ h1 hl
  generalize atL ts I = r at *
  obtain ⟨⟨rx, ry⟩, rb⟩ := r
  clear h1
  go_enter Try.func84, Try.ntmps84
  go_wp2_with fail
  refine H2.mono ?_
  rintro e1 w1 ⟨rfl, hb⟩
  have hz1 := hb.size
  simp only [World.size_alloc] at hz1
  have x0 : w1.cell? ⟨w.heap.size + 1, 0, none⟩ = some (.int .i64 0) := cell_later hb (by simp [go_sem])
  have x1 : w1.cell? ⟨w.heap.size + 1, 1, none⟩ = some (.int .i64 0) := cell_later hb (by simp [go_sem])
  have hf0 : w1.frozen? ⟨w.heap.size + 1, 0, none⟩ = false := by rw [hb.frozen (by simp)]; simp [go_sem]
  have hf1 : w1.frozen? ⟨w.heap.size + 1, 1, none⟩ = false := by rw [hb.frozen (by simp)]; simp [go_sem]
  have hzz : w.heap.size + 1 < w1.heap.size := by omega
  have HB1 := Lib.hid (HB0.out.trans (hb.mono (by have := HB0.out.size; exact this)))
  clear hb H2
  go_wp2_with fail
  refine bodyPost_ret (v := .tuple #[.agg #[.int .i64 ry, .int .i64 rx], .bool rb]) (by simp [results, Try.results84, go_sem, x0, x1, hzz]) rfl ⟨rfl, ?_⟩
  refine below_alloc_set2 HB1.out HB1.out.size _ _ _ _ _ ?_ ?_ <;> exact Nat.le_succ _
end Go.Proofs.Ytgdncnalahdjeaa
