/- A trail in memory: Push, Len, Level, At. -/
import Derived.Test.YtpnchmelaonfiaaProg
import Derived.WalkKit
import Derived.WalkSpells
import Derived.WalkLawsBesides
import Derived.Below
import Derived.Outline
import Derived.Lib.Hide
import Derived.Lib.Walk
import Derived.Deep.QuietTactic
import Derived.BigQuiet
import Derived.Maps.AppendAt
import Derived.Laws.Externs
import Derived.Lib.ItoaMem
namespace Go.Proofs.Ytpnchmelaonfiaa
open Go Go.RowKit

theorem cell_later {W W' : World} (hb : Below W.heap.size W W') {a : Addr} {v : Value} (h : W.cell? a = some v) : W'.cell? a = some v := by
  rw [← h]
  exact hb.cell (World.block_lt_of_cell? W a h)
theorem below1 (w : World) (o1 : Obj) : Below w.heap.size w (w.alloc o1) := (Below.refl _ _).alloc (Nat.le_refl _) _
theorem below_drewN (w : World) (n : Nat) : Below w.heap.size w (w.drewN n) := ⟨rfl, rfl, rfl, Nat.le_refl _, fun _ _ => rfl⟩
theorem below_self (w : World) : Below w.heap.size w w := Below.refl _ _
theorem chain {w w1 w2 : World} {B : Nat} (h : Below B w w1) (k : Below w1.heap.size w1 w2) (hB : B ≤ w1.heap.size) : Below B w w2 := h.trans (k.mono hB)
/-- just blocks of a kind turn, and new ones come. -/
structure Only (T : Nat → Prop) (w w' : World) : Prop where
  os : w'.os = w.os
  tape : w'.tape = w.tape
  output : w'.output = w.output
  size : w.heap.size ≤ w'.heap.size
  block : ∀ k, k < w.heap.size → ¬ T k → w'.heap[k]? = w.heap[k]?
theorem Only.refl (T : Nat → Prop) (w : World) : Only T w w := ⟨rfl, rfl, rfl, Nat.le_refl _, fun _ _ _ => rfl⟩
theorem Only.trans {T : Nat → Prop} {a b c : World} (h : Only T a b) (k : Only T b c) : Only T a c :=
  ⟨k.os.trans h.os, k.tape.trans h.tape, k.output.trans h.output, Nat.le_trans h.size k.size, fun i hi hn => (k.block i (Nat.lt_of_lt_of_le hi h.size) hn).trans (h.block i hi hn)⟩
theorem Only.mono {T T' : Nat → Prop} {w w' : World} (h : Only T w w') (hT : ∀ k, k < w.heap.size → T k → T' k) : Only T' w w' := ⟨h.os, h.tape, h.output, h.size, fun k hk hn => h.block k hk (fun ht => hn (hT k hk ht))⟩
theorem Only.of_below {T : Nat → Prop} {w w' : World} (h : Below w.heap.size w w') : Only T w w' := ⟨h.os, h.tape, h.output, h.size, fun k hk _ => h.block k hk⟩
theorem Only.below {T : Nat → Prop} {B : Nat} {w w' : World} (h : Only T w w') (hT : ∀ k, T k → B ≤ k) (hB : B ≤ w.heap.size) : Below B w w' := ⟨h.os, h.tape, h.output, h.size, fun k hk => h.block k (Nat.lt_of_lt_of_le hk hB) (fun ht => by have := hT k ht; omega)⟩
theorem Only.of_grown {w w' : World} {row : Option Nat} (h : w.grownBy w' row) : Only (fun k => row = some k) w w' := ⟨h.os, h.tape, h.output, h.size, fun k hk hn => h.block k hk (fun e => hn e.symm)⟩
theorem Only.of_setCell (w : World) (a : Addr) (u : Value) : Only (fun k => k = a.block) w (w.setCell a u) := by
  refine ⟨rfl, rfl, rfl, by simp, fun k hk hn => Below.heap_setCell w a u k hn⟩
theorem Only.cell {T : Nat → Prop} {w w' : World} (h : Only T w w') {a : Addr} {v : Value} (hc : w.cell? a = some v) (hn : ¬ T a.block) : w'.cell? a = some v := by
  rw [← hc]
  exact World.cell?_of_block (w := w) (h.block a.block (World.block_lt_of_cell? w a hc) hn)
theorem Only.frozen {T : Nat → Prop} {w w' : World} (h : Only T w w') {a : Addr} (hl : a.block < w.heap.size) (hn : ¬ T a.block) : w'.frozen? a = w.frozen? a :=
  World.frozen?_of_block (w := w) (h.block a.block hl hn)
theorem own_block {w w' : World} {base n : Nat} {e : TypeId} {size : Nat} {v : Value} {xs : List Value} (h : w.ownsRow base e size v n xs) (hk : ∀ k, v.ownBlock = some k → k < w.heap.size → w'.heap[k]? = w.heap[k]?) : w'.ownsRow base e size v n xs := by
  rcases h with ⟨h0, ⟨h1, h2⟩ | ⟨g, cap, cur, rfl, hg, hh, hc⟩⟩
  · exact ⟨h0, .inl ⟨h1, h2⟩⟩
  · refine ⟨h0, .inr ⟨g, cap, cur, rfl, hg, ?_, hc⟩⟩
    rw [← hh]
    exact hk g rfl (by
      rcases Nat.lt_or_ge g w.heap.size with h | h
      · exact h
      · rw [Array.getElem?_eq_none h] at hh; cases hh)
theorem own_only {T : Nat → Prop} {w w' : World} {base n : Nat} {e : TypeId} {size : Nat} {v : Value} {xs : List Value} (h : w.ownsRow base e size v n xs) (ho : Only T w w') (hn : ∀ k, v.ownBlock = some k → ¬ T k) : w'.ownsRow base e size v n xs :=
  own_block h (fun k hk hl => ho.block k hl (hn k hk))
theorem own_later {w w' : World} {base n : Nat} {e : TypeId} {size : Nat} {v : Value} {xs : List Value} (h : w.ownsRow base e size v n xs) (hb : Below w.heap.size w w') : w'.ownsRow base e size v n xs :=
  own_block h (fun k _ hl => hb.block k hl)
theorem own_lt {w : World} {base n : Nat} {e : TypeId} {size : Nat} {v : Value} {xs : List Value} (h : w.ownsRow base e size v n xs) {k : Nat} (hk : v.ownBlock = some k) : base ≤ k ∧ k < w.heap.size := World.ownsRow.lt h k hk

theorem info_of {e : TypeId} {z : Value} {s b : Nat} (h : (Try.prog.info? e).map (fun i => (i.zero, i.size, i.bytes)) = some (some z, s, b)) : ∃ i0, Try.prog.info? e = some i0 ∧ i0.zero = some z ∧ i0.size = s ∧ i0.bytes = b := by
  obtain ⟨i, hi, hb⟩ := Option.map_eq_some_iff.1 h
  simp only [Prod.mk.injEq] at hb
  exact ⟨i, hi, hb.1, hb.2.1, hb.2.2⟩
theorem info9 : ∃ i0, Try.prog.info? 9 = some i0 ∧ i0.zero = some (.string ByteArray.empty) ∧ i0.size = 1 ∧ i0.bytes = 16 := info_of (by kernel_rfl)
theorem info3 : ∃ i0, Try.prog.info? 3 = some i0 ∧ i0.zero = some (.int .i64 0) ∧ i0.size = 1 ∧ i0.bytes = 8 := info_of (by kernel_rfl)
/-- a trail: its struct in block a, its rows in blocks T and M from base on. -/
structure TrailAt (W : World) (a base : Nat) (T M : Option Nat) (xs : List ByteArray) (ms : List Nat) : Prop where
  ct : ∃ vt, W.cell? ⟨a, 0, none⟩ = some vt ∧ vt.ownBlock = T ∧ W.ownsRow base 9 1 vt xs.length (xs.map Value.string)
  cm : ∃ vm, W.cell? ⟨a, 1, none⟩ = some vm ∧ vm.ownBlock = M ∧ W.ownsRow base 3 1 vm ms.length (ms.map fun (n : Nat) => Value.int .i64 n)
  f0 : W.frozen? ⟨a, 0, none⟩ = false
  f1 : W.frozen? ⟨a, 1, none⟩ = false
  ne : ∀ k, T = some k → M ≠ some k
  ha : a < base
  hb : base ≤ W.heap.size
theorem TrailAt.only {W W' : World} {a base : Nat} {T M : Option Nat} {xs : List ByteArray} {ms : List Nat} {S : Nat → Prop} (h : TrailAt W a base T M xs ms) (ho : Only S W W') (h1 : ¬ S a) (h2 : ∀ k, T = some k → ¬ S k) (h3 : ∀ k, M = some k → ¬ S k) : TrailAt W' a base T M xs ms := by
  obtain ⟨vt, c1, e1, o1⟩ := h.ct
  obtain ⟨vm, c2, e2, o2⟩ := h.cm
  have hal : a < W.heap.size := World.block_lt_of_cell? W _ c1
  exact ⟨⟨vt, ho.cell c1 h1, e1, own_only o1 ho (by rw [e1]; exact h2)⟩, ⟨vm, ho.cell c2 h1, e2, own_only o2 ho (by rw [e2]; exact h3)⟩, by rw [ho.frozen hal h1]; exact h.f0, by rw [ho.frozen hal h1]; exact h.f1, h.ne, h.ha, Nat.le_trans h.hb ho.size⟩
theorem TrailAt.later {W W' : World} {a base : Nat} {T M : Option Nat} {xs : List ByteArray} {ms : List Nat} (h : TrailAt W a base T M xs ms) (hb : Below W.heap.size W W') : TrailAt W' a base T M xs ms :=
  h.only (Only.of_below (T := fun _ => False) hb) (fun h => h) (fun _ _ h => h) (fun _ _ h => h)
/-- a row is nil, or begins its block. -/
theorem own_shape {w : World} {base n : Nat} {e : TypeId} {size : Nat} {v : Value} {xs : List Value} (h : w.ownsRow base e size v n xs) : ∃ (p : Option Addr) (c : Nat), v = .slice p n c ∧ (∀ ad, p = some ad → ad = ⟨ad.block, 0, none⟩ ∧ base ≤ ad.block) := by
  rcases h.2 with ⟨rfl, rfl⟩ | ⟨g, cap, cur, rfl, hg, _⟩
  · exact ⟨none, 0, rfl, fun ad h => by cases h⟩
  · exact ⟨some ⟨g, 0, none⟩, cap, rfl, fun ad h => by cases h; exact ⟨rfl, hg⟩⟩
set_option maxRecDepth 100000 in
set_option maxHeartbeats 800000 in
theorem push_any (a base : Nat) (T M : Option Nat) (xs : List ByteArray) (ms : List Nat) (x : ByteArray) (W : World) (h : TrailAt W a base T M xs ms) (hx : xs.length ≤ 1000000) :
    Calls Try.prog 28 #[.pointer (some ⟨a, 0, none⟩), .string x] W fun e w' => e = .returned (.tuple #[]) ∧ ∃ T', (T' = T ∨ ∃ k, T' = some k ∧ W.heap.size ≤ k) ∧ TrailAt w' a base T' M (xs ++ [x]) ms ∧ Only (fun k => k = a ∨ T = some k) W w' := by
  obtain ⟨i0, hi, hz0, hz1, hz2⟩ := info9
  obtain ⟨vt, c1, e1, o1⟩ := h.ct
  have hal : a < W.heap.size := World.block_lt_of_cell? W _ c1
  have hB := below1 W (.cells #[.string x] 9)
  have h1 := h.later hB
  have o2 := own_later o1 hB
  have c2 := cell_later hB c1
  have f1 := h1.f0
  have H := Lib.hid h
  have H1 := Lib.hid h1
  have HB := Lib.hid hB
  have HO := Lib.hid o2
  have HE := Lib.hid e1
  have hz3 := h1.hb
  clear h h1 hB o1 o2 e1
  go_enter Try.func28, Try.ntmps28
  go_wp2_with (at_builtin; refine wpList_append_own_at _ rfl _ _ 45 rfl base 9 i0 (.string ByteArray.empty) 1 16 Try.underlying45 hi hz0 hz1 hz2 rfl (by omega) _ xs.length (xs.map Value.string) rfl HO.out ⟨W.heap.size, 0, none⟩ 1 1 [.string x] rfl rfl ?qc2 ?qc3 ?qc4 ?qc5 ?qc6 ?_)
  case qc2 =>
    intro jj u hjj
    rw [Lib.add_plain]
    match jj, hjj with
    | 0, hjj => cases hjj; simp [go_sem]
  case qc3 => intro u hu; simp at hu; rcases hu with rfl; rfl
  case qc4 => have hml : maxLen = 9223372036854775807 := rfl; omega
  case qc5 => omega
  case qc6 => exact hz3
  intro v' w1 hown hgrow hnil hloc
  obtain ⟨pn, cn, hv, _⟩ := own_shape hown
  subst hv
  have ho1 : Only (fun k => T = some k) (W.alloc (.cells #[.string x] 9)) w1 := (Only.of_grown hgrow).mono (fun k _ hk => by rw [← HE.out]; exact hk)
  have hTa : ¬ T = some a := fun e => by have := own_lt HO.out (HE.out.trans e); have := H.out.ha; omega
  have c3 := ho1.cell c2 (by simpa using hTa)
  have f3 : w1.frozen? ⟨a, 0, none⟩ = false := by rw [ho1.frozen (by simp; omega) (by simpa using hTa)]; exact f1
  have HOWN := Lib.hid hown
  have HO1 := Lib.hid ho1
  have HLOC := Lib.hid hloc
  have HTA := Lib.hid hTa
  clear hown hgrow hnil hloc ho1 hTa c1 c2 f1
  go_wp2
  go_end0
  refine ⟨rfl, (Value.slice pn (xs.length + 1) cn).ownBlock, ?_, ?_, ?_⟩
  · rcases HLOC.out with e | e
    · exact .inl (e.trans HE.out)
    · exact .inr ⟨_, e, by simp⟩
  · have hs := Only.of_setCell w1 ⟨a, 0, none⟩ (.slice pn (xs.length + 1) cn)
    obtain ⟨vm, cm0, em, om0⟩ := H.out.cm
    have cm := cell_later HB.out cm0
    have om := own_later om0 HB.out
    have hMa : ¬ M = some a := fun e => by have := own_lt om (em.trans e); have := H.out.ha; omega
    have hMT : ∀ k, M = some k → ¬ T = some k := fun k hk e => H.out.ne k e hk
    have cm1 := HO1.out.cell cm (by simpa using HTA.out)
    have hal1 : a < w1.heap.size := World.block_lt_of_cell? w1 _ cm1
    have hnew : ∀ k, (Value.slice pn (xs.length + 1) cn).ownBlock = some k → base ≤ k ∧ k < w1.heap.size := fun k hk => own_lt HOWN.out hk
    refine ⟨⟨_, by simp [go_sem, c3], rfl, ?_⟩, ⟨vm, ?_, em, ?_⟩, ?_, ?_, ?_, H.out.ha, ?_⟩
    · have := own_only HOWN.out hs (fun k hk => by have := hnew k hk; have := H.out.ha; simp; omega)
      simpa using this
    · refine Eq.trans ?_ cm1
      simp [go_sem]
    · exact own_only (own_only om HO1.out (by rw [em]; exact hMT)) hs (fun k hk => by rw [em] at hk; simp; intro e; exact hMa (by rw [hk, e]))
    · rw [World.frozen?_setCell]; exact f3
    · rw [World.frozen?_setCell, HO1.out.frozen (by simp; omega) (by simpa using HTA.out)]; exact H1.out.f1
    · intro k hk hM
      rcases HLOC.out with e | e
      · exact H.out.ne k (by rw [← HE.out, ← e]; exact hk) hM
      · rw [e] at hk
        cases hk
        have := (own_lt om0 (em.trans hM)).2
        omega
    · have := HO1.out.size; rw [World.size_setCell]; omega
  · exact ((Only.of_below HB.out).trans ((HO1.out.mono (fun k _ hk => .inr hk)).trans ((Only.of_setCell w1 ⟨a, 0, none⟩ (.slice pn (xs.length + 1) cn)).mono (fun k _ hk => .inl hk))))
end Go.Proofs.Ytpnchmelaonfiaa
