/- The store's keys: a clause's bytes. -/
import Derived.Test.YtiadnifbjdnflaaZ0
import Derived.Test.YtiadnifbjdnflaaMay
import Derived.Laws.BytesArg
import Derived.OwnWalk
namespace Go.Proofs.Ytiadnifbjdnflaa
open Go Go.RowKit Go.Maps

/-- four bytes, the low one first. -/
def quad (x : Int) : List Int := [x % 256, x / 256 % 256, x / 65536 % 256, x / 16777216 % 256]
def quads (V : Nat → Int) : Nat → List Int
  | 0 => []
  | k + 1 => quads V k ++ quad (V k)
theorem quads_len (V : Nat → Int) : ∀ k, (quads V k).length = 4 * k
  | 0 => rfl
  | k + 1 => by simp [quads, quads_len V k, quad]; omega
def textOf (n : Nat) (V : Nat → Int) : ByteArray := strOfNums (quads V n)
structure TxR (W wr : World) (V : Nat → Int) (k : Nat) (v : Value) : Prop where
  own : wr.ownsRow W.heap.size 5 1 v (4 * k) ((quads V k).map (Value.int .u8))
  b : Below W.heap.size W wr
  nn : v ≠ .slice none 0 0
set_option maxRecDepth 100000 in
set_option maxHeartbeats 4000000 in
theorem key_any (p : Option Addr) (n z : Nat) (V : Nat → Int) (W : World) (h : LitsIn W p n V) (hn : n ≤ 5000) (hV : ∀ i, i < n → -1048576 ≤ V i ∧ V i ≤ 1048576) :
    Calls Try.prog 57 #[.slice p n z] W fun e w' => e = .returned (.string (textOf n V)) ∧ Below W.heap.size W w' := by
  obtain ⟨i0, hi, hz0, hz1, hz2⟩ := info_of (e := 5) (z := .int .u8 0) (s := 1) (b := 1) (by kernel_rfl)
  have e4 : wrap64 (4 * (n : Int)) = ((4 * n : Nat) : Int) := by rw [wrap64_eq]; omega
  have e4' : IntKind.i64.wrap (4 * (n : Int)) = ((4 * n : Nat) : Int) := by rw [IntKind.wrap_i64]; omega
  have H := Lib.hid h
  have HV := Lib.hid hV
  clear h hV
  go_enter Try.func57, Try.ntmps57
  go_wp2_with (at_make; refine wpList_make_own _ rfl _ _ 93 rfl W.heap.size 5 i0 (.int .u8 0) 1 Try.underlying93 hi hz0 hz1 .i64 .i64 _ (4 * n) rfl rfl (by omega) ?b2 ?b3 ?b4 ?_)
  case b2 => rw [hz2]; omega
  case b3 => unfold maxLen; omega
  case b4 => omega
  intro w1 hown hgr
  have HT := Lib.hid (show TxR W w1 V 0 _ from ⟨hown, (Below.refl _ W).grown hgr (Nat.le_refl _) (by intro k hk; cases hk), by intro e; cases e⟩)
  clear hown hgr e4 e4'
  go_wp2_with fail
  go_loopw [3, 12] (fun v i wr => ∃ (k : Nat), k ≤ n ∧ i = .int .i64 k ∧ TxR W wr V k v) (fun _ i _ => n - (intOf i).toNat)
  case atStart => exact ⟨0, Nat.zero_le _, rfl, HT.out⟩
  case round =>
    obtain ⟨k, hk, rfl, ht⟩ := hrel
    clear HT
    by_cases hlt : k < n
    · obtain ⟨p3, c3, rfl⟩ := own_shape ht.own
      obtain ⟨b, off, rfl, ha⟩ := (H.out.later ht.b) (by omega)
      have ck := ha k hlt
      obtain ⟨hv0, hv1⟩ := HV.out k hlt
      obtain ⟨x, hx⟩ : ∃ x, x = V k := ⟨_, rfl⟩
      have HX := Lib.hid hx.symm
      rw [← hx] at ck hv0 hv1
      clear hx
      have hk0 : (0 : Int) ≤ (k : Int) := by omega
      have hk1 : (k : Int) < (n : Int) := by omega
      have HT := Lib.hid ht
      clear ha ht
      have hsz : W.heap.size ≤ wr.heap.size := HT.out.b.size
      go_wp2_with (at_builtin; refine wpList_append_own _ rfl _ _ 93 rfl W.heap.size 5 i0 (.int .u8 0) 1 1 Try.underlying93 hi hz0 hz1 hz2 rfl (by omega) _ _ _ rfl (own_later HT.out.own (below1 wr (.cells #[.int .u8 (x % 256), .int .u8 (x / 256 % 256), .int .u8 (x / 65536 % 256), .int .u8 (x / 16777216 % 256)] 5))) ⟨wr.heap.size, 0, none⟩ 4 4 ((quad x).map (Value.int .u8)) rfl rfl ?c2 ?c3 ?c4 ?c5 ?c6 ?_)
      case c2 =>
        intro j u hj
        rw [show (⟨wr.heap.size, 0, none⟩ : Addr).add j = ⟨wr.heap.size, 0 + j, none⟩ from Lib.add_plain _ _ _, Nat.zero_add]
        have hj4 : j < 4 := by have := (List.getElem?_eq_some_iff.1 hj).1; simpa [quad] using this
        have : j = 0 ∨ j = 1 ∨ j = 2 ∨ j = 3 := by omega
        rcases this with rfl | rfl | rfl | rfl <;> (simp [quad] at hj; subst hj; simp [go_sem])
      case c3 => intro u hu; obtain ⟨y, _, rfl⟩ := List.mem_map.1 hu; rfl
      case c4 => unfold maxLen; omega
      case c5 => omega
      case c6 => simp; omega
      intro v' w2 hown hgr hnn
      have HT2 := Lib.hid (show TxR W w2 V (k + 1) v' from ⟨by
        rw [show 4 * (k + 1) = 4 * k + 4 by omega]
        show w2.ownsRow W.heap.size 5 1 v' (4 * k + 4) ((quads V k ++ quad (V k)).map (Value.int .u8))
        rw [List.map_append, HX.out]; exact hown, (HT.out.b.trans ((below1 wr _).mono hsz)).grown hgr (by simp; omega) (fun j hj => (own_lt HT.out.own hj).1), hnn⟩)
      clear hown hgr hnn
      go_wp2
      go_roundw
      case rel => exact ⟨k + 1, by omega, by go_num, HT2.out⟩
      case measure => simp [intOf]; omega
    · obtain rfl : k = n := by omega
      obtain ⟨g3, c3, e3, _, hcl⟩ := own_cells ht.own ht.nn
      subst e3
      have HB := Lib.hid ht.b
      have hcv : (convert 93 9 (.slice (some ⟨g3, 0, none⟩) (4 * k) c3)).run Try.prog wr = .ok (.string (textOf k V)) wr := run_convert_bytes_arg wr 93 5 Try.underlying93 Try.underlying5 g3 0 (4 * k) c3 (quads V k) (quads_len V k) (fun i hi => by
        rw [Nat.zero_add]
        exact hcl i _ (by rw [List.getElem?_map, List.getElem?_eq_getElem (by rw [quads_len]; exact hi)]; simp [List.getD, List.getElem?_eq_getElem (show i < (quads V k).length by rw [quads_len]; exact hi)])) 9 Try.underlying9
      clear ht
      go_wp2_with fail
      go_ret
      exact ⟨rfl, HB.out⟩
end Go.Proofs.Ytiadnifbjdnflaa
