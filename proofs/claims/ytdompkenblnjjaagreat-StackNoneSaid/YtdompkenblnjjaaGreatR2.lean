/- The document's word, Plain; the program's Plain. -/
import Derived.Test.YtdompkenblnjjaaGreatR1
import Derived.Test.YtdompkenblnjjaaGreatX0
import Derived.Lib.ConvBytes
namespace Go.Proofs.YtdompkenblnjjaaGreat
open Go Go.RowKit

set_option maxRecDepth 100000 in
set_option maxHeartbeats 1600000 in
theorem refword_any (p : Option Addr) (c : Nat) (bs : List UInt8) (a : Nat) (W : World) (hb : BytesIn W p bs) (ha : a ≤ bs.length) (hn : bs.length ≤ 1048576) :
    Calls Tryz.prog 72 #[.slice p bs.length c, .int .i64 (a : Int)] W fun e w' => e = .returned (.int .i64 ((wordL (bs.drop a)).length : Int)) ∧ W = w' := by
  have HB := Lib.hid hb
  have hlw := word_le (bs.drop a)
  rw [List.length_drop] at hlw
  generalize hN : (wordL (bs.drop a)).length = N
  have HN := Lib.hid hN
  obtain ⟨n, hnl⟩ : ∃ n, n = bs.length := ⟨_, rfl⟩
  have HL := Lib.hid hnl
  rw [← hnl] at ha hn ⊢
  have HLW := Lib.hid hlw
  clear hb hnl hN hlw
  go_enter Tryz.func72, Tryz.ntmps72
  go_wp2_with fail
  go_loopg [5] (n + 1) (fun gk s5 wx => ∃ k : Nat, s5 = .int .i64 (k : Int) ∧ Hid (wx = W ∧ a + k ≤ n ∧ n + 1 ≤ k + gk ∧ k + (wordL (bs.drop (a + k))).length = N))
  case atStart => exact ⟨0, rfl, Lib.hid ⟨rfl, by omega, by omega, by simpa using HN.out⟩⟩
  case round =>
    obtain ⟨k, rfl, HI⟩ := hrel
    obtain ⟨hwr, h1, h2, h3⟩ := HI.out
    subst hwr
    have HE := Lib.hid h3
    have HG := Lib.hid h2
    clear h2 h3 HI HN
    by_cases hlt : a + k < n
    · have hab : a + k < bs.length := by have := HL.out; omega
      have i1 : (a : Int) + (k : Int) < (n : Int) := by omega
      have i0 : (0 : Int) ≤ (a : Int) + (k : Int) := by omega
      have i2 : ((a : Int) + (k : Int)).toNat = a + k := by omega
      obtain ⟨b, off, rfl, cb⟩ := HB.out (a + k) hab
      have hs1 := tw_drop bs (a + k) hab
      have hs2 := tw_stop bs (a + k) hab
      generalize bs[a + k] = x at *
      have HLT := Lib.hid (fun W => letter_any x W)
      cases hs : syB x with
      | true =>
        have HS := Lib.hid (hs1 hs)
        have HQ := Lib.hid hs
        clear hs hs1 hs2
        go_wp2_with fail
        refine (HLT.out _).mono ?_
        rintro e w1 ⟨rfl, rfl⟩
        rw [HQ.out]
        go_wp2_with fail
        go_roundg (gk - 1)
        case measure => have := HG.out; omega
        case rel =>
          have hg := HG.out
          obtain ⟨k', hk'⟩ : ∃ k', k' = k + 1 := ⟨_, rfl⟩
          refine ⟨k', by rw [hk']; go_num, Lib.hid ⟨rfl, by omega, by omega, ?_⟩⟩
          have h1 := HE.out; have h2 := HS.out
          rw [hk', ← Nat.add_assoc]; omega
      | false =>
        have HS := Lib.hid (show k = N by have h1 := HE.out; have h2 := hs2 hs; omega)
        have HQ := Lib.hid hs
        clear hs hs1 hs2
        go_wp2_with fail
        refine (HLT.out _).mono ?_
        rintro e w1 ⟨rfl, rfl⟩
        rw [HQ.out]
        go_wp2_with fail
        go_ret
        exact ⟨by rw [← HS.out]; rfl, rfl⟩
    · have HS := Lib.hid (show k = N by have h1 := HE.out; have h2 := tw_end bs (a + k) (by have := HL.out; omega); omega)
      have i1 : ¬ (a : Int) + (k : Int) < (n : Int) := by omega
      have i2 : decide ((a : Int) + (k : Int) < (n : Int)) = false := by simpa using i1
      go_wp2_with fail
      go_ret
      exact ⟨by rw [← HS.out]; rfl, rfl⟩
set_option maxRecDepth 100000 in
theorem bytes_str (w : World) (S : ByteArray) (b : Nat) (h : ∀ j (hj : j < S.size), w.cell? ⟨b, j, none⟩ = some (.int .u8 (S[j].toNat : Int))) : BytesIn w (some ⟨b, 0, none⟩) S.data.toList := fun i hi => by
  have hi' : i < S.size := by simpa using hi
  refine ⟨b, 0, rfl, ?_⟩
  rw [Nat.zero_add, h i hi']
  have := str_get' hi'
  rw [List.getElem?_eq_getElem hi] at this
  cases this
  rfl
set_option maxRecDepth 100000 in
/-- '[]byte(s)': a row of its own that reads as s. -/
theorem conv_bytes (w : World) (S : ByteArray) : ∃ (cap : Nat) (w' : World), (convert 9 25 (.string S)).run Tryz.prog w = .ok (.slice (some ⟨w.heap.size, 0, none⟩) S.size cap) w' ∧ S.size ≤ cap ∧ Below w.heap.size w w' ∧ BytesIn w' (some ⟨w.heap.size, 0, none⟩) S.data.toList ∧ w'.heap.size = w.heap.size + 1 := by
  refine ⟨_, _, Lib.run_convert_string_bytes w 9 25 5 S Tryz.underlying9 Tryz.underlying25 Tryz.underlying5, ?_, ⟨rfl, rfl, rfl, by rw [Lib.bytesWorld_size]; omega, fun k hk => Lib.bytesWorld_at_old w 5 S k hk⟩, bytes_str _ S _ fun j hj => ?_, Lib.bytesWorld_size w 5 S⟩
  · exact grownCap_ge _ _ _ _
  · rw [Lib.bytesWorld_cell w 5 S j hj, str_get hj]
set_option maxRecDepth 100000 in
theorem plain_eq (w : List UInt8) : plainB w = (decide (0 < w.length) && !(dgB (w.getD 0 0)) && ((wordL w).length == w.length)) := by
  unfold plainB
  have h : ((wordL w).length == w.length) = w.all syB := by
    unfold wordL
    induction w with
    | nil => rfl
    | cons c w ih =>
      cases hc : syB c with
      | true =>
        rw [List.takeWhile_cons, if_pos hc, List.all_cons, hc, Bool.true_and, ← ih]
        rw [Bool.eq_iff_iff]; simp
      | false =>
        rw [List.takeWhile_cons, if_neg (by rw [hc]; decide), List.all_cons, hc]; simp
  rw [h]
  cases w with
  | nil => rfl
  | cons c w => cases (c :: w).all syB <;> simp
end Go.Proofs.YtdompkenblnjjaaGreat

