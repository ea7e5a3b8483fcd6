/- Stage 6: New. -/
import Derived.Test.YtkjmmdffelhkiaaT6
namespace Go.Proofs.Ytkjmmdffelhkiaa
open Go Go.RowKit Go.Maps

def sto0 : Sto := ⟨[], noF, 0, noF, 0⟩
theorem good0S : GoodS sto0 := ⟨fun t x h => by simp [sto0] at h, fun t x h => by simp [sto0] at h, fun _ _ _ _ _ _ h => (by cases h), fun _ _ h => (by cases h), fun _ _ _ h => (by cases h), Nat.zero_le _, Nat.le_refl _, Nat.le_refl _⟩
/-- the three that are always there. -/
def three (k : Nat) : Nd := ⟨if k = 0 then 1 else if k = 1 then 2 else 3, 0, 0, if k = 2 then 1 else 0, none, 0, 0, fun _ => 0⟩
def Firsts (T : Sto) (k : Nat) : Prop := T.nodes.length = k ∧ ∀ j, j < k → ∃ y, T.nodes[j]? = some y ∧ SameN y (three j)
def A15 : List Value := [.int .u8 1, .int .i64 0, .int .i64 0, .int .i64 0, .slice none 0 0, .int .u8 2, .int .i64 0, .int .i64 0, .int .i64 0, .slice none 0 0, .int .u8 3, .int .i64 0, .int .i64 0, .int .i64 1, .slice none 0 0]
structure NewR (W wr : World) (K : Nat → Nat) (c a k : Nat) (T : Sto) : Prop where
  st : StoAt wr K W.heap.size c T
  g : GoodS T
  f : Firsts T k
  b : Below W.heap.size W wr
  ka : K a = 0
  cl : ∀ (j : Nat) (u : Value), A15[j]? = some u → wr.cell? ⟨a, j, none⟩ = some u
theorem new_start (W : World) : ∃ K, NewR W ((((W.alloc (.map #[] 0)).alloc (.map #[] 0)).alloc (.cells #[.slice none 0 0, .map (some W.heap.size), .map (some (W.heap.size + 1))] 101)).alloc (.cells #[.int .u8 1, .int .i64 0, .int .i64 0, .int .i64 0, .slice none 0 0, .int .u8 2, .int .i64 0, .int .i64 0, .int .i64 0, .slice none 0 0, .int .u8 3, .int .i64 0, .int .i64 0, .int .i64 1, .slice none 0 0] 89)) K (W.heap.size + 2) (W.heap.size + 3) 0 sto0 := by
  have hb1 := below1 W (.map #[] 0)
  have hb2 := hb1.trans ((below1 (W.alloc (.map #[] 0)) (.map #[] 0)).mono (by simp))
  have s3 := below1 ((W.alloc (.map #[] 0)).alloc (.map #[] 0)) (.cells #[.slice none 0 0, .map (some W.heap.size), .map (some (W.heap.size + 1))] 101)
  have s4 := below1 (((W.alloc (.map #[] 0)).alloc (.map #[] 0)).alloc (.cells #[.slice none 0 0, .map (some W.heap.size), .map (some (W.heap.size + 1))] 101)) (.cells #[.int .u8 1, .int .i64 0, .int .i64 0, .int .i64 0, .slice none 0 0, .int .u8 2, .int .i64 0, .int .i64 0, .int .i64 0, .slice none 0 0, .int .u8 3, .int .i64 0, .int .i64 0, .int .i64 1, .slice none 0 0] 89)
  have hb4 := (hb2.trans (s3.mono (by simp; omega))).trans (s4.mono (by simp; omega))
  have m1 := (((FMap.made W 129).later (below1 (W.alloc (.map #[] 0)) (.map #[] 0))).later s3).later s4
  have m2 := ((FMap.made (W.alloc (.map #[] 0)) 9).later s3).later s4
  refine ⟨fun k => if k = W.heap.size then 6 else if k = W.heap.size + 1 then 7 else if k = W.heap.size + 2 then 1 else 0, ⟨fun k hk => ?_, fun k hk => ?_, ?_, ?_⟩, good0S, ⟨rfl, fun j hj => absurd hj (Nat.not_lt_zero _)⟩, hb4, ?_, fun j u hu => ?_⟩
  · simp at hk
    rw [if_neg (by omega), if_neg (by omega), if_neg (by omega)]
  · rw [if_neg (by omega), if_neg (by omega), if_neg (by omega)]
  · first | omega | (simp; done) | (simp; omega)
  · refine ⟨fun i => match i with | 1 => .map (some W.heap.size) | 2 => .map (some (W.heap.size + 1)) | _ => .slice none 0 0, W.heap.size, W.heap.size + 1, ⟨fun i hi => ?_, fun i => by simp [go_sem]⟩, ?_⟩
    · match i, hi with
      | 0, _ => simp [go_sem]
      | 1, _ => simp [go_sem]
      | 2, _ => simp [go_sem]
    · exact ⟨row0_at _ _ _ _ _, rfl, rfl, by simp, by simp, m1, by rw [World.size_alloc] at m2; exact m2, fun i x h => by simp [sto0] at h⟩
  · first | (simp; done) | (simp; omega) | omega
  · rw [show W.heap.size + 3 = (((W.alloc (.map #[] 0)).alloc (.map #[] 0)).alloc (.cells #[.slice none 0 0, .map (some W.heap.size), .map (some (W.heap.size + 1))] 101)).heap.size by simp]
    match j, hu with
    | 0, hu => cases hu; simp [go_sem]
    | 1, hu => cases hu; simp [go_sem]
    | 2, hu => cases hu; simp [go_sem]
    | 3, hu => cases hu; simp [go_sem]
    | 4, hu => cases hu; simp [go_sem]
    | 5, hu => cases hu; simp [go_sem]
    | 6, hu => cases hu; simp [go_sem]
    | 7, hu => cases hu; simp [go_sem]
    | 8, hu => cases hu; simp [go_sem]
    | 9, hu => cases hu; simp [go_sem]
    | 10, hu => cases hu; simp [go_sem]
    | 11, hu => cases hu; simp [go_sem]
    | 12, hu => cases hu; simp [go_sem]
    | 13, hu => cases hu; simp [go_sem]
    | 14, hu => cases hu; simp [go_sem]
theorem three_ok (k m : Nat) : NdOk (three k) m := ⟨by unfold three; simp only; split <;> (try split) <;> omega, by unfold three I64; simp only; omega, by unfold three I64; simp only; omega, by unfold three I64; simp only; split <;> omega, by unfold three; simp only; omega, fun i hi => absurd hi (Nat.not_lt_zero _), fun h => absurd h (by unfold three; simp only; split <;> (try split) <;> omega), fun _ => by unfold three; simp only; omega⟩
theorem three_q {j k : Nat} (hj : j < k) (hk : k < 3) : (three j).q ≠ (three k).q := by
  have : (j = 0 ∧ k = 1) ∨ (j = 0 ∧ k = 2) ∨ (j = 1 ∧ k = 2) := by omega
  rcases this with ⟨rfl, rfl⟩ | ⟨rfl, rfl⟩ | ⟨rfl, rfl⟩ <;> decide
theorem NewR.next {W wr w' : World} {K : Nat → Nat} {c a k : Nat} {T : Sto} {e : Ending} (h : NewR W wr K c a k T) (hk : k < 3) (hm : MakeP T (three k) W.heap.size c K wr e w') : ∃ v K' T', e = .returned v ∧ NewR W w' K' c a (k + 1) T' := by
  obtain ⟨K', T', t, er, rfl, hst, hg, hs, hc⟩ := hm
  obtain ⟨f1, f2⟩ := h.f
  rcases hc with ⟨_, _, j, y, _, hy, hsame⟩ | ⟨_, _, _, hl, _⟩ | ⟨_, _, _, _, P, C, i, rfl⟩
  · have hj := (List.getElem?_eq_some_iff.1 hy).1
    obtain ⟨z, hz, hsz⟩ := f2 j (by omega)
    rw [hy] at hz
    cases hz
    exact absurd (hsz.q.symm.trans hsame.q) (three_q (by omega) hk)
  · omega
  · refine ⟨_, K', _, rfl, hst, hg, ⟨?_, fun j hj => ?_⟩, h.b.trans (hs.toBelowS h.st), ?_, fun j u hu => ?_⟩
    · show (T.nodes ++ [_]).length = _
      rw [List.length_append, f1]; rfl
    · show ∃ y, (T.nodes ++ [_])[j]? = some y ∧ _
      by_cases e : j < k
      · obtain ⟨y, hy, hsy⟩ := f2 j e
        exact ⟨y, by rw [List.getElem?_append_left (by omega)]; exact hy, hsy⟩
      · obtain rfl : j = k := by omega
        exact ⟨{ three j with P := P, C := C }, by rw [List.getElem?_append_right (by omega), f1]; simp, ⟨rfl, rfl, rfl, rfl, rfl, fun _ _ => rfl⟩⟩
    · rw [hs.ext a (World.block_lt_of_cell? _ _ (h.cl 0 _ rfl))]; exact h.ka
    · exact hs.keep (h.cl j u hu) h.ka
theorem NewR.later {W wr w' : World} {K : Nat → Nat} {c a k : Nat} {T : Sto} (h : NewR W wr K c a k T) (hb : Below wr.heap.size wr w') : NewR W w' K c a k T :=
  ⟨h.st.later hb, h.g, h.f, h.b.trans (hb.mono h.b.size), h.ka, fun j u hu => cell_later hb (h.cl j u hu)⟩
set_option maxRecDepth 100000 in
set_option maxHeartbeats 4000000 in
theorem newS_any (W : World) : Calls Try.prog 32 #[] W fun e w' => ∃ c K T, e = .returned (.pointer (some ⟨c, 0, none⟩)) ∧ StoAt w' K W.heap.size c T ∧ GoodS T ∧ Firsts T 3 ∧ Below W.heap.size W w' := by
  have hmm := @run_makeMap Try.prog
  obtain ⟨K0, hn0⟩ := new_start W
  have HN := Lib.hid hn0
  clear hn0
  go_enter Try.func32, Try.ntmps32
  go_wp2_with fail
  go_loopw [13] (fun i wr => ∃ (k : Nat) (K : Nat → Nat) (T : Sto), k ≤ 3 ∧ i = .int .i64 k ∧ NewR W wr K (W.heap.size + 2) (W.heap.size + 3) k T) (fun i _ => 3 - (intOf i).toNat)
  case atStart => exact ⟨0, _, _, Nat.zero_le _, rfl, HN.out⟩
  case round =>
    obtain ⟨k, K, T, hk, rfl, hr⟩ := hrel
    clear HN
    have hk3 : k = 0 ∨ k = 1 ∨ k = 2 ∨ k = 3 := by omega
    rcases hk3 with rfl | rfl | rfl | rfl

    · have a0 := hr.cl 0 _ rfl
      have a1 := hr.cl 1 _ rfl
      have a2 := hr.cl 2 _ rfl
      have a3 := hr.cl 3 _ rfl
      have a4 := hr.cl 4 _ rfl
      have hbx := below1 wr (.cells #[.int .u8 1, .int .i64 0, .int .i64 0, .int .i64 0, .slice none 0 0] 89)
      have HM := (make_any (hr.later hbx).st (hr.later hbx).g (three 0) (fun h => absurd h (Nat.not_lt_zero _)) (three_ok _ _)).mono fun e w' h => (hr.later hbx).next (by omega) h
      rw [show ndA (three 0) = .agg #[.int .u8 1, .int .i64 0, .int .i64 0, .int .i64 0, .slice none 0 0] from rfl] at HM
      clear hr hbx hmm
      go_wp2_with fail
      refine HM.mono ?_
      rintro e w4 ⟨v4, K4, T4, rfl, hn4⟩
      have HN4 := Lib.hid hn4
      clear hn4 HM
      go_wp2_with fail
      go_roundw
      case rel => exact ⟨1, _, _, by omega, by go_num, HN4.out⟩
      case measure => simp [intOf]
    · have a0 := hr.cl 5 _ rfl
      have a1 := hr.cl 6 _ rfl
      have a2 := hr.cl 7 _ rfl
      have a3 := hr.cl 8 _ rfl
      have a4 := hr.cl 9 _ rfl
      have hbx := below1 wr (.cells #[.int .u8 2, .int .i64 0, .int .i64 0, .int .i64 0, .slice none 0 0] 89)
      have HM := (make_any (hr.later hbx).st (hr.later hbx).g (three 1) (fun h => absurd h (Nat.not_lt_zero _)) (three_ok _ _)).mono fun e w' h => (hr.later hbx).next (by omega) h
      rw [show ndA (three 1) = .agg #[.int .u8 2, .int .i64 0, .int .i64 0, .int .i64 0, .slice none 0 0] from rfl] at HM
      clear hr hbx hmm
      go_wp2_with fail
      refine HM.mono ?_
      rintro e w4 ⟨v4, K4, T4, rfl, hn4⟩
      have HN4 := Lib.hid hn4
      clear hn4 HM
      go_wp2_with fail
      go_roundw
      case rel => exact ⟨2, _, _, by omega, by go_num, HN4.out⟩
      case measure => simp [intOf]
    · have a0 := hr.cl 10 _ rfl
      have a1 := hr.cl 11 _ rfl
      have a2 := hr.cl 12 _ rfl
      have a3 := hr.cl 13 _ rfl
      have a4 := hr.cl 14 _ rfl
      have hbx := below1 wr (.cells #[.int .u8 3, .int .i64 0, .int .i64 0, .int .i64 1, .slice none 0 0] 89)
      have HM := (make_any (hr.later hbx).st (hr.later hbx).g (three 2) (fun h => absurd h (Nat.not_lt_zero _)) (three_ok _ _)).mono fun e w' h => (hr.later hbx).next (by omega) h
      rw [show ndA (three 2) = .agg #[.int .u8 3, .int .i64 0, .int .i64 0, .int .i64 1, .slice none 0 0] from rfl] at HM
      clear hr hbx hmm
      go_wp2_with fail
      refine HM.mono ?_
      rintro e w4 ⟨v4, K4, T4, rfl, hn4⟩
      have HN4 := Lib.hid hn4
      clear hn4 HM
      go_wp2_with fail
      go_roundw
      case rel => exact ⟨3, _, _, by omega, by go_num, HN4.out⟩
      case measure => simp [intOf]
    · have HR := Lib.hid hr
      clear hr hmm
      go_wp2_with fail
      go_ret
      exact ⟨_, K, T, rfl, HR.out.st, HR.out.g, HR.out.f, HR.out.b⟩
end Go.Proofs.Ytkjmmdffelhkiaa
