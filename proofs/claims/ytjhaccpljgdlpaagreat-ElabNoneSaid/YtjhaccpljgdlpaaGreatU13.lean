/- How great a tree is: Size, levels, great. -/
import Derived.Test.YtjhaccpljgdlpaaGreatU0
namespace Go.Proofs.YtjhaccpljgdlpaaGreat
open Go Go.RowKit

/-- a tree's size, with its texts. -/
def twF : Fo → Nat
  | .nil => 0
  | .cons _ _ s _ x r => (1 + s.size / 8 + twF x) + twF r
def twT (s : ByteArray) (x : Fo) : Nat := 1 + s.size / 8 + twF x
set_option maxRecDepth 100000 in
theorem twF_cons (l : Bool) (k : Int) (s : ByteArray) (a : Int) (x r : Fo) : twF (.cons l k s a x r) = twT s x + twF r := rfl
set_option maxRecDepth 100000 in
theorem twF_size : ∀ f : Fo, f.size ≤ twF f
  | .nil => Nat.le_refl _
  | .cons _ _ s _ x r => by
    have h1 := twF_size x
    have h2 := twF_size r
    simp only [Fo.size, twF]; omega
set_option maxRecDepth 100000 in
theorem twF_szB : ∀ f : Fo, twF f ≤ 5000 → szB 65536 f
  | .nil, _ => trivial
  | .cons _ _ s _ x r, h => by
    simp only [twF] at h
    exact ⟨by omega, twF_szB x (by omega), twF_szB r (by omega)⟩
set_option maxRecDepth 100000 in
theorem len_size : ∀ f : Fo, f.len ≤ f.size
  | .nil => Nat.le_refl _
  | .cons _ _ _ _ x r => by have := len_size r; simp only [Fo.len, Fo.size]; omega
def SizeP (n : Nat) : Prop := ∀ (x : Fo), x.size ≤ n → szB 140737488351232 x → ∀ (l : Bool) (k : Int) (s : ByteArray) (a : Int) (q : Option Addr) (c : Nat) (W : World) (F : Nat → Prop) (M : Nat), M ≤ 5001 → s.size ≤ 140737488351232 → FoIn W F x q → x.len ≤ c → x.len ≤ 281474976710656 →
  Calls Tryz.prog 4 #[trV l k s a q x.len c, .int .i64 (M : Int)] W fun e w' => ∃ r : Nat, e = .returned (.int .i64 (r : Int)) ∧ r ≤ M + 17592186043905 ∧ (r < M → r = twT s x) ∧ Below W.heap.size W w'
set_option maxRecDepth 100000 in
set_option maxHeartbeats 3200000 in
theorem size48_step (n : Nat) (ih : ∀ m, m < n → SizeP m) : SizeP n := by
  intro x hsz hzb l k s a q c W F M hM hs hx hc hn
  obtain ⟨N, hN⟩ : ∃ N, N = x.len := ⟨_, rfl⟩
  rw [← hN] at hc hn ⊢
  have i1 : (N : Int) ≤ 281474976710656 := by omega
  have m1 : (M : Int) ≤ 5001 := by omega
  have hq : (s.size : Int).tdiv 8 = ((s.size / 8 : Nat) : Int) := by
    simp
  obtain ⟨S8, hS8⟩ : ∃ S8, S8 = s.size / 8 := ⟨_, rfl⟩
  rw [← hS8] at hq
  have s1 : (S8 : Int) ≤ 17592186043904 := by omega
  have s2 : (s.size : Int) ≤ 140737488351232 := by omega
  have HX := Lib.hid hx
  have HI := Lib.hid (show (N = x.len ∧ x.size ≤ n ∧ szB 140737488351232 x ∧ S8 = s.size / 8) from ⟨hN, hsz, hzb, hS8⟩)
  have IH := Lib.hid ih
  clear hx ih hN hsz hzb hS8
  unfold trV
  go_enter Tryz.func4, Tryz.ntmps4
  go_wp2_with fail
  go_loopg [5, 6] N (fun gk s5 s6 wx => ∃ (i : Nat) (f : Fo) (d : Nat), i + gk = N ∧ s6 = .int .i64 (i : Int) ∧ s5 = .int .i64 (d : Int) ∧ d ≤ M + 17592186043905 ∧ Hid (f.len = gk ∧ (d < M → d + twF f = 1 + S8 + twF x) ∧ (M ≤ d ∨ d + twF f = 1 + S8 + twF x) ∧ f.size ≤ x.size ∧ szB 140737488351232 f ∧ FoIn wx F f (pl q i) ∧ wx.cell? ⟨W.heap.size, 4, none⟩ = some (.slice q N c) ∧ Below W.heap.size W wx))
  case atStart =>
    refine ⟨0, x, 1 + S8, by omega, rfl, by first | (simp; done) | (congr 1; omega), by omega, Lib.hid ⟨HI.out.1.symm, fun _ => rfl, .inr rfl, Nat.le_refl _, HI.out.2.2.1, (pl_zero HX.out).later (below1 _ _), by simp [go_sem], below1 _ _⟩⟩
  case round =>
    obtain ⟨i, f, d, hk, rfl, rfl, hdM, HK⟩ := hrel
    have HG := Lib.hid hk
    have hi2 : i ≤ N := by omega
    clear hk
    obtain ⟨wA, hwA⟩ : ∃ w, w = wr := ⟨_, rfl⟩
    subst hwA
    have i2 : (i : Int) ≤ (N : Int) := by omega
    have d0 : (d : Int) ≤ 17592186048906 := by omega
    have d4 := HK.out.2.2.2.2.2.2.1
    by_cases hlt : i < N
    · have i0 : (0 : Int) ≤ (i : Int) := by omega
      have i3 : (i : Int) < (N : Int) := by omega
      by_cases hdl : d < M
      · have d5 : (d : Int) < (M : Int) := by omega
        obtain ⟨G, rfl⟩ : ∃ G, gk = G + 1 := ⟨gk - 1, by have := HG.out; omega⟩
        obtain ⟨hf, hR, hR2, hsz, hfz, hx, -, hb⟩ := HK.out
        obtain ⟨b, off, rfl⟩ : ∃ b off, q = some ⟨b, off, none⟩ := HX.out.some (by rw [← HI.out.1]; omega)
        cases f with
        | nil => simp [Fo.len] at hf
        | cons l1 k1 s1' a1 x1 r1 =>
          obtain ⟨_, e0, e1, e2, e3, ⟨q3, cc3, e4, hc3, hm3, hx3⟩, hr3⟩ := hx.head
          obtain ⟨MM, hMM⟩ : ∃ MM, MM = M - d := ⟨_, rfl⟩
          have hC := IH.out x1.size (by have := HI.out.2.1; simp only [Fo.size] at hsz; omega) x1 (Nat.le_refl _) hfz.2.1 l1 k1 s1' a1 q3 cc3 wA F MM (by omega) hfz.1 hx3 hc3 hm3
          have hMI : ((MM : Nat) : Int) = (M : Int) - (d : Int) := by omega
          rw [hMI] at hC
          have HS := Lib.hid (show (r1.len = G ∧ (d < M → d + (twT s1' x1 + twF r1) = 1 + S8 + twF x) ∧ r1.size ≤ x.size ∧ szB 140737488351232 r1 ∧ MM = M - d) from ⟨by simpa [Fo.len] using hf, hR, by simp only [Fo.size] at hsz; omega, hfz.2.2, hMM⟩)
          generalize x1.len = n3 at *
          unfold trV at hC
          have HCC := Lib.hid hC
          have HR := Lib.hid hr3
          have HBB := Lib.hid hb
          clear hf hR hR2 hsz hfz hx hb hx3 hr3 hc3 hm3 hC HK hMI hMM
          go_wp2_with fail
          refine HCC.out.mono ?_
          rintro e w1 ⟨r, rfl, hr1, hr2, hb1⟩
          have HW := Lib.hid hb1
          have HRR := Lib.hid (And.intro hr1 hr2)
          have r5 : (r : Int) ≤ 17592186048906 := by have := HS.out; omega
          have z4 : w1.cell? ⟨W.heap.size, 4, none⟩ = some (.slice (some ⟨b, off, none⟩) N c) := cell_later HW.out d4
          clear hb1 hr1 hr2
          go_wp2_with fail
          go_roundg G
          case measure => omega
          case rel =>
            obtain ⟨i', hi'⟩ : ∃ i', i' = i + 1 := ⟨_, rfl⟩
            obtain ⟨d', hd'⟩ : ∃ d', d' = d + r := ⟨_, rfl⟩
            have h1 := HRR.out
            have h2 := HS.out
            have hlow : d' < M → d' + twF r1 = 1 + S8 + twF x := fun h => by
              have h3 := h1.2 (by omega)
              have h4 := h2.2.1 hdl
              omega
            refine ⟨i', r1, d', by have := HG.out; omega, by rw [hi']; go_num, by rw [hd']; first | (simp; done) | (congr 1; omega), by omega, Lib.hid ⟨h2.1, hlow, ?_, h2.2.2.1, h2.2.2.2.1, ?_, z4, HBB.out.trans (HW.out.mono HBB.out.size)⟩⟩
            · rcases Nat.lt_or_ge d' M with h | h
              · exact .inr (hlow h)
              · exact .inl h
            · rw [hi']; exact HR.out.later HW.out
      · have d5 : ¬ (d : Int) < (M : Int) := by omega
        have d6 : decide ((d : Int) < (M : Int)) = false := by simpa using d5
        obtain ⟨-, -, -, -, -, -, -, hb⟩ := HK.out
        have HBB := Lib.hid hb
        clear hb HK
        go_wp2_with fail
        go_ret
        exact ⟨d, rfl, hdM, fun h => absurd h hdl, HBB.out⟩
    · obtain rfl : i = N := by omega
      obtain rfl : gk = 0 := by have := HG.out; omega
      obtain ⟨hf, hR, -, -, -, -, -, hb⟩ := HK.out
      obtain rfl := fo_len_zero hf
      have HBB := Lib.hid (And.intro hb hR)
      clear hf hR hb HK
      go_wp2_with fail
      go_ret
      refine ⟨d, rfl, hdM, fun h => ?_, HBB.out.1⟩
      have := HBB.out.2 h
      have h2 := HI.out.2.2.2
      simp only [twF] at this
      unfold twT
      omega
set_option maxRecDepth 100000 in
theorem size48 (n : Nat) : SizeP n := Nat.strongRecOn n fun n ih => size48_step n ih
/-- some answer. -/
def IsB (e : Ending) : Prop := ∃ b : Bool, e = .returned (.bool b)
end Go.Proofs.YtjhaccpljgdlpaaGreat

