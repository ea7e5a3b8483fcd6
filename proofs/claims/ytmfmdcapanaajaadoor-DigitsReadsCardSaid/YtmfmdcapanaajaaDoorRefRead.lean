/- What the document's Read does at any string: the same as the program's. -/
import Derived.Test.YtmfmdcapanaajaaDoorW4
namespace Go.Proofs.YtmfmdcapanaajaaDoor
open Go Go.RowKit Go.Sort

theorem dval_app (m : List UInt8) : ∀ l : List UInt8, dval l ≤ dval (l ++ m) := by
  induction m with
  | nil => intro l; simp
  | cons c m ih =>
    intro l
    have h1 := ih (l ++ [c])
    have h2 := dval_le_snoc l c
    rw [List.append_assoc] at h1
    exact Nat.le_trans h2 h1
theorem dval_take (l : List UInt8) (k : Nat) : dval (l.take k) ≤ dval l := by
  have := dval_app (l.drop k) (l.take k)
  rwa [List.take_append_drop] at this

/-- the state of the second loop behind k bytes. -/
def RfAt (s : ByteArray) (k : Nat) (n : Int) : Prop := 0 ≤ n ∧ n ≤ 4611686018427387903 ∧ n = dval (s.data.toList.take k)
/-- all bytes till k are digits. -/
def DgAt (s : ByteArray) (k : Nat) : Prop := (s.data.toList.take k).all dig = true

theorem rf_bounds (s : ByteArray) (ha : s.data.toList.all dig = true) (k : Nat) (h : k < s.size) : 48 ≤ (s[k].toNat : Int) ∧ (s[k].toNat : Int) ≤ 57 := by
  rw [List.all_eq_true] at ha
  have := ha s[k] (List.mem_iff_getElem.2 ⟨k, by rw [len_eq]; exact h, rfl⟩)
  simp [dig] at this
  omega
theorem rf_over (s : ByteArray) (hne : 0 < s.size) (h0 : ¬ (s[0].toNat = 48 ∧ 1 < s.size)) (ha : s.data.toList.all dig = true) (k : Nat) (n : Int) (h : k < s.size) (hR : RfAt s k n) (hm : (4611686018427387903 - ((s[k].toNat : Int) - 48)) / 10 < n) : readN s.data.toList = 0 ∧ readE s.data.toList = 6 := by
  obtain ⟨n0, n1, hn⟩ := hR
  have hb := rf_bounds s ha k h
  have h2 := dval_take s.data.toList (k + 1)
  rw [rd_val s k h] at h2
  have h3 : ¬ dval s.data.toList ≤ 4611686018427387903 := by omega
  unfold readN readE
  rw [rd_num s hne h0 ha]
  simp [h3]
theorem rf_step (s : ByteArray) (ha : s.data.toList.all dig = true) (k : Nat) (n : Int) (h : k < s.size) (hR : RfAt s k n) (hm : n ≤ (4611686018427387903 - ((s[k].toNat : Int) - 48)) / 10) : RfAt s (k + 1) (n * 10 + ((s[k].toNat : Int) - 48)) := by
  obtain ⟨n0, n1, hn⟩ := hR
  have hb := rf_bounds s ha k h
  refine ⟨by omega, by omega, ?_⟩
  rw [rd_val s k h]; omega
theorem rf_end (s : ByteArray) (hne : 0 < s.size) (h0 : ¬ (s[0].toNat = 48 ∧ 1 < s.size)) (ha : s.data.toList.all dig = true) (k : Nat) (n : Int) (hk : k ≤ s.size) (h : ¬ k < s.size) (hR : RfAt s k n) : readN s.data.toList = n ∧ readE s.data.toList = 0 := by
  obtain rfl : k = s.size := by omega
  obtain ⟨n0, n1, hn⟩ := hR
  rw [List.take_of_length_le (by rw [len_eq]; omega)] at hn
  have h3 : dval s.data.toList ≤ 4611686018427387903 := by omega
  unfold readN readE
  rw [rd_num s hne h0 ha]
  simp [h3, hn]

set_option maxRecDepth 100000 in
set_option maxHeartbeats 1000000 in
theorem refRead_loop (s : ByteArray) (w : World) (hs : s.size ≤ 140737488351232) (hne : 0 < s.size) (h0 : ¬ (s[0].toNat = 48 ∧ 1 < s.size)) :
    Calls Tryd.prog 17 #[.string s] w fun e w' => e = .returned (.tuple #[.int .i64 (readN s.data.toList), .int .i64 (readE s.data.toList)]) ∧ w' = w := by
  have H0 := Lib.hid h0
  have hstart : DgAt s 0 := by unfold DgAt; simp
  have HS := Lib.hid hstart
  have hstart2 : RfAt s 0 0 := ⟨by omega, by omega, by simp [dval]⟩
  have HS2 := Lib.hid hstart2
  clear hstart hstart2
  have e0 : ((s.size : Int) == 0) = false := by rw [beq_eq_false_iff_ne]; omega
  have hz : (1 < s.size ∧ ((s[0].toNat : Int) == 48) = false) ∨ s.size ≤ 1 := by
    by_cases h1 : 1 < s.size
    · left; refine ⟨h1, ?_⟩; rw [beq_eq_false_iff_ne]; omega
    · right; omega
  clear h0
  rcases hz with ⟨hz, hz2⟩ | hz
  all_goals
    go_enter Tryd.func17, Tryd.ntmps17
    go_wp2
    go_loop [4] (fun i => ∃ k : Nat, k ≤ s.size ∧ i = .int .i64 k ∧ DgAt s k) (fun i => s.size - (intOf i).toNat)
    case atStart => exact ⟨0, by omega, rfl, HS.out⟩
    case round =>
      obtain ⟨k, hk, rfl, hR⟩ := hrel
      have HR := Lib.hid hR
      clear hR
      by_cases hlt : k < s.size
      · go_wp2
        · have hb := rd_bad s k hlt (by omega)
          go_ret2
          exact ⟨by rw [hb.1, hb.2]; rfl, rfl⟩
        · go_round
          case rel => exact ⟨k + 1, by omega, by go_num, rd_all s k hlt HR.out (by omega) (by omega)⟩
          case measure => simp [intOf]; omega
        · have hb := rd_bad s k hlt (by omega)
          go_ret2
          exact ⟨by rw [hb.1, hb.2]; rfl, rfl⟩
      · have ha : s.data.toList.all dig = true := by
          have := HR.out
          unfold DgAt at this
          rwa [List.take_of_length_le (by rw [len_eq]; omega)] at this
        have HA := Lib.hid ha
        clear ha
        go_wp2
        go_loop [5, 6] (fun n i => ∃ (k : Nat) (m : Int), k ≤ s.size ∧ i = .int .i64 k ∧ n = .int .i64 m ∧ RfAt s k m) (fun _ i => s.size - (intOf i).toNat)
        case atStart => exact ⟨0, 0, by omega, rfl, rfl, HS2.out⟩
        case round =>
          obtain ⟨k2, m, hk2, rfl, rfl, hR2⟩ := hrel
          have m0 := hR2.1
          have m1 := hR2.2.1
          have HR2 := Lib.hid hR2
          clear hR2
          by_cases hlt2 : k2 < s.size
          · have hbd := rf_bounds s HA.out k2 hlt2
            go_wp2
            · have hb := rf_over s hne H0.out HA.out k2 m hlt2 HR2.out (by assumption)
              have HB := Lib.hid hb
              clear hb
              go_ret2
              exact ⟨by rw [HB.out.1, HB.out.2]; rfl, rfl⟩
            · go_round
              case rel => exact ⟨k2 + 1, _, by omega, by go_num, rfl, rf_step s HA.out k2 m hlt2 HR2.out (by assumption)⟩
              case measure => simp [intOf]; omega
          · have hb := rf_end s hne H0.out HA.out k2 m hk2 hlt2 HR2.out
            have HB := Lib.hid hb
            clear hb
            go_wp2
            go_ret2
            exact ⟨by rw [HB.out.1, HB.out.2]; rfl, rfl⟩

set_option maxRecDepth 100000 in
theorem refRead_any (s : ByteArray) (w : World) (hs : s.size ≤ 140737488351232) :
    Calls Tryd.prog 17 #[.string s] w fun e w' => e = .returned (.tuple #[.int .i64 (readN s.data.toList), .int .i64 (readE s.data.toList)]) ∧ w' = w := by
  by_cases hne : 0 < s.size
  · by_cases h0 : s[0].toNat = 48 ∧ 1 < s.size
    · have hf : isNum s.data.toList = false := by
        have e2 : s.data.toList.head? = some s[0] := by
          rw [List.head?_eq_getElem?, List.getElem?_eq_getElem (by simpa using hne)]; rfl
        have e3 : s[0] = 48 := UInt8.toNat_inj.1 h0.1
        have e4 : 1 < s.data.toList.length := by rw [len_eq]; exact h0.2
        unfold isNum
        rw [e2, e3]
        simp only [decide_true, decide_eq_true e4, Bool.and_self, Bool.not_true, Bool.and_false, Bool.false_and]
      have h1 : readN s.data.toList = 0 := by unfold readN; rw [hf]; simp
      have h2 : readE s.data.toList = 5 := by unfold readE; rw [hf]; simp
      have H1 := Lib.hid h1
      have H2 := Lib.hid h2
      have e0 : ((s.size : Int) == 0) = false := by rw [beq_eq_false_iff_ne]; omega
      have b1 : ((s[0].toNat : Int) == 48) = true := by simp [h0.1]
      have b2 : 1 < s.size := h0.2
      clear h1 h2 h0 hf
      go_enter Tryd.func17, Tryd.ntmps17
      go_wp2
      go_ret2
      exact ⟨by rw [H1.out, H2.out]; rfl, rfl⟩
    · exact refRead_loop s w hs hne h0
  · have e0 : s.data.toList = [] := List.eq_nil_of_length_eq_zero (by rw [len_eq]; omega)
    have e1 : ((s.size : Int) == 0) = true := by rw [beq_iff_eq]; omega
    have h1 : readN s.data.toList = 0 := by rw [e0]; rfl
    have h2 : readE s.data.toList = 5 := by rw [e0]; rfl
    have H1 := Lib.hid h1
    have H2 := Lib.hid h2
    clear h1 h2 e0 hne
    go_enter Tryd.func17, Tryd.ntmps17
    go_wp2
    go_ret2
    exact ⟨by rw [H1.out, H2.out]; rfl, rfl⟩
end Go.Proofs.YtmfmdcapanaajaaDoor
