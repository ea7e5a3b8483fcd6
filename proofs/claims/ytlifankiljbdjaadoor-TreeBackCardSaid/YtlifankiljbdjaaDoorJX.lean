/- Plain symbols; tokens in memory; a token's bytes. -/
import Derived.Test.YtlifankiljbdjaaDoorJW1
import Derived.Test.YtlifankiljbdjaaDoorK0
import Derived.Test.YtlifankiljbdjaaDoorX0
import Derived.Lib.ConvBytes
import Derived.Lib.SlBytesConst
namespace Go.Proofs.YtlifankiljbdjaaDoor
open Go Go.RowKit

set_option maxRecDepth 100000 in
set_option maxHeartbeats 1600000 in
theorem refword_any (p : Option Addr) (c : Nat) (bs : List UInt8) (a : Nat) (W : World) (hb : BytesIn W p bs) (ha : a ≤ bs.length) (hn : bs.length ≤ 1048576) :
    Calls Tryd.prog 40 #[.slice p bs.length c, .int .i64 (a : Int)] W fun e w' => e = .returned (.int .i64 ((wordL (bs.drop a)).length : Int)) ∧ W = w' := by
  have HB := Lib.hid hb
  have hlw := word_le (bs.drop a)
  rw [List.length_drop] at hlw
  generalize hN : (wordL (bs.drop a)).length = N
  have HN := Lib.hid hN
  obtain ⟨n, hnl⟩ : ∃ n, n = bs.length := ⟨_, rfl⟩
  have HL := Lib.hid hnl
  rw [← hnl] at ha hn ⊢
  have HLW := Lib.hid hlw
  clear hb hnl hN hlw
  go_enter Tryd.func40, Tryd.ntmps40
  go_wp2_with fail
  go_loopg [5] (n + 1) (fun gk s5 wx => ∃ k : Nat, s5 = .int .i64 (k : Int) ∧ Hid (wx = W ∧ a + k ≤ n ∧ n + 1 ≤ k + gk ∧ k + (wordL (bs.drop (a + k))).length = N))
  case atStart => exact ⟨0, rfl, Lib.hid ⟨rfl, by omega, by omega, by simpa using HN.out⟩⟩
  case round =>
    obtain ⟨k, rfl, HI⟩ := hrel
    obtain ⟨hwr, h1, h2, h3⟩ := HI.out
    subst hwr
    have HE := Lib.hid h3
    have HG := Lib.hid h2
    clear h2 h3 HI HN
    by_cases hlt : a + k < n
    · have hab : a + k < bs.length := by have := HL.out; omega
      have i1 : (a : Int) + (k : Int) < (n : Int) := by omega
      have i0 : (0 : Int) ≤ (a : Int) + (k : Int) := by omega
      have i2 : ((a : Int) + (k : Int)).toNat = a + k := by omega
      obtain ⟨b, off, rfl, cb⟩ := HB.out (a + k) hab
      have hs1 := tw_drop bs (a + k) hab
      have hs2 := tw_stop bs (a + k) hab
      generalize bs[a + k] = x at *
      have HLT := Lib.hid (fun W => letter_any x W)
      cases hs : syB x with
      | true =>
        have HS := Lib.hid (hs1 hs)
        have HQ := Lib.hid hs
        clear hs hs1 hs2
        go_wp2_with fail
        refine (HLT.out _).mono ?_
        rintro e w1 ⟨rfl, rfl⟩
        rw [HQ.out]
        go_wp2_with fail
        go_roundg (gk - 1)
        case measure => have := HG.out; omega
        case rel =>
          have hg := HG.out
          obtain ⟨k', hk'⟩ : ∃ k', k' = k + 1 := ⟨_, rfl⟩
          refine ⟨k', by rw [hk']; go_num, Lib.hid ⟨rfl, by omega, by omega, ?_⟩⟩
          have h1 := HE.out; have h2 := HS.out
          rw [hk', ← Nat.add_assoc]; omega
      | false =>
        have HS := Lib.hid (show k = N by have h1 := HE.out; have h2 := hs2 hs; omega)
        have HQ := Lib.hid hs
        clear hs hs1 hs2
        go_wp2_with fail
        refine (HLT.out _).mono ?_
        rintro e w1 ⟨rfl, rfl⟩
        rw [HQ.out]
        go_wp2_with fail
        go_ret
        exact ⟨by rw [← HS.out]; rfl, rfl⟩
    · have HS := Lib.hid (show k = N by have h1 := HE.out; have h2 := tw_end bs (a + k) (by have := HL.out; omega); omega)
      have i1 : ¬ (a : Int) + (k : Int) < (n : Int) := by omega
      have i2 : decide ((a : Int) + (k : Int) < (n : Int)) = false := by simpa using i1
      go_wp2_with fail
      go_ret
      exact ⟨by rw [← HS.out]; rfl, rfl⟩
theorem bytes_str (w : World) (S : ByteArray) (b : Nat) (h : ∀ j (hj : j < S.size), w.cell? ⟨b, j, none⟩ = some (.int .u8 (S[j].toNat : Int))) : BytesIn w (some ⟨b, 0, none⟩) S.data.toList := fun i hi => by
  have hi' : i < S.size := by simpa using hi
  refine ⟨b, 0, rfl, ?_⟩
  rw [Nat.zero_add, h i hi']
  have := str_get' hi'
  rw [List.getElem?_eq_getElem hi] at this
  cases this
  rfl
/-- '[]byte(s)': a row of its own that reads as s. -/
theorem conv_bytes (w : World) (S : ByteArray) : ∃ (cap : Nat) (w' : World), (convert 9 22 (.string S)).run Tryd.prog w = .ok (.slice (some ⟨w.heap.size, 0, none⟩) S.size cap) w' ∧ S.size ≤ cap ∧ Below w.heap.size w w' ∧ BytesIn w' (some ⟨w.heap.size, 0, none⟩) S.data.toList ∧ w'.heap.size = w.heap.size + 1 := by
  refine ⟨_, _, Lib.run_convert_string_bytes w 9 22 5 S Tryd.underlying9 Tryd.underlying22 Tryd.underlying5, ?_, ⟨rfl, rfl, rfl, by rw [Lib.bytesWorld_size]; omega, fun k hk => Lib.bytesWorld_at_old w 5 S k hk⟩, bytes_str _ S _ fun j hj => ?_, Lib.bytesWorld_size w 5 S⟩
  · exact grownCap_ge _ _ _ _
  · rw [Lib.bytesWorld_cell w 5 S j hj, str_get hj]
theorem plain_eq (w : List UInt8) : plainB w = (decide (0 < w.length) && !(dgB (w.getD 0 0)) && ((wordL w).length == w.length)) := by
  unfold plainB
  have h : ((wordL w).length == w.length) = w.all syB := by
    unfold wordL
    induction w with
    | nil => rfl
    | cons c w ih =>
      cases hc : syB c with
      | true =>
        rw [List.takeWhile_cons, if_pos hc, List.all_cons, hc, Bool.true_and, ← ih]
        rw [Bool.eq_iff_iff]; simp
      | false =>
        rw [List.takeWhile_cons, if_neg (by rw [hc]; decide), List.all_cons, hc]; simp
  rw [h]
  cases w with
  | nil => rfl
  | cons c w => cases (c :: w).all syB <;> simp
set_option maxRecDepth 100000 in
set_option maxHeartbeats 1600000 in
theorem refplain_any (S : ByteArray) (W : World) (hs : S.size ≤ 1048576) : Calls Tryd.prog 18 #[.string S] W fun e w' => e = .returned (.bool (plainB S.data.toList)) ∧ Below W.heap.size W w' := by
  have HP := Lib.hid (plain_eq S.data.toList)
  have hlen : S.data.toList.length = S.size := by simp
  by_cases h0 : 0 < S.size
  · have HD0 := Lib.hid (fun W => digit_any S[0] W)
    have HG0 := Lib.hid (str_get h0)
    have i0 : (0 : Int) < (S.size : Int) := by omega
    cases q : dgB S[0] with
    | true =>
      have HR := Lib.hid (show plainB S.data.toList = false by rw [HP.out, HG0.out, q]; simp)
      have HQ := Lib.hid q
      clear q hlen
      go_enter Tryd.func18, Tryd.ntmps18
      go_wp2_with fail
      refine (HD0.out _).mono ?_
      rintro e w1 ⟨rfl, rfl⟩
      rw [HQ.out]
      go_wp2_with fail
      go_ret
      exact ⟨by rw [HR.out]; rfl, Below.refl _ _⟩
    | false =>
      have HR := Lib.hid (show plainB S.data.toList = ((wordL S.data.toList).length == S.size) by rw [HP.out, HG0.out, q, hlen]; simp [h0])
      have HQ := Lib.hid q
      have HL := Lib.hid hlen
      clear q hlen
      go_enter Tryd.func18, Tryd.ntmps18
      go_wp2_with fail
      refine (HD0.out _).mono ?_
      rintro e w1 ⟨rfl, rfl⟩
      rw [HQ.out]
      obtain ⟨cap, w2, hconv, hcap, hb2, hby, hsz⟩ := conv_bytes W S
      have HB2 := Lib.hid hb2
      have HBY := Lib.hid hby
      have hls : S.data.toList.length = S.size := HL.out
      have hrw := refword_any (some ⟨W.heap.size, 0, none⟩) cap S.data.toList 0 w2 hby (Nat.zero_le _) (by omega)
      rw [hls] at hrw
      have HRW := Lib.hid hrw
      clear hb2 hby hls hrw hsz
      go_wp2_with fail
      refine HRW.out.mono ?_
      rintro e w3 ⟨rfl, rfl⟩
      go_wp2_with fail
      go_ret
      refine ⟨?_, HB2.out⟩
      rw [HR.out]
      show Ending.returned (.bool (((wordL S.data.toList).length : Int) == (S.size : Int))) = _
      congr 2
      rw [Bool.eq_iff_iff, beq_iff_eq, beq_iff_eq]; omega
  · have HR := Lib.hid (show plainB S.data.toList = false by rw [HP.out, hlen]; simp [h0])
    have hz : S.size = 0 := by omega
    have i0 : ¬ (0 : Int) < (S.size : Int) := by omega
    have i1 : decide ((0 : Int) < (S.size : Int)) = false := by simpa using i0
    clear hlen hz
    go_enter Tryd.func18, Tryd.ntmps18
    go_wp2_with fail
    go_ret
    exact ⟨by rw [HR.out]; rfl, Below.refl _ _⟩
end Go.Proofs.YtlifankiljbdjaaDoor
namespace Go.Proofs.YtlifankiljbdjaaDoor
open Go Go.RowKit

theorem clsV_len : clsV.length = 256 := by simp [clsV]
theorem clsV_one : (clsV.toArray.all (·.oneCell')) = true := by kernel_rfl
theorem info57 : (Tryd.prog.info? 57).map (·.size) = some 256 := by kernel_rfl
/-- a table of the classes, in block R. -/
def ClAt (w : World) (R : Nat) : Prop := ∀ b : UInt8, w.cell? ⟨R, b.toNat, none⟩ = some (.int .u8 (clB b : Int))
theorem there57 (w : World) : (w.alloc (.cells Tryd.zeroCells57 57)).there w.heap.size 0 256 := fun j hj => by
  have hz : Tryd.zeroCells57.size = 256 := by kernel_rfl
  rw [Nat.zero_add]
  constructor
  · rw [World.cell?_alloc_new, Array.getElem?_eq_getElem (by rw [hz]; exact hj)]; rfl
  · simp [go_sem]
theorem cl_new (w : World) : ClAt ((w.alloc (.cells Tryd.zeroCells57 57)).setCells w.heap.size 0 clsV) w.heap.size ∧ Below w.heap.size w ((w.alloc (.cells Tryd.zeroCells57 57)).setCells w.heap.size 0 clsV) := by
  have hth := there57 w
  have hlen := clsV_len
  have hin := fun j (hj : j < clsV.length) => World.cell?_setCells_in w.heap.size clsV 0 (w.alloc (.cells Tryd.zeroCells57 57)) (fun i hi => (hth i (by omega)).1) j hj
  have hO : Only (fun _ => False) w ((w.alloc (.cells Tryd.zeroCells57 57)).setCells w.heap.size 0 clsV) := Only.newCells (Nat.le_refl _) _ _ _ (Only.of_below (below1 w _))
  refine ⟨fun b => ?_, hO.below (fun k h => h.elim) (Nat.le_refl _)⟩
  have hb' := b.toNat_lt
  have := hin b.toNat (by omega)
  rw [Nat.zero_add] at this
  rw [this, ← List.getElem?_eq_getElem]
  exact clsV_get b
theorem plain_all (w : List UInt8) : plainB w = (allB syB w && !(dgB (w.getD 0 0))) := by unfold plainB allB; rfl
set_option maxRecDepth 100000 in
set_option maxHeartbeats 3200000 in
theorem lexplain_any (S : ByteArray) (W : World) (hs : S.size ≤ 1048576) : Calls Tryd.prog 17 #[.string S] W fun e w' => e = .returned (.bool (plainB S.data.toList)) ∧ Below W.heap.size W w' := by
  have HP := Lib.hid (plain_all S.data.toList)
  have hlen : S.data.toList.length = S.size := by simp
  have HLEN := Lib.hid hlen
  have hone := clsV_one
  have hsz : clsV.toArray.size = 256 := by simp [clsV]
  have hcls := fun w => classes_any w
  obtain ⟨CV, hCV⟩ : ∃ l : List Value, l = clsV := ⟨_, rfl⟩
  rw [← hCV] at hone hcls hsz
  have HONE := Lib.hid hone
  have HCLS := Lib.hid hcls
  have HSZ := Lib.hid hsz
  have HCV := Lib.hid hCV
  clear hone hcls hCV hsz hlen
  go_enter Tryd.func17, Tryd.ntmps17
  go_wp2_with fail
  refine (HCLS.out _).mono ?_
  rintro e w1 ⟨rfl, hb1⟩
  have HB1 := Lib.hid hb1
  clear hb1
  go_wp2_with (refine wpList_store_mid rfl 57 _ _ rfl w1.heap.size 0 CV.toArray rfl rfl ?qs1 ?qs2 HONE.out ?_)
  case qs1 => rw [HSZ.out]; exact there57 w1
  case qs2 => rw [HSZ.out]; exact info57
  obtain ⟨hcl, hbd2⟩ := cl_new w1
  rw [← HCV.out] at hcl hbd2
  generalize hW2 : World.setCells _ _ 0 CV = W2
  rw [hW2] at hcl hbd2
  have HB2 := Lib.hid (HB1.out.trans (hbd2.mono HB1.out.size))
  clear hbd2 hW2
  generalize w1.heap.size = R at *
  have HCL := Lib.hid hcl
  clear hcl
  go_loopg [4] S.size (fun gk s4 wx => ∃ k : Nat, k + gk = S.size ∧ s4 = .int .i64 (k : Int) ∧ Hid ((∃ n, wx = W2.drewN n) ∧ ∀ x ∈ S.data.toList.take k, syB x = true))
  case atStart => exact ⟨0, by omega, rfl, Lib.hid ⟨⟨0, rfl⟩, by simp⟩⟩
  case round =>
    obtain ⟨k, hk, rfl, HI⟩ := hrel
    obtain ⟨nw, hwr⟩ := HI.out.1
    have HW := Lib.hid hwr
    have HG := Lib.hid hk
    have hk2 : k ≤ S.size := by omega
    clear hk hwr
    by_cases hlt : k < S.size
    · have i1 : (k : Int) < (S.size : Int) := by omega
      have i0 : (0 : Int) ≤ (k : Int) := by omega
      have ccl : wr.cell? ⟨R, S[k].toNat, none⟩ = some (.int .u8 (clB S[k] : Int)) := by rw [HW.out]; simpa using HCL.out S[k]
      obtain ⟨hz, hz0⟩ := byte_gt (x := S[k])
      have an := not_ne (and2 S[k])
      have hts : S.data.toList.take (k + 1) = S.data.toList.take k ++ [S[k]] := by
        rw [List.take_succ_eq_append_getElem (by simpa using hlt)]; rfl
      have HTS := Lib.hid hts
      have hmem : S[k] ∈ S.data.toList := by simp [ByteArray.getElem_eq_getElem_data]
      have HME := Lib.hid hmem
      clear hts hmem
      cases hs : syB S[k] with
      | true =>
        rw [hs] at an
        have an2 : (bits BinOp.and IntKind.u8 (clB S[k] : Int) 2 == 0) = false := an
        clear an
        have HS := Lib.hid hs
        clear hs
        go_wp2_with fail
        obtain ⟨G, rfl⟩ : ∃ G, gk = G + 1 := ⟨gk - 1, by have := HG.out; omega⟩
        go_roundg G
        case measure => omega
        case rel =>
          obtain ⟨k', hk'⟩ : ∃ k', k' = k + 1 := ⟨_, rfl⟩
          refine ⟨k', by have := HG.out; omega, by rw [hk']; go_num, Lib.hid ⟨⟨nw, HW.out⟩, fun x hx => ?_⟩⟩
          rw [hk', HTS.out] at hx
          rcases List.mem_append.1 hx with h | h
          · exact HI.out.2 x h
          · have : x = S[k] := by simpa using h
            rw [this]; exact HS.out
      | false =>
        rw [hs] at an
        have an2 : (bits BinOp.and IntKind.u8 (clB S[k] : Int) 2 == 0) = true := an
        clear an
        have HR := Lib.hid (show plainB S.data.toList = false by
          rw [HP.out]; unfold allB
          rw [List.all_eq_false.2 ⟨_, HME.out, by rw [hs]; decide⟩]; rfl)
        clear hs
        go_wp2_with fail
        go_ret
        exact ⟨by rw [HR.out]; rfl, by rw [HW.out]; exact HB2.out.trans ((below_drewN _ _).mono HB2.out.size)⟩
    · have hk3 : k = S.size := by omega
      subst hk3
      have hall : S.data.toList.all syB = true := by
        rw [List.all_eq_true]
        intro x hx
        refine HI.out.2 x ?_
        rw [List.take_of_length_le (by simp)]; exact hx
      by_cases h0 : 0 < S.size
      · have hne : S.toList.isEmpty = false := by
          rw [toList_data]
          cases h : S.data.toList with
          | nil => have := HLEN.out; rw [h] at this; simp at this; omega
          | cons => rfl
        have hne2 : (S.toList == []) = false := by
          cases h : S.toList with
          | nil => rw [h] at hne; cases hne
          | cons => rfl
        have hne3 : ¬ S.toList = [] := fun e => by rw [e] at hne; cases hne
        have hge := str_get h0
        have HR := Lib.hid (show plainB S.data.toList = !(dgB S[0]) by
          rw [HP.out, hge]; unfold allB; rw [hall, ← toList_data, hne]; simp)
        have ccl : wr.cell? ⟨R, S[0].toNat, none⟩ = some (.int .u8 (clB S[0] : Int)) := by rw [HW.out]; simpa using HCL.out S[0]
        obtain ⟨hz, hz0⟩ := byte_gt (x := S[0])
        have an := not_ne (and4 S[0])
        have i0 : (0 : Int) < (S.size : Int) := by omega
        clear hall hge
        go_wp2_with fail
        go_ret
        refine ⟨?_, by rw [HW.out]; exact HB2.out.trans ((below_drewN _ _).mono HB2.out.size)⟩
        rw [HR.out]
        rfl
      · have hnil : S.data.toList = [] := List.eq_nil_of_length_eq_zero (by rw [HLEN.out]; omega)
        have hne : S.toList.isEmpty = true := by rw [toList_data, hnil]; rfl
        have hne2 : (S.toList == []) = true := by rw [toList_data, hnil]; rfl
        have hne3 : S.toList = [] := by rw [toList_data, hnil]
        have HR := Lib.hid (show plainB S.data.toList = false by rw [HP.out, hnil]; rfl)
        clear hall hnil hne3
        go_wp2_with fail
        go_ret
        exact ⟨by rw [HR.out]; rfl, by rw [HW.out]; exact HB2.out.trans ((below_drewN _ _).mono HB2.out.size)⟩
set_option maxRecDepth 100000 in
set_option maxHeartbeats 400000 in
theorem tokens_long (p : Option Addr) (c n : Nat) (W : World) (hn : 1048576 < n) :
    Calls Tryd.prog 14 #[.slice p n c] W fun e w' => e = .returned (.tuple #[.slice none 0 0, .int .i64 0, .int .i64 3]) ∧ W = w' := by
  have i0 : (1048576 : Int) < (n : Int) := by omega
  go_enter Tryd.func14, Tryd.ntmps14
  go_wp2_with fail
  go_ret3
  exact ⟨rfl, rfl⟩
set_option maxRecDepth 100000 in
set_option maxHeartbeats 400000 in
theorem reftokens_long (p : Option Addr) (c n : Nat) (W : World) (hn : 1048576 < n) :
    Calls Tryd.prog 15 #[.slice p n c] W fun e w' => e = .returned (.tuple #[.slice none 0 0, .int .i64 0, .int .i64 3]) ∧ W = w' := by
  have i0 : (1048576 : Int) < (n : Int) := by omega
  go_enter Tryd.func15, Tryd.ntmps15
  go_wp2_with fail
  go_ret3
  exact ⟨rfl, rfl⟩
end Go.Proofs.YtlifankiljbdjaaDoor
namespace Go.Proofs.YtlifankiljbdjaaDoor
open Go Go.RowKit

/-- tokens in memory, one behind the other. -/
def TksIn (W : World) (p : Option Addr) (l : List Tk) : Prop := ∀ i (h : i < l.length), ∃ b off, p = some ⟨b, off, none⟩ ∧ W.cell? ⟨b, off + i * 3, none⟩ = some (.int .u8 (l[i].kind : Int)) ∧ W.cell? ⟨b, off + i * 3 + 1, none⟩ = some (.string ⟨l[i].text.toArray⟩) ∧ W.cell? ⟨b, off + i * 3 + 2, none⟩ = some (.int .i64 (l[i].at_ : Int))
theorem TksIn.later {W W' : World} {p : Option Addr} {l : List Tk} (h : TksIn W p l) (hb : Below W.heap.size W W') : TksIn W' p l := fun i hi => by
  obtain ⟨b, off, e, h1, h2, h3⟩ := h i hi
  exact ⟨b, off, e, cell_later hb h1, cell_later hb h2, cell_later hb h3⟩
theorem TksIn.take {W : World} {p : Option Addr} {l : List Tk} (h : TksIn W p l) (k : Nat) : TksIn W p (l.take k) := fun i hi => by
  have hi' : i < l.length := by simp at hi; omega
  have := h i hi'
  simpa using this
theorem own_cell3 {w : World} {base n c : Nat} {e : TypeId} {g : Nat} {xs : List Value} (h : w.ownsRow base e 3 (.slice (some ⟨g, 0, none⟩) n c) n xs) (i : Nat) (u : Value) (hu : xs[i]? = some u) : w.cell? ⟨g, i, none⟩ = some u ∧ w.frozen? ⟨g, i, none⟩ = false := by
  obtain ⟨h0, ⟨h1, _⟩ | ⟨g', cap, cur, hv, hg, hh, hn, hm, hs, ht⟩⟩ := h
  · cases h1
  · cases hv
    have hlt := (List.getElem?_eq_some_iff.1 hu).1
    rw [← ht, List.getElem?_take_of_lt (by omega)] at hu
    have e' : cur[i]? = some u := by simpa using hu
    exact ⟨by simp [World.cell?, hh, e'], by simp [World.frozen?, hh]⟩
theorem rowT_get : ∀ (l : List Tk) (i : Nat) (h : i < l.length), (rowT l)[i * 3]? = some (.int .u8 (l[i].kind : Int)) ∧ (rowT l)[i * 3 + 1]? = some (.string ⟨l[i].text.toArray⟩) ∧ (rowT l)[i * 3 + 2]? = some (.int .i64 (l[i].at_ : Int))
  | [], i, h => by simp at h
  | t :: l, 0, h => by simp [rowT, tkV]
  | t :: l, i + 1, h => by
    have := rowT_get l i (by simpa using h)
    have e : rowT (t :: l) = tkV t ++ rowT l := rfl
    rw [e]
    have hl : (tkV t).length = 3 := rfl
    refine ⟨?_, ?_, ?_⟩
    · rw [List.getElem?_append_right (by omega), hl, show (i + 1) * 3 - 3 = i * 3 by omega]; exact this.1
    · rw [List.getElem?_append_right (by omega), hl, show (i + 1) * 3 + 1 - 3 = i * 3 + 1 by omega]; exact this.2.1
    · rw [List.getElem?_append_right (by omega), hl, show (i + 1) * 3 + 2 - 3 = i * 3 + 2 by omega]; exact this.2.2
theorem own_tks {w : World} {base c : Nat} {p : Option Addr} {l : List Tk} (h : w.ownsRow base 33 3 (.slice p l.length c) l.length (rowT l)) : TksIn w p l := fun i hi => by
  have hg := rowT_get l i hi
  obtain ⟨g, rfl⟩ : ∃ g, p = some ⟨g, 0, none⟩ := by
    rcases h.2 with ⟨e, _⟩ | ⟨g, _, _, e, _⟩
    · injection e with _ e2 _; omega
    · injection e with e2 _ _; exact ⟨g, e2⟩
  refine ⟨g, 0, rfl, ?_, ?_, ?_⟩
  · rw [Nat.zero_add]; exact (own_cell3 h _ _ hg.1).1
  · rw [Nat.zero_add]; exact (own_cell3 h _ _ hg.2.1).1
  · rw [Nat.zero_add]; exact (own_cell3 h _ _ hg.2.2).1
theorem own_cap {w : World} {base n c : Nat} {e : TypeId} {size : Nat} {p : Option Addr} {xs : List Value} (h : w.ownsRow base e size (.slice p n c) n xs) : n ≤ c := by
  rcases h with ⟨h0, ⟨h1, h2⟩ | ⟨g, cap, cur, hv, hg, hh, hn, hm, hs, ht⟩⟩
  · injection h1 with _ h3 h4; omega
  · injection hv with _ _ h4; subst h4; omega
/-- the law's own example -/
def kbs : List UInt8 := [40, 97, 32, 124, 98, 32, 99, 124, 32, 49, 48, 41, 32, 59, 32, 120]
def ktk : List Tk := [⟨1, [40], 0⟩, ⟨3, [97], 1⟩, ⟨3, [98, 32, 99], 3⟩, ⟨4, [49, 48], 9⟩, ⟨2, [41], 11⟩]
theorem ktoks : Toks kbs 0 ktk 16 0 := by
  refine Toks.step (b := kbs) (at_ := 0) (k := 1) (n := 1) (t := [40]) (by decide) (by decide) ?_
  refine Toks.step (b := kbs) (at_ := 1) (k := 3) (n := 1) (t := [97]) (by decide) (by decide) ?_
  refine Toks.step (b := kbs) (at_ := 2) (k := 3) (n := 5) (t := [98, 32, 99]) (by decide) (by decide) ?_
  refine Toks.step (b := kbs) (at_ := 8) (k := 4) (n := 2) (t := [49, 48]) (by decide) (by decide) ?_
  refine Toks.step (b := kbs) (at_ := 11) (k := 2) (n := 1) (t := [41]) (by decide) (by decide) ?_
  exact Toks.done (b := kbs) (at_ := 12) (by decide)
theorem bytes_lit (w : World) (l : List UInt8) (t : TypeId) (fr : Nat × Nat) : BytesIn (w.alloc (.cells (l.map u8v).toArray t fr)) (some ⟨w.heap.size, 0, none⟩) l := fun i hi => by
  refine ⟨_, _, rfl, ?_⟩
  rw [Nat.zero_add, cell_of_row _ _ _ _ t fr (heap_alloc_new w _)]
  simp [u8v, List.getElem?_eq_getElem hi]
theorem kcells : (kbs.map u8v).toArray = #[.int .u8 40, .int .u8 97, .int .u8 32, .int .u8 124, .int .u8 98, .int .u8 32, .int .u8 99, .int .u8 124, .int .u8 32, .int .u8 49, .int .u8 48, .int .u8 41, .int .u8 32, .int .u8 59, .int .u8 32, .int .u8 120] := by kernel_rfl
theorem kbytes (w : World) : BytesIn (w.alloc (.cells #[.int .u8 40, .int .u8 97, .int .u8 32, .int .u8 124, .int .u8 98, .int .u8 32, .int .u8 99, .int .u8 124, .int .u8 32, .int .u8 49, .int .u8 48, .int .u8 41, .int .u8 32, .int .u8 59, .int .u8 32, .int .u8 120] 5 (16, 17))) (some ⟨w.heap.size, 0, none⟩) kbs := by
  rw [← kcells]; exact bytes_lit w kbs 5 (16, 17)
set_option maxRecDepth 100000 in
set_option maxHeartbeats 1600000 in
theorem known_any (W : World) : Calls Tryd.prog 13 #[] W fun e w' => e = .returned (.bool true) ∧ Below W.heap.size W w' := by
  have hct := tokens_any (some ⟨W.heap.size, 0, none⟩) 16 kbs _ (kbytes W) (by decide) (by decide)
  have HCT := Lib.hid hct
  clear hct
  have kc := fun (w : World) (C : Array Value) (n c : Nat) => Lib.run_convert_bytes_const (P := Tryd.prog) w 22 5 C n c Tryd.underlying22 Tryd.underlying5
  go_enter Tryd.func13, Tryd.ntmps13
  go_wp2_with fail
  refine HCT.out.mono ?_
  rintro e w1 ⟨p, c, l, a, er, rfl, htk, hown, hb⟩
  obtain ⟨rfl, rfl, rfl⟩ := htk.uniq ktoks
  have HB := Lib.hid ((below1 W _).trans (hb.mono (by simp)))
  have htks := own_tks hown
  obtain ⟨b, off, rfl, k0, k1, k2⟩ := htks 2 (by decide)
  obtain ⟨b3, off3, e3, m0, _, _⟩ := htks 3 (by decide)
  cases e3
  have hl : ktk.length = 5 := rfl
  rw [hl]
  have k0' : w1.cell? ⟨b, off + 6, none⟩ = some (.int .u8 3) := k0
  have k1' : w1.cell? ⟨b, off + 6 + 1, none⟩ = some (.string ⟨#[98, 32, 99]⟩) := k1
  have k2' : w1.cell? ⟨b, off + 6 + 2, none⟩ = some (.int .i64 3) := k2
  have m0' : w1.cell? ⟨b, off + 9, none⟩ = some (.int .u8 4) := m0
  clear k0 k1 k2 m0 htks hown hb htk hl HCT
  go_wp2_with fail
  go_ret
  exact ⟨rfl, HB.out⟩
set_option maxRecDepth 100000 in
set_option maxHeartbeats 1600000 in
theorem same_any (p q : Option Addr) (c d n : Nat) (l : List Tk) (W : World) (h1 : TksIn W p l) (h2 : TksIn W q l) (hl : l.length = n) (hn : n ≤ 1048576) :
    Calls Tryd.prog 16 #[.slice p n c, .slice q n d] W fun e w' => e = .returned (.bool true) ∧ Below W.heap.size W w' := by
  have H1 := Lib.hid h1
  have H2 := Lib.hid h2
  have HL := Lib.hid hl
  clear h1 h2 hl
  go_enter Tryd.func16, Tryd.ntmps16
  go_wp2_with fail
  go_loopg [5] n (fun gk s5 wx => ∃ k : Nat, k + gk = n ∧ s5 = .int .i64 (k : Int) ∧ Hid (∃ m, wx = W.drewN m))
  case atStart => exact ⟨0, by omega, rfl, Lib.hid ⟨0, rfl⟩⟩
  case round =>
    obtain ⟨k, hk, rfl, HI⟩ := hrel
    obtain ⟨m, hm⟩ := HI.out
    have HM := Lib.hid hm
    have HG := Lib.hid hk
    have hk2 : k ≤ n := by omega
    clear hk hm HI
    by_cases hlt : k < n
    · have i0 : (0 : Int) ≤ (k : Int) := by omega
      have i1 : (k : Int) < (n : Int) := by omega
      obtain ⟨b, off, rfl, x0, x1, x2⟩ := (H1.out.later (W' := wr) (by rw [HM.out]; exact below_drewN _ _)) k (by rw [HL.out]; exact hlt)
      obtain ⟨b2, off2, rfl, y0, y1, y2⟩ := (H2.out.later (W' := wr) (by rw [HM.out]; exact below_drewN _ _)) k (by rw [HL.out]; exact hlt)
      generalize l[k]'(by rw [HL.out]; exact hlt) = t at *
      generalize (⟨t.text.toArray⟩ : ByteArray) = S at *
      go_wp2_with fail
      go_quiet (fail)
      go_wp2_with fail
      obtain ⟨G, rfl⟩ : ∃ G, gk = G + 1 := ⟨gk - 1, by have := HG.out; omega⟩
      go_roundg G
      case measure => omega
      case rel =>
        obtain ⟨k', hk'⟩ : ∃ k', k' = k + 1 := ⟨_, rfl⟩
        exact ⟨k', by have := HG.out; omega, by rw [hk']; go_num, Lib.hid ⟨_, by rw [HM.out, World.drewN_drewN]⟩⟩
    · obtain rfl : k = n := by omega
      go_wp2_with fail
      go_ret
      exact ⟨rfl, by rw [HM.out]; exact below_drewN _ _⟩
end Go.Proofs.YtlifankiljbdjaaDoor
namespace Go.Proofs.YtlifankiljbdjaaDoor
open Go Go.RowKit

/-- a token's bytes, as the law writes them. -/
def TextP (k : Nat) (t : List UInt8) (W : World) (e : Ending) (w' : World) : Prop := ∃ X : ByteArray, e = .returned (.string X) ∧ X.data.toList = rendL k t ∧ Below W.heap.size W w'
theorem app_data (A B : ByteArray) : (A ++ B).data.toList = A.data.toList ++ B.data.toList := by simp
theorem dbl_snoc (l : List UInt8) (c : UInt8) : dblL (l ++ [c]) = dblL l ++ (if c == 34 then [34, 34] else [c]) := by
  induction l with
  | nil => simp only [List.nil_append, dblL]
  | cons d l ih => simp only [List.cons_append, dblL]; split <;> simp [ih]
theorem dbl_len (l : List UInt8) : (dblL l).length ≤ 2 * l.length := by
  induction l with
  | nil => simp [dblL]
  | cons c l ih => simp only [dblL]; split <;> simp <;> omega
theorem ext_one {S : ByteArray} {k : Nat} (h : k < S.size) : (S.extract k (k + 1)).data.toList = [S[k]] := by
  rw [Lib.extract_data]
  have h' : k < S.data.toList.length := by simpa using h
  rw [show k + 1 - k = 1 by omega, List.drop_eq_getElem_cons h']
  have := str_get' h
  rw [List.getElem?_eq_getElem h'] at this
  cases this
  rfl
set_option maxRecDepth 100000 in
set_option maxHeartbeats 3200000 in
theorem text_any (k a : Nat) (t : List UInt8) (S : ByteArray) (hS : S.data.toList = t) (hs : S.size ≤ 1048576) (W : World) :
    Calls Tryd.prog 19 #[.agg #[.int .u8 (k : Int), .string S, .int .i64 (a : Int)]] W (TextP k t W) := by
  have hB1 := below1 W (.cells #[.int .u8 (k : Int), .string S, .int .i64 (a : Int)] 33)
  have HB1 := Lib.hid hB1
  have c0 : (W.alloc (.cells #[.int .u8 (k : Int), .string S, .int .i64 (a : Int)] 33)).cell? ⟨W.heap.size, 0, none⟩ = some (.int .u8 (k : Int)) := by simp [go_sem]
  have c1 : (W.alloc (.cells #[.int .u8 (k : Int), .string S, .int .i64 (a : Int)] 33)).cell? ⟨W.heap.size, 1, none⟩ = some (.string S) := by simp [go_sem]
  have HS := Lib.hid hS
  clear hB1 hS
  by_cases h3 : k = 3
  · subst h3
    cases hp : plainB t with
    | true =>
      have HP := Lib.hid hp
      clear hp
      go_enter Tryd.func19, Tryd.ntmps19
      go_wp2_with fail
      refine (refplain_any S _ hs).mono ?_
      rintro e w1 ⟨rfl, hb⟩
      rw [HS.out, HP.out]
      have d1 := cell_later hb c1
      have HB := Lib.hid (HB1.out.trans (hb.mono HB1.out.size))
      clear hb c0 c1
      go_wp2_with fail
      go_ret
      exact ⟨S, rfl, by rw [HS.out]; unfold rendL; rw [HP.out]; rfl, HB.out⟩
    | false =>
      have HP := Lib.hid hp
      clear hp
      go_enter Tryd.func19, Tryd.ntmps19
      go_wp2_with fail
      refine (refplain_any S _ hs).mono ?_
      rintro e w1 ⟨rfl, hb⟩
      rw [HS.out, HP.out]
      have d1 := cell_later hb c1
      have HB := Lib.hid (HB1.out.trans (hb.mono HB1.out.size))
      clear hb c0 c1
      go_wp2_with fail
      go_ret
      refine ⟨_, rfl, ?_, HB.out⟩
      rw [app_data, app_data, HS.out]; unfold rendL; rw [HP.out]; rfl
  · have e3 : ((k : Int) == 3) = false := by simp; omega
    by_cases h5 : k = 5
    · subst h5
      go_enter Tryd.func19, Tryd.ntmps19
      go_wp2_with fail
      generalize hW1 : W.alloc _ = W1
      rw [show (W.alloc (.cells #[.int .u8 ((5 : Nat) : Int), .string S, .int .i64 (a : Int)] 33)) = W1 from hW1] at HB1 c0 c1
      have HW1 := Lib.hid hW1
      clear hW1
      go_loopg [3, 4] S.size (fun gk s3 s4 wx => ∃ (j : Nat) (Y : ByteArray), j + gk = S.size ∧ s3 = .string Y ∧ s4 = .int .i64 (j : Int) ∧ Hid (wx = W1 ∧ Y.data.toList = dblL (t.take j)))
      case atStart => exact ⟨0, ⟨#[]⟩, by omega, rfl, rfl, Lib.hid ⟨rfl, rfl⟩⟩
      case round =>
        obtain ⟨j, Y, hj, rfl, rfl, HI⟩ := hrel
        obtain ⟨hw, hY⟩ := HI.out
        subst hw
        have HG := Lib.hid hj
        have HY := Lib.hid hY
        have hj2 : j ≤ S.size := by omega
        clear hj hY HI
        by_cases hlt : j < S.size
        · have i0 : (0 : Int) ≤ (j : Int) := by omega
          have i1 : (j : Int) < (S.size : Int) := by omega
          have i2 : (j : Int) + 1 ≤ (S.size : Int) := by omega
          have i3 : ((j : Int) + 1).toNat = j + 1 := by omega
          have e34 : ((S[j].toNat : Int) == 34) = (S[j] == 34) := eq_u8 34 (by decide +kernel) _
          have HX := Lib.hid (ext_one hlt)
          have hts : t.take (j + 1) = t.take j ++ [S[j]] := by
            have := str_get' hlt
            rw [HS.out] at this
            obtain ⟨h1, h2⟩ := List.getElem?_eq_some_iff.1 this
            rw [List.take_succ_eq_append_getElem h1, h2]
          have HD := Lib.hid (show dblL (t.take (j + 1)) = dblL (t.take j) ++ (if S[j] == 34 then [34, 34] else [S[j]]) by rw [hts]; exact dbl_snoc _ _)
          obtain ⟨hz, hz0⟩ := byte_gt (x := S[j])
          have hYs : Y.size ≤ 2097152 := by
            have h1 : Y.data.toList.length = Y.size := by simp
            have h2 := dbl_len (t.take j)
            rw [← HY.out, h1, List.length_take] at h2
            omega
          have hXs : (S.extract j (j + 1)).size ≤ 1 := by
            have h1 : ∀ Z : ByteArray, Z.data.toList.length = Z.size := fun Z => by simp
            have h2 : (S.extract j (j + 1)).data.toList.length = 1 := by rw [HX.out]; rfl
            have h3 := h1 (S.extract j (j + 1))
            omega
          clear hts
          cases q : (S[j] == 34) with
          | true =>
            rw [q] at e34
            have HQ := Lib.hid q
            clear q
            go_wp2_with fail
            go_roundg (gk - 1)
            case measure => have := HG.out; omega
            case rel =>
              obtain ⟨j', hj'⟩ : ∃ j', j' = j + 1 := ⟨_, rfl⟩
              refine ⟨j', _, by have := HG.out; omega, rfl, by rw [hj']; go_num, Lib.hid ⟨rfl, ?_⟩⟩
              rw [hj', HD.out, HQ.out, app_data, app_data, HY.out, HX.out]
              have := eq_of_beq HQ.out
              simp [this]
          | false =>
            rw [q] at e34
            have HQ := Lib.hid q
            clear q
            go_wp2_with fail
            go_roundg (gk - 1)
            case measure => have := HG.out; omega
            case rel =>
              obtain ⟨j', hj'⟩ : ∃ j', j' = j + 1 := ⟨_, rfl⟩
              refine ⟨j', _, by have := HG.out; omega, rfl, by rw [hj']; go_num, Lib.hid ⟨rfl, ?_⟩⟩
              rw [hj', HD.out, HQ.out, app_data, HY.out, HX.out]
              simp
        · have hjs : j = S.size := by omega
          have HJ := Lib.hid (show t.take j = t by rw [hjs, ← HS.out, List.take_of_length_le (by simp)])
          have hYs : Y.size ≤ 2097152 := by
            have h1 : Y.data.toList.length = Y.size := by simp
            have h2 := dbl_len (t.take j)
            rw [← HY.out, h1, List.length_take] at h2
            omega
          clear hjs
          go_wp2_with fail
          go_ret
          refine ⟨_, rfl, ?_, HB1.out⟩
          rw [app_data, app_data, HY.out, HJ.out]
          unfold rendL
          rfl
    · have e5 : ((k : Int) == 5) = false := by simp; omega
      by_cases h6 : k = 6
      · subst h6
        go_enter Tryd.func19, Tryd.ntmps19
        go_wp2_with fail
        go_ret
        refine ⟨_, rfl, ?_, HB1.out⟩
        rw [app_data, HS.out]; unfold rendL; rfl
      · have e6 : ((k : Int) == 6) = false := by simp; omega
        go_enter Tryd.func19, Tryd.ntmps19
        go_wp2_with fail
        go_ret
        refine ⟨_, rfl, ?_, HB1.out⟩
        rw [HS.out]; unfold rendL
        simp [h3, h5, h6]
end Go.Proofs.YtlifankiljbdjaaDoor
