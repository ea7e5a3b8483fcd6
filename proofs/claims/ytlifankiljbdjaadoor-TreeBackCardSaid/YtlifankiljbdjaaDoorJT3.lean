/- tree.list, Next, All. -/
import Derived.Test.YtlifankiljbdjaaDoorJT1
import Derived.Lib.UnsafeStr
import Derived.Lib.SliceRun
import Derived.Lib.BufferWrite
import Derived.Lib.Strings
import Derived.Test.YtlifankiljbdjaaDoorJT2
namespace Go.Proofs.YtlifankiljbdjaaDoor
open Go Go.RowKit Go.Maps

set_option maxHeartbeats 1600000 in
set_option maxRecDepth 100000 in
theorem clone90 (s : ByteArray) (w : World) (hlim : s.size ≤ 281474976710656) :
    Calls Tryd.prog 90 #[.string s] w fun e w' => e = .returned (.string s) ∧ Below w.heap.size w w' := by
  by_cases h0 : s.size = 0
  · have hs : s = ⟨#[]⟩ := by
      apply ByteArray.ext
      exact Array.eq_empty_of_size_eq_zero h0
    subst hs
    go_enter Tryd.func90, Tryd.ntmps90
    go_wp2
    go_ret
    exact ⟨rfl, Below.refl _ _⟩
  · obtain ⟨i0, hi, hz0, hz1, hz2⟩ := info_of (e := 5) (z := .int .u8 0) (s := 1) (b := 1) (by kernel_rfl)
    have hinfo : (Tryd.prog.info? 5).map (·.size) = some 1 := by rw [hi]; simp [hz1]
    have hco : Tryd.prog.cellsOf 5 = 1 := by simp [Program.cellsOf, hi, hz1]
    obtain ⟨M, hM⟩ : ∃ M, M = madeCells (Value.int .u8 0).cells (((s.size : Nat) : Int).toNat * i0.size) := ⟨_, rfl⟩
    have hMs : M.size = s.size := by rw [hM, size_madeCells, hz1]; simp
    have hmk : ∀ W : World, (Instr.makeSlice 22 (.int .i64 (s.size : Int)) (.int .i64 (s.size : Int))).run Tryd.prog W = .ok (.slice (some ⟨W.heap.size, 0, none⟩) s.size s.size) (W.alloc (.cells M 5)) := fun W => by
      have h := run_make (P := Tryd.prog) W 22 5 i0 (.int .u8 0) Tryd.underlying22 hi hz0 .i64 .i64 (s.size : Int) (s.size : Int) (by omega) (by omega) (by rw [hz2]; omega) (by omega)
      rw [← hM] at h
      simpa using h
    clear hM
    have hcp := Lib.run_copy_row_string (P := Tryd.prog) (w.alloc (.cells M 5)) 22 9 3 5 w.heap.size 0 s.size s.size s M 5 Tryd.underlying22 hinfo (heap_alloc_new w _) (Nat.le_refl _) (by omega)
    obtain ⟨Y, hY⟩ : ∃ Y, Y = (M.toList.take 0 ++ Lib.byteCells s.data.toList ++ M.toList.drop (0 + s.size)).toArray := ⟨_, rfl⟩
    rw [← hY] at hcp
    have hYl : Y.toList = Lib.byteCells s.data.toList := by
      rw [hY, List.toList_toArray, List.take_zero, List.nil_append, List.drop_of_length_le (by rw [Array.length_toList]; omega), List.append_nil]
    have hYs : Y.size = s.size := by rw [← Array.length_toList, hYl, Lib.byteCells_length, ← Lib.size_eq]
    have hgY : ((w.alloc (.cells M 5)).setRow w.heap.size Y).heap[w.heap.size]? = some (.cells Y 5 (0, 0)) := setRow_heap _ _ M _ 5 (0, 0) (heap_alloc_new w _)
    have hne : s.data.toList ≠ [] := fun e => h0 (by rw [Lib.size_eq, e]; rfl)
    have hUS := Lib.run_unsafeString_row (P := Tryd.prog) ((w.alloc (.cells M 5)).setRow w.heap.size Y) 110 3 9 5 Tryd.underlying110 hco w.heap.size Y.size (by unfold World.shape?; rw [hgY]) s.data.toList hne (by rw [← Lib.size_eq]; omega) (by rw [← Lib.size_eq]; omega)
      (fun j x hx => Lib.cells_of_row hgY Y.size j _ (by rw [List.take_of_length_le (by rw [Array.length_toList]; exact Nat.le_refl _), hYl]; simp [Lib.byteCells, hx]))
    rw [← Lib.size_eq] at hUS
    clear hY
    go_enter Tryd.func90, Tryd.ntmps90
    go_wp2
    go_ret
    have hb1 : Below w.heap.size w (w.alloc (.cells M 5)) := (Below.refl _ w).alloc (Nat.le_refl _) _
    have hb2 : Below w.heap.size (w.alloc (.cells M 5)) ((w.alloc (.cells M 5)).setRow w.heap.size Y) := ⟨rfl, rfl, rfl, by simp, fun k hk => setRow_other _ _ _ _ (by omega)⟩
    exact ⟨rfl, Lib.below_freeze (hb1.trans hb2) (p := ⟨w.heap.size, 0, none⟩) (Nat.le_refl _) _⟩
theorem clone78 (s : ByteArray) (w : World) (hlim : s.size ≤ 281474976710656) :
    Calls Tryd.prog 78 #[.string s] w fun e w' => e = .returned (.string s) ∧ Below w.heap.size w w' := by
  go_enter Tryd.func78, Tryd.ntmps78
  go_wp2_with (go_at_call 90; refine (clone90 _ _ hlim).mono ?_; rintro e w' ⟨rfl, hb⟩)
  go_ret
  exact ⟨rfl, hb⟩

set_option maxHeartbeats 1600000 in
set_option maxRecDepth 100000 in
theorem own67 (k : Int) (s : ByteArray) (a : Int) (w : World) (hlim : s.size ≤ 281474976710656) :
    Calls Tryd.prog 67 #[.agg #[.int .u8 k, .string s, .int .i64 a]] w fun e w' => e = .returned (.agg #[.int .u8 k, .string s, .int .i64 a]) ∧ Below w.heap.size w w' := by
  go_enter Tryd.func67, Tryd.ntmps67
  go_wp2_with fail
  refine (clone78 s _ hlim).mono ?_
  rintro e w1 ⟨rfl, hb⟩
  have c0 : w1.cell? ⟨w.heap.size, 0, none⟩ = some (.int .u8 k) := cell_later hb (by simp [go_sem])
  have c1 : w1.cell? ⟨w.heap.size, 1, none⟩ = some (.string s) := cell_later hb (by simp [go_sem])
  have c2 : w1.cell? ⟨w.heap.size, 2, none⟩ = some (.int .i64 a) := cell_later hb (by simp [go_sem])
  have d0 : w1.cell? ⟨w.heap.size + 1, 0, none⟩ = some (.int .u8 0) := cell_later hb (by simp [go_sem])
  have d1 : w1.cell? ⟨w.heap.size + 1, 1, none⟩ = some (.string ⟨#[]⟩) := cell_later hb (by simp [go_sem])
  have d2 : w1.cell? ⟨w.heap.size + 1, 2, none⟩ = some (.int .i64 0) := cell_later hb (by simp [go_sem])
  have f0 : ∀ o, w1.frozen? ⟨w.heap.size, o, none⟩ = false := fun o => by
    rw [hb.frozen (p := ⟨w.heap.size, o, none⟩) (by simp; omega)]; simp [go_sem]
  have f1 : ∀ o, w1.frozen? ⟨w.heap.size + 1, o, none⟩ = false := fun o => by
    rw [hb.frozen (p := ⟨w.heap.size + 1, o, none⟩) (by simp)]; simp [go_sem]
  have HB := Lib.hid ((((below1 w (.cells #[.int .u8 k, .string s, .int .i64 a] 33)).alloc (by simp) (.cells #[.int .u8 0, .string ⟨#[]⟩, .int .i64 0] 33))).trans (hb.mono (by simp; omega)))
  clear hb
  go_wp2_with fail
  refine bodyPost_ret (v := .agg #[.int .u8 k, .string s, .int .i64 a]) (by simp [results, Tryd.results67, go_sem, d0, d1, d2]) rfl ⟨rfl, ?_⟩
  exact (((HB.out.setCell (Nat.le_refl _) _).setCell (by simp) _).setCell (by simp) _).setCell (by simp) _
set_option maxHeartbeats 1600000 in
set_option maxRecDepth 100000 in
theorem leaf41 (k : Int) (s : ByteArray) (a : Int) (w : World) (hlim : s.size ≤ 281474976710656) :
    Calls Tryd.prog 41 #[.agg #[.int .u8 k, .string s, .int .i64 a]] w fun e w' => e = .returned (.agg #[.bool false, .int .u8 k, .string s, .int .i64 a, .slice none 0 0]) ∧ Below w.heap.size w w' := by
  go_enter Tryd.func41, Tryd.ntmps41
  go_wp2_with fail
  refine (own67 k s a _ hlim).mono ?_
  rintro e w1 ⟨rfl, hb⟩
  have d0 : w1.cell? ⟨w.heap.size + 1, 0, none⟩ = some (.bool false) := cell_later hb (by simp [go_sem])
  have d1 : w1.cell? ⟨w.heap.size + 1, 1, none⟩ = some (.int .u8 0) := cell_later hb (by simp [go_sem])
  have d2 : w1.cell? ⟨w.heap.size + 1, 2, none⟩ = some (.string ⟨#[]⟩) := cell_later hb (by simp [go_sem])
  have d3 : w1.cell? ⟨w.heap.size + 1, 3, none⟩ = some (.int .i64 0) := cell_later hb (by simp [go_sem])
  have d4 : w1.cell? ⟨w.heap.size + 1, 4, none⟩ = some (.slice none 0 0) := cell_later hb (by simp [go_sem])
  have f1 : ∀ o, w1.frozen? ⟨w.heap.size + 1, o, none⟩ = false := fun o => by
    rw [hb.frozen (p := ⟨w.heap.size + 1, o, none⟩) (by simp)]; simp [go_sem]
  have HB := Lib.hid ((((below1 w (.cells #[.int .u8 k, .string s, .int .i64 a] 33)).alloc (by simp) (.cells #[.bool false, .int .u8 0, .string ⟨#[]⟩, .int .i64 0, .slice none 0 0] 41))).trans (hb.mono (by simp; omega)))
  clear hb
  go_wp2_with fail
  refine bodyPost_ret (v := .agg #[.bool false, .int .u8 k, .string s, .int .i64 a, .slice none 0 0]) (by simp [results, Tryd.results41, go_sem, d0, d1, d2, d3, d4]) rfl ⟨rfl, ?_⟩
  repeat (first | exact HB.out | refine Below.setCell ?_ (by simp) _)
set_option maxHeartbeats 1600000 in
set_option maxRecDepth 100000 in
theorem closed68_no (v : Value) (l : Bool) (k : Int) (s : ByteArray) (a : Int) (q : Option Addr) (n c : Nat) (at_ d : Int) (w : World) (hd : 200 < d) (hv : v = trV l k s a q n c) :
    Calls Tryd.prog 68 #[v, .int .i64 at_, .int .i64 d] w fun e w' => e = .returned (.tuple #[trV false 0 ⟨#[]⟩ 0 none 0 0, .int .i64 at_, .int .i64 40]) ∧ Below w.heap.size w w' := by
  subst hv
  unfold trV
  go_enter Tryd.func68, Tryd.ntmps68
  go_wp2_with fail
  refine bodyPost_ret (v := .tuple #[.agg #[.bool false, .int .u8 0, .string ⟨#[]⟩, .int .i64 0, .slice none 0 0], .int .i64 at_, .int .i64 40]) (by simp [results, Tryd.results68, go_sem]) rfl ⟨rfl, ?_⟩
  repeat (first | exact Below.refl _ _ | refine Below.alloc ?_ (by simp) _ | refine Below.setCell ?_ (by simp) _)
set_option maxHeartbeats 1600000 in
set_option maxRecDepth 100000 in
theorem closed68_ok (v : Value) (l : Bool) (k : Int) (s : ByteArray) (a : Int) (q : Option Addr) (n c : Nat) (at_ d : Int) (w : World) (hd : d ≤ 200) (hv : v = trV l k s a q n c) :
    Calls Tryd.prog 68 #[v, .int .i64 at_, .int .i64 d] w fun e w' => e = .returned (.tuple #[v, .int .i64 at_, .int .i64 0]) ∧ Below w.heap.size w w' := by
  subst hv
  unfold trV
  go_enter Tryd.func68, Tryd.ntmps68
  go_wp2_with fail
  refine bodyPost_ret (v := .tuple #[.agg #[.bool l, .int .u8 k, .string s, .int .i64 a, .slice q n c], .int .i64 at_, .int .i64 0]) (by simp [results, Tryd.results68, go_sem]) rfl ⟨rfl, ?_⟩
  repeat (first | exact Below.refl _ _ | refine Below.alloc ?_ (by simp) _ | refine Below.setCell ?_ (by simp) _)
end Go.Proofs.YtlifankiljbdjaaDoor
namespace Go.Proofs.YtlifankiljbdjaaDoor
open Go Go.RowKit

set_option maxRecDepth 100000 in
set_option maxHeartbeats 16000000 in
theorem list42 (p : Option Addr) (c f0 : Nat) (l : List TkA) (W : World) (h1 : TksA W p l) (hc : l.length ≤ c) (hn : l.length ≤ 1048576) (hs : ∀ t ∈ l, t.s.size ≤ 281474976710656) (t0 : TkA) (r0 : List TkA) (hf : l.drop f0 = t0 :: r0) (ht : t0.k = 1) :
    Calls Tryd.prog 42 #[.slice p l.length c, .int .i64 (f0 : Int)] W (NextE l (f0 : Int) W) := by
  obtain ⟨n, hl⟩ : ∃ n, n = l.length := ⟨_, rfl⟩
  have hfn : f0 < n := by
    have h := congrArg List.length hf
    simp only [List.length_drop, List.length_cons] at h
    omega
  have H1 := Lib.hid h1
  have HL := Lib.hid hl
  have HS := Lib.hid hs
  have HF := Lib.hid (And.intro hf ht)
  rw [← hl] at hc hn ⊢
  clear h1 hl hs hf ht
  have n1 : (n : Int) ≤ 1048576 := by omega
  obtain ⟨i0, hi, hz0, hz1, hz2⟩ := info41
  go_enter Tryd.func42, Tryd.ntmps42
  go_wp2_with fail
  go_loopg [7, 8, 9, 10, 11, 12] (n - f0) (fun gk s7 s8 s9 s10 s11 s12 wx => ∃ (i d m : Nat) (st : List Op) (K : Nat → Nat) (pv : Option Addr) (cv : Nat), i + gk = n ∧ s8 = .int .i64 (d : Int) ∧ s9 = .int .i64 (m : Int) ∧ s10 = .int .i64 (i : Int) ∧ s7 = .slice pv st.length cv ∧ Hid (ListI l f0 i d m st ∧ StAt wx K (W.heap.size + 1) (.slice pv st.length cv) st.length st ∧ BoxT wx W.heap.size false 0 ⟨#[]⟩ 0 (.slice none 0 0) ∧ Below W.heap.size W wx))
  case atStart =>
    refine ⟨f0, 0, 0, [], fun _ => 0, none, 0, ?_, rfl, rfl, rfl, rfl, Lib.hid ⟨ListI.start (by rw [← HL.out]; omega) rfl, ⟨⟨[], ⟨rfl, Or.inl ⟨rfl, rfl⟩⟩, fun j hj => absurd hj (by simp)⟩, Nat.le_refl _, fun g hg => (by cases hg), fun _ _ => rfl, by simp⟩, box_new W _ _ _ _ _, below1 W _⟩⟩
    omega
  case round =>
    obtain ⟨i, d, m, st, K, pv, cv, hk, rfl, rfl, rfl, rfl, HI⟩ := hrel
    have HG := Lib.hid hk
    have hin : i ≤ n := by omega
    clear hk
    obtain ⟨wA, hwA⟩ : ∃ w, w = wr := ⟨_, rfl⟩
    subst hwA
    have hd1 : d ≤ 1048576 := by have := HI.out.1.di; omega
    have hm1 : m ≤ 1048576 := by have := HI.out.1.mi; omega
    have hst : st.length ≤ 200 := by have := HI.out.1.len; omega
    by_cases hlt : i < n
    · have hlt' : i < l.length := by rw [← HL.out]; exact hlt
      have z0 : (i : Int) < (n : Int) := by omega
      have z1 : (0 : Int) ≤ (i : Int) := by omega
      obtain ⟨b, off, rfl, x0, x1, x2⟩ := (H1.out.later HI.out.2.2.2) i hlt'
      have hsz : (l[i]).s.size ≤ 281474976710656 := HS.out _ (List.getElem_mem _)
      obtain ⟨G, rfl⟩ : ∃ G, gk = G + 1 := ⟨gk - 1, by have := HG.out; omega⟩
      obtain ⟨tk, htk⟩ : ∃ tk, tk = l[i] := ⟨_, rfl⟩
      rw [← htk] at x0 x1 x2 hsz
      have HT := Lib.hid htk
      obtain ⟨k, s, a⟩ := tk
      simp only at x0 x1 x2 hsz
      clear htk
      by_cases h1 : k = 1
      · subst h1
        obtain ⟨mx, hmx⟩ : ∃ mx, mx = max m (d + 1) := ⟨_, rfl⟩
        have hmx2 : (max (m : Int) ((d : Int) + 1)) = (mx : Int) := by omega
        have hmx3 : (if (m : Int) < (d : Int) + 1 then (d : Int) + 1 else (m : Int)) = (mx : Int) := by split <;> omega
        obtain ⟨hL, hS, hB, hBl⟩ := HI.out
        clear HI
        by_cases h200 : d + 1 ≤ 200
        · have h201 : (d : Int) + 1 ≤ 200 := by omega
          have HLI := Lib.hid (hL.open (st' := st ++ [⟨s, a, .nil⟩]) hlt' (by rw [← HT.out]) (by rw [if_pos h200, ← HT.out]))
          have HM := Lib.hid (And.intro hS (And.intro hB hBl))
          have HMX := Lib.hid hmx
          clear hL hS hB hBl hmx
          by_cases hmd : (m : Int) < (d : Int) + 1
          all_goals
            go_wp2_with fail
            refine (own67 1 s a _ hsz).mono ?_
            rintro e w1 ⟨rfl, hb1⟩
            have hb2 := hb1.trans ((below1 w1 (.cells #[.bool true, .int .u8 1, .string s, .int .i64 a, .slice none 0 0] 41)).mono hb1.size)
            have hS2 := HM.out.1.later hb2
            have hB2 := HM.out.2.1.later hb2
            have hnew := box_new w1 true 1 s a (.slice none 0 0)
            obtain ⟨xs, hxs, hlv⟩ := hS2.row
            have HXS := Lib.hid hxs
            have HLV := Lib.hid hlv
            have HS2 := Lib.hid (And.intro hS2 (And.intro hB2 (HM.out.2.2.trans (hb2.mono HM.out.2.2.size))))
            have HNW := Lib.hid hnew
            clear hb1 hb2 hS2 hB2 hnew hxs hlv
            go_wp2_with (at_builtin; refine wpList_append_own_at _ rfl _ _ 39 rfl (W.heap.size + 1) 41 i0 Z41 5 64 Tryd.underlying39 hi hz0 hz1 hz2 rfl (by omega) _ st.length xs rfl HXS.out ⟨w1.heap.size, 0, none⟩ 1 1 (trC true 1 s a none 0 0) rfl rfl ?qc2 ?qc3 ?qc4 ?qc5 HS2.out.1.lo ?_)
            case qc2 =>
              intro jj u hjj
              rw [Lib.add_plain]
              match jj, hjj with
              | 0, hjj => cases hjj; exact HNW.out.c0
              | 1, hjj => cases hjj; exact HNW.out.c1
              | 2, hjj => cases hjj; exact HNW.out.c2
              | 3, hjj => cases hjj; exact HNW.out.c3
              | 4, hjj => cases hjj; exact HNW.out.c4
            case qc3 => intro u hu; simp [trC] at hu; rcases hu with rfl | rfl | rfl | rfl | rfl <;> rfl
            case qc4 => have hml : maxLen = 9223372036854775807 := rfl; omega
            case qc5 => omega
            intro v8 w8 hown hgrow hnil_ hloc
            obtain ⟨K8, hpush⟩ : ∃ K8, StAt w8 K8 _ _ _ _ := ⟨_, HS2.out.1.push HXS.out HLV.out hown hgrow (by simpa using hloc)⟩
            have hg8 := Only.of_grown hgrow
            have hge : ∀ j, (Value.slice pv st.length cv).ownBlock = some j → W.heap.size + 1 ≤ j := fun j hj => (own_lt HXS.out hj).1
            have hB8 := HS2.out.2.1.only hg8 (fun e => by have := hge _ e; omega)
            have hb8 := HS2.out.2.2.trans (hg8.below (B := W.heap.size) (fun j hj => by have := hge _ hj; omega) HS2.out.2.2.size)
            obtain ⟨p8, c8, hv, hA_⟩ := own_shape hown
            subst hv
            have HE := Lib.hid (And.intro hpush (And.intro hB8 hb8))
            clear hown hgrow hnil_ hloc hpush hg8 hge hB8 hb8 hA_
            go_wp2_with fail
            go_roundg G
            case measure => omega
            case rel =>
              have hls : (st ++ [(⟨s, a, .nil⟩ : Op)]).length = st.length + 1 := by simp
              refine ⟨i + 1, d + 1, mx, st ++ [⟨s, a, .nil⟩], K8, p8, c8, by have := HG.out; omega, by go_num, by first | rfl | (congr 1; omega), by go_num, by rw [hls], Lib.hid ⟨by rw [HMX.out]; exact HLI.out, ?_, HE.out.2.1, HE.out.2.2⟩⟩
              have := HE.out.1
              rw [hls] at this ⊢
              exact this
        · have h201 : ¬ (d : Int) + 1 ≤ 200 := by omega
          have HLI := Lib.hid (hL.open (st' := st) hlt' (by rw [← HT.out]) (by rw [if_neg h200]))
          have HM := Lib.hid (And.intro hS (And.intro hB hBl))
          have HMX := Lib.hid hmx
          clear hL hS hB hBl hmx
          by_cases hmd : (m : Int) < (d : Int) + 1
          all_goals
            go_wp2_with fail
            go_roundg G
            case measure => omega
            case rel =>
              exact ⟨i + 1, d + 1, mx, st, K, pv, cv, by have := HG.out; omega, by go_num, by first | rfl | (congr 1; omega), by go_num, rfl, Lib.hid ⟨by rw [HMX.out]; exact HLI.out, HM.out.1, HM.out.2.1, HM.out.2.2⟩⟩
      by_cases h2 : k = 2
      · subst h2
        obtain ⟨hL, hS, hB, hBl⟩ := HI.out
        clear HI
        have hd0 : d ≠ 0 := fun e => by
          have h := hL.d0 e
          subst h
          have h2 := HF.out.1
          rw [drop_cons hlt'] at h2
          injection h2 with h2 _
          have h3 := HF.out.2
          rw [← h2, ← HT.out] at h3
          cases h3
        obtain ⟨D, rfl⟩ : ∃ D, d = D + 1 := ⟨d - 1, by omega⟩
        have hdd : ((D + 1 : Nat) : Int) - 1 = (D : Int) := by omega
        by_cases hD0 : D = 0
        · subst hD0
          obtain ⟨o, rfl, hno, hok⟩ := hL.last hlt' (by rw [← HT.out]) HF.out.1 HF.out.2
          have hno : 200 < m → NextO l (f0 : Int) false 0 ⟨#[]⟩ 0 .nil ((i : Int) + 1) 40 := fun h => by simpa using hno h
          have hok : m ≤ 200 → NextO l (f0 : Int) true 1 o.s o.a o.f ((i : Int) + 1) 0 := fun h => by simpa using hok h
          obtain ⟨xs, hxs, hlv⟩ := hS.row
          obtain ⟨K', q, cq, -, -, hqc, hfo, -, y0, y1, y2, y3, y4⟩ := StAt.drop (st := []) hS hxs hlv
          obtain ⟨g7, rfl⟩ : ∃ g7, pv = some ⟨g7, 0, none⟩ := by
            rcases hxs.2 with ⟨e, _⟩ | ⟨g, _, _, e, _⟩
            · injection e with _ e2 _; simp at e2
            · injection e with e2 _ _; exact ⟨g, e2⟩
          have v0 := (own_cell5 hxs 0 _ y0).1
          have v1 := (own_cell5 hxs 1 _ y1).1
          have v2 := (own_cell5 hxs 2 _ y2).1
          have v3 := (own_cell5 hxs 3 _ y3).1
          have v4 := (own_cell5 hxs 4 _ y4).1
          have hFO := Lib.hid (And.intro hqc (And.intro hfo (And.intro hno (And.intro hok (And.intro hB hBl)))))
          simp only [List.length_cons, List.length_nil]
          clear hL hS hB hBl hno hok hxs hlv y0 y1 y2 y3 y4 hqc hfo
          go_wp2_with fail
          by_cases hm200 : 200 < m
          · refine (closed68_no _ true 1 o.s o.a q o.f.len cq _ _ _ (by omega) rfl).mono ?_
            rintro e w1 ⟨rfl, hb1⟩
            simp only [trV]
            obtain ⟨b0, b1, b2, b3, b4, bf⟩ := hFO.out.2.2.2.2.1.later hb1
            have HB := Lib.hid (hFO.out.2.2.2.2.2.trans (hb1.mono hFO.out.2.2.2.2.2.size))
            clear hb1
            go_wp2_with fail
            refine bodyPost_ret (v := .tuple #[.agg #[.bool false, .int .u8 0, .string ⟨#[]⟩, .int .i64 0, .slice none 0 0], .int .i64 ((i : Int) + 1), .int .i64 40]) (by simp [results, Tryd.results42, go_sem, b0, b1, b2, b3, b4]) rfl (next_zero ?_ (hFO.out.2.2.1 hm200))
            exact HB.out.trans ((only_set5 w1 W.heap.size _ _ _ _ _).below (fun j hj => Nat.le_of_eq hj.symm) HB.out.size)
          · refine (closed68_ok _ true 1 o.s o.a q o.f.len cq _ _ _ (by omega) rfl).mono ?_
            rintro e w1 ⟨rfl, hb1⟩
            simp only [trV]
            obtain ⟨b0, b1, b2, b3, b4, bf⟩ := hFO.out.2.2.2.2.1.later hb1
            have HB := Lib.hid (hFO.out.2.2.2.2.2.trans (hb1.mono hFO.out.2.2.2.2.2.size))
            have HQ := Lib.hid (hFO.out.2.1.later hb1)
            clear hb1
            go_wp2_with fail
            refine bodyPost_ret (v := .tuple #[trV true 1 o.s o.a q o.f.len cq, .int .i64 ((i : Int) + 1), .int .i64 0]) (by simp [results, Tryd.results42, go_sem, b0, b1, b2, b3, b4, trV]) rfl ?_
            refine ⟨q, cq, true, 1, o.s, o.a, o.f, _, _, rfl, hFO.out.1, ?_, ?_, hFO.out.2.2.2.1 (by omega)⟩
            · exact (HQ.out.only (only_set5 w1 W.heap.size _ _ _ _ _) (fun z hz e => by have := hz.1; omega)).mono (fun z hz _ => by have := hz.1; omega)
            · exact HB.out.trans ((only_set5 w1 W.heap.size _ _ _ _ _).below (fun j hj => Nat.le_of_eq hj.symm) HB.out.size)
        have hDp : 0 < D := by omega
        have hD1 : ¬ (D : Int) = 0 := by omega
        have hD2 : ((D : Int) == 0) = false := by simp [hD0]
        by_cases hD200 : D < 200
        · have hD201 : (D : Int) < 200 := by omega
          have hsl : st.length = D + 1 := by have := hL.len; omega
          obtain ⟨st1, o1, o2, hst1⟩ : ∃ st1 o1 o2, st = st1 ++ [o1] ++ [o2] := by
            have e1 := List.dropLast_concat_getLast (l := st) (by intro e; rw [e] at hsl; simp at hsl)
            have e2 := List.dropLast_concat_getLast (l := st.dropLast) (by intro e; have := congrArg List.length e; simp at this; omega)
            exact ⟨_, _, _, by rw [e2, e1]⟩
          subst hst1
          obtain ⟨L0, hL0⟩ : ∃ L0, L0 = st1.length := ⟨_, rfl⟩
          have hD0' : D = L0 + 1 := by simp at hsl; omega
          obtain ⟨xs, hxs, hlv⟩ := hS.row
          obtain ⟨K', q2, c2, hS', hlv', hc2, hfo2, hK', t0', t1', t2', t3', t4'⟩ := StAt.drop hS hxs hlv
          have e3 : (st1 ++ [o1]).length = L0 + 1 := by simp [hL0]
          rw [e3] at t0' t1' t2' t3' t4'
          have hgo : ∀ h : L0 < (st1 ++ [o1]).length, (st1 ++ [o1])[L0]'h = o1 := fun h => by simp [hL0]
          have hlast := hlv' L0 (by omega)
          rw [hgo _] at hlast
          obtain ⟨q, cq, ys, y0, y1, y2, y3, y4, hys, hrw, htg⟩ := hlast
          have hlenS : (st1 ++ [o1] ++ [o2]).length = L0 + 2 := by simp [hL0]
          obtain ⟨N0, hNN⟩ : ∃ N0, N0 = L0 + 2 := ⟨_, rfl⟩
          rw [hlenS, ← hNN] at hxs hS' hst ⊢
          obtain ⟨g7, rfl⟩ : ∃ g7, pv = some ⟨g7, 0, none⟩ := by
            rcases hxs.2 with ⟨e, _⟩ | ⟨g, _, _, e, _⟩
            · injection e with _ e2 _; omega
            · injection e with e2 _ _; exact ⟨g, e2⟩
          have hfl : o1.f.len ≤ 1048576 := by have := hL.kids o1 (by simp); omega
          have hfl2 : o2.f.len ≤ 1048576 := by have := hL.kids o2 (by simp); omega
          have HLI := Lib.hid (hL.close (st' := st1 ++ [⟨o1.s, o1.a, o1.f.snoc true 1 o2.s o2.a o2.f⟩]) hlt' (by rw [← HT.out]) hDp (by simp; omega) (fun o2' ho2 => by
            have k1 := hL.kids o1 (by simp)
            rcases List.mem_append.1 ho2 with h | h
            · have := hL.kids o2' (by simp [h]); omega
            · simp at h; rw [h]; show (o1.f.snoc true 1 o2.s o2.a o2.f).len ≤ _; rw [Fo.len_snoc]; omega) (fun _ => ⟨st1, o1, o2, rfl, rfl⟩))
          have HM := Lib.hid (And.intro hS' (And.intro hB hBl))
          have HX := Lib.hid (And.intro hxs (And.intro hlv' (And.intro hys (And.intro hrw (And.intro htg (And.intro y4 (And.intro hc2 hfo2)))))))
          have HT2 := Lib.hid (And.intro t0' (And.intro t1' (And.intro t2' (And.intro t3' t4'))))
          have HGO := Lib.hid (And.intro hgo (And.intro e3 hL0))
          have l1 : (N0 : Int) - 1 = ((L0 + 1 : Nat) : Int) := by omega
          have l1' : ((L0 + 1 : Nat) : Int) - 1 = (L0 : Int) := by omega
          obtain ⟨L1, hL1⟩ : ∃ L1, L1 = L0 + 1 := ⟨_, rfl⟩
          rw [← hL1] at l1 l1'
          have l2 : (L0 : Int) < (N0 : Int) := by omega
          have l3 : (0 : Int) ≤ (L0 : Int) := by omega
          have l4 : (L0 : Int) ≤ 200 := by omega
          have l6 : (N0 : Int) ≤ 201 := by omega
          have l21 : (L1 : Int) < (N0 : Int) := by omega
          have l31 : (0 : Int) ≤ (L1 : Int) := by omega
          have l41 : (L1 : Int) ≤ 200 := by omega
          have l51 : L1 ≤ N0 := by omega
          have lw0 : IntKind.i64.wrap (L0 : Int) = (L0 : Int) := IntWalk.i64_in _ (by omega)
          have lw1 : IntKind.i64.wrap (L1 : Int) = (L1 : Int) := IntWalk.i64_in _ (by omega)
          have l7 : (o1.f.len : Int) < ((o1.f.len + 1 : Nat) : Int) := by omega
          have l8 : (0 : Int) ≤ (o1.f.len : Int) := by omega
          have l9 : (o1.f.len : Int) < (o1.f.len : Int) + 1 := by omega
          have HL1 := Lib.hid (And.intro hL1 (And.intro hNN hD0'))
          clear hL hS hB hBl hxs hlv hS' hlv' hys hrw htg y0 y1 y2 y3 y4 t0' t1' t2' t3' t4' hgo hlenS e3 hL0 hK' hc2 hfo2 hsl hNN hL1
          go_wp2_with fail
          refine wp_region_L [(1000, (fun _ => True : World → Prop))] (by kernel_rfl) (SL.cons (fun _ => trivial) SL.nil) (fun hHeld => ?_)
          have hd5 : Below wA.heap.size wA wA.drew := below_drew wA
          generalize wA.drew = w5 at *
          have HD5 := Lib.hid hd5
          clear hd5
          refine wpAnyL_ready (rs := [0]) (by kernel_rfl) (by simp) ?_
          refine AllReadyL.cons (o := { dst := some 85, op := Op.alloc 4, type := 0, pos := "tree.go:46", after := #[], guard := none }) rfl (fun K hK => ?_) AllReadyL.nil
          go_simp
          refine hK.out _ _ (SL.cons (fun _ => trivial) SL.nil) (fun hHeld => ?_)
          clear hK K
          try simp only [Act.put, List.setIfInBounds_toArray, List.set_cons_zero, List.set_cons_succ]
          refine wpAnyL_ready (rs := [1, 2]) (by kernel_rfl) (by simp) ?_
          refine AllReadyL.cons (o := { dst := none, op := Op.store 4 (Operand.tmp 85) (Operand.const (Value.bool true)), type := 0, pos := "tree.go:46", after := #[{ on := 0, ground := Ground.data }], guard := none }) rfl (fun K hK => ?_) (AllReadyL.cons (o := { dst := none, op := Op.store 4 (Operand.tmp 85) (Operand.const (Value.bool false)), type := 0, pos := "tree.go:46", after := #[{ on := 0, ground := Ground.data }, { on := 1, ground := Ground.textOnly Departure.appendInPlace }, { on := 1, ground := Ground.gcOnly Departure.appendInPlace }], guard := none }) rfl (fun K hK => ?_) AllReadyL.nil)
          · go_simp
            refine hK.out _ _ (SL.cons (fun _ => trivial) SL.nil) (fun hHeld => ?_)
            clear hK K
            try simp only [Act.put, List.setIfInBounds_toArray, List.set_cons_zero, List.set_cons_succ]
            refine wpAnyL_ready (rs := [2]) (by kernel_rfl) (by simp) ?_
            refine AllReadyL.cons (o := { dst := none, op := Op.store 4 (Operand.tmp 85) (Operand.const (Value.bool false)), type := 0, pos := "tree.go:46", after := #[{ on := 0, ground := Ground.data }, { on := 1, ground := Ground.textOnly Departure.appendInPlace }, { on := 1, ground := Ground.gcOnly Departure.appendInPlace }], guard := none }) rfl (fun K hK => ?_) AllReadyL.nil
            go_simp
            refine hK.out _ _ (SL.cons (fun _ => trivial) SL.nil) (fun hHeld => ?_)
            clear hK K
            try simp only [Act.put, List.setIfInBounds_toArray, List.set_cons_zero, List.set_cons_succ]
            refine wpAnyL_ready (rs := [3]) (by kernel_rfl) (by simp) ?_
            refine AllReadyL.cons (o := { dst := some 86, op := Op.load 4 (Operand.tmp 85), type := 4, pos := "tree.go:46", after := #[{ on := 0, ground := Ground.data }, { on := 0, ground := Ground.phase }, { on := 1, ground := Ground.phase }, { on := 2, ground := Ground.phase }], guard := none }) rfl (fun K hK => ?_) AllReadyL.nil
            go_simp
            refine hK.out _ _ (SL.cons (fun _ => trivial) SL.nil) (fun hHeld => ?_)
            clear hK K
            try simp only [Act.put, List.setIfInBounds_toArray, List.set_cons_zero, List.set_cons_succ]
            refine wpAnyL_done (by kernel_rfl) ?_ _
            have hdB : Below wA.heap.size wA (w5.alloc (.cells #[.bool false] 4)).drew := (HD5.out.trans ((below1 w5 _).mono HD5.out.size)).drew
            generalize w5.alloc (.cells #[.bool false] 4) = wB at *
            have x34 := cell_later hdB (own_cell5 HX.out.1 _ _ HX.out.2.2.2.2.2.1).1
            have xl := And.intro (cell_later hdB (own_cell5 HX.out.1 _ _ HT2.out.1).1) (And.intro (cell_later hdB (own_cell5 HX.out.1 _ _ HT2.out.2.1).1) (And.intro (cell_later hdB (own_cell5 HX.out.1 _ _ HT2.out.2.2.1).1) (And.intro (cell_later hdB (own_cell5 HX.out.1 _ _ HT2.out.2.2.2.1).1) (cell_later hdB (own_cell5 HX.out.1 _ _ HT2.out.2.2.2.2).1))))
            rw [← HL1.out.1] at xl
            have H2 := Lib.hid hdB
            clear hdB
            go_wp2_with fail
            refine wp_region_L [(1000, (fun _ => True : World → Prop)), (14, (fun w => w.cell? ⟨g7, L0 * 5 + 4, none⟩ = some (.slice q o1.f.len cq) : World → Prop)), (13, (fun w => w.cell? ⟨g7, L1 * 5, none⟩ = some (.bool true) ∧ w.cell? ⟨g7, L1 * 5 + 1, none⟩ = some (.int .u8 1) ∧ w.cell? ⟨g7, L1 * 5 + 2, none⟩ = some (.string o2.s) ∧ w.cell? ⟨g7, L1 * 5 + 3, none⟩ = some (.int .i64 o2.a) ∧ w.cell? ⟨g7, L1 * 5 + 4, none⟩ = some (.slice q2 o2.f.len c2) : World → Prop))] (by kernel_rfl) (SL.cons (fun _ => trivial) (SL.cons (fun _ => x34) (SL.cons (fun _ => xl) SL.nil))) (fun hHeld => ?_)
            have H2' := Lib.hid H2.out
            clear H2
            generalize wB.drew = w2 at *
            refine wpAnyL_take 0 _ _ (i := 0) (oi := { dst := some 106, op := Op.move (Operand.tmp 7), type := 39, pos := "tree.go:46", after := #[], guard := none }) (v := ?_) rfl (by kernel_rfl) (by kernel_rfl) (by kernel_rfl) (fun _ _ _ h => h) rfl (by kernel_rfl) (by kernel_rfl) (by kernel_rfl) (Or.inl ⟨by rfl, ?_⟩) hHeld (fun hHeld => ?_)
            rotate_left
            · intro w hSw
              (try dsimp only at hSw)
              go_simp
              try with_reducible rfl
            try simp only [Act.put, List.setIfInBounds_toArray, List.set_cons_zero, List.set_cons_succ]
            refine wpAnyL_take 0 _ _ (i := 1) (oi := { dst := some 107, op := Op.move (Operand.tmp 11), type := 3, pos := "tree.go:46", after := #[], guard := none }) (v := ?_) rfl (by kernel_rfl) (by kernel_rfl) (by kernel_rfl) (fun _ _ _ h => h) rfl (by kernel_rfl) (by kernel_rfl) (by kernel_rfl) (Or.inl ⟨by rfl, ?_⟩) hHeld (fun hHeld => ?_)
            rotate_left
            · intro w hSw
              (try dsimp only at hSw)
              go_simp
              try with_reducible rfl
            try simp only [Act.put, List.setIfInBounds_toArray, List.set_cons_zero, List.set_cons_succ]
            refine wpAnyL_take 0 _ _ (i := 2) (oi := { dst := some 108, op := Op.binOp BinOp.sub 3 (Operand.tmp 107) (Operand.const (Value.int IntKind.i64 1)) 3, type := 3, pos := "tree.go:46", after := #[{ on := 1, ground := Ground.data }], guard := none }) (v := ?_) rfl (by kernel_rfl) (by kernel_rfl) (by kernel_rfl) (fun _ _ _ h => h) rfl (by kernel_rfl) (by kernel_rfl) (by kernel_rfl) (Or.inl ⟨by rfl, ?_⟩) hHeld (fun hHeld => ?_)
            rotate_left
            · intro w hSw
              (try dsimp only at hSw)
              go_simp
              try with_reducible rfl
            try simp only [Act.put, List.setIfInBounds_toArray, List.set_cons_zero, List.set_cons_succ]
            refine wpAnyL_take 0 _ _ (i := 3) (oi := { dst := some 109, op := Op.move (Operand.tmp 7), type := 39, pos := "tree.go:46", after := #[], guard := none }) (v := ?_) rfl (by kernel_rfl) (by kernel_rfl) (by kernel_rfl) (fun _ _ _ h => h) rfl (by kernel_rfl) (by kernel_rfl) (by kernel_rfl) (Or.inl ⟨by rfl, ?_⟩) hHeld (fun hHeld => ?_)
            rotate_left
            · intro w hSw
              (try dsimp only at hSw)
              go_simp
              try with_reducible rfl
            try simp only [Act.put, List.setIfInBounds_toArray, List.set_cons_zero, List.set_cons_succ]
            refine wpAnyL_take 0 _ _ (i := 4) (oi := { dst := some 110, op := Op.move (Operand.tmp 11), type := 3, pos := "tree.go:46", after := #[], guard := none }) (v := ?_) rfl (by kernel_rfl) (by kernel_rfl) (by kernel_rfl) (fun _ _ _ h => h) rfl (by kernel_rfl) (by kernel_rfl) (by kernel_rfl) (Or.inl ⟨by rfl, ?_⟩) hHeld (fun hHeld => ?_)
            rotate_left
            · intro w hSw
              (try dsimp only at hSw)
              go_simp
              try with_reducible rfl
            try simp only [Act.put, List.setIfInBounds_toArray, List.set_cons_zero, List.set_cons_succ]
            refine wpAnyL_take 0 _ _ (i := 5) (oi := { dst := some 111, op := Op.binOp BinOp.sub 3 (Operand.tmp 110) (Operand.const (Value.int IntKind.i64 1)) 3, type := 3, pos := "tree.go:46", after := #[{ on := 4, ground := Ground.data }], guard := none }) (v := ?_) rfl (by kernel_rfl) (by kernel_rfl) (by kernel_rfl) (fun _ _ _ h => h) rfl (by kernel_rfl) (by kernel_rfl) (by kernel_rfl) (Or.inl ⟨by rfl, ?_⟩) hHeld (fun hHeld => ?_)
            rotate_left
            · intro w hSw
              (try dsimp only at hSw)
              go_simp
              try with_reducible rfl
            try simp only [Act.put, List.setIfInBounds_toArray, List.set_cons_zero, List.set_cons_succ]
            refine wpAnyL_take 0 _ _ (i := 6) (oi := { dst := some 112, op := Op.indexAddr 39 (Operand.tmp 109) (Operand.tmp 111), type := 0, pos := "tree.go:46", after := #[{ on := 3, ground := Ground.data }, { on := 5, ground := Ground.data }], guard := none }) (v := ?_) rfl (by kernel_rfl) (by kernel_rfl) (by kernel_rfl) (fun _ _ _ h => h) rfl (by kernel_rfl) (by kernel_rfl) (by kernel_rfl) (Or.inl ⟨by rfl, ?_⟩) hHeld (fun hHeld => ?_)
            rotate_left
            · intro w hSw
              (try dsimp only at hSw)
              go_simp
              try with_reducible rfl
            try simp only [Act.put, List.setIfInBounds_toArray, List.set_cons_zero, List.set_cons_succ]
            refine wpAnyL_take 0 _ _ (i := 7) (oi := { dst := some 113, op := Op.fieldAddr 41 (Operand.tmp 112) 2, type := 0, pos := "tree.go:46", after := #[{ on := 6, ground := Ground.data }], guard := none }) (v := ?_) rfl (by kernel_rfl) (by kernel_rfl) (by kernel_rfl) (fun _ _ _ h => h) rfl (by kernel_rfl) (by kernel_rfl) (by kernel_rfl) (Or.inl ⟨by rfl, ?_⟩) hHeld (fun hHeld => ?_)
            rotate_left
            · intro w hSw
              (try dsimp only at hSw)
              go_simp
              try with_reducible rfl
            try simp only [Act.put, List.setIfInBounds_toArray, List.set_cons_zero, List.set_cons_succ]
            refine wpAnyL_take 1 _ _ (i := 8) (oi := { dst := some 114, op := Op.load 39 (Operand.tmp 113), type := 39, pos := "tree.go:46", after := #[{ on := 7, ground := Ground.data }], guard := none }) (v := ?_) rfl (by kernel_rfl) (by kernel_rfl) (by kernel_rfl) (fun _ _ _ h => h) rfl (by kernel_rfl) (by kernel_rfl) (by kernel_rfl) (Or.inl ⟨by rfl, ?_⟩) hHeld (fun hHeld => ?_)
            rotate_left
            · intro w hSw
              (try dsimp only at hSw)
              go_simp
              try with_reducible rfl
            try simp only [Act.put, List.setIfInBounds_toArray, List.set_cons_zero, List.set_cons_succ]
            refine wpAnyL_take 0 _ _ (i := 9) (oi := { dst := some 115, op := Op.move (Operand.tmp 7), type := 39, pos := "tree.go:46", after := #[], guard := none }) (v := ?_) rfl (by kernel_rfl) (by kernel_rfl) (by kernel_rfl) (fun _ _ _ h => h) rfl (by kernel_rfl) (by kernel_rfl) (by kernel_rfl) (Or.inl ⟨by rfl, ?_⟩) hHeld (fun hHeld => ?_)
            rotate_left
            · intro w hSw
              (try dsimp only at hSw)
              go_simp
              try with_reducible rfl
            try simp only [Act.put, List.setIfInBounds_toArray, List.set_cons_zero, List.set_cons_succ]
            refine wpAnyL_take 0 _ _ (i := 10) (oi := { dst := some 116, op := Op.move (Operand.tmp 11), type := 3, pos := "tree.go:46", after := #[], guard := none }) (v := ?_) rfl (by kernel_rfl) (by kernel_rfl) (by kernel_rfl) (fun _ _ _ h => h) rfl (by kernel_rfl) (by kernel_rfl) (by kernel_rfl) (Or.inl ⟨by rfl, ?_⟩) hHeld (fun hHeld => ?_)
            rotate_left
            · intro w hSw
              (try dsimp only at hSw)
              go_simp
              try with_reducible rfl
            try simp only [Act.put, List.setIfInBounds_toArray, List.set_cons_zero, List.set_cons_succ]
            refine wpAnyL_take 0 _ _ (i := 11) (oi := { dst := some 117, op := Op.indexAddr 39 (Operand.tmp 115) (Operand.tmp 116), type := 0, pos := "tree.go:46", after := #[{ on := 9, ground := Ground.data }, { on := 10, ground := Ground.data }], guard := none }) (v := ?_) rfl (by kernel_rfl) (by kernel_rfl) (by kernel_rfl) (fun _ _ _ h => h) rfl (by kernel_rfl) (by kernel_rfl) (by kernel_rfl) (Or.inl ⟨by rfl, ?_⟩) hHeld (fun hHeld => ?_)
            rotate_left
            · intro w hSw
              (try dsimp only at hSw)
              go_simp
              try with_reducible rfl
            try simp only [Act.put, List.setIfInBounds_toArray, List.set_cons_zero, List.set_cons_succ]
            refine wpAnyL_take 2 _ _ (i := 12) (oi := { dst := some 118, op := Op.load 41 (Operand.tmp 117), type := 41, pos := "tree.go:46", after := #[{ on := 11, ground := Ground.data }], guard := none }) (v := ?_) rfl (by kernel_rfl) (by kernel_rfl) (by kernel_rfl) (fun _ _ _ h => h) rfl (by kernel_rfl) (by kernel_rfl) (by kernel_rfl) (Or.inl ⟨by rfl, ?_⟩) hHeld (fun hHeld => ?_)
            rotate_left
            · intro w hSw
              (try dsimp only at hSw)
              go_simp
              try with_reducible rfl
            try simp only [Act.put, List.setIfInBounds_toArray, List.set_cons_zero, List.set_cons_succ]
            refine wpAnyL_ready (rs := [13]) (by kernel_rfl) (by simp) ?_
            refine AllReadyL.cons (o := { dst := some 119, op := Op.buildSlice 39 1 #[(0, Operand.tmp 118)], type := 39, pos := "tree.go:46", after := #[{ on := 12, ground := Ground.data }], guard := none }) rfl (fun K0 hK => ?_) AllReadyL.nil
            go_simp
            refine hK.out _ _ (SL.cons (fun _ => trivial) (SL.cons (fun _ => cell_later (below1 w2 _) x34) (SL.cons (fun h => absurd h (by decide +kernel)) SL.nil))) (fun hHeld => ?_)
            clear hK K0
            try simp only [Act.put, List.setIfInBounds_toArray, List.set_cons_zero, List.set_cons_succ]
            have hb4 := H2'.out.trans ((below1 w2 (.cells #[.bool true, .int .u8 1, .string o2.s, .int .i64 o2.a, .slice q2 o2.f.len c2] 41)).mono H2'.out.size)
            have hnb := box_new w2 true 1 o2.s o2.a (.slice q2 o2.f.len c2)
            obtain ⟨zb, hzb⟩ : ∃ zb, zb = w2.heap.size := ⟨_, rfl⟩
            rw [← hzb] at hnb ⊢
            generalize w2.alloc (.cells #[.bool true, .int .u8 1, .string o2.s, .int .i64 o2.a, .slice q2 o2.f.len c2] 41) = w4 at *
            have hS4 := HM.out.1.later hb4
            have hB4 := HM.out.2.1.later hb4
            have hBl4 := HM.out.2.2.trans (hb4.mono HM.out.2.2.size)
            have hxs4 := own_later HX.out.1 hb4
            have hlv4 : ∀ j (h : j < (st1 ++ [o1]).length), LvAt w4 K' (W.heap.size + 1) xs j (st1 ++ [o1])[j] := fun j hj => (HX.out.2.1 j hj).move (Only.of_below hb4) (fun _ _ h => h) (fun _ _ h => h) (fun _ _ h => h) (fun _ _ => rfl)
            have hys4 := own_later HX.out.2.2.1 hb4
            have hrw4 := HX.out.2.2.2.1.later hb4
            have hfo4 := HX.out.2.2.2.2.2.2.2.later hb4
            have H4 := Lib.hid (And.intro hS4 (And.intro hB4 (And.intro hBl4 (And.intro hxs4 (And.intro hlv4 (And.intro hys4 (And.intro hrw4 hfo4)))))))
            have hlo4 := hS4.lo
            clear hHeld hb4 hS4 hB4 hBl4 hxs4 hlv4 hrw4 hfo4
            refine wpAnyL_ready (rs := [14]) (by kernel_rfl) (by simp) ?_
            refine AllReadyL.cons (o := { dst := some 120, op := Op.call { callee := Callee.builtin Builtin.append, args := #[Operand.tmp 114, Operand.tmp 119], argTypes := #[39, 39] }, type := 39, pos := "tree.go:46", after := #[{ on := 8, ground := Ground.data }, { on := 13, ground := Ground.data }], guard := none }) rfl (fun K0 hK => ?_) AllReadyL.nil
            rw [if_pos (by rfl)]
            refine wp_append_own_at _ _ 39 (by rfl) (W.heap.size + 1) 41 i0 Z41 5 64 Tryd.underlying39 hi hz0 hz1 hz2 rfl (by omega) _ o1.f.len ys (by rfl) hys4 ⟨zb, 0, none⟩ 1 1 (trC true 1 o2.s o2.a q2 o2.f.len c2) (by rfl) (by rfl) ?_ ?_ ?_ ?_ ?_ ?_
            · intro jj u hjj
              rw [Lib.add_plain]
              match jj, hjj with
              | 0, hjj => cases hjj; exact hnb.c0
              | 1, hjj => cases hjj; exact hnb.c1
              | 2, hjj => cases hjj; exact hnb.c2
              | 3, hjj => cases hjj; exact hnb.c3
              | 4, hjj => cases hjj; exact hnb.c4
            · intro u hu; simp [trC] at hu; rcases hu with rfl | rfl | rfl | rfl | rfl <;> rfl
            · have hml : maxLen = 9223372036854775807 := rfl; omega
            · omega
            · exact hlo4
            intro v8 w8 hown hgrow hnil_ hloc
            obtain ⟨p8, c8, hv, hA_⟩ := own_shape hown
            subst hv
            obtain ⟨g8, rfl⟩ : ∃ g8, p8 = some ⟨g8, 0, none⟩ := by
              rcases hown.2 with ⟨e, _⟩ | ⟨g, _, _, e, _⟩
              · injection e with _ e2 _; omega
              · injection e with e2 _ _; exact ⟨g, e2⟩
            have hg8 := Only.of_grown hgrow
            have hk7 : K' g7 = 1 := HM.out.1.tag g7 rfl
            have hne7 : ∀ z, (Value.slice q o1.f.len cq).ownBlock = some z → z ≠ g7 := fun z hz e => by have := HX.out.2.2.2.2.1 z hz; rw [e, hk7] at this; omega
            have hxs8 := own_only H4.out.2.2.2.1 hg8 (fun z hz e => by injection hz with hz; exact hne7 z e hz.symm)
            have hne : g8 ≠ g7 := fun e => by
              rcases hloc with h | h
              · exact hne7 g8 h.symm e
              · have h9 : g8 = w4.heap.size := by injection h
                have := (own_lt H4.out.2.2.2.1 (k := g7) rfl).2; omega
            have hyl : ys.length = o1.f.len * 5 := HX.out.2.2.1.1
            obtain ⟨x17, f17⟩ := own_cell5 hxs8 (L0 * 5 + 4) _ HX.out.2.2.2.2.2.1
            have HW8 := Lib.hid (And.intro hown (And.intro hxs8 (And.intro hg8 (And.intro hloc (And.intro hne hyl)))))
            clear hown hgrow hnil_ hloc hA_ hg8 hxs8 hnb hys4 hne7 hk7 hyl
            refine hK.out _ _ (SL.cons (fun _ => trivial) (SL.cons (fun h => absurd h (by decide +kernel)) (SL.cons (fun h => absurd h (by decide +kernel)) SL.nil))) (fun hHeld => ?_)
            clear hK K0
            try simp only [Act.put, List.setIfInBounds_toArray, List.set_cons_zero, List.set_cons_succ]
            refine wpAnyL_take 0 _ _ (i := 15) (oi := { dst := some 121, op := Op.indexAddr 39 (Operand.tmp 106) (Operand.tmp 108), type := 0, pos := "tree.go:46", after := #[{ on := 0, ground := Ground.data }, { on := 2, ground := Ground.data }, { on := 0, ground := Ground.phase }, { on := 1, ground := Ground.phase }, { on := 2, ground := Ground.phase }, { on := 3, ground := Ground.phase }, { on := 4, ground := Ground.phase }, { on := 5, ground := Ground.phase }, { on := 6, ground := Ground.phase }, { on := 7, ground := Ground.phase }, { on := 8, ground := Ground.phase }, { on := 9, ground := Ground.phase }, { on := 10, ground := Ground.phase }, { on := 11, ground := Ground.phase }, { on := 12, ground := Ground.phase }, { on := 13, ground := Ground.phase }, { on := 14, ground := Ground.phase }], guard := none }) (v := ?_) rfl (by kernel_rfl) (by kernel_rfl) (by kernel_rfl) (fun _ _ _ h => h) rfl (by kernel_rfl) (by kernel_rfl) (by kernel_rfl) (Or.inl ⟨by rfl, ?_⟩) hHeld (fun hHeld => ?_)
            rotate_left
            · intro w hSw
              (try dsimp only at hSw)
              go_simp
              try with_reducible rfl
            try simp only [Act.put, List.setIfInBounds_toArray, List.set_cons_zero, List.set_cons_succ]
            refine wpAnyL_take 0 _ _ (i := 16) (oi := { dst := some 122, op := Op.fieldAddr 41 (Operand.tmp 121) 2, type := 0, pos := "tree.go:46", after := #[{ on := 15, ground := Ground.data }, { on := 0, ground := Ground.phase }, { on := 1, ground := Ground.phase }, { on := 2, ground := Ground.phase }, { on := 3, ground := Ground.phase }, { on := 4, ground := Ground.phase }, { on := 5, ground := Ground.phase }, { on := 6, ground := Ground.phase }, { on := 7, ground := Ground.phase }, { on := 8, ground := Ground.phase }, { on := 9, ground := Ground.phase }, { on := 10, ground := Ground.phase }, { on := 11, ground := Ground.phase }, { on := 12, ground := Ground.phase }, { on := 13, ground := Ground.phase }, { on := 14, ground := Ground.phase }], guard := none }) (v := ?_) rfl (by kernel_rfl) (by kernel_rfl) (by kernel_rfl) (fun _ _ _ h => h) rfl (by kernel_rfl) (by kernel_rfl) (by kernel_rfl) (Or.inl ⟨by rfl, ?_⟩) hHeld (fun hHeld => ?_)
            rotate_left
            · intro w hSw
              (try dsimp only at hSw)
              go_simp
              try with_reducible rfl
            try simp only [Act.put, List.setIfInBounds_toArray, List.set_cons_zero, List.set_cons_succ]
            refine wpAnyL_ready (rs := [17]) (by kernel_rfl) (by simp) ?_
            refine AllReadyL.cons (o := { dst := none, op := Op.store 39 (Operand.tmp 122) (Operand.tmp 120), type := 0, pos := "tree.go:46", after := #[{ on := 16, ground := Ground.data }, { on := 14, ground := Ground.data }, { on := 14, ground := Ground.chain }, { on := 0, ground := Ground.phase }, { on := 1, ground := Ground.phase }, { on := 2, ground := Ground.phase }, { on := 3, ground := Ground.phase }, { on := 4, ground := Ground.phase }, { on := 5, ground := Ground.phase }, { on := 6, ground := Ground.phase }, { on := 7, ground := Ground.phase }, { on := 8, ground := Ground.phase }, { on := 9, ground := Ground.phase }, { on := 10, ground := Ground.phase }, { on := 11, ground := Ground.phase }, { on := 12, ground := Ground.phase }, { on := 13, ground := Ground.phase }, { on := 14, ground := Ground.phase }], guard := none }) rfl (fun K0 hK => ?_) AllReadyL.nil
            go_simp
            refine hK.out _ _ (SL.cons (fun _ => trivial) (SL.cons (fun h => absurd h (by decide +kernel)) (SL.cons (fun h => absurd h (by decide +kernel)) SL.nil))) (fun hHeld => ?_)
            clear hK K0
            try simp only [Act.put, List.setIfInBounds_toArray, List.set_cons_zero, List.set_cons_succ]
            clear hHeld
            refine wpAnyL_done (by kernel_rfl) ?_ _
            have hsl39 := fun w => slice_cut39 w g7 N0 cv L1 (by have := HL1.out.1; omega) l51 (own_cap HX.out.1)
            have HZ := Lib.hid (show (w8.setCell ⟨g7, L0 * 5 + 4, none⟩ (.slice (some ⟨g8, 0, none⟩) (o1.f.len + 1) c8)).ownsRow (W.heap.size + 1) 41 5 (.slice (some ⟨g8, 0, none⟩) (o1.f.len + 1) c8) (o1.f.len + 1) _ ∧ (w8.setCell ⟨g7, L0 * 5 + 4, none⟩ (.slice (some ⟨g8, 0, none⟩) (o1.f.len + 1) c8)).ownsRow (W.heap.size + 1) 41 5 (.slice (some ⟨g7, 0, none⟩) N0 cv) N0 _ ∧ Only (fun z => z = g8 ∨ z = g7) w8 (w8.setCell ⟨g7, L0 * 5 + 4, none⟩ (.slice (some ⟨g8, 0, none⟩) (o1.f.len + 1) c8)) from ⟨own_only HW8.out.1 (Only.of_setCell w8 ⟨g7, L0 * 5 + 4, none⟩ _) (fun z hz e => by injection hz with hz; exact HW8.out.2.2.2.2.1 (hz.trans e)), own_setN HW8.out.2.1 (L0 * 5 + 4) _, (Only.of_setCell w8 ⟨g7, L0 * 5 + 4, none⟩ _).mono (fun z _ e => Or.inr e)⟩)
            obtain ⟨wZ, hwZ⟩ : ∃ wZ, wZ = (w8.setCell ⟨g7, L0 * 5 + 4, none⟩ (.slice (some ⟨g8, 0, none⟩) (o1.f.len + 1) c8)) := ⟨_, rfl⟩
            rw [← hwZ] at HZ
            rw [← hwZ]
            have hoZ : Only (fun z => (Value.slice q o1.f.len cq).ownBlock = some z ∨ (Value.slice (some ⟨g8, 0, none⟩) (o1.f.len + 1) c8).ownBlock = some z ∨ z = g7) w4 wZ := (HW8.out.2.2.1.mono (fun z _ h => Or.inl h)).trans (HZ.out.2.2.mono (fun z _ h => h.elim (fun e => Or.inr (Or.inl (by rw [e]; rfl))) (fun e => Or.inr (Or.inr e))))
            have hbd : ∀ z, ((Value.slice q o1.f.len cq).ownBlock = some z ∨ (Value.slice (some ⟨g8, 0, none⟩) (o1.f.len + 1) c8).ownBlock = some z ∨ z = g7) → W.heap.size + 1 ≤ z := fun z h => by
              rcases h with h | h | h
              · exact (own_lt H4.out.2.2.2.2.2.1 h).1
              · exact (own_lt HW8.out.1 h).1
              · rw [h]; exact (own_lt H4.out.2.2.2.1 (k := g7) rfl).1
            obtain ⟨KZ, hSZ⟩ : ∃ KZ, StAt wZ KZ _ _ _ _ := ⟨_, StAt.grow (l := true) (k := 1) (s := o2.s) (a := o2.a) (x := o2.f) (qx := q2) (cx := c2) H4.out.1 (j := L0) (by have := HGO.out.2.1; omega) (HGO.out.1 _) H4.out.2.2.2.1 H4.out.2.2.2.2.1 H4.out.2.2.2.2.2.2.1 HX.out.2.2.2.2.1 H4.out.2.2.2.2.2.2.2 HX.out.2.2.2.2.2.2.1 (by omega) HW8.out.2.2.2.1 HZ.out.1 HZ.out.2.1 hoZ⟩
            have hset : (st1 ++ [o1]).set L0 ⟨o1.s, o1.a, o1.f.snoc true 1 o2.s o2.a o2.f⟩ = st1 ++ [⟨o1.s, o1.a, o1.f.snoc true 1 o2.s o2.a o2.f⟩] := by rw [HGO.out.2.2]; simp
            rw [hset] at hSZ
            have hlZ : (st1 ++ [(⟨o1.s, o1.a, o1.f.snoc true 1 o2.s o2.a o2.f⟩ : Op)]).length = L1 := by have := HGO.out.2.2; have := HL1.out.1; simp; omega
            have hSC := hSZ.cut l51 (Nat.le_of_eq hlZ)
            have HEZ := Lib.hid (And.intro hSC (And.intro (H4.out.2.1.only hoZ (fun h => by have := hbd _ h; omega)) (H4.out.2.2.1.trans (hoZ.below (B := W.heap.size) (fun z h => by have := hbd _ h; omega) H4.out.2.2.1.size))))
            have HLZ := Lib.hid hlZ
            clear hSZ hoZ hbd hset hlZ hSC
            clear hwZ
            go_wp2_with fail
            go_roundg G
            case measure => omega
            case rel =>
              refine ⟨i + 1, D, m, st1 ++ [⟨o1.s, o1.a, o1.f.snoc true 1 o2.s o2.a o2.f⟩], KZ, some ⟨g7, 0, none⟩, cv, by have := HG.out; omega, by first | rfl | go_num | (congr 1; omega), rfl, by go_num, by rw [HLZ.out], Lib.hid ⟨HLI.out, ?_, HEZ.out.2.1, HEZ.out.2.2⟩⟩
              rw [HLZ.out]; exact HEZ.out.1
          · go_simp
            refine hK.out _ _ (SL.cons (fun _ => trivial) SL.nil) (fun hHeld => ?_)
            clear hK K
            try simp only [Act.put, List.setIfInBounds_toArray, List.set_cons_zero, List.set_cons_succ]
            refine wpAnyL_ready (rs := [1]) (by kernel_rfl) (by simp) ?_
            refine AllReadyL.cons (o := { dst := none, op := Op.store 4 (Operand.tmp 85) (Operand.const (Value.bool true)), type := 0, pos := "tree.go:46", after := #[{ on := 0, ground := Ground.data }], guard := none }) rfl (fun K hK => ?_) AllReadyL.nil
            go_simp
            refine hK.out _ _ (SL.cons (fun _ => trivial) SL.nil) (fun hHeld => ?_)
            clear hK K
            try simp only [Act.put, List.setIfInBounds_toArray, List.set_cons_zero, List.set_cons_succ]
            refine wpAnyL_ready (rs := [3]) (by kernel_rfl) (by simp) ?_
            refine AllReadyL.cons (o := { dst := some 86, op := Op.load 4 (Operand.tmp 85), type := 4, pos := "tree.go:46", after := #[{ on := 0, ground := Ground.data }, { on := 0, ground := Ground.phase }, { on := 1, ground := Ground.phase }, { on := 2, ground := Ground.phase }], guard := none }) rfl (fun K hK => ?_) AllReadyL.nil
            go_simp
            refine hK.out _ _ (SL.cons (fun _ => trivial) SL.nil) (fun hHeld => ?_)
            clear hK K
            try simp only [Act.put, List.setIfInBounds_toArray, List.set_cons_zero, List.set_cons_succ]
            refine wpAnyL_done (by kernel_rfl) ?_ _
            have hdB : Below wA.heap.size wA (w5.alloc (.cells #[.bool true] 4)).drew := (HD5.out.trans ((below1 w5 _).mono HD5.out.size)).drew
            generalize w5.alloc (.cells #[.bool true] 4) = wB at *
            have x34 := cell_later hdB (own_cell5 HX.out.1 _ _ HX.out.2.2.2.2.2.1).1
            have xl := And.intro (cell_later hdB (own_cell5 HX.out.1 _ _ HT2.out.1).1) (And.intro (cell_later hdB (own_cell5 HX.out.1 _ _ HT2.out.2.1).1) (And.intro (cell_later hdB (own_cell5 HX.out.1 _ _ HT2.out.2.2.1).1) (And.intro (cell_later hdB (own_cell5 HX.out.1 _ _ HT2.out.2.2.2.1).1) (cell_later hdB (own_cell5 HX.out.1 _ _ HT2.out.2.2.2.2).1))))
            rw [← HL1.out.1] at xl
            have H2 := Lib.hid hdB
            clear hdB
            go_wp2_with fail
            refine wp_region_L [(1000, (fun _ => True : World → Prop)), (15, (fun w => w.cell? ⟨g7, L0 * 5 + 4, none⟩ = some (.slice q o1.f.len cq) : World → Prop)), (15, (fun w => w.cell? ⟨g7, L1 * 5, none⟩ = some (.bool true) ∧ w.cell? ⟨g7, L1 * 5 + 1, none⟩ = some (.int .u8 1) ∧ w.cell? ⟨g7, L1 * 5 + 2, none⟩ = some (.string o2.s) ∧ w.cell? ⟨g7, L1 * 5 + 3, none⟩ = some (.int .i64 o2.a) ∧ w.cell? ⟨g7, L1 * 5 + 4, none⟩ = some (.slice q2 o2.f.len c2) : World → Prop))] (by kernel_rfl) (SL.cons (fun _ => trivial) (SL.cons (fun _ => x34) (SL.cons (fun _ => xl) SL.nil))) (fun hHeld => ?_)
            have H2' := Lib.hid H2.out
            clear H2
            generalize wB.drew = w2 at *
            refine wpAnyL_take 0 _ _ (i := 0) (oi := { dst := some 87, op := Op.move (Operand.tmp 7), type := 39, pos := "tree.go:46", after := #[], guard := none }) (v := ?_) rfl (by kernel_rfl) (by kernel_rfl) (by kernel_rfl) (fun _ _ _ h => h) rfl (by kernel_rfl) (by kernel_rfl) (by kernel_rfl) (Or.inl ⟨by rfl, ?_⟩) hHeld (fun hHeld => ?_)
            rotate_left
            · intro w hSw
              (try dsimp only at hSw)
              go_simp
              try with_reducible rfl
            try simp only [Act.put, List.setIfInBounds_toArray, List.set_cons_zero, List.set_cons_succ]
            refine wpAnyL_take 0 _ _ (i := 1) (oi := { dst := some 88, op := Op.move (Operand.tmp 11), type := 3, pos := "tree.go:46", after := #[], guard := none }) (v := ?_) rfl (by kernel_rfl) (by kernel_rfl) (by kernel_rfl) (fun _ _ _ h => h) rfl (by kernel_rfl) (by kernel_rfl) (by kernel_rfl) (Or.inl ⟨by rfl, ?_⟩) hHeld (fun hHeld => ?_)
            rotate_left
            · intro w hSw
              (try dsimp only at hSw)
              go_simp
              try with_reducible rfl
            try simp only [Act.put, List.setIfInBounds_toArray, List.set_cons_zero, List.set_cons_succ]
            refine wpAnyL_take 0 _ _ (i := 2) (oi := { dst := some 89, op := Op.binOp BinOp.sub 3 (Operand.tmp 88) (Operand.const (Value.int IntKind.i64 1)) 3, type := 3, pos := "tree.go:46", after := #[{ on := 1, ground := Ground.data }], guard := none }) (v := ?_) rfl (by kernel_rfl) (by kernel_rfl) (by kernel_rfl) (fun _ _ _ h => h) rfl (by kernel_rfl) (by kernel_rfl) (by kernel_rfl) (Or.inl ⟨by rfl, ?_⟩) hHeld (fun hHeld => ?_)
            rotate_left
            · intro w hSw
              (try dsimp only at hSw)
              go_simp
              try with_reducible rfl
            try simp only [Act.put, List.setIfInBounds_toArray, List.set_cons_zero, List.set_cons_succ]
            refine wpAnyL_take 0 _ _ (i := 3) (oi := { dst := some 90, op := Op.move (Operand.tmp 7), type := 39, pos := "tree.go:46", after := #[], guard := none }) (v := ?_) rfl (by kernel_rfl) (by kernel_rfl) (by kernel_rfl) (fun _ _ _ h => h) rfl (by kernel_rfl) (by kernel_rfl) (by kernel_rfl) (Or.inl ⟨by rfl, ?_⟩) hHeld (fun hHeld => ?_)
            rotate_left
            · intro w hSw
              (try dsimp only at hSw)
              go_simp
              try with_reducible rfl
            try simp only [Act.put, List.setIfInBounds_toArray, List.set_cons_zero, List.set_cons_succ]
            refine wpAnyL_take 0 _ _ (i := 4) (oi := { dst := some 91, op := Op.move (Operand.tmp 11), type := 3, pos := "tree.go:46", after := #[], guard := none }) (v := ?_) rfl (by kernel_rfl) (by kernel_rfl) (by kernel_rfl) (fun _ _ _ h => h) rfl (by kernel_rfl) (by kernel_rfl) (by kernel_rfl) (Or.inl ⟨by rfl, ?_⟩) hHeld (fun hHeld => ?_)
            rotate_left
            · intro w hSw
              (try dsimp only at hSw)
              go_simp
              try with_reducible rfl
            try simp only [Act.put, List.setIfInBounds_toArray, List.set_cons_zero, List.set_cons_succ]
            refine wpAnyL_take 0 _ _ (i := 5) (oi := { dst := some 92, op := Op.binOp BinOp.sub 3 (Operand.tmp 91) (Operand.const (Value.int IntKind.i64 1)) 3, type := 3, pos := "tree.go:46", after := #[{ on := 4, ground := Ground.data }], guard := none }) (v := ?_) rfl (by kernel_rfl) (by kernel_rfl) (by kernel_rfl) (fun _ _ _ h => h) rfl (by kernel_rfl) (by kernel_rfl) (by kernel_rfl) (Or.inl ⟨by rfl, ?_⟩) hHeld (fun hHeld => ?_)
            rotate_left
            · intro w hSw
              (try dsimp only at hSw)
              go_simp
              try with_reducible rfl
            try simp only [Act.put, List.setIfInBounds_toArray, List.set_cons_zero, List.set_cons_succ]
            refine wpAnyL_take 0 _ _ (i := 6) (oi := { dst := some 93, op := Op.indexAddr 39 (Operand.tmp 90) (Operand.tmp 92), type := 0, pos := "tree.go:46", after := #[{ on := 3, ground := Ground.data }, { on := 5, ground := Ground.data }], guard := none }) (v := ?_) rfl (by kernel_rfl) (by kernel_rfl) (by kernel_rfl) (fun _ _ _ h => h) rfl (by kernel_rfl) (by kernel_rfl) (by kernel_rfl) (Or.inl ⟨by rfl, ?_⟩) hHeld (fun hHeld => ?_)
            rotate_left
            · intro w hSw
              (try dsimp only at hSw)
              go_simp
              try with_reducible rfl
            try simp only [Act.put, List.setIfInBounds_toArray, List.set_cons_zero, List.set_cons_succ]
            refine wpAnyL_take 0 _ _ (i := 7) (oi := { dst := some 94, op := Op.fieldAddr 41 (Operand.tmp 93) 2, type := 0, pos := "tree.go:46", after := #[{ on := 6, ground := Ground.data }], guard := none }) (v := ?_) rfl (by kernel_rfl) (by kernel_rfl) (by kernel_rfl) (fun _ _ _ h => h) rfl (by kernel_rfl) (by kernel_rfl) (by kernel_rfl) (Or.inl ⟨by rfl, ?_⟩) hHeld (fun hHeld => ?_)
            rotate_left
            · intro w hSw
              (try dsimp only at hSw)
              go_simp
              try with_reducible rfl
            try simp only [Act.put, List.setIfInBounds_toArray, List.set_cons_zero, List.set_cons_succ]
            refine wpAnyL_take 1 _ _ (i := 8) (oi := { dst := some 95, op := Op.load 39 (Operand.tmp 94), type := 39, pos := "tree.go:46", after := #[{ on := 7, ground := Ground.data }], guard := none }) (v := ?_) rfl (by kernel_rfl) (by kernel_rfl) (by kernel_rfl) (fun _ _ _ h => h) rfl (by kernel_rfl) (by kernel_rfl) (by kernel_rfl) (Or.inl ⟨by rfl, ?_⟩) hHeld (fun hHeld => ?_)
            rotate_left
            · intro w hSw
              (try dsimp only at hSw)
              go_simp
              try with_reducible rfl
            try simp only [Act.put, List.setIfInBounds_toArray, List.set_cons_zero, List.set_cons_succ]
            refine wpAnyL_take 0 _ _ (i := 9) (oi := { dst := some 96, op := Op.move (Operand.tmp 7), type := 39, pos := "tree.go:46", after := #[], guard := none }) (v := ?_) rfl (by kernel_rfl) (by kernel_rfl) (by kernel_rfl) (fun _ _ _ h => h) rfl (by kernel_rfl) (by kernel_rfl) (by kernel_rfl) (Or.inl ⟨by rfl, ?_⟩) hHeld (fun hHeld => ?_)
            rotate_left
            · intro w hSw
              (try dsimp only at hSw)
              go_simp
              try with_reducible rfl
            try simp only [Act.put, List.setIfInBounds_toArray, List.set_cons_zero, List.set_cons_succ]
            refine wpAnyL_take 0 _ _ (i := 10) (oi := { dst := some 97, op := Op.move (Operand.tmp 11), type := 3, pos := "tree.go:46", after := #[], guard := none }) (v := ?_) rfl (by kernel_rfl) (by kernel_rfl) (by kernel_rfl) (fun _ _ _ h => h) rfl (by kernel_rfl) (by kernel_rfl) (by kernel_rfl) (Or.inl ⟨by rfl, ?_⟩) hHeld (fun hHeld => ?_)
            rotate_left
            · intro w hSw
              (try dsimp only at hSw)
              go_simp
              try with_reducible rfl
            try simp only [Act.put, List.setIfInBounds_toArray, List.set_cons_zero, List.set_cons_succ]
            refine wpAnyL_take 0 _ _ (i := 11) (oi := { dst := some 98, op := Op.indexAddr 39 (Operand.tmp 96) (Operand.tmp 97), type := 0, pos := "tree.go:46", after := #[{ on := 9, ground := Ground.data }, { on := 10, ground := Ground.data }], guard := none }) (v := ?_) rfl (by kernel_rfl) (by kernel_rfl) (by kernel_rfl) (fun _ _ _ h => h) rfl (by kernel_rfl) (by kernel_rfl) (by kernel_rfl) (Or.inl ⟨by rfl, ?_⟩) hHeld (fun hHeld => ?_)
            rotate_left
            · intro w hSw
              (try dsimp only at hSw)
              go_simp
              try with_reducible rfl
            try simp only [Act.put, List.setIfInBounds_toArray, List.set_cons_zero, List.set_cons_succ]
            refine wpAnyL_take 2 _ _ (i := 12) (oi := { dst := some 99, op := Op.load 41 (Operand.tmp 98), type := 41, pos := "tree.go:46", after := #[{ on := 11, ground := Ground.data }], guard := none }) (v := ?_) rfl (by kernel_rfl) (by kernel_rfl) (by kernel_rfl) (fun _ _ _ h => h) rfl (by kernel_rfl) (by kernel_rfl) (by kernel_rfl) (Or.inl ⟨by rfl, ?_⟩) hHeld (fun hHeld => ?_)
            rotate_left
            · intro w hSw
              (try dsimp only at hSw)
              go_simp
              try with_reducible rfl
            try simp only [Act.put, List.setIfInBounds_toArray, List.set_cons_zero, List.set_cons_succ]
            refine wpAnyL_take 1 _ _ (i := 13) (oi := { dst := some 100, op := Op.call { callee := Callee.builtin Builtin.len, args := #[Operand.tmp 95], argTypes := #[39] }, type := 3, pos := "tree.go:46", after := #[{ on := 8, ground := Ground.data }], guard := none }) (v := ?_) rfl (by kernel_rfl) (by kernel_rfl) (by kernel_rfl) (fun _ _ _ h => h) rfl (by kernel_rfl) (by kernel_rfl) (by kernel_rfl) (Or.inl ⟨by rfl, ?_⟩) hHeld (fun hHeld => ?_)
            rotate_left
            · intro w hSw
              (try dsimp only at hSw)
              go_simp
              try with_reducible rfl
            try simp only [Act.put, List.setIfInBounds_toArray, List.set_cons_zero, List.set_cons_succ]
            refine wpAnyL_ready (rs := [14]) (by kernel_rfl) (by simp) ?_
            refine AllReadyL.cons (o := { dst := some 101, op := Op.buildSlice 39 1 #[(0, Operand.const (Value.agg #[Value.bool false, Value.int IntKind.u8 0, Value.string { data := #[] }, Value.int IntKind.i64 0, Value.slice none 0 0]))], type := 39, pos := "tree.go:46", after := #[], guard := none }) rfl (fun K0 hK => ?_) AllReadyL.nil
            go_simp
            refine hK.out _ _ (SL.cons (fun _ => trivial) (SL.cons (fun _ => cell_later (below1 w2 _) x34) (SL.cons (fun _ => ⟨cell_later (below1 w2 _) xl.1, cell_later (below1 w2 _) xl.2.1, cell_later (below1 w2 _) xl.2.2.1, cell_later (below1 w2 _) xl.2.2.2.1, cell_later (below1 w2 _) xl.2.2.2.2⟩) SL.nil))) (fun hHeld => ?_)
            clear hK K0
            try simp only [Act.put, List.setIfInBounds_toArray, List.set_cons_zero, List.set_cons_succ]
            have hb4 := H2'.out.trans ((below1 w2 (.cells #[.bool false, .int .u8 0, .string ⟨#[]⟩, .int .i64 0, .slice none 0 0] 41)).mono H2'.out.size)
            have hnb := box_new w2 false 0 ⟨#[]⟩ 0 (.slice none 0 0)
            obtain ⟨zb, hzb⟩ : ∃ zb, zb = w2.heap.size := ⟨_, rfl⟩
            rw [← hzb] at hnb ⊢
            generalize w2.alloc (.cells #[.bool false, .int .u8 0, .string ⟨#[]⟩, .int .i64 0, .slice none 0 0] 41) = w4 at *
            have hS4 := HM.out.1.later hb4
            have hB4 := HM.out.2.1.later hb4
            have hBl4 := HM.out.2.2.trans (hb4.mono HM.out.2.2.size)
            have hxs4 := own_later HX.out.1 hb4
            have hlv4 : ∀ j (h : j < (st1 ++ [o1]).length), LvAt w4 K' (W.heap.size + 1) xs j (st1 ++ [o1])[j] := fun j hj => (HX.out.2.1 j hj).move (Only.of_below hb4) (fun _ _ h => h) (fun _ _ h => h) (fun _ _ h => h) (fun _ _ => rfl)
            have hys4 := own_later HX.out.2.2.1 hb4
            have hrw4 := HX.out.2.2.2.1.later hb4
            have hfo4 := HX.out.2.2.2.2.2.2.2.later hb4
            have H4 := Lib.hid (And.intro hS4 (And.intro hB4 (And.intro hBl4 (And.intro hxs4 (And.intro hlv4 (And.intro hys4 (And.intro hrw4 hfo4)))))))
            have hlo4 := hS4.lo
            clear hHeld hb4 hS4 hB4 hBl4 hxs4 hlv4 hrw4 hfo4
            refine wpAnyL_ready (rs := [15]) (by kernel_rfl) (by simp) ?_
            refine AllReadyL.cons (o := { dst := some 102, op := Op.call { callee := Callee.builtin Builtin.append, args := #[Operand.tmp 95, Operand.tmp 101], argTypes := #[39, 39] }, type := 39, pos := "tree.go:46", after := #[{ on := 8, ground := Ground.data }, { on := 14, ground := Ground.data }, { on := 0, ground := Ground.phase }, { on := 1, ground := Ground.phase }, { on := 2, ground := Ground.phase }, { on := 3, ground := Ground.phase }, { on := 4, ground := Ground.phase }, { on := 5, ground := Ground.phase }, { on := 6, ground := Ground.phase }, { on := 7, ground := Ground.phase }, { on := 8, ground := Ground.phase }, { on := 9, ground := Ground.phase }, { on := 10, ground := Ground.phase }, { on := 11, ground := Ground.phase }, { on := 12, ground := Ground.phase }, { on := 13, ground := Ground.phase }, { on := 14, ground := Ground.phase }], guard := none }) rfl (fun K0 hK => ?_) AllReadyL.nil
            rw [if_pos (by rfl)]
            refine wp_append_own_at _ _ 39 (by rfl) (W.heap.size + 1) 41 i0 Z41 5 64 Tryd.underlying39 hi hz0 hz1 hz2 rfl (by omega) _ o1.f.len ys (by rfl) hys4 ⟨zb, 0, none⟩ 1 1 (trC false 0 ⟨#[]⟩ 0 none 0 0) (by rfl) (by rfl) ?_ ?_ ?_ ?_ ?_ ?_
            · intro jj u hjj
              rw [Lib.add_plain]
              match jj, hjj with
              | 0, hjj => cases hjj; exact hnb.c0
              | 1, hjj => cases hjj; exact hnb.c1
              | 2, hjj => cases hjj; exact hnb.c2
              | 3, hjj => cases hjj; exact hnb.c3
              | 4, hjj => cases hjj; exact hnb.c4
            · intro u hu; simp [trC] at hu; rcases hu with rfl | rfl | rfl | rfl | rfl <;> rfl
            · have hml : maxLen = 9223372036854775807 := rfl; omega
            · omega
            · exact hlo4
            intro v8 w8 hown hgrow hnil_ hloc
            obtain ⟨p8, c8, hv, hA_⟩ := own_shape hown
            subst hv
            obtain ⟨g8, rfl⟩ : ∃ g8, p8 = some ⟨g8, 0, none⟩ := by
              rcases hown.2 with ⟨e, _⟩ | ⟨g, _, _, e, _⟩
              · injection e with _ e2 _; omega
              · injection e with e2 _ _; exact ⟨g, e2⟩
            have hg8 := Only.of_grown hgrow
            have hk7 : K' g7 = 1 := HM.out.1.tag g7 rfl
            have hne7 : ∀ z, (Value.slice q o1.f.len cq).ownBlock = some z → z ≠ g7 := fun z hz e => by have := HX.out.2.2.2.2.1 z hz; rw [e, hk7] at this; omega
            have hxs8 := own_only H4.out.2.2.2.1 hg8 (fun z hz e => by injection hz with hz; exact hne7 z e hz.symm)
            have hne : g8 ≠ g7 := fun e => by
              rcases hloc with h | h
              · exact hne7 g8 h.symm e
              · have h9 : g8 = w4.heap.size := by injection h
                have := (own_lt H4.out.2.2.2.1 (k := g7) rfl).2; omega
            have hyl : ys.length = o1.f.len * 5 := HX.out.2.2.1.1
            obtain ⟨x17, f17⟩ := own_cell5 hxs8 (L0 * 5 + 4) _ HX.out.2.2.2.2.2.1
            have hgt : ∀ z, (ys ++ trC false 0 ⟨#[]⟩ 0 none 0 0)[o1.f.len * 5 + z]? = (trC false 0 ⟨#[]⟩ 0 none 0 0)[z]? := fun z => by rw [List.getElem?_append_right (by omega)]; congr 1; omega
            obtain ⟨u0, f0_⟩ := own_cell5 hown (o1.f.len * 5 + 0) _ (hgt 0)
            obtain ⟨u1, f1_⟩ := own_cell5 hown (o1.f.len * 5 + 1) _ (hgt 1)
            obtain ⟨u2, f2_⟩ := own_cell5 hown (o1.f.len * 5 + 2) _ (hgt 2)
            obtain ⟨u3, f3_⟩ := own_cell5 hown (o1.f.len * 5 + 3) _ (hgt 3)
            obtain ⟨u4, f4_⟩ := own_cell5 hown (o1.f.len * 5 + 4) _ (hgt 4)
            rw [Nat.add_zero] at u0 f0_
            clear hgt
            have HW8 := Lib.hid (And.intro hown (And.intro hxs8 (And.intro hg8 (And.intro hloc (And.intro hne hyl)))))
            clear hown hgrow hnil_ hloc hA_ hg8 hxs8 hnb hys4 hne7 hk7 hyl
            refine hK.out _ _ (SL.cons (fun _ => trivial) (SL.cons (fun h => absurd h (by decide +kernel)) (SL.cons (fun h => absurd h (by decide +kernel)) SL.nil))) (fun hHeld => ?_)
            clear hK K0
            try simp only [Act.put, List.setIfInBounds_toArray, List.set_cons_zero, List.set_cons_succ]
            refine wpAnyL_take 0 _ _ (i := 16) (oi := { dst := some 103, op := Op.indexAddr 39 (Operand.tmp 87) (Operand.tmp 89), type := 0, pos := "tree.go:46", after := #[{ on := 0, ground := Ground.data }, { on := 2, ground := Ground.data }, { on := 0, ground := Ground.phase }, { on := 1, ground := Ground.phase }, { on := 2, ground := Ground.phase }, { on := 3, ground := Ground.phase }, { on := 4, ground := Ground.phase }, { on := 5, ground := Ground.phase }, { on := 6, ground := Ground.phase }, { on := 7, ground := Ground.phase }, { on := 8, ground := Ground.phase }, { on := 9, ground := Ground.phase }, { on := 10, ground := Ground.phase }, { on := 11, ground := Ground.phase }, { on := 12, ground := Ground.phase }, { on := 13, ground := Ground.phase }, { on := 14, ground := Ground.phase }, { on := 15, ground := Ground.phase }], guard := none }) (v := ?_) rfl (by kernel_rfl) (by kernel_rfl) (by kernel_rfl) (fun _ _ _ h => h) rfl (by kernel_rfl) (by kernel_rfl) (by kernel_rfl) (Or.inl ⟨by rfl, ?_⟩) hHeld (fun hHeld => ?_)
            rotate_left
            · intro w hSw
              (try dsimp only at hSw)
              go_simp
              try with_reducible rfl
            try simp only [Act.put, List.setIfInBounds_toArray, List.set_cons_zero, List.set_cons_succ]
            refine wpAnyL_take 0 _ _ (i := 17) (oi := { dst := some 104, op := Op.fieldAddr 41 (Operand.tmp 103) 2, type := 0, pos := "tree.go:46", after := #[{ on := 16, ground := Ground.data }, { on := 0, ground := Ground.phase }, { on := 1, ground := Ground.phase }, { on := 2, ground := Ground.phase }, { on := 3, ground := Ground.phase }, { on := 4, ground := Ground.phase }, { on := 5, ground := Ground.phase }, { on := 6, ground := Ground.phase }, { on := 7, ground := Ground.phase }, { on := 8, ground := Ground.phase }, { on := 9, ground := Ground.phase }, { on := 10, ground := Ground.phase }, { on := 11, ground := Ground.phase }, { on := 12, ground := Ground.phase }, { on := 13, ground := Ground.phase }, { on := 14, ground := Ground.phase }, { on := 15, ground := Ground.phase }], guard := none }) (v := ?_) rfl (by kernel_rfl) (by kernel_rfl) (by kernel_rfl) (fun _ _ _ h => h) rfl (by kernel_rfl) (by kernel_rfl) (by kernel_rfl) (Or.inl ⟨by rfl, ?_⟩) hHeld (fun hHeld => ?_)
            rotate_left
            · intro w hSw
              (try dsimp only at hSw)
              go_simp
              try with_reducible rfl
            try simp only [Act.put, List.setIfInBounds_toArray, List.set_cons_zero, List.set_cons_succ]
            refine wpAnyL_ready (rs := [18]) (by kernel_rfl) (by simp) ?_
            refine AllReadyL.cons (o := { dst := none, op := Op.store 39 (Operand.tmp 104) (Operand.tmp 102), type := 0, pos := "tree.go:46", after := #[{ on := 17, ground := Ground.data }, { on := 15, ground := Ground.data }, { on := 15, ground := Ground.chain }, { on := 0, ground := Ground.phase }, { on := 1, ground := Ground.phase }, { on := 2, ground := Ground.phase }, { on := 3, ground := Ground.phase }, { on := 4, ground := Ground.phase }, { on := 5, ground := Ground.phase }, { on := 6, ground := Ground.phase }, { on := 7, ground := Ground.phase }, { on := 8, ground := Ground.phase }, { on := 9, ground := Ground.phase }, { on := 10, ground := Ground.phase }, { on := 11, ground := Ground.phase }, { on := 12, ground := Ground.phase }, { on := 13, ground := Ground.phase }, { on := 14, ground := Ground.phase }, { on := 15, ground := Ground.phase }], guard := none }) rfl (fun K0 hK => ?_) AllReadyL.nil
            go_simp
            refine hK.out _ _ (SL.cons (fun _ => trivial) (SL.cons (fun h => absurd h (by decide +kernel)) (SL.cons (fun h => absurd h (by decide +kernel)) SL.nil))) (fun hHeld => ?_)
            clear hK K0
            try simp only [Act.put, List.setIfInBounds_toArray, List.set_cons_zero, List.set_cons_succ]
            clear hHeld
            refine wpAnyL_done (by kernel_rfl) ?_ _
            have hsl39 := fun w => slice_cut39 w g7 N0 cv L1 (by have := HL1.out.1; omega) l51 (own_cap HX.out.1)
            have HZ := Lib.hid (sets_ba HW8.out.1 HW8.out.2.2.2.2.2 HW8.out.2.1 HW8.out.2.2.2.2.1 (i := L0 * 5 + 4) (.bool true) (.int .u8 1) (.string o2.s) (.int .i64 o2.a) (.slice q2 o2.f.len c2) (.slice (some ⟨g8, 0, none⟩) (o1.f.len + 1) c8))
            have ho9 : Only (fun z => z = g7) w8 (w8.setCell ⟨g7, L0 * 5 + 4, none⟩ (.slice (some ⟨g8, 0, none⟩) (o1.f.len + 1) c8)) := Only.of_setCell w8 ⟨g7, L0 * 5 + 4, none⟩ _
            have u0' := ho9.cell u0 (fun e => HW8.out.2.2.2.2.1 e)
            have f0' : (w8.setCell ⟨g7, L0 * 5 + 4, none⟩ (.slice (some ⟨g8, 0, none⟩) (o1.f.len + 1) c8)).frozen? ⟨g8, o1.f.len * 5, none⟩ = false := by rw [ho9.frozen (a := ⟨g8, o1.f.len * 5, none⟩) (World.block_lt_of_cell? w8 _ u0) (fun e => HW8.out.2.2.2.2.1 e)]; exact f0_
            have u1' := ho9.cell u1 (fun e => HW8.out.2.2.2.2.1 e)
            have f1' : (w8.setCell ⟨g7, L0 * 5 + 4, none⟩ (.slice (some ⟨g8, 0, none⟩) (o1.f.len + 1) c8)).frozen? ⟨g8, o1.f.len * 5 + 1, none⟩ = false := by rw [ho9.frozen (a := ⟨g8, o1.f.len * 5 + 1, none⟩) (World.block_lt_of_cell? w8 _ u1) (fun e => HW8.out.2.2.2.2.1 e)]; exact f1_
            have u2' := ho9.cell u2 (fun e => HW8.out.2.2.2.2.1 e)
            have f2' : (w8.setCell ⟨g7, L0 * 5 + 4, none⟩ (.slice (some ⟨g8, 0, none⟩) (o1.f.len + 1) c8)).frozen? ⟨g8, o1.f.len * 5 + 2, none⟩ = false := by rw [ho9.frozen (a := ⟨g8, o1.f.len * 5 + 2, none⟩) (World.block_lt_of_cell? w8 _ u2) (fun e => HW8.out.2.2.2.2.1 e)]; exact f2_
            have u3' := ho9.cell u3 (fun e => HW8.out.2.2.2.2.1 e)
            have f3' : (w8.setCell ⟨g7, L0 * 5 + 4, none⟩ (.slice (some ⟨g8, 0, none⟩) (o1.f.len + 1) c8)).frozen? ⟨g8, o1.f.len * 5 + 3, none⟩ = false := by rw [ho9.frozen (a := ⟨g8, o1.f.len * 5 + 3, none⟩) (World.block_lt_of_cell? w8 _ u3) (fun e => HW8.out.2.2.2.2.1 e)]; exact f3_
            have u4' := ho9.cell u4 (fun e => HW8.out.2.2.2.2.1 e)
            have f4' : (w8.setCell ⟨g7, L0 * 5 + 4, none⟩ (.slice (some ⟨g8, 0, none⟩) (o1.f.len + 1) c8)).frozen? ⟨g8, o1.f.len * 5 + 4, none⟩ = false := by rw [ho9.frozen (a := ⟨g8, o1.f.len * 5 + 4, none⟩) (World.block_lt_of_cell? w8 _ u4) (fun e => HW8.out.2.2.2.2.1 e)]; exact f4_
            obtain ⟨wZ, hwZ⟩ : ∃ wZ, wZ = ((((((w8.setCell ⟨g7, L0 * 5 + 4, none⟩ (.slice (some ⟨g8, 0, none⟩) (o1.f.len + 1) c8)).setCell ⟨g8, o1.f.len * 5, none⟩ (.bool true)).setCell ⟨g8, o1.f.len * 5 + 1, none⟩ (.int .u8 1)).setCell ⟨g8, o1.f.len * 5 + 2, none⟩ (.string o2.s)).setCell ⟨g8, o1.f.len * 5 + 3, none⟩ (.int .i64 o2.a)).setCell ⟨g8, o1.f.len * 5 + 4, none⟩ (.slice q2 o2.f.len c2)) := ⟨_, rfl⟩
            rw [← hwZ] at HZ
            have hoZ : Only (fun z => (Value.slice q o1.f.len cq).ownBlock = some z ∨ (Value.slice (some ⟨g8, 0, none⟩) (o1.f.len + 1) c8).ownBlock = some z ∨ z = g7) w4 wZ := (HW8.out.2.2.1.mono (fun z _ h => Or.inl h)).trans (HZ.out.2.2.mono (fun z _ h => h.elim (fun e => Or.inr (Or.inl (by rw [e]; rfl))) (fun e => Or.inr (Or.inr e))))
            have hbd : ∀ z, ((Value.slice q o1.f.len cq).ownBlock = some z ∨ (Value.slice (some ⟨g8, 0, none⟩) (o1.f.len + 1) c8).ownBlock = some z ∨ z = g7) → W.heap.size + 1 ≤ z := fun z h => by
              rcases h with h | h | h
              · exact (own_lt H4.out.2.2.2.2.2.1 h).1
              · exact (own_lt HW8.out.1 h).1
              · rw [h]; exact (own_lt H4.out.2.2.2.1 (k := g7) rfl).1
            obtain ⟨KZ, hSZ⟩ : ∃ KZ, StAt wZ KZ _ _ _ _ := ⟨_, StAt.grow (l := true) (k := 1) (s := o2.s) (a := o2.a) (x := o2.f) (qx := q2) (cx := c2) H4.out.1 (j := L0) (by have := HGO.out.2.1; omega) (HGO.out.1 _) H4.out.2.2.2.1 H4.out.2.2.2.2.1 H4.out.2.2.2.2.2.2.1 HX.out.2.2.2.2.1 H4.out.2.2.2.2.2.2.2 HX.out.2.2.2.2.2.2.1 (by omega) HW8.out.2.2.2.1 HZ.out.1 HZ.out.2.1 hoZ⟩
            have hset : (st1 ++ [o1]).set L0 ⟨o1.s, o1.a, o1.f.snoc true 1 o2.s o2.a o2.f⟩ = st1 ++ [⟨o1.s, o1.a, o1.f.snoc true 1 o2.s o2.a o2.f⟩] := by rw [HGO.out.2.2]; simp
            rw [hset] at hSZ
            have hlZ : (st1 ++ [(⟨o1.s, o1.a, o1.f.snoc true 1 o2.s o2.a o2.f⟩ : Op)]).length = L1 := by have := HGO.out.2.2; have := HL1.out.1; simp; omega
            have hSC := hSZ.cut l51 (Nat.le_of_eq hlZ)
            have HEZ := Lib.hid (And.intro hSC (And.intro (H4.out.2.1.only hoZ (fun h => by have := hbd _ h; omega)) (H4.out.2.2.1.trans (hoZ.below (B := W.heap.size) (fun z h => by have := hbd _ h; omega) H4.out.2.2.1.size))))
            have HLZ := Lib.hid hlZ
            clear hSZ hoZ hbd hset hlZ hSC
            have HWZ := Lib.hid hwZ
            clear hwZ ho9
            go_wp2_with fail
            rw [← HWZ.out]
            go_roundg G
            case measure => omega
            case rel =>
              refine ⟨i + 1, D, m, st1 ++ [⟨o1.s, o1.a, o1.f.snoc true 1 o2.s o2.a o2.f⟩], KZ, some ⟨g7, 0, none⟩, cv, by have := HG.out; omega, by first | rfl | go_num | (congr 1; omega), rfl, by go_num, by rw [HLZ.out], Lib.hid ⟨HLI.out, ?_, HEZ.out.2.1, HEZ.out.2.2⟩⟩
              rw [HLZ.out]; exact HEZ.out.1
        · have hD201 : ¬ (D : Int) < 200 := by omega
          have HLI := Lib.hid (hL.close (st' := st) hlt' (by rw [← HT.out]) hDp (by have := hL.len; omega) (fun o ho => by have := hL.kids o ho; omega) (fun hm => by have := hL.dm; omega))
          have HM := Lib.hid (And.intro hS (And.intro hB hBl))
          clear hL hS hB hBl
          go_wp2_with fail
          go_roundg G
          case measure => omega
          case rel =>
            exact ⟨i + 1, D, m, st, K, pv, cv, by have := HG.out; omega, by first | rfl | go_num | (congr 1; omega), rfl, by go_num, rfl, Lib.hid ⟨HLI.out, HM.out.1, HM.out.2.1, HM.out.2.2⟩⟩
      have e1 : (k == 1) = false := by simp [h1]
      have e2 : (k == 2) = false := by simp [h2]
      obtain ⟨hL, hS, hB, hBl⟩ := HI.out
      clear HI
      have hd0 : 0 < d := by
        rcases Nat.eq_zero_or_pos d with e | e
        · exfalso
          have h := hL.d0 e
          subst h
          have h2 := HF.out.1
          rw [drop_cons hlt'] at h2
          injection h2 with h2 _
          have h3 := HF.out.2
          rw [← h2, ← HT.out] at h3
          exact h1 h3
        · exact e
      by_cases hm200 : m ≤ 200
      · have hm201 : (m : Int) ≤ 200 := by omega
        have hsl : 0 < st.length := by have := hL.len; omega
        obtain ⟨st0, o, hst0⟩ : ∃ st0 o, st = st0 ++ [o] := ⟨st.dropLast, st.getLast (by intro e; rw [e] at hsl; simp at hsl), (List.dropLast_concat_getLast _).symm⟩
        obtain ⟨L0, hL0⟩ : ∃ L0, L0 = st0.length := ⟨_, rfl⟩
        have hN0 : st.length = L0 + 1 := by rw [hst0, hL0]; simp
        obtain ⟨xs, hxs, hlv⟩ := hS.row
        have hgo : ∀ h : L0 < st.length, st[L0]'h = o := fun h => by simp [hst0, hL0]
        have hlast := hlv L0 (by omega)
        rw [hgo _] at hlast
        obtain ⟨q, cq, ys, y0, y1, y2, y3, y4, hys, hrw, htg⟩ := hlast
        obtain ⟨g7, rfl⟩ : ∃ g7, pv = some ⟨g7, 0, none⟩ := by
          rcases hxs.2 with ⟨e, _⟩ | ⟨g, _, _, e, _⟩
          · injection e with _ e2 _; omega
          · injection e with e2 _ _; exact ⟨g, e2⟩
        have hdr := below_drew wA
        have x34 := cell_later hdr (own_cell5 hxs _ _ y4).1
        have xtk := And.intro (cell_later hdr x0) (And.intro (cell_later hdr x1) (cell_later hdr x2))
        have HM := Lib.hid (And.intro (hS.later hdr) (And.intro (hB.later hdr) (hBl.trans (hdr.mono hBl.size))))
        have HX := Lib.hid (And.intro (own_later hxs hdr) (And.intro (fun j (h : j < st.length) => (hlv j h).move (K' := K) (xs' := xs) (Only.of_below hdr) (fun _ _ h => h) (fun _ _ h => h) (fun _ _ h => h) (fun _ _ => rfl)) (And.intro (own_later hys hdr) (And.intro (hrw.later hdr) htg))))
        have HST := Lib.hid (And.intro hL (And.intro hst0 (And.intro hL0 (And.intro hN0 (And.intro hgo y4)))))
        have hfl : o.f.len ≤ 1048576 := by have := hL.kids o (by rw [hst0]; simp); omega
        obtain ⟨N0, hNN⟩ : ∃ N0, N0 = st.length := ⟨_, rfl⟩
        have l7 : (o.f.len : Int) < ((o.f.len + 1 : Nat) : Int) := by omega
        have l8 : (0 : Int) ≤ (o.f.len : Int) := by omega
        have l9 : (o.f.len : Int) < (o.f.len : Int) + 1 := by omega
        have HLI := Lib.hid (hL.leaf (st' := st.set L0 ⟨o.s, o.a, o.f.snoc false k s a .nil⟩) hlt' (by rw [← HT.out]; exact h1) (by rw [← HT.out]; exact h2) hd0 (by simp) (fun o2 ho2 => by
          rcases List.mem_or_eq_of_mem_set ho2 with h | h
          · have := hL.kids o2 h; omega
          · have := hL.kids o (by rw [hst0]; simp)
            rw [h]; show (o.f.snoc false k s a .nil).len ≤ _; rw [Fo.len_snoc]; omega) (fun _ => ⟨st0, o, hst0, by rw [hst0, hL0, ← HT.out]; simp⟩))
        have l1 : ((N0 : Nat) : Int) - 1 = (L0 : Int) := by omega
        have l2 : (L0 : Int) < (N0 : Int) := by omega
        have l3 : (0 : Int) ≤ (L0 : Int) := by omega
        have l4 : (L0 : Int) ≤ 200 := by omega
        have l5 : L0 < N0 := by omega
        have l6 : (N0 : Int) ≤ 201 := by omega
        have HNN := Lib.hid hNN
        rw [← hNN] at hst ⊢
        clear hL hS hB hBl hst0 hL0 hN0 hgo hxs hlv y0 y1 y2 y3 y4 hys hrw htg hdr hNN
        go_wp2_with fail
        refine wp_region_L [(1000, (fun _ => True : World → Prop)), (12, (fun w => w.cell? ⟨g7, L0 * 5 + 4, none⟩ = some (.slice q o.f.len cq) : World → Prop)), (12, (fun w => w.cell? ⟨b, off + i * 3, none⟩ = some (.int .u8 k) ∧ w.cell? ⟨b, off + i * 3 + 1, none⟩ = some (.string s) ∧ w.cell? ⟨b, off + i * 3 + 2, none⟩ = some (.int .i64 a) : World → Prop))] (by kernel_rfl) (SL.cons (fun _ => trivial) (SL.cons (fun _ => x34) (SL.cons (fun _ => xtk) SL.nil))) (fun hHeld => ?_)
        generalize wA.drew = w2 at *
        refine wpAnyL_take 0 _ _ (i := 0) (oi := { dst := some 30, op := Op.move (Operand.tmp 7), type := 39, pos := "tree.go:52", after := #[], guard := none }) (v := ?_) rfl (by kernel_rfl) (by kernel_rfl) (by kernel_rfl) (fun _ _ _ h => h) rfl (by kernel_rfl) (by kernel_rfl) (by kernel_rfl) (Or.inl ⟨by rfl, ?_⟩) hHeld (fun hHeld => ?_)
        rotate_left
        · intro w hSw
          (try dsimp only at hSw)
          go_simp
          try with_reducible rfl
        try simp only [Act.put, List.setIfInBounds_toArray, List.set_cons_zero, List.set_cons_succ]
        refine wpAnyL_take 0 _ _ (i := 1) (oi := { dst := some 31, op := Op.move (Operand.tmp 12), type := 3, pos := "tree.go:52", after := #[], guard := none }) (v := ?_) rfl (by kernel_rfl) (by kernel_rfl) (by kernel_rfl) (fun _ _ _ h => h) rfl (by kernel_rfl) (by kernel_rfl) (by kernel_rfl) (Or.inl ⟨by rfl, ?_⟩) hHeld (fun hHeld => ?_)
        rotate_left
        · intro w hSw
          (try dsimp only at hSw)
          go_simp
          try with_reducible rfl
        try simp only [Act.put, List.setIfInBounds_toArray, List.set_cons_zero, List.set_cons_succ]
        refine wpAnyL_take 0 _ _ (i := 2) (oi := { dst := some 32, op := Op.indexAddr 39 (Operand.tmp 30) (Operand.tmp 31), type := 0, pos := "tree.go:52", after := #[{ on := 0, ground := Ground.data }, { on := 1, ground := Ground.data }], guard := none }) (v := ?_) rfl (by kernel_rfl) (by kernel_rfl) (by kernel_rfl) (fun _ _ _ h => h) rfl (by kernel_rfl) (by kernel_rfl) (by kernel_rfl) (Or.inl ⟨by rfl, ?_⟩) hHeld (fun hHeld => ?_)
        rotate_left
        · intro w hSw
          (try dsimp only at hSw)
          go_simp
          try with_reducible rfl
        try simp only [Act.put, List.setIfInBounds_toArray, List.set_cons_zero, List.set_cons_succ]
        refine wpAnyL_take 0 _ _ (i := 3) (oi := { dst := some 33, op := Op.fieldAddr 41 (Operand.tmp 32) 2, type := 0, pos := "tree.go:52", after := #[{ on := 2, ground := Ground.data }], guard := none }) (v := ?_) rfl (by kernel_rfl) (by kernel_rfl) (by kernel_rfl) (fun _ _ _ h => h) rfl (by kernel_rfl) (by kernel_rfl) (by kernel_rfl) (Or.inl ⟨by rfl, ?_⟩) hHeld (fun hHeld => ?_)
        rotate_left
        · intro w hSw
          (try dsimp only at hSw)
          go_simp
          try with_reducible rfl
        try simp only [Act.put, List.setIfInBounds_toArray, List.set_cons_zero, List.set_cons_succ]
        refine wpAnyL_take 1 _ _ (i := 4) (oi := { dst := some 34, op := Op.load 39 (Operand.tmp 33), type := 39, pos := "tree.go:52", after := #[{ on := 3, ground := Ground.data }], guard := none }) (v := ?_) rfl (by kernel_rfl) (by kernel_rfl) (by kernel_rfl) (fun _ _ _ h => h) rfl (by kernel_rfl) (by kernel_rfl) (by kernel_rfl) (Or.inl ⟨by rfl, ?_⟩) hHeld (fun hHeld => ?_)
        rotate_left
        · intro w hSw
          (try dsimp only at hSw)
          go_simp
          try with_reducible rfl
        try simp only [Act.put, List.setIfInBounds_toArray, List.set_cons_zero, List.set_cons_succ]
        refine wpAnyL_take 0 _ _ (i := 5) (oi := { dst := some 35, op := Op.move (Operand.tmp 0), type := 24, pos := "tree.go:52", after := #[], guard := none }) (v := ?_) rfl (by kernel_rfl) (by kernel_rfl) (by kernel_rfl) (fun _ _ _ h => h) rfl (by kernel_rfl) (by kernel_rfl) (by kernel_rfl) (Or.inl ⟨by rfl, ?_⟩) hHeld (fun hHeld => ?_)
        rotate_left
        · intro w hSw
          (try dsimp only at hSw)
          go_simp
          try with_reducible rfl
        try simp only [Act.put, List.setIfInBounds_toArray, List.set_cons_zero, List.set_cons_succ]
        refine wpAnyL_take 0 _ _ (i := 6) (oi := { dst := some 36, op := Op.move (Operand.tmp 10), type := 3, pos := "tree.go:52", after := #[], guard := none }) (v := ?_) rfl (by kernel_rfl) (by kernel_rfl) (by kernel_rfl) (fun _ _ _ h => h) rfl (by kernel_rfl) (by kernel_rfl) (by kernel_rfl) (Or.inl ⟨by rfl, ?_⟩) hHeld (fun hHeld => ?_)
        rotate_left
        · intro w hSw
          (try dsimp only at hSw)
          go_simp
          try with_reducible rfl
        try simp only [Act.put, List.setIfInBounds_toArray, List.set_cons_zero, List.set_cons_succ]
        refine wpAnyL_take 0 _ _ (i := 7) (oi := { dst := some 37, op := Op.indexAddr 24 (Operand.tmp 35) (Operand.tmp 36), type := 0, pos := "tree.go:52", after := #[{ on := 5, ground := Ground.data }, { on := 6, ground := Ground.data }], guard := none }) (v := ?_) rfl (by kernel_rfl) (by kernel_rfl) (by kernel_rfl) (fun _ _ _ h => h) rfl (by kernel_rfl) (by kernel_rfl) (by kernel_rfl) (Or.inl ⟨by rfl, ?_⟩) hHeld (fun hHeld => ?_)
        rotate_left
        · intro w hSw
          (try dsimp only at hSw)
          go_simp
          try with_reducible rfl
        try simp only [Act.put, List.setIfInBounds_toArray, List.set_cons_zero, List.set_cons_succ]
        refine wpAnyL_take 2 _ _ (i := 8) (oi := { dst := some 38, op := Op.load 33 (Operand.tmp 37), type := 33, pos := "tree.go:52", after := #[{ on := 7, ground := Ground.data }], guard := none }) (v := ?_) rfl (by kernel_rfl) (by kernel_rfl) (by kernel_rfl) (fun _ _ _ h => h) rfl (by kernel_rfl) (by kernel_rfl) (by kernel_rfl) (Or.inl ⟨by rfl, ?_⟩) hHeld (fun hHeld => ?_)
        rotate_left
        · intro w hSw
          (try dsimp only at hSw)
          go_simp
          try with_reducible rfl
        try simp only [Act.put, List.setIfInBounds_toArray, List.set_cons_zero, List.set_cons_succ]
        refine wpAnyL_take 1 _ _ (i := 10) (oi := { dst := some 40, op := Op.call { callee := Callee.builtin Builtin.len, args := #[Operand.tmp 34], argTypes := #[39] }, type := 3, pos := "tree.go:52", after := #[{ on := 4, ground := Ground.data }], guard := none }) (v := ?_) rfl (by kernel_rfl) (by kernel_rfl) (by kernel_rfl) (fun _ _ _ h => h) rfl (by kernel_rfl) (by kernel_rfl) (by kernel_rfl) (Or.inl ⟨by rfl, ?_⟩) hHeld (fun hHeld => ?_)
        rotate_left
        · intro w hSw
          (try dsimp only at hSw)
          go_simp
          try with_reducible rfl
        try simp only [Act.put, List.setIfInBounds_toArray, List.set_cons_zero, List.set_cons_succ]
        refine wpAnyL_ready (rs := [9, 11]) (by kernel_rfl) (by simp) ?_
        refine AllReadyL.cons (o := { dst := some 39, op := Op.call { callee := Callee.value (Operand.func 41), args := #[Operand.tmp 38], argTypes := #[33] }, type := 41, pos := "tree.go:52", after := #[{ on := 8, ground := Ground.data }], guard := none }) rfl (fun K0 hK => ?_) (AllReadyL.cons (o := { dst := some 41, op := Op.buildSlice 39 1 #[(0, Operand.const (Value.agg #[Value.bool false, Value.int IntKind.u8 0, Value.string { data := #[] }, Value.int IntKind.i64 0, Value.slice none 0 0]))], type := 39, pos := "tree.go:52", after := #[], guard := none }) rfl (fun K0 hK => ?_) AllReadyL.nil)
        · skip
          go_simp
          go_at_call 41
          refine (leaf41 k s a _ hsz).mono ?_
          rintro e w3 ⟨rfl, hb3⟩
          refine hK.out _ _ (SL.cons (fun _ => trivial) (SL.cons (fun _ => cell_later hb3 x34) (SL.cons (fun _ => ⟨cell_later hb3 xtk.1, cell_later hb3 xtk.2.1, cell_later hb3 xtk.2.2⟩) SL.nil))) (fun hHeld => ?_)
          clear hK K0
          try simp only [Act.put, List.setIfInBounds_toArray, List.set_cons_zero, List.set_cons_succ]
          clear hHeld
          refine wpAnyL_ready (rs := [11]) (by kernel_rfl) (by simp) ?_
          refine AllReadyL.cons (o := { dst := some 41, op := Op.buildSlice 39 1 #[(0, Operand.const (Value.agg #[Value.bool false, Value.int IntKind.u8 0, Value.string { data := #[] }, Value.int IntKind.i64 0, Value.slice none 0 0]))], type := 39, pos := "tree.go:52", after := #[], guard := none }) rfl (fun K0 hK => ?_) AllReadyL.nil
          go_simp
          refine hK.out _ _ (SL.cons (fun _ => trivial) (SL.cons (fun _ => cell_later (below1 w3 _) (cell_later hb3 x34)) (SL.cons (fun _ => ⟨cell_later (below1 w3 _) (cell_later hb3 xtk.1), cell_later (below1 w3 _) (cell_later hb3 xtk.2.1), cell_later (below1 w3 _) (cell_later hb3 xtk.2.2)⟩) SL.nil))) (fun hHeld => ?_)
          clear hK K0
          try simp only [Act.put, List.setIfInBounds_toArray, List.set_cons_zero, List.set_cons_succ]
          have hb4 := hb3.trans ((below1 w3 (.cells #[.bool false, .int .u8 0, .string ⟨#[]⟩, .int .i64 0, .slice none 0 0] 41)).mono hb3.size)
          have hnb := box_new w3 false 0 ⟨#[]⟩ 0 (.slice none 0 0)
          obtain ⟨zb, hzb⟩ : ∃ zb, zb = w3.heap.size := ⟨_, rfl⟩
          rw [← hzb] at hnb ⊢
          generalize w3.alloc (.cells #[.bool false, .int .u8 0, .string ⟨#[]⟩, .int .i64 0, .slice none 0 0] 41) = w4 at *
          have hS4 := HM.out.1.later hb4
          have hB4 := HM.out.2.1.later hb4
          have hBl4 := HM.out.2.2.trans (hb4.mono HM.out.2.2.size)
          have hxs4 := own_later HX.out.1 hb4
          have hlv4 : ∀ j (h : j < st.length), LvAt w4 K (W.heap.size + 1) xs j st[j] := fun j hj => (HX.out.2.1 j hj).move (Only.of_below hb4) (fun _ _ h => h) (fun _ _ h => h) (fun _ _ h => h) (fun _ _ => rfl)
          have hys4 := own_later HX.out.2.2.1 hb4
          have hrw4 := HX.out.2.2.2.1.later hb4
          have H4 := Lib.hid (And.intro hS4 (And.intro hB4 (And.intro hBl4 (And.intro hxs4 (And.intro hlv4 (And.intro hys4 hrw4))))))
          have hlo4 := hS4.lo
          clear hHeld hb3 hb4 hS4 hB4 hBl4 hxs4 hlv4 hrw4 x34 xtk
          refine wpAnyL_ready (rs := [12]) (by kernel_rfl) (by simp) ?_
          refine AllReadyL.cons (o := { dst := some 42, op := Op.call { callee := Callee.builtin Builtin.append, args := #[Operand.tmp 34, Operand.tmp 41], argTypes := #[39, 39] }, type := 39, pos := "tree.go:52", after := #[{ on := 4, ground := Ground.data }, { on := 11, ground := Ground.data }, { on := 9, ground := Ground.chain }, { on := 0, ground := Ground.phase }, { on := 1, ground := Ground.phase }, { on := 2, ground := Ground.phase }, { on := 3, ground := Ground.phase }, { on := 4, ground := Ground.phase }, { on := 5, ground := Ground.phase }, { on := 6, ground := Ground.phase }, { on := 7, ground := Ground.phase }, { on := 8, ground := Ground.phase }, { on := 9, ground := Ground.phase }, { on := 10, ground := Ground.phase }, { on := 11, ground := Ground.phase }], guard := none }) rfl (fun K0 hK => ?_) AllReadyL.nil
          rw [if_pos (by rfl)]
          refine wp_append_own_at _ _ 39 (by rfl) (W.heap.size + 1) 41 i0 Z41 5 64 Tryd.underlying39 hi hz0 hz1 hz2 rfl (by omega) _ o.f.len ys (by rfl) hys4 ⟨zb, 0, none⟩ 1 1 (trC false 0 ⟨#[]⟩ 0 none 0 0) (by rfl) (by rfl) ?_ ?_ ?_ ?_ ?_ ?_
          · intro jj u hjj
            rw [Lib.add_plain]
            match jj, hjj with
            | 0, hjj => cases hjj; exact hnb.c0
            | 1, hjj => cases hjj; exact hnb.c1
            | 2, hjj => cases hjj; exact hnb.c2
            | 3, hjj => cases hjj; exact hnb.c3
            | 4, hjj => cases hjj; exact hnb.c4
          · intro u hu; simp [trC] at hu; rcases hu with rfl | rfl | rfl | rfl | rfl <;> rfl
          · have hml : maxLen = 9223372036854775807 := rfl; omega
          · omega
          · exact hlo4
          intro v8 w8 hown hgrow hnil_ hloc
          obtain ⟨p8, c8, hv, hA_⟩ := own_shape hown
          subst hv
          obtain ⟨g8, rfl⟩ : ∃ g8, p8 = some ⟨g8, 0, none⟩ := by
            rcases hown.2 with ⟨e, _⟩ | ⟨g, _, _, e, _⟩
            · injection e with _ e2 _; omega
            · injection e with e2 _ _; exact ⟨g, e2⟩
          have hg8 := Only.of_grown hgrow
          have hk7 : K g7 = 1 := HM.out.1.tag g7 rfl
          have hne7 : ∀ z, (Value.slice q o.f.len cq).ownBlock = some z → z ≠ g7 := fun z hz e => by have := HX.out.2.2.2.2 z hz; rw [e, hk7] at this; omega
          have hxs8 := own_only H4.out.2.2.2.1 hg8 (fun z hz e => by injection hz with hz; exact hne7 z e hz.symm)
          have hne : g8 ≠ g7 := fun e => by
            rcases hloc with h | h
            · exact hne7 g8 h.symm e
            · have h9 : g8 = w4.heap.size := by injection h
              have := (own_lt H4.out.2.2.2.1 (k := g7) rfl).2; omega
          have hyl : ys.length = o.f.len * 5 := HX.out.2.2.1.1
          have hgt : ∀ z, (ys ++ trC false 0 ⟨#[]⟩ 0 none 0 0)[o.f.len * 5 + z]? = (trC false 0 ⟨#[]⟩ 0 none 0 0)[z]? := fun z => by rw [List.getElem?_append_right (by omega)]; congr 1; omega
          obtain ⟨u0, f0_⟩ := own_cell5 hown (o.f.len * 5 + 0) _ (hgt 0)
          obtain ⟨u1, f1_⟩ := own_cell5 hown (o.f.len * 5 + 1) _ (hgt 1)
          obtain ⟨u2, f2_⟩ := own_cell5 hown (o.f.len * 5 + 2) _ (hgt 2)
          obtain ⟨u3, f3_⟩ := own_cell5 hown (o.f.len * 5 + 3) _ (hgt 3)
          obtain ⟨u4, f4_⟩ := own_cell5 hown (o.f.len * 5 + 4) _ (hgt 4)
          rw [Nat.add_zero] at u0 f0_
          obtain ⟨x17, f17⟩ := own_cell5 hxs8 (L0 * 5 + 4) _ HST.out.2.2.2.2.2
          have HW8 := Lib.hid (And.intro hown (And.intro hxs8 (And.intro hg8 (And.intro hloc (And.intro hne hyl)))))
          clear hown hgrow hnil_ hloc hA_ hg8 hxs8 hnb hys4 hne7 hk7 hgt hyl
          refine hK.out _ _ (SL.cons (fun _ => trivial) (SL.cons (fun h => absurd h (by decide +kernel)) (SL.cons (fun h => absurd h (by decide +kernel)) SL.nil))) (fun hHeld => ?_)
          clear hK K0
          try simp only [Act.put, List.setIfInBounds_toArray, List.set_cons_zero, List.set_cons_succ]
          refine wpAnyL_take 0 _ _ (i := 13) (oi := { dst := some 43, op := Op.indexAddr 39 (Operand.tmp 42) (Operand.tmp 40), type := 0, pos := "tree.go:52", after := #[{ on := 12, ground := Ground.data }, { on := 10, ground := Ground.data }, { on := 0, ground := Ground.phase }, { on := 1, ground := Ground.phase }, { on := 2, ground := Ground.phase }, { on := 3, ground := Ground.phase }, { on := 4, ground := Ground.phase }, { on := 5, ground := Ground.phase }, { on := 6, ground := Ground.phase }, { on := 7, ground := Ground.phase }, { on := 8, ground := Ground.phase }, { on := 9, ground := Ground.phase }, { on := 10, ground := Ground.phase }, { on := 11, ground := Ground.phase }, { on := 12, ground := Ground.phase }, { on := 17, ground := Ground.gcOnly Departure.appendInPlace }], guard := none }) (v := ?_) rfl (by kernel_rfl) (by kernel_rfl) (by kernel_rfl) (fun _ _ _ h => h) rfl (by kernel_rfl) (by kernel_rfl) (by kernel_rfl) (Or.inl ⟨by rfl, ?_⟩) hHeld (fun hHeld => ?_)
          rotate_left
          · intro w hSw
            (try dsimp only at hSw)
            go_simp
            try with_reducible rfl
          try simp only [Act.put, List.setIfInBounds_toArray, List.set_cons_zero, List.set_cons_succ]
          refine wpAnyL_take 0 _ _ (i := 15) (oi := { dst := some 44, op := Op.indexAddr 39 (Operand.tmp 30) (Operand.tmp 31), type := 0, pos := "tree.go:52", after := #[{ on := 0, ground := Ground.data }, { on := 1, ground := Ground.data }, { on := 0, ground := Ground.phase }, { on := 1, ground := Ground.phase }, { on := 2, ground := Ground.phase }, { on := 3, ground := Ground.phase }, { on := 4, ground := Ground.phase }, { on := 5, ground := Ground.phase }, { on := 6, ground := Ground.phase }, { on := 7, ground := Ground.phase }, { on := 8, ground := Ground.phase }, { on := 9, ground := Ground.phase }, { on := 10, ground := Ground.phase }, { on := 11, ground := Ground.phase }, { on := 12, ground := Ground.phase }, { on := 13, ground := Ground.textOnly Departure.appendInPlace }, { on := 14, ground := Ground.textOnly Departure.appendInPlace }], guard := none }) (v := ?_) rfl (by kernel_rfl) (by kernel_rfl) (by kernel_rfl) (fun _ _ _ h => h) rfl (by kernel_rfl) (by kernel_rfl) (by kernel_rfl) (Or.inl ⟨by rfl, ?_⟩) hHeld (fun hHeld => ?_)
          rotate_left
          · intro w hSw
            (try dsimp only at hSw)
            go_simp
            try with_reducible rfl
          try simp only [Act.put, List.setIfInBounds_toArray, List.set_cons_zero, List.set_cons_succ]
          refine wpAnyL_take 0 _ _ (i := 16) (oi := { dst := some 45, op := Op.fieldAddr 41 (Operand.tmp 44) 2, type := 0, pos := "tree.go:52", after := #[{ on := 15, ground := Ground.data }, { on := 0, ground := Ground.phase }, { on := 1, ground := Ground.phase }, { on := 2, ground := Ground.phase }, { on := 3, ground := Ground.phase }, { on := 4, ground := Ground.phase }, { on := 5, ground := Ground.phase }, { on := 6, ground := Ground.phase }, { on := 7, ground := Ground.phase }, { on := 8, ground := Ground.phase }, { on := 9, ground := Ground.phase }, { on := 10, ground := Ground.phase }, { on := 11, ground := Ground.phase }, { on := 12, ground := Ground.phase }, { on := 13, ground := Ground.textOnly Departure.appendInPlace }, { on := 14, ground := Ground.textOnly Departure.appendInPlace }], guard := none }) (v := ?_) rfl (by kernel_rfl) (by kernel_rfl) (by kernel_rfl) (fun _ _ _ h => h) rfl (by kernel_rfl) (by kernel_rfl) (by kernel_rfl) (Or.inl ⟨by rfl, ?_⟩) hHeld (fun hHeld => ?_)
          rotate_left
          · intro w hSw
            (try dsimp only at hSw)
            go_simp
            try with_reducible rfl
          try simp only [Act.put, List.setIfInBounds_toArray, List.set_cons_zero, List.set_cons_succ]
          refine wpAnyL_ready (rs := [14, 17]) (by kernel_rfl) (by simp) ?_
          refine AllReadyL.cons (o := { dst := none, op := Op.store 41 (Operand.tmp 43) (Operand.tmp 39), type := 0, pos := "tree.go:52", after := #[{ on := 13, ground := Ground.data }, { on := 9, ground := Ground.data }, { on := 12, ground := Ground.chain }, { on := 0, ground := Ground.phase }, { on := 1, ground := Ground.phase }, { on := 2, ground := Ground.phase }, { on := 3, ground := Ground.phase }, { on := 4, ground := Ground.phase }, { on := 5, ground := Ground.phase }, { on := 6, ground := Ground.phase }, { on := 7, ground := Ground.phase }, { on := 8, ground := Ground.phase }, { on := 9, ground := Ground.phase }, { on := 10, ground := Ground.phase }, { on := 11, ground := Ground.phase }, { on := 12, ground := Ground.phase }, { on := 17, ground := Ground.gcOnly Departure.appendInPlace }], guard := none }) rfl (fun K0 hK => ?_) (AllReadyL.cons (o := { dst := none, op := Op.store 39 (Operand.tmp 45) (Operand.tmp 42), type := 0, pos := "tree.go:52", after := #[{ on := 16, ground := Ground.data }, { on := 12, ground := Ground.data }, { on := 12, ground := Ground.chain }, { on := 14, ground := Ground.textOnly Departure.appendInPlace }, { on := 0, ground := Ground.phase }, { on := 1, ground := Ground.phase }, { on := 2, ground := Ground.phase }, { on := 3, ground := Ground.phase }, { on := 4, ground := Ground.phase }, { on := 5, ground := Ground.phase }, { on := 6, ground := Ground.phase }, { on := 7, ground := Ground.phase }, { on := 8, ground := Ground.phase }, { on := 9, ground := Ground.phase }, { on := 10, ground := Ground.phase }, { on := 11, ground := Ground.phase }, { on := 12, ground := Ground.phase }, { on := 13, ground := Ground.textOnly Departure.appendInPlace }, { on := 14, ground := Ground.textOnly Departure.appendInPlace }], guard := none }) rfl (fun K0 hK => ?_) AllReadyL.nil)
          · skip
            go_simp
            refine hK.out _ _ (SL.cons (fun _ => trivial) (SL.cons (fun h => absurd h (by decide +kernel)) (SL.cons (fun h => absurd h (by decide +kernel)) SL.nil))) (fun hHeld => ?_)
            clear hK K0
            try simp only [Act.put, List.setIfInBounds_toArray, List.set_cons_zero, List.set_cons_succ]
            obtain ⟨w9, hw9⟩ : ∃ w9, w9 = (((((w8.setCell ⟨g8, o.f.len * 5, none⟩ (.bool false)).setCell ⟨g8, o.f.len * 5 + 1, none⟩ (.int .u8 k)).setCell ⟨g8, o.f.len * 5 + 2, none⟩ (.string s)).setCell ⟨g8, o.f.len * 5 + 3, none⟩ (.int .i64 a)).setCell ⟨g8, o.f.len * 5 + 4, none⟩ (.slice none 0 0)) := ⟨_, rfl⟩
            have ho9 : Only (fun z => z = g8) w8 w9 := by rw [hw9]; exact only_set5' w8 g8 _ _ _ _ _ _ _ _ _ _
            have x17' := ho9.cell x17 (fun e => HW8.out.2.2.2.2.1 e.symm)
            have f17' : w9.frozen? ⟨g7, L0 * 5 + 4, none⟩ = false := by rw [ho9.frozen (a := ⟨g7, L0 * 5 + 4, none⟩) (World.block_lt_of_cell? w8 _ x17) (fun e => HW8.out.2.2.2.2.1 e.symm)]; exact f17
            rw [← hw9]
            clear ho9 hHeld
            refine wpAnyL_ready (rs := [17]) (by kernel_rfl) (by simp) ?_
            refine AllReadyL.cons (o := { dst := none, op := Op.store 39 (Operand.tmp 45) (Operand.tmp 42), type := 0, pos := "tree.go:52", after := #[{ on := 16, ground := Ground.data }, { on := 12, ground := Ground.data }, { on := 12, ground := Ground.chain }, { on := 14, ground := Ground.textOnly Departure.appendInPlace }, { on := 0, ground := Ground.phase }, { on := 1, ground := Ground.phase }, { on := 2, ground := Ground.phase }, { on := 3, ground := Ground.phase }, { on := 4, ground := Ground.phase }, { on := 5, ground := Ground.phase }, { on := 6, ground := Ground.phase }, { on := 7, ground := Ground.phase }, { on := 8, ground := Ground.phase }, { on := 9, ground := Ground.phase }, { on := 10, ground := Ground.phase }, { on := 11, ground := Ground.phase }, { on := 12, ground := Ground.phase }, { on := 13, ground := Ground.textOnly Departure.appendInPlace }, { on := 14, ground := Ground.textOnly Departure.appendInPlace }], guard := none }) rfl (fun K0 hK => ?_) AllReadyL.nil
            go_simp
            refine hK.out _ _ (SL.cons (fun _ => trivial) (SL.cons (fun h => absurd h (by decide +kernel)) (SL.cons (fun h => absurd h (by decide +kernel)) SL.nil))) (fun hHeld => ?_)
            clear hK K0
            try simp only [Act.put, List.setIfInBounds_toArray, List.set_cons_zero, List.set_cons_succ]
            have HZ := Lib.hid (sets_ab HW8.out.1 HW8.out.2.2.2.2.2 HW8.out.2.1 HW8.out.2.2.2.2.1 (i := L0 * 5 + 4) (.bool false) (.int .u8 k) (.string s) (.int .i64 a) (.slice none 0 0) (.slice (some ⟨g8, 0, none⟩) (o.f.len + 1) c8))
            clear hHeld
            refine wpAnyL_done (by kernel_rfl) ?_ _
            obtain ⟨wZ, hwZ⟩ : ∃ wZ, wZ = ((((((w8.setCell ⟨g8, o.f.len * 5, none⟩ (.bool false)).setCell ⟨g8, o.f.len * 5 + 1, none⟩ (.int .u8 k)).setCell ⟨g8, o.f.len * 5 + 2, none⟩ (.string s)).setCell ⟨g8, o.f.len * 5 + 3, none⟩ (.int .i64 a)).setCell ⟨g8, o.f.len * 5 + 4, none⟩ (.slice none 0 0)).setCell ⟨g7, L0 * 5 + 4, none⟩ (.slice (some ⟨g8, 0, none⟩) (o.f.len + 1) c8)) := ⟨_, rfl⟩
            rw [← hwZ] at HZ ⊢
            have hoZ : Only (fun z => (Value.slice q o.f.len cq).ownBlock = some z ∨ (Value.slice (some ⟨g8, 0, none⟩) (o.f.len + 1) c8).ownBlock = some z ∨ z = g7) w4 wZ := (HW8.out.2.2.1.mono (fun z _ h => Or.inl h)).trans (HZ.out.2.2.mono (fun z _ h => h.elim (fun e => Or.inr (Or.inl (by rw [e]; rfl))) (fun e => Or.inr (Or.inr e))))
            have hbd : ∀ z, ((Value.slice q o.f.len cq).ownBlock = some z ∨ (Value.slice (some ⟨g8, 0, none⟩) (o.f.len + 1) c8).ownBlock = some z ∨ z = g7) → W.heap.size + 1 ≤ z := fun z h => by
              rcases h with h | h | h
              · exact (own_lt H4.out.2.2.2.2.2.1 h).1
              · exact (own_lt HW8.out.1 h).1
              · rw [h]; exact (own_lt H4.out.2.2.2.1 (k := g7) rfl).1
            obtain ⟨KZ, hSZ⟩ : ∃ KZ, StAt wZ KZ _ _ _ _ := ⟨_, StAt.grow (l := false) (k := k) (s := s) (a := a) (x := .nil) (qx := none) (cx := 0) H4.out.1 (j := L0) (by have := HST.out.2.2.2.1; omega) (HST.out.2.2.2.2.1 _) H4.out.2.2.2.1 H4.out.2.2.2.2.1 H4.out.2.2.2.2.2.2 HX.out.2.2.2.2 trivial (Nat.le_refl _) (by simp [Fo.len]) HW8.out.2.2.2.1 HZ.out.1 HZ.out.2.1 hoZ⟩
            have HEZ := Lib.hid (And.intro hSZ (And.intro (H4.out.2.1.only hoZ (fun h => by have := hbd _ h; omega)) (H4.out.2.2.1.trans (hoZ.below (B := W.heap.size) (fun z h => by have := hbd _ h; omega) H4.out.2.2.1.size))))
            clear hSZ hoZ hbd hwZ hw9
            go_wp2_with fail
            go_roundg G
            case measure => omega
            case rel =>
              refine ⟨i + 1, d, m, st.set L0 ⟨o.s, o.a, o.f.snoc false k s a .nil⟩, KZ, some ⟨g7, 0, none⟩, cv, by have := HG.out; omega, rfl, rfl, by go_num, by rw [List.length_set, HNN.out], Lib.hid ⟨HLI.out, ?_, HEZ.out.2.1, HEZ.out.2.2⟩⟩
              have := HEZ.out.1
              rw [List.length_set]; exact this
          · skip
            go_simp
            refine hK.out _ _ (SL.cons (fun _ => trivial) (SL.cons (fun h => absurd h (by decide +kernel)) (SL.cons (fun h => absurd h (by decide +kernel)) SL.nil))) (fun hHeld => ?_)
            clear hK K0
            try simp only [Act.put, List.setIfInBounds_toArray, List.set_cons_zero, List.set_cons_succ]
            obtain ⟨w9, hw9⟩ : ∃ w9, w9 = (w8.setCell ⟨g7, L0 * 5 + 4, none⟩ (.slice (some ⟨g8, 0, none⟩) (o.f.len + 1) c8)) := ⟨_, rfl⟩
            have ho9 : Only (fun z => z = g7) w8 w9 := by rw [hw9]; exact Only.of_setCell w8 ⟨g7, L0 * 5 + 4, none⟩ _
            have u0' := ho9.cell u0 (fun e => HW8.out.2.2.2.2.1 e)
            have f0' : w9.frozen? ⟨g8, o.f.len * 5, none⟩ = false := by rw [ho9.frozen (a := ⟨g8, o.f.len * 5, none⟩) (World.block_lt_of_cell? w8 _ u0) (fun e => HW8.out.2.2.2.2.1 e)]; exact f0_
            have u1' := ho9.cell u1 (fun e => HW8.out.2.2.2.2.1 e)
            have f1' : w9.frozen? ⟨g8, o.f.len * 5 + 1, none⟩ = false := by rw [ho9.frozen (a := ⟨g8, o.f.len * 5 + 1, none⟩) (World.block_lt_of_cell? w8 _ u1) (fun e => HW8.out.2.2.2.2.1 e)]; exact f1_
            have u2' := ho9.cell u2 (fun e => HW8.out.2.2.2.2.1 e)
            have f2' : w9.frozen? ⟨g8, o.f.len * 5 + 2, none⟩ = false := by rw [ho9.frozen (a := ⟨g8, o.f.len * 5 + 2, none⟩) (World.block_lt_of_cell? w8 _ u2) (fun e => HW8.out.2.2.2.2.1 e)]; exact f2_
            have u3' := ho9.cell u3 (fun e => HW8.out.2.2.2.2.1 e)
            have f3' : w9.frozen? ⟨g8, o.f.len * 5 + 3, none⟩ = false := by rw [ho9.frozen (a := ⟨g8, o.f.len * 5 + 3, none⟩) (World.block_lt_of_cell? w8 _ u3) (fun e => HW8.out.2.2.2.2.1 e)]; exact f3_
            have u4' := ho9.cell u4 (fun e => HW8.out.2.2.2.2.1 e)
            have f4' : w9.frozen? ⟨g8, o.f.len * 5 + 4, none⟩ = false := by rw [ho9.frozen (a := ⟨g8, o.f.len * 5 + 4, none⟩) (World.block_lt_of_cell? w8 _ u4) (fun e => HW8.out.2.2.2.2.1 e)]; exact f4_
            rw [← hw9]
            clear ho9 hHeld
            refine wpAnyL_ready (rs := [14]) (by kernel_rfl) (by simp) ?_
            refine AllReadyL.cons (o := { dst := none, op := Op.store 41 (Operand.tmp 43) (Operand.tmp 39), type := 0, pos := "tree.go:52", after := #[{ on := 13, ground := Ground.data }, { on := 9, ground := Ground.data }, { on := 12, ground := Ground.chain }, { on := 0, ground := Ground.phase }, { on := 1, ground := Ground.phase }, { on := 2, ground := Ground.phase }, { on := 3, ground := Ground.phase }, { on := 4, ground := Ground.phase }, { on := 5, ground := Ground.phase }, { on := 6, ground := Ground.phase }, { on := 7, ground := Ground.phase }, { on := 8, ground := Ground.phase }, { on := 9, ground := Ground.phase }, { on := 10, ground := Ground.phase }, { on := 11, ground := Ground.phase }, { on := 12, ground := Ground.phase }, { on := 17, ground := Ground.gcOnly Departure.appendInPlace }], guard := none }) rfl (fun K0 hK => ?_) AllReadyL.nil
            go_simp
            refine hK.out _ _ (SL.cons (fun _ => trivial) (SL.cons (fun h => absurd h (by decide +kernel)) (SL.cons (fun h => absurd h (by decide +kernel)) SL.nil))) (fun hHeld => ?_)
            clear hK K0
            try simp only [Act.put, List.setIfInBounds_toArray, List.set_cons_zero, List.set_cons_succ]
            have HZ := Lib.hid (sets_ba HW8.out.1 HW8.out.2.2.2.2.2 HW8.out.2.1 HW8.out.2.2.2.2.1 (i := L0 * 5 + 4) (.bool false) (.int .u8 k) (.string s) (.int .i64 a) (.slice none 0 0) (.slice (some ⟨g8, 0, none⟩) (o.f.len + 1) c8))
            clear hHeld
            refine wpAnyL_done (by kernel_rfl) ?_ _
            obtain ⟨wZ, hwZ⟩ : ∃ wZ, wZ = ((((((w8.setCell ⟨g7, L0 * 5 + 4, none⟩ (.slice (some ⟨g8, 0, none⟩) (o.f.len + 1) c8)).setCell ⟨g8, o.f.len * 5, none⟩ (.bool false)).setCell ⟨g8, o.f.len * 5 + 1, none⟩ (.int .u8 k)).setCell ⟨g8, o.f.len * 5 + 2, none⟩ (.string s)).setCell ⟨g8, o.f.len * 5 + 3, none⟩ (.int .i64 a)).setCell ⟨g8, o.f.len * 5 + 4, none⟩ (.slice none 0 0)) := ⟨_, rfl⟩
            rw [← hwZ] at HZ ⊢
            have hoZ : Only (fun z => (Value.slice q o.f.len cq).ownBlock = some z ∨ (Value.slice (some ⟨g8, 0, none⟩) (o.f.len + 1) c8).ownBlock = some z ∨ z = g7) w4 wZ := (HW8.out.2.2.1.mono (fun z _ h => Or.inl h)).trans (HZ.out.2.2.mono (fun z _ h => h.elim (fun e => Or.inr (Or.inl (by rw [e]; rfl))) (fun e => Or.inr (Or.inr e))))
            have hbd : ∀ z, ((Value.slice q o.f.len cq).ownBlock = some z ∨ (Value.slice (some ⟨g8, 0, none⟩) (o.f.len + 1) c8).ownBlock = some z ∨ z = g7) → W.heap.size + 1 ≤ z := fun z h => by
              rcases h with h | h | h
              · exact (own_lt H4.out.2.2.2.2.2.1 h).1
              · exact (own_lt HW8.out.1 h).1
              · rw [h]; exact (own_lt H4.out.2.2.2.1 (k := g7) rfl).1
            obtain ⟨KZ, hSZ⟩ : ∃ KZ, StAt wZ KZ _ _ _ _ := ⟨_, StAt.grow (l := false) (k := k) (s := s) (a := a) (x := .nil) (qx := none) (cx := 0) H4.out.1 (j := L0) (by have := HST.out.2.2.2.1; omega) (HST.out.2.2.2.2.1 _) H4.out.2.2.2.1 H4.out.2.2.2.2.1 H4.out.2.2.2.2.2.2 HX.out.2.2.2.2 trivial (Nat.le_refl _) (by simp [Fo.len]) HW8.out.2.2.2.1 HZ.out.1 HZ.out.2.1 hoZ⟩
            have HEZ := Lib.hid (And.intro hSZ (And.intro (H4.out.2.1.only hoZ (fun h => by have := hbd _ h; omega)) (H4.out.2.2.1.trans (hoZ.below (B := W.heap.size) (fun z h => by have := hbd _ h; omega) H4.out.2.2.1.size))))
            clear hSZ hoZ hbd hwZ hw9
            go_wp2_with fail
            go_roundg G
            case measure => omega
            case rel =>
              refine ⟨i + 1, d, m, st.set L0 ⟨o.s, o.a, o.f.snoc false k s a .nil⟩, KZ, some ⟨g7, 0, none⟩, cv, by have := HG.out; omega, rfl, rfl, by go_num, by rw [List.length_set, HNN.out], Lib.hid ⟨HLI.out, ?_, HEZ.out.2.1, HEZ.out.2.2⟩⟩
              have := HEZ.out.1
              rw [List.length_set]; exact this
        · skip
          go_simp
          refine hK.out _ _ (SL.cons (fun _ => trivial) (SL.cons (fun _ => cell_later (below1 w2 _) x34) (SL.cons (fun _ => ⟨cell_later (below1 w2 _) xtk.1, cell_later (below1 w2 _) xtk.2.1, cell_later (below1 w2 _) xtk.2.2⟩) SL.nil))) (fun hHeld => ?_)
          clear hK K0
          try simp only [Act.put, List.setIfInBounds_toArray, List.set_cons_zero, List.set_cons_succ]
          clear hHeld
          refine wpAnyL_ready (rs := [9]) (by kernel_rfl) (by simp) ?_
          refine AllReadyL.cons (o := { dst := some 39, op := Op.call { callee := Callee.value (Operand.func 41), args := #[Operand.tmp 38], argTypes := #[33] }, type := 41, pos := "tree.go:52", after := #[{ on := 8, ground := Ground.data }], guard := none }) rfl (fun K0 hK => ?_) AllReadyL.nil
          go_simp
          go_at_call 41
          refine (leaf41 k s a _ hsz).mono ?_
          rintro e w3 ⟨rfl, hb3⟩
          refine hK.out _ _ (SL.cons (fun _ => trivial) (SL.cons (fun _ => cell_later hb3 (cell_later (below1 w2 _) x34)) (SL.cons (fun _ => ⟨cell_later hb3 (cell_later (below1 w2 _) xtk.1), cell_later hb3 (cell_later (below1 w2 _) xtk.2.1), cell_later hb3 (cell_later (below1 w2 _) xtk.2.2)⟩) SL.nil))) (fun hHeld => ?_)
          clear hK K0
          try simp only [Act.put, List.setIfInBounds_toArray, List.set_cons_zero, List.set_cons_succ]
          have hb4 := (below1 w2 (.cells #[.bool false, .int .u8 0, .string ⟨#[]⟩, .int .i64 0, .slice none 0 0] 41)).trans (hb3.mono (by simp))
          have hnb := (box_new w2 false 0 ⟨#[]⟩ 0 (.slice none 0 0)).later hb3
          obtain ⟨zb, hzb⟩ : ∃ zb, zb = w2.heap.size := ⟨_, rfl⟩
          rw [← hzb] at hnb ⊢
          obtain ⟨w4, hw4⟩ : ∃ w4, w4 = w3 := ⟨_, rfl⟩
          rw [← hw4] at hb4 hnb ⊢
          have hS4 := HM.out.1.later hb4
          have hB4 := HM.out.2.1.later hb4
          have hBl4 := HM.out.2.2.trans (hb4.mono HM.out.2.2.size)
          have hxs4 := own_later HX.out.1 hb4
          have hlv4 : ∀ j (h : j < st.length), LvAt w4 K (W.heap.size + 1) xs j st[j] := fun j hj => (HX.out.2.1 j hj).move (Only.of_below hb4) (fun _ _ h => h) (fun _ _ h => h) (fun _ _ h => h) (fun _ _ => rfl)
          have hys4 := own_later HX.out.2.2.1 hb4
          have hrw4 := HX.out.2.2.2.1.later hb4
          have H4 := Lib.hid (And.intro hS4 (And.intro hB4 (And.intro hBl4 (And.intro hxs4 (And.intro hlv4 (And.intro hys4 hrw4))))))
          have hlo4 := hS4.lo
          clear hHeld hb3 hb4 hS4 hB4 hBl4 hxs4 hlv4 hrw4 x34 xtk
          refine wpAnyL_ready (rs := [12]) (by kernel_rfl) (by simp) ?_
          refine AllReadyL.cons (o := { dst := some 42, op := Op.call { callee := Callee.builtin Builtin.append, args := #[Operand.tmp 34, Operand.tmp 41], argTypes := #[39, 39] }, type := 39, pos := "tree.go:52", after := #[{ on := 4, ground := Ground.data }, { on := 11, ground := Ground.data }, { on := 9, ground := Ground.chain }, { on := 0, ground := Ground.phase }, { on := 1, ground := Ground.phase }, { on := 2, ground := Ground.phase }, { on := 3, ground := Ground.phase }, { on := 4, ground := Ground.phase }, { on := 5, ground := Ground.phase }, { on := 6, ground := Ground.phase }, { on := 7, ground := Ground.phase }, { on := 8, ground := Ground.phase }, { on := 9, ground := Ground.phase }, { on := 10, ground := Ground.phase }, { on := 11, ground := Ground.phase }], guard := none }) rfl (fun K0 hK => ?_) AllReadyL.nil
          rw [if_pos (by rfl)]
          refine wp_append_own_at _ _ 39 (by rfl) (W.heap.size + 1) 41 i0 Z41 5 64 Tryd.underlying39 hi hz0 hz1 hz2 rfl (by omega) _ o.f.len ys (by rfl) hys4 ⟨zb, 0, none⟩ 1 1 (trC false 0 ⟨#[]⟩ 0 none 0 0) (by rfl) (by rfl) ?_ ?_ ?_ ?_ ?_ ?_
          · intro jj u hjj
            rw [Lib.add_plain]
            match jj, hjj with
            | 0, hjj => cases hjj; exact hnb.c0
            | 1, hjj => cases hjj; exact hnb.c1
            | 2, hjj => cases hjj; exact hnb.c2
            | 3, hjj => cases hjj; exact hnb.c3
            | 4, hjj => cases hjj; exact hnb.c4
          · intro u hu; simp [trC] at hu; rcases hu with rfl | rfl | rfl | rfl | rfl <;> rfl
          · have hml : maxLen = 9223372036854775807 := rfl; omega
          · omega
          · exact hlo4
          intro v8 w8 hown hgrow hnil_ hloc
          obtain ⟨p8, c8, hv, hA_⟩ := own_shape hown
          subst hv
          obtain ⟨g8, rfl⟩ : ∃ g8, p8 = some ⟨g8, 0, none⟩ := by
            rcases hown.2 with ⟨e, _⟩ | ⟨g, _, _, e, _⟩
            · injection e with _ e2 _; omega
            · injection e with e2 _ _; exact ⟨g, e2⟩
          have hg8 := Only.of_grown hgrow
          have hk7 : K g7 = 1 := HM.out.1.tag g7 rfl
          have hne7 : ∀ z, (Value.slice q o.f.len cq).ownBlock = some z → z ≠ g7 := fun z hz e => by have := HX.out.2.2.2.2 z hz; rw [e, hk7] at this; omega
          have hxs8 := own_only H4.out.2.2.2.1 hg8 (fun z hz e => by injection hz with hz; exact hne7 z e hz.symm)
          have hne : g8 ≠ g7 := fun e => by
            rcases hloc with h | h
            · exact hne7 g8 h.symm e
            · have h9 : g8 = w4.heap.size := by injection h
              have := (own_lt H4.out.2.2.2.1 (k := g7) rfl).2; omega
          have hyl : ys.length = o.f.len * 5 := HX.out.2.2.1.1
          have hgt : ∀ z, (ys ++ trC false 0 ⟨#[]⟩ 0 none 0 0)[o.f.len * 5 + z]? = (trC false 0 ⟨#[]⟩ 0 none 0 0)[z]? := fun z => by rw [List.getElem?_append_right (by omega)]; congr 1; omega
          obtain ⟨u0, f0_⟩ := own_cell5 hown (o.f.len * 5 + 0) _ (hgt 0)
          obtain ⟨u1, f1_⟩ := own_cell5 hown (o.f.len * 5 + 1) _ (hgt 1)
          obtain ⟨u2, f2_⟩ := own_cell5 hown (o.f.len * 5 + 2) _ (hgt 2)
          obtain ⟨u3, f3_⟩ := own_cell5 hown (o.f.len * 5 + 3) _ (hgt 3)
          obtain ⟨u4, f4_⟩ := own_cell5 hown (o.f.len * 5 + 4) _ (hgt 4)
          rw [Nat.add_zero] at u0 f0_
          obtain ⟨x17, f17⟩ := own_cell5 hxs8 (L0 * 5 + 4) _ HST.out.2.2.2.2.2
          have HW8 := Lib.hid (And.intro hown (And.intro hxs8 (And.intro hg8 (And.intro hloc (And.intro hne hyl)))))
          clear hown hgrow hnil_ hloc hA_ hg8 hxs8 hnb hys4 hne7 hk7 hgt hyl
          refine hK.out _ _ (SL.cons (fun _ => trivial) (SL.cons (fun h => absurd h (by decide +kernel)) (SL.cons (fun h => absurd h (by decide +kernel)) SL.nil))) (fun hHeld => ?_)
          clear hK K0
          try simp only [Act.put, List.setIfInBounds_toArray, List.set_cons_zero, List.set_cons_succ]
          refine wpAnyL_take 0 _ _ (i := 13) (oi := { dst := some 43, op := Op.indexAddr 39 (Operand.tmp 42) (Operand.tmp 40), type := 0, pos := "tree.go:52", after := #[{ on := 12, ground := Ground.data }, { on := 10, ground := Ground.data }, { on := 0, ground := Ground.phase }, { on := 1, ground := Ground.phase }, { on := 2, ground := Ground.phase }, { on := 3, ground := Ground.phase }, { on := 4, ground := Ground.phase }, { on := 5, ground := Ground.phase }, { on := 6, ground := Ground.phase }, { on := 7, ground := Ground.phase }, { on := 8, ground := Ground.phase }, { on := 9, ground := Ground.phase }, { on := 10, ground := Ground.phase }, { on := 11, ground := Ground.phase }, { on := 12, ground := Ground.phase }, { on := 17, ground := Ground.gcOnly Departure.appendInPlace }], guard := none }) (v := ?_) rfl (by kernel_rfl) (by kernel_rfl) (by kernel_rfl) (fun _ _ _ h => h) rfl (by kernel_rfl) (by kernel_rfl) (by kernel_rfl) (Or.inl ⟨by rfl, ?_⟩) hHeld (fun hHeld => ?_)
          rotate_left
          · intro w hSw
            (try dsimp only at hSw)
            go_simp
            try with_reducible rfl
          try simp only [Act.put, List.setIfInBounds_toArray, List.set_cons_zero, List.set_cons_succ]
          refine wpAnyL_take 0 _ _ (i := 15) (oi := { dst := some 44, op := Op.indexAddr 39 (Operand.tmp 30) (Operand.tmp 31), type := 0, pos := "tree.go:52", after := #[{ on := 0, ground := Ground.data }, { on := 1, ground := Ground.data }, { on := 0, ground := Ground.phase }, { on := 1, ground := Ground.phase }, { on := 2, ground := Ground.phase }, { on := 3, ground := Ground.phase }, { on := 4, ground := Ground.phase }, { on := 5, ground := Ground.phase }, { on := 6, ground := Ground.phase }, { on := 7, ground := Ground.phase }, { on := 8, ground := Ground.phase }, { on := 9, ground := Ground.phase }, { on := 10, ground := Ground.phase }, { on := 11, ground := Ground.phase }, { on := 12, ground := Ground.phase }, { on := 13, ground := Ground.textOnly Departure.appendInPlace }, { on := 14, ground := Ground.textOnly Departure.appendInPlace }], guard := none }) (v := ?_) rfl (by kernel_rfl) (by kernel_rfl) (by kernel_rfl) (fun _ _ _ h => h) rfl (by kernel_rfl) (by kernel_rfl) (by kernel_rfl) (Or.inl ⟨by rfl, ?_⟩) hHeld (fun hHeld => ?_)
          rotate_left
          · intro w hSw
            (try dsimp only at hSw)
            go_simp
            try with_reducible rfl
          try simp only [Act.put, List.setIfInBounds_toArray, List.set_cons_zero, List.set_cons_succ]
          refine wpAnyL_take 0 _ _ (i := 16) (oi := { dst := some 45, op := Op.fieldAddr 41 (Operand.tmp 44) 2, type := 0, pos := "tree.go:52", after := #[{ on := 15, ground := Ground.data }, { on := 0, ground := Ground.phase }, { on := 1, ground := Ground.phase }, { on := 2, ground := Ground.phase }, { on := 3, ground := Ground.phase }, { on := 4, ground := Ground.phase }, { on := 5, ground := Ground.phase }, { on := 6, ground := Ground.phase }, { on := 7, ground := Ground.phase }, { on := 8, ground := Ground.phase }, { on := 9, ground := Ground.phase }, { on := 10, ground := Ground.phase }, { on := 11, ground := Ground.phase }, { on := 12, ground := Ground.phase }, { on := 13, ground := Ground.textOnly Departure.appendInPlace }, { on := 14, ground := Ground.textOnly Departure.appendInPlace }], guard := none }) (v := ?_) rfl (by kernel_rfl) (by kernel_rfl) (by kernel_rfl) (fun _ _ _ h => h) rfl (by kernel_rfl) (by kernel_rfl) (by kernel_rfl) (Or.inl ⟨by rfl, ?_⟩) hHeld (fun hHeld => ?_)
          rotate_left
          · intro w hSw
            (try dsimp only at hSw)
            go_simp
            try with_reducible rfl
          try simp only [Act.put, List.setIfInBounds_toArray, List.set_cons_zero, List.set_cons_succ]
          refine wpAnyL_ready (rs := [14, 17]) (by kernel_rfl) (by simp) ?_
          refine AllReadyL.cons (o := { dst := none, op := Op.store 41 (Operand.tmp 43) (Operand.tmp 39), type := 0, pos := "tree.go:52", after := #[{ on := 13, ground := Ground.data }, { on := 9, ground := Ground.data }, { on := 12, ground := Ground.chain }, { on := 0, ground := Ground.phase }, { on := 1, ground := Ground.phase }, { on := 2, ground := Ground.phase }, { on := 3, ground := Ground.phase }, { on := 4, ground := Ground.phase }, { on := 5, ground := Ground.phase }, { on := 6, ground := Ground.phase }, { on := 7, ground := Ground.phase }, { on := 8, ground := Ground.phase }, { on := 9, ground := Ground.phase }, { on := 10, ground := Ground.phase }, { on := 11, ground := Ground.phase }, { on := 12, ground := Ground.phase }, { on := 17, ground := Ground.gcOnly Departure.appendInPlace }], guard := none }) rfl (fun K0 hK => ?_) (AllReadyL.cons (o := { dst := none, op := Op.store 39 (Operand.tmp 45) (Operand.tmp 42), type := 0, pos := "tree.go:52", after := #[{ on := 16, ground := Ground.data }, { on := 12, ground := Ground.data }, { on := 12, ground := Ground.chain }, { on := 14, ground := Ground.textOnly Departure.appendInPlace }, { on := 0, ground := Ground.phase }, { on := 1, ground := Ground.phase }, { on := 2, ground := Ground.phase }, { on := 3, ground := Ground.phase }, { on := 4, ground := Ground.phase }, { on := 5, ground := Ground.phase }, { on := 6, ground := Ground.phase }, { on := 7, ground := Ground.phase }, { on := 8, ground := Ground.phase }, { on := 9, ground := Ground.phase }, { on := 10, ground := Ground.phase }, { on := 11, ground := Ground.phase }, { on := 12, ground := Ground.phase }, { on := 13, ground := Ground.textOnly Departure.appendInPlace }, { on := 14, ground := Ground.textOnly Departure.appendInPlace }], guard := none }) rfl (fun K0 hK => ?_) AllReadyL.nil)
          · skip
            go_simp
            refine hK.out _ _ (SL.cons (fun _ => trivial) (SL.cons (fun h => absurd h (by decide +kernel)) (SL.cons (fun h => absurd h (by decide +kernel)) SL.nil))) (fun hHeld => ?_)
            clear hK K0
            try simp only [Act.put, List.setIfInBounds_toArray, List.set_cons_zero, List.set_cons_succ]
            obtain ⟨w9, hw9⟩ : ∃ w9, w9 = (((((w8.setCell ⟨g8, o.f.len * 5, none⟩ (.bool false)).setCell ⟨g8, o.f.len * 5 + 1, none⟩ (.int .u8 k)).setCell ⟨g8, o.f.len * 5 + 2, none⟩ (.string s)).setCell ⟨g8, o.f.len * 5 + 3, none⟩ (.int .i64 a)).setCell ⟨g8, o.f.len * 5 + 4, none⟩ (.slice none 0 0)) := ⟨_, rfl⟩
            have ho9 : Only (fun z => z = g8) w8 w9 := by rw [hw9]; exact only_set5' w8 g8 _ _ _ _ _ _ _ _ _ _
            have x17' := ho9.cell x17 (fun e => HW8.out.2.2.2.2.1 e.symm)
            have f17' : w9.frozen? ⟨g7, L0 * 5 + 4, none⟩ = false := by rw [ho9.frozen (a := ⟨g7, L0 * 5 + 4, none⟩) (World.block_lt_of_cell? w8 _ x17) (fun e => HW8.out.2.2.2.2.1 e.symm)]; exact f17
            rw [← hw9]
            clear ho9 hHeld
            refine wpAnyL_ready (rs := [17]) (by kernel_rfl) (by simp) ?_
            refine AllReadyL.cons (o := { dst := none, op := Op.store 39 (Operand.tmp 45) (Operand.tmp 42), type := 0, pos := "tree.go:52", after := #[{ on := 16, ground := Ground.data }, { on := 12, ground := Ground.data }, { on := 12, ground := Ground.chain }, { on := 14, ground := Ground.textOnly Departure.appendInPlace }, { on := 0, ground := Ground.phase }, { on := 1, ground := Ground.phase }, { on := 2, ground := Ground.phase }, { on := 3, ground := Ground.phase }, { on := 4, ground := Ground.phase }, { on := 5, ground := Ground.phase }, { on := 6, ground := Ground.phase }, { on := 7, ground := Ground.phase }, { on := 8, ground := Ground.phase }, { on := 9, ground := Ground.phase }, { on := 10, ground := Ground.phase }, { on := 11, ground := Ground.phase }, { on := 12, ground := Ground.phase }, { on := 13, ground := Ground.textOnly Departure.appendInPlace }, { on := 14, ground := Ground.textOnly Departure.appendInPlace }], guard := none }) rfl (fun K0 hK => ?_) AllReadyL.nil
            go_simp
            refine hK.out _ _ (SL.cons (fun _ => trivial) (SL.cons (fun h => absurd h (by decide +kernel)) (SL.cons (fun h => absurd h (by decide +kernel)) SL.nil))) (fun hHeld => ?_)
            clear hK K0
            try simp only [Act.put, List.setIfInBounds_toArray, List.set_cons_zero, List.set_cons_succ]
            have HZ := Lib.hid (sets_ab HW8.out.1 HW8.out.2.2.2.2.2 HW8.out.2.1 HW8.out.2.2.2.2.1 (i := L0 * 5 + 4) (.bool false) (.int .u8 k) (.string s) (.int .i64 a) (.slice none 0 0) (.slice (some ⟨g8, 0, none⟩) (o.f.len + 1) c8))
            clear hHeld
            refine wpAnyL_done (by kernel_rfl) ?_ _
            obtain ⟨wZ, hwZ⟩ : ∃ wZ, wZ = ((((((w8.setCell ⟨g8, o.f.len * 5, none⟩ (.bool false)).setCell ⟨g8, o.f.len * 5 + 1, none⟩ (.int .u8 k)).setCell ⟨g8, o.f.len * 5 + 2, none⟩ (.string s)).setCell ⟨g8, o.f.len * 5 + 3, none⟩ (.int .i64 a)).setCell ⟨g8, o.f.len * 5 + 4, none⟩ (.slice none 0 0)).setCell ⟨g7, L0 * 5 + 4, none⟩ (.slice (some ⟨g8, 0, none⟩) (o.f.len + 1) c8)) := ⟨_, rfl⟩
            rw [← hwZ] at HZ ⊢
            have hoZ : Only (fun z => (Value.slice q o.f.len cq).ownBlock = some z ∨ (Value.slice (some ⟨g8, 0, none⟩) (o.f.len + 1) c8).ownBlock = some z ∨ z = g7) w4 wZ := (HW8.out.2.2.1.mono (fun z _ h => Or.inl h)).trans (HZ.out.2.2.mono (fun z _ h => h.elim (fun e => Or.inr (Or.inl (by rw [e]; rfl))) (fun e => Or.inr (Or.inr e))))
            have hbd : ∀ z, ((Value.slice q o.f.len cq).ownBlock = some z ∨ (Value.slice (some ⟨g8, 0, none⟩) (o.f.len + 1) c8).ownBlock = some z ∨ z = g7) → W.heap.size + 1 ≤ z := fun z h => by
              rcases h with h | h | h
              · exact (own_lt H4.out.2.2.2.2.2.1 h).1
              · exact (own_lt HW8.out.1 h).1
              · rw [h]; exact (own_lt H4.out.2.2.2.1 (k := g7) rfl).1
            obtain ⟨KZ, hSZ⟩ : ∃ KZ, StAt wZ KZ _ _ _ _ := ⟨_, StAt.grow (l := false) (k := k) (s := s) (a := a) (x := .nil) (qx := none) (cx := 0) H4.out.1 (j := L0) (by have := HST.out.2.2.2.1; omega) (HST.out.2.2.2.2.1 _) H4.out.2.2.2.1 H4.out.2.2.2.2.1 H4.out.2.2.2.2.2.2 HX.out.2.2.2.2 trivial (Nat.le_refl _) (by simp [Fo.len]) HW8.out.2.2.2.1 HZ.out.1 HZ.out.2.1 hoZ⟩
            have HEZ := Lib.hid (And.intro hSZ (And.intro (H4.out.2.1.only hoZ (fun h => by have := hbd _ h; omega)) (H4.out.2.2.1.trans (hoZ.below (B := W.heap.size) (fun z h => by have := hbd _ h; omega) H4.out.2.2.1.size))))
            clear hSZ hoZ hbd hwZ hw9
            go_wp2_with fail
            go_roundg G
            case measure => omega
            case rel =>
              refine ⟨i + 1, d, m, st.set L0 ⟨o.s, o.a, o.f.snoc false k s a .nil⟩, KZ, some ⟨g7, 0, none⟩, cv, by have := HG.out; omega, rfl, rfl, by go_num, by rw [List.length_set, HNN.out], Lib.hid ⟨HLI.out, ?_, HEZ.out.2.1, HEZ.out.2.2⟩⟩
              have := HEZ.out.1
              rw [List.length_set]; exact this
          · skip
            go_simp
            refine hK.out _ _ (SL.cons (fun _ => trivial) (SL.cons (fun h => absurd h (by decide +kernel)) (SL.cons (fun h => absurd h (by decide +kernel)) SL.nil))) (fun hHeld => ?_)
            clear hK K0
            try simp only [Act.put, List.setIfInBounds_toArray, List.set_cons_zero, List.set_cons_succ]
            obtain ⟨w9, hw9⟩ : ∃ w9, w9 = (w8.setCell ⟨g7, L0 * 5 + 4, none⟩ (.slice (some ⟨g8, 0, none⟩) (o.f.len + 1) c8)) := ⟨_, rfl⟩
            have ho9 : Only (fun z => z = g7) w8 w9 := by rw [hw9]; exact Only.of_setCell w8 ⟨g7, L0 * 5 + 4, none⟩ _
            have u0' := ho9.cell u0 (fun e => HW8.out.2.2.2.2.1 e)
            have f0' : w9.frozen? ⟨g8, o.f.len * 5, none⟩ = false := by rw [ho9.frozen (a := ⟨g8, o.f.len * 5, none⟩) (World.block_lt_of_cell? w8 _ u0) (fun e => HW8.out.2.2.2.2.1 e)]; exact f0_
            have u1' := ho9.cell u1 (fun e => HW8.out.2.2.2.2.1 e)
            have f1' : w9.frozen? ⟨g8, o.f.len * 5 + 1, none⟩ = false := by rw [ho9.frozen (a := ⟨g8, o.f.len * 5 + 1, none⟩) (World.block_lt_of_cell? w8 _ u1) (fun e => HW8.out.2.2.2.2.1 e)]; exact f1_
            have u2' := ho9.cell u2 (fun e => HW8.out.2.2.2.2.1 e)
            have f2' : w9.frozen? ⟨g8, o.f.len * 5 + 2, none⟩ = false := by rw [ho9.frozen (a := ⟨g8, o.f.len * 5 + 2, none⟩) (World.block_lt_of_cell? w8 _ u2) (fun e => HW8.out.2.2.2.2.1 e)]; exact f2_
            have u3' := ho9.cell u3 (fun e => HW8.out.2.2.2.2.1 e)
            have f3' : w9.frozen? ⟨g8, o.f.len * 5 + 3, none⟩ = false := by rw [ho9.frozen (a := ⟨g8, o.f.len * 5 + 3, none⟩) (World.block_lt_of_cell? w8 _ u3) (fun e => HW8.out.2.2.2.2.1 e)]; exact f3_
            have u4' := ho9.cell u4 (fun e => HW8.out.2.2.2.2.1 e)
            have f4' : w9.frozen? ⟨g8, o.f.len * 5 + 4, none⟩ = false := by rw [ho9.frozen (a := ⟨g8, o.f.len * 5 + 4, none⟩) (World.block_lt_of_cell? w8 _ u4) (fun e => HW8.out.2.2.2.2.1 e)]; exact f4_
            rw [← hw9]
            clear ho9 hHeld
            refine wpAnyL_ready (rs := [14]) (by kernel_rfl) (by simp) ?_
            refine AllReadyL.cons (o := { dst := none, op := Op.store 41 (Operand.tmp 43) (Operand.tmp 39), type := 0, pos := "tree.go:52", after := #[{ on := 13, ground := Ground.data }, { on := 9, ground := Ground.data }, { on := 12, ground := Ground.chain }, { on := 0, ground := Ground.phase }, { on := 1, ground := Ground.phase }, { on := 2, ground := Ground.phase }, { on := 3, ground := Ground.phase }, { on := 4, ground := Ground.phase }, { on := 5, ground := Ground.phase }, { on := 6, ground := Ground.phase }, { on := 7, ground := Ground.phase }, { on := 8, ground := Ground.phase }, { on := 9, ground := Ground.phase }, { on := 10, ground := Ground.phase }, { on := 11, ground := Ground.phase }, { on := 12, ground := Ground.phase }, { on := 17, ground := Ground.gcOnly Departure.appendInPlace }], guard := none }) rfl (fun K0 hK => ?_) AllReadyL.nil
            go_simp
            refine hK.out _ _ (SL.cons (fun _ => trivial) (SL.cons (fun h => absurd h (by decide +kernel)) (SL.cons (fun h => absurd h (by decide +kernel)) SL.nil))) (fun hHeld => ?_)
            clear hK K0
            try simp only [Act.put, List.setIfInBounds_toArray, List.set_cons_zero, List.set_cons_succ]
            have HZ := Lib.hid (sets_ba HW8.out.1 HW8.out.2.2.2.2.2 HW8.out.2.1 HW8.out.2.2.2.2.1 (i := L0 * 5 + 4) (.bool false) (.int .u8 k) (.string s) (.int .i64 a) (.slice none 0 0) (.slice (some ⟨g8, 0, none⟩) (o.f.len + 1) c8))
            clear hHeld
            refine wpAnyL_done (by kernel_rfl) ?_ _
            obtain ⟨wZ, hwZ⟩ : ∃ wZ, wZ = ((((((w8.setCell ⟨g7, L0 * 5 + 4, none⟩ (.slice (some ⟨g8, 0, none⟩) (o.f.len + 1) c8)).setCell ⟨g8, o.f.len * 5, none⟩ (.bool false)).setCell ⟨g8, o.f.len * 5 + 1, none⟩ (.int .u8 k)).setCell ⟨g8, o.f.len * 5 + 2, none⟩ (.string s)).setCell ⟨g8, o.f.len * 5 + 3, none⟩ (.int .i64 a)).setCell ⟨g8, o.f.len * 5 + 4, none⟩ (.slice none 0 0)) := ⟨_, rfl⟩
            rw [← hwZ] at HZ ⊢
            have hoZ : Only (fun z => (Value.slice q o.f.len cq).ownBlock = some z ∨ (Value.slice (some ⟨g8, 0, none⟩) (o.f.len + 1) c8).ownBlock = some z ∨ z = g7) w4 wZ := (HW8.out.2.2.1.mono (fun z _ h => Or.inl h)).trans (HZ.out.2.2.mono (fun z _ h => h.elim (fun e => Or.inr (Or.inl (by rw [e]; rfl))) (fun e => Or.inr (Or.inr e))))
            have hbd : ∀ z, ((Value.slice q o.f.len cq).ownBlock = some z ∨ (Value.slice (some ⟨g8, 0, none⟩) (o.f.len + 1) c8).ownBlock = some z ∨ z = g7) → W.heap.size + 1 ≤ z := fun z h => by
              rcases h with h | h | h
              · exact (own_lt H4.out.2.2.2.2.2.1 h).1
              · exact (own_lt HW8.out.1 h).1
              · rw [h]; exact (own_lt H4.out.2.2.2.1 (k := g7) rfl).1
            obtain ⟨KZ, hSZ⟩ : ∃ KZ, StAt wZ KZ _ _ _ _ := ⟨_, StAt.grow (l := false) (k := k) (s := s) (a := a) (x := .nil) (qx := none) (cx := 0) H4.out.1 (j := L0) (by have := HST.out.2.2.2.1; omega) (HST.out.2.2.2.2.1 _) H4.out.2.2.2.1 H4.out.2.2.2.2.1 H4.out.2.2.2.2.2.2 HX.out.2.2.2.2 trivial (Nat.le_refl _) (by simp [Fo.len]) HW8.out.2.2.2.1 HZ.out.1 HZ.out.2.1 hoZ⟩
            have HEZ := Lib.hid (And.intro hSZ (And.intro (H4.out.2.1.only hoZ (fun h => by have := hbd _ h; omega)) (H4.out.2.2.1.trans (hoZ.below (B := W.heap.size) (fun z h => by have := hbd _ h; omega) H4.out.2.2.1.size))))
            clear hSZ hoZ hbd hwZ hw9
            go_wp2_with fail
            go_roundg G
            case measure => omega
            case rel =>
              refine ⟨i + 1, d, m, st.set L0 ⟨o.s, o.a, o.f.snoc false k s a .nil⟩, KZ, some ⟨g7, 0, none⟩, cv, by have := HG.out; omega, rfl, rfl, by go_num, by rw [List.length_set, HNN.out], Lib.hid ⟨HLI.out, ?_, HEZ.out.2.1, HEZ.out.2.2⟩⟩
              have := HEZ.out.1
              rw [List.length_set]; exact this
      · have hm201 : ¬ (m : Int) ≤ 200 := by omega
        have HLI := Lib.hid (hL.leaf (st' := st) hlt' (by rw [← HT.out]; exact h1) (by rw [← HT.out]; exact h2) hd0 rfl (fun o ho => by have := hL.kids o ho; omega) (fun hm => absurd hm hm200))
        have HM := Lib.hid (And.intro hS (And.intro hB hBl))
        clear hL hS hB hBl
        go_wp2_with fail
        go_roundg G
        case measure => omega
        case rel =>
          exact ⟨i + 1, d, m, st, K, pv, cv, by have := HG.out; omega, rfl, rfl, by go_num, rfl, Lib.hid ⟨HLI.out, HM.out.1, HM.out.2.1, HM.out.2.2⟩⟩
    · obtain rfl : i = n := by omega
      obtain ⟨j1, j2, ⟨b0, b1, b2, b3, b4, bf⟩, j4⟩ := HI.out
      have HO := Lib.hid (show NextO l (f0 : Int) false 0 ⟨#[]⟩ 0 .nil (i : Int) 4 from by have := j1; rw [HL.out] at this ⊢; exact this.short HF.out.1 HF.out.2)
      have HB := Lib.hid j4
      clear HI j1 j2 j4
      go_wp2_with fail
      refine bodyPost_ret (v := .tuple #[.agg #[.bool false, .int .u8 0, .string ⟨#[]⟩, .int .i64 0, .slice none 0 0], .int .i64 (i : Int), .int .i64 4]) (by simp [results, Tryd.results42, go_sem, b0, b1, b2, b3, b4]) rfl (next_zero ?_ HO.out)
      exact HB.out.trans ((only_set5 wA W.heap.size _ _ _ _ _).below (fun j hj => Nat.le_of_eq hj.symm) HB.out.size)
end Go.Proofs.YtlifankiljbdjaaDoor
namespace Go.Proofs.YtlifankiljbdjaaDoor
open Go Go.RowKit

set_option maxRecDepth 100000 in
set_option maxHeartbeats 6400000 in
theorem next21 (p : Option Addr) (c : Nat) (l : List TkA) (z : Int) (W : World) (h1 : TksA W p l) (hc : l.length ≤ c) (hn : l.length ≤ 1048576) (hs : ∀ t ∈ l, t.s.size ≤ 281474976710656) :
    Calls Tryd.prog 21 #[.slice p l.length c, .int .i64 z] W (NextE l z W) := by
  obtain ⟨n, hl⟩ : ∃ n, n = l.length := ⟨_, rfl⟩
  have H1 := Lib.hid h1
  have HL := Lib.hid hl
  rw [← hl] at hc hn ⊢
  clear h1 hl
  have n1 : (n : Int) ≤ 1048576 := by omega
  by_cases hz : z < 0
  · have HO := Lib.hid (NextO.arg (l := l) (z := z) (Or.inl hz))
    go_enter Tryd.func21, Tryd.ntmps21
    go_wp2_with fail
    refine bodyPost_ret (v := .tuple #[.agg #[.bool false, .int .u8 0, .string ⟨#[]⟩, .int .i64 0, .slice none 0 0], .int .i64 z, .int .i64 2]) (by simp [results, Tryd.results21, go_sem]) rfl (next_zero ?_ HO.out)
    repeat (first | exact Below.refl _ _ | refine Below.alloc ?_ (by simp) _ | refine Below.setCell ?_ (by simp) _)
  by_cases hz2 : (n : Int) < z
  · have HO := Lib.hid (NextO.arg (l := l) (z := z) (Or.inr (by rw [← HL.out]; exact hz2)))
    have hz3 : 0 ≤ z := by omega
    go_enter Tryd.func21, Tryd.ntmps21
    go_wp2_with fail
    refine bodyPost_ret (v := .tuple #[.agg #[.bool false, .int .u8 0, .string ⟨#[]⟩, .int .i64 0, .slice none 0 0], .int .i64 z, .int .i64 2]) (by simp [results, Tryd.results21, go_sem]) rfl (next_zero ?_ HO.out)
    repeat (first | exact Below.refl _ _ | refine Below.alloc ?_ (by simp) _ | refine Below.setCell ?_ (by simp) _)
  obtain ⟨i, rfl⟩ : ∃ i : Nat, z = (i : Int) := ⟨z.toNat, by omega⟩
  have hin : i ≤ n := by omega
  have z0 : (0 : Int) ≤ (i : Int) := by omega
  have z1 : (i : Int) ≤ (n : Int) := by omega
  clear hz hz2
  by_cases hiz : i = n
  · have HO := Lib.hid (show NextO l (i : Int) false 0 ⟨#[]⟩ 0 .nil (i : Int) 4 from by rw [hiz, HL.out]; exact NextO.short)
    subst hiz
    go_enter Tryd.func21, Tryd.ntmps21
    go_wp2_with fail
    refine bodyPost_ret (v := .tuple #[.agg #[.bool false, .int .u8 0, .string ⟨#[]⟩, .int .i64 0, .slice none 0 0], .int .i64 (i : Int), .int .i64 4]) (by simp [results, Tryd.results21, go_sem]) rfl (next_zero ?_ HO.out)
    repeat (first | exact Below.refl _ _ | refine Below.alloc ?_ (by simp) _ | refine Below.setCell ?_ (by simp) _)
  have hlt : i < l.length := by rw [← HL.out]; omega
  have z2 : (i : Int) < (n : Int) := by omega
  have z3 : ¬ (i : Int) = (n : Int) := by omega
  obtain ⟨b, off, rfl, x0, x1, x2⟩ := (H1.out.later (below1 W (.cells #[.bool false, .int .u8 0, .string ⟨#[]⟩, .int .i64 0, .slice none 0 0] 41))) i hlt
  have hd := drop_cons hlt
  generalize l[i] = t at *
  generalize l.drop (i + 1) = r at *
  have HD := Lib.hid hd
  clear hd hlt
  by_cases h2 : t.k = 2
  · have HO := Lib.hid (NextO.close HD.out h2)
    rw [h2] at x0
    clear h2
    go_enter Tryd.func21, Tryd.ntmps21
    go_wp2_with fail
    refine bodyPost_ret (v := .tuple #[.agg #[.bool false, .int .u8 0, .string ⟨#[]⟩, .int .i64 0, .slice none 0 0], .int .i64 (i : Int), .int .i64 41]) (by simp [results, Tryd.results21, go_sem]) rfl (next_zero ?_ HO.out)
    repeat (first | exact Below.refl _ _ | refine Below.alloc ?_ (by simp) _ | refine Below.setCell ?_ (by simp) _)
  have e2 : (t.k == 2) = false := by simp [h2]
  have hsz : t.s.size ≤ 281474976710656 := hs t (List.mem_of_mem_drop (i := i) (by rw [HD.out]; simp))
  by_cases hk1 : t.k = 1
  · have hli := list42 (some ⟨b, off, none⟩) c i l (W.alloc (.cells #[.bool false, .int .u8 0, .string ⟨#[]⟩, .int .i64 0, .slice none 0 0] 41)) (H1.out.later (below1 _ _)) (by rw [← HL.out]; exact hc) (by rw [← HL.out]; exact hn) hs t r HD.out hk1
    rw [← HL.out] at hli
    have HLI := Lib.hid hli
    have HBX := Lib.hid (box_new W false 0 ⟨#[]⟩ 0 (.slice none 0 0))
    rw [hk1] at x0
    clear h2 e2 hli hk1 hs hsz
    go_enter Tryd.func21, Tryd.ntmps21
    go_wp2_with fail
    refine HLI.out.mono ?_
    rintro e w1 ⟨q, c', lb, k, s, a, g, m, er, rfl, hq1, hq2, hb1, hO⟩
    simp only [trV]
    obtain ⟨b0, b1, b2, b3, b4, bf⟩ := HBX.out.later hb1
    have HB1 := Lib.hid ((below1 W (.cells #[.bool false, .int .u8 0, .string ⟨#[]⟩, .int .i64 0, .slice none 0 0] 41)).trans (hb1.mono (by simp)))
    have HQ := Lib.hid (And.intro hq1 (And.intro (show FoIn w1 (fun z => W.heap.size + 1 ≤ z) g q from hq2.mono (fun z hz _ => by have h : (W.alloc _).heap.size ≤ z := hz; simpa using h)) hO))
    clear hq1 hq2 hb1 hO
    go_wp2_with fail
    refine bodyPost_ret (v := .tuple #[trV lb k s a q g.len c', .int .i64 m, .int .i64 er]) (by simp [results, Tryd.results21, go_sem, b0, b1, b2, b3, b4, trV]) rfl ?_
    refine ⟨q, c', lb, k, s, a, g, _, _, rfl, HQ.out.1, ?_, ?_, HQ.out.2.2⟩
    · exact (HQ.out.2.1.only (only_set5 w1 W.heap.size _ _ _ _ _) (fun z hz e => by omega)).mono (fun z hz _ => by omega)
    · exact HB1.out.trans ((only_set5 w1 W.heap.size _ _ _ _ _).below (fun j hj => Nat.le_of_eq hj.symm) HB1.out.size)
  · have e1 : (t.k != 1) = true := by simp [hk1]
    have hE : endF (t :: r) 0 i = some (i + 1) := by rw [endF, opn_else hk1 h2, if_pos rfl]
    have htk : (t :: r).take (i + 1 - i) = [t] := by rw [show i + 1 - i = 1 from by omega]; rfl
    have HO := Lib.hid (show NextO l (i : Int) false t.k t.s t.a .nil ((i : Int) + 1) 0 from by
      have := NextO.ok HD.out h2 hE (by rw [htk, mostF, mostF]; simp [hk1]) (by rw [htk]; exact .leaf hk1 h2)
      simpa using this)
    have HBX := Lib.hid (box_new W false 0 ⟨#[]⟩ 0 (.slice none 0 0))
    obtain ⟨k, s, a⟩ := t
    simp only at x0 x1 x2 e1 e2 hsz
    clear h2 hk1 hE htk hs
    go_enter Tryd.func21, Tryd.ntmps21
    go_wp2_with fail
    refine (leaf41 k s a _ hsz).mono ?_
    rintro e w1 ⟨rfl, hb1⟩
    obtain ⟨b0, b1, b2, b3, b4, bf⟩ := HBX.out.later hb1
    have HB1 := Lib.hid ((below1 W (.cells #[.bool false, .int .u8 0, .string ⟨#[]⟩, .int .i64 0, .slice none 0 0] 41)).trans (hb1.mono (by simp)))
    clear hb1
    go_wp2_with fail
    refine bodyPost_ret (v := .tuple #[trV false k s a none 0 0, .int .i64 ((i : Int) + 1), .int .i64 0]) (by simp [results, Tryd.results21, go_sem, b0, b1, b2, b3, b4, trV]) rfl ?_
    refine ⟨none, 0, false, k, s, a, .nil, _, _, rfl, Nat.le_refl _, trivial, ?_, HO.out⟩
    exact HB1.out.trans ((only_set5 w1 W.heap.size _ _ _ _ _).below (fun j hj => Nat.le_of_eq hj.symm) HB1.out.size)
end Go.Proofs.YtlifankiljbdjaaDoor
namespace Go.Proofs.YtlifankiljbdjaaDoor
open Go Go.RowKit

set_option maxRecDepth 100000 in
set_option maxHeartbeats 6400000 in
theorem all24 (p : Option Addr) (c : Nat) (l : List TkA) (W : World) (h1 : TksA W p l) (hc : l.length ≤ c) (hn : l.length ≤ 1048576) (hs : ∀ t ∈ l, t.s.size ≤ 281474976710656) :
    Calls Tryd.prog 24 #[.slice p l.length c] W (AllE l W) := by
  obtain ⟨n, hl⟩ : ∃ n, n = l.length := ⟨_, rfl⟩
  have hnx := fun (z : Int) (w : World) (h : Below W.heap.size W w) => next21 p c l z w (h1.later h) hc hn hs
  have HL := Lib.hid hl
  have HNX := Lib.hid hnx
  rw [← hl] at hc hn ⊢
  clear h1 hl hnx hs
  have n1 : (n : Int) ≤ 1048576 := by omega
  obtain ⟨i0, hi, hz0, hz1, hz2⟩ := info41
  go_enter Tryd.func24, Tryd.ntmps24
  go_wp2_with fail
  go_loopg [5, 6, 7, 8, 9] n (fun gk s5 s6 s7 s8 s9 wx => ∃ (i : Nat) (fd : Fo) (pv : Option Addr) (cv : Nat), n ≤ i + gk ∧ i ≤ n ∧ s6 = .int .i64 (i : Int) ∧ s5 = .slice pv fd.len cv ∧ Hid (fd.len ≤ i ∧ OwnF wx W.heap.size (.slice pv fd.len cv) fd ∧ Below W.heap.size W wx ∧ (∀ f z er, AllO l i f z er → AllO l 0 (fd.app f) z er)))
  case atStart => exact ⟨0, .nil, none, 0, by omega, by omega, rfl, rfl, Lib.hid ⟨Nat.le_refl _, OwnF.nil _ _, Below.refl _ _, fun f z er h => h⟩⟩
  case round =>
    obtain ⟨i, fd, pv, cv, hk, hin, rfl, rfl, HI⟩ := hrel
    have HG := Lib.hid hk
    clear hk
    obtain ⟨wA, hwA⟩ : ∃ w, w = wr := ⟨_, rfl⟩
    subst hwA
    by_cases hlt : i < n
    · have z0 : (i : Int) < (n : Int) := by omega
      have HC := Lib.hid (HNX.out (i : Int) wA HI.out.2.2.1)
      rw [← HL.out] at HC
      go_wp2_with fail
      refine HC.out.mono ?_
      rintro e w1 ⟨q, c', b, k, s, a, g, m, er, rfl, hq1, hq2, hb1, hO⟩
      simp only [trV]
      obtain ⟨hf1, hf2, hf3, hf4⟩ := HI.out
      clear HI HC
      have hbA := hf3.trans (hb1.mono hf3.size)
      have ho1 := hf2.later hb1
      have hq3 : FoIn w1 (fun x => wA.heap.size ≤ x) g q := hq2
      by_cases her : er = 0
      · subst her
        obtain ⟨m', rfl, him, hml, hgl⟩ := hO.ahead (Or.inl rfl)
        have hnew := box_new (w1.alloc (.cells #[.bool b, .int .u8 k, .string s, .int .i64 a, .slice q g.len c'] 41)) b k s a (.slice q g.len c')
        have hb2 : Below w1.heap.size w1 ((w1.alloc (.cells #[.bool b, .int .u8 k, .string s, .int .i64 a, .slice q g.len c'] 41)).alloc (.cells #[.bool b, .int .u8 k, .string s, .int .i64 a, .slice q g.len c'] 41)) := (below1 w1 _).alloc (by simp) _
        obtain ⟨xs, how, hrw⟩ := ho1.later hb2
        have hq4 := hq3.later hb2
        have hsz : W.heap.size ≤ ((w1.alloc (.cells #[.bool b, .int .u8 k, .string s, .int .i64 a, .slice q g.len c'] 41)).alloc (.cells #[.bool b, .int .u8 k, .string s, .int .i64 a, .slice q g.len c'] 41)).heap.size := (hbA.trans (hb2.mono hbA.size)).size
        have HOW := Lib.hid how
        have HRW := Lib.hid hrw
        have HQ := Lib.hid (And.intro hq1 hq4)
        have HNW := Lib.hid hnew
        have HSZ := Lib.hid hsz
        have HST := Lib.hid (And.intro hf1 (And.intro hf4 (And.intro hO (And.intro him (And.intro hml hgl)))))
        have HB2 := Lib.hid (hbA.trans (hb2.mono hbA.size))
        have HWA := Lib.hid (show wA.heap.size ≤ w1.heap.size ∧ W.heap.size ≤ wA.heap.size ∧ (∀ z, (Value.slice pv fd.len cv).ownBlock = some z → z < wA.heap.size) from ⟨hb1.size, hf3.size, fun z hz => by obtain ⟨xs2, h2, _⟩ := hf2; exact (own_lt h2 hz).2⟩)
        have hfl : fd.len ≤ 1048576 := by omega
        clear how hrw hq1 hq2 hq3 hq4 hnew hsz hf1 hf2 hf3 hf4 hO him hml hgl ho1 hbA hb1 hb2
        go_wp2_with (at_builtin; refine wpList_append_own_at _ rfl _ _ 39 rfl W.heap.size 41 i0 Z41 5 64 Tryd.underlying39 hi hz0 hz1 hz2 rfl (by omega) _ fd.len xs rfl HOW.out ⟨w1.heap.size + 1, 0, none⟩ 1 1 (trC b k s a q g.len c') rfl rfl ?qc2 ?qc3 ?qc4 ?qc5 HSZ.out ?_)
        case qc2 =>
          intro jj u hjj
          rw [Lib.add_plain]
          have e1 : w1.heap.size + 1 = (w1.alloc (.cells #[.bool b, .int .u8 k, .string s, .int .i64 a, .slice q g.len c'] 41)).heap.size := by simp
          rw [e1]
          match jj, hjj with
          | 0, hjj => cases hjj; exact HNW.out.c0
          | 1, hjj => cases hjj; exact HNW.out.c1
          | 2, hjj => cases hjj; exact HNW.out.c2
          | 3, hjj => cases hjj; exact HNW.out.c3
          | 4, hjj => cases hjj; exact HNW.out.c4
        case qc3 => intro u hu; simp [trC] at hu; rcases hu with rfl | rfl | rfl | rfl | rfl <;> rfl
        case qc4 => have hml : maxLen = 9223372036854775807 := rfl; omega
        case qc5 => omega
        intro v8 w8 hown hgrow hnil_ hloc
        have hpush := OwnF.push (N := wA.heap.size) HOW.out HRW.out HWA.out.2.1 HWA.out.2.2 HQ.out.2 HQ.out.1 (by have := HST.out; have := HL.out; omega) hown hgrow (by simpa using hloc)
        have hb8 := HB2.out.trans ((Only.of_grown hgrow).below (B := W.heap.size) (fun j hj => (own_lt HOW.out hj).1) HB2.out.size)
        obtain ⟨p8, c8, hv, hA_⟩ := own_shape hown
        subst hv
        have HE := Lib.hid (And.intro hpush hb8)
        clear hown hgrow hnil_ hloc hpush hb8 hA_
        obtain ⟨G, rfl⟩ : ∃ G, gk = G + 1 := ⟨gk - 1, by have := HG.out; omega⟩
        go_wp2_with fail
        go_roundg G
        case measure => omega
        case rel =>
          obtain ⟨h1, h2, h3, h4, h5, h6⟩ := HST.out
          have hls : (fd.snoc b k s a g).len = fd.len + 1 := Fo.len_snoc _ _ _ _ _ _
          refine ⟨m', fd.snoc b k s a g, p8, c8, by have := HG.out; omega, by rw [HL.out]; exact h5, rfl, by rw [hls], Lib.hid ⟨by rw [hls]; omega, by rw [hls]; exact HE.out.1, HE.out.2, fun f z er h => ?_⟩⟩
          rw [Fo.snoc_app]
          exact h2 _ _ _ (.ok (by rw [← HL.out]; exact hlt) h3 h)
      by_cases her2 : er = 40
      · subst her2
        obtain ⟨m', rfl, him, hml, hgl⟩ := hO.ahead (Or.inr rfl)
        have hb2 := below1 w1 (.cells #[.bool b, .int .u8 k, .string s, .int .i64 a, .slice q g.len c'] 41)
        have HOW := Lib.hid ho1
        have HST := Lib.hid (And.intro hf1 (And.intro hf4 (And.intro hO (And.intro him hml))))
        have HB2 := Lib.hid (hbA.trans (hb2.mono hbA.size))
        have HWA := Lib.hid (show wA.heap.size ≤ w1.heap.size ∧ W.heap.size ≤ wA.heap.size ∧ (∀ z, (Value.slice pv fd.len cv).ownBlock = some z → z < wA.heap.size) from ⟨hb1.size, hf3.size, fun z hz => by obtain ⟨xs2, h2, _⟩ := hf2; exact (own_lt h2 hz).2⟩)
        have hfl : fd.len ≤ 1048576 := by omega
        clear hq1 hq2 hq3 hf1 hf2 hf3 hf4 hO him hml hgl ho1 hbA hb1 hb2
        have HBX := Lib.hid (box_new w1 b k s a (.slice q g.len c'))
        go_wp2_with fail
        refine (placeholder46 _).mono ?_
        rintro e w3 ⟨q3, rfl, hd3, hb3⟩
        have hd3' : FoIn w3 (fun x => w1.heap.size + 1 ≤ x) deepF q3 := hd3.mono (fun z hz _ => by have h2 : (w1.alloc (.cells #[.bool b, .int .u8 k, .string s, .int .i64 a, .slice q g.len c'] 41)).heap.size ≤ z := hz; simpa using h2)
        simp only [trV]
        obtain ⟨b0, b1, b2, b3, b4, bf⟩ := HBX.out.later hb3
        have ho4 : Only (fun z => z = w1.heap.size) w3 (((((w3.setCell ⟨w1.heap.size, 0, none⟩ (.bool true)).setCell ⟨w1.heap.size, 1, none⟩ (.int .u8 1)).setCell ⟨w1.heap.size, 2, none⟩ (.string ⟨#[40]⟩)).setCell ⟨w1.heap.size, 3, none⟩ (.int .i64 0)).setCell ⟨w1.heap.size, 4, none⟩ (.slice q3 1 1)) := only_set5 w3 w1.heap.size (.bool true) (.int .u8 1) (.string ⟨#[40]⟩) (.int .i64 0) (.slice q3 1 1)
        have hb34 : Below w1.heap.size w1 w3 := (below1 w1 (.cells #[.bool b, .int .u8 k, .string s, .int .i64 a, .slice q g.len c'] 41)).trans (hb3.mono (by simp))
        obtain ⟨xs, how, hrw⟩ := HOW.out
        have hlt1 := fun z hz => (own_lt how (k := z) hz).2
        have hrw1 : RowF w1 (fun z => (W.heap.size ≤ z ∧ (Value.slice pv fd.len cv).ownBlock ≠ some z) ∧ z < w1.heap.size) fd xs := hrw.mono (fun z hz hl => ⟨hz, hl⟩)
        have hrw2 := ((hrw1.later hb34).only ho4 (fun z hz e => by have := hz.2; omega)).mono (F' := fun z => W.heap.size ≤ z ∧ (Value.slice pv fd.len cv).ownBlock ≠ some z) (fun z hz _ => hz.1)
        have how2 := own_only (own_later how hb34) ho4 (fun z hz e => by have := hlt1 z hz; omega)
        have hd5 := (hd3'.only ho4 (fun z hz e => by omega)).mono (F' := fun z => wA.heap.size ≤ z) (fun z hz _ => by have h1 := HWA.out.1; have h2 : w1.heap.size + 1 ≤ z := hz; omega)
        have hb4 : Below (((((w3.setCell ⟨w1.heap.size, 0, none⟩ (.bool true)).setCell ⟨w1.heap.size, 1, none⟩ (.int .u8 1)).setCell ⟨w1.heap.size, 2, none⟩ (.string ⟨#[40]⟩)).setCell ⟨w1.heap.size, 3, none⟩ (.int .i64 0)).setCell ⟨w1.heap.size, 4, none⟩ (.slice q3 1 1)).heap.size (((((w3.setCell ⟨w1.heap.size, 0, none⟩ (.bool true)).setCell ⟨w1.heap.size, 1, none⟩ (.int .u8 1)).setCell ⟨w1.heap.size, 2, none⟩ (.string ⟨#[40]⟩)).setCell ⟨w1.heap.size, 3, none⟩ (.int .i64 0)).setCell ⟨w1.heap.size, 4, none⟩ (.slice q3 1 1)) ((((((w3.setCell ⟨w1.heap.size, 0, none⟩ (.bool true)).setCell ⟨w1.heap.size, 1, none⟩ (.int .u8 1)).setCell ⟨w1.heap.size, 2, none⟩ (.string ⟨#[40]⟩)).setCell ⟨w1.heap.size, 3, none⟩ (.int .i64 0)).setCell ⟨w1.heap.size, 4, none⟩ (.slice q3 1 1)).alloc (.cells #[.bool true, .int .u8 1, .string ⟨#[40]⟩, .int .i64 0, .slice q3 1 1] 41)) := below1 (((((w3.setCell ⟨w1.heap.size, 0, none⟩ (.bool true)).setCell ⟨w1.heap.size, 1, none⟩ (.int .u8 1)).setCell ⟨w1.heap.size, 2, none⟩ (.string ⟨#[40]⟩)).setCell ⟨w1.heap.size, 3, none⟩ (.int .i64 0)).setCell ⟨w1.heap.size, 4, none⟩ (.slice q3 1 1)) (.cells #[.bool true, .int .u8 1, .string ⟨#[40]⟩, .int .i64 0, .slice q3 1 1] 41)
        have hnew : BoxT ((((((w3.setCell ⟨w1.heap.size, 0, none⟩ (.bool true)).setCell ⟨w1.heap.size, 1, none⟩ (.int .u8 1)).setCell ⟨w1.heap.size, 2, none⟩ (.string ⟨#[40]⟩)).setCell ⟨w1.heap.size, 3, none⟩ (.int .i64 0)).setCell ⟨w1.heap.size, 4, none⟩ (.slice q3 1 1)).alloc (.cells #[.bool true, .int .u8 1, .string ⟨#[40]⟩, .int .i64 0, .slice q3 1 1] 41)) w3.heap.size true 1 ⟨#[40]⟩ 0 (.slice q3 1 1) := by
          have h := box_new (((((w3.setCell ⟨w1.heap.size, 0, none⟩ (.bool true)).setCell ⟨w1.heap.size, 1, none⟩ (.int .u8 1)).setCell ⟨w1.heap.size, 2, none⟩ (.string ⟨#[40]⟩)).setCell ⟨w1.heap.size, 3, none⟩ (.int .i64 0)).setCell ⟨w1.heap.size, 4, none⟩ (.slice q3 1 1)) true 1 ⟨#[40]⟩ 0 (.slice q3 1 1)
          simpa only [World.size_setCell] using h
        have hb5 : Below W.heap.size W (((((w3.setCell ⟨w1.heap.size, 0, none⟩ (.bool true)).setCell ⟨w1.heap.size, 1, none⟩ (.int .u8 1)).setCell ⟨w1.heap.size, 2, none⟩ (.string ⟨#[40]⟩)).setCell ⟨w1.heap.size, 3, none⟩ (.int .i64 0)).setCell ⟨w1.heap.size, 4, none⟩ (.slice q3 1 1)) := (HB2.out.trans (hb3.mono HB2.out.size)).trans (ho4.below (B := W.heap.size) (fun j hj => by have := HWA.out; omega) (HB2.out.trans (hb3.mono HB2.out.size)).size)
        have hbB := hb5.trans (hb4.mono hb5.size)
        have HO2 := Lib.hid (own_later how2 hb4)
        have HRW := Lib.hid (hrw2.later hb4)
        have HQ := Lib.hid (hd5.later hb4)
        have HNW := Lib.hid hnew
        have HSZ := Lib.hid hbB
        clear how hrw hrw1 hrw2 how2 hd3 hd3' hd5 hnew hb3 hb4 hb5 hbB hb34 ho4 hlt1
        go_wp2_with (at_builtin; refine wpList_append_own_at _ rfl _ _ 39 rfl W.heap.size 41 i0 Z41 5 64 Tryd.underlying39 hi hz0 hz1 hz2 rfl (by omega) _ fd.len xs rfl HO2.out ⟨w3.heap.size, 0, none⟩ 1 1 (trC true 1 ⟨#[40]⟩ 0 q3 1 1) rfl rfl ?qc2 ?qc3 ?qc4 ?qc5 HSZ.out.size ?_)
        case qc2 =>
          intro jj u hjj
          rw [Lib.add_plain]
          match jj, hjj with
          | 0, hjj => cases hjj; exact HNW.out.c0
          | 1, hjj => cases hjj; exact HNW.out.c1
          | 2, hjj => cases hjj; exact HNW.out.c2
          | 3, hjj => cases hjj; exact HNW.out.c3
          | 4, hjj => cases hjj; exact HNW.out.c4
        case qc3 => intro u hu; simp [trC] at hu; rcases hu with rfl | rfl | rfl | rfl | rfl <;> rfl
        case qc4 => have hml : maxLen = 9223372036854775807 := rfl; omega
        case qc5 => omega
        intro v8 w8 hown hgrow hnil_ hloc
        have hpush := OwnF.push (N := wA.heap.size) (x := deepF) (l := true) (k := 1) (s := ⟨#[40]⟩) (a := 0) (q := q3) (c := 1) HO2.out HRW.out HWA.out.2.1 HWA.out.2.2 HQ.out (Nat.le_refl _) (by decide) hown hgrow (by simpa using hloc)
        have hb8 := HSZ.out.trans ((Only.of_grown hgrow).below (B := W.heap.size) (fun j hj => (own_lt HO2.out hj).1) HSZ.out.size)
        obtain ⟨p8, c8, hv, hA_⟩ := own_shape hown
        subst hv
        have HE := Lib.hid (And.intro hpush hb8)
        clear hown hgrow hnil_ hloc hpush hb8 hA_
        obtain ⟨G, rfl⟩ : ∃ G, gk = G + 1 := ⟨gk - 1, by have := HG.out; omega⟩
        go_wp2_with fail
        go_roundg G
        case measure => omega
        case rel =>
          obtain ⟨h1, h2, h3, h4, h5⟩ := HST.out
          have hls : (fd.snoc true 1 ⟨#[40]⟩ 0 deepF).len = fd.len + 1 := Fo.len_snoc _ _ _ _ _ _
          refine ⟨m', fd.snoc true 1 ⟨#[40]⟩ 0 deepF, p8, c8, by have := HG.out; omega, by rw [HL.out]; exact h5, rfl, by rw [hls], Lib.hid ⟨by rw [hls]; omega, by rw [hls]; exact HE.out.1, HE.out.2, fun f z er h => ?_⟩⟩
          rw [Fo.snoc_app]
          exact h2 _ _ _ (.deep (by rw [← HL.out]; exact hlt) h3 h)
      · have e1 : (er == 0) = false := by simp [her]
        have e2 : (er == 40) = false := by simp [her2]
        have HE := Lib.hid (show AllE l W (.returned (.tuple #[.slice pv fd.len cv, .int .i64 (i : Int), .int .i64 er])) (w1.alloc (.cells #[.bool b, .int .u8 k, .string s, .int .i64 a, .slice q g.len c'] 41)) from
          ⟨_, fd, _, _, rfl, ho1.later (below1 _ _), by rw [← HL.out]; omega, (hbA.trans ((below1 w1 _).mono hbA.size)), by have := hf4 _ _ _ (AllO.bad (by rw [← HL.out]; exact hlt) hO her her2); rwa [Fo.app_nil] at this⟩)
        clear hq1 hq2 hq3 hf1 hf2 hf3 hf4 hO ho1 hbA hb1
        go_wp2_with fail
        refine bodyPost_ret (v := .tuple #[.slice pv fd.len cv, .int .i64 (i : Int), .int .i64 er]) (by simp [results, Tryd.results24, go_sem]) rfl HE.out
    · obtain rfl : i = n := by omega
      go_wp2_with fail
      obtain ⟨h1, h2, h3, h4⟩ := HI.out
      refine bodyPost_ret (v := .tuple #[.slice pv fd.len cv, .int .i64 (i : Int), .int .i64 0]) (by simp [results, Tryd.results24, go_sem]) rfl ?_
      exact ⟨_, fd, _, _, rfl, h2, by rw [← HL.out]; exact h1, h3, by have := h4 _ _ _ (AllO.done HL.out); rwa [Fo.app_nil] at this⟩
end Go.Proofs.YtlifankiljbdjaaDoor
