/- HeapTrails: the document's trail: Back. -/
import Derived.Test.YtpnchmelaonfiaaR1
namespace Go.Proofs.Ytpnchmelaonfiaa
open Go Go.RowKit

section
variable {W W' : World} {b base : Nat} {R A : Option Nat} {xs ys : List ByteArray} {ls zs : List Nat} {v : Nat}
theorem trail_cut0 {p : Option Addr} {n c : Nat} {y : ByteArray} (h : TrailSAt W b base R A (ys ++ [y]) ls) (hn : ys.length = n) (hc : W.cell? ⟨b, 0, none⟩ = some (.slice p (n + 1) c)) :
    TrailSAt (W.setCell ⟨b, 0, none⟩ (.slice p n c)) b base R A ys ls ∧ Only (fun k => k = b) W (W.setCell ⟨b, 0, none⟩ (.slice p n c)) := by
  subst hn
  obtain ⟨q, d, d1, e1, o1⟩ := h.ct
  have hl : (ys ++ [y]).length = ys.length + 1 := by simp
  rw [hl] at d1 e1 o1
  rw [d1] at hc
  cases hc
  have o2 := own_prefix o1 (k := ys.length) (by omega)
  rw [List.map_append, List.take_append_of_le_length (by simp), List.take_of_length_le (by simp)] at o2
  have hb : (Value.slice p ys.length c).ownBlock = R := by rw [← e1]; cases p <;> rfl
  obtain ⟨h1, h2⟩ := h.set0 (Only.refl _ W) o2 (.inl hb)
  rw [hb] at h1
  exact ⟨h1, Only.of_setCell W ⟨b, 0, none⟩ _⟩
theorem trail_cut1 {p : Option Addr} {n c : Nat} {z : Nat} (h : TrailSAt W b base R A xs (zs ++ [z])) (hn : zs.length = n) (hc : W.cell? ⟨b, 1, none⟩ = some (.slice p (n + 1) c)) :
    TrailSAt (W.setCell ⟨b, 1, none⟩ (.slice p n c)) b base R A xs zs ∧ Only (fun k => k = b) W (W.setCell ⟨b, 1, none⟩ (.slice p n c)) := by
  subst hn
  obtain ⟨q, d, d1, e1, o1⟩ := h.cm
  have hl : (zs ++ [z]).length = zs.length + 1 := by simp
  rw [hl] at d1 e1 o1
  rw [d1] at hc
  cases hc
  have o2 := own_prefix o1 (k := zs.length) (by omega)
  rw [List.map_append, List.take_append_of_le_length (by simp), List.take_of_length_le (by simp)] at o2
  have hb : (Value.slice p zs.length c).ownBlock = A := by rw [← e1]; cases p <;> rfl
  obtain ⟨h1, h2⟩ := h.set1 (Only.refl _ W) o2 (.inl hb)
  rw [hb] at h1
  exact ⟨h1, Only.of_setCell W ⟨b, 1, none⟩ _⟩
theorem trail_last {n : Nat} {y : ByteArray} {z : Nat} (h : TrailSAt W b base R A (ys ++ [y]) (zs ++ [z])) (hn : ys.length = n) (hz : zs.length = n) :
    ∃ g c ga d, R = some g ∧ A = some ga ∧ W.cell? ⟨b, 0, none⟩ = some (.slice (some ⟨g, 0, none⟩) (n + 1) c) ∧ W.cell? ⟨g, n, none⟩ = some (.string y) ∧ W.cell? ⟨b, 1, none⟩ = some (.slice (some ⟨ga, 0, none⟩) (n + 1) d) ∧ W.cell? ⟨ga, n, none⟩ = some (.int .i64 (z : Int)) ∧ n + 1 ≤ c ∧ n + 1 ≤ d := by
  obtain ⟨p, c, c1, e1, o1⟩ := h.ct
  obtain ⟨q, d, d1, e2, o2⟩ := h.cm
  have hl1 : (ys ++ [y]).length = n + 1 := by simp [hn]
  have hl2 : (zs ++ [z]).length = n + 1 := by simp [hz]
  rw [hl1] at c1 e1 o1
  rw [hl2] at d1 e2 o2
  obtain ⟨g, rfl, _⟩ := own_form o1 (by omega)
  obtain ⟨ga, rfl, _⟩ := own_form o2 (by omega)
  have hcap : ∀ {w : World} {base n c : Nat} {e : TypeId} {g : Nat} {xs : List Value}, w.ownsRow base e 1 (.slice (some ⟨g, 0, none⟩) n c) n xs → n ≤ c := by
    intro w base n c e g xs h
    rcases h.2 with ⟨h1, _⟩ | ⟨_, _, _, h1, _, _, h2, _⟩
    · cases h1
    · cases h1; exact h2
  refine ⟨g, c, ga, d, e1.symm, e2.symm, c1, (own_cell o1 n _ ?_).1, d1, (own_cell o2 n _ ?_).1, hcap o1, hcap o2⟩
  · subst hn; simp
  · subst hz; simp
theorem back_grow {w4 w5 : World} {u : Value} {n : Nat} {vs : List Value} {o : Obj} (hr : RefAt w4 b base R A ys zs v) (ho : w4.ownsRow W.heap.size 9 1 u n vs) (hO : Only (fun k => k = b) W w4) (hlt : ∀ k, k = b ∨ R = some k ∨ A = some k → k < W.heap.size) (hg : (w4.alloc o).drew.grownBy w5 u.ownBlock) : RefAt w5 b base R A ys zs v ∧ Only (fun k => k = b) W w5 ∧ Only (fun k => u.ownBlock = some k) w4 w5 := by
  have h1 : Only (fun k => u.ownBlock = some k) w4 w5 := (Only.of_below (below1 w4 o).drew).trans (Only.of_grown hg)
  have hge : ∀ k, u.ownBlock = some k → W.heap.size ≤ k := fun k hk => (own_lt ho hk).1
  refine ⟨hr.only h1 (fun k hk e => ?_), hO.comp h1 (fun _ _ h => h) (fun k hk e => ?_), h1⟩
  · have := hlt k hk; have := hge k e; omega
  · have := hge k e; omega
theorem back_done {w5 : World} {y : ByteArray} {z n m : Nat} {p q : Option Addr} {c d : Nat} (hr : RefAt w5 b base R A (ys ++ [y]) (zs ++ [z]) v) (hO : Only (fun k => k = b) W w5) (hy : n = ys.length) (hz : zs.length = n) (hm : m = n + 1) (c1 : w5.cell? ⟨b, 0, none⟩ = some (.slice p m c)) (c2 : w5.cell? ⟨b, 1, none⟩ = some (.slice q m d)) :
    RefAt ((w5.setCell ⟨b, 1, none⟩ (.slice q n d)).setCell ⟨b, 0, none⟩ (.slice p n c)) b base R A ys zs v ∧ Only (fun k => k = b) W ((w5.setCell ⟨b, 1, none⟩ (.slice q n d)).setCell ⟨b, 0, none⟩ (.slice p n c)) := by
  subst hm
  obtain ⟨h1, h2⟩ := trail_cut1 hr.t hz c2
  have c3 : (w5.setCell ⟨b, 1, none⟩ (.slice q n d)).cell? ⟨b, 0, none⟩ = some (.slice p (n + 1) c) := by
    rw [World.cell?_setCell_other _ _ _ _ (by intro e; cases e)]
    exact c1
  obtain ⟨h3, h4⟩ := trail_cut0 h1 hy.symm c3
  refine ⟨⟨h3, ?_⟩, (hO.trans h2).trans h4⟩
  rw [World.cell?_setCell_other _ _ _ _ (by intro e; cases e), World.cell?_setCell_other _ _ _ _ (by intro e; cases e)]
  exact hr.v
theorem ref_level (h : RefAt W b base R A xs ls v) (l : Nat) : RefAt (W.setCell ⟨b, 2, none⟩ (.int .i64 (l : Int))) b base R A xs ls l ∧ Only (fun k => k = b) W (W.setCell ⟨b, 2, none⟩ (.int .i64 (l : Int))) := by
  have ho : Only (fun k => k = b) W (W.setCell ⟨b, 2, none⟩ (.int .i64 (l : Int))) := Only.of_setCell W ⟨b, 2, none⟩ _
  obtain ⟨p, c, c1, e1, o1⟩ := h.t.ct
  obtain ⟨q, d, c2, e2, o2⟩ := h.t.cm
  have hal := h.t.lt.1
  have hba := h.t.ha
  refine ⟨⟨⟨⟨p, c, ?_, e1, own_only o1 ho (fun k hk e => ?_)⟩, ⟨q, d, ?_, e2, own_only o2 ho (fun k hk e => ?_)⟩, fun o => by rw [World.frozen?_setCell]; exact h.t.fz o, h.t.ne, h.t.ha, Nat.le_trans h.t.hb ho.size⟩, World.cell?_setCell_same _ _ _ h.v⟩, ho⟩
  · rw [World.cell?_setCell_other _ _ _ _ (by intro e; cases e)]; exact c1
  · have := (own_lt o1 hk).1; omega
  · rw [World.cell?_setCell_other _ _ _ _ (by intro e; cases e)]; exact c2
  · have := (own_lt o2 hk).1; omega
theorem back_end {w w' : World} {u : Value} {us : List ByteArray} {k l : Nat} (hr : RefAt w b base R A ys zs v) (ho : w.ownsRow W.heap.size 9 1 u us.length (us.reverse.map Value.string)) (hO : Only (fun k => k = b) W w) (hb : b < W.heap.size) (hxs : xs = ys ++ us) (hzs : zs = ls.take ys.length) (hk : k = ys.length) (hw : Below w.heap.size w w') :
    (w'.setCell ⟨b, 2, none⟩ (.int .i64 (l : Int))).ownsRow W.heap.size 9 1 u (xs.length - k) ((xs.drop k).reverse.map Value.string) ∧ RefAt (w'.setCell ⟨b, 2, none⟩ (.int .i64 (l : Int))) b base R A (xs.take k) (ls.take k) l ∧ Only (fun k => k = b) W (w'.setCell ⟨b, 2, none⟩ (.int .i64 (l : Int))) := by
  subst hk
  obtain ⟨h1, h2⟩ := ref_level (hr.later hw) l
  have e1 : xs.length - ys.length = us.length := by rw [hxs]; simp
  have e2 : xs.drop ys.length = us := by rw [hxs]; simp
  have e3 : xs.take ys.length = ys := by rw [hxs]; simp
  rw [e1, e2, e3, ← hzs]
  exact ⟨own_only (own_later ho hw) h2 (fun k hk e => by have := (own_lt ho hk).1; omega), h1, (hO.trans (Only.of_below hw)).trans h2⟩
theorem back_cut {ys0 : List ByteArray} {zs0 : List Nat} {us : List ByteArray} {y : ByteArray} {z n k l : Nat} (hxs : xs = ys0 ++ [y] ++ us) (hzs : zs0 ++ [z] = ls.take (ys0 ++ [y]).length) (hn : n = ys0.length) (hz : zs0.length = n) (hls : ls.length = xs.length) (hcut : ∀ i x : Nat, ls[i]? = some x → (l < x ↔ k ≤ i)) : (l < z ↔ k ≤ n) ∧ zs0 = ls.take ys0.length := by
  have e5 : ls[n]? = some z := by
    have : (ls.take (ys0 ++ [y]).length)[n]? = some z := by rw [← hzs, List.getElem?_append_right (by omega), hz]; simp
    rw [List.getElem?_take_of_lt (by simp; omega)] at this
    exact this
  refine ⟨hcut n z e5, ?_⟩
  have : (zs0 ++ [z]).take n = zs0 := by rw [List.take_append_of_le_length (by omega), List.take_of_length_le (by omega)]
  rw [← this, hzs, List.take_take, ← hn]
  congr 1
  simp
  omega
theorem back_rel {w5 : World} {ys0 : List ByteArray} {zs0 : List Nat} {us : List ByteArray} {y : ByteArray} {z n m k l : Nat} {p q pu : Option Addr} {c d cu : Nat} (hr : RefAt w5 b base R A (ys0 ++ [y]) (zs0 ++ [z]) v) (hO : Only (fun k => k = b) W w5) (ho : w5.ownsRow W.heap.size 9 1 (.slice pu (us.length + 1) cu) (us.length + 1) (us.reverse.map Value.string ++ [.string y])) (hb : b < W.heap.size)
    (hn : n = ys0.length) (hz : zs0.length = n) (hm : m = n + 1) (c1 : w5.cell? ⟨b, 0, none⟩ = some (.slice p m c)) (c2 : w5.cell? ⟨b, 1, none⟩ = some (.slice q m d))
    (hxs : xs = ys0 ++ [y] ++ us) (hzs : zs0 ++ [z] = ls.take (ys0 ++ [y]).length) (hls : ls.length = xs.length) (hcut : ∀ i x : Nat, ls[i]? = some x → (l < x ↔ k ≤ i)) (hpop : l < z) :
    ∃ ys' zs' us', xs = ys' ++ us' ∧ zs' = ls.take ys'.length ∧ k ≤ ys'.length ∧ RefAt ((w5.setCell ⟨b, 1, none⟩ (.slice q n d)).setCell ⟨b, 0, none⟩ (.slice p n c)).drew.drew b base R A ys' zs' v ∧ ((w5.setCell ⟨b, 1, none⟩ (.slice q n d)).setCell ⟨b, 0, none⟩ (.slice p n c)).drew.drew.ownsRow W.heap.size 9 1 (.slice pu (us.length + 1) cu) us'.length (us'.reverse.map Value.string) ∧ Only (fun k => k = b) W ((w5.setCell ⟨b, 1, none⟩ (.slice q n d)).setCell ⟨b, 0, none⟩ (.slice p n c)).drew.drew := by
  obtain ⟨h1, h2⟩ := back_done hr hO hn hz hm c1 c2
  obtain ⟨h3, h4⟩ := back_cut hxs hzs hn hz hls hcut
  have hd : ∀ w : World, Below w.heap.size w w.drew.drew := fun w => (Below.refl _ _).drew.drew
  have ho2 : Only (fun k => k = b) w5 ((w5.setCell ⟨b, 1, none⟩ (.slice q n d)).setCell ⟨b, 0, none⟩ (.slice p n c)) := (Only.of_setCell w5 ⟨b, 1, none⟩ _).trans (Only.of_setCell _ ⟨b, 0, none⟩ _)
  refine ⟨ys0, zs0, y :: us, by rw [hxs]; simp, h4, by rw [← hn]; exact h3.1 hpop, h1.later (hd _), ?_, h2.trans (Only.of_below (hd _))⟩
  have := own_later (own_only ho ho2 (fun k hk e => by have := (own_lt ho hk).1; omega)) (hd _)
  simpa using this
set_option maxRecDepth 100000 in
set_option maxHeartbeats 800000 in
theorem refBack_out (h : RefAt W b base R A xs ls v) (l : Int) (hl : l < 0 ∨ (v : Int) ≤ l) :
    Calls Try.prog 32 #[.pointer (some ⟨b, 0, none⟩), .int .i64 l] W fun e w' => e = .returned (.slice none 0 0) ∧ w' = W := by
  have c1 := h.v
  clear h
  by_cases h0 : l < 0
  · go_enter Try.func32, Try.ntmps32
    go_wp2_with fail
    go_ret
    exact ⟨rfl, rfl⟩
  · have h1 : (v : Int) ≤ l := by omega
    go_enter Try.func32, Try.ntmps32
    go_wp2_with fail
    go_ret
    exact ⟨rfl, rfl⟩
set_option maxRecDepth 100000 in
set_option maxHeartbeats 1600000 in
theorem refBack_at (h : RefAt W b base R A xs ls v) (hls : ls.length = xs.length) (l k : Nat) (hl : l < v) (hk : k ≤ xs.length) (hcut : ∀ i x : Nat, ls[i]? = some x → (l < x ↔ k ≤ i)) (hx : xs.length ≤ 1000000) :
    Calls Try.prog 32 #[.pointer (some ⟨b, 0, none⟩), .int .i64 l] W fun e w' => ∃ u, e = .returned u ∧ w'.ownsRow W.heap.size 9 1 u (xs.length - k) ((xs.drop k).reverse.map Value.string) ∧ RefAt w' b base R A (xs.take k) (ls.take k) l ∧ Only (fun k => k = b) W w' := by
  have c1 := h.v
  have H := Lib.hid h
  have HCUT := Lib.hid hcut
  have l0 : ¬ (l : Int) < 0 := by omega
  have l1 : ¬ (v : Int) ≤ (l : Int) := by omega
  have hbb := h.t.hb
  have HLT := Lib.hid (show ∀ k, k = b ∨ R = some k ∨ A = some k → k < W.heap.size from fun k hk => by
    rcases hk with rfl | hk | hk
    · exact h.t.lt.1
    · exact (h.t.lt.2.1 k hk).2
    · exact (h.t.lt.2.2 k hk).2)
  obtain ⟨i9, hi9, hz90, hz91, hz92⟩ := info9
  have hml : maxLen = 9223372036854775807 := rfl
  clear h hcut
  go_enter Try.func32, Try.ntmps32
  go_wp2_with fail
  go_loopw [5] (fun u wr => ∃ ys zs us, xs = ys ++ us ∧ zs = ls.take ys.length ∧ k ≤ ys.length ∧ RefAt wr b base R A ys zs v ∧ wr.ownsRow W.heap.size 9 1 u us.length (us.reverse.map Value.string) ∧ Only (fun k => k = b) W wr) (fun u _ => 1000000 - (match u with | .slice _ n _ => n | _ => 0))
  case atStart => exact ⟨xs, ls, [], by simp, by rw [← hls]; simp, hk, H.out, ⟨rfl, .inl ⟨rfl, rfl⟩⟩, Only.refl _ _⟩
  case round =>
    obtain ⟨ys, zs, us, hxs, hzs, hky, hr, ho, hO⟩ := hrel
    obtain ⟨wo, rfl⟩ : ∃ wo : World, wo = wr := ⟨_, rfl⟩
    obtain ⟨pu, cu, rfl, hxx⟩ := own_shape ho
    clear hxx
    have HR := Lib.hid hr
    have HOW := Lib.hid ho
    have HO := Lib.hid hO
    have HXS := Lib.hid hxs
    have HZS := Lib.hid hzs
    have HKY := Lib.hid hky
    have cv := hr.v
    have fv := hr.t.fz 2
    have HBW := Lib.hid (HLT.out b (.inl rfl))
    clear hr ho hO hxs hzs hky c1
    rcases List.eq_nil_or_concat ys with rfl | ⟨ys0, y, rfl⟩
    · obtain ⟨p, c, c1, hx8, hx9⟩ := HR.out.t.ct
      simp only [List.length_nil] at c1
      clear hx8 hx9
      go_wp2_with fail
      go_region
      all_goals go_wp2_with fail
      all_goals go_ret
      all_goals
        obtain ⟨h1, h2, h3⟩ := back_end (k := k) (l := l) HR.out HOW.out HO.out HBW.out HXS.out HZS.out (by have := HKY.out; simpa using this) (Below.refl _ _).drew
        exact ⟨_, rfl, h1, h2, h3⟩
    · have hyl : (ys0.concat y).length = ys0.length + 1 := by simp
      obtain ⟨n, hn⟩ : ∃ n, n = ys0.length := ⟨_, rfl⟩
      have hzl : zs.length = n + 1 := by
        have h1 := HXS.out
        have h2 := HZS.out
        rw [h2, List.length_take, hls, h1, hyl, hn]
        simp
      rcases List.eq_nil_or_concat zs with rfl | ⟨zs0, z, rfl⟩
      · simp at hzl
      rw [List.concat_eq_append] at *
      rw [List.concat_eq_append] at *
      have hz0 : zs0.length = n := by simpa using hzl
      obtain ⟨g, c, ga, d, hg, hga, c1, c2, c3, c4, cc, cd⟩ := trail_last HR.out.t hn.symm hz0
      have hnb : n ≤ 1000000 := by
        have := congrArg List.length HXS.out
        simp at this
        omega
      obtain ⟨m, hm⟩ : ∃ m, m = n + 1 := ⟨_, rfl⟩
      rw [← hm] at c1 c3 cc cd
      have w1 : IntKind.i64.wrap ((m : Int) - 1) = (n : Int) := by rw [IntWalk.i64_in _ (by omega)]; omega
      have n0 : (0 : Int) ≤ (n : Int) := by omega
      have n1 : (n : Int) < (m : Int) := by omega
      have n2 : (0 : Int) < (m : Int) := by omega
      have n5 : 0 < m := by omega
      have n3 : (n : Int) ≤ (c : Int) := by omega
      have n4 : (n : Int) ≤ (d : Int) := by omega
      have HM := Lib.hid hm
      have HN := Lib.hid hn
      have HZ0 := Lib.hid hz0
      clear hm hn hz0 hzl hyl cc cd hg hga
      by_cases hpop : l < z
      · have q1 : (l : Int) < (z : Int) := by omega
        go_wp2_with fail
        go_region_held3 (fun w' => w'.cell? ⟨b, 0, none⟩ = some (.slice (some ⟨g, 0, none⟩) m c) ∧ w'.cell? ⟨b, 1, none⟩ = some (.slice (some ⟨ga, 0, none⟩) m d) ∧ w'.cell? ⟨ga, n, none⟩ = some (.int .i64 (z : Int))) (exact ⟨c1, c3, c4⟩) (first | fail)
        have hD : Below wo.heap.size wo wo.drew := (Below.refl _ _).drew
        have HR4 := Lib.hid (HR.out.later hD)
        have HOW4 := Lib.hid (own_later HOW.out hD)
        have HO4 := Lib.hid (HO.out.trans (Only.of_below hD))
        replace c1 := cell_later hD c1
        replace c2 := cell_later hD c2
        replace c3 := cell_later hD c3
        replace c4 := cell_later hD c4
        have hus : us.length < 1000000 := by
          have := congrArg List.length HXS.out
          simp at this
          omega
        have NB0 := Lib.hid (show ¬ (Value.slice pu us.length cu).ownBlock = some b from fun e => by
          have := (own_lt HOW4.out e).1
          have := HLT.out b (.inl rfl)
          omega)
        have hs4 := HO4.out.size
        generalize wo.drew = w4 at *
        clear hD HR HOW HO
        go_wp2_with fail
        go_region_law (rw [if_pos (by rfl)]; refine wp_append_row _ _ 45 rfl W.heap.size 9 i9 (.string ByteArray.empty) 1 16 Try.underlying45 hi9 hz90 hz91 hz92 rfl (by omega) (.slice pu us.length cu) us.length (us.reverse.map Value.string) rfl (own_later HOW4.out (by first | exact below1 _ _ | exact (below1 _ _).drew)) (some ⟨w4.heap.size, 0, none⟩) 1 1 [.string y] rfl (by intro e; cases e) rfl (by intro ad e jj u hjj; cases e; rw [Lib.add_plain]; match jj, hjj with | 0, hjj => cases hjj; simp [go_sem]) (by intro u hu; simp at hu; rcases hu with rfl; rfl) (by omega) (by omega) (by first | (simp; omega) | omega) ?_; intro u1 w5 hown hgrow hloc; obtain ⟨hr5, hO5, ho5⟩ := back_grow HR4.out HOW4.out HO4.out HLT.out hgrow; have k1 := ho5.cell c1 NB0.out; have k3 := ho5.cell c3 NB0.out; have f5 : ∀ o, w5.frozen? ⟨b, o, none⟩ = false := hr5.t.fz; have HR5 := Lib.hid hr5; have HO5 := Lib.hid hO5; have HOW5 := Lib.hid hown; obtain ⟨pu5, cu5, hv, hxx⟩ := own_shape hown; clear hxx; subst hv; clear hown hgrow hloc hr5 hO5 ho5)
        all_goals go_wp2_with fail
        all_goals go_region
        all_goals go_wp2_with fail
        all_goals go_region
        all_goals go_wp2_with fail
        all_goals go_roundw
        all_goals first
          | exact back_rel HR5.out HO5.out HOW5.out HBW.out HN.out HZ0.out HM.out k1 k3 HXS.out HZS.out hls HCUT.out hpop
          | (dsimp only; omega)
      · have q1 : ¬ (l : Int) < (z : Int) := by omega
        go_wp2_with fail
        go_region_held3 (fun w' => w'.cell? ⟨b, 0, none⟩ = some (.slice (some ⟨g, 0, none⟩) m c) ∧ w'.cell? ⟨b, 1, none⟩ = some (.slice (some ⟨ga, 0, none⟩) m d) ∧ w'.cell? ⟨ga, n, none⟩ = some (.int .i64 (z : Int))) (exact ⟨c1, c3, c4⟩) (first | fail)
        go_wp2_with fail
        go_ret
        obtain ⟨h1, h2, h3⟩ := back_end (k := k) (l := l) HR.out HOW.out HO.out HBW.out HXS.out HZS.out (by
          have e6 := (back_cut HXS.out HZS.out HN.out HZ0.out hls HCUT.out).1
          have e4 := HKY.out
          have e3 := HN.out
          simp at e4 ⊢
          omega) (Below.refl _ _).drew
        exact ⟨_, rfl, h1, h2, h3⟩
end
end Go.Proofs.Ytpnchmelaonfiaa
