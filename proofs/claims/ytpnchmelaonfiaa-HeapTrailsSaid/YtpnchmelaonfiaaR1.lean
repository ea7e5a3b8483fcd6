/- HeapTrails: the document's trail: Push. -/
import Derived.Test.YtpnchmelaonfiaaR0
namespace Go.Proofs.Ytpnchmelaonfiaa
open Go Go.RowKit

/-- the document's trail: rows of things and of levels, and the level. -/
structure RefAt (W : World) (b base : Nat) (R A : Option Nat) (xs : List ByteArray) (ls : List Nat) (v : Nat) : Prop where
  t : TrailSAt W b base R A xs ls
  v : W.cell? ⟨b, 2, none⟩ = some (.int .i64 (v : Int))
section
variable {W W' : World} {b base : Nat} {R A : Option Nat} {xs : List ByteArray} {ls : List Nat} {v : Nat}
theorem RefAt.only {S : Nat → Prop} (h : RefAt W b base R A xs ls v) (ho : Only S W W') (h1 : ∀ k, k = b ∨ R = some k ∨ A = some k → ¬ S k) : RefAt W' b base R A xs ls v :=
  ⟨h.t.only ho h1, ho.cell h.v (h1 b (.inl rfl))⟩
theorem RefAt.later (h : RefAt W b base R A xs ls v) (hb : Below W.heap.size W W') : RefAt W' b base R A xs ls v := ⟨h.t.later hb, cell_later hb h.v⟩
theorem heap_now (w : World) (o : Obj) : (w.alloc o).heap[w.heap.size]? = some o := by
  show (w.heap.push o)[w.heap.size]? = some o
  simp
theorem made_own (w : World) (g base : Nat) (e : TypeId) (h : w.heap[g]? = some (.cells #[] e)) (hb : base ≤ g) : w.ownsRow base e 1 (.slice (some ⟨g, 0, none⟩) 0 0) 0 [] :=
  ⟨rfl, .inr ⟨g, 0, #[], rfl, hb, h, Nat.le_refl _, Nat.zero_le _, by simp, by simp⟩⟩
theorem ref_mark {D w3 : World} {p2 : Option Addr} {cc3 : Nat} (hT : TrailSAt D b base R A xs ls) (hv : D.cell? ⟨b, 2, none⟩ = some (.int .i64 (v : Int))) (hown : w3.ownsRow D.heap.size 3 1 (.slice p2 (0 + ls.length + 1) cc3) (0 + ls.length + 1) ([] ++ ls.map (fun (n : Nat) => Value.int .i64 n) ++ [.int .i64 (v : Int)])) (hb : Below D.heap.size D w3) :
    ∃ k, D.heap.size ≤ k ∧ RefAt (w3.setCell ⟨b, 1, none⟩ (.slice p2 (ls.length + 1) cc3)) b base R (some k) xs (ls ++ [v]) v ∧ Only (fun k => k = b) D (w3.setCell ⟨b, 1, none⟩ (.slice p2 (ls.length + 1) cc3)) := by
  obtain ⟨k, rfl, hk⟩ := own_form hown (by omega)
  have hlen : ls.length + 1 = (ls ++ [v]).length := by simp
  have hown2 : w3.ownsRow D.heap.size 3 1 (.slice (some ⟨k, 0, none⟩) (ls ++ [v]).length cc3) (ls ++ [v]).length ((ls ++ [v]).map fun (n : Nat) => Value.int .i64 n) := by
    rw [← hlen, List.map_append]
    simpa using hown
  obtain ⟨h1, h2⟩ := hT.set1 (Only.of_below hb) (own_low hown2 hT.hb) (.inr ⟨k, rfl, hk⟩)
  rw [← hlen] at h1 h2
  refine ⟨k, hk, ⟨h1, ?_⟩, (Only.of_below hb).trans (Only.of_setCell w3 ⟨b, 1, none⟩ _)⟩
  rw [World.cell?_setCell_other _ _ _ _ (by intro e; cases e)]
  exact cell_later hb hv
set_option maxRecDepth 100000 in
set_option maxHeartbeats 1600000 in
theorem refPush_any (x : ByteArray) (h : RefAt W b base R A xs ls v) (hx : xs.length ≤ 1000000) (hx2 : ls.length ≤ 1000000) :
    Calls Try.prog 29 #[.pointer (some ⟨b, 0, none⟩), .string x] W fun e w' => e = .returned (.tuple #[]) ∧ ∃ R' A', (∃ k, R' = some k ∧ W.heap.size ≤ k) ∧ (∃ k, A' = some k ∧ W.heap.size ≤ k) ∧ RefAt w' b base R' A' (xs ++ [x]) (ls ++ [v]) v ∧ Only (fun k => k = b ∨ R = some k ∨ A = some k) W w' := by
  obtain ⟨i9, hi9, hz90, hz91, hz92⟩ := info9
  obtain ⟨p, c, c1, e1, o1⟩ := h.t.ct
  have hal := h.t.lt.1
  have hB1 := below1 W (.cells #[] 9)
  obtain ⟨r1, r2, r3⟩ := own_row (own_later o1 hB1)
  have HX := Lib.hid (show ∀ u ∈ xs.map Value.string, u.oneCell' = true from fun u hu => by
    obtain ⟨x, _, rfl⟩ := List.mem_map.1 hu
    rfl)
  have HR1 := Lib.hid r1
  have HR2 := Lib.hid r2
  have HR3 := Lib.hid r3
  have H := Lib.hid h
  have HC := Lib.hid c1
  have hml : maxLen = 9223372036854775807 := rfl
  clear r1 r2 r3 o1 e1 h
  go_enter Try.func29, Try.ntmps29
  go_wp2_with (at_builtin; refine wpList_append_row rfl _ _ 45 rfl W.heap.size 9 i9 (.string ByteArray.empty) 1 16 Try.underlying45 hi9 hz90 hz91 hz92 rfl (by omega) _ _ _ rfl (made_own _ W.heap.size W.heap.size 9 (heap_now W _) (Nat.le_refl _)) p xs.length c (xs.map Value.string) rfl HR1.out HR2.out HR3.out HX.out ?q1 ?q2 ?q3 ?_)
  case q1 => omega
  case q2 => omega
  case q3 => simp
  intro v1 w1 hown hgrow hloc
  have hbel : Below W.heap.size W w1 := hB1.trans (Below.grown (Below.refl _ _) hgrow (by simp) (by intro k hk; simp [Value.ownBlock] at hk; omega))
  have c2 := cell_later hbel c1
  have HOWN := Lib.hid (own_later hown (below1 w1 (.cells #[.string x] 9)))
  have HB := Lib.hid hbel
  have hsz := hbel.size
  clear hown hgrow hloc hB1 c1 hbel
  go_wp2_with (at_builtin; refine wpList_append_row rfl _ _ 45 rfl W.heap.size 9 i9 (.string ByteArray.empty) 1 16 Try.underlying45 hi9 hz90 hz91 hz92 rfl (by omega) _ _ _ rfl HOWN.out (some ⟨w1.heap.size, 0, none⟩) 1 1 [.string x] rfl (by intro e; cases e) rfl ?q0 ?q4 ?q1 ?q2 ?q3 ?_)
  case q0 =>
    intro ad e jj u hjj
    cases e
    rw [Lib.add_plain]
    match jj, hjj with
    | 0, hjj => cases hjj; simp [go_sem]
  case q4 => intro u hu; simp at hu; rcases hu with rfl; rfl
  case q1 => omega
  case q2 => omega
  case q3 => simp; omega
  intro v2 w2 hown hgrow hloc
  have hbel : Below W.heap.size W w2 := (HB.out.trans ((below1 w1 (.cells #[.string x] 9)).mono hsz)).trans (Below.grown (Below.refl _ _) hgrow (by simp; omega) (by intro k hk; exact (own_lt HOWN.out hk).1))
  have c3 : w2.cell? ⟨b, 0, none⟩ = some (.slice p xs.length c) := by
    have := cell_later hbel (HC.out)
    exact this
  have hf : w2.frozen? ⟨b, 0, none⟩ = false := (hbel.frozen hal).trans (H.out.t.fz 0)
  obtain ⟨p2, cc2, hv, _⟩ := own_shape hown
  subst hv
  obtain ⟨g, rfl, hg1⟩ := own_form hown (by omega)
  have hlen : xs.length + 1 = (xs ++ [x]).length := by simp
  have hown2 : w2.ownsRow W.heap.size 9 1 (.slice (some ⟨g, 0, none⟩) (xs ++ [x]).length cc2) (xs ++ [x]).length ((xs ++ [x]).map Value.string) := by
    rw [← hlen, List.map_append]
    exact hown
  obtain ⟨hT, hO⟩ := H.out.t.set0 (Only.of_below hbel) (own_low hown2 H.out.t.hb) (.inr ⟨g, rfl, hg1⟩)
  have hcv : (w2.setCell ⟨b, 0, none⟩ (.slice (some ⟨g, 0, none⟩) (xs ++ [x]).length cc2)).cell? ⟨b, 2, none⟩ = some (.int .i64 (v : Int)) := by
    rw [World.cell?_setCell_other _ _ _ _ (by intro e; cases e)]
    exact cell_later hbel H.out.v
  rw [← hlen] at hT hO hcv
  have HT := Lib.hid hT
  have HO := Lib.hid hO
  have HCV := Lib.hid hcv
  have HG := Lib.hid hg1
  clear hown hown2 hgrow hloc hbel hg1 hT hO hcv hlen c2 HB HOWN HC
  go_wp2_with fail
  generalize w2.setCell ⟨b, 0, none⟩ (.slice (some ⟨g, 0, none⟩) (xs.length + 1) cc2) = D at *
  obtain ⟨i3, hi3, hz30, hz31, hz32⟩ := info3
  obtain ⟨q, d, d1, e1, o1⟩ := HT.out.cm
  obtain ⟨r1, r2, r3⟩ := own_row o1
  have HX := Lib.hid (show ∀ u ∈ ls.map (fun (n : Nat) => Value.int .i64 n), u.oneCell' = true from fun u hu => by
    obtain ⟨x, _, rfl⟩ := List.mem_map.1 hu
    rfl)
  have HR1 := Lib.hid r1
  have HR2 := Lib.hid r2
  have HR3 := Lib.hid r3
  have d2 := HCV.out
  have dl := HT.out.lt.1
  clear r1 r2 r3 o1 e1 c3 hf
  go_region_law (first
    | (rw [if_pos (by rfl)]; refine wp_append_row _ _ 46 rfl D.heap.size 3 i3 (.int .i64 0) 1 8 Try.underlying46 hi3 hz30 hz31 hz32 rfl (by omega) (.slice (some ⟨D.heap.size, 0, none⟩) 0 0) 0 [] rfl (made_own _ D.heap.size D.heap.size 3 (heap_now D _) (Nat.le_refl _)) q ls.length d (ls.map fun (n : Nat) => Value.int .i64 n) rfl HR1.out HR2.out (fun ad e j u hj => cell_later (((Below.refl _ D).alloc (Nat.le_refl _) _).drew) (HR3.out ad e j u hj)) HX.out (by omega) (by omega) (by first | (simp; done) | (simp; omega) | omega) ?_; intro v1 w1 hown hgrow hloc; have hb1 : Below D.heap.size D w1 := Below.grown (((Below.refl _ D).alloc (Nat.le_refl _) _).drew) hgrow (by first | (simp; done) | (simp; omega) | omega) (by intro k hk; simp [Value.ownBlock] at hk; omega); have k2 := cell_later hb1 d2; have HB1 := Lib.hid hb1; have hsz1 := hb1.size; have HW1 := Lib.hid (And.intro hown hgrow); clear hown hgrow hloc hb1)
    | (rw [if_pos (by rfl)]; refine wp_append_row _ _ 46 rfl D.heap.size 3 i3 (.int .i64 0) 1 8 Try.underlying46 hi3 hz30 hz31 hz32 rfl (by omega) (.slice (some ⟨D.heap.size, 0, none⟩) 0 0) 0 [] rfl (own_later (made_own _ D.heap.size D.heap.size 3 (heap_now D _) (Nat.le_refl _)) ((below1 _ _).drew)) q ls.length d (ls.map fun (n : Nat) => Value.int .i64 n) rfl HR1.out HR2.out (fun ad e j u hj => cell_later ((((Below.refl _ D).alloc (Nat.le_refl _) _).alloc (by simp) _).drew) (HR3.out ad e j u hj)) HX.out (by omega) (by omega) (by first | (simp; done) | (simp; omega) | omega) ?_; intro v1 w1 hown hgrow hloc; have hb1 : Below D.heap.size D w1 := Below.grown ((((Below.refl _ D).alloc (Nat.le_refl _) _).alloc (by simp) _).drew) hgrow (by first | (simp; done) | (simp; omega) | omega) (by intro k hk; simp [Value.ownBlock] at hk; omega); have k2 := cell_later hb1 d2; have HB1 := Lib.hid hb1; have hsz1 := hb1.size; have HW1 := Lib.hid (And.intro hown hgrow); clear hown hgrow hloc hb1)
    | (rw [if_pos (by rfl)]; refine wp_append_row _ _ 46 rfl D.heap.size 3 i3 (.int .i64 0) 1 8 Try.underlying46 hi3 hz30 hz31 hz32 rfl (by omega) (.slice (some ⟨D.heap.size + 1, 0, none⟩) 0 0) 0 [] rfl (made_own _ (D.heap.size + 1) D.heap.size 3 (by have := heap_now (D.alloc (.cells #[.int .i64 (v : Int)] 3)) (.cells #[] 3); rw [World.size_alloc] at this; exact this) (Nat.le_succ _)) q ls.length d (ls.map fun (n : Nat) => Value.int .i64 n) rfl HR1.out HR2.out (fun ad e j u hj => cell_later ((((Below.refl _ D).alloc (Nat.le_refl _) _).alloc (by simp) _).drew) (HR3.out ad e j u hj)) HX.out (by omega) (by omega) (by first | (simp; done) | (simp; omega) | omega) ?_; intro v1 w1 hown hgrow hloc; have hb1 : Below D.heap.size D w1 := Below.grown ((((Below.refl _ D).alloc (Nat.le_refl _) _).alloc (by simp) _).drew) hgrow (by first | (simp; done) | (simp; omega) | omega) (by intro k hk; simp [Value.ownBlock] at hk; omega); have k2 := cell_later hb1 d2; have HB1 := Lib.hid hb1; have hsz1 := hb1.size; have HW1 := Lib.hid (And.intro hown hgrow); clear hown hgrow hloc hb1)
    | (rw [if_pos (by rfl)]; refine wp_append_row _ _ 46 rfl D.heap.size 3 i3 (.int .i64 0) 1 8 Try.underlying46 hi3 hz30 hz31 hz32 rfl (by omega) v1 (0 + ls.length) ([] ++ ls.map fun (n : Nat) => Value.int .i64 n) rfl (own_later HW1.out.1 (below1 _ _)) (some ⟨w1.heap.size, 0, none⟩) 1 1 [.int .i64 (v : Int)] rfl (by intro e; cases e) rfl (by intro ad e jj u hjj; cases e; rw [Lib.add_plain]; match jj, hjj with | 0, hjj => cases hjj; exact (by simp [go_sem])) (by intro u hu; simp at hu; rcases hu with rfl; rfl) (by omega) (by omega) (by first | (simp; done) | (simp; omega) | omega) ?_; intro v2 w3 hown hgrow hloc; have hb2 : Below D.heap.size D w3 := Below.grown (HB1.out.alloc hsz1 _) hgrow (by first | (simp; done) | (simp; omega) | omega) (by intro k hk; exact (own_lt HW1.out.1 hk).1); have k1 := cell_later hb2 d1; have f1 : w3.frozen? ⟨b, 1, none⟩ = false := (hb2.frozen dl).trans (HT.out.fz 1); obtain ⟨p2, cc3, hv, hxx⟩ := own_shape hown; clear hxx; subst hv; have HW2 := Lib.hid (And.intro hown hb2); clear hown hgrow hb2 hloc)
    | (rw [if_pos (by rfl)]; refine wp_append_row _ _ 46 rfl D.heap.size 3 i3 (.int .i64 0) 1 8 Try.underlying46 hi3 hz30 hz31 hz32 rfl (by omega) v1 (0 + ls.length) ([] ++ ls.map fun (n : Nat) => Value.int .i64 n) rfl (HW1.out.1) (some ⟨D.heap.size + 1, 0, none⟩) 1 1 [.int .i64 (v : Int)] rfl (by intro e; cases e) rfl (by intro ad e jj u hjj; cases e; rw [Lib.add_plain]; match jj, hjj with | 0, hjj => cases hjj; exact ((Only.of_grown HW1.out.2).cell (by simp [go_sem]) (by simp [Value.ownBlock]))) (by intro u hu; simp at hu; rcases hu with rfl; rfl) (by omega) (by omega) (by first | (simp; done) | (simp; omega) | omega) ?_; intro v2 w3 hown hgrow hloc; have hb2 : Below D.heap.size D w3 := Below.grown (HB1.out) hgrow (by first | (simp; done) | (simp; omega) | omega) (by intro k hk; exact (own_lt HW1.out.1 hk).1); have k1 := cell_later hb2 d1; have f1 : w3.frozen? ⟨b, 1, none⟩ = false := (hb2.frozen dl).trans (HT.out.fz 1); obtain ⟨p2, cc3, hv, hxx⟩ := own_shape hown; clear hxx; subst hv; have HW2 := Lib.hid (And.intro hown hb2); clear hown hgrow hb2 hloc)
    | (rw [if_pos (by rfl)]; refine wp_append_row _ _ 46 rfl D.heap.size 3 i3 (.int .i64 0) 1 8 Try.underlying46 hi3 hz30 hz31 hz32 rfl (by omega) v1 (0 + ls.length) ([] ++ ls.map fun (n : Nat) => Value.int .i64 n) rfl (HW1.out.1) (some ⟨D.heap.size, 0, none⟩) 1 1 [.int .i64 (v : Int)] rfl (by intro e; cases e) rfl (by intro ad e jj u hjj; cases e; rw [Lib.add_plain]; match jj, hjj with | 0, hjj => cases hjj; exact ((Only.of_grown HW1.out.2).cell (by simp [go_sem]) (by simp [Value.ownBlock]))) (by intro u hu; simp at hu; rcases hu with rfl; rfl) (by omega) (by omega) (by first | (simp; done) | (simp; omega) | omega) ?_; intro v2 w3 hown hgrow hloc; have hb2 : Below D.heap.size D w3 := Below.grown (HB1.out) hgrow (by first | (simp; done) | (simp; omega) | omega) (by intro k hk; exact (own_lt HW1.out.1 hk).1); have k1 := cell_later hb2 d1; have f1 : w3.frozen? ⟨b, 1, none⟩ = false := (hb2.frozen dl).trans (HT.out.fz 1); obtain ⟨p2, cc3, hv, hxx⟩ := own_shape hown; clear hxx; subst hv; have HW2 := Lib.hid (And.intro hown hb2); clear hown hgrow hb2 hloc))
  all_goals go_end0
  all_goals
    obtain ⟨hown, hb2⟩ := HW2.out
    obtain ⟨k, hk, h1, h2⟩ := ref_mark HT.out HCV.out hown hb2
    exact ⟨rfl, _, _, ⟨g, rfl, HG.out⟩, ⟨k, rfl, Nat.le_trans (by have := HO.out.size; omega) hk⟩, h1, (HO.out.mono (fun k _ h => h.elim .inl (fun e => .inr (.inl e)))).comp h2 (fun k _ h => h) (fun k _ h => .inl h)⟩
end
end Go.Proofs.Ytpnchmelaonfiaa
