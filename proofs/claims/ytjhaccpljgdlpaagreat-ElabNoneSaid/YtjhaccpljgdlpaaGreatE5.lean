/- The law ElabNone: its walk, to the end. -/
import Derived.Test.YtjhaccpljgdlpaaGreatE4
import Derived.Deep.RegionHeld3
namespace Go.Proofs.YtjhaccpljgdlpaaGreat
open Go Go.RowKit

/-- where the loop stands: the tree's box, the four books. -/
structure LSt (W wr : World) (B S : Nat) (l : Bool) (k : Int) (s : ByteArray) (a : Int) (q : Option Addr) (n c : Nat) : Prop where
  bl : Below W.heap.size W wr
  t0 : wr.cell? ⟨B, 0, none⟩ = some (.bool l)
  t1 : wr.cell? ⟨B, 1, none⟩ = some (.int .u8 k)
  t2 : wr.cell? ⟨B, 2, none⟩ = some (.string s)
  t3 : wr.cell? ⟨B, 3, none⟩ = some (.int .i64 a)
  t4 : wr.cell? ⟨B, 4, none⟩ = some (.slice q n c)
  bk : ∀ i, i < 4 → ∃ v, wr.cell? ⟨S, i, none⟩ = some v ∧ Lacks wr v
theorem LSt.later {W wr wr' : World} {B S : Nat} {l : Bool} {k : Int} {s : ByteArray} {a : Int} {q : Option Addr} {n c : Nat} (h : LSt W wr B S l k s a q n c) (hb : Below wr.heap.size wr wr') : LSt W wr' B S l k s a q n c :=
  ⟨h.bl.trans (hb.mono h.bl.size), cell_later hb h.t0, cell_later hb h.t1, cell_later hb h.t2, cell_later hb h.t3, cell_later hb h.t4, fun i hi => by
    obtain ⟨v, h1, h2⟩ := h.bk i hi
    exact ⟨v, cell_later hb h1, h2.later hb⟩⟩
set_option maxRecDepth 100000 in
set_option maxHeartbeats 4000000 in
theorem law_any (l : Bool) (k : Int) (s : ByteArray) (a : Int) (q : Option Addr) (c : Nat) (x : Fo) (W : World) (F : Nat → Prop) (hx : FoIn W F x q) (hc : x.len ≤ c) (hn : x.len ≤ 281474976710656) (hs : s.size ≤ 140737488351232) (hz : szB 140737488351232 x) :
    Calls Tryz.prog 3 #[.agg #[.bool l, .int .u8 k, .string s, .int .i64 a, .slice q x.len c]] W fun e w' => e = .returned (.bool true) ∧ Below W.heap.size W w' := by
  obtain ⟨W1, hW1⟩ : ∃ W1, W1 = W.alloc (.cells #[.bool l, .int .u8 k, .string s, .int .i64 a, .slice q x.len c] 27) := ⟨_, rfl⟩
  have hb1 : Below W.heap.size W W1 := by rw [hW1]; exact below1 _ _
  have h1 := size48 x.size x (Nat.le_refl _) hz l k s a q c W1 F 501 (by omega) hs (hx.later hb1) hc hn
  obtain ⟨n, hxn⟩ : ∃ n, n = x.len := ⟨_, rfl⟩
  unfold trV at h1
  rw [← hxn] at h1 hW1 ⊢
  have hT : W1.cell? ⟨W.heap.size, 0, none⟩ = some (.bool l) ∧ W1.cell? ⟨W.heap.size, 1, none⟩ = some (.int .u8 k) ∧ W1.cell? ⟨W.heap.size, 2, none⟩ = some (.string s) ∧ W1.cell? ⟨W.heap.size, 3, none⟩ = some (.int .i64 a) ∧ W1.cell? ⟨W.heap.size, 4, none⟩ = some (.slice q n c) := by
    rw [hW1]; refine ⟨?_, ?_, ?_, ?_, ?_⟩ <;> simp
  have H1 := Lib.hid h1
  have HB1 := Lib.hid hb1
  have HT := Lib.hid hT
  have HW1 := Lib.hid hW1
  clear hx hc hn hs hz hb1 h1 hT hW1 hxn
  go_enter Tryz.func3, Tryz.ntmps3
  go_wp2_with fail
  rw [← HW1.out]
  refine H1.out.mono ?_
  rintro e w1 ⟨r, rfl, hr1, _, hb⟩
  have HB2 := Lib.hid (HB1.out.trans (hb.mono HB1.out.size))
  have HT2 := Lib.hid (And.intro (cell_later hb HT.out.1) (And.intro (cell_later hb HT.out.2.1) (And.intro (cell_later hb HT.out.2.2.1) (And.intro (cell_later hb HT.out.2.2.2.1) (cell_later hb HT.out.2.2.2.2)))))
  have r0 : (0 : Int) ≤ (r : Int) := Int.natCast_nonneg _
  clear hb hr1 H1 HB1 HT HW1
  by_cases h5 : (500 : Int) < (r : Int)
  · go_wp2_with fail
    refine (known_any w1).mono ?_
    rintro e w2 ⟨rfl, hb⟩
    have HB3 := Lib.hid (HB2.out.trans (hb.mono HB2.out.size))
    clear hb
    go_wp2_with fail
    exact bodyPost_ret (v := .bool true) (by simp [results, Tryz.results3, go_sem]) rfl ⟨rfl, HB3.out⟩
  have h6 : (r : Int) ≤ 500 := by omega
  clear h5
  go_wp2_with fail
  refine (new_any names6 _).mono ?_
  rintro e w2 ⟨⟨p, rfl⟩, hb⟩
  obtain ⟨Z1, hZ1⟩ : ∃ Z1, Z1 = w1.heap.size := ⟨_, rfl⟩
  obtain ⟨wa, hwa⟩ : ∃ wa, wa = w1.alloc (.cells #[.pointer none, .pointer none, .map none] 35) := ⟨_, rfl⟩
  have hl1 : Lacks wa (.pointer (some ⟨Z1, 0, none⟩)) := .inr ⟨Z1, none, none, rfl, by rw [hwa, hZ1]; simp, by rw [hwa, hZ1]; simp, .inl rfl⟩
  have hba : Below w1.heap.size w1 wa := by rw [hwa]; exact below1 _ _
  rw [← hwa] at hb
  have HL1 := Lib.hid (hl1.later hb)
  have HBW2 := Lib.hid (hba.trans (hb.mono hba.size))
  have HZ1 := Lib.hid hZ1
  rw [← hZ1]
  clear hb hl1 hba hwa
  go_wp2_with fail
  refine (new_any store7 _).mono ?_
  rintro e w3 ⟨⟨p3, rfl⟩, hb⟩
  obtain ⟨Z2, hZ2⟩ : ∃ Z2, Z2 = w2.heap.size := ⟨_, rfl⟩
  obtain ⟨wa, hwa⟩ : ∃ wa, wa = w2.alloc (.cells #[.pointer p, .pointer none, .map none] 35) := ⟨_, rfl⟩
  have hl2 : Lacks wa (.pointer (some ⟨Z2, 0, none⟩)) := .inr ⟨Z2, p, none, rfl, by rw [hwa, hZ2]; simp, by rw [hwa, hZ2]; simp, .inr rfl⟩
  have hba : Below w2.heap.size w2 wa := by rw [hwa]; exact below1 _ _
  rw [← hwa] at hb
  have hbw3 := hba.trans (hb.mono hba.size)
  have HL2 := Lib.hid (hl2.later hb)
  have HL1b := Lib.hid (HL1.out.later hbw3)
  have HBW3 := Lib.hid (HBW2.out.trans (hbw3.mono HBW2.out.size))
  rw [← hZ2]
  clear hb hl2 hba hwa hbw3 HBW2 HL1 hZ2
  go_wp2_with fail
  obtain ⟨Z3, hZ3⟩ : ∃ Z3, Z3 = w3.heap.size := ⟨_, rfl⟩
  obtain ⟨wa, hwa⟩ : ∃ wa, wa = w3.alloc (.cells #[.pointer none, .pointer p3, .map none] 35) := ⟨_, rfl⟩
  have hsz : wa.heap.size = Z3 + 1 := by rw [hwa, World.size_alloc, hZ3]
  have hl3 : Lacks wa (.pointer (some ⟨Z3, 0, none⟩)) := .inr ⟨Z3, none, p3, rfl, by rw [hwa, hZ3]; simp, by rw [hwa, hZ3]; simp, .inl rfl⟩
  have hba : Below w3.heap.size w3 wa := by rw [hwa]; exact below1 _ _
  rw [← hwa, ← hZ3, ← HZ1.out]
  obtain ⟨w4, hw4⟩ : ∃ w4, w4 = wa.alloc (.cells #[.pointer none, .pointer (some ⟨Z1, 0, none⟩), .pointer (some ⟨Z2, 0, none⟩), .pointer (some ⟨Z3, 0, none⟩)] 30) := ⟨_, rfl⟩
  have hb4 : Below wa.heap.size wa w4 := by rw [hw4]; exact below1 _ _
  have hc4 : w4.cell? ⟨Z3 + 1, 0, none⟩ = some (.pointer none) ∧ w4.cell? ⟨Z3 + 1, 1, none⟩ = some (.pointer (some ⟨Z1, 0, none⟩)) ∧ w4.cell? ⟨Z3 + 1, 2, none⟩ = some (.pointer (some ⟨Z2, 0, none⟩)) ∧ w4.cell? ⟨Z3 + 1, 3, none⟩ = some (.pointer (some ⟨Z3, 0, none⟩)) := by
    rw [hw4, ← hsz]; refine ⟨?_, ?_, ?_, ?_⟩ <;> simp
  rw [← hw4]
  have hb34 := hba.trans (hb4.mono hba.size)
  have hb14 := HBW3.out.trans (hb34.mono HBW3.out.size)
  obtain ⟨B0, hB0⟩ : ∃ B0, B0 = W.heap.size := ⟨_, rfl⟩
  have HL := Lib.hid (show LSt W w4 B0 (Z3 + 1) l k s a q n c from ⟨HB2.out.trans (hb14.mono HB2.out.size), by rw [hB0]; exact cell_later hb14 HT2.out.1, by rw [hB0]; exact cell_later hb14 HT2.out.2.1, by rw [hB0]; exact cell_later hb14 HT2.out.2.2.1, by rw [hB0]; exact cell_later hb14 HT2.out.2.2.2.1, by rw [hB0]; exact cell_later hb14 HT2.out.2.2.2.2, fun i hi => by
    have h4 : i = 0 ∨ i = 1 ∨ i = 2 ∨ i = 3 := by omega
    rcases h4 with rfl | rfl | rfl | rfl
    · exact ⟨_, hc4.1, .inl rfl⟩
    · exact ⟨_, hc4.2.1, HL1b.out.later hb34⟩
    · exact ⟨_, hc4.2.2.1, HL2.out.later hb34⟩
    · exact ⟨_, hc4.2.2.2, hl3.later hb4⟩⟩)
  rw [← hB0]
  clear hZ3 hwa hsz hl3 hba hw4 hb4 hc4 hb34 hb14 hB0 HBW3 HL1b HL2 HB2 HT2 HZ1 hZ1
  go_loopw [4] (fun x wr => ∃ i : Nat, i ≤ 4 ∧ x = .int .i64 (i : Int) ∧ Hid (LSt W wr B0 (Z3 + 1) l k s a q n c)) (fun x _ => 4 - (intOf x).toNat)
  case atStart => exact ⟨0, by decide, rfl, HL⟩
  case round =>
    obtain ⟨i, hi, rfl, HS⟩ := hrel
    have i0 : (0 : Int) ≤ (i : Int) := Int.natCast_nonneg _
    by_cases hlt : i < 4
    case neg =>
      have i3 : ¬ (i : Int) < 4 := by omega
      clear hi hlt
      go_wp2_with fail
      refine (known_any wr).mono ?_
      rintro e w2 ⟨rfl, hb⟩
      have HB2 := Lib.hid (HS.out.bl.trans (hb.mono HS.out.bl.size))
      clear hb
      go_wp2_with fail
      exact bodyPost_ret (v := .bool true) (by simp [results, Tryz.results3, go_sem]) rfl ⟨rfl, HB2.out⟩
    have i1 : (i : Int) < 4 := by omega
    have HI := Lib.hid (show i + 1 ≤ 4 ∧ 4 - (i + 1) < 4 - i ∧ wrap64 ((i : Int) + 1) = ((i + 1 : Nat) : Int) from ⟨by omega, by omega, by simp only [wrap64]; omega⟩)
    obtain ⟨v, hv, hla⟩ := HS.out.bk i hlt
    obtain ⟨_, t0, t1, t2, t3, t4, _⟩ := HS.out
    have HLA := Lib.hid hla
    clear hla hi hlt
    go_wp2_with fail
    go_region_held3 (fun w' => w'.cell? ⟨Z3 + 1, i, none⟩ = some v ∧ w'.cell? ⟨B0, 0, none⟩ = some (.bool l) ∧ w'.cell? ⟨B0, 1, none⟩ = some (.int .u8 k) ∧ w'.cell? ⟨B0, 2, none⟩ = some (.string s) ∧ w'.cell? ⟨B0, 3, none⟩ = some (.int .i64 a) ∧ w'.cell? ⟨B0, 4, none⟩ = some (.slice q n c)) (first | go_keep | exact ⟨cell_later HK.out hv, cell_later HK.out t0, cell_later HK.out t1, cell_later HK.out t2, cell_later HK.out t3, cell_later HK.out t4⟩) (first
      | (go_at_call 8; refine (term8 v l k s a (.slice q n c) _ (HLA.out.later (below_drew _))).mono ?_; rintro e w5 ⟨rfl, hb⟩; have HK := Lib.hid ((below_drew wr).trans (hb.mono (below_drew wr).size)); clear hb))
    have hv5 := cell_later HK.out hv
    have u0 := cell_later HK.out t0
    have u1 := cell_later HK.out t1
    have u2' := cell_later HK.out t2
    have u3 := cell_later HK.out t3
    have u4' := cell_later HK.out t4
    clear hv t0 t1 t2 t3 t4
    go_wp2_with fail
    go_region_held3 (fun w' => w'.cell? ⟨Z3 + 1, i, none⟩ = some v ∧ w'.cell? ⟨B0, 0, none⟩ = some (.bool l) ∧ w'.cell? ⟨B0, 1, none⟩ = some (.int .u8 k) ∧ w'.cell? ⟨B0, 2, none⟩ = some (.string s) ∧ w'.cell? ⟨B0, 3, none⟩ = some (.int .i64 a) ∧ w'.cell? ⟨B0, 4, none⟩ = some (.slice q n c)) (first | go_keep | exact ⟨cell_later HK2.out hv5, cell_later HK2.out u0, cell_later HK2.out u1, cell_later HK2.out u2', cell_later HK2.out u3, cell_later HK2.out u4'⟩) (first
      | (go_at_call 9; refine (body9 v l k s a (.slice q n c) _ (HLA.out.later (HK.out.trans ((below_drew _).mono HK.out.size)))).mono ?_; rintro e w6 ⟨rfl, hb⟩; have HK2 := Lib.hid ((below_drew w5).trans (hb.mono (below_drew w5).size)); clear hb))
    have HE := Lib.hid (HS.out.later (HK.out.trans (HK2.out.mono HK.out.size)))
    clear hv5 u0 u1 u2' u3 u4'
    go_wp2_with fail
    refine ⟨⟨i + 1, HI.out.1, by first | rfl | rw [HI.out.2.2], HE⟩, ?_⟩
    first | rw [HI.out.2.2] | skip
    simp only [intOf, Int.toNat_natCast]
    exact HI.out.2.1
end Go.Proofs.YtjhaccpljgdlpaaGreat
