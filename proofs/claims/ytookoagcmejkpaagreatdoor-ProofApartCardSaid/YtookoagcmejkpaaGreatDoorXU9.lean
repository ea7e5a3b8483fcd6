/- A tree's text: Text. -/
import Derived.Test.YtookoagcmejkpaaGreatDoorJ11
import Derived.Test.YtookoagcmejkpaaGreatDoorJ6
namespace Go.Proofs.YtookoagcmejkpaaGreatDoor.Lx
set_option maxRecDepth 100000
open Go Go.RowKit Go.Shelf
attribute [local go_sem] Oper.semAt_some
theorem parts50 (l : Bool) (k : Int) (s : ByteArray) (a : Int) (q : Option Addr) (n c : Nat) (W : World) :
  Calls Tryz.prog 83 #[trV l k s a q n c] W fun e w' => e = .returned (.func (.func 100) #[] #[.pointer (some ⟨W.heap.size, 0, none⟩)]) ∧ w' = W.alloc (.cells #[.bool l, .int .u8 k, .string s, .int .i64 a, .slice q n c] 35) := by
 unfold trV
 go_enter Tryz.func83, Tryz.ntmps83
 go_wp2_with fail
 go_ret
 exact ⟨rfl, rfl⟩
def TextE (l : Bool) (k : Int) (s : ByteArray) (x : Fo) (W : World) (e : Ending) (w' : World) : Prop := ∃ (X : ByteArray) (er : Int), e = .returned (.tuple #[.string X, .int .i64 er]) ∧ (X.data.toList, er) = textR l k s x ∧ Below W.heap.size W w'
theorem keeps_below {W W' : World} (h : Below W.heap.size W W') : KeepsOthers W W' := ⟨h.size, fun k _o ho _ => (h.block k (Array.getElem?_eq_some_iff.1 ho).1).trans ho⟩
theorem nodeW_le (d : Nd) (hs : d.s.size ≤ 65536) (hn : d.n ≤ 281474976710656) : nodeW d ≤ 281474976710700 := by
 unfold nodeW
 have h1 := rend_len d.k.toNat d.s.data.toList
 have h2 : d.s.data.toList.length = d.s.size := by simp
 split <;> omega
theorem okF_one (l : Bool) (k : Int) (s : ByteArray) (a : Int) (x : Fo) : okF (.cons l k s a x .nil) = okT l k s x := by simp [okF, okT]
theorem txtF_one (l : Bool) (k : Int) (s : ByteArray) (a : Int) (x : Fo) : txtF true (.cons l k s a x .nil) = txtT l k s x := by simp [txtF, txtT]
theorem txtT_len {l : Bool} {k : Int} {s : ByteArray} {x : Fo} (h : okT l k s x = true) : (txtT l k s x).length = wsum (partsF (.cons l k s 0 x .nil)) := by
 rw [← txtF_one l k s 0 x, txt_len _ true (by rw [okF_one]; exact h)]
 simp [Fo.len]
theorem own_bytes {w : World} {B n c : Nat} {p : Option Addr} {t : List UInt8} (h : w.ownsRow B 5 1 (.slice p n c) n (t.map u8v)) : t.length = n ∧ BytesIn w p t := by
 have hn : t.length = n := by have := h.1; simpa using this
 refine ⟨hn, fun i hi => ?_⟩
 obtain ⟨g, rfl⟩ : ∃ g, p = some ⟨g, 0, none⟩ := by
  rcases h.2 with ⟨e, _⟩ | ⟨g, _, _, e, _⟩
  ·injection e with _ e2 _; omega
  ·injection e with e2 _ _; exact ⟨g, e2⟩
 refine ⟨g, 0, rfl, ?_⟩
 rw [Nat.zero_add]
 exact (own_cell h i _ (by rw [List.getElem?_map, List.getElem?_eq_getElem hi]; rfl)).1
theorem conv_txt (W : World) (p : Option Addr) (c : Nat) (bs : List UInt8) (h : BytesIn W p bs) : (convert 57 9 (.slice p bs.length c)).run Tryz.prog W = .ok (.string ⟨bs.toArray⟩) W := by
 cases p with
 | none =>
  obtain rfl : bs = [] := by
   cases bs with
   | nil => rfl
   | cons x l => obtain ⟨b, off, e, _⟩ := h 0 (by simp); cases e
  exact run_convert_bytes_nil W 57 5 Tryz.underlying57 Tryz.underlying5 0 _ 9 Tryz.underlying9
 | some ad =>
  refine run_convert_bytes_back W 57 9 5 ad c bs Tryz.underlying57 Tryz.underlying5 Tryz.underlying9 fun j hj => ?_
  obtain ⟨b, off, e, hc⟩ := h j hj
  cases e
  rw [Lib.add_plain]; exact hc
theorem make_bytes (W : World) (L : Nat) (hL : L ≤ 1048576) : ∃ M : Array Value, (Instr.makeSlice 57 (.int .i64 0) (.int .i64 (L : Int))).run Tryz.prog W = .ok (.slice (some ⟨W.heap.size, 0, none⟩) 0 L) (W.alloc (.cells M 5)) ∧ (W.alloc (.cells M 5)).ownsRow W.heap.size 5 1 (.slice (some ⟨W.heap.size, 0, none⟩) 0 L) 0 [] := by
 obtain ⟨i0, hi, hz0, hz1, hz2⟩ := info5
 have hMs : (madeCells (Value.int .u8 0).cells (((L : Nat) : Int).toNat * i0.size)).size = L := by rw [size_madeCells, hz1]; simp
 refine ⟨madeCells (Value.int .u8 0).cells (((L : Nat) : Int).toNat * i0.size), ?_, rfl, .inr ⟨W.heap.size, L, _, rfl, Nat.le_refl _, heap_alloc_new W _, Nat.zero_le _, by simp only [maxLen]; omega, by rw [hMs]; simp, by simp⟩⟩
 have h := run_make (P := Tryz.prog) W 57 5 i0 (.int .u8 0) Tryz.underlying57 hi hz0 .i64 .i64 0 (L : Int) (by omega) (by omega) (by rw [hz2]; omega) (by omega)
 simpa using h
theorem only_from {B : Nat} {A A' : World} (hb : Below B A A') : Only (fun j => B ≤ j) A A' := ⟨hb.os, hb.tape, hb.output, hb.size, fun k _ hn => hb.block k (Nat.lt_of_not_le hn)⟩
theorem put_two {V : World} {B2 B3 : Nat} (hne : B2 ≠ B3) {u2 u3 : Value} (c2 : V.cell? ⟨B2, 0, none⟩ = some u2) (c3 : V.cell? ⟨B3, 0, none⟩ = some u3) (v2 v3 : Value) :
  ((V.setCell ⟨B2, 0, none⟩ v2).setCell ⟨B3, 0, none⟩ v3).cell? ⟨B2, 0, none⟩ = some v2 ∧ ((V.setCell ⟨B2, 0, none⟩ v2).setCell ⟨B3, 0, none⟩ v3).cell? ⟨B3, 0, none⟩ = some v3 ∧ KeepsOthers V ((V.setCell ⟨B2, 0, none⟩ v2).setCell ⟨B3, 0, none⟩ v3) ∧
   (∀ B, B ≤ B2 → B ≤ B3 → Below B V ((V.setCell ⟨B2, 0, none⟩ v2).setCell ⟨B3, 0, none⟩ v3)) ∧ Only (fun j => j = B2 ∨ j = B3) V ((V.setCell ⟨B2, 0, none⟩ v2).setCell ⟨B3, 0, none⟩ v3) := by
 have h1 : (V.setCell ⟨B2, 0, none⟩ v2).cell? ⟨B2, 0, none⟩ = some v2 := World.cell?_setCell_same _ _ _ c2
 have h2 : (V.setCell ⟨B2, 0, none⟩ v2).cell? ⟨B3, 0, none⟩ = some u3 := (World.cell?_setCell_other _ _ _ _ (by intro e; cases e; exact hne rfl)).trans c3
 refine ⟨(World.cell?_setCell_other _ _ _ _ (by intro e; cases e; exact hne rfl)).trans h1, World.cell?_setCell_same _ _ _ h2, (KeepsOthers.setCell _ _ _).trans (KeepsOthers.setCell _ _ _), fun B hB2 hB3 => ?_, ?_⟩
 ·exact ((Below.refl B V).setCell (p := ⟨B2, 0, none⟩) hB2 _).setCell (p := ⟨B3, 0, none⟩) hB3 _
 ·exact ((Only.of_setCell V ⟨B2, 0, none⟩ v2).mono (fun k _ e => Or.inl e)).trans ((Only.of_setCell _ ⟨B3, 0, none⟩ v3).mono (fun k _ e => Or.inr e))
theorem fin_two {W E : World} {D B B2 B3 : Nat} {v2 v3 : Value} (k2 : E.heap[D]? = some (.deferred (some []))) (c2 : E.cell? ⟨B2, 0, none⟩ = some v2) (c3 : E.cell? ⟨B3, 0, none⟩ = some v3) (hb : Below B W E) (hD : B ≤ D) :
  (E.putObj D (.deferred none)).cell? ⟨B2, 0, none⟩ = some v2 ∧ (E.putObj D (.deferred none)).cell? ⟨B3, 0, none⟩ = some v3 ∧ Below B W (E.putObj D (.deferred none)) :=
 ⟨cell_kept c2 (grownBy_putObj' E D (.deferred none)) (fun r e => by cases e; exact ⟨_, k2, rfl⟩), cell_kept c3 (grownBy_putObj' E D (.deferred none)) (fun r e => by cases e; exact ⟨_, k2, rfl⟩), hb.trans (below_put E D _ _ hD k2)⟩
set_option maxHeartbeats 6400000 in
theorem text29 (l : Bool) (k : Int) (s : ByteArray) (a : Int) (q : Option Addr) (c : Nat) (x : Fo) (W : World) (F0 : Nat → Prop) (hx0 : FoIn W F0 x q) (hc : x.len ≤ c) (hn : x.len ≤ 281474976710656) (hs : s.size ≤ 65536) (hz : szB 65536 x) (hsz : x.size ≤ 1099511627776) (hm : MaxAt W) :
  Calls Tryz.prog 57 #[trV l k s a q x.len c] W (TextE l k s x W) := by
 obtain ⟨F, hFd⟩ : ∃ F : Nat → Prop, F = fun b => b < W.heap.size := ⟨_, rfl⟩
 have hx : FoIn W F x q := hx0.mono (fun b _ hb => by rw [hFd]; exact hb)
 have hp := parts50 l k s a q x.len c ((((W.alloc (.cells #[.bool l, .int .u8 k, .string s, .int .i64 a, .slice q x.len c] 35)).alloc (.cells #[.string ⟨#[]⟩] 9)).alloc (.cells #[.int .i64 0] 36)).alloc (.cells #[.int .i64 0] 3))
 unfold trV at hp ⊢
 have HP := Lib.hid hp
 clear hp hx0
 refine (callsIn_wide (n := 9)).1 ?_
 refine callsIn_of_wp_marks Tryz.func57 rfl trivial ?_ rfl
 simp only [Tryz.ntmps57, List.size_toArray, List.length_cons, List.length_nil, Nat.reduceAdd, Nat.reduceSub, Array.replicate_succ, Array.replicate_zero, List.push_toArray, List.append_toArray, List.nil_append, List.cons_append]
 gi_wp2_with fail
 first
  | (refine ⟨trivial, ?_⟩; gi_at_call 83)
  | gi_at_call 83
 refine (callsIn_wide.2 HP.out).mono ?_
 rintro e w' ⟨rfl, rfl⟩
 clear HP
 gi_wp2_with fail
 obtain ⟨N, hN⟩ : ∃ N, N = x.len := ⟨_, rfl⟩
 rw [← hN]
 obtain ⟨W5, hW5⟩ : ∃ W5, W5 = (((((W.alloc (.cells #[.bool l, .int .u8 k, .string s, .int .i64 a, .slice q N c] 35)).alloc (.cells #[.string ⟨#[]⟩] 9)).alloc (.cells #[.int .i64 0] 36)).alloc (.cells #[.int .i64 0] 3)).alloc (.cells #[.bool l, .int .u8 k, .string s, .int .i64 a, .slice q N c] 35)) := ⟨_, rfl⟩
 rw [← hW5]
 have hb5 : Below W.heap.size W W5 := by rw [hW5]; exact (((((Below.refl _ W).alloc (Nat.le_refl _) _).alloc (by simp) _).alloc (by first | (simp; done) | (simp; omega)) _).alloc (by first | (simp; done) | (simp; omega)) _).alloc (by first | (simp; done) | (simp; omega)) _
 have hs5 : W5.heap.size = W.heap.size + 5 := by rw [hW5]; simp
 obtain ⟨B1, hB1⟩ : ∃ B, B = W.heap.size := ⟨_, rfl⟩
 obtain ⟨B2, hB2⟩ : ∃ B, B = W.heap.size + 1 := ⟨_, rfl⟩
 obtain ⟨B3, hB3⟩ : ∃ B, B = W.heap.size + 1 + 1 := ⟨_, rfl⟩
 obtain ⟨BS, hBS⟩ : ∃ B, B = W.heap.size + 1 + 1 + 1 := ⟨_, rfl⟩
 obtain ⟨BN, hBN⟩ : ∃ B, B = W.heap.size + 1 + 1 + 1 + 1 := ⟨_, rfl⟩
 have a0 : W5.cell? ⟨B1, 0, none⟩ = some (.bool l) := by rw [hB1, hW5]; simp [go_sem]
 have a1 : W5.cell? ⟨B1, 1, none⟩ = some (.int .u8 k) := by rw [hB1, hW5]; simp [go_sem]
 have a2 : W5.cell? ⟨B1, 2, none⟩ = some (.string s) := by rw [hB1, hW5]; simp [go_sem]
 have a3 : W5.cell? ⟨B1, 3, none⟩ = some (.int .i64 a) := by rw [hB1, hW5]; simp [go_sem]
 have a4 : W5.cell? ⟨B1, 4, none⟩ = some (.slice q N c) := by rw [hB1, hW5]; simp [go_sem]
 have n0 : W5.cell? ⟨BN, 0, none⟩ = some (.bool l) := by rw [hBN, hW5]; simp [go_sem]
 have n1 : W5.cell? ⟨BN, 1, none⟩ = some (.int .u8 k) := by rw [hBN, hW5]; simp [go_sem]
 have n2 : W5.cell? ⟨BN, 2, none⟩ = some (.string s) := by rw [hBN, hW5]; simp [go_sem]
 have n3 : W5.cell? ⟨BN, 3, none⟩ = some (.int .i64 a) := by rw [hBN, hW5]; simp [go_sem]
 have n4 : W5.cell? ⟨BN, 4, none⟩ = some (.slice q x.len c) := by rw [← hN, hBN, hW5]; simp [go_sem]
 have c2 : W5.cell? ⟨B2, 0, none⟩ = some (.string ⟨#[]⟩) := by rw [hB2, hW5]; simp [go_sem]
 have f2 : W5.frozen? ⟨B2, 0, none⟩ = false := by rw [hB2, hW5]; simp [go_sem]
 have c3 : W5.cell? ⟨B3, 0, none⟩ = some (.int .i64 0) := by rw [hB3, hW5]; simp [go_sem]
 have f3 : W5.frozen? ⟨B3, 0, none⟩ = false := by rw [hB3, hW5]; simp [go_sem]
 have c4 : W5.cell? ⟨BS, 0, none⟩ = some (.int .i64 0) := by rw [hBS, hW5]; simp [go_sem]
 have f4 : W5.frozen? ⟨BS, 0, none⟩ = false := by rw [hBS, hW5]; simp [go_sem]
 rw [← hBN, ← hBS, ← hB3, ← hB2, ← hB1]
 have HB := Lib.hid (And.intro hB1 (And.intro hB2 (And.intro hB3 (And.intro hBS (And.intro hBN hs5)))))
 have HA := Lib.hid (And.intro a0 (And.intro a1 (And.intro a2 (And.intro a3 (And.intro a4 hN)))))
 have HC := Lib.hid (And.intro c2 (And.intro f2 (And.intro c3 f3)))
 have HM := Lib.hid (hm.later hb5)
 have HB5 := Lib.hid hb5
 have HX := Lib.hid (hx.later hb5)
 have HH := Lib.hid (And.intro hc (And.intro hn (And.intro hs (And.intro hz hsz))))
 have hseq := parts_seq (9 - 1) (by omega) BN BS l k s a q c x W5 F n0 n1 n2 n3 n4 HX.out (fun b hb => by rw [hFd] at hb; have hb : b < W.heap.size := hb; omega) (by omega) hc hn hs hz hsz
 have HSEQ := Lib.hid hseq
 clear hW5 hB1 hB2 hB3 hBS hBN hs5 a0 a1 a2 a3 a4 n0 n1 n2 n3 n4 c2 f2 c3 f3 hm hb5 hx hN hseq hz
 have n12 : (N : Int) ≤ 281474976710656 := by have := HH.out.2.1; have := HA.out.2.2.2.2.2; omega
 refine range_below rfl (by omega) (gf := 100) (lb := #[.pointer (some ⟨BN, 0, none⟩)]) rfl trivial (enters_of Tryz.func100 (by kernel_rfl) rfl) HSEQ.out (fun h k => h.trans k) (fun W l o o' _ h hc => KpC.put W l o o' h hc) (fun _ => rfl)
  (fun pre V => Only (fun j => j = BS) W5 V ∧ V.cell? ⟨BS, 0, none⟩ = some (.int .i64 (szF 0 (pre.map Tr.nd) : Int)) ∧ V.frozen? ⟨BS, 0, none⟩ = false ∧ (∀ t ∈ pre, nodeB t.nd = true))
  (fun cc pre V => cc = .ret ∧ Only (fun j => j = B2 ∨ j = B3 ∨ j = BS) W5 V ∧ V.cell? ⟨B2, 0, none⟩ = some (.string ⟨#[]⟩) ∧ V.cell? ⟨B3, 0, none⟩ = some (.int .i64 5) ∧ (∃ t ∈ pre, nodeB t.nd = false))
  ?hI ?hIx ?h0
  (fun t a' V => ∃ Bx, W5.heap.size ≤ Bx ∧ (V.cell? ⟨Bx, 0, none⟩ = some (.bool t.l) ∧ V.cell? ⟨Bx, 1, none⟩ = some (.int .u8 t.k) ∧ V.cell? ⟨Bx, 2, none⟩ = some (.string t.s) ∧ V.cell? ⟨Bx, 3, none⟩ = some (.int .i64 t.a) ∧ V.cell? ⟨Bx, 4, none⟩ = some (.slice t.q t.n t.c)) ∧
   a' = { tmps := #[.agg #[.bool l, .int .u8 k, .string s, .int .i64 a, .slice q N c], .pointer (some ⟨B1, 0, none⟩), .pointer (some ⟨B2, 0, none⟩), .pointer (some ⟨B3, 0, none⟩), .pointer (some ⟨BS, 0, none⟩), .pointer (some ⟨Bx, 0, none⟩), undef, undef, undef, .agg #[.bool l, .int .u8 k, .string s, .int .i64 a, .slice q N c], .func (.func 100) #[] #[.pointer (some ⟨BN, 0, none⟩)], .agg #[.bool t.l, .int .u8 t.k, .string t.s, .int .i64 t.a, .slice t.q t.n t.c], undef, undef, undef, undef, undef, undef, undef, undef, undef, undef, undef, undef, undef, undef, undef, undef, undef, undef, undef, undef, undef, undef, undef], defers := [] })
  ?hAx ?assign ?body ?done ?stop
 case hI =>
  rintro pre A A' ⟨h1, h2, h3, h4⟩ hb
  have hlt : BS < W5.heap.size := by have := HB.out; omega
  exact ⟨h1.trans2 (only_from hb) (fun j hj => .inr hj), (hb.cell (p := ⟨BS, 0, none⟩) hlt).trans h2, (hb.frozen (p := ⟨BS, 0, none⟩) hlt).trans h3, h4⟩
 case hIx =>
  rintro cc pre A A' ⟨h0, h1, h2, h3, h4⟩ hb
  have hlt2 : B2 < W5.heap.size := by have := HB.out; omega
  have hlt3 : B3 < W5.heap.size := by have := HB.out; omega
  exact ⟨h0, h1.trans2 (only_from hb) (fun j hj => .inr hj), (hb.cell (p := ⟨B2, 0, none⟩) hlt2).trans h2, (hb.cell (p := ⟨B3, 0, none⟩) hlt3).trans h3, h4⟩
 case h0 => exact ⟨Only.refl _ _, c4, f4, fun t ht => by cases ht⟩
 case hAx =>
  rintro t a' V l' o o' _ ⟨Bx, hBx, ⟨d0, d1, d2, d3, d4⟩, rfl⟩ ho hc'
  have hk : ∀ (j : Nat) (v : Value), V.cell? ⟨Bx, j, none⟩ = some v → (V.putObj l' o').cell? ⟨Bx, j, none⟩ = some v := fun j v h => cell_kept h (grownBy_putObj' V l' o') (fun r e => by cases e; exact ⟨o, ho, hc'⟩)
  exact ⟨Bx, hBx, ⟨hk _ _ d0, hk _ _ d1, hk _ _ d2, hk _ _ d3, hk _ _ d4⟩, rfl⟩
 case assign =>
  rintro lk pre t V K ⟨h1, h2, h3, h4⟩ hK
  have hI2 : Only (fun j => j = BS) W5 (V.alloc (.cells #[.bool t.l, .int .u8 t.k, .string t.s, .int .i64 t.a, .slice t.q t.n t.c] 35)) ∧ (V.alloc (.cells #[.bool t.l, .int .u8 t.k, .string t.s, .int .i64 t.a, .slice t.q t.n t.c] 35)).cell? ⟨BS, 0, none⟩ = some (.int .i64 (szF 0 (pre.map Tr.nd) : Int)) ∧ (V.alloc (.cells #[.bool t.l, .int .u8 t.k, .string t.s, .int .i64 t.a, .slice t.q t.n t.c] 35)).frozen? ⟨BS, 0, none⟩ = false ∧ (∀ t ∈ pre, nodeB t.nd = true) := by
   have hb := below1 V (.cells #[.bool t.l, .int .u8 t.k, .string t.s, .int .i64 t.a, .slice t.q t.n t.c] 35)
   exact ⟨h1.trans (Only.of_below hb), cell_later hb h2, (hb.frozen (p := ⟨BS, 0, none⟩) (World.block_lt_of_cell? V _ h2)).trans h3, h4⟩
  have HI2 := Lib.hid hI2
  have HKK := Lib.hid hK
  have hsz1 := h1.size
  clear hI2 hK h1 h2 h3 h4
  unfold Tr.v trV
  gi_wp2_with fail
  exact HKK.out _ _ (KeepsOthers.alloc _ _) (KpC.of_only (Only.of_below (below1 _ _))) HI2.out ⟨V.heap.size, hsz1, ⟨by simp [go_sem], by simp [go_sem], by simp [go_sem], by simp [go_sem], by simp [go_sem]⟩, rfl⟩
 case body =>
  rintro lk pre t a' V ⟨h1, h2, h3, h4⟩ ⟨Bx, hBx, ⟨d0, d1, d2, d3, d4⟩, rfl⟩ hlen
  have hmV : MaxAt V := by obtain ⟨m, hm⟩ := HM.out; exact ⟨m, h1.cell hm (by have := HB.out; show ¬ (0 : Nat) = BS; omega)⟩
  have hw := written51 t.l t.k t.s t.a t.q t.n t.c V t.hs t.hn hmV
  unfold trV at hw
  have hsf : szF 0 (pre.map Tr.nd) ≤ 1048576 + 281474976710700 := szF_le _ _ _ (fun d hd => by obtain ⟨t', _, rfl⟩ := List.mem_map.1 hd; exact nodeW_le _ t'.hs t'.hn) (by omega)
  obtain ⟨SZ, hSZ⟩ : ∃ SZ, SZ = szF 0 (pre.map Tr.nd) := ⟨_, rfl⟩
  rw [← hSZ] at h2 hsf
  have hy0 := nodeW_le t.nd t.hs t.hn
  have hlt2 : B2 < W5.heap.size := by have := HB.out; omega
  have hlt3 : B3 < W5.heap.size := by have := HB.out; omega
  have e2 := h1.cell HC.out.1 (by have := HB.out; show ¬ B2 = BS; omega)
  have g2 := (h1.frozen (a := ⟨B2, 0, none⟩) hlt2 (by have := HB.out; show ¬ B2 = BS; omega)).trans HC.out.2.1
  have e3 := h1.cell HC.out.2.2.1 (by have := HB.out; show ¬ B3 = BS; omega)
  have g3 := (h1.frozen (a := ⟨B3, 0, none⟩) hlt3 (by have := HB.out; show ¬ B3 = BS; omega)).trans HC.out.2.2.2
  have hV2 : B2 < V.heap.size := World.block_lt_of_cell? V _ e2
  have hV3 : B3 < V.heap.size := World.block_lt_of_cell? V _ e3
  have hVS : BS < V.heap.size := World.block_lt_of_cell? V _ h2
  have HW := Lib.hid hw
  have HI := Lib.hid (And.intro h1 (And.intro h4 hSZ))
  have HV := Lib.hid (And.intro hV2 (And.intro hV3 hVS))
  have HC1 := Lib.hid (And.intro e2 (And.intro g2 (And.intro e3 (And.intro g3 (And.intro h2 h3)))))
  clear hw h1 h2 h3 h4 hSZ hmV e2 g2 e3 g3 hV2 hV3 hVS hlt2 hlt3 hlen hBx
  have s1 : (SZ : Int) ≤ 281474977759276 := by omega
  gi_wp2_with fail
  first
   | (refine ⟨trivial, ?_⟩; gi_at_call 84)
   | gi_at_call 84
  refine (CallsIn.inRound lk (callsIn_wide.2 HW.out)).mono ?_
  rintro e w1 ⟨y, rfl, hy, hb1⟩
  have e2 := cell_later hb1 HC1.out.1
  have g2 := (hb1.frozen (p := ⟨B2, 0, none⟩) HV.out.1).trans HC1.out.2.1
  have e3 := cell_later hb1 HC1.out.2.2.1
  have g3 := (hb1.frozen (p := ⟨B3, 0, none⟩) HV.out.2.1).trans HC1.out.2.2.2.1
  have h2 := cell_later hb1 HC1.out.2.2.2.2.1
  have h3 := (hb1.frozen (p := ⟨BS, 0, none⟩) HV.out.2.2).trans HC1.out.2.2.2.2.2
  have HB1 := Lib.hid hb1
  have hnd : (⟨t.l, t.k, t.s, t.n⟩ : Nd) = t.nd := rfl
  rw [hnd] at hy ⊢
  clear hb1 HW hnd d0 d1 d2 d3 d4
  cases hB : nodeB t.nd with
  | false =>
   rw [hB] at hy
   have HBB := Lib.hid hB
   have hp2 := put_two (V := w1) (B2 := B2) (B3 := B3) (by have := HB.out; omega) e2 e3 (.string ⟨#[]⟩) (.int .i64 5)
   have HP2 := Lib.hid hp2
   have x3 : (w1.setCell ⟨B2, 0, none⟩ (.string ⟨#[]⟩)).cell? ⟨B3, 0, none⟩ = some (.int .i64 0) := (World.cell?_setCell_other _ _ _ _ (by intro e; cases e; have := HB.out; omega)).trans e3
   have y3 : (w1.setCell ⟨B2, 0, none⟩ (.string ⟨#[]⟩)).frozen? ⟨B3, 0, none⟩ = false := by rw [World.frozen?_setCell]; exact g3
   clear hp2 hB hy
   gi_wp2_with fail
   exact ⟨(keeps_below HB1.out).trans HP2.out.2.2.1, rfl, ((HI.out.1.trans (Only.of_below HB1.out)).mono (fun k _ e => Or.inr (Or.inr e))).trans (HP2.out.2.2.2.2.mono (fun k _ e => e.elim Or.inl (fun h => Or.inr (Or.inl h)))), HP2.out.1, HP2.out.2.1, t, by simp, HBB.out⟩
  | true =>
   have hY : y = nodeW t.nd := hy hB
   have HBB := Lib.hid hB
   rw [← hY] at hy0
   have HY := Lib.hid hY
   clear hY
   have s2 : (y : Int) ≤ 281474976710700 := by omega
   have hall : ∀ t' ∈ pre ++ [t], nodeB t'.nd = true := fun t' ht' => by
    rcases List.mem_append.1 ht' with h | h
    ·exact HI.out.2.1 t' h
    ·rw [List.mem_singleton] at h; rw [h]; exact HBB.out
   have hnx : szF 0 ((pre ++ [t]).map Tr.nd) = if SZ ≤ 1048576 then SZ + y else SZ := by rw [List.map_append, HI.out.2.2, HY.out]; exact szF_snoc _ _ _
   have hO := HI.out.1.trans (Only.of_below HB1.out)
   have HO := Lib.hid (And.intro hO (And.intro hall hnx))
   clear hB hy hall hnx hO
   by_cases hle : SZ ≤ 1048576
   ·have s3 : (SZ : Int) ≤ 1048576 := by omega
    have hsame : (w1.setCell ⟨BS, 0, none⟩ (.int .i64 ((SZ : Int) + (y : Int)))).cell? ⟨BS, 0, none⟩ = some (.int .i64 ((SZ : Int) + (y : Int))) := World.cell?_setCell_same _ _ _ h2
    have hfz : (w1.setCell ⟨BS, 0, none⟩ (.int .i64 ((SZ : Int) + (y : Int)))).frozen? ⟨BS, 0, none⟩ = false := by rw [World.frozen?_setCell]; exact h3
    have HSA := Lib.hid (And.intro hsame hfz)
    have HLE := Lib.hid hle
    clear hsame hfz hle
    gi_wp2_with fail
    refine ⟨(keeps_below HB1.out).trans (KeepsOthers.setCell _ _ _), KpC.of_only (((Only.of_below HB1.out)).trans (Only.of_setCell _ ⟨BS, 0, none⟩ _)), HO.out.1.trans (Only.of_setCell _ ⟨BS, 0, none⟩ _), ?_, HSA.out.2, HO.out.2.1⟩
    rw [HO.out.2.2, if_pos HLE.out, HSA.out.1]
    simp
   ·have s3 : ¬ (SZ : Int) ≤ 1048576 := by omega
    have s4 : decide ((SZ : Int) ≤ 1048576) = false := by simpa using s3
    have HLE := Lib.hid hle
    clear hle
    gi_wp2_with fail
    refine ⟨keeps_below HB1.out, KpC.of_only (Only.of_below HB1.out), HO.out.1, ?_, h3, HO.out.2.1⟩
    rw [HO.out.2.2, if_neg HLE.out]
    exact h2
 case done =>
  rintro D ys V hD hS ⟨h1, h2, h3, h4⟩ hK
  have hok : okT l k s x = true := by
   rw [← okF_one l k s a x, okF_parts, ← hS, List.all_eq_true]
   intro d hd
   obtain ⟨t, ht, rfl⟩ := List.mem_map.1 hd
   exact h4 t ht
  obtain ⟨SZ, hSZ⟩ : ∃ SZ, SZ = szF 0 (ys.map Tr.nd) := ⟨_, rfl⟩
  rw [← hSZ] at h2
  have hpl : partsF (.cons l k s 0 x .nil) = partsF (.cons l k s a x .nil) := rfl
  have hlen : (txtT l k s x).length = wsum (ys.map Tr.nd) := by rw [txtT_len hok, hpl, hS]
  have hsp := szF_spec (ys.map Tr.nd) 0
  rw [Nat.zero_add, ← hlen, ← hSZ] at hsp
  have hbd : SZ ≤ 1048576 + 281474976710700 := by rw [hSZ]; exact szF_le _ _ _ (fun d hd => by obtain ⟨t', _, rfl⟩ := List.mem_map.1 hd; exact nodeW_le _ t'.hs t'.hn) (by omega)
  have hlt2 : B2 < W5.heap.size := by have := HB.out; omega
  have hlt3 : B3 < W5.heap.size := by have := HB.out; omega
  have e2 := h1.cell HC.out.1 (by have := HB.out; show ¬ B2 = BS; omega)
  have g2 := (h1.frozen (a := ⟨B2, 0, none⟩) hlt2 (by have := HB.out; show ¬ B2 = BS; omega)).trans HC.out.2.1
  have e3 := h1.cell HC.out.2.2.1 (by have := HB.out; show ¬ B3 = BS; omega)
  have g3 := (h1.frozen (a := ⟨B3, 0, none⟩) hlt3 (by have := HB.out; show ¬ B3 = BS; omega)).trans HC.out.2.2.2
  have a0 := h1.cell HA.out.1 (by have := HB.out; show ¬ B1 = BS; omega)
  have a1 := h1.cell HA.out.2.1 (by have := HB.out; show ¬ B1 = BS; omega)
  have a2 := h1.cell HA.out.2.2.1 (by have := HB.out; show ¬ B1 = BS; omega)
  have a3 := h1.cell HA.out.2.2.2.1 (by have := HB.out; show ¬ B1 = BS; omega)
  have a4 := h1.cell HA.out.2.2.2.2.1 (by have := HB.out; show ¬ B1 = BS; omega)
  have hmV : MaxAt V := by obtain ⟨m, hm⟩ := HM.out; exact ⟨m, h1.cell hm (by have := HB.out; show ¬ (0 : Nat) = BS; omega)⟩
  have hxV : FoIn V F x q := HX.out.only h1 (fun b hb => by rw [hFd] at hb; have hb : b < W.heap.size := hb; have := HB.out; omega)
  have hbV : Below W.heap.size W V := HB5.out.trans (h1.below (fun j hj => by have := HB.out; omega) HB5.out.size)
  have hdp := depth31 l k s a q c x V F hxV HH.out.1 HH.out.2.1
  rw [← HA.out.2.2.2.2.2] at hdp
  unfold trV at hdp
  have hDV : D < V.heap.size := by
   rcases Nat.lt_or_ge D V.heap.size with h | h
   ·exact h
   ·rw [Array.getElem?_eq_none h] at hK; cases hK
  have HDD := Lib.hid (show W.heap.size ≤ D by have := HB.out; omega)
  have HDP := Lib.hid hdp
  have HK := Lib.hid (And.intro hK hDV)
  have HFA := Lib.hid (And.intro hok (And.intro hsp (And.intro hxV (And.intro hmV hbV))))
  have hdle := depT_le l x 201
  obtain ⟨DP, hDP⟩ : ∃ DP, DP = depT l x 201 := ⟨_, rfl⟩
  rw [← hDP] at hdle HDP
  have HDPE := Lib.hid hDP
  have w1' : (DP : Int) ≤ 201 := by omega
  have w2' : (SZ : Int) ≤ 281474977759276 := by omega
  have HALL := Lib.hid (And.intro e2 (And.intro g2 (And.intro e3 (And.intro g3 (And.intro h2 (And.intro a0 (And.intro a1 (And.intro a2 (And.intro a3 a4)))))))))
  have HLT := Lib.hid (And.intro (World.block_lt_of_cell? V _ e2) (World.block_lt_of_cell? V _ e3))
  clear hok hSZ hpl hlen hsp hbd hlt2 hlt3 hmV hxV hbV hdp hDV hDP hdle h1 h3 h4 hS hK hD
  gi_wp2_with fail
  first
   | (refine ⟨trivial, ?_⟩; gi_at_call 85)
   | gi_at_call 85
  refine (callsIn_wide.2 HDP.out).mono ?_
  rintro e w1 ⟨rfl, hb1⟩
  clear e2 g2 e3 g3 h2 a0 a1 a2 a3 a4
  have e2 := cell_later hb1 HALL.out.1
  have g2 := (hb1.frozen (p := ⟨B2, 0, none⟩) HLT.out.1).trans HALL.out.2.1
  have e3 := cell_later hb1 HALL.out.2.2.1
  have g3 := (hb1.frozen (p := ⟨B3, 0, none⟩) HLT.out.2).trans HALL.out.2.2.2.1
  have h2 := cell_later hb1 HALL.out.2.2.2.2.1
  have a0 := cell_later hb1 HALL.out.2.2.2.2.2.1
  have a1 := cell_later hb1 HALL.out.2.2.2.2.2.2.1
  have a2 := cell_later hb1 HALL.out.2.2.2.2.2.2.2.1
  have a3 := cell_later hb1 HALL.out.2.2.2.2.2.2.2.2.1
  have a4 := cell_later hb1 HALL.out.2.2.2.2.2.2.2.2.2
  have HBV := Lib.hid (HFA.out.2.2.2.2.trans (hb1.mono HFA.out.2.2.2.2.size))
  have HK1 := Lib.hid ((hb1.block D HK.out.2).trans HK.out.1)
  have HFX := Lib.hid (And.intro (HFA.out.2.2.1.later hb1) (HFA.out.2.2.2.1.later hb1))
  have x3 : ∀ X : ByteArray, (w1.setCell ⟨B2, 0, none⟩ (.string X)).cell? ⟨B3, 0, none⟩ = some (.int .i64 0) := fun X => (World.cell?_setCell_other _ _ _ _ (by intro e; cases e; have := HB.out; omega)).trans e3
  have y3 : ∀ X : ByteArray, (w1.setCell ⟨B2, 0, none⟩ (.string X)).frozen? ⟨B3, 0, none⟩ = false := fun X => by rw [World.frozen?_setCell]; exact g3
  clear hb1 HALL HLT HK HDP
  by_cases hd : 200 < DP
  ·have hd1 : (200 : Int) < (DP : Int) := by omega
   have hR : textR l k s x = ([], 40) := by
    unfold textR
    rw [if_neg (by rw [HFA.out.1]; decide), if_pos (by rw [← HDPE.out]; exact hd)]
   have HRR := Lib.hid hR
   clear hR hd
   have hp2 := put_two (V := w1) (B2 := B2) (B3 := B3) (by have := HB.out; omega) e2 e3 (.string ⟨#[]⟩) (.int .i64 40)
   have kE := hp2.2.2.1.same D _ HK1.out rfl
   have hbE := (HBV.out).trans (hp2.2.2.2.1 W.heap.size (by have := HB.out; omega) (by have := HB.out; omega))
   have hf := fin_two kE hp2.1 hp2.2.1 hbE (by have := HDD.out; have := HB.out; omega)
   have KE := Lib.hid kE
   have HFF := Lib.hid hf
   clear hp2 kE hbE hf
   gi_wp2_with fail
   refine ⟨by simp, .inl ⟨_, _, rfl, run_takeDeferred KE.out, ?_⟩⟩
   obtain ⟨hc2, hc3, hbF⟩ := HFF.out
   generalize World.putObj _ D (.deferred none) = E2 at *
   refine ⟨.tuple #[.string ⟨#[]⟩, .int .i64 40], ?_, ⟨#[]⟩, 40, rfl, (by rw [HRR.out]), hbF⟩
   simp [results, Tryz.f57, go_sem, hc2, hc3]
  have hd1 : ¬ (200 : Int) < (DP : Int) := by omega
  by_cases hL : 1048576 < SZ
  ·have hd2 : (1048576 : Int) < (SZ : Int) := by omega
   have hR : textR l k s x = ([], 3) := by
    unfold textR
    rw [if_neg (by rw [HFA.out.1]; decide), if_neg (by rw [← HDPE.out]; exact hd), if_pos (by have h5 := HFA.out.2.1.1; rcases Nat.lt_or_ge 1048576 (txtT l k s x).length with h | h; exact h; have := h5 h; omega)]
   have HRR := Lib.hid hR
   clear hR hd hL
   have hp2 := put_two (V := w1) (B2 := B2) (B3 := B3) (by have := HB.out; omega) e2 e3 (.string ⟨#[]⟩) (.int .i64 3)
   have kE := hp2.2.2.1.same D _ HK1.out rfl
   have hbE := (HBV.out).trans (hp2.2.2.2.1 W.heap.size (by have := HB.out; omega) (by have := HB.out; omega))
   have hf := fin_two kE hp2.1 hp2.2.1 hbE (by have := HDD.out; have := HB.out; omega)
   have KE := Lib.hid kE
   have HFF := Lib.hid hf
   clear hp2 kE hbE hf
   gi_wp2_with fail
   refine ⟨by simp, .inl ⟨_, _, rfl, run_takeDeferred KE.out, ?_⟩⟩
   obtain ⟨hc2, hc3, hbF⟩ := HFF.out
   generalize World.putObj _ D (.deferred none) = E2 at *
   refine ⟨.tuple #[.string ⟨#[]⟩, .int .i64 3], ?_, ⟨#[]⟩, 3, rfl, (by rw [HRR.out]), hbF⟩
   simp [results, Tryz.f57, go_sem, hc2, hc3]
  have hd2 : ¬ (1048576 : Int) < (SZ : Int) := by omega
  have hd3 : (SZ : Int) ≤ 1048576 := by omega
  have hLL : (txtT l k s x).length = SZ := by
   rcases Nat.lt_or_ge 1048576 (txtT l k s x).length with h | h
   ·have := HFA.out.2.1.2 h; omega
   ·exact (HFA.out.2.1.1 h).symm
  have hR : textR l k s x = (txtT l k s x, 0) := by
   unfold textR
   rw [if_neg (by rw [HFA.out.1]; decide), if_neg (by rw [← HDPE.out]; exact hd), if_neg (by omega)]
  obtain ⟨M, hmk, hown⟩ := make_bytes w1 SZ (by omega)
  have hwr := write52 x.size x (Nat.le_refl _) HH.out.2.2.2.1 l k s a q c (w1.alloc (.cells M 5)) F w1.heap.size 0 (.slice (some ⟨w1.heap.size, 0, none⟩) 0 SZ) [] HH.out.2.2.1 (HFX.out.1.later (below1 _ _)) (fun b hb => by rw [hFd] at hb; have hb : b < W.heap.size := hb; have := HBV.out.size; omega) HH.out.1 HH.out.2.1 (HFX.out.2.later (below1 _ _)) hown (by simp) (by have := HBV.out.size; have := HB.out; have h7 := World.block_lt_of_cell? w1 _ e2; have h8 : B2 < w1.heap.size := h7; omega) (by omega)
  rw [← HA.out.2.2.2.2.2] at hwr
  unfold trV at hwr
  have hb4 := below1 w1 (.cells M 5)
  obtain ⟨W4, hW4⟩ : ∃ W4, W4 = w1.alloc (.cells M 5) := ⟨_, rfl⟩
  have p0 := cell_later hb4 a0
  have p1 := cell_later hb4 a1
  have p2 := cell_later hb4 a2
  have p3 := cell_later hb4 a3
  have p4 := cell_later hb4 a4
  rw [← hW4] at hmk hwr hown hb4 p0 p1 p2 p3 p4
  have hs4 : w1.heap.size ≤ W4.heap.size := hb4.size
  have HWR := Lib.hid hwr
  have HOW := Lib.hid hown
  have HB4 := Lib.hid hb4
  have HRR := Lib.hid (And.intro hR hLL)
  clear hR hd hL hwr hown hLL hW4 hb4 a0 a1 a2 a3 a4
  gi_wp2_with fail
  first
   | (refine ⟨trivial, ?_⟩; gi_at_call 86)
   | gi_at_call 86
  refine (callsIn_wide.2 HWR.out).mono ?_
  rintro e w2 ⟨v', rfl, hRS⟩
  have hb2 := HB4.out.trans (hRS.below HOW.out hs4)
  obtain ⟨p, c', rfl, hp⟩ := own_shape hRS.1
  have hby := own_bytes (t := txtT l k s x) (by simpa using hRS.1)
  have hcv := conv_txt w2 p c' (txtT l k s x) hby.2
  rw [Nat.zero_add] at *
  have hD1 : D < w1.heap.size := by
   rcases Nat.lt_or_ge D w1.heap.size with h | h
   ·exact h
   ·have := HK1.out; rw [Array.getElem?_eq_none h] at this; cases this
  have k2 := cell_later hb2 e2
  have l2 := (hb2.frozen (p := ⟨B2, 0, none⟩) (World.block_lt_of_cell? w1 _ e2)).trans g2
  have k3 := cell_later hb2 e3
  have l3 := (hb2.frozen (p := ⟨B3, 0, none⟩) (World.block_lt_of_cell? w1 _ e3)).trans g3
  have HBV2 := Lib.hid (HBV.out.trans (hb2.mono HBV.out.size))
  have HK2 := Lib.hid ((hb2.block D hD1).trans HK1.out)
  have z3 : ∀ X : ByteArray, (w2.setCell ⟨B2, 0, none⟩ (.string X)).cell? ⟨B3, 0, none⟩ = some (.int .i64 0) := fun X => (World.cell?_setCell_other _ _ _ _ (by intro e; cases e; have := HB.out; omega)).trans k3
  have zf3 : ∀ X : ByteArray, (w2.setCell ⟨B2, 0, none⟩ (.string X)).frozen? ⟨B3, 0, none⟩ = false := fun X => by rw [World.frozen?_setCell]; exact l3
  obtain ⟨TX, hTX⟩ : ∃ TX : ByteArray, TX = ⟨(txtT l k s x).toArray⟩ := ⟨_, rfl⟩
  have hTXd : TX.data.toList = txtT l k s x := by rw [hTX]
  rw [← hTX] at hcv
  have HTX := Lib.hid hTXd
  clear hRS hb2 hp hby hD1 hTX hTXd e2 g2 e3 g3 h2 p0 p1 p2 p3 p4 x3 y3 HWR HOW hmk
  have hp2 := put_two (V := w2) (B2 := B2) (B3 := B3) (by have := HB.out; omega) k2 k3 (.string TX) (.int .i64 0)
  have kE := hp2.2.2.1.same D _ HK2.out rfl
  have hbE := (HBV2.out).trans (hp2.2.2.2.1 W.heap.size (by have := HB.out; omega) (by have := HB.out; omega))
  have hf := fin_two kE hp2.1 hp2.2.1 hbE (by have := HDD.out; have := HB.out; omega)
  have KE := Lib.hid kE
  have HFF := Lib.hid hf
  clear hp2 kE hbE hf
  gi_wp2_with fail
  refine ⟨by simp, .inl ⟨_, _, rfl, run_takeDeferred KE.out, ?_⟩⟩
  obtain ⟨hc2, hc3, hbF⟩ := HFF.out
  generalize World.putObj _ D (.deferred none) = E2 at *
  refine ⟨.tuple #[.string TX, .int .i64 0], ?_, TX, 0, rfl, (by rw [HRR.out.1, HTX.out]), hbF⟩
  simp [results, Tryz.f57, go_sem, hc2, hc3]
 case stop =>
  rintro D cc pre V hD ⟨ds, hds⟩ ⟨rfl, h1, h2, h3, t, ht, hb⟩ hK
  have hok : okT l k s x = false := by
   rw [← okF_one l k s a x, okF_parts, ← hds, Bool.eq_false_iff]
   intro h
   rw [List.all_eq_true] at h
   have := h t.nd (List.mem_append_left _ (List.mem_map.2 ⟨t, ht, rfl⟩))
   rw [hb] at this; cases this
  have hR : textR l k s x = ([], 5) := by unfold textR; rw [if_pos hok]
  have HRR := Lib.hid hR
  have hbV : Below W.heap.size W V := HB5.out.trans (h1.below (fun j hj => by have := HB.out; omega) HB5.out.size)
  have hf := fin_two hK h2 h3 hbV (show W.heap.size ≤ D by have := HB.out; omega)
  have KE := Lib.hid hK
  have HFF := Lib.hid hf
  clear hok hR hbV hf h1 h2 h3 ht hb hK hD hds
  gi_wp2_with fail
  refine ⟨by simp, .inl ⟨_, _, rfl, run_takeDeferred KE.out, ?_⟩⟩
  obtain ⟨hc2, hc3, hbF⟩ := HFF.out
  generalize World.putObj _ D (.deferred none) = E2 at *
  refine ⟨.tuple #[.string ⟨#[]⟩, .int .i64 5], ?_, ⟨#[]⟩, 5, rfl, by rw [HRR.out], hbF⟩
  simp [results, Tryz.f57, go_sem, hc2, hc3]
end Go.Proofs.YtookoagcmejkpaaGreatDoor.Lx
