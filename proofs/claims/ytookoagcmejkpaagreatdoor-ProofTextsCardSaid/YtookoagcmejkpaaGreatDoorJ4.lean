/- A tree's text: Text. The law's own example. The document's text of a leaf. The document's text of a tree: write, Text. The document's text of a tree, whole. Texts of trees are read as their leaves. A  -/
import Derived.Test.YtookoagcmejkpaaGreatDoorJ3
import Derived.Test.YtookoagcmejkpaaGreatDoorJ2
import Derived.Deep.RegionHeld3
set_option maxHeartbeats 6400000
namespace Go.Proofs.YtookoagcmejkpaaGreatDoor.Lx
set_option maxRecDepth 100000
open Go Go.RowKit Go.Shelf
attribute [local go_sem] Oper.semAt_some
theorem qrb (l : Bool) (k : Int) (s : ByteArray) (a : Int) (q : Option Addr) (n c : Nat) (W : World) :
  Calls Tryz.prog 83 #[trV l k s a q n c] W fun e w' => e = .returned (.func (.func 100) #[] #[.pointer (some ⟨W.heap.size, 0, none⟩)]) /\ w' = W.alloc (.cells #[.bool l, .int .u8 k, .string s, .int .i64 a, .slice q n c] 35) := by
 unfold trV;go_enter Tryz.func83, Tryz.ntmps83
 go_wp2_with fail
 go_ret
 exact ⟨rfl, rfl⟩
def qsa (l : Bool) (k : Int) (s : ByteArray) (x : Fo) (W : World) (e : Ending) (w' : World) : Prop := ∃ (X : ByteArray) (er : Int), e = .returned (.tuple #[.string X, .int .i64 er]) /\ (X.data.toList, er) = textR l k s x /\ Below W.heap.size W w'
theorem qeh {W W' : World} (h : Below W.heap.size W W') : KeepsOthers W W' := ⟨h.size, fun k _o ho _ => (h.block k (Array.getElem?_eq_some_iff.1 ho).1).trans ho⟩
theorem qhg (d : Nd) (hs : d.s.size <= 65536) (hn : d.n <= 281474976710656) : qe4 d <= 281474976710700 := by
 unfold qe4;have h1 := qbq d.k.toNat d.s.data.toList;have h2 : d.s.data.toList.length = d.s.size := by simp
 split <;> omega
theorem qjj (l : Bool) (k : Int) (s : ByteArray) (a : Int) (x : Fo) : okF (.cons l k s a x .nil) = okT l k s x := by simp [okF, okT]
theorem qo2 (l : Bool) (k : Int) (s : ByteArray) (a : Int) (x : Fo) : txtF true (.cons l k s a x .nil) = txtT l k s x := by simp [txtF, txtT]
theorem qo1 {l : Bool} {k : Int} {s : ByteArray} {x : Fo} (h : okT l k s x = true) : (txtT l k s x).length = wsum (qbj (.cons l k s 0 x .nil)) := by
 rw [<- qo2 l k s 0 x, qi7 _ true (by rw [qjj]; exact h)];simp [Fo.len]
theorem qig {w : World} {B n c : Nat} {p : Option Addr} {t : List UInt8} (h : w.ownsRow B 5 1 (.slice p n c) n (t.map u8v)) : t.length = n /\ BytesIn w p t := by
 have hn : t.length = n := by have := h.1; simpa using this
 refine ⟨hn, fun i hi => ?_⟩
 obtain ⟨g, rfl⟩ : ∃ g, p = some ⟨g, 0, none⟩ := by
  rcases h.2 with ⟨e, _⟩ | ⟨g, _, _, e, _⟩
  ·injection e with _ e2 _; omega
  ·injection e with e2 _ _; exact ⟨g, e2⟩
 refine ⟨g, 0, rfl, ?_⟩;rw [Nat.zero_add];exact (qkm h i _ (by rw [List.getElem?_map, List.getElem?_eq_getElem hi]; rfl)).1
theorem qk2 (W : World) (p : Option Addr) (c : Nat) (bs : List UInt8) (h : BytesIn W p bs) : (convert 57 9 (.slice p bs.length c)).run Tryz.prog W = .ok (.string ⟨bs.toArray⟩) W := by
 cases p with
 | none =>
  obtain rfl : bs = [] := by
   cases bs with
   | nil => rfl
   | cons x l => obtain ⟨b, off, e, _⟩ := h 0 (by simp); cases e
  exact run_convert_bytes_nil W 57 5 Tryz.underlying57 Tryz.underlying5 0 _ 9 Tryz.underlying9
 | some ad =>
  refine run_convert_bytes_back W 57 9 5 ad c bs Tryz.underlying57 Tryz.underlying5 Tryz.underlying9 fun j hj => ?_
  obtain ⟨b, off, e, hc⟩ := h j hj;cases e;rw [Lib.add_plain]; exact hc
theorem qlw (W : World) (L : Nat) (hL : L <= 1048576) : ∃ M : Array Value, (Instr.makeSlice 57 (.int .i64 0) (.int .i64 (L : Int))).run Tryz.prog W = .ok (.slice (some ⟨W.heap.size, 0, none⟩) 0 L) (W.alloc (.cells M 5)) /\ (W.alloc (.cells M 5)).ownsRow W.heap.size 5 1 (.slice (some ⟨W.heap.size, 0, none⟩) 0 L) 0 [] := by
 obtain ⟨i0, hi, hz0, hz1, hz2⟩ := qiv;have hMs : (madeCells (Value.int .u8 0).cells (((L : Nat) : Int).toNat * i0.size)).size = L := by rw [size_madeCells, hz1]; simp
 refine ⟨madeCells (Value.int .u8 0).cells (((L : Nat) : Int).toNat * i0.size), ?_, rfl, .inr ⟨W.heap.size, L, _, rfl, Nat.le_refl _, heap_alloc_new W _, Nat.zero_le _, by simp only [maxLen]; omega, by rw [hMs]; simp, by simp⟩⟩;have h := run_make (P := Tryz.prog) W 57 5 i0 (.int .u8 0) Tryz.underlying57 hi hz0 .i64 .i64 0 (L : Int) (by omega) (by omega) (by rw [hz2]; omega) (by omega)
 simpa using h
theorem qii {B : Nat} {A A' : World} (hb : Below B A A') : Only (fun j => B <= j) A A' := ⟨hb.os, hb.tape, hb.output, hb.size, fun k _ hn => hb.block k (Nat.lt_of_not_le hn)⟩
theorem qg8 {V : World} {B2 B3 : Nat} (hne : B2 ≠ B3) {u2 u3 : Value} (c2 : V.cell? ⟨B2, 0, none⟩ = some u2) (c3 : V.cell? ⟨B3, 0, none⟩ = some u3) (v2 v3 : Value) :
  ((V.setCell ⟨B2, 0, none⟩ v2).setCell ⟨B3, 0, none⟩ v3).cell? ⟨B2, 0, none⟩ = some v2 /\ ((V.setCell ⟨B2, 0, none⟩ v2).setCell ⟨B3, 0, none⟩ v3).cell? ⟨B3, 0, none⟩ = some v3 /\ KeepsOthers V ((V.setCell ⟨B2, 0, none⟩ v2).setCell ⟨B3, 0, none⟩ v3) ∧
   (∀ B, B <= B2 -> B <= B3 -> Below B V ((V.setCell ⟨B2, 0, none⟩ v2).setCell ⟨B3, 0, none⟩ v3)) /\ Only (fun j => j = B2 \/ j = B3) V ((V.setCell ⟨B2, 0, none⟩ v2).setCell ⟨B3, 0, none⟩ v3) := by
 have h1 : (V.setCell ⟨B2, 0, none⟩ v2).cell? ⟨B2, 0, none⟩ = some v2 := World.cell?_setCell_same _ _ _ c2;have h2 : (V.setCell ⟨B2, 0, none⟩ v2).cell? ⟨B3, 0, none⟩ = some u3 := (World.cell?_setCell_other _ _ _ _ (by intro e; cases e; exact hne rfl)).trans c3;refine ⟨(World.cell?_setCell_other _ _ _ _ (by intro e; cases e; exact hne rfl)).trans h1, World.cell?_setCell_same _ _ _ h2, (KeepsOthers.setCell _ _ _).trans (KeepsOthers.setCell _ _ _), fun B hB2 hB3 => ?_, ?_⟩
 ·exact ((Below.refl B V).setCell (p := ⟨B2, 0, none⟩) hB2 _).setCell (p := ⟨B3, 0, none⟩) hB3 _
 ·exact ((Only.of_setCell V ⟨B2, 0, none⟩ v2).mono (fun k _ e => Or.inl e)).trans ((Only.of_setCell _ ⟨B3, 0, none⟩ v3).mono (fun k _ e => Or.inr e))
theorem qho {W E : World} {D B B2 B3 : Nat} {v2 v3 : Value} (k2 : E.heap[D]? = some (.deferred (some []))) (c2 : E.cell? ⟨B2, 0, none⟩ = some v2) (c3 : E.cell? ⟨B3, 0, none⟩ = some v3) (hb : Below B W E) (hD : B <= D) :
  (E.putObj D (.deferred none)).cell? ⟨B2, 0, none⟩ = some v2 /\ (E.putObj D (.deferred none)).cell? ⟨B3, 0, none⟩ = some v3 /\ Below B W (E.putObj D (.deferred none)) :=
 ⟨cell_kept c2 (grownBy_putObj' E D (.deferred none)) (fun r e => by cases e; exact ⟨_, k2, rfl⟩), cell_kept c3 (grownBy_putObj' E D (.deferred none)) (fun r e => by cases e; exact ⟨_, k2, rfl⟩), hb.trans (qgc E D _ _ hD k2)⟩
theorem text29 (l : Bool) (k : Int) (s : ByteArray) (a : Int) (q : Option Addr) (c : Nat) (x : Fo) (W : World) (F0 : Nat -> Prop) (hx0 : FoIn W F0 x q) (hc : x.len <= c) (hn : x.len <= 281474976710656) (hs : s.size <= 65536) (hz : szB 65536 x) (hsz : x.size <= 1099511627776) (hm : MaxAt W) :
  Calls Tryz.prog 57 #[trV l k s a q x.len c] W (qsa l k s x W) := by
 obtain ⟨F, hFd⟩ : ∃ F : Nat -> Prop, F = fun b => b < W.heap.size := ⟨_, rfl⟩
 have hx : FoIn W F x q := hx0.mono (fun b _ hb => by rw [hFd]; exact hb);have hp := qrb l k s a q x.len c ((((W.alloc (.cells #[.bool l, .int .u8 k, .string s, .int .i64 a, .slice q x.len c] 35)).alloc (.cells #[.string ⟨#[]⟩] 9)).alloc (.cells #[.int .i64 0] 36)).alloc (.cells #[.int .i64 0] 3));unfold trV at hp ⊢;have HP := Zh hp;clear hp hx0;refine (callsIn_wide (n := 9)).1 ?_;refine callsIn_of_wp_marks Tryz.func57 rfl trivial ?_ rfl;simp only [Tryz.ntmps57, List.size_toArray, List.length_cons, List.length_nil, Nat.reduceAdd, Nat.reduceSub, Array.replicate_succ, Array.replicate_zero, List.push_toArray, List.append_toArray, List.nil_append, List.cons_append]
 gi_wp2_with fail
 first
  | (refine ⟨trivial, ?_⟩; gi_at_call 83)
  | gi_at_call 83
 refine (callsIn_wide.2 HP.o).mono ?_;rintro e w' ⟨rfl, rfl⟩;clear HP
 gi_wp2_with fail
 obtain ⟨N, hN⟩ : ∃ N, N = x.len := ⟨_, rfl⟩;rw [<- hN];obtain ⟨W5, hW5⟩ : ∃ W5, W5 = (((((W.alloc (.cells #[.bool l, .int .u8 k, .string s, .int .i64 a, .slice q N c] 35)).alloc (.cells #[.string ⟨#[]⟩] 9)).alloc (.cells #[.int .i64 0] 36)).alloc (.cells #[.int .i64 0] 3)).alloc (.cells #[.bool l, .int .u8 k, .string s, .int .i64 a, .slice q N c] 35)) := ⟨_, rfl⟩;rw [<- hW5];have hb5 : Below W.heap.size W W5 := by rw [hW5]; exact (((((Below.refl _ W).alloc (Nat.le_refl _) _).alloc (by simp) _).alloc (by first | (simp; done) | (simp; omega)) _).alloc (by first | (simp; done) | (simp; omega)) _).alloc (by first | (simp; done) | (simp; omega)) _
 have hs5 : W5.heap.size = W.heap.size + 5 := by rw [hW5]; simp
 obtain ⟨B1, hB1⟩ : ∃ B, B = W.heap.size := ⟨_, rfl⟩;obtain ⟨B2, hB2⟩ : ∃ B, B = W.heap.size + 1 := ⟨_, rfl⟩;obtain ⟨B3, hB3⟩ : ∃ B, B = W.heap.size + 1 + 1 := ⟨_, rfl⟩;obtain ⟨BS, hBS⟩ : ∃ B, B = W.heap.size + 1 + 1 + 1 := ⟨_, rfl⟩;obtain ⟨BN, hBN⟩ : ∃ B, B = W.heap.size + 1 + 1 + 1 + 1 := ⟨_, rfl⟩;have a0 : W5.cell? ⟨B1, 0, none⟩ = some (.bool l) := by rw [hB1, hW5]; simp [go_sem]
 have a1 : W5.cell? ⟨B1, 1, none⟩ = some (.int .u8 k) := by rw [hB1, hW5]; simp [go_sem]
 have a2 : W5.cell? ⟨B1, 2, none⟩ = some (.string s) := by rw [hB1, hW5]; simp [go_sem]
 have a3 : W5.cell? ⟨B1, 3, none⟩ = some (.int .i64 a) := by rw [hB1, hW5]; simp [go_sem]
 have a4 : W5.cell? ⟨B1, 4, none⟩ = some (.slice q N c) := by rw [hB1, hW5]; simp [go_sem]
 have n0 : W5.cell? ⟨BN, 0, none⟩ = some (.bool l) := by rw [hBN, hW5]; simp [go_sem]
 have n1 : W5.cell? ⟨BN, 1, none⟩ = some (.int .u8 k) := by rw [hBN, hW5]; simp [go_sem]
 have n2 : W5.cell? ⟨BN, 2, none⟩ = some (.string s) := by rw [hBN, hW5]; simp [go_sem]
 have n3 : W5.cell? ⟨BN, 3, none⟩ = some (.int .i64 a) := by rw [hBN, hW5]; simp [go_sem]
 have n4 : W5.cell? ⟨BN, 4, none⟩ = some (.slice q x.len c) := by rw [<- hN, hBN, hW5]; simp [go_sem]
 have c2 : W5.cell? ⟨B2, 0, none⟩ = some (.string ⟨#[]⟩) := by rw [hB2, hW5]; simp [go_sem]
 have f2 : W5.frozen? ⟨B2, 0, none⟩ = false := by rw [hB2, hW5]; simp [go_sem]
 have c3 : W5.cell? ⟨B3, 0, none⟩ = some (.int .i64 0) := by rw [hB3, hW5]; simp [go_sem]
 have f3 : W5.frozen? ⟨B3, 0, none⟩ = false := by rw [hB3, hW5]; simp [go_sem]
 have c4 : W5.cell? ⟨BS, 0, none⟩ = some (.int .i64 0) := by rw [hBS, hW5]; simp [go_sem]
 have f4 : W5.frozen? ⟨BS, 0, none⟩ = false := by rw [hBS, hW5]; simp [go_sem]
 rw [<- hBN, <- hBS, <- hB3, <- hB2, <- hB1];have HB := Zh (aI hB1 (aI hB2 (aI hB3 (aI hBS (aI hBN hs5)))));have HA := Zh (aI a0 (aI a1 (aI a2 (aI a3 (aI a4 hN)))));have HC := Zh (aI c2 (aI f2 (aI c3 f3)));have HM := Zh (hm.later hb5);have HB5 := Zh hb5;have HX := Zh (hx.later hb5);have HH := Zh (aI hc (aI hn (aI hs (aI hz hsz))));have hseq := qnh (9 - 1) (by omega) BN BS l k s a q c x W5 F n0 n1 n2 n3 n4 HX.o (fun b hb => by rw [hFd] at hb; have hb : b < W.heap.size := hb; omega) (by omega) hc hn hs hz hsz;have HSEQ := Zh hseq;clear hW5 hB1 hB2 hB3 hBS hBN hs5 a0 a1 a2 a3 a4 n0 n1 n2 n3 n4 c2 f2 c3 f3 hm hb5 hx hN hseq hz;have n12 : (N : Int) <= 281474976710656 := by have := HH.o.2.1; have := HA.o.2.2.2.2.2; omega
 refine qjf rfl (by omega) (gf := 100) (lb := #[.pointer (some ⟨BN, 0, none⟩)]) rfl trivial (enters_of Tryz.func100 (by kernel_rfl) rfl) HSEQ.o (fun h k => h.trans k) (fun W l o o' _ h hc => KpC.put W l o o' h hc) (fun _ => rfl)
  (fun pre V => Only (fun j => j = BS) W5 V /\ V.cell? ⟨BS, 0, none⟩ = some (.int .i64 (szF 0 (pre.map Tr.nd) : Int)) /\ V.frozen? ⟨BS, 0, none⟩ = false /\ (∀ t ∈ pre, qdx t.nd = true))
  (fun cc pre V => cc = .ret /\ Only (fun j => j = B2 \/ j = B3 \/ j = BS) W5 V /\ V.cell? ⟨B2, 0, none⟩ = some (.string ⟨#[]⟩) /\ V.cell? ⟨B3, 0, none⟩ = some (.int .i64 5) /\ (∃ t ∈ pre, qdx t.nd = false))
  ?hI ?hIx ?h0
  (fun t a' V => ∃ Bx, W5.heap.size <= Bx /\ (V.cell? ⟨Bx, 0, none⟩ = some (.bool t.l) /\ V.cell? ⟨Bx, 1, none⟩ = some (.int .u8 t.k) /\ V.cell? ⟨Bx, 2, none⟩ = some (.string t.s) /\ V.cell? ⟨Bx, 3, none⟩ = some (.int .i64 t.a) /\ V.cell? ⟨Bx, 4, none⟩ = some (.slice t.q t.n t.c)) ∧
   a' = { tmps := #[.agg #[.bool l, .int .u8 k, .string s, .int .i64 a, .slice q N c], .pointer (some ⟨B1, 0, none⟩), .pointer (some ⟨B2, 0, none⟩), .pointer (some ⟨B3, 0, none⟩), .pointer (some ⟨BS, 0, none⟩), .pointer (some ⟨Bx, 0, none⟩), undef, undef, undef, .agg #[.bool l, .int .u8 k, .string s, .int .i64 a, .slice q N c], .func (.func 100) #[] #[.pointer (some ⟨BN, 0, none⟩)], .agg #[.bool t.l, .int .u8 t.k, .string t.s, .int .i64 t.a, .slice t.q t.n t.c], undef, undef, undef, undef, undef, undef, undef, undef, undef, undef, undef, undef, undef, undef, undef, undef, undef, undef, undef, undef, undef, undef, undef], defers := [] })
  ?hAx ?assign ?body ?done ?stop
 case hI =>
  rintro pre A A' ⟨h1, h2, h3, h4⟩ hb;have hlt : BS < W5.heap.size := by have := HB.o; omega
  exact ⟨h1.trans2 (qii hb) (fun j hj => .inr hj), (hb.cell (p := ⟨BS, 0, none⟩) hlt).trans h2, (hb.frozen (p := ⟨BS, 0, none⟩) hlt).trans h3, h4⟩
 case hIx =>
  rintro cc pre A A' ⟨h0, h1, h2, h3, h4⟩ hb;have hlt2 : B2 < W5.heap.size := by have := HB.o; omega
  have hlt3 : B3 < W5.heap.size := by have := HB.o; omega
  exact ⟨h0, h1.trans2 (qii hb) (fun j hj => .inr hj), (hb.cell (p := ⟨B2, 0, none⟩) hlt2).trans h2, (hb.cell (p := ⟨B3, 0, none⟩) hlt3).trans h3, h4⟩
 case h0 => exact ⟨Only.refl _ _, c4, f4, fun t ht => by cases ht⟩
 case hAx =>
  rintro t a' V l' o o' _ ⟨Bx, hBx, ⟨d0, d1, d2, d3, d4⟩, rfl⟩ ho hc';have hk : ∀ (j : Nat) (v : Value), V.cell? ⟨Bx, j, none⟩ = some v -> (V.putObj l' o').cell? ⟨Bx, j, none⟩ = some v := fun j v h => cell_kept h (grownBy_putObj' V l' o') (fun r e => by cases e; exact ⟨o, ho, hc'⟩)
  exact ⟨Bx, hBx, ⟨hk _ _ d0, hk _ _ d1, hk _ _ d2, hk _ _ d3, hk _ _ d4⟩, rfl⟩
 case assign =>
  rintro lk pre t V K ⟨h1, h2, h3, h4⟩ hK
  have hI2 : Only (fun j => j = BS) W5 (V.alloc (.cells #[.bool t.l, .int .u8 t.k, .string t.s, .int .i64 t.a, .slice t.q t.n t.c] 35)) /\ (V.alloc (.cells #[.bool t.l, .int .u8 t.k, .string t.s, .int .i64 t.a, .slice t.q t.n t.c] 35)).cell? ⟨BS, 0, none⟩ = some (.int .i64 (szF 0 (pre.map Tr.nd) : Int)) /\ (V.alloc (.cells #[.bool t.l, .int .u8 t.k, .string t.s, .int .i64 t.a, .slice t.q t.n t.c] 35)).frozen? ⟨BS, 0, none⟩ = false /\ (∀ t ∈ pre, qdx t.nd = true) := by
   have hb := qab V (.cells #[.bool t.l, .int .u8 t.k, .string t.s, .int .i64 t.a, .slice t.q t.n t.c] 35);exact ⟨h1.trans (Only.of_below hb), qaa hb h2, (hb.frozen (p := ⟨BS, 0, none⟩) (World.block_lt_of_cell? V _ h2)).trans h3, h4⟩
  have HI2 := Zh hI2;have HKK := Zh hK;have hsz1 := h1.size;clear hI2 hK h1 h2 h3 h4;unfold Tr.v trV
  gi_wp2_with fail
  exact HKK.o _ _ (KeepsOthers.alloc _ _) (KpC.of_only (Only.of_below (qab _ _))) HI2.o ⟨V.heap.size, hsz1, ⟨by simp [go_sem], by simp [go_sem], by simp [go_sem], by simp [go_sem], by simp [go_sem]⟩, rfl⟩
 case body =>
  rintro lk pre t a' V ⟨h1, h2, h3, h4⟩ ⟨Bx, hBx, ⟨d0, d1, d2, d3, d4⟩, rfl⟩ hlen;have hmV : MaxAt V := by obtain ⟨m, hm⟩ := HM.o; exact ⟨m, h1.cell hm (by have := HB.o; show ¬ (0 : Nat) = BS; omega)⟩
  have hw := qma t.l t.k t.s t.a t.q t.n t.c V t.hs t.hn hmV;unfold trV at hw;have hsf : szF 0 (pre.map Tr.nd) <= 1048576 + 281474976710700 := qms _ _ _ (fun d hd => by obtain ⟨t', _, rfl⟩ := List.mem_map.1 hd; exact qhg _ t'.hs t'.hn) (by omega);obtain ⟨SZ, hSZ⟩ : ∃ SZ, SZ = szF 0 (pre.map Tr.nd) := ⟨_, rfl⟩;rw [<- hSZ] at h2 hsf;have hy0 := qhg t.nd t.hs t.hn;have hlt2 : B2 < W5.heap.size := by have := HB.o; omega
  have hlt3 : B3 < W5.heap.size := by have := HB.o; omega
  have e2 := h1.cell HC.o.1 (by have := HB.o; show ¬ B2 = BS; omega);have g2 := (h1.frozen (a := ⟨B2, 0, none⟩) hlt2 (by have := HB.o; show ¬ B2 = BS; omega)).trans HC.o.2.1;have e3 := h1.cell HC.o.2.2.1 (by have := HB.o; show ¬ B3 = BS; omega);have g3 := (h1.frozen (a := ⟨B3, 0, none⟩) hlt3 (by have := HB.o; show ¬ B3 = BS; omega)).trans HC.o.2.2.2;have hV2 : B2 < V.heap.size := World.block_lt_of_cell? V _ e2;have hV3 : B3 < V.heap.size := World.block_lt_of_cell? V _ e3;have hVS : BS < V.heap.size := World.block_lt_of_cell? V _ h2;have HW := Zh hw;have HI := Zh (aI h1 (aI h4 hSZ));have HV := Zh (aI hV2 (aI hV3 hVS));have HC1 := Zh (aI e2 (aI g2 (aI e3 (aI g3 (aI h2 h3)))));clear hw h1 h2 h3 h4 hSZ hmV e2 g2 e3 g3 hV2 hV3 hVS hlt2 hlt3 hlen hBx;have s1 : (SZ : Int) <= 281474977759276 := by omega
  gi_wp2_with fail
  first
   | (refine ⟨trivial, ?_⟩; gi_at_call 84)
   | gi_at_call 84
  refine (CallsIn.inRound lk (callsIn_wide.2 HW.o)).mono ?_;rintro e w1 ⟨y, rfl, hy, hb1⟩;have e2 := qaa hb1 HC1.o.1;have g2 := (hb1.frozen (p := ⟨B2, 0, none⟩) HV.o.1).trans HC1.o.2.1;have e3 := qaa hb1 HC1.o.2.2.1;have g3 := (hb1.frozen (p := ⟨B3, 0, none⟩) HV.o.2.1).trans HC1.o.2.2.2.1;have h2 := qaa hb1 HC1.o.2.2.2.2.1;have h3 := (hb1.frozen (p := ⟨BS, 0, none⟩) HV.o.2.2).trans HC1.o.2.2.2.2.2;have HB1 := Zh hb1;have hnd : (⟨t.l, t.k, t.s, t.n⟩ : Nd) = t.nd := rfl;rw [hnd] at hy ⊢;clear hb1 HW hnd d0 d1 d2 d3 d4
  cases hB : qdx t.nd with
  | false =>
   rw [hB] at hy;have HBB := Zh hB;have hp2 := qg8 (V := w1) (B2 := B2) (B3 := B3) (by have := HB.o; omega) e2 e3 (.string ⟨#[]⟩) (.int .i64 5);have HP2 := Zh hp2;have x3 : (w1.setCell ⟨B2, 0, none⟩ (.string ⟨#[]⟩)).cell? ⟨B3, 0, none⟩ = some (.int .i64 0) := (World.cell?_setCell_other _ _ _ _ (by intro e; cases e; have := HB.o; omega)).trans e3;have y3 : (w1.setCell ⟨B2, 0, none⟩ (.string ⟨#[]⟩)).frozen? ⟨B3, 0, none⟩ = false := by rw [World.frozen?_setCell]; exact g3
   clear hp2 hB hy
   gi_wp2_with fail
   exact ⟨(qeh HB1.o).trans HP2.o.2.2.1, rfl, ((HI.o.1.trans (Only.of_below HB1.o)).mono (fun k _ e => Or.inr (Or.inr e))).trans (HP2.o.2.2.2.2.mono (fun k _ e => e.elim Or.inl (fun h => Or.inr (Or.inl h)))), HP2.o.1, HP2.o.2.1, t, by simp, HBB.o⟩
  | true =>
   have hY : y = qe4 t.nd := hy hB;have HBB := Zh hB;rw [<- hY] at hy0;have HY := Zh hY;clear hY;have s2 : (y : Int) <= 281474976710700 := by omega
   have hall : ∀ t' ∈ pre ++ [t], qdx t'.nd = true := fun t' ht' => by
    rcases List.mem_append.1 ht' with h | h
    ·exact HI.o.2.1 t' h
    ·rw [List.mem_singleton] at h; rw [h]; exact HBB.o
   have hnx : szF 0 ((pre ++ [t]).map Tr.nd) = if SZ <= 1048576 then SZ + y else SZ := by rw [List.map_append, HI.o.2.2, HY.o]; exact qj6 _ _ _
   have hO := HI.o.1.trans (Only.of_below HB1.o);have HO := Zh (aI hO (aI hall hnx));clear hB hy hall hnx hO
   by_cases hle : SZ <= 1048576
   ·have s3 : (SZ : Int) <= 1048576 := by omega
    have hsame : (w1.setCell ⟨BS, 0, none⟩ (.int .i64 ((SZ : Int) + (y : Int)))).cell? ⟨BS, 0, none⟩ = some (.int .i64 ((SZ : Int) + (y : Int))) := World.cell?_setCell_same _ _ _ h2;have hfz : (w1.setCell ⟨BS, 0, none⟩ (.int .i64 ((SZ : Int) + (y : Int)))).frozen? ⟨BS, 0, none⟩ = false := by rw [World.frozen?_setCell]; exact h3
    have HSA := Zh (aI hsame hfz);have HLE := Zh hle;clear hsame hfz hle
    gi_wp2_with fail
    refine ⟨(qeh HB1.o).trans (KeepsOthers.setCell _ _ _), KpC.of_only (((Only.of_below HB1.o)).trans (Only.of_setCell _ ⟨BS, 0, none⟩ _)), HO.o.1.trans (Only.of_setCell _ ⟨BS, 0, none⟩ _), ?_, HSA.o.2, HO.o.2.1⟩;rw [HO.o.2.2, if_pos HLE.o, HSA.o.1];simp
   ·have s3 : ¬ (SZ : Int) <= 1048576 := by omega
    have s4 : decide ((SZ : Int) <= 1048576) = false := by simpa using s3
    have HLE := Zh hle;clear hle
    gi_wp2_with fail
    refine ⟨qeh HB1.o, KpC.of_only (Only.of_below HB1.o), HO.o.1, ?_, h3, HO.o.2.1⟩;rw [HO.o.2.2, if_neg HLE.o];exact h2
 case done =>
  rintro D ys V hD hS ⟨h1, h2, h3, h4⟩ hK
  have hok : okT l k s x = true := by
   rw [<- qjj l k s a x, qer, <- hS, List.all_eq_true];intro d hd;obtain ⟨t, ht, rfl⟩ := List.mem_map.1 hd;exact h4 t ht
  obtain ⟨SZ, hSZ⟩ : ∃ SZ, SZ = szF 0 (ys.map Tr.nd) := ⟨_, rfl⟩;rw [<- hSZ] at h2;have hpl : qbj (.cons l k s 0 x .nil) = qbj (.cons l k s a x .nil) := rfl;have hlen : (txtT l k s x).length = wsum (ys.map Tr.nd) := by rw [qo1 hok, hpl, hS]
  have hsp := qj5 (ys.map Tr.nd) 0;rw [Nat.zero_add, <- hlen, <- hSZ] at hsp;have hbd : SZ <= 1048576 + 281474976710700 := by rw [hSZ]; exact qms _ _ _ (fun d hd => by obtain ⟨t', _, rfl⟩ := List.mem_map.1 hd; exact qhg _ t'.hs t'.hn) (by omega)
  have hlt2 : B2 < W5.heap.size := by have := HB.o; omega
  have hlt3 : B3 < W5.heap.size := by have := HB.o; omega
  have e2 := h1.cell HC.o.1 (by have := HB.o; show ¬ B2 = BS; omega);have g2 := (h1.frozen (a := ⟨B2, 0, none⟩) hlt2 (by have := HB.o; show ¬ B2 = BS; omega)).trans HC.o.2.1;have e3 := h1.cell HC.o.2.2.1 (by have := HB.o; show ¬ B3 = BS; omega);have g3 := (h1.frozen (a := ⟨B3, 0, none⟩) hlt3 (by have := HB.o; show ¬ B3 = BS; omega)).trans HC.o.2.2.2;have a0 := h1.cell HA.o.1 (by have := HB.o; show ¬ B1 = BS; omega);have a1 := h1.cell HA.o.2.1 (by have := HB.o; show ¬ B1 = BS; omega);have a2 := h1.cell HA.o.2.2.1 (by have := HB.o; show ¬ B1 = BS; omega);have a3 := h1.cell HA.o.2.2.2.1 (by have := HB.o; show ¬ B1 = BS; omega);have a4 := h1.cell HA.o.2.2.2.2.1 (by have := HB.o; show ¬ B1 = BS; omega);have hmV : MaxAt V := by obtain ⟨m, hm⟩ := HM.o; exact ⟨m, h1.cell hm (by have := HB.o; show ¬ (0 : Nat) = BS; omega)⟩
  have hxV : FoIn V F x q := HX.o.only h1 (fun b hb => by rw [hFd] at hb; have hb : b < W.heap.size := hb; have := HB.o; omega);have hbV : Below W.heap.size W V := HB5.o.trans (h1.below (fun j hj => by have := HB.o; omega) HB5.o.size);have hdp := qry l k s a q c x V F hxV HH.o.1 HH.o.2.1;rw [<- HA.o.2.2.2.2.2] at hdp;unfold trV at hdp
  have hDV : D < V.heap.size := by
   rcases Nat.lt_or_ge D V.heap.size with h | h
   ·exact h
   ·rw [Array.getElem?_eq_none h] at hK; cases hK
  have HDD := Zh (show W.heap.size <= D by have := HB.o; omega);have HDP := Zh hdp;have HK := Zh (aI hK hDV);have HFA := Zh (aI hok (aI hsp (aI hxV (aI hmV hbV))));have hdle := qhr l x 201;obtain ⟨DP, hDP⟩ : ∃ DP, DP = depT l x 201 := ⟨_, rfl⟩;rw [<- hDP] at hdle HDP;have HDPE := Zh hDP;have w1' : (DP : Int) <= 201 := by omega
  have w2' : (SZ : Int) <= 281474977759276 := by omega
  have HALL := Zh (aI e2 (aI g2 (aI e3 (aI g3 (aI h2 (aI a0 (aI a1 (aI a2 (aI a3 a4)))))))));have HLT := Zh (aI (World.block_lt_of_cell? V _ e2) (World.block_lt_of_cell? V _ e3));clear hok hSZ hpl hlen hsp hbd hlt2 hlt3 hmV hxV hbV hdp hDV hDP hdle h1 h3 h4 hS hK hD
  gi_wp2_with fail
  first
   | (refine ⟨trivial, ?_⟩; gi_at_call 85)
   | gi_at_call 85
  refine (callsIn_wide.2 HDP.o).mono ?_;rintro e w1 ⟨rfl, hb1⟩;clear e2 g2 e3 g3 h2 a0 a1 a2 a3 a4;have e2 := qaa hb1 HALL.o.1;have g2 := (hb1.frozen (p := ⟨B2, 0, none⟩) HLT.o.1).trans HALL.o.2.1;have e3 := qaa hb1 HALL.o.2.2.1;have g3 := (hb1.frozen (p := ⟨B3, 0, none⟩) HLT.o.2).trans HALL.o.2.2.2.1;have h2 := qaa hb1 HALL.o.2.2.2.2.1;have a0 := qaa hb1 HALL.o.2.2.2.2.2.1;have a1 := qaa hb1 HALL.o.2.2.2.2.2.2.1;have a2 := qaa hb1 HALL.o.2.2.2.2.2.2.2.1;have a3 := qaa hb1 HALL.o.2.2.2.2.2.2.2.2.1;have a4 := qaa hb1 HALL.o.2.2.2.2.2.2.2.2.2;have HBV := Zh (HFA.o.2.2.2.2.trans (hb1.mono HFA.o.2.2.2.2.size));have HK1 := Zh ((hb1.block D HK.o.2).trans HK.o.1);have HFX := Zh (aI (HFA.o.2.2.1.later hb1) (HFA.o.2.2.2.1.later hb1));have x3 : ∀ X : ByteArray, (w1.setCell ⟨B2, 0, none⟩ (.string X)).cell? ⟨B3, 0, none⟩ = some (.int .i64 0) := fun X => (World.cell?_setCell_other _ _ _ _ (by intro e; cases e; have := HB.o; omega)).trans e3
  have y3 : ∀ X : ByteArray, (w1.setCell ⟨B2, 0, none⟩ (.string X)).frozen? ⟨B3, 0, none⟩ = false := fun X => by rw [World.frozen?_setCell]; exact g3
  clear hb1 HALL HLT HK HDP
  by_cases hd : 200 < DP
  ·have hd1 : (200 : Int) < (DP : Int) := by omega
   have hR : textR l k s x = ([], 40) := by
    unfold textR;rw [if_neg (by rw [HFA.o.1]; decide), if_pos (by rw [<- HDPE.o]; exact hd)]
   have HRR := Zh hR;clear hR hd;have hp2 := qg8 (V := w1) (B2 := B2) (B3 := B3) (by have := HB.o; omega) e2 e3 (.string ⟨#[]⟩) (.int .i64 40);have kE := hp2.2.2.1.same D _ HK1.o rfl;have hbE := (HBV.o).trans (hp2.2.2.2.1 W.heap.size (by have := HB.o; omega) (by have := HB.o; omega));have hf := qho kE hp2.1 hp2.2.1 hbE (by have := HDD.o; have := HB.o; omega);have KE := Zh kE;have HFF := Zh hf;clear hp2 kE hbE hf
   gi_wp2_with fail
   refine ⟨by simp, .inl ⟨_, _, rfl, run_takeDeferred KE.o, ?_⟩⟩;obtain ⟨hc2, hc3, hbF⟩ := HFF.o;generalize World.putObj _ D (.deferred none) = E2 at *;refine ⟨.tuple #[.string ⟨#[]⟩, .int .i64 40], ?_, ⟨#[]⟩, 40, rfl, (by rw [HRR.o]), hbF⟩;simp [results, Tryz.f57, go_sem, hc2, hc3]
  have hd1 : ¬ (200 : Int) < (DP : Int) := by omega
  by_cases hL : 1048576 < SZ
  ·have hd2 : (1048576 : Int) < (SZ : Int) := by omega
   have hR : textR l k s x = ([], 3) := by
    unfold textR;rw [if_neg (by rw [HFA.o.1]; decide), if_neg (by rw [<- HDPE.o]; exact hd), if_pos (by have h5 := HFA.o.2.1.1; rcases Nat.lt_or_ge 1048576 (txtT l k s x).length with h | h; exact h; have := h5 h; omega)]
   have HRR := Zh hR;clear hR hd hL;have hp2 := qg8 (V := w1) (B2 := B2) (B3 := B3) (by have := HB.o; omega) e2 e3 (.string ⟨#[]⟩) (.int .i64 3);have kE := hp2.2.2.1.same D _ HK1.o rfl;have hbE := (HBV.o).trans (hp2.2.2.2.1 W.heap.size (by have := HB.o; omega) (by have := HB.o; omega));have hf := qho kE hp2.1 hp2.2.1 hbE (by have := HDD.o; have := HB.o; omega);have KE := Zh kE;have HFF := Zh hf;clear hp2 kE hbE hf
   gi_wp2_with fail
   refine ⟨by simp, .inl ⟨_, _, rfl, run_takeDeferred KE.o, ?_⟩⟩;obtain ⟨hc2, hc3, hbF⟩ := HFF.o;generalize World.putObj _ D (.deferred none) = E2 at *;refine ⟨.tuple #[.string ⟨#[]⟩, .int .i64 3], ?_, ⟨#[]⟩, 3, rfl, (by rw [HRR.o]), hbF⟩;simp [results, Tryz.f57, go_sem, hc2, hc3]
  have hd2 : ¬ (1048576 : Int) < (SZ : Int) := by omega
  have hd3 : (SZ : Int) <= 1048576 := by omega
  have hLL : (txtT l k s x).length = SZ := by
   rcases Nat.lt_or_ge 1048576 (txtT l k s x).length with h | h
   ·have := HFA.o.2.1.2 h; omega
   ·exact (HFA.o.2.1.1 h).symm
  have hR : textR l k s x = (txtT l k s x, 0) := by
   unfold textR;rw [if_neg (by rw [HFA.o.1]; decide), if_neg (by rw [<- HDPE.o]; exact hd), if_neg (by omega)]
  obtain ⟨M, hmk, hown⟩ := qlw w1 SZ (by omega);have hwr := qqv x.size x (Nat.le_refl _) HH.o.2.2.2.1 l k s a q c (w1.alloc (.cells M 5)) F w1.heap.size 0 (.slice (some ⟨w1.heap.size, 0, none⟩) 0 SZ) [] HH.o.2.2.1 (HFX.o.1.later (qab _ _)) (fun b hb => by rw [hFd] at hb; have hb : b < W.heap.size := hb; have := HBV.o.size; omega) HH.o.1 HH.o.2.1 (HFX.o.2.later (qab _ _)) hown (by simp) (by have := HBV.o.size; have := HB.o; have h7 := World.block_lt_of_cell? w1 _ e2; have h8 : B2 < w1.heap.size := h7; omega) (by omega);rw [<- HA.o.2.2.2.2.2] at hwr;unfold trV at hwr;have hb4 := qab w1 (.cells M 5);obtain ⟨W4, hW4⟩ : ∃ W4, W4 = w1.alloc (.cells M 5) := ⟨_, rfl⟩;have p0 := qaa hb4 a0;have p1 := qaa hb4 a1;have p2 := qaa hb4 a2;have p3 := qaa hb4 a3;have p4 := qaa hb4 a4;rw [<- hW4] at hmk hwr hown hb4 p0 p1 p2 p3 p4;have hs4 : w1.heap.size <= W4.heap.size := hb4.size;have HWR := Zh hwr;have HOW := Zh hown;have HB4 := Zh hb4;have HRR := Zh (aI hR hLL);clear hR hd hL hwr hown hLL hW4 hb4 a0 a1 a2 a3 a4
  gi_wp2_with fail
  first
   | (refine ⟨trivial, ?_⟩; gi_at_call 86)
   | gi_at_call 86
  refine (callsIn_wide.2 HWR.o).mono ?_;rintro e w2 ⟨v', rfl, hRS⟩;have hb2 := HB4.o.trans (hRS.below HOW.o hs4);obtain ⟨p, c', rfl, hp⟩ := qaq hRS.1;have hby := qig (t := txtT l k s x) (by simpa using hRS.1);have hcv := qk2 w2 p c' (txtT l k s x) hby.2;rw [Nat.zero_add] at *
  have hD1 : D < w1.heap.size := by
   rcases Nat.lt_or_ge D w1.heap.size with h | h
   ·exact h
   ·have := HK1.o; rw [Array.getElem?_eq_none h] at this; cases this
  have k2 := qaa hb2 e2;have l2 := (hb2.frozen (p := ⟨B2, 0, none⟩) (World.block_lt_of_cell? w1 _ e2)).trans g2;have k3 := qaa hb2 e3;have l3 := (hb2.frozen (p := ⟨B3, 0, none⟩) (World.block_lt_of_cell? w1 _ e3)).trans g3;have HBV2 := Zh (HBV.o.trans (hb2.mono HBV.o.size));have HK2 := Zh ((hb2.block D hD1).trans HK1.o);have z3 : ∀ X : ByteArray, (w2.setCell ⟨B2, 0, none⟩ (.string X)).cell? ⟨B3, 0, none⟩ = some (.int .i64 0) := fun X => (World.cell?_setCell_other _ _ _ _ (by intro e; cases e; have := HB.o; omega)).trans k3
  have zf3 : ∀ X : ByteArray, (w2.setCell ⟨B2, 0, none⟩ (.string X)).frozen? ⟨B3, 0, none⟩ = false := fun X => by rw [World.frozen?_setCell]; exact l3
  obtain ⟨TX, hTX⟩ : ∃ TX : ByteArray, TX = ⟨(txtT l k s x).toArray⟩ := ⟨_, rfl⟩;have hTXd : TX.data.toList = txtT l k s x := by rw [hTX]
  rw [<- hTX] at hcv;have HTX := Zh hTXd;clear hRS hb2 hp hby hD1 hTX hTXd e2 g2 e3 g3 h2 p0 p1 p2 p3 p4 x3 y3 HWR HOW hmk;have hp2 := qg8 (V := w2) (B2 := B2) (B3 := B3) (by have := HB.o; omega) k2 k3 (.string TX) (.int .i64 0);have kE := hp2.2.2.1.same D _ HK2.o rfl;have hbE := (HBV2.o).trans (hp2.2.2.2.1 W.heap.size (by have := HB.o; omega) (by have := HB.o; omega));have hf := qho kE hp2.1 hp2.2.1 hbE (by have := HDD.o; have := HB.o; omega);have KE := Zh kE;have HFF := Zh hf;clear hp2 kE hbE hf
  gi_wp2_with fail
  refine ⟨by simp, .inl ⟨_, _, rfl, run_takeDeferred KE.o, ?_⟩⟩;obtain ⟨hc2, hc3, hbF⟩ := HFF.o;generalize World.putObj _ D (.deferred none) = E2 at *;refine ⟨.tuple #[.string TX, .int .i64 0], ?_, TX, 0, rfl, (by rw [HRR.o.1, HTX.o]), hbF⟩;simp [results, Tryz.f57, go_sem, hc2, hc3]
 case stop =>
  rintro D cc pre V hD ⟨ds, hds⟩ ⟨rfl, h1, h2, h3, t, ht, hb⟩ hK
  have hok : okT l k s x = false := by
   rw [<- qjj l k s a x, qer, <- hds, Bool.eq_false_iff];intro h;rw [List.all_eq_true] at h;have := h t.nd (List.mem_append_left _ (List.mem_map.2 ⟨t, ht, rfl⟩));rw [hb] at this; cases this
  have hR : textR l k s x = ([], 5) := by unfold textR; rw [if_pos hok]
  have HRR := Zh hR;have hbV : Below W.heap.size W V := HB5.o.trans (h1.below (fun j hj => by have := HB.o; omega) HB5.o.size);have hf := qho hK h2 h3 hbV (show W.heap.size <= D by have := HB.o; omega);have KE := Zh hK;have HFF := Zh hf;clear hok hR hbV hf h1 h2 h3 ht hb hK hD hds
  gi_wp2_with fail
  refine ⟨by simp, .inl ⟨_, _, rfl, run_takeDeferred KE.o, ?_⟩⟩;obtain ⟨hc2, hc3, hbF⟩ := HFF.o;generalize World.putObj _ D (.deferred none) = E2 at *;refine ⟨.tuple #[.string ⟨#[]⟩, .int .i64 5], ?_, ⟨#[]⟩, 5, rfl, by rw [HRR.o], hbF⟩;simp [results, Tryz.f57, go_sem, hc2, hc3]
end Go.Proofs.YtookoagcmejkpaaGreatDoor.Lx
namespace Go.Proofs.YtookoagcmejkpaaGreatDoor.Lx
open Go Go.RowKit
def toA (t : Tk) : TkA := ⟨(t.kind : Int), ⟨t.text.toArray⟩, (t.at_ : Int)⟩
set_option maxRecDepth 100000
theorem qp5 (l : List UInt8) (c : UInt8) : dblL (l ++ [c]) = dblL l ++ (if c == 34 then [34, 34] else [c]) := by
 induction l with
 | nil => simp only [List.nil_append, dblL]
 | cons d l ih => simp only [List.cons_append, dblL]; split <;> simp [ih]
theorem qrt {S : ByteArray} {k : Nat} (h : k < S.size) : (S.extract k (k + 1)).data.toList = [S[k]] := by
 rw [Lib.extract_data];have h' : k < S.data.toList.length := by simpa using h
 rw [show k + 1 - k = 1 by omega, List.drop_eq_getElem_cons h'];have := qcm h;rw [List.getElem?_eq_getElem h'] at this;cases this
 rfl

def qge (k : Int) (s : ByteArray) (W : World) (e : Ending) (w' : World) : Prop := ∃ (X : ByteArray) (b : Bool), e = .returned (.tuple #[.string X, .bool b]) /\ b = qbd k s /\ (b = true -> X.data.toList = qaj k.toNat s.data.toList) /\ X.size <= 200000 /\ Below W.heap.size W w'
theorem qao (k : Nat) (s : ByteArray) (h : 3 <= k) : qbd (k : Int) s = gdB k s.data.toList := by
 rw [qkf, Int.toNat_natCast, show decide ((3 : Int) <= (k : Int)) = true by simp; omega, Bool.and_true]
theorem qan {X : ByteArray} {K : Nat} {s : ByteArray} (h : X.data.toList = qaj K s.data.toList) (hs : s.size <= 65536) : X.size <= 200000 := by
 have h1 := qbq K s.data.toList;have h2 : s.data.toList.length = s.size := by simp
 have h3 : X.data.toList.length = X.size := by simp
 rw [h] at h3;omega
theorem cat3 (s : ByteArray) (h : qbg s.data.toList = false) : ((⟨#[124]⟩ : ByteArray) ++ s ++ (⟨#[124]⟩ : ByteArray)).data.toList = qaj 3 s.data.toList := by
 rw [qb1, qb1]; unfold qaj; rw [h]; rfl
theorem cat5 (Y s : ByteArray) (h : Y.data.toList = 34 :: dblL s.data.toList) : (Y ++ (⟨#[34]⟩ : ByteArray)).data.toList = qaj 5 s.data.toList := by
 rw [qb1, h]; rfl
theorem cat6 (s : ByteArray) : ((⟨#[58]⟩ : ByteArray) ++ s).data.toList = qaj 6 s.data.toList := by
 rw [qb1]; rfl
theorem cat0 (s : ByteArray) (h : qbg s.data.toList = true) : s.data.toList = qaj 3 s.data.toList := by unfold qaj; rw [h]; rfl
theorem qmm (s : ByteArray) (a : Int) (W : World) (hs : s.size <= 65536) : Calls Tryz.prog 107 #[.agg #[.int .u8 3, .string s, .int .i64 a]] W (qge 3 s W) := by
 have HBw0 := Zh (qab W (.cells #[.int .u8 3, .string s, .int .i64 a] 32));obtain ⟨W1, hW1⟩ : ∃ W1, W1 = W.alloc (.cells #[.int .u8 3, .string s, .int .i64 a] 32) := ⟨_, rfl⟩;have c0 : W1.cell? ⟨W.heap.size, 0, none⟩ = some (.int .u8 3) := by rw [hW1]; simp [go_sem]
 have c1 : W1.cell? ⟨W.heap.size, 1, none⟩ = some (.string s) := by rw [hW1]; simp [go_sem]
 have HBw := Zh (show Below W.heap.size W W1 by rw [hW1]; exact qab _ _);have HW1 := Zh hW1;clear hW1
 cases hp : qbg s.data.toList with
 | true =>
  have HP := Zh hp;clear hp;go_enter Tryz.func107, Tryz.ntmps107
  go_wp2_with fail
  rw [<- HW1.o];refine (qfb s W1 (by omega)).mono ?_;rintro e w1 ⟨rfl, hb⟩;rw [HP.o];have d0 := qaa hb c0;have d1 := qaa hb c1
  replace HBw := Zh (HBw.o.trans (hb.mono HBw.o.size))
  clear hb c0 c1 HW1 HBw0;obtain ⟨cap, w2, hcv, hcap, hb2, hby, hsz2⟩ := conv_bytes w1 (s);have hzz : ∀ Z : ByteArray, Z.data.toList.length = Z.size := fun Z => by simp
  have hXl : (qaj 3 s.data.toList).length = (s).size := by rw [<- cat0 s HP.o]; exact hzz _
  have hXs : (qaj 3 s.data.toList).length <= 200000 := by have h1 := qbq 3 s.data.toList; have h2 : s.data.toList.length = s.size := (by simp); omega
  rw [cat0 s HP.o] at hby
  have hct := reftokens_any (some ⟨(World.heap w1).size, 0, none⟩) cap (qaj 3 s.data.toList) w2 hby (by omega) (by omega);rw [hXl] at hct
  skip
  skip
  try simp only [World.size_alloc] at hcv hct
  have HCT := Zh hct;have y0 := qaa hb2 d0;have y1 := qaa hb2 d1;have HB2 := Zh (HBw.o.trans (hb2.mono HBw.o.size));clear hcap hb2 hby hsz2 hXl hXs hct d0 d1 hzz
  go_wp2_with fail
  refine HCT.o.mono ?_;rintro e w3 ⟨p, c, l, A, er, rfl, htk, hown, hb3⟩;have z0 := qaa hb3 y0;have z1 := qaa hb3 y1;have HB3 := Zh (HB2.o.trans (hb3.mono HB2.o.size));clear hb3 HCT y0 y1;have hiff := qci htk;have hlb := own_tks hown
  by_cases her : er = 0
  case neg =>
   have q1 : ((er : Int) == 0) = false := by simp; omega
   have hR : gdB 3 s.data.toList = false := by rw [Bool.eq_false_iff]; intro h; exact her (hiff.2 (gdB_iff.1 h)).1
   have HR := Zh hR;clear hiff hlb htk hown hR her
   go_wp2_with fail
   go_quiet (fail)
   go_wp2_with fail
   go_ret2
   exact ⟨_, false, rfl, (by rw [show qbd (3 : Int) s = _ from qao 3 s (by decide), HR.o]), (fun _ => cat0 s HP.o), qan (cat0 s HP.o) hs, bdd HB3.o⟩
  subst her
  by_cases hle : l.length = 1
  case neg =>
   have q2 : ((l.length : Int) == 1) = false := by simp; omega
   have hR : gdB 3 s.data.toList = false := by rw [Bool.eq_false_iff]; intro h; obtain ⟨p0, h2⟩ := (hiff.2 (gdB_iff.1 h)).2; rw [h2] at hle; exact hle rfl
   have HR := Zh hR;generalize l.length = n3 at *;clear hiff hlb htk hown hR hle
   go_wp2_with fail
   go_quiet (fail)
   go_wp2_with fail
   go_ret2
   exact ⟨_, false, rfl, (by rw [show qbd (3 : Int) s = _ from qao 3 s (by decide), HR.o]), (fun _ => cat0 s HP.o), qan (cat0 s HP.o) hs, bdd HB3.o⟩
  obtain ⟨⟨kk, t, pp⟩, rfl⟩ : ∃ x, l = [x] := by match l, hle with | [x], _ => exact ⟨x, rfl⟩
  obtain ⟨b3, off3, rfl, x0, x1, x2⟩ := hlb 0 (by simp);simp only [List.getElem_cons_zero, Nat.zero_mul, Nat.add_zero] at x0 x1 x2;have hl1 : ([(⟨kk, t, pp⟩ : Tk)] : List Tk).length = 1 := rfl;rw [hl1]
  by_cases hkk : kk = 3
  case neg =>
   have q3 : ((kk : Int) == (3 : Int)) = false := by simp; omega
   have hR : gdB 3 s.data.toList = false := by rw [Bool.eq_false_iff]; intro h; obtain ⟨p0, h2⟩ := (hiff.2 (gdB_iff.1 h)).2; injection h2 with h2 _; injection h2 with h2 _ _; exact hkk h2
   have HR := Zh hR;clear hiff hlb htk hown hR hkk hle hl1
   go_wp2_with fail
   go_quiet (fail)
   go_wp2_with fail
   go_ret2
   exact ⟨_, false, rfl, (by rw [show qbd (3 : Int) s = _ from qao 3 s (by decide), HR.o]), (fun _ => cat0 s HP.o), qan (cat0 s HP.o) hs, bdd HB3.o⟩
  subst hkk
  by_cases htt : t = s.data.toList
  case neg =>
   have hR : gdB 3 s.data.toList = false := by rw [Bool.eq_false_iff]; intro h; obtain ⟨p0, h2⟩ := (hiff.2 (gdB_iff.1 h)).2; injection h2 with h2 _; injection h2 with _ h2 _; exact htt h2
   have q4 : ¬ (⟨t.toArray⟩ : ByteArray).toList = s.toList := fun h => htt (by have h2 := qat h; rw [<- h2])
   have q5 : ((⟨t.toArray⟩ : ByteArray).toList == s.toList) = false := by simpa using q4
   generalize (⟨t.toArray⟩ : ByteArray) = T at *;have HR := Zh hR;clear hiff hlb htk hown hR htt hle hl1
   go_wp2_with fail
   go_quiet (fail)
   go_wp2_with fail
   go_ret2
   exact ⟨_, false, rfl, (by rw [show qbd (3 : Int) s = _ from qao 3 s (by decide), HR.o]), (fun _ => cat0 s HP.o), qan (cat0 s HP.o) hs, bdd HB3.o⟩
  have hR : gdB 3 s.data.toList = true := gdB_iff.2 (hiff.1 ⟨rfl, pp, by rw [htt]⟩);rw [htt, qeg] at x1;have HR := Zh hR;clear hiff hlb htk hown hR htt hle hl1
  go_wp2_with fail
  go_quiet (fail)
  go_wp2_with fail
  go_ret2
  exact ⟨_, true, rfl, (by rw [show qbd (3 : Int) s = _ from qao 3 s (by decide), HR.o]), (fun _ => cat0 s HP.o), qan (cat0 s HP.o) hs, bdd HB3.o⟩
 | false =>
  have HP := Zh hp;clear hp;go_enter Tryz.func107, Tryz.ntmps107
  go_wp2_with fail
  rw [<- HW1.o];refine (qfb s W1 (by omega)).mono ?_;rintro e w1 ⟨rfl, hb⟩;rw [HP.o];have d0 := qaa hb c0;have d1 := qaa hb c1
  replace HBw := Zh (HBw.o.trans (hb.mono HBw.o.size))
  clear hb c0 c1 HW1 HBw0;obtain ⟨cap, w2, hcv, hcap, hb2, hby, hsz2⟩ := conv_bytes w1 ((⟨#[124]⟩ : ByteArray) ++ s ++ (⟨#[124]⟩ : ByteArray));have hzz : ∀ Z : ByteArray, Z.data.toList.length = Z.size := fun Z => by simp
  have hXl : (qaj 3 s.data.toList).length = ((⟨#[124]⟩ : ByteArray) ++ s ++ (⟨#[124]⟩ : ByteArray)).size := by rw [<- cat3 s HP.o]; exact hzz _
  have hXs : (qaj 3 s.data.toList).length <= 200000 := by have h1 := qbq 3 s.data.toList; have h2 : s.data.toList.length = s.size := (by simp); omega
  rw [cat3 s HP.o] at hby
  have hct := reftokens_any (some ⟨(World.heap w1).size, 0, none⟩) cap (qaj 3 s.data.toList) w2 hby (by omega) (by omega);rw [hXl] at hct;have hsze : ((⟨#[124]⟩ : ByteArray) ++ s ++ (⟨#[124]⟩ : ByteArray)).size = 1 + s.size + 1 := by first | rfl | (rw [ByteArray.size_append, ByteArray.size_append]; rfl) | (rw [ByteArray.size_append]; rfl)
  rw [hsze] at hct
  try simp only [World.size_alloc] at hcv hct
  have HCT := Zh hct;have y0 := qaa hb2 d0;have y1 := qaa hb2 d1;have HB2 := Zh (HBw.o.trans (hb2.mono HBw.o.size));clear hcap hb2 hby hsz2 hXl hXs hct d0 d1 hzz hsze
  go_wp2_with fail
  refine HCT.o.mono ?_;rintro e w3 ⟨p, c, l, A, er, rfl, htk, hown, hb3⟩;have z0 := qaa hb3 y0;have z1 := qaa hb3 y1;have HB3 := Zh (HB2.o.trans (hb3.mono HB2.o.size));clear hb3 HCT y0 y1;have hiff := qci htk;have hlb := own_tks hown
  by_cases her : er = 0
  case neg =>
   have q1 : ((er : Int) == 0) = false := by simp; omega
   have hR : gdB 3 s.data.toList = false := by rw [Bool.eq_false_iff]; intro h; exact her (hiff.2 (gdB_iff.1 h)).1
   have HR := Zh hR;clear hiff hlb htk hown hR her
   go_wp2_with fail
   go_quiet (fail)
   go_wp2_with fail
   go_ret2
   exact ⟨_, false, rfl, (by rw [show qbd (3 : Int) s = _ from qao 3 s (by decide), HR.o]), (fun _ => cat3 s HP.o), qan (cat3 s HP.o) hs, bdd HB3.o⟩
  subst her
  by_cases hle : l.length = 1
  case neg =>
   have q2 : ((l.length : Int) == 1) = false := by simp; omega
   have hR : gdB 3 s.data.toList = false := by rw [Bool.eq_false_iff]; intro h; obtain ⟨p0, h2⟩ := (hiff.2 (gdB_iff.1 h)).2; rw [h2] at hle; exact hle rfl
   have HR := Zh hR;generalize l.length = n3 at *;clear hiff hlb htk hown hR hle
   go_wp2_with fail
   go_quiet (fail)
   go_wp2_with fail
   go_ret2
   exact ⟨_, false, rfl, (by rw [show qbd (3 : Int) s = _ from qao 3 s (by decide), HR.o]), (fun _ => cat3 s HP.o), qan (cat3 s HP.o) hs, bdd HB3.o⟩
  obtain ⟨⟨kk, t, pp⟩, rfl⟩ : ∃ x, l = [x] := by match l, hle with | [x], _ => exact ⟨x, rfl⟩
  obtain ⟨b3, off3, rfl, x0, x1, x2⟩ := hlb 0 (by simp);simp only [List.getElem_cons_zero, Nat.zero_mul, Nat.add_zero] at x0 x1 x2;have hl1 : ([(⟨kk, t, pp⟩ : Tk)] : List Tk).length = 1 := rfl;rw [hl1]
  by_cases hkk : kk = 3
  case neg =>
   have q3 : ((kk : Int) == (3 : Int)) = false := by simp; omega
   have hR : gdB 3 s.data.toList = false := by rw [Bool.eq_false_iff]; intro h; obtain ⟨p0, h2⟩ := (hiff.2 (gdB_iff.1 h)).2; injection h2 with h2 _; injection h2 with h2 _ _; exact hkk h2
   have HR := Zh hR;clear hiff hlb htk hown hR hkk hle hl1
   go_wp2_with fail
   go_quiet (fail)
   go_wp2_with fail
   go_ret2
   exact ⟨_, false, rfl, (by rw [show qbd (3 : Int) s = _ from qao 3 s (by decide), HR.o]), (fun _ => cat3 s HP.o), qan (cat3 s HP.o) hs, bdd HB3.o⟩
  subst hkk
  by_cases htt : t = s.data.toList
  case neg =>
   have hR : gdB 3 s.data.toList = false := by rw [Bool.eq_false_iff]; intro h; obtain ⟨p0, h2⟩ := (hiff.2 (gdB_iff.1 h)).2; injection h2 with h2 _; injection h2 with _ h2 _; exact htt h2
   have q4 : ¬ (⟨t.toArray⟩ : ByteArray).toList = s.toList := fun h => htt (by have h2 := qat h; rw [<- h2])
   have q5 : ((⟨t.toArray⟩ : ByteArray).toList == s.toList) = false := by simpa using q4
   generalize (⟨t.toArray⟩ : ByteArray) = T at *;have HR := Zh hR;clear hiff hlb htk hown hR htt hle hl1
   go_wp2_with fail
   go_quiet (fail)
   go_wp2_with fail
   go_ret2
   exact ⟨_, false, rfl, (by rw [show qbd (3 : Int) s = _ from qao 3 s (by decide), HR.o]), (fun _ => cat3 s HP.o), qan (cat3 s HP.o) hs, bdd HB3.o⟩
  have hR : gdB 3 s.data.toList = true := gdB_iff.2 (hiff.1 ⟨rfl, pp, by rw [htt]⟩);rw [htt, qeg] at x1;have HR := Zh hR;clear hiff hlb htk hown hR htt hle hl1
  go_wp2_with fail
  go_quiet (fail)
  go_wp2_with fail
  go_ret2
  exact ⟨_, true, rfl, (by rw [show qbd (3 : Int) s = _ from qao 3 s (by decide), HR.o]), (fun _ => cat3 s HP.o), qan (cat3 s HP.o) hs, bdd HB3.o⟩
theorem qml (s : ByteArray) (a : Int) (W : World) (hs : s.size <= 65536) : Calls Tryz.prog 107 #[.agg #[.int .u8 4, .string s, .int .i64 a]] W (qge 4 s W) := by
 have HBw0 := Zh (qab W (.cells #[.int .u8 4, .string s, .int .i64 a] 32));obtain ⟨W1, hW1⟩ : ∃ W1, W1 = W.alloc (.cells #[.int .u8 4, .string s, .int .i64 a] 32) := ⟨_, rfl⟩;have c0 : W1.cell? ⟨W.heap.size, 0, none⟩ = some (.int .u8 4) := by rw [hW1]; simp [go_sem]
 have c1 : W1.cell? ⟨W.heap.size, 1, none⟩ = some (.string s) := by rw [hW1]; simp [go_sem]
 have HBw := Zh (show Below W.heap.size W W1 by rw [hW1]; exact qab _ _);have HW1 := Zh hW1;clear hW1;have d0 := c0;have d1 := c1;clear c0 c1 HBw0;obtain rfl := HW1.o;obtain ⟨cap, w2, hcv, hcap, hb2, hby, hsz2⟩ := conv_bytes (W.alloc (.cells #[.int .u8 4, .string s, .int .i64 a] 32)) (s);have hzz : ∀ Z : ByteArray, Z.data.toList.length = Z.size := fun Z => by simp
 have hXl : (qaj 4 s.data.toList).length = (s).size := by rw [<- show s.data.toList = qaj 4 s.data.toList from rfl]; exact hzz _
 have hXs : (qaj 4 s.data.toList).length <= 200000 := by have h1 := qbq 4 s.data.toList; have h2 : s.data.toList.length = s.size := (by simp); omega
 rw [show s.data.toList = qaj 4 s.data.toList from rfl] at hby
 have hct := reftokens_any (some ⟨(World.heap (W.alloc (.cells #[.int .u8 4, .string s, .int .i64 a] 32))).size, 0, none⟩) cap (qaj 4 s.data.toList) w2 hby (by omega) (by omega);rw [hXl] at hct
 skip
 skip
 try simp only [World.size_alloc] at hcv hct
 have HCT := Zh hct;have y0 := qaa hb2 d0;have y1 := qaa hb2 d1;have HB2 := Zh (HBw.o.trans (hb2.mono HBw.o.size));clear hcap hb2 hby hsz2 hXl hXs hct d0 d1 hzz;go_enter Tryz.func107, Tryz.ntmps107
 go_wp2_with fail
 refine HCT.o.mono ?_;rintro e w3 ⟨p, c, l, A, er, rfl, htk, hown, hb3⟩;have z0 := qaa hb3 y0;have z1 := qaa hb3 y1;have HB3 := Zh (HB2.o.trans (hb3.mono HB2.o.size));clear hb3 HCT y0 y1;have hiff := qci htk;have hlb := own_tks hown
 by_cases her : er = 0
 case neg =>
  have q1 : ((er : Int) == 0) = false := by simp; omega
  have hR : gdB 4 s.data.toList = false := by rw [Bool.eq_false_iff]; intro h; exact her (hiff.2 (gdB_iff.1 h)).1
  have HR := Zh hR;clear hiff hlb htk hown hR her
  go_wp2_with fail
  go_quiet (fail)
  go_wp2_with fail
  go_ret2
  exact ⟨_, false, rfl, (by rw [show qbd (4 : Int) s = _ from qao 4 s (by decide), HR.o]), (fun _ => show s.data.toList = qaj 4 s.data.toList from rfl), qan (show s.data.toList = qaj 4 s.data.toList from rfl) hs, bdd HB3.o⟩
 subst her
 by_cases hle : l.length = 1
 case neg =>
  have q2 : ((l.length : Int) == 1) = false := by simp; omega
  have hR : gdB 4 s.data.toList = false := by rw [Bool.eq_false_iff]; intro h; obtain ⟨p0, h2⟩ := (hiff.2 (gdB_iff.1 h)).2; rw [h2] at hle; exact hle rfl
  have HR := Zh hR;generalize l.length = n3 at *;clear hiff hlb htk hown hR hle
  go_wp2_with fail
  go_quiet (fail)
  go_wp2_with fail
  go_ret2
  exact ⟨_, false, rfl, (by rw [show qbd (4 : Int) s = _ from qao 4 s (by decide), HR.o]), (fun _ => show s.data.toList = qaj 4 s.data.toList from rfl), qan (show s.data.toList = qaj 4 s.data.toList from rfl) hs, bdd HB3.o⟩
 obtain ⟨⟨kk, t, pp⟩, rfl⟩ : ∃ x, l = [x] := by match l, hle with | [x], _ => exact ⟨x, rfl⟩
 obtain ⟨b3, off3, rfl, x0, x1, x2⟩ := hlb 0 (by simp);simp only [List.getElem_cons_zero, Nat.zero_mul, Nat.add_zero] at x0 x1 x2;have hl1 : ([(⟨kk, t, pp⟩ : Tk)] : List Tk).length = 1 := rfl;rw [hl1]
 by_cases hkk : kk = 4
 case neg =>
  have q3 : ((kk : Int) == (4 : Int)) = false := by simp; omega
  have hR : gdB 4 s.data.toList = false := by rw [Bool.eq_false_iff]; intro h; obtain ⟨p0, h2⟩ := (hiff.2 (gdB_iff.1 h)).2; injection h2 with h2 _; injection h2 with h2 _ _; exact hkk h2
  have HR := Zh hR;clear hiff hlb htk hown hR hkk hle hl1
  go_wp2_with fail
  go_quiet (fail)
  go_wp2_with fail
  go_ret2
  exact ⟨_, false, rfl, (by rw [show qbd (4 : Int) s = _ from qao 4 s (by decide), HR.o]), (fun _ => show s.data.toList = qaj 4 s.data.toList from rfl), qan (show s.data.toList = qaj 4 s.data.toList from rfl) hs, bdd HB3.o⟩
 subst hkk
 by_cases htt : t = s.data.toList
 case neg =>
  have hR : gdB 4 s.data.toList = false := by rw [Bool.eq_false_iff]; intro h; obtain ⟨p0, h2⟩ := (hiff.2 (gdB_iff.1 h)).2; injection h2 with h2 _; injection h2 with _ h2 _; exact htt h2
  have q4 : ¬ (⟨t.toArray⟩ : ByteArray).toList = s.toList := fun h => htt (by have h2 := qat h; rw [<- h2])
  have q5 : ((⟨t.toArray⟩ : ByteArray).toList == s.toList) = false := by simpa using q4
  generalize (⟨t.toArray⟩ : ByteArray) = T at *;have HR := Zh hR;clear hiff hlb htk hown hR htt hle hl1
  go_wp2_with fail
  go_quiet (fail)
  go_wp2_with fail
  go_ret2
  exact ⟨_, false, rfl, (by rw [show qbd (4 : Int) s = _ from qao 4 s (by decide), HR.o]), (fun _ => show s.data.toList = qaj 4 s.data.toList from rfl), qan (show s.data.toList = qaj 4 s.data.toList from rfl) hs, bdd HB3.o⟩
 have hR : gdB 4 s.data.toList = true := gdB_iff.2 (hiff.1 ⟨rfl, pp, by rw [htt]⟩);rw [htt, qeg] at x1;have HR := Zh hR;clear hiff hlb htk hown hR htt hle hl1
 go_wp2_with fail
 go_quiet (fail)
 go_wp2_with fail
 go_ret2
 exact ⟨_, true, rfl, (by rw [show qbd (4 : Int) s = _ from qao 4 s (by decide), HR.o]), (fun _ => show s.data.toList = qaj 4 s.data.toList from rfl), qan (show s.data.toList = qaj 4 s.data.toList from rfl) hs, bdd HB3.o⟩
theorem qmi (s : ByteArray) (a : Int) (W : World) (hs : s.size <= 65536) : Calls Tryz.prog 107 #[.agg #[.int .u8 7, .string s, .int .i64 a]] W (qge 7 s W) := by
 have HBw0 := Zh (qab W (.cells #[.int .u8 7, .string s, .int .i64 a] 32));obtain ⟨W1, hW1⟩ : ∃ W1, W1 = W.alloc (.cells #[.int .u8 7, .string s, .int .i64 a] 32) := ⟨_, rfl⟩;have c0 : W1.cell? ⟨W.heap.size, 0, none⟩ = some (.int .u8 7) := by rw [hW1]; simp [go_sem]
 have c1 : W1.cell? ⟨W.heap.size, 1, none⟩ = some (.string s) := by rw [hW1]; simp [go_sem]
 have HBw := Zh (show Below W.heap.size W W1 by rw [hW1]; exact qab _ _);have HW1 := Zh hW1;clear hW1;have d0 := c0;have d1 := c1;clear c0 c1 HBw0;obtain rfl := HW1.o;obtain ⟨cap, w2, hcv, hcap, hb2, hby, hsz2⟩ := conv_bytes (W.alloc (.cells #[.int .u8 7, .string s, .int .i64 a] 32)) (s);have hzz : ∀ Z : ByteArray, Z.data.toList.length = Z.size := fun Z => by simp
 have hXl : (qaj 7 s.data.toList).length = (s).size := by rw [<- show s.data.toList = qaj 7 s.data.toList from rfl]; exact hzz _
 have hXs : (qaj 7 s.data.toList).length <= 200000 := by have h1 := qbq 7 s.data.toList; have h2 : s.data.toList.length = s.size := (by simp); omega
 rw [show s.data.toList = qaj 7 s.data.toList from rfl] at hby
 have hct := reftokens_any (some ⟨(World.heap (W.alloc (.cells #[.int .u8 7, .string s, .int .i64 a] 32))).size, 0, none⟩) cap (qaj 7 s.data.toList) w2 hby (by omega) (by omega);rw [hXl] at hct
 skip
 skip
 try simp only [World.size_alloc] at hcv hct
 have HCT := Zh hct;have y0 := qaa hb2 d0;have y1 := qaa hb2 d1;have HB2 := Zh (HBw.o.trans (hb2.mono HBw.o.size));clear hcap hb2 hby hsz2 hXl hXs hct d0 d1 hzz;go_enter Tryz.func107, Tryz.ntmps107
 go_wp2_with fail
 refine HCT.o.mono ?_;rintro e w3 ⟨p, c, l, A, er, rfl, htk, hown, hb3⟩;have z0 := qaa hb3 y0;have z1 := qaa hb3 y1;have HB3 := Zh (HB2.o.trans (hb3.mono HB2.o.size));clear hb3 HCT y0 y1;have hiff := qci htk;have hlb := own_tks hown
 by_cases her : er = 0
 case neg =>
  have q1 : ((er : Int) == 0) = false := by simp; omega
  have hR : gdB 7 s.data.toList = false := by rw [Bool.eq_false_iff]; intro h; exact her (hiff.2 (gdB_iff.1 h)).1
  have HR := Zh hR;clear hiff hlb htk hown hR her
  go_wp2_with fail
  go_quiet (fail)
  go_wp2_with fail
  go_ret2
  exact ⟨_, false, rfl, (by rw [show qbd (7 : Int) s = _ from qao 7 s (by decide), HR.o]), (fun _ => show s.data.toList = qaj 7 s.data.toList from rfl), qan (show s.data.toList = qaj 7 s.data.toList from rfl) hs, bdd HB3.o⟩
 subst her
 by_cases hle : l.length = 1
 case neg =>
  have q2 : ((l.length : Int) == 1) = false := by simp; omega
  have hR : gdB 7 s.data.toList = false := by rw [Bool.eq_false_iff]; intro h; obtain ⟨p0, h2⟩ := (hiff.2 (gdB_iff.1 h)).2; rw [h2] at hle; exact hle rfl
  have HR := Zh hR;generalize l.length = n3 at *;clear hiff hlb htk hown hR hle
  go_wp2_with fail
  go_quiet (fail)
  go_wp2_with fail
  go_ret2
  exact ⟨_, false, rfl, (by rw [show qbd (7 : Int) s = _ from qao 7 s (by decide), HR.o]), (fun _ => show s.data.toList = qaj 7 s.data.toList from rfl), qan (show s.data.toList = qaj 7 s.data.toList from rfl) hs, bdd HB3.o⟩
 obtain ⟨⟨kk, t, pp⟩, rfl⟩ : ∃ x, l = [x] := by match l, hle with | [x], _ => exact ⟨x, rfl⟩
 obtain ⟨b3, off3, rfl, x0, x1, x2⟩ := hlb 0 (by simp);simp only [List.getElem_cons_zero, Nat.zero_mul, Nat.add_zero] at x0 x1 x2;have hl1 : ([(⟨kk, t, pp⟩ : Tk)] : List Tk).length = 1 := rfl;rw [hl1]
 by_cases hkk : kk = 7
 case neg =>
  have q3 : ((kk : Int) == (7 : Int)) = false := by simp; omega
  have hR : gdB 7 s.data.toList = false := by rw [Bool.eq_false_iff]; intro h; obtain ⟨p0, h2⟩ := (hiff.2 (gdB_iff.1 h)).2; injection h2 with h2 _; injection h2 with h2 _ _; exact hkk h2
  have HR := Zh hR;clear hiff hlb htk hown hR hkk hle hl1
  go_wp2_with fail
  go_quiet (fail)
  go_wp2_with fail
  go_ret2
  exact ⟨_, false, rfl, (by rw [show qbd (7 : Int) s = _ from qao 7 s (by decide), HR.o]), (fun _ => show s.data.toList = qaj 7 s.data.toList from rfl), qan (show s.data.toList = qaj 7 s.data.toList from rfl) hs, bdd HB3.o⟩
 subst hkk
 by_cases htt : t = s.data.toList
 case neg =>
  have hR : gdB 7 s.data.toList = false := by rw [Bool.eq_false_iff]; intro h; obtain ⟨p0, h2⟩ := (hiff.2 (gdB_iff.1 h)).2; injection h2 with h2 _; injection h2 with _ h2 _; exact htt h2
  have q4 : ¬ (⟨t.toArray⟩ : ByteArray).toList = s.toList := fun h => htt (by have h2 := qat h; rw [<- h2])
  have q5 : ((⟨t.toArray⟩ : ByteArray).toList == s.toList) = false := by simpa using q4
  generalize (⟨t.toArray⟩ : ByteArray) = T at *;have HR := Zh hR;clear hiff hlb htk hown hR htt hle hl1
  go_wp2_with fail
  go_quiet (fail)
  go_wp2_with fail
  go_ret2
  exact ⟨_, false, rfl, (by rw [show qbd (7 : Int) s = _ from qao 7 s (by decide), HR.o]), (fun _ => show s.data.toList = qaj 7 s.data.toList from rfl), qan (show s.data.toList = qaj 7 s.data.toList from rfl) hs, bdd HB3.o⟩
 have hR : gdB 7 s.data.toList = true := gdB_iff.2 (hiff.1 ⟨rfl, pp, by rw [htt]⟩);rw [htt, qeg] at x1;have HR := Zh hR;clear hiff hlb htk hown hR htt hle hl1
 go_wp2_with fail
 go_quiet (fail)
 go_wp2_with fail
 go_ret2
 exact ⟨_, true, rfl, (by rw [show qbd (7 : Int) s = _ from qao 7 s (by decide), HR.o]), (fun _ => show s.data.toList = qaj 7 s.data.toList from rfl), qan (show s.data.toList = qaj 7 s.data.toList from rfl) hs, bdd HB3.o⟩
theorem qmj (s : ByteArray) (a : Int) (W : World) (hs : s.size <= 65536) : Calls Tryz.prog 107 #[.agg #[.int .u8 6, .string s, .int .i64 a]] W (qge 6 s W) := by
 have HBw0 := Zh (qab W (.cells #[.int .u8 6, .string s, .int .i64 a] 32));obtain ⟨W1, hW1⟩ : ∃ W1, W1 = W.alloc (.cells #[.int .u8 6, .string s, .int .i64 a] 32) := ⟨_, rfl⟩;have c0 : W1.cell? ⟨W.heap.size, 0, none⟩ = some (.int .u8 6) := by rw [hW1]; simp [go_sem]
 have c1 : W1.cell? ⟨W.heap.size, 1, none⟩ = some (.string s) := by rw [hW1]; simp [go_sem]
 have HBw := Zh (show Below W.heap.size W W1 by rw [hW1]; exact qab _ _);have HW1 := Zh hW1;clear hW1;have d0 := c0;have d1 := c1;clear c0 c1 HBw0;obtain rfl := HW1.o;obtain ⟨cap, w2, hcv, hcap, hb2, hby, hsz2⟩ := conv_bytes (W.alloc (.cells #[.int .u8 6, .string s, .int .i64 a] 32)) ((⟨#[58]⟩ : ByteArray) ++ s);have hzz : ∀ Z : ByteArray, Z.data.toList.length = Z.size := fun Z => by simp
 have hXl : (qaj 6 s.data.toList).length = ((⟨#[58]⟩ : ByteArray) ++ s).size := by rw [<- cat6 s]; exact hzz _
 have hXs : (qaj 6 s.data.toList).length <= 200000 := by have h1 := qbq 6 s.data.toList; have h2 : s.data.toList.length = s.size := (by simp); omega
 rw [cat6 s] at hby
 have hct := reftokens_any (some ⟨(World.heap (W.alloc (.cells #[.int .u8 6, .string s, .int .i64 a] 32))).size, 0, none⟩) cap (qaj 6 s.data.toList) w2 hby (by omega) (by omega);rw [hXl] at hct;have hsze : ((⟨#[58]⟩ : ByteArray) ++ s).size = 1 + s.size := by first | rfl | (rw [ByteArray.size_append, ByteArray.size_append]; rfl) | (rw [ByteArray.size_append]; rfl)
 rw [hsze] at hct
 try simp only [World.size_alloc] at hcv hct
 have HCT := Zh hct;have y0 := qaa hb2 d0;have y1 := qaa hb2 d1;have HB2 := Zh (HBw.o.trans (hb2.mono HBw.o.size));clear hcap hb2 hby hsz2 hXl hXs hct d0 d1 hzz hsze;go_enter Tryz.func107, Tryz.ntmps107
 go_wp2_with fail
 refine HCT.o.mono ?_;rintro e w3 ⟨p, c, l, A, er, rfl, htk, hown, hb3⟩;have z0 := qaa hb3 y0;have z1 := qaa hb3 y1;have HB3 := Zh (HB2.o.trans (hb3.mono HB2.o.size));clear hb3 HCT y0 y1;have hiff := qci htk;have hlb := own_tks hown
 by_cases her : er = 0
 case neg =>
  have q1 : ((er : Int) == 0) = false := by simp; omega
  have hR : gdB 6 s.data.toList = false := by rw [Bool.eq_false_iff]; intro h; exact her (hiff.2 (gdB_iff.1 h)).1
  have HR := Zh hR;clear hiff hlb htk hown hR her
  go_wp2_with fail
  go_quiet (fail)
  go_wp2_with fail
  go_ret2
  exact ⟨_, false, rfl, (by rw [show qbd (6 : Int) s = _ from qao 6 s (by decide), HR.o]), (fun _ => cat6 s), qan (cat6 s) hs, bdd HB3.o⟩
 subst her
 by_cases hle : l.length = 1
 case neg =>
  have q2 : ((l.length : Int) == 1) = false := by simp; omega
  have hR : gdB 6 s.data.toList = false := by rw [Bool.eq_false_iff]; intro h; obtain ⟨p0, h2⟩ := (hiff.2 (gdB_iff.1 h)).2; rw [h2] at hle; exact hle rfl
  have HR := Zh hR;generalize l.length = n3 at *;clear hiff hlb htk hown hR hle
  go_wp2_with fail
  go_quiet (fail)
  go_wp2_with fail
  go_ret2
  exact ⟨_, false, rfl, (by rw [show qbd (6 : Int) s = _ from qao 6 s (by decide), HR.o]), (fun _ => cat6 s), qan (cat6 s) hs, bdd HB3.o⟩
 obtain ⟨⟨kk, t, pp⟩, rfl⟩ : ∃ x, l = [x] := by match l, hle with | [x], _ => exact ⟨x, rfl⟩
 obtain ⟨b3, off3, rfl, x0, x1, x2⟩ := hlb 0 (by simp);simp only [List.getElem_cons_zero, Nat.zero_mul, Nat.add_zero] at x0 x1 x2;have hl1 : ([(⟨kk, t, pp⟩ : Tk)] : List Tk).length = 1 := rfl;rw [hl1]
 by_cases hkk : kk = 6
 case neg =>
  have q3 : ((kk : Int) == (6 : Int)) = false := by simp; omega
  have hR : gdB 6 s.data.toList = false := by rw [Bool.eq_false_iff]; intro h; obtain ⟨p0, h2⟩ := (hiff.2 (gdB_iff.1 h)).2; injection h2 with h2 _; injection h2 with h2 _ _; exact hkk h2
  have HR := Zh hR;clear hiff hlb htk hown hR hkk hle hl1
  go_wp2_with fail
  go_quiet (fail)
  go_wp2_with fail
  go_ret2
  exact ⟨_, false, rfl, (by rw [show qbd (6 : Int) s = _ from qao 6 s (by decide), HR.o]), (fun _ => cat6 s), qan (cat6 s) hs, bdd HB3.o⟩
 subst hkk
 by_cases htt : t = s.data.toList
 case neg =>
  have hR : gdB 6 s.data.toList = false := by rw [Bool.eq_false_iff]; intro h; obtain ⟨p0, h2⟩ := (hiff.2 (gdB_iff.1 h)).2; injection h2 with h2 _; injection h2 with _ h2 _; exact htt h2
  have q4 : ¬ (⟨t.toArray⟩ : ByteArray).toList = s.toList := fun h => htt (by have h2 := qat h; rw [<- h2])
  have q5 : ((⟨t.toArray⟩ : ByteArray).toList == s.toList) = false := by simpa using q4
  generalize (⟨t.toArray⟩ : ByteArray) = T at *;have HR := Zh hR;clear hiff hlb htk hown hR htt hle hl1
  go_wp2_with fail
  go_quiet (fail)
  go_wp2_with fail
  go_ret2
  exact ⟨_, false, rfl, (by rw [show qbd (6 : Int) s = _ from qao 6 s (by decide), HR.o]), (fun _ => cat6 s), qan (cat6 s) hs, bdd HB3.o⟩
 have hR : gdB 6 s.data.toList = true := gdB_iff.2 (hiff.1 ⟨rfl, pp, by rw [htt]⟩);rw [htt, qeg] at x1;have HR := Zh hR;clear hiff hlb htk hown hR htt hle hl1
 go_wp2_with fail
 go_quiet (fail)
 go_wp2_with fail
 go_ret2
 exact ⟨_, true, rfl, (by rw [show qbd (6 : Int) s = _ from qao 6 s (by decide), HR.o]), (fun _ => cat6 s), qan (cat6 s) hs, bdd HB3.o⟩
theorem qmk (s : ByteArray) (a : Int) (W : World) (hs : s.size <= 65536) : Calls Tryz.prog 107 #[.agg #[.int .u8 5, .string s, .int .i64 a]] W (qge 5 s W) := by
 have HBw0 := Zh (qab W (.cells #[.int .u8 5, .string s, .int .i64 a] 32));obtain ⟨W1, hW1⟩ : ∃ W1, W1 = W.alloc (.cells #[.int .u8 5, .string s, .int .i64 a] 32) := ⟨_, rfl⟩;have c0 : W1.cell? ⟨W.heap.size, 0, none⟩ = some (.int .u8 5) := by rw [hW1]; simp [go_sem]
 have c1 : W1.cell? ⟨W.heap.size, 1, none⟩ = some (.string s) := by rw [hW1]; simp [go_sem]
 have HBw := Zh (show Below W.heap.size W W1 by rw [hW1]; exact qab _ _);have HW1 := Zh hW1;clear hW1;go_enter Tryz.func107, Tryz.ntmps107
 go_wp2_with fail
 rw [<- HW1.o];clear HW1 HBw0
 go_loopg [5, 6] s.size (fun gk s5 s6 wx => ∃ (j : Nat) (Y : ByteArray), j + gk = s.size /\ s5 = .string Y /\ s6 = .int .i64 (j : Int) /\ Hid (wx = W1 /\ Y.data.toList = 34 :: dblL (s.data.toList.take j)))
 case atStart => exact ⟨0, ⟨#[34]⟩, by omega, rfl, rfl, Zh ⟨rfl, rfl⟩⟩
 case round =>
  obtain ⟨j, Y, hj, rfl, rfl, HI⟩ := hrel;obtain ⟨hw, hY⟩ := HI.o;subst hw;have HG := Zh hj;have HY := Zh hY;have hj2 : j <= s.size := by omega
  have hYs : Y.size <= 200000 := by
   have h1 : Y.data.toList.length = Y.size := by simp
   have h2 := qjy (s.data.toList.take j);have h3 : s.data.toList.length = s.size := by simp
   rw [<- h1, hY, List.length_cons];rw [List.length_take] at h2;omega
  clear hj hY HI
  by_cases hlt : j < s.size
  ·have i0 : (0 : Int) <= (j : Int) := by omega
   have i1 : (j : Int) < (s.size : Int) := by omega
   have i2 : (j : Int) + 1 <= (s.size : Int) := by omega
   have i3 : ((j : Int) + 1).toNat = j + 1 := by omega
   have e34 : ((s[j].toNat : Int) == 34) = (s[j] == 34) := qbz 34 (by decide +kernel) _;have HX := Zh (qrt hlt)
   have hts : s.data.toList.take (j + 1) = s.data.toList.take j ++ [s[j]] := by
    have := qcm hlt;obtain ⟨h1, h2⟩ := List.getElem?_eq_some_iff.1 this;rw [List.take_succ_eq_append_getElem h1, h2]
   have HD := Zh (show dblL (s.data.toList.take (j + 1)) = dblL (s.data.toList.take j) ++ (if s[j] == 34 then [34, 34] else [s[j]]) by rw [hts]; exact qp5 _ _);obtain ⟨hz, hz0⟩ := qbe (x := s[j])
   have hXs : (s.extract j (j + 1)).size <= 1 := by
    have h1 : ∀ Z : ByteArray, Z.data.toList.length = Z.size := fun Z => by simp
    have h2 : (s.extract j (j + 1)).data.toList.length = 1 := by rw [HX.o]; rfl
    have h3 := h1 (s.extract j (j + 1));omega
   clear hts
   cases q : (s[j] == 34) with
   | true =>
    rw [q] at e34;have HQ := Zh q;clear q
    go_wp2_with fail
    go_roundg (gk - 1)
    case measure => have := HG.o; omega
    case rel =>
     obtain ⟨j', hj'⟩ : ∃ j', j' = j + 1 := ⟨_, rfl⟩;refine ⟨j', _, by have := HG.o; omega, rfl, by rw [hj']; go_num, Zh ⟨rfl, ?_⟩⟩;rw [hj', HD.o, HQ.o, qb1, qb1, HY.o, HX.o];have := eq_of_beq HQ.o
     simp [this]
   | false =>
    rw [q] at e34;have HQ := Zh q;clear q
    go_wp2_with fail
    go_roundg (gk - 1)
    case measure => have := HG.o; omega
    case rel =>
     obtain ⟨j', hj'⟩ : ∃ j', j' = j + 1 := ⟨_, rfl⟩;refine ⟨j', _, by have := HG.o; omega, rfl, by rw [hj']; go_num, Zh ⟨rfl, ?_⟩⟩;rw [hj', HD.o, HQ.o, qb1, HY.o, HX.o];simp
  ·have hjs : j = s.size := by omega
   have HYY := Zh (show Y.data.toList = 34 :: dblL s.data.toList by rw [HY.o, hjs, List.take_of_length_le (by simp)]);have d0 := c0;have d1 := c1;clear c0 c1 hjs;obtain ⟨cap, w2, hcv, hcap, hb2, hby, hsz2⟩ := conv_bytes wr (Y ++ (⟨#[34]⟩ : ByteArray));have hzz : ∀ Z : ByteArray, Z.data.toList.length = Z.size := fun Z => by simp
   have hXl : (qaj 5 s.data.toList).length = (Y ++ (⟨#[34]⟩ : ByteArray)).size := by rw [<- cat5 Y s HYY.o]; exact hzz _
   have hXs : (qaj 5 s.data.toList).length <= 200000 := by have h1 := qbq 5 s.data.toList; have h2 : s.data.toList.length = s.size := (by simp); omega
   rw [cat5 Y s HYY.o] at hby
   have hct := reftokens_any (some ⟨(World.heap wr).size, 0, none⟩) cap (qaj 5 s.data.toList) w2 hby (by omega) (by omega);rw [hXl] at hct;have hsze : (Y ++ (⟨#[34]⟩ : ByteArray)).size = Y.size + 1 := by first | rfl | (rw [ByteArray.size_append, ByteArray.size_append]; rfl) | (rw [ByteArray.size_append]; rfl)
   rw [hsze] at hct
   try simp only [World.size_alloc] at hcv hct
   have HCT := Zh hct;have y0 := qaa hb2 d0;have y1 := qaa hb2 d1;have HB2 := Zh (HBw.o.trans (hb2.mono HBw.o.size));clear hcap hb2 hby hsz2 hXl hXs hct d0 d1 hzz hsze
   go_wp2_with fail
   refine HCT.o.mono ?_;rintro e w3 ⟨p, c, l, A, er, rfl, htk, hown, hb3⟩;have z0 := qaa hb3 y0;have z1 := qaa hb3 y1;have HB3 := Zh (HB2.o.trans (hb3.mono HB2.o.size));clear hb3 HCT y0 y1;have hiff := qci htk;have hlb := own_tks hown
   by_cases her : er = 0
   case neg =>
    have q1 : ((er : Int) == 0) = false := by simp; omega
    have hR : gdB 5 s.data.toList = false := by rw [Bool.eq_false_iff]; intro h; exact her (hiff.2 (gdB_iff.1 h)).1
    have HR := Zh hR;clear hiff hlb htk hown hR her
    go_wp2_with fail
    go_quiet (fail)
    go_wp2_with fail
    go_ret2
    exact ⟨_, false, rfl, (by rw [show qbd (5 : Int) s = _ from qao 5 s (by decide), HR.o]), (fun _ => cat5 Y s HYY.o), qan (cat5 Y s HYY.o) hs, bdd HB3.o⟩
   subst her
   by_cases hle : l.length = 1
   case neg =>
    have q2 : ((l.length : Int) == 1) = false := by simp; omega
    have hR : gdB 5 s.data.toList = false := by rw [Bool.eq_false_iff]; intro h; obtain ⟨p0, h2⟩ := (hiff.2 (gdB_iff.1 h)).2; rw [h2] at hle; exact hle rfl
    have HR := Zh hR;generalize l.length = n3 at *;clear hiff hlb htk hown hR hle
    go_wp2_with fail
    go_quiet (fail)
    go_wp2_with fail
    go_ret2
    exact ⟨_, false, rfl, (by rw [show qbd (5 : Int) s = _ from qao 5 s (by decide), HR.o]), (fun _ => cat5 Y s HYY.o), qan (cat5 Y s HYY.o) hs, bdd HB3.o⟩
   obtain ⟨⟨kk, t, pp⟩, rfl⟩ : ∃ x, l = [x] := by match l, hle with | [x], _ => exact ⟨x, rfl⟩
   obtain ⟨b3, off3, rfl, x0, x1, x2⟩ := hlb 0 (by simp);simp only [List.getElem_cons_zero, Nat.zero_mul, Nat.add_zero] at x0 x1 x2;have hl1 : ([(⟨kk, t, pp⟩ : Tk)] : List Tk).length = 1 := rfl;rw [hl1]
   by_cases hkk : kk = 5
   case neg =>
    have q3 : ((kk : Int) == (5 : Int)) = false := by simp; omega
    have hR : gdB 5 s.data.toList = false := by rw [Bool.eq_false_iff]; intro h; obtain ⟨p0, h2⟩ := (hiff.2 (gdB_iff.1 h)).2; injection h2 with h2 _; injection h2 with h2 _ _; exact hkk h2
    have HR := Zh hR;clear hiff hlb htk hown hR hkk hle hl1
    go_wp2_with fail
    go_quiet (fail)
    go_wp2_with fail
    go_ret2
    exact ⟨_, false, rfl, (by rw [show qbd (5 : Int) s = _ from qao 5 s (by decide), HR.o]), (fun _ => cat5 Y s HYY.o), qan (cat5 Y s HYY.o) hs, bdd HB3.o⟩
   subst hkk
   by_cases htt : t = s.data.toList
   case neg =>
    have hR : gdB 5 s.data.toList = false := by rw [Bool.eq_false_iff]; intro h; obtain ⟨p0, h2⟩ := (hiff.2 (gdB_iff.1 h)).2; injection h2 with h2 _; injection h2 with _ h2 _; exact htt h2
    have q4 : ¬ (⟨t.toArray⟩ : ByteArray).toList = s.toList := fun h => htt (by have h2 := qat h; rw [<- h2])
    have q5 : ((⟨t.toArray⟩ : ByteArray).toList == s.toList) = false := by simpa using q4
    generalize (⟨t.toArray⟩ : ByteArray) = T at *;have HR := Zh hR;clear hiff hlb htk hown hR htt hle hl1
    go_wp2_with fail
    go_quiet (fail)
    go_wp2_with fail
    go_ret2
    exact ⟨_, false, rfl, (by rw [show qbd (5 : Int) s = _ from qao 5 s (by decide), HR.o]), (fun _ => cat5 Y s HYY.o), qan (cat5 Y s HYY.o) hs, bdd HB3.o⟩
   have hR : gdB 5 s.data.toList = true := gdB_iff.2 (hiff.1 ⟨rfl, pp, by rw [htt]⟩);rw [htt, qeg] at x1;have HR := Zh hR;clear hiff hlb htk hown hR htt hle hl1
   go_wp2_with fail
   go_quiet (fail)
   go_wp2_with fail
   go_ret2
   exact ⟨_, true, rfl, (by rw [show qbd (5 : Int) s = _ from qao 5 s (by decide), HR.o]), (fun _ => cat5 Y s HYY.o), qan (cat5 Y s HYY.o) hs, bdd HB3.o⟩
theorem qlb (k : Int) (s : ByteArray) (a : Int) (W : World) (h3 : k ≠ 3) (h4 : k ≠ 4) (h5 : k ≠ 5) (h6 : k ≠ 6) (h7 : k ≠ 7) : Calls Tryz.prog 107 #[.agg #[.int .u8 k, .string s, .int .i64 a]] W (qge k s W) := by
 have e3 : (k == 3) = false := by simpa using h3
 have e4 : (k == 4) = false := by simpa using h4
 have e5 : (k == 5) = false := by simpa using h5
 have e6 : (k == 6) = false := by simpa using h6
 have e7 : (k == 7) = false := by simpa using h7
 have hz : qbd k s = false := by
  rw [Bool.eq_false_iff];intro h;rw [readB_iff] at h;obtain ⟨h1, h2⟩ := h;generalize hkn : k.toNat = kn at h1;generalize s.data.toList = tt at h1;cases h1 <;> omega
 have HZ := Zh hz;clear h3 h4 h5 h6 h7 hz;go_enter Tryz.func107, Tryz.ntmps107
 go_wp2_with fail
 go_ret2
 exact ⟨⟨#[]⟩, false, rfl, HZ.o.symm, fun h => (by cases h), by decide, qab _ _⟩
theorem qqz (k : Int) (s : ByteArray) (a : Int) (W : World) (hs : s.size <= 65536) : Calls Tryz.prog 107 #[.agg #[.int .u8 k, .string s, .int .i64 a]] W (qge k s W) := by
 by_cases h3 : k = 3
 ·subst h3; exact qmm s a W hs
 by_cases h4 : k = 4
 ·subst h4; exact qml s a W hs
 by_cases h5 : k = 5
 ·subst h5; exact qmk s a W hs
 by_cases h6 : k = 6
 ·subst h6; exact qmj s a W hs
 by_cases h7 : k = 7
 ·subst h7; exact qmi s a W hs
 exact qlb k s a W h3 h4 h5 h6 h7
def qqt (B : Nat) (W : World) (v : Value) (N : Nat) (xs : List Value) (ok : Bool) (D : List UInt8) (e : Ending) (w' : World) : Prop :=
 ∃ v', e = .returned (.tuple #[v', .bool ok]) /\ (ok = true -> RowS B W v N xs w' v' D) /\ Only (fun k => v.ownBlock = some k) W w'
def qoy (n : Nat) : Prop := ∀ (x : Fo), x.size <= n -> szB 65536 x -> ∀ (l : Bool) (k : Int) (s : ByteArray) (a : Int) (q : Option Addr) (c : Nat) (W : World) (F : Nat -> Prop) (B N : Nat) (v : Value) (xs : List Value), s.size <= 65536 -> FoIn W F x q -> (∀ b, F b -> b < B) -> x.len <= c -> x.len <= 281474976710656 →
 W.ownsRow B 5 1 v N xs -> B <= W.heap.size -> N + (txtT l k s x).length <= 1099511627776 →
 Calls Tryz.prog 88 #[v, trV l k s a q x.len c] W (qqt B W v N xs (okT l k s x) (txtT l k s x))
theorem qhx (k : Int) (s : ByteArray) (a : Int) (q : Option Addr) (n c : Nat) (W : World) (B N : Nat) (v : Value) (xs : List Value) (hs : s.size <= 65536) (hn : n <= 281474976710656) (ho : W.ownsRow B 5 1 v N xs) (hB : B <= W.heap.size) (hN : N <= 1099511627776) :
  Calls Tryz.prog 88 #[v, trV false k s a q n c] W (qqt B W v N xs (decide (n = 0) && qbd k s) (qaj k.toNat s.data.toList)) := by
 obtain ⟨i5, hi5, hz0, hz1, hz2⟩ := qiv;obtain ⟨O, hO⟩ : ∃ O, O = decide (n = 0) := ⟨_, rfl⟩;have e0 : ((n : Int) == 0) = O := by rw [hO]; by_cases h : n = 0 <;> simp [h]
 rw [<- hO];clear hO;have hp := qqz k s a (W.alloc (.cells #[.bool false, .int .u8 k, .string s, .int .i64 a, .slice q n c] 35)) hs;have HP := Zh hp;have HO := Zh ho;have HBB := Zh (aI hB hN);have n1 : (n : Int) <= 281474976710656 := by omega
 have hc4 : ∀ w', Below (W.alloc (.cells #[.bool false, .int .u8 k, .string s, .int .i64 a, .slice q n c] 35)).heap.size (W.alloc (.cells #[.bool false, .int .u8 k, .string s, .int .i64 a, .slice q n c] 35)) w' -> w'.cell? ⟨W.heap.size, 4, none⟩ = some (.slice q n c) := fun w' h => qaa h (by simp [go_sem])
 have HC4 := Zh hc4;have HNE := Zh (show v.ownBlock ≠ some W.heap.size from fun e => by have := (qaw ho e).2; omega);have hw1 := qab W (.cells #[.bool false, .int .u8 k, .string s, .int .i64 a, .slice q n c] 35);have HW1 := Zh hw1;clear hp ho hB hN hc4 hw1;unfold trV;go_enter Tryz.func88, Tryz.ntmps88
 go_wp2_with fail
 refine HP.o.mono ?_;rintro e w1 ⟨X, b, rfl, hb, hX, hXs, hbw⟩;have HX := Zh (aI hb hX);have HB1 := Zh (HW1.o.trans (hbw.mono HW1.o.size));have HC := Zh (HC4.o w1.drew (hbw.trans ((qae w1).mono hbw.size)));clear hb hX hbw HP HW1 HC4
 go_wp2_with fail
 have HB1D := Zh (show Below W.heap.size W w1.drew from HB1.o.trans ((qae w1).mono HB1.o.size));have HO2 := Zh (qal HO.o HB1D.o)
 cases b with
 | true =>
  refine qai [(1000, (fun _ => True : World -> Prop)), (11, ((fun w => w.cell? ⟨W.heap.size, 4, none⟩ = some (.slice q n c)) : World -> Prop))] (by kernel_rfl) (SL.cons (fun _ => trivial) (SL.cons (fun _ => HC.o) SL.nil)) (fun hH => ?_);refine tk 0 0 ⟨some 20, .move (.tmp 0), 57, "ref.go:177", #[], none⟩ ?_ rfl rfl ?_ hH fun hH => ?_
  rotate_left
  ·intro w hSw; (try dsimp only at hSw); go_simp; try with_reducible rfl
  try simp only [Act.put, List.setIfInBounds_toArray, List.set_cons_zero, List.set_cons_succ]
  refine tk 0 1 ⟨some 21, .move (.tmp 6), 9, "ref.go:177", #[], none⟩ ?_ rfl rfl ?_ hH fun hH => ?_
  rotate_left
  ·intro w hSw; (try dsimp only at hSw); go_simp; try with_reducible rfl
  try simp only [Act.put, List.setIfInBounds_toArray, List.set_cons_zero, List.set_cons_succ]
  refine tk 0 3 ⟨some 23, .move (.tmp 7), 4, "ref.go:177", #[], none⟩ ?_ rfl rfl ?_ hH fun hH => ?_
  rotate_left
  ·intro w hSw; (try dsimp only at hSw); go_simp; try with_reducible rfl
  try simp only [Act.put, List.setIfInBounds_toArray, List.set_cons_zero, List.set_cons_succ]
  refine qac (rs := [2]) (by kernel_rfl) (by simp) ?_;refine AllReadyL.cons (o := ⟨some 22, .call ⟨.builtin .append, #[.tmp 20, .tmp 21], #[57, 9]⟩, 57, "ref.go:177", #[⟨0, .data⟩, ⟨1, .data⟩], none⟩) rfl (fun K hK => ?_) AllReadyL.nil;refine qc8 _ _ 57 9 rfl B i5 Tryz.underlying57 Tryz.underlying9 hi5 hz0 hz1 hz2 v N xs (by rfl) HO2.o X (by rfl) (by have := HBB.o.2; omega) (Nat.le_trans HBB.o.1 HB1D.o.size) ?_;intro v' w2 hR;have hs3 := hR.cell HC.o HNE.o;have HR := Zh hR;clear hR;refine hK.out _ _ (SL.cons (fun _ => trivial) (SL.cons (fun _ => hs3) SL.nil)) (fun hH => ?_);clear hK K
  try simp only [Act.put, List.setIfInBounds_toArray, List.set_cons_zero, List.set_cons_succ]
  refine tk 0 4 ⟨some 24, .move (.tmp 23), 4, "ref.go:177", #[⟨3, .data⟩, ⟨2, .chain⟩], none⟩ ?_ rfl rfl ?_ hH fun hH => ?_
  rotate_left
  ·intro w hSw; (try dsimp only at hSw); go_simp; try with_reducible rfl
  try simp only [Act.put, List.setIfInBounds_toArray, List.set_cons_zero, List.set_cons_succ]
  refine tk 0 5 ⟨some 25, .fieldAddr 35 (.tmp 3) 2, 0, "ref.go:177", #[⟨4, .guard⟩], some (4, true)⟩ ?_ rfl rfl ?_ hH fun hH => ?_
  rotate_left
  ·intro w hSw; (try dsimp only at hSw); go_simp; try with_reducible rfl
  try simp only [Act.put, List.setIfInBounds_toArray, List.set_cons_zero, List.set_cons_succ]
  refine tk 1 6 ⟨some 26, .load 33 (.tmp 25), 33, "ref.go:177", #[⟨5, .data⟩, ⟨4, .guard⟩], some (4, true)⟩ ?_ rfl rfl ?_ hH fun hH => ?_
  rotate_left
  ·intro w hSw; (try dsimp only at hSw); go_simp; try with_reducible rfl
  try simp only [Act.put, List.setIfInBounds_toArray, List.set_cons_zero, List.set_cons_succ]
  refine tk 0 7 ⟨some 27, .call ⟨.builtin .len, #[.tmp 26], #[33]⟩, 3, "ref.go:177", #[⟨6, .data⟩, ⟨4, .guard⟩], some (4, true)⟩ ?_ rfl rfl ?_ hH fun hH => ?_
  rotate_left
  ·intro w hSw; (try dsimp only at hSw); go_simp; try with_reducible rfl
  try simp only [Act.put, List.setIfInBounds_toArray, List.set_cons_zero, List.set_cons_succ]
  refine tk 0 8 ⟨some 28, .binOp .eql 3 (.tmp 27) (.const (.int .i64 0)) 3, 4, "ref.go:177", #[⟨7, .data⟩, ⟨4, .guard⟩, ⟨10, .gcOnly .lateStores⟩], some (4, true)⟩ ?_ rfl rfl ?_ hH fun hH => ?_
  rotate_left
  ·intro w hSw; (try dsimp only at hSw); go_simp; try with_reducible rfl
  try simp only [Act.put, List.setIfInBounds_toArray, List.set_cons_zero, List.set_cons_succ]
  refine tk 0 9 ⟨some 29, .pick (.tmp 24) (.tmp 28) (.const (.bool false)), 4, "ref.go:177", #[⟨4, .data⟩, ⟨8, .data⟩, ⟨10, .gcOnly .lateStores⟩], none⟩ ?_ rfl rfl ?_ hH fun hH => ?_
  rotate_left
  ·intro w hSw; (try dsimp only at hSw); go_simp; try with_reducible rfl
  try simp only [Act.put, List.setIfInBounds_toArray, List.set_cons_zero, List.set_cons_succ]
  refine tk 0 10 ⟨some 4, .assign (.tmp 22), 57, "ref.go:177", #[⟨2, .data⟩, ⟨4, .chain⟩, ⟨0, .phase⟩, ⟨1, .phase⟩, ⟨2, .phase⟩, ⟨3, .textOnly .lateStores⟩, ⟨4, .textOnly .lateStores⟩, ⟨5, .textOnly .lateStores⟩, ⟨6, .textOnly .lateStores⟩, ⟨7, .textOnly .lateStoresUnsure⟩, ⟨8, .textOnly .lateStores⟩, ⟨9, .textOnly .lateStores⟩], none⟩ ?_ rfl rfl ?_ hH fun hH => ?_
  rotate_left
  ·intro w hSw; (try dsimp only at hSw); go_simp; try with_reducible rfl
  try simp only [Act.put, List.setIfInBounds_toArray, List.set_cons_zero, List.set_cons_succ]
  refine qac (rs := [11]) (by kernel_rfl) (by simp) ?_;refine AllReadyL.cons (o := ⟨some 5, .assign (.tmp 29), 4, "ref.go:177", #[⟨9, .data⟩, ⟨10, .chain⟩, ⟨0, .phase⟩, ⟨1, .phase⟩, ⟨2, .phase⟩, ⟨3, .phase⟩, ⟨4, .phase⟩, ⟨5, .phase⟩, ⟨6, .phase⟩, ⟨7, .phase⟩, ⟨8, .phase⟩, ⟨9, .phase⟩, ⟨10, .phase⟩], none⟩) rfl (fun K hK => ?_) AllReadyL.nil;go_simp;refine hK.out _ _ (SL.cons (fun _ => trivial) (SL.cons (fun h => absurd h (by decide +kernel)) SL.nil)) (fun hH => ?_);clear hK K
  try simp only [Act.put, List.setIfInBounds_toArray, List.set_cons_zero, List.set_cons_succ]
  refine qah (by kernel_rfl) ?_ _
  go_wp2_with fail
  go_ret2
  refine ⟨v', (by rw [<- HX.o.1, Bool.and_true] <;> rfl), fun _ => ?_, (HR.o.from_ HB1D.o).2.1⟩;have h1 := HR.o.from_ HB1D.o;rw [HX.o.2 (by simp)] at h1
  exact h1
 | false =>
  refine qai [(1000, (fun _ => True : World -> Prop)), (11, ((fun w => w.cell? ⟨W.heap.size, 4, none⟩ = some (.slice q n c)) : World -> Prop))] (by kernel_rfl) (SL.cons (fun _ => trivial) (SL.cons (fun _ => HC.o) SL.nil)) (fun hH => ?_);refine tk 0 0 ⟨some 20, .move (.tmp 0), 57, "ref.go:177", #[], none⟩ ?_ rfl rfl ?_ hH fun hH => ?_
  rotate_left
  ·intro w hSw; (try dsimp only at hSw); go_simp; try with_reducible rfl
  try simp only [Act.put, List.setIfInBounds_toArray, List.set_cons_zero, List.set_cons_succ]
  refine tk 0 1 ⟨some 21, .move (.tmp 6), 9, "ref.go:177", #[], none⟩ ?_ rfl rfl ?_ hH fun hH => ?_
  rotate_left
  ·intro w hSw; (try dsimp only at hSw); go_simp; try with_reducible rfl
  try simp only [Act.put, List.setIfInBounds_toArray, List.set_cons_zero, List.set_cons_succ]
  refine tk 0 3 ⟨some 23, .move (.tmp 7), 4, "ref.go:177", #[], none⟩ ?_ rfl rfl ?_ hH fun hH => ?_
  rotate_left
  ·intro w hSw; (try dsimp only at hSw); go_simp; try with_reducible rfl
  try simp only [Act.put, List.setIfInBounds_toArray, List.set_cons_zero, List.set_cons_succ]
  refine qac (rs := [2]) (by kernel_rfl) (by simp) ?_;refine AllReadyL.cons (o := ⟨some 22, .call ⟨.builtin .append, #[.tmp 20, .tmp 21], #[57, 9]⟩, 57, "ref.go:177", #[⟨0, .data⟩, ⟨1, .data⟩], none⟩) rfl (fun K hK => ?_) AllReadyL.nil;refine qc8 _ _ 57 9 rfl B i5 Tryz.underlying57 Tryz.underlying9 hi5 hz0 hz1 hz2 v N xs (by rfl) HO2.o X (by rfl) (by have := HBB.o.2; omega) (Nat.le_trans HBB.o.1 HB1D.o.size) ?_;intro v' w2 hR;have hs3 := hR.cell HC.o HNE.o;have HR := Zh hR;clear hR;refine hK.out _ _ (SL.cons (fun _ => trivial) (SL.cons (fun _ => hs3) SL.nil)) (fun hH => ?_);clear hK K
  try simp only [Act.put, List.setIfInBounds_toArray, List.set_cons_zero, List.set_cons_succ]
  refine tk 0 4 ⟨some 24, .move (.tmp 23), 4, "ref.go:177", #[⟨3, .data⟩, ⟨2, .chain⟩], none⟩ ?_ rfl rfl ?_ hH fun hH => ?_
  rotate_left
  ·intro w hSw; (try dsimp only at hSw); go_simp; try with_reducible rfl
  try simp only [Act.put, List.setIfInBounds_toArray, List.set_cons_zero, List.set_cons_succ]
  refine tu 0 5 ⟨some 25, .fieldAddr 35 (.tmp 3) 2, 0, "ref.go:177", #[⟨4, .guard⟩], some (4, true)⟩ rfl rfl hH fun hH => ?_
  try simp only [Act.put, List.setIfInBounds_toArray, List.set_cons_zero, List.set_cons_succ]
  refine tu 0 6 ⟨some 26, .load 33 (.tmp 25), 33, "ref.go:177", #[⟨5, .data⟩, ⟨4, .guard⟩], some (4, true)⟩ rfl rfl hH fun hH => ?_
  try simp only [Act.put, List.setIfInBounds_toArray, List.set_cons_zero, List.set_cons_succ]
  refine tu 0 7 ⟨some 27, .call ⟨.builtin .len, #[.tmp 26], #[33]⟩, 3, "ref.go:177", #[⟨6, .data⟩, ⟨4, .guard⟩], some (4, true)⟩ rfl rfl hH fun hH => ?_
  try simp only [Act.put, List.setIfInBounds_toArray, List.set_cons_zero, List.set_cons_succ]
  refine tu 0 8 ⟨some 28, .binOp .eql 3 (.tmp 27) (.const (.int .i64 0)) 3, 4, "ref.go:177", #[⟨7, .data⟩, ⟨4, .guard⟩, ⟨10, .gcOnly .lateStores⟩], some (4, true)⟩ rfl rfl hH fun hH => ?_
  try simp only [Act.put, List.setIfInBounds_toArray, List.set_cons_zero, List.set_cons_succ]
  refine tk 0 9 ⟨some 29, .pick (.tmp 24) (.tmp 28) (.const (.bool false)), 4, "ref.go:177", #[⟨4, .data⟩, ⟨8, .data⟩, ⟨10, .gcOnly .lateStores⟩], none⟩ ?_ rfl rfl ?_ hH fun hH => ?_
  rotate_left
  ·intro w hSw; (try dsimp only at hSw); go_simp; try with_reducible rfl
  try simp only [Act.put, List.setIfInBounds_toArray, List.set_cons_zero, List.set_cons_succ]
  refine tk 0 10 ⟨some 4, .assign (.tmp 22), 57, "ref.go:177", #[⟨2, .data⟩, ⟨4, .chain⟩, ⟨0, .phase⟩, ⟨1, .phase⟩, ⟨2, .phase⟩, ⟨3, .textOnly .lateStores⟩, ⟨4, .textOnly .lateStores⟩, ⟨5, .textOnly .lateStores⟩, ⟨6, .textOnly .lateStores⟩, ⟨7, .textOnly .lateStoresUnsure⟩, ⟨8, .textOnly .lateStores⟩, ⟨9, .textOnly .lateStores⟩], none⟩ ?_ rfl rfl ?_ hH fun hH => ?_
  rotate_left
  ·intro w hSw; (try dsimp only at hSw); go_simp; try with_reducible rfl
  try simp only [Act.put, List.setIfInBounds_toArray, List.set_cons_zero, List.set_cons_succ]
  refine qac (rs := [11]) (by kernel_rfl) (by simp) ?_;refine AllReadyL.cons (o := ⟨some 5, .assign (.tmp 29), 4, "ref.go:177", #[⟨9, .data⟩, ⟨10, .chain⟩, ⟨0, .phase⟩, ⟨1, .phase⟩, ⟨2, .phase⟩, ⟨3, .phase⟩, ⟨4, .phase⟩, ⟨5, .phase⟩, ⟨6, .phase⟩, ⟨7, .phase⟩, ⟨8, .phase⟩, ⟨9, .phase⟩, ⟨10, .phase⟩], none⟩) rfl (fun K hK => ?_) AllReadyL.nil;go_simp;refine hK.out _ _ (SL.cons (fun _ => trivial) (SL.cons (fun h => absurd h (by decide +kernel)) SL.nil)) (fun hH => ?_);clear hK K
  try simp only [Act.put, List.setIfInBounds_toArray, List.set_cons_zero, List.set_cons_succ]
  refine qah (by kernel_rfl) ?_ _
  go_wp2_with fail
  go_ret2
  exact ⟨v', (by rw [<- HX.o.1, Bool.and_false] <;> rfl), (fun h => by rw [<- HX.o.1, Bool.and_false] at h; cases h), (HR.o.from_ HB1D.o).2.1⟩
theorem RowS.only2 {B : Nat} {W w1 w2 : World} {v v1 : Value} {N : Nat} {xs : List Value} {D : List UInt8} (h : RowS B W v N xs w1 v1 D) (k : Only (fun j => v1.ownBlock = some j) w1 w2) : Only (fun j => v.ownBlock = some j) W w2 := h.2.1.trans2 k (fun j e => h.2.2 j e)
theorem qhw (n : Nat) (ih : ∀ m, m < n -> qoy m) : qoy n := by
 intro x hsz hzb l k s a q c W F B N v xs hs hx hF hc hn ho hB hN
 cases l with
 | false =>
  have h := qhx k s a q x.len c W B N v xs hs hn ho hB (by omega)
  simpa [txtT, okT] using h
 | true =>
 obtain ⟨i5, hi5, hz0, hz1, hz2⟩ := qiv;have htt : txtT true k s x = 40 :: (txtF true x ++ [41]) := by simp [txtT]
 rw [htt] at hN ⊢;clear htt;have hok : okT true k s x = ((decide (k = 1) && decide (s = ⟨#[40]⟩)) && okF x) := by simp [okT]
 rw [hok];clear hok;obtain ⟨T, hT⟩ : ∃ T, T = 40 :: txtF true x := ⟨_, rfl⟩;have hT2 : 40 :: (txtF true x ++ [41]) = T ++ [41] := by rw [hT]; rfl
 rw [hT2] at hN ⊢;obtain ⟨L, hL⟩ : ∃ L, L = T.length := ⟨_, rfl⟩;have hNL : N + L + 1 <= 1099511627776 := by simp only [List.length_append, List.length_cons, List.length_nil] at hN; omega
 obtain ⟨M, hM⟩ : ∃ M, M = x.len := ⟨_, rfl⟩;rw [<- hM] at hc hn ⊢;obtain ⟨OK, hOK⟩ : ∃ OK, OK = okF x := ⟨_, rfl⟩;rw [<- hOK];have i1 : (M : Int) <= 281474976710656 := by omega
 have HX := Zh (aI hx hF);have HI := Zh (show (M = x.len /\ x.size <= n /\ T = 40 :: txtF true x /\ L = T.length /\ szB 65536 x) from ⟨hM, hsz, hT, hL, hzb⟩);have HOK := Zh hOK;have HO := Zh ho;have IH := Zh ih;have HNL := Zh hNL;have HBB := Zh hB;clear hx hF hM hsz hT hL hzb ho ih hT2 hN hNL hB hOK;unfold trV
 by_cases h1 : k = 1
 case neg =>
  have e1 : (k == 1) = false := by simpa using h1
  have e2 : (k != 1) = true := by simpa using h1
  rw [show (decide (k = 1) && decide (s = ⟨#[40]⟩) && OK) = false by simp [h1]];go_enter Tryz.func88, Tryz.ntmps88
  go_wp2_with fail
  go_ret2
  exact ⟨v, rfl, (fun h => by cases h), Only.of_below (qab W _)⟩
 subst h1
 by_cases h2 : s = ⟨#[40]⟩
 case neg =>
  have h5 : ¬ s.toList = [40] := fun e => h2 (qat (by rw [e, toList_data]))
  have h6 : (s.toList == [40]) = false := by simpa using h5
  rw [show (decide ((1 : Int) = 1) && decide (s = ⟨#[40]⟩) && OK) = false by simp [h2]];go_enter Tryz.func88, Tryz.ntmps88
  go_wp2_with fail
  go_ret2
  exact ⟨v, rfl, (fun h => by cases h), Only.of_below (qab W _)⟩
 subst h2;rw [show (decide ((1 : Int) = 1) && decide ((⟨#[40]⟩ : ByteArray) = ⟨#[40]⟩) && OK) = OK by simp];obtain ⟨W1, hW1⟩ : ∃ W1, W1 = W.alloc (.cells #[.bool true, .int .u8 1, .string ⟨#[40]⟩, .int .i64 a, .slice q M c] 35) := ⟨_, rfl⟩;have HB1 := Zh (show Below W.heap.size W W1 by rw [hW1]; exact qab _ _);have hs1 : W1.heap.size = W.heap.size + 1 := by rw [hW1]; simp
 have HS1 := Zh hs1;have y4 : W1.cell? ⟨W.heap.size, 4, none⟩ = some (.slice q M c) := by rw [hW1]; simp [go_sem]
 have HO1 := Zh (qal HO.o HB1.o);have HO1b := Zh (qal HO1.o (qab W1 (.cells #[.int .u8 40] 5)));clear hs1;have hz4' := fun (w2 : World) (v1 : Value) (hR1 : RowS B (W1.alloc (.cells #[.int .u8 40] 5)) v N xs w2 v1 [40]) => hR1.cell (b := W.heap.size) (o := 4) (qaa (qab W1 (.cells #[.int .u8 40] 5)) y4) (fun e => by have := (qaw HO.o e).2; omega)
 have HZ4 := Zh hz4';clear hz4';subst hW1;go_enter Tryz.func88, Tryz.ntmps88
 go_wp2_with (at_builtin; refine wpList_append_byte rfl _ _ 57 rfl B i5 Tryz.underlying57 hi5 hz0 hz1 hz2 v N xs rfl HO1b.o ⟨W.heap.size + 1, 0, none⟩ 40 rfl ?b0 ?b1 ?b2 ?_)
 case b0 => simp [go_sem, u8v, Addr.add]
 case b1 => have := HNL.o; omega
 case b2 => have := HBB.o; simp; omega
 intro v1 w2 hR1;have hz4 := HZ4.o w2 v1 hR1;obtain ⟨V, hV, hRV, hVB⟩ : ∃ V : World, V.heap.size = W.heap.size + 1 /\ RowS B V v N xs w2 v1 [40] /\ Below W.heap.size W V := ⟨_, HS1.o, hR1.from_ (qab _ _), HB1.o⟩;have HV := Zh (aI hV hVB);have HR1 := Zh hRV;clear hR1 y4 HZ4 hV hRV hVB
 go_wp2_with fail
 go_loopg [0, 8, 9, 10] M (fun gk s0 s8 s9 s10 wx => ∃ (i : Nat) (f : Fo) (vv : Value), i + gk = M /\ s8 = .int .i64 (i : Int) /\ vv = s0 /\ Hid (∃ D : List UInt8, f.len = gk /\ RowS B V v N xs wx vv D /\ D ++ txtF (decide (i = 0)) f = T /\ f.size <= x.size /\ szB 65536 f /\ FoIn wx F f (pl q i) /\ wx.cell? ⟨W.heap.size, 4, none⟩ = some (.slice q M c) /\ OK = okF f))
 case atStart =>
  refine ⟨0, x, _, by omega, rfl, rfl, Zh ⟨[40], HI.o.1.symm, HR1.o, HI.o.2.2.1.symm, Nat.le_refl _, HI.o.2.2.2.2, qcd ((HR1.o.from_ HV.o.2).foIn HO.o HX.o.2 HX.o.1), hz4, HOK.o⟩⟩
 case round =>
  obtain ⟨i, f, vv, hk, rfl, rfl, HK⟩ := hrel;have HG := Zh hk;have hi2 : i <= M := by omega
  clear hk hz4;obtain ⟨wA, hwA⟩ : ∃ w, w = wr := ⟨_, rfl⟩;subst hwA;have i2 : (i : Int) <= (M : Int) := by omega
  obtain ⟨D, hf, hR, hD, hfs, hfz, hfx, hz4, hOK⟩ := HK.o;have HRW := Zh (hR.from_ HV.o.2);have hDl : D.length <= L := by rw [HI.o.2.2.2.1, <- hD]; simp
  have HHR := Zh hR;have hoA : wA.ownsRow B 5 1 vv (N + D.length) (xs ++ D.map u8v) := hR.1;have HOA := Zh hoA;have hBA : B <= wA.heap.size := Nat.le_trans HBB.o HRW.o.size;have HBA := Zh hBA
  have hne : vv.ownBlock ≠ some W.heap.size := fun e => by
   rcases hR.2.2 _ e with e2 | e2
   ·have := (qaw HO.o e2).2; omega
   ·have := HV.o.1; omega
  have HNE := Zh hne;have HZ := Zh hz4;clear hR hoA hBA HK hne
  by_cases hlt : i < M
  ·obtain ⟨G, rfl⟩ : ∃ G, gk = G + 1 := ⟨gk - 1, by have := HG.o; omega⟩
   have i0 : (0 : Int) <= (i : Int) := by omega
   have i3 : (i : Int) < (M : Int) := by omega
   obtain ⟨b, off, rfl⟩ : ∃ b off, q = some ⟨b, off, none⟩ := HX.o.1.some (by rw [<- HI.o.1]; omega)
   cases f with
   | nil => simp [Fo.len] at hf
   | cons l1 k1 s1 a1 x1 r1 =>
    obtain ⟨hbF, e0, e1, e2, e3, ⟨q3, cc3, e4, hc3, hm3, hx3⟩, hr3⟩ := hfx.head;have hDT : D ++ ((if decide (i = 0) = true then [] else [32]) ++ (txtT l1 k1 s1 x1 ++ txtF false r1)) = T := hD;have HDT := Zh hDT;have hok2 : OK = (okT l1 k1 s1 x1 && okF r1) := hOK;obtain ⟨hz1', hz2', hz3'⟩ := hfz;have HC := Zh (fun (w' : World) (v' : Value) (N' : Nat) (xs' : List Value) (h1 : FoIn w' F x1 q3) (h3 : w'.ownsRow B 5 1 v' N' xs') (h4 : B <= w'.heap.size) (h5 : N' + (txtT l1 k1 s1 x1).length <= 1099511627776) => IH.o x1.size (by have := HI.o.2.1; simp only [Fo.size] at hfs; omega) x1 (Nat.le_refl _) hz2' l1 k1 s1 a1 q3 cc3 w' F B N' v' xs' hz1' h1 HX.o.2 hc3 hm3 h3 h4 h5);have HS := Zh (show (r1.len = G /\ r1.size <= x.size /\ szB 65536 r1) from ⟨by simpa [Fo.len] using hf, by simp only [Fo.size] at hfs; omega, hz3'⟩);have HXX := Zh (aI hx3 hr3);obtain ⟨n3, hn3⟩ : ∃ n3, n3 = x1.len := ⟨_, rfl⟩;rw [<- hn3] at HC e4;obtain ⟨o1, ho1⟩ : ∃ o1, o1 = okT l1 k1 s1 x1 := ⟨_, rfl⟩;rw [<- ho1] at HC hok2;have HOK2 := Zh hok2;have HBF := Zh (HX.o.2 b hbF);clear hn3 hf hD hDT hfs hz1' hz2' hz3' hfx hx3 hr3 hc3 hm3 ho1 hok2 hOK hbF;unfold trV at HC
    by_cases hi0 : i = 0
    ·subst hi0
     simp only [Nat.zero_mul, Nat.add_zero] at e0 e1 e2 e3 e4;have hT3 : D ++ (txtT l1 k1 s1 x1 ++ txtF false r1) = T := by have := HDT.o; simpa using this
     have HT3 := Zh hT3;have HLT := Zh (show D.length + (txtT l1 k1 s1 x1).length <= L by rw [HI.o.2.2.2.1, <- hT3]; simp);have hC2 := HC.o wA vv (N + D.length) (xs ++ D.map u8v) HXX.o.1 HOA.o HBA.o (by have := HLT.o; have := HNL.o; omega);have HC2 := Zh hC2;clear hT3 hC2 HDT HC
     go_wp2_with fail
     refine HC2.o.mono ?_;rintro e w4 ⟨v3, rfl, hR3, hon⟩;have HON := Zh (HRW.o.only2 hon)
     cases o1 with
     | false =>
      clear hR3 hon
      go_wp2_with fail
      go_ret2
      exact ⟨vv, (by rw [HOK2.o] <;> rfl), (fun h => by rw [HOK2.o] at h; cases h), HON.o⟩
     | true =>
      have hR3 := hR3 rfl;have HR4 := Zh (HHR.o.trans hR3);have HFX := Zh (hR3.foIn HOA.o HX.o.2 HXX.o.2);have HZ4 := Zh (hR3.cell HZ.o HNE.o);clear hR3 hon
      go_wp2_with fail
      go_roundg G
      case measure => omega
      case rel =>
       refine ⟨1, r1, _, by have := HG.o; omega, by simp, rfl, Zh ⟨D ++ txtT l1 k1 s1 x1, HS.o.1, HR4.o, ?_, HS.o.2.1, HS.o.2.2, HFX.o, HZ4.o, by rw [HOK2.o]; simp⟩⟩;rw [List.append_assoc]; exact HT3.o
    ·have hi4 : (0 : Int) < (i : Int) := by omega
     have hi5' : 0 < i := by omega
     have hT3 : D ++ ([32] ++ (txtT l1 k1 s1 x1 ++ txtF false r1)) = T := by have := HDT.o; rw [if_neg (by simpa using hi0)] at this; exact this
     have HT3 := Zh hT3;have HLT := Zh (show D.length + 1 + (txtT l1 k1 s1 x1).length <= L by rw [HI.o.2.2.2.1, <- hT3]; simp; omega);clear hT3 HDT;have HO3 := Zh (qal HOA.o (qab wA (.cells #[.int .u8 32] 5)))
     have hkk := fun (v2 : Value) (w3 : World) (hR2 : RowS B (wA.alloc (.cells #[.int .u8 32] 5)) vv (N + D.length) (xs ++ D.map u8v) w3 v2 [32]) => (show (w3.cell? ⟨b, off + i * 5, none⟩ = some (.bool l1) /\ w3.cell? ⟨b, off + i * 5 + 1, none⟩ = some (.int .u8 k1) /\ w3.cell? ⟨b, off + i * 5 + 2, none⟩ = some (.string s1) /\ w3.cell? ⟨b, off + i * 5 + 3, none⟩ = some (.int .i64 a1) /\ w3.cell? ⟨b, off + i * 5 + 4, none⟩ = some (.slice q3 n3 cc3)) /\ RowS B wA vv (N + D.length) (xs ++ D.map u8v) w3 v2 [32] from
      have hR := hR2.from_ (qab wA _);have hne : vv.ownBlock ≠ some b := fun e => by have h1 := (qaw HOA.o e).1; have h2 := HBF.o; omega
      ⟨⟨hR.cell e0 hne, hR.cell e1 hne, hR.cell e2 hne, hR.cell e3 hne, hR.cell e4 hne⟩, hR⟩)
     have HKK := Zh hkk;clear hkk e0 e1 e2 e3 e4
     go_wp2_with (at_builtin; refine wpList_append_byte rfl _ _ 57 rfl B i5 Tryz.underlying57 hi5 hz0 hz1 hz2 vv (N + D.length) (xs ++ D.map u8v) rfl HO3.o ⟨wA.heap.size, 0, none⟩ 32 rfl ?c0 ?c1 ?c2 ?_)
     case c0 => simp [go_sem, u8v, Addr.add]
     case c1 => have := HNL.o; omega
     case c2 => have := HBA.o; simp; omega
     intro v2 w3 hR2;obtain ⟨⟨k0, k1', k2, k3, k4⟩, hR2b⟩ := HKK.o v2 w3 hR2;have HR2 := Zh hR2b;have hz5 := hR2b.cell HZ.o HNE.o
     have hne2 : v2.ownBlock ≠ some W.heap.size := fun e => by
      rcases hR2b.2.2 _ e with e2 | e2
      ·exact HNE.o e2
      ·have h1 := HHR.o.size; have := HV.o.1; omega
     have HNE2 := Zh hne2;have HZ5 := Zh hz5;have hC2 := HC.o w3 v2 (N + D.length + 1) (xs ++ D.map u8v ++ [u8v 32]) (hR2b.foIn HOA.o HX.o.2 HXX.o.1) hR2b.1 (Nat.le_trans HBA.o hR2b.size) (by have := HLT.o; have := HNL.o; omega);have HC2 := Zh hC2;clear hR2 hR2b hC2 HC HO3 HKK hne2 hz4
     go_wp2_with fail
     refine HC2.o.mono ?_;rintro e w4 ⟨v3, rfl, hR3, hon⟩;have HON := Zh ((HRW.o.trans HR2.o).only2 hon)
     cases o1 with
     | false =>
      clear hR3 hon
      go_wp2_with fail
      go_ret2
      exact ⟨v2, (by rw [HOK2.o] <;> rfl), (fun h => by rw [HOK2.o] at h; cases h), HON.o⟩
     | true =>
      have hR3 := hR3 rfl;have hR5 := HR2.o.trans hR3;have HR4 := Zh (HHR.o.trans hR5);have HFX := Zh (hR5.foIn HOA.o HX.o.2 HXX.o.2);have HZ4 := Zh (hR3.cell HZ5.o HNE2.o);clear hR3 hR5 hon
      go_wp2_with fail
      go_roundg G
      case measure => omega
      case rel =>
       obtain ⟨i', hi'⟩ : ∃ i', i' = i + 1 := ⟨_, rfl⟩;refine ⟨i', r1, _, by have := HG.o; omega, by rw [hi']; go_num, rfl, Zh ⟨D ++ ([32] ++ txtT l1 k1 s1 x1), HS.o.1, HR4.o, ?_, HS.o.2.1, HS.o.2.2, by rw [hi']; exact HFX.o, HZ4.o, by rw [HOK2.o]; simp⟩⟩;have h1 := HT3.o;rw [show decide (i' = 0) = false by simp; omega]
       simpa [List.append_assoc] using h1
  ·obtain rfl : i = M := by omega
   obtain rfl : gk = 0 := by have := HG.o; omega
   have hDT : D = T := by
    cases f with
    | cons => simp [Fo.len] at hf
    | nil => simpa [txtF] using hD
   have hO1 : OK = true := by
    cases f with
    | cons => simp [Fo.len] at hf
    | nil => exact hOK
   subst hDT;have HO4 := Zh (qal HOA.o (qab wA (.cells #[.int .u8 41] 5)));have HO1 := Zh hO1;clear hf hD hfs hfz hfx hOK hO1
   go_wp2_with (at_builtin; refine wpList_append_byte rfl _ _ 57 rfl B i5 Tryz.underlying57 hi5 hz0 hz1 hz2 vv (N + D.length) (xs ++ D.map u8v) rfl HO4.o ⟨wA.heap.size, 0, none⟩ 41 rfl ?d0 ?d1 ?d2 ?_)
   case d0 => simp [go_sem, u8v, Addr.add]
   case d1 => have := HNL.o; omega
   case d2 => have := HBA.o; simp; omega
   intro v2 w3 hR2;have HR2 := Zh (HRW.o.trans (hR2.from_ (qab wA _)));clear hR2
   go_wp2_with fail
   go_ret2
   exact ⟨v2, (by rw [HO1.o] <;> rfl), (fun _ => HR2.o), HR2.o.2.1⟩
theorem qqu (n : Nat) : qoy n := Nat.strongRecOn n fun n ih => qhw n ih
theorem qfw : ∀ (f : Fo) (b : Bool), szB 65536 f -> (txtF b f).length <= f.size * 200000
 | .nil, b, _ => by simp [txtF]
 | .cons l k s a x r, b, h => by
  have h1 := qfw x true h.2.1;have h2 := qfw r false h.2.2;have h3 := qbq k.toNat s.data.toList;have h4 : s.data.toList.length = s.size := by simp
  have h5 := h.1;simp only [txtF, List.length_append, Fo.size];have h6 : (if b then [] else [32] : List UInt8).length <= 1 := by cases b <;> simp
  cases l with
  | true => simp only [if_true, List.length_cons, List.length_append, List.length_nil]; omega
  | false => simp only [Bool.false_eq_true, if_false]; omega
theorem qk9 (l : Bool) (k : Int) (s : ByteArray) (x : Fo) (hs : s.size <= 65536) (hz : szB 65536 x) : (txtT l k s x).length <= (x.size + 1) * 200000 := by
 have h1 := qfw x true hz;have h3 := qbq k.toNat s.data.toList;have h4 : s.data.toList.length = s.size := by simp
 unfold txtT
 cases l with
 | true => simp only [if_true, List.length_cons, List.length_append, List.length_nil]; omega
 | false => simp only [Bool.false_eq_true, if_false]; omega
theorem text30 (l : Bool) (k : Int) (s : ByteArray) (a : Int) (q : Option Addr) (c : Nat) (x : Fo) (W : World) (F0 : Nat -> Prop) (hx0 : FoIn W F0 x q) (hc : x.len <= c) (hn : x.len <= 281474976710656) (hs : s.size <= 65536) (hz : szB 65536 x) (hsz : x.size <= 1000000) :
  Calls Tryz.prog 59 #[trV l k s a q x.len c] W (qsa l k s x W) := by
 have hx : FoIn W (fun b => b < W.heap.size) x q := hx0.mono (fun b _ hb => hb);have htb := qk9 l k s x hs hz;have hw := qqu x.size x (Nat.le_refl _) hz l k s a q c (W.alloc (.cells #[.bool l, .int .u8 k, .string s, .int .i64 a, .slice q x.len c] 35)) (fun b => b < W.heap.size) W.heap.size 0 (.slice none 0 0) [] hs (hx.later (qab _ _)) (fun b h => h) hc hn (World.ownsRow_nil _ _ _ _) (by simp) (by omega);have hd := fun (w : World) (h : Below W.heap.size W w) => qrx l k s a q c x w _ (hx.later h) hc hn
 obtain ⟨T, hT⟩ : ∃ T, T = txtT l k s x := ⟨_, rfl⟩;obtain ⟨OK, hOK⟩ : ∃ OK, OK = okT l k s x := ⟨_, rfl⟩;obtain ⟨DP, hDP⟩ : ∃ DP, DP = depT l x 201 := ⟨_, rfl⟩;have hR : textR l k s x = if OK = false then ([], 5) else if 200 < DP then ([], 40) else if 1048576 < T.length then ([], 3) else (T, 0) := by rw [hT, hOK, hDP]; rfl
 have hdl : DP <= 201 := by rw [hDP]; exact qhr _ _ _
 have htl : T.length <= 1099511627776 := by rw [hT]; omega
 rw [<- hT, <- hOK] at hw;rw [<- hDP] at hd;unfold qsa;obtain ⟨M, hM⟩ : ∃ M, M = x.len := ⟨_, rfl⟩;rw [<- hM] at hw hd hn ⊢;unfold trV at hw hd ⊢;obtain ⟨R, hRR⟩ : ∃ R, R = textR l k s x := ⟨_, rfl⟩;rw [<- hRR];have HR := Zh (hRR.trans hR);clear hRR;have HWR := Zh hw;have HD := Zh hd;have i1 : (M : Int) <= 281474976710656 := by omega
 have i2 : (DP : Int) <= 201 := by omega
 obtain ⟨TL, hTL⟩ : ∃ TL, TL = T.length := ⟨_, rfl⟩;rw [<- hTL] at htl;have HTL := Zh hTL;have i3 : (TL : Int) <= 1099511627776 := by omega
 clear hx0 hx htb hw hd hT hOK hDP hR hM hTL hs hz hsz hc;go_enter Tryz.func59, Tryz.ntmps59
 go_wp2_with fail
 refine HWR.o.mono ?_;rintro e w2 ⟨v', rfl, hrow, hon⟩;have hb2 : Below (W.alloc (.cells #[.bool l, .int .u8 k, .string s, .int .i64 a, .slice q M c] 35)).heap.size (W.alloc (.cells #[.bool l, .int .u8 k, .string s, .int .i64 a, .slice q M c] 35)) w2 := hon.below (fun k h => by cases h) (Nat.le_refl _);have HB2 := Zh ((qab W (.cells #[.bool l, .int .u8 k, .string s, .int .i64 a, .slice q M c] 35)).trans (hb2.mono (by simp)));have x0 : w2.cell? ⟨W.heap.size, 0, none⟩ = some (.bool l) := qaa hb2 (by simp [go_sem]);have x1 : w2.cell? ⟨W.heap.size, 1, none⟩ = some (.int .u8 k) := qaa hb2 (by simp [go_sem]);have x2 : w2.cell? ⟨W.heap.size, 2, none⟩ = some (.string s) := qaa hb2 (by simp [go_sem]);have x3 : w2.cell? ⟨W.heap.size, 3, none⟩ = some (.int .i64 a) := qaa hb2 (by simp [go_sem]);have x4 : w2.cell? ⟨W.heap.size, 4, none⟩ = some (.slice q M c) := qaa hb2 (by simp [go_sem]);clear hb2 hon HWR
 cases OK with
 | false =>
  clear hrow
  go_wp2_with fail
  go_ret2
  exact ⟨_, _, rfl, (by rw [HR.o]; rfl), HB2.o⟩
 | true =>
  have hrow := (hrow rfl).1;simp only [Nat.zero_add, List.nil_append] at hrow;obtain ⟨p, c', rfl, _⟩ := qaq hrow;have hby := qig hrow;rw [<- HTL.o] at hby ⊢;have HBY := Zh hby.2
  clear hrow hby
  go_wp2_with fail
  refine (HD.o _ HB2.o).mono ?_;rintro e w3 ⟨rfl, hb3⟩;have hcv := qk2 w3 p c' T (HBY.o.later hb3);have HB3 := Zh (HB2.o.trans (hb3.mono HB2.o.size));clear hb3 x0 x1 x2 x3 x4 HBY HD;rw [<- HTL.o] at hcv
  by_cases hd : 200 < DP
  ·have j1 : (200 : Int) < (DP : Int) := by omega
   clear hcv
   go_wp2_with fail
   go_ret2
   exact ⟨_, _, rfl, (by rw [HR.o, if_neg (by decide), if_pos hd] <;> rfl), HB3.o⟩
  ·have j1 : ¬ (200 : Int) < (DP : Int) := by omega
   have j2 : decide (200 < DP) = false := by simp; omega
   by_cases ht : 1048576 < TL
   ·have j3 : (1048576 : Int) < (TL : Int) := by omega
    clear hcv
    go_wp2_with fail
    go_ret2
    exact ⟨_, _, rfl, (by rw [HR.o, if_neg (by decide), if_neg hd, if_pos (by rw [<- HTL.o]; exact ht)] <;> rfl), HB3.o⟩
   ·have j3 : ¬ (1048576 : Int) < (TL : Int) := by omega
    have j4 : decide (1048576 < TL) = false := by simp; omega
    go_wp2_with fail
    go_ret2
    exact ⟨_, _, rfl, (by rw [HR.o, if_neg (by decide), if_neg hd, if_neg (by rw [<- HTL.o]; exact ht)]), HB3.o⟩
def FolR (r : List UInt8) : Prop := r = [] \/ ∃ c r', r = c :: r' /\ syB c = false /\ c ≠ 34
theorem FolR.tw {r : List UInt8} (h : FolR r) : r.takeWhile syB = [] := by
 rcases h with rfl | ⟨c, r', rfl, h⟩
 ·rfl
 ·simp [h.1]
theorem qfv {w r : List UInt8} (hw : w.all syB = true) (h : FolR r) : qas (w ++ r) = w := by
 unfold qas;rw [List.takeWhile_append_of_pos (by simpa using hw), h.tw, List.append_nil]
theorem qhk : ∀ (t acc : List UInt8) (i : Nat) (r : List UInt8), t.all txB = true -> FolR r -> lit false acc i (dblL t ++ 34 :: r) = .tok 5 (acc ++ t) (i + (dblL t).length + 1)
 | [], acc, i, r, _, h => by
  have h34 : txB 34 = true := by decide
  simp only [dblL, List.nil_append, lit, h34];rcases h with rfl | ⟨c, r', rfl, hc⟩
  ·simp [lit]
  ·simp [lit, hc.2]
 | c :: t, acc, i, r, h, hr => by
  simp only [List.all_cons, Bool.and_eq_true] at h;simp only [dblL]
  split
  ·rename_i hc
   have hc : c = 34 := by simpa using hc
   subst hc;have h34 : txB 34 = true := by decide
   simp only [List.cons_append, lit, h34];simp only [Bool.not_true, Bool.false_eq_true, if_false, beq_self_eq_true, if_true];rw [qhk t _ _ r h.2 hr]; simp; omega
  ·rename_i hc
   simp only [List.cons_append, lit];rw [if_neg (by simp [h.1]), if_neg hc, qhk t _ _ r h.2 hr]; simp; omega
theorem qij {w r : List UInt8} (hw : w.all syB = true) (hne : w ≠ []) (hr : FolR r) : oneR (w ++ r) = qba w := by
 cases w with
 | nil => exact absurd rfl hne
 | cons c w =>
  have hc : syB c = true := by simp at hw; exact hw.1
  have h := qdt c hc;have hw2 := qfv hw hr;simp only [List.cons_append] at hw2 ⊢;simp only [oneR, hw2];simp [h, hc]
theorem qnk {k : Nat} {t r : List UInt8} (h : GoodT k t) (hr : k = 1 \/ k = 2 \/ FolR r) : oneR (qaj k t ++ r) = .tok k t (qaj k t).length := by
 cases h with
 | op => rfl
 | cl => rfl
 | sym h =>
  by_cases hp : qbg t = true
  ·have hw := qgn hp
   simp only [qaj, hp];simp only [beq_self_eq_true, if_true];rw [qij hw.1 hw.2.1 (by simpa using hr), hw.2.2]
  ·have h : t.all inB = true := h.resolve_left hp
   simp only [qaj, hp];have := qjg t [] r h
   simp [oneR, this]
 | str h =>
  have := qhk t [] 1 r h (by simpa using hr)
  simp [qaj, oneR, this]; omega
 | key h hne =>
  have := qfv h (show FolR r by simpa using hr)
  simp [qaj, oneR, this, keyR, hne]
 | num hk h hne hp hd =>
  have : qaj k t = t := by rcases hk with rfl | rfl <;> rfl
  rw [this, qij h hne (by rcases hk with rfl | rfl <;> simpa using hr), hp]
 | @bas w h hb =>
  have hw := qfv h (show FolR r by simpa using hr);have : qaj 7 (35 :: w) = 35 :: w := rfl;rw [this];simp only [List.cons_append, oneR, hw, hb];simp
theorem qg3 {k : Nat} {t : List UInt8} (h : GoodT k t) {b : List UInt8} {at_ : Nat} {pre rest : List UInt8} {l : List Tk} {p e : Nat} (hpre : pre = [] \/ pre = [32]) (hb : b.drop at_ = pre ++ (qaj k t ++ rest)) (hr : k = 1 \/ k = 2 \/ FolR rest)
  (ht : Toks b (at_ + pre.length + (qaj k t).length) l p e) : Toks b at_ (⟨k, t, at_ + pre.length⟩ :: l) p e := by
 have hk : qav false (b.drop at_) = pre.length := by
  have h1 := qiw (qia h) rest;rw [hb];rcases hpre with rfl | rfl
  ·simpa using h1
  ·simp only [List.cons_append, List.nil_append, List.length_cons, List.length_nil]
   rw [show qav false (32 :: (qaj k t ++ rest)) = 1 + qav false (qaj k t ++ rest) by simp [qav, spB], h1]
 have ho := qnk h hr;have hn := qnl ho;have hlen : (b.drop at_).length = (pre ++ (qaj k t ++ rest)).length := by rw [hb]
 simp only [List.length_drop, List.length_append] at hlen;have hd : b.drop (at_ + pre.length) = qaj k t ++ rest := by rw [<- List.drop_drop, hb, List.drop_left]
 have := Toks.step (b := b) (at_ := at_) (k := k) (n := (qaj k t).length) (t := t) (l := l) (p := p) (e := e) (by rw [hk]; omega) (by rw [hk, hd]; exact ho) (by rw [hk]; exact ht);rw [hk] at this; exact this
def lvF : Fo -> List (Nat × List UInt8)
 | .nil => []
 | .cons l k s _ x r => (if l then (1, [40]) :: (lvF x ++ [(2, [41])]) else [(k.toNat, s.data.toList)]) ++ lvF r
theorem qrs (r : Fo) {rest : List UInt8} (h : FolR rest) : FolR (txtF false r ++ rest) := by
 cases r with
 | nil => simpa [txtF] using h
 | cons l k s a x r => exact .inr ⟨32, _, rfl, by decide, by decide⟩
theorem qh4 : ∀ (f : Fo) (b0 : Bool), okF f = true -> ∀ (b : List UInt8) (at_ : Nat) (rest : List UInt8) (l : List Tk) (p e : Nat), b.drop at_ = txtF b0 f ++ rest -> FolR rest -> Toks b (at_ + (txtF b0 f).length) l p e →
  ∃ l' : List Tk, Toks b at_ (l' ++ l) p e /\ l'.map (fun t => (t.kind, t.text)) = lvF f
 | .nil, b0, _, b, at_, rest, l, p, e, _, _, ht => ⟨[], by simpa [txtF] using ht, rfl⟩
 | .cons true k s a x r, b0, ho, b, at_, rest, l, p, e, hb, hr, ht => by
  simp only [okF, if_true, Bool.and_eq_true] at ho;obtain ⟨pre, hp⟩ : ∃ pre, pre = (if b0 then [] else [32] : List UInt8) := ⟨_, rfl⟩;have hpre : pre = [] \/ pre = [32] := by rw [hp]; cases b0 <;> simp
  have hT : txtF b0 (.cons true k s a x r) = pre ++ (40 :: (txtF true x ++ (41 :: txtF false r))) := by rw [hp]; simp [txtF]
  rw [hT] at hb ht;simp only [List.length_append, List.length_cons] at ht;have hb1 : b.drop at_ = pre ++ (qaj 1 [40] ++ (txtF true x ++ (41 :: (txtF false r ++ rest)))) := by rw [hb]; simp [qaj]
  have hd1 : b.drop (at_ + pre.length + 1) = txtF true x ++ (41 :: (txtF false r ++ rest)) := by
   rw [Nat.add_assoc, <- List.drop_drop, hb1, <- List.drop_drop, List.drop_left]; rfl
  have hd2 : b.drop (at_ + pre.length + 1 + (txtF true x).length) = [] ++ (qaj 2 [41] ++ (txtF false r ++ rest)) := by
   rw [<- List.drop_drop, hd1, List.drop_left]; rfl
  have hd3 : b.drop (at_ + pre.length + 1 + (txtF true x).length + 1) = txtF false r ++ rest := by
   rw [<- List.drop_drop, hd2]; rfl
  obtain ⟨l3, t3, m3⟩ := qh4 r false ho.2 b (at_ + pre.length + 1 + (txtF true x).length + 1) rest l p e hd3 hr (by
   have e : at_ + pre.length + 1 + (txtF true x).length + 1 + (txtF false r).length = at_ + (pre.length + ((txtF true x).length + ((txtF false r).length + 1) + 1)) := by omega
   rw [e]; exact ht)
  have t2 := qg3 GoodT.cl (.inl rfl) hd2 (.inr (.inl rfl)) (by simpa [qaj] using t3);obtain ⟨l1, t1, m1⟩ := qh4 x true ho.1.2 b (at_ + pre.length + 1) (41 :: (txtF false r ++ rest)) _ p e hd1 (.inr ⟨41, _, rfl, by decide, by decide⟩) t2;have t0 := qg3 GoodT.op hpre hb1 (.inl rfl) (by simpa [qaj] using t1);refine ⟨⟨1, [40], at_ + pre.length⟩ :: (l1 ++ (⟨2, [41], _⟩ :: l3)), by simpa using t0, ?_⟩
  simp [lvF, m1, m3]
 | .cons false k s a x r, b0, ho, b, at_, rest, l, p, e, hb, hr, ht => by
  simp only [okF, Bool.false_eq_true, if_false, Bool.and_eq_true] at ho;have hg := (readB_iff.1 ho.1.2).1;obtain ⟨pre, hp⟩ : ∃ pre, pre = (if b0 then [] else [32] : List UInt8) := ⟨_, rfl⟩;have hpre : pre = [] \/ pre = [32] := by rw [hp]; cases b0 <;> simp
  have hT : txtF b0 (.cons false k s a x r) = pre ++ (qaj k.toNat s.data.toList ++ txtF false r) := by rw [hp]; simp [txtF]
  rw [hT] at hb ht;simp only [List.length_append] at ht;have hb1 : b.drop at_ = pre ++ (qaj k.toNat s.data.toList ++ (txtF false r ++ rest)) := by rw [hb]; simp
  have hd1 : b.drop (at_ + pre.length + (qaj k.toNat s.data.toList).length) = txtF false r ++ rest := by
   rw [Nat.add_assoc, <- List.drop_drop, hb1, <- List.drop_drop, List.drop_left, List.drop_left]
  obtain ⟨l3, t3, m3⟩ := qh4 r false ho.2 b _ rest l p e hd1 hr (by
   have e : at_ + pre.length + (qaj k.toNat s.data.toList).length + (txtF false r).length = at_ + (pre.length + ((qaj k.toNat s.data.toList).length + (txtF false r).length)) := by omega
   rw [e]; exact ht)
  have t0 := qg3 hg hpre hb1 (.inr (.inr (qrs r hr))) t3;exact ⟨⟨k.toNat, s.data.toList, at_ + pre.length⟩ :: l3, by simpa using t0, by simp [lvF, m3]⟩
def keyA (t : TkA) : Int × List UInt8 := (t.k, t.s.data.toList)
def keyL (x : Nat × List UInt8) : Int × List UInt8 := ((x.1 : Int), x.2)
theorem qk5 {s s' : ByteArray} (h : s.data.toList = s'.data.toList) : s = s' := by
 apply ByteArray.ext
 exact Array.toList_inj.1 h
theorem qpc : ∀ (f : Fo), okF f = true -> ∀ (L : List TkA), L.map keyA = (lvF f).map keyL -> ∃ g, Rd L g /\ qbv f g = true /\ g.len = f.len
 | .nil, _, L, h => by
  obtain rfl : L = [] := by simpa [lvF] using h
  exact ⟨.nil, .nil, rfl, rfl⟩
 | .cons true k s a x r, ho, L, h => by
  simp only [okF, if_true, Bool.and_eq_true, decide_eq_true_eq] at ho;obtain ⟨⟨⟨hk, hs⟩, hx⟩, hr⟩ := ho;simp only [lvF, if_true, List.cons_append, List.append_assoc, List.map_cons, List.map_append, List.nil_append] at h
  cases L with
  | nil => simp at h
  | cons t L =>
   simp only [List.map_cons, List.cons.injEq] at h;obtain ⟨ht, h⟩ := h;obtain ⟨L1, L2, rfl, h1, h2⟩ := List.map_eq_append_iff.1 h
   cases L2 with
   | nil => simp at h2
   | cons c L2 =>
    simp only [List.map_cons, List.cons.injEq] at h2;obtain ⟨hc, h2⟩ := h2;obtain ⟨g, r1, s1, n1⟩ := qpc x hx L1 h1;obtain ⟨g2, r2, s2, n2⟩ := qpc r hr L2 h2;simp only [keyA, keyL, Prod.mk.injEq] at ht hc;have htk : t.k = 1 := ht.1;have hts : t.s = ⟨#[40]⟩ := qk5 ht.2;have hck : c.k = 2 := hc.1;refine ⟨.cons true t.k t.s t.a g g2, .list htk hck r1 r2, ?_, by simp only [Fo.len, n2]⟩
    simp [qbv, hk, hs, htk, hts, n1, s1, s2]
 | .cons false k s a x r, ho, L, h => by
  simp only [okF, Bool.false_eq_true, if_false, Bool.and_eq_true, decide_eq_true_eq] at ho;obtain ⟨⟨hx, hk⟩, hr⟩ := ho;have hk3 := (readB_iff.1 hk).2;have hx0 := qb9 hx;subst hx0;simp only [lvF, Bool.false_eq_true, if_false, List.cons_append, List.nil_append, List.map_cons] at h
  cases L with
  | nil => simp at h
  | cons t L =>
   simp only [List.map_cons, List.cons.injEq] at h;obtain ⟨ht, h⟩ := h;obtain ⟨g2, r2, s2, n2⟩ := qpc r hr L h;simp only [keyA, keyL, Prod.mk.injEq] at ht;have htk : t.k = k := by rw [ht.1]; omega
   have hts : t.s = s := qk5 ht.2;refine ⟨.cons false t.k t.s t.a .nil g2, .leaf (by omega) (by omega) r2, ?_, by simp only [Fo.len, n2]⟩;simp [qbv, htk, hts, s2]
def dpF : Fo -> Nat
 | .nil => 0
 | .cons l _ _ _ x r => max (if l then dpF x + 1 else 0) (dpF r)
theorem qhs : ∀ (f : Fo) (m : Nat), depF f m = min (dpF f) m
 | .nil, m => by simp [depF, dpF]
 | .cons l k s a x r, m => by
  simp only [depF, dpF, qhs x, qhs r];cases l <;> by_cases h : 0 < m <;> simp [h] <;> omega
theorem qhq : ∀ (f g : Fo), qbv f g = true -> dpF g = dpF f
 | .nil, .nil, _ => rfl
 | .nil, .cons _ _ _ _ _ _, h => by simp [qbv] at h
 | .cons _ _ _ _ _ _, .nil, h => by simp [qbv] at h
 | .cons l k s a x r, .cons l' k' s' a' x' r', h => by
  simp only [qbv, Bool.and_eq_true, decide_eq_true_eq] at h;obtain ⟨⟨⟨⟨⟨rfl, _⟩, _⟩, _⟩, h1⟩, h2⟩ := h;simp only [dpF, qhq x x' h1, qhq r r' h2]
theorem qrk {x : List TkA} {g : Fo} (h : Rd x g) : ∀ (o top : Int) (r : List TkA), o <= top -> qcg (x ++ r) o top = qcg r o (max top (o + (dpF g : Int))) := by
 induction h with
 | nil => intro o top r ho; simp only [List.nil_append, dpF]; congr 1; omega
 | @leaf t r' f h1 h2 _ ih =>
  intro o top r ho;rw [List.cons_append, qcg, qd5 h1 h2, if_neg h1, if_neg (by omega), ih o top r ho]
  simp [dpF]
 | @list t c x r' g f h1 h2 _ _ ih1 ih2 =>
  intro o top r ho;have e1 : opn c (o + 1) = o := by rw [qe2 h2]; omega
  have hc : ¬ c.k = 1 := by omega
  rw [List.cons_append, qcg, qe3 h1, if_pos h1, List.append_assoc, ih1 (o + 1) _ _ (by split <;> omega), List.cons_append, qcg, e1, if_neg hc, ih2 o _ r (by split <;> omega)]
  congr 1
  simp only [dpF, if_true]
  split <;> split <;> omega
theorem qpo {u : List TkA} {b : Bool} {k : Int} {s : ByteArray} {a : Int} {g : Fo} (h : One u b k s a g) : qcg u 0 0 = (if b then (dpF g : Int) + 1 else 0) := by
 cases h with
 | leaf h1 h2 => rw [qcg, qd5 h1 h2, if_neg h1, qcg]; simp
 | @list t c x g h1 h2 h3 =>
  rw [qcg, qe3 h1, if_pos h1, qrk h3 _ _ _ (by split <;> omega), qcg, qcg];have hc : ¬ c.k = 1 := by omega
  rw [if_neg hc];simp only [if_true]
  split <;> split <;> omega
theorem depT_le200 {l : Bool} {x : Fo} : depT l x 201 <= 200 ↔ (if l then (dpF x : Int) + 1 else 0) <= 200 := by
 unfold depT;rw [qhs];cases l <;> simp; omega
theorem qrj {l : Bool} {k : Int} {s : ByteArray} {a : Int} {x : Fo} (ho : okT l k s x = true) (hd : depT l x 201 <= 200) {L : List TkA} (hL : L.map keyA = (lvF (.cons l k s a x .nil)).map keyL) :
  ∃ k' s' a' g, NextO L 0 l k' s' a' g (L.length : Int) 0 /\ qdu l k s x l k' s' g = true /\ g.len = x.len := by
 have hF : okF (.cons l k s a x .nil) = true := by
  rw [okF]; unfold okT at ho;rw [ho]; rfl
 obtain ⟨g, hr, hs, hn⟩ := qpc _ hF L hL
 cases g with
 | nil => simp [Fo.len] at hn
 | cons l' k' s' a' g r =>
  simp only [qbv, Bool.and_eq_true, decide_eq_true_eq] at hs;obtain ⟨⟨⟨⟨⟨hl, hk⟩, hs'⟩, hlen⟩, h1⟩, h2⟩ := hs;subst hl;have hr0 : r = .nil := by simp [Fo.len] at hn; exact qb9 hn
  subst hr0;obtain ⟨u, z, hu, hpos, hone, hz, hend⟩ := hr.first
  have hz0 : z = [] := by
   generalize hf : Fo.nil = f0 at hz
   cases hz with
   | nil => rfl
   | leaf => cases hf
   | list => cases hf
  subst hz0;rw [List.append_nil] at hu;subst hu;have hE := hend [] 0;rw [List.append_nil, Nat.zero_add] at hE;have hm := qpo hone;have hdp : dpF g = dpF x := qhq x g h1;refine ⟨k', s', a', g, ?_, by simp [qdu, hk, hs', hlen, h1], hlen.symm⟩
  cases L with
  | nil => simp at hpos
  | cons t L =>
   have h2k : t.k ≠ 2 := by
    cases hone with
    | leaf _ h => exact h
    | list h => omega
   have ht : (t :: L).take ((t :: L).length - 0) = t :: L := by rw [Nat.sub_zero, List.take_length]
   refine NextO.ok (i := 0) (n := (t :: L).length) (t := t) (r := L) rfl h2k hE ?_ (by rw [ht]; exact hone);rw [ht, hm, hdp];have := depT_le200.1 hd;omega
theorem qrl {L : List Tk} {f : Fo} (h : L.map (fun t => (t.kind, t.text)) = lvF f) : (L.map toA).map keyA = (lvF f).map keyL := by
 rw [<- h, List.map_map, List.map_map]
 apply List.map_congr_left
 intro t _
 rfl
theorem text_back {l : Bool} {k : Int} {s : ByteArray} {a : Int} {x : Fo} (ho : okT l k s x = true) (hd : depT l x 201 <= 200) (b0 : Bool) {B : List UInt8} (hB : B = txtT l k s x /\ b0 = true \/ B = 32 :: (txtT l k s x ++ [10]) /\ b0 = false) :
  ∃ L p, Toks B 0 L p 0 /\ ∃ k' s' a' g, NextO (L.map toA) 0 l k' s' a' g ((L.map toA).length : Int) 0 /\ qdu l k s x l k' s' g = true /\ g.len = x.len := by
 have hF : okF (.cons l k s a x .nil) = true := by
  rw [okF]; unfold okT at ho;rw [ho]; rfl
 have hX : ∀ b0, txtF b0 (.cons l k s a x .nil) = (if b0 then [] else [32]) ++ txtT l k s x := by
  intro b0; simp only [txtF, txtT, List.append_nil]
 have key : ∃ L p, Toks B 0 L p 0 /\ L.map (fun t => (t.kind, t.text)) = lvF (.cons l k s a x .nil) := by
  rcases hB with ⟨hB, rfl⟩ | ⟨hB, rfl⟩
  ·have e := hX true
   simp only [if_true, List.nil_append] at e;obtain ⟨L, h1, h2⟩ := qh4 (.cons l k s a x .nil) true hF B 0 [] [] B.length 0 (by rw [e, hB]; simp) (.inl rfl) (by rw [e, hB]; exact Toks.done (by rw [Nat.zero_add, List.drop_length]; simp [qav]));exact ⟨L, _, by simpa using h1, h2⟩
  ·have e := hX false
   simp only [Bool.false_eq_true, if_false, List.cons_append, List.nil_append] at e;have hlen : B.length = (32 :: txtT l k s x).length + 1 := by rw [hB]; simp
   have hdr : B.drop (32 :: txtT l k s x).length = [10] := by rw [hB, show (32 :: (txtT l k s x ++ [10]) : List UInt8) = (32 :: txtT l k s x) ++ [10] from rfl, List.drop_left]
   obtain ⟨L, h1, h2⟩ := qh4 (.cons l k s a x .nil) false hF B 0 [10] [] B.length 0 (by rw [e, hB]; simp) (.inr ⟨10, [], rfl, by decide, by decide⟩) (by
    rw [e, Nat.zero_add]
    exact Toks.done (by rw [hdr, hlen]; exact Nat.le_refl _))
   exact ⟨L, _, by simpa using h1, h2⟩
 obtain ⟨L, p, h1, h2⟩ := key;exact ⟨L, p, h1, qrj (a := a) ho hd (qrl h2)⟩
def wtA : List TkA -> Nat
 | [] => 0
 | t :: l => 2 * t.s.size + 3 + wtA l
theorem toks_wt {b : List UInt8} {at_ : Nat} {l : List Tk} {p e : Nat} (h : Toks b at_ l p e) : wtA (l.map toA) <= 5 * (b.length - at_) := by
 induction h with
 | done _ => simp [wtA]
 | bad _ _ => simp [wtA]
 | @step at_ k n p e t l h1 h2 h3 ih =>
  have hn := qnl h2;have hl := hn.2.1;rw [List.length_drop] at hl;simp only [List.map_cons, wtA];have : (toA ⟨k, t, at_ + qav false (b.drop at_)⟩).s.size = t.length := by simp [toA, ByteArray.size]
  rw [this];omega
theorem wtA_length : ∀ (l : List TkA), 3 * l.length <= wtA l
 | [] => Nat.le_refl _
 | u :: l => by have := wtA_length l; simp only [wtA, List.length_cons]; omega
end Go.Proofs.YtookoagcmejkpaaGreatDoor.Lx
