/- A reader in memory; skip. word, all. all. quoted. literal. strings.Cut at a point. plain: words and numbers. keyword, based. -/
import Derived.Test.YtdompkenblnjjaaGreatJP
import Derived.Test.YtdompkenblnjjaaGreatM0
import Derived.Deep.RegionHeld3
import Derived.Lib.Bytealg
namespace Go.Proofs.YtdompkenblnjjaaGreat
open Go Go.RowKit

/-- a reader: its struct in block R: the bytes, the place, the classes. -/
structure RdAt (W : World) (R : Nat) (p : Option Addr) (c : Nat) (bs : List UInt8) (a : Nat) : Prop where
  cb : W.cell? ⟨R, 0, none⟩ = some (.slice p bs.length c)
  ca : W.cell? ⟨R, 1, none⟩ = some (.int .i64 (a : Int))
  cl : ∀ b : UInt8, W.cell? ⟨R, 2 + b.toNat, none⟩ = some (.int .u8 (clB b : Int))
  fz : W.frozen? ⟨R, 1, none⟩ = false
  bi : BytesIn W p bs
  ne : 0 < bs.length → ∀ b off, p = some ⟨b, off, none⟩ → b ≠ R
  hl : R < W.heap.size
  hn : bs.length ≤ 1048576
  hk : bs.length ≤ c
  ha : a ≤ bs.length
section
variable {W W' : World} {R : Nat} {p : Option Addr} {c : Nat} {bs : List UInt8} {a : Nat}
set_option maxRecDepth 100000 in
theorem RdAt.only {T : Nat → Prop} (h : RdAt W R p c bs a) (ho : Only T W W') (h1 : ¬ T R) (h2 : 0 < bs.length → ∀ b off, p = some ⟨b, off, none⟩ → ¬ T b) : RdAt W' R p c bs a :=
  ⟨ho.cell h.cb h1, ho.cell h.ca h1, fun b => ho.cell (h.cl b) h1, by rw [ho.frozen h.hl h1]; exact h.fz, h.bi.only ho h2, h.ne, Nat.lt_of_lt_of_le h.hl ho.size, h.hn, h.hk, h.ha⟩
set_option maxRecDepth 100000 in
theorem RdAt.later (h : RdAt W R p c bs a) (hb : Below W.heap.size W W') : RdAt W' R p c bs a :=
  h.only (Only.of_below (T := fun _ => False) hb) (fun h => h) (fun _ _ _ _ h => h)
set_option maxRecDepth 100000 in
theorem RdAt.set (h : RdAt W R p c bs a) {v : Int} {a' : Nat} (hv : v = (a' : Int)) (ha : a' ≤ bs.length) : RdAt (W.setCell ⟨R, 1, none⟩ (.int .i64 v)) R p c bs a' := by
  subst hv
  have hs := Only.of_setCell W ⟨R, 1, none⟩ (.int .i64 (a' : Int))
  have far : ∀ o v, o ≠ 1 → W.cell? ⟨R, o, none⟩ = some v → (W.setCell ⟨R, 1, none⟩ (.int .i64 (a' : Int))).cell? ⟨R, o, none⟩ = some v := fun o v h3 h4 => by
    rw [World.cell?_setCell_other _ _ _ _ (by intro e; cases e; exact h3 rfl)]; exact h4
  exact ⟨far 0 _ (by omega) h.cb, World.cell?_setCell_same _ _ _ h.ca, fun b => far _ _ (by omega) (h.cl b), by rw [World.frozen?_setCell]; exact h.fz,
    h.bi.only hs h.ne, h.ne, by rw [World.size_setCell]; exact h.hl, h.hn, h.hk, ha⟩
set_option maxRecDepth 100000 in
theorem only_set (W : World) (R o : Nat) (v : Value) : Only (· = R) W (W.setCell ⟨R, o, none⟩ v) := Only.of_setCell W ⟨R, o, none⟩ v
end
set_option maxRecDepth 100000 in
/-- a byte's class and a mask -/
theorem and_all (m : Nat) (f : UInt8 → Bool) (h : (List.range 256).all (fun n => (bits BinOp.and IntKind.u8 (clB (UInt8.ofNat n) : Int) (m : Int) != 0) == f (UInt8.ofNat n)) = true) (c : UInt8) : (bits BinOp.and IntKind.u8 (clB c : Int) (m : Int) != 0) = f c := by
  have := u8_all (p := fun c => (bits BinOp.and IntKind.u8 (clB c : Int) (m : Int) != 0) == f c) h c
  exact eq_of_beq this
set_option maxRecDepth 100000 in
theorem and1 (c : UInt8) : (bits BinOp.and IntKind.u8 (clB c : Int) 1 != 0) = spB c := and_all 1 spB (by decide +kernel) c
set_option maxRecDepth 100000 in
theorem and2 (c : UInt8) : (bits BinOp.and IntKind.u8 (clB c : Int) 2 != 0) = syB c := and_all 2 syB (by decide +kernel) c
set_option maxRecDepth 100000 in
theorem and4 (c : UInt8) : (bits BinOp.and IntKind.u8 (clB c : Int) 4 != 0) = dgB c := and_all 4 dgB (by decide +kernel) c
set_option maxRecDepth 100000 in
theorem and8 (c : UInt8) : (bits BinOp.and IntKind.u8 (clB c : Int) 8 != 0) = hxB c := and_all 8 hxB (by decide +kernel) c
set_option maxRecDepth 100000 in
theorem and16 (c : UInt8) : (bits BinOp.and IntKind.u8 (clB c : Int) 16 != 0) = txB c := and_all 16 txB (by decide +kernel) c
set_option maxRecDepth 100000 in
theorem not_ne {x : Int} {b : Bool} (h : (x != 0) = b) : (x == 0) = !b := by rw [← h, bne, Bool.not_not]
set_option maxRecDepth 100000 in
theorem cl_lt (c : UInt8) : clB c < 32 := by
  have := u8_all (p := fun c => decide (clB c < 32)) (by decide +kernel) c
  simpa using this
set_option maxRecDepth 100000 in
theorem drop_at {bs : List UInt8} {a : Nat} (h : a < bs.length) : bs.drop a = bs[a] :: bs.drop (a + 1) := List.drop_eq_getElem_cons h

end Go.Proofs.YtdompkenblnjjaaGreat
namespace Go.Proofs.YtdompkenblnjjaaGreat
open Go Go.RowKit

set_option maxRecDepth 100000 in
theorem tw_drop (bs : List UInt8) (a : Nat) (h : a < bs.length) (hs : syB bs[a] = true) : (wordL (bs.drop a)).length = 1 + (wordL (bs.drop (a + 1))).length := by
  unfold wordL
  rw [drop_at h, List.takeWhile_cons, if_pos hs]; simp; omega
set_option maxRecDepth 100000 in
theorem tw_stop (bs : List UInt8) (a : Nat) (h : a < bs.length) (hs : syB bs[a] = false) : (wordL (bs.drop a)).length = 0 := by
  unfold wordL
  rw [drop_at h, List.takeWhile_cons, if_neg (by rw [hs]; decide)]; rfl
set_option maxRecDepth 100000 in
theorem tw_end (bs : List UInt8) (a : Nat) (h : bs.length ≤ a) : (wordL (bs.drop a)).length = 0 := by
  rw [List.drop_of_length_le h]; rfl
set_option maxRecDepth 100000 in
theorem word_take (s : List UInt8) : s.take (wordL s).length = wordL s := by
  unfold wordL
  exact (List.prefix_iff_eq_take.1 (List.takeWhile_prefix syB)).symm
set_option maxRecDepth 100000 in
theorem byte_gt {x : UInt8} : (x.toNat : Int) < 256 ∧ (0 : Int) ≤ (x.toNat : Int) := by have := x.toNat_lt; omega
end Go.Proofs.YtdompkenblnjjaaGreat
namespace Go.Proofs.YtdompkenblnjjaaGreat
open Go Go.RowKit

set_option maxRecDepth 100000 in
theorem toList_data (s : ByteArray) : s.toList = s.data.toList := ByteArray.toList_eq s
set_option maxRecDepth 100000 in
theorem drewN_later {W w' : World} (h : ∃ n, w' = W.drewN n) : Below W.heap.size W w' := by
  obtain ⟨n, rfl⟩ := h; exact below_drewN _ _
end Go.Proofs.YtdompkenblnjjaaGreat
namespace Go.Proofs.YtdompkenblnjjaaGreat
open Go Go.RowKit

def tokV (k : Nat) (t : List UInt8) (a : Nat) : Value := .agg #[.int .u8 (k : Int), .string ⟨t.toArray⟩, .int .i64 (a : Int)]
/-- what a reader's reading of one token answers. -/
def TokRes (R : Nat) (p : Option Addr) (c : Nat) (bs : List UInt8) (a0 : Nat) (W : World) (r : Res) (e : Ending) (w' : World) : Prop :=
  Only (· = R) W w' ∧ match r with
  | .tok k t n => e = .returned (.tuple #[tokV k t 0, .int .i64 0]) ∧ RdAt w' R p c bs (a0 + n)
  | .err er => e = .returned (.tuple #[tokV 0 [] 0, .int .i64 (er : Int)])
/-- the text so far: nil, or a row of the call's own -/
def u8v (x : UInt8) : Value := .int .u8 (x.toNat : Int)
/-- a token that is being made, in block b. -/
structure TokB (W : World) (b : Nat) : Prop where
  c0 : ∃ v, W.cell? ⟨b, 0, none⟩ = some (.int .u8 v)
  c1 : ∃ v, W.cell? ⟨b, 1, none⟩ = some (.string v)
  c2 : ∃ v, W.cell? ⟨b, 2, none⟩ = some (.int .i64 v)
  fz : ∀ o, W.frozen? ⟨b, o, none⟩ = false
set_option maxRecDepth 100000 in
theorem tokB_new (W : World) : TokB (W.alloc (.cells #[.int .u8 0, .string ByteArray.empty, .int .i64 0] 44)) W.heap.size :=
  ⟨⟨0, by simp [go_sem]⟩, ⟨ByteArray.empty, by simp [go_sem]⟩, ⟨0, by simp [go_sem]⟩, fun o => by simp [go_sem]⟩
set_option maxRecDepth 100000 in
theorem TokB.later {W W' : World} {b : Nat} (h : TokB W b) (hb : Below W.heap.size W W') : TokB W' b := by
  obtain ⟨v0, h0⟩ := h.c0
  obtain ⟨v1, h1⟩ := h.c1
  obtain ⟨v2, h2⟩ := h.c2
  exact ⟨⟨v0, cell_later hb h0⟩, ⟨v1, cell_later hb h1⟩, ⟨v2, cell_later hb h2⟩, fun o => by rw [hb.frozen (p := ⟨b, o, none⟩) (World.block_lt_of_cell? W ⟨b, 0, none⟩ h0)]; exact h.fz o⟩
set_option maxRecDepth 100000 in
theorem TokB.only {W W' : World} {b : Nat} {T : Nat → Prop} (h : TokB W b) (ho : Only T W W') (hn : ¬ T b) : TokB W' b := by
  obtain ⟨v0, h0⟩ := h.c0
  obtain ⟨v1, h1⟩ := h.c1
  obtain ⟨v2, h2⟩ := h.c2
  exact ⟨⟨v0, ho.cell h0 hn⟩, ⟨v1, ho.cell h1 hn⟩, ⟨v2, ho.cell h2 hn⟩, fun o => by rw [ho.frozen (a := ⟨b, o, none⟩) (World.block_lt_of_cell? W ⟨b, 0, none⟩ h0) hn]; exact h.fz o⟩
set_option maxRecDepth 100000 in
theorem eq_u8 (n : Nat) (h : (List.range 256).all (fun m => ((UInt8.ofNat m).toNat == n) == (UInt8.ofNat m == UInt8.ofNat n)) = true) (c : UInt8) : ((c.toNat : Int) == (n : Int)) = (c == UInt8.ofNat n) := by
  have := u8_all (p := fun c => (c.toNat == n) == (c == UInt8.ofNat n)) h c
  rw [← eq_of_beq this]
  rw [Bool.eq_iff_iff]; simp; omega
set_option maxRecDepth 100000 in
theorem take_more {bs : List UInt8} {P a : Nat} (h1 : P ≤ a) (h : a < bs.length) : (bs.drop P).take (a + 1 - P) = (bs.drop P).take (a - P) ++ [bs[a]] := by
  rw [show a + 1 - P = a - P + 1 by omega, List.take_succ_eq_append_getElem (by simp; omega)]
  simp only [List.getElem_drop]
  congr 3
  omega
end Go.Proofs.YtdompkenblnjjaaGreat
namespace Go.Proofs.YtdompkenblnjjaaGreat
open Go Go.RowKit

set_option maxRecDepth 100000 in
theorem own_cell {w : World} {base n c : Nat} {e : TypeId} {g : Nat} {xs : List Value} (h : w.ownsRow base e 1 (.slice (some ⟨g, 0, none⟩) n c) n xs) (i : Nat) (u : Value) (hu : xs[i]? = some u) : w.cell? ⟨g, i, none⟩ = some u ∧ w.frozen? ⟨g, i, none⟩ = false := by
  obtain ⟨h0, ⟨h1, _⟩ | ⟨g', cap, cur, hv, hg, hh, hn, hm, hs, ht⟩⟩ := h
  · cases h1
  · cases hv
    have hlt := (List.getElem?_eq_some_iff.1 hu).1
    rw [← ht, List.getElem?_take_of_lt (by omega)] at hu
    have e' : cur[i]? = some u := by simpa using hu
    exact ⟨by simp [World.cell?, hh, e'], by simp [World.frozen?, hh]⟩
set_option maxRecDepth 100000 in
/-- a row of bytes of the call's own, as text. -/
theorem own_conv (W : World) {base : Nat} {v : Value} {acc : List UInt8} (h : W.ownsRow base 5 1 v acc.length (acc.map u8v)) : ∀ W', Below W.heap.size W W' → (convert 25 9 v).run Tryz.prog W' = .ok (.string ⟨acc.toArray⟩) W' := by
  intro W' hb
  replace h := own_later h hb
  have h' := h
  rcases h.2 with ⟨rfl, hx⟩ | ⟨g, cap, cur, rfl, hg, _⟩
  · have : acc = [] := by simpa using hx
    subst this
    exact run_convert_bytes_nil W' 25 5 Tryz.underlying25 Tryz.underlying5 0 _ 9 Tryz.underlying9
  · refine run_convert_bytes_back W' 25 9 5 ⟨g, 0, none⟩ cap acc Tryz.underlying25 Tryz.underlying5 Tryz.underlying9 fun j hj => ?_
    rw [Lib.add_plain, Nat.zero_add]
    exact (own_cell h' j _ (by rw [List.getElem?_map, List.getElem?_eq_getElem hj]; rfl)).1
end Go.Proofs.YtdompkenblnjjaaGreat
namespace Go.Proofs.YtdompkenblnjjaaGreat
open Go Go.RowKit

set_option maxRecDepth 100000 in
theorem index_tw (c : UInt8) : ∀ l : List UInt8, (l.contains c = false ∧ Lib.indexByte l c = -1 ∧ l.takeWhile (· != c) = l) ∨ (l.contains c = true ∧ Lib.indexByte l c = ((l.takeWhile (· != c)).length : Int) ∧ (l.takeWhile (· != c)).length + 1 ≤ l.length ∧ l.dropWhile (· != c) = l.drop (l.takeWhile (· != c)).length)
  | [] => .inl ⟨rfl, rfl, rfl⟩
  | b :: l => by
    by_cases h : b = c
    · subst h
      right
      simp [Lib.indexByte]
    · have hb : (b == c) = false := by simpa using h
      have hn : (b != c) = true := by simpa using h
      have hc : (c == b) = false := by simp; exact fun e => h e.symm
      rcases index_tw c l with ⟨h1, h2, h3⟩ | ⟨h1, h2, h3, h4⟩
      · left
        refine ⟨by rw [List.contains_cons, hc, h1]; rfl, ?_, ?_⟩
        · rw [Lib.indexByte, hb, h2]; rfl
        · rw [List.takeWhile_cons, if_pos hn, h3]
      · right
        refine ⟨by rw [List.contains_cons, h1]; simp, ?_, ?_, ?_⟩
        · rw [Lib.indexByte, hb, h2, List.takeWhile_cons, if_pos hn]
          have : (((l.takeWhile (· != c)).length : Int) == -1) = false := by first | (simp; done) | (simp; omega)
          simp only [this]
          simp
        · rw [List.takeWhile_cons, if_pos hn]; simp; exact h3
        · rw [List.takeWhile_cons, if_pos hn, List.dropWhile_cons, if_pos hn, h4]; rfl
set_option maxRecDepth 100000 in
theorem ext_take (s : ByteArray) (k : Nat) : s.extract 0 k = ⟨(s.data.toList.take k).toArray⟩ := by
  apply ByteArray.ext
  apply Array.toList_inj.1
  simp
set_option maxRecDepth 100000 in
theorem ext_drop (s : ByteArray) (k : Nat) : s.extract k s.size = ⟨(s.data.toList.drop k).toArray⟩ := by
  apply ByteArray.ext
  apply Array.toList_inj.1
  rw [Lib.extract_data]
  simp
  rw [List.take_of_length_le (by simp)]
def cutP (s : ByteArray) (W : World) (e : Ending) (w' : World) : Prop := ∃ (A B : ByteArray) (x : Bool), e = .returned (.tuple #[.string A, .string B, .bool x]) ∧ A.data.toList = s.data.toList.takeWhile (· != 46) ∧ B.data.toList = (s.data.toList.dropWhile (· != 46)).drop 1 ∧ x = s.data.toList.contains 46 ∧ ∃ n, w' = W.drewN n
set_option maxRecDepth 100000 in
theorem mk_toList (s : ByteArray) : (⟨s.data.toList.toArray⟩ : ByteArray) = s := by
  apply ByteArray.ext; simp
end Go.Proofs.YtdompkenblnjjaaGreat
namespace Go.Proofs.YtdompkenblnjjaaGreat
open Go Go.RowKit

set_option maxRecDepth 100000 in
theorem str_of (l : List UInt8) : ∃ S : ByteArray, (⟨l.toArray⟩ : ByteArray) = S ∧ S.data.toList = l ∧ S.size = l.length := ⟨_, rfl, by simp, by simp [ByteArray.size]⟩
set_option maxRecDepth 100000 in
theorem str_get {S : ByteArray} {i : Nat} (h : i < S.size) : S.data.toList.getD i 0 = S[i] := by
  have : i < S.data.toList.length := by simpa using h
  rw [List.getD_eq_getElem?_getD, List.getElem?_eq_getElem this]
  rfl
set_option maxRecDepth 100000 in
theorem tokB_new' (W : World) : TokB (W.alloc (.cells #[.int .u8 0, .string ByteArray.empty, .int .i64 0] 44)) W.heap.size := tokB_new W
set_option maxRecDepth 100000 in
/-- a token's cells are laid, and the call's world is told -/
theorem tok_end {R : Nat} {p : Option Addr} {c : Nat} {bs : List UInt8} {a B : Nat} {W W5 : World} {v0 v1 v2 : Value} (hB : W.heap.size ≤ B) (hR : RdAt W5 R p c bs a) (hO : Only (· = R) W W5) (hRB : R ≠ B) (hp : 0 < bs.length → ∀ b off, p = some ⟨b, off, none⟩ → b < B) :
    Only (· = R) W (((W5.setCell ⟨B, 0, none⟩ v0).setCell ⟨B, 1, none⟩ v1).setCell ⟨B, 2, none⟩ v2) ∧ RdAt (((W5.setCell ⟨B, 0, none⟩ v0).setCell ⟨B, 1, none⟩ v1).setCell ⟨B, 2, none⟩ v2) R p c bs a := by
  have hset : Only (· = B) W5 (((W5.setCell ⟨B, 0, none⟩ v0).setCell ⟨B, 1, none⟩ v1).setCell ⟨B, 2, none⟩ v2) := ((only_set _ B 0 _).trans (only_set _ B 1 _)).trans (only_set _ B 2 _)
  exact ⟨((hO.new hB).new hB).new hB, hR.only hset hRB (fun h0 b off e => by have := hp h0 b off e; show ¬ b = B; omega)⟩
end Go.Proofs.YtdompkenblnjjaaGreat
namespace Go.Proofs.YtdompkenblnjjaaGreat
open Go Go.RowKit

set_option maxRecDepth 100000 in
theorem str_empty {S : ByteArray} {w : List UInt8} (h : S.data.toList = w) {b : Bool} (hb : w.isEmpty = b) : S.toList.isEmpty = b ∧ (S.toList == []) = b := by
  rw [toList_data, h]
  refine ⟨hb, ?_⟩
  cases w <;> simpa using hb
set_option maxRecDepth 100000 in
theorem hash_app {S : ByteArray} {w : List UInt8} (h : S.data.toList = w) : ((⟨#[35]⟩ : ByteArray) ++ S) = ⟨(35 :: w).toArray⟩ := by
  apply ByteArray.ext
  apply Array.toList_inj.1
  rw [← h]
  simp
set_option maxRecDepth 100000 in
theorem dw_nil (p : UInt8 → Bool) : ∀ l : List UInt8, l.dropWhile p = [] ↔ ∀ x ∈ l, p x = true
  | [] => by simp
  | a :: l => by
    cases h : p a with
    | true => simp [h, dw_nil p l]
    | false => simp [h]
end Go.Proofs.YtdompkenblnjjaaGreat
