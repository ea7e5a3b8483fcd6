/- Arguments that are rows of tokens, rows of trees, trees. -/
import Derived.Test.YtjhaccpljgdlpaaGreatU0
import Derived.Test.YtjhaccpljgdlpaaGreatRead
import Derived.Deep.Slices
import Derived.SizedLaws
namespace Go.Proofs.YtjhaccpljgdlpaaGreat
open Go Go.RowKit Go.WideShapes Go.ChangeShapes Go.WideElems Go.Deep

set_option maxRecDepth 100000 in
theorem cells41r : Tryz.prog.cellsOf 27 = 5 := by kernel_rfl
set_option maxRecDepth 100000 in
theorem cells33r : Tryz.prog.cellsOf 24 = 3 := by kernel_rfl
set_option maxRecDepth 100000 in
theorem cells31r : Tryz.prog.cellsOf 22 = 1 := by kernel_rfl
set_option maxRecDepth 100000 in
theorem cells9r : Tryz.prog.cellsOf 9 = 1 := by kernel_rfl
set_option maxRecDepth 100000 in
theorem cells3r : Tryz.prog.cellsOf 3 = 1 := by kernel_rfl
set_option maxRecDepth 100000 in
theorem cells4r : Tryz.prog.cellsOf 4 = 1 := by kernel_rfl
set_option maxRecDepth 100000 in
theorem cells39r : Tryz.prog.cellsOf 25 = 1 := by kernel_rfl
set_option maxRecDepth 100000 in
theorem bytes41r : Tryz.prog.bytesOf 27 = 64 := by kernel_rfl
set_option maxRecDepth 100000 in
theorem bytes33r : Tryz.prog.bytesOf 24 = 32 := by kernel_rfl
set_option maxRecDepth 100000 in
theorem weightsAll_mem {H : Type} {P : Program} {t : TypeId} : ∀ {l : List (DataW H)} {d : DataW H}, d ∈ l → ∀ n ∈ d.weights P t, n ∈ DataW.weightsAll P t l
  | [], _, h, _, _ => by cases h
  | d0 :: l, d, h, n, hn => by
    simp only [DataW.weightsAll, List.mem_append]
    rcases List.mem_cons.1 h with rfl | h
    · exact .inl hn
    · exact .inr (weightsAll_mem h n hn)
set_option maxRecDepth 100000 in
theorem three {α : Type} {l : List α} (h : l.length = 3) : ∃ a b c, l = [a, b, c] := by
  match l, h with
  | [a, b, c], _ => exact ⟨a, b, c, rfl⟩
set_option maxRecDepth 100000 in
theorem five {α : Type} {l : List α} (h : l.length = 5) : ∃ a b c d e, l = [a, b, c, d, e] := by
  match l, h with
  | [a, b, c, d, e], _ => exact ⟨a, b, c, d, e, rfl⟩
set_option maxRecDepth 100000 in
/-- a token's three cells. -/
theorem read_tok {H : Type} {enc : TypeId × Value → H} {W : World} {n : Nat} {v0 v1 v2 : Value} {x : DataW H × List MemPlace} (h : DataW.trod enc Tryz.prog W 0 (fun _ => true) true n 24 [v0, v1, v2] = some x) (hw : ∀ n ∈ x.1.weights Tryz.prog 24, n ≤ reachBytes) :
    ∃ (k : Int) (s : ByteArray) (a : Int), v0 = .int .u8 k ∧ v1 = .string s ∧ v2 = .int .i64 a ∧ s.size ≤ 140737488351232 := by
  obtain ⟨xs, m, hk, hxy, _, hxl, hf⟩ := DataW.trod_struct Tryz.underlying24 h
  obtain ⟨y0, y1, y2, rfl⟩ := three hxl
  have g0 := hf 0 _ rfl
  have g1 := hf 1 _ rfl
  have g2 := hf 2 _ rfl
  simp [cells31r, cells9r, cells3r] at g0 g1 g2
  obtain ⟨k0, e0, _, w0⟩ := DataW.trod_int Tryz.underlying22 g0
  obtain ⟨k1, e1, f1, _⟩ := DataW.trod_string Tryz.underlying9 g1
  obtain ⟨k2, e2, _, w2⟩ := DataW.trod_int Tryz.underlying3 g2
  cases e0
  cases e1
  cases e2
  refine ⟨k0, k1, k2, rfl, rfl, rfl, ?_⟩
  have hda : x.1 = .agg [y0.1, y1.1, y2.1] := by rw [hxy]; rfl
  have := hw k1.data.toList.length (by
    rw [hda]
    simp only [DataW.weights, Tryz.underlying24]
    rw [f1]
    simp [DataW.weights, DataW.weightsEach])
  have h2 : k1.data.toList.length = k1.size := by simp
  have h3 : reachBytes = 140737488351232 := rfl
  omega
instance : Inhabited Fo := ⟨.nil⟩
set_option maxRecDepth 100000 in
/-- trees one by one are a forest. -/
theorem build_forest {W : World} {b off len : Nat} (q : Nat → Bool × Int × ByteArray × Int × Option Addr × Fo × Nat)
    (hq : ∀ i, i < len → W.cell? ⟨b, off + i * 5, none⟩ = some (.bool (q i).1) ∧ W.cell? ⟨b, off + (i * 5 + 1), none⟩ = some (.int .u8 (q i).2.1) ∧ W.cell? ⟨b, off + (i * 5 + 2), none⟩ = some (.string (q i).2.2.1) ∧ W.cell? ⟨b, off + (i * 5 + 3), none⟩ = some (.int .i64 (q i).2.2.2.1) ∧ W.cell? ⟨b, off + (i * 5 + 4), none⟩ = some (.slice (q i).2.2.2.2.1 (q i).2.2.2.2.2.1.len (q i).2.2.2.2.2.2) ∧
      (q i).2.2.2.2.2.1.len ≤ (q i).2.2.2.2.2.2 ∧ (q i).2.2.2.2.2.1.len ≤ 281474976710656 ∧ FoIn W (fun _ => True) (q i).2.2.2.2.2.1 (q i).2.2.2.2.1 ∧ (q i).2.2.1.size ≤ 140737488351232 ∧ szB 140737488351232 (q i).2.2.2.2.2.1) :
    ∀ j i, i + j = len → ∃ f : Fo, f.len = j ∧ FoIn W (fun _ => True) f (pl (some ⟨b, off, none⟩) i) ∧ szB 140737488351232 f
  | 0, i, _ => ⟨.nil, rfl, trivial, trivial⟩
  | j + 1, i, h => by
    obtain ⟨f, h1, h2, h3⟩ := build_forest q hq j (i + 1) (by omega)
    obtain ⟨c0, c1, c2, c3, c4, n1, n2, hk, z1, z2⟩ := hq i (by omega)
    refine ⟨.cons (q i).1 (q i).2.1 (q i).2.2.1 (q i).2.2.2.1 (q i).2.2.2.2.2.1 f, by simp [Fo.len, h1], ⟨b, off + i * 5, rfl, trivial, c0, ?_, ?_, ?_, ⟨_, _, ?_, n1, n2, hk⟩, ?_⟩, z1, z2, h3⟩
    · rw [Nat.add_assoc]; exact c1
    · rw [Nat.add_assoc]; exact c2
    · rw [Nat.add_assoc]; exact c3
    · rw [Nat.add_assoc]; exact c4
    · have e : pl (some ⟨b, off, none⟩) (i + 1) = some ⟨b, off + i * 5 + 5, none⟩ := by
        simp only [pl, Option.map_some, Option.some.injEq, Addr.mk.injEq]; exact ⟨trivial, by omega, trivial⟩
      rw [← e]; exact h2
set_option maxRecDepth 100000 in
theorem read_forest {H : Type} {enc : TypeId × Value → H} {W : World} (m : Nat) : ∀ (fuel : Nat) (y : Value) (x : DataW H × List MemPlace), SizeOf.sizeOf x.1 ≤ m → DataW.trod enc Tryz.prog W 0 (fun _ => true) true fuel 25 [y] = some x → (∀ n ∈ x.1.weights Tryz.prog 25, n ≤ reachBytes) →
    ∃ (q : Option Addr) (f : Fo) (c : Nat), y = .slice q f.len c ∧ f.len ≤ c ∧ c ≤ 2199023255488 ∧ FoIn W (fun _ => True) f q ∧ szB 140737488351232 f := by
  induction m using Nat.strongRecOn with
  | _ m ih =>
  intro fuel y x hm hf hw
  rcases open_slice Tryz.underlying25 hf with ⟨hcs, hx⟩ | ⟨a', len, cap, mm, n, Dd, Pl, hcs, _, hl, hmx, hmm, hd, hx⟩
  · simp at hcs
    exact ⟨none, .nil, 0, hcs, Nat.le_refl _, by omega, trivial, trivial⟩
  · simp at hcs
    simp only [if_true] at hmm
    have hd1 : x.1 = .slice ((List.range len).map Dd) ((List.range (mm - len)).map fun j => Dd (len + j)) := by rw [hd]
    have hcap : cap ≤ 2199023255488 := by
      have h2 := hw ((len + (mm - len)) * Tryz.prog.bytesOf 27) (by rw [hd1]; simp [DataW.weights, Tryz.underlying25])
      rw [bytes41r] at h2
      have : reachBytes = 140737488351232 := rfl
      omega
    have each : ∀ i, i < len → ∃ q : Bool × Int × ByteArray × Int × Option Addr × Fo × Nat, W.cell? (a'.add (i * 5)) = some (.bool q.1) ∧ W.cell? (a'.add (i * 5 + 1)) = some (.int .u8 q.2.1) ∧ W.cell? (a'.add (i * 5 + 2)) = some (.string q.2.2.1) ∧ W.cell? (a'.add (i * 5 + 3)) = some (.int .i64 q.2.2.2.1) ∧ W.cell? (a'.add (i * 5 + 4)) = some (.slice q.2.2.2.2.1 q.2.2.2.2.2.1.len q.2.2.2.2.2.2) ∧
        q.2.2.2.2.2.1.len ≤ q.2.2.2.2.2.2 ∧ q.2.2.2.2.2.1.len ≤ 281474976710656 ∧ FoIn W (fun _ => True) q.2.2.2.2.2.1 q.2.2.2.2.1 ∧ q.2.2.1.size ≤ 140737488351232 ∧ szB 140737488351232 q.2.2.2.2.2.1 := by
      intro i hi
      obtain ⟨cs', h1, h2⟩ := hx i (by omega)
      rw [cells41r] at h1
      obtain ⟨_, hlen, hcell⟩ := World.cells?_some h1
      obtain ⟨v0, v1, v2, v3, v4, rfl⟩ := five hlen
      have hmem : Dd i ∈ (List.range len).map Dd := List.mem_map.2 ⟨i, List.mem_range.2 hi, rfl⟩
      have hwi : ∀ n ∈ (Dd i).weights Tryz.prog 27, n ≤ reachBytes := fun n hn => hw n (by
        rw [hd1]
        simp only [DataW.weights, Tryz.underlying25]
        exact List.mem_cons_of_mem _ (List.mem_append_left _ (weightsAll_mem hmem n hn)))
      have hsz : SizeOf.sizeOf (Dd i) < SizeOf.sizeOf x.1 := by
        rw [hd1]
        have := List.sizeOf_lt_of_mem hmem
        simp only [DataW.slice.sizeOf_spec]; omega
      obtain ⟨xs, k, hk, hxy, _, hxl, hf2⟩ := DataW.trod_struct Tryz.underlying27 h2
      obtain ⟨y0, y1, y2, rfl⟩ := three hxl
      have hda : Dd i = .agg [y0.1, y1.1, y2.1] := (Prod.mk.inj hxy).1
      have g0 := hf2 0 _ rfl
      have g1 := hf2 1 _ rfl
      have g2 := hf2 2 _ rfl
      simp [cells4r, cells33r, cells39r] at g0 g1 g2
      obtain ⟨b0, e0, _⟩ := DataW.trod_bool Tryz.underlying4 g0
      obtain ⟨kk, ss, aa, rfl, rfl, rfl, hss⟩ := read_tok g1 (fun n hn => hwi n (by
        rw [hda]
        simp only [DataW.weights, Tryz.underlying27, List.map_cons, List.map_nil, DataW.weightsEach]
        simp [hn]))
      obtain ⟨q2, f2, c2, rfl, n1, n2, hfo, hz⟩ := ih (SizeOf.sizeOf y2.1) (by
        rw [hda] at hsz
        simp at hsz
        omega) k v4 y2 (Nat.le_refl _) g2 (fun n hn => hwi n (by
        rw [hda]
        simp only [DataW.weights, Tryz.underlying27, List.map_cons, List.map_nil, DataW.weightsEach]
        simp [hn]))
      cases e0
      have c0' := hcell 0 (by omega)
      have c1' := hcell 1 (by omega)
      have c2' := hcell 2 (by omega)
      have c3' := hcell 3 (by omega)
      have c4' := hcell 4 (by omega)
      rw [add_add] at c0' c1' c2' c3' c4'
      exact ⟨(b0, kk, ss, aa, q2, f2, c2), by simpa using c0', by simpa using c1', by simpa using c2', by simpa using c3', by simpa using c4', n1, by simp only; omega, hfo, hss, hz⟩
    obtain ⟨q, hq⟩ := choose_lt each
    by_cases h0 : len = 0
    · subst h0
      exact ⟨some a', .nil, cap, hcs, hl, hcap, trivial, trivial⟩
    · obtain ⟨b, off, spot⟩ := a'
      have hspot : spot = none := by simpa [Addr.add] using World.cell?_spot (hq 0 (by omega)).1
      subst hspot
      obtain ⟨f, h1, h2, h3⟩ := build_forest (W := W) (b := b) (off := off) (len := len) q (fun i hi => by
        obtain ⟨c0, c1, c2, c3, c4, r⟩ := hq i hi
        rw [Lib.add_plain] at c0 c1 c2 c3 c4
        exact ⟨c0, c1, c2, c3, c4, r⟩) len 0 (by omega)
      refine ⟨some ⟨b, off, none⟩, f, cap, by rw [h1]; exact hcs, by omega, hcap, ?_, h3⟩
      have e : pl (some ⟨b, off, none⟩) 0 = some ⟨b, off, none⟩ := by simp [pl]
      rw [← e]; exact h2
end Go.Proofs.YtjhaccpljgdlpaaGreat

