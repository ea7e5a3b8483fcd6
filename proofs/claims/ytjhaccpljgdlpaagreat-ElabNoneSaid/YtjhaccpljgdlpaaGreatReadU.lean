/- Arguments that are trees, and rows of trees. -/
import Derived.Test.YtjhaccpljgdlpaaGreatReadT
namespace Go.Proofs.YtjhaccpljgdlpaaGreat
open Go Go.RowKit Go.WideShapes Go.ChangeShapes Go.WideElems Go.Deep

set_option maxRecDepth 100000 in
theorem read_tree {H : Type} {enc : TypeId × Value → H} {W : World} {base : Nat} {v : Value} {d : DataW H} {p : List MemPlace} (hval : Value.okWide Tryz.prog W .any base 27 v) (h : DataW.Trod enc Tryz.prog W 0 (fun _ => true) true 27 v d p) (hw : ∀ n ∈ d.weights Tryz.prog 27, n ≤ reachBytes) :
    ∃ (l : Bool) (k : Int) (s : ByteArray) (a : Int) (q : Option Addr) (c : Nat) (x : Fo), v = .agg #[.bool l, .int .u8 k, .string s, .int .i64 a, .slice q x.len c] ∧ x.len ≤ c ∧ x.len ≤ 281474976710656 ∧ s.size ≤ 140737488351232 ∧ FoIn W (fun _ => True) x q ∧ szB 140737488351232 x := by
  obtain ⟨cs, rfl, hcs⟩ := okWide_struct Tryz.underlying27 hval
  rw [cells41r] at hcs
  obtain ⟨fuel, hf⟩ := h
  obtain ⟨cl⟩ := cs
  obtain ⟨v0, v1, v2, v3, v4, rfl⟩ := five (l := cl) (by simpa using hcs)
  obtain ⟨xs, k, hk, hxy, _, hxl, hf2⟩ := DataW.trod_struct Tryz.underlying27 hf
  obtain ⟨y0, y1, y2, rfl⟩ := three hxl
  have hda : d = .agg [y0.1, y1.1, y2.1] := (Prod.mk.inj hxy).1
  have g0 := hf2 0 _ rfl
  have g1 := hf2 1 _ rfl
  have g2 := hf2 2 _ rfl
  simp [Value.cells, cells4r, cells33r, cells39r] at g0 g1 g2
  obtain ⟨b0, e0, _⟩ := DataW.trod_bool Tryz.underlying4 g0
  obtain ⟨kk, ss, aa, rfl, rfl, rfl, hss⟩ := read_tok g1 (fun n hn => hw n (by
    rw [hda]
    simp only [DataW.weights, Tryz.underlying27, List.map_cons, List.map_nil, DataW.weightsEach]
    simp [hn]))
  obtain ⟨q2, f2, c2, rfl, n1, n2, hfo, hz⟩ := read_forest _ k v4 y2 (Nat.le_refl _) g2 (fun n hn => hw n (by
    rw [hda]
    simp only [DataW.weights, Tryz.underlying27, List.map_cons, List.map_nil, DataW.weightsEach]
    simp [hn]))
  cases e0
  exact ⟨b0, kk, ss, aa, q2, c2, f2, rfl, n1, by omega, hss, hfo, hz⟩
end Go.Proofs.YtjhaccpljgdlpaaGreat

