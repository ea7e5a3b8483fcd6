/- strings.ReplaceAll at this program, and what it makes of double quotes. -/
import Derived.Shelf.Strings.Replace
import Derived.Test.YtlifankiljbdjaaDoorJX
import Derived.Test.YtlifankiljbdjaaDoorJP
namespace Go.Proofs
open Go.Shelf
def Tryd.lays155_ren : Go.Shelf.Ren := ⟨fun | 155 => 79 | 154 => 91 | 138 => 97 | 165 => 98 | 143 => 99 | 166 => 100 | 197 => 93 | 169 => 101 | 195 => 109 | 218 => 110 | 240 => 111 | 241 => 112 | 219 => 96 | 260 => 102 | 276 => 117 | 277 => 118 | 217 => 105 | 225 => 106 | 224 => 107 | 267 => 108 | 266 => 115 | 314 => 116 | n => n, fun | 9 => 9 | 3 => 3 | 4 => 4 | 72 => 113 | 0 => 0 | 76 => 117 | 105 => 106 | 21 => 21 | 5 => 5 | 70 => 111 | 20 => 20 | 37 => 22 | 75 => 116 | 127 => 110 | 164 => 132 | 46 => 122 | 119 => 124 | 139 => 127 | 138 => 126 | 146 => 130 | 51 => 129 | 80 => 91 | n => n, fun | 1 => 0 | 3 => 1 | 4 => 2 | n => n⟩
theorem Tryd.lays155 : Go.Proofs.Lays.n155 Tryd.prog Tryd.lays155_ren := {
  mixed := by kernel_rfl
  f138 := Tryd.func97.trans (congrArg some (by kernel_rfl))
  f143 := Tryd.func99.trans (congrArg some (by kernel_rfl))
  f154 := Tryd.func91.trans (congrArg some (by kernel_rfl))
  f155 := Tryd.func79.trans (congrArg some (by kernel_rfl))
  f165 := Tryd.func98.trans (congrArg some (by kernel_rfl))
  f166 := Tryd.func100.trans (congrArg some (by kernel_rfl))
  f169 := Tryd.func101.trans (congrArg some (by kernel_rfl))
  f195 := Tryd.func109.trans (congrArg some (by kernel_rfl))
  f197 := Tryd.func93.trans (congrArg some (by kernel_rfl))
  f217 := Tryd.func105.trans (congrArg some (by kernel_rfl))
  f218 := Tryd.func110.trans (congrArg some (by kernel_rfl))
  f219 := Tryd.func96.trans (congrArg some (by kernel_rfl))
  f224 := Tryd.func107.trans (congrArg some (by kernel_rfl))
  f225 := Tryd.func106.trans (congrArg some (by kernel_rfl))
  f240 := Tryd.func111.trans (congrArg some (by kernel_rfl))
  f241 := Tryd.func112.trans (congrArg some (by kernel_rfl))
  f260 := Tryd.func102.trans (congrArg some (by kernel_rfl))
  f266 := Tryd.func115.trans (congrArg some (by kernel_rfl))
  f267 := Tryd.func108.trans (congrArg some (by kernel_rfl))
  f276 := Tryd.func117.trans (congrArg some (by kernel_rfl))
  f277 := Tryd.func118.trans (congrArg some (by kernel_rfl))
  f314 := Tryd.func116.trans (congrArg some (by kernel_rfl))
  t0 := Tryd.underlying0
  a0 := Tryd.isAgg0
  z0 := Tryd.sizeOf0
  v0 := Tryd.zeroValue0
  t3 := Tryd.underlying3
  a3 := Tryd.isAgg3
  z3 := Tryd.sizeOf3
  v3 := Tryd.zeroValue3
  t4 := Tryd.underlying4
  a4 := Tryd.isAgg4
  z4 := Tryd.sizeOf4
  v4 := Tryd.zeroValue4
  t5 := Tryd.underlying5
  a5 := Tryd.isAgg5
  z5 := Tryd.sizeOf5
  v5 := Tryd.zeroValue5
  t9 := Tryd.underlying9
  a9 := Tryd.isAgg9
  z9 := Tryd.sizeOf9
  v9 := Tryd.zeroValue9
  t20 := Tryd.underlying20
  a20 := Tryd.isAgg20
  z20 := Tryd.sizeOf20
  v20 := Tryd.zeroValue20
  t21 := Tryd.underlying21
  a21 := Tryd.isAgg21
  z21 := Tryd.sizeOf21
  v21 := Tryd.zeroValue21
  t37 := Tryd.underlying22
  a37 := Tryd.isAgg22
  z37 := Tryd.sizeOf22
  v37 := Tryd.zeroValue22
  t46 := Tryd.underlying122
  a46 := Tryd.isAgg122
  z46 := Tryd.sizeOf122
  v46 := Tryd.zeroValue122
  t51 := Tryd.underlying129
  a51 := Tryd.isAgg129
  z51 := Tryd.sizeOf129
  v51 := Tryd.zeroValue129
  t70 := Tryd.underlying111
  a70 := Tryd.isAgg111
  z70 := Tryd.sizeOf111
  v70 := Tryd.zeroValue111
  t72 := Tryd.underlying113
  a72 := Tryd.isAgg113
  z72 := Tryd.sizeOf113
  v72 := Tryd.zeroValue113
  t75 := Tryd.underlying116
  a75 := Tryd.isAgg116
  z75 := Tryd.sizeOf116
  v75 := Tryd.zeroValue116
  t76 := Tryd.underlying117
  a76 := Tryd.isAgg117
  z76 := Tryd.sizeOf117
  v76 := Tryd.zeroValue117
  t105 := Tryd.underlying106
  a105 := Tryd.isAgg106
  z105 := Tryd.sizeOf106
  v105 := Tryd.zeroValue106
  t119 := Tryd.underlying124
  a119 := Tryd.isAgg124
  z119 := Tryd.sizeOf124
  t127 := Tryd.underlying110
  a127 := Tryd.isAgg110
  z127 := Tryd.sizeOf110
  v127 := Tryd.zeroValue110
  t138 := Tryd.underlying126
  a138 := Tryd.isAgg126
  z138 := Tryd.sizeOf126
  v138 := Tryd.zeroValue126
  t139 := Tryd.underlying127
  a139 := Tryd.isAgg127
  z139 := Tryd.sizeOf127
  v139 := Tryd.zeroValue127
  t146 := Tryd.underlying130
  a146 := Tryd.isAgg130
  z146 := Tryd.sizeOf130
  v146 := Tryd.zeroValue130
  t164 := Tryd.underlying132
  a164 := Tryd.isAgg132
  z164 := Tryd.sizeOf132
  v164 := Tryd.zeroValue132
  g1 := by kernel_rfl
  g3 := by kernel_rfl
  g4 := by kernel_rfl }
theorem Tryd.Builder_Extra_155 : Builder.Extra Tryd.prog Tryd.lays155_ren := {
  sizeBuilder := by kernel_rfl
  liesBuilder := by kernel_rfl
  t5 := Tryd.underlying5
  a5 := Tryd.isAgg5
  z5 := Tryd.sizeOf5
  v5 := Tryd.zeroValue5
  infoByte := by kernel_rfl
  cellsByte := by kernel_rfl
  sizeByte := by kernel_rfl
  neB5 := by decide }
open Go.RowKit Go.Lib in
theorem Tryd.strings_ReplaceAll (s old new : ByteArray) (m : Int) (w : World) (hs : s.size < 4294967281) (hm : w.cell? ⟨0, 0, none⟩ = some (.int .i64 m)) (h1 : 1 ≤ old.size) (hlen : s.size + Lib.countB s old * new.size ≤ 140737488355328) :
    Calls Tryd.prog 79 #[.string s, .string old, .string new] w fun e w' =>
      e = .returned (.string ⟨(Lib.replaceAll s.data.toList old.data.toList new.data.toList).toArray⟩) ∧ Below w.heap.size w w' := Any.strings_ReplaceAll Tryd.lays155 Tryd.Builder_Extra_155 s old new m w hs hm h1 hlen
end Go.Proofs
namespace Go.Proofs.YtlifankiljbdjaaDoor
open Go Go.RowKit

/-- the library's own variable that its search reads. -/
def MaxAt (W : World) : Prop := ∃ m, W.cell? ⟨0, 0, none⟩ = some (.int .i64 m)
theorem MaxAt.later {W W' : World} (h : MaxAt W) (hb : Below W.heap.size W W') : MaxAt W' := by
  obtain ⟨m, hm⟩ := h
  exact ⟨m, cell_later hb hm⟩
theorem index_quote : ∀ s : List UInt8, (34 ∉ s ∧ Lib.index s [34] = -1) ∨ (34 ∈ s ∧ ∃ i : Nat, Lib.index s [34] = (i : Int))
  | [] => .inl ⟨by simp, rfl⟩
  | b :: l => by
    by_cases hb : b = 34
    · subst hb
      exact .inr ⟨by simp, 0, by simp [Lib.index]⟩
    · have hp : ([34] : List UInt8).isPrefixOf (b :: l) = false := by first | (simp [List.isPrefixOf]; done) | (simp [List.isPrefixOf]; exact fun e => hb e.symm)
      rcases index_quote l with ⟨h1, h2⟩ | ⟨h1, i, h2⟩
      · left
        refine ⟨by simp [h1]; exact fun e => hb e.symm, ?_⟩
        rw [Lib.index, hp, h2]; rfl
      · right
        refine ⟨by simp [h1], i + 1, ?_⟩
        rw [Lib.index, hp, h2]
        have : (((i : Nat) : Int) == -1) = false := by first | (simp; done) | (simp; omega)
        simp only [this]
        simp
theorem replace_quote : ∀ (s : List UInt8) (K : Nat), s.count 34 ≤ K → Lib.replaceK [34] [34, 34] K s = dblL s
  | [], 0, _ => rfl
  | [], K + 1, _ => rfl
  | b :: l, K, h => by
    by_cases hb : b = 34
    · subst hb
      have hc : (34 :: l).count (34 : UInt8) = l.count 34 + 1 := by simp
      obtain ⟨K, rfl⟩ : ∃ k, K = k + 1 := ⟨K - 1, by omega⟩
      have hi : Lib.index (34 :: l) [34] = ((0 : Nat) : Int) := by simp [Lib.index]
      rw [Lib.replaceK_hit _ _ _ _ 0 hi, dblL]
      have := replace_quote l K (by omega)
      simp [this]
    · have hc : (b :: l).count (34 : UInt8) = l.count 34 := by simp [List.count_cons, hb]
      have hp : ([34] : List UInt8).isPrefixOf (b :: l) = false := by first | (simp [List.isPrefixOf]; done) | (simp [List.isPrefixOf]; exact fun e => hb e.symm)
      have hbb : (b == 34) = false := by simpa using hb
      rw [dblL, hbb, ← replace_quote l K (by omega)]
      cases K with
      | zero => rfl
      | succ K =>
        rcases index_quote l with ⟨h1, h2⟩ | ⟨h1, i, h2⟩
        · have h3 : Lib.index (b :: l) [34] = -1 := by rw [Lib.index, hp, h2]; rfl
          rw [Lib.replaceK, Lib.replaceK, h3, h2]; rfl
        · have h3 : Lib.index (b :: l) [34] = ((i + 1 : Nat) : Int) := by
            rw [Lib.index, hp, h2]
            have : (((i : Nat) : Int) == -1) = false := by first | (simp; done) | (simp; omega)
            simp only [this]
            simp
          rw [Lib.replaceK_hit _ _ _ _ _ h3, Lib.replaceK_hit _ _ _ _ _ h2]
          simp [Nat.add_right_comm]
theorem repl79 (s : ByteArray) (W : World) (hs : s.size ≤ 1048576) (hm : MaxAt W) :
    Calls Tryd.prog 79 #[.string s, .string ⟨#[34]⟩, .string ⟨#[34, 34]⟩] W fun e w' => ∃ X : ByteArray, e = .returned (.string X) ∧ X.data.toList = dblL s.data.toList ∧ Below W.heap.size W w' := by
  obtain ⟨m, hm⟩ := hm
  have hcm := Lib.countB_mul_le ⟨#[34]⟩ (by decide) s.size s (Nat.le_refl _)
  have h1 : (⟨#[34]⟩ : ByteArray).size = 1 := rfl
  have h2 : (⟨#[34, 34]⟩ : ByteArray).size = 2 := rfl
  rw [h1] at hcm
  refine (Tryd.strings_ReplaceAll s ⟨#[34]⟩ ⟨#[34, 34]⟩ m W (by omega) hm (by decide) (by rw [h2]; omega)).mono fun e w' ⟨he, hb⟩ => ⟨_, he, ?_, hb⟩
  show Lib.replaceAll s.data.toList [34] [34, 34] = _
  have hnum : Lib.replaceNum s.data.toList [34] (-1) = s.data.toList.count 34 := by
    unfold Lib.replaceNum
    rw [if_pos (by omega), Lib.count_one]
  unfold Lib.replaceAll Lib.replace
  rw [if_neg (by decide), hnum]
  exact replace_quote _ _ (Nat.le_refl _)
end Go.Proofs.YtlifankiljbdjaaDoor
