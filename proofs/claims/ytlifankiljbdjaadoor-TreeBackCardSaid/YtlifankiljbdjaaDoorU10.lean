/- The law's own example. -/
import Derived.Test.YtlifankiljbdjaaDoorJU2
import Derived.Test.YtlifankiljbdjaaDoorJT3
import Derived.Test.YtlifankiljbdjaaDoorJT2
import Derived.Test.YtlifankiljbdjaaDoorJR
namespace Go.Proofs.YtlifankiljbdjaaDoor
open Go Go.RowKit

def toA (t : Tk) : TkA := ⟨(t.kind : Int), ⟨t.text.toArray⟩, (t.at_ : Int)⟩
theorem TksIn.toA {W : World} {p : Option Addr} {l : List Tk} (h : TksIn W p l) : TksA W p (l.map toA) := fun i hi => by
  have hi' : i < l.length := by simpa using hi
  obtain ⟨b, off, e, h1, h2, h3⟩ := h i hi'
  refine ⟨b, off, e, ?_, ?_, ?_⟩ <;> rw [List.getElem_map]
  · exact h1
  · exact h2
  · exact h3
/-- "(a |b c|)" -/
def kbs4 : List UInt8 := [40, 97, 32, 124, 98, 32, 99, 124, 41]
def ktk4 : List Tk := [⟨1, [40], 0⟩, ⟨3, [97], 1⟩, ⟨3, [98, 32, 99], 3⟩, ⟨2, [41], 8⟩]
theorem ktoks4 : Toks kbs4 0 ktk4 9 0 := by
  refine Toks.step (b := kbs4) (at_ := 0) (k := 1) (n := 1) (t := [40]) (by decide) (by decide) ?_
  refine Toks.step (b := kbs4) (at_ := 1) (k := 3) (n := 1) (t := [97]) (by decide) (by decide) ?_
  refine Toks.step (b := kbs4) (at_ := 2) (k := 3) (n := 5) (t := [98, 32, 99]) (by decide) (by decide) ?_
  refine Toks.step (b := kbs4) (at_ := 8) (k := 2) (n := 1) (t := [41]) (by decide) (by decide) ?_
  exact Toks.done (b := kbs4) (at_ := 9) (by decide)
def kta : List TkA := [⟨1, ⟨#[40]⟩, 0⟩, ⟨3, ⟨#[97]⟩, 1⟩, ⟨3, ⟨#[98, 32, 99]⟩, 3⟩, ⟨2, ⟨#[41]⟩, 8⟩]
theorem kta_eq : ktk4.map toA = kta := rfl
def kfo : Fo := .cons false 3 ⟨#[97]⟩ 1 .nil (.cons false 3 ⟨#[98, 32, 99]⟩ 3 .nil .nil)
theorem knext : NextO kta 0 true 1 ⟨#[40]⟩ 0 kfo 4 0 := by
  have hr : Rd [⟨3, ⟨#[97]⟩, 1⟩, ⟨3, ⟨#[98, 32, 99]⟩, 3⟩] kfo := .leaf (by decide) (by decide) (.leaf (by decide) (by decide) .nil)
  have ho : One ((⟨1, ⟨#[40]⟩, 0⟩ : TkA) :: ([⟨3, ⟨#[97]⟩, 1⟩, ⟨3, ⟨#[98, 32, 99]⟩, 3⟩] ++ [⟨2, ⟨#[41]⟩, 8⟩])) true 1 ⟨#[40]⟩ 0 kfo := One.list (t := ⟨1, ⟨#[40]⟩, 0⟩) (c := ⟨2, ⟨#[41]⟩, 8⟩) (by decide) (by decide) hr
  exact NextO.ok (i := 0) (n := 4) (t := ⟨1, ⟨#[40]⟩, 0⟩) (r := [⟨3, ⟨#[97]⟩, 1⟩, ⟨3, ⟨#[98, 32, 99]⟩, 3⟩, ⟨2, ⟨#[41]⟩, 8⟩]) rfl (by decide) (by decide) (by decide) ho
theorem kok : okT true 1 ⟨#[40]⟩ kfo = true := by
  have h1 : readB 3 ⟨#[97]⟩ = true := readB_iff.2 ⟨.sym (.inl (by decide)), by decide⟩
  have h2 : readB 3 ⟨#[98, 32, 99]⟩ = true := readB_iff.2 ⟨.sym (.inr (by decide)), by decide⟩
  simp [okT, kfo, okF, h1, h2, Fo.len]
theorem ktext : textR true 1 ⟨#[40]⟩ kfo = (kbs4, 0) := by
  unfold textR
  rw [if_neg (by rw [kok]; decide), if_neg (by decide), if_neg (by decide)]
  rfl
theorem kdep : depT true kfo 201 = 1 := by decide
set_option maxRecDepth 100000 in
set_option maxHeartbeats 1600000 in
theorem known20 (W : World) (hm : MaxAt W) : Calls Tryd.prog 20 #[] W fun e w' => e = .returned (.bool true) ∧ Below W.heap.size W w' := by
  have kc := fun (w : World) (C : Array Value) (n c : Nat) => Lib.run_convert_bytes_const (P := Tryd.prog) w 22 5 C n c Tryd.underlying22 Tryd.underlying5
  have HM := Lib.hid hm
  clear hm
  go_enter Tryd.func20, Tryd.ntmps20
  go_wp2_with fail
  have hby : BytesIn (W.alloc (.cells #[.int .u8 40, .int .u8 97, .int .u8 32, .int .u8 124, .int .u8 98, .int .u8 32, .int .u8 99, .int .u8 124, .int .u8 41] 5 (9, 10))) (some ⟨W.heap.size, 0, none⟩) kbs4 := bytes_lit W kbs4 5 (9, 10)
  have hcall := reftokens_any (some ⟨W.heap.size, 0, none⟩) 9 kbs4 _ hby (by decide) (by decide)
  refine (show Calls Tryd.prog 15 #[.slice (some ⟨W.heap.size, 0, none⟩) 9 9] _ _ from hcall).mono ?_
  rintro e w1 ⟨p, c, l, a, er, rfl, htk, hown, hb1⟩
  obtain ⟨rfl, rfl, rfl⟩ := htk.uniq ktoks4
  have hBW := (below1 W (.cells #[.int .u8 40, .int .u8 97, .int .u8 32, .int .u8 124, .int .u8 98, .int .u8 32, .int .u8 99, .int .u8 124, .int .u8 41] 5 (9, 10))).trans (hb1.mono (by simp))
  have hta := (own_tks hown).toA
  rw [kta_eq] at hta
  have hcap := own_cap hown
  have hnx := next21 p c kta 0 w1 hta hcap (by decide) (fun t ht => by simp [kta] at ht; rcases ht with rfl | rfl | rfl | rfl <;> decide)
  have HNX := Lib.hid (show Calls Tryd.prog 21 #[.slice p 4 c, .int .i64 0] w1 (NextE kta 0 w1) from hnx)
  have HB1 := Lib.hid hBW
  have hl4 : ktk4.length = 4 := rfl
  rw [hl4]
  clear hby hcall htk hown hb1 hBW hta hcap hnx hl4 kc
  go_wp2_with fail
  refine HNX.out.mono ?_
  rintro e w2 ⟨q, c', lb, k, s, a, g, n, er, rfl, hq1, hq2, hb2, hO⟩
  obtain ⟨rfl, rfl, rfl, rfl, rfl, rfl, rfl⟩ := knext.uniq hO
  have hB2 := HB1.out.trans (hb2.mono HB1.out.size)
  have HB2 := Lib.hid hB2
  have HG := Lib.hid (And.intro hq1 hq2)
  have hkl : kfo.len = 2 := rfl
  have htx := fun (w : World) (h : Below w2.heap.size w2 w) => text29 true 1 ⟨#[40]⟩ 0 q c' kfo w _ (HG.out.2.later h) HG.out.1 (by decide) (by decide) (by simp [kfo, szB]; decide) (by decide) ((HM.out.later HB2.out).later h)
  have hdp := fun (w : World) (h : Below w2.heap.size w2 w) => depth31 true 1 ⟨#[40]⟩ 0 q c' kfo w _ (HG.out.2.later h) HG.out.1 (by decide)
  rw [hkl] at htx hdp
  rw [hkl]
  rw [kdep] at hdp
  unfold trV at htx hdp
  have HTX := Lib.hid htx
  have HDP := Lib.hid hdp
  clear hq1 hq2 hb2 hO hB2 htx hdp hkl HNX
  simp only [trV]
  go_wp2_with fail
  refine (HTX.out _ (below1 _ _)).mono ?_
  rintro e w3 ⟨X, er, rfl, hX, hb3⟩
  rw [ktext] at hX
  obtain ⟨hX1, rfl⟩ := Prod.mk.inj hX
  have hb4 := (below1 w2 (.cells #[.bool true, .int .u8 1, .string ⟨#[40]⟩, .int .i64 0, .slice q 2 c'] 41)).trans (hb3.mono (by simp))
  have x0 : w3.cell? ⟨w2.heap.size, 0, none⟩ = some (.bool true) := cell_later hb3 (by simp [go_sem])
  have x1 : w3.cell? ⟨w2.heap.size, 1, none⟩ = some (.int .u8 1) := cell_later hb3 (by simp [go_sem])
  have x2 : w3.cell? ⟨w2.heap.size, 2, none⟩ = some (.string ⟨#[40]⟩) := cell_later hb3 (by simp [go_sem])
  have x3 : w3.cell? ⟨w2.heap.size, 3, none⟩ = some (.int .i64 0) := cell_later hb3 (by simp [go_sem])
  have x4 : w3.cell? ⟨w2.heap.size, 4, none⟩ = some (.slice q 2 c') := cell_later hb3 (by simp [go_sem])
  obtain rfl : X = ⟨#[40, 97, 32, 124, 98, 32, 99, 124, 41]⟩ := by
    apply ByteArray.ext
    apply Array.toList_inj.1
    exact hX1
  have HB4 := Lib.hid hb4
  clear hX hX1 hb3 hb4 HTX
  go_wp2_with fail
  refine (HDP.out _ HB4.out).mono ?_
  rintro e w4 ⟨rfl, hb5⟩
  have HB5 := Lib.hid ((HB2.out.trans (HB4.out.mono HB2.out.size)).trans (hb5.mono (HB2.out.trans (HB4.out.mono HB2.out.size)).size))
  clear hb5
  go_wp2_with fail
  go_ret
  exact ⟨rfl, HB5.out⟩
end Go.Proofs.YtlifankiljbdjaaDoor
