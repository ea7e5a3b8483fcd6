/- The forms of steps and of links, as maps. -/
import Derived.Test.YtookoagcmejkpaaGreatDoorJ1
import Derived.Test.YtookoagcmejkpaaGreatDoorJ0
set_option maxHeartbeats 1600000
namespace Go.Proofs.YtookoagcmejkpaaGreatDoor
set_option maxRecDepth 100000
open Go Go.RowKit Go.Maps
def fmV (h : ByteArray) (lits links a b lit i j list : Bool) : Value := .agg #[.string h, .bool lits, .bool links, .bool a, .bool b, .bool lit, .bool i, .bool j, .bool list]
def qb5 : ByteArray := ⟨#[99, 108, 97, 117, 115, 101]⟩
def qcp : ByteArray := ⟨#[108, 105, 110, 107, 115]⟩
def qcq : ByteArray := ⟨#[99, 121, 99, 108, 101]⟩
def qew : ByteArray := ⟨#[112, 97, 105, 114]⟩
def qbw : ByteArray := ⟨#[103, 105, 118, 101, 110]⟩
def qcu : ByteArray := ⟨#[115, 97, 109, 101]⟩
def qcs : ByteArray := ⟨#[116, 117, 114, 110]⟩
def qct : ByteArray := ⟨#[116, 104, 101, 110]⟩
def qby : ByteArray := ⟨#[97, 112, 112, 108, 121]⟩
def qa9 : ByteArray := ⟨#[97, 103, 97, 105, 110, 115, 116]⟩
def qbx : ByteArray := ⟨#[99, 108, 97, 115, 104]⟩
theorem K22 : Keyed Tryz.prog 22 := int_keyed Tryz.underlying22
theorem K61 : Keyed Tryz.prog 61 := int_keyed Tryz.underlying61
theorem qdq (k : Int) (h0 : 0 <= k) (h1 : k <= 255) : keyOf Tryz.prog 22 (.int .u8 k) = some (.int .u8 k) := by
 simp [keyOf, Tryz.underlying22, mapKey, Lit.wf, IntKind.min, IntKind.max, IntKind.signed, IntKind.bits, h0, h1]
theorem qfk (k : Int) (h0 : 0 <= k) (h1 : k <= 255) : keyOf Tryz.prog 61 (.int .u8 k) = some (.int .u8 k) := by
 simp [keyOf, Tryz.underlying61, mapKey, Lit.wf, IntKind.min, IntKind.max, IntKind.signed, IntKind.bits, h0, h1]
theorem qbm (f : Lit -> Option Value) (k : Int) (v : Option Value) : updF f (.int .u8 k) v (.int .u8 k) = v := by unfold updF; rw [if_pos rfl]
theorem qaf (f : Lit -> Option Value) (k j : Int) (v : Option Value) (h : j ≠ k) : updF f (.int .u8 k) v (.int .u8 j) = f (.int .u8 j) := by
 unfold updF; rw [if_neg (by intro e; injection e with _ e; exact h e)]
theorem FMap.put_new {W : World} {kt : TypeId} {m : Nat} {f : Lit -> Option Value} {n : Nat} {t e : TypeId} (h : FMap W kt m f n) (K : Keyed Tryz.prog kt) (ht : Tryz.prog.underlying t = some (.map kt e)) (hn : n < maxLen) {key : Value} {kl : Lit} (hkey : keyOf Tryz.prog kt key = some kl) (h0 : f kl = none) (v : Value) :
  ∃ w', (Instr.mapUpdate t (.map (some m)) key v).run Tryz.prog W = .ok () w' /\ FMap w' kt m (updF f kl (some v)) (n + 1) /\ W.grownBy w' (some m) := by
 obtain ⟨w', a, b, c⟩ := h.put K ht hn hkey v;rw [h0] at b;exact ⟨w', a, b, c⟩
noncomputable def qh6 : Lit -> Option Value := (updF (updF (updF (updF (fun _ => none) (.int .u8 1) (some (fmV qb5 true false false false false false false false))) (.int .u8 2) (some (fmV qcp false true false false false false false false))) (.int .u8 3) (some (fmV qcq true false false false false false false false))) (.int .u8 4) (some (fmV qew false false true true false false false false)))
def qem (k : Int) : Option Value := if k = 1 then some (fmV qb5 true false false false false false false false) else if k = 2 then some (fmV qcp false true false false false false false false) else if k = 3 then some (fmV qcq true false false false false false false false) else if k = 4 then some (fmV qew false false true true false false false false) else none
theorem qbu (k : Int) : qh6 (.int .u8 k) = qem k := by
 unfold qh6 qem
 by_cases h1 : k = 1
 ·subst h1
  rw [qaf _ 4 1 _ (by decide)]; rw [qaf _ 3 1 _ (by decide)]; rw [qaf _ 2 1 _ (by decide)]; rw [qbm]; rfl
 by_cases h2 : k = 2
 ·subst h2
  rw [qaf _ 4 2 _ (by decide)]; rw [qaf _ 3 2 _ (by decide)]; rw [qbm]; rfl
 by_cases h3 : k = 3
 ·subst h3
  rw [qaf _ 4 3 _ (by decide)]; rw [qbm]; rfl
 by_cases h4 : k = 4
 ·subst h4
  rw [qbm]; rfl
 rw [qaf _ 4 k _ h4]; rw [qaf _ 3 k _ h3]; rw [qaf _ 2 k _ h2]; rw [qaf _ 1 k _ h1];rw [if_neg h1]; rw [if_neg h2]; rw [if_neg h3]; rw [if_neg h4]
theorem qei (W : World) : Calls Tryz.prog 28 #[] W fun e w' => ∃ m, e = .returned (.map (some m)) /\ FMap w' 22 m qh6 4 /\ Below W.heap.size W w' /\ W.heap.size <= m := by
 have m0 := FMap.made W 22;obtain ⟨w1, r1, m1, g1⟩ := m0.put_new K22 Tryz.underlying67 (by decide) (qdq 1 (by decide) (by decide)) (by first | rfl | (repeat (rw [qaf _ _ _ _ (by decide)]))) (fmV qb5 true false false false false false false false);obtain ⟨w2, r2, m2, g2⟩ := m1.put_new K22 Tryz.underlying67 (by decide) (qdq 2 (by decide) (by decide)) (by first | rfl | (repeat (rw [qaf _ _ _ _ (by decide)]))) (fmV qcp false true false false false false false false);obtain ⟨w3, r3, m3, g3⟩ := m2.put_new K22 Tryz.underlying67 (by decide) (qdq 3 (by decide) (by decide)) (by first | rfl | (repeat (rw [qaf _ _ _ _ (by decide)]))) (fmV qcq true false false false false false false false);obtain ⟨w4, r4, m4, g4⟩ := m3.put_new K22 Tryz.underlying67 (by decide) (qdq 4 (by decide) (by decide)) (by first | rfl | (repeat (rw [qaf _ _ _ _ (by decide)]))) (fmV qew false false true true false false false false);simp only [fmV, qb5, qcp, qcq, qew] at r1 r2 r3 r4;have HM := Zh m4
 have HB := Zh (show Below W.heap.size W w4 from by
  have h0 := qab W (.map #[] 0);have h1 : Below W.heap.size W w1 := h0.trans ((Only.of_grown g1).below (fun k e => by injection e with e; exact Nat.le_of_eq e) h0.size);have h2 : Below W.heap.size W w2 := h1.trans ((Only.of_grown g2).below (fun k e => by injection e with e; exact Nat.le_of_eq e) h1.size);have h3 : Below W.heap.size W w3 := h2.trans ((Only.of_grown g3).below (fun k e => by injection e with e; exact Nat.le_of_eq e) h2.size);have h4 : Below W.heap.size W w4 := h3.trans ((Only.of_grown g4).below (fun k e => by injection e with e; exact Nat.le_of_eq e) h3.size)
  exact h4)
 clear m0 m1 m2 m3 m4 g1 g2 g3 g4;have hmm := @run_makeMap Tryz.prog;go_enter Tryz.func28, Tryz.ntmps28
 go_wp2_with fail
 refine bodyPost_ret (v := .map (some W.heap.size)) (by simp [results, Tryz.results28, go_sem]) rfl ⟨W.heap.size, rfl, ?_, HB.o, Nat.le_refl _⟩;have h := HM.o
 simpa [qh6] using h
noncomputable def qdg : Lit -> Option Value := (updF (updF (updF (updF (updF (updF (updF (fun _ => none) (.int .u8 1) (some (fmV qbw false false false false true false false false))) (.int .u8 2) (some (fmV qcu false false true false false false false false))) (.int .u8 3) (some (fmV qcs false false false false false true false false))) (.int .u8 4) (some (fmV qct false false false false false true true false))) (.int .u8 5) (some (fmV qby false false true true false false false true))) (.int .u8 6) (some (fmV qa9 false false false false true true false false))) (.int .u8 7) (some (fmV qbx false false false false false true false false)))
def qfj (k : Int) : Option Value := if k = 1 then some (fmV qbw false false false false true false false false) else if k = 2 then some (fmV qcu false false true false false false false false) else if k = 3 then some (fmV qcs false false false false false true false false) else if k = 4 then some (fmV qct false false false false false true true false) else if k = 5 then some (fmV qby false false true true false false false true) else if k = 6 then some (fmV qa9 false false false false true true false false) else if k = 7 then some (fmV qbx false false false false false true false false) else none
theorem qdz (k : Int) : qdg (.int .u8 k) = qfj k := by
 unfold qdg qfj
 by_cases h1 : k = 1
 ·subst h1
  rw [qaf _ 7 1 _ (by decide)]; rw [qaf _ 6 1 _ (by decide)]; rw [qaf _ 5 1 _ (by decide)]; rw [qaf _ 4 1 _ (by decide)]; rw [qaf _ 3 1 _ (by decide)]; rw [qaf _ 2 1 _ (by decide)]; rw [qbm]; rfl
 by_cases h2 : k = 2
 ·subst h2
  rw [qaf _ 7 2 _ (by decide)]; rw [qaf _ 6 2 _ (by decide)]; rw [qaf _ 5 2 _ (by decide)]; rw [qaf _ 4 2 _ (by decide)]; rw [qaf _ 3 2 _ (by decide)]; rw [qbm]; rfl
 by_cases h3 : k = 3
 ·subst h3
  rw [qaf _ 7 3 _ (by decide)]; rw [qaf _ 6 3 _ (by decide)]; rw [qaf _ 5 3 _ (by decide)]; rw [qaf _ 4 3 _ (by decide)]; rw [qbm]; rfl
 by_cases h4 : k = 4
 ·subst h4
  rw [qaf _ 7 4 _ (by decide)]; rw [qaf _ 6 4 _ (by decide)]; rw [qaf _ 5 4 _ (by decide)]; rw [qbm]; rfl
 by_cases h5 : k = 5
 ·subst h5
  rw [qaf _ 7 5 _ (by decide)]; rw [qaf _ 6 5 _ (by decide)]; rw [qbm]; rfl
 by_cases h6 : k = 6
 ·subst h6
  rw [qaf _ 7 6 _ (by decide)]; rw [qbm]; rfl
 by_cases h7 : k = 7
 ·subst h7
  rw [qbm]; rfl
 rw [qaf _ 7 k _ h7]; rw [qaf _ 6 k _ h6]; rw [qaf _ 5 k _ h5]; rw [qaf _ 4 k _ h4]; rw [qaf _ 3 k _ h3]; rw [qaf _ 2 k _ h2]; rw [qaf _ 1 k _ h1];rw [if_neg h1]; rw [if_neg h2]; rw [if_neg h3]; rw [if_neg h4]; rw [if_neg h5]; rw [if_neg h6]; rw [if_neg h7]
theorem qf7 (W : World) : Calls Tryz.prog 31 #[] W fun e w' => ∃ m, e = .returned (.map (some m)) /\ FMap w' 61 m qdg 7 /\ Below W.heap.size W w' /\ W.heap.size <= m := by
 have m0 := FMap.made W 61;obtain ⟨w1, r1, m1, g1⟩ := m0.put_new K61 Tryz.underlying71 (by decide) (qfk 1 (by decide) (by decide)) (by first | rfl | (repeat (rw [qaf _ _ _ _ (by decide)]))) (fmV qbw false false false false true false false false);obtain ⟨w2, r2, m2, g2⟩ := m1.put_new K61 Tryz.underlying71 (by decide) (qfk 2 (by decide) (by decide)) (by first | rfl | (repeat (rw [qaf _ _ _ _ (by decide)]))) (fmV qcu false false true false false false false false);obtain ⟨w3, r3, m3, g3⟩ := m2.put_new K61 Tryz.underlying71 (by decide) (qfk 3 (by decide) (by decide)) (by first | rfl | (repeat (rw [qaf _ _ _ _ (by decide)]))) (fmV qcs false false false false false true false false);obtain ⟨w4, r4, m4, g4⟩ := m3.put_new K61 Tryz.underlying71 (by decide) (qfk 4 (by decide) (by decide)) (by first | rfl | (repeat (rw [qaf _ _ _ _ (by decide)]))) (fmV qct false false false false false true true false);obtain ⟨w5, r5, m5, g5⟩ := m4.put_new K61 Tryz.underlying71 (by decide) (qfk 5 (by decide) (by decide)) (by first | rfl | (repeat (rw [qaf _ _ _ _ (by decide)]))) (fmV qby false false true true false false false true);obtain ⟨w6, r6, m6, g6⟩ := m5.put_new K61 Tryz.underlying71 (by decide) (qfk 6 (by decide) (by decide)) (by first | rfl | (repeat (rw [qaf _ _ _ _ (by decide)]))) (fmV qa9 false false false false true true false false);obtain ⟨w7, r7, m7, g7⟩ := m6.put_new K61 Tryz.underlying71 (by decide) (qfk 7 (by decide) (by decide)) (by first | rfl | (repeat (rw [qaf _ _ _ _ (by decide)]))) (fmV qbx false false false false false true false false);simp only [fmV, qbw, qcu, qcs, qct, qby, qa9, qbx] at r1 r2 r3 r4 r5 r6 r7;have HM := Zh m7
 have HB := Zh (show Below W.heap.size W w7 from by
  have h0 := qab W (.map #[] 0);have h1 : Below W.heap.size W w1 := h0.trans ((Only.of_grown g1).below (fun k e => by injection e with e; exact Nat.le_of_eq e) h0.size);have h2 : Below W.heap.size W w2 := h1.trans ((Only.of_grown g2).below (fun k e => by injection e with e; exact Nat.le_of_eq e) h1.size);have h3 : Below W.heap.size W w3 := h2.trans ((Only.of_grown g3).below (fun k e => by injection e with e; exact Nat.le_of_eq e) h2.size);have h4 : Below W.heap.size W w4 := h3.trans ((Only.of_grown g4).below (fun k e => by injection e with e; exact Nat.le_of_eq e) h3.size);have h5 : Below W.heap.size W w5 := h4.trans ((Only.of_grown g5).below (fun k e => by injection e with e; exact Nat.le_of_eq e) h4.size);have h6 : Below W.heap.size W w6 := h5.trans ((Only.of_grown g6).below (fun k e => by injection e with e; exact Nat.le_of_eq e) h5.size);have h7 : Below W.heap.size W w7 := h6.trans ((Only.of_grown g7).below (fun k e => by injection e with e; exact Nat.le_of_eq e) h6.size)
  exact h7)
 clear m0 m1 m2 m3 m4 m5 m6 m7 g1 g2 g3 g4 g5 g6 g7;have hmm := @run_makeMap Tryz.prog;go_enter Tryz.func31, Tryz.ntmps31
 go_wp2_with fail
 refine bodyPost_ret (v := .map (some W.heap.size)) (by simp [results, Tryz.results31, go_sem]) rfl ⟨W.heap.size, rfl, ?_, HB.o, Nat.le_refl _⟩;have h := HM.o
 simpa [qdg] using h
end Go.Proofs.YtookoagcmejkpaaGreatDoor
