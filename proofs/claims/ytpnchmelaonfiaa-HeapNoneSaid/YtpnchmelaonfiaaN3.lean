/- HeapNone: a range over the sequence of a heap that is not there, or has none: no round. -/
import Derived.Test.YtpnchmelaonfiaaN2
import Derived.RangeFuncNested
import Derived.RangeFuncBound
import Derived.RangeFuncCalls
import Derived.RangeFuncLeaves
import Derived.Shelf.Abstract
import Derived.Shelf.RegionOpen
import Derived.WalkKit
import Derived.OwnWalkIn
import Derived.TacticsInMore
import Derived.LoopNIn
import Derived.LoopIn
namespace Go.Proofs.Ytpnchmelaonfiaa
open Go Go.RowKit Go.Shelf
attribute [local go_sem] Oper.semAt_some

set_option maxRecDepth 100000 in
set_option maxHeartbeats 800000 in
theorem stops_nil {α : Type} (F : Fence) (n : Nat) (hn : 1 ≤ n) (h50 : F.fn 50) (hro : F.round = none) (Bn : Nat) (encs : α → Array Value) (Kp : World → World → Prop) (w : World) (hlt : Bn < w.heap.size) (hb : w.cell? ⟨Bn, 0, none⟩ = some (.pointer none)) :
    SeqStopsK F n Try.prog 50 #[.pointer (some ⟨Bn, 0, none⟩)] encs Kp (fun xs => xs = []) (fun _ => False) 0 w := by
  intro l J Jx W hW hJ hJx hY h0
  have hb2 := cell_later hW hb
  refine callsIn_of_wp Try.func50 rfl h50 ?_ hro
  simp only [Try.ntmps50, List.size_toArray, List.length_cons, List.length_nil, Nat.reduceAdd, Nat.reduceSub, Array.replicate_succ, Array.replicate_zero, List.push_toArray, List.append_toArray, List.nil_append, List.cons_append]
  gi_wp2
  refine bodyPost_ret (results_none rfl _ _ _) rfl ?_
  exact ⟨⟨_, rfl⟩, .inl ⟨[], rfl, h0⟩⟩
set_option maxRecDepth 100000 in
set_option maxHeartbeats 800000 in
theorem stops_zero {α : Type} (n : Nat) (hn : 1 ≤ n) (a Bn : Nat) (encs : α → Array Value) (Kp : World → World → Prop) (w : World) (hlt : Bn < w.heap.size) (hb : w.cell? ⟨Bn, 0, none⟩ = some (.pointer (some ⟨a, 0, none⟩))) (hz : ZeroAt w a) :
    SeqStopsK Fence.wide n Try.prog 50 #[.pointer (some ⟨Bn, 0, none⟩)] encs Kp (fun xs => xs = []) (fun _ => False) 0 w := by
  intro l J Jx W hW hJ hJx hY h0
  have hb2 := cell_later hW hb
  have z2 := cell_later hW hz.2.2
  have H1 := clone_nil W
  have H2 := sort_nil (.func (.func 53) #[.pointer (some ⟨a, 0, none⟩)] #[]) W
  refine callsIn_of_wp Try.func50 rfl trivial ?_ rfl
  simp only [Try.ntmps50, List.size_toArray, List.length_cons, List.length_nil, Nat.reduceAdd, Nat.reduceSub, Array.replicate_succ, Array.replicate_zero, List.push_toArray, List.append_toArray, List.nil_append, List.cons_append]
  gi_wp2_with (first | (refine ⟨trivial, ?_⟩; gi_at_call 51; refine (callsIn_wide.2 H1).mono ?_; rintro e w' ⟨rfl, rfl⟩) | (refine ⟨trivial, ?_⟩; gi_at_call 52; refine (callsIn_wide.2 H2).mono ?_; rintro e w' ⟨rfl, rfl⟩) | (gi_at_call 51; refine (callsIn_wide.2 H1).mono ?_; rintro e w' ⟨rfl, rfl⟩) | (gi_at_call 52; refine (callsIn_wide.2 H2).mono ?_; rintro e w' ⟨rfl, rfl⟩))
  gi_loopw [19] (fun i wr => i = .int .i64 0 ∧ w' = wr) (fun _ _ => 0)
  case atStart => exact ⟨rfl, rfl⟩
  case round =>
    obtain ⟨rfl, rfl⟩ := hrel
    gi_wp2
    go_end0
    exact ⟨⟨_, rfl⟩, .inl ⟨[], rfl, h0⟩⟩
end Go.Proofs.Ytpnchmelaonfiaa
