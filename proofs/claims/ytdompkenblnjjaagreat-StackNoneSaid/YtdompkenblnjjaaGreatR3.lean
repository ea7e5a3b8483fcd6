/- The program's Plain; Tokens of too many bytes. -/
import Derived.Test.YtdompkenblnjjaaGreatR2
namespace Go.Proofs.YtdompkenblnjjaaGreat
open Go Go.RowKit

/-- a table of the classes, in block R. -/
def ClAt (w : World) (R : Nat) : Prop := ∀ b : UInt8, w.cell? ⟨R, b.toNat, none⟩ = some (.int .u8 (clB b : Int))
set_option maxRecDepth 100000 in
theorem plain_all (w : List UInt8) : plainB w = (allB syB w && !(dgB (w.getD 0 0))) := by unfold plainB allB; rfl
set_option maxRecDepth 100000 in
set_option maxHeartbeats 400000 in
theorem reftokens_long (p : Option Addr) (c n : Nat) (W : World) (hn : 1048576 < n) :
    Calls Tryz.prog 24 #[.slice p n c] W fun e w' => e = .returned (.tuple #[.slice none 0 0, .int .i64 0, .int .i64 3]) ∧ W = w' := by
  have i0 : (1048576 : Int) < (n : Int) := by omega
  go_enter Tryz.func24, Tryz.ntmps24
  go_wp2_with fail
  go_ret3
  exact ⟨rfl, rfl⟩
end Go.Proofs.YtdompkenblnjjaaGreat

