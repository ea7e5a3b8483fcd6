/-
  DERIVED. GIVEN WITH THE SEED: THE CARDS: each row of YtgmkcdpbkcojnacGreatDoorRows.lean that lists a variable, with what it lists TIED to the program's text (the seventh form; the later family's looks); each row that meets fmt, with fmt's text TOLD by the authors' own Lean function (tested against real Go, not proved from fmt's source: count such statements apart). THE CARD IS WHAT COUNTS. Prove the row's statement (the work); the ties are given (YtgmkcdpbkcojnacGreatDoorTie.lean); close each card by the builder's one call (the guide's Derived/Test/ToyasCard.lean, 'card_holds'). Laid BY PROGRAM, IN A SANDBOX (cutbox-door.mjs). By AI agents, Wed Nov 11 2026. No macro, syntax, notation, axiom, sorry.
-/
import Derived.Test.YtgmkcdpbkcojnacGreatDoorRows
import GoSem.ClaimSeven
namespace Go.Proofs.YtgmkcdpbkcojnacGreatDoor
namespace Rows

/-- THE TIED CARD OF 'juristlaw27.AnswersNone'. -/
def answersNoneCard : Claim7 := { stood := { row := answersNoneRow, standIns := [], harness := (true, "a881eb750e5b5a45dee033f37c431b6ba5867ab2db08182eff5000a2036e5be8"), looks := false }, kinds := [], alts := [], laidByText := true, laidKinds := [.data, .data, .data, .data, .pinned], laidTests := true, laidLooks := .later }
def AnswersNoneCardSaid : Prop := Claim7.holds Tryz.pinned (.plain (OpenSpec.ofChange answersNoneSpec)) answersNoneCard

/-- THE SECOND FORM's CARD OF 'juristlaw27.AnswersNone'. -/
def answersNoneUptoCard : Claim7 := { stood := { row := answersNoneUptoRow, standIns := [], harness := (true, "a881eb750e5b5a45dee033f37c431b6ba5867ab2db08182eff5000a2036e5be8"), looks := false }, kinds := [], alts := [], laidByText := true, laidKinds := [.data, .data, .data, .data, .pinned], laidTests := true, laidLooks := .later }
def AnswersNoneUptoCardSaid : Prop := Claim7.holds Tryz.pinned (.plain (OpenSpec.upto answersNoneSpec)) answersNoneUptoCard
end Rows
end Go.Proofs.YtgmkcdpbkcojnacGreatDoor
