/-
  DERIVED. GIVEN WITH THE SEED: THE CARDS: each row of YtkogmmldkpepaaaDoorRows.lean that lists a variable, with what it lists TIED to the program's text (the seventh form; the later family's looks); each row that meets fmt, with fmt's text TOLD by the authors' own Lean function (tested against real Go, not proved from fmt's source: count such statements apart). THE CARD IS WHAT COUNTS. Prove the row's statement (the work); the ties are given (YtkogmmldkpepaaaDoorTie.lean); close each card by the builder's one call (the guide's Derived/Test/ToyasCard.lean, 'card_holds'). Laid BY PROGRAM, IN A SANDBOX (cutbox-door.mjs). By AI agents, Wed Nov 11 2026. No macro, syntax, notation, axiom, sorry.
-/
import Derived.Test.YtkogmmldkpepaaaDoorRows
import GoSem.ClaimSeven
namespace Go.Proofs.YtkogmmldkpepaaaDoor
namespace Rows

/-- THE TIED CARD OF 'timekeeperlaw08.HandlesPlay'. -/
def handlesPlayCard : Claim7 := { stood := { row := handlesPlayRow, standIns := [], harness := (true, "0c6d82f0ff34d9b7f4b43fb80f7d9043cec7c8ad79d71a6810aee0bbcbeb0bf8"), looks := false }, kinds := [], alts := [], laidByText := true, laidKinds := [.data, .data, .data], laidTests := true, laidLooks := .later }
def HandlesPlayCardSaid : Prop := Claim7.holds Tryd.pinned (.plain (OpenSpec.ofChange handlesPlaySpec)) handlesPlayCard

/-- THE SECOND FORM's CARD OF 'timekeeperlaw08.HandlesPlay'. -/
def handlesPlayUptoCard : Claim7 := { stood := { row := handlesPlayUptoRow, standIns := [], harness := (true, "0c6d82f0ff34d9b7f4b43fb80f7d9043cec7c8ad79d71a6810aee0bbcbeb0bf8"), looks := false }, kinds := [], alts := [], laidByText := true, laidKinds := [.data, .data, .data], laidTests := true, laidLooks := .later }
def HandlesPlayUptoCardSaid : Prop := Claim7.holds Tryd.pinned (.plain (OpenSpec.upto handlesPlaySpec)) handlesPlayUptoCard
end Rows
end Go.Proofs.YtkogmmldkpepaaaDoor
