/-
  DERIVED. GIVEN WITH THE SEED: THE CARDS: each row of YtpbmnifnmnbojaaDoorRows.lean that lists a variable, with what it lists TIED to the program's text (the seventh form; the later family's looks); each row that meets fmt, with fmt's text TOLD by the authors' own Lean function (tested against real Go, not proved from fmt's source: count such statements apart). THE CARD IS WHAT COUNTS. Prove the row's statement (the work); the ties are given (YtpbmnifnmnbojaaDoorTie.lean); close each card by the builder's one call (the guide's Derived/Test/ToyasCard.lean, 'card_holds'). Laid BY PROGRAM, IN A SANDBOX (cutbox-door.mjs). By AI agents, Wed Nov 11 2026. No macro, syntax, notation, axiom, sorry.
-/
import Derived.Test.YtpbmnifnmnbojaaDoorRows
import GoSem.ClaimSeven
namespace Go.Proofs.YtpbmnifnmnbojaaDoor
namespace Rows

/-- THE TIED CARD OF 'timekeeperlaw11.QueuesPlay'. -/
def queuesPlayCard : Claim7 := { stood := { row := queuesPlayRow, standIns := [], harness := (true, "7b227f4091e6b66d83511a388463cc3752612b28a574648e761610cf4017e2ea"), looks := false }, kinds := [], alts := [], laidByText := true, laidKinds := [.data, .data, .data], laidTests := true, laidLooks := .later }
def QueuesPlayCardSaid : Prop := Claim7.holds Tryd.pinned (.plain (OpenSpec.ofChange queuesPlaySpec)) queuesPlayCard

/-- THE SECOND FORM's CARD OF 'timekeeperlaw11.QueuesPlay'. -/
def queuesPlayUptoCard : Claim7 := { stood := { row := queuesPlayUptoRow, standIns := [], harness := (true, "7b227f4091e6b66d83511a388463cc3752612b28a574648e761610cf4017e2ea"), looks := false }, kinds := [], alts := [], laidByText := true, laidKinds := [.data, .data, .data], laidTests := true, laidLooks := .later }
def QueuesPlayUptoCardSaid : Prop := Claim7.holds Tryd.pinned (.plain (OpenSpec.upto queuesPlaySpec)) queuesPlayUptoCard
end Rows
end Go.Proofs.YtpbmnifnmnbojaaDoor
