/-
  DERIVED. GIVEN WITH THE SEED: THE CARDS: each row of YtpdibhgbaclbaaaDoorRows.lean that lists a variable, with what it lists TIED to the program's text (the seventh form; the later family's looks); each row that meets fmt, with fmt's text TOLD by the authors' own Lean function (tested against real Go, not proved from fmt's source: count such statements apart). THE CARD IS WHAT COUNTS. Prove the row's statement (the work); the ties are given (YtpdibhgbaclbaaaDoorTie.lean); close each card by the builder's one call (the guide's Derived/Test/ToyasCard.lean, 'card_holds'). Laid BY PROGRAM, IN A SANDBOX (cutbox-door.mjs). By AI agents, Wed Nov 11 2026. No macro, syntax, notation, axiom, sorry.
-/
import Derived.Test.YtpdibhgbaclbaaaDoorRows
import GoSem.ClaimSeven
namespace Go.Proofs.YtpdibhgbaclbaaaDoor
namespace Rows

/-- THE TIED CARD OF 'timekeeperlaw05.PoolsPlay'. -/
def poolsPlayCard : Claim7 := { stood := { row := poolsPlayRow, standIns := [], harness := (true, "2ad2cfccfeba6a74dfd67b9b511951aacfefb41d944f59ad8ce37bcf81c26150"), looks := false }, kinds := [], alts := [], laidByText := true, laidKinds := [.data, .data, .data], laidTests := true, laidLooks := .later }
def PoolsPlayCardSaid : Prop := Claim7.holds Tryd.pinned (.plain (OpenSpec.ofChange poolsPlaySpec)) poolsPlayCard

/-- THE SECOND FORM's CARD OF 'timekeeperlaw05.PoolsPlay'. -/
def poolsPlayUptoCard : Claim7 := { stood := { row := poolsPlayUptoRow, standIns := [], harness := (true, "2ad2cfccfeba6a74dfd67b9b511951aacfefb41d944f59ad8ce37bcf81c26150"), looks := false }, kinds := [], alts := [], laidByText := true, laidKinds := [.data, .data, .data], laidTests := true, laidLooks := .later }
def PoolsPlayUptoCardSaid : Prop := Claim7.holds Tryd.pinned (.plain (OpenSpec.upto poolsPlaySpec)) poolsPlayUptoCard
end Rows
end Go.Proofs.YtpdibhgbaclbaaaDoor
