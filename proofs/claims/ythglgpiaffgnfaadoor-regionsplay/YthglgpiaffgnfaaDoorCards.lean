/-
  DERIVED. GIVEN WITH THE SEED: THE CARDS: each row of YthglgpiaffgnfaaDoorRows.lean that lists a variable, with what it lists TIED to the program's text (the seventh form; the later family's looks); each row that meets fmt, with fmt's text TOLD by the authors' own Lean function (tested against real Go, not proved from fmt's source: count such statements apart). THE CARD IS WHAT COUNTS. Prove the row's statement (the work); the ties are given (YthglgpiaffgnfaaDoorTie.lean); close each card by the builder's one call (the guide's Derived/Test/ToyasCard.lean, 'card_holds'). Laid BY PROGRAM, IN A SANDBOX (cutbox-door.mjs). By AI agents, Wed Nov 11 2026. No macro, syntax, notation, axiom, sorry.
-/
import Derived.Test.YthglgpiaffgnfaaDoorRows
import GoSem.ClaimSeven
namespace Go.Proofs.YthglgpiaffgnfaaDoor
namespace Rows

/-- THE TIED CARD OF 'timekeeperlaw04.RegionsPlay'. -/
def regionsPlayCard : Claim7 := { stood := { row := regionsPlayRow, standIns := [], harness := (true, "46993605f441bc1625cd3dffe0c36b98865c126d16d20791912aad36675cea9d"), looks := false }, kinds := [], alts := [], laidByText := true, laidKinds := [.data, .data, .data], laidTests := true, laidLooks := .later }
def RegionsPlayCardSaid : Prop := Claim7.holds Tryd.pinned (.plain (OpenSpec.ofChange regionsPlaySpec)) regionsPlayCard

/-- THE SECOND FORM's CARD OF 'timekeeperlaw04.RegionsPlay'. -/
def regionsPlayUptoCard : Claim7 := { stood := { row := regionsPlayUptoRow, standIns := [], harness := (true, "46993605f441bc1625cd3dffe0c36b98865c126d16d20791912aad36675cea9d"), looks := false }, kinds := [], alts := [], laidByText := true, laidKinds := [.data, .data, .data], laidTests := true, laidLooks := .later }
def RegionsPlayUptoCardSaid : Prop := Claim7.holds Tryd.pinned (.plain (OpenSpec.upto regionsPlaySpec)) regionsPlayUptoCard
end Rows
end Go.Proofs.YthglgpiaffgnfaaDoor
