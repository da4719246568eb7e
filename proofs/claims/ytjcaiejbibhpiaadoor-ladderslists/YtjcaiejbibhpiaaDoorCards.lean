/-
  DERIVED. GIVEN WITH THE SEED: THE CARDS: each row of YtjcaiejbibhpiaaDoorRows.lean that lists a variable, with what it lists TIED to the program's text (the seventh form; the later family's looks); each row that meets fmt, with fmt's text TOLD by the authors' own Lean function (tested against real Go, not proved from fmt's source: count such statements apart). THE CARD IS WHAT COUNTS. Prove the row's statement (the work); the ties are given (YtjcaiejbibhpiaaDoorTie.lean); close each card by the builder's one call (the guide's Derived/Test/ToyasCard.lean, 'card_holds'). Laid BY PROGRAM, IN A SANDBOX (cutbox-door.mjs). By AI agents, Wed Nov 11 2026. No macro, syntax, notation, axiom, sorry.
-/
import Derived.Test.YtjcaiejbibhpiaaDoorRows
import GoSem.ClaimSeven
namespace Go.Proofs.YtjcaiejbibhpiaaDoor
namespace Rows

/-- THE TIED CARD OF 'timekeeperlaw06.LaddersLists'. -/
def laddersListsCard : Claim7 := { stood := { row := laddersListsRow, standIns := [], harness := (true, "ab285965e8571789166a03a60f7b72860f2cb95b58cbf2cf79cb40f1b0985c29"), looks := false }, kinds := [], alts := [], laidByText := true, laidKinds := [.data, .data, .data], laidTests := true, laidLooks := .later }
def LaddersListsCardSaid : Prop := Claim7.holds Tryd.pinned (.plain (OpenSpec.ofChange laddersListsSpec)) laddersListsCard

/-- THE SECOND FORM's CARD OF 'timekeeperlaw06.LaddersLists'. -/
def laddersListsUptoCard : Claim7 := { stood := { row := laddersListsUptoRow, standIns := [], harness := (true, "ab285965e8571789166a03a60f7b72860f2cb95b58cbf2cf79cb40f1b0985c29"), looks := false }, kinds := [], alts := [], laidByText := true, laidKinds := [.data, .data, .data], laidTests := true, laidLooks := .later }
def LaddersListsUptoCardSaid : Prop := Claim7.holds Tryd.pinned (.plain (OpenSpec.upto laddersListsSpec)) laddersListsUptoCard
end Rows
end Go.Proofs.YtjcaiejbibhpiaaDoor
