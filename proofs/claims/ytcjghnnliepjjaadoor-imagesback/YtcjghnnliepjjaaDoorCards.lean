/-
  DERIVED. GIVEN WITH THE SEED: THE CARDS: each row of YtcjghnnliepjjaaDoorRows.lean that lists a variable, with what it lists TIED to the program's text (the seventh form; the later family's looks); each row that meets fmt, with fmt's text TOLD by the authors' own Lean function (tested against real Go, not proved from fmt's source: count such statements apart). THE CARD IS WHAT COUNTS. Prove the row's statement (the work); the ties are given (YtcjghnnliepjjaaDoorTie.lean); close each card by the builder's one call (the guide's Derived/Test/ToyasCard.lean, 'card_holds'). Laid BY PROGRAM, IN A SANDBOX (cutbox-door.mjs). By AI agents, Wed Nov 11 2026. No macro, syntax, notation, axiom, sorry.
-/
import Derived.Test.YtcjghnnliepjjaaDoorRows
import GoSem.ClaimSeven
namespace Go.Proofs.YtcjghnnliepjjaaDoor
namespace Rows

/-- THE TIED CARD OF 'timekeeperlaw13.ImagesBack'. -/
def imagesBackCard : Claim7 := { stood := { row := imagesBackRow, standIns := [], harness := (true, "c6d03dbefdf1d0d3b27ac97eb6466c18aa54cd96a497fb06f4319079014b09b1"), looks := true }, kinds := [], alts := [], laidByText := true, laidKinds := [.data, .data, .data, .data, .sentinel, .sentinel, .wider, .pinned], laidTests := true, laidLooks := .later }
def ImagesBackCardSaid : Prop := Claim7.holds Tryd.pinned (.plain (OpenSpec.ofChange imagesBackSpec)) imagesBackCard

/-- THE SECOND FORM's CARD OF 'timekeeperlaw13.ImagesBack'. -/
def imagesBackUptoCard : Claim7 := { stood := { row := imagesBackUptoRow, standIns := [], harness := (true, "c6d03dbefdf1d0d3b27ac97eb6466c18aa54cd96a497fb06f4319079014b09b1"), looks := true }, kinds := [], alts := [], laidByText := true, laidKinds := [.data, .data, .data, .data, .sentinel, .sentinel, .wider, .pinned], laidTests := true, laidLooks := .later }
def ImagesBackUptoCardSaid : Prop := Claim7.holds Tryd.pinned (.plain (OpenSpec.upto imagesBackSpec)) imagesBackUptoCard
end Rows
end Go.Proofs.YtcjghnnliepjjaaDoor
