/-
  DERIVED. GIVEN WITH THE SEED: THE CARDS: each row of YtcjghnnliepjjaaGreatDoorRows.lean that lists a variable, with what it lists TIED to the program's text (the seventh form; the later family's looks); each row that meets fmt, with fmt's text TOLD by the authors' own Lean function (tested against real Go, not proved from fmt's source: count such statements apart). THE CARD IS WHAT COUNTS. Prove the row's statement (the work); the ties are given (YtcjghnnliepjjaaGreatDoorTie.lean); close each card by the builder's one call (the guide's Derived/Test/ToyasCard.lean, 'card_holds'). Laid BY PROGRAM, IN A SANDBOX (cutbox-door.mjs). By AI agents, Wed Nov 11 2026. No macro, syntax, notation, axiom, sorry.
-/
import Derived.Test.YtcjghnnliepjjaaGreatDoorRows
import GoSem.ClaimSeven
namespace Go.Proofs.YtcjghnnliepjjaaGreatDoor
namespace Rows

/-- THE TIED CARD OF 'timekeeperlaw13.ImagesPuts'. -/
def imagesPutsCard : Claim7 := { stood := { row := imagesPutsRow, standIns := [], harness := (true, "d5a061368243e0aa0cab9b97c9ecdba64e17d1eac1bde7ce7b1f506b255b9e60"), looks := true }, kinds := [], alts := [], laidByText := true, laidKinds := [.data, .data, .data, .sentinel, .sentinel, .wider], laidTests := true, laidLooks := .later }
def ImagesPutsCardSaid : Prop := Claim7.holds Tryz.pinned (.plain (OpenSpec.ofChange imagesPutsSpec)) imagesPutsCard

/-- THE TIED CARD OF 'timekeeperlaw13.ImagesGets'. -/
def imagesGetsCard : Claim7 := { stood := { row := imagesGetsRow, standIns := [], harness := (true, "d5a061368243e0aa0cab9b97c9ecdba64e17d1eac1bde7ce7b1f506b255b9e60"), looks := true }, kinds := [], alts := [], laidByText := true, laidKinds := [.data, .data, .data, .sentinel, .sentinel, .wider], laidTests := true, laidLooks := .later }
def ImagesGetsCardSaid : Prop := Claim7.holds Tryz.pinned (.plain (OpenSpec.ofChange imagesGetsSpec)) imagesGetsCard

/-- THE TIED CARD OF 'timekeeperlaw13.ImagesParses'. -/
def imagesParsesCard : Claim7 := { stood := { row := imagesParsesRow, standIns := [], harness := (true, "d5a061368243e0aa0cab9b97c9ecdba64e17d1eac1bde7ce7b1f506b255b9e60"), looks := true }, kinds := [], alts := [], laidByText := true, laidKinds := [.data, .data, .data, .data, .sentinel, .sentinel, .wider, .pinned], laidTests := true, laidLooks := .later }
def ImagesParsesCardSaid : Prop := Claim7.holds Tryz.pinned (.plain (OpenSpec.ofChange imagesParsesSpec)) imagesParsesCard

/-- THE TIED CARD OF 'timekeeperlaw13.ImagesLines'. -/
def imagesLinesCard : Claim7 := { stood := { row := imagesLinesRow, standIns := [], harness := (true, "d5a061368243e0aa0cab9b97c9ecdba64e17d1eac1bde7ce7b1f506b255b9e60"), looks := true }, kinds := [], alts := [], laidByText := true, laidKinds := [.data, .data, .data, .data, .sentinel, .sentinel, .wider, .pinned], laidTests := true, laidLooks := .later }
def ImagesLinesCardSaid : Prop := Claim7.holds Tryz.pinned (.plain (OpenSpec.ofChange imagesLinesSpec)) imagesLinesCard

/-- THE TIED CARD OF 'timekeeperlaw13.ImagesOdd'. -/
def imagesOddCard : Claim7 := { stood := { row := imagesOddRow, standIns := [], harness := (true, "d5a061368243e0aa0cab9b97c9ecdba64e17d1eac1bde7ce7b1f506b255b9e60"), looks := true }, kinds := [], alts := [], laidByText := true, laidKinds := [.data, .data, .data, .data, .sentinel, .sentinel, .wider, .pinned], laidTests := true, laidLooks := .later }
def ImagesOddCardSaid : Prop := Claim7.holds Tryz.pinned (.plain (OpenSpec.ofChange imagesOddSpec)) imagesOddCard

/-- THE SECOND FORM's CARD OF 'timekeeperlaw13.ImagesPuts'. -/
def imagesPutsUptoCard : Claim7 := { stood := { row := imagesPutsUptoRow, standIns := [], harness := (true, "d5a061368243e0aa0cab9b97c9ecdba64e17d1eac1bde7ce7b1f506b255b9e60"), looks := true }, kinds := [], alts := [], laidByText := true, laidKinds := [.data, .data, .data, .sentinel, .sentinel, .wider], laidTests := true, laidLooks := .later }
def ImagesPutsUptoCardSaid : Prop := Claim7.holds Tryz.pinned (.plain (OpenSpec.upto imagesPutsSpec)) imagesPutsUptoCard

/-- THE SECOND FORM's CARD OF 'timekeeperlaw13.ImagesGets'. -/
def imagesGetsUptoCard : Claim7 := { stood := { row := imagesGetsUptoRow, standIns := [], harness := (true, "d5a061368243e0aa0cab9b97c9ecdba64e17d1eac1bde7ce7b1f506b255b9e60"), looks := true }, kinds := [], alts := [], laidByText := true, laidKinds := [.data, .data, .data, .sentinel, .sentinel, .wider], laidTests := true, laidLooks := .later }
def ImagesGetsUptoCardSaid : Prop := Claim7.holds Tryz.pinned (.plain (OpenSpec.upto imagesGetsSpec)) imagesGetsUptoCard

/-- THE SECOND FORM's CARD OF 'timekeeperlaw13.ImagesParses'. -/
def imagesParsesUptoCard : Claim7 := { stood := { row := imagesParsesUptoRow, standIns := [], harness := (true, "d5a061368243e0aa0cab9b97c9ecdba64e17d1eac1bde7ce7b1f506b255b9e60"), looks := true }, kinds := [], alts := [], laidByText := true, laidKinds := [.data, .data, .data, .data, .sentinel, .sentinel, .wider, .pinned], laidTests := true, laidLooks := .later }
def ImagesParsesUptoCardSaid : Prop := Claim7.holds Tryz.pinned (.plain (OpenSpec.upto imagesParsesSpec)) imagesParsesUptoCard

/-- THE SECOND FORM's CARD OF 'timekeeperlaw13.ImagesLines'. -/
def imagesLinesUptoCard : Claim7 := { stood := { row := imagesLinesUptoRow, standIns := [], harness := (true, "d5a061368243e0aa0cab9b97c9ecdba64e17d1eac1bde7ce7b1f506b255b9e60"), looks := true }, kinds := [], alts := [], laidByText := true, laidKinds := [.data, .data, .data, .data, .sentinel, .sentinel, .wider, .pinned], laidTests := true, laidLooks := .later }
def ImagesLinesUptoCardSaid : Prop := Claim7.holds Tryz.pinned (.plain (OpenSpec.upto imagesLinesSpec)) imagesLinesUptoCard

/-- THE SECOND FORM's CARD OF 'timekeeperlaw13.ImagesOdd'. -/
def imagesOddUptoCard : Claim7 := { stood := { row := imagesOddUptoRow, standIns := [], harness := (true, "d5a061368243e0aa0cab9b97c9ecdba64e17d1eac1bde7ce7b1f506b255b9e60"), looks := true }, kinds := [], alts := [], laidByText := true, laidKinds := [.data, .data, .data, .data, .sentinel, .sentinel, .wider, .pinned], laidTests := true, laidLooks := .later }
def ImagesOddUptoCardSaid : Prop := Claim7.holds Tryz.pinned (.plain (OpenSpec.upto imagesOddSpec)) imagesOddUptoCard
end Rows
end Go.Proofs.YtcjghnnliepjjaaGreatDoor
