/-
  DERIVED. GIVEN WITH THE SEED: THE CARDS: each row of YtdneldjnkkpmoaaDoorRows.lean that lists a variable, with what it lists TIED to the program's text (the seventh form; the later family's looks); each row that meets fmt, with fmt's text TOLD by the authors' own Lean function (tested against real Go, not proved from fmt's source: count such statements apart). THE CARD IS WHAT COUNTS. Prove the row's statement (the work); the ties are given (YtdneldjnkkpmoaaDoorTie.lean); close each card by the builder's one call (the guide's Derived/Test/ToyasCard.lean, 'card_holds'). Laid BY PROGRAM, IN A SANDBOX (cutbox-door.mjs). By AI agents, Wed Nov 11 2026. No macro, syntax, notation, axiom, sorry.
-/
import Derived.Test.YtdneldjnkkpmoaaDoorRows
import GoSem.ClaimSeven
namespace Go.Proofs.YtdneldjnkkpmoaaDoor
namespace Rows

/-- THE TIED CARD OF 'timekeeperlaw02.InstrsBytes'. -/
def instrsBytesCard : Claim7 := { stood := { row := instrsBytesRow, standIns := [], harness := (true, "1de0979d00dc6deb348f28d0a8a564eefaa309bbe92a55fdfeeb00a1a400ecf9"), looks := true }, kinds := [], alts := [], laidByText := true, laidKinds := [.data, .data, .data, .sentinel, .sentinel, .wider], laidTests := true, laidLooks := .later }
def InstrsBytesCardSaid : Prop := Claim7.holds Tryd.pinned (.plain (OpenSpec.ofChange instrsBytesSpec)) instrsBytesCard

/-- THE TIED CARD OF 'timekeeperlaw02.InstrsTexts'. -/
def instrsTextsCard : Claim7 := { stood := { row := instrsTextsRow, standIns := [], harness := (true, "1de0979d00dc6deb348f28d0a8a564eefaa309bbe92a55fdfeeb00a1a400ecf9"), looks := true }, kinds := [], alts := [], laidByText := true, laidKinds := [.data, .data, .data, .data, .sentinel, .sentinel, .wider, .pinned], laidTests := true, laidLooks := .later }
def InstrsTextsCardSaid : Prop := Claim7.holds Tryd.pinned (.plain (OpenSpec.ofChange instrsTextsSpec)) instrsTextsCard

/-- THE TIED CARD OF 'timekeeperlaw02.InstrsBack'. -/
def instrsBackCard : Claim7 := { stood := { row := instrsBackRow, standIns := [], harness := (true, "1de0979d00dc6deb348f28d0a8a564eefaa309bbe92a55fdfeeb00a1a400ecf9"), looks := true }, kinds := [], alts := [], laidByText := true, laidKinds := [.data, .data, .data, .data, .sentinel, .sentinel, .wider, .pinned], laidTests := true, laidLooks := .later }
def InstrsBackCardSaid : Prop := Claim7.holds Tryd.pinned (.plain (OpenSpec.ofChange instrsBackSpec)) instrsBackCard

/-- THE TIED CARD OF 'timekeeperlaw02.InstrsFour'. -/
def instrsFourCard : Claim7 := { stood := { row := instrsFourRow, standIns := [], harness := (true, "1de0979d00dc6deb348f28d0a8a564eefaa309bbe92a55fdfeeb00a1a400ecf9"), looks := true }, kinds := [], alts := [], laidByText := true, laidKinds := [.data, .data, .data, .data, .sentinel, .sentinel, .wider, .pinned], laidTests := true, laidLooks := .later }
def InstrsFourCardSaid : Prop := Claim7.holds Tryd.pinned (.plain (OpenSpec.ofChange instrsFourSpec)) instrsFourCard

/-- THE TIED CARD OF 'timekeeperlaw02.InstrsRegisters'. -/
def instrsRegistersCard : Claim7 := { stood := { row := instrsRegistersRow, standIns := [], harness := (true, "1de0979d00dc6deb348f28d0a8a564eefaa309bbe92a55fdfeeb00a1a400ecf9"), looks := true }, kinds := [], alts := [], laidByText := true, laidKinds := [.data, .data, .data, .data, .sentinel, .sentinel, .wider, .pinned], laidTests := true, laidLooks := .later }
def InstrsRegistersCardSaid : Prop := Claim7.holds Tryd.pinned (.plain (OpenSpec.ofChange instrsRegistersSpec)) instrsRegistersCard

/-- THE TIED CARD OF 'timekeeperlaw02.InstrsNumbers'. -/
def instrsNumbersCard : Claim7 := { stood := { row := instrsNumbersRow, standIns := [], harness := (true, "1de0979d00dc6deb348f28d0a8a564eefaa309bbe92a55fdfeeb00a1a400ecf9"), looks := true }, kinds := [], alts := [], laidByText := true, laidKinds := [.data, .data, .data, .data, .sentinel, .sentinel, .wider, .pinned], laidTests := true, laidLooks := .later }
def InstrsNumbersCardSaid : Prop := Claim7.holds Tryd.pinned (.plain (OpenSpec.ofChange instrsNumbersSpec)) instrsNumbersCard

/-- THE SECOND FORM's CARD OF 'timekeeperlaw02.InstrsBytes'. -/
def instrsBytesUptoCard : Claim7 := { stood := { row := instrsBytesUptoRow, standIns := [], harness := (true, "1de0979d00dc6deb348f28d0a8a564eefaa309bbe92a55fdfeeb00a1a400ecf9"), looks := true }, kinds := [], alts := [], laidByText := true, laidKinds := [.data, .data, .data, .sentinel, .sentinel, .wider], laidTests := true, laidLooks := .later }
def InstrsBytesUptoCardSaid : Prop := Claim7.holds Tryd.pinned (.plain (OpenSpec.upto instrsBytesSpec)) instrsBytesUptoCard

/-- THE SECOND FORM's CARD OF 'timekeeperlaw02.InstrsTexts'. -/
def instrsTextsUptoCard : Claim7 := { stood := { row := instrsTextsUptoRow, standIns := [], harness := (true, "1de0979d00dc6deb348f28d0a8a564eefaa309bbe92a55fdfeeb00a1a400ecf9"), looks := true }, kinds := [], alts := [], laidByText := true, laidKinds := [.data, .data, .data, .data, .sentinel, .sentinel, .wider, .pinned], laidTests := true, laidLooks := .later }
def InstrsTextsUptoCardSaid : Prop := Claim7.holds Tryd.pinned (.plain (OpenSpec.upto instrsTextsSpec)) instrsTextsUptoCard

/-- THE SECOND FORM's CARD OF 'timekeeperlaw02.InstrsBack'. -/
def instrsBackUptoCard : Claim7 := { stood := { row := instrsBackUptoRow, standIns := [], harness := (true, "1de0979d00dc6deb348f28d0a8a564eefaa309bbe92a55fdfeeb00a1a400ecf9"), looks := true }, kinds := [], alts := [], laidByText := true, laidKinds := [.data, .data, .data, .data, .sentinel, .sentinel, .wider, .pinned], laidTests := true, laidLooks := .later }
def InstrsBackUptoCardSaid : Prop := Claim7.holds Tryd.pinned (.plain (OpenSpec.upto instrsBackSpec)) instrsBackUptoCard

/-- THE SECOND FORM's CARD OF 'timekeeperlaw02.InstrsFour'. -/
def instrsFourUptoCard : Claim7 := { stood := { row := instrsFourUptoRow, standIns := [], harness := (true, "1de0979d00dc6deb348f28d0a8a564eefaa309bbe92a55fdfeeb00a1a400ecf9"), looks := true }, kinds := [], alts := [], laidByText := true, laidKinds := [.data, .data, .data, .data, .sentinel, .sentinel, .wider, .pinned], laidTests := true, laidLooks := .later }
def InstrsFourUptoCardSaid : Prop := Claim7.holds Tryd.pinned (.plain (OpenSpec.upto instrsFourSpec)) instrsFourUptoCard

/-- THE SECOND FORM's CARD OF 'timekeeperlaw02.InstrsRegisters'. -/
def instrsRegistersUptoCard : Claim7 := { stood := { row := instrsRegistersUptoRow, standIns := [], harness := (true, "1de0979d00dc6deb348f28d0a8a564eefaa309bbe92a55fdfeeb00a1a400ecf9"), looks := true }, kinds := [], alts := [], laidByText := true, laidKinds := [.data, .data, .data, .data, .sentinel, .sentinel, .wider, .pinned], laidTests := true, laidLooks := .later }
def InstrsRegistersUptoCardSaid : Prop := Claim7.holds Tryd.pinned (.plain (OpenSpec.upto instrsRegistersSpec)) instrsRegistersUptoCard

/-- THE SECOND FORM's CARD OF 'timekeeperlaw02.InstrsNumbers'. -/
def instrsNumbersUptoCard : Claim7 := { stood := { row := instrsNumbersUptoRow, standIns := [], harness := (true, "1de0979d00dc6deb348f28d0a8a564eefaa309bbe92a55fdfeeb00a1a400ecf9"), looks := true }, kinds := [], alts := [], laidByText := true, laidKinds := [.data, .data, .data, .data, .sentinel, .sentinel, .wider, .pinned], laidTests := true, laidLooks := .later }
def InstrsNumbersUptoCardSaid : Prop := Claim7.holds Tryd.pinned (.plain (OpenSpec.upto instrsNumbersSpec)) instrsNumbersUptoCard
end Rows
end Go.Proofs.YtdneldjnkkpmoaaDoor
