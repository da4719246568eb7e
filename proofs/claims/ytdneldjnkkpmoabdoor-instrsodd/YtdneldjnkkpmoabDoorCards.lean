/-
  DERIVED. GIVEN WITH THE SEED: THE CARDS: each row of YtdneldjnkkpmoabDoorRows.lean that lists a variable, with what it lists TIED to the program's text (the seventh form; the later family's looks); each row that meets fmt, with fmt's text TOLD by the authors' own Lean function (tested against real Go, not proved from fmt's source: count such statements apart). THE CARD IS WHAT COUNTS. Prove the row's statement (the work); the ties are given (YtdneldjnkkpmoabDoorTie.lean); close each card by the builder's one call (the guide's Derived/Test/ToyasCard.lean, 'card_holds'). Laid BY PROGRAM, IN A SANDBOX (cutbox-door.mjs). By AI agents, Wed Nov 11 2026. No macro, syntax, notation, axiom, sorry.
-/
import Derived.Test.YtdneldjnkkpmoabDoorRows
import GoSem.ClaimSeven
namespace Go.Proofs.YtdneldjnkkpmoabDoor
namespace Rows

/-- THE TIED CARD OF 'timekeeperlaw02.InstrsOdd'. -/
def instrsOddCard : Claim7 := { stood := { row := instrsOddRow, standIns := [], harness := (true, "abf567f5a2e1da4b8c81e61ea52dcddfbffac7570186899189c0add27a495279"), looks := true }, kinds := [], alts := [], laidByText := true, laidKinds := [.data, .data, .data, .data, .sentinel, .sentinel, .wider, .pinned], laidTests := true, laidLooks := .later }
def InstrsOddCardSaid : Prop := Claim7.holds Tryd.pinned (.plain (OpenSpec.ofChange instrsOddSpec)) instrsOddCard

/-- THE TIED CARD OF 'timekeeperlaw02.InstrsUnlike'. -/
def instrsUnlikeCard : Claim7 := { stood := { row := instrsUnlikeRow, standIns := [], harness := (true, "abf567f5a2e1da4b8c81e61ea52dcddfbffac7570186899189c0add27a495279"), looks := true }, kinds := [], alts := [], laidByText := true, laidKinds := [.data, .data, .data, .data, .sentinel, .sentinel, .wider, .pinned], laidTests := true, laidLooks := .later }
def InstrsUnlikeCardSaid : Prop := Claim7.holds Tryd.pinned (.plain (OpenSpec.ofChange instrsUnlikeSpec)) instrsUnlikeCard

/-- THE TIED CARD OF 'timekeeperlaw02.InstrsFields'. -/
def instrsFieldsCard : Claim7 := { stood := { row := instrsFieldsRow, standIns := [], harness := (true, "abf567f5a2e1da4b8c81e61ea52dcddfbffac7570186899189c0add27a495279"), looks := true }, kinds := [], alts := [], laidByText := true, laidKinds := [.data, .data, .data, .data, .sentinel, .sentinel, .wider, .pinned], laidTests := true, laidLooks := .later }
def InstrsFieldsCardSaid : Prop := Claim7.holds Tryd.pinned (.plain (OpenSpec.ofChange instrsFieldsSpec)) instrsFieldsCard

/-- THE SECOND FORM's CARD OF 'timekeeperlaw02.InstrsOdd'. -/
def instrsOddUptoCard : Claim7 := { stood := { row := instrsOddUptoRow, standIns := [], harness := (true, "abf567f5a2e1da4b8c81e61ea52dcddfbffac7570186899189c0add27a495279"), looks := true }, kinds := [], alts := [], laidByText := true, laidKinds := [.data, .data, .data, .data, .sentinel, .sentinel, .wider, .pinned], laidTests := true, laidLooks := .later }
def InstrsOddUptoCardSaid : Prop := Claim7.holds Tryd.pinned (.plain (OpenSpec.upto instrsOddSpec)) instrsOddUptoCard

/-- THE SECOND FORM's CARD OF 'timekeeperlaw02.InstrsUnlike'. -/
def instrsUnlikeUptoCard : Claim7 := { stood := { row := instrsUnlikeUptoRow, standIns := [], harness := (true, "abf567f5a2e1da4b8c81e61ea52dcddfbffac7570186899189c0add27a495279"), looks := true }, kinds := [], alts := [], laidByText := true, laidKinds := [.data, .data, .data, .data, .sentinel, .sentinel, .wider, .pinned], laidTests := true, laidLooks := .later }
def InstrsUnlikeUptoCardSaid : Prop := Claim7.holds Tryd.pinned (.plain (OpenSpec.upto instrsUnlikeSpec)) instrsUnlikeUptoCard

/-- THE SECOND FORM's CARD OF 'timekeeperlaw02.InstrsFields'. -/
def instrsFieldsUptoCard : Claim7 := { stood := { row := instrsFieldsUptoRow, standIns := [], harness := (true, "abf567f5a2e1da4b8c81e61ea52dcddfbffac7570186899189c0add27a495279"), looks := true }, kinds := [], alts := [], laidByText := true, laidKinds := [.data, .data, .data, .data, .sentinel, .sentinel, .wider, .pinned], laidTests := true, laidLooks := .later }
def InstrsFieldsUptoCardSaid : Prop := Claim7.holds Tryd.pinned (.plain (OpenSpec.upto instrsFieldsSpec)) instrsFieldsUptoCard
end Rows
end Go.Proofs.YtdneldjnkkpmoabDoor
