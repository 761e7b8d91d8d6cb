/-
  DERIVED. GIVEN WITH THE SEED: THE CARDS: each row of YtcjldhnjcmhfhabDoorRows.lean that lists a variable, with what it lists TIED to the program's text (the seventh form; the later family's looks); each row that meets fmt, with fmt's text TOLD by the authors' own Lean function (tested against real Go, not proved from fmt's source: count such statements apart). THE CARD IS WHAT COUNTS. Prove the row's statement (the work); the ties are given (YtcjldhnjcmhfhabDoorTie.lean); close each card by the builder's one call (the guide's Derived/Test/ToyasCard.lean, 'card_holds'). Laid BY PROGRAM, IN A SANDBOX (cutbox-door.mjs). By AI agents, Wed Nov 11 2026. No macro, syntax, notation, axiom, sorry.
-/
import Derived.Test.YtcjldhnjcmhfhabDoorRows
import GoSem.ClaimSeven
namespace Go.Proofs.YtcjldhnjcmhfhabDoor
namespace Rows

/-- THE TIED CARD OF 'sluicelaw1.NumTruths'. -/
def numTruthsCard : Claim7 := { stood := { row := numTruthsRow, standIns := [], harness := (true, "13354eacbb88d7523deb6a40e31e0fc0a819ecb8e265b815a75184734fc40b2b"), looks := false }, kinds := [], alts := [], laidByText := true, laidKinds := [.wider, .wider, .wider], laidTests := true, laidLooks := .later }
def NumTruthsCardSaid : Prop := Claim7.holds Tryd.pinned (.plain (OpenSpec.ofChange numTruthsSpec)) numTruthsCard

/-- THE TIED CARD OF 'sluicelaw1.NumFirm'. -/
def numFirmCard : Claim7 := { stood := { row := numFirmRow, standIns := [], harness := (true, "13354eacbb88d7523deb6a40e31e0fc0a819ecb8e265b815a75184734fc40b2b"), looks := false }, kinds := [], alts := [], laidByText := true, laidKinds := [.wider, .wider, .wider], laidTests := true, laidLooks := .later }
def NumFirmCardSaid : Prop := Claim7.holds Tryd.pinned (.plain (OpenSpec.ofChange numFirmSpec)) numFirmCard

/-- THE SECOND FORM's CARD OF 'sluicelaw1.NumTruths'. -/
def numTruthsUptoCard : Claim7 := { stood := { row := numTruthsUptoRow, standIns := [], harness := (true, "13354eacbb88d7523deb6a40e31e0fc0a819ecb8e265b815a75184734fc40b2b"), looks := false }, kinds := [], alts := [], laidByText := true, laidKinds := [.wider, .wider, .wider], laidTests := true, laidLooks := .later }
def NumTruthsUptoCardSaid : Prop := Claim7.holds Tryd.pinned (.plain (OpenSpec.upto numTruthsSpec)) numTruthsUptoCard

/-- THE SECOND FORM's CARD OF 'sluicelaw1.NumFirm'. -/
def numFirmUptoCard : Claim7 := { stood := { row := numFirmUptoRow, standIns := [], harness := (true, "13354eacbb88d7523deb6a40e31e0fc0a819ecb8e265b815a75184734fc40b2b"), looks := false }, kinds := [], alts := [], laidByText := true, laidKinds := [.wider, .wider, .wider], laidTests := true, laidLooks := .later }
def NumFirmUptoCardSaid : Prop := Claim7.holds Tryd.pinned (.plain (OpenSpec.upto numFirmSpec)) numFirmUptoCard
end Rows
end Go.Proofs.YtcjldhnjcmhfhabDoor
