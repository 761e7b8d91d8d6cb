/-
  DERIVED. GIVEN WITH THE SEED: THE CARDS: each row of YtlcmfefcammklabDoorRows.lean that lists a variable, with what it lists TIED to the program's text (the seventh form; the later family's looks); each row that meets fmt, with fmt's text TOLD by the authors' own Lean function (tested against real Go, not proved from fmt's source: count such statements apart). THE CARD IS WHAT COUNTS. Prove the row's statement (the work); the ties are given (YtlcmfefcammklabDoorTie.lean); close each card by the builder's one call (the guide's Derived/Test/ToyasCard.lean, 'card_holds'). Laid BY PROGRAM, IN A SANDBOX (cutbox-door.mjs). By AI agents, Wed Nov 11 2026. No macro, syntax, notation, axiom, sorry.
-/
import Derived.Test.YtlcmfefcammklabDoorRows
import GoSem.ClaimSeven
namespace Go.Proofs.YtlcmfefcammklabDoor
namespace Rows

/-- THE TIED CARD OF 'sluicelaw3.LexCovers'. -/
def lexCoversCard : Claim7 := { stood := { row := lexCoversRow, standIns := [], harness := (true, "7797ea70cbe99267deaf3637a9e09cee02b2355d7a78196c4770d5f11e746280"), looks := true }, kinds := [], alts := [], laidByText := true, laidKinds := [.data, .data, .data, .sentinel, .sentinel, .data, .data], laidTests := true, laidLooks := .later }
def LexCoversCardSaid : Prop := Claim7.holds Tryd.pinned (.plain (OpenSpec.ofChange lexCoversSpec)) lexCoversCard

/-- THE TIED CARD OF 'sluicelaw3.LexBack'. -/
def lexBackCard : Claim7 := { stood := { row := lexBackRow, standIns := [], harness := (true, "7797ea70cbe99267deaf3637a9e09cee02b2355d7a78196c4770d5f11e746280"), looks := true }, kinds := [], alts := [], laidByText := true, laidKinds := [.data, .data, .data, .sentinel, .sentinel, .data, .data, .data], laidTests := true, laidLooks := .later }
def LexBackCardSaid : Prop := Claim7.holds Tryd.pinned (.plain (OpenSpec.ofChange lexBackSpec)) lexBackCard

/-- THE TIED CARD OF 'sluicelaw3.LexLoose'. -/
def lexLooseCard : Claim7 := { stood := { row := lexLooseRow, standIns := [], harness := (true, "7797ea70cbe99267deaf3637a9e09cee02b2355d7a78196c4770d5f11e746280"), looks := true }, kinds := [], alts := [], laidByText := true, laidKinds := [.data, .data, .data, .sentinel, .sentinel, .data, .data, .data, .data, .data], laidTests := true, laidLooks := .later }
def LexLooseCardSaid : Prop := Claim7.holds Tryd.pinned (.plain (OpenSpec.ofChange lexLooseSpec)) lexLooseCard

/-- THE SECOND FORM's CARD OF 'sluicelaw3.LexCovers'. -/
def lexCoversUptoCard : Claim7 := { stood := { row := lexCoversUptoRow, standIns := [], harness := (true, "7797ea70cbe99267deaf3637a9e09cee02b2355d7a78196c4770d5f11e746280"), looks := true }, kinds := [], alts := [], laidByText := true, laidKinds := [.data, .data, .data, .sentinel, .sentinel, .data, .data], laidTests := true, laidLooks := .later }
def LexCoversUptoCardSaid : Prop := Claim7.holds Tryd.pinned (.plain (OpenSpec.upto lexCoversSpec)) lexCoversUptoCard

/-- THE SECOND FORM's CARD OF 'sluicelaw3.LexBack'. -/
def lexBackUptoCard : Claim7 := { stood := { row := lexBackUptoRow, standIns := [], harness := (true, "7797ea70cbe99267deaf3637a9e09cee02b2355d7a78196c4770d5f11e746280"), looks := true }, kinds := [], alts := [], laidByText := true, laidKinds := [.data, .data, .data, .sentinel, .sentinel, .data, .data, .data], laidTests := true, laidLooks := .later }
def LexBackUptoCardSaid : Prop := Claim7.holds Tryd.pinned (.plain (OpenSpec.upto lexBackSpec)) lexBackUptoCard

/-- THE SECOND FORM's CARD OF 'sluicelaw3.LexLoose'. -/
def lexLooseUptoCard : Claim7 := { stood := { row := lexLooseUptoRow, standIns := [], harness := (true, "7797ea70cbe99267deaf3637a9e09cee02b2355d7a78196c4770d5f11e746280"), looks := true }, kinds := [], alts := [], laidByText := true, laidKinds := [.data, .data, .data, .sentinel, .sentinel, .data, .data, .data, .data, .data], laidTests := true, laidLooks := .later }
def LexLooseUptoCardSaid : Prop := Claim7.holds Tryd.pinned (.plain (OpenSpec.upto lexLooseSpec)) lexLooseUptoCard
end Rows
end Go.Proofs.YtlcmfefcammklabDoor
