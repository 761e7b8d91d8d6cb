/-
  DERIVED. GIVEN WITH THE SEED: THE CARDS: each row of YtglagbedgjkdbaaGreatDoorRows.lean that lists a variable, with what it lists TIED to the program's text (the seventh form; the later family's looks); each row that meets fmt, with fmt's text TOLD by the authors' own Lean function (tested against real Go, not proved from fmt's source: count such statements apart). THE CARD IS WHAT COUNTS. Prove the row's statement (the work); the ties are given (YtglagbedgjkdbaaGreatDoorTie.lean); close each card by the builder's one call (the guide's Derived/Test/ToyasCard.lean, 'card_holds'). Laid BY PROGRAM, IN A SANDBOX (cutbox-door.mjs). By AI agents, Wed Nov 11 2026. No macro, syntax, notation, axiom, sorry.
-/
import Derived.Test.YtglagbedgjkdbaaGreatDoorRows
import GoSem.ClaimSeven
namespace Go.Proofs.YtglagbedgjkdbaaGreatDoor
namespace Rows

/-- THE TIED CARD OF 'sluicelaw7.CodeConjuncts'. -/
def codeConjunctsCard : Claim7 := { stood := { row := codeConjunctsRow, standIns := [], harness := (true, "0ccacca950a3f5108e1fcbb3c3a9b0bd89bc9a82d01d0d37cbb828df258ada46"), looks := false }, kinds := [], alts := [], laidByText := true, laidKinds := [.data, .data, .wider, .wider, .wider, .data, .data, .data, .pinned, .pinned], laidTests := true, laidLooks := .later }
def CodeConjunctsCardSaid : Prop := Claim7.holds Tryz.pinned (.plain (OpenSpec.ofChange codeConjunctsSpec)) codeConjunctsCard

/-- THE TIED CARD OF 'sluicelaw7.CodeEvals'. -/
def codeEvalsCard : Claim7 := { stood := { row := codeEvalsRow, standIns := [], harness := (true, "0ccacca950a3f5108e1fcbb3c3a9b0bd89bc9a82d01d0d37cbb828df258ada46"), looks := false }, kinds := [], alts := [], laidByText := true, laidKinds := [.data, .data, .wider, .wider, .wider, .data, .data, .pinned, .pinned], laidTests := true, laidLooks := .later }
def CodeEvalsCardSaid : Prop := Claim7.holds Tryz.pinned (.plain (OpenSpec.ofChange codeEvalsSpec)) codeEvalsCard

/-- THE SECOND FORM's CARD OF 'sluicelaw7.CodeConjuncts'. -/
def codeConjunctsUptoCard : Claim7 := { stood := { row := codeConjunctsUptoRow, standIns := [], harness := (true, "0ccacca950a3f5108e1fcbb3c3a9b0bd89bc9a82d01d0d37cbb828df258ada46"), looks := false }, kinds := [], alts := [], laidByText := true, laidKinds := [.data, .data, .wider, .wider, .wider, .data, .data, .data, .pinned, .pinned], laidTests := true, laidLooks := .later }
def CodeConjunctsUptoCardSaid : Prop := Claim7.holds Tryz.pinned (.plain (OpenSpec.upto codeConjunctsSpec)) codeConjunctsUptoCard

/-- THE SECOND FORM's CARD OF 'sluicelaw7.CodeEvals'. -/
def codeEvalsUptoCard : Claim7 := { stood := { row := codeEvalsUptoRow, standIns := [], harness := (true, "0ccacca950a3f5108e1fcbb3c3a9b0bd89bc9a82d01d0d37cbb828df258ada46"), looks := false }, kinds := [], alts := [], laidByText := true, laidKinds := [.data, .data, .wider, .wider, .wider, .data, .data, .pinned, .pinned], laidTests := true, laidLooks := .later }
def CodeEvalsUptoCardSaid : Prop := Claim7.holds Tryz.pinned (.plain (OpenSpec.upto codeEvalsSpec)) codeEvalsUptoCard
end Rows
end Go.Proofs.YtglagbedgjkdbaaGreatDoor
