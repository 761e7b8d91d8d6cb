/-
  DERIVED. GIVEN WITH THE SEED: THE CARDS: each row of YtnolbpekdikamaaGreatDoorRows.lean that lists a variable, with what it lists TIED to the program's text (the seventh form; the later family's looks); each row that meets fmt, with fmt's text TOLD by the authors' own Lean function (tested against real Go, not proved from fmt's source: count such statements apart). THE CARD IS WHAT COUNTS. Prove the row's statement (the work); the ties are given (YtnolbpekdikamaaGreatDoorTie.lean); close each card by the builder's one call (the guide's Derived/Test/ToyasCard.lean, 'card_holds'). Laid BY PROGRAM, IN A SANDBOX (cutbox-door.mjs). By AI agents, Wed Nov 11 2026. No macro, syntax, notation, axiom, sorry.
-/
import Derived.Test.YtnolbpekdikamaaGreatDoorRows
import GoSem.ClaimSeven
namespace Go.Proofs.YtnolbpekdikamaaGreatDoor
namespace Rows

/-- THE TIED CARD OF 'sluicelaw7.CodeFrame'. -/
def codeFrameCard : Claim7 := { stood := { row := codeFrameRow, standIns := [], harness := (true, "23d4e4b20f0e6ec5e8386151ffda69121926e08b4688e51745c9bed95db86585"), looks := false }, kinds := [], alts := [], laidByText := true, laidKinds := [.data, .data, .wider, .wider, .wider, .data, .data, .data, .pinned, .pinned], laidTests := true, laidLooks := .later }
def CodeFrameCardSaid : Prop := Claim7.holds Tryz.pinned (.plain (OpenSpec.ofChange codeFrameSpec)) codeFrameCard

/-- THE TIED CARD OF 'sluicelaw7.CodeRenames'. -/
def codeRenamesCard : Claim7 := { stood := { row := codeRenamesRow, standIns := [], harness := (true, "23d4e4b20f0e6ec5e8386151ffda69121926e08b4688e51745c9bed95db86585"), looks := false }, kinds := [], alts := [], laidByText := true, laidKinds := [.data, .data, .data, .data, .data, .wider, .wider, .wider, .data, .data, .data, .pinned, .pinned], laidTests := true, laidLooks := .later }
def CodeRenamesCardSaid : Prop := Claim7.holds Tryz.pinned (.plain (OpenSpec.ofChange codeRenamesSpec)) codeRenamesCard

/-- THE SECOND FORM's CARD OF 'sluicelaw7.CodeFrame'. -/
def codeFrameUptoCard : Claim7 := { stood := { row := codeFrameUptoRow, standIns := [], harness := (true, "23d4e4b20f0e6ec5e8386151ffda69121926e08b4688e51745c9bed95db86585"), looks := false }, kinds := [], alts := [], laidByText := true, laidKinds := [.data, .data, .wider, .wider, .wider, .data, .data, .data, .pinned, .pinned], laidTests := true, laidLooks := .later }
def CodeFrameUptoCardSaid : Prop := Claim7.holds Tryz.pinned (.plain (OpenSpec.upto codeFrameSpec)) codeFrameUptoCard

/-- THE SECOND FORM's CARD OF 'sluicelaw7.CodeRenames'. -/
def codeRenamesUptoCard : Claim7 := { stood := { row := codeRenamesUptoRow, standIns := [], harness := (true, "23d4e4b20f0e6ec5e8386151ffda69121926e08b4688e51745c9bed95db86585"), looks := false }, kinds := [], alts := [], laidByText := true, laidKinds := [.data, .data, .data, .data, .data, .wider, .wider, .wider, .data, .data, .data, .pinned, .pinned], laidTests := true, laidLooks := .later }
def CodeRenamesUptoCardSaid : Prop := Claim7.holds Tryz.pinned (.plain (OpenSpec.upto codeRenamesSpec)) codeRenamesUptoCard
end Rows
end Go.Proofs.YtnolbpekdikamaaGreatDoor
