/-
  DERIVED. GIVEN WITH THE SEED: THE CARDS: each row of YtnecmkjmicjbgaaDoorRows.lean that lists a variable, with what it lists TIED to the program's text (the seventh form; the later family's looks); each row that meets fmt, with fmt's text TOLD by the authors' own Lean function (tested against real Go, not proved from fmt's source: count such statements apart). THE CARD IS WHAT COUNTS. Prove the row's statement (the work); the ties are given (YtnecmkjmicjbgaaDoorTie.lean); close each card by the builder's one call (the guide's Derived/Test/ToyasCard.lean, 'card_holds'). Laid BY PROGRAM, IN A SANDBOX (cutbox-door.mjs). By AI agents, Wed Nov 11 2026. No macro, syntax, notation, axiom, sorry.
-/
import Derived.Test.YtnecmkjmicjbgaaDoorRows
import GoSem.ClaimSeven
namespace Go.Proofs.YtnecmkjmicjbgaaDoor
namespace Rows

/-- THE TIED CARD OF 'sluicelaw1.NumFirm'. -/
def numFirmCard : Claim7 := { stood := { row := numFirmRow, standIns := [], harness := (true, "d42888473d8431fbaa237dcf6d44784761d5b2b44f7506d6a6d689936cfd05da"), looks := false }, kinds := [], alts := [], laidByText := true, laidKinds := [.wider, .wider, .wider], laidTests := true, laidLooks := .later }
def NumFirmCardSaid : Prop := Claim7.holds Tryd.pinned (.plain (OpenSpec.ofChange numFirmSpec)) numFirmCard

/-- THE TIED CARD OF 'sluicelaw1.NumRuns'. -/
def numRunsCard : Claim7 := { stood := { row := numRunsRow, standIns := [], harness := (true, "d42888473d8431fbaa237dcf6d44784761d5b2b44f7506d6a6d689936cfd05da"), looks := false }, kinds := [], alts := [], laidByText := true, laidKinds := [.wider, .wider, .wider], laidTests := true, laidLooks := .later }
def NumRunsCardSaid : Prop := Claim7.holds Tryd.pinned (.plain (OpenSpec.ofChange numRunsSpec)) numRunsCard

/-- THE TIED CARD OF 'sluicetop.Names'. -/
def namesCard : Claim7 := { stood := { row := namesRow, standIns := [], harness := (true, "d42888473d8431fbaa237dcf6d44784761d5b2b44f7506d6a6d689936cfd05da"), looks := false }, kinds := [], alts := [], laidByText := true, laidKinds := [.data], laidTests := true, laidLooks := .later }
def NamesCardSaid : Prop := Claim7.holds Tryd.pinned (.plain (OpenSpec.ofChange namesSpec)) namesCard

/-- THE SECOND FORM's CARD OF 'sluicelaw1.NumFirm'. -/
def numFirmUptoCard : Claim7 := { stood := { row := numFirmUptoRow, standIns := [], harness := (true, "d42888473d8431fbaa237dcf6d44784761d5b2b44f7506d6a6d689936cfd05da"), looks := false }, kinds := [], alts := [], laidByText := true, laidKinds := [.wider, .wider, .wider], laidTests := true, laidLooks := .later }
def NumFirmUptoCardSaid : Prop := Claim7.holds Tryd.pinned (.plain (OpenSpec.upto numFirmSpec)) numFirmUptoCard

/-- THE SECOND FORM's CARD OF 'sluicelaw1.NumRuns'. -/
def numRunsUptoCard : Claim7 := { stood := { row := numRunsUptoRow, standIns := [], harness := (true, "d42888473d8431fbaa237dcf6d44784761d5b2b44f7506d6a6d689936cfd05da"), looks := false }, kinds := [], alts := [], laidByText := true, laidKinds := [.wider, .wider, .wider], laidTests := true, laidLooks := .later }
def NumRunsUptoCardSaid : Prop := Claim7.holds Tryd.pinned (.plain (OpenSpec.upto numRunsSpec)) numRunsUptoCard

/-- THE SECOND FORM's CARD OF 'sluicetop.Names'. -/
def namesUptoCard : Claim7 := { stood := { row := namesUptoRow, standIns := [], harness := (true, "d42888473d8431fbaa237dcf6d44784761d5b2b44f7506d6a6d689936cfd05da"), looks := false }, kinds := [], alts := [], laidByText := true, laidKinds := [.data], laidTests := true, laidLooks := .later }
def NamesUptoCardSaid : Prop := Claim7.holds Tryd.pinned (.plain (OpenSpec.upto namesSpec)) namesUptoCard
end Rows
end Go.Proofs.YtnecmkjmicjbgaaDoor
