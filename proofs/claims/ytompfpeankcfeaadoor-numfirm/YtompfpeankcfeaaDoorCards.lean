/-
  DERIVED. GIVEN WITH THE SEED: THE CARDS: each row of YtompfpeankcfeaaDoorRows.lean that lists a variable, with what it lists TIED to the program's text (the seventh form; the later family's looks); each row that meets fmt, with fmt's text TOLD by the authors' own Lean function (tested against real Go, not proved from fmt's source: count such statements apart). THE CARD IS WHAT COUNTS. Prove the row's statement (the work); the ties are given (YtompfpeankcfeaaDoorTie.lean); close each card by the builder's one call (the guide's Derived/Test/ToyasCard.lean, 'card_holds'). Laid BY PROGRAM, IN A SANDBOX (cutbox-door.mjs). By AI agents, Wed Nov 11 2026. No macro, syntax, notation, axiom, sorry.
-/
import Derived.Test.YtompfpeankcfeaaDoorRows
import GoSem.ClaimSeven
namespace Go.Proofs.YtompfpeankcfeaaDoor
namespace Rows

/-- THE TIED CARD OF 'sluicelaw1.NumFirm'. -/
def numFirmCard : Claim7 := { stood := { row := numFirmRow, standIns := [], harness := (true, "3847f5068f1f63747771133088479141f2aeff3a61eb4c460c7cdd706846ce41"), looks := false }, kinds := [], alts := [], laidByText := true, laidKinds := [.wider, .wider, .wider], laidTests := true, laidLooks := .later }
def NumFirmCardSaid : Prop := Claim7.holds Tryd.pinned (.plain (OpenSpec.ofChange numFirmSpec)) numFirmCard

/-- THE TIED CARD OF 'sluicelaw1.NumRuns'. -/
def numRunsCard : Claim7 := { stood := { row := numRunsRow, standIns := [], harness := (true, "3847f5068f1f63747771133088479141f2aeff3a61eb4c460c7cdd706846ce41"), looks := false }, kinds := [], alts := [], laidByText := true, laidKinds := [.wider, .wider, .wider], laidTests := true, laidLooks := .later }
def NumRunsCardSaid : Prop := Claim7.holds Tryd.pinned (.plain (OpenSpec.ofChange numRunsSpec)) numRunsCard

/-- THE SECOND FORM's CARD OF 'sluicelaw1.NumFirm'. -/
def numFirmUptoCard : Claim7 := { stood := { row := numFirmUptoRow, standIns := [], harness := (true, "3847f5068f1f63747771133088479141f2aeff3a61eb4c460c7cdd706846ce41"), looks := false }, kinds := [], alts := [], laidByText := true, laidKinds := [.wider, .wider, .wider], laidTests := true, laidLooks := .later }
def NumFirmUptoCardSaid : Prop := Claim7.holds Tryd.pinned (.plain (OpenSpec.upto numFirmSpec)) numFirmUptoCard

/-- THE SECOND FORM's CARD OF 'sluicelaw1.NumRuns'. -/
def numRunsUptoCard : Claim7 := { stood := { row := numRunsUptoRow, standIns := [], harness := (true, "3847f5068f1f63747771133088479141f2aeff3a61eb4c460c7cdd706846ce41"), looks := false }, kinds := [], alts := [], laidByText := true, laidKinds := [.wider, .wider, .wider], laidTests := true, laidLooks := .later }
def NumRunsUptoCardSaid : Prop := Claim7.holds Tryd.pinned (.plain (OpenSpec.upto numRunsSpec)) numRunsUptoCard
end Rows
end Go.Proofs.YtompfpeankcfeaaDoor
