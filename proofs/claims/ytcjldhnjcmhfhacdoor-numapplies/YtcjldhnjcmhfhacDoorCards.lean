/-
  DERIVED. GIVEN WITH THE SEED: THE CARDS: each row of YtcjldhnjcmhfhacDoorRows.lean that lists a variable, with what it lists TIED to the program's text (the seventh form; the later family's looks); each row that meets fmt, with fmt's text TOLD by the authors' own Lean function (tested against real Go, not proved from fmt's source: count such statements apart). THE CARD IS WHAT COUNTS. Prove the row's statement (the work); the ties are given (YtcjldhnjcmhfhacDoorTie.lean); close each card by the builder's one call (the guide's Derived/Test/ToyasCard.lean, 'card_holds'). Laid BY PROGRAM, IN A SANDBOX (cutbox-door.mjs). By AI agents, Wed Nov 11 2026. No macro, syntax, notation, axiom, sorry.
-/
import Derived.Test.YtcjldhnjcmhfhacDoorRows
import GoSem.ClaimSeven
namespace Go.Proofs.YtcjldhnjcmhfhacDoor
namespace Rows

/-- THE TIED CARD OF 'sluicelaw1.NumApplies'. -/
def numAppliesCard : Claim7 := { stood := { row := numAppliesRow, standIns := [], harness := (true, "9c29be92f2b4b9a9025351db5552acf544646dd8ad20db6d8ee80ac7b82b0291"), looks := false }, kinds := [], alts := [], laidByText := true, laidKinds := [.wider, .wider], laidTests := true, laidLooks := .later }
def NumAppliesCardSaid : Prop := Claim7.holds Tryd.pinned (.plain (OpenSpec.ofChange numAppliesSpec)) numAppliesCard

/-- THE TIED CARD OF 'sluicelaw1.NumRuns'. -/
def numRunsCard : Claim7 := { stood := { row := numRunsRow, standIns := [], harness := (true, "9c29be92f2b4b9a9025351db5552acf544646dd8ad20db6d8ee80ac7b82b0291"), looks := false }, kinds := [], alts := [], laidByText := true, laidKinds := [.wider, .wider, .wider], laidTests := true, laidLooks := .later }
def NumRunsCardSaid : Prop := Claim7.holds Tryd.pinned (.plain (OpenSpec.ofChange numRunsSpec)) numRunsCard

/-- THE TIED CARD OF 'sluicetop.Names'. -/
def namesCard : Claim7 := { stood := { row := namesRow, standIns := [], harness := (true, "9c29be92f2b4b9a9025351db5552acf544646dd8ad20db6d8ee80ac7b82b0291"), looks := false }, kinds := [], alts := [], laidByText := true, laidKinds := [.data], laidTests := true, laidLooks := .later }
def NamesCardSaid : Prop := Claim7.holds Tryd.pinned (.plain (OpenSpec.ofChange namesSpec)) namesCard

/-- THE SECOND FORM's CARD OF 'sluicelaw1.NumApplies'. -/
def numAppliesUptoCard : Claim7 := { stood := { row := numAppliesUptoRow, standIns := [], harness := (true, "9c29be92f2b4b9a9025351db5552acf544646dd8ad20db6d8ee80ac7b82b0291"), looks := false }, kinds := [], alts := [], laidByText := true, laidKinds := [.wider, .wider], laidTests := true, laidLooks := .later }
def NumAppliesUptoCardSaid : Prop := Claim7.holds Tryd.pinned (.plain (OpenSpec.upto numAppliesSpec)) numAppliesUptoCard

/-- THE SECOND FORM's CARD OF 'sluicelaw1.NumRuns'. -/
def numRunsUptoCard : Claim7 := { stood := { row := numRunsUptoRow, standIns := [], harness := (true, "9c29be92f2b4b9a9025351db5552acf544646dd8ad20db6d8ee80ac7b82b0291"), looks := false }, kinds := [], alts := [], laidByText := true, laidKinds := [.wider, .wider, .wider], laidTests := true, laidLooks := .later }
def NumRunsUptoCardSaid : Prop := Claim7.holds Tryd.pinned (.plain (OpenSpec.upto numRunsSpec)) numRunsUptoCard

/-- THE SECOND FORM's CARD OF 'sluicetop.Names'. -/
def namesUptoCard : Claim7 := { stood := { row := namesUptoRow, standIns := [], harness := (true, "9c29be92f2b4b9a9025351db5552acf544646dd8ad20db6d8ee80ac7b82b0291"), looks := false }, kinds := [], alts := [], laidByText := true, laidKinds := [.data], laidTests := true, laidLooks := .later }
def NamesUptoCardSaid : Prop := Claim7.holds Tryd.pinned (.plain (OpenSpec.upto namesSpec)) namesUptoCard
end Rows
end Go.Proofs.YtcjldhnjcmhfhacDoor
