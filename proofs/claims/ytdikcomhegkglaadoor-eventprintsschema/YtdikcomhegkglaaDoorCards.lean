/-
  DERIVED. GIVEN WITH THE SEED: THE CARDS: each row of YtdikcomhegkglaaDoorRows.lean that lists a variable, with what it lists TIED to the program's text (the seventh form; the later family's looks); each row that meets fmt, with fmt's text TOLD by the authors' own Lean function (tested against real Go, not proved from fmt's source: count such statements apart). THE CARD IS WHAT COUNTS. Prove the row's statement (the work); the ties are given (YtdikcomhegkglaaDoorTie.lean); close each card by the builder's one call (the guide's Derived/Test/ToyasCard.lean, 'card_holds'). Laid BY PROGRAM, IN A SANDBOX (cutbox-door.mjs). By AI agents, Wed Nov 11 2026. No macro, syntax, notation, axiom, sorry.
-/
import Derived.Test.YtdikcomhegkglaaDoorRows
import GoSem.ClaimSeven
namespace Go.Proofs.YtdikcomhegkglaaDoor
namespace Rows

/-- THE TIED CARD OF 'sluicelaw2.EventPrintsSchema'. -/
def eventPrintsSchemaCard : Claim7 := { stood := { row := eventPrintsSchemaRow, standIns := [], harness := (true, "ffe2a9d852ad7ed80b203d0d6ae57f092edc549a44023df65acc5b005cf332c2"), looks := false }, kinds := [], alts := [], laidByText := true, laidKinds := [.data, .data, .data, .data, .pinned, .pinned], laidTests := true, laidLooks := .later }
def EventPrintsSchemaCardSaid : Prop := Claim7.holds Tryd.pinned (.plain (OpenSpec.ofChange eventPrintsSchemaSpec)) eventPrintsSchemaCard

/-- THE SECOND FORM's CARD OF 'sluicelaw2.EventPrintsSchema'. -/
def eventPrintsSchemaUptoCard : Claim7 := { stood := { row := eventPrintsSchemaUptoRow, standIns := [], harness := (true, "ffe2a9d852ad7ed80b203d0d6ae57f092edc549a44023df65acc5b005cf332c2"), looks := false }, kinds := [], alts := [], laidByText := true, laidKinds := [.data, .data, .data, .data, .pinned, .pinned], laidTests := true, laidLooks := .later }
def EventPrintsSchemaUptoCardSaid : Prop := Claim7.holds Tryd.pinned (.plain (OpenSpec.upto eventPrintsSchemaSpec)) eventPrintsSchemaUptoCard
end Rows
end Go.Proofs.YtdikcomhegkglaaDoor
