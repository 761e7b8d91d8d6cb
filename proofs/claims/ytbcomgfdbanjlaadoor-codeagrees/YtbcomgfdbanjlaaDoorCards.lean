/-
  DERIVED. GIVEN WITH THE SEED: THE CARDS: each row of YtbcomgfdbanjlaaDoorRows.lean that lists a variable, with what it lists TIED to the program's text (the seventh form; the later family's looks); each row that meets fmt, with fmt's text TOLD by the authors' own Lean function (tested against real Go, not proved from fmt's source: count such statements apart). THE CARD IS WHAT COUNTS. Prove the row's statement (the work); the ties are given (YtbcomgfdbanjlaaDoorTie.lean); close each card by the builder's one call (the guide's Derived/Test/ToyasCard.lean, 'card_holds'). Laid BY PROGRAM, IN A SANDBOX (cutbox-door.mjs). By AI agents, Wed Nov 11 2026. No macro, syntax, notation, axiom, sorry.
-/
import Derived.Test.YtbcomgfdbanjlaaDoorRows
import GoSem.ClaimSeven
namespace Go.Proofs.YtbcomgfdbanjlaaDoor
namespace Rows

/-- THE TIED CARD OF 'sluicelaw7.CodeCompiles'. -/
def codeCompilesCard : Claim7 := { stood := { row := codeCompilesRow, standIns := [], harness := (true, "f3d6a6289c38c91f85b2385d8d46d3efe28f00e1eca238f9d9b06e85803be5f0"), looks := false }, kinds := [], alts := [], laidByText := true, laidKinds := [.data, .data, .data, .data, .pinned, .pinned], laidTests := true, laidLooks := .later }
def CodeCompilesCardSaid : Prop := Claim7.holds Tryd.pinned (.plain (OpenSpec.ofChange codeCompilesSpec)) codeCompilesCard

/-- THE TIED CARD OF 'sluicelaw7.CodeAgrees'. -/
def codeAgreesCard : Claim7 := { stood := { row := codeAgreesRow, standIns := [], harness := (true, "f3d6a6289c38c91f85b2385d8d46d3efe28f00e1eca238f9d9b06e85803be5f0"), looks := false }, kinds := [], alts := [], laidByText := true, laidKinds := [.data, .data, .wider, .wider, .wider, .data, .data, .data, .pinned, .pinned], laidTests := true, laidLooks := .later }
def CodeAgreesCardSaid : Prop := Claim7.holds Tryd.pinned (.plain (OpenSpec.ofChange codeAgreesSpec)) codeAgreesCard

/-- THE TIED CARD OF 'sluicelaw7.CodeComposes'. -/
def codeComposesCard : Claim7 := { stood := { row := codeComposesRow, standIns := [], harness := (true, "f3d6a6289c38c91f85b2385d8d46d3efe28f00e1eca238f9d9b06e85803be5f0"), looks := false }, kinds := [], alts := [], laidByText := true, laidKinds := [.data, .data, .wider, .wider, .wider, .data, .data, .data, .pinned, .pinned], laidTests := true, laidLooks := .later }
def CodeComposesCardSaid : Prop := Claim7.holds Tryd.pinned (.plain (OpenSpec.ofChange codeComposesSpec)) codeComposesCard

/-- THE TIED CARD OF 'sluicelaw7.CodeSkips'. -/
def codeSkipsCard : Claim7 := { stood := { row := codeSkipsRow, standIns := [], harness := (true, "f3d6a6289c38c91f85b2385d8d46d3efe28f00e1eca238f9d9b06e85803be5f0"), looks := false }, kinds := [], alts := [], laidByText := true, laidKinds := [.data, .data, .wider, .wider, .wider, .data, .data, .data, .pinned, .pinned], laidTests := true, laidLooks := .later }
def CodeSkipsCardSaid : Prop := Claim7.holds Tryd.pinned (.plain (OpenSpec.ofChange codeSkipsSpec)) codeSkipsCard

/-- THE SECOND FORM's CARD OF 'sluicelaw7.CodeCompiles'. -/
def codeCompilesUptoCard : Claim7 := { stood := { row := codeCompilesUptoRow, standIns := [], harness := (true, "f3d6a6289c38c91f85b2385d8d46d3efe28f00e1eca238f9d9b06e85803be5f0"), looks := false }, kinds := [], alts := [], laidByText := true, laidKinds := [.data, .data, .data, .data, .pinned, .pinned], laidTests := true, laidLooks := .later }
def CodeCompilesUptoCardSaid : Prop := Claim7.holds Tryd.pinned (.plain (OpenSpec.upto codeCompilesSpec)) codeCompilesUptoCard

/-- THE SECOND FORM's CARD OF 'sluicelaw7.CodeAgrees'. -/
def codeAgreesUptoCard : Claim7 := { stood := { row := codeAgreesUptoRow, standIns := [], harness := (true, "f3d6a6289c38c91f85b2385d8d46d3efe28f00e1eca238f9d9b06e85803be5f0"), looks := false }, kinds := [], alts := [], laidByText := true, laidKinds := [.data, .data, .wider, .wider, .wider, .data, .data, .data, .pinned, .pinned], laidTests := true, laidLooks := .later }
def CodeAgreesUptoCardSaid : Prop := Claim7.holds Tryd.pinned (.plain (OpenSpec.upto codeAgreesSpec)) codeAgreesUptoCard

/-- THE SECOND FORM's CARD OF 'sluicelaw7.CodeComposes'. -/
def codeComposesUptoCard : Claim7 := { stood := { row := codeComposesUptoRow, standIns := [], harness := (true, "f3d6a6289c38c91f85b2385d8d46d3efe28f00e1eca238f9d9b06e85803be5f0"), looks := false }, kinds := [], alts := [], laidByText := true, laidKinds := [.data, .data, .wider, .wider, .wider, .data, .data, .data, .pinned, .pinned], laidTests := true, laidLooks := .later }
def CodeComposesUptoCardSaid : Prop := Claim7.holds Tryd.pinned (.plain (OpenSpec.upto codeComposesSpec)) codeComposesUptoCard

/-- THE SECOND FORM's CARD OF 'sluicelaw7.CodeSkips'. -/
def codeSkipsUptoCard : Claim7 := { stood := { row := codeSkipsUptoRow, standIns := [], harness := (true, "f3d6a6289c38c91f85b2385d8d46d3efe28f00e1eca238f9d9b06e85803be5f0"), looks := false }, kinds := [], alts := [], laidByText := true, laidKinds := [.data, .data, .wider, .wider, .wider, .data, .data, .data, .pinned, .pinned], laidTests := true, laidLooks := .later }
def CodeSkipsUptoCardSaid : Prop := Claim7.holds Tryd.pinned (.plain (OpenSpec.upto codeSkipsSpec)) codeSkipsUptoCard
end Rows
end Go.Proofs.YtbcomgfdbanjlaaDoor
