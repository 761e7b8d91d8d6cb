/-
  DERIVED. GIVEN WITH THE SEED: THE CARDS: each row of YtjeffmfnaihhjaaDoorRows.lean that lists a variable, with what it lists TIED to the program's text (the seventh form; the later family's looks); each row that meets fmt, with fmt's text TOLD by the authors' own Lean function (tested against real Go, not proved from fmt's source: count such statements apart). THE CARD IS WHAT COUNTS. Prove the row's statement (the work); the ties are given (YtjeffmfnaihhjaaDoorTie.lean); close each card by the builder's one call (the guide's Derived/Test/ToyasCard.lean, 'card_holds'). Laid BY PROGRAM, IN A SANDBOX (cutbox-door.mjs). By AI agents, Wed Nov 11 2026. No macro, syntax, notation, axiom, sorry.
-/
import Derived.Test.YtjeffmfnaihhjaaDoorRows
import GoSem.ClaimSeven
namespace Go.Proofs.YtjeffmfnaihhjaaDoor
namespace Rows

/-- THE TIED CARD OF 'sluicelaw7.CodeRuns'. -/
def codeRunsCard : Claim7 := { stood := { row := codeRunsRow, standIns := [], harness := (true, "a679dac6c8dcae8e597a734ba63397839d08d97b9170757bf54b7f1dd16376ca"), looks := false }, kinds := [], alts := [], laidByText := true, laidKinds := [.wider, .wider, .wider, .data], laidTests := true, laidLooks := .later }
def CodeRunsCardSaid : Prop := Claim7.holds Tryd.pinned (.plain (OpenSpec.ofChange codeRunsSpec)) codeRunsCard

/-- THE TIED CARD OF 'sluicelaw7.CodeEvery'. -/
def codeEveryCard : Claim7 := { stood := { row := codeEveryRow, standIns := [], harness := (true, "a679dac6c8dcae8e597a734ba63397839d08d97b9170757bf54b7f1dd16376ca"), looks := false }, kinds := [], alts := [], laidByText := true, laidKinds := [.wider, .wider, .wider, .data], laidTests := true, laidLooks := .later }
def CodeEveryCardSaid : Prop := Claim7.holds Tryd.pinned (.plain (OpenSpec.ofChange codeEverySpec)) codeEveryCard

/-- THE SECOND FORM's CARD OF 'sluicelaw7.CodeRuns'. -/
def codeRunsUptoCard : Claim7 := { stood := { row := codeRunsUptoRow, standIns := [], harness := (true, "a679dac6c8dcae8e597a734ba63397839d08d97b9170757bf54b7f1dd16376ca"), looks := false }, kinds := [], alts := [], laidByText := true, laidKinds := [.wider, .wider, .wider, .data], laidTests := true, laidLooks := .later }
def CodeRunsUptoCardSaid : Prop := Claim7.holds Tryd.pinned (.plain (OpenSpec.upto codeRunsSpec)) codeRunsUptoCard

/-- THE SECOND FORM's CARD OF 'sluicelaw7.CodeEvery'. -/
def codeEveryUptoCard : Claim7 := { stood := { row := codeEveryUptoRow, standIns := [], harness := (true, "a679dac6c8dcae8e597a734ba63397839d08d97b9170757bf54b7f1dd16376ca"), looks := false }, kinds := [], alts := [], laidByText := true, laidKinds := [.wider, .wider, .wider, .data], laidTests := true, laidLooks := .later }
def CodeEveryUptoCardSaid : Prop := Claim7.holds Tryd.pinned (.plain (OpenSpec.upto codeEverySpec)) codeEveryUptoCard
end Rows
end Go.Proofs.YtjeffmfnaihhjaaDoor
