/-
  DERIVED. GIVEN WITH THE SEED: THE CARDS: each row of YtbedpgamjaemoaaDoorRows.lean that lists a variable, with what it lists TIED to the program's text (the seventh form; the later family's looks); each row that meets fmt, with fmt's text TOLD by the authors' own Lean function (tested against real Go, not proved from fmt's source: count such statements apart). THE CARD IS WHAT COUNTS. Prove the row's statement (the work); the ties are given (YtbedpgamjaemoaaDoorTie.lean); close each card by the builder's one call (the guide's Derived/Test/ToyasCard.lean, 'card_holds'). Laid BY PROGRAM, IN A SANDBOX (cutbox-door.mjs). By AI agents, Wed Nov 11 2026. No macro, syntax, notation, axiom, sorry.
-/
import Derived.Test.YtbedpgamjaemoaaDoorRows
import GoSem.ClaimSeven
namespace Go.Proofs.YtbedpgamjaemoaaDoor
namespace Rows

/-- THE TIED CARD OF 'sluicelaw6.CheckTrees'. -/
def checkTreesCard : Claim7 := { stood := { row := checkTreesRow, standIns := [], harness := (true, "5bdb278ea9a6d39da2a3c6283116c25e6bbfb039f68c5656157636d3e99f10ae"), looks := false }, kinds := [], alts := [], laidByText := true, laidKinds := [.data, .data, .data, .data, .pinned, .pinned], laidTests := true, laidLooks := .later }
def CheckTreesCardSaid : Prop := Claim7.holds Tryd.pinned (.plain (OpenSpec.ofChange checkTreesSpec)) checkTreesCard

/-- THE SECOND FORM's CARD OF 'sluicelaw6.CheckTrees'. -/
def checkTreesUptoCard : Claim7 := { stood := { row := checkTreesUptoRow, standIns := [], harness := (true, "5bdb278ea9a6d39da2a3c6283116c25e6bbfb039f68c5656157636d3e99f10ae"), looks := false }, kinds := [], alts := [], laidByText := true, laidKinds := [.data, .data, .data, .data, .pinned, .pinned], laidTests := true, laidLooks := .later }
def CheckTreesUptoCardSaid : Prop := Claim7.holds Tryd.pinned (.plain (OpenSpec.upto checkTreesSpec)) checkTreesUptoCard
end Rows
end Go.Proofs.YtbedpgamjaemoaaDoor
