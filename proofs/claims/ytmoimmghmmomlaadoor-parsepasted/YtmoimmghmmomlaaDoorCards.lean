/-
  DERIVED. GIVEN WITH THE SEED: THE CARDS: each row of YtmoimmghmmomlaaDoorRows.lean that lists a variable, with what it lists TIED to the program's text (the seventh form; the later family's looks); each row that meets fmt, with fmt's text TOLD by the authors' own Lean function (tested against real Go, not proved from fmt's source: count such statements apart). THE CARD IS WHAT COUNTS. Prove the row's statement (the work); the ties are given (YtmoimmghmmomlaaDoorTie.lean); close each card by the builder's one call (the guide's Derived/Test/ToyasCard.lean, 'card_holds'). Laid BY PROGRAM, IN A SANDBOX (cutbox-door.mjs). By AI agents, Wed Nov 11 2026. No macro, syntax, notation, axiom, sorry.
-/
import Derived.Test.YtmoimmghmmomlaaDoorRows
import GoSem.ClaimSeven
namespace Go.Proofs.YtmoimmghmmomlaaDoor
namespace Rows

/-- THE TIED CARD OF 'sluicelaw5.ShowTrees'. -/
def showTreesCard : Claim7 := { stood := { row := showTreesRow, standIns := [], harness := (true, "d1e2ee7147a35160427b5a2eb8d7cf2d03afde32197f7028303ca6a4098e8267"), looks := true }, kinds := [], alts := [], laidByText := true, laidKinds := [.data, .data, .data, .data, .pinned, .pinned], laidTests := true, laidLooks := .later }
def ShowTreesCardSaid : Prop := Claim7.holds Tryd.pinned (.plain (OpenSpec.ofChange showTreesSpec)) showTreesCard

/-- THE TIED CARD OF 'sluicelaw4.ParsePasted'. -/
def parsePastedCard : Claim7 := { stood := { row := parsePastedRow, standIns := [], harness := (true, "d1e2ee7147a35160427b5a2eb8d7cf2d03afde32197f7028303ca6a4098e8267"), looks := true }, kinds := [], alts := [], laidByText := true, laidKinds := [.data, .data, .data, .sentinel, .sentinel, .data, .data], laidTests := true, laidLooks := .later }
def ParsePastedCardSaid : Prop := Claim7.holds Tryd.pinned (.plain (OpenSpec.ofChange parsePastedSpec)) parsePastedCard

/-- THE TIED CARD OF 'sluicelaw4.ParseGroups'. -/
def parseGroupsCard : Claim7 := { stood := { row := parseGroupsRow, standIns := [], harness := (true, "d1e2ee7147a35160427b5a2eb8d7cf2d03afde32197f7028303ca6a4098e8267"), looks := true }, kinds := [], alts := [], laidByText := true, laidKinds := [.data, .data, .data, .sentinel, .sentinel, .data, .data, .data], laidTests := true, laidLooks := .later }
def ParseGroupsCardSaid : Prop := Claim7.holds Tryd.pinned (.plain (OpenSpec.ofChange parseGroupsSpec)) parseGroupsCard

/-- THE SECOND FORM's CARD OF 'sluicelaw5.ShowTrees'. -/
def showTreesUptoCard : Claim7 := { stood := { row := showTreesUptoRow, standIns := [], harness := (true, "d1e2ee7147a35160427b5a2eb8d7cf2d03afde32197f7028303ca6a4098e8267"), looks := true }, kinds := [], alts := [], laidByText := true, laidKinds := [.data, .data, .data, .data, .pinned, .pinned], laidTests := true, laidLooks := .later }
def ShowTreesUptoCardSaid : Prop := Claim7.holds Tryd.pinned (.plain (OpenSpec.upto showTreesSpec)) showTreesUptoCard

/-- THE SECOND FORM's CARD OF 'sluicelaw4.ParsePasted'. -/
def parsePastedUptoCard : Claim7 := { stood := { row := parsePastedUptoRow, standIns := [], harness := (true, "d1e2ee7147a35160427b5a2eb8d7cf2d03afde32197f7028303ca6a4098e8267"), looks := true }, kinds := [], alts := [], laidByText := true, laidKinds := [.data, .data, .data, .sentinel, .sentinel, .data, .data], laidTests := true, laidLooks := .later }
def ParsePastedUptoCardSaid : Prop := Claim7.holds Tryd.pinned (.plain (OpenSpec.upto parsePastedSpec)) parsePastedUptoCard

/-- THE SECOND FORM's CARD OF 'sluicelaw4.ParseGroups'. -/
def parseGroupsUptoCard : Claim7 := { stood := { row := parseGroupsUptoRow, standIns := [], harness := (true, "d1e2ee7147a35160427b5a2eb8d7cf2d03afde32197f7028303ca6a4098e8267"), looks := true }, kinds := [], alts := [], laidByText := true, laidKinds := [.data, .data, .data, .sentinel, .sentinel, .data, .data, .data], laidTests := true, laidLooks := .later }
def ParseGroupsUptoCardSaid : Prop := Claim7.holds Tryd.pinned (.plain (OpenSpec.upto parseGroupsSpec)) parseGroupsUptoCard
end Rows
end Go.Proofs.YtmoimmghmmomlaaDoor
