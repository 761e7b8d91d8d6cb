/-
  DERIVED. GIVEN WITH THE SEED: THE CARDS: each row of YtccgneegfdggjaaDoorRows.lean that lists a variable, with what it lists TIED to the program's text (the seventh form; the later family's looks); each row that meets fmt, with fmt's text TOLD by the authors' own Lean function (tested against real Go, not proved from fmt's source: count such statements apart). THE CARD IS WHAT COUNTS. Prove the row's statement (the work); the ties are given (YtccgneegfdggjaaDoorTie.lean); close each card by the builder's one call (the guide's Derived/Test/ToyasCard.lean, 'card_holds'). Laid BY PROGRAM, IN A SANDBOX (cutbox-door.mjs). By AI agents, Wed Nov 11 2026. No macro, syntax, notation, axiom, sorry.
-/
import Derived.Test.YtccgneegfdggjaaDoorRows
import GoSem.ClaimSeven
namespace Go.Proofs.YtccgneegfdggjaaDoor
namespace Rows

/-- THE TIED CARD OF 'sluicelaw4.ParseNests'. -/
def parseNestsCard : Claim7 := { stood := { row := parseNestsRow, standIns := [], harness := (true, "1826b029ecc14db48c9568f6db0996307119385731b7a8e8afb1c80da22e3200"), looks := true }, kinds := [], alts := [], laidByText := true, laidKinds := [.data, .data, .data, .sentinel, .sentinel, .data, .data], laidTests := true, laidLooks := .later }
def ParseNestsCardSaid : Prop := Claim7.holds Tryd.pinned (.plain (OpenSpec.ofChange parseNestsSpec)) parseNestsCard

/-- THE TIED CARD OF 'sluicelaw4.ParsePasted'. -/
def parsePastedCard : Claim7 := { stood := { row := parsePastedRow, standIns := [], harness := (true, "1826b029ecc14db48c9568f6db0996307119385731b7a8e8afb1c80da22e3200"), looks := true }, kinds := [], alts := [], laidByText := true, laidKinds := [.data, .data, .data, .sentinel, .sentinel, .data, .data], laidTests := true, laidLooks := .later }
def ParsePastedCardSaid : Prop := Claim7.holds Tryd.pinned (.plain (OpenSpec.ofChange parsePastedSpec)) parsePastedCard

/-- THE TIED CARD OF 'sluicelaw4.ParseLexes'. -/
def parseLexesCard : Claim7 := { stood := { row := parseLexesRow, standIns := [], harness := (true, "1826b029ecc14db48c9568f6db0996307119385731b7a8e8afb1c80da22e3200"), looks := true }, kinds := [], alts := [], laidByText := true, laidKinds := [.data, .data, .data, .sentinel, .sentinel, .data, .data], laidTests := true, laidLooks := .later }
def ParseLexesCardSaid : Prop := Claim7.holds Tryd.pinned (.plain (OpenSpec.ofChange parseLexesSpec)) parseLexesCard

/-- THE TIED CARD OF 'sluicelaw4.ParseGroups'. -/
def parseGroupsCard : Claim7 := { stood := { row := parseGroupsRow, standIns := [], harness := (true, "1826b029ecc14db48c9568f6db0996307119385731b7a8e8afb1c80da22e3200"), looks := true }, kinds := [], alts := [], laidByText := true, laidKinds := [.data, .data, .data, .sentinel, .sentinel, .data, .data, .data], laidTests := true, laidLooks := .later }
def ParseGroupsCardSaid : Prop := Claim7.holds Tryd.pinned (.plain (OpenSpec.ofChange parseGroupsSpec)) parseGroupsCard

/-- THE SECOND FORM's CARD OF 'sluicelaw4.ParseNests'. -/
def parseNestsUptoCard : Claim7 := { stood := { row := parseNestsUptoRow, standIns := [], harness := (true, "1826b029ecc14db48c9568f6db0996307119385731b7a8e8afb1c80da22e3200"), looks := true }, kinds := [], alts := [], laidByText := true, laidKinds := [.data, .data, .data, .sentinel, .sentinel, .data, .data], laidTests := true, laidLooks := .later }
def ParseNestsUptoCardSaid : Prop := Claim7.holds Tryd.pinned (.plain (OpenSpec.upto parseNestsSpec)) parseNestsUptoCard

/-- THE SECOND FORM's CARD OF 'sluicelaw4.ParsePasted'. -/
def parsePastedUptoCard : Claim7 := { stood := { row := parsePastedUptoRow, standIns := [], harness := (true, "1826b029ecc14db48c9568f6db0996307119385731b7a8e8afb1c80da22e3200"), looks := true }, kinds := [], alts := [], laidByText := true, laidKinds := [.data, .data, .data, .sentinel, .sentinel, .data, .data], laidTests := true, laidLooks := .later }
def ParsePastedUptoCardSaid : Prop := Claim7.holds Tryd.pinned (.plain (OpenSpec.upto parsePastedSpec)) parsePastedUptoCard

/-- THE SECOND FORM's CARD OF 'sluicelaw4.ParseLexes'. -/
def parseLexesUptoCard : Claim7 := { stood := { row := parseLexesUptoRow, standIns := [], harness := (true, "1826b029ecc14db48c9568f6db0996307119385731b7a8e8afb1c80da22e3200"), looks := true }, kinds := [], alts := [], laidByText := true, laidKinds := [.data, .data, .data, .sentinel, .sentinel, .data, .data], laidTests := true, laidLooks := .later }
def ParseLexesUptoCardSaid : Prop := Claim7.holds Tryd.pinned (.plain (OpenSpec.upto parseLexesSpec)) parseLexesUptoCard

/-- THE SECOND FORM's CARD OF 'sluicelaw4.ParseGroups'. -/
def parseGroupsUptoCard : Claim7 := { stood := { row := parseGroupsUptoRow, standIns := [], harness := (true, "1826b029ecc14db48c9568f6db0996307119385731b7a8e8afb1c80da22e3200"), looks := true }, kinds := [], alts := [], laidByText := true, laidKinds := [.data, .data, .data, .sentinel, .sentinel, .data, .data, .data], laidTests := true, laidLooks := .later }
def ParseGroupsUptoCardSaid : Prop := Claim7.holds Tryd.pinned (.plain (OpenSpec.upto parseGroupsSpec)) parseGroupsUptoCard
end Rows
end Go.Proofs.YtccgneegfdggjaaDoor
