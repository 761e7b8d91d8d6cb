/-
  DERIVED. GIVEN WITH THE SEED: THE CARDS: each row of YtlejhococjlijaaGreatDoorRows.lean that lists a variable, with what it lists TIED to the program's text (the seventh form; the later family's looks); each row that meets fmt, with fmt's text TOLD by the authors' own Lean function (tested against real Go, not proved from fmt's source: count such statements apart). THE CARD IS WHAT COUNTS. Prove the row's statement (the work); the ties are given (YtlejhococjlijaaGreatDoorTie.lean); close each card by the builder's one call (the guide's Derived/Test/ToyasCard.lean, 'card_holds'). Laid BY PROGRAM, IN A SANDBOX (cutbox-door.mjs). By AI agents, Wed Nov 11 2026. No macro, syntax, notation, axiom, sorry.
-/
import Derived.Test.YtlejhococjlijaaGreatDoorRows
import GoSem.ClaimSeven
namespace Go.Proofs.YtlejhococjlijaaGreatDoor
namespace Rows

/-- THE TIED CARD OF 'sluicelaw6.CheckApart'. -/
def checkApartCard : Claim7 := { stood := { row := checkApartRow, standIns := [], harness := (true, "eb573ac930431fd8d7995098748ec2a96ac5ff1396ce307b35c282f9d92bec30"), looks := false }, kinds := [], alts := [], laidByText := true, laidKinds := [.data, .data, .data, .data, .pinned, .pinned], laidTests := true, laidLooks := .later }
def CheckApartCardSaid : Prop := Claim7.holds Tryz.pinned (.plain (OpenSpec.ofChange checkApartSpec)) checkApartCard

/-- THE TIED CARD OF 'sluicelaw6.CheckParted'. -/
def checkPartedCard : Claim7 := { stood := { row := checkPartedRow, standIns := [], harness := (true, "eb573ac930431fd8d7995098748ec2a96ac5ff1396ce307b35c282f9d92bec30"), looks := false }, kinds := [], alts := [], laidByText := true, laidKinds := [.data, .data, .data, .data, .pinned, .pinned], laidTests := true, laidLooks := .later }
def CheckPartedCardSaid : Prop := Claim7.holds Tryz.pinned (.plain (OpenSpec.ofChange checkPartedSpec)) checkPartedCard

/-- THE TIED CARD OF 'sluicelaw6.CheckTogether'. -/
def checkTogetherCard : Claim7 := { stood := { row := checkTogetherRow, standIns := [], harness := (true, "eb573ac930431fd8d7995098748ec2a96ac5ff1396ce307b35c282f9d92bec30"), looks := false }, kinds := [], alts := [], laidByText := true, laidKinds := [.data, .data, .data, .data, .pinned, .pinned], laidTests := true, laidLooks := .later }
def CheckTogetherCardSaid : Prop := Claim7.holds Tryz.pinned (.plain (OpenSpec.ofChange checkTogetherSpec)) checkTogetherCard

/-- THE SECOND FORM's CARD OF 'sluicelaw6.CheckApart'. -/
def checkApartUptoCard : Claim7 := { stood := { row := checkApartUptoRow, standIns := [], harness := (true, "eb573ac930431fd8d7995098748ec2a96ac5ff1396ce307b35c282f9d92bec30"), looks := false }, kinds := [], alts := [], laidByText := true, laidKinds := [.data, .data, .data, .data, .pinned, .pinned], laidTests := true, laidLooks := .later }
def CheckApartUptoCardSaid : Prop := Claim7.holds Tryz.pinned (.plain (OpenSpec.upto checkApartSpec)) checkApartUptoCard

/-- THE SECOND FORM's CARD OF 'sluicelaw6.CheckParted'. -/
def checkPartedUptoCard : Claim7 := { stood := { row := checkPartedUptoRow, standIns := [], harness := (true, "eb573ac930431fd8d7995098748ec2a96ac5ff1396ce307b35c282f9d92bec30"), looks := false }, kinds := [], alts := [], laidByText := true, laidKinds := [.data, .data, .data, .data, .pinned, .pinned], laidTests := true, laidLooks := .later }
def CheckPartedUptoCardSaid : Prop := Claim7.holds Tryz.pinned (.plain (OpenSpec.upto checkPartedSpec)) checkPartedUptoCard

/-- THE SECOND FORM's CARD OF 'sluicelaw6.CheckTogether'. -/
def checkTogetherUptoCard : Claim7 := { stood := { row := checkTogetherUptoRow, standIns := [], harness := (true, "eb573ac930431fd8d7995098748ec2a96ac5ff1396ce307b35c282f9d92bec30"), looks := false }, kinds := [], alts := [], laidByText := true, laidKinds := [.data, .data, .data, .data, .pinned, .pinned], laidTests := true, laidLooks := .later }
def CheckTogetherUptoCardSaid : Prop := Claim7.holds Tryz.pinned (.plain (OpenSpec.upto checkTogetherSpec)) checkTogetherUptoCard
end Rows
end Go.Proofs.YtlejhococjlijaaGreatDoor
