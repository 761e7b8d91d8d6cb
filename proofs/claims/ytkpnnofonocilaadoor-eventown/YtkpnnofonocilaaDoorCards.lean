/-
  DERIVED. GIVEN WITH THE SEED: THE CARDS: each row of YtkpnnofonocilaaDoorRows.lean that lists a variable, with what it lists TIED to the program's text (the seventh form; the later family's looks); each row that meets fmt, with fmt's text TOLD by the authors' own Lean function (tested against real Go, not proved from fmt's source: count such statements apart). THE CARD IS WHAT COUNTS. Prove the row's statement (the work); the ties are given (YtkpnnofonocilaaDoorTie.lean); close each card by the builder's one call (the guide's Derived/Test/ToyasCard.lean, 'card_holds'). Laid BY PROGRAM, IN A SANDBOX (cutbox-door.mjs). By AI agents, Wed Nov 11 2026. No macro, syntax, notation, axiom, sorry.
-/
import Derived.Test.YtkpnnofonocilaaDoorRows
import GoSem.ClaimSeven
namespace Go.Proofs.YtkpnnofonocilaaDoor
namespace Rows

/-- THE TIED CARD OF 'sluicelaw2.EventReadsSchema'. -/
def eventReadsSchemaCard : Claim7 := { stood := { row := eventReadsSchemaRow, standIns := [], harness := (true, "bbe501a9244f09b48f32da34995189ec9d8a95e3a7565f3e10b5f37fdfc8c99f"), looks := true }, kinds := [], alts := [], laidByText := true, laidKinds := [.data, .data, .data, .data, .pinned, .pinned], laidTests := true, laidLooks := .later }
def EventReadsSchemaCardSaid : Prop := Claim7.holds Tryd.pinned (.plain (OpenSpec.ofChange eventReadsSchemaSpec)) eventReadsSchemaCard

/-- THE TIED CARD OF 'sluicelaw2.EventOwn'. -/
def eventOwnCard : Claim7 := { stood := { row := eventOwnRow, standIns := [], harness := (true, "bbe501a9244f09b48f32da34995189ec9d8a95e3a7565f3e10b5f37fdfc8c99f"), looks := true }, kinds := [], alts := [], laidByText := true, laidKinds := [.data, .data, .data, .data, .sentinel, .sentinel, .data, .data, .data, .pinned, .pinned], laidTests := true, laidLooks := .later }
def EventOwnCardSaid : Prop := Claim7.holds Tryd.pinned (.plain (OpenSpec.ofChange eventOwnSpec)) eventOwnCard

/-- THE TIED CARD OF 'sluicelaw2.EventSpaces'. -/
def eventSpacesCard : Claim7 := { stood := { row := eventSpacesRow, standIns := [], harness := (true, "bbe501a9244f09b48f32da34995189ec9d8a95e3a7565f3e10b5f37fdfc8c99f"), looks := true }, kinds := [], alts := [], laidByText := true, laidKinds := [.data, .data, .data, .data, .sentinel, .sentinel, .data, .data, .data, .pinned, .pinned], laidTests := true, laidLooks := .later }
def EventSpacesCardSaid : Prop := Claim7.holds Tryd.pinned (.plain (OpenSpec.ofChange eventSpacesSpec)) eventSpacesCard

/-- THE TIED CARD OF 'sluicelaw2.EventReads'. -/
def eventReadsCard : Claim7 := { stood := { row := eventReadsRow, standIns := [], harness := (true, "bbe501a9244f09b48f32da34995189ec9d8a95e3a7565f3e10b5f37fdfc8c99f"), looks := true }, kinds := [], alts := [], laidByText := true, laidKinds := [.data, .data, .data, .data, .sentinel, .sentinel, .data, .data, .data, .pinned, .pinned], laidTests := true, laidLooks := .later }
def EventReadsCardSaid : Prop := Claim7.holds Tryd.pinned (.plain (OpenSpec.ofChange eventReadsSpec)) eventReadsCard

/-- THE TIED CARD OF 'sluicelaw2.EventCanon'. -/
def eventCanonCard : Claim7 := { stood := { row := eventCanonRow, standIns := [], harness := (true, "bbe501a9244f09b48f32da34995189ec9d8a95e3a7565f3e10b5f37fdfc8c99f"), looks := true }, kinds := [], alts := [], laidByText := true, laidKinds := [.data, .data, .data, .data, .sentinel, .sentinel, .data, .data, .data, .pinned, .pinned], laidTests := true, laidLooks := .later }
def EventCanonCardSaid : Prop := Claim7.holds Tryd.pinned (.plain (OpenSpec.ofChange eventCanonSpec)) eventCanonCard

/-- THE TIED CARD OF 'sluicelaw2.EventFile'. -/
def eventFileCard : Claim7 := { stood := { row := eventFileRow, standIns := [], harness := (true, "bbe501a9244f09b48f32da34995189ec9d8a95e3a7565f3e10b5f37fdfc8c99f"), looks := true }, kinds := [], alts := [], laidByText := true, laidKinds := [.data, .data, .data, .data, .sentinel, .sentinel, .data, .data, .data, .pinned, .pinned], laidTests := true, laidLooks := .later }
def EventFileCardSaid : Prop := Claim7.holds Tryd.pinned (.plain (OpenSpec.ofChange eventFileSpec)) eventFileCard

/-- THE SECOND FORM's CARD OF 'sluicelaw2.EventReadsSchema'. -/
def eventReadsSchemaUptoCard : Claim7 := { stood := { row := eventReadsSchemaUptoRow, standIns := [], harness := (true, "bbe501a9244f09b48f32da34995189ec9d8a95e3a7565f3e10b5f37fdfc8c99f"), looks := true }, kinds := [], alts := [], laidByText := true, laidKinds := [.data, .data, .data, .data, .pinned, .pinned], laidTests := true, laidLooks := .later }
def EventReadsSchemaUptoCardSaid : Prop := Claim7.holds Tryd.pinned (.plain (OpenSpec.upto eventReadsSchemaSpec)) eventReadsSchemaUptoCard

/-- THE SECOND FORM's CARD OF 'sluicelaw2.EventOwn'. -/
def eventOwnUptoCard : Claim7 := { stood := { row := eventOwnUptoRow, standIns := [], harness := (true, "bbe501a9244f09b48f32da34995189ec9d8a95e3a7565f3e10b5f37fdfc8c99f"), looks := true }, kinds := [], alts := [], laidByText := true, laidKinds := [.data, .data, .data, .data, .sentinel, .sentinel, .data, .data, .data, .pinned, .pinned], laidTests := true, laidLooks := .later }
def EventOwnUptoCardSaid : Prop := Claim7.holds Tryd.pinned (.plain (OpenSpec.upto eventOwnSpec)) eventOwnUptoCard

/-- THE SECOND FORM's CARD OF 'sluicelaw2.EventSpaces'. -/
def eventSpacesUptoCard : Claim7 := { stood := { row := eventSpacesUptoRow, standIns := [], harness := (true, "bbe501a9244f09b48f32da34995189ec9d8a95e3a7565f3e10b5f37fdfc8c99f"), looks := true }, kinds := [], alts := [], laidByText := true, laidKinds := [.data, .data, .data, .data, .sentinel, .sentinel, .data, .data, .data, .pinned, .pinned], laidTests := true, laidLooks := .later }
def EventSpacesUptoCardSaid : Prop := Claim7.holds Tryd.pinned (.plain (OpenSpec.upto eventSpacesSpec)) eventSpacesUptoCard

/-- THE SECOND FORM's CARD OF 'sluicelaw2.EventReads'. -/
def eventReadsUptoCard : Claim7 := { stood := { row := eventReadsUptoRow, standIns := [], harness := (true, "bbe501a9244f09b48f32da34995189ec9d8a95e3a7565f3e10b5f37fdfc8c99f"), looks := true }, kinds := [], alts := [], laidByText := true, laidKinds := [.data, .data, .data, .data, .sentinel, .sentinel, .data, .data, .data, .pinned, .pinned], laidTests := true, laidLooks := .later }
def EventReadsUptoCardSaid : Prop := Claim7.holds Tryd.pinned (.plain (OpenSpec.upto eventReadsSpec)) eventReadsUptoCard

/-- THE SECOND FORM's CARD OF 'sluicelaw2.EventCanon'. -/
def eventCanonUptoCard : Claim7 := { stood := { row := eventCanonUptoRow, standIns := [], harness := (true, "bbe501a9244f09b48f32da34995189ec9d8a95e3a7565f3e10b5f37fdfc8c99f"), looks := true }, kinds := [], alts := [], laidByText := true, laidKinds := [.data, .data, .data, .data, .sentinel, .sentinel, .data, .data, .data, .pinned, .pinned], laidTests := true, laidLooks := .later }
def EventCanonUptoCardSaid : Prop := Claim7.holds Tryd.pinned (.plain (OpenSpec.upto eventCanonSpec)) eventCanonUptoCard

/-- THE SECOND FORM's CARD OF 'sluicelaw2.EventFile'. -/
def eventFileUptoCard : Claim7 := { stood := { row := eventFileUptoRow, standIns := [], harness := (true, "bbe501a9244f09b48f32da34995189ec9d8a95e3a7565f3e10b5f37fdfc8c99f"), looks := true }, kinds := [], alts := [], laidByText := true, laidKinds := [.data, .data, .data, .data, .sentinel, .sentinel, .data, .data, .data, .pinned, .pinned], laidTests := true, laidLooks := .later }
def EventFileUptoCardSaid : Prop := Claim7.holds Tryd.pinned (.plain (OpenSpec.upto eventFileSpec)) eventFileUptoCard
end Rows
end Go.Proofs.YtkpnnofonocilaaDoor
