/-
  DERIVED. GIVEN WITH THE SEED: THE CARDS: each row of YtcjldhnjcmhfhaaDoorRows.lean that lists a variable, with what it lists TIED to the program's text (the seventh form; the later family's looks); each row that meets fmt, with fmt's text TOLD by the authors' own Lean function (tested against real Go, not proved from fmt's source: count such statements apart). THE CARD IS WHAT COUNTS. Prove the row's statement (the work); the ties are given (YtcjldhnjcmhfhaaDoorTie.lean); close each card by the builder's one call (the guide's Derived/Test/ToyasCard.lean, 'card_holds'). Laid BY PROGRAM, IN A SANDBOX (cutbox-door.mjs). By AI agents, Wed Nov 11 2026. No macro, syntax, notation, axiom, sorry.
-/
import Derived.Test.YtcjldhnjcmhfhaaDoorRows
import GoSem.ClaimSeven
namespace Go.Proofs.YtcjldhnjcmhfhaaDoor
namespace Rows

/-- THE TIED CARD OF 'sluicelaw1.NumLattice'. -/
def numLatticeCard : Claim7 := { stood := { row := numLatticeRow, standIns := [], harness := (true, "a0aef66408dda83d4de4400007e8aff747f310bb9840a0e096f688440fac23d2"), looks := false }, kinds := [], alts := [], laidByText := true, laidKinds := [.wider, .wider, .wider], laidTests := true, laidLooks := .later }
def NumLatticeCardSaid : Prop := Claim7.holds Tryd.pinned (.plain (OpenSpec.ofChange numLatticeSpec)) numLatticeCard

/-- THE SECOND FORM's CARD OF 'sluicelaw1.NumLattice'. -/
def numLatticeUptoCard : Claim7 := { stood := { row := numLatticeUptoRow, standIns := [], harness := (true, "a0aef66408dda83d4de4400007e8aff747f310bb9840a0e096f688440fac23d2"), looks := false }, kinds := [], alts := [], laidByText := true, laidKinds := [.wider, .wider, .wider], laidTests := true, laidLooks := .later }
def NumLatticeUptoCardSaid : Prop := Claim7.holds Tryd.pinned (.plain (OpenSpec.upto numLatticeSpec)) numLatticeUptoCard
end Rows
end Go.Proofs.YtcjldhnjcmhfhaaDoor
