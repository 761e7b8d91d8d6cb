/-
  No cell of these rows narrows 'for every input' (looked for: loops, veiled, ifaces, maps, wideKeys, modest, calm, conditions, laid).
  DERIVED. THE GIVEN ROWS OF THIS SEAT. 3 by the template 'for every input the law returns true; each argument reads behind the call as it read before'; 0 by the template 'total and deterministic' (their statements: YtoheombjbndolabTotals.lean).
  GIVEN WITH THE SEED: the statements are not yours to turn. If you find one false, say at which input.
  Laid BY PROGRAM, IN A SANDBOX (cutbox-rows.mjs): the forced cells as the released guide's own fill.sh prints them over the translation 7cec3226499f7663… (all of the seat's roots in one cut). By AI agents, Wed Nov 11 2026. No macro, syntax, notation, axiom, sorry.
-/
import Derived.Test.YtoheombjbndolabChecked
import GoSem.Claim
import GoSem.ClaimJoined
import GoSem.ClaimMapViews
import Derived.JoinedTies
import Derived.KernelRfl
namespace Go.Proofs.Ytoheombjbndolab
/- THE CELL 'sum', in the pinned program and in every row, IS THE sha256 OF THE DUMP (.gsa) THAT YtoheombjbndolabProg.lean LOADS. Nothing in Lean hashes anything: it is a label: what it is worth is what the hold of that sum in a sandbox is worth. -/
noncomputable def Try.pinned : Pinned := { name := "ytoheombjbndolab", sum := "7cec3226499f7663a769917e8e68b377ad025da8ad693938f7c6d3905b1f9a22", checked := Try.checked }
namespace Rows
def none {H : Type} : Left H := { results := [], args := [] }

/-- 'sluicelaw9.PileFresh': WHATEVER THE INPUT: true; the input reads as it did. -/
def pileFreshSpec : ChangeSpec := { name := "pileFresh", fn := fun _ => fun
  | [d] => { results := [.lit (.bool true)], args := [d] }
  | _ => none }
def pileFreshRow : OpenClaim := { program := "ytoheombjbndolab", sum := "7cec3226499f7663a769917e8e68b377ad025da8ad693938f7c6d3905b1f9a22", func := "sluice/sluicelaw9.PileFresh", spec := "pileFresh", unfollowed := true, recurses := true, apart := false }
def PileFreshSaid : Prop := pileFreshRow.holds Try.pinned (OpenSpec.ofChange pileFreshSpec)

/-- ITS FALSE NEIGHBOUR: 'it returns false'. Refute it at one input. -/
def pileFreshWrong : ChangeSpec := { name := "pileFresh", fn := fun _ => fun
  | [d] => { results := [.lit (.bool false)], args := [d] }
  | _ => none }
def PileFreshWrongFalsely : Prop := pileFreshRow.holds Try.pinned (OpenSpec.ofChange pileFreshWrong)

/-- 'sluicelaw9.PileMatches': WHATEVER THE INPUT: true; the input reads as it did. -/
def pileMatchesSpec : ChangeSpec := { name := "pileMatches", fn := fun _ => fun
  | [d] => { results := [.lit (.bool true)], args := [d] }
  | _ => none }
def pileMatchesRow : OpenClaim := { program := "ytoheombjbndolab", sum := "7cec3226499f7663a769917e8e68b377ad025da8ad693938f7c6d3905b1f9a22", func := "sluice/sluicelaw9.PileMatches", spec := "pileMatches", unfollowed := true, recurses := true, apart := false }
def PileMatchesSaid : Prop := pileMatchesRow.holds Try.pinned (OpenSpec.ofChange pileMatchesSpec)

/-- ITS FALSE NEIGHBOUR: 'it returns false'. Refute it at one input. -/
def pileMatchesWrong : ChangeSpec := { name := "pileMatches", fn := fun _ => fun
  | [d] => { results := [.lit (.bool false)], args := [d] }
  | _ => none }
def PileMatchesWrongFalsely : Prop := pileMatchesRow.holds Try.pinned (OpenSpec.ofChange pileMatchesWrong)

/-- 'sluicelaw9.PilePlays': WHATEVER THE INPUT: true; the input reads as it did. -/
def pilePlaysSpec : ChangeSpec := { name := "pilePlays", fn := fun _ => fun
  | [d] => { results := [.lit (.bool true)], args := [d] }
  | _ => none }
def pilePlaysRow : OpenClaim := { program := "ytoheombjbndolab", sum := "7cec3226499f7663a769917e8e68b377ad025da8ad693938f7c6d3905b1f9a22", func := "sluice/sluicelaw9.PilePlays", spec := "pilePlays", unfollowed := true, recurses := true, apart := false }
def PilePlaysSaid : Prop := pilePlaysRow.holds Try.pinned (OpenSpec.ofChange pilePlaysSpec)

/-- ITS FALSE NEIGHBOUR: 'it returns false'. Refute it at one input. -/
def pilePlaysWrong : ChangeSpec := { name := "pilePlays", fn := fun _ => fun
  | [d] => { results := [.lit (.bool false)], args := [d] }
  | _ => none }
def PilePlaysWrongFalsely : Prop := pilePlaysRow.holds Try.pinned (OpenSpec.ofChange pilePlaysWrong)

/- THE SECOND FORM. 'bulk': how many values and letters a reading holds, each counted each time it is reached (what is shared counts as often as it is met; a slice's spare places count too). A statement '..UptoSaid' is the law's where the arguments, and the package variables that the reading takes, are together of bulk at most 1048576: NARROWER than '..Said'. Prove '..Said' where nothing that the law and all that it calls make is longer than what came in: it says more and counts as full. Else prove '..UptoSaid'. A law counts once. -/
mutual
def uptoBulk {H : Type} : DataW H → Nat
  | .lit (.string bytes) => bytes.length + 1
  | .lit _ => 1
  | .nil => 1
  | .ptr d => uptoBulk d + 1
  | .slice elems spare => uptoBulkAll elems + uptoBulkAll spare + 1
  | .agg parts => uptoBulkAll parts + 1
  | .iface _ d => uptoBulk d + 1
  | .map entries => uptoBulkEntries entries + 1
  | .held _ => 1
def uptoBulkAll {H : Type} : List (DataW H) → Nat
  | [] => 0
  | d :: r => uptoBulk d + uptoBulkAll r
def uptoBulkEntries {H : Type} : List (Lit × DataW H) → Nat
  | [] => 0
  | x :: r => uptoBulkEntry x + uptoBulkEntries r
def uptoBulkEntry {H : Type} : Lit × DataW H → Nat
  | (.string bytes, d) => bytes.length + uptoBulk d + 1
  | (_, d) => uptoBulk d + 1
 end
def uptoSmall : (H : Type) → List (DataW H) → Bool := fun _ ds => decide (uptoBulkAll ds ≤ 1048576)
def OpenSpec.upto (s : _root_.Go.ChangeSpec) : _root_.Go.OpenSpec := { _root_.Go.OpenSpec.ofChange s with cond := some uptoSmall }

/-- 'sluicelaw9.PileFresh', WHERE WHAT IT READS IS OF BULK AT MOST 1048576: true; the input reads as it did. -/
def pileFreshUptoRow : OpenClaim := { program := "ytoheombjbndolab", sum := "7cec3226499f7663a769917e8e68b377ad025da8ad693938f7c6d3905b1f9a22", func := "sluice/sluicelaw9.PileFresh", spec := "pileFresh", unfollowed := true, recurses := true, apart := false, narrowed := true }
def PileFreshUptoSaid : Prop := pileFreshUptoRow.holds Try.pinned (OpenSpec.upto pileFreshSpec)

/-- 'sluicelaw9.PileMatches', WHERE WHAT IT READS IS OF BULK AT MOST 1048576: true; the input reads as it did. -/
def pileMatchesUptoRow : OpenClaim := { program := "ytoheombjbndolab", sum := "7cec3226499f7663a769917e8e68b377ad025da8ad693938f7c6d3905b1f9a22", func := "sluice/sluicelaw9.PileMatches", spec := "pileMatches", unfollowed := true, recurses := true, apart := false, narrowed := true }
def PileMatchesUptoSaid : Prop := pileMatchesUptoRow.holds Try.pinned (OpenSpec.upto pileMatchesSpec)

/-- 'sluicelaw9.PilePlays', WHERE WHAT IT READS IS OF BULK AT MOST 1048576: true; the input reads as it did. -/
def pilePlaysUptoRow : OpenClaim := { program := "ytoheombjbndolab", sum := "7cec3226499f7663a769917e8e68b377ad025da8ad693938f7c6d3905b1f9a22", func := "sluice/sluicelaw9.PilePlays", spec := "pilePlays", unfollowed := true, recurses := true, apart := false, narrowed := true }
def PilePlaysUptoSaid : Prop := pilePlaysUptoRow.holds Try.pinned (OpenSpec.upto pilePlaysSpec)

end Rows
end Go.Proofs.Ytoheombjbndolab
