/-
  No cell of these rows narrows 'for every input' (looked for: loops, veiled, ifaces, maps, wideKeys, modest, calm, conditions, laid).
  DERIVED. THE GIVEN ROWS OF THIS SEAT. 5 by the template 'for every input the law returns true; each argument reads behind the call as it read before'; 0 by the template 'total and deterministic' (their statements: YtcjldhnjcmhfhaaTotals.lean).
  GIVEN WITH THE SEED: the statements are not yours to turn. If you find one false, say at which input.
  Laid BY PROGRAM, IN A SANDBOX (cutbox-rows.mjs): the forced cells as the released guide's own fill.sh prints them over the translation 23916fed421925cb… (all of the seat's roots in one cut). By AI agents, Wed Nov 11 2026. No macro, syntax, notation, axiom, sorry.
-/
import Derived.Test.YtcjldhnjcmhfhaaChecked
import GoSem.Claim
import GoSem.ClaimJoined
import GoSem.ClaimMapViews
import Derived.JoinedTies
import Derived.KernelRfl
namespace Go.Proofs.Ytcjldhnjcmhfhaa
/- THE CELL 'sum', in the pinned program and in every row, IS THE sha256 OF THE DUMP (.gsa) THAT YtcjldhnjcmhfhaaProg.lean LOADS. Nothing in Lean hashes anything: it is a label: what it is worth is what the hold of that sum in a sandbox is worth. -/
noncomputable def Try.pinned : Pinned := { name := "ytcjldhnjcmhfhaa", sum := "23916fed421925cbed240c3100f44c463b691c77fc7d4df3326cb11b3aea32fa", checked := Try.checked }
namespace Rows
def none {H : Type} : Left H := { results := [], args := [] }

/-- 'sluicelaw1.NumFits': WHATEVER THE INPUT: true; the input reads as it did. -/
def numFitsSpec : ChangeSpec := { name := "numFits", fn := fun _ => fun
  | [d1, d2] => { results := [.lit (.bool true)], args := [d1, d2] }
  | _ => none }
def numFitsRow : OpenClaim := { program := "ytcjldhnjcmhfhaa", sum := "23916fed421925cbed240c3100f44c463b691c77fc7d4df3326cb11b3aea32fa", func := "sluice/sluicelaw1.NumFits", spec := "numFits", inPlace := ["math/bits.Add64", "math/bits.Sub64"], apart := false }
def NumFitsSaid : Prop := numFitsRow.holds Try.pinned (OpenSpec.ofChange numFitsSpec)

/-- ITS FALSE NEIGHBOUR: 'it returns false'. Refute it at one input. -/
def numFitsWrong : ChangeSpec := { name := "numFits", fn := fun _ => fun
  | [d1, d2] => { results := [.lit (.bool false)], args := [d1, d2] }
  | _ => none }
def NumFitsWrongFalsely : Prop := numFitsRow.holds Try.pinned (OpenSpec.ofChange numFitsWrong)

/-- 'sluicelaw1.NumLeaves': WHATEVER THE INPUT: true; the input reads as it did. -/
def numLeavesSpec : ChangeSpec := { name := "numLeaves", fn := fun _ => fun
  | [d1, d2] => { results := [.lit (.bool true)], args := [d1, d2] }
  | _ => none }
def numLeavesRow : OpenClaim := { program := "ytcjldhnjcmhfhaa", sum := "23916fed421925cbed240c3100f44c463b691c77fc7d4df3326cb11b3aea32fa", func := "sluice/sluicelaw1.NumLeaves", spec := "numLeaves", inPlace := ["math/bits.Sub64"], apart := false }
def NumLeavesSaid : Prop := numLeavesRow.holds Try.pinned (OpenSpec.ofChange numLeavesSpec)

/-- ITS FALSE NEIGHBOUR: 'it returns false'. Refute it at one input. -/
def numLeavesWrong : ChangeSpec := { name := "numLeaves", fn := fun _ => fun
  | [d1, d2] => { results := [.lit (.bool false)], args := [d1, d2] }
  | _ => none }
def NumLeavesWrongFalsely : Prop := numLeavesRow.holds Try.pinned (OpenSpec.ofChange numLeavesWrong)

/-- 'sluicelaw1.NumOrders': WHATEVER THE INPUT: true; the input reads as it did. -/
def numOrdersSpec : ChangeSpec := { name := "numOrders", fn := fun _ => fun
  | [d1, d2, d3] => { results := [.lit (.bool true)], args := [d1, d2, d3] }
  | _ => none }
def numOrdersRow : OpenClaim := { program := "ytcjldhnjcmhfhaa", sum := "23916fed421925cbed240c3100f44c463b691c77fc7d4df3326cb11b3aea32fa", func := "sluice/sluicelaw1.NumOrders", spec := "numOrders", inPlace := ["math/bits.Sub64"], apart := false }
def NumOrdersSaid : Prop := numOrdersRow.holds Try.pinned (OpenSpec.ofChange numOrdersSpec)

/-- ITS FALSE NEIGHBOUR: 'it returns false'. Refute it at one input. -/
def numOrdersWrong : ChangeSpec := { name := "numOrders", fn := fun _ => fun
  | [d1, d2, d3] => { results := [.lit (.bool false)], args := [d1, d2, d3] }
  | _ => none }
def NumOrdersWrongFalsely : Prop := numOrdersRow.holds Try.pinned (OpenSpec.ofChange numOrdersWrong)

/-- 'sluicelaw1.NumSpares': WHATEVER THE INPUT: true; the input reads as it did. -/
def numSparesSpec : ChangeSpec := { name := "numSpares", fn := fun _ => fun
  | [d1, d2, d3] => { results := [.lit (.bool true)], args := [d1, d2, d3] }
  | _ => none }
def numSparesRow : OpenClaim := { program := "ytcjldhnjcmhfhaa", sum := "23916fed421925cbed240c3100f44c463b691c77fc7d4df3326cb11b3aea32fa", func := "sluice/sluicelaw1.NumSpares", spec := "numSpares", inPlace := ["math/bits.Add64"], apart := false }
def NumSparesSaid : Prop := numSparesRow.holds Try.pinned (OpenSpec.ofChange numSparesSpec)

/-- ITS FALSE NEIGHBOUR: 'it returns false'. Refute it at one input. -/
def numSparesWrong : ChangeSpec := { name := "numSpares", fn := fun _ => fun
  | [d1, d2, d3] => { results := [.lit (.bool false)], args := [d1, d2, d3] }
  | _ => none }
def NumSparesWrongFalsely : Prop := numSparesRow.holds Try.pinned (OpenSpec.ofChange numSparesWrong)

/-- 'sluicelaw1.NumReorders': WHATEVER THE INPUT: true; the input reads as it did. -/
def numReordersSpec : ChangeSpec := { name := "numReorders", fn := fun _ => fun
  | [d1, d2, d3] => { results := [.lit (.bool true)], args := [d1, d2, d3] }
  | _ => none }
def numReordersRow : OpenClaim := { program := "ytcjldhnjcmhfhaa", sum := "23916fed421925cbed240c3100f44c463b691c77fc7d4df3326cb11b3aea32fa", func := "sluice/sluicelaw1.NumReorders", spec := "numReorders", inPlace := ["math/bits.Add64"], apart := false }
def NumReordersSaid : Prop := numReordersRow.holds Try.pinned (OpenSpec.ofChange numReordersSpec)

/-- ITS FALSE NEIGHBOUR: 'it returns false'. Refute it at one input. -/
def numReordersWrong : ChangeSpec := { name := "numReorders", fn := fun _ => fun
  | [d1, d2, d3] => { results := [.lit (.bool false)], args := [d1, d2, d3] }
  | _ => none }
def NumReordersWrongFalsely : Prop := numReordersRow.holds Try.pinned (OpenSpec.ofChange numReordersWrong)

/- THE SECOND FORM. 'bulk': how many values and letters a reading holds, each counted each time it is reached (what is shared counts as often as it is met; a slice's spare places count too). A statement '..UptoSaid' is the law's where the arguments, and the package variables that the reading takes, are together of bulk at most 1048576: NARROWER than '..Said'. Prove '..Said' where nothing that the law and all that it calls make is longer than what came in: it says more and counts as full. Else prove '..UptoSaid'. A law counts once. -/
mutual
def uptoBulk {H : Type} : DataW H → Nat
  | .lit (.string bytes) => bytes.length + 1
  | .lit _ => 1
  | .nil => 1
  | .ptr d => uptoBulk d + 1
  | .slice elems spare => uptoBulkAll elems + uptoBulkAll spare + 1
  | .agg parts => uptoBulkAll parts + 1
  | .iface _ d => uptoBulk d + 1
  | .map entries => uptoBulkEntries entries + 1
  | .held _ => 1
def uptoBulkAll {H : Type} : List (DataW H) → Nat
  | [] => 0
  | d :: r => uptoBulk d + uptoBulkAll r
def uptoBulkEntries {H : Type} : List (Lit × DataW H) → Nat
  | [] => 0
  | x :: r => uptoBulkEntry x + uptoBulkEntries r
def uptoBulkEntry {H : Type} : Lit × DataW H → Nat
  | (.string bytes, d) => bytes.length + uptoBulk d + 1
  | (_, d) => uptoBulk d + 1
 end
def uptoSmall : (H : Type) → List (DataW H) → Bool := fun _ ds => decide (uptoBulkAll ds ≤ 1048576)
def OpenSpec.upto (s : _root_.Go.ChangeSpec) : _root_.Go.OpenSpec := { _root_.Go.OpenSpec.ofChange s with cond := some uptoSmall }

/-- 'sluicelaw1.NumFits', WHERE WHAT IT READS IS OF BULK AT MOST 1048576: true; the input reads as it did. -/
def numFitsUptoRow : OpenClaim := { program := "ytcjldhnjcmhfhaa", sum := "23916fed421925cbed240c3100f44c463b691c77fc7d4df3326cb11b3aea32fa", func := "sluice/sluicelaw1.NumFits", spec := "numFits", inPlace := ["math/bits.Add64", "math/bits.Sub64"], apart := false, narrowed := true }
def NumFitsUptoSaid : Prop := numFitsUptoRow.holds Try.pinned (OpenSpec.upto numFitsSpec)

/-- 'sluicelaw1.NumLeaves', WHERE WHAT IT READS IS OF BULK AT MOST 1048576: true; the input reads as it did. -/
def numLeavesUptoRow : OpenClaim := { program := "ytcjldhnjcmhfhaa", sum := "23916fed421925cbed240c3100f44c463b691c77fc7d4df3326cb11b3aea32fa", func := "sluice/sluicelaw1.NumLeaves", spec := "numLeaves", inPlace := ["math/bits.Sub64"], apart := false, narrowed := true }
def NumLeavesUptoSaid : Prop := numLeavesUptoRow.holds Try.pinned (OpenSpec.upto numLeavesSpec)

/-- 'sluicelaw1.NumOrders', WHERE WHAT IT READS IS OF BULK AT MOST 1048576: true; the input reads as it did. -/
def numOrdersUptoRow : OpenClaim := { program := "ytcjldhnjcmhfhaa", sum := "23916fed421925cbed240c3100f44c463b691c77fc7d4df3326cb11b3aea32fa", func := "sluice/sluicelaw1.NumOrders", spec := "numOrders", inPlace := ["math/bits.Sub64"], apart := false, narrowed := true }
def NumOrdersUptoSaid : Prop := numOrdersUptoRow.holds Try.pinned (OpenSpec.upto numOrdersSpec)

/-- 'sluicelaw1.NumSpares', WHERE WHAT IT READS IS OF BULK AT MOST 1048576: true; the input reads as it did. -/
def numSparesUptoRow : OpenClaim := { program := "ytcjldhnjcmhfhaa", sum := "23916fed421925cbed240c3100f44c463b691c77fc7d4df3326cb11b3aea32fa", func := "sluice/sluicelaw1.NumSpares", spec := "numSpares", inPlace := ["math/bits.Add64"], apart := false, narrowed := true }
def NumSparesUptoSaid : Prop := numSparesUptoRow.holds Try.pinned (OpenSpec.upto numSparesSpec)

/-- 'sluicelaw1.NumReorders', WHERE WHAT IT READS IS OF BULK AT MOST 1048576: true; the input reads as it did. -/
def numReordersUptoRow : OpenClaim := { program := "ytcjldhnjcmhfhaa", sum := "23916fed421925cbed240c3100f44c463b691c77fc7d4df3326cb11b3aea32fa", func := "sluice/sluicelaw1.NumReorders", spec := "numReorders", inPlace := ["math/bits.Add64"], apart := false, narrowed := true }
def NumReordersUptoSaid : Prop := numReordersUptoRow.holds Try.pinned (OpenSpec.upto numReordersSpec)

end Rows
end Go.Proofs.Ytcjldhnjcmhfhaa
