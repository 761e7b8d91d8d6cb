/-
  NARROWER THAN 'FOR EVERY INPUT', by the rows' own cells (each row's printed sentence says how): NumFirm: laid · NumRuns: laid.
  DERIVED. THE GIVEN ROWS OF THIS SEAT. 2 by the template 'for every input the law returns true; each argument reads behind the call as it read before'; 0 by the template 'total and deterministic' (their statements: YtompfpeankcfeaaDoorTotals.lean).
  GIVEN WITH THE SEED: the statements are not yours to turn. If you find one false, say at which input.
  Laid BY PROGRAM, IN A SANDBOX (cutbox-rows.mjs): the forced cells as the released guide's own fill.sh prints them over the translation c87e593b5700eee9… (all of the seat's roots in one cut). By AI agents, Wed Nov 11 2026. No macro, syntax, notation, axiom, sorry.
-/
import Derived.Test.YtompfpeankcfeaaDoorChecked
import GoSem.Claim
import GoSem.ClaimJoined
import GoSem.ClaimMapViews
import Derived.JoinedTies
import Derived.KernelRfl
namespace Go.Proofs.YtompfpeankcfeaaDoor
/- THE CELL 'sum', in the pinned program and in every row, IS THE sha256 OF THE DUMP (.gsa) THAT YtompfpeankcfeaaDoorProg.lean LOADS. Nothing in Lean hashes anything: it is a label: what it is worth is what the hold of that sum in a sandbox is worth. -/
noncomputable def Tryd.pinned : Pinned := { name := "ytompfpeankcfeaadoor", sum := "c87e593b5700eee9a98bdf4dcb9bdb2d9012eb26ee52f89dd5ed303b97e151a4", checked := Tryd.checked }
namespace Rows
def none {H : Type} : Left H := { results := [], args := [] }

/- WHAT THE LISTED PACKAGE-LEVEL VARIABLES READ AS WHEN THE CALL BEGINS. Each datum BY PROGRAM (the guide's laid-datum.mjs) off the statement by which the dump's own 'gosem.cut.vars' lays the variable. In a bare row this is a premise. The card (YtompfpeankcfeaaDoorCards.lean) ties it to the program's text. -/
def laid_sluice_num_andTable {H : Type} : DataW H := .agg [.agg [.lit (.int .i64 0), .lit (.int .i64 0), .lit (.int .i64 0)], .agg [.lit (.int .i64 0), .lit (.int .i64 1), .lit (.int .i64 1)], .agg [.lit (.int .i64 0), .lit (.int .i64 1), .lit (.int .i64 2)]]
def laid_sluice_num_orTable {H : Type} : DataW H := .agg [.agg [.lit (.int .i64 0), .lit (.int .i64 1), .lit (.int .i64 2)], .agg [.lit (.int .i64 1), .lit (.int .i64 1), .lit (.int .i64 2)], .agg [.lit (.int .i64 2), .lit (.int .i64 2), .lit (.int .i64 2)]]
def laid_sluice_num_notTable {H : Type} : DataW H := .agg [.lit (.int .i64 2), .lit (.int .i64 1), .lit (.int .i64 0)]

/-- 'sluicelaw1.NumFirm': WHATEVER THE INPUT: true; the input reads as it did. -/
def numFirmSpec : ChangeSpec := { name := "numFirm", fn := fun _ => fun
  | [d1, d2] => { results := [.lit (.bool true)], args := [d1, d2] }
  | _ => none }
def numFirmRow : OpenClaim := { program := "ytompfpeankcfeaadoor", sum := "c87e593b5700eee9a98bdf4dcb9bdb2d9012eb26ee52f89dd5ed303b97e151a4", func := "sluice/sluicelaw1.NumFirm", spec := "numFirm", inPlace := ["math/bits.Add64", "math/bits.Sub64"], named := ["sluice/num.andTable", "sluice/num.orTable", "sluice/num.notTable"], apart := false, laid := [("sluice/num.andTable", laid_sluice_num_andTable), ("sluice/num.orTable", laid_sluice_num_orTable), ("sluice/num.notTable", laid_sluice_num_notTable)] }
def NumFirmSaid : Prop := numFirmRow.holds Tryd.pinned (OpenSpec.ofChange numFirmSpec)

/-- ITS FALSE NEIGHBOUR: 'it returns false'. Refute it at one input. -/
def numFirmWrong : ChangeSpec := { name := "numFirm", fn := fun _ => fun
  | [d1, d2] => { results := [.lit (.bool false)], args := [d1, d2] }
  | _ => none }
def NumFirmWrongFalsely : Prop := numFirmRow.holds Tryd.pinned (OpenSpec.ofChange numFirmWrong)

/-- 'sluicelaw1.NumRuns': WHATEVER THE INPUT: true; the input reads as it did. -/
def numRunsSpec : ChangeSpec := { name := "numRuns", fn := fun _ => fun
  | [d] => { results := [.lit (.bool true)], args := [d] }
  | _ => none }
def numRunsRow : OpenClaim := { program := "ytompfpeankcfeaadoor", sum := "c87e593b5700eee9a98bdf4dcb9bdb2d9012eb26ee52f89dd5ed303b97e151a4", func := "sluice/sluicelaw1.NumRuns", spec := "numRuns", inPlace := ["math/bits.Add64", "math/bits.Sub64"], named := ["sluice/num.notTable", "sluice/num.andTable", "sluice/num.orTable"], apart := false, laid := [("sluice/num.andTable", laid_sluice_num_andTable), ("sluice/num.orTable", laid_sluice_num_orTable), ("sluice/num.notTable", laid_sluice_num_notTable)] }
def NumRunsSaid : Prop := numRunsRow.holds Tryd.pinned (OpenSpec.ofChange numRunsSpec)

/-- ITS FALSE NEIGHBOUR: 'it returns false'. Refute it at one input. -/
def numRunsWrong : ChangeSpec := { name := "numRuns", fn := fun _ => fun
  | [d] => { results := [.lit (.bool false)], args := [d] }
  | _ => none }
def NumRunsWrongFalsely : Prop := numRunsRow.holds Tryd.pinned (OpenSpec.ofChange numRunsWrong)

/- THE SECOND FORM. 'bulk': how many values and letters a reading holds, each counted each time it is reached (what is shared counts as often as it is met; a slice's spare places count too). A statement '..UptoSaid' is the law's where the arguments, and the package variables that the reading takes, are together of bulk at most 1048576: NARROWER than '..Said'. Prove '..Said' where nothing that the law and all that it calls make is longer than what came in: it says more and counts as full. Else prove '..UptoSaid'. A law counts once. -/
mutual
def uptoBulk {H : Type} : DataW H → Nat
  | .lit (.string bytes) => bytes.length + 1
  | .lit _ => 1
  | .nil => 1
  | .ptr d => uptoBulk d + 1
  | .slice elems spare => uptoBulkAll elems + uptoBulkAll spare + 1
  | .agg parts => uptoBulkAll parts + 1
  | .iface _ d => uptoBulk d + 1
  | .map entries => uptoBulkEntries entries + 1
  | .held _ => 1
def uptoBulkAll {H : Type} : List (DataW H) → Nat
  | [] => 0
  | d :: r => uptoBulk d + uptoBulkAll r
def uptoBulkEntries {H : Type} : List (Lit × DataW H) → Nat
  | [] => 0
  | x :: r => uptoBulkEntry x + uptoBulkEntries r
def uptoBulkEntry {H : Type} : Lit × DataW H → Nat
  | (.string bytes, d) => bytes.length + uptoBulk d + 1
  | (_, d) => uptoBulk d + 1
 end
def uptoSmall : (H : Type) → List (DataW H) → Bool := fun _ ds => decide (uptoBulkAll ds ≤ 1048576)
def OpenSpec.upto (s : _root_.Go.ChangeSpec) : _root_.Go.OpenSpec := { _root_.Go.OpenSpec.ofChange s with cond := some uptoSmall }

/-- 'sluicelaw1.NumFirm', WHERE WHAT IT READS IS OF BULK AT MOST 1048576: true; the input reads as it did. -/
def numFirmUptoRow : OpenClaim := { program := "ytompfpeankcfeaadoor", sum := "c87e593b5700eee9a98bdf4dcb9bdb2d9012eb26ee52f89dd5ed303b97e151a4", func := "sluice/sluicelaw1.NumFirm", spec := "numFirm", inPlace := ["math/bits.Add64", "math/bits.Sub64"], named := ["sluice/num.andTable", "sluice/num.orTable", "sluice/num.notTable"], apart := false, laid := [("sluice/num.andTable", laid_sluice_num_andTable), ("sluice/num.orTable", laid_sluice_num_orTable), ("sluice/num.notTable", laid_sluice_num_notTable)], narrowed := true }
def NumFirmUptoSaid : Prop := numFirmUptoRow.holds Tryd.pinned (OpenSpec.upto numFirmSpec)

/-- 'sluicelaw1.NumRuns', WHERE WHAT IT READS IS OF BULK AT MOST 1048576: true; the input reads as it did. -/
def numRunsUptoRow : OpenClaim := { program := "ytompfpeankcfeaadoor", sum := "c87e593b5700eee9a98bdf4dcb9bdb2d9012eb26ee52f89dd5ed303b97e151a4", func := "sluice/sluicelaw1.NumRuns", spec := "numRuns", inPlace := ["math/bits.Add64", "math/bits.Sub64"], named := ["sluice/num.notTable", "sluice/num.andTable", "sluice/num.orTable"], apart := false, laid := [("sluice/num.andTable", laid_sluice_num_andTable), ("sluice/num.orTable", laid_sluice_num_orTable), ("sluice/num.notTable", laid_sluice_num_notTable)], narrowed := true }
def NumRunsUptoSaid : Prop := numRunsUptoRow.holds Tryd.pinned (OpenSpec.upto numRunsSpec)

end Rows
end Go.Proofs.YtompfpeankcfeaaDoor
