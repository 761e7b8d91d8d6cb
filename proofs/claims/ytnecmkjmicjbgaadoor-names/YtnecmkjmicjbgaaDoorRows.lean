/-
  NARROWER THAN 'FOR EVERY INPUT', by the rows' own cells (each row's printed sentence says how): NumFirm: laid · NumRuns: laid · Names: laid.
  DERIVED. THE GIVEN ROWS OF THIS SEAT. 3 by the template 'for every input the law returns true; each argument reads behind the call as it read before'; 0 by the template 'total and deterministic' (their statements: YtnecmkjmicjbgaaDoorTotals.lean).
  GIVEN WITH THE SEED: the statements are not yours to turn. If you find one false, say at which input.
  Laid BY PROGRAM, IN A SANDBOX (cutbox-rows.mjs): the forced cells as the released guide's own fill.sh prints them over the translation 5614bd8b0a571cf6… (all of the seat's roots in one cut). By AI agents, Wed Nov 11 2026. No macro, syntax, notation, axiom, sorry.
-/
import Derived.Test.YtnecmkjmicjbgaaDoorChecked
import GoSem.Claim
import GoSem.ClaimJoined
import GoSem.ClaimMapViews
import Derived.JoinedTies
import Derived.KernelRfl
namespace Go.Proofs.YtnecmkjmicjbgaaDoor
/- THE CELL 'sum', in the pinned program and in every row, IS THE sha256 OF THE DUMP (.gsa) THAT YtnecmkjmicjbgaaDoorProg.lean LOADS. Nothing in Lean hashes anything: it is a label: what it is worth is what the hold of that sum in a sandbox is worth. -/
noncomputable def Tryd.pinned : Pinned := { name := "ytnecmkjmicjbgaadoor", sum := "5614bd8b0a571cf64c445d5d72a7ebb1724f88a4d76eac6aaa39b545abed8983", checked := Tryd.checked }
namespace Rows
def none {H : Type} : Left H := { results := [], args := [] }

/- WHAT THE LISTED PACKAGE-LEVEL VARIABLES READ AS WHEN THE CALL BEGINS. Each datum BY PROGRAM (the guide's laid-datum.mjs) off the statement by which the dump's own 'gosem.cut.vars' lays the variable. In a bare row this is a premise. The card (YtnecmkjmicjbgaaDoorCards.lean) ties it to the program's text. -/
def laid_sluice_num_andTable {H : Type} : DataW H := .agg [.agg [.lit (.int .i64 0), .lit (.int .i64 0), .lit (.int .i64 0)], .agg [.lit (.int .i64 0), .lit (.int .i64 1), .lit (.int .i64 1)], .agg [.lit (.int .i64 0), .lit (.int .i64 1), .lit (.int .i64 2)]]
def laid_sluice_num_orTable {H : Type} : DataW H := .agg [.agg [.lit (.int .i64 0), .lit (.int .i64 1), .lit (.int .i64 2)], .agg [.lit (.int .i64 1), .lit (.int .i64 1), .lit (.int .i64 2)], .agg [.lit (.int .i64 2), .lit (.int .i64 2), .lit (.int .i64 2)]]
def laid_sluice_num_notTable {H : Type} : DataW H := .agg [.lit (.int .i64 2), .lit (.int .i64 1), .lit (.int .i64 0)]
def laid_sluice_api_Keywords {H : Type} : DataW H := .agg [.lit (.string [80, 65, 84, 84, 69, 82, 78]), .lit (.string [83, 69, 81]), .lit (.string [85, 83, 73, 78, 71]), .lit (.string [65, 78, 89]), .lit (.string [78, 69, 88, 84]), .lit (.string [83, 84, 82, 73, 67, 84]), .lit (.string [87, 72, 69, 82, 69]), .lit (.string [87, 73, 84, 72, 73, 78]), .lit (.string [80, 65, 82, 84, 73, 84, 73, 79, 78]), .lit (.string [66, 89]), .lit (.string [82, 69, 84, 85, 82, 78]), .lit (.string [65, 78, 68]), .lit (.string [79, 82]), .lit (.string [78, 79, 84]), .lit (.string [84, 82, 85, 69]), .lit (.string [70, 65, 76, 83, 69]), .lit (.string [67, 79, 85, 78, 84]), .lit (.string [83, 85, 77]), .lit (.string [77, 73, 78]), .lit (.string [77, 65, 88]), .lit (.string [70, 73, 82, 83, 84]), .lit (.string [76, 65, 83, 84]), .lit (.string [80, 82, 69, 86]), .lit (.string [65, 70, 84, 69, 82]), .lit (.string [65, 76, 76]), .lit (.string [80, 65, 83, 84]), .lit (.string [79, 78, 67, 69])]

/-- 'sluicelaw1.NumFirm': WHATEVER THE INPUT: true; the input reads as it did. -/
def numFirmSpec : ChangeSpec := { name := "numFirm", fn := fun _ => fun
  | [d1, d2] => { results := [.lit (.bool true)], args := [d1, d2] }
  | _ => none }
def numFirmRow : OpenClaim := { program := "ytnecmkjmicjbgaadoor", sum := "5614bd8b0a571cf64c445d5d72a7ebb1724f88a4d76eac6aaa39b545abed8983", func := "sluice/sluicelaw1.NumFirm", spec := "numFirm", inPlace := ["math/bits.Add64", "math/bits.Sub64"], named := ["sluice/num.andTable", "sluice/num.orTable", "sluice/num.notTable"], apart := false, laid := [("sluice/num.andTable", laid_sluice_num_andTable), ("sluice/num.orTable", laid_sluice_num_orTable), ("sluice/num.notTable", laid_sluice_num_notTable)] }
def NumFirmSaid : Prop := numFirmRow.holds Tryd.pinned (OpenSpec.ofChange numFirmSpec)

/-- ITS FALSE NEIGHBOUR: 'it returns false'. Refute it at one input. -/
def numFirmWrong : ChangeSpec := { name := "numFirm", fn := fun _ => fun
  | [d1, d2] => { results := [.lit (.bool false)], args := [d1, d2] }
  | _ => none }
def NumFirmWrongFalsely : Prop := numFirmRow.holds Tryd.pinned (OpenSpec.ofChange numFirmWrong)

/-- 'sluicelaw1.NumRuns': WHATEVER THE INPUT: true; the input reads as it did. -/
def numRunsSpec : ChangeSpec := { name := "numRuns", fn := fun _ => fun
  | [d] => { results := [.lit (.bool true)], args := [d] }
  | _ => none }
def numRunsRow : OpenClaim := { program := "ytnecmkjmicjbgaadoor", sum := "5614bd8b0a571cf64c445d5d72a7ebb1724f88a4d76eac6aaa39b545abed8983", func := "sluice/sluicelaw1.NumRuns", spec := "numRuns", inPlace := ["math/bits.Add64", "math/bits.Sub64"], named := ["sluice/num.notTable", "sluice/num.andTable", "sluice/num.orTable"], apart := false, laid := [("sluice/num.andTable", laid_sluice_num_andTable), ("sluice/num.orTable", laid_sluice_num_orTable), ("sluice/num.notTable", laid_sluice_num_notTable)] }
def NumRunsSaid : Prop := numRunsRow.holds Tryd.pinned (OpenSpec.ofChange numRunsSpec)

/-- ITS FALSE NEIGHBOUR: 'it returns false'. Refute it at one input. -/
def numRunsWrong : ChangeSpec := { name := "numRuns", fn := fun _ => fun
  | [d] => { results := [.lit (.bool false)], args := [d] }
  | _ => none }
def NumRunsWrongFalsely : Prop := numRunsRow.holds Tryd.pinned (OpenSpec.ofChange numRunsWrong)

/-- 'sluicetop.Names': WHATEVER THE INPUT: true; the input reads as it did. -/
def namesSpec : ChangeSpec := { name := "names", fn := fun _ => fun
  | [] => { results := [.lit (.bool true)], args := [] }
  | _ => none }
def namesRow : OpenClaim := { program := "ytnecmkjmicjbgaadoor", sum := "5614bd8b0a571cf64c445d5d72a7ebb1724f88a4d76eac6aaa39b545abed8983", func := "sluice/sluicetop.Names", spec := "names", named := ["sluice/api.Keywords"], apart := false, laid := [("sluice/api.Keywords", laid_sluice_api_Keywords)] }
def NamesSaid : Prop := namesRow.holds Tryd.pinned (OpenSpec.ofChange namesSpec)

/-- ITS FALSE NEIGHBOUR: 'it returns false'. Refute it at one input. -/
def namesWrong : ChangeSpec := { name := "names", fn := fun _ => fun
  | [] => { results := [.lit (.bool false)], args := [] }
  | _ => none }
def NamesWrongFalsely : Prop := namesRow.holds Tryd.pinned (OpenSpec.ofChange namesWrong)

/- THE SECOND FORM. 'bulk': how many values and letters a reading holds, each counted each time it is reached (what is shared counts as often as it is met; a slice's spare places count too). A statement '..UptoSaid' is the law's where the arguments, and the package variables that the reading takes, are together of bulk at most 1048576: NARROWER than '..Said'. Prove '..Said' where nothing that the law and all that it calls make is longer than what came in: it says more and counts as full. Else prove '..UptoSaid'. A law counts once. -/
mutual
def uptoBulk {H : Type} : DataW H → Nat
  | .lit (.string bytes) => bytes.length + 1
  | .lit _ => 1
  | .nil => 1
  | .ptr d => uptoBulk d + 1
  | .slice elems spare => uptoBulkAll elems + uptoBulkAll spare + 1
  | .agg parts => uptoBulkAll parts + 1
  | .iface _ d => uptoBulk d + 1
  | .map entries => uptoBulkEntries entries + 1
  | .held _ => 1
def uptoBulkAll {H : Type} : List (DataW H) → Nat
  | [] => 0
  | d :: r => uptoBulk d + uptoBulkAll r
def uptoBulkEntries {H : Type} : List (Lit × DataW H) → Nat
  | [] => 0
  | x :: r => uptoBulkEntry x + uptoBulkEntries r
def uptoBulkEntry {H : Type} : Lit × DataW H → Nat
  | (.string bytes, d) => bytes.length + uptoBulk d + 1
  | (_, d) => uptoBulk d + 1
 end
def uptoSmall : (H : Type) → List (DataW H) → Bool := fun _ ds => decide (uptoBulkAll ds ≤ 1048576)
def OpenSpec.upto (s : _root_.Go.ChangeSpec) : _root_.Go.OpenSpec := { _root_.Go.OpenSpec.ofChange s with cond := some uptoSmall }

/-- 'sluicelaw1.NumFirm', WHERE WHAT IT READS IS OF BULK AT MOST 1048576: true; the input reads as it did. -/
def numFirmUptoRow : OpenClaim := { program := "ytnecmkjmicjbgaadoor", sum := "5614bd8b0a571cf64c445d5d72a7ebb1724f88a4d76eac6aaa39b545abed8983", func := "sluice/sluicelaw1.NumFirm", spec := "numFirm", inPlace := ["math/bits.Add64", "math/bits.Sub64"], named := ["sluice/num.andTable", "sluice/num.orTable", "sluice/num.notTable"], apart := false, laid := [("sluice/num.andTable", laid_sluice_num_andTable), ("sluice/num.orTable", laid_sluice_num_orTable), ("sluice/num.notTable", laid_sluice_num_notTable)], narrowed := true }
def NumFirmUptoSaid : Prop := numFirmUptoRow.holds Tryd.pinned (OpenSpec.upto numFirmSpec)

/-- 'sluicelaw1.NumRuns', WHERE WHAT IT READS IS OF BULK AT MOST 1048576: true; the input reads as it did. -/
def numRunsUptoRow : OpenClaim := { program := "ytnecmkjmicjbgaadoor", sum := "5614bd8b0a571cf64c445d5d72a7ebb1724f88a4d76eac6aaa39b545abed8983", func := "sluice/sluicelaw1.NumRuns", spec := "numRuns", inPlace := ["math/bits.Add64", "math/bits.Sub64"], named := ["sluice/num.notTable", "sluice/num.andTable", "sluice/num.orTable"], apart := false, laid := [("sluice/num.andTable", laid_sluice_num_andTable), ("sluice/num.orTable", laid_sluice_num_orTable), ("sluice/num.notTable", laid_sluice_num_notTable)], narrowed := true }
def NumRunsUptoSaid : Prop := numRunsUptoRow.holds Tryd.pinned (OpenSpec.upto numRunsSpec)

/-- 'sluicetop.Names', WHERE WHAT IT READS IS OF BULK AT MOST 1048576: true; the input reads as it did. -/
def namesUptoRow : OpenClaim := { program := "ytnecmkjmicjbgaadoor", sum := "5614bd8b0a571cf64c445d5d72a7ebb1724f88a4d76eac6aaa39b545abed8983", func := "sluice/sluicetop.Names", spec := "names", named := ["sluice/api.Keywords"], apart := false, laid := [("sluice/api.Keywords", laid_sluice_api_Keywords)], narrowed := true }
def NamesUptoSaid : Prop := namesUptoRow.holds Tryd.pinned (OpenSpec.upto namesSpec)

end Rows
end Go.Proofs.YtnecmkjmicjbgaaDoor
