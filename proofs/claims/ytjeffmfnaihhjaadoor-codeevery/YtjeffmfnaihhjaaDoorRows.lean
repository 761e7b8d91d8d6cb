/-
  NARROWER THAN 'FOR EVERY INPUT', by the rows' own cells (each row's printed sentence says how): CodeRuns: laid · CodeEvery: laid.
  DERIVED. THE GIVEN ROWS OF THIS SEAT. 2 by the template 'for every input the law returns true; each argument reads behind the call as it read before'; 0 by the template 'total and deterministic' (their statements: YtjeffmfnaihhjaaDoorTotals.lean).
  GIVEN WITH THE SEED: the statements are not yours to turn. If you find one false, say at which input.
  Laid BY PROGRAM, IN A SANDBOX (cutbox-rows.mjs): the forced cells as the released guide's own fill.sh prints them over the translation 7872c7275b224e7d… (all of the seat's roots in one cut). By AI agents, Wed Nov 11 2026. No macro, syntax, notation, axiom, sorry.
-/
import Derived.Test.YtjeffmfnaihhjaaDoorChecked
import GoSem.Claim
import GoSem.ClaimJoined
import GoSem.ClaimMapViews
import Derived.JoinedTies
import Derived.KernelRfl
namespace Go.Proofs.YtjeffmfnaihhjaaDoor
/- THE CELL 'sum', in the pinned program and in every row, IS THE sha256 OF THE DUMP (.gsa) THAT YtjeffmfnaihhjaaDoorProg.lean LOADS. Nothing in Lean hashes anything: it is a label: what it is worth is what the hold of that sum in a sandbox is worth. -/
noncomputable def Tryd.pinned : Pinned := { name := "ytjeffmfnaihhjaadoor", sum := "7872c7275b224e7dfab2e631623d1ad63f2a22f43cd9af338f8ad0bc761d4b48", checked := Tryd.checked }
namespace Rows
def none {H : Type} : Left H := { results := [], args := [] }

/- WHAT THE LISTED PACKAGE-LEVEL VARIABLES READ AS WHEN THE CALL BEGINS. Each datum BY PROGRAM (the guide's laid-datum.mjs) off the statement by which the dump's own 'gosem.cut.vars' lays the variable. In a bare row this is a premise. The card (YtjeffmfnaihhjaaDoorCards.lean) ties it to the program's text. -/
def laid_sluice_num_andTable {H : Type} : DataW H := .agg [.agg [.lit (.int .i64 0), .lit (.int .i64 0), .lit (.int .i64 0)], .agg [.lit (.int .i64 0), .lit (.int .i64 1), .lit (.int .i64 1)], .agg [.lit (.int .i64 0), .lit (.int .i64 1), .lit (.int .i64 2)]]
def laid_sluice_num_orTable {H : Type} : DataW H := .agg [.agg [.lit (.int .i64 0), .lit (.int .i64 1), .lit (.int .i64 2)], .agg [.lit (.int .i64 1), .lit (.int .i64 1), .lit (.int .i64 2)], .agg [.lit (.int .i64 2), .lit (.int .i64 2), .lit (.int .i64 2)]]
def laid_sluice_num_notTable {H : Type} : DataW H := .agg [.lit (.int .i64 2), .lit (.int .i64 1), .lit (.int .i64 0)]
def laid_sluice_code_operands {H : Type} : DataW H := .agg [.lit (.int .i64 0), .lit (.int .i64 0), .lit (.int .i64 0), .lit (.int .i64 0), .lit (.int .i64 0), .lit (.int .i64 0), .lit (.int .i64 0), .lit (.int .i64 0), .lit (.int .i64 0), .lit (.int .i64 0), .lit (.int .i64 1), .lit (.int .i64 1), .lit (.int .i64 2), .lit (.int .i64 2), .lit (.int .i64 2), .lit (.int .i64 2), .lit (.int .i64 2), .lit (.int .i64 2), .lit (.int .i64 2), .lit (.int .i64 2), .lit (.int .i64 2), .lit (.int .i64 2), .lit (.int .i64 2), .lit (.int .i64 2), .lit (.int .i64 2), .lit (.int .i64 1), .lit (.int .i64 1)]

/-- 'sluicelaw7.CodeRuns': WHATEVER THE INPUT: true; the input reads as it did. -/
def codeRunsSpec : ChangeSpec := { name := "codeRuns", fn := fun _ => fun
  | [d1, d2] => { results := [.lit (.bool true)], args := [d1, d2] }
  | _ => none }
def codeRunsRow : OpenClaim := { program := "ytjeffmfnaihhjaadoor", sum := "7872c7275b224e7dfab2e631623d1ad63f2a22f43cd9af338f8ad0bc761d4b48", func := "sluice/sluicelaw7.CodeRuns", spec := "codeRuns", inPlace := ["math/bits.Add64", "math/bits.Sub64"], unfollowed := true, recurses := true, named := ["sluice/code.operands", "sluice/num.notTable", "sluice/num.andTable", "sluice/num.orTable"], apart := false, laid := [("sluice/num.andTable", laid_sluice_num_andTable), ("sluice/num.orTable", laid_sluice_num_orTable), ("sluice/num.notTable", laid_sluice_num_notTable), ("sluice/code.operands", laid_sluice_code_operands)] }
def CodeRunsSaid : Prop := codeRunsRow.holds Tryd.pinned (OpenSpec.ofChange codeRunsSpec)

/-- ITS FALSE NEIGHBOUR: 'it returns false'. Refute it at one input. -/
def codeRunsWrong : ChangeSpec := { name := "codeRuns", fn := fun _ => fun
  | [d1, d2] => { results := [.lit (.bool false)], args := [d1, d2] }
  | _ => none }
def CodeRunsWrongFalsely : Prop := codeRunsRow.holds Tryd.pinned (OpenSpec.ofChange codeRunsWrong)

/-- 'sluicelaw7.CodeEvery': WHATEVER THE INPUT: true; the input reads as it did. -/
def codeEverySpec : ChangeSpec := { name := "codeEvery", fn := fun _ => fun
  | [d1, d2] => { results := [.lit (.bool true)], args := [d1, d2] }
  | _ => none }
def codeEveryRow : OpenClaim := { program := "ytjeffmfnaihhjaadoor", sum := "7872c7275b224e7dfab2e631623d1ad63f2a22f43cd9af338f8ad0bc761d4b48", func := "sluice/sluicelaw7.CodeEvery", spec := "codeEvery", inPlace := ["math/bits.Add64", "math/bits.Sub64"], unfollowed := true, recurses := true, named := ["sluice/code.operands", "sluice/num.notTable", "sluice/num.andTable", "sluice/num.orTable"], apart := false, laid := [("sluice/num.andTable", laid_sluice_num_andTable), ("sluice/num.orTable", laid_sluice_num_orTable), ("sluice/num.notTable", laid_sluice_num_notTable), ("sluice/code.operands", laid_sluice_code_operands)] }
def CodeEverySaid : Prop := codeEveryRow.holds Tryd.pinned (OpenSpec.ofChange codeEverySpec)

/-- ITS FALSE NEIGHBOUR: 'it returns false'. Refute it at one input. -/
def codeEveryWrong : ChangeSpec := { name := "codeEvery", fn := fun _ => fun
  | [d1, d2] => { results := [.lit (.bool false)], args := [d1, d2] }
  | _ => none }
def CodeEveryWrongFalsely : Prop := codeEveryRow.holds Tryd.pinned (OpenSpec.ofChange codeEveryWrong)

/- THE SECOND FORM. 'bulk': how many values and letters a reading holds, each counted each time it is reached (what is shared counts as often as it is met; a slice's spare places count too). A statement '..UptoSaid' is the law's where the arguments, and the package variables that the reading takes, are together of bulk at most 1048576: NARROWER than '..Said'. Prove '..Said' where nothing that the law and all that it calls make is longer than what came in: it says more and counts as full. Else prove '..UptoSaid'. A law counts once. -/
mutual
def uptoBulk {H : Type} : DataW H → Nat
  | .lit (.string bytes) => bytes.length + 1
  | .lit _ => 1
  | .nil => 1
  | .ptr d => uptoBulk d + 1
  | .slice elems spare => uptoBulkAll elems + uptoBulkAll spare + 1
  | .agg parts => uptoBulkAll parts + 1
  | .iface _ d => uptoBulk d + 1
  | .map entries => uptoBulkEntries entries + 1
  | .held _ => 1
def uptoBulkAll {H : Type} : List (DataW H) → Nat
  | [] => 0
  | d :: r => uptoBulk d + uptoBulkAll r
def uptoBulkEntries {H : Type} : List (Lit × DataW H) → Nat
  | [] => 0
  | x :: r => uptoBulkEntry x + uptoBulkEntries r
def uptoBulkEntry {H : Type} : Lit × DataW H → Nat
  | (.string bytes, d) => bytes.length + uptoBulk d + 1
  | (_, d) => uptoBulk d + 1
 end
def uptoSmall : (H : Type) → List (DataW H) → Bool := fun _ ds => decide (uptoBulkAll ds ≤ 1048576)
def OpenSpec.upto (s : _root_.Go.ChangeSpec) : _root_.Go.OpenSpec := { _root_.Go.OpenSpec.ofChange s with cond := some uptoSmall }

/-- 'sluicelaw7.CodeRuns', WHERE WHAT IT READS IS OF BULK AT MOST 1048576: true; the input reads as it did. -/
def codeRunsUptoRow : OpenClaim := { program := "ytjeffmfnaihhjaadoor", sum := "7872c7275b224e7dfab2e631623d1ad63f2a22f43cd9af338f8ad0bc761d4b48", func := "sluice/sluicelaw7.CodeRuns", spec := "codeRuns", inPlace := ["math/bits.Add64", "math/bits.Sub64"], unfollowed := true, recurses := true, named := ["sluice/code.operands", "sluice/num.notTable", "sluice/num.andTable", "sluice/num.orTable"], apart := false, laid := [("sluice/num.andTable", laid_sluice_num_andTable), ("sluice/num.orTable", laid_sluice_num_orTable), ("sluice/num.notTable", laid_sluice_num_notTable), ("sluice/code.operands", laid_sluice_code_operands)], narrowed := true }
def CodeRunsUptoSaid : Prop := codeRunsUptoRow.holds Tryd.pinned (OpenSpec.upto codeRunsSpec)

/-- 'sluicelaw7.CodeEvery', WHERE WHAT IT READS IS OF BULK AT MOST 1048576: true; the input reads as it did. -/
def codeEveryUptoRow : OpenClaim := { program := "ytjeffmfnaihhjaadoor", sum := "7872c7275b224e7dfab2e631623d1ad63f2a22f43cd9af338f8ad0bc761d4b48", func := "sluice/sluicelaw7.CodeEvery", spec := "codeEvery", inPlace := ["math/bits.Add64", "math/bits.Sub64"], unfollowed := true, recurses := true, named := ["sluice/code.operands", "sluice/num.notTable", "sluice/num.andTable", "sluice/num.orTable"], apart := false, laid := [("sluice/num.andTable", laid_sluice_num_andTable), ("sluice/num.orTable", laid_sluice_num_orTable), ("sluice/num.notTable", laid_sluice_num_notTable), ("sluice/code.operands", laid_sluice_code_operands)], narrowed := true }
def CodeEveryUptoSaid : Prop := codeEveryUptoRow.holds Tryd.pinned (OpenSpec.upto codeEverySpec)

end Rows
end Go.Proofs.YtjeffmfnaihhjaaDoor
