/-
  No cell of these rows narrows 'for every input' (looked for: loops, veiled, ifaces, maps, wideKeys, modest, calm, conditions, laid).
  DERIVED. THE GIVEN ROWS OF THIS SEAT. 5 by the template 'for every input the law returns true; each argument reads behind the call as it read before'; 0 by the template 'total and deterministic' (their statements: YtjfbbfmnghccdaaTotals.lean).
  GIVEN WITH THE SEED: the statements are not yours to turn. If you find one false, say at which input.
  Laid BY PROGRAM, IN A SANDBOX (cutbox-rows.mjs): the forced cells as the released guide's own fill.sh prints them over the translation c56a4ece4b342380… (all of the seat's roots in one cut). By AI agents, Wed Nov 11 2026. No macro, syntax, notation, axiom, sorry.
-/
import Derived.Test.YtjfbbfmnghccdaaChecked
import GoSem.Claim
import GoSem.ClaimJoined
import GoSem.ClaimMapViews
import Derived.JoinedTies
import Derived.KernelRfl
namespace Go.Proofs.Ytjfbbfmnghccdaa
/- THE CELL 'sum', in the pinned program and in every row, IS THE sha256 OF THE DUMP (.gsa) THAT YtjfbbfmnghccdaaProg.lean LOADS. Nothing in Lean hashes anything: it is a label: what it is worth is what the hold of that sum in a sandbox is worth. -/
noncomputable def Try.pinned : Pinned := { name := "ytjfbbfmnghccdaa", sum := "c56a4ece4b342380c870beaa55d2c2c0cf67f7d5749c58e474d9040f62d80bfc", checked := Try.checked }
namespace Rows
def none {H : Type} : Left H := { results := [], args := [] }

/-- 'sluicelaw9.PileFresh': WHATEVER THE INPUT: true; the input reads as it did. -/
def pileFreshSpec : ChangeSpec := { name := "pileFresh", fn := fun _ => fun
  | [d] => { results := [.lit (.bool true)], args := [d] }
  | _ => none }
def pileFreshRow : OpenClaim := { program := "ytjfbbfmnghccdaa", sum := "c56a4ece4b342380c870beaa55d2c2c0cf67f7d5749c58e474d9040f62d80bfc", func := "sluice/sluicelaw9.PileFresh", spec := "pileFresh", unfollowed := true, recurses := true, plainKeys := false, apart := false }
def PileFreshSaid : Prop := pileFreshRow.holds Try.pinned (OpenSpec.ofChange pileFreshSpec)

/-- ITS FALSE NEIGHBOUR: 'it returns false'. Refute it at one input. -/
def pileFreshWrong : ChangeSpec := { name := "pileFresh", fn := fun _ => fun
  | [d] => { results := [.lit (.bool false)], args := [d] }
  | _ => none }
def PileFreshWrongFalsely : Prop := pileFreshRow.holds Try.pinned (OpenSpec.ofChange pileFreshWrong)

/-- 'sluicelaw9.PileMatches': WHATEVER THE INPUT: true; the input reads as it did. -/
def pileMatchesSpec : ChangeSpec := { name := "pileMatches", fn := fun _ => fun
  | [d] => { results := [.lit (.bool true)], args := [d] }
  | _ => none }
def pileMatchesRow : OpenClaim := { program := "ytjfbbfmnghccdaa", sum := "c56a4ece4b342380c870beaa55d2c2c0cf67f7d5749c58e474d9040f62d80bfc", func := "sluice/sluicelaw9.PileMatches", spec := "pileMatches", unfollowed := true, recurses := true, plainKeys := false, apart := false }
def PileMatchesSaid : Prop := pileMatchesRow.holds Try.pinned (OpenSpec.ofChange pileMatchesSpec)

/-- ITS FALSE NEIGHBOUR: 'it returns false'. Refute it at one input. -/
def pileMatchesWrong : ChangeSpec := { name := "pileMatches", fn := fun _ => fun
  | [d] => { results := [.lit (.bool false)], args := [d] }
  | _ => none }
def PileMatchesWrongFalsely : Prop := pileMatchesRow.holds Try.pinned (OpenSpec.ofChange pileMatchesWrong)

/-- 'sluicelaw10.GateArrival': WHATEVER THE INPUT: true; the input reads as it did. -/
def gateArrivalSpec : ChangeSpec := { name := "gateArrival", fn := fun _ => fun
  | [d1, d2, d3] => { results := [.lit (.bool true)], args := [d1, d2, d3] }
  | _ => none }
def gateArrivalRow : OpenClaim := { program := "ytjfbbfmnghccdaa", sum := "c56a4ece4b342380c870beaa55d2c2c0cf67f7d5749c58e474d9040f62d80bfc", func := "sluice/sluicelaw10.GateArrival", spec := "gateArrival", unfollowed := true, recurses := true, plainKeys := false, apart := false }
def GateArrivalSaid : Prop := gateArrivalRow.holds Try.pinned (OpenSpec.ofChange gateArrivalSpec)

/-- ITS FALSE NEIGHBOUR: 'it returns false'. Refute it at one input. -/
def gateArrivalWrong : ChangeSpec := { name := "gateArrival", fn := fun _ => fun
  | [d1, d2, d3] => { results := [.lit (.bool false)], args := [d1, d2, d3] }
  | _ => none }
def GateArrivalWrongFalsely : Prop := gateArrivalRow.holds Try.pinned (OpenSpec.ofChange gateArrivalWrong)

/-- 'sluicelaw10.GateSpares': WHATEVER THE INPUT: true; the input reads as it did. -/
def gateSparesSpec : ChangeSpec := { name := "gateSpares", fn := fun _ => fun
  | [d1, d2] => { results := [.lit (.bool true)], args := [d1, d2] }
  | _ => none }
def gateSparesRow : OpenClaim := { program := "ytjfbbfmnghccdaa", sum := "c56a4ece4b342380c870beaa55d2c2c0cf67f7d5749c58e474d9040f62d80bfc", func := "sluice/sluicelaw10.GateSpares", spec := "gateSpares", unfollowed := true, recurses := true, plainKeys := false, apart := false }
def GateSparesSaid : Prop := gateSparesRow.holds Try.pinned (OpenSpec.ofChange gateSparesSpec)

/-- ITS FALSE NEIGHBOUR: 'it returns false'. Refute it at one input. -/
def gateSparesWrong : ChangeSpec := { name := "gateSpares", fn := fun _ => fun
  | [d1, d2] => { results := [.lit (.bool false)], args := [d1, d2] }
  | _ => none }
def GateSparesWrongFalsely : Prop := gateSparesRow.holds Try.pinned (OpenSpec.ofChange gateSparesWrong)

/-- 'sluicelaw10.GateRestores': WHATEVER THE INPUT: true; the input reads as it did. -/
def gateRestoresSpec : ChangeSpec := { name := "gateRestores", fn := fun _ => fun
  | [d1, d2, d3, d4, d5, d6] => { results := [.lit (.bool true)], args := [d1, d2, d3, d4, d5, d6] }
  | _ => none }
def gateRestoresRow : OpenClaim := { program := "ytjfbbfmnghccdaa", sum := "c56a4ece4b342380c870beaa55d2c2c0cf67f7d5749c58e474d9040f62d80bfc", func := "sluice/sluicelaw10.GateRestores", spec := "gateRestores", unfollowed := true, recurses := true, plainKeys := false, apart := false }
def GateRestoresSaid : Prop := gateRestoresRow.holds Try.pinned (OpenSpec.ofChange gateRestoresSpec)

/-- ITS FALSE NEIGHBOUR: 'it returns false'. Refute it at one input. -/
def gateRestoresWrong : ChangeSpec := { name := "gateRestores", fn := fun _ => fun
  | [d1, d2, d3, d4, d5, d6] => { results := [.lit (.bool false)], args := [d1, d2, d3, d4, d5, d6] }
  | _ => none }
def GateRestoresWrongFalsely : Prop := gateRestoresRow.holds Try.pinned (OpenSpec.ofChange gateRestoresWrong)

/- THE SECOND FORM. 'bulk': how many values and letters a reading holds, each counted each time it is reached (what is shared counts as often as it is met; a slice's spare places count too). A statement '..UptoSaid' is the law's where the arguments, and the package variables that the reading takes, are together of bulk at most 1048576: NARROWER than '..Said'. Prove '..Said' where nothing that the law and all that it calls make is longer than what came in: it says more and counts as full. Else prove '..UptoSaid'. A law counts once. -/
mutual
def uptoBulk {H : Type} : DataW H → Nat
  | .lit (.string bytes) => bytes.length + 1
  | .lit _ => 1
  | .nil => 1
  | .ptr d => uptoBulk d + 1
  | .slice elems spare => uptoBulkAll elems + uptoBulkAll spare + 1
  | .agg parts => uptoBulkAll parts + 1
  | .iface _ d => uptoBulk d + 1
  | .map entries => uptoBulkEntries entries + 1
  | .held _ => 1
def uptoBulkAll {H : Type} : List (DataW H) → Nat
  | [] => 0
  | d :: r => uptoBulk d + uptoBulkAll r
def uptoBulkEntries {H : Type} : List (Lit × DataW H) → Nat
  | [] => 0
  | x :: r => uptoBulkEntry x + uptoBulkEntries r
def uptoBulkEntry {H : Type} : Lit × DataW H → Nat
  | (.string bytes, d) => bytes.length + uptoBulk d + 1
  | (_, d) => uptoBulk d + 1
 end
def uptoSmall : (H : Type) → List (DataW H) → Bool := fun _ ds => decide (uptoBulkAll ds ≤ 1048576)
def OpenSpec.upto (s : _root_.Go.ChangeSpec) : _root_.Go.OpenSpec := { _root_.Go.OpenSpec.ofChange s with cond := some uptoSmall }

/-- 'sluicelaw9.PileFresh', WHERE WHAT IT READS IS OF BULK AT MOST 1048576: true; the input reads as it did. -/
def pileFreshUptoRow : OpenClaim := { program := "ytjfbbfmnghccdaa", sum := "c56a4ece4b342380c870beaa55d2c2c0cf67f7d5749c58e474d9040f62d80bfc", func := "sluice/sluicelaw9.PileFresh", spec := "pileFresh", unfollowed := true, recurses := true, plainKeys := false, apart := false, narrowed := true }
def PileFreshUptoSaid : Prop := pileFreshUptoRow.holds Try.pinned (OpenSpec.upto pileFreshSpec)

/-- 'sluicelaw9.PileMatches', WHERE WHAT IT READS IS OF BULK AT MOST 1048576: true; the input reads as it did. -/
def pileMatchesUptoRow : OpenClaim := { program := "ytjfbbfmnghccdaa", sum := "c56a4ece4b342380c870beaa55d2c2c0cf67f7d5749c58e474d9040f62d80bfc", func := "sluice/sluicelaw9.PileMatches", spec := "pileMatches", unfollowed := true, recurses := true, plainKeys := false, apart := false, narrowed := true }
def PileMatchesUptoSaid : Prop := pileMatchesUptoRow.holds Try.pinned (OpenSpec.upto pileMatchesSpec)

/-- 'sluicelaw10.GateArrival', WHERE WHAT IT READS IS OF BULK AT MOST 1048576: true; the input reads as it did. -/
def gateArrivalUptoRow : OpenClaim := { program := "ytjfbbfmnghccdaa", sum := "c56a4ece4b342380c870beaa55d2c2c0cf67f7d5749c58e474d9040f62d80bfc", func := "sluice/sluicelaw10.GateArrival", spec := "gateArrival", unfollowed := true, recurses := true, plainKeys := false, apart := false, narrowed := true }
def GateArrivalUptoSaid : Prop := gateArrivalUptoRow.holds Try.pinned (OpenSpec.upto gateArrivalSpec)

/-- 'sluicelaw10.GateSpares', WHERE WHAT IT READS IS OF BULK AT MOST 1048576: true; the input reads as it did. -/
def gateSparesUptoRow : OpenClaim := { program := "ytjfbbfmnghccdaa", sum := "c56a4ece4b342380c870beaa55d2c2c0cf67f7d5749c58e474d9040f62d80bfc", func := "sluice/sluicelaw10.GateSpares", spec := "gateSpares", unfollowed := true, recurses := true, plainKeys := false, apart := false, narrowed := true }
def GateSparesUptoSaid : Prop := gateSparesUptoRow.holds Try.pinned (OpenSpec.upto gateSparesSpec)

/-- 'sluicelaw10.GateRestores', WHERE WHAT IT READS IS OF BULK AT MOST 1048576: true; the input reads as it did. -/
def gateRestoresUptoRow : OpenClaim := { program := "ytjfbbfmnghccdaa", sum := "c56a4ece4b342380c870beaa55d2c2c0cf67f7d5749c58e474d9040f62d80bfc", func := "sluice/sluicelaw10.GateRestores", spec := "gateRestores", unfollowed := true, recurses := true, plainKeys := false, apart := false, narrowed := true }
def GateRestoresUptoSaid : Prop := gateRestoresUptoRow.holds Try.pinned (OpenSpec.upto gateRestoresSpec)

end Rows
end Go.Proofs.Ytjfbbfmnghccdaa
