/-
  No cell of these rows narrows 'for every input' (looked for: loops, veiled, ifaces, maps, wideKeys, modest, calm, conditions, laid).
  DERIVED. THE GIVEN ROWS OF THIS SEAT. 4 by the template 'for every input the law returns true; each argument reads behind the call as it read before'; 0 by the template 'total and deterministic' (their statements: YtoehkpejdpejcabTotals.lean).
  GIVEN WITH THE SEED: the statements are not yours to turn. If you find one false, say at which input.
  Laid BY PROGRAM, IN A SANDBOX (cutbox-rows.mjs): the forced cells as the released guide's own fill.sh prints them over the translation f9d4ce19830fa8a7… (all of the seat's roots in one cut). By AI agents, Wed Nov 11 2026. No macro, syntax, notation, axiom, sorry.
-/
import Derived.Test.YtoehkpejdpejcabChecked
import GoSem.Claim
import GoSem.ClaimJoined
import GoSem.ClaimMapViews
import Derived.JoinedTies
import Derived.KernelRfl
namespace Go.Proofs.Ytoehkpejdpejcab
/- THE CELL 'sum', in the pinned program and in every row, IS THE sha256 OF THE DUMP (.gsa) THAT YtoehkpejdpejcabProg.lean LOADS. Nothing in Lean hashes anything: it is a label: what it is worth is what the hold of that sum in a sandbox is worth. -/
noncomputable def Try.pinned : Pinned := { name := "ytoehkpejdpejcab", sum := "f9d4ce19830fa8a7da165cb06838ea15922e849498c19b3dd7d55f8e9aef7f3c", checked := Try.checked }
namespace Rows
def none {H : Type} : Left H := { results := [], args := [] }

/-- 'sluicelaw10.GatePlays': WHATEVER THE INPUT: true; the input reads as it did. -/
def gatePlaysSpec : ChangeSpec := { name := "gatePlays", fn := fun _ => fun
  | [d1, d2, d3] => { results := [.lit (.bool true)], args := [d1, d2, d3] }
  | _ => none }
def gatePlaysRow : OpenClaim := { program := "ytoehkpejdpejcab", sum := "f9d4ce19830fa8a7da165cb06838ea15922e849498c19b3dd7d55f8e9aef7f3c", func := "sluice/sluicelaw10.GatePlays", spec := "gatePlays", unfollowed := true, recurses := true, plainKeys := false, apart := false }
def GatePlaysSaid : Prop := gatePlaysRow.holds Try.pinned (OpenSpec.ofChange gatePlaysSpec)

/-- ITS FALSE NEIGHBOUR: 'it returns false'. Refute it at one input. -/
def gatePlaysWrong : ChangeSpec := { name := "gatePlays", fn := fun _ => fun
  | [d1, d2, d3] => { results := [.lit (.bool false)], args := [d1, d2, d3] }
  | _ => none }
def GatePlaysWrongFalsely : Prop := gatePlaysRow.holds Try.pinned (OpenSpec.ofChange gatePlaysWrong)

/-- 'sluicelaw10.GateRestores': WHATEVER THE INPUT: true; the input reads as it did. -/
def gateRestoresSpec : ChangeSpec := { name := "gateRestores", fn := fun _ => fun
  | [d1, d2, d3, d4, d5, d6] => { results := [.lit (.bool true)], args := [d1, d2, d3, d4, d5, d6] }
  | _ => none }
def gateRestoresRow : OpenClaim := { program := "ytoehkpejdpejcab", sum := "f9d4ce19830fa8a7da165cb06838ea15922e849498c19b3dd7d55f8e9aef7f3c", func := "sluice/sluicelaw10.GateRestores", spec := "gateRestores", unfollowed := true, recurses := true, plainKeys := false, apart := false }
def GateRestoresSaid : Prop := gateRestoresRow.holds Try.pinned (OpenSpec.ofChange gateRestoresSpec)

/-- ITS FALSE NEIGHBOUR: 'it returns false'. Refute it at one input. -/
def gateRestoresWrong : ChangeSpec := { name := "gateRestores", fn := fun _ => fun
  | [d1, d2, d3, d4, d5, d6] => { results := [.lit (.bool false)], args := [d1, d2, d3, d4, d5, d6] }
  | _ => none }
def GateRestoresWrongFalsely : Prop := gateRestoresRow.holds Try.pinned (OpenSpec.ofChange gateRestoresWrong)

/-- 'sluicelaw9.PileFresh': WHATEVER THE INPUT: true; the input reads as it did. -/
def pileFreshSpec : ChangeSpec := { name := "pileFresh", fn := fun _ => fun
  | [d] => { results := [.lit (.bool true)], args := [d] }
  | _ => none }
def pileFreshRow : OpenClaim := { program := "ytoehkpejdpejcab", sum := "f9d4ce19830fa8a7da165cb06838ea15922e849498c19b3dd7d55f8e9aef7f3c", func := "sluice/sluicelaw9.PileFresh", spec := "pileFresh", unfollowed := true, recurses := true, plainKeys := false, apart := false }
def PileFreshSaid : Prop := pileFreshRow.holds Try.pinned (OpenSpec.ofChange pileFreshSpec)

/-- ITS FALSE NEIGHBOUR: 'it returns false'. Refute it at one input. -/
def pileFreshWrong : ChangeSpec := { name := "pileFresh", fn := fun _ => fun
  | [d] => { results := [.lit (.bool false)], args := [d] }
  | _ => none }
def PileFreshWrongFalsely : Prop := pileFreshRow.holds Try.pinned (OpenSpec.ofChange pileFreshWrong)

/-- 'sluicelaw9.PileMatches': WHATEVER THE INPUT: true; the input reads as it did. -/
def pileMatchesSpec : ChangeSpec := { name := "pileMatches", fn := fun _ => fun
  | [d] => { results := [.lit (.bool true)], args := [d] }
  | _ => none }
def pileMatchesRow : OpenClaim := { program := "ytoehkpejdpejcab", sum := "f9d4ce19830fa8a7da165cb06838ea15922e849498c19b3dd7d55f8e9aef7f3c", func := "sluice/sluicelaw9.PileMatches", spec := "pileMatches", unfollowed := true, recurses := true, plainKeys := false, apart := false }
def PileMatchesSaid : Prop := pileMatchesRow.holds Try.pinned (OpenSpec.ofChange pileMatchesSpec)

/-- ITS FALSE NEIGHBOUR: 'it returns false'. Refute it at one input. -/
def pileMatchesWrong : ChangeSpec := { name := "pileMatches", fn := fun _ => fun
  | [d] => { results := [.lit (.bool false)], args := [d] }
  | _ => none }
def PileMatchesWrongFalsely : Prop := pileMatchesRow.holds Try.pinned (OpenSpec.ofChange pileMatchesWrong)

/- THE SECOND FORM. 'bulk': how many values and letters a reading holds, each counted each time it is reached (what is shared counts as often as it is met; a slice's spare places count too). A statement '..UptoSaid' is the law's where the arguments, and the package variables that the reading takes, are together of bulk at most 1048576: NARROWER than '..Said'. Prove '..Said' where nothing that the law and all that it calls make is longer than what came in: it says more and counts as full. Else prove '..UptoSaid'. A law counts once. -/
mutual
def uptoBulk {H : Type} : DataW H → Nat
  | .lit (.string bytes) => bytes.length + 1
  | .lit _ => 1
  | .nil => 1
  | .ptr d => uptoBulk d + 1
  | .slice elems spare => uptoBulkAll elems + uptoBulkAll spare + 1
  | .agg parts => uptoBulkAll parts + 1
  | .iface _ d => uptoBulk d + 1
  | .map entries => uptoBulkEntries entries + 1
  | .held _ => 1
def uptoBulkAll {H : Type} : List (DataW H) → Nat
  | [] => 0
  | d :: r => uptoBulk d + uptoBulkAll r
def uptoBulkEntries {H : Type} : List (Lit × DataW H) → Nat
  | [] => 0
  | x :: r => uptoBulkEntry x + uptoBulkEntries r
def uptoBulkEntry {H : Type} : Lit × DataW H → Nat
  | (.string bytes, d) => bytes.length + uptoBulk d + 1
  | (_, d) => uptoBulk d + 1
 end
def uptoSmall : (H : Type) → List (DataW H) → Bool := fun _ ds => decide (uptoBulkAll ds ≤ 1048576)
def OpenSpec.upto (s : _root_.Go.ChangeSpec) : _root_.Go.OpenSpec := { _root_.Go.OpenSpec.ofChange s with cond := some uptoSmall }

/-- 'sluicelaw10.GatePlays', WHERE WHAT IT READS IS OF BULK AT MOST 1048576: true; the input reads as it did. -/
def gatePlaysUptoRow : OpenClaim := { program := "ytoehkpejdpejcab", sum := "f9d4ce19830fa8a7da165cb06838ea15922e849498c19b3dd7d55f8e9aef7f3c", func := "sluice/sluicelaw10.GatePlays", spec := "gatePlays", unfollowed := true, recurses := true, plainKeys := false, apart := false, narrowed := true }
def GatePlaysUptoSaid : Prop := gatePlaysUptoRow.holds Try.pinned (OpenSpec.upto gatePlaysSpec)

/-- 'sluicelaw10.GateRestores', WHERE WHAT IT READS IS OF BULK AT MOST 1048576: true; the input reads as it did. -/
def gateRestoresUptoRow : OpenClaim := { program := "ytoehkpejdpejcab", sum := "f9d4ce19830fa8a7da165cb06838ea15922e849498c19b3dd7d55f8e9aef7f3c", func := "sluice/sluicelaw10.GateRestores", spec := "gateRestores", unfollowed := true, recurses := true, plainKeys := false, apart := false, narrowed := true }
def GateRestoresUptoSaid : Prop := gateRestoresUptoRow.holds Try.pinned (OpenSpec.upto gateRestoresSpec)

/-- 'sluicelaw9.PileFresh', WHERE WHAT IT READS IS OF BULK AT MOST 1048576: true; the input reads as it did. -/
def pileFreshUptoRow : OpenClaim := { program := "ytoehkpejdpejcab", sum := "f9d4ce19830fa8a7da165cb06838ea15922e849498c19b3dd7d55f8e9aef7f3c", func := "sluice/sluicelaw9.PileFresh", spec := "pileFresh", unfollowed := true, recurses := true, plainKeys := false, apart := false, narrowed := true }
def PileFreshUptoSaid : Prop := pileFreshUptoRow.holds Try.pinned (OpenSpec.upto pileFreshSpec)

/-- 'sluicelaw9.PileMatches', WHERE WHAT IT READS IS OF BULK AT MOST 1048576: true; the input reads as it did. -/
def pileMatchesUptoRow : OpenClaim := { program := "ytoehkpejdpejcab", sum := "f9d4ce19830fa8a7da165cb06838ea15922e849498c19b3dd7d55f8e9aef7f3c", func := "sluice/sluicelaw9.PileMatches", spec := "pileMatches", unfollowed := true, recurses := true, plainKeys := false, apart := false, narrowed := true }
def PileMatchesUptoSaid : Prop := pileMatchesUptoRow.holds Try.pinned (OpenSpec.upto pileMatchesSpec)

end Rows
end Go.Proofs.Ytoehkpejdpejcab
