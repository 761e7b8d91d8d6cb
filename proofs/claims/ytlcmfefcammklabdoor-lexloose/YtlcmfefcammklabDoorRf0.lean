/- The roles of the bytes of a text, as the document's Lex has them. -/
import Derived.Test.YtlcmfefcammklabDoorLx2
namespace Go.Proofs.YtlcmfefcammklabDoor
open Go.RowKit
set_option linter.unusedVariables false

/-- In a comment, ahead of a place. -/
def comB (s : ByteArray) : Nat → Bool
  | 0 => false
  | i + 1 => if bt s i = 10 then false else if bt s i = 35 then true else comB s i
def roleI (s : ByteArray) (i : Nat) : Int := if comB s (i + 1) = true ∨ blB (bt s i) = true then 0 else if wdB (bt s i) = true then 1 else if sgK (s.extract i (i + 1)) ≠ 0 then 2 else 3
def secB (s : ByteArray) (i : Nat) : Bool := decide (i ≠ 0 ∧ bt s i = 61 ∧ roleI s i = 2 ∧ roleI s (i - 1) = 2 ∧ (bt s (i - 1) = 33 ∨ bt s (i - 1) = 60 ∨ bt s (i - 1) = 62))
def staB (s : ByteArray) (i : Nat) : Bool := if roleI s i = 1 then decide (i = 0 ∨ roleI s (i - 1) ≠ 1) else if roleI s i = 2 then !secB s i else decide (roleI s i = 3)
def rolE (s : ByteArray) (p : Nat) : Nat := if h : p < s.size then (if roleI s p = 1 then rolE s (p + 1) else p) else p
termination_by s.size - p
def endJ (s : ByteArray) (i : Nat) : Nat := if roleI s i = 1 then rolE s (i + 1) else i + 1
def endN (s : ByteArray) (i : Nat) : Nat := if endJ s i < s.size ∧ secB s (endJ s i) = true then endJ s i + 1 else endJ s i

end Go.Proofs.YtlcmfefcammklabDoor
