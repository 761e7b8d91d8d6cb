/- That the program bears the texts of the library functions that are called: the numbers by their names, each text held against the library's by the kernel. -/
import Derived.Test.YtbedpgamjaemoaaRows
import Derived.Shelf.Lays2
namespace Go.Proofs.Ytbedpgamjaemoaa.Cm
open Go.Shelf
set_option linter.unusedVariables false

def rnF : Nat → Nat
  | 0 => 0
  | 1 => 1
  | 2 => 2
  | 20 => 36
  | 31 => 45
  | 37 => 55
  | 40 => 57
  | 41 => 58
  | 42 => 59
  | 43 => 60
  | 44 => 61
  | 45 => 62
  | 46 => 63
  | 47 => 64
  | 48 => 65
  | 49 => 66
  | 50 => 67
  | 51 => 68
  | 52 => 69
  | 53 => 70
  | 54 => 71
  | 55 => 73
  | _ => 0
def rnT : Nat → Nat
  | 0 => 0
  | 1 => 1
  | 2 => 2
  | 3 => 3
  | 4 => 4
  | 5 => 5
  | 6 => 6
  | 7 => 7
  | 8 => 8
  | 9 => 9
  | 10 => 10
  | 11 => 11
  | 12 => 12
  | 13 => 13
  | 14 => 14
  | 15 => 15
  | 16 => 16
  | 17 => 17
  | 18 => 18
  | 19 => 19
  | 20 => 20
  | 21 => 21
  | 22 => 22
  | 23 => 52
  | 24 => 59
  | 25 => 62
  | 33 => 69
  | 36 => 55
  | 38 => 68
  | 40 => 73
  | 41 => 79
  | 42 => 92
  | 45 => 70
  | 46 => 96
  | 47 => 97
  | 48 => 98
  | 49 => 99
  | 50 => 100
  | 51 => 101
  | 52 => 102
  | 53 => 83
  | 54 => 103
  | 55 => 104
  | 56 => 105
  | 57 => 106
  | 58 => 107
  | 59 => 108
  | 60 => 109
  | 61 => 110
  | 62 => 111
  | _ => 0
def rnG : Nat → Nat
  | _ => 0
def rn : Ren := ⟨rnF, rnT, rnG⟩
set_option maxRecDepth 100000 in
theorem lays_n20 : Lays2.n20 Try.prog rn where
  mixed := by kernel_rfl
  f20 := Try.func36.trans (congrArg some (by kernel_rfl))
  t0 := by kernel_rfl
  a0 := fun w => by kernel_rfl
  z0 := fun w => by kernel_rfl
  v0 := fun w => by kernel_rfl
  t3 := by kernel_rfl
  a3 := fun w => by kernel_rfl
  z3 := fun w => by kernel_rfl
  v3 := fun w => by kernel_rfl
  t4 := by kernel_rfl
  a4 := fun w => by kernel_rfl
  z4 := fun w => by kernel_rfl
  v4 := fun w => by kernel_rfl
  t22 := by kernel_rfl
  a22 := fun w => by kernel_rfl
  z22 := fun w => by kernel_rfl
  v22 := fun w => by kernel_rfl
  i3 := by kernel_rfl

end Go.Proofs.Ytbedpgamjaemoaa.Cm
