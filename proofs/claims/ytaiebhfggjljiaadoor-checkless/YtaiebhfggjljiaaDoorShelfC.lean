/- That the program bears the texts of the library functions that are called: the numbers by their names, each text held against the library's by the kernel. -/
import Derived.Test.YtaiebhfggjljiaaDoorRows
import Derived.Shelf.Lays2
namespace Go.Proofs.YtaiebhfggjljiaaDoor.Cm
open Go.Shelf
set_option linter.unusedVariables false

def rnF : Nat → Nat
  | 0 => 0
  | 1 => 1
  | 2 => 2
  | 20 => 68
  | 31 => 84
  | 37 => 97
  | 39 => 48
  | 40 => 99
  | 41 => 100
  | 42 => 101
  | 43 => 102
  | 44 => 103
  | 45 => 104
  | 46 => 105
  | 47 => 106
  | 48 => 107
  | 49 => 108
  | 50 => 109
  | 51 => 110
  | 52 => 111
  | 53 => 112
  | 54 => 113
  | 55 => 115
  | _ => 0
def rnT : Nat → Nat
  | 0 => 0
  | 1 => 1
  | 2 => 2
  | 3 => 3
  | 4 => 4
  | 5 => 5
  | 6 => 6
  | 7 => 7
  | 8 => 8
  | 9 => 9
  | 10 => 10
  | 11 => 11
  | 12 => 12
  | 13 => 13
  | 14 => 14
  | 15 => 15
  | 16 => 16
  | 17 => 17
  | 18 => 18
  | 19 => 19
  | 20 => 20
  | 21 => 21
  | 22 => 48
  | 23 => 81
  | 24 => 40
  | 33 => 72
  | 40 => 102
  | 41 => 111
  | 42 => 133
  | 43 => 95
  | 44 => 70
  | 45 => 84
  | 46 => 145
  | 47 => 146
  | 48 => 147
  | 49 => 148
  | 50 => 149
  | 51 => 150
  | 52 => 151
  | 53 => 115
  | 54 => 152
  | 55 => 153
  | 56 => 154
  | 57 => 155
  | 58 => 156
  | 59 => 157
  | 60 => 158
  | 61 => 159
  | 62 => 160
  | _ => 0
def rnG : Nat → Nat
  | _ => 0
def rn : Ren := ⟨rnF, rnT, rnG⟩
set_option maxRecDepth 100000 in
theorem lays_n20 : Lays2.n20 Tryd.prog rn where
  mixed := by kernel_rfl
  f20 := Tryd.func68.trans (congrArg some (by kernel_rfl))
  t0 := by kernel_rfl
  a0 := fun w => by kernel_rfl
  z0 := fun w => by kernel_rfl
  v0 := fun w => by kernel_rfl
  t3 := by kernel_rfl
  a3 := fun w => by kernel_rfl
  z3 := fun w => by kernel_rfl
  v3 := fun w => by kernel_rfl
  t4 := by kernel_rfl
  a4 := fun w => by kernel_rfl
  z4 := fun w => by kernel_rfl
  v4 := fun w => by kernel_rfl
  t22 := by kernel_rfl
  a22 := fun w => by kernel_rfl
  z22 := fun w => by kernel_rfl
  v22 := fun w => by kernel_rfl
  i3 := by kernel_rfl

end Go.Proofs.YtaiebhfggjljiaaDoor.Cm
