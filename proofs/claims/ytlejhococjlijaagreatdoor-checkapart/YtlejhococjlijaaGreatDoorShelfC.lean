/- That the program bears the texts of the library functions that are called: the numbers by their names, each text held against the library's by the kernel. -/
import Derived.Test.YtlejhococjlijaaGreatDoorRows
import Derived.Shelf.Lays2
namespace Go.Proofs.YtlejhococjlijaaGreatDoor.Cm
open Go.Shelf
set_option linter.unusedVariables false

def rnF : Nat → Nat
  | 0 => 0
  | 1 => 1
  | 2 => 2
  | 20 => 84
  | 31 => 104
  | 37 => 117
  | 39 => 60
  | 40 => 119
  | 41 => 120
  | 42 => 121
  | 43 => 122
  | 44 => 123
  | 45 => 124
  | 46 => 125
  | 47 => 126
  | 48 => 127
  | 49 => 128
  | 50 => 129
  | 51 => 130
  | 52 => 131
  | 53 => 132
  | 54 => 133
  | 55 => 135
  | _ => 0
def rnT : Nat → Nat
  | 0 => 0
  | 1 => 1
  | 2 => 2
  | 3 => 3
  | 4 => 4
  | 5 => 5
  | 6 => 6
  | 7 => 7
  | 8 => 8
  | 9 => 9
  | 10 => 10
  | 11 => 11
  | 12 => 12
  | 13 => 13
  | 14 => 14
  | 15 => 15
  | 16 => 16
  | 17 => 17
  | 18 => 18
  | 19 => 19
  | 20 => 20
  | 21 => 21
  | 22 => 49
  | 23 => 97
  | 24 => 57
  | 33 => 85
  | 36 => 75
  | 40 => 116
  | 41 => 125
  | 42 => 147
  | 43 => 108
  | 44 => 83
  | 45 => 96
  | 46 => 159
  | 47 => 160
  | 48 => 161
  | 49 => 162
  | 50 => 163
  | 51 => 164
  | 52 => 165
  | 53 => 129
  | 54 => 166
  | 55 => 167
  | 56 => 168
  | 57 => 169
  | 58 => 170
  | 59 => 171
  | 60 => 172
  | 61 => 173
  | 62 => 174
  | _ => 0
def rnG : Nat → Nat
  | _ => 0
def rn : Ren := ⟨rnF, rnT, rnG⟩
set_option maxRecDepth 100000 in
theorem lays_n20 : Lays2.n20 Tryz.prog rn where
  mixed := by kernel_rfl
  f20 := Tryz.func84.trans (congrArg some (by kernel_rfl))
  t0 := by kernel_rfl
  a0 := fun w => by kernel_rfl
  z0 := fun w => by kernel_rfl
  v0 := fun w => by kernel_rfl
  t3 := by kernel_rfl
  a3 := fun w => by kernel_rfl
  z3 := fun w => by kernel_rfl
  v3 := fun w => by kernel_rfl
  t4 := by kernel_rfl
  a4 := fun w => by kernel_rfl
  z4 := fun w => by kernel_rfl
  v4 := fun w => by kernel_rfl
  t22 := by kernel_rfl
  a22 := fun w => by kernel_rfl
  z22 := fun w => by kernel_rfl
  v22 := fun w => by kernel_rfl
  i3 := by kernel_rfl

end Go.Proofs.YtlejhococjlijaaGreatDoor.Cm
