/- That the program bears the texts of the library functions that are called: the numbers by their names, each text held against the library's by the kernel. -/
import Derived.Test.YtbedpgamjaemoaaDoorRows
import Derived.Shelf.Strings.OnBuilder
namespace Go.Proofs.YtbedpgamjaemoaaDoor.Rv
open Go.Shelf
set_option linter.unusedVariables false

def rnF : Nat → Nat
  | 0 => 0
  | 1 => 1
  | 2 => 2
  | 112 => 28
  | 164 => 40
  | 197 => 44
  | 239 => 45
  | 260 => 47
  | 274 => 48
  | 275 => 49
  | 347 => 50
  | 348 => 51
  | 349 => 52
  | 350 => 53
  | 351 => 54
  | 352 => 55
  | 353 => 56
  | 354 => 57
  | 355 => 58
  | 356 => 59
  | 357 => 60
  | 358 => 61
  | 359 => 62
  | 360 => 63
  | 361 => 64
  | 366 => 65
  | 367 => 74
  | _ => 0
def rnT : Nat → Nat
  | 0 => 0
  | 1 => 1
  | 2 => 2
  | 3 => 3
  | 4 => 4
  | 5 => 5
  | 6 => 6
  | 7 => 7
  | 8 => 8
  | 9 => 9
  | 10 => 10
  | 11 => 11
  | 12 => 12
  | 13 => 13
  | 14 => 14
  | 15 => 15
  | 16 => 16
  | 17 => 17
  | 18 => 18
  | 19 => 19
  | 20 => 20
  | 21 => 21
  | 22 => 48
  | 28 => 27
  | 34 => 30
  | 35 => 41
  | 40 => 46
  | 41 => 49
  | 43 => 35
  | 46 => 56
  | 49 => 53
  | 51 => 67
  | 80 => 72
  | 81 => 78
  | 104 => 44
  | 105 => 50
  | 106 => 51
  | 107 => 52
  | 119 => 63
  | 127 => 82
  | 131 => 39
  | 137 => 64
  | 138 => 65
  | 139 => 66
  | 156 => 54
  | 157 => 55
  | 158 => 57
  | 159 => 58
  | 160 => 59
  | 161 => 60
  | 162 => 61
  | 163 => 62
  | 164 => 87
  | 205 => 68
  | 206 => 69
  | 207 => 70
  | 208 => 71
  | 238 => 73
  | 239 => 74
  | 240 => 75
  | 241 => 76
  | 242 => 77
  | 243 => 79
  | 244 => 80
  | 245 => 81
  | 246 => 83
  | 247 => 84
  | 248 => 85
  | 249 => 86
  | _ => 0
def rnG : Nat → Nat
  | 3 => 4
  | 4 => 5
  | 11 => 1
  | 12 => 2
  | 13 => 3
  | _ => 0
def rn : Ren := ⟨rnF, rnT, rnG⟩
set_option maxRecDepth 100000 in
theorem lays_n112 : Lays.n112 Tryd.prog rn where
  mixed := by kernel_rfl
  f112 := Tryd.func28.trans (congrArg some (by kernel_rfl))
  t0 := by kernel_rfl
  a0 := fun w => by kernel_rfl
  z0 := fun w => by kernel_rfl
  v0 := fun w => by kernel_rfl
  t3 := by kernel_rfl
  a3 := fun w => by kernel_rfl
  z3 := fun w => by kernel_rfl
  v3 := fun w => by kernel_rfl
  t4 := by kernel_rfl
  a4 := fun w => by kernel_rfl
  z4 := fun w => by kernel_rfl
  v4 := fun w => by kernel_rfl
  t28 := by kernel_rfl
  a28 := fun w => by kernel_rfl
  z28 := fun w => by kernel_rfl
  v28 := fun w => by kernel_rfl

end Go.Proofs.YtbedpgamjaemoaaDoor.Rv
