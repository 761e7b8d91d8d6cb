/- That the program bears the texts of the library functions that are called: the numbers by their names, each text held against the library's by the kernel. -/
import Derived.Test.YtdikcomhegkglaaDoorRows
import Derived.Shelf.Strings.OnBuilder
namespace Go.Proofs.YtdikcomhegkglaaDoor
open Go.Shelf
set_option linter.unusedVariables false

def rnF : Nat → Nat
  | 0 => 0
  | 1 => 1
  | 2 => 2
  | 109 => 34
  | 110 => 25
  | 156 => 14
  | 164 => 38
  | 165 => 20
  | 166 => 13
  | 169 => 15
  | 197 => 39
  | 239 => 40
  | 240 => 19
  | 241 => 27
  | 260 => 41
  | 274 => 42
  | 275 => 43
  | 276 => 26
  | 277 => 35
  | 347 => 44
  | 348 => 45
  | 349 => 46
  | 350 => 47
  | 351 => 48
  | 352 => 49
  | 353 => 50
  | 354 => 51
  | 355 => 52
  | 356 => 53
  | 357 => 54
  | 358 => 55
  | 359 => 56
  | 360 => 57
  | 361 => 58
  | 362 => 60
  | 366 => 61
  | 367 => 70
  | _ => 0
def rnT : Nat → Nat
  | 0 => 0
  | 1 => 1
  | 2 => 2
  | 3 => 3
  | 4 => 4
  | 5 => 5
  | 6 => 6
  | 7 => 7
  | 8 => 8
  | 9 => 9
  | 10 => 10
  | 11 => 11
  | 12 => 12
  | 13 => 13
  | 14 => 14
  | 15 => 15
  | 16 => 16
  | 17 => 17
  | 18 => 18
  | 19 => 19
  | 20 => 20
  | 21 => 21
  | 22 => 59
  | 31 => 31
  | 32 => 62
  | 33 => 54
  | 37 => 30
  | 40 => 61
  | 41 => 58
  | 46 => 70
  | 49 => 67
  | 51 => 81
  | 67 => 46
  | 70 => 39
  | 71 => 40
  | 72 => 41
  | 73 => 51
  | 75 => 43
  | 76 => 44
  | 77 => 45
  | 80 => 47
  | 81 => 91
  | 101 => 37
  | 104 => 53
  | 105 => 64
  | 106 => 65
  | 107 => 66
  | 119 => 77
  | 127 => 52
  | 137 => 78
  | 138 => 79
  | 139 => 80
  | 156 => 68
  | 157 => 69
  | 158 => 71
  | 159 => 72
  | 160 => 73
  | 161 => 74
  | 162 => 75
  | 163 => 76
  | 164 => 56
  | 165 => 57
  | 166 => 63
  | 205 => 82
  | 206 => 83
  | 207 => 84
  | 208 => 85
  | 238 => 86
  | 239 => 87
  | 240 => 88
  | 241 => 89
  | 242 => 90
  | 243 => 92
  | 244 => 93
  | 245 => 94
  | 246 => 95
  | 247 => 96
  | 248 => 97
  | 249 => 98
  | _ => 0
def rnG : Nat → Nat
  | 1 => 1
  | 3 => 5
  | 4 => 6
  | 11 => 2
  | 12 => 3
  | 13 => 4
  | _ => 0
def rn : Ren := ⟨rnF, rnT, rnG⟩
set_option maxRecDepth 100000 in
theorem lays_n166 : Lays.n166 Tryd.prog rn where
  mixed := by kernel_rfl
  f166 := Tryd.func13.trans (congrArg some (by kernel_rfl))
  f240 := Tryd.func19.trans (congrArg some (by kernel_rfl))
  f276 := Tryd.func26.trans (congrArg some (by kernel_rfl))
  t0 := by kernel_rfl
  a0 := fun w => by kernel_rfl
  z0 := fun w => by kernel_rfl
  v0 := fun w => by kernel_rfl
  t3 := by kernel_rfl
  a3 := fun w => by kernel_rfl
  z3 := fun w => by kernel_rfl
  v3 := fun w => by kernel_rfl
  t4 := by kernel_rfl
  a4 := fun w => by kernel_rfl
  z4 := fun w => by kernel_rfl
  v4 := fun w => by kernel_rfl
  t9 := by kernel_rfl
  a9 := fun w => by kernel_rfl
  z9 := fun w => by kernel_rfl
  v9 := fun w => by kernel_rfl
  t20 := by kernel_rfl
  a20 := fun w => by kernel_rfl
  z20 := fun w => by kernel_rfl
  v20 := fun w => by kernel_rfl
  t37 := by kernel_rfl
  a37 := fun w => by kernel_rfl
  z37 := fun w => by kernel_rfl
  v37 := fun w => by kernel_rfl
  t70 := by kernel_rfl
  a70 := fun w => by kernel_rfl
  z70 := fun w => by kernel_rfl
  v70 := fun w => by kernel_rfl
  t72 := by kernel_rfl
  a72 := fun w => by kernel_rfl
  z72 := fun w => by kernel_rfl
  v72 := fun w => by kernel_rfl
  t75 := by kernel_rfl
  a75 := fun w => by kernel_rfl
  z75 := fun w => by kernel_rfl
  v75 := fun w => by kernel_rfl
  t164 := by kernel_rfl
  a164 := fun w => by kernel_rfl
  z164 := fun w => by kernel_rfl
  v164 := fun w => by kernel_rfl
set_option maxRecDepth 100000 in
theorem lays_n169 : Lays.n169 Tryd.prog rn where
  mixed := by kernel_rfl
  f169 := Tryd.func15.trans (congrArg some (by kernel_rfl))
  t0 := by kernel_rfl
  a0 := fun w => by kernel_rfl
  z0 := fun w => by kernel_rfl
  v0 := fun w => by kernel_rfl
  t3 := by kernel_rfl
  a3 := fun w => by kernel_rfl
  z3 := fun w => by kernel_rfl
  v3 := fun w => by kernel_rfl
  t9 := by kernel_rfl
  a9 := fun w => by kernel_rfl
  z9 := fun w => by kernel_rfl
  v9 := fun w => by kernel_rfl
  t37 := by kernel_rfl
  a37 := fun w => by kernel_rfl
  z37 := fun w => by kernel_rfl
  v37 := fun w => by kernel_rfl
  t70 := by kernel_rfl
  a70 := fun w => by kernel_rfl
  z70 := fun w => by kernel_rfl
  v70 := fun w => by kernel_rfl
  t72 := by kernel_rfl
  a72 := fun w => by kernel_rfl
  z72 := fun w => by kernel_rfl
  v72 := fun w => by kernel_rfl
  t127 := by kernel_rfl
  a127 := fun w => by kernel_rfl
  z127 := fun w => by kernel_rfl
  v127 := fun w => by kernel_rfl
set_option maxRecDepth 100000 in
theorem lays_n156 : Lays.n156 Tryd.prog rn where
  mixed := by kernel_rfl
  f156 := Tryd.func14.trans (congrArg some (by kernel_rfl))
  f165 := Tryd.func20.trans (congrArg some (by kernel_rfl))
  f166 := Tryd.func13.trans (congrArg some (by kernel_rfl))
  f169 := Tryd.func15.trans (congrArg some (by kernel_rfl))
  f240 := Tryd.func19.trans (congrArg some (by kernel_rfl))
  f241 := Tryd.func27.trans (congrArg some (by kernel_rfl))
  f276 := Tryd.func26.trans (congrArg some (by kernel_rfl))
  f277 := Tryd.func35.trans (congrArg some (by kernel_rfl))
  t0 := by kernel_rfl
  a0 := fun w => by kernel_rfl
  z0 := fun w => by kernel_rfl
  v0 := fun w => by kernel_rfl
  t3 := by kernel_rfl
  a3 := fun w => by kernel_rfl
  z3 := fun w => by kernel_rfl
  v3 := fun w => by kernel_rfl
  t4 := by kernel_rfl
  a4 := fun w => by kernel_rfl
  z4 := fun w => by kernel_rfl
  v4 := fun w => by kernel_rfl
  t9 := by kernel_rfl
  a9 := fun w => by kernel_rfl
  z9 := fun w => by kernel_rfl
  v9 := fun w => by kernel_rfl
  t20 := by kernel_rfl
  a20 := fun w => by kernel_rfl
  z20 := fun w => by kernel_rfl
  v20 := fun w => by kernel_rfl
  t31 := by kernel_rfl
  a31 := fun w => by kernel_rfl
  z31 := fun w => by kernel_rfl
  v31 := fun w => by kernel_rfl
  t37 := by kernel_rfl
  a37 := fun w => by kernel_rfl
  z37 := fun w => by kernel_rfl
  v37 := fun w => by kernel_rfl
  t70 := by kernel_rfl
  a70 := fun w => by kernel_rfl
  z70 := fun w => by kernel_rfl
  v70 := fun w => by kernel_rfl
  t72 := by kernel_rfl
  a72 := fun w => by kernel_rfl
  z72 := fun w => by kernel_rfl
  v72 := fun w => by kernel_rfl
  t75 := by kernel_rfl
  a75 := fun w => by kernel_rfl
  z75 := fun w => by kernel_rfl
  v75 := fun w => by kernel_rfl
  t76 := by kernel_rfl
  a76 := fun w => by kernel_rfl
  z76 := fun w => by kernel_rfl
  v76 := fun w => by kernel_rfl
  t127 := by kernel_rfl
  a127 := fun w => by kernel_rfl
  z127 := fun w => by kernel_rfl
  v127 := fun w => by kernel_rfl
  t164 := by kernel_rfl
  a164 := fun w => by kernel_rfl
  z164 := fun w => by kernel_rfl
  v164 := fun w => by kernel_rfl
theorem bx : Builder.Extra Tryd.prog rn where
  sizeBuilder := by kernel_rfl
  liesBuilder := by kernel_rfl
  t5 := by kernel_rfl
  infoByte := by kernel_rfl
  cellsByte := by kernel_rfl
  sizeByte := by kernel_rfl
  a5 := fun w => by kernel_rfl
  z5 := fun w => by kernel_rfl
  v5 := fun w => by kernel_rfl
  neB5 := by decide

end Go.Proofs.YtdikcomhegkglaaDoor
