/- That the program bears the texts of the library functions that are called: the numbers by their names, each text held against the library's by the kernel. -/
import Derived.Test.YtlcmfefcammklaaDoorRows
import Derived.Shelf.Strings.OnBuilder
namespace Go.Proofs.YtlcmfefcammklaaDoor.Jn
open Go.Shelf
set_option linter.unusedVariables false

def rnF : Nat → Nat
  | 0 => 0
  | 1 => 1
  | 2 => 2
  | 129 => 60
  | 166 => 22
  | 167 => 21
  | 169 => 23
  | 171 => 76
  | 173 => 20
  | 174 => 48
  | 205 => 75
  | 240 => 37
  | 243 => 77
  | 245 => 58
  | 246 => 36
  | 247 => 57
  | 276 => 53
  | 279 => 66
  | 280 => 67
  | 281 => 68
  | 282 => 69
  | 283 => 49
  | 284 => 50
  | 285 => 51
  | 286 => 52
  | 287 => 65
  | 316 => 74
  | 317 => 59
  | 318 => 61
  | 319 => 62
  | 320 => 63
  | 321 => 72
  | 322 => 73
  | 337 => 70
  | 338 => 71
  | 347 => 78
  | 348 => 79
  | 349 => 80
  | 350 => 81
  | 351 => 82
  | 352 => 83
  | 353 => 84
  | 354 => 85
  | 355 => 86
  | 356 => 87
  | 357 => 88
  | 358 => 89
  | 359 => 90
  | 360 => 91
  | 361 => 92
  | 362 => 94
  | 363 => 97
  | 364 => 95
  | 365 => 96
  | 366 => 98
  | 367 => 110
  | _ => 0
def rnT : Nat → Nat
  | 0 => 0
  | 1 => 1
  | 2 => 2
  | 3 => 3
  | 4 => 4
  | 5 => 5
  | 6 => 6
  | 7 => 7
  | 8 => 8
  | 9 => 9
  | 10 => 10
  | 11 => 11
  | 12 => 12
  | 13 => 13
  | 14 => 14
  | 15 => 15
  | 16 => 16
  | 17 => 17
  | 18 => 18
  | 19 => 19
  | 20 => 20
  | 21 => 21
  | 22 => 35
  | 28 => 56
  | 37 => 31
  | 41 => 65
  | 46 => 91
  | 47 => 92
  | 51 => 88
  | 52 => 100
  | 53 => 22
  | 54 => 77
  | 69 => 83
  | 70 => 47
  | 71 => 48
  | 72 => 49
  | 75 => 51
  | 76 => 53
  | 77 => 54
  | 78 => 52
  | 80 => 55
  | 81 => 114
  | 83 => 75
  | 84 => 44
  | 85 => 73
  | 86 => 74
  | 104 => 40
  | 108 => 103
  | 111 => 90
  | 114 => 85
  | 127 => 69
  | 128 => 84
  | 143 => 106
  | 144 => 107
  | 145 => 108
  | 164 => 81
  | 165 => 82
  | 167 => 94
  | 168 => 97
  | 169 => 98
  | 170 => 99
  | 171 => 76
  | 172 => 78
  | 173 => 79
  | 174 => 80
  | 175 => 95
  | 176 => 96
  | 209 => 101
  | 210 => 102
  | 211 => 86
  | 212 => 87
  | 213 => 89
  | 214 => 93
  | 232 => 104
  | 233 => 105
  | 238 => 109
  | 239 => 110
  | 240 => 111
  | 241 => 112
  | 242 => 113
  | 243 => 115
  | 244 => 116
  | 245 => 117
  | 246 => 118
  | 247 => 119
  | 248 => 120
  | 249 => 121
  | _ => 0
def rnG : Nat → Nat
  | 15 => 5
  | 16 => 6
  | 17 => 4
  | 18 => 7
  | 19 => 8
  | _ => 0
def rn : Ren := ⟨rnF, rnT, rnG⟩
set_option maxRecDepth 100000 in
theorem lays_n166 : Lays.n166 Tryd.prog rn where
  mixed := by kernel_rfl
  f166 := Tryd.func22.trans (congrArg some (by kernel_rfl))
  f240 := Tryd.func37.trans (congrArg some (by kernel_rfl))
  f276 := Tryd.func53.trans (congrArg some (by kernel_rfl))
  t0 := by kernel_rfl
  a0 := fun w => by kernel_rfl
  z0 := fun w => by kernel_rfl
  v0 := fun w => by kernel_rfl
  t3 := by kernel_rfl
  a3 := fun w => by kernel_rfl
  z3 := fun w => by kernel_rfl
  v3 := fun w => by kernel_rfl
  t4 := by kernel_rfl
  a4 := fun w => by kernel_rfl
  z4 := fun w => by kernel_rfl
  v4 := fun w => by kernel_rfl
  t9 := by kernel_rfl
  a9 := fun w => by kernel_rfl
  z9 := fun w => by kernel_rfl
  v9 := fun w => by kernel_rfl
  t20 := by kernel_rfl
  a20 := fun w => by kernel_rfl
  z20 := fun w => by kernel_rfl
  v20 := fun w => by kernel_rfl
  t37 := by kernel_rfl
  a37 := fun w => by kernel_rfl
  z37 := fun w => by kernel_rfl
  v37 := fun w => by kernel_rfl
  t70 := by kernel_rfl
  a70 := fun w => by kernel_rfl
  z70 := fun w => by kernel_rfl
  v70 := fun w => by kernel_rfl
  t72 := by kernel_rfl
  a72 := fun w => by kernel_rfl
  z72 := fun w => by kernel_rfl
  v72 := fun w => by kernel_rfl
  t75 := by kernel_rfl
  a75 := fun w => by kernel_rfl
  z75 := fun w => by kernel_rfl
  v75 := fun w => by kernel_rfl
  t164 := by kernel_rfl
  a164 := fun w => by kernel_rfl
  z164 := fun w => by kernel_rfl
  v164 := fun w => by kernel_rfl
set_option maxRecDepth 100000 in
theorem lays_n167 : Lays.n167 Tryd.prog rn where
  mixed := by kernel_rfl
  f167 := Tryd.func21.trans (congrArg some (by kernel_rfl))
  f240 := Tryd.func37.trans (congrArg some (by kernel_rfl))
  f276 := Tryd.func53.trans (congrArg some (by kernel_rfl))
  t0 := by kernel_rfl
  a0 := fun w => by kernel_rfl
  z0 := fun w => by kernel_rfl
  v0 := fun w => by kernel_rfl
  t4 := by kernel_rfl
  a4 := fun w => by kernel_rfl
  z4 := fun w => by kernel_rfl
  v4 := fun w => by kernel_rfl
  t5 := by kernel_rfl
  a5 := fun w => by kernel_rfl
  z5 := fun w => by kernel_rfl
  v5 := fun w => by kernel_rfl
  t9 := by kernel_rfl
  a9 := fun w => by kernel_rfl
  z9 := fun w => by kernel_rfl
  v9 := fun w => by kernel_rfl
  t20 := by kernel_rfl
  a20 := fun w => by kernel_rfl
  z20 := fun w => by kernel_rfl
  v20 := fun w => by kernel_rfl
  t37 := by kernel_rfl
  a37 := fun w => by kernel_rfl
  z37 := fun w => by kernel_rfl
  v37 := fun w => by kernel_rfl
  t70 := by kernel_rfl
  a70 := fun w => by kernel_rfl
  z70 := fun w => by kernel_rfl
  v70 := fun w => by kernel_rfl
  t72 := by kernel_rfl
  a72 := fun w => by kernel_rfl
  z72 := fun w => by kernel_rfl
  v72 := fun w => by kernel_rfl
  t75 := by kernel_rfl
  a75 := fun w => by kernel_rfl
  z75 := fun w => by kernel_rfl
  v75 := fun w => by kernel_rfl
  t164 := by kernel_rfl
  a164 := fun w => by kernel_rfl
  z164 := fun w => by kernel_rfl
  v164 := fun w => by kernel_rfl
set_option maxRecDepth 100000 in
theorem lays_n169 : Lays.n169 Tryd.prog rn where
  mixed := by kernel_rfl
  f169 := Tryd.func23.trans (congrArg some (by kernel_rfl))
  t0 := by kernel_rfl
  a0 := fun w => by kernel_rfl
  z0 := fun w => by kernel_rfl
  v0 := fun w => by kernel_rfl
  t3 := by kernel_rfl
  a3 := fun w => by kernel_rfl
  z3 := fun w => by kernel_rfl
  v3 := fun w => by kernel_rfl
  t9 := by kernel_rfl
  a9 := fun w => by kernel_rfl
  z9 := fun w => by kernel_rfl
  v9 := fun w => by kernel_rfl
  t37 := by kernel_rfl
  a37 := fun w => by kernel_rfl
  z37 := fun w => by kernel_rfl
  v37 := fun w => by kernel_rfl
  t70 := by kernel_rfl
  a70 := fun w => by kernel_rfl
  z70 := fun w => by kernel_rfl
  v70 := fun w => by kernel_rfl
  t72 := by kernel_rfl
  a72 := fun w => by kernel_rfl
  z72 := fun w => by kernel_rfl
  v72 := fun w => by kernel_rfl
  t127 := by kernel_rfl
  a127 := fun w => by kernel_rfl
  z127 := fun w => by kernel_rfl
  v127 := fun w => by kernel_rfl
theorem bx : Builder.Extra Tryd.prog rn where
  sizeBuilder := by kernel_rfl
  liesBuilder := by kernel_rfl
  t5 := by kernel_rfl
  infoByte := by kernel_rfl
  cellsByte := by kernel_rfl
  sizeByte := by kernel_rfl
  a5 := fun w => by kernel_rfl
  z5 := fun w => by kernel_rfl
  v5 := fun w => by kernel_rfl
  neB5 := by decide

end Go.Proofs.YtlcmfefcammklaaDoor.Jn
