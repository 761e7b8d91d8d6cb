/- That the program bears the texts of the library functions that are called: the numbers by their names, each text held against the library's by the kernel. -/
import Derived.Test.YtpodpahipapbaaaDoorRows
import Derived.Shelf.Strings.OnBuilder
import Derived.Shelf.LaysM
namespace Go.Proofs.YtpodpahipapbaaaDoor
open Go.Shelf
set_option linter.unusedVariables false

def rnF : Nat → Nat
  | 0 => 0
  | 1 => 1
  | 2 => 2
  | 129 => 61
  | 164 => 48
  | 166 => 21
  | 167 => 20
  | 169 => 23
  | 173 => 34
  | 197 => 57
  | 239 => 58
  | 240 => 40
  | 246 => 46
  | 260 => 65
  | 274 => 66
  | 275 => 67
  | 276 => 49
  | 283 => 53
  | 284 => 54
  | 285 => 55
  | 286 => 56
  | 317 => 60
  | 318 => 62
  | 319 => 63
  | 320 => 64
  | 337 => 68
  | 338 => 69
  | 347 => 70
  | 348 => 71
  | 349 => 72
  | 350 => 73
  | 351 => 74
  | 352 => 75
  | 353 => 76
  | 354 => 77
  | 355 => 78
  | 356 => 79
  | 357 => 80
  | 358 => 81
  | 359 => 82
  | 360 => 83
  | 361 => 84
  | 362 => 86
  | 366 => 87
  | 367 => 102
  | _ => 0
def rnT : Nat → Nat
  | 0 => 0
  | 1 => 1
  | 2 => 2
  | 3 => 3
  | 4 => 4
  | 5 => 5
  | 6 => 6
  | 7 => 7
  | 8 => 8
  | 9 => 9
  | 10 => 10
  | 11 => 11
  | 12 => 12
  | 13 => 13
  | 14 => 14
  | 15 => 15
  | 16 => 16
  | 17 => 17
  | 18 => 18
  | 19 => 19
  | 20 => 20
  | 21 => 21
  | 22 => 85
  | 28 => 29
  | 37 => 52
  | 40 => 77
  | 41 => 88
  | 46 => 105
  | 47 => 106
  | 49 => 107
  | 51 => 102
  | 52 => 116
  | 53 => 91
  | 54 => 92
  | 70 => 51
  | 71 => 53
  | 72 => 54
  | 75 => 59
  | 76 => 61
  | 77 => 62
  | 78 => 60
  | 80 => 64
  | 81 => 132
  | 83 => 89
  | 84 => 73
  | 104 => 50
  | 105 => 96
  | 106 => 97
  | 107 => 98
  | 111 => 104
  | 114 => 99
  | 119 => 117
  | 127 => 80
  | 131 => 41
  | 137 => 118
  | 138 => 119
  | 139 => 120
  | 156 => 108
  | 157 => 109
  | 158 => 110
  | 159 => 111
  | 160 => 112
  | 161 => 113
  | 162 => 114
  | 163 => 115
  | 164 => 86
  | 165 => 87
  | 171 => 90
  | 172 => 93
  | 173 => 94
  | 174 => 95
  | 205 => 121
  | 206 => 122
  | 207 => 123
  | 208 => 124
  | 211 => 100
  | 212 => 101
  | 213 => 103
  | 232 => 125
  | 233 => 126
  | 238 => 127
  | 239 => 128
  | 240 => 129
  | 241 => 130
  | 242 => 131
  | 243 => 133
  | 244 => 134
  | 245 => 135
  | 246 => 136
  | 247 => 137
  | 248 => 138
  | 249 => 139
  | _ => 0
def rnG : Nat → Nat
  | 3 => 8
  | 4 => 9
  | 11 => 5
  | 12 => 6
  | 13 => 7
  | 17 => 4
  | 18 => 10
  | 19 => 11
  | _ => 0
def rn : Ren := ⟨rnF, rnT, rnG⟩
set_option maxRecDepth 100000 in
theorem lays_n173 : Lays.n173 Tryd.prog rn where
  mixed := by kernel_rfl
  f129 := Tryd.func61.trans (congrArg some (by kernel_rfl))
  f173 := Tryd.func34.trans (congrArg some (by kernel_rfl))
  f246 := Tryd.func46.trans (congrArg some (by kernel_rfl))
  f283 := Tryd.func53.trans (congrArg some (by kernel_rfl))
  f284 := Tryd.func54.trans (congrArg some (by kernel_rfl))
  f285 := Tryd.func55.trans (congrArg some (by kernel_rfl))
  f286 := Tryd.func56.trans (congrArg some (by kernel_rfl))
  f317 := Tryd.func60.trans (congrArg some (by kernel_rfl))
  f318 := Tryd.func62.trans (congrArg some (by kernel_rfl))
  f319 := Tryd.func63.trans (congrArg some (by kernel_rfl))
  f320 := Tryd.func64.trans (congrArg some (by kernel_rfl))
  f337 := Tryd.func68.trans (congrArg some (by kernel_rfl))
  f338 := Tryd.func69.trans (congrArg some (by kernel_rfl))
  t0 := by kernel_rfl
  a0 := fun w => by kernel_rfl
  z0 := fun w => by kernel_rfl
  v0 := fun w => by kernel_rfl
  t2 := by kernel_rfl
  a2 := fun w => by kernel_rfl
  z2 := fun w => by kernel_rfl
  v2 := fun w => by kernel_rfl
  t3 := by kernel_rfl
  a3 := fun w => by kernel_rfl
  z3 := fun w => by kernel_rfl
  v3 := fun w => by kernel_rfl
  t4 := by kernel_rfl
  a4 := fun w => by kernel_rfl
  z4 := fun w => by kernel_rfl
  v4 := fun w => by kernel_rfl
  t5 := by kernel_rfl
  a5 := fun w => by kernel_rfl
  z5 := fun w => by kernel_rfl
  v5 := fun w => by kernel_rfl
  t9 := by kernel_rfl
  a9 := fun w => by kernel_rfl
  z9 := fun w => by kernel_rfl
  v9 := fun w => by kernel_rfl
  t20 := by kernel_rfl
  a20 := fun w => by kernel_rfl
  z20 := fun w => by kernel_rfl
  v20 := fun w => by kernel_rfl
  t37 := by kernel_rfl
  a37 := fun w => by kernel_rfl
  z37 := fun w => by kernel_rfl
  v37 := fun w => by kernel_rfl
  t46 := by kernel_rfl
  a46 := fun w => by kernel_rfl
  z46 := fun w => by kernel_rfl
  v46 := fun w => by kernel_rfl
  t51 := by kernel_rfl
  a51 := fun w => by kernel_rfl
  z51 := fun w => by kernel_rfl
  v51 := fun w => by kernel_rfl
  t53 := by kernel_rfl
  a53 := fun w => by kernel_rfl
  z53 := fun w => by kernel_rfl
  v53 := fun w => by kernel_rfl
  t171 := by kernel_rfl
  a171 := fun w => by kernel_rfl
  z171 := fun w => by kernel_rfl
  v171 := fun w => by kernel_rfl
  t173 := by kernel_rfl
  a173 := fun w => by kernel_rfl
  z173 := fun w => by kernel_rfl
  v173 := fun w => by kernel_rfl
  t212 := by kernel_rfl
  a212 := fun w => by kernel_rfl
  z212 := fun w => by kernel_rfl
  v212 := fun w => by kernel_rfl
  t213 := by kernel_rfl
  a213 := fun w => by kernel_rfl
  z213 := fun w => by kernel_rfl
  t232 := by kernel_rfl
  a232 := fun w => by kernel_rfl
  z232 := fun w => by kernel_rfl
  v232 := fun w => by kernel_rfl
  t233 := by kernel_rfl
  a233 := fun w => by kernel_rfl
  z233 := fun w => by kernel_rfl
  v233 := fun w => by kernel_rfl
  g17 := by kernel_rfl
  g18 := by kernel_rfl
  g19 := by kernel_rfl
set_option maxRecDepth 100000 in
theorem laysM_n173 : LaysM.n173 Tryd.prog rn where
  ton173 := lays_n173
  i0 := by kernel_rfl
  i2 := by kernel_rfl
  i3 := by kernel_rfl
  i4 := by kernel_rfl
  i5 := by kernel_rfl
  i9 := by kernel_rfl
  i20 := by kernel_rfl
  i37 := by kernel_rfl
  i46 := by kernel_rfl
  i51 := by kernel_rfl
  i53 := by kernel_rfl
  i171 := by kernel_rfl
  i173 := by kernel_rfl
  i212 := by kernel_rfl
  i232 := by kernel_rfl
  i233 := by kernel_rfl
  m17 := by kernel_rfl
  m18 := by kernel_rfl
  m19 := by kernel_rfl

end Go.Proofs.YtpodpahipapbaaaDoor
