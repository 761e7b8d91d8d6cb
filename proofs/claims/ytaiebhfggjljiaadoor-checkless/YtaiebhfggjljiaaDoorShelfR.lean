/- That the program bears the texts of the library functions that are called: the numbers by their names, each text held against the library's by the kernel. -/
import Derived.Test.YtaiebhfggjljiaaDoorRows
import Derived.Shelf.Strings.OnBuilder
namespace Go.Proofs.YtaiebhfggjljiaaDoor.Rv
open Go.Shelf
set_option linter.unusedVariables false

def rnF : Nat → Nat
  | 0 => 0
  | 1 => 1
  | 2 => 2
  | 109 => 71
  | 110 => 58
  | 112 => 48
  | 125 => 75
  | 128 => 87
  | 129 => 88
  | 164 => 70
  | 189 => 67
  | 197 => 76
  | 215 => 97
  | 216 => 84
  | 239 => 77
  | 257 => 74
  | 260 => 89
  | 274 => 90
  | 275 => 91
  | 294 => 78
  | 295 => 79
  | 296 => 80
  | 297 => 81
  | 298 => 82
  | 299 => 83
  | 300 => 85
  | 301 => 86
  | 328 => 92
  | 329 => 93
  | 330 => 94
  | 331 => 95
  | 332 => 96
  | 343 => 98
  | 347 => 99
  | 348 => 100
  | 349 => 101
  | 350 => 102
  | 351 => 103
  | 352 => 104
  | 353 => 105
  | 354 => 106
  | 355 => 107
  | 356 => 108
  | 357 => 109
  | 358 => 110
  | 359 => 111
  | 360 => 112
  | 361 => 113
  | 366 => 115
  | 367 => 124
  | _ => 0
def rnT : Nat → Nat
  | 0 => 0
  | 1 => 1
  | 2 => 2
  | 3 => 3
  | 4 => 4
  | 5 => 5
  | 6 => 6
  | 7 => 7
  | 8 => 8
  | 9 => 9
  | 10 => 10
  | 11 => 11
  | 12 => 12
  | 13 => 13
  | 14 => 14
  | 15 => 15
  | 16 => 16
  | 17 => 17
  | 18 => 18
  | 19 => 19
  | 20 => 20
  | 21 => 21
  | 22 => 95
  | 28 => 48
  | 31 => 40
  | 32 => 96
  | 33 => 90
  | 35 => 84
  | 40 => 88
  | 46 => 102
  | 47 => 101
  | 49 => 118
  | 51 => 115
  | 52 => 114
  | 53 => 117
  | 54 => 116
  | 80 => 145
  | 81 => 151
  | 104 => 70
  | 105 => 103
  | 106 => 104
  | 107 => 105
  | 111 => 133
  | 112 => 111
  | 119 => 134
  | 127 => 155
  | 131 => 72
  | 134 => 100
  | 137 => 135
  | 138 => 136
  | 139 => 137
  | 156 => 119
  | 157 => 120
  | 158 => 121
  | 159 => 122
  | 160 => 123
  | 161 => 124
  | 162 => 125
  | 163 => 126
  | 164 => 160
  | 181 => 106
  | 182 => 107
  | 183 => 108
  | 184 => 109
  | 185 => 110
  | 186 => 112
  | 187 => 113
  | 205 => 138
  | 206 => 139
  | 207 => 140
  | 208 => 141
  | 218 => 127
  | 219 => 128
  | 220 => 129
  | 221 => 130
  | 222 => 131
  | 223 => 132
  | 228 => 142
  | 229 => 143
  | 230 => 144
  | 238 => 146
  | 239 => 147
  | 240 => 148
  | 241 => 149
  | 242 => 150
  | 243 => 152
  | 244 => 153
  | 245 => 154
  | 246 => 156
  | 247 => 157
  | 248 => 158
  | 249 => 159
  | _ => 0
def rnG : Nat → Nat
  | 3 => 4
  | 4 => 5
  | 11 => 1
  | 12 => 2
  | 13 => 3
  | _ => 0
def rn : Ren := ⟨rnF, rnT, rnG⟩
set_option maxRecDepth 100000 in
theorem lays_n112 : Lays.n112 Tryd.prog rn where
  mixed := by kernel_rfl
  f112 := Tryd.func48.trans (congrArg some (by kernel_rfl))
  t0 := by kernel_rfl
  a0 := fun w => by kernel_rfl
  z0 := fun w => by kernel_rfl
  v0 := fun w => by kernel_rfl
  t3 := by kernel_rfl
  a3 := fun w => by kernel_rfl
  z3 := fun w => by kernel_rfl
  v3 := fun w => by kernel_rfl
  t4 := by kernel_rfl
  a4 := fun w => by kernel_rfl
  z4 := fun w => by kernel_rfl
  v4 := fun w => by kernel_rfl
  t28 := by kernel_rfl
  a28 := fun w => by kernel_rfl
  z28 := fun w => by kernel_rfl
  v28 := fun w => by kernel_rfl

end Go.Proofs.YtaiebhfggjljiaaDoor.Rv
