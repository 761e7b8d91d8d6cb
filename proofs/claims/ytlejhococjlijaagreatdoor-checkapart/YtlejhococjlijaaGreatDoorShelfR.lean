/- That the program bears the texts of the library functions that are called: the numbers by their names, each text held against the library's by the kernel. -/
import Derived.Test.YtlejhococjlijaaGreatDoorRows
import Derived.Shelf.Strings.OnBuilder
namespace Go.Proofs.YtlejhococjlijaaGreatDoor.Rv
open Go.Shelf
set_option linter.unusedVariables false

def rnF : Nat → Nat
  | 0 => 0
  | 1 => 1
  | 2 => 2
  | 109 => 90
  | 110 => 74
  | 112 => 60
  | 125 => 94
  | 128 => 107
  | 129 => 108
  | 164 => 89
  | 189 => 83
  | 197 => 96
  | 215 => 117
  | 216 => 104
  | 239 => 97
  | 257 => 93
  | 260 => 109
  | 274 => 110
  | 275 => 111
  | 294 => 98
  | 295 => 99
  | 296 => 100
  | 297 => 101
  | 298 => 102
  | 299 => 103
  | 300 => 105
  | 301 => 106
  | 328 => 112
  | 329 => 113
  | 330 => 114
  | 331 => 115
  | 332 => 116
  | 343 => 118
  | 347 => 119
  | 348 => 120
  | 349 => 121
  | 350 => 122
  | 351 => 123
  | 352 => 124
  | 353 => 125
  | 354 => 126
  | 355 => 127
  | 356 => 128
  | 357 => 129
  | 358 => 130
  | 359 => 131
  | 360 => 132
  | 361 => 133
  | 366 => 135
  | 367 => 144
  | _ => 0
def rnT : Nat → Nat
  | 0 => 0
  | 1 => 1
  | 2 => 2
  | 3 => 3
  | 4 => 4
  | 5 => 5
  | 6 => 6
  | 7 => 7
  | 8 => 8
  | 9 => 9
  | 10 => 10
  | 11 => 11
  | 12 => 12
  | 13 => 13
  | 14 => 14
  | 15 => 15
  | 16 => 16
  | 17 => 17
  | 18 => 18
  | 19 => 19
  | 20 => 20
  | 21 => 21
  | 22 => 108
  | 28 => 49
  | 31 => 57
  | 32 => 110
  | 33 => 103
  | 34 => 75
  | 35 => 96
  | 40 => 101
  | 41 => 107
  | 43 => 64
  | 46 => 116
  | 47 => 115
  | 49 => 132
  | 51 => 129
  | 52 => 128
  | 53 => 131
  | 54 => 130
  | 80 => 159
  | 81 => 165
  | 104 => 83
  | 105 => 117
  | 106 => 118
  | 107 => 119
  | 111 => 147
  | 112 => 125
  | 119 => 148
  | 127 => 169
  | 131 => 85
  | 134 => 114
  | 137 => 149
  | 138 => 150
  | 139 => 151
  | 156 => 133
  | 157 => 134
  | 158 => 135
  | 159 => 136
  | 160 => 137
  | 161 => 138
  | 162 => 139
  | 163 => 140
  | 164 => 174
  | 181 => 120
  | 182 => 121
  | 183 => 122
  | 184 => 123
  | 185 => 124
  | 186 => 126
  | 187 => 127
  | 205 => 152
  | 206 => 153
  | 207 => 154
  | 208 => 155
  | 218 => 141
  | 219 => 142
  | 220 => 143
  | 221 => 144
  | 222 => 145
  | 223 => 146
  | 228 => 156
  | 229 => 157
  | 230 => 158
  | 238 => 160
  | 239 => 161
  | 240 => 162
  | 241 => 163
  | 242 => 164
  | 243 => 166
  | 244 => 167
  | 245 => 168
  | 246 => 170
  | 247 => 171
  | 248 => 172
  | 249 => 173
  | _ => 0
def rnG : Nat → Nat
  | 3 => 4
  | 4 => 5
  | 11 => 1
  | 12 => 2
  | 13 => 3
  | _ => 0
def rn : Ren := ⟨rnF, rnT, rnG⟩
set_option maxRecDepth 100000 in
theorem lays_n112 : Lays.n112 Tryz.prog rn where
  mixed := by kernel_rfl
  f112 := Tryz.func60.trans (congrArg some (by kernel_rfl))
  t0 := by kernel_rfl
  a0 := fun w => by kernel_rfl
  z0 := fun w => by kernel_rfl
  v0 := fun w => by kernel_rfl
  t3 := by kernel_rfl
  a3 := fun w => by kernel_rfl
  z3 := fun w => by kernel_rfl
  v3 := fun w => by kernel_rfl
  t4 := by kernel_rfl
  a4 := fun w => by kernel_rfl
  z4 := fun w => by kernel_rfl
  v4 := fun w => by kernel_rfl
  t28 := by kernel_rfl
  a28 := fun w => by kernel_rfl
  z28 := fun w => by kernel_rfl
  v28 := fun w => by kernel_rfl

end Go.Proofs.YtlejhococjlijaaGreatDoor.Rv
